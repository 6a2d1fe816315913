/- What the document's own, there and Barrier do. -/
import Derived.Test.YtcophmafkpbdaaaQPic2
import Derived.Test.YtcophmafkpbdaaaClone
namespace Go.Proofs.Ytcophmafkpbdaaa
open Go.RowKit
set_option linter.unusedVariables false

/-- Bytes in memory of their own: a new row with the same bytes. -/
theorem own_any (a : Addr) (len cap : Nat) (zs : List Int) (w : World) (hs : Src w (some a) len zs) (hr : len ≤ 140737488355328) :
    Calls Try.prog 27 #[.slice (some a) len cap] w fun e w' => ∃ g c, e = .returned (.slice (some ⟨g, 0, none⟩) len c) ∧
      w'.ownsRow w.heap.size 5 1 (.slice (some ⟨g, 0, none⟩) len c) len (zs.map (Value.int .u8)) ∧ Below w.heap.size w w' := by
  obtain ⟨i0, hi, hz0, hz1, hz2⟩ := info_parts Try.cinfo5
  have hb0 : Below w.heap.size w (w.alloc (.cells #[] 5)) := (Below.refl _ _).alloc (Nat.le_refl _) _
  obtain ⟨cs, hcs⟩ : ∃ cs, cs = zs.map (Value.int .u8) := ⟨_, rfl⟩
  have HL : Hid (cs.length = len * 1) := by show _ = _; rw [hcs]; simp [hs.1]
  have H1 : Hid (∀ u ∈ cs, u.oneCell' = true) := by rw [hcs]; exact ints_oneCell _ _
  have HN : Hid (∀ j u, cs[j]? = some u → (w.alloc (.cells #[] 5)).cell? (a.add j) = some u) := by
    intro j u hj
    have hjl : j < cs.length := (List.getElem?_eq_some_iff.1 hj).1
    have hl : cs.length = len := by rw [hcs]; simp [hs.1]
    obtain ⟨b, o, e, hlt, hc⟩ := hs.2 (by omega)
    obtain rfl := Option.some.inj e
    rw [Addr.add_lit, hb0.cell (p := ⟨b, o + j, none⟩) hlt, hc j (by omega), ← hj, hcs]
    simp [List.getD, List.getElem?_eq_getElem (show j < zs.length by have := hs.1; omega)]
  have HO : Hid ((w.alloc (.cells #[] 5)).ownsRow w.heap.size 5 1 (.slice (some ⟨w.heap.size, 0, none⟩) 0 0) 0 []) := World.ownsRow_made w #[] 0 (Nat.le_refl _) (by unfold maxLen; omega) rfl
  have HC := hid hcs
  have HB := hid hb0
  clear hcs hb0 hs
  go_enter Try.func27, Try.ntmps27
  go_wp2_with (at_builtin; go_must (refine wpList_append_own _ rfl (.tmp 3) (.tmp 4) 35 rfl w.heap.size 5 i0 (.int .u8 0) 1 1 Try.underlying35 hi hz0 hz1 hz2 rfl (by decide) (.slice (some ⟨w.heap.size, 0, none⟩) 0 0) 0 [] rfl HO.out a len cap cs rfl HL.out HN.out H1.out (by unfold maxLen; omega) (by omega) (by simp) ?_))
  intro v' w1 hown hgrow hnil
  rw [HC.out] at hown
  have hb1 := HB.out.grown hgrow (by simp) (by intro q hq; simp [Value.ownBlock] at hq; omega)
  obtain ⟨g, c, rfl⟩ : ∃ g c, v' = .slice (some ⟨g, 0, none⟩) len c := by
    rcases hown.2 with ⟨h, _⟩ | ⟨g, c, _, h, _⟩
    · exact absurd h (by simpa using hnil)
    · exact ⟨g, c, h⟩
  have H1 := hid hown
  clear hown hgrow hnil
  go_wp2_with fail
  go_ret
  exact ⟨g, c, rfl, H1.out, hb1⟩

theorem rthere (p n : Nat) (a : Option Addr) (c : Nat) (i : Int) (w : World) (h0 : w.cell? ⟨p, 0, none⟩ = some (.slice a n c)) :
    Calls Try.prog 50 #[.pointer (some ⟨p, 0, none⟩), .int .i64 i] w fun e w' => e = .returned (.bool (decide (0 ≤ i ∧ i < n))) ∧ w' = w := by
  by_cases h : 0 ≤ i
  · go_enter Try.func50, Try.ntmps50
    go_wp2_with fail
    go_ret
    refine ⟨?_, rfl⟩
    simp [h]
  · go_enter Try.func50, Try.ntmps50
    go_wp2_with fail
    go_ret
    refine ⟨?_, rfl⟩
    have h1 : decide ((0 : Int) ≤ i) = false := decide_eq_false (by omega)
    simp [h1]

end Go.Proofs.Ytcophmafkpbdaaa
