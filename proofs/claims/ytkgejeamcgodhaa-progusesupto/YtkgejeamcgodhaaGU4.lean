/- The program's Uses. -/
import Derived.Test.YtkgejeamcgodhaaGU3
namespace Go.Proofs.Ytkgejeamcgodhaa
open Go.RowKit
set_option linter.unusedVariables false
set_option maxRecDepth 20000

/-- The arguments of a step of a program. -/
def StepAt (d : Nat) (w : World) (a : Option Addr) (i : Nat) (ra : Option Addr) (rn rc : Nat) (qs : List Ar) : Prop :=
  ∃ b o, a = some ⟨b, o, none⟩ ∧ b < w.heap.size ∧ w.cell? ⟨b, o + i * 2 + 1, none⟩ = some (.slice ra rn rc) ∧ Krow d w ra qs ∧ qs.length = rn ∧ rn ≤ rc ∧ rc ≤ 9223372036854775807 ∧ cntL d qs ≤ 1048576
theorem StepAt.below {d : Nat} {w w' : World} {a : Option Addr} {i : Nat} {ra : Option Addr} {rn rc : Nat} {qs : List Ar} (h : StepAt d w a i ra rn rc qs) (hb : Below w.heap.size w w') : StepAt d w' a i ra rn rc qs := by
  obtain ⟨b, o, e, hl, hc, hK, r⟩ := h
  exact ⟨b, o, e, Nat.lt_of_lt_of_le hl hb.size, (hb.cell (p := ⟨b, o + i * 2 + 1, none⟩) hl).trans hc, hK.below hb, r⟩

theorem puses_out (a : Option Addr) (n c : Nat) (i : Int) (w : World) (h : i < 0 ∨ (n : Int) ≤ i) :
    Calls Try.prog 21 #[.slice a n c, .int .i64 i] w fun e w' => e = .returned (.slice none 0 0) ∧ w' = w := by
  by_cases h0 : i < 0
  · clear h
    go_enter Try.func21, Try.ntmps21
    go_wp2_with fail
    go_ret
    exact ⟨rfl, rfl⟩
  · have h1 : (n : Int) ≤ i := by omega
    clear h
    go_enter Try.func21, Try.ntmps21
    go_wp2_with fail
    go_ret
    exact ⟨rfl, rfl⟩

set_option maxHeartbeats 4000000 in
theorem puses_any (a : Option Addr) (n c i : Nat) (d : Nat) (ra : Option Addr) (rn rc : Nat) (qs : List Ar) (w : World) (hi : i < n) (hn : n ≤ 9223372036854775807) (h : StepAt d w a i ra rn rc qs) :
    Calls Try.prog 21 #[.slice a n c, .int .i64 i] w fun e w' => ∃ a' n' c', e = .returned (.slice a' n' c') ∧ Ilst w' a' n' c' (riseP (refsL d qs)) ∧ Below w.heap.size w w' := by
  obtain ⟨b, o, rfl, hbl, hc, hK, hrn, hrc, hrb, hcn⟩ := h
  obtain ⟨X, gX⟩ : ∃ X, w.alloc (.cells #[.slice none 0 0] 44) = X := ⟨_, rfl⟩
  have hBX : Below w.heap.size w X := by rw [← gX]; exact below_box w _
  have hAX : Acc X w.heap.size (.slice none 0 0) [] := ⟨by rw [← gX]; exact heap_alloc_new _ _, World.ownsRow_nil _ _ _ _⟩
  have k1 := hid (through0 w w.heap.size (Nat.le_refl _) d ra rn rc qs X (.slice none 0 0) [] hBX hAX hK hrn hrc hrb (by simp; omega))
  have hlen := refsL_le d qs
  have GX := hid gX
  have HBX := hid hBX
  have hs0 : w.heap.size < X.heap.size := (Array.getElem?_eq_some_iff.1 hAX.blk).1
  have hi1 : ¬ (i : Int) < 0 := by omega
  have hi2 : ¬ (n : Int) ≤ (i : Int) := by omega
  clear hK gX hBX hAX
  go_enter Try.func21, Try.ntmps21
  go_wp2_with fail
  rw [GX.out]
  refine k1.out.mono ?_
  rintro e w1 ⟨rfl, kv, hA1, hu1, _⟩
  rw [List.nil_append] at hA1
  have hB1 : Below w.heap.size w w1 := HBX.out.trans (hu1.below (Nat.le_of_lt hs0) (fun x hx => by
    rcases hx with e | e
    · omega
    · simp [Value.ownBlock] at e))
  obtain ⟨a1, c1, rfl, hW1⟩ := own_wlst hA1.own
  have c0 : w1.cell? ⟨w.heap.size, 0, none⟩ = some (.slice a1 (refsL d qs).length c1) := by rw [cell_of_row _ _ 0 _ _ _ hA1.blk]; rfl
  have hp1 : w.heap.size < w1.heap.size := (Array.getElem?_eq_some_iff.1 hA1.blk).1
  have k2 := hid (sort_any (w.heap.size + 1) a1 (refsL d qs).length c1 (refsL d qs) w1 hW1 (by omega) (by omega))
  have HB1 := hid hB1
  clear k1 hA1 hu1 hW1 hB1
  generalize hL : refsL d qs = L at *
  go_wp2_with fail
  refine k2.out.mono ?_
  rintro e w2 ⟨rfl, hW2, hb2, _⟩
  have c2 : w2.cell? ⟨w.heap.size, 0, none⟩ = some (.slice a1 L.length c1) := (hb2.cell (p := ⟨w.heap.size, 0, none⟩) (Nat.lt_succ_self _)).trans c0
  have k3 := hid (compact_any (w.heap.size + 1) a1 L.length c1 _ w2 hW2 (by omega) (Nat.le_trans hp1 (by have := hb2.size; omega)))
  have HB2 := hid hb2
  clear k2 hb2 hW2 c0
  go_wp2_with fail
  refine k3.out.mono ?_
  rintro e w3 ⟨n', rfl, hW3, hb3⟩
  have HW3 := hid hW3
  have HB3 := hid hb3
  clear k3 hW3 hb3
  go_wp2_with fail
  go_ret
  exact ⟨a1, n', c1, rfl, by rw [hL]; exact HW3.out.ilst, (HB1.out.trans (HB2.out.mono (by omega))).trans (HB3.out.mono (by omega))⟩

end Go.Proofs.Ytkgejeamcgodhaa
