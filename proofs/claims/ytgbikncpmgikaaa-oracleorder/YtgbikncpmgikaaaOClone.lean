/- slices.Clone of numbers, open files, processes: nil of nil; else a new row with the same cells; nothing old turns. (Written by gen_oclone.py.) -/
import Derived.Test.YtgbikncpmgikaaaOAwake
import Derived.Laws.AppendOwn
import Derived.Laws.AppendOwnNone
namespace Go.Proofs.Ytgbikncpmgikaaa
open Go.RowKit
set_option linter.unusedVariables false
set_option maxRecDepth 20000

theorem infoI : (Try.prog.info? 3).map (fun i => (i.zero, i.size, i.bytes)) = some (some (.int .i64 0), 1, 8) := by kernel_rfl
theorem infoO : (Try.prog.info? 30).map (fun i => (i.zero, i.size, i.bytes)) = some (some (.agg #[.int .i64 0, .int .i64 0, .int .i64 0, .int .i64 0, .int .i64 0, .int .i64 0]), 6, 48) := by kernel_rfl
theorem infoQ : (Try.prog.info? 34).map (fun i => (i.zero, i.size, i.bytes)) = some (some (.agg #[.int .i64 0, .int .i64 0, .int .i64 0, .int .i64 0, .int .i64 0, .int .i64 0, .int .i64 0, .int .i64 0, .int .i64 0, .int .i64 0]), 10, 80) := by kernel_rfl

theorem iclone_nil (len cap : Nat) (w : World) :
    Calls Try.prog 4 #[.slice none len cap] w fun e w' => e = .returned (.slice none 0 0) ∧ w' = w := by
  have hq := Lib.run_eql_slice_nil (P := Try.prog) w 23 3 none len cap 0 0 Try.underlying23
  simp only [Option.isNone_none] at hq
  go_enter Try.func4, Try.ntmps4
  go_wp2_with fail
  go_ret
  exact ⟨rfl, rfl⟩

set_option maxHeartbeats 1000000 in
theorem iclone_any (a : Addr) (len cap : Nat) (cs : List Value) (w : World) (hl : cs.length = len * 1) (h1 : ∀ u ∈ cs, u.oneCell' = true) (hc : ∀ j u, cs[j]? = some u → ∃ b o, a = ⟨b, o, none⟩ ∧ b < w.heap.size ∧ w.cell? ⟨b, o + j, none⟩ = some u) (hr : len ≤ 17592186044416) :
    Calls Try.prog 4 #[.slice (some a) len cap] w fun e w' => ∃ g c, e = .returned (.slice (some ⟨g, 0, none⟩) len c) ∧ w'.ownsRow w.heap.size 3 1 (.slice (some ⟨g, 0, none⟩) len c) len cs ∧ Below w.heap.size w w' := by
  obtain ⟨i0, hi, hz0, hz1, hz2⟩ := info_parts infoI
  have hb0 : Below w.heap.size w (w.alloc (.cells #[] 3)) := (Below.refl _ _).alloc (Nat.le_refl _) _
  have HL : Hid (cs.length = len * 1) := hid hl
  have H1 := hid h1
  have HN : Hid (∀ j u, cs[j]? = some u → (w.alloc (.cells #[] 3)).cell? (a.add j) = some u) := by
    intro j u hj
    obtain ⟨b, o, rfl, hlt, hcc⟩ := hc j u hj
    rw [Addr.add_lit, hb0.cell (p := ⟨b, o + j, none⟩) hlt, hcc]
  have HO : Hid ((w.alloc (.cells #[] 3)).ownsRow w.heap.size 3 1 (.slice (some ⟨w.heap.size, 0, none⟩) 0 0) 0 []) := World.ownsRow_made w #[] 0 (Nat.le_refl _) (by unfold maxLen; omega) rfl
  have HB := hid hb0
  clear hb0 hl h1 hc
  have hq := Lib.run_eql_slice_nil (P := Try.prog) w 23 3 (some a) len cap 0 0 Try.underlying23
  simp only [Option.isNone_some] at hq
  go_enter Try.func4, Try.ntmps4
  go_wp2_with (at_builtin; go_must (refine wpList_append_own _ rfl (.tmp 5) (.tmp 6) 23 rfl w.heap.size 3 i0 _ 1 8 Try.underlying23 hi hz0 hz1 hz2 rfl (by decide) (.slice (some ⟨w.heap.size, 0, none⟩) 0 0) 0 [] rfl HO.out a len cap cs rfl HL.out HN.out H1.out (by unfold maxLen; omega) (by omega) (by simp) ?_))
  intro v' w1 hown hgrow hnil
  have hb1 := HB.out.grown hgrow (by simp) (by intro q hq; simp [Value.ownBlock] at hq; omega)
  obtain ⟨g, c, rfl⟩ : ∃ g c, v' = .slice (some ⟨g, 0, none⟩) len c := by
    rcases hown.2 with ⟨h, _⟩ | ⟨g, c, _, h, _⟩
    · exact absurd h (by simpa using hnil)
    · exact ⟨g, c, h⟩
  have H2 := hid hown
  clear hown hgrow hnil
  go_wp2_with fail
  go_ret
  exact ⟨g, c, rfl, H2.out, hb1⟩

theorem oclone_nil (len cap : Nat) (w : World) :
    Calls Try.prog 5 #[.slice none len cap] w fun e w' => e = .returned (.slice none 0 0) ∧ w' = w := by
  have hq := Lib.run_eql_slice_nil (P := Try.prog) w 25 30 none len cap 0 0 Try.underlying25
  simp only [Option.isNone_none] at hq
  go_enter Try.func5, Try.ntmps5
  go_wp2_with fail
  go_ret
  exact ⟨rfl, rfl⟩

set_option maxHeartbeats 1000000 in
theorem oclone_any (a : Addr) (len cap : Nat) (cs : List Value) (w : World) (hl : cs.length = len * 6) (h1 : ∀ u ∈ cs, u.oneCell' = true) (hc : ∀ j u, cs[j]? = some u → ∃ b o, a = ⟨b, o, none⟩ ∧ b < w.heap.size ∧ w.cell? ⟨b, o + j, none⟩ = some u) (hr : len ≤ 2932031007402) :
    Calls Try.prog 5 #[.slice (some a) len cap] w fun e w' => ∃ g c, e = .returned (.slice (some ⟨g, 0, none⟩) len c) ∧ w'.ownsRow w.heap.size 30 6 (.slice (some ⟨g, 0, none⟩) len c) len cs ∧ Below w.heap.size w w' := by
  obtain ⟨i0, hi, hz0, hz1, hz2⟩ := info_parts infoO
  have hb0 : Below w.heap.size w (w.alloc (.cells #[] 30)) := (Below.refl _ _).alloc (Nat.le_refl _) _
  have HL : Hid (cs.length = len * 6) := hid hl
  have H1 := hid h1
  have HN : Hid (∀ j u, cs[j]? = some u → (w.alloc (.cells #[] 30)).cell? (a.add j) = some u) := by
    intro j u hj
    obtain ⟨b, o, rfl, hlt, hcc⟩ := hc j u hj
    rw [Addr.add_lit, hb0.cell (p := ⟨b, o + j, none⟩) hlt, hcc]
  have HO : Hid ((w.alloc (.cells #[] 30)).ownsRow w.heap.size 30 6 (.slice (some ⟨w.heap.size, 0, none⟩) 0 0) 0 []) := World.ownsRow_made w #[] 0 (Nat.le_refl _) (by unfold maxLen; omega) rfl
  have HB := hid hb0
  clear hb0 hl h1 hc
  have hq := Lib.run_eql_slice_nil (P := Try.prog) w 25 30 (some a) len cap 0 0 Try.underlying25
  simp only [Option.isNone_some] at hq
  go_enter Try.func5, Try.ntmps5
  go_wp2_with (at_builtin; go_must (refine wpList_append_own _ rfl (.tmp 5) (.tmp 6) 25 rfl w.heap.size 30 i0 _ 6 48 Try.underlying25 hi hz0 hz1 hz2 rfl (by decide) (.slice (some ⟨w.heap.size, 0, none⟩) 0 0) 0 [] rfl HO.out a len cap cs rfl HL.out HN.out H1.out (by unfold maxLen; omega) (by omega) (by simp) ?_))
  intro v' w1 hown hgrow hnil
  have hb1 := HB.out.grown hgrow (by simp) (by intro q hq; simp [Value.ownBlock] at hq; omega)
  obtain ⟨g, c, rfl⟩ : ∃ g c, v' = .slice (some ⟨g, 0, none⟩) len c := by
    rcases hown.2 with ⟨h, _⟩ | ⟨g, c, _, h, _⟩
    · exact absurd h (by simpa using hnil)
    · exact ⟨g, c, h⟩
  have H2 := hid hown
  clear hown hgrow hnil
  go_wp2_with fail
  go_ret
  exact ⟨g, c, rfl, H2.out, hb1⟩

theorem qclone_nil (len cap : Nat) (w : World) :
    Calls Try.prog 6 #[.slice none len cap] w fun e w' => e = .returned (.slice none 0 0) ∧ w' = w := by
  have hq := Lib.run_eql_slice_nil (P := Try.prog) w 26 34 none len cap 0 0 Try.underlying26
  simp only [Option.isNone_none] at hq
  go_enter Try.func6, Try.ntmps6
  go_wp2_with fail
  go_ret
  exact ⟨rfl, rfl⟩

set_option maxHeartbeats 1000000 in
theorem qclone_any (a : Addr) (len cap : Nat) (cs : List Value) (w : World) (hl : cs.length = len * 10) (h1 : ∀ u ∈ cs, u.oneCell' = true) (hc : ∀ j u, cs[j]? = some u → ∃ b o, a = ⟨b, o, none⟩ ∧ b < w.heap.size ∧ w.cell? ⟨b, o + j, none⟩ = some u) (hr : len ≤ 1759218604441) :
    Calls Try.prog 6 #[.slice (some a) len cap] w fun e w' => ∃ g c, e = .returned (.slice (some ⟨g, 0, none⟩) len c) ∧ w'.ownsRow w.heap.size 34 10 (.slice (some ⟨g, 0, none⟩) len c) len cs ∧ Below w.heap.size w w' := by
  obtain ⟨i0, hi, hz0, hz1, hz2⟩ := info_parts infoQ
  have hb0 : Below w.heap.size w (w.alloc (.cells #[] 34)) := (Below.refl _ _).alloc (Nat.le_refl _) _
  have HL : Hid (cs.length = len * 10) := hid hl
  have H1 := hid h1
  have HN : Hid (∀ j u, cs[j]? = some u → (w.alloc (.cells #[] 34)).cell? (a.add j) = some u) := by
    intro j u hj
    obtain ⟨b, o, rfl, hlt, hcc⟩ := hc j u hj
    rw [Addr.add_lit, hb0.cell (p := ⟨b, o + j, none⟩) hlt, hcc]
  have HO : Hid ((w.alloc (.cells #[] 34)).ownsRow w.heap.size 34 10 (.slice (some ⟨w.heap.size, 0, none⟩) 0 0) 0 []) := World.ownsRow_made w #[] 0 (Nat.le_refl _) (by unfold maxLen; omega) rfl
  have HB := hid hb0
  clear hb0 hl h1 hc
  have hq := Lib.run_eql_slice_nil (P := Try.prog) w 26 34 (some a) len cap 0 0 Try.underlying26
  simp only [Option.isNone_some] at hq
  go_enter Try.func6, Try.ntmps6
  go_wp2_with (at_builtin; go_must (refine wpList_append_own _ rfl (.tmp 5) (.tmp 6) 26 rfl w.heap.size 34 i0 _ 10 80 Try.underlying26 hi hz0 hz1 hz2 rfl (by decide) (.slice (some ⟨w.heap.size, 0, none⟩) 0 0) 0 [] rfl HO.out a len cap cs rfl HL.out HN.out H1.out (by unfold maxLen; omega) (by omega) (by simp) ?_))
  intro v' w1 hown hgrow hnil
  have hb1 := HB.out.grown hgrow (by simp) (by intro q hq; simp [Value.ownBlock] at hq; omega)
  obtain ⟨g, c, rfl⟩ : ∃ g c, v' = .slice (some ⟨g, 0, none⟩) len c := by
    rcases hown.2 with ⟨h, _⟩ | ⟨g, c, _, h, _⟩
    · exact absurd h (by simpa using hnil)
    · exact ⟨g, c, h⟩
  have H2 := hid hown
  clear hown hgrow hnil
  go_wp2_with fail
  go_ret
  exact ⟨g, c, rfl, H2.out, hb1⟩

end Go.Proofs.Ytgbikncpmgikaaa
