/- slices.Clone of arguments, steps and bytes: nil of nil; else a new row with the same cells; nothing old turns. (Written by gen_clone.py.) -/
import Derived.Test.YtkgejeamcgodhaaGLeast5
import Derived.Laws.AppendOwn
import Derived.Laws.AppendOwnNone
namespace Go.Proofs.Ytkgejeamcgodhaa
open Go.RowKit
set_option linter.unusedVariables false
set_option maxRecDepth 20000

theorem infoSt : (Try.prog.info? 73).map (fun i => (i.zero, i.size, i.bytes)) = some (some (.agg #[.int .i64 0, .slice none 0 0]), 2, 32) := by kernel_rfl
theorem infoBy : (Try.prog.info? 5).map (fun i => (i.zero, i.size, i.bytes)) = some (some (.int .u8 0), 1, 1) := by kernel_rfl

theorem aclone_nil (len cap : Nat) (w : World) :
    Calls Try.prog 73 #[.slice none len cap] w fun e w' => e = .returned (.slice none 0 0) ∧ w' = w := by
  have hq := Lib.run_eql_slice_nil (P := Try.prog) w 27 30 none len cap 0 0 Try.underlying27
  simp only [Option.isNone_none] at hq
  go_enter Try.func73, Try.ntmps73
  go_wp2_with fail
  go_ret
  exact ⟨rfl, rfl⟩

set_option maxHeartbeats 1000000 in
theorem aclone_any (a : Addr) (len cap : Nat) (cs : List Value) (w : World) (hl : cs.length = len * 4) (h1 : ∀ u ∈ cs, u.oneCell' = true) (hc : ∀ j u, cs[j]? = some u → ∃ b o, a = ⟨b, o, none⟩ ∧ b < w.heap.size ∧ w.cell? ⟨b, o + j, none⟩ = some u) (hr : len ≤ 2199023255552) :
    Calls Try.prog 73 #[.slice (some a) len cap] w fun e w' => ∃ g c, e = .returned (.slice (some ⟨g, 0, none⟩) len c) ∧ w'.ownsRow w.heap.size 30 4 (.slice (some ⟨g, 0, none⟩) len c) len cs ∧ Below w.heap.size w w' := by
  obtain ⟨i0, hi, hz0, hz1, hz2⟩ := info_parts infoA
  have hb0 : Below w.heap.size w (w.alloc (.cells #[] 30)) := (Below.refl _ _).alloc (Nat.le_refl _) _
  have HL : Hid (cs.length = len * 4) := hid hl
  have H1 := hid h1
  have HN : Hid (∀ j u, cs[j]? = some u → (w.alloc (.cells #[] 30)).cell? (a.add j) = some u) := by
    intro j u hj
    obtain ⟨b, o, rfl, hlt, hcc⟩ := hc j u hj
    rw [Addr.add_lit, hb0.cell (p := ⟨b, o + j, none⟩) hlt, hcc]
  have HO : Hid ((w.alloc (.cells #[] 30)).ownsRow w.heap.size 30 4 (.slice (some ⟨w.heap.size, 0, none⟩) 0 0) 0 []) := World.ownsRow_made w #[] 0 (Nat.le_refl _) (by unfold maxLen; omega) rfl
  have HB := hid hb0
  clear hb0 hl h1 hc
  have hq := Lib.run_eql_slice_nil (P := Try.prog) w 27 30 (some a) len cap 0 0 Try.underlying27
  simp only [Option.isNone_some] at hq
  go_enter Try.func73, Try.ntmps73
  go_wp2_with (at_builtin; go_must (refine wpList_append_own _ rfl (.tmp 5) (.tmp 6) 27 rfl w.heap.size 30 i0 _ 4 64 Try.underlying27 hi hz0 hz1 hz2 rfl (by decide) (.slice (some ⟨w.heap.size, 0, none⟩) 0 0) 0 [] rfl HO.out a len cap cs rfl HL.out HN.out H1.out (by unfold maxLen; omega) (by omega) (by simp) ?_))
  intro v' w1 hown hgrow hnil
  have hb1 := HB.out.grown hgrow (by simp) (by intro q hq; simp [Value.ownBlock] at hq; omega)
  obtain ⟨g, c, rfl⟩ : ∃ g c, v' = .slice (some ⟨g, 0, none⟩) len c := by
    rcases hown.2 with ⟨h, _⟩ | ⟨g, c, _, h, _⟩
    · exact absurd h (by simpa using hnil)
    · exact ⟨g, c, h⟩
  have H2 := hid hown
  clear hown hgrow hnil
  go_wp2_with fail
  go_ret
  exact ⟨g, c, rfl, H2.out, hb1⟩

theorem sclone_nil (len cap : Nat) (w : World) :
    Calls Try.prog 42 #[.slice none len cap] w fun e w' => e = .returned (.slice none 0 0) ∧ w' = w := by
  have hq := Lib.run_eql_slice_nil (P := Try.prog) w 40 73 none len cap 0 0 Try.underlying40
  simp only [Option.isNone_none] at hq
  go_enter Try.func42, Try.ntmps42
  go_wp2_with fail
  go_ret
  exact ⟨rfl, rfl⟩

set_option maxHeartbeats 1000000 in
theorem sclone_any (a : Addr) (len cap : Nat) (cs : List Value) (w : World) (hl : cs.length = len * 2) (h1 : ∀ u ∈ cs, u.oneCell' = true) (hc : ∀ j u, cs[j]? = some u → ∃ b o, a = ⟨b, o, none⟩ ∧ b < w.heap.size ∧ w.cell? ⟨b, o + j, none⟩ = some u) (hr : len ≤ 4398046511104) :
    Calls Try.prog 42 #[.slice (some a) len cap] w fun e w' => ∃ g c, e = .returned (.slice (some ⟨g, 0, none⟩) len c) ∧ w'.ownsRow w.heap.size 73 2 (.slice (some ⟨g, 0, none⟩) len c) len cs ∧ Below w.heap.size w w' := by
  obtain ⟨i0, hi, hz0, hz1, hz2⟩ := info_parts infoSt
  have hb0 : Below w.heap.size w (w.alloc (.cells #[] 73)) := (Below.refl _ _).alloc (Nat.le_refl _) _
  have HL : Hid (cs.length = len * 2) := hid hl
  have H1 := hid h1
  have HN : Hid (∀ j u, cs[j]? = some u → (w.alloc (.cells #[] 73)).cell? (a.add j) = some u) := by
    intro j u hj
    obtain ⟨b, o, rfl, hlt, hcc⟩ := hc j u hj
    rw [Addr.add_lit, hb0.cell (p := ⟨b, o + j, none⟩) hlt, hcc]
  have HO : Hid ((w.alloc (.cells #[] 73)).ownsRow w.heap.size 73 2 (.slice (some ⟨w.heap.size, 0, none⟩) 0 0) 0 []) := World.ownsRow_made w #[] 0 (Nat.le_refl _) (by unfold maxLen; omega) rfl
  have HB := hid hb0
  clear hb0 hl h1 hc
  have hq := Lib.run_eql_slice_nil (P := Try.prog) w 40 73 (some a) len cap 0 0 Try.underlying40
  simp only [Option.isNone_some] at hq
  go_enter Try.func42, Try.ntmps42
  go_wp2_with (at_builtin; go_must (refine wpList_append_own _ rfl (.tmp 5) (.tmp 6) 40 rfl w.heap.size 73 i0 _ 2 32 Try.underlying40 hi hz0 hz1 hz2 rfl (by decide) (.slice (some ⟨w.heap.size, 0, none⟩) 0 0) 0 [] rfl HO.out a len cap cs rfl HL.out HN.out H1.out (by unfold maxLen; omega) (by omega) (by simp) ?_))
  intro v' w1 hown hgrow hnil
  have hb1 := HB.out.grown hgrow (by simp) (by intro q hq; simp [Value.ownBlock] at hq; omega)
  obtain ⟨g, c, rfl⟩ : ∃ g c, v' = .slice (some ⟨g, 0, none⟩) len c := by
    rcases hown.2 with ⟨h, _⟩ | ⟨g, c, _, h, _⟩
    · exact absurd h (by simpa using hnil)
    · exact ⟨g, c, h⟩
  have H2 := hid hown
  clear hown hgrow hnil
  go_wp2_with fail
  go_ret
  exact ⟨g, c, rfl, H2.out, hb1⟩

theorem bsclone_nil (len cap : Nat) (w : World) :
    Calls Try.prog 75 #[.slice none len cap] w fun e w' => e = .returned (.slice none 0 0) ∧ w' = w := by
  have hq := Lib.run_eql_slice_nil (P := Try.prog) w 28 5 none len cap 0 0 Try.underlying28
  simp only [Option.isNone_none] at hq
  go_enter Try.func75, Try.ntmps75
  go_wp2_with fail
  go_ret
  exact ⟨rfl, rfl⟩

set_option maxHeartbeats 1000000 in
theorem bsclone_any (a : Addr) (len cap : Nat) (cs : List Value) (w : World) (hl : cs.length = len * 1) (h1 : ∀ u ∈ cs, u.oneCell' = true) (hc : ∀ j u, cs[j]? = some u → ∃ b o, a = ⟨b, o, none⟩ ∧ b < w.heap.size ∧ w.cell? ⟨b, o + j, none⟩ = some u) (hr : len ≤ 140737488355328) :
    Calls Try.prog 75 #[.slice (some a) len cap] w fun e w' => ∃ g c, e = .returned (.slice (some ⟨g, 0, none⟩) len c) ∧ w'.ownsRow w.heap.size 5 1 (.slice (some ⟨g, 0, none⟩) len c) len cs ∧ Below w.heap.size w w' := by
  obtain ⟨i0, hi, hz0, hz1, hz2⟩ := info_parts infoBy
  have hb0 : Below w.heap.size w (w.alloc (.cells #[] 5)) := (Below.refl _ _).alloc (Nat.le_refl _) _
  have HL : Hid (cs.length = len * 1) := hid hl
  have H1 := hid h1
  have HN : Hid (∀ j u, cs[j]? = some u → (w.alloc (.cells #[] 5)).cell? (a.add j) = some u) := by
    intro j u hj
    obtain ⟨b, o, rfl, hlt, hcc⟩ := hc j u hj
    rw [Addr.add_lit, hb0.cell (p := ⟨b, o + j, none⟩) hlt, hcc]
  have HO : Hid ((w.alloc (.cells #[] 5)).ownsRow w.heap.size 5 1 (.slice (some ⟨w.heap.size, 0, none⟩) 0 0) 0 []) := World.ownsRow_made w #[] 0 (Nat.le_refl _) (by unfold maxLen; omega) rfl
  have HB := hid hb0
  clear hb0 hl h1 hc
  have hq := Lib.run_eql_slice_nil (P := Try.prog) w 28 5 (some a) len cap 0 0 Try.underlying28
  simp only [Option.isNone_some] at hq
  go_enter Try.func75, Try.ntmps75
  go_wp2_with (at_builtin; go_must (refine wpList_append_own _ rfl (.tmp 5) (.tmp 6) 28 rfl w.heap.size 5 i0 _ 1 1 Try.underlying28 hi hz0 hz1 hz2 rfl (by decide) (.slice (some ⟨w.heap.size, 0, none⟩) 0 0) 0 [] rfl HO.out a len cap cs rfl HL.out HN.out H1.out (by unfold maxLen; omega) (by omega) (by simp) ?_))
  intro v' w1 hown hgrow hnil
  have hb1 := HB.out.grown hgrow (by simp) (by intro q hq; simp [Value.ownBlock] at hq; omega)
  obtain ⟨g, c, rfl⟩ : ∃ g c, v' = .slice (some ⟨g, 0, none⟩) len c := by
    rcases hown.2 with ⟨h, _⟩ | ⟨g, c, _, h, _⟩
    · exact absurd h (by simpa using hnil)
    · exact ⟨g, c, h⟩
  have H2 := hid hown
  clear hown hgrow hnil
  go_wp2_with fail
  go_ret
  exact ⟨g, c, rfl, H2.out, hb1⟩

theorem bclone_nil (len cap : Nat) (w : World) :
    Calls Try.prog 77 #[.slice none len cap] w fun e w' => e = .returned (.slice none 0 0) ∧ w' = w := by
  have hq := Lib.run_eql_slice_nil (P := Try.prog) w 28 5 none len cap 0 0 Try.underlying28
  simp only [Option.isNone_none] at hq
  go_enter Try.func77, Try.ntmps77
  go_wp2_with fail
  go_ret
  exact ⟨rfl, rfl⟩

set_option maxHeartbeats 1000000 in
theorem bclone_any (a : Addr) (len cap : Nat) (cs : List Value) (w : World) (hl : cs.length = len * 1) (h1 : ∀ u ∈ cs, u.oneCell' = true) (hc : ∀ j u, cs[j]? = some u → ∃ b o, a = ⟨b, o, none⟩ ∧ b < w.heap.size ∧ w.cell? ⟨b, o + j, none⟩ = some u) (hr : len ≤ 140737488355328) :
    Calls Try.prog 77 #[.slice (some a) len cap] w fun e w' => ∃ g c, e = .returned (.slice (some ⟨g, 0, none⟩) len c) ∧ w'.ownsRow w.heap.size 5 1 (.slice (some ⟨g, 0, none⟩) len c) len cs ∧ Below w.heap.size w w' := by
  obtain ⟨i0, hi, hz0, hz1, hz2⟩ := info_parts infoBy
  have hb0 : Below w.heap.size w (w.alloc (.cells #[] 5)) := (Below.refl _ _).alloc (Nat.le_refl _) _
  have HL : Hid (cs.length = len * 1) := hid hl
  have H1 := hid h1
  have HN : Hid (∀ j u, cs[j]? = some u → (w.alloc (.cells #[] 5)).cell? (a.add j) = some u) := by
    intro j u hj
    obtain ⟨b, o, rfl, hlt, hcc⟩ := hc j u hj
    rw [Addr.add_lit, hb0.cell (p := ⟨b, o + j, none⟩) hlt, hcc]
  have HO : Hid ((w.alloc (.cells #[] 5)).ownsRow w.heap.size 5 1 (.slice (some ⟨w.heap.size, 0, none⟩) 0 0) 0 []) := World.ownsRow_made w #[] 0 (Nat.le_refl _) (by unfold maxLen; omega) rfl
  have HB := hid hb0
  clear hb0 hl h1 hc
  have hq := Lib.run_eql_slice_nil (P := Try.prog) w 28 5 (some a) len cap 0 0 Try.underlying28
  simp only [Option.isNone_some] at hq
  go_enter Try.func77, Try.ntmps77
  go_wp2_with (at_builtin; go_must (refine wpList_append_own _ rfl (.tmp 5) (.tmp 6) 28 rfl w.heap.size 5 i0 _ 1 1 Try.underlying28 hi hz0 hz1 hz2 rfl (by decide) (.slice (some ⟨w.heap.size, 0, none⟩) 0 0) 0 [] rfl HO.out a len cap cs rfl HL.out HN.out H1.out (by unfold maxLen; omega) (by omega) (by simp) ?_))
  intro v' w1 hown hgrow hnil
  have hb1 := HB.out.grown hgrow (by simp) (by intro q hq; simp [Value.ownBlock] at hq; omega)
  obtain ⟨g, c, rfl⟩ : ∃ g c, v' = .slice (some ⟨g, 0, none⟩) len c := by
    rcases hown.2 with ⟨h, _⟩ | ⟨g, c, _, h, _⟩
    · exact absurd h (by simpa using hnil)
    · exact ⟨g, c, h⟩
  have H2 := hid hown
  clear hown hgrow hnil
  go_wp2_with fail
  go_ret
  exact ⟨g, c, rfl, H2.out, hb1⟩

end Go.Proofs.Ytkgejeamcgodhaa
