/- The document's kind, bare and value of an argument. -/
import Derived.Test.YtkgejeamcgodhaaGMis2
namespace Go.Proofs.Ytkgejeamcgodhaa
open Go.RowKit Go.Lib
set_option linter.unusedVariables false
set_option maxRecDepth 20000

def rkindI (T : Ty) (h : Hd) : Int :=
  if T.k = 5 then (if h.k = 2 then 2 else 1) else if T.k = 6 then 3 else if T.k = 7 ∨ T.k = 8 then 4 else if T.k = 9 then 5 else if T.k = 10 ∨ T.k = 11 then 6 else 1
def rbareB (h : Hd) : Bool :=
  decide ((h.k = 1 ∨ h.k = 2 ∨ h.k = 5 ∨ h.v = 0) ∧ (h.k = 3 ∨ h.k = 4 ∨ h.k = 5 ∨ h.kn = 0) ∧ (h.k = 6 ∨ h.bn = 0))
theorem kind_two (T : Ty) (h : Hd) : kindB T h = (decide (h.k = rkindI T h) && rbareB h) := by
  unfold kindB rkindI rbareB
  rw [Bool.eq_iff_iff]
  simp only [Bool.and_eq_true, decide_eq_true_eq]
  by_cases e5 : T.k = 5
  · simp only [e5, if_true]
    by_cases e2 : h.k = 2
    · simp [e2]
    · simp only [e2, if_false, or_false, decide_eq_true_eq]
      constructor
      · intro hh; omega
      · intro hh; omega
  · simp only [e5, if_false]
    by_cases e6 : T.k = 6
    · simp only [e6, if_true, decide_eq_true_eq]; omega
    · simp only [e6, if_false]
      by_cases e7 : T.k = 7 ∨ T.k = 8
      · simp only [if_pos e7, decide_eq_true_eq]; omega
      · simp only [if_neg e7]
        by_cases e9 : T.k = 9
        · simp only [e9, if_true, decide_eq_true_eq]; omega
        · simp only [e9, if_false]
          by_cases e10 : T.k = 10 ∨ T.k = 11
          · simp only [if_pos e10, decide_eq_true_eq]; omega
          · simp only [if_neg e10, decide_eq_true_eq]; omega

set_option maxHeartbeats 4000000 in
theorem rkind_any (T : Ty) (h : Hd) (w : World) : Calls Try.prog 65 #[.agg #[.int .i64 T.k, .int .i64 T.s, .int .i64 T.lo, .int .i64 T.hi, .int .i64 T.d, .string T.o, .slice T.va T.vn T.vc, .slice T.ta T.tn T.tc, .slice T.ea T.en T.ec, .slice T.na T.nn T.nc], .agg #[.int .i64 h.k, .int .i64 h.v, .slice h.ka h.kn h.kc, .slice h.ba h.bn h.bc]] w fun e w' => e = .returned (.int .i64 (rkindI T h)) ∧ Below w.heap.size w w' := by
  obtain ⟨R, gR⟩ : ∃ R, R = rkindI T h := ⟨_, rfl⟩
  rw [← gR]
  have HR := hid gR
  clear gR
  unfold rkindI at HR
  obtain ⟨k, s, lo, hi, d, o, va, vn, vc, vs, ta, tn, tc, ts, ea, en, ec, es, na, nn, nc⟩ := T
  obtain ⟨ak, av, ka, kn, kc, ba, bn, bc, bs⟩ := h
  dsimp only at *
  go_enter Try.func65, Try.ntmps65
  go_wp2
  all_goals
    go_ret
    refine ⟨ret_int ?_, below_box2 _ _ _⟩
    rw [HR.out]
    clear HR
    simp only [beq_iff_eq, beq_eq_false_iff_ne] at *
    first | rfl | (simp [*]; done) | (simp_all; done)

set_option maxHeartbeats 4000000 in
theorem rbare_any (h : Hd) (w : World) (hk : h.Ok w) : Calls Try.prog 66 #[.agg #[.int .i64 h.k, .int .i64 h.v, .slice h.ka h.kn h.kc, .slice h.ba h.bn h.bc]] w fun e w' => e = .returned (.bool (rbareB h)) ∧ Below w.heap.size w w' := by
  have hkm := hk.km
  have hkb := hk.kb
  have hbm := hk.bm
  have hbb := hk.bb
  clear hk
  obtain ⟨R, gR⟩ : ∃ R, R = rbareB h := ⟨_, rfl⟩
  rw [← gR]
  have HR := hid gR
  clear gR
  unfold rbareB at HR
  obtain ⟨ak, av, ka, kn, kc, ba, bn, bc, bs⟩ := h
  dsimp only at *
  rcases (show ak = 1 ∨ ak = 2 ∨ ak = 3 ∨ ak = 4 ∨ ak = 5 ∨ ak = 6 ∨ (ak ≠ 1 ∧ ak ≠ 2 ∧ ak ≠ 3 ∧ ak ≠ 4 ∧ ak ≠ 5 ∧ ak ≠ 6) by omega) with rfl | rfl | rfl | rfl | rfl | rfl | ⟨n1, n2, n3, n4, n5, n6⟩
  all_goals
    go_enter Try.func66, Try.ntmps66
    go_wp2
  all_goals
    go_ret
    refine ⟨ret_bool ?_, below_box _ _⟩
    rw [HR.out]
    clear HR
    rw [Bool.eq_iff_iff]
    first | (simp [*]; done) | (simp [*]; omega) | (simp_all; done) | (simp_all; omega)

end Go.Proofs.Ytkgejeamcgodhaa
