/- What types are made of, how great they are: what the questions about it answer, the program's and the document's. -/
import Derived.Test.YtkgejeamcgodhaaGCan1
namespace Go.Proofs.Ytkgejeamcgodhaa
open Go.RowKit
set_option linter.unusedVariables false
set_option maxRecDepth 20000

set_option maxHeartbeats 4000000 in
theorem helems_any (T : Ty) (i : Nat) (w : World) (h : T.Ok w) (hi : i ≤ 9223372036854775807) :
    Calls Try.prog 56 #[.agg #[.int .i64 T.k, .int .i64 T.s, .int .i64 T.lo, .int .i64 T.hi, .int .i64 T.d, .string T.o, .slice T.va T.vn T.vc, .slice T.ta T.tn T.tc, .slice T.ea T.en T.ec, .slice T.na T.nn T.nc], .int .i64 i] w fun e w' => e = .returned (.bool (ahead i T.es && partsN T)) ∧ Below w.heap.size w w' := by
  have HE := hid (h.es.below (below_box w (.cells #[.int .i64 T.k, .int .i64 T.s, .int .i64 T.lo, .int .i64 T.hi, .int .i64 T.d, .string T.o, .slice T.va T.vn T.vc, .slice T.ta T.tn T.tc, .slice T.ea T.en T.ec, .slice T.na T.nn T.nc] 52)))
  have HN := hid h.el
  have hem := h.em
  have heb := h.eb
  have hnm := h.nm
  have hnb := h.nb
  clear h
  obtain ⟨R, gR⟩ : ∃ R, R = (ahead i T.es && partsN T) := ⟨_, rfl⟩
  rw [← gR]
  have HR := hid gR
  clear gR
  unfold partsN at HR
  obtain ⟨k, s, lo, hi, d, o, va, vn, vc, vs, ta, tn, tc, ts, ea, en, ec, es, na, nn, nc⟩ := T
  dsimp only at *
  go_enter Try.func56, Try.ntmps56
  go_wp2_with fail
  go_loop [10] (fun k => ∃ j : Nat, j ≤ en ∧ k = .int .i64 j ∧ Hid (ahead i (es.take j) = true)) (fun k => en - (intOf k).toNat)
  case atStart => exact ⟨0, Nat.zero_le _, rfl, hid rfl⟩
  case round =>
    obtain ⟨j, hj, rfl, HA⟩ := hrel
    by_cases hlt : j < en
    · have hjl : j < es.length := by rw [HN.out]; exact hlt
      obtain ⟨b, o', rfl, hbl, hcs⟩ := HE.out (by omega)
      have hci := hcs j hjl
      have HM := hid (ahead_more i es j hjl)
      have HS := hid (ahead_stop i es j hjl)
      generalize es.getD j 0 = x at hci HM HS
      clear hcs hbl hjl
      by_cases hx : 0 ≤ x ∧ x < (i : Int)
      · have hx1 := hx.1
        have hx2 := hx.2
        go_wp2_with fail
        go_round
        case rel => exact ⟨j + 1, by omega, by go_num, hid (by rw [HM.out, HA.out]; simp; omega)⟩
        case measure => simp [intOf]; omega
      · have HF := hid (HS.out hx)
        by_cases hx0 : x < 0
        · go_wp2_with fail
          go_ret
          exact ⟨ret_bool (by rw [HR.out, HF.out]; rfl), below_box _ _⟩
        · have hx1 : (i : Int) ≤ x := by omega
          go_wp2_with fail
          go_ret
          exact ⟨ret_bool (by rw [HR.out, HF.out]; rfl), below_box _ _⟩
    · obtain rfl : j = en := by omega
      have HF : Hid (ahead i es = true) := hid (by have := HA.out; rw [← HN.out, List.take_length] at this; exact this)
      go_wp2_with fail
      all_goals
        go_ret
        refine ⟨ret_bool ?_, below_box _ _⟩
        rw [HR.out, HF.out]
        clear HR HE HN HA HF
        simp only [beq_iff_eq, beq_eq_false_iff_ne] at *
        rw [Bool.eq_iff_iff]
        first | (simp [*]; done) | (simp [*]; omega) | (simp_all; done) | (simp_all; omega)

theorem relems_any (T : Ty) (w : World) (h : T.Ok w) :
    Calls Try.prog 27 #[.agg #[.int .i64 T.k, .int .i64 T.s, .int .i64 T.lo, .int .i64 T.hi, .int .i64 T.d, .string T.o, .slice T.va T.vn T.vc, .slice T.ta T.tn T.tc, .slice T.ea T.en T.ec, .slice T.na T.nn T.nc]] w fun e w' => e = .returned (.bool (partsN T)) ∧ Below w.heap.size w w' := by
  have hem := h.em
  have heb := h.eb
  have hnm := h.nm
  have hnb := h.nb
  clear h
  obtain ⟨R, gR⟩ : ∃ R, R = partsN T := ⟨_, rfl⟩
  rw [← gR]
  have HR := hid gR
  clear gR
  unfold partsN at HR
  obtain ⟨k, s, lo, hi, d, o, va, vn, vc, vs, ta, tn, tc, ts, ea, en, ec, es, na, nn, nc⟩ := T
  dsimp only at *
  go_enter Try.func27, Try.ntmps27
  go_wp2_with fail
  all_goals
    go_ret
    refine ⟨ret_bool ?_, below_box _ _⟩
    rw [HR.out]
    clear HR
    simp only [beq_iff_eq, beq_eq_false_iff_ne] at *
    rw [Bool.eq_iff_iff]
    first | (simp [*]; done) | (simp [*]; omega) | (simp_all; done) | (simp_all; omega)

set_option maxHeartbeats 4000000 in
theorem hparts_any (T : Ty) (w : World) (h : T.Ok w) :
    Calls Try.prog 57 #[.agg #[.int .i64 T.k, .int .i64 T.s, .int .i64 T.lo, .int .i64 T.hi, .int .i64 T.d, .string T.o, .slice T.va T.vn T.vc, .slice T.ta T.tn T.tc, .slice T.ea T.en T.ec, .slice T.na T.nn T.nc]] w fun e w' => e = .returned (.bool (fitsB T)) ∧ Below w.heap.size w w' := by
  have HK := hid h
  have k1 := hid (fun n wx => issz_any n wx)
  have k2 := hid (fun m wx => isrng_any T m wx)
  have k3 := hid (fun wx (hb : Below w.heap.size w wx) => scontf_long T.ta T.tn T.tc T.ts wx (h.ts.below hb) h.tl (Nat.le_trans h.tm h.tb))
  have hvm := h.vm
  have hvb := h.vb
  have htm := h.tm
  have htb := h.tb
  clear h
  obtain ⟨R, gR⟩ : ∃ R, R = fitsB T := ⟨_, rfl⟩
  rw [← gR]
  have HR := hid gR
  clear gR
  unfold fitsB at HR
  obtain ⟨RR, gRR⟩ : ∃ RR : Int → Bool, RR = rangeB T := ⟨_, rfl⟩
  rw [← gRR] at k2 HR
  clear gRR HK
  obtain ⟨k, s, lo, hi, d, o, va, vn, vc, vs, ta, tn, tc, ts, ea, en, ec, es, na, nn, nc⟩ := T
  dsimp only at *
  go_enter Try.func57, Try.ntmps57
  go_wp2_with (first
    | (refine (k1.out _ _).mono ?_; rintro e w1 ⟨rfl, rfl⟩)
    | (refine (k2.out _ _).mono ?_; rintro e w1 ⟨rfl, hb1⟩)
    | (refine (k3.out _ (below_box _ _)).mono ?_; rintro e w1 ⟨rfl, rfl⟩))
  all_goals
    go_ret
    refine ⟨ret_bool ?_, ?_⟩
    · rw [HR.out]
      clear HR k1 k2 k3
      simp only [beq_iff_eq, beq_eq_false_iff_ne] at *
      rw [Bool.eq_iff_iff]
      first | (simp [*]; done) | (simp [*]; omega) | (simp_all; done) | (simp_all; omega)
    · first | exact below_box _ _ | exact (below_box _ _).trans (hb1.mono (below_box _ _).size)

end Go.Proofs.Ytkgejeamcgodhaa
