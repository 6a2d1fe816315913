/- Whether an argument fits a type: what the small questions answer, the program's. -/
import Derived.Test.YtkgejeamcgodhaaGArg
import Derived.Test.YtkgejeamcgodhaaGCan1
import Derived.Test.YtkgejeamcgodhaaEqual
namespace Go.Proofs.Ytkgejeamcgodhaa
open Go.RowKit
set_option linter.unusedVariables false
set_option maxRecDepth 20000

theorem below_box2 (w : World) (o o' : Obj) : Below w.heap.size w ((w.alloc o).alloc o') := (below_box w o).trans ((below_box _ o').mono (by simp))

theorem within_any (T : Ty) (n : Int) (w : World) : Calls Try.prog 88 #[.agg #[.int .i64 T.k, .int .i64 T.s, .int .i64 T.lo, .int .i64 T.hi, .int .i64 T.d, .string T.o, .slice T.va T.vn T.vc, .slice T.ta T.tn T.tc, .slice T.ea T.en T.ec, .slice T.na T.nn T.nc], .int .i64 n] w fun e w' => e = .returned (.bool (decide (T.lo ≤ n ∧ n ≤ T.hi))) ∧ Below w.heap.size w w' := by
  obtain ⟨R, gR⟩ : ∃ R, R = decide (T.lo ≤ n ∧ n ≤ T.hi) := ⟨_, rfl⟩
  rw [← gR]
  have HR := hid gR
  clear gR
  obtain ⟨k, s, lo, hi, d, o, va, vn, vc, vs, ta, tn, tc, ts, ea, en, ec, es, na, nn, nc⟩ := T
  dsimp only at *
  go_enter Try.func88, Try.ntmps88
  go_wp2
  all_goals
    go_ret
    refine ⟨ret_bool ?_, below_box _ _⟩
    rw [HR.out, Bool.eq_iff_iff]
    first | (simp [*]; done) | (simp [*]; omega)

set_option maxHeartbeats 4000000 in
theorem kind_any (T : Ty) (h : Hd) (w : World) (hk : h.Ok w) : Calls Try.prog 61 #[.agg #[.int .i64 T.k, .int .i64 T.s, .int .i64 T.lo, .int .i64 T.hi, .int .i64 T.d, .string T.o, .slice T.va T.vn T.vc, .slice T.ta T.tn T.tc, .slice T.ea T.en T.ec, .slice T.na T.nn T.nc], .agg #[.int .i64 h.k, .int .i64 h.v, .slice h.ka h.kn h.kc, .slice h.ba h.bn h.bc]] w fun e w' => e = .returned (.bool (kindB T h)) ∧ Below w.heap.size w w' := by
  have hkm := hk.km
  have hkb := hk.kb
  have hbm := hk.bm
  have hbb := hk.bb
  clear hk
  obtain ⟨R, gR⟩ : ∃ R, R = kindB T h := ⟨_, rfl⟩
  rw [← gR]
  have HR := hid gR
  clear gR
  unfold kindB at HR
  obtain ⟨k, s, lo, hi, d, o, va, vn, vc, vs, ta, tn, tc, ts, ea, en, ec, es, na, nn, nc⟩ := T
  obtain ⟨ak, av, ka, kn, kc, ba, bn, bc, bs⟩ := h
  dsimp only at *
  go_enter Try.func61, Try.ntmps61
  go_wp2
  all_goals
    go_ret
    refine ⟨ret_bool ?_, below_box2 _ _ _⟩
    rw [HR.out]
    clear HR
    simp only [beq_iff_eq, beq_eq_false_iff_ne] at *
    rw [Bool.eq_iff_iff]
    first | (simp [*]; done) | (simp [*]; omega) | (simp_all; done) | (simp_all; omega)

theorem count_any (T : Ty) (n : Nat) (w : World) : Calls Try.prog 62 #[.agg #[.int .i64 T.k, .int .i64 T.s, .int .i64 T.lo, .int .i64 T.hi, .int .i64 T.d, .string T.o, .slice T.va T.vn T.vc, .slice T.ta T.tn T.tc, .slice T.ea T.en T.ec, .slice T.na T.nn T.nc], .int .i64 n] w fun e w' => e = .returned (.bool (countB T n)) ∧ Below w.heap.size w w' := by
  have k1 := hid (fun wx => within_any T n wx)
  obtain ⟨RR, gRR⟩ : ∃ RR, RR = decide (T.lo ≤ (n : Int) ∧ (n : Int) ≤ T.hi) := ⟨_, rfl⟩
  rw [← gRR] at k1
  obtain ⟨R, gR⟩ : ∃ R, R = countB T n := ⟨_, rfl⟩
  rw [← gR]
  unfold countB at gR
  rw [← gRR] at gR
  have HR := hid gR
  clear gR gRR
  obtain ⟨k, s, lo, hi, d, o, va, vn, vc, vs, ta, tn, tc, ts, ea, en, ec, es, na, nn, nc⟩ := T
  dsimp only at *
  go_enter Try.func62, Try.ntmps62
  go_wp2_with (refine (k1.out _).mono ?_; rintro e w1 ⟨rfl, hb1⟩)
  all_goals
    go_ret
    refine ⟨ret_bool ?_, ?_⟩
    · rw [HR.out]
      clear HR k1
      simp only [beq_iff_eq, beq_eq_false_iff_ne] at *
      rw [Bool.eq_iff_iff]
      first | (simp [*]; done) | (simp [*]; omega) | (simp_all; done) | (simp_all; omega)
    · first | exact below_box _ _ | exact (below_box _ _).trans (hb1.mono (below_box _ _).size)

theorem foldl_take (f : Int → Int → Int) (l : List Int) (j : Nat) (h : j < l.length) : (l.take (j + 1)).foldl f 0 = f ((l.take j).foldl f 0) (l.getD j 0) := by
  rw [take_int l j h, List.foldl_append]
  rfl

set_option maxHeartbeats 4000000 in
theorem ored_any (v : Int) (a : Option Addr) (n c : Nat) (l : List Int) (w : World) (h : Ints w a l) (hn : l.length = n) (hc : n ≤ 9223372036854775807) :
    Calls Try.prog 89 #[.int .i64 v, .slice a n c] w fun e w' => e = .returned (.bool (orB v l)) ∧ w' = w := by
  have HE := hid h
  have HN := hid hn
  clear h hn
  obtain ⟨R, gR⟩ : ∃ R, R = orB v l := ⟨_, rfl⟩
  rw [← gR]
  have HR := hid gR
  clear gR
  unfold orB at HR
  go_enter Try.func89, Try.ntmps89
  go_wp2_with fail
  go_loop [5, 10] (fun u k => ∃ (j : Nat) (S : Int), j ≤ n ∧ k = .int .i64 j ∧ u = .int .i64 S ∧ Hid (S = (l.take j).foldl (orStep v) 0)) (fun _ k => n - (intOf k).toNat)
  case atStart => exact ⟨0, 0, Nat.zero_le _, rfl, rfl, hid rfl⟩
  case round =>
    obtain ⟨j, S, hj, rfl, rfl, HS⟩ := hrel
    by_cases hlt : j < n
    · have hjl : j < l.length := by rw [HN.out]; exact hlt
      obtain ⟨b, o', rfl, hbl, hcs⟩ := HE.out (by omega)
      have hci := hcs j hjl
      have HF : Hid ((l.take (j + 1)).foldl (orStep v) 0 = if bits .andNot .i64 (l.getD j 0) v = 0 then bits .or .i64 S (l.getD j 0) else S) := hid (by rw [foldl_take (orStep v) l j hjl, ← HS.out]; rfl)
      generalize l.getD j 0 = x at hci HF
      clear hcs hbl hjl
      generalize hB : bits .andNot .i64 x v = B at *
      generalize hO : bits .or .i64 S x = O at *
      by_cases hB0 : B = 0
      · subst hB0
        go_wp2_with fail
        go_round
        case rel => exact ⟨j + 1, O, by omega, by go_num, rfl, hid (by rw [HF.out, if_pos rfl])⟩
        case measure => simp [intOf]; omega
      · go_wp2_with fail
        go_round
        case rel => exact ⟨j + 1, S, by omega, by go_num, rfl, hid (by rw [HF.out, if_neg hB0])⟩
        case measure => simp [intOf]; omega
    · obtain rfl : j = n := by omega
      have HF : Hid (S = l.foldl (orStep v) 0) := hid (by have := HS.out; rw [← HN.out, List.take_length] at this; exact this)
      rw [← HF.out] at HR
      go_wp2_with fail
      go_ret
      exact ⟨ret_bool (by rw [HR.out, Bool.eq_iff_iff]; simp), rfl⟩

set_option maxHeartbeats 4000000 in
theorem rflags_any (v : Int) (a : Option Addr) (n c : Nat) (l : List Int) (w : World) (h : Ints w a l) (hn : l.length = n) (hc : n ≤ 9223372036854775807) :
    Calls Try.prog 92 #[.int .i64 v, .slice a n c] w fun e w' => e = .returned (.bool (orB v l)) ∧ w' = w := by
  have HE := hid h
  have HN := hid hn
  clear h hn
  obtain ⟨R, gR⟩ : ∃ R, R = orB v l := ⟨_, rfl⟩
  rw [← gR]
  have HR := hid gR
  clear gR
  unfold orB at HR
  go_enter Try.func92, Try.ntmps92
  go_wp2_with fail
  go_loop [5, 10] (fun u k => ∃ (j : Nat) (S : Int), j ≤ n ∧ k = .int .i64 j ∧ u = .int .i64 S ∧ Hid (S = (l.take j).foldl (orStep v) 0)) (fun _ k => n - (intOf k).toNat)
  case atStart => exact ⟨0, 0, Nat.zero_le _, rfl, rfl, hid rfl⟩
  case round =>
    obtain ⟨j, S, hj, rfl, rfl, HS⟩ := hrel
    by_cases hlt : j < n
    · have hjl : j < l.length := by rw [HN.out]; exact hlt
      obtain ⟨b, o', rfl, hbl, hcs⟩ := HE.out (by omega)
      have hci := hcs j hjl
      have HF : Hid ((l.take (j + 1)).foldl (orStep v) 0 = if bits .andNot .i64 (l.getD j 0) v = 0 then bits .or .i64 S (l.getD j 0) else S) := hid (by rw [foldl_take (orStep v) l j hjl, ← HS.out]; rfl)
      generalize l.getD j 0 = x at hci HF
      clear hcs hbl hjl
      generalize hB : bits .andNot .i64 x v = B at *
      generalize hO : bits .or .i64 S x = O at *
      by_cases hB0 : B = 0
      · subst hB0
        go_wp2_with fail
        go_round
        case rel => exact ⟨j + 1, O, by omega, by go_num, rfl, hid (by rw [HF.out, if_pos rfl])⟩
        case measure => simp [intOf]; omega
      · go_wp2_with fail
        go_round
        case rel => exact ⟨j + 1, S, by omega, by go_num, rfl, hid (by rw [HF.out, if_neg hB0])⟩
        case measure => simp [intOf]; omega
    · obtain rfl : j = n := by omega
      have HF : Hid (S = l.foldl (orStep v) 0) := hid (by have := HS.out; rw [← HN.out, List.take_length] at this; exact this)
      rw [← HF.out] at HR
      go_wp2_with fail
      go_ret
      exact ⟨ret_bool (by rw [HR.out, Bool.eq_iff_iff]; simp), rfl⟩

end Go.Proofs.Ytkgejeamcgodhaa
