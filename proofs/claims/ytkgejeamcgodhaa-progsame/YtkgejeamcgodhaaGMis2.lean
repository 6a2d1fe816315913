/- Whether a list has a number, a text; whether a type has an argument's value: the program's. -/
import Derived.Test.YtkgejeamcgodhaaGMis1
import Derived.Lib.SlicesS
namespace Go.Proofs.Ytkgejeamcgodhaa
open Go.RowKit Go.Lib
set_option linter.unusedVariables false
set_option maxRecDepth 20000

theorem any_false_take {α : Type} (l : List α) (f : α → Bool) (d : α) (j : Nat) (h : j < l.length) (h1 : (l.take j).any f = false) (h2 : f (l.getD j d) = false) : (l.take (j + 1)).any f = false := by
  rw [List.take_add_one, List.getElem?_eq_getElem h, List.any_append, h1]
  rw [List.getD_eq_getElem?_getD, List.getElem?_eq_getElem h] at h2
  simpa using h2
theorem any_true_at {α : Type} (l : List α) (f : α → Bool) (d : α) (j : Nat) (h : j < l.length) (h2 : f (l.getD j d) = true) : l.any f = true := by
  rw [List.getD_eq_getElem?_getD, List.getElem?_eq_getElem h] at h2
  exact List.any_eq_true.2 ⟨l[j], List.getElem_mem h, h2⟩

set_option maxHeartbeats 4000000 in
theorem iindex_any (a : Option Addr) (n c : Nat) (l : List Int) (v : Int) (w : World) (h : Ints w a l) (hn : l.length = n) (hc : n ≤ 9223372036854775807) :
    Calls Try.prog 105 #[.slice a n c, .int .i64 v] w fun e w' => ∃ r : Int, e = .returned (.int .i64 r) ∧ decide (0 ≤ r) = l.any (fun x => decide (v = x)) ∧ w' = w := by
  have HE := hid h
  have HN := hid hn
  clear h hn
  go_enter Try.func105, Try.ntmps105
  go_wp2_with fail
  go_loop [8] (fun k => ∃ j : Nat, j ≤ n ∧ k = .int .i64 j ∧ Hid ((l.take j).any (fun x => decide (v = x)) = false)) (fun k => n - (intOf k).toNat)
  case atStart => exact ⟨0, Nat.zero_le _, rfl, hid rfl⟩
  case round =>
    obtain ⟨j, hj, rfl, HA⟩ := hrel
    by_cases hlt : j < n
    · have hjl : j < l.length := by rw [HN.out]; exact hlt
      obtain ⟨b, o', rfl, hbl, hcs⟩ := HE.out (by omega)
      have hci := hcs j hjl
      have H1 := hid (any_false_take l (fun x => decide (v = x)) 0 j hjl HA.out)
      have H2 := hid (any_true_at l (fun x => decide (v = x)) 0 j hjl)
      generalize l.getD j 0 = x at hci H1 H2
      clear hcs hbl hjl
      by_cases hx : v = x
      · subst hx
        go_wp2_with fail
        go_ret
        exact ⟨_, rfl, by rw [H2.out (by simp)]; simp, rfl⟩
      · go_wp2_with fail
        go_round
        case rel => exact ⟨j + 1, by omega, by go_num, hid (H1.out (by simpa using hx))⟩
        case measure => simp [intOf]; omega
    · obtain rfl : j = n := by omega
      go_wp2_with fail
      go_ret
      refine ⟨_, rfl, ?_, rfl⟩
      have := HA.out
      rw [← HN.out, List.take_length] at this
      rw [this]
      rfl

theorem icont_any (a : Option Addr) (n c : Nat) (l : List Int) (v : Int) (w : World) (h : Ints w a l) (hn : l.length = n) (hc : n ≤ 9223372036854775807) :
    Calls Try.prog 90 #[.slice a n c, .int .i64 v] w fun e w' => e = .returned (.bool (l.any (fun x => decide (v = x)))) ∧ w' = w := by
  have k1 := hid (iindex_any a n c l v w h hn hc)
  clear h hn
  go_enter Try.func90, Try.ntmps90
  go_wp2_with fail
  refine k1.out.mono ?_
  rintro e w1 ⟨r, rfl, hr, rfl⟩
  have HR := hid hr
  clear hr
  go_wp2_with fail
  go_ret
  exact ⟨ret_bool HR.out, rfl⟩

set_option maxHeartbeats 4000000 in
theorem sindex_any (a : Option Addr) (n c : Nat) (l : List ByteArray) (v : ByteArray) (w : World) (h : Strs w a l) (hn : l.length = n) (hc : n ≤ 9223372036854775807) :
    Calls Try.prog 106 #[.slice a n c, .string v] w fun e w' => ∃ r : Int, e = .returned (.int .i64 r) ∧ decide (0 ≤ r) = l.any (fun x => decide (v = x)) ∧ w' = w := by
  have HE := hid h
  have HN := hid hn
  clear h hn
  go_enter Try.func106, Try.ntmps106
  go_wp2_with fail
  go_loop [8] (fun k => ∃ j : Nat, j ≤ n ∧ k = .int .i64 j ∧ Hid ((l.take j).any (fun x => decide (v = x)) = false)) (fun k => n - (intOf k).toNat)
  case atStart => exact ⟨0, Nat.zero_le _, rfl, hid rfl⟩
  case round =>
    obtain ⟨j, hj, rfl, HA⟩ := hrel
    by_cases hlt : j < n
    · have hjl : j < l.length := by rw [HN.out]; exact hlt
      obtain ⟨b, o', rfl, hbl, hcs⟩ := HE.out (by omega)
      have hci := hcs j hjl
      have H1 := hid (any_false_take l (fun x => decide (v = x)) .empty j hjl HA.out)
      have H2 := hid (any_true_at l (fun x => decide (v = x)) .empty j hjl)
      generalize l.getD j .empty = x at hci H1 H2
      clear hcs hbl hjl
      by_cases hx : v = x
      · subst hx
        go_wp2_with fail
        go_ret
        exact ⟨_, rfl, by rw [H2.out (by simp)]; simp, rfl⟩
      · have hx1 : (v.toList == x.toList) = false := (bytes_beq_false_iff v x).2 hx
        go_wp2_with fail
        go_round
        case rel => exact ⟨j + 1, by omega, by go_num, hid (H1.out (by simpa using hx))⟩
        case measure => simp [intOf]; omega
    · obtain rfl : j = n := by omega
      go_wp2_with fail
      go_ret
      refine ⟨_, rfl, ?_, rfl⟩
      have := HA.out
      rw [← HN.out, List.take_length] at this
      rw [this]
      rfl

theorem scont_any (a : Option Addr) (n c : Nat) (l : List ByteArray) (v : ByteArray) (w : World) (h : Strs w a l) (hn : l.length = n) (hc : n ≤ 9223372036854775807) :
    Calls Try.prog 91 #[.slice a n c, .string v] w fun e w' => e = .returned (.bool (l.any (fun x => decide (v = x)))) ∧ w' = w := by
  have k1 := hid (sindex_any a n c l v w h hn hc)
  clear h hn
  go_enter Try.func91, Try.ntmps91
  go_wp2_with fail
  refine k1.out.mono ?_
  rintro e w1 ⟨r, rfl, hr, rfl⟩
  have HR := hid hr
  clear hr
  go_wp2_with fail
  go_ret
  exact ⟨ret_bool HR.out, rfl⟩

set_option maxHeartbeats 4000000 in
theorem pvalue_any (T : Ty) (h : Hd) (w : World) (hT : T.Ok w) (hk : h.Ok w) : Calls Try.prog 63 #[.agg #[.int .i64 T.k, .int .i64 T.s, .int .i64 T.lo, .int .i64 T.hi, .int .i64 T.d, .string T.o, .slice T.va T.vn T.vc, .slice T.ta T.tn T.tc, .slice T.ea T.en T.ec, .slice T.na T.nn T.nc], .agg #[.int .i64 h.k, .int .i64 h.v, .slice h.ka h.kn h.kc, .slice h.ba h.bn h.bc]] w fun e w' => e = .returned (.bool (valueB T h)) ∧ Below w.heap.size w w' := by
  have k1 := hid (fun n wx => within_any T n wx)
  have k2 := hid (fun o o' => ored_any h.v T.va T.vn T.vc T.vs ((w.alloc o).alloc o') (hT.vs.below (below_box2 w o o')) hT.vl (by have := hT.vm; have := hT.vb; omega))
  have k3 := hid (fun o o' => icont_any T.va T.vn T.vc T.vs h.v ((w.alloc o).alloc o') (hT.vs.below (below_box2 w o o')) hT.vl (by have := hT.vm; have := hT.vb; omega))
  have k4 := hid (fun o o' => scont_any T.ta T.tn T.tc T.ts (strOfNums h.bs) ((w.alloc o).alloc o') (hT.ts.below (below_box2 w o o')) hT.tl (by have := hT.tm; have := hT.tb; omega))
  have hcv := fun o o' => (hk.bs.below (below_box2 w o o')).convert (P := Try.prog) h.bc 28 5 9 Try.underlying28 Try.underlying5 Try.underlying9
  have hkm := hk.km
  have hkb := hk.kb
  have hbm := hk.bm
  have hbb := hk.bb
  have hem := hT.em
  have heb := hT.eb
  clear hk hT
  obtain ⟨R, gR⟩ : ∃ R, R = valueB T h := ⟨_, rfl⟩
  rw [← gR]
  have HR := hid gR
  clear gR
  unfold valueB at HR
  obtain ⟨k, s, lo, hi, d, o, va, vn, vc, vs, ta, tn, tc, ts, ea, en, ec, es, na, nn, nc⟩ := T
  obtain ⟨ak, av, ka, kn, kc, ba, bn, bc, bs⟩ := h
  dsimp only at *
  generalize orB av vs = R1 at *
  generalize vs.any (fun x => decide (av = x)) = R2 at *
  generalize strOfNums bs = S at *
  generalize ts.any (fun x => decide (S = x)) = R3 at *
  go_enter Try.func63, Try.ntmps63
  go_wp2_with (first
    | (refine (k1.out _ _).mono ?_; rintro e w1 ⟨rfl, hb1⟩)
    | (refine (k2.out _ _).mono ?_; rintro e w1 ⟨rfl, rfl⟩)
    | (refine (k3.out _ _).mono ?_; rintro e w1 ⟨rfl, rfl⟩)
    | (refine (k4.out _ _).mono ?_; rintro e w1 ⟨rfl, rfl⟩))
  all_goals
    go_ret
    refine ⟨ret_bool ?_, ?_⟩
    · rw [HR.out]
      clear HR k1 k2 k3 k4 hcv
      simp only [beq_iff_eq, beq_eq_false_iff_ne] at *
      rw [Bool.eq_iff_iff]
      first | (simp [*]; done) | (simp [*]; omega) | (simp_all; done) | (simp_all; omega)
    · first | exact below_box2 _ _ _ | exact (below_box2 _ _ _).trans (hb1.mono (below_box2 _ _ _).size)

end Go.Proofs.Ytkgejeamcgodhaa
