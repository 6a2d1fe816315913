/- What the small questions about types answer, the program's and the document's. -/
import Derived.Test.YtkgejeamcgodhaaGTy
import Derived.Test.YtkgejeamcgodhaaChecked
namespace Go.Proofs.Ytkgejeamcgodhaa
open Go.RowKit
set_option linter.unusedVariables false
set_option maxRecDepth 20000

theorem ret_bool {a b : Bool} (h : a = b) : Ending.returned (.bool a) = .returned (.bool b) := by rw [h]
theorem ret_int {k : IntKind} {a b : Int} (h : a = b) : Ending.returned (.int k a) = .returned (.int k b) := by rw [h]

theorem issz_any (n : Int) (w : World) : Calls Try.prog 84 #[.int .i64 n] w fun e w' => e = .returned (.bool (szB n)) ∧ w' = w := by
  go_enter Try.func84, Try.ntmps84
  go_wp2
  all_goals
    go_ret
    exact ⟨ret_bool (by unfold szB; first | rfl | (simp; done) | (rw [Bool.eq_iff_iff]; simp; omega) | (simp_all; done) | (simp_all; omega)), rfl⟩

theorem rsz_any (n : Int) (w : World) : Calls Try.prog 59 #[.int .i64 n] w fun e w' => e = .returned (.bool (szB n)) ∧ w' = w := by
  go_enter Try.func59, Try.ntmps59
  go_wp2
  all_goals
    go_ret
    exact ⟨ret_bool (by unfold szB; first | rfl | (simp; done) | (rw [Bool.eq_iff_iff]; simp; omega) | (simp_all; done) | (simp_all; omega)), rfl⟩

theorem below_box (w : World) (o : Obj) : Below w.heap.size w (w.alloc o) := (Below.refl _ _).alloc (Nat.le_refl _) _

theorem isrng_any (T : Ty) (m : Int) (w : World) : Calls Try.prog 85 #[.agg #[.int .i64 T.k, .int .i64 T.s, .int .i64 T.lo, .int .i64 T.hi, .int .i64 T.d, .string T.o, .slice T.va T.vn T.vc, .slice T.ta T.tn T.tc, .slice T.ea T.en T.ec, .slice T.na T.nn T.nc], .int .i64 m] w fun e w' => e = .returned (.bool (rangeB T m)) ∧ Below w.heap.size w w' := by
  obtain ⟨k, s, lo, hi, d, o, va, vn, vc, vs, ta, tn, tc, ts, ea, en, ec, es, na, nn, nc⟩ := T
  dsimp only
  generalize hR : rangeB _ m = R
  unfold rangeB at hR
  have HR := hid hR
  clear hR
  go_enter Try.func85, Try.ntmps85
  go_wp2
  all_goals
    go_ret
    refine ⟨ret_bool ?_, below_box _ _⟩
    rw [← HR.out]
    first | rfl | (simp; done) | (rw [Bool.eq_iff_iff]; simp; omega) | (simp_all; done) | (simp_all; omega)

theorem islong_any (t : ByteArray) (w : World) : Calls Try.prog 87 #[.string t] w fun e w' => e = .returned (.bool (decide (24 < t.size))) ∧ w' = w := by
  go_enter Try.func87, Try.ntmps87
  go_wp2
  go_ret
  exact ⟨ret_bool (by simp; omega), rfl⟩

set_option maxHeartbeats 1000000 in
theorem sindf_long (a : Option Addr) (n c : Nat) (l : List ByteArray) (w : World) (h : Strs w a l) (hn : l.length = n) (hc : n ≤ 9223372036854775807) :
    Calls Try.prog 104 #[.slice a n c, .func (.func 87) #[] #[]] w fun e w' => ∃ r : Int, e = .returned (.int .i64 r) ∧ decide (0 ≤ r) = !(l.all fun t => decide (t.size ≤ 24)) ∧ w' = w := by
  have HL := hid h
  have HN := hid hn
  clear h hn
  go_enter Try.func104, Try.ntmps104
  go_wp2_with fail
  go_loop [8] (fun k => ∃ i : Nat, i ≤ n ∧ k = .int .i64 i ∧ Hid ((l.take i).all (fun t => decide (t.size ≤ 24)) = true)) (fun k => n - (intOf k).toNat)
  case atStart => exact ⟨0, Nat.zero_le _, rfl, hid rfl⟩
  case round =>
    obtain ⟨i, hi, rfl, HA⟩ := hrel
    by_cases hlt : i < n
    · have hil : i < l.length := by rw [HN.out]; exact hlt
      obtain ⟨b, o, rfl, hbl, hcs⟩ := HL.out (by omega)
      have hci := hcs i hil
      have HT : Hid (l.take (i + 1) = l.take i ++ [l.getD i .empty]) := hid (by rw [List.take_add_one, List.getD_eq_getElem?_getD, List.getElem?_eq_getElem hil]; rfl)
      have HM : Hid (l.getD i .empty ∈ l) := hid (by rw [List.getD_eq_getElem?_getD, List.getElem?_eq_getElem hil]; exact List.getElem_mem hil)
      generalize l.getD i .empty = t at hci HT HM
      clear hcs hbl hil
      by_cases ht : 24 < t.size
      · have k1 := hid (islong_any t w)
        rw [decide_eq_true ht] at k1
        go_wp2_with fail
        refine k1.out.mono ?_
        rintro e w1 ⟨rfl, rfl⟩
        go_wp2_with fail
        go_ret
        refine ⟨_, rfl, ?_, rfl⟩
        have : l.all (fun t => decide (t.size ≤ 24)) = false := by
          rw [List.all_eq_false]
          exact ⟨t, HM.out, by simp; omega⟩
        rw [this]
        simp
      · have k1 := hid (islong_any t w)
        rw [decide_eq_false ht] at k1
        go_wp2_with fail
        refine k1.out.mono ?_
        rintro e w1 ⟨rfl, rfl⟩
        go_wp2_with fail
        go_round
        case rel => exact ⟨i + 1, by omega, by go_num, hid (by rw [HT.out, List.all_append, HA.out]; simp; omega)⟩
        case measure => simp [intOf]; omega
    · obtain rfl : i = n := by omega
      go_wp2_with fail
      go_ret
      refine ⟨_, rfl, ?_, rfl⟩
      have := HA.out
      rw [← HN.out, List.take_length] at this
      rw [this]
      rfl

theorem scontf_long (a : Option Addr) (n c : Nat) (l : List ByteArray) (w : World) (h : Strs w a l) (hn : l.length = n) (hc : n ≤ 9223372036854775807) :
    Calls Try.prog 86 #[.slice a n c, .func (.func 87) #[] #[]] w fun e w' => e = .returned (.bool (!(l.all fun t => decide (t.size ≤ 24)))) ∧ w' = w := by
  have k1 := hid (sindf_long a n c l w h hn hc)
  clear h hn
  go_enter Try.func86, Try.ntmps86
  go_wp2_with fail
  refine k1.out.mono ?_
  rintro e w1 ⟨r, rfl, hr, rfl⟩
  have HR := hid hr
  clear hr
  go_wp2_with fail
  go_ret
  exact ⟨ret_bool HR.out, rfl⟩

end Go.Proofs.Ytkgejeamcgodhaa
