/- The errors of New, of both disks, and of Crash, where its epochs are out of range. -/
import Derived.Test.YtcophmafkpbdaaaR2disk
namespace Go.Proofs.Ytcophmafkpbdaaa
open Go.RowKit
set_option linter.unusedVariables false

theorem dnew_no (n : Int) (w : World) (h : n < 1 ∨ 2048 < n) :
    Calls Try.prog 7 #[.int .i64 n] w fun e w' => e = .returned (.tuple #[.pointer none, .int .i64 1]) ∧ w' = w := by
  by_cases h1 : n < 1
  · clear h
    go_enter Try.func7, Try.ntmps7
    go_wp2_with fail
    go_ret2
    exact ⟨rfl, rfl⟩
  · have h2 : 2048 < n := by omega
    clear h
    go_enter Try.func7, Try.ntmps7
    go_wp2_with fail
    go_ret2
    exact ⟨rfl, rfl⟩

theorem rnew_no (n : Int) (w : World) (h : n < 1 ∨ 2048 < n) :
    Calls Try.prog 8 #[.int .i64 n] w fun e w' => e = .returned (.tuple #[.pointer none, .int .i64 1]) ∧ w' = w := by
  by_cases h1 : n < 1
  · clear h
    go_enter Try.func8, Try.ntmps8
    go_wp2_with fail
    go_ret2
    exact ⟨rfl, rfl⟩
  · have h2 : 2048 < n := by omega
    clear h
    go_enter Try.func8, Try.ntmps8
    go_wp2_with fail
    go_ret2
    exact ⟨rfl, rfl⟩

theorem crash_out (d : Dk) (p : Nat) (k t : Int) (av : Option Addr) (lv cv : Nat) (w : World) (hok : d.ok w p) (hk : k < 0 ∨ (d.eps.length : Int) < k) :
    Calls Try.prog 19 #[.pointer (some ⟨p, 0, none⟩), .int .i64 k, .slice av lv cv, .int .i64 t] w fun e w' => e = .returned (.int .i64 20) ∧ w' = w := by
  have k1 := hid (dusable d p w hok)
  obtain ⟨ae, ce, hve, hce1, hce2⟩ := own_shape hok.row
  obtain ⟨c0, c1, c2, c3⟩ := hok.cell
  rw [hve] at c2
  obtain ⟨m, gm⟩ : ∃ m, m = d.eps.length := ⟨_, rfl⟩
  rw [← gm] at c2 hk
  clear hok hve hce1 hce2 c0 c1 c3 gm
  by_cases h1 : k < 0
  · clear hk
    go_enter Try.func19, Try.ntmps19
    go_wp2_with fail
    refine k1.out.mono ?_
    rintro r w1 ⟨rfl, rfl⟩
    go_wp2_with fail
    go_ret
    exact ⟨rfl, rfl⟩
  · have h2 : (m : Int) < k := by omega
    clear hk
    go_enter Try.func19, Try.ntmps19
    go_wp2_with fail
    refine k1.out.mono ?_
    rintro r w1 ⟨rfl, rfl⟩
    go_wp2_with fail
    go_ret
    exact ⟨rfl, rfl⟩

theorem rcrash_out (x : Rk) (q : Nat) (M : List Nat) (k t : Int) (av : Option Addr) (lv cv : Nat) (w : World) (hok : x.ok w q M) (hk : k < 0 ∨ (x.E.length : Int) < k) :
    Calls Try.prog 34 #[.pointer (some ⟨q, 0, none⟩), .int .i64 k, .slice av lv cv, .int .i64 t] w fun e w' => e = .returned (.int .i64 20) ∧ w' = w := by
  obtain ⟨c0, c1, c2⟩ := hok.cell
  obtain ⟨m, gm⟩ : ∃ m, m = x.E.length := ⟨_, rfl⟩
  rw [← gm] at c1 hk
  clear hok c0 c2 gm
  by_cases h1 : k < 0
  · clear hk
    go_enter Try.func34, Try.ntmps34
    go_wp2_with fail
    go_ret
    exact ⟨rfl, rfl⟩
  · have h2 : (m : Int) < k := by omega
    clear hk
    go_enter Try.func34, Try.ntmps34
    go_wp2_with fail
    go_ret
    exact ⟨rfl, rfl⟩

theorem rwrite_no (x : Rk) (q : Nat) (M : List Nat) (i : Int) (ab : Option Addr) (lb cb : Nat) (w : World) (hok : x.ok w q M) (hi : ¬ (0 ≤ i ∧ i < x.n)) :
    Calls Try.prog 29 #[.pointer (some ⟨q, 0, none⟩), .int .i64 i, .slice ab lb cb] w fun e w' => e = .returned (.int .i64 1) ∧ w' = w := by
  have k1 := hid (rthere q x.n _ _ i w hok.cell.1)
  rw [show decide ((0 : Int) ≤ i ∧ i < (x.n : Int)) = false from decide_eq_false hi] at k1
  clear hok hi
  go_enter Try.func29, Try.ntmps29
  go_wp2_with fail
  refine k1.out.mono ?_
  rintro r w1 ⟨rfl, rfl⟩
  go_wp2_with fail
  go_ret
  exact ⟨rfl, rfl⟩

theorem rwrite_len (x : Rk) (q i : Nat) (M : List Nat) (ab : Option Addr) (lb cb : Nat) (w : World) (hok : x.ok w q M) (hi : i < x.n) (hl : lb ≠ 128) :
    Calls Try.prog 29 #[.pointer (some ⟨q, 0, none⟩), .int .i64 i, .slice ab lb cb] w fun e w' => e = .returned (.int .i64 1) ∧ w' = w := by
  have k1 := hid (rthere q x.n _ _ i w hok.cell.1)
  rw [show decide ((0 : Int) ≤ (i : Int) ∧ (i : Int) < (x.n : Int)) = true from decide_eq_true ⟨by omega, by omega⟩] at k1
  have hl2 : ¬ ((lb : Int) = 128) := by omega
  clear hok hi
  go_enter Try.func29, Try.ntmps29
  go_wp2_with fail
  refine k1.out.mono ?_
  rintro r w1 ⟨rfl, rfl⟩
  go_wp2_with fail
  go_ret
  exact ⟨rfl, rfl⟩

end Go.Proofs.Ytcophmafkpbdaaa
