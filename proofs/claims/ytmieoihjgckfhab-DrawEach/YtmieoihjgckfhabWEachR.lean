/- The road of DrawEach: whatever list and number came in, it returns true, and what was there stays. -/
import Derived.Test.YtmieoihjgckfhabWDraw
import Derived.Deep.RegionHeld3
namespace Go.Proofs.Ytmieoihjgckfhab
open Go.RowKit
set_option maxRecDepth 20000
set_option linter.unusedVariables false

set_option maxHeartbeats 2000000 in
theorem each_road (a : Option Addr) (n c : Nat) (l : List Int) (m : Int) (w : World) (h : Ilst w a n c l) (hn : n ≤ 17592186044416) :
    Calls Try.prog 3 #[.slice a n c, .int .i64 m] w fun e w' => e = .returned (.bool true) ∧ Below w.heap.size w w' := by
  have k1 := hid (dnew a n c l w h hn)
  have HA := hid h
  obtain rfl := h.size
  clear h
  go_enter Try.func3, Try.ntmps3
  go_wp2_with fail
  have ez : wrap64 (1 + wrap64 ((IntKind.u64.wrap m).tmod 1000)) = 1 + m % 18446744073709551616 % 1000 := by
    rw [IntKind.wrap_u64, Int.tmod_eq_emod_of_nonneg (by omega), wrap_in (x := m % 18446744073709551616 % 1000) (by omega) (by omega), wrap_in (by omega) (by omega)]
  have z1 : 1 ≤ wrap64 (1 + wrap64 ((IntKind.u64.wrap m).tmod 1000)) := by rw [ez]; omega
  have z2 : wrap64 (1 + wrap64 ((IntKind.u64.wrap m).tmod 1000)) ≤ 1000 := by rw [ez]; omega
  clear ez
  generalize wrap64 (1 + wrap64 ((IntKind.u64.wrap m).tmod 1000)) = z at z1 z2 ⊢
  have e4 : IntKind.u64.wrap z = z := by rw [IntKind.wrap_u64]; omega
  have z0 : ¬ z = 0 := by omega
  refine k1.out.mono ?_
  rintro e w1 ⟨p1, rfl, hD, hb⟩
  have HD1 := hid hD
  have HB1 := hid hb
  clear k1 hD hb
  go_wp2_with fail
  go_loopw [17] (fun k wr => ∃ (j : Nat), j ≤ l.length ∧ k = .int .i64 j ∧ Hid (Dw wr w.heap.size p1 l j) ∧ Hid (Below w.heap.size w wr)) (fun k _ => l.length - (intOf k).toNat)
  case atStart => exact ⟨0, by omega, rfl, HD1, HB1⟩
  case round =>
    have q1 := HD1.out.base
    clear HD1 HB1
    obtain ⟨j, hj, rfl, HD, HB⟩ := hrel
    rename World => wr
    by_cases hjl : j < l.length
    · obtain ⟨b0, o0, rfl, hbl, hc⟩ := (HA.out.below HB.out).cells (by omega)
      have hcj := hc j hjl
      have k4 : Hid (∀ W : World, W.heap = wr.heap → W.os = wr.os → W.tape = wr.tape → W.output = wr.output → Calls Try.prog 5 #[.pointer (some ⟨p1, 0, none⟩), .int .i64 z] W fun e w' => e = .returned (.int .i64 (l.getD j 0 % 18446744073709551616 % z)) ∧ Dw w' w.heap.size p1 l (j + 1) ∧ Below w.heap.size w w') := hid fun W r1 r2 r3 r4 => by
        refine (next_yes W w.heap.size p1 l j z (HD.out.hp r1) z1 (by omega) hjl).mono ?_
        rintro e w' ⟨rfl, h1, h2⟩
        refine ⟨rfl, h1, HB.out.trans ?_⟩
        have := h2.below (B := w.heap.size) (by rw [r1]; exact HB.out.size) (fun x hx => by omega)
        exact ⟨this.os.trans r2, this.tape.trans r3, this.output.trans r4, by have := this.size; rw [r1] at this; exact this, fun k hk => by rw [this.block k hk, r1]⟩
      generalize l.getD j 0 = x at hcj k4
      have e5 : IntKind.u64.wrap x = x % 18446744073709551616 := by rw [IntKind.wrap_u64]
      have e6 : IntKind.i64.wrap (x % 18446744073709551616 % z) = x % 18446744073709551616 % z := by
        have h1 := Int.emod_nonneg (x % 18446744073709551616) z0
        have h2 := Int.emod_lt_of_pos (x % 18446744073709551616) (show 0 < z by omega)
        rw [IntKind.wrap_i64]; omega
      have e7 : wrap64 (x % 18446744073709551616 % z) = x % 18446744073709551616 % z := by
        have h1 := Int.emod_nonneg (x % 18446744073709551616) z0
        have h2 := Int.emod_lt_of_pos (x % 18446744073709551616) (show 0 < z by omega)
        exact wrap_in h1 (by omega)
      have y00 : wr.cell? ⟨p1, 0, none⟩ = some (.bool true) := HD.out.c0
      have hwj : IntKind.i64.wrap ((j : Int) + 1) = (j : Int) + 1 := by rw [IntKind.wrap_i64]; omega
      have f1 : z % 18446744073709551616 = z := by omega
      have f2 : Int.tmod (x % 18446744073709551616) z = x % 18446744073709551616 % z := Int.tmod_eq_emod_of_nonneg (Int.emod_nonneg _ (by omega))
      have f3 : IntKind.u64.wrap (x % 18446744073709551616 % z) = x % 18446744073709551616 % z := by
        have h1 := Int.emod_nonneg (x % 18446744073709551616) z0
        have h2 := Int.emod_lt_of_pos (x % 18446744073709551616) (show 0 < z by omega)
        rw [IntKind.wrap_u64]; omega
      have f4 : x % 18446744073709551616 % z % 18446744073709551616 = x % 18446744073709551616 % z := by rw [← IntKind.wrap_u64]; exact f3
      have f5 : (z == 0) = false := by simpa using z0
      clear hc hbl HD HB
      go_wp2_with fail
      go_region_held3 (fun wx => wx.cell? ⟨p1, 0, none⟩ = some (.bool true)) (go_keep) (first
        | (go_at_call 5; refine (k4.out _ (by rfl) (by rfl) (by rfl) (by rfl)).mono ?_; rintro r w4 ⟨rfl, hD, hb⟩; have HD4 := hid hD; have HB4 := hid hb; have y0 : w4.cell? ⟨p1, 0, none⟩ = some (.bool true) := hD.c0; clear hD hb)
        | (go_at_call 6; refine (used_any _ w.heap.size p1 l (j + 1) (HD4.out.hp (by rfl))).mono ?_; rintro r w5 ⟨rfl, rfl⟩))
      go_wp2_with fail
      go_roundw
      case rel => exact ⟨j + 1, by omega, by go_num, HD4, HB4⟩
      case measure => simp [intOf]; omega
    · obtain rfl : j = l.length := by omega
      have k4 := hid (next_no wr w.heap.size p1 l l.length z HD.out (.inr rfl))
      go_wp2_with fail
      refine k4.out.mono ?_
      rintro e w4 ⟨rfl, n4, rfl⟩
      have k5 := hid (used_any (wr.drewN n4) w.heap.size p1 l l.length (HD.out.hp rfl))
      clear k4
      go_wp2_with fail
      refine k5.out.mono ?_
      rintro e w5 ⟨rfl, rfl⟩
      clear k5
      go_wp2_with fail
      go_ret
      exact ⟨rfl, below_drewN HB.out n4⟩

end Go.Proofs.Ytmieoihjgckfhab
