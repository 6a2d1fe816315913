/- What the program's process does: a process that runs, or the error. -/
import Derived.Test.YtdkkohbkihaojaaQRun
namespace Go.Proofs.Ytdkkohbkihaojaa
open Go.RowKit
set_option linter.unusedVariables false

theorem qproc_yes (p f i : Nat) (d : Int) (P : Nat → Pc) (w : World) (h : Tq w p f d P) (hr : qruns P (i : Int) = true) :
    Calls Try.prog 61 #[.pointer (some ⟨p, 0, none⟩), .int .i64 (i : Int)] w fun e w' => e = .returned (.tuple #[.pointer (some ⟨p, 2 + i * 9, none⟩), .int .i64 0]) ∧ w' = w := by
  have k1 := hid (qusable_yes p f w h.fl)
  have k2 := hid (qruns_any p f d P i true w h hr.symm)
  have hi : 1 ≤ i ∧ i ≤ 4 := by simp [qruns] at hr; omega
  have c3 : (0 : Int) ≤ i := by omega
  have c4 : (i : Int) < 5 := by omega
  clear h hr
  go_enter Try.func61, Try.ntmps61
  go_wp2_with fail
  refine k1.out.mono ?_
  rintro e w1 ⟨rfl, rfl⟩
  go_wp2_with fail
  refine k2.out.mono ?_
  rintro e w1 ⟨rfl, rfl⟩
  go_wp2_with fail
  go_ret2
  exact ⟨rfl, rfl⟩

theorem qproc_no (p f : Nat) (d n : Int) (P : Nat → Pc) (w : World) (h : Tq w p f d P) (hr : qruns P n = false) :
    Calls Try.prog 61 #[.pointer (some ⟨p, 0, none⟩), .int .i64 n] w fun e w' => e = .returned (.tuple #[.pointer none, .int .i64 3]) ∧ w' = w := by
  have k1 := hid (qusable_yes p f w h.fl)
  have k2 := hid (qruns_any p f d P n false w h hr.symm)
  clear h hr
  go_enter Try.func61, Try.ntmps61
  go_wp2_with fail
  refine k1.out.mono ?_
  rintro e w1 ⟨rfl, rfl⟩
  go_wp2_with fail
  refine k2.out.mono ?_
  rintro e w1 ⟨rfl, rfl⟩
  go_wp2_with fail
  go_ret2
  exact ⟨rfl, rfl⟩

theorem qproc_nobody (x : Option Addr) (n : Int) (w : World) (h : Calls Try.prog 68 #[.pointer x] w fun e w' => e = .returned (.bool false) ∧ w' = w) :
    Calls Try.prog 61 #[.pointer x, .int .i64 n] w fun e w' => e = .returned (.tuple #[.pointer none, .int .i64 22]) ∧ w' = w := by
  have k1 := hid h
  clear h
  go_enter Try.func61, Try.ntmps61
  go_wp2_with fail
  refine k1.out.mono ?_
  rintro e w1 ⟨rfl, rfl⟩
  go_wp2_with fail
  go_ret2
  exact ⟨rfl, rfl⟩

end Go.Proofs.Ytdkkohbkihaojaa
