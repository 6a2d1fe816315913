/- What the program's usable and runs of processes do. -/
import Derived.Test.YtdkkohbkihaojaaQTab
namespace Go.Proofs.Ytdkkohbkihaojaa
open Go.RowKit
set_option linter.unusedVariables false

theorem qusable_yes (p f : Nat) (w : World) (h : w.cell? ⟨p, 0, none⟩ = some (.pointer (some ⟨f, 0, none⟩))) :
    Calls Try.prog 68 #[.pointer (some ⟨p, 0, none⟩)] w fun e w' => e = .returned (.bool true) ∧ w' = w := by
  go_enter Try.func68, Try.ntmps68
  go_wp2
  go_ret
  exact ⟨rfl, rfl⟩
theorem qusable_no (p : Nat) (w : World) (h : w.cell? ⟨p, 0, none⟩ = some (.pointer none)) :
    Calls Try.prog 68 #[.pointer (some ⟨p, 0, none⟩)] w fun e w' => e = .returned (.bool false) ∧ w' = w := by
  go_enter Try.func68, Try.ntmps68
  go_wp2
  go_ret
  exact ⟨rfl, rfl⟩
theorem qusable_nil (w : World) :
    Calls Try.prog 68 #[.pointer none] w fun e w' => e = .returned (.bool false) ∧ w' = w := by
  go_enter Try.func68, Try.ntmps68
  go_wp2
  go_ret
  exact ⟨rfl, rfl⟩

/-- Does a process of this number run? -/
def qruns (P : Nat → Pc) (n : Int) : Bool := decide (1 ≤ n) && decide (n ≤ 4) && decide ((P n.toNat).st = 1)

theorem qruns_any (p f : Nat) (d : Int) (P : Nat → Pc) (n : Int) (b : Bool) (w : World) (h : Tq w p f d P) (hb : b = qruns P n) :
    Calls Try.prog 67 #[.pointer (some ⟨p, 0, none⟩), .int .i64 n] w fun e w' => e = .returned (.bool b) ∧ w' = w := by
  by_cases c1 : n < 1
  · obtain rfl : b = false := by rw [hb]; simp [qruns]; omega
    clear hb h
    go_enter Try.func67, Try.ntmps67
    go_wp2
    go_ret
    exact ⟨rfl, rfl⟩
  · by_cases c2 : 4 < n
    · obtain rfl : b = false := by rw [hb]; simp [qruns]; omega
      clear hb h
      go_enter Try.func67, Try.ntmps67
      go_wp2
      go_ret
      exact ⟨rfl, rfl⟩
    · obtain ⟨i, rfl⟩ := Int.eq_ofNat_of_zero_le (show 0 ≤ n by omega)
      have hs := h.s i (by omega)
      obtain ⟨s, gs⟩ : ∃ s, s = (P i).st := ⟨_, rfl⟩
      obtain rfl : b = decide (s = 1) := by rw [hb, gs]; simp [qruns]; intro _; omega
      rw [← gs] at hs
      have c3 : (0 : Int) ≤ i := by omega
      have c4 : (i : Int) < 5 := by omega
      clear hb h gs
      go_enter Try.func67, Try.ntmps67
      go_wp2
      go_ret
      refine ⟨?_, rfl⟩
      by_cases hs1 : s = 1 <;> simp [hs1]

end Go.Proofs.Ytdkkohbkihaojaa
