/- What disk's usable, Sectors, has and sector do, of a disk that a call made. -/
import Derived.Test.YtkmnhpnlkmiiiaaGreatDoorDPut2
namespace Go.Proofs.YtkmnhpnlkmiiiaaGreatDoor
open Go.RowKit
set_option linter.unusedVariables false

theorem usable_yes (p : Nat) (a : Addr) (n c : Nat) (w : World) (h0 : w.cell? ⟨p, 0, none⟩ = some (.slice (some a) n c)) (hn : 0 < n) (_hm : n ≤ 9223372036854775807) : Calls Tryz.prog 37 #[.pointer (some ⟨p, 0, none⟩)] w fun e w' => e = .returned (.bool true) ∧ w' = w := by
  have hd : decide ((0 : Int) < (n : Int)) = true := by simp; omega
  go_enter Tryz.func37, Tryz.ntmps37
  go_wp2
  go_ret
  exact ⟨rfl, rfl⟩

theorem sectors_yes (p : Nat) (a : Addr) (n c k : Nat) (w : World) (h0 : w.cell? ⟨p, 0, none⟩ = some (.slice (some a) n c)) (hn : 0 < n) (hm : n ≤ 9223372036854775807) (hk : k = n / 128) : Calls Tryz.prog 42 #[.pointer (some ⟨p, 0, none⟩)] w fun e w' => e = .returned (.int .i64 (k : Int)) ∧ w' = w := by
  have q := hid (usable_yes p a n c w h0 hn hm)
  have K := hid hk
  clear hk
  go_enter Tryz.func42, Tryz.ntmps42
  go_wp2_with fail
  refine q.out.mono ?_
  rintro e w1 ⟨rfl, rfl⟩
  go_wp2_with fail
  go_ret
  rw [K.out]
  exact ⟨rfl, rfl⟩

theorem Dk.ok.cell {d : Dk} {w : World} {p : Nat} (h : d.ok w p) : w.cell? ⟨p, 0, none⟩ = some (.slice (some ⟨d.gd, 0, none⟩) (d.n * 128) d.cd) ∧ w.cell? ⟨p, 1, none⟩ = some (.slice (some ⟨d.gw, 0, none⟩) (d.n * 128) d.cw) ∧ w.cell? ⟨p, 2, none⟩ = some d.ve ∧ w.cell? ⟨p, 3, none⟩ = some (.bool d.opn) := by
  refine ⟨?_, ?_, ?_, ?_⟩ <;> rw [cell_of_row w p _ _ _ _ h.cells] <;> rfl

theorem Dk.ok.frozen {d : Dk} {w : World} {p : Nat} (h : d.ok w p) (j : Nat) : w.frozen? ⟨p, j, none⟩ = false := frozen_of_row w p j _ _ h.cells

theorem dusable (d : Dk) (p : Nat) (w : World) (h : d.ok w p) : Calls Tryz.prog 37 #[.pointer (some ⟨p, 0, none⟩)] w fun e w' => e = .returned (.bool true) ∧ w' = w :=
  usable_yes p _ _ _ w h.cell.1 (by have := h.n1; omega) (by have := h.n2; omega)

theorem dsectors (d : Dk) (p : Nat) (w : World) (h : d.ok w p) : Calls Tryz.prog 42 #[.pointer (some ⟨p, 0, none⟩)] w fun e w' => e = .returned (.int .i64 (d.n : Int)) ∧ w' = w :=
  sectors_yes p _ _ _ d.n w h.cell.1 (by have := h.n1; omega) (by have := h.n2; omega) (by omega)

theorem dhas (d : Dk) (p : Nat) (i : Int) (w : World) (h : d.ok w p) : Calls Tryz.prog 45 #[.pointer (some ⟨p, 0, none⟩), .int .i64 i] w fun e w' => e = .returned (.bool (decide (0 ≤ i ∧ i < d.n))) ∧ w' = w := by
  have k := hid (dsectors d p w h)
  clear h
  by_cases h0 : 0 ≤ i
  · go_enter Tryz.func45, Tryz.ntmps45
    go_wp2_with fail
    refine k.out.mono ?_
    rintro e w1 ⟨rfl, rfl⟩
    go_wp2_with fail
    go_ret
    refine ⟨?_, rfl⟩
    simp [h0]
  · go_enter Tryz.func45, Tryz.ntmps45
    go_wp2_with fail
    go_ret
    refine ⟨?_, rfl⟩
    have h1 : decide ((0 : Int) ≤ i) = false := decide_eq_false (by omega)
    simp [h1]

set_option maxHeartbeats 400000 in
theorem sector_any (g n i c : Nat) (w : World) (hi : i < n) (hn : n ≤ 2048) (hc : n * 128 ≤ c) (hc2 : c ≤ 9223372036854775807) : Calls Tryz.prog 43 #[.slice (some ⟨g, 0, none⟩) (n * 128) c, .int .i64 i] w fun e w' => e = .returned (.slice (some ⟨g, i * 128, none⟩) 128 128) ∧ w' = w := by
  obtain ⟨N, gN⟩ : ∃ N, N = n * 128 := ⟨_, rfl⟩
  rw [← gN]
  rw [← gN] at hc
  have hN : (i + 1) * 128 ≤ N := by omega
  clear gN
  go_enter Tryz.func43, Tryz.ntmps43
  go_wp2
  go_ret
  refine ⟨?_, rfl⟩
  simp [show (i + 1) * 128 - i * 128 = 128 by omega]

end Go.Proofs.YtkmnhpnlkmiiiaaGreatDoor
