/- What disk.Read does, of a disk that a call made; and Write, where it refuses. -/
import Derived.Test.YtkmnhpnlkmiiiaaGreatDoorQPic2
import Derived.Test.YtkmnhpnlkmiiiaaGreatDoorDWrite
namespace Go.Proofs.YtkmnhpnlkmiiiaaGreatDoor
open Go.RowKit
set_option linter.unusedVariables false

set_option maxHeartbeats 1000000 in
theorem dread (d : Dk) (p i : Nat) (w : World) (hok : d.ok w p) (hi : i < d.n) :
    Calls Tryz.prog 19 #[.pointer (some ⟨p, 0, none⟩), .int .i64 i] w fun e w' => ∃ g c, e = .returned (.tuple #[.slice (some ⟨g, 0, none⟩) 128 c, .int .i64 0]) ∧
      w'.ownsRow w.heap.size 5 1 (.slice (some ⟨g, 0, none⟩) 128 c) 128 ((sec d.wr i).map (Value.int .u8)) ∧ Below w.heap.size w w' := by
  have k1 := hid (dusable d p w hok)
  have k2 := hid (dhas d p i w hok)
  rw [show decide ((0 : Int) ≤ (i : Int) ∧ (i : Int) < (d.n : Int)) = true from decide_eq_true ⟨by omega, by omega⟩] at k2
  obtain ⟨c0, c1, c2, c3⟩ := hok.cell
  obtain ⟨hce1, hce2⟩ : d.n * 128 ≤ d.cw ∧ d.cw ≤ 9223372036854775807 := by
    obtain ⟨ae, ce, hve, h1, h2⟩ := own_shape hok.wr
    injection hve with _ _ e
    subst e
    exact ⟨h1, h2⟩
  have k3 := hid (sector_any d.gw d.n i d.cw w hi hok.n2 hce1 hce2)
  have k4 := hid (sclone_any ⟨d.gw, i * 128, none⟩ 128 128 (sec d.wr i) w (src_sec hok.wr rfl hi) (by omega))
  obtain ⟨N, gN⟩ : ∃ N, N = d.n * 128 := ⟨_, rfl⟩
  rw [← gN] at k3 c1
  obtain ⟨S, gS⟩ : ∃ S, S = sec d.wr i := ⟨_, rfl⟩
  rw [← gS] at k4 ⊢
  clear c0 c2 c3 hok gN gS hce1 hce2
  go_enter Tryz.func19, Tryz.ntmps19
  go_wp2_with fail
  refine k1.out.mono ?_
  rintro r w1 ⟨rfl, rfl⟩
  go_wp2_with fail
  refine k2.out.mono ?_
  rintro r w1 ⟨rfl, rfl⟩
  go_wp2_with fail
  refine k3.out.mono ?_
  rintro r w1 ⟨rfl, rfl⟩
  go_wp2_with fail
  refine k4.out.mono ?_
  rintro r w1 ⟨g, c, rfl, hown, hb⟩
  have HO := hid hown
  clear hown
  go_wp2_with fail
  go_ret2
  exact ⟨g, c, rfl, HO.out, hb⟩

theorem dread_no (d : Dk) (p : Nat) (i : Int) (w : World) (hok : d.ok w p) (hi : ¬ (0 ≤ i ∧ i < d.n)) :
    Calls Tryz.prog 19 #[.pointer (some ⟨p, 0, none⟩), .int .i64 i] w fun e w' => e = .returned (.tuple #[.slice none 0 0, .int .i64 1]) ∧ w' = w := by
  have k1 := hid (dusable d p w hok)
  have k2 := hid (dhas d p i w hok)
  rw [show decide ((0 : Int) ≤ i ∧ i < (d.n : Int)) = false from decide_eq_false hi] at k2
  clear hok hi
  go_enter Tryz.func19, Tryz.ntmps19
  go_wp2_with fail
  refine k1.out.mono ?_
  rintro r w1 ⟨rfl, rfl⟩
  go_wp2_with fail
  refine k2.out.mono ?_
  rintro r w1 ⟨rfl, rfl⟩
  go_wp2_with fail
  go_ret2
  exact ⟨rfl, rfl⟩

theorem write_no (d : Dk) (p : Nat) (i : Int) (ab : Option Addr) (lb cb : Nat) (w : World) (hok : d.ok w p) (hi : ¬ (0 ≤ i ∧ i < d.n)) :
    Calls Tryz.prog 73 #[.pointer (some ⟨p, 0, none⟩), .int .i64 i, .slice ab lb cb] w fun e w' => e = .returned (.int .i64 1) ∧ w' = w := by
  have k1 := hid (dusable d p w hok)
  have k2 := hid (dhas d p i w hok)
  rw [show decide ((0 : Int) ≤ i ∧ i < (d.n : Int)) = false from decide_eq_false hi] at k2
  clear hok hi
  go_enter Tryz.func73, Tryz.ntmps73
  go_wp2_with fail
  refine k1.out.mono ?_
  rintro r w1 ⟨rfl, rfl⟩
  go_wp2_with fail
  refine k2.out.mono ?_
  rintro r w1 ⟨rfl, rfl⟩
  go_wp2_with fail
  go_ret
  exact ⟨rfl, rfl⟩

theorem write_len (d : Dk) (p i : Nat) (ab : Option Addr) (lb cb : Nat) (w : World) (hok : d.ok w p) (hi : i < d.n) (hl : lb ≠ 128) :
    Calls Tryz.prog 73 #[.pointer (some ⟨p, 0, none⟩), .int .i64 i, .slice ab lb cb] w fun e w' => e = .returned (.int .i64 1) ∧ w' = w := by
  have k1 := hid (dusable d p w hok)
  have k2 := hid (dhas d p i w hok)
  rw [show decide ((0 : Int) ≤ (i : Int) ∧ (i : Int) < (d.n : Int)) = true from decide_eq_true ⟨by omega, by omega⟩] at k2
  have hl2 : ¬ ((lb : Int) = 128) := by omega
  clear hok hi
  go_enter Tryz.func73, Tryz.ntmps73
  go_wp2_with fail
  refine k1.out.mono ?_
  rintro r w1 ⟨rfl, rfl⟩
  go_wp2_with fail
  refine k2.out.mono ?_
  rintro r w1 ⟨rfl, rfl⟩
  go_wp2_with fail
  go_ret
  exact ⟨rfl, rfl⟩

end Go.Proofs.YtkmnhpnlkmiiiaaGreatDoor
