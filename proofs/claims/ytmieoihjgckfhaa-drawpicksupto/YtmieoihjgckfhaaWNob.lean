/- Draws and choices that no call made: what the calls on them answer. -/
import Derived.Test.YtmieoihjgckfhaaWDraw
namespace Go.Proofs.Ytmieoihjgckfhaa
open Go.RowKit
set_option linter.unusedVariables false
set_option maxRecDepth 20000

/-- Nothing that a call made: nil, or one whose first field is false. -/
def Nob (w : World) (d : Value) : Prop := d = .pointer none ∨ ∃ z, d = .pointer (some ⟨z, 0, none⟩) ∧ z < w.heap.size ∧ w.cell? ⟨z, 0, none⟩ = some (.bool false)
theorem Nob.below {w w' : World} {d : Value} (h : Nob w d) (hb : Below w.heap.size w w') : Nob w' d := by
  rcases h with h | ⟨z, h, hz, hc⟩
  · exact .inl h
  · exact .inr ⟨z, h, Nat.lt_of_lt_of_le hz hb.size, (hb.cell (p := ⟨z, 0, none⟩) hz).trans hc⟩

theorem made_nob (w : World) (d : Value) (h : Nob w d) : Calls Try.prog 22 #[d] w fun e w' => e = .returned (.bool false) ∧ w' = w := by
  rcases h with rfl | ⟨z, rfl, _, hc⟩
  · exact made_nil w
  · exact made_of w z false hc

set_option maxHeartbeats 1000000 in
theorem next_nob (w : World) (d : Value) (n : Int) (h : Nob w d) : Calls Try.prog 12 #[d, .int .i64 n] w fun e w' => e = .returned (.int .i64 0) ∧ ∃ m, w' = w.drewN m := by
  have k : Hid (∀ m : Nat, Calls Try.prog 22 #[d] (w.drewN m) fun e w' => e = .returned (.bool false) ∧ w' = w.drewN m) := hid fun m => made_nob (w.drewN m) d h
  clear h
  go_enter Try.func12, Try.ntmps12
  go_wp2_with fail
  go_quiet ((go_at_call 22; exact Calls.quiet_of_same (k.out _)))
  go_wp2_with fail
  go_ret
  exact ⟨rfl, nq, rfl⟩

set_option maxHeartbeats 1000000 in
theorem used_nob (w : World) (d : Value) (h : Nob w d) : Calls Try.prog 14 #[d] w fun e w' => e = .returned (.int .i64 0) ∧ w' = w := by
  have k := hid (made_nob w d h)
  clear h
  go_enter Try.func14, Try.ntmps14
  go_wp2_with fail
  refine k.out.mono ?_
  rintro e w1 ⟨rfl, rfl⟩
  clear k
  go_wp2_with fail
  go_ret
  exact ⟨rfl, rfl⟩

theorem cmade_of (w : World) (p : Nat) (b : Bool) (h : w.cell? ⟨p, 0, none⟩ = some (.bool b)) : Calls Try.prog 25 #[.pointer (some ⟨p, 0, none⟩)] w fun e w' => e = .returned (.bool b) ∧ w' = w := by
  go_enter Try.func25, Try.ntmps25
  go_wp2_with fail
  go_ret
  exact ⟨rfl, rfl⟩
theorem cmade_nob (w : World) (c : Value) (h : Nob w c) : Calls Try.prog 25 #[c] w fun e w' => e = .returned (.bool false) ∧ w' = w := by
  rcases h with rfl | ⟨z, rfl, _, hc⟩
  · go_enter Try.func25, Try.ntmps25
    go_wp2_with fail
    go_ret
    exact ⟨rfl, rfl⟩
  · exact cmade_of w z false hc

set_option maxHeartbeats 1000000 in
theorem pick_dnob (w : World) (p : Nat) (d : Value) (n : Int) (h : Nob w d) (hp : w.cell? ⟨p, 0, none⟩ = some (.bool true)) : Calls Try.prog 20 #[.pointer (some ⟨p, 0, none⟩), d, .int .i64 n] w fun e w' => e = .returned (.tuple #[.int .i64 0, .bool false]) ∧ w' = w := by
  have k1 := hid (cmade_of w p true hp)
  have k2 := hid (made_nob w d h)
  clear h hp
  go_enter Try.func20, Try.ntmps20
  go_wp2_with fail
  refine k1.out.mono ?_
  rintro e w1 ⟨rfl, rfl⟩
  clear k1
  go_wp2_with fail
  refine k2.out.mono ?_
  rintro e w1 ⟨rfl, rfl⟩
  clear k2
  go_wp2_with fail
  go_ret2
  exact ⟨rfl, rfl⟩

set_option maxHeartbeats 1000000 in
theorem pick_cnob (w : World) (c d : Value) (n : Int) (h : Nob w c) : Calls Try.prog 20 #[c, d, .int .i64 n] w fun e w' => e = .returned (.tuple #[.int .i64 0, .bool false]) ∧ w' = w := by
  have k1 := hid (cmade_nob w c h)
  clear h
  go_enter Try.func20, Try.ntmps20
  go_wp2_with fail
  refine k1.out.mono ?_
  rintro e w1 ⟨rfl, rfl⟩
  clear k1
  go_wp2_with fail
  go_ret2
  exact ⟨rfl, rfl⟩

set_option maxHeartbeats 1000000 in
theorem weight_nob (w : World) (c : Value) (a b : Int) (h : Nob w c) : Calls Try.prog 18 #[c, .int .i64 a, .int .i64 b] w fun e w' => e = .returned (.int .i64 0) ∧ w' = w := by
  have k1 := hid (cmade_nob w c h)
  clear h
  go_enter Try.func18, Try.ntmps18
  go_wp2_with fail
  all_goals
    refine k1.out.mono ?_
    rintro e w1 ⟨rfl, rfl⟩
    clear k1
    go_wp2_with fail
    go_ret
    exact ⟨rfl, rfl⟩

/-- A new block of one number is a list of it. -/
theorem one_ilst' (w : World) (z : Int) : Ilst (w.alloc (.cells #[.int .i64 z] 3)) (some ⟨w.heap.size, 0, none⟩) 1 1 [z] :=
  ⟨rfl, fun _ => ⟨w.heap.size, 0, rfl, by simp, fun j hj => by
    obtain rfl : j = 0 := by omega
    rw [Nat.zero_add, cell_of_row _ _ 0 _ 3 (0, 0) (heap_alloc_new w _)]; rfl⟩, fun h => by cases h⟩

end Go.Proofs.Ytmieoihjgckfhaa
