/- Draws of the program as they lie, New and Made of them; draws and choices that no call made. -/
import Derived.Test.YtcnickihhjhphaaGreatDoorWInt
import Derived.Deep.WholeRow
import Derived.Deep.QuietTactic
import Derived.BigQuiet
namespace Go.Proofs.YtcnickihhjhphaaGreatDoor
open Go.RowKit
set_option maxRecDepth 20000
set_option linter.unusedVariables false

/-- Draws of the list l, of which u were taken; what they are made of lies from B on, up to p. -/
structure Dw (w : World) (B p : Nat) (l : List Int) (u : Nat) : Prop where
  ex : ∃ a c, w.heap[p]? = some (.cells #[.bool true, .slice a l.length c, .int .i64 u] 31 (0, 0)) ∧ Il w B p a l
  base : B ≤ p
  le : u ≤ l.length
  few : l.length ≤ 1125899906842624

set_option maxHeartbeats 1000000 in
theorem dnew (a : Option Addr) (n c : Nat) (l : List Int) (w : World) (h : Ilst w a n c l) (hn : n ≤ 17592186044416) :
    Calls Tryz.prog 10 #[.slice a n c] w fun e w' => ∃ p, e = .returned (.pointer (some ⟨p, 0, none⟩)) ∧ Dw w' w.heap.size p l 0 ∧ Below w.heap.size w w' := by
  have k1 := hid (iclone a n c l w h hn)
  obtain rfl := h.size
  clear h
  go_enter Tryz.func10, Tryz.ntmps10
  go_wp2_with fail
  refine k1.out.mono ?_
  rintro e w1 ⟨v, rfl, ho, hb⟩
  obtain ⟨a1, c1, rfl, _, _, hI⟩ := own_il ho
  have HI := hid hI
  have HB := hid hb
  clear k1 ho hI hb
  go_wp2_with fail
  go_ret
  have hbw := (Below.refl w1.heap.size w1).alloc (Nat.le_refl _) (.cells #[.bool true, .slice a1 l.length c1, .int .i64 0] 31)
  refine ⟨w1.heap.size, rfl, ⟨⟨a1, c1, heap_alloc_new _ _, HI.out.upd (Upd.of_below (F := fun _ => False) hbw) (fun _ _ _ h => h)⟩, HB.out.size, by omega, by omega⟩, HB.out.trans (hbw.mono HB.out.size)⟩

theorem made_of (w : World) (p : Nat) (b : Bool) (h : w.cell? ⟨p, 0, none⟩ = some (.bool b)) : Calls Tryz.prog 26 #[.pointer (some ⟨p, 0, none⟩)] w fun e w' => e = .returned (.bool b) ∧ w' = w := by
  go_enter Tryz.func26, Tryz.ntmps26
  go_wp2_with fail
  go_ret
  exact ⟨rfl, rfl⟩
theorem made_nil (w : World) : Calls Tryz.prog 26 #[.pointer none] w fun e w' => e = .returned (.bool false) ∧ w' = w := by
  go_enter Tryz.func26, Tryz.ntmps26
  go_wp2_with fail
  go_ret
  exact ⟨rfl, rfl⟩

theorem Dw.c0 {w : World} {B p : Nat} {l : List Int} {u : Nat} (h : Dw w B p l u) : w.cell? ⟨p, 0, none⟩ = some (.bool true) := by
  obtain ⟨a, c, h1, _⟩ := h.ex
  rw [cell_of_row w p 0 _ 31 (0, 0) h1]; rfl
/-- Nothing that a call made: nil, or one whose first field is false. -/
def Nob (w : World) (d : Value) : Prop := d = .pointer none ∨ ∃ z, d = .pointer (some ⟨z, 0, none⟩) ∧ z < w.heap.size ∧ w.cell? ⟨z, 0, none⟩ = some (.bool false)
theorem Nob.below {w w' : World} {d : Value} (h : Nob w d) (hb : Below w.heap.size w w') : Nob w' d := by
  rcases h with h | ⟨z, h, hz, hc⟩
  · exact .inl h
  · exact .inr ⟨z, h, Nat.lt_of_lt_of_le hz hb.size, (hb.cell (p := ⟨z, 0, none⟩) hz).trans hc⟩

theorem made_nob (w : World) (d : Value) (h : Nob w d) : Calls Tryz.prog 26 #[d] w fun e w' => e = .returned (.bool false) ∧ w' = w := by
  rcases h with rfl | ⟨z, rfl, _, hc⟩
  · exact made_nil w
  · exact made_of w z false hc

theorem cmade_of (w : World) (p : Nat) (b : Bool) (h : w.cell? ⟨p, 0, none⟩ = some (.bool b)) : Calls Tryz.prog 27 #[.pointer (some ⟨p, 0, none⟩)] w fun e w' => e = .returned (.bool b) ∧ w' = w := by
  go_enter Tryz.func27, Tryz.ntmps27
  go_wp2_with fail
  go_ret
  exact ⟨rfl, rfl⟩
theorem cmade_nob (w : World) (c : Value) (h : Nob w c) : Calls Tryz.prog 27 #[c] w fun e w' => e = .returned (.bool false) ∧ w' = w := by
  rcases h with rfl | ⟨z, rfl, _, hc⟩
  · go_enter Tryz.func27, Tryz.ntmps27
    go_wp2_with fail
    go_ret
    exact ⟨rfl, rfl⟩
  · exact cmade_of w z false hc

end Go.Proofs.YtcnickihhjhphaaGreatDoor
