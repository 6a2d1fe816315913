/- Texts of this seat, merged. -/
import Derived.Test.YtbglhmcahnkbfaaGreatChecked
import Derived.Test.YtbglhmcahnkbfaaGreatHMg1
import Derived.Test.YtbglhmcahnkbfaaGreatHMg2
import Derived.Test.YtbglhmcahnkbfaaGreatHMg6
import Derived.Laws.Tables
import Derived.Deep.WholeRow
import Derived.Deep.MidRow

/- The pipes of the program as they lie (one block of 57 cells: two bools, five pipes of eleven cells), and what pipes.New, usable, isThere, isFull, pipe do. -/
namespace Go.Proofs.YtbglhmcahnkbfaaGreat.Pi
open Go.RowKit Lend
set_option linter.unusedVariables false
set_option maxRecDepth 20000

/-- A pipe: how many readers, writers, and the bytes that wait. -/
structure Pp where
  r : Nat
  w : Nat
  q : List Int

def Pp.there (x : Pp) : Bool := decide (0 < x.r) || decide (0 < x.w)

/-- The cells of a table. -/
structure Cls (C : List Value) (k : Bool) (P : Nat → Pp) : Prop where
  len : C.length = 57
  made : C[0]? = some (.bool true)
  keep : C[1]? = some (.bool k)
  r : ∀ i, i < 5 → C[2 + i * 11]? = some (.int .i64 (P i).r)
  w : ∀ i, i < 5 → C[2 + i * 11 + 1]? = some (.int .i64 (P i).w)
  n : ∀ i, i < 5 → C[2 + i * 11 + 2]? = some (.int .i64 (P i).q.length)
  le : ∀ i, i < 5 → (P i).q.length ≤ 8
  b : ∀ i, i < 5 → ∀ j, j < 8 → ∃ z, C[2 + i * 11 + 3 + j]? = some (.int .u8 z) ∧ (j < (P i).q.length → z = (P i).q.getD j 0)

/-- A table that a call made. -/
def Tb (w : World) (p : Nat) (k : Bool) (P : Nat → Pp) : Prop := ∃ C, w.heap[p]? = some (.cells (List.toArray C) 157 (0, 0)) ∧ Cls C k P

theorem Tb.lt {w : World} {p : Nat} {k : Bool} {P : Nat → Pp} (h : Tb w p k P) : p < w.heap.size := by
  obtain ⟨C, h, _⟩ := h; exact (Array.getElem?_eq_some_iff.1 h).1
theorem Tb.upd {F : Nat → Prop} {w w' : World} {p : Nat} {k : Bool} {P : Nat → Pp} (h : Tb w p k P) (u : Upd F w w') (hF : ¬ F p) : Tb w' p k P := by
  obtain ⟨C, h, hc⟩ := h; exact ⟨C, u.heap h hF, hc⟩
theorem Tb.below {B : Nat} {w w' : World} {p : Nat} {k : Bool} {P : Nat → Pp} (h : Tb w p k P) (u : Below B w w') (hF : p < B) : Tb w' p k P := by
  obtain ⟨C, h, hc⟩ := h; exact ⟨C, by rw [u.block p hF]; exact h, hc⟩
theorem Tb.hp {w w' : World} {p : Nat} {k : Bool} {P : Nat → Pp} (h : Tb w p k P) (e : w'.heap = w.heap) : Tb w' p k P := by
  obtain ⟨C, h, hc⟩ := h; exact ⟨C, by rw [e]; exact h, hc⟩
theorem cell_list {w : World} {p j : Nat} {C : List Value} {v : Value} (h : w.heap[p]? = some (.cells C.toArray 157 (0, 0))) (hc : C[j]? = some v) : w.cell? ⟨p, j, none⟩ = some v := by
  rw [cell_of_row w p j _ 157 (0, 0) h]; simpa using hc
theorem Tb.made {w : World} {p : Nat} {k : Bool} {P : Nat → Pp} (h : Tb w p k P) : w.cell? ⟨p, 0, none⟩ = some (.bool true) := by
  obtain ⟨C, h, hc⟩ := h; exact cell_list h hc.made
theorem Tb.keep {w : World} {p : Nat} {k : Bool} {P : Nat → Pp} (h : Tb w p k P) : w.cell? ⟨p, 1, none⟩ = some (.bool k) := by
  obtain ⟨C, h, hc⟩ := h; exact cell_list h hc.keep
theorem Tb.r {w : World} {p : Nat} {k : Bool} {P : Nat → Pp} (h : Tb w p k P) (i : Nat) (hi : i < 5) : w.cell? ⟨p, 2 + i * 11, none⟩ = some (.int .i64 (P i).r) := by
  obtain ⟨C, h, hc⟩ := h; exact cell_list h (hc.r i hi)
theorem Tb.w {w : World} {p : Nat} {k : Bool} {P : Nat → Pp} (h : Tb w p k P) (i : Nat) (hi : i < 5) : w.cell? ⟨p, 2 + i * 11 + 1, none⟩ = some (.int .i64 (P i).w) := by
  obtain ⟨C, h, hc⟩ := h; exact cell_list h (hc.w i hi)
/-- No pipes. -/
def noPipes : Nat → Pp := fun _ => ⟨0, 0, []⟩

theorem cls_new (k : Bool) : Cls (.bool true :: .bool k :: (List.replicate 5 ([.int .i64 0, .int .i64 0, .int .i64 0] ++ List.replicate 8 (.int .u8 0))).flatten) k noPipes := by
  refine ⟨rfl, rfl, rfl, ?_, ?_, ?_, fun i _ => by simp [noPipes], ?_⟩
  · intro i hi
    obtain rfl | rfl | rfl | rfl | rfl : i = 0 ∨ i = 1 ∨ i = 2 ∨ i = 3 ∨ i = 4 := by omega
    all_goals rfl
  · intro i hi
    obtain rfl | rfl | rfl | rfl | rfl : i = 0 ∨ i = 1 ∨ i = 2 ∨ i = 3 ∨ i = 4 := by omega
    all_goals rfl
  · intro i hi
    obtain rfl | rfl | rfl | rfl | rfl : i = 0 ∨ i = 1 ∨ i = 2 ∨ i = 3 ∨ i = 4 := by omega
    all_goals rfl
  · intro i hi j hj
    refine ⟨0, ?_, fun h => absurd h (by simp [noPipes])⟩
    obtain rfl | rfl | rfl | rfl | rfl : i = 0 ∨ i = 1 ∨ i = 2 ∨ i = 3 ∨ i = 4 := by omega
    all_goals (obtain rfl | rfl | rfl | rfl | rfl | rfl | rfl | rfl : j = 0 ∨ j = 1 ∨ j = 2 ∨ j = 3 ∨ j = 4 ∨ j = 5 ∨ j = 6 ∨ j = 7 := by omega)
    all_goals rfl

/-- Does a number have the defect's bit? -/
def bit8 (d : Int) : Bool := bits .and .i64 d 8 != 0

set_option maxHeartbeats 1000000 in
theorem pnew_any (d : Int) (w : World) :
    Calls Tryz.prog 66 #[.int .i64 d] w fun e w' => e = .returned (.pointer (some ⟨w.heap.size, 0, none⟩)) ∧ Tb w' w.heap.size (bit8 d) noPipes ∧ Below w.heap.size w w' ∧ w'.heap.size = w.heap.size + 1 := by
  go_enter Tryz.func66, Tryz.ntmps66
  go_wp2
  go_ret
  exact ⟨rfl, ⟨_, by rw [heap_alloc_new w]; rfl, cls_new (bit8 d)⟩, (Below.refl _ _).alloc (Nat.le_refl _) _, by simp⟩

theorem usable_yes (p : Nat) (w : World) (h : w.cell? ⟨p, 0, none⟩ = some (.bool true)) :
    Calls Tryz.prog 121 #[.pointer (some ⟨p, 0, none⟩)] w fun e w' => e = .returned (.bool true) ∧ w' = w := by
  go_enter Tryz.func121, Tryz.ntmps121
  go_wp2
  go_ret
  exact ⟨rfl, rfl⟩
theorem isthere_any (p o r v : Nat) (b : Bool) (w : World) (h0 : w.cell? ⟨p, o, none⟩ = some (.int .i64 r)) (h1 : w.cell? ⟨p, o + 1, none⟩ = some (.int .i64 v)) (hb : b = (decide (0 < r) || decide (0 < v))) :
    Calls Tryz.prog 122 #[.pointer (some ⟨p, o, none⟩)] w fun e w' => e = .returned (.bool b) ∧ w' = w := by
  by_cases c : 0 < r
  · have c' : (0 : Int) < (r : Int) := by omega
    have e : b = true := by rw [hb]; simp [c]
    subst e
    clear hb
    go_enter Tryz.func122, Tryz.ntmps122
    go_wp2
    go_ret
    exact ⟨rfl, rfl⟩
  · have c' : ¬ (0 : Int) < (r : Int) := by omega
    have e : b = decide ((0 : Int) < (v : Int)) := by rw [hb]; simp [c]
    subst e
    clear hb
    go_enter Tryz.func122, Tryz.ntmps122
    go_wp2
    go_ret
    exact ⟨rfl, rfl⟩

theorem ends_any (p o : Nat) (b : Bool) (w : World) :
    Calls Tryz.prog 205 #[.pointer (some ⟨p, o, none⟩), .bool b] w fun e w' => e = .returned (.pointer (some ⟨p, o + (if b then 1 else 0), none⟩)) ∧ w' = w := by
  cases b
  · go_enter Tryz.func205, Tryz.ntmps205
    go_wp2
    go_ret
    exact ⟨rfl, rfl⟩
  · go_enter Tryz.func205, Tryz.ntmps205
    go_wp2
    go_ret
    exact ⟨rfl, rfl⟩

end Go.Proofs.YtbglhmcahnkbfaaGreat.Pi
