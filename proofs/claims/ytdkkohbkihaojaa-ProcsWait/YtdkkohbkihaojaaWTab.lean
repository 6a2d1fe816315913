/- Tables of two processes, the first of which runs; a part of an array. -/
import Derived.Test.YtdkkohbkihaojaaQProc
import Derived.Test.YtdkkohbkihaojaaNNew2
import Derived.Test.YtdkkohbkihaojaaRNews
import Derived.Test.YtdkkohbkihaojaaQRunning
import Derived.Test.YtdkkohbkihaojaaQNob
namespace Go.Proofs.Ytdkkohbkihaojaa
open Go.RowKit
set_option linter.unusedVariables false

/-- The first process, and another one. -/
def tab (s p c : Int) : Nat → Pc := fun i => if i = 1 then ⟨1, 0, 0⟩ else if i = 2 then ⟨s, p, c⟩ else noProc
theorem tab_first : tab 0 0 0 = first := by
  funext i
  simp only [tab, first]
  split
  · rfl
  · split <;> rfl
theorem tab_upd (s p c s' p' c' : Int) : updQ (tab s p c) 2 ⟨s', p', c'⟩ = tab s' p' c' := by
  funext i
  simp only [tab, updQ]
  by_cases h1 : i = 1
  · subst h1; simp
  · by_cases h2 : i = 2 <;> simp [h1, h2]

def tabL (s p c : Int) : List Value := pcells noProc ++ (pcells ⟨1, 0, 0⟩ ++ (pcells ⟨s, p, c⟩ ++ (pcells noProc ++ pcells noProc)))
theorem tabL_len (s p c : Int) : (tabL s p c).length = 45 := by simp [tabL, pcells]
theorem Tq.range {w : World} {q f : Nat} {d s p c : Int} (h : Tq w q f d (tab s p c)) : w.rangeAt q 2 (tabL s p c) := by
  obtain ⟨C, hb, hc⟩ := h
  intro j v hv
  refine cell_list hb ?_
  have hj : j < 45 := by have := (List.getElem?_eq_some_iff.1 hv).1; rwa [tabL_len] at this
  rw [← hv, show 2 + j = 2 + (j / 9) * 9 + j % 9 by omega, hc.at_ (j / 9) (by omega) (j % 9) (by omega)]
  have : j = 0 ∨ j = 1 ∨ j = 2 ∨ j = 3 ∨ j = 4 ∨ j = 5 ∨ j = 6 ∨ j = 7 ∨ j = 8 ∨ j = 9 ∨ j = 10 ∨ j = 11 ∨ j = 12 ∨ j = 13 ∨ j = 14 ∨ j = 15 ∨ j = 16 ∨ j = 17 ∨ j = 18 ∨ j = 19 ∨ j = 20 ∨ j = 21 ∨ j = 22 ∨ j = 23 ∨ j = 24 ∨ j = 25 ∨ j = 26 ∨ j = 27 ∨ j = 28 ∨ j = 29 ∨ j = 30 ∨ j = 31 ∨ j = 32 ∨ j = 33 ∨ j = 34 ∨ j = 35 ∨ j = 36 ∨ j = 37 ∨ j = 38 ∨ j = 39 ∨ j = 40 ∨ j = 41 ∨ j = 42 ∨ j = 43 ∨ j = 44 := by omega
  rcases this with rfl | rfl | rfl | rfl | rfl | rfl | rfl | rfl | rfl | rfl | rfl | rfl | rfl | rfl | rfl | rfl | rfl | rfl | rfl | rfl | rfl | rfl | rfl | rfl | rfl | rfl | rfl | rfl | rfl | rfl | rfl | rfl | rfl | rfl | rfl | rfl | rfl | rfl | rfl | rfl | rfl | rfl | rfl | rfl | rfl <;> rfl

theorem csizeTab : (Try.prog.info? 73).map (·.size) = some 45 := by kernel_rfl
theorem csizeFd : (Try.prog.info? 24).map (·.size) = some 6 := by kernel_rfl
theorem csizePr : (Try.prog.info? 72).map (·.size) = some 9 := by kernel_rfl

def fdL : List Value := [.int .i64 0, .int .i64 0, .int .i64 0, .int .i64 0, .int .i64 0, .int .i64 0]
theorem ixFd0 : (fun W : World => (Instr.index 24 (.agg fdL.toArray) (.int .i64 0)).run Try.prog W) = (fun W : World => .ok (.int .i64 0) W) := by kernel_rfl
theorem ixFd1 : (fun W : World => (Instr.index 24 (.agg fdL.toArray) (.int .i64 1)).run Try.prog W) = (fun W : World => .ok (.int .i64 0) W) := by kernel_rfl
theorem ixFd2 : (fun W : World => (Instr.index 24 (.agg fdL.toArray) (.int .i64 2)).run Try.prog W) = (fun W : World => .ok (.int .i64 0) W) := by kernel_rfl
theorem ixFd3 : (fun W : World => (Instr.index 24 (.agg fdL.toArray) (.int .i64 3)).run Try.prog W) = (fun W : World => .ok (.int .i64 0) W) := by kernel_rfl
theorem ixFd4 : (fun W : World => (Instr.index 24 (.agg fdL.toArray) (.int .i64 4)).run Try.prog W) = (fun W : World => .ok (.int .i64 0) W) := by kernel_rfl
theorem ixFd5 : (fun W : World => (Instr.index 24 (.agg fdL.toArray) (.int .i64 5)).run Try.prog W) = (fun W : World => .ok (.int .i64 0) W) := by kernel_rfl
theorem ixFd (j : Nat) (hj : j < 6) (W : World) : (Instr.index 24 (.agg fdL.toArray) (.int .i64 (j : Int))).run Try.prog W = .ok (.int .i64 0) W := by
  obtain rfl | rfl | rfl | rfl | rfl | rfl : j = 0 ∨ j = 1 ∨ j = 2 ∨ j = 3 ∨ j = 4 ∨ j = 5 := by omega
  · exact congrFun ixFd0 W
  · exact congrFun ixFd1 W
  · exact congrFun ixFd2 W
  · exact congrFun ixFd3 W
  · exact congrFun ixFd4 W
  · exact congrFun ixFd5 W

theorem ixTab0 : (fun (s p c : Int) (W : World) => (Instr.index 73 (.agg (tabL s p c).toArray) (.int .i64 0)).run Try.prog W) = (fun (s p c : Int) (W : World) => .ok (.agg (pcells (tab s p c 0)).toArray) W) := by kernel_rfl
theorem ixTab1 : (fun (s p c : Int) (W : World) => (Instr.index 73 (.agg (tabL s p c).toArray) (.int .i64 1)).run Try.prog W) = (fun (s p c : Int) (W : World) => .ok (.agg (pcells (tab s p c 1)).toArray) W) := by kernel_rfl
theorem ixTab2 : (fun (s p c : Int) (W : World) => (Instr.index 73 (.agg (tabL s p c).toArray) (.int .i64 2)).run Try.prog W) = (fun (s p c : Int) (W : World) => .ok (.agg (pcells (tab s p c 2)).toArray) W) := by kernel_rfl
theorem ixTab3 : (fun (s p c : Int) (W : World) => (Instr.index 73 (.agg (tabL s p c).toArray) (.int .i64 3)).run Try.prog W) = (fun (s p c : Int) (W : World) => .ok (.agg (pcells (tab s p c 3)).toArray) W) := by kernel_rfl
theorem ixTab4 : (fun (s p c : Int) (W : World) => (Instr.index 73 (.agg (tabL s p c).toArray) (.int .i64 4)).run Try.prog W) = (fun (s p c : Int) (W : World) => .ok (.agg (pcells (tab s p c 4)).toArray) W) := by kernel_rfl
theorem ixTab (s p c : Int) (j : Nat) (hj : j < 5) (W : World) : (Instr.index 73 (.agg (tabL s p c).toArray) (.int .i64 (j : Int))).run Try.prog W = .ok (.agg (pcells (tab s p c j)).toArray) W := by
  obtain rfl | rfl | rfl | rfl | rfl : j = 0 ∨ j = 1 ∨ j = 2 ∨ j = 3 ∨ j = 4 := by omega
  · exact congrFun (congrFun (congrFun (congrFun ixTab0 s) p) c) W
  · exact congrFun (congrFun (congrFun (congrFun ixTab1 s) p) c) W
  · exact congrFun (congrFun (congrFun (congrFun ixTab2 s) p) c) W
  · exact congrFun (congrFun (congrFun (congrFun ixTab3 s) p) c) W
  · exact congrFun (congrFun (congrFun (congrFun ixTab4 s) p) c) W

end Go.Proofs.Ytdkkohbkihaojaa
