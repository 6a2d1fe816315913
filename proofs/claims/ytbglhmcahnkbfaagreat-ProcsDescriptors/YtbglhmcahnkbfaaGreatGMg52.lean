/- Texts of this seat, merged. -/
import Derived.Test.YtbglhmcahnkbfaaGreatGMg46

/- One file opened, installed, duplicated: what the functions without memory come to. -/
namespace Go.Proofs.YtbglhmcahnkbfaaGreat
open Go.RowKit Go.ChangeMaps Go.MapKept
set_option linter.unusedVariables false
set_option maxRecDepth 20000

def dT1 : Ft := ((newT 0).open_ [47, 102] 11).1
def dG1 : Gt := { newG 0 with T := dT1 }
def dG2 : Gt := (dG1.install 1 1).1
def dG3 : Gt := (dG2.dup 1 0).1
def dG4 (t0 : Int) : Gt := (dG3.dup2 1 0 t0).1
def dG5 (t0 : Int) : Gt := ((dG4 t0).close 1 0).1
theorem d_open : ((newT 0).open_ [47, 102] 11).2 = (1, 0) := by kernel_rfl
theorem d_inst : (dG1.install 1 1).2 = (0, 0) := by kernel_rfl
theorem d_dup : (dG2.dup 1 0).2 = (1, 0) := by kernel_rfl
theorem d_dup2 (s : Nat) (hs : s < 6) : (dG3.dup2 1 0 (s : Int)).2 = ((s : Int), 0) ∧ ((dG4 (s : Int)).close 1 0).2 = 0 ∧ (dG5 (s : Int)).file 1 1 = (1, 0) ∧ (s ≠ 0 → (dG5 (s : Int)).file 1 (s : Int) = (1, 0) ∧ (dG5 (s : Int)).file 1 0 = (0, 9) ∧ oiN (dG5 (s : Int)).T.O 11 = 1) := by
  obtain rfl | rfl | rfl | rfl | rfl | rfl : s = 0 ∨ s = 1 ∨ s = 2 ∨ s = 3 ∨ s = 4 ∨ s = 5 := by omega
  · exact ⟨by kernel_rfl, by kernel_rfl, by kernel_rfl, fun h => absurd rfl h⟩
  all_goals exact ⟨by kernel_rfl, by kernel_rfl, by kernel_rfl, fun _ => ⟨by kernel_rfl, by kernel_rfl, by kernel_rfl⟩⟩

end Go.Proofs.YtbglhmcahnkbfaaGreat
