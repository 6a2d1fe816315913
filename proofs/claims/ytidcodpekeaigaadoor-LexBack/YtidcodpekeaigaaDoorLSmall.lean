/- The small calls of lex: kinds of bytes, the byte at a place, the place behind a run of bytes. -/
import Derived.Test.YtidcodpekeaigaaDoorChecked
import Derived.Test.YtidcodpekeaigaaDoorLaw
import Derived.Test.YtidcodpekeaigaaDoorLPure
import Derived.OwnWalk
namespace Go.Proofs.YtidcodpekeaigaaDoor
open Go.RowKit
set_option linter.unusedVariables false

theorem bool_same {x y : Bool} (h : x = true ↔ y = true) : Ending.returned (Value.bool x) = Ending.returned (Value.bool y) := by rw [Bool.eq_iff_iff.2 h]

theorem isdigit_any (b : Int) (w : World) :
    Calls Tryd.prog 41 #[.int .u8 b] w fun e w' => e = .returned (.bool (isDig b)) ∧ w' = w := by
  go_enter Tryd.func41, Tryd.ntmps41
  go_wp2
  all_goals (go_ret; refine ⟨bool_same ?_, rfl⟩; simp [isDig] <;> omega)

theorem isletter_any (b : Int) (w : World) :
    Calls Tryd.prog 42 #[.int .u8 b] w fun e w' => e = .returned (.bool (isLet b)) ∧ w' = w := by
  go_enter Tryd.func42, Tryd.ntmps42
  go_wp2
  all_goals (go_ret; refine ⟨bool_same ?_, rfl⟩; simp [isLet] <;> omega)

theorem intext_any (b : Int) (w : World) :
    Calls Tryd.prog 36 #[.int .u8 b] w fun e w' => e = .returned (.bool (inTx b)) ∧ w' = w := by
  go_enter Tryd.func36, Tryd.ntmps36
  go_wp2
  all_goals (go_ret; refine ⟨bool_same ?_, rfl⟩; simp [inTx] <;> omega)

theorem inline_any (b : Int) (w : World) :
    Calls Tryd.prog 22 #[.int .u8 b] w fun e w' => e = .returned (.bool (inLn b)) ∧ w' = w := by
  go_enter Tryd.func22, Tryd.ntmps22
  go_wp2
  all_goals (go_ret; refine ⟨bool_same ?_, rfl⟩; simp [inLn])

theorem inname_any (b : Int) (w : World) :
    Calls Tryd.prog 40 #[.int .u8 b] w fun e w' => e = .returned (.bool (inNm b)) ∧ w' = w := by
  go_enter Tryd.func40, Tryd.ntmps40
  go_wp2_with (first | (go_at_call 42; refine (isletter_any _ _).mono ?_; rintro e w' ⟨rfl, rfl⟩) | (go_at_call 41; refine (isdigit_any _ _).mono ?_; rintro e w' ⟨rfl, rfl⟩))
  all_goals (go_ret; refine ⟨bool_same ?_, rfl⟩; simp [inNm, *])

theorem value_any (b : Int) (h : 0 ≤ b ∧ b ≤ 255) (w : World) :
    Calls Tryd.prog 38 #[.int .u8 b] w fun e w' => e = .returned (.int .i64 (val b)) ∧ w' = w := by
  go_enter Tryd.func38, Tryd.ntmps38
  go_wp2_with (go_at_call 41; refine (isdigit_any _ _).mono ?_; rintro e w' ⟨rfl, rfl⟩)
  all_goals (go_ret; refine ⟨?_, rfl⟩; congr 2; simp [isDig] at *; unfold val; (split <;> (try split)) <;> omega)

end Go.Proofs.YtidcodpekeaigaaDoor
