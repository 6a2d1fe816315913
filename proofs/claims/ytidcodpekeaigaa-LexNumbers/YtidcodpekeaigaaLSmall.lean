/- The small calls of lex: kinds of bytes, the byte at a place, the place behind a run of bytes. -/
import Derived.Test.YtidcodpekeaigaaChecked
import Derived.Test.YtidcodpekeaigaaLaw
import Derived.Test.YtidcodpekeaigaaLPure
import Derived.OwnWalk
namespace Go.Proofs.Ytidcodpekeaigaa
open Go.RowKit
set_option linter.unusedVariables false

theorem bool_same {x y : Bool} (h : x = true ↔ y = true) : Ending.returned (Value.bool x) = Ending.returned (Value.bool y) := by rw [Bool.eq_iff_iff.2 h]

theorem isdigit_any (b : Int) (w : World) :
    Calls Try.prog 40 #[.int .u8 b] w fun e w' => e = .returned (.bool (isDig b)) ∧ w' = w := by
  go_enter Try.func40, Try.ntmps40
  go_wp2
  all_goals (go_ret; refine ⟨bool_same ?_, rfl⟩; simp [isDig] <;> omega)

theorem isletter_any (b : Int) (w : World) :
    Calls Try.prog 41 #[.int .u8 b] w fun e w' => e = .returned (.bool (isLet b)) ∧ w' = w := by
  go_enter Try.func41, Try.ntmps41
  go_wp2
  all_goals (go_ret; refine ⟨bool_same ?_, rfl⟩; simp [isLet] <;> omega)

theorem intext_any (b : Int) (w : World) :
    Calls Try.prog 35 #[.int .u8 b] w fun e w' => e = .returned (.bool (inTx b)) ∧ w' = w := by
  go_enter Try.func35, Try.ntmps35
  go_wp2
  all_goals (go_ret; refine ⟨bool_same ?_, rfl⟩; simp [inTx] <;> omega)

theorem inline_any (b : Int) (w : World) :
    Calls Try.prog 23 #[.int .u8 b] w fun e w' => e = .returned (.bool (inLn b)) ∧ w' = w := by
  go_enter Try.func23, Try.ntmps23
  go_wp2
  all_goals (go_ret; refine ⟨bool_same ?_, rfl⟩; simp [inLn])

theorem inname_any (b : Int) (w : World) :
    Calls Try.prog 39 #[.int .u8 b] w fun e w' => e = .returned (.bool (inNm b)) ∧ w' = w := by
  go_enter Try.func39, Try.ntmps39
  go_wp2_with (first | (go_at_call 41; refine (isletter_any _ _).mono ?_; rintro e w' ⟨rfl, rfl⟩) | (go_at_call 40; refine (isdigit_any _ _).mono ?_; rintro e w' ⟨rfl, rfl⟩))
  all_goals (go_ret; refine ⟨bool_same ?_, rfl⟩; simp [inNm, *])

theorem value_any (b : Int) (h : 0 ≤ b ∧ b ≤ 255) (w : World) :
    Calls Try.prog 37 #[.int .u8 b] w fun e w' => e = .returned (.int .i64 (val b)) ∧ w' = w := by
  go_enter Try.func37, Try.ntmps37
  go_wp2_with (go_at_call 40; refine (isdigit_any _ _).mono ?_; rintro e w' ⟨rfl, rfl⟩)
  all_goals (go_ret; refine ⟨?_, rfl⟩; congr 2; simp [isDig] at *; unfold val; (split <;> (try split)) <;> omega)

end Go.Proofs.Ytidcodpekeaigaa
