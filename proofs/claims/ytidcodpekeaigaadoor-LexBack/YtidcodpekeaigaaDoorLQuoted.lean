/- The scanner takes a text, or gives up: the walk. -/
import Derived.Test.YtidcodpekeaigaaDoorLTake
namespace Go.Proofs.YtidcodpekeaigaaDoor
open Go.RowKit
set_option linter.unusedVariables false

/-- How a call of the scanner ends: it has passed a token, or it has given up. -/
def Ends (w : World) (p : Nat) (s : ByteArray) (l : List Tok) (r : Stp) (e : Ending) (w' : World) : Prop :=
  match r with
  | .skip k => e = .returned (.tuple #[]) ∧ Sk w' p s k l ∧ Below p w w'
  | .tok t k => e = .returned (.tuple #[]) ∧ Sk w' p s k (l ++ [t]) ∧ Below p w w'
  | .bad j why => e = .panicked [{ v := .iface 56 (.agg #[.int .i64 j, .int .i64 why]), recovered := false }] ∧ Below p w w'

set_option maxHeartbeats 4000000 in
theorem quoted_bad (p i : Nat) (s : ByteArray) (l : List Tok) (w : World) (h : Sk w p s i l) (hi : i < s.size) (hs : s.size ≤ 4000) (hb : ¬ bt s (pass inTx s (i + 1)) = 34) :
    Calls Tryd.prog 24 #[.pointer (some ⟨p, 0, none⟩)] w fun e w' => e = .panicked [{ v := .iface 56 (.agg #[.int .i64 i, .int .i64 121]), recovered := false }] ∧ Below p w w' := by
  obtain ⟨v, hc, ho⟩ := h
  have k1 := hid (passw_any p i (i + 1) 36 inTx tells_text s v w hc hi hs)
  have hpl := pass_le (f := inTx) (s := s) (i := i + 1) hi
  obtain ⟨E, gE⟩ : ∃ E, E = pass inTx s (i + 1) := ⟨_, rfl⟩
  rw [← gE] at k1 hb hpl
  have k2 := hid (byteat_any p i E s v w hc (by omega))
  obtain ⟨b, gb⟩ : ∃ b, b = bt s E := ⟨_, rfl⟩
  rw [← gb] at k2 hb
  have k3 := hid (giveup_any i 121 w)
  have q1 := hc.pl
  have c5 : IntKind.i64.wrap ((i : Int) + 1) = (i : Int) + 1 := by rw [IntKind.wrap_i64]; omega
  have k1' : Hid (Calls Tryd.prog 21 #[.pointer (some ⟨p, 0, none⟩), .int .i64 ((i : Int) + 1), .func (.func 36) #[] #[]] w fun e w' => e = .returned (.int .i64 E) ∧ w' = w) := k1
  clear gE gb hc ho k1
  go_enter Tryd.func24, Tryd.ntmps24
  go_wp2_with fail
  refine k1'.out.mono ?_
  rintro e w1 ⟨rfl, rfl⟩
  go_wp2_with fail
  refine k2.out.mono ?_
  rintro e w1 ⟨rfl, rfl⟩
  go_wp2_with fail
  refine k3.out.mono ?_
  rintro e w1 ⟨rfl, rfl⟩
  go_wp2_with fail
  exact ⟨rfl, rfl, Below.refl _ _⟩

end Go.Proofs.YtidcodpekeaigaaDoor
