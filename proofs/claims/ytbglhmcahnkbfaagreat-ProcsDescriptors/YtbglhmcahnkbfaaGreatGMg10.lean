/- Texts of this seat, merged. -/
import Derived.Test.YtbglhmcahnkbfaaGreatChecked
import Derived.Test.YtbglhmcahnkbfaaGreatGMg1
import Derived.Laws.BytesArg

/- What bytes.Equal does with bytes that are the same: it tells so; nothing turns. -/
namespace Go.Proofs.YtbglhmcahnkbfaaGreat
open Go.RowKit
set_option maxRecDepth 20000

/-- Bytes, turned into a text. -/
theorem Src.convert {P : Program} {w : World} {a0 : Option Addr} {len : Nat} {zs : List Int} (h : Src w a0 len zs) (c : Nat) (src e dst : TypeId)
    (hs : P.underlying src = some (.slice e)) (he : P.underlying e = some (.int .u8)) (hd : P.underlying dst = some .string) :
    (convert src dst (.slice a0 len c)).run P w = .ok (.string (strOfNums zs)) w := by
  rcases Nat.eq_zero_or_pos len with h0 | h0
  · subst h0
    obtain rfl : zs = [] := List.eq_nil_of_length_eq_zero h.1
    cases a0 with
    | none =>
      rw [run_convert_bytes_nil w src e hs he 0 c dst hd]
      rfl
    | some a =>
      rw [run_convert_bytes_string w src dst e _ 0 c hs he hd, run_bytesToString w _ 0 c [] (by rfl)]
      rfl
  · obtain ⟨b, o, rfl, _, hc⟩ := h.2 h0
    exact run_convert_bytes_arg (P := P) w src e hs he b o len c zs h.1 hc dst hd

end Go.Proofs.YtbglhmcahnkbfaaGreat
