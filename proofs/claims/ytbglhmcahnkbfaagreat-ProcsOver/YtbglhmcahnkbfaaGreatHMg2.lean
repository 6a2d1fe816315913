/- Texts of this seat, merged. -/
import Derived.Lib.EndianBits
import Derived.RowKit

/- Plain facts about numbers as bytes, the lowest first (no program in sight): the bytes of a number, the number of bytes, and that one is the other's way back. -/
namespace Go.Proofs.YtbglhmcahnkbfaaGreat.Lend

/-- All of them are bytes. -/
def Bytes (zs : List Int) : Prop := ∀ z ∈ zs, 0 ≤ z ∧ z ≤ 255
/-- The lowest k bytes of a number, the lowest first. -/
def le (u : Nat) : Nat → List Int
  | 0 => []
  | k + 1 => le u k ++ [((u / 256 ^ k % 256 : Nat) : Int)]
/-- The number as an unsigned one of 64 bits. -/
def un (n : Int) : Nat := (n % 18446744073709551616).toNat
theorem un_cast (n : Int) : (un n : Int) = n % 18446744073709551616 := by unfold un; omega
/-- An unsigned number as one with a sign. -/
theorem back (n : Int) (h0 : -9223372036854775808 ≤ n) (h1 : n ≤ 9223372036854775807) : IntKind.i64.wrap (un n : Int) = n := by
  rw [un_cast, IntKind.wrap_i64]; omega

end Go.Proofs.YtbglhmcahnkbfaaGreat.Lend
