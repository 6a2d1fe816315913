/- Texts of this seat, merged. -/
import Derived.Lib.EndianBits
import Derived.RowKit

/- Plain facts about numbers as bytes, the lowest first (no program in sight): the bytes of a number, the number of bytes, and that one is the other's way back. -/
namespace Go.Proofs.YtbglhmcahnkbfaaGreat.Lend

/-- All of them are bytes. -/
def Bytes (zs : List Int) : Prop := ∀ z ∈ zs, 0 ≤ z ∧ z ≤ 255
theorem Bytes.at {zs : List Int} (h : Bytes zs) (i : Nat) : 0 ≤ zs.getD i 0 ∧ zs.getD i 0 ≤ 255 := by
  rcases Nat.lt_or_ge i zs.length with hi | hi
  · rw [List.getD_eq_getElem?_getD, List.getElem?_eq_getElem hi]; exact h _ (List.getElem_mem hi)
  · rw [List.getD_eq_getElem?_getD, List.getElem?_eq_none hi]; simp
theorem Bytes.drop {zs : List Int} (h : Bytes zs) (i : Nat) : Bytes (zs.drop i) := fun z hz => h z (List.mem_of_mem_drop hz)
theorem Bytes.take {zs : List Int} (h : Bytes zs) (i : Nat) : Bytes (zs.take i) := fun z hz => h z (List.mem_of_mem_take hz)
theorem Bytes.nil : Bytes [] := fun z hz => by cases hz
theorem Bytes.append {zs ys : List Int} (h : Bytes zs) (k : Bytes ys) : Bytes (zs ++ ys) := fun z hz => (List.mem_append.1 hz).elim (h z) (k z)

/-- The lowest k bytes of a number, the lowest first. -/
def le (u : Nat) : Nat → List Int
  | 0 => []
  | k + 1 => le u k ++ [((u / 256 ^ k % 256 : Nat) : Int)]
/-- The number as an unsigned one of 64 bits. -/
def un (n : Int) : Nat := (n % 18446744073709551616).toNat
theorem un_cast (n : Int) : (un n : Int) = n % 18446744073709551616 := by unfold un; omega
/-- An unsigned number as one with a sign. -/
theorem back (n : Int) (h0 : -9223372036854775808 ≤ n) (h1 : n ≤ 9223372036854775807) : IntKind.i64.wrap (un n : Int) = n := by
  rw [un_cast, IntKind.wrap_i64]; omega

end Go.Proofs.YtbglhmcahnkbfaaGreat.Lend
