/- Texts of this seat, merged. -/
import Derived.Lib.EndianBits
import Derived.RowKit

/- Plain facts about numbers as bytes, the lowest first (no program in sight): the bytes of a number, the number of bytes, and that one is the other's way back. -/
namespace Go.Proofs.YtbglhmcahnkbfaaGreat.Lend

/-- All of them are bytes. -/
def Bytes (zs : List Int) : Prop := ∀ z ∈ zs, 0 ≤ z ∧ z ≤ 255
theorem Bytes.at {zs : List Int} (h : Bytes zs) (i : Nat) : 0 ≤ zs.getD i 0 ∧ zs.getD i 0 ≤ 255 := by
  rcases Nat.lt_or_ge i zs.length with hi | hi
  · rw [List.getD_eq_getElem?_getD, List.getElem?_eq_getElem hi]; exact h _ (List.getElem_mem hi)
  · rw [List.getD_eq_getElem?_getD, List.getElem?_eq_none hi]; simp
theorem Bytes.drop {zs : List Int} (h : Bytes zs) (i : Nat) : Bytes (zs.drop i) := fun z hz => h z (List.mem_of_mem_drop hz)
theorem Bytes.take {zs : List Int} (h : Bytes zs) (i : Nat) : Bytes (zs.take i) := fun z hz => h z (List.mem_of_mem_take hz)
theorem Bytes.nil : Bytes [] := fun z hz => by cases hz
theorem Bytes.append {zs ys : List Int} (h : Bytes zs) (k : Bytes ys) : Bytes (zs ++ ys) := fun z hz => (List.mem_append.1 hz).elim (h z) (k z)

/-- The lowest k bytes of a number, the lowest first. -/
def le (u : Nat) : Nat → List Int
  | 0 => []
  | k + 1 => le u k ++ [((u / 256 ^ k % 256 : Nat) : Int)]
theorem length_le (u : Nat) : ∀ k, (le u k).length = k
  | 0 => rfl
  | k + 1 => by simp [le, length_le u k]
theorem le_bytes (u : Nat) : ∀ k, Bytes (le u k)
  | 0 => Bytes.nil
  | k + 1 => (le_bytes u k).append (by intro z hz; rcases List.mem_singleton.1 hz with rfl; omega)

/-- The number that bytes are, the lowest first. -/
def num : List Int → Nat
  | [] => 0
  | z :: r => z.toNat + 256 * num r
theorem num_append (xs : List Int) : ∀ ys : List Int, num (xs ++ ys) = num xs + 256 ^ xs.length * num ys := by
  induction xs with
  | nil => simp [num]
  | cons a r ih =>
    intro ys
    rw [List.cons_append, num, ih, num, List.length_cons, Nat.pow_succ, Nat.mul_add]
    have : 256 * (256 ^ r.length * num ys) = 256 ^ r.length * 256 * num ys := by rw [Nat.mul_comm (256 ^ r.length) 256, Nat.mul_assoc]
    omega
theorem num_snoc (xs : List Int) (z : Int) : num (xs ++ [z]) = num xs + 256 ^ xs.length * z.toNat := by
  rw [num_append]; simp [num]
theorem num_lt : ∀ {zs : List Int}, Bytes zs → num zs < 256 ^ zs.length
  | [], _ => by simp [num]
  | z :: r, h => by
    have h1 := h z (by simp)
    have h2 := num_lt (zs := r) (fun y hy => h y (by simp [hy]))
    rw [num, List.length_cons, Nat.pow_succ]
    omega
theorem num_le (u : Nat) : ∀ k, num (le u k) = u % 256 ^ k
  | 0 => by simp [le, num, Nat.mod_one]
  | k + 1 => by
    rw [le, num_snoc, num_le u k, length_le, Nat.pow_succ, Nat.mod_mul, Int.toNat_natCast]
theorem take_step (zs : List Int) (i : Nat) (h : i < zs.length) : zs.take (i + 1) = zs.take i ++ [zs.getD i 0] := by
  rw [List.take_add_one, List.getD_eq_getElem?_getD, List.getElem?_eq_getElem h]; rfl
theorem drop_step (zs : List Int) (i : Nat) (h : i < zs.length) : zs.drop i = zs.getD i 0 :: zs.drop (i + 1) := by
  rw [List.getD_eq_getElem?_getD, List.getElem?_eq_getElem h, List.drop_eq_getElem_cons h]; rfl
theorem pow_256 (i : Nat) : (256 : Nat) ^ i = 2 ^ (8 * i) := by rw [Nat.pow_mul]

/-- 'n | c << (8 i)' where n has i bytes: the sum. -/
theorem or_step (a i : Nat) (c : Int) (ha : a < 256 ^ i) (hc0 : 0 ≤ c) (hc : c ≤ 255) (hi : i < 8) :
    bits BinOp.or IntKind.u64 (a : Int) (c * 2 ^ (8 * i)) = ((a + 256 ^ i * c.toNat : Nat) : Int) := by
  obtain ⟨d, rfl⟩ := Int.eq_ofNat_of_zero_le hc0
  have hd : d ≤ 255 := by omega
  have h0 : ((d : Int) * 2 ^ (8 * i)) = ((2 ^ (8 * i) * d : Nat) : Int) := by rw [Int.natCast_mul, Int.natCast_pow, Int.mul_comm]; rfl
  rw [h0, pow_256] at *
  have hle : 2 ^ (8 * i) * 256 ≤ 2 ^ 64 := by
    rw [show (256 : Nat) = 2 ^ 8 by rfl, ← Nat.pow_add]; exact Nat.pow_le_pow_right (by omega) (by omega)
  have hm : 2 ^ (8 * i) * d ≤ 2 ^ (8 * i) * 255 := Nat.mul_le_mul_left _ hd
  have hp : 0 < 2 ^ (8 * i) := Nat.pow_pos (by omega)
  have h := bits_join_low .u64 64 (by decide) wraps_u64 (8 * i) (a : Int) ((2 ^ (8 * i) * d : Nat) : Int) (by omega) (by exact_mod_cast ha) (by omega) (by omega)
    (by
      rw [show ((2 : Int) ^ (8 * i)) = ((2 ^ (8 * i) : Nat) : Int) by simp, ← Int.natCast_emod, Nat.mul_mod_right]; rfl) (by omega)
  rw [h]
  simp

/-- The number as an unsigned one of 64 bits. -/
def un (n : Int) : Nat := (n % 18446744073709551616).toNat
theorem un_lt (n : Int) : un n < 18446744073709551616 := by unfold un; omega
theorem un_cast (n : Int) : (un n : Int) = n % 18446744073709551616 := by unfold un; omega
/-- An unsigned number as one with a sign. -/
theorem back (n : Int) (h0 : -9223372036854775808 ≤ n) (h1 : n ≤ 9223372036854775807) : IntKind.i64.wrap (un n : Int) = n := by
  rw [un_cast, IntKind.wrap_i64]; omega

end Go.Proofs.YtbglhmcahnkbfaaGreat.Lend
