/- Plain facts about the bytes of numbers (no program in sight): how many bytes a number has, which they are, and that they stand in the numbers' order. No conditions but the numbers' range (below 2^63). -/
import Derived.Lib.Bytealg
import Derived.Lib.Bytes
namespace Go.Proofs.YtkmnhpnlkmiiiaaGreatDoor.Num
open Go.Lib (compareBytes bytesOf)

/-- How many bytes stand ahead of the last one. -/
def cnt : Nat → Nat → Nat
  | 0, _ => 0
  | f + 1, n => if n ≤ 127 then 0 else cnt f (n / 128) + 1
/-- These bytes. -/
def hi (n : Nat) : Nat → List Int
  | 0 => []
  | k + 1 => ((n / 128 ^ (k + 1) % 128 + 128 : Nat) : Int) :: hi n k
/-- The bytes of a number. -/
def enc (n : Nat) : List Int := hi n (cnt 9 n) ++ [((n % 128 : Nat) : Int)]

theorem length_hi (n : Nat) : ∀ k, (hi n k).length = k
  | 0 => rfl
  | k + 1 => by simp [hi, length_hi n k]
theorem length_enc (n : Nat) : (enc n).length = cnt 9 n + 1 := by simp [enc, length_hi]

theorem div_step (n k : Nat) : n / 128 / 128 ^ k = n / 128 ^ (k + 1) := by
  rw [Nat.div_div_eq_div_mul, Nat.pow_succ, Nat.mul_comm]

theorem cnt_top : ∀ f n, n < 128 ^ f → n / 128 ^ cnt f n ≤ 127
  | 0, n, h => by simp at h; simp [h]
  | f + 1, n, h => by
    unfold cnt
    split
    · simpa
    · rw [← div_step]
      exact cnt_top f (n / 128) (by rw [Nat.pow_succ] at h; exact Nat.div_lt_of_lt_mul (by omega))
theorem cnt_low : ∀ f n k, k < cnt f n → 127 < n / 128 ^ k
  | 0, n, k, h => by simp [cnt] at h
  | f + 1, n, k, h => by
    unfold cnt at h
    split at h
    · omega
    · cases k with
      | zero => simp; omega
      | succ k => rw [← div_step]; exact cnt_low f (n / 128) k (by omega)
theorem cnt_le : ∀ f n, n < 128 ^ (f + 1) → cnt (f + 1) n ≤ f
  | 0, n, h => by
    unfold cnt
    split
    · omega
    · omega
  | f + 1, n, h => by
    unfold cnt
    split
    · omega
    · have := cnt_le f (n / 128) (by rw [Nat.pow_succ] at h; exact Nat.div_lt_of_lt_mul (by omega))
      omega
theorem cnt_8 (n : Nat) (h : n < 9223372036854775808) : cnt 9 n ≤ 8 := cnt_le 8 n (by simpa using h)
theorem cnt_9 (n : Nat) (h : n < 9223372036854775808) : n / 128 ^ cnt 9 n ≤ 127 := cnt_top 9 n (by simpa using h)

theorem cnt_of_gt (n k : Nat) (h : n < 9223372036854775808) (hk : 127 < n / 128 ^ k) : k < cnt 9 n := by
  rcases Nat.lt_or_ge k (cnt 9 n) with h1 | h1
  · exact h1
  · exfalso
    have h2 := cnt_9 n h
    have h3 : n / 128 ^ k ≤ n / 128 ^ cnt 9 n := Nat.div_le_div_left (Nat.pow_le_pow_right (by omega) h1) (Nat.pow_pos (by omega))
    omega
theorem cnt_of_le (n k : Nat) (hk : n / 128 ^ k ≤ 127) : cnt 9 n ≤ k := by
  rcases Nat.lt_or_ge k (cnt 9 n) with h1 | h1
  · have := cnt_low 9 n k h1; omega
  · exact h1
theorem cnt_mono (n m : Nat) (h : n ≤ m) (hm : m < 9223372036854775808) : cnt 9 n ≤ cnt 9 m := by
  apply cnt_of_le
  exact Nat.le_trans (Nat.div_le_div_right h) (cnt_9 m hm)

theorem u8_lt (a b : Nat) (ha : a < 256) (hb : b < 256) : (UInt8.ofNat a < UInt8.ofNat b) ↔ a < b := by
  rw [UInt8.lt_iff_toNat_lt]
  simp [Nat.mod_eq_of_lt ha, Nat.mod_eq_of_lt hb]

theorem bytesOf_cons (a : Nat) (l : List Int) : bytesOf ((a : Int) :: l) = UInt8.ofNat a :: bytesOf l := rfl

theorem mix (h1 h2 r1 r2 p : Nat) (hr1 : r1 < p) (hr2 : r2 < p) : (r1 + p * h1 < r2 + p * h2) ↔ (h1 < h2 ∨ h1 = h2 ∧ r1 < r2) := by
  rcases Nat.lt_trichotomy h1 h2 with h | h | h
  · have := Nat.mul_le_mul_left p (show h1 + 1 ≤ h2 from h)
    rw [Nat.mul_add] at this
    constructor
    · intro _; exact .inl h
    · intro _; omega
  · subst h; constructor <;> intro h <;> omega
  · have := Nat.mul_le_mul_left p (show h2 + 1 ≤ h1 from h)
    rw [Nat.mul_add] at this
    constructor
    · intro h'; omega
    · intro h'; omega

theorem cmp_hi (n m : Nat) : ∀ k, compareBytes (bytesOf (hi n k ++ [((n % 128 : Nat) : Int)])) (bytesOf (hi m k ++ [((m % 128 : Nat) : Int)]))
    = if n % 128 ^ (k + 1) < m % 128 ^ (k + 1) then -1 else if m % 128 ^ (k + 1) < n % 128 ^ (k + 1) then 1 else 0
  | 0 => by
    simp only [hi, List.nil_append, bytesOf_cons]
    unfold compareBytes
    simp only [u8_lt (n % 128) (m % 128) (by omega) (by omega), u8_lt (m % 128) (n % 128) (by omega) (by omega), bytesOf, List.map_nil, compareBytes]
  | k + 1 => by
    have ih := cmp_hi n m k
    simp only [hi, List.cons_append, bytesOf_cons]
    unfold compareBytes
    rw [ih]
    simp only [u8_lt (n / 128 ^ (k + 1) % 128 + 128) (m / 128 ^ (k + 1) % 128 + 128) (by omega) (by omega), u8_lt (m / 128 ^ (k + 1) % 128 + 128) (n / 128 ^ (k + 1) % 128 + 128) (by omega) (by omega)]
    rw [Nat.mod_pow_succ (x := n) (b := 128) (k := k + 1), Nat.mod_pow_succ (x := m) (b := 128) (k := k + 1)]
    have hp : 0 < 128 ^ (k + 1) := Nat.pow_pos (by omega)
    have e1 := mix (n / 128 ^ (k + 1) % 128) (m / 128 ^ (k + 1) % 128) (n % 128 ^ (k + 1)) (m % 128 ^ (k + 1)) (128 ^ (k + 1)) (Nat.mod_lt _ hp) (Nat.mod_lt _ hp)
    have e2 := mix (m / 128 ^ (k + 1) % 128) (n / 128 ^ (k + 1) % 128) (m % 128 ^ (k + 1)) (n % 128 ^ (k + 1)) (128 ^ (k + 1)) (Nat.mod_lt _ hp) (Nat.mod_lt _ hp)
    generalize n / 128 ^ (k + 1) % 128 = a at *
    generalize m / 128 ^ (k + 1) % 128 = b at *
    generalize n % 128 ^ (k + 1) = c at *
    generalize m % 128 ^ (k + 1) = d at *
    simp only [e1, e2]
    split <;> split <;> first | (split <;> first | omega | rfl) | omega | skip
    all_goals first | (split <;> first | omega | rfl) | omega

theorem lt_pow (n k : Nat) (h : n / 128 ^ k ≤ 127) : n < 128 ^ (k + 1) := by
  rw [Nat.pow_succ, Nat.mul_comm]
  exact (Nat.div_lt_iff_lt_mul (Nat.pow_pos (by omega))).1 (by omega)

/-- The bytes of two numbers stand in the numbers' order: the shorter one is the smaller one; of two as long ones 'Compare' tells. -/
theorem order (n m : Nat) (hn : n < 9223372036854775808) (hm : m < 9223372036854775808) :
    ((enc n).length < (enc m).length ∨ (enc n).length = (enc m).length ∧ compareBytes (bytesOf (enc n)) (bytesOf (enc m)) < 0) ↔ n < m := by
  rw [length_enc, length_enc]
  constructor
  · rintro (h | ⟨h1, h2⟩)
    · rcases Nat.lt_or_ge n m with h3 | h3
      · exact h3
      · have := cnt_mono m n h3 hn; omega
    · have e : cnt 9 n = cnt 9 m := by omega
      unfold enc at h2
      rw [← e, cmp_hi] at h2
      have t1 := cnt_9 n hn
      have t2 := cnt_9 m hm
      rw [← e] at t2
      have l1 := lt_pow n _ t1
      have l2 := lt_pow m _ t2
      rw [Nat.mod_eq_of_lt l1, Nat.mod_eq_of_lt l2] at h2
      split at h2
      · assumption
      · split at h2 <;> simp at h2
  · intro h
    have hc := cnt_mono n m (by omega) hm
    rcases Nat.lt_or_ge (cnt 9 n) (cnt 9 m) with h1 | h1
    · exact .inl (by omega)
    · have e : cnt 9 n = cnt 9 m := by omega
      refine .inr ⟨by omega, ?_⟩
      unfold enc
      rw [← e, cmp_hi]
      have t1 := cnt_9 n hn
      have t2 := cnt_9 m hm
      rw [← e] at t2
      have l1 := lt_pow n _ t1
      have l2 := lt_pow m _ t2
      rw [Nat.mod_eq_of_lt l1, Nat.mod_eq_of_lt l2, if_pos h]
      decide

#print axioms order
end Go.Proofs.YtkmnhpnlkmiiiaaGreatDoor.Num
