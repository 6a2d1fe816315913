/- Plain facts about reading a number off bytes (no program in sight): what is read, and that what is read, written again, is the bytes that were read. -/
import Derived.Test.YtkmnhpnlkmiiiaaGreatDoorNum
namespace Go.Proofs.YtkmnhpnlkmiiiaaGreatDoor.Num

/-- All of them are bytes. -/
def Bytes (zs : List Int) : Prop := ∀ z ∈ zs, 0 ≤ z ∧ z ≤ 255
theorem Bytes.at {zs : List Int} (h : Bytes zs) (i : Nat) : 0 ≤ zs.getD i 0 ∧ zs.getD i 0 ≤ 255 := by
  rcases Nat.lt_or_ge i zs.length with hi | hi
  · rw [List.getD_eq_getElem?_getD, List.getElem?_eq_getElem hi]; exact h _ (List.getElem_mem hi)
  · rw [List.getD_eq_getElem?_getD, List.getElem?_eq_none hi]; simp
theorem Bytes.drop {zs : List Int} (h : Bytes zs) (i : Nat) : Bytes (zs.drop i) := fun z hz => h z (List.mem_of_mem_drop hz)
theorem Bytes.take {zs : List Int} (h : Bytes zs) (i : Nat) : Bytes (zs.take i) := fun z hz => h z (List.mem_of_mem_take hz)
theorem Bytes.nil : Bytes [] := fun z hz => by cases hz
theorem Bytes.append {zs ys : List Int} (h : Bytes zs) (k : Bytes ys) : Bytes (zs ++ ys) := fun z hz => (List.mem_append.1 hz).elim (h z) (k z)
theorem hi_bytes (n : Nat) : ∀ k, Bytes (hi n k)
  | 0 => Bytes.nil
  | k + 1 => by
    intro z hz
    rcases List.mem_cons.1 hz with rfl | h
    · omega
    · exact hi_bytes n k z h
theorem enc_bytes (n : Nat) : Bytes (enc n) := by
  refine (hi_bytes n _).append ?_
  intro z hz
  rcases List.mem_singleton.1 hz with rfl
  omega

/-- What is read of the bytes 'zs' behind 'i' bytes that have told 'acc': the number, how many bytes it has in all, the error. -/
def scan : List Int → Nat → Nat → Nat × Nat × Nat
  | [], i, _ => (0, 0, if 9 ≤ i then 11 else 10)
  | c :: r, i, acc => if i = 9 then (0, 0, 11) else if c < 128 then (acc * 128 + c.toNat % 128, i + 1, 0) else scan r (i + 1) (acc * 128 + c.toNat % 128)
/-- What is read of bytes. -/
def dec (zs : List Int) : Nat × Nat × Nat := if zs.head? = some 128 then (0, 0, 5) else scan zs 0 0

/-- The same bytes, told from behind. -/
def lo (m : Nat) : Nat → List Int
  | 0 => []
  | i + 1 => lo (m / 128) i ++ [((m % 128 + 128 : Nat) : Int)]
theorem lo_cons (m : Nat) : ∀ i, lo m (i + 1) = ((m / 128 ^ i % 128 + 128 : Nat) : Int) :: lo m i
  | 0 => by simp [lo]
  | i + 1 => by
    rw [lo, lo_cons (m / 128) i, lo, div_step]; rfl
theorem hi_lo (n : Nat) : ∀ k, hi n k = lo (n / 128) k
  | 0 => rfl
  | k + 1 => by rw [hi, hi_lo n k, lo_cons, div_step]
theorem lo_snoc (acc d i : Nat) (h : d < 128) : lo (acc * 128 + d) (i + 1) = lo acc i ++ [((d + 128 : Nat) : Int)] := by
  rw [lo, show (acc * 128 + d) / 128 = acc by omega, show (acc * 128 + d) % 128 = d by omega]

/-- What holds of what was read so far. -/
structure Got (i acc : Nat) (T : List Int) : Prop where
  same : lo acc i = T
  small : acc < 128 ^ i
  great : i = 0 ∨ 128 ^ (i - 1) ≤ acc
theorem Got.zero : Got 0 0 [] := ⟨rfl, by simp, .inl rfl⟩
theorem Got.step {i acc : Nat} {T : List Int} (h : Got i acc T) (c : Int) (h1 : 128 ≤ c) (h2 : c ≤ 255) (h0 : i = 0 → c ≠ 128) : Got (i + 1) (acc * 128 + c.toNat % 128) (T ++ [c]) := by
  refine ⟨?_, ?_, .inr ?_⟩
  · rw [lo_snoc _ _ _ (Nat.mod_lt _ (by omega)), h.same, show ((c.toNat % 128 + 128 : Nat) : Int) = c by omega]
  · have := h.small
    rw [Nat.pow_succ]; omega
  · rw [Nat.add_sub_cancel]
    rcases h.great with h3 | h3
    · subst h3; have := h0 rfl; simp; omega
    · rcases Nat.eq_zero_or_pos i with h4 | h4
      · subst h4; have := h0 rfl; simp; omega
      · obtain ⟨q, rfl⟩ : ∃ q, i = q + 1 := ⟨i - 1, by omega⟩
        rw [Nat.add_sub_cancel] at h3
        rw [Nat.pow_succ]; omega
theorem pow_le_9 (i : Nat) (h : i ≤ 9) : 128 ^ i ≤ 9223372036854775808 := by
  have : (128 : Nat) ^ i ≤ 128 ^ 9 := Nat.pow_le_pow_right (by omega) h
  simpa using this
theorem Got.stop {i acc : Nat} {T : List Int} (h : Got i acc T) (hi : i < 9) (c : Int) (h0 : 0 ≤ c) (h1 : c < 128) :
    acc * 128 + c.toNat % 128 < 9223372036854775808 ∧ enc (acc * 128 + c.toNat % 128) = T ++ [c] := by
  have hs := h.small
  have hl : acc * 128 + c.toNat % 128 < 128 ^ (i + 1) := by rw [Nat.pow_succ]; omega
  have h9 := pow_le_9 (i + 1) (by omega)
  have hn : acc * 128 + c.toNat % 128 < 9223372036854775808 := by omega
  refine ⟨hn, ?_⟩
  have hc : cnt 9 (acc * 128 + c.toNat % 128) = i := by
    have a := cnt_of_le (acc * 128 + c.toNat % 128) i (by
      have := (Nat.div_lt_iff_lt_mul (Nat.pow_pos (a := 128) (n := i) (by omega))).2 (show acc * 128 + c.toNat % 128 < 128 * 128 ^ i by rw [Nat.pow_succ] at hl; omega)
      omega)
    rcases h.great with h3 | h3
    · omega
    · rcases Nat.eq_zero_or_pos i with h4 | h4
      · omega
      · obtain ⟨q, rfl⟩ : ∃ q, i = q + 1 := ⟨i - 1, by omega⟩
        rw [Nat.add_sub_cancel] at h3
        have b := cnt_of_gt (acc * 128 + c.toNat % 128) q hn (by
          have := (Nat.le_div_iff_mul_le (Nat.pow_pos (a := 128) (n := q) (by omega))).2 (show 128 * 128 ^ q ≤ acc * 128 + c.toNat % 128 by omega)
          omega)
        omega
  rw [enc, hc, hi_lo, show (acc * 128 + c.toNat % 128) / 128 = acc by omega, h.same, show (((acc * 128 + c.toNat % 128) % 128 : Nat) : Int) = c by omega]

theorem scan_got (zs : List Int) : ∀ (r : List Int) (i acc : Nat) (T : List Int), T ++ r = zs → T.length = i → i ≤ 9 → Bytes r → (i = 0 → r.head? ≠ some 128) → Got i acc T →
    ((scan r i acc).2.2 = 0 ∧ (scan r i acc).1 < 9223372036854775808 ∧ 1 ≤ (scan r i acc).2.1 ∧ (scan r i acc).2.1 ≤ 9 ∧ (scan r i acc).2.1 ≤ zs.length ∧ enc (scan r i acc).1 = zs.take (scan r i acc).2.1) ∨
    ((scan r i acc).2.2 ≠ 0 ∧ (scan r i acc).1 = 0 ∧ (scan r i acc).2.1 = 0)
  | [], i, acc, T, _, _, _, _, _, _ => by
    right
    unfold scan
    split <;> simp
  | c :: r, i, acc, T, hz, hT, hi, hb, h0, hg => by
    have hc := hb c (by simp)
    unfold scan
    split
    · right; simp
    · split
      · left
        have hst := hg.stop (by omega) c hc.1 (by omega)
        refine ⟨rfl, hst.1, by simp, by simp; omega, ?_, ?_⟩
        · rw [← hz]; simp; omega
        · show enc (acc * 128 + c.toNat % 128) = zs.take (i + 1)
          rw [hst.2, ← hz, ← hT]
          rw [List.take_append, List.take_of_length_le (by omega)]
          simp
      · refine scan_got zs r (i + 1) _ (T ++ [c]) (by simpa using hz) (by simp; omega) (by omega) (fun z hz => hb z (by simp [hz])) (by omega) (hg.step c (by omega) hc.2 ?_)
        intro hi0 hc0
        exact h0 hi0 (by simp [hc0])

/-- What is read of bytes: a number with its bytes, or an error. -/
theorem dec_got (zs : List Int) (hb : Bytes zs) :
    ((dec zs).2.2 = 0 ∧ (dec zs).1 < 9223372036854775808 ∧ 1 ≤ (dec zs).2.1 ∧ (dec zs).2.1 ≤ 9 ∧ (dec zs).2.1 ≤ zs.length ∧ enc (dec zs).1 = zs.take (dec zs).2.1) ∨
    ((dec zs).2.2 ≠ 0 ∧ (dec zs).1 = 0 ∧ (dec zs).2.1 = 0) := by
  unfold dec
  split
  · right; simp
  · rename_i h
    exact scan_got zs zs 0 0 [] rfl rfl (by omega) hb (fun _ => h) Got.zero

/-- Below the ninth byte what was read is small. -/
theorem scan_err (r : List Int) (i acc : Nat) : (scan r i acc).2.2 ≤ 11 := by
  induction r generalizing i acc with
  | nil => unfold scan; split <;> simp
  | cons c r ih =>
    unfold scan
    split
    · simp
    · split
      · simp
      · exact ih _ _

#print axioms dec_got
end Go.Proofs.YtkmnhpnlkmiiiaaGreatDoor.Num
