/- Plain facts (no program in sight): what is written of a number is read as it was, whatever stands behind. -/
import Derived.Test.YtkmnhpnlkmiiiaaGreatDoorDec
namespace Go.Proofs.YtkmnhpnlkmiiiaaGreatDoor.Num

theorem scan_hi (n : Nat) (r : List Int) : ∀ (k i acc : Nat), acc = n / 128 ^ (k + 1) → i + k ≤ 8 → scan (hi n k ++ ((n % 128 : Nat) : Int) :: r) i acc = (n, i + k + 1, 0)
  | 0, i, acc, ha, hik => by
    rw [hi, List.nil_append, scan, if_neg (by omega), if_pos (by omega), Int.toNat_natCast, ha]
    simp only [Nat.zero_add, Nat.pow_one, Nat.add_zero, Prod.mk.injEq, and_true]
    omega
  | k + 1, i, acc, ha, hik => by
    rw [hi, List.cons_append, scan, if_neg (by omega), if_neg (by omega), Int.toNat_natCast]
    rw [scan_hi n r k (i + 1) _ ?_ (by omega)]
    · simp only [Prod.mk.injEq, and_true, true_and]; omega
    · rw [ha]
      have e : n / 128 ^ (k + 1 + 1) = n / 128 ^ (k + 1) / 128 := by rw [Nat.div_div_eq_div_mul, ← Nat.pow_succ]
      rw [e]
      omega

theorem dec_enc (n : Nat) (hn : n < 9223372036854775808) (r : List Int) : dec (enc n ++ r) = (n, (enc n).length, 0) := by
  have h9 := cnt_9 n hn
  have h8 := cnt_8 n hn
  have hz : n / 128 ^ (cnt 9 n + 1) = 0 := Nat.div_eq_of_lt (by rw [Nat.pow_succ, Nat.mul_comm]; exact (Nat.div_lt_iff_lt_mul (Nat.pow_pos (by omega))).1 (by omega))
  have hs := scan_hi n r (cnt 9 n) 0 0 hz.symm (by omega)
  unfold dec
  rw [if_neg]
  · rw [length_enc, enc, List.append_assoc, List.singleton_append, hs, Nat.zero_add]
  · rw [enc]
    rcases Nat.eq_zero_or_pos (cnt 9 n) with h0 | h0
    · rw [h0, hi]; simp; omega
    · obtain ⟨q, hq⟩ : ∃ q, cnt 9 n = q + 1 := ⟨cnt 9 n - 1, by omega⟩
      have hl := cnt_low 9 n q (by omega)
      rw [hq] at h9
      have e : n / 128 ^ (q + 1) = n / 128 ^ q / 128 := by rw [Nat.div_div_eq_div_mul, ← Nat.pow_succ]
      rw [hq, hi]
      simp only [List.cons_append, List.head?_cons, Option.some.injEq]
      omega

#print axioms dec_enc
end Go.Proofs.YtkmnhpnlkmiiiaaGreatDoor.Num
