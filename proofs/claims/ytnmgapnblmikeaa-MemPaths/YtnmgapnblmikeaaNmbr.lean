/- What mem.Number and the document's Number do, for every slice of bytes: the number of the first eight bytes; nothing turns. -/
import Derived.Test.YtnmgapnblmikeaaChecked
import Derived.Test.YtnmgapnblmikeaaLaw
import Derived.Test.YtnmgapnblmikeaaLit
namespace Go.Proofs.Ytnmgapnblmikeaa
open Go.RowKit Lend

theorem num_take_lt {zs : List Int} (h : Bytes zs) (i : Nat) : num (zs.take i) < 256 ^ i := by
  have h1 := num_lt (h.take i)
  have h2 : (zs.take i).length ≤ i := by simp; omega
  exact Nat.lt_of_lt_of_le h1 (Nat.pow_le_pow_right (by omega) h2)

set_option maxHeartbeats 400000 in
theorem mnumber_any (a0 : Option Addr) (len cap : Nat) (zs : List Int) (w : World) (hs : Src w a0 len zs) (hb : Bytes zs) (hm : len ≤ cap) (hc : cap ≤ maxLen) (hn : a0 = none → cap = 0) :
    Calls Try.prog 25 #[.slice a0 len cap] w fun e w' => e = .returned (.int .i64 (wrap64 (num (zs.take 8) : Nat))) ∧ w' = w := by
  unfold maxLen at hc
  obtain ⟨k, hk⟩ : ∃ k, k = min len 8 := ⟨_, rfl⟩
  have hmin : (if (8 : Int) < (len : Int) then (8 : Int) else (len : Int)) = (k : Int) := by split <;> omega
  have hzk : zs.take 8 = zs.take k := by
    rw [hk]
    rcases Nat.lt_or_ge len 8 with h | h
    · rw [Nat.min_eq_left (by omega), List.take_of_length_le (by rw [hs.1]; omega), List.take_of_length_le (by rw [hs.1]; omega)]
    · rw [Nat.min_eq_right h]
  have hk1 : k ≤ len := by omega
  have hk8 : k ≤ 8 := by omega
  have i1 : (0 : Int) ≤ (k : Int) := by omega
  have i2 : (k : Int) ≤ (cap : Int) := by omega
  rw [hzk]
  clear hk hzk
  have HS := hid hs
  have HB := hid hb
  clear hs hb
  rcases Nat.eq_zero_or_pos len with h0 | h0
  · obtain rfl : k = 0 := by omega
    subst h0
    clear hmin
    have h0 : wrap64 ((num (List.take 0 zs) : Nat) : Int) = 0 := by rw [List.take_zero]; show wrap64 0 = 0; unfold wrap64; decide
    rw [h0]
    clear h0
    rcases a0 with _ | a0
    · obtain rfl := hn rfl
      go_enter Try.func25, Try.ntmps25
      go_wp2_with fail
      go_loop [12, 3] (fun s v => s = .int .i64 0 ∧ v = .int .u64 0) (fun _ _ => 0)
      case atStart => exact ⟨rfl, rfl⟩
      case round =>
        obtain ⟨rfl, rfl⟩ := hrel
        go_wp2_with fail
        go_ret
        exact ⟨rfl, rfl⟩
    · go_enter Try.func25, Try.ntmps25
      go_wp2_with fail
      go_loop [12, 3] (fun s v => s = .int .i64 0 ∧ v = .int .u64 0) (fun _ _ => 0)
      case atStart => exact ⟨rfl, rfl⟩
      case round =>
        obtain ⟨rfl, rfl⟩ := hrel
        go_wp2_with fail
        go_ret
        exact ⟨rfl, rfl⟩
  · obtain ⟨b, o, rfl, _, hcell⟩ := HS.out.2 h0
    have HC := hid hcell
    clear hcell
    go_enter Try.func25, Try.ntmps25
    go_wp2_with fail
    go_loop [12, 3] (fun s v => ∃ i : Nat, i ≤ k ∧ s = .int .i64 i ∧ v = .int .u64 (num (zs.take i) : Nat)) (fun s _ => k - (intOf s).toNat)
    case atStart => exact ⟨0, by omega, rfl, rfl⟩
    case round =>
      obtain ⟨i, hik, rfl, rfl⟩ := hrel
      by_cases h : i < k
      · have hcell := HC.out i (by omega)
        have hz := HB.out.at i
        have hlt := num_take_lt HB.out i
        have hzl : i < zs.length := by rw [HS.out.1]; omega
        have hor := or_step (num (zs.take i)) i (zs.getD i 0) hlt hz.1 hz.2 (by omega)
        have hlen : (zs.take i).length = i := by simp; omega
        have hnum : num (zs.take (i + 1)) = num (zs.take i) + 256 ^ i * (zs.getD i 0).toNat := by
          rw [take_step zs i hzl, num_snoc, hlen]
        rw [← hnum] at hor
        obtain ⟨z, gz⟩ : ∃ z, z = zs.getD i 0 := ⟨_, rfl⟩
        rw [← gz] at hcell hz hor
        have hle : z * 2 ^ (8 * i) < 18446744073709551616 := by
          have h2 : (2 : Int) ^ (8 * i) ≤ 2 ^ 56 := by
            have := Nat.pow_le_pow_right (n := 2) (by omega) (show 8 * i ≤ 56 by omega)
            exact_mod_cast this
          have h3 : z * 2 ^ (8 * i) ≤ 255 * 2 ^ (8 * i) := Int.mul_le_mul_of_nonneg_right hz.2 (Int.pow_nonneg (by omega))
          omega
        have hge : 0 ≤ z * 2 ^ (8 * i) := Int.mul_nonneg hz.1 (Int.pow_nonneg (by omega))
        have hmod : z * 2 ^ (8 * i) % 18446744073709551616 = z * 2 ^ (8 * i) := Int.emod_eq_of_lt hge hle
        have HR := hid hor
        clear gz hnum hlen hzl hlt hle hge hor
        go_wp2_with fail
        go_round
        case rel => exact ⟨i + 1, by omega, by go_num, by rw [← HR.out]⟩
        case measure => simp [intOf]; omega
      · obtain rfl : i = k := by omega
        go_wp2_with fail
        go_ret
        exact ⟨rfl, rfl⟩

theorem num_drop_lt {zs : List Int} (h : Bytes zs) (k j : Nat) (hk : k ≤ 8) : num ((zs.take k).drop j) < 18446744073709551616 := by
  have h1 := num_lt ((h.take k).drop j)
  have h2 : ((zs.take k).drop j).length ≤ 8 := by simp; omega
  exact Nat.lt_of_lt_of_le h1 (Nat.le_trans (Nat.pow_le_pow_right (by omega) h2) (by decide))

set_option maxHeartbeats 400000 in
theorem rnumber_any (a0 : Option Addr) (len cap : Nat) (zs : List Int) (w : World) (hs : Src w a0 len zs) (hb : Bytes zs) (hm : len ≤ cap) (hc : cap ≤ maxLen) :
    Calls Try.prog 26 #[.slice a0 len cap] w fun e w' => e = .returned (.int .i64 (wrap64 (num (zs.take 8) : Nat))) ∧ w' = w := by
  unfold maxLen at hc
  obtain ⟨k, hk⟩ : ∃ k, k = min len 8 := ⟨_, rfl⟩
  have hmin : (if (8 : Int) < (len : Int) then (8 : Int) else (len : Int)) = (k : Int) := by split <;> omega
  have hzk : zs.take 8 = zs.take k := by
    rw [hk]
    rcases Nat.lt_or_ge len 8 with h | h
    · rw [Nat.min_eq_left (by omega), List.take_of_length_le (by rw [hs.1]; omega), List.take_of_length_le (by rw [hs.1]; omega)]
    · rw [Nat.min_eq_right h]
  have hk1 : k ≤ len := by omega
  have hk8 : k ≤ 8 := by omega
  have hw1 : wrap64 ((k : Int) - 1) = (k : Int) - 1 := by unfold wrap64; omega
  have hl := hs.1
  rw [hzk]
  clear hk hzk
  have HS := hid hs
  have HB := hid hb
  clear hs hb
  go_enter Try.func26, Try.ntmps26
  go_wp2_with fail
  go_loop [4, 3] (fun s v => ∃ j : Nat, j ≤ k ∧ s = .int .i64 ((j : Int) - 1) ∧ v = .int .u64 (num ((zs.take k).drop j) : Nat)) (fun s _ => ((intOf s) + 1).toNat)
  case atStart => exact ⟨k, Nat.le_refl _, rfl, by rw [List.drop_of_length_le (by simp; omega)]; rfl⟩
  case round =>
    obtain ⟨j, hjk, rfl, rfl⟩ := hrel
    rcases j with _ | j
    · go_wp2_with fail
      go_ret
      exact ⟨rfl, rfl⟩
    · obtain ⟨b, o, rfl, _, hcell⟩ := HS.out.2 (by omega)
      have hcell := hcell j (by omega)
      have hz := HB.out.at j
      have hst : num ((zs.take k).drop j) = (zs.getD j 0).toNat + 256 * num ((zs.take k).drop (j + 1)) := by
        rw [drop_step (zs.take k) j (by simp; omega), num]
        simp [List.getD, List.getElem?_take]; rw [if_pos (by omega)]
      have hlt := num_drop_lt HB.out k j hk8
      obtain ⟨z, gz⟩ : ∃ z, z = zs.getD j 0 := ⟨_, rfl⟩
      rw [← gz] at hcell hz hst
      obtain ⟨U, gU⟩ : ∃ U, U = num ((zs.take k).drop (j + 1)) := ⟨_, rfl⟩
      obtain ⟨V, gV⟩ : ∃ V, V = num ((zs.take k).drop j) := ⟨_, rfl⟩
      rw [← gU, ← gV] at hst
      rw [← gV] at hlt
      rw [← gU, show (((j + 1 : Nat) : Int) - 1) = (j : Int) by omega]
      have HT := hid hst
      have HV := hid gV
      have hjl : (j : Int) < (len : Int) := by omega
      clear gz hst gU gV
      go_wp2_with fail
      go_round
      case rel => exact ⟨j, by omega, by go_num, by rw [← HV.out, HT.out]; congr 1; have hT := HT.out; rw [IntKind.wrap_u64, IntKind.wrap_u64]; omega⟩
      case measure => simp [intOf]

end Go.Proofs.Ytnmgapnblmikeaa
