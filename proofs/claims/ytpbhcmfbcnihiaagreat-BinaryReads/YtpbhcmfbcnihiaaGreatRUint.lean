/- What the document's answer (dredgerref01.Uint) does, for every slice of bytes: it answers what is read of them; nothing turns. -/
import Derived.Test.YtpbhcmfbcnihiaaGreatNumber
namespace Go.Proofs.YtpbhcmfbcnihiaaGreat
open Go.RowKit Num
set_option maxRecDepth 20000

theorem ret_ints3 {a b c a' b' c' : Int} (h1 : a = a') (h2 : b = b') (h3 : c = c') : Ending.returned (.tuple #[.int .i64 a, .int .i64 b, .int .i64 c]) = .returned (.tuple #[.int .i64 a', .int .i64 b', .int .i64 c']) := by rw [h1, h2, h3]

set_option maxHeartbeats 800000 in
theorem ruint_any (a0 : Option Addr) (len cap : Nat) (zs : List Int) (w : World) (hs : Src w a0 len zs) (hb : Bytes zs) (hm : len ≤ cap) (_hc : cap ≤ maxLen) :
    Calls Tryz.prog 43 #[.slice a0 len cap] w fun e w' => e = .returned (.tuple #[.int .i64 ((dec zs).1 : Nat), .int .i64 ((dec zs).2.1 : Nat), .int .i64 ((dec zs).2.2 : Nat)]) ∧ w' = w := by
  unfold maxLen at _hc
  rcases Nat.eq_zero_or_pos len with h0 | h0
  · subst h0
    obtain rfl : zs = [] := List.eq_nil_of_length_eq_zero hs.1
    clear hs
    go_enter Tryz.func43, Tryz.ntmps43
    go_wp2
    refine wp_loop_rounds 1 ?_
    rw [rounds_succ]
    go_wp2
    go_ret3
    exact ⟨rfl, rfl⟩
  · obtain ⟨b, o, rfl, hlt, hcell⟩ := hs.2 h0
    have hl := hs.1
    clear hs
    have hb0 := hb.at 0
    have hc0 := hcell 0 h0
    rw [Nat.add_zero] at hc0
    obtain ⟨c0, g0⟩ : ∃ c0, c0 = zs.getD 0 0 := ⟨_, rfl⟩
    have hh : zs.head? = some c0 := by
      rw [g0]; cases zs with
      | nil => simp at hl; omega
      | cons z r => rfl
    rw [← g0] at hc0 hb0
    clear g0
    have hp : (0 : Int) < (len : Int) := by omega
    have HH := hid hh
    have HC := hid hcell
    have HB := hid hb
    have HL := hid hl
    clear hh hcell hb hl
    by_cases h128 : c0 = 128
    · subst h128
      go_enter Tryz.func43, Tryz.ntmps43
      go_wp2
      go_ret3
      rw [dec, if_pos HH.out]
      exact ⟨rfl, rfl⟩
    · have h128' : (c0 == 128) = false := by simp [h128]
      have hd : dec zs = scan zs 0 0 := by
        rw [dec, if_neg]; rw [HH.out]; simpa using h128
      rw [hd]
      clear hd
      go_enter Tryz.func43, Tryz.ntmps43
      go_wp2
      go_loop [5, 19] (fun n k => ∃ i acc : Nat, i ≤ 9 ∧ i ≤ len ∧ k = .int .i64 i ∧ n = .int .i64 acc ∧ Hid (acc < 128 ^ i) ∧ Hid (scan (zs.drop i) i acc = scan zs 0 0)) (fun _ k => 10 - (intOf k).toNat)
      case atStart => exact ⟨0, 0, by omega, by omega, rfl, rfl, hid (by decide), rfl⟩
      case round =>
        obtain ⟨i, acc, hi9, hil, rfl, rfl, HA, HD⟩ := hrel
        have hl := HL.out
        by_cases hlt : i < len
        · have hci := HC.out i hlt
          have hbi := HB.out.at i
          obtain ⟨c, gc⟩ : ∃ c, c = zs.getD i 0 := ⟨_, rfl⟩
          rw [← gc] at hci hbi
          have hdr : zs.drop i = c :: zs.drop (i + 1) := by
            rw [List.drop_eq_getElem_cons (hl ▸ hlt), gc, List.getD_eq_getElem?_getD, List.getElem?_eq_getElem (hl ▸ hlt)]; rfl
          clear hl gc
          by_cases h9 : i = 9
          · subst h9
            have hsc : scan zs 0 0 = (0, 0, 11) := by rw [← HD.out, hdr, scan, if_pos rfl]
            have HS := hid hsc
            clear hsc hdr
            go_wp2
            go_ret3
            rw [HS.out]
            exact ⟨rfl, rfl⟩
          · have h9' : ((i : Int) == 9) = false := by simp; omega
            have hA : acc < 72057594037927936 := by
              have h1 := HA.out
              have h2 : (128 : Nat) ^ i ≤ 128 ^ 8 := Nat.pow_le_pow_right (by omega) (by omega)
              have h3 : (128 : Nat) ^ 8 = 72057594037927936 := by decide
              omega
            have HR := hid hdr
            clear hdr
            by_cases h7 : c < 128
            · have HS : Hid (scan zs 0 0 = (acc * 128 + c.toNat % 128, i + 1, 0)) := by
                show _ = _
                rw [← HD.out, HR.out, scan, if_neg h9, if_pos h7]
              go_wp2
              go_ret3
              rw [HS.out]
              exact ⟨ret_ints3 (by show _ = ((acc * 128 + c.toNat % 128 : Nat) : Int); omega) (by show _ = ((i + 1 : Nat) : Int); omega) rfl, rfl⟩
            · have HS : Hid (scan (zs.drop (i + 1)) (i + 1) (acc * 128 + c.toNat % 128) = scan zs 0 0) := by
                show _ = _
                rw [← HD.out, HR.out]
                conv => rhs; rw [scan, if_neg h9, if_neg h7]
              have HM : Hid (acc * 128 + c.toNat % 128 < 128 ^ (i + 1)) := by
                have h1 := HA.out
                show _ < 128 ^ (i + 1)
                rw [Nat.pow_succ]; omega
              go_wp2
              go_round
              case rel => exact ⟨i + 1, acc * 128 + c.toNat % 128, by omega, by omega, by go_num, by go_num, HM, HS⟩
              case measure => simp [intOf]; omega
        · have hsc : scan zs 0 0 = (0, 0, if 9 ≤ len then 11 else 10) := by
            rw [← HD.out, List.drop_eq_nil_of_le (by omega), scan, show i = len by omega]
          have HS := hid hsc
          clear hsc hl
          by_cases h9 : 9 ≤ len
          · go_wp2
            go_ret3
            rw [HS.out, if_pos h9]
            exact ⟨rfl, rfl⟩
          · go_wp2
            go_ret3
            rw [HS.out, if_neg h9]
            exact ⟨rfl, rfl⟩

end Go.Proofs.YtpbhcmfbcnihiaaGreat
