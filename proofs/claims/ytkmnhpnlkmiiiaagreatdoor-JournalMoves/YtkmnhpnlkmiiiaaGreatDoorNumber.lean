/- What wire.number does, for every slice of bytes: it answers what is read of them; nothing turns. -/
import Derived.Test.YtkmnhpnlkmiiiaaGreatDoorChecked
import Derived.Test.YtkmnhpnlkmiiiaaGreatDoorLaw
import Derived.Test.YtkmnhpnlkmiiiaaGreatDoorDec
import Derived.Laws.BitsAllLaws
namespace Go.Proofs.YtkmnhpnlkmiiiaaGreatDoor
open Go.RowKit Num
set_option maxRecDepth 20000

theorem u8_127 (c : Int) (h0 : 0 ≤ c) (h1 : c ≤ 255) : bits BinOp.and IntKind.u8 c 127 = ((c.toNat % 128 : Nat) : Int) := by
  have h : ∀ a : Fin 256, bits BinOp.and IntKind.u8 (a.val : Int) 127 = ((a.val % 128 : Nat) : Int) := by decide +kernel
  have := h ⟨c.toNat, by omega⟩
  simp only [Int.toNat_of_nonneg h0] at this
  exact this
theorem u8_128_no (c : Int) (h0 : 0 ≤ c) (h1 : c < 128) : bits BinOp.and IntKind.u8 c 128 = 0 := by
  have h : ∀ a : Fin 128, bits BinOp.and IntKind.u8 (a.val : Int) 128 = 0 := by decide +kernel
  have := h ⟨c.toNat, by omega⟩
  simp only [Int.toNat_of_nonneg h0] at this
  exact this
theorem u8_128_yes (c : Int) (h0 : 128 ≤ c) (h1 : c ≤ 255) : bits BinOp.and IntKind.u8 c 128 = 128 := by
  have h : ∀ a : Fin 128, bits BinOp.and IntKind.u8 ((a.val : Int) + 128) 128 = 128 := by decide +kernel
  have := h ⟨(c - 128).toNat, by omega⟩
  simp only at this
  rw [show ((c - 128).toNat : Int) + 128 = c by omega] at this
  exact this

theorem i64_or_low (a d : Nat) (ha : a < 72057594037927936) (hd : d < 128) : bits BinOp.or IntKind.i64 ((a : Int) * 128) (d : Int) = ((a * 128 + d : Nat) : Int) := by
  show IntKind.i64.wrap ((BitVec.ofInt 64 ((a : Int) * 128) ||| BitVec.ofInt 64 (d : Int)).toNat : Int) = _
  rw [show (a : Int) * 128 = ((a * 128 : Nat) : Int) by omega, BitVec.toNat_or, ofInt_u64 (a * 128) (by omega), ofInt_u64 d (by omega), IntKind.wrap_i64]
  have h : a * 128 ||| d = a * 128 + d := by
    have := Nat.shiftLeft_add_eq_or_of_lt (a := a) (i := 7) (b := d) (by omega)
    rw [Nat.shiftLeft_eq] at this
    exact this.symm
  rw [h]
  omega

set_option maxHeartbeats 400000 in
theorem number_any (a0 : Option Addr) (len cap : Nat) (zs : List Int) (w : World) (hs : Src w a0 len zs) (hb : Bytes zs) (hm : len ≤ cap) (hc : cap ≤ maxLen) (hn : a0 = none → cap = 0) :
    Calls Tryz.prog 102 #[.slice a0 len cap] w fun e w' => e = .returned (.tuple #[.int .i64 ((dec zs).1 : Nat), .int .i64 ((dec zs).2.1 : Nat), .int .i64 ((dec zs).2.2 : Nat)]) ∧ w' = w := by
  unfold maxLen at hc
  rcases Nat.eq_zero_or_pos len with h0 | h0
  · subst h0
    obtain rfl : zs = [] := List.eq_nil_of_length_eq_zero hs.1
    clear hs
    cases a0 with
    | none =>
      obtain rfl := hn rfl
      go_enter Tryz.func102, Tryz.ntmps102
      go_wp2
      refine wp_loop_rounds 1 ?_
      rw [rounds_succ]
      go_wp2
      go_ret3
      exact ⟨rfl, rfl⟩
    | some a =>
      go_enter Tryz.func102, Tryz.ntmps102
      go_wp2
      refine wp_loop_rounds 1 ?_
      rw [rounds_succ]
      go_wp2
      go_ret3
      exact ⟨rfl, rfl⟩
  · obtain ⟨b, o, rfl, hlt, hcell⟩ := hs.2 h0
    have hl := hs.1
    clear hs hn
    have hb0 := hb.at 0
    have hc0 := hcell 0 h0
    rw [Nat.add_zero] at hc0
    obtain ⟨c0, g0⟩ : ∃ c0, c0 = zs.getD 0 0 := ⟨_, rfl⟩
    have hh : zs.head? = some c0 := by
      rw [g0]; cases zs with
      | nil => simp at hl; omega
      | cons z r => rfl
    rw [← g0] at hc0 hb0
    clear g0
    have hp : (0 : Int) < (len : Int) := by omega
    have HH := hid hh
    have HC := hid hcell
    have HB := hid hb
    have HL := hid hl
    clear hh hcell hb hl
    by_cases h128 : c0 = 128
    · subst h128
      go_enter Tryz.func102, Tryz.ntmps102
      go_wp2
      go_ret3
      rw [dec, if_pos HH.out]
      exact ⟨rfl, rfl⟩
    · have h128' : (c0 == 128) = false := by simp [h128]
      have hd : dec zs = scan zs 0 0 := by
        rw [dec, if_neg]; rw [HH.out]; simpa using h128
      rw [hd]
      clear hd
      rcases Nat.lt_trichotomy len 9 with h9 | rfl | h9
      all_goals
        go_enter Tryz.func102, Tryz.ntmps102
        go_wp2
        go_loop [2, 22] (fun n k => ∃ i acc : Nat, i ≤ 9 ∧ i ≤ zs.length ∧ k = .int .i64 i ∧ n = .int .i64 acc ∧ Hid (acc < 128 ^ i) ∧ Hid (scan (zs.drop i) i acc = scan zs 0 0)) (fun _ k => 9 - (intOf k).toNat)
        case atStart => exact ⟨0, 0, by omega, by omega, rfl, rfl, hid (by decide), rfl⟩
        case round =>
          obtain ⟨i, acc, hi9, hil, rfl, rfl, HA, HD⟩ := hrel
          have hl := HL.out
          by_cases hlt : i < zs.length ∧ i < 9
          · obtain ⟨hlt, hi8⟩ := hlt
            have hlt' := hl ▸ hlt
            clear hl
            have hA : acc < 72057594037927936 := by
              have h1 := HA.out
              have h2 : (128 : Nat) ^ i ≤ 128 ^ 8 := Nat.pow_le_pow_right (by omega) (by omega)
              have h3 : (128 : Nat) ^ 8 = 72057594037927936 := by decide
              omega
            have hci := HC.out i hlt'
            have hbi := HB.out.at i
            obtain ⟨c, gc⟩ : ∃ c, c = zs.getD i 0 := ⟨_, rfl⟩
            rw [← gc] at hci hbi
            obtain ⟨d, gd⟩ : ∃ d : Nat, d = c.toNat % 128 := ⟨_, rfl⟩
            have e1 : bits BinOp.and IntKind.u8 c 127 = (d : Int) := by
              rw [gd]; exact u8_127 c hbi.1 hbi.2
            have hd8 : d < 128 := by omega
            have hdr : zs.drop i = c :: zs.drop (i + 1) := by
              rw [List.drop_eq_getElem_cons hlt, gc, List.getD_eq_getElem?_getD, List.getElem?_eq_getElem hlt]; rfl
            obtain ⟨m, gm⟩ : ∃ m : Nat, m = acc * 128 + d := ⟨_, rfl⟩
            have e3 : bits BinOp.or IntKind.i64 ((acc : Int) * 128) (d : Int) = (m : Int) := by rw [gm]; exact i64_or_low acc d (by omega) hd8
            have GM := hid gm
            clear gm
            have HR := hid hdr
            have HG := hid gd
            clear gc hdr gd
            by_cases h7 : c < 128
            · have e2 : bits BinOp.and IntKind.u8 c 128 = 0 := u8_128_no c hbi.1 h7
              have hsc : scan zs 0 0 = (m, i + 1, 0) := by
                rw [← HD.out, HR.out, scan, if_neg (by omega), if_pos h7, GM.out, HG.out]
              have HS := hid hsc
              clear hsc
              go_wp2
              go_ret3
              rw [HS.out]
              exact ⟨rfl, rfl⟩
            · have e2 : bits BinOp.and IntKind.u8 c 128 = 128 := u8_128_yes c (by omega) hbi.2
              have HS : Hid (scan (zs.drop (i + 1)) (i + 1) m = scan zs 0 0) := by
                show _ = _
                rw [← HD.out, HR.out]
                conv => rhs; rw [scan, if_neg (by omega : ¬ i = 9), if_neg h7, ← HG.out, ← GM.out]
              have HM : Hid (m < 128 ^ (i + 1)) := by
                have h1 := HA.out
                have h2 := GM.out
                show m < 128 ^ (i + 1)
                rw [Nat.pow_succ]; omega
              go_wp2
              go_round
              case rel => exact ⟨i + 1, m, by omega, by omega, by go_num, rfl, HM, HS⟩
              case measure => simp [intOf]; omega
          · have hsc : scan zs 0 0 = (0, 0, if 9 ≤ zs.length then 11 else 10) := by
              rw [← HD.out]
              rcases Nat.lt_or_ge i zs.length with h | h
              · have h9' : i = 9 := by omega
                subst h9'
                rw [List.drop_eq_getElem_cons h, scan, if_pos rfl, if_pos (by omega)]
              · rw [List.drop_eq_nil_of_le h, scan, show i = zs.length by omega]
            rw [hl] at hsc hlt hil
            have HS := hid hsc
            clear hsc hl
            go_wp2
            go_ret3
            rw [HS.out]
            first | (rw [if_pos (by omega)]; exact ⟨rfl, rfl⟩) | (rw [if_neg (by omega)]; exact ⟨rfl, rfl⟩)

end Go.Proofs.YtkmnhpnlkmiiiaaGreatDoor
