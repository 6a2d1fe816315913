/- The document's small calls on bytes and places; the end of a text. -/
import Derived.Test.YtidcodpekeaigaaDoorLTab
namespace Go.Proofs.YtidcodpekeaigaaDoor
open Go.RowKit
set_option linter.unusedVariables false

theorem rdigit_any (b : Int) (w : World) :
    Calls Tryd.prog 30 #[.int .u8 b] w fun e w' => e = .returned (.bool (isDig b)) ∧ w' = w := by
  go_enter Tryd.func30, Tryd.ntmps30
  go_wp2
  all_goals (go_ret; refine ⟨bool_same ?_, rfl⟩; simp [isDig] <;> omega)

theorem begins_any (b : Int) (w : World) :
    Calls Tryd.prog 27 #[.int .u8 b] w fun e w' => e = .returned (.bool (isLet b)) ∧ w' = w := by
  go_enter Tryd.func27, Tryd.ntmps27
  go_wp2
  all_goals (go_ret; refine ⟨bool_same ?_, rfl⟩; simp [isLet] <;> omega)

theorem inner_any (b : Int) (w : World) :
    Calls Tryd.prog 28 #[.int .u8 b] w fun e w' => e = .returned (.bool (inNm b)) ∧ w' = w := by
  go_enter Tryd.func28, Tryd.ntmps28
  go_wp2_with (first | (go_at_call 27; refine (begins_any _ _).mono ?_; rintro e w' ⟨rfl, rfl⟩) | (go_at_call 30; refine (rdigit_any _ _).mono ?_; rintro e w' ⟨rfl, rfl⟩))
  all_goals (go_ret; refine ⟨bool_same ?_, rfl⟩; simp [inNm, *])

set_option maxHeartbeats 1000000 in
theorem mark_any (b : Int) (w : World) :
    Calls Tryd.prog 33 #[.int .u8 b] w fun e w' => e = .returned (.bool (isMark b)) ∧ w' = w := by
  go_enter Tryd.func33, Tryd.ntmps33
  go_wp2
  all_goals (go_ret; refine ⟨bool_same ?_, rfl⟩; simp [isMark, *])

/-- A digit's value; -1 of what is none. -/
def hx (b : Int) : Int := if val b = 99 then -1 else val b
theorem hx_dig {b base : Int} (hb : base ≤ 16) (h0 : 0 ≤ b) : (0 ≤ hx b ∧ hx b < base) ↔ val b < base := by
  unfold hx
  have := val_ge h0
  split <;> omega
theorem hx_val {b base : Int} (hb : base ≤ 16) (h : val b < base) : hx b = val b := by
  unfold hx
  rw [if_neg (by omega)]
theorem hx_ge {b : Int} (h0 : 0 ≤ b) : 0 ≤ hx b ↔ val b < 16 := by
  unfold hx
  have := val_ge h0
  rcases val_or b with h | h
  · rw [if_pos h]; omega
  · rw [if_neg (by omega)]; omega

theorem rhex_any (b : Int) (h : 0 ≤ b ∧ b ≤ 255) (w : World) :
    Calls Tryd.prog 43 #[.int .u8 b] w fun e w' => e = .returned (.int .i64 (hx b)) ∧ w' = w := by
  go_enter Tryd.func43, Tryd.ntmps43
  go_wp2_with (go_at_call 30; refine (rdigit_any _ _).mono ?_; rintro e w' ⟨rfl, rfl⟩)
  all_goals (go_ret; refine ⟨?_, rfl⟩; congr 2; simp [isDig] at *; unfold hx val; (repeat' split) <;> omega)

set_option maxHeartbeats 1000000 in
theorem rat_any (j : Nat) (s : ByteArray) (w : World) (hj : j < 9223372036854775808) :
    Calls Tryd.prog 29 #[.string s, .int .i64 j] w fun e w' => e = .returned (.int .u8 (bt s j)) ∧ w' = w := by
  by_cases hl : j < s.size
  · have hx := index_bt s j hl
    have c1 : (j : Int) < (s.size : Int) := by omega
    obtain ⟨b, gb⟩ : ∃ b, b = bt s j := ⟨_, rfl⟩
    rw [← gb] at hx ⊢
    clear gb
    go_enter Tryd.func29, Tryd.ntmps29
    go_wp2
    go_ret
    exact ⟨rfl, rfl⟩
  · rw [bt_over hl]
    have c1 : ¬ (j : Int) < (s.size : Int) := by omega
    go_enter Tryd.func29, Tryd.ntmps29
    go_wp2
    go_ret
    exact ⟨rfl, rfl⟩

set_option maxHeartbeats 2000000 in
theorem rtext_any (i : Nat) (s : ByteArray) (w : World) (hi : i < s.size) (hs : s.size ≤ 4000) :
    Calls Tryd.prog 32 #[.string s, .int .i64 i] w fun e w' => e = .returned (if bt s (pass inTx s (i + 1)) = 34 then .tuple #[.int .i64 (pass inTx s (i + 1)), .bool true] else .tuple #[.int .i64 0, .bool false]) ∧ w' = w := by
  obtain ⟨E, gE⟩ : ∃ E, E = pass inTx s (i + 1) := ⟨_, rfl⟩
  rw [← gE]
  have c5 : IntKind.i64.wrap ((i : Int) + 1) = (i : Int) + 1 := by rw [IntKind.wrap_i64]; omega
  obtain ⟨V, gV⟩ : ∃ V, V = (if bt s E = 34 then Value.tuple #[.int .i64 E, .bool true] else .tuple #[.int .i64 0, .bool false]) := ⟨_, rfl⟩
  rw [← gV]
  have GV := hid gV
  clear gV
  go_enter Tryd.func32, Tryd.ntmps32
  go_wp2_with fail
  go_loop [6] (fun k => ∃ m : Nat, k = .int .i64 m ∧ m ≤ s.size ∧ Hid (E = pass inTx s m)) (fun k => s.size - (intOf k).toNat)
  case atStart => exact ⟨i + 1, by go_num, hi, hid gE⟩
  case round =>
    obtain ⟨m, rfl, hm, HE⟩ := hrel
    by_cases hl : m < s.size
    · have hx := index_bt s m hl
      have c1 : (m : Int) < (s.size : Int) := by omega
      by_cases e1 : bt s m = 34
      · have hE : E = m := by rw [HE.out, pass_stop (fun h => by have := h.2; rw [e1] at this; cases this)]
        have HV : Hid (V = .tuple #[.int .i64 m, .bool true]) := hid (by rw [GV.out, hE, if_pos e1])
        rw [e1] at hx
        clear hE gE e1
        go_wp2_with fail
        go_ret2
        exact ⟨by rw [HV.out]; rfl, rfl⟩
      · by_cases e2 : 32 ≤ bt s m ∧ bt s m ≤ 126
        · have HN : Hid (E = pass inTx s (m + 1)) := hid (by rw [HE.out, pass_go hl (by simp [inTx, e1, e2])])
          obtain ⟨b, gb⟩ : ∃ b, b = bt s m := ⟨_, rfl⟩
          rw [← gb] at hx e1 e2
          obtain ⟨e2, e3⟩ := e2
          clear gE gb
          go_wp2_with fail
          go_round
          case rel => exact ⟨m + 1, by go_num, by omega, HN⟩
          case measure => simp [intOf]; omega
        · have hE : E = m := by rw [HE.out, pass_stop (fun h => by have := h.2; simp [inTx] at this; omega)]
          have HV : Hid (V = .tuple #[.int .i64 0, .bool false]) := hid (by rw [GV.out, hE, if_neg e1])
          obtain ⟨b, gb⟩ : ∃ b, b = bt s m := ⟨_, rfl⟩
          rw [← gb] at hx e1 e2
          clear gE gb hE
          by_cases e3 : b < 32
          · go_wp2_with fail
            go_ret2
            exact ⟨by rw [HV.out]; rfl, rfl⟩
          · have e4 : 126 < b := by omega
            go_wp2_with fail
            go_ret2
            exact ⟨by rw [HV.out]; rfl, rfl⟩
    · have hE : E = m := by rw [HE.out, pass_stop (fun h => hl h.1)]
      have HV : Hid (V = .tuple #[.int .i64 0, .bool false]) := hid (by rw [GV.out, hE, bt_over hl]; rfl)
      have c1 : ¬ (m : Int) < (s.size : Int) := by omega
      clear gE hE
      go_wp2_with fail
      go_ret2
      exact ⟨by rw [HV.out]; rfl, rfl⟩

end Go.Proofs.YtidcodpekeaigaaDoor
