/- A number's digits: what they come to when they are scanned. -/
import Derived.Test.YtidcodpekeaigaaDoorLAhead
namespace Go.Proofs.YtidcodpekeaigaaDoor
open Go.RowKit
set_option linter.unusedVariables false

/-- The byte of a digit. -/
def hd (r : Nat) : UInt8 := if r < 10 then UInt8.ofNat (48 + r) else UInt8.ofNat (87 + r)
theorem hd_all : ∀ r, r < 16 → ((hd r).toNat : Int) = if r < 10 then 48 + (r : Int) else 87 + (r : Int) := by
  intro r hr
  unfold hd
  split
  · simp; omega
  · simp; omega
theorem val_hd {r : Nat} (hr : r < 16) : val ((hd r).toNat : Int) = r := by
  rw [hd_all r hr]
  unfold val
  split
  · rw [if_pos (by omega)]; omega
  · rw [if_neg (by omega), if_pos (by omega)]; omega

/-- What digits come to. -/
def worth (base : Int) : Int → List UInt8 → Int
  | n, [] => n
  | n, b :: l => worth base (n * base + val (b.toNat : Int)) l
def AllDig (base : Int) (l : List UInt8) : Prop := ∀ b ∈ l, val (b.toNat : Int) < base

theorem val_byte (b : UInt8) : 0 ≤ val (b.toNat : Int) := val_ge (by omega)

theorem worth_ge {base : Int} (hb : 1 ≤ base) : ∀ (l : List UInt8) {n : Int}, 0 ≤ n → n ≤ worth base n l
  | [], n, _ => Int.le_refl n
  | b :: l, n, h => by
    have h1 := val_byte b
    have h2 : n ≤ n * base := by
      have := Int.mul_le_mul_of_nonneg_left hb h
      rwa [Int.mul_one] at this
    exact Int.le_trans (by omega) (worth_ge hb l (n := n * base + val (b.toNat : Int)) (by omega))

theorem worth_split (base : Int) : ∀ (l : List UInt8) (n : Int), worth base n l = n * base ^ l.length + worth base 0 l
  | [], n => by simp [worth]
  | b :: l, n => by
    show worth base (n * base + val (b.toNat : Int)) l = _ + worth base (0 * base + val (b.toNat : Int)) l
    rw [worth_split base l (n * base + val (b.toNat : Int)), worth_split base l (0 * base + val (b.toNat : Int)), List.length_cons, Int.pow_succ]
    rw [Int.add_mul, Int.zero_mul, Int.zero_add, Int.mul_assoc, Int.mul_comm base (base ^ l.length), Int.add_assoc]

/-- Digits of a text, from a place to its end. -/
theorem amt_digits (s : ByteArray) (base top : Int) (hb : 1 ≤ base ∧ base ≤ 16) (n : Int) (i : Nat) (hi : i ≤ s.size) (h0 : 0 ≤ n) (hd' : AllDig base (s.data.toList.drop i)) (ht : worth base n (s.data.toList.drop i) ≤ top) :
    amt s base top n i = (worth base n (s.data.toList.drop i), s.size) := by
  by_cases hl : i < s.size
  · have h2 : i < s.data.toList.length := by rw [list_len]; exact hl
    have hc := List.drop_eq_getElem_cons h2
    have hbt : bt s i = ((s.data.toList[i]).toNat : Int) := by rw [bt_list, List.getElem?_eq_getElem h2]
    rw [hc] at hd' ht ⊢
    have hv : val (bt s i) < base := by rw [hbt]; exact hd' _ (by simp)
    have hvb := val_byte s.data.toList[i]
    have hnn : 0 ≤ n * base := Int.mul_nonneg h0 (by omega)
    have hge := worth_ge hb.1 (s.data.toList.drop (i + 1)) (n := n * base + val ((s.data.toList[i]).toNat : Int)) (by omega)
    have ht' : worth base (n * base + val ((s.data.toList[i]).toNat : Int)) (s.data.toList.drop (i + 1)) ≤ top := ht
    rw [amt_go hb.2 hv, hbt, show min (n * base + val ((s.data.toList[i]).toNat : Int)) top = n * base + val ((s.data.toList[i]).toNat : Int) by omega]
    exact amt_digits s base top hb _ (i + 1) hl (by omega) (fun b hb' => hd' b (List.mem_cons_of_mem _ hb')) ht'
  · have e : i = s.size := by omega
    have hz : ¬ val (bt s i) < base := by rw [bt_over hl, val_nought]; omega
    rw [amt_stop hz, List.drop_eq_nil_of_le (by rw [list_len]; omega), e]
    rfl
termination_by s.size - i

/-- The digits of a number: so much is laid down, so much is still to come. -/
structure Digs (base : Int) (N : Int) (m : Int) (l : List UInt8) : Prop where
  dig : AllDig base l
  sum : m * base ^ l.length + worth base 0 l = N
  small : m * 2 ^ l.length ≤ 2147483648
  pos : 0 ≤ m

theorem Digs.start {base N : Int} (h : 0 ≤ N ∧ N ≤ 2147483648) : Digs base N N [] := ⟨fun b hb => absurd hb (by simp), by simp [worth], by simp; omega, h.1⟩

theorem Digs.len {base N m : Int} {l : List UInt8} (h : Digs base N m l) (hm : 0 < m) : l.length ≤ 31 := by
  have h1 := h.small
  apply Decidable.byContradiction
  intro hc
  have h2 : (2 : Int) ^ 32 ≤ 2 ^ l.length := by
    have : (2 : Nat) ^ 32 ≤ 2 ^ l.length := Nat.pow_le_pow_right (by omega) (by omega)
    exact_mod_cast this
  have h3 : (2 : Int) ^ l.length ≤ m * 2 ^ l.length := by
    have := Int.mul_le_mul_of_nonneg_right (show 1 ≤ m by omega) (show (0 : Int) ≤ 2 ^ l.length by omega)
    rwa [Int.one_mul] at this
  omega

theorem Digs.next {base N m : Int} {l : List UInt8} (h : Digs base N m l) (hb : 2 ≤ base ∧ base ≤ 16) (r : Nat) (hr : (r : Int) = m % base) : Digs base N (m / base) (hd r :: l) := by
  have hr0 := Int.emod_nonneg m (show base ≠ 0 by omega)
  have hr1 := Int.emod_lt_of_pos m (show 0 < base by omega)
  have hr16 : r < 16 := by omega
  have hv := val_hd hr16
  have hq : 0 ≤ m / base := Int.ediv_nonneg h.pos (by omega)
  refine ⟨fun b hb' => ?_, ?_, ?_, hq⟩
  · rcases List.mem_cons.1 hb' with e | e
    · rw [e, hv]; omega
    · exact h.dig b e
  · have h1 := h.sum
    show m / base * base ^ (l.length + 1) + worth base (0 * base + val ((hd r).toNat : Int)) l = N
    rw [worth_split, hv, hr, Int.pow_succ, Int.zero_mul, Int.zero_add, ← h1]
    have h2 := Int.mul_ediv_add_emod m base
    obtain ⟨q, gq⟩ : ∃ q, q = m / base := ⟨_, rfl⟩
    obtain ⟨x, gx⟩ : ∃ x, x = m % base := ⟨_, rfl⟩
    obtain ⟨P, gP⟩ : ∃ P, P = base ^ l.length := ⟨_, rfl⟩
    rw [← gq, ← gx] at h2
    rw [← gq, ← gx, ← gP, ← h2, Int.add_mul, Int.mul_comm P base, ← Int.mul_assoc, Int.mul_comm q base]
    omega
  · have h1 := h.small
    have h2 : m / base * 2 ≤ m := by
      have h3 := Int.mul_ediv_add_emod m base
      have h4 : 2 * (m / base) ≤ base * (m / base) := Int.mul_le_mul_of_nonneg_right hb.1 hq
      omega
    rw [List.length_cons, Int.pow_succ]
    have h6 : (0 : Int) ≤ 2 ^ l.length := by
      have : (0 : Nat) ≤ 2 ^ l.length := Nat.zero_le _
      exact_mod_cast this
    have h5 : m / base * 2 * 2 ^ l.length ≤ m * 2 ^ l.length := Int.mul_le_mul_of_nonneg_right h2 h6
    rw [Int.mul_assoc, Int.mul_comm 2 (2 ^ l.length)] at h5
    exact Int.le_trans h5 h1

theorem Digs.done {base N : Int} {l : List UInt8} (h : Digs base N 0 l) : worth base 0 l = N := by
  have := h.sum
  rw [Int.zero_mul, Int.zero_add] at this
  exact this

theorem extract_all (s : ByteArray) : s.extract 0 s.size = s := by
  apply ByteArray.ext
  apply Array.toList_inj.1
  simp only [ByteArray.data_extract, Array.toList_extract, List.extract_eq_take_drop]
  rw [List.drop_zero, List.take_of_length_le (by rw [list_len]; omega)]

theorem num_tok {s : ByteArray} {d : Nat} {base N : Int} (hb : 1 ≤ base ∧ base ≤ 16) (hD : AllDig base (s.data.toList.drop d)) (hw : worth base 0 (s.data.toList.drop d) = N) (hN : N ≤ 2147483648) (hd' : d < s.size) :
    numD s 0 base d = .tok ⟨2, 0, s, sgn s 0 N⟩ s.size := by
  have ha := amt_digits s base 2147483649 hb 0 d (Nat.le_of_lt hd') (by omega) hD (by omega)
  unfold numD
  rw [ha, hw]
  unfold numE
  simp only
  rw [if_neg (by omega), if_neg (by omega), bt_over (Nat.lt_irrefl _), extract_all]
  rfl

theorem scan_one {s : ByteArray} {t : Tok} (h0 : 0 < s.size) (h1 : s.size ≤ 4000) (h : stepP s 0 = .tok t s.size) : scanR s = .toks [t] := by
  unfold scanR
  rw [if_neg (by omega), scanP_tok h0 h, scanP_over (Nat.lt_irrefl _)]
  rfl

theorem bt_dig {s : ByteArray} {d j : Nat} {base : Int} (hD : AllDig base (s.data.toList.drop d)) (h1 : d ≤ j) (h2 : j < s.size) : val (bt s j) < base := by
  have h3 : j < s.data.toList.length := by rw [list_len]; exact h2
  rw [bt_list, List.getElem?_eq_getElem h3]
  refine hD _ ?_
  have e : s.data.toList[j] = (s.data.toList.drop d)[j - d]'(by rw [List.length_drop]; omega) := by
    rw [List.getElem_drop]
    congr 1
    omega
  rw [e]
  exact List.getElem_mem _
theorem val10 {b : Int} (h : val b < 10) : isDig b = true := by
  unfold val at h
  simp [isDig]
  split at h
  · assumption
  · split at h <;> omega

/-- Digits of the base 10. -/
theorem not_x {s : ByteArray} {d : Nat} (hD : AllDig 10 (s.data.toList.drop d)) : ¬ bt s (d + 1) = 120 := by
  intro e
  have h1 : d + 1 < s.size := bt_lt (by rw [e]; decide)
  have := bt_dig hD (Nat.le_succ d) h1
  rw [e] at this
  revert this
  decide
theorem numP_ten {s : ByteArray} {d : Nat} (hD : AllDig 10 (s.data.toList.drop d)) : numP s 0 d = numD s 0 10 d := by
  unfold numP
  rw [if_neg (fun h => not_x hD h.2.1)]
theorem numP_hex {s : ByteArray} {d : Nat} (h0 : bt s d = 48) (h1 : bt s (d + 1) = 120) (hD : AllDig 16 (s.data.toList.drop (d + 2))) (hd' : d + 2 < s.size) : numP s 0 d = numD s 0 16 (d + 2) := by
  unfold numP
  rw [if_pos ⟨h0, h1, bt_dig hD (Nat.le_refl _) hd'⟩]
theorem stepP_digit {s : ByteArray} (h : isDig (bt s 0) = true) : stepP s 0 = numP s 0 0 := by
  obtain ⟨d0, d1, d2, d3, d4, d5, d6⟩ := isDig_not h
  unfold stepP wordP
  rw [if_neg (by simp [d1]), if_neg d3, if_neg (by simp [d2]), if_neg d4, if_neg d5, if_neg d6, if_pos h]
theorem stepP_minus {s : ByteArray} (h : bt s 0 = 45) : stepP s 0 = numP s 0 1 := by unfold stepP; rw [h]; rfl

/-- A number in digits of the base 10. -/
theorem scan_dec {l : List UInt8} {N : Int} (hD : AllDig 10 l) (hw : worth 10 0 l = N) (hN : N ≤ 2147483648) (h0 : 0 < l.length) (h1 : l.length ≤ 32) :
    scanR ⟨l.toArray⟩ = .toks [⟨2, 0, ⟨l.toArray⟩, N⟩] ∧ scanR (⟨#[45]⟩ ++ ⟨l.toArray⟩) = .toks [⟨2, 0, ⟨#[45]⟩ ++ ⟨l.toArray⟩, - N⟩] := by
  have z1 : (ByteArray.mk l.toArray).size = l.length := by rw [← list_len]
  have z2 : (⟨#[45]⟩ ++ ByteArray.mk l.toArray).size = 1 + l.length := by rw [size_app, z1]; rfl
  have d1 : (ByteArray.mk l.toArray).data.toList.drop 0 = l := rfl
  have d2 : (⟨#[45]⟩ ++ ByteArray.mk l.toArray).data.toList.drop 1 = l := by rw [app_list]; rfl
  constructor
  · have hb := val10 (bt_dig (s := ⟨l.toArray⟩) (d := 0) (j := 0) (base := 10) hD (Nat.le_refl 0) (by omega))
    have hs : sgn ⟨l.toArray⟩ 0 N = N := by
      unfold sgn
      rw [if_neg (fun e => by rw [e] at hb; cases hb)]
    refine scan_one (by omega) (by omega) ?_
    rw [stepP_digit hb, numP_ten (by rw [d1]; exact hD), num_tok (by omega) (by rw [d1]; exact hD) (by rw [d1]; exact hw) hN (by omega), hs]
  · have hb : bt (⟨#[45]⟩ ++ ByteArray.mk l.toArray) 0 = 45 := (bt_ahead _ _ (by decide)).trans (by decide)
    have hs : sgn (⟨#[45]⟩ ++ ByteArray.mk l.toArray) 0 N = - N := by
      unfold sgn
      rw [if_pos hb]
    refine scan_one (by omega) (by omega) ?_
    rw [stepP_minus hb, numP_ten (by rw [d2]; exact hD), num_tok (by omega) (by rw [d2]; exact hD) (by rw [d2]; exact hw) hN (by omega), hs]

/-- A number in digits of the base 16. -/
theorem scan_hex {l : List UInt8} {N : Int} (hD : AllDig 16 l) (hw : worth 16 0 l = N) (hN : N ≤ 2147483648) (h0 : 0 < l.length) (h1 : l.length ≤ 32) :
    scanR (⟨#[48, 120]⟩ ++ ⟨l.toArray⟩) = .toks [⟨2, 0, ⟨#[48, 120]⟩ ++ ⟨l.toArray⟩, N⟩] ∧ scanR (⟨#[45]⟩ ++ (⟨#[48, 120]⟩ ++ ⟨l.toArray⟩)) = .toks [⟨2, 0, ⟨#[45]⟩ ++ (⟨#[48, 120]⟩ ++ ⟨l.toArray⟩), - N⟩] := by
  have z1 : (ByteArray.mk l.toArray).size = l.length := by rw [← list_len]
  have z2 : (⟨#[48, 120]⟩ ++ ByteArray.mk l.toArray).size = 2 + l.length := by rw [size_app, z1]; rfl
  have z3 : (⟨#[45]⟩ ++ (⟨#[48, 120]⟩ ++ ByteArray.mk l.toArray)).size = 1 + (2 + l.length) := by rw [size_app, z2]; rfl
  have d2 : (⟨#[48, 120]⟩ ++ ByteArray.mk l.toArray).data.toList.drop 2 = l := by rw [app_list]; rfl
  have d3 : (⟨#[45]⟩ ++ (⟨#[48, 120]⟩ ++ ByteArray.mk l.toArray)).data.toList.drop 3 = l := by rw [app_list, app_list]; rfl
  have b0 : bt (⟨#[48, 120]⟩ ++ ByteArray.mk l.toArray) 0 = 48 := (bt_ahead _ _ (by decide)).trans (by decide)
  have b1 : bt (⟨#[48, 120]⟩ ++ ByteArray.mk l.toArray) 1 = 120 := (bt_ahead _ _ (by decide)).trans (by decide)
  constructor
  · have hs : sgn (⟨#[48, 120]⟩ ++ ByteArray.mk l.toArray) 0 N = N := by
      unfold sgn
      rw [if_neg (by rw [b0]; decide)]
    refine scan_one (by omega) (by omega) ?_
    rw [stepP_digit (by rw [b0]; decide), numP_hex b0 b1 (by rw [d2]; exact hD) (by omega), num_tok (by omega) (by rw [d2]; exact hD) (by rw [d2]; exact hw) hN (by omega), hs]
  · have c0 : bt (⟨#[45]⟩ ++ (⟨#[48, 120]⟩ ++ ByteArray.mk l.toArray)) 0 = 45 := (bt_ahead _ _ (by decide)).trans (by decide)
    have c1 : bt (⟨#[45]⟩ ++ (⟨#[48, 120]⟩ ++ ByteArray.mk l.toArray)) 1 = 48 := (bt_app ⟨#[45]⟩ _ 0).trans b0
    have c2 : bt (⟨#[45]⟩ ++ (⟨#[48, 120]⟩ ++ ByteArray.mk l.toArray)) 2 = 120 := (bt_app ⟨#[45]⟩ _ 1).trans b1
    have hs : sgn (⟨#[45]⟩ ++ (⟨#[48, 120]⟩ ++ ByteArray.mk l.toArray)) 0 N = - N := by
      unfold sgn
      rw [if_pos c0]
    refine scan_one (by omega) (by omega) ?_
    rw [stepP_minus c0, numP_hex c1 c2 (by rw [d3]; exact hD) (by omega), num_tok (by omega) (by rw [d3]; exact hD) (by rw [d3]; exact hw) hN (by omega), hs]

end Go.Proofs.YtidcodpekeaigaaDoor
