/- Tokens as a text, and that text scanned again: without memory. -/
import Derived.Test.YtidcodpekeaigaaDoorLDigits
import Derived.Lib.ItoaNum
namespace Go.Proofs.YtidcodpekeaigaaDoor
open Go.RowKit
set_option linter.unusedVariables false

theorem bt_extract {s : ByteArray} {a b j : Nat} (hb : b ≤ s.size) (hj : j < b - a) : bt (s.extract a b) j = bt s (a + j) := by
  rw [bt_list, bt_list]
  have e : (s.extract a b).data.toList = (s.data.toList.drop a).take (b - a) := by
    simp only [ByteArray.data_extract, Array.toList_extract, List.extract_eq_take_drop]
  rw [e, List.getElem?_take_of_lt hj, List.getElem?_drop]

/-- What Scan may tell as a token. -/
def Good (t : Tok) : Prop :=
  (t.kind = 1 ∧ 0 < t.text.size ∧ isLet (bt t.text 0) = true ∧ (∀ j, j < t.text.size → inNm (bt t.text j) = true) ∧ t.num = 0) ∨
  (t.kind = 2 ∧ -2147483648 ≤ t.num ∧ t.num ≤ 2147483648) ∨
  (t.kind = 3 ∧ (∀ j, j < t.text.size → inTx (bt t.text j) = true) ∧ t.num = 0) ∨
  (t.kind = 4 ∧ t.text.size = 1 ∧ isMark (bt t.text 0) = true ∧ t.num = 0) ∨
  (t.kind = 5 ∧ t.text = ⟨#[10]⟩ ∧ t.num = 0)

theorem good_num {s : ByteArray} {i d k : Nat} {t : Tok} (h : numP s i d = .tok t k) : Good t := by
  have key : ∀ (base : Int) (D : Nat), base ≤ 16 → 0 ≤ base → numD s i base D = .tok t k → Good t := by
    intro base D hb h0 h
    have ha := amt_bound (s := s) (base := base) (top := 2147483649) (n := 0) (i := D) hb h0 ⟨by omega, by omega⟩
    unfold numD numE at h
    split at h
    · cases h
    split at h
    · cases h
    rename_i h2
    split at h
    · cases h
    · cases h
      refine .inr (.inl ⟨rfl, ?_⟩)
      unfold sgn
      show -2147483648 ≤ (if bt s i = 45 then _ else _) ∧ (if bt s i = 45 then _ else _) ≤ 2147483648
      split <;> omega
  unfold numP at h
  split at h
  · exact key 16 (d + 2) (by omega) (by omega) h
  · exact key 10 d (by omega) (by omega) h

theorem good_step {s : ByteArray} {i k : Nat} {t : Tok} (hi : i < s.size) (h : stepP s i = .tok t k) : Good t := by
  unfold stepP at h
  split at h
  · cases h
  split at h
  · cases h
  split at h
  · rename_i hm
    cases h
    refine .inr (.inr (.inr (.inl ⟨rfl, ?_, ?_, rfl⟩)))
    · show (s.extract i (i + 1)).size = 1
      rw [size_extract' s (by omega)]
      omega
    · show isMark (bt (s.extract i (i + 1)) 0) = true
      rw [bt_extract (by omega) (by omega)]
      exact hm
  split at h
  · rename_i hl
    cases h
    exact .inr (.inr (.inr (.inr ⟨rfl, extract_one hi hl, rfl⟩)))
  split at h
  · unfold txtP at h
    split at h
    · rename_i h1
      cases h
      have h3 : pass inTx s (i + 1) < s.size := bt_lt (by rw [h1]; decide)
      refine .inr (.inr (.inl ⟨rfl, fun j hj => ?_, rfl⟩))
      have hj' : j < (s.extract (i + 1) (pass inTx s (i + 1))).size := hj
      rw [size_extract' s (Nat.le_of_lt h3)] at hj'
      show inTx (bt (s.extract (i + 1) (pass inTx s (i + 1))) j) = true
      rw [bt_extract (Nat.le_of_lt h3) hj']
      exact (pass_all (f := inTx) (s := s) (i := i + 1) (j := i + 1 + j) (by omega) (by omega)).2
    · cases h
  split at h
  · exact good_num h
  unfold wordP at h
  split at h
  · exact good_num h
  split at h
  · rename_i hlet
    cases h
    have hin : inNm (bt s i) = true := by unfold inNm; rw [hlet]; rfl
    have hge : i + 1 ≤ pass inNm s i := by rw [pass_go hi hin]; exact pass_ge _ _ _
    have hle : pass inNm s i ≤ s.size := pass_le (Nat.le_of_lt hi)
    have hz := size_extract' s (a := i) hle
    refine .inl ⟨rfl, ?_, ?_, fun j hj => ?_, rfl⟩
    · show 0 < (s.extract i (pass inNm s i)).size
      omega
    · show isLet (bt (s.extract i (pass inNm s i)) 0) = true
      rw [bt_extract hle (by omega)]
      exact hlet
    · have hj' : j < (s.extract i (pass inNm s i)).size := hj
      rw [hz] at hj'
      show inNm (bt (s.extract i (pass inNm s i)) j) = true
      rw [bt_extract hle hj']
      exact (pass_all (f := inNm) (s := s) (i := i) (j := i + j) (by omega) (by omega)).2
  · cases h

theorem scanP_good {s : ByteArray} {i : Nat} {acc l : List Tok} (ha : ∀ t ∈ acc, Good t) (h : scanP s i acc = .toks l) : ∀ t ∈ l, Good t := by
  by_cases hl : i < s.size
  · rcases hs : stepP s i with k | ⟨t, k⟩ | ⟨j, why⟩
    · rw [scanP_skip hl hs] at h
      have := stepP_skip hl hs
      exact scanP_good ha h
    · rw [scanP_tok hl hs] at h
      have := stepP_tok hl hs
      refine scanP_good (fun x hx => ?_) h
      rcases List.mem_append.1 hx with e | e
      · exact ha x e
      · rw [List.mem_singleton.1 e]
        exact good_step hl hs
    · rw [scanP_bad hl hs] at h
      cases h
  · rw [scanP_over hl] at h
    cases h
    exact ha
termination_by s.size - i
theorem scanR_good {s : ByteArray} {l : List Tok} (h : scanR s = .toks l) : ∀ t ∈ l, Good t := by
  unfold scanR at h
  split at h
  · cases h
  · exact scanP_good (by simp) h

/-- A token as it is printed. -/
def wrB (t : Tok) : ByteArray :=
  if t.kind = 1 ∨ t.kind = 4 then t.text
  else if t.kind = 2 then ⟨(Lib.itoa t.num).toArray⟩
  else if t.kind = 3 then ⟨#[34]⟩ ++ t.text ++ ⟨#[34]⟩
  else if t.kind = 5 then ⟨#[10]⟩
  else ⟨#[]⟩

/-- Does a blank stand ahead of a token? -/
def sep (prev : Option Int) (t : Tok) : Bool :=
  match prev with
  | some k => !decide (t.kind = 5) && !decide (k = 5)
  | none => false

/-- Tokens as a text. -/
def prB : Option Int → List Tok → ByteArray
  | _, [] => ⟨#[]⟩
  | prev, t :: l => (if sep prev t then ⟨#[32]⟩ ++ (wrB t ++ prB (some t.kind) l) else wrB t ++ prB (some t.kind) l)

/-- Behind a token that is no line's end: nothing, a blank, or a line's end. -/
def Stops (r : ByteArray) : Prop := bt r 0 = 0 ∨ bt r 0 = 32 ∨ bt r 0 = 10
theorem Stops.nm {r : ByteArray} (h : Stops r) : inNm (bt r 0) = false := by
  rcases h with h | h | h <;> rw [h] <;> decide
theorem Stops.dig {r : ByteArray} (h : Stops r) : ¬ val (bt r 0) < 16 := by
  rcases h with h | h | h <;> rw [h] <;> decide
theorem wr5 {t : Tok} (h : t.kind = 5) : wrB t = ⟨#[10]⟩ := by
  unfold wrB
  rw [h]
  rfl
theorem stops_pr {k : Int} (hk : ¬ k = 5) : ∀ l : List Tok, Stops (prB (some k) l)
  | [] => .inl rfl
  | t :: l => by
    by_cases h : t.kind = 5
    · have hs : sep (some k) t = false := by simp [sep, h]
      unfold prB
      rw [if_neg (by rw [hs]; decide), wr5 h]
      exact .inr (.inr ((bt_ahead _ _ (by decide)).trans (by decide)))
    · have hs : sep (some k) t = true := by simp [sep, h, hk]
      unfold prB
      rw [if_pos hs]
      exact .inr (.inl ((bt_ahead _ _ (by decide)).trans (by decide)))

theorem pass_run {f : Int → Bool} {s : ByteArray} (n : Nat) (hn : n ≤ s.size) (hs : ¬ (n < s.size ∧ f (bt s n) = true)) (i : Nat) (hi : i ≤ n) (h : ∀ j, i ≤ j → j < n → f (bt s j) = true) : pass f s i = n := by
  by_cases e : i = n
  · rw [e]
    exact pass_stop hs
  · rw [pass_go (by omega) (h i (Nat.le_refl i) (by omega))]
    exact pass_run n hn hs (i + 1) (by omega) (fun j h1 h2 => h j (by omega) h2)
termination_by n - i

theorem extract_front (w r : ByteArray) : (w ++ r).extract 0 w.size = w := by
  apply ByteArray.ext
  apply Array.toList_inj.1
  simp only [ByteArray.data_extract, Array.toList_extract, List.extract_eq_take_drop]
  rw [List.drop_zero, Nat.sub_zero, app_list, ← list_len, List.take_left]

theorem isMark_not {b : Int} (h : isMark b = true) : isBlank b = false ∧ ¬ b = 35 := by
  simp [isMark] at h
  refine ⟨?_, ?_⟩
  · simp [isBlank]; omega
  · omega

theorem worth_app (base : Int) : ∀ (x y : List UInt8) (n : Int), worth base n (x ++ y) = worth base (worth base n x) y
  | [], y, n => rfl
  | b :: x, y, n => worth_app base x y (n * base + val (b.toNat : Int))

theorem dec_digits (u : Nat) : AllDig 10 (Lib.decDigits u) ∧ worth 10 0 (Lib.decDigits u) = (u : Int) ∧ 0 < (Lib.decDigits u).length := by
  have hb : ∀ r : Nat, r < 10 → val ((UInt8.ofNat (48 + r)).toNat : Int) = (r : Int) := fun r hr => by
    have h := val_hd (r := r) (by omega)
    unfold hd at h
    rwa [if_pos hr] at h
  rw [Lib.decDigits]
  split
  · rename_i h
    refine ⟨fun b hb' => ?_, ?_, by simp⟩
    · rw [List.mem_singleton.1 hb', hb u h]; omega
    · show (0 * 10 + val _ : Int) = u
      rw [hb u h]; omega
  · rename_i h
    obtain ⟨h1, h2, h3⟩ := dec_digits (u / 10)
    have hr : u % 10 < 10 := Nat.mod_lt _ (by omega)
    refine ⟨fun b hb' => ?_, ?_, by simp⟩
    · rcases List.mem_append.1 hb' with e | e
      · exact h1 b e
      · rw [List.mem_singleton.1 e, hb _ hr]; omega
    · rw [worth_app, h2]
      show ((u / 10 : Nat) : Int) * 10 + val _ = u
      rw [hb _ hr]; omega
termination_by u
decreasing_by omega

/-- Digits of a text, from a place to another one, where they end. -/
theorem amt_upto (s : ByteArray) (base top : Int) (hb : 1 ≤ base ∧ base ≤ 16) (e : Nat) (he : e ≤ s.size) (hs : ¬ val (bt s e) < base) (n : Int) (i : Nat) (hi : i ≤ e) (h0 : 0 ≤ n) (l : List UInt8) (hl : l = (s.data.toList.drop i).take (e - i)) (hd' : AllDig base l) (ht : worth base n l ≤ top) :
    amt s base top n i = (worth base n l, e) := by
  by_cases hlt : i < e
  · have h2 : i < s.data.toList.length := by rw [list_len]; omega
    have hc := List.drop_eq_getElem_cons h2
    have hbt : bt s i = ((s.data.toList[i]).toNat : Int) := by rw [bt_list, List.getElem?_eq_getElem h2]
    have hl' : l = s.data.toList[i] :: (s.data.toList.drop (i + 1)).take (e - (i + 1)) := by
      rw [hl, hc, show e - i = (e - (i + 1)) + 1 by omega, List.take_succ_cons]
    rw [hl'] at hd' ht ⊢
    have hv : val (bt s i) < base := by rw [hbt]; exact hd' _ (by simp)
    have hvb := val_byte s.data.toList[i]
    have hnn : 0 ≤ n * base := Int.mul_nonneg h0 (by omega)
    have hge := worth_ge hb.1 ((s.data.toList.drop (i + 1)).take (e - (i + 1))) (n := n * base + val ((s.data.toList[i]).toNat : Int)) (by omega)
    have ht' : worth base (n * base + val ((s.data.toList[i]).toNat : Int)) ((s.data.toList.drop (i + 1)).take (e - (i + 1))) ≤ top := ht
    rw [amt_go hb.2 hv, hbt, show min (n * base + val ((s.data.toList[i]).toNat : Int)) top = n * base + val ((s.data.toList[i]).toNat : Int) by omega]
    exact amt_upto s base top hb e he hs _ (i + 1) hlt (by omega) _ rfl (fun b hb' => hd' b (List.mem_cons_of_mem _ hb')) ht'
  · have e' : i = e := by omega
    rw [e'] at hl ⊢
    rw [Nat.sub_self, List.take_zero] at hl
    rw [hl, amt_stop hs]
    rfl
termination_by e - i

/-- A number's digits with something behind: its token. -/
theorem num_step (s : ByteArray) (d e : Nat) (l : List UInt8) (N : Int) (hde : d < e) (he : e ≤ s.size) (hl : l = (s.data.toList.drop d).take (e - d)) (hD : AllDig 10 l) (hw : worth 10 0 l = N) (hN : N ≤ 2147483648) (hst : ¬ val (bt s e) < 16) (hnm : inNm (bt s e) = false)
    (hx : ¬ bt s (d + 1) = 120) : numP s 0 d = .tok ⟨2, 0, s.extract 0 e, sgn s 0 N⟩ e := by
  have ha := amt_upto s 10 2147483649 (by omega) e he (by omega) 0 d (Nat.le_of_lt hde) (by omega) l hl hD (by omega)
  unfold numP
  rw [if_neg (fun h => hx h.2.1)]
  unfold numD
  rw [ha, hw]
  unfold numE
  simp only
  rw [if_neg (by omega), if_neg (by omega), if_neg (by rw [hnm]; decide)]

theorem take_at {s : ByteArray} {d e j : Nat} {l : List UInt8} (he : e ≤ s.size) (hl : l = (s.data.toList.drop d).take (e - d)) (hD : AllDig 10 l) (h1 : d ≤ j) (h2 : j < e) : val (bt s j) < 10 := by
  have h3 : j < s.data.toList.length := by rw [list_len]; omega
  rw [bt_list, List.getElem?_eq_getElem h3]
  refine hD _ ?_
  rw [hl]
  have hlen : j - d < ((s.data.toList.drop d).take (e - d)).length := by rw [List.length_take, List.length_drop, list_len]; omega
  have e' : s.data.toList[j] = ((s.data.toList.drop d).take (e - d))[j - d]'hlen := by
    rw [List.getElem_take, List.getElem_drop]
    congr 1
    omega
  rw [e']
  exact List.getElem_mem _

/-- A printed token, with what may stand behind it, is scanned as it. -/
theorem step_back {t : Tok} (h : Good t) (r : ByteArray) (hr : t.kind = 5 ∨ Stops r) : 0 < (wrB t).size ∧ ∃ t', stepP (wrB t ++ r) 0 = .tok t' (wrB t).size ∧ bareT t' = bareT t := by
  rcases h with ⟨hk, h0, hlet, hnm, hn⟩ | ⟨hk, hn1, hn2⟩ | ⟨hk, htx, hn⟩ | ⟨hk, h1, hm, hn⟩ | ⟨hk, ht, hn⟩
  · have hw : wrB t = t.text := by unfold wrB; rw [if_pos (.inl hk)]
    have hst : Stops r := by rcases hr with h | h; (rw [hk] at h; cases h); exact h
    rw [hw]
    have b0 : bt (t.text ++ r) 0 = bt t.text 0 := bt_ahead _ _ h0
    have hp : pass inNm (t.text ++ r) 0 = t.text.size := by
      refine pass_run t.text.size (by rw [size_app]; omega) (fun h => ?_) 0 (Nat.zero_le _) (fun j _ hj => by rw [bt_ahead _ _ hj]; exact hnm j hj)
      have h2 := h.2
      have hb := bt_app t.text r 0
      rw [Nat.add_zero] at hb
      rw [hb, hst.nm] at h2
      cases h2
    obtain ⟨n0, n1, n2, n3, n4, n5, n6⟩ := isLet_not hlet
    refine ⟨h0, ⟨1, 0, t.text, 0⟩, ?_, ?_⟩
    · unfold stepP wordP
      rw [b0, if_neg (by simp [n1]), if_neg n3, if_neg (by simp [n2]), if_neg n4, if_neg n5, if_neg n6, if_neg (by simp [n0]), if_pos hlet, hp, extract_front]
    · unfold bareT
      rw [hk, hn]
  · have hw : wrB t = ⟨(Lib.itoa t.num).toArray⟩ := by unfold wrB; rw [hk]; rfl
    have hst : Stops r := by rcases hr with h | h; (rw [hk] at h; cases h); exact h
    have hfin : ∀ x : ByteArray, bareT ⟨2, 0, x, t.num⟩ = bareT t := fun x => by
      unfold bareT
      rw [hk]
      rfl
    rw [hw]
    unfold Lib.itoa
    split
    · rename_i hneg
      obtain ⟨d1, d2, d3⟩ := dec_digits t.num.natAbs
      obtain ⟨l, gl⟩ : ∃ l, l = Lib.decDigits t.num.natAbs := ⟨_, rfl⟩
      rw [← gl] at d1 d2 d3 ⊢
      have hz : (ByteArray.mk (45 :: l).toArray).size = 1 + l.length := by rw [← list_len]; simp; omega
      have hb := bt_app (ByteArray.mk (45 :: l).toArray) r 0
      rw [Nat.add_zero, hz] at hb
      have hll : l = ((ByteArray.mk (45 :: l).toArray ++ r).data.toList.drop 1).take (1 + l.length - 1) := by
        rw [app_list, show 1 + l.length - 1 = l.length by omega]
        show l = (l ++ r.data.toList).take l.length
        rw [List.take_left]
      have hsz : 1 + l.length ≤ (ByteArray.mk (45 :: l).toArray ++ r).size := by rw [size_app, hz]; omega
      have b0 : bt (ByteArray.mk (45 :: l).toArray ++ r) 0 = 45 := (bt_ahead _ _ (by rw [hz]; omega)).trans (by rw [bt_list]; rfl)
      have hx : ¬ bt (ByteArray.mk (45 :: l).toArray ++ r) (1 + 1) = 120 := fun e => by
        by_cases h2 : 2 < 1 + l.length
        · have := take_at hsz hll d1 (j := 2) (by omega) h2
          rw [e] at this
          revert this; decide
        · have e2 : 1 + l.length = 2 := by omega
          rw [e2] at hb
          rw [hb] at e
          rcases hst with h | h | h <;> rw [h] at e <;> cases e
      refine ⟨by rw [hz]; omega, ⟨2, 0, (ByteArray.mk (45 :: l).toArray ++ r).extract 0 (1 + l.length), t.num⟩, ?_, hfin _⟩
      · rw [stepP_minus b0, num_step _ 1 (1 + l.length) l (- t.num) (by omega) hsz hll d1 (by rw [d2]; omega) (by omega) (by rw [hb]; exact hst.dig) (by rw [hb]; exact hst.nm) hx, hz]
        congr 2
        unfold sgn
        rw [if_pos b0]
        omega
    · rename_i hneg
      obtain ⟨d1, d2, d3⟩ := dec_digits t.num.toNat
      obtain ⟨l, gl⟩ : ∃ l, l = Lib.decDigits t.num.toNat := ⟨_, rfl⟩
      rw [← gl] at d1 d2 d3 ⊢
      have hz : (ByteArray.mk l.toArray).size = l.length := by rw [← list_len]
      have hb := bt_app (ByteArray.mk l.toArray) r 0
      rw [Nat.add_zero, hz] at hb
      have hll : l = ((ByteArray.mk l.toArray ++ r).data.toList.drop 0).take (l.length - 0) := by
        rw [app_list, Nat.sub_zero, List.drop_zero]
        show l = (l ++ r.data.toList).take l.length
        rw [List.take_left]
      have hsz : l.length ≤ (ByteArray.mk l.toArray ++ r).size := by rw [size_app, hz]; omega
      have hdg := val10 (take_at hsz hll d1 (j := 0) (Nat.le_refl 0) d3)
      have hx : ¬ bt (ByteArray.mk l.toArray ++ r) (0 + 1) = 120 := fun e => by
        by_cases h2 : 1 < l.length
        · have := take_at hsz hll d1 (j := 1) (by omega) h2
          rw [Nat.zero_add] at e
          rw [e] at this
          revert this; decide
        · have e2 : l.length = 0 + 1 := by omega
          rw [e2] at hb
          rw [hb] at e
          rcases hst with h | h | h <;> rw [h] at e <;> cases e
      refine ⟨by rw [hz]; omega, ⟨2, 0, (ByteArray.mk l.toArray ++ r).extract 0 l.length, t.num⟩, ?_, hfin _⟩
      · rw [stepP_digit hdg, num_step _ 0 l.length l t.num d3 hsz hll d1 (by rw [d2]; omega) (by omega) (by rw [hb]; exact hst.dig) (by rw [hb]; exact hst.nm) hx, hz]
        congr 2
        unfold sgn
        rw [if_neg (fun e => by rw [e] at hdg; cases hdg)]
  · have hw : wrB t = ⟨#[34]⟩ ++ t.text ++ ⟨#[34]⟩ := by unfold wrB; rw [hk]; rfl
    rw [hw]
    have hz : (ByteArray.mk #[34] ++ t.text ++ ByteArray.mk #[34]).size = 1 + t.text.size + 1 := by rw [size_app, size_app]; rfl
    have hz1 : (ByteArray.mk #[34] ++ t.text).size = 1 + t.text.size := by rw [size_app]; rfl
    have b0 : bt (ByteArray.mk #[34] ++ t.text ++ ByteArray.mk #[34] ++ r) 0 = 34 := by
      rw [bt_ahead _ _ (by rw [hz]; omega), bt_ahead _ _ (by rw [hz1]; omega), bt_ahead _ _ (by decide)]; decide
    have be : bt (ByteArray.mk #[34] ++ t.text ++ ByteArray.mk #[34] ++ r) (1 + t.text.size) = 34 := by
      rw [bt_ahead _ _ (by rw [hz]; omega)]
      have := bt_app (ByteArray.mk #[34] ++ t.text) ⟨#[34]⟩ 0
      rw [Nat.add_zero, hz1] at this
      rw [this]; decide
    have hj : ∀ j, 1 ≤ j → j < 1 + t.text.size → inTx (bt (ByteArray.mk #[34] ++ t.text ++ ByteArray.mk #[34] ++ r) j) = true := fun j h1 h2 => by
      rw [bt_ahead _ _ (by rw [hz]; omega), bt_ahead _ _ (by rw [hz1]; omega)]
      have := bt_app ⟨#[34]⟩ t.text (j - 1)
      rw [show (ByteArray.mk #[34]).size + (j - 1) = j by show 1 + (j - 1) = j; omega] at this
      rw [this]
      exact htx _ (by omega)
    have hp : pass inTx (ByteArray.mk #[34] ++ t.text ++ ByteArray.mk #[34] ++ r) (0 + 1) = 1 + t.text.size := by
      refine pass_run (1 + t.text.size) (by rw [size_app, hz]; omega) (fun h => ?_) (0 + 1) (by omega) (fun j h1 h2 => hj j (by omega) h2)
      have h2 := h.2
      rw [be] at h2
      cases h2
    have hex : (ByteArray.mk #[34] ++ t.text ++ ByteArray.mk #[34] ++ r).extract 1 (1 + t.text.size) = t.text := by
      apply ByteArray.ext
      apply Array.toList_inj.1
      simp only [ByteArray.data_extract, Array.toList_extract, List.extract_eq_take_drop]
      rw [app_list, app_list, app_list, show 1 + t.text.size - 1 = t.text.size by omega]
      show (((34 :: t.text.data.toList) ++ [34] ++ r.data.toList).drop 1).take t.text.size = _
      rw [List.append_assoc, List.cons_append, List.drop_succ_cons, List.drop_zero, ← list_len, List.take_left]
    refine ⟨by rw [hz]; omega, ⟨3, 0, t.text, 0⟩, ?_, ?_⟩
    · unfold stepP txtP
      rw [b0, hp, be, hz, Nat.zero_add, hex]
      rfl
    · unfold bareT
      rw [hk, hn]
  · have hw : wrB t = t.text := by unfold wrB; rw [if_pos (.inr hk)]
    rw [hw]
    have b0 : bt (t.text ++ r) 0 = bt t.text 0 := bt_ahead _ _ (by omega)
    obtain ⟨m1, m2⟩ := isMark_not hm
    refine ⟨by omega, ⟨4, 0, t.text, 0⟩, ?_, ?_⟩
    · unfold stepP
      have hex := extract_front t.text r
      rw [h1] at hex
      rw [b0, if_neg (by simp [m1]), if_neg m2, if_pos hm, Nat.zero_add, hex, h1]
    · unfold bareT
      rw [hk, hn]
  · rw [wr5 hk]
    have b0 : bt (ByteArray.mk #[10] ++ r) 0 = 10 := (bt_ahead _ _ (by decide)).trans (by decide)
    refine ⟨by decide, ⟨5, 0, ⟨#[10]⟩, 0⟩, ?_, ?_⟩
    · unfold stepP
      have hex := extract_front (ByteArray.mk #[10]) r
      rw [show (ByteArray.mk #[10]).size = 1 from rfl] at hex ⊢
      rw [b0, Nat.zero_add, hex]
      rfl
    · unfold bareT
      rw [hk, hn, ht]

/-- Printed tokens are scanned as they were, but for places and the bytes of numbers. -/
theorem scan_back : ∀ (l : List Tok) (prev : Option Int), (∀ t ∈ l, Good t) → ∃ l', scanP (prB prev l) 0 [] = .toks l' ∧ l'.map bareT = l.map bareT
  | [], prev, _ => ⟨[], scanP_over (by show ¬ 0 < 0; omega), rfl⟩
  | t :: l, prev, hg => by
    obtain ⟨l', h1, h2⟩ := scan_back l (some t.kind) (fun x hx => hg x (List.mem_cons_of_mem _ hx))
    have ht := hg t (by simp)
    obtain ⟨hpos, t', hst, hbt⟩ := step_back ht (prB (some t.kind) l) (by
      by_cases h5 : t.kind = 5
      · exact .inl h5
      · exact .inr (stops_pr h5 l))
    have hS : scanP (wrB t ++ prB (some t.kind) l) 0 [] = .toks (t' :: l'.map (shT (wrB t).size)) := by
      rw [scanP_tok (by rw [size_app]; omega) hst]
      have := scanP_app (wrB t) (prB (some t.kind) l) [t'] [] 0
      rw [Nat.add_zero, h1] at this
      simpa [shR] using this
    have hbm : (t' :: l'.map (shT (wrB t).size)).map bareT = (t :: l).map bareT := by
      rw [List.map_cons, List.map_cons, hbt, bare_map, h2]
    unfold prB
    split
    · have hb := go_blank (s := ⟨#[32]⟩ ++ (wrB t ++ prB (some t.kind) l)) (i := 0) (acc := []) 32 (by rw [size_app]; show 0 < 1 + _; omega) ((bt_ahead _ _ (by decide)).trans (by decide)) (by decide)
      have ha := scanP_app ⟨#[32]⟩ (wrB t ++ prB (some t.kind) l) [] [] 0
      rw [hS] at ha
      refine ⟨(t' :: l'.map (shT (wrB t).size)).map (shT 1), ?_, by rw [bare_map, hbm]⟩
      rw [hb]
      rw [show (ByteArray.mk #[32]).size = 1 from rfl] at ha
      simpa [shR] using ha
    · exact ⟨_, hS, hbm⟩

theorem scanR_back {s : ByteArray} {l : List Tok} (h : scanR s = .toks l) (hz : (prB none l).size ≤ 4000) : ∃ l', scanR (prB none l) = .toks l' ∧ l'.map bareT = l.map bareT := by
  obtain ⟨l', h1, h2⟩ := scan_back l none (scanR_good h)
  refine ⟨l', ?_, h2⟩
  unfold scanR
  rw [if_neg (by omega)]
  exact h1

end Go.Proofs.YtidcodpekeaigaaDoor
