/- What the calls of pipes come to, as the document says it (no memory in sight), and that the program's calls come to it. -/
import Derived.Test.YtemdckmnedlfcaaPDo
namespace Go.Proofs.Ytemdckmnedlfcaa
open Go.RowKit Lend
set_option linter.unusedVariables false

/-- What is left of a pipe that nobody has. -/
def clr (x : Pp) : Pp := if x.there then x else ⟨0, 0, []⟩
theorem clr_there (x : Pp) : (clr x).there = x.there := by unfold clr; cases h : x.there <;> simp [h]; rfl
theorem clr_yes {x : Pp} (h : x.there = true) : clr x = x := by simp [clr, h]

/-- The program's table, what is left in pipes that are gone aside. -/
structure Tc (w : World) (p : Nat) (k : Bool) (P : Nat → Pp) : Prop where
  ex : ∃ P0, Tb w p k P0 ∧ ∀ i, i < 5 → P i = clr (P0 i)
  most : ∀ i, i < 5 → (P i).r ≤ 1000 ∧ (P i).w ≤ 1000

theorem updP_self (P : Nat → Pp) (i : Nat) : updP P i (P i) = P := by
  funext j; unfold updP; by_cases h : j = i <;> simp [h]
theorem Tc.put {w w' : World} {p i : Nat} {k : Bool} {P P0 : Nat → Pp} {x y : Pp} (h : Tc w p k P) (ht : Tb w' p k (updP P0 i y)) (he : ∀ j, j < 5 → P j = clr (P0 j)) (hx : x = clr y) (hr : x.r ≤ 1000) (hw : x.w ≤ 1000) : Tc w' p k (updP P i x) :=
  ⟨⟨_, ht, fun j hj => by
    by_cases e : j = i
    · subst e; rw [updP_same, updP_same]; exact hx
    · rw [updP_ne _ _ _ _ e, updP_ne _ _ _ _ e]; exact he j hj⟩, fun j hj => by
    by_cases e : j = i
    · subst e; rw [updP_same]; exact ⟨hr, hw⟩
    · rw [updP_ne _ _ _ _ e]; exact h.most j hj⟩
theorem Tc.upd {F : Nat → Prop} {w w' : World} {p : Nat} {k : Bool} {P : Nat → Pp} (h : Tc w p k P) (u : Upd F w w') (hF : ¬ F p) : Tc w' p k P := by
  obtain ⟨P0, ht, he⟩ := h.ex; exact ⟨⟨P0, ht.upd u hF, he⟩, h.most⟩
theorem Tc.below {B : Nat} {w w' : World} {p : Nat} {k : Bool} {P : Nat → Pp} (h : Tc w p k P) (u : Below B w w') (hF : p < B) : Tc w' p k P := by
  obtain ⟨P0, ht, he⟩ := h.ex; exact ⟨⟨P0, ht.below u hF, he⟩, h.most⟩
theorem Tc.hp {w w' : World} {p : Nat} {k : Bool} {P : Nat → Pp} (h : Tc w p k P) (e : w'.heap = w.heap) : Tc w' p k P := by
  obtain ⟨P0, ht, he⟩ := h.ex; exact ⟨⟨P0, ht.hp e, he⟩, h.most⟩
theorem Tc.lt {w : World} {p : Nat} {k : Bool} {P : Nat → Pp} (h : Tc w p k P) : p < w.heap.size := by
  obtain ⟨P0, ht, he⟩ := h.ex; exact ht.lt

/-- The lowest free number, or 0. -/
def lowest (P : Nat → Pp) : Nat := if (P 1).there = false then 1 else if (P 2).there = false then 2 else if (P 3).there = false then 3 else if (P 4).there = false then 4 else 0
theorem lowest_some (P : Nat → Pp) (h : lowest P ≠ 0) : 1 ≤ lowest P ∧ lowest P ≤ 4 ∧ (∀ j, 1 ≤ j → j < lowest P → (P j).there = true) ∧ (P (lowest P)).there = false := by
  unfold lowest at h ⊢
  cases h1 : (P 1).there <;> cases h2 : (P 2).there <;> cases h3 : (P 3).there <;> cases h4 : (P 4).there <;> simp [h1, h2, h3, h4] at h ⊢
  all_goals (intro j a b; obtain rfl | rfl | rfl : j = 1 ∨ j = 2 ∨ j = 3 := by omega)
  all_goals first | assumption | omega
theorem lowest_none (P : Nat → Pp) (h : lowest P = 0) : ∀ j, 1 ≤ j → j ≤ 4 → (P j).there = true := by
  unfold lowest at h
  cases h1 : (P 1).there <;> cases h2 : (P 2).there <;> cases h3 : (P 3).there <;> cases h4 : (P 4).there <;> simp [h1, h2, h3, h4] at h
  intro j a b
  obtain rfl | rfl | rfl | rfl : j = 1 ∨ j = 2 ∨ j = 3 ∨ j = 4 := by omega
  all_goals assumption

def makeE (P : Nat → Pp) : Int := if lowest P = 0 then 23 else 0
def makeP (P : Nat → Pp) : Nat → Pp := if lowest P = 0 then P else updP P (lowest P) ⟨1, 1, []⟩
def holdE (P : Nat → Pp) (n : Int) (b : Bool) : Int := if has P n then (if (P n.toNat).ends b = 1000 then 11 else 0) else 9
def holdP (P : Nat → Pp) (n : Int) (b : Bool) : Nat → Pp := if has P n then (if (P n.toNat).ends b = 1000 then P else updP P n.toNat ((P n.toNat).setEnds b ((P n.toNat).ends b + 1))) else P
def dropE (P : Nat → Pp) (n : Int) (b : Bool) : Int := if has P n then (if (P n.toNat).ends b = 0 then 22 else 0) else 9
def dropP (k : Bool) (P : Nat → Pp) (n : Int) (b : Bool) : Nat → Pp := if has P n then (if (P n.toNat).ends b = 0 then P else if b && k then P else updP P n.toNat (clr ((P n.toNat).setEnds b ((P n.toNat).ends b - 1)))) else P
def readE (P : Nat → Pp) (n c : Int) : Int := if has P n then (if c < 0 then 22 else 0) else 9
def readL (P : Nat → Pp) (n c : Int) : List Int := if has P n then (if 0 < c then (P n.toNat).q.take c.toNat else []) else []
def readW (P : Nat → Pp) (n c : Int) : Bool := if has P n then (if 0 < c then (if (P n.toNat).q = [] then decide (0 < (P n.toNat).w) else false) else false) else false
def readP (P : Nat → Pp) (n c : Int) : Nat → Pp := if has P n then (if 0 < c then updP P n.toNat { P n.toNat with q := (P n.toNat).q.drop c.toNat } else P) else P
def writeE (P : Nat → Pp) (n : Int) : Int := if has P n then (if (P n.toNat).r = 0 then 32 else 0) else 9
def writeN (P : Nat → Pp) (n : Int) (len : Nat) : Nat := if has P n then (if (P n.toNat).r = 0 then 0 else min len (8 - (P n.toNat).q.length)) else 0
def writeW (P : Nat → Pp) (n : Int) (len : Nat) : Bool := if has P n then (if (P n.toNat).r = 0 then false else decide (0 < len) && decide (min len (8 - (P n.toNat).q.length) = 0)) else false
def writeP (P : Nat → Pp) (n : Int) (zs : List Int) : Nat → Pp := if has P n then (if (P n.toNat).r = 0 then P else updP P n.toNat { P n.toNat with q := (P n.toNat).q ++ zs.take (min zs.length (8 - (P n.toNat).q.length)) }) else P

theorem has_some {P : Nat → Pp} {n : Int} (h : has P n = true) : ∃ i : Nat, n = i ∧ 1 ≤ i ∧ i ≤ 4 ∧ (P i).there = true := by
  simp only [has, Bool.and_eq_true, decide_eq_true_eq] at h
  exact ⟨n.toNat, by omega, by omega, by omega, h.2⟩
theorem has_eq {P P0 : Nat → Pp} (he : ∀ i, i < 5 → P i = clr (P0 i)) (n : Int) : has P n = has P0 n := by
  by_cases h1 : 1 ≤ n
  · by_cases h4 : n ≤ 4
    · simp [has, h1, h4]; rw [he n.toNat (by omega), clr_there]
    · simp [has, h4]
  · simp [has, h1]
theorem there_put {x : Pp} {q : List Int} (h : x.there = true) : ({ x with q := q } : Pp).there = true := h

theorem make_spec (p : Nat) (k : Bool) (P : Nat → Pp) (w : World) (h : Tc w p k P) :
    Calls Try.prog 11 #[.pointer (some ⟨p, 0, none⟩)] w fun e w' => e = .returned (.tuple #[.int .i64 (lowest P), .int .i64 (makeE P)]) ∧ Tc w' p k (makeP P) ∧ Upd (· = p) w w' := by
  obtain ⟨P0, ht, he⟩ := h.ex
  have hth : ∀ j, j < 5 → (P j).there = (P0 j).there := fun j hj => by rw [he j hj, clr_there]
  by_cases h0 : lowest P = 0
  · have hn := lowest_none P h0
    refine (make_full p k P0 w ht (fun j a b => by rw [← hth j (by omega)]; exact hn j a b)).mono ?_
    rintro e w' ⟨rfl, rfl⟩
    exact ⟨by simp [makeE, h0], by simpa [makeP, h0] using h, Upd.refl _ _⟩
  · obtain ⟨a, b, c, d⟩ := lowest_some P h0
    refine (make_yes p (lowest P) k P0 w ht a b (fun j h1 h2 => by rw [← hth j (by omega)]; exact c j h1 h2) (by rw [← hth _ (by omega)]; exact d)).mono ?_
    rintro e w' ⟨rfl, ht', hu, _⟩
    exact ⟨by simp [makeE, h0], by simp only [makeP, if_neg h0]; exact h.put ht' he rfl (by simp) (by simp), hu⟩

theorem hold_spec (p : Nat) (n : Int) (k b : Bool) (P : Nat → Pp) (w : World) (h : Tc w p k P) :
    Calls Try.prog 19 #[.pointer (some ⟨p, 0, none⟩), .int .i64 n, .bool b] w fun e w' => e = .returned (.int .i64 (holdE P n b)) ∧ Tc w' p k (holdP P n b) ∧ Upd (· = p) w w' := by
  obtain ⟨P0, ht, he⟩ := h.ex
  cases hn : has P n
  · refine (hold_err (some ⟨p, 0, none⟩) n 9 b w (pipe_no p n k P0 w ht (by rw [← has_eq he]; exact hn)) (by omega)).mono ?_
    rintro e w' ⟨rfl, rfl⟩
    exact ⟨by simp [holdE, hn], by simpa [holdP, hn] using h, Upd.refl _ _⟩
  · obtain ⟨i, rfl, h1, h4, hi⟩ := has_some hn
    have hP : P i = P0 i := by
      have := he i (by omega)
      rw [this, clr_there] at hi
      rw [this, clr_yes hi]
    rw [hP] at hi
    have hm := h.most i (by omega)
    rw [hP] at hm
    have hme : (P0 i).ends b ≤ 1000 := by unfold Pp.ends; split <;> omega
    by_cases c : (P0 i).ends b = 1000
    · refine (hold_most p i k b P0 w ht h1 h4 hi c).mono ?_
      rintro e w' ⟨rfl, rfl⟩
      exact ⟨by simp [holdE, hn, hP, c], by simpa [holdP, hn, hP, c] using h, Upd.refl _ _⟩
    · refine (hold_yes p i k b P0 w ht h1 h4 hi (by omega)).mono ?_
      rintro e w' ⟨rfl, ht', hu, _⟩
      refine ⟨by simp [holdE, hn, hP, c], ?_, hu⟩
      simp only [holdP, hn, if_true, Int.toNat_natCast, hP, if_neg c]
      refine h.put ht' he (clr_yes ?_).symm ?_ ?_
      · unfold Pp.there Pp.setEnds at *; cases b <;> simp at hi ⊢
      · unfold Pp.setEnds; cases b <;> simp [Pp.ends] at c hme hm ⊢ <;> omega
      · unfold Pp.setEnds; cases b <;> simp [Pp.ends] at c hme hm ⊢ <;> omega

theorem drop_spec (p : Nat) (n : Int) (k b : Bool) (P : Nat → Pp) (w : World) (h : Tc w p k P) :
    Calls Try.prog 21 #[.pointer (some ⟨p, 0, none⟩), .int .i64 n, .bool b] w fun e w' => e = .returned (.int .i64 (dropE P n b)) ∧ Tc w' p k (dropP k P n b) ∧ Upd (· = p) w w' := by
  obtain ⟨P0, ht, he⟩ := h.ex
  cases hn : has P n
  · refine (drop_err (some ⟨p, 0, none⟩) n 9 b w (pipe_no p n k P0 w ht (by rw [← has_eq he]; exact hn)) (by omega)).mono ?_
    rintro e w' ⟨rfl, rfl⟩
    exact ⟨by simp [dropE, hn], by simpa [dropP, hn] using h, Upd.refl _ _⟩
  · obtain ⟨i, rfl, h1, h4, hi⟩ := has_some hn
    have hP : P i = P0 i := by
      have := he i (by omega)
      rw [this, clr_there] at hi
      rw [this, clr_yes hi]
    rw [hP] at hi
    have hm := h.most i (by omega)
    rw [hP] at hm
    have hme : (P0 i).ends b ≤ 1000 := by unfold Pp.ends; split <;> omega
    by_cases c : (P0 i).ends b = 0
    · refine (drop_none p i k b P0 w ht h1 h4 hi c).mono ?_
      rintro e w' ⟨rfl, rfl⟩
      exact ⟨by simp [dropE, hn, hP, c], by simpa [dropP, hn, hP, c] using h, Upd.refl _ _⟩
    · by_cases ck : b = true ∧ k = true
      · obtain ⟨rfl, rfl⟩ := ck
        refine (drop_keeps p i P0 w ht h1 h4 hi (by simp [Pp.ends] at c; omega)).mono ?_
        rintro e w' ⟨rfl, rfl⟩
        exact ⟨by simp [dropE, hn, hP, c], by simpa [dropP, hn, hP, c] using h, Upd.refl _ _⟩
      · have ck' : (b && k) = false := by cases b <;> cases k <;> simp at ck ⊢
        refine (drop_yes p i k b P0 w ht h1 h4 hi (by omega) hme (fun hb => by subst hb; simpa using ck')).mono ?_
        rintro e w' ⟨rfl, ht', hu, _⟩
        refine ⟨by simp [dropE, hn, hP, c], ?_, hu⟩
        simp only [dropP, hn, if_true, Int.toNat_natCast, hP, if_neg c, ck', Bool.false_eq_true, if_false]
        refine h.put ht' he rfl ?_ ?_
        · unfold clr Pp.setEnds; cases b <;> simp [Pp.ends] at c hme hm ⊢ <;> split <;> simp <;> omega
        · unfold clr Pp.setEnds; cases b <;> simp [Pp.ends] at c hme hm ⊢ <;> split <;> simp <;> omega

theorem read_spec (p : Nat) (n count : Int) (k : Bool) (P : Nat → Pp) (w : World) (h : Tc w p k P) :
    Calls Try.prog 13 #[.pointer (some ⟨p, 0, none⟩), .int .i64 n, .int .i64 count] w fun e w' => ∃ v, e = .returned (.tuple #[v, .bool (readW P n count), .int .i64 (readE P n count)]) ∧
      w'.ownsRow w.heap.size 5 1 v (readL P n count).length ((readL P n count).map (Value.int .u8)) ∧ Tc w' p k (readP P n count) ∧ Upd (· = p) w w' := by
  obtain ⟨P0, ht, he⟩ := h.ex
  cases hn : has P n
  · refine (read_err (some ⟨p, 0, none⟩) n 9 count w (pipe_no p n k P0 w ht (by rw [← has_eq he]; exact hn)) (by omega)).mono ?_
    rintro e w' ⟨rfl, rfl⟩
    exact ⟨.slice none 0 0, by simp [readW, readE, hn], by simp only [readL, hn, Bool.false_eq_true, if_false]; exact World.ownsRow_nil _ _ _ _, by simpa [readP, hn] using h, Upd.refl _ _⟩
  · obtain ⟨i, rfl, h1, h4, hi⟩ := has_some hn
    have hP : P i = P0 i := by
      have := he i (by omega)
      rw [this, clr_there] at hi
      rw [this, clr_yes hi]
    rw [hP] at hi
    have hm := h.most i (by omega)
    rcases Int.lt_trichotomy count 0 with c | c | c
    · refine (read_neg p i count k P0 w ht h1 h4 hi c).mono ?_
      rintro e w' ⟨rfl, rfl⟩
      have c' : ¬ 0 < count := by omega
      exact ⟨.slice none 0 0, by simp [readW, readE, hn, c, c'], by simp only [readL, hn, if_true, if_neg c']; exact World.ownsRow_nil _ _ _ _, by simpa [readP, hn, c'] using h, Upd.refl _ _⟩
    · subst c
      refine (read_zero p i k P0 w ht h1 h4 hi).mono ?_
      rintro e w' ⟨rfl, rfl⟩
      exact ⟨.slice none 0 0, by simp [readW, readE, hn], by simp only [readL, hn, if_true]; exact World.ownsRow_nil _ _ _ _, by simpa [readP, hn] using h, Upd.refl _ _⟩
    · have c' : ¬ count < 0 := by omega
      by_cases hq : (P0 i).q = []
      · refine (read_empty p i count k P0 w ht h1 h4 hi c hq).mono ?_
        rintro e w' ⟨rfl, hh, hu⟩
        have e1 : readL P (i : Int) count = [] := by simp [readL, hn, c, hP, hq]
        have e2 : readP P (i : Int) count = P := by
          simp only [readP, hn, if_true, if_pos c, Int.toNat_natCast]
          rw [show ({ P i with q := (P i).q.drop count.toNat } : Pp) = P i by
            rw [hP]
            have h7 := hq
            cases h8 : P0 i with
            | mk r w q => rw [h8] at h7; simp only at h7; subst h7; simp, updP_self]
        refine ⟨.slice none 0 0, by simp [readW, readE, hn, c, c', hP, hq], ?_, by rw [e2]; exact h.hp hh, hu.mono (fun _ _ h => h.elim)⟩
        rw [e1]; exact World.ownsRow_nil _ _ _ _
      · have hq0 : 0 < (P0 i).q.length := List.length_pos_iff.2 hq
        obtain ⟨m, gm⟩ : ∃ m : Nat, (m : Int) = if ((P0 i).q.length : Int) < count then ((P0 i).q.length : Int) else count := by
          by_cases hc : ((P0 i).q.length : Int) < count
          · exact ⟨_, by rw [if_pos hc]⟩
          · exact ⟨count.toNat, by rw [if_neg hc]; omega⟩
        have t1 : (P0 i).q.take m = (P0 i).q.take count.toNat := by
          split at gm
          · rw [List.take_of_length_le (by omega), List.take_of_length_le (by omega)]
          · congr 1; omega
        have t2 : (P0 i).q.drop m = (P0 i).q.drop count.toNat := by
          split at gm
          · rw [List.drop_of_length_le (by omega), List.drop_of_length_le (by omega)]
          · congr 1; omega
        have hml : ((P0 i).q.take count.toNat).length = m := by rw [← t1]; simp; split at gm <;> omega
        refine (read_some p i m count k P0 w ht h1 h4 hi c hq0 gm).mono ?_
        rintro e w' ⟨g, cc, rfl, ho, ht', hu⟩
        have e1 : readL P (i : Int) count = (P0 i).q.take count.toNat := by simp [readL, hn, c, hP]
        refine ⟨.slice (some ⟨g, 0, none⟩) m cc, by simp [readW, readE, hn, c, c', hP, hq], ?_, ?_, hu⟩
        · rw [e1, hml, ← t1]; exact ho
        · simp only [readP, hn, if_true, if_pos c, Int.toNat_natCast]
          rw [hP, ← t2]
          rw [hP] at hm
          exact h.put ht' he (clr_yes (there_put hi)).symm hm.1 hm.2

theorem write_spec (p len cap : Nat) (n : Int) (a : Option Addr) (k : Bool) (P : Nat → Pp) (zs : List Int) (w : World) (h : Tc w p k P) (hs : Src w a len zs) :
    Calls Try.prog 17 #[.pointer (some ⟨p, 0, none⟩), .int .i64 n, .slice a len cap] w fun e w' => e = .returned (.tuple #[.int .i64 (writeN P n len), .bool (writeW P n len), .int .i64 (writeE P n)]) ∧ Tc w' p k (writeP P n zs) ∧ Upd (· = p) w w' := by
  obtain ⟨P0, ht, he⟩ := h.ex
  cases hn : has P n
  · refine (write_err (some ⟨p, 0, none⟩) a len cap n 9 w (pipe_no p n k P0 w ht (by rw [← has_eq he]; exact hn)) (by omega)).mono ?_
    rintro e w' ⟨rfl, rfl⟩
    exact ⟨by simp [writeN, writeW, writeE, hn], by simpa [writeP, hn] using h, Upd.refl _ _⟩
  · obtain ⟨i, rfl, h1, h4, hi⟩ := has_some hn
    have hP : P i = P0 i := by
      have := he i (by omega)
      rw [this, clr_there] at hi
      rw [this, clr_yes hi]
    rw [hP] at hi
    have hm := h.most i (by omega)
    have hq8 := ht.le i (by omega)
    by_cases c : (P0 i).r = 0
    · refine (write_broken p i len cap a k P0 w ht h1 h4 hi c).mono ?_
      rintro e w' ⟨rfl, rfl⟩
      exact ⟨by simp [writeN, writeW, writeE, hn, hP, c], by simpa [writeP, hn, hP, c] using h, Upd.refl _ _⟩
    · have stay : ∀ z : List Int, min z.length (8 - (P i).q.length) = 0 → updP P i { P i with q := (P i).q ++ z.take (min z.length (8 - (P i).q.length)) } = P := by
        intro z hz; rw [hz]; simp only [List.take_zero, List.append_nil]; exact updP_self P i
      rcases Nat.eq_zero_or_pos len with l0 | l0
      · subst l0
        refine (write_nil p i cap a k P0 w ht h1 h4 (by omega)).mono ?_
        rintro e w' ⟨rfl, rfl⟩
        refine ⟨by simp [writeN, writeW, writeE, hn, hP, c], ?_, Upd.refl _ _⟩
        simp only [writeP, hn, if_true, Int.toNat_natCast, if_neg (show ¬ (P i).r = 0 by rw [hP]; exact c)]
        rw [stay zs (by rw [hs.1]; omega)]; exact h
      · by_cases c8 : (P0 i).q.length = 8
        · refine (write_full p i len cap a k P0 w ht h1 h4 (by omega) l0 c8).mono ?_
          rintro e w' ⟨rfl, rfl⟩
          refine ⟨by simp [writeN, writeW, writeE, hn, hP, c, c8, l0], ?_, Upd.refl _ _⟩
          simp only [writeP, hn, if_true, Int.toNat_natCast, if_neg (show ¬ (P i).r = 0 by rw [hP]; exact c)]
          rw [stay zs (by rw [hP, c8]; omega)]; exact h
        · obtain ⟨b, o, rfl, _⟩ := hs.2 l0
          have hmin : min len (8 - (P0 i).q.length) ≠ 0 := by omega
          refine (write_some p i (min len (8 - (P0 i).q.length)) len cap ⟨b, o, none⟩ k P0 zs w ht h1 h4 (by omega) l0 (by omega) hs rfl).mono ?_
          rintro e w' ⟨rfl, ht', hu, _⟩
          refine ⟨by simp [writeN, writeW, writeE, hn, hP, c, hmin], ?_, hu⟩
          simp only [writeP, hn, if_true, Int.toNat_natCast, if_neg (show ¬ (P i).r = 0 by rw [hP]; exact c)]
          rw [hs.1, hP]
          rw [hP] at hm
          exact h.put ht' he (clr_yes (there_put hi)).symm hm.1 hm.2

end Go.Proofs.Ytemdckmnedlfcaa
