/- Texts of this seat, merged. -/
import Derived.Test.YtoknhcjneliboaaGreatFMg4
import Derived.Test.YtoknhcjneliboaaGreatChecked
import Derived.Test.YtoknhcjneliboaaGreatFMg1
import Derived.Laws.Tables
import Derived.Deep.WholeRow
import Derived.Deep.MidRow
import Derived.Deep.RegionHeld3
import Derived.Carry
import Derived.Maps.OwnSet
import Derived.StringKeys

/- What the calls of pipes come to, as the document says it (no memory in sight), and that the program's calls come to it. -/
namespace Go.Proofs.YtoknhcjneliboaaGreat.Pi
open Go.RowKit Lend
set_option linter.unusedVariables false
set_option maxRecDepth 20000

/-- What is left of a pipe that nobody has. -/
def clr (x : Pp) : Pp := if x.there then x else ⟨0, 0, []⟩
theorem clr_there (x : Pp) : (clr x).there = x.there := by unfold clr; cases h : x.there <;> simp [h]; rfl
theorem clr_yes {x : Pp} (h : x.there = true) : clr x = x := by simp [clr, h]

/-- The program's table, what is left in pipes that are gone aside. -/
structure Tc (w : World) (p : Nat) (k : Bool) (P : Nat → Pp) : Prop where
  ex : ∃ P0, Tb w p k P0 ∧ ∀ i, i < 5 → P i = clr (P0 i)
  most : ∀ i, i < 5 → (P i).r ≤ 1000 ∧ (P i).w ≤ 1000

theorem updP_self (P : Nat → Pp) (i : Nat) : updP P i (P i) = P := by
  funext j; unfold updP; by_cases h : j = i <;> simp [h]
theorem Tc.put {w w' : World} {p i : Nat} {k : Bool} {P P0 : Nat → Pp} {x y : Pp} (h : Tc w p k P) (ht : Tb w' p k (updP P0 i y)) (he : ∀ j, j < 5 → P j = clr (P0 j)) (hx : x = clr y) (hr : x.r ≤ 1000) (hw : x.w ≤ 1000) : Tc w' p k (updP P i x) :=
  ⟨⟨_, ht, fun j hj => by
    by_cases e : j = i
    · subst e; rw [updP_same, updP_same]; exact hx
    · rw [updP_ne _ _ _ _ e, updP_ne _ _ _ _ e]; exact he j hj⟩, fun j hj => by
    by_cases e : j = i
    · subst e; rw [updP_same]; exact ⟨hr, hw⟩
    · rw [updP_ne _ _ _ _ e]; exact h.most j hj⟩
theorem Tc.upd {F : Nat → Prop} {w w' : World} {p : Nat} {k : Bool} {P : Nat → Pp} (h : Tc w p k P) (u : Upd F w w') (hF : ¬ F p) : Tc w' p k P := by
  obtain ⟨P0, ht, he⟩ := h.ex; exact ⟨⟨P0, ht.upd u hF, he⟩, h.most⟩
theorem Tc.below {B : Nat} {w w' : World} {p : Nat} {k : Bool} {P : Nat → Pp} (h : Tc w p k P) (u : Below B w w') (hF : p < B) : Tc w' p k P := by
  obtain ⟨P0, ht, he⟩ := h.ex; exact ⟨⟨P0, ht.below u hF, he⟩, h.most⟩
theorem Tc.hp {w w' : World} {p : Nat} {k : Bool} {P : Nat → Pp} (h : Tc w p k P) (e : w'.heap = w.heap) : Tc w' p k P := by
  obtain ⟨P0, ht, he⟩ := h.ex; exact ⟨⟨P0, ht.hp e, he⟩, h.most⟩
theorem Tc.lt {w : World} {p : Nat} {k : Bool} {P : Nat → Pp} (h : Tc w p k P) : p < w.heap.size := by
  obtain ⟨P0, ht, he⟩ := h.ex; exact ht.lt

/-- The lowest free number, or 0. -/
def lowest (P : Nat → Pp) : Nat := if (P 1).there = false then 1 else if (P 2).there = false then 2 else if (P 3).there = false then 3 else if (P 4).there = false then 4 else 0
theorem lowest_some (P : Nat → Pp) (h : lowest P ≠ 0) : 1 ≤ lowest P ∧ lowest P ≤ 4 ∧ (∀ j, 1 ≤ j → j < lowest P → (P j).there = true) ∧ (P (lowest P)).there = false := by
  unfold lowest at h ⊢
  cases h1 : (P 1).there <;> cases h2 : (P 2).there <;> cases h3 : (P 3).there <;> cases h4 : (P 4).there <;> simp [h1, h2, h3, h4] at h ⊢
  all_goals (intro j a b; obtain rfl | rfl | rfl : j = 1 ∨ j = 2 ∨ j = 3 := by omega)
  all_goals first | assumption | omega
theorem lowest_none (P : Nat → Pp) (h : lowest P = 0) : ∀ j, 1 ≤ j → j ≤ 4 → (P j).there = true := by
  unfold lowest at h
  cases h1 : (P 1).there <;> cases h2 : (P 2).there <;> cases h3 : (P 3).there <;> cases h4 : (P 4).there <;> simp [h1, h2, h3, h4] at h
  intro j a b
  obtain rfl | rfl | rfl | rfl : j = 1 ∨ j = 2 ∨ j = 3 ∨ j = 4 := by omega
  all_goals assumption

def makeE (P : Nat → Pp) : Int := if lowest P = 0 then 23 else 0
def makeP (P : Nat → Pp) : Nat → Pp := if lowest P = 0 then P else updP P (lowest P) ⟨1, 1, []⟩
def holdE (P : Nat → Pp) (n : Int) (b : Bool) : Int := if has P n then (if (P n.toNat).ends b = 1000 then 11 else 0) else 9
def holdP (P : Nat → Pp) (n : Int) (b : Bool) : Nat → Pp := if has P n then (if (P n.toNat).ends b = 1000 then P else updP P n.toNat ((P n.toNat).setEnds b ((P n.toNat).ends b + 1))) else P
def dropE (P : Nat → Pp) (n : Int) (b : Bool) : Int := if has P n then (if (P n.toNat).ends b = 0 then 22 else 0) else 9
def dropP (k : Bool) (P : Nat → Pp) (n : Int) (b : Bool) : Nat → Pp := if has P n then (if (P n.toNat).ends b = 0 then P else if b && k then P else updP P n.toNat (clr ((P n.toNat).setEnds b ((P n.toNat).ends b - 1)))) else P
def readE (P : Nat → Pp) (n c : Int) : Int := if has P n then (if c < 0 then 22 else 0) else 9
def readL (P : Nat → Pp) (n c : Int) : List Int := if has P n then (if 0 < c then (P n.toNat).q.take c.toNat else []) else []
def readW (P : Nat → Pp) (n c : Int) : Bool := if has P n then (if 0 < c then (if (P n.toNat).q = [] then decide (0 < (P n.toNat).w) else false) else false) else false
def readP (P : Nat → Pp) (n c : Int) : Nat → Pp := if has P n then (if 0 < c then updP P n.toNat { P n.toNat with q := (P n.toNat).q.drop c.toNat } else P) else P
def writeE (P : Nat → Pp) (n : Int) : Int := if has P n then (if (P n.toNat).r = 0 then 32 else 0) else 9
def writeN (P : Nat → Pp) (n : Int) (len : Nat) : Nat := if has P n then (if (P n.toNat).r = 0 then 0 else min len (8 - (P n.toNat).q.length)) else 0
def writeW (P : Nat → Pp) (n : Int) (len : Nat) : Bool := if has P n then (if (P n.toNat).r = 0 then false else decide (0 < len) && decide (min len (8 - (P n.toNat).q.length) = 0)) else false
def writeP (P : Nat → Pp) (n : Int) (zs : List Int) : Nat → Pp := if has P n then (if (P n.toNat).r = 0 then P else updP P n.toNat { P n.toNat with q := (P n.toNat).q ++ zs.take (min zs.length (8 - (P n.toNat).q.length)) }) else P

theorem has_some {P : Nat → Pp} {n : Int} (h : has P n = true) : ∃ i : Nat, n = i ∧ 1 ≤ i ∧ i ≤ 4 ∧ (P i).there = true := by
  simp only [has, Bool.and_eq_true, decide_eq_true_eq] at h
  exact ⟨n.toNat, by omega, by omega, by omega, h.2⟩
theorem has_eq {P P0 : Nat → Pp} (he : ∀ i, i < 5 → P i = clr (P0 i)) (n : Int) : has P n = has P0 n := by
  by_cases h1 : 1 ≤ n
  · by_cases h4 : n ≤ 4
    · simp [has, h1, h4]; rw [he n.toNat (by omega), clr_there]
    · simp [has, h4]
  · simp [has, h1]
theorem there_put {x : Pp} {q : List Int} (h : x.there = true) : ({ x with q := q } : Pp).there = true := h

theorem make_spec (p : Nat) (k : Bool) (P : Nat → Pp) (w : World) (h : Tc w p k P) :
    Calls Tryz.prog 61 #[.pointer (some ⟨p, 0, none⟩)] w fun e w' => e = .returned (.tuple #[.int .i64 (lowest P), .int .i64 (makeE P)]) ∧ Tc w' p k (makeP P) ∧ Upd (· = p) w w' := by
  obtain ⟨P0, ht, he⟩ := h.ex
  have hth : ∀ j, j < 5 → (P j).there = (P0 j).there := fun j hj => by rw [he j hj, clr_there]
  by_cases h0 : lowest P = 0
  · have hn := lowest_none P h0
    refine (make_full p k P0 w ht (fun j a b => by rw [← hth j (by omega)]; exact hn j a b)).mono ?_
    rintro e w' ⟨rfl, rfl⟩
    exact ⟨by simp [makeE, h0], by simpa [makeP, h0] using h, Upd.refl _ _⟩
  · obtain ⟨a, b, c, d⟩ := lowest_some P h0
    refine (make_yes p (lowest P) k P0 w ht a b (fun j h1 h2 => by rw [← hth j (by omega)]; exact c j h1 h2) (by rw [← hth _ (by omega)]; exact d)).mono ?_
    rintro e w' ⟨rfl, ht', hu, _⟩
    exact ⟨by simp [makeE, h0], by simp only [makeP, if_neg h0]; exact h.put ht' he rfl (by simp) (by simp), hu⟩

theorem drop_spec (p : Nat) (n : Int) (k b : Bool) (P : Nat → Pp) (w : World) (h : Tc w p k P) :
    Calls Tryz.prog 206 #[.pointer (some ⟨p, 0, none⟩), .int .i64 n, .bool b] w fun e w' => e = .returned (.int .i64 (dropE P n b)) ∧ Tc w' p k (dropP k P n b) ∧ Upd (· = p) w w' := by
  obtain ⟨P0, ht, he⟩ := h.ex
  cases hn : has P n
  · refine (drop_err (some ⟨p, 0, none⟩) n 9 b w (pipe_no p n k P0 w ht (by rw [← has_eq he]; exact hn)) (by omega)).mono ?_
    rintro e w' ⟨rfl, rfl⟩
    exact ⟨by simp [dropE, hn], by simpa [dropP, hn] using h, Upd.refl _ _⟩
  · obtain ⟨i, rfl, h1, h4, hi⟩ := has_some hn
    have hP : P i = P0 i := by
      have := he i (by omega)
      rw [this, clr_there] at hi
      rw [this, clr_yes hi]
    rw [hP] at hi
    have hm := h.most i (by omega)
    rw [hP] at hm
    have hme : (P0 i).ends b ≤ 1000 := by unfold Pp.ends; split <;> omega
    by_cases c : (P0 i).ends b = 0
    · refine (drop_none p i k b P0 w ht h1 h4 hi c).mono ?_
      rintro e w' ⟨rfl, rfl⟩
      exact ⟨by simp [dropE, hn, hP, c], by simpa [dropP, hn, hP, c] using h, Upd.refl _ _⟩
    · by_cases ck : b = true ∧ k = true
      · obtain ⟨rfl, rfl⟩ := ck
        refine (drop_keeps p i P0 w ht h1 h4 hi (by simp [Pp.ends] at c; omega)).mono ?_
        rintro e w' ⟨rfl, rfl⟩
        exact ⟨by simp [dropE, hn, hP, c], by simpa [dropP, hn, hP, c] using h, Upd.refl _ _⟩
      · have ck' : (b && k) = false := by cases b <;> cases k <;> simp at ck ⊢
        refine (drop_yes p i k b P0 w ht h1 h4 hi (by omega) hme (fun hb => by subst hb; simpa using ck')).mono ?_
        rintro e w' ⟨rfl, ht', hu, _⟩
        refine ⟨by simp [dropE, hn, hP, c], ?_, hu⟩
        simp only [dropP, hn, if_true, Int.toNat_natCast, hP, if_neg c, ck', Bool.false_eq_true, if_false]
        refine h.put ht' he rfl ?_ ?_
        · unfold clr Pp.setEnds; cases b <;> simp [Pp.ends] at c hme hm ⊢ <;> split <;> simp <;> omega
        · unfold clr Pp.setEnds; cases b <;> simp [Pp.ends] at c hme hm ⊢ <;> split <;> simp <;> omega

theorem read_spec (p : Nat) (n count : Int) (k : Bool) (P : Nat → Pp) (w : World) (h : Tc w p k P) :
    Calls Tryz.prog 207 #[.pointer (some ⟨p, 0, none⟩), .int .i64 n, .int .i64 count] w fun e w' => ∃ v, e = .returned (.tuple #[v, .bool (readW P n count), .int .i64 (readE P n count)]) ∧
      w'.ownsRow w.heap.size 5 1 v (readL P n count).length ((readL P n count).map (Value.int .u8)) ∧ Tc w' p k (readP P n count) ∧ Upd (· = p) w w' := by
  obtain ⟨P0, ht, he⟩ := h.ex
  cases hn : has P n
  · refine (read_err (some ⟨p, 0, none⟩) n 9 count w (pipe_no p n k P0 w ht (by rw [← has_eq he]; exact hn)) (by omega)).mono ?_
    rintro e w' ⟨rfl, rfl⟩
    exact ⟨.slice none 0 0, by simp [readW, readE, hn], by simp only [readL, hn, Bool.false_eq_true, if_false]; exact World.ownsRow_nil _ _ _ _, by simpa [readP, hn] using h, Upd.refl _ _⟩
  · obtain ⟨i, rfl, h1, h4, hi⟩ := has_some hn
    have hP : P i = P0 i := by
      have := he i (by omega)
      rw [this, clr_there] at hi
      rw [this, clr_yes hi]
    rw [hP] at hi
    have hm := h.most i (by omega)
    rcases Int.lt_trichotomy count 0 with c | c | c
    · refine (read_neg p i count k P0 w ht h1 h4 hi c).mono ?_
      rintro e w' ⟨rfl, rfl⟩
      have c' : ¬ 0 < count := by omega
      exact ⟨.slice none 0 0, by simp [readW, readE, hn, c, c'], by simp only [readL, hn, if_true, if_neg c']; exact World.ownsRow_nil _ _ _ _, by simpa [readP, hn, c'] using h, Upd.refl _ _⟩
    · subst c
      refine (read_zero p i k P0 w ht h1 h4 hi).mono ?_
      rintro e w' ⟨rfl, rfl⟩
      exact ⟨.slice none 0 0, by simp [readW, readE, hn], by simp only [readL, hn, if_true]; exact World.ownsRow_nil _ _ _ _, by simpa [readP, hn] using h, Upd.refl _ _⟩
    · have c' : ¬ count < 0 := by omega
      by_cases hq : (P0 i).q = []
      · refine (read_empty p i count k P0 w ht h1 h4 hi c hq).mono ?_
        rintro e w' ⟨rfl, hh, hu⟩
        have e1 : readL P (i : Int) count = [] := by simp [readL, hn, c, hP, hq]
        have e2 : readP P (i : Int) count = P := by
          simp only [readP, hn, if_true, if_pos c, Int.toNat_natCast]
          rw [show ({ P i with q := (P i).q.drop count.toNat } : Pp) = P i by
            rw [hP]
            have h7 := hq
            cases h8 : P0 i with
            | mk r w q => rw [h8] at h7; simp only at h7; subst h7; simp, updP_self]
        refine ⟨.slice none 0 0, by simp [readW, readE, hn, c, c', hP, hq], ?_, by rw [e2]; exact h.hp hh, hu.mono (fun _ _ h => h.elim)⟩
        rw [e1]; exact World.ownsRow_nil _ _ _ _
      · have hq0 : 0 < (P0 i).q.length := List.length_pos_iff.2 hq
        obtain ⟨m, gm⟩ : ∃ m : Nat, (m : Int) = if ((P0 i).q.length : Int) < count then ((P0 i).q.length : Int) else count := by
          by_cases hc : ((P0 i).q.length : Int) < count
          · exact ⟨_, by rw [if_pos hc]⟩
          · exact ⟨count.toNat, by rw [if_neg hc]; omega⟩
        have t1 : (P0 i).q.take m = (P0 i).q.take count.toNat := by
          split at gm
          · rw [List.take_of_length_le (by omega), List.take_of_length_le (by omega)]
          · congr 1; omega
        have t2 : (P0 i).q.drop m = (P0 i).q.drop count.toNat := by
          split at gm
          · rw [List.drop_of_length_le (by omega), List.drop_of_length_le (by omega)]
          · congr 1; omega
        have hml : ((P0 i).q.take count.toNat).length = m := by rw [← t1]; simp; split at gm <;> omega
        refine (read_some p i m count k P0 w ht h1 h4 hi c hq0 gm).mono ?_
        rintro e w' ⟨g, cc, rfl, ho, ht', hu⟩
        have e1 : readL P (i : Int) count = (P0 i).q.take count.toNat := by simp [readL, hn, c, hP]
        refine ⟨.slice (some ⟨g, 0, none⟩) m cc, by simp [readW, readE, hn, c, c', hP, hq], ?_, ?_, hu⟩
        · rw [e1, hml, ← t1]; exact ho
        · simp only [readP, hn, if_true, if_pos c, Int.toNat_natCast]
          rw [hP, ← t2]
          rw [hP] at hm
          exact h.put ht' he (clr_yes (there_put hi)).symm hm.1 hm.2

theorem write_spec (p len cap : Nat) (n : Int) (a : Option Addr) (k : Bool) (P : Nat → Pp) (zs : List Int) (w : World) (h : Tc w p k P) (hs : Src w a len zs) :
    Calls Tryz.prog 208 #[.pointer (some ⟨p, 0, none⟩), .int .i64 n, .slice a len cap] w fun e w' => e = .returned (.tuple #[.int .i64 (writeN P n len), .bool (writeW P n len), .int .i64 (writeE P n)]) ∧ Tc w' p k (writeP P n zs) ∧ Upd (· = p) w w' := by
  obtain ⟨P0, ht, he⟩ := h.ex
  cases hn : has P n
  · refine (write_err (some ⟨p, 0, none⟩) a len cap n 9 w (pipe_no p n k P0 w ht (by rw [← has_eq he]; exact hn)) (by omega)).mono ?_
    rintro e w' ⟨rfl, rfl⟩
    exact ⟨by simp [writeN, writeW, writeE, hn], by simpa [writeP, hn] using h, Upd.refl _ _⟩
  · obtain ⟨i, rfl, h1, h4, hi⟩ := has_some hn
    have hP : P i = P0 i := by
      have := he i (by omega)
      rw [this, clr_there] at hi
      rw [this, clr_yes hi]
    rw [hP] at hi
    have hm := h.most i (by omega)
    have hq8 := ht.le i (by omega)
    by_cases c : (P0 i).r = 0
    · refine (write_broken p i len cap a k P0 w ht h1 h4 hi c).mono ?_
      rintro e w' ⟨rfl, rfl⟩
      exact ⟨by simp [writeN, writeW, writeE, hn, hP, c], by simpa [writeP, hn, hP, c] using h, Upd.refl _ _⟩
    · have stay : ∀ z : List Int, min z.length (8 - (P i).q.length) = 0 → updP P i { P i with q := (P i).q ++ z.take (min z.length (8 - (P i).q.length)) } = P := by
        intro z hz; rw [hz]; simp only [List.take_zero, List.append_nil]; exact updP_self P i
      rcases Nat.eq_zero_or_pos len with l0 | l0
      · subst l0
        refine (write_nil p i cap a k P0 w ht h1 h4 (by omega)).mono ?_
        rintro e w' ⟨rfl, rfl⟩
        refine ⟨by simp [writeN, writeW, writeE, hn, hP, c], ?_, Upd.refl _ _⟩
        simp only [writeP, hn, if_true, Int.toNat_natCast, if_neg (show ¬ (P i).r = 0 by rw [hP]; exact c)]
        rw [stay zs (by rw [hs.1]; omega)]; exact h
      · by_cases c8 : (P0 i).q.length = 8
        · refine (write_full p i len cap a k P0 w ht h1 h4 (by omega) l0 c8).mono ?_
          rintro e w' ⟨rfl, rfl⟩
          refine ⟨by simp [writeN, writeW, writeE, hn, hP, c, c8, l0], ?_, Upd.refl _ _⟩
          simp only [writeP, hn, if_true, Int.toNat_natCast, if_neg (show ¬ (P i).r = 0 by rw [hP]; exact c)]
          rw [stay zs (by rw [hP, c8]; omega)]; exact h
        · obtain ⟨b, o, rfl, _⟩ := hs.2 l0
          have hmin : min len (8 - (P0 i).q.length) ≠ 0 := by omega
          refine (write_some p i (min len (8 - (P0 i).q.length)) len cap ⟨b, o, none⟩ k P0 zs w ht h1 h4 (by omega) l0 (by omega) hs rfl).mono ?_
          rintro e w' ⟨rfl, ht', hu, _⟩
          refine ⟨by simp [writeN, writeW, writeE, hn, hP, c, hmin], ?_, hu⟩
          simp only [writeP, hn, if_true, Int.toNat_natCast, if_neg (show ¬ (P i).r = 0 by rw [hP]; exact c)]
          rw [hs.1, hP]
          rw [hP] at hm
          exact h.put ht' he (clr_yes (there_put hi)).symm hm.1 hm.2

end Go.Proofs.YtoknhcjneliboaaGreat.Pi

/- The program's processes as they lie (one block of 47 cells: the open files, the defects, five processes of nine cells), none with a descriptor; cells that are stored anew. -/
namespace Go.Proofs.YtoknhcjneliboaaGreat
open Go.RowKit
set_option linter.unusedVariables false

theorem wpList_build_is {P : Program} {ops : Array Oper} {rest : List Oper} {o : Oper} {a : Act} {w : World} {Q : Exit → Act → World → Prop} (hg : o.guard = none) (t : TypeId) (parts : Array (Nat × Operand)) (ho : o.op = .build t parts) (C : Array Value)
    (hf : P.built t (parts.map fun (i, x) => (i, a.eval x)).toList = some C) (h : wpList P ops Q rest (a.put o.dst (.agg C)) w) : wpList P ops Q (o :: rest) a w :=
  wpList_build hg t parts ho (by rw [hf]; rfl) (by rw [hf]; exact h)

theorem getElem?_splice_in {α : Type} (xs ys : List α) (o j : Nat) (h : o + ys.length ≤ xs.length) (hj : j < ys.length) : (splice xs o ys)[o + j]? = ys[j]? := by
  unfold splice
  rw [List.getElem?_append_right (by simp; omega), List.getElem?_append_left (by simp; omega)]
  congr 1; simp; omega
theorem getElem?_splice_out {α : Type} (xs ys : List α) (o j : Nat) (h : o + ys.length ≤ xs.length) (hj : j < o ∨ o + ys.length ≤ j) : (splice xs o ys)[j]? = xs[j]? := by
  unfold splice
  rcases hj with hj | hj
  · rw [List.getElem?_append_left (by simp; omega), List.getElem?_take_of_lt hj]
  · rw [List.getElem?_append_right (by simp; omega), List.getElem?_append_right (by simp; omega), List.getElem?_drop]
    congr 1; simp; omega
theorem length_splice {α : Type} (xs ys : List α) (o : Nat) (h : o + ys.length ≤ xs.length) : (splice xs o ys).length = xs.length := by
  unfold splice; simp; omega

theorem heap_setCells (p : Nat) (t : TypeId) : ∀ (vs : List Value) (o : Nat) (w : World) (C : List Value), w.heap[p]? = some (.cells C.toArray t (0, 0)) → o + vs.length ≤ C.length →
    (w.setCells p o vs).heap[p]? = some (.cells (splice C o vs).toArray t (0, 0))
  | [], o, w, C, h, _ => by simpa [World.setCells, splice] using h
  | v :: r, o, w, C, h, hl => by
    simp only [List.length_cons] at hl
    have h1 := heap_setCell_same w p o C.toArray t v h
    have e : (C.toArray.set! o v) = (C.set o v).toArray := by simp
    rw [World.setCells, heap_setCells p t r (o + 1) (w.setCell ⟨p, o, none⟩ v) (C.set o v) (by rw [h1]; simp) (by simp; omega)]
    congr 3
    apply List.ext_getElem?
    intro j
    rcases Nat.lt_or_ge j o with a | a
    · rw [getElem?_splice_out _ _ _ _ (by simp; omega) (by omega), getElem?_splice_out _ _ _ _ (by simp; omega) (by omega), List.getElem?_set_ne (by omega)]
    · rcases Nat.lt_or_ge j (o + (r.length + 1)) with b | b
      · obtain ⟨m, rfl⟩ := Nat.exists_eq_add_of_le a
        rw [getElem?_splice_in _ _ _ m (by simp; omega) (by simp; omega)]
        cases m with
        | zero => rw [getElem?_splice_out _ _ _ _ (by simp; omega) (by omega), Nat.add_zero, List.getElem?_set_self (by omega)]; simp
        | succ m => rw [show o + (m + 1) = o + 1 + m by omega, getElem?_splice_in _ _ _ m (by simp; omega) (by omega)]; simp
      · rw [getElem?_splice_out _ _ _ _ (by simp; omega) (by omega), getElem?_splice_out _ _ _ _ (by simp; omega) (by simp; omega), List.getElem?_set_ne (by omega)]

theorem upd_setCells (p : Nat) : ∀ (vs : List Value) (o : Nat) (w : World), Upd (· = p) w (w.setCells p o vs)
  | [], o, w => Upd.refl _ _
  | v :: r, o, w => by
    rw [World.setCells]
    exact (Upd.setCell (F := (· = p)) w ⟨p, o, none⟩ v rfl).trans (upd_setCells p r (o + 1) _) (fun _ _ h => h)

theorem size_setCells (p : Nat) : ∀ (vs : List Value) (o : Nat) (w : World), (w.setCells p o vs).heap.size = w.heap.size
  | [], _, _ => rfl
  | v :: r, o, w => by rw [World.setCells, size_setCells p r (o + 1)]; simp

theorem there_of_block {w : World} {p : Nat} {C : List Value} {t : TypeId} (h : w.heap[p]? = some (.cells C.toArray t (0, 0))) (o n : Nat) (hn : o + n ≤ C.length) : w.there p o n := fun j hj => by
  refine ⟨?_, ?_⟩
  · rw [cell_of_row w p (o + j) _ t (0, 0) h]; simp; omega
  · simp [World.frozen?, h]

/-- A process without descriptors: its state, parent, code. -/
structure Pc where
  st : Int
  pa : Int
  co : Int

def noProc : Pc := ⟨0, 0, 0⟩
def pcells (x : Pc) : List Value := [.int .i64 x.st, .int .i64 x.pa, .int .i64 x.co, .int .i64 0, .int .i64 0, .int .i64 0, .int .i64 0, .int .i64 0, .int .i64 0]

/-- The cells of a table. -/
structure Qls (C : List Value) (f : Nat) (d : Int) (P : Nat → Pc) : Prop where
  len : C.length = 47
  fl : C[0]? = some (.pointer (some ⟨f, 0, none⟩))
  df : C[1]? = some (.int .i64 d)
  at_ : ∀ i, i < 5 → ∀ j, j < 9 → C[2 + i * 9 + j]? = (pcells (P i))[j]?

/-- A table that a call made. -/
def Tq (w : World) (p f : Nat) (d : Int) (P : Nat → Pc) : Prop := ∃ C, w.heap[p]? = some (.cells (List.toArray C) 103 (0, 0)) ∧ Qls C f d P

theorem Tq.lt {w : World} {p f : Nat} {d : Int} {P : Nat → Pc} (h : Tq w p f d P) : p < w.heap.size := by
  obtain ⟨C, h, _⟩ := h; exact (Array.getElem?_eq_some_iff.1 h).1
theorem Tq.upd {F : Nat → Prop} {w w' : World} {p f : Nat} {d : Int} {P : Nat → Pc} (h : Tq w p f d P) (u : Upd F w w') (hF : ¬ F p) : Tq w' p f d P := by
  obtain ⟨C, h, hc⟩ := h; exact ⟨C, u.heap h hF, hc⟩
theorem Tq.below {B : Nat} {w w' : World} {p f : Nat} {d : Int} {P : Nat → Pc} (h : Tq w p f d P) (u : Below B w w') (hF : p < B) : Tq w' p f d P := by
  obtain ⟨C, h, hc⟩ := h; exact ⟨C, by rw [u.block p hF]; exact h, hc⟩
theorem Tq.hp {w w' : World} {p f : Nat} {d : Int} {P : Nat → Pc} (h : Tq w p f d P) (e : w'.heap = w.heap) : Tq w' p f d P := by
  obtain ⟨C, h, hc⟩ := h; exact ⟨C, by rw [e]; exact h, hc⟩
theorem cell_list {w : World} {p j : Nat} {t : TypeId} {C : List Value} {v : Value} (h : w.heap[p]? = some (.cells C.toArray t (0, 0))) (hc : C[j]? = some v) : w.cell? ⟨p, j, none⟩ = some v := by
  rw [cell_of_row w p j _ t (0, 0) h]; simpa using hc
theorem Tq.fl {w : World} {p f : Nat} {d : Int} {P : Nat → Pc} (h : Tq w p f d P) : w.cell? ⟨p, 0, none⟩ = some (.pointer (some ⟨f, 0, none⟩)) := by
  obtain ⟨C, h, hc⟩ := h; exact cell_list h hc.fl
theorem Tq.df {w : World} {p f : Nat} {d : Int} {P : Nat → Pc} (h : Tq w p f d P) : w.cell? ⟨p, 1, none⟩ = some (.int .i64 d) := by
  obtain ⟨C, h, hc⟩ := h; exact cell_list h hc.df
theorem Tq.s {w : World} {p f : Nat} {d : Int} {P : Nat → Pc} (h : Tq w p f d P) (i : Nat) (hi : i < 5) : w.cell? ⟨p, 2 + i * 9, none⟩ = some (.int .i64 (P i).st) := by
  obtain ⟨C, h, hc⟩ := h; exact cell_list h (hc.at_ i hi 0 (by omega))
theorem Tq.p {w : World} {p f : Nat} {d : Int} {P : Nat → Pc} (h : Tq w p f d P) (i : Nat) (hi : i < 5) : w.cell? ⟨p, 2 + i * 9 + 1, none⟩ = some (.int .i64 (P i).pa) := by
  obtain ⟨C, h, hc⟩ := h; exact cell_list h (hc.at_ i hi 1 (by omega))
theorem Tq.c {w : World} {p f : Nat} {d : Int} {P : Nat → Pc} (h : Tq w p f d P) (i : Nat) (hi : i < 5) : w.cell? ⟨p, 2 + i * 9 + 2, none⟩ = some (.int .i64 (P i).co) := by
  obtain ⟨C, h, hc⟩ := h; exact cell_list h (hc.at_ i hi 2 (by omega))
theorem Tq.z {w : World} {p f : Nat} {d : Int} {P : Nat → Pc} (h : Tq w p f d P) (i : Nat) (hi : i < 5) (j : Nat) (hj : j < 6) : w.cell? ⟨p, 2 + i * 9 + 3 + j, none⟩ = some (.int .i64 0) := by
  obtain ⟨C, h, hc⟩ := h
  refine cell_list h ?_
  rw [show 2 + i * 9 + 3 + j = 2 + i * 9 + (3 + j) by omega, hc.at_ i hi (3 + j) (by omega)]
  obtain rfl | rfl | rfl | rfl | rfl | rfl : j = 0 ∨ j = 1 ∨ j = 2 ∨ j = 3 ∨ j = 4 ∨ j = 5 := by omega
  all_goals rfl
theorem Tq.fz {w : World} {p f : Nat} {d : Int} {P : Nat → Pc} (h : Tq w p f d P) (j : Nat) : w.frozen? ⟨p, j, none⟩ = false := by
  obtain ⟨C, h, hc⟩ := h; simp [World.frozen?, h]
theorem Tq.th {w : World} {p f : Nat} {d : Int} {P : Nat → Pc} (h : Tq w p f d P) (i : Nat) (hi : i < 5) : w.there p (2 + i * 9) 9 := by
  obtain ⟨C, h, hc⟩ := h; exact there_of_block h _ _ (by rw [hc.len]; omega)

/-- A table with another process at a number. -/
def updQ (P : Nat → Pc) (i : Nat) (x : Pc) : Nat → Pc := fun j => if j = i then x else P j
theorem updQ_same (P : Nat → Pc) (i : Nat) (x : Pc) : updQ P i x i = x := by simp [updQ]
theorem updQ_ne (P : Nat → Pc) (i j : Nat) (x : Pc) (h : j ≠ i) : updQ P i x j = P j := by simp [updQ, h]

theorem Qls.put {C C' : List Value} {f : Nat} {d : Int} {P : Nat → Pc} (h : Qls C f d P) (i : Nat) (hi : i < 5) (x : Pc) (hl : C'.length = 47)
    (out : ∀ j, j < 2 + i * 9 ∨ 2 + i * 9 + 9 ≤ j → C'[j]? = C[j]?) (inn : ∀ j, j < 9 → C'[2 + i * 9 + j]? = (pcells x)[j]?) : Qls C' f d (updQ P i x) := by
  refine ⟨hl, by rw [out 0 (by omega)]; exact h.fl, by rw [out 1 (by omega)]; exact h.df, ?_⟩
  intro k hk j hj
  by_cases e : k = i
  · subst e; rw [updQ_same]; exact inn j hj
  · rw [updQ_ne _ _ _ _ e, out _ (by omega)]; exact h.at_ k hk j hj

/-- A process is stored whole. -/
theorem Tq.put {w : World} {p f : Nat} {d : Int} {P : Nat → Pc} (h : Tq w p f d P) (i : Nat) (hi : i < 5) (x : Pc) : Tq (w.setCells p (2 + i * 9) (pcells x)) p f d (updQ P i x) := by
  obtain ⟨C, hb, hc⟩ := h
  have hl := hc.len
  have hs : 2 + i * 9 + (pcells x).length ≤ C.length := by rw [hl]; simp [pcells]; omega
  exact ⟨_, heap_setCells p 103 (pcells x) _ w C hb hs, hc.put i hi x (by rw [length_splice _ _ _ hs, hl]) (fun j hj => getElem?_splice_out _ _ _ _ hs (by simpa [pcells] using hj)) (fun j hj => getElem?_splice_in C (pcells x) (2 + i * 9) j hs hj)⟩

/-- One cell of a process is stored. -/
theorem Tq.set {w : World} {p f : Nat} {d : Int} {P : Nat → Pc} (h : Tq w p f d P) (i : Nat) (hi : i < 5) (x : Pc) (k : Nat) (hk : k < 9) (v : Value) (hv : (pcells x)[k]? = some v) (ho : ∀ j, j < 9 → j ≠ k → (pcells x)[j]? = (pcells (P i))[j]?) : Tq (w.setCell ⟨p, 2 + i * 9 + k, none⟩ v) p f d (updQ P i x) := by
  obtain ⟨C, hb, hc⟩ := h
  have hl := hc.len
  refine ⟨C.set (2 + i * 9 + k) v, by rw [heap_setCell_same w p _ C.toArray _ v hb]; simp, hc.put i hi x (by simp [hl]) (fun j hj => by rw [List.getElem?_set_ne (by omega)]) (fun j hj => ?_)⟩
  by_cases e : j = k
  · subst e; rw [List.getElem?_set_self (by omega), hv]
  · rw [List.getElem?_set_ne (by omega), hc.at_ i hi j hj, ho j hj e]

/-- The one process at the beginning. -/
def first : Nat → Pc := fun i => if i = 1 then ⟨1, 0, 0⟩ else noProc

end Go.Proofs.YtoknhcjneliboaaGreat

/- What the program's newNode of a directory and New of nodes do. -/
namespace Go.Proofs.YtoknhcjneliboaaGreat
open Go.RowKit
set_option linter.unusedVariables false

/-- The cells of a node without bytes and blocks. -/
def nodeC (k l : Int) (m : Value) : List Value := [.int .i64 k, .int .i64 l, .int .i64 0, .int .i64 0] ++ List.replicate 96 (.int .u8 0) ++ List.replicate 6 (.int .i64 0) ++ [m]
theorem nodeC_len (k l : Int) (m : Value) : (nodeC k l m).length = 107 := by simp [nodeC]
theorem nodeC_one (k l : Int) (m : Option Nat) : (nodeC k l (.map m)).toArray.all (·.oneCell') = true := all_oneCell_toArray (fun v hv => by
  simp only [nodeC, List.mem_append, List.mem_cons, List.not_mem_nil, or_false, List.mem_replicate] at hv
  rcases hv with (((h | h | h | h) | ⟨_, h⟩) | ⟨_, h⟩) | h <;> subst h <;> rfl)
theorem nodeC_set (k l : Int) (m m' : Value) : (nodeC k l m).set 106 m' = nodeC k l m' := by simp [nodeC]
theorem nodeZ : Tryz.zeroCells99 = (nodeC 0 0 (.map none)).toArray := by kernel_rfl
theorem builtNode : Tryz.prog.built 99 [(0, .int .i64 2), (1, .int .i64 1)] = some (nodeC 2 1 (.map none)).toArray := by kernel_rfl
theorem csizeNode : (Tryz.prog.info? 99).map (·.size) = some 107 := by kernel_rfl

theorem splice_all {α : Type} (xs ys : List α) (h : xs.length = ys.length) : splice xs 0 ys = ys := by
  unfold splice; simp; omega

theorem cell_result {P : Program} {fn : Func} {t : Tmp} {ty : TypeId} (h : fn.results = #[.cell t ty]) (tmps : Array Value) (w : World) (b o : Nat) (ht : tmps.getD t undef = .pointer (some ⟨b, o, none⟩)) (cs : List Value) (d : TypeDesc) (hc : w.rangeAt b o cs)
    (hu : P.underlying ty = some d) (hd : d.isRow = true) (hi : (P.info? ty).map (·.size) = some cs.length) :
    (results fn tmps).run P w = .ok (.agg cs.toArray) w := by
  have hl := run_loadVar_mid (P := P) w b o ty cs d hc hu hd hi
  rw [Array.getD_eq_getD_getElem?] at ht
  simp [results, h, ht, asAddr, hl]

theorem rangeAt_block {w : World} {b : Nat} {C : List Value} {t : TypeId} (h : w.heap[b]? = some (.cells C.toArray t (0, 0))) : w.rangeAt b 0 C := fun j v hv => by
  rw [Nat.zero_add]; exact cell_list h hv

set_option maxHeartbeats 2000000 in
set_option maxRecDepth 20000 in
theorem newnode (w : World) :
    Calls Tryz.prog 51 #[.int .i64 2] w fun e w' => e = .returned (.agg (nodeC 2 1 (.map (some (w.heap.size + 2)))).toArray) ∧ Below w.heap.size w w' ∧ w'.heap.size = w.heap.size + 3 ∧ w'.heap[w.heap.size + 2]? = some (.map #[] 0) := by
  obtain ⟨Z, gZ⟩ : ∃ Z, Z = nodeC 0 0 (.map none) := ⟨_, rfl⟩
  obtain ⟨N0, gN0⟩ : ∃ N0, N0 = nodeC 2 1 (.map none) := ⟨_, rfl⟩
  obtain ⟨N1, gN1⟩ : ∃ N1, N1 = nodeC 2 1 (.map (some (w.heap.size + 2))) := ⟨_, rfl⟩
  have HB : Hid (Tryz.prog.built 99 [(0, .int .i64 2), (1, .int .i64 1)] = some N0.toArray) := by rw [gN0]; exact builtNode
  have HZ : Hid (Tryz.zeroCells99 = Z.toArray) := by rw [gZ]; exact nodeZ
  have lZ : Hid (Z.length = 107) := by rw [gZ]; exact nodeC_len _ _ _
  have l0 : Hid (N0.length = 107) := by rw [gN0]; exact nodeC_len _ _ _
  have l1 : Hid (N1.length = 107) := by rw [gN1]; exact nodeC_len _ _ _
  have o0 : Hid (N0.toArray.all (·.oneCell') = true) := by rw [gN0]; exact nodeC_one _ _ _
  have o1 : Hid (N1.toArray.all (·.oneCell') = true) := by rw [gN1]; exact nodeC_one _ _ _
  have e01 : Hid (N0.set 106 (.map (some (w.heap.size + 2))) = N1) := by rw [gN0, gN1]; exact nodeC_set _ _ _ _
  have c106 : Hid (N0[106]? = some (.map none)) := by rw [gN0]; rfl
  rw [← gN1]
  have S0 : Hid ((Tryz.prog.info? 99).map (·.size) = some N0.toArray.size) := by rw [csizeNode, List.size_toArray, l0.out]; exact hid rfl
  have S1 : Hid ((Tryz.prog.info? 99).map (·.size) = some N1.toArray.size) := by rw [csizeNode, List.size_toArray, l1.out]; exact hid rfl
  have S1' : Hid ((Tryz.prog.info? 99).map (·.size) = some N1.length) := by rw [csizeNode, l1.out]; exact hid rfl
  clear gZ gN0 gN1
  have hW2 : Hid (((w.alloc (.cells Tryz.zeroCells99 99)).alloc (.cells Tryz.zeroCells99 99)).heap[w.heap.size + 1]? = some (.cells Z.toArray 99 (0, 0)) ∧ ((w.alloc (.cells Tryz.zeroCells99 99)).alloc (.cells Tryz.zeroCells99 99)).heap[w.heap.size]? = some (.cells Z.toArray 99 (0, 0)) ∧ ((w.alloc (.cells Tryz.zeroCells99 99)).alloc (.cells Tryz.zeroCells99 99)).heap.size = w.heap.size + 2 ∧ Below w.heap.size w ((w.alloc (.cells Tryz.zeroCells99 99)).alloc (.cells Tryz.zeroCells99 99))) := by
    rw [HZ.out]
    have b1 : Below w.heap.size w (w.alloc (.cells Z.toArray 99)) := (Below.refl _ _).alloc (Nat.le_refl _) _
    have s1 : (w.alloc (.cells Z.toArray 99)).heap.size = w.heap.size + 1 := by simp
    have b2 : Below (w.heap.size + 1) (w.alloc (.cells Z.toArray 99)) ((w.alloc (.cells Z.toArray 99)).alloc (.cells Z.toArray 99)) := by
      have := (Below.refl _ (w.alloc (.cells Z.toArray 99))).alloc (Nat.le_refl _) (.cells Z.toArray 99)
      rwa [s1] at this
    refine ⟨?_, ?_, by simp, b1.trans (b2.mono (by omega))⟩
    · have := heap_alloc_new (w.alloc (.cells Z.toArray 99)) (.cells Z.toArray 99)
      rwa [s1] at this
    · rw [b2.block _ (by omega)]; exact heap_alloc_new w _
  have hmm := @run_makeMap Tryz.prog
  go_enter Tryz.func51, Tryz.ntmps51
  go_wp2_with (first
    | (refine wpList_build_is rfl 99 #[(0, .tmp 4), (1, .const (.int .i64 1))] rfl N0.toArray (by simpa [Act.eval] using HB.out) ?_)
    | (refine wpList_store_mid rfl 99 (.tmp 3) (.tmp 5) rfl (w.heap.size + 1) 0 N0.toArray rfl rfl (there_of_block hW2.out.1 0 _ (by rw [List.size_toArray, lZ.out, l0.out]; omega)) S0.out o0.out ?_
       obtain ⟨W3, g3⟩ : ∃ W3, W3 = ((w.alloc (.cells Tryz.zeroCells99 99)).alloc (.cells Tryz.zeroCells99 99)).setCells (w.heap.size + 1) 0 N0.toArray.toList := ⟨_, rfl⟩
       rw [← g3]
       have hb3 : W3.heap[w.heap.size + 1]? = some (.cells N0.toArray 99 (0, 0)) := by
         rw [g3, heap_setCells _ 99 _ 0 _ Z hW2.out.1 (by simp [lZ.out, l0.out]), splice_all _ _ (by simp [lZ.out, l0.out])]
       have hs3 : W3.heap.size = w.heap.size + 2 := by rw [g3, size_setCells]; exact hW2.out.2.2.1
       have hU3 : Upd (· = w.heap.size + 1) ((w.alloc (.cells Tryz.zeroCells99 99)).alloc (.cells Tryz.zeroCells99 99)) W3 := by rw [g3]; exact upd_setCells _ _ _ _
       have ha3 : W3.heap[w.heap.size]? = some (.cells Z.toArray 99 (0, 0)) := hU3.heap hW2.out.2.1 (by omega)
       have hB3 : Below w.heap.size w W3 := hW2.out.2.2.2.trans (hU3.below (by have := hW2.out.2.2.1; omega) (fun x hx => by omega))
       have m3 : W3.cell? ⟨w.heap.size + 1, 106, none⟩ = some (.map none) := cell_list hb3 c106.out
       have f3 : W3.frozen? ⟨w.heap.size + 1, 106, none⟩ = false := by simp [World.frozen?, hb3]
       have s1 : (W3.setCell ⟨w.heap.size + 1, 106, none⟩ (.map (some (w.heap.size + 2)))).heap.size = w.heap.size + 2 := by simp [hs3]
       have H4 : Hid (((W3.setCell ⟨w.heap.size + 1, 106, none⟩ (.map (some (w.heap.size + 2)))).alloc (.map #[] 0)).heap[w.heap.size + 1]? = some (.cells N1.toArray 99 (0, 0)) ∧ ((W3.setCell ⟨w.heap.size + 1, 106, none⟩ (.map (some (w.heap.size + 2)))).alloc (.map #[] 0)).heap[w.heap.size]? = some (.cells Z.toArray 99 (0, 0)) ∧ ((W3.setCell ⟨w.heap.size + 1, 106, none⟩ (.map (some (w.heap.size + 2)))).alloc (.map #[] 0)).heap.size = w.heap.size + 3 ∧ ((W3.setCell ⟨w.heap.size + 1, 106, none⟩ (.map (some (w.heap.size + 2)))).alloc (.map #[] 0)).heap[w.heap.size + 2]? = some (.map #[] 0) ∧ Below w.heap.size w ((W3.setCell ⟨w.heap.size + 1, 106, none⟩ (.map (some (w.heap.size + 2)))).alloc (.map #[] 0))) := by
         have b4 := (Below.refl _ (W3.setCell ⟨w.heap.size + 1, 106, none⟩ (.map (some (w.heap.size + 2))))).alloc (Nat.le_refl _) (.map #[] 0)
         have u4 : Upd (· = w.heap.size + 1) W3 (W3.setCell ⟨w.heap.size + 1, 106, none⟩ (.map (some (w.heap.size + 2)))) := Upd.setCell (F := (· = w.heap.size + 1)) W3 ⟨w.heap.size + 1, 106, none⟩ _ rfl
         rw [s1] at b4
         refine ⟨?_, ?_, by simp [hs3], ?_, ?_⟩
         · rw [b4.block _ (by omega), heap_setCell_same W3 _ 106 _ _ _ hb3, ← e01.out]; simp
         · rw [b4.block _ (by omega)]; exact u4.heap ha3 (by omega)
         · have := heap_alloc_new (W3.setCell ⟨w.heap.size + 1, 106, none⟩ (.map (some (w.heap.size + 2)))) (.map #[] 0)
           rwa [s1] at this
         · exact hB3.trans ((u4.below (by omega) (fun x hx => by omega)).trans (b4.mono (by omega)))
       clear g3 hU3 ha3 hB3 hb3 s1)
    | (refine wpList_load_mid rfl 99 (.tmp 3) rfl (w.heap.size + 1) 0 rfl N1 _ (rangeAt_block H4.out.1) Tryz.underlying99 rfl S1'.out ?_)
    | (refine wpList_store_mid rfl 99 (.tmp 2) (.tmp 10) rfl w.heap.size 0 N1.toArray rfl rfl (there_of_block H4.out.2.1 0 _ (by rw [List.size_toArray, lZ.out, l1.out]; omega)) S1.out o1.out ?_))
  have h5 := heap_setCells w.heap.size 99 N1 0 _ Z H4.out.2.1 (by rw [lZ.out, l1.out]; omega)
  rw [splice_all _ _ (by rw [lZ.out, l1.out])] at h5
  (try simp only [Exit.inBlock, Exit.then])
  refine bodyPost_ret (cell_result rfl _ _ w.heap.size 0 rfl N1 _ (rangeAt_block h5) Tryz.underlying99 rfl S1'.out) rfl ?_
  have u5 := upd_setCells w.heap.size N1 0 ((W3.setCell ⟨w.heap.size + 1, 106, none⟩ (.map (some (w.heap.size + 2)))).alloc (.map #[] 0))
  refine ⟨rfl, H4.out.2.2.2.2.trans (u5.below (by have := H4.out.2.2.1; omega) (fun x hx => by omega)), by rw [size_setCells]; exact H4.out.2.2.1, ?_⟩
  exact (u5.block _ (by have := H4.out.2.2.1; omega) (by omega)).trans H4.out.2.2.2.1

end Go.Proofs.YtoknhcjneliboaaGreat

/- What the program's New of nodes does. -/
namespace Go.Proofs.YtoknhcjneliboaaGreat
open Go.RowKit
set_option linter.unusedVariables false

/-- A store of several cells, as the walk meets it. -/
theorem run_cells_mid {P : Program} (w : World) (b o : Nat) (cs : List Value) (ht : w.there b o cs.length) (h1 : cs.toArray.all (·.oneCell') = true) :
    (storeCells ⟨b, o, none⟩ cs).run P w = .ok () (w.setCells b o cs) := by
  have := run_storeCells_cells (P := P) b o cs 0 w (fun j hj => by simpa using (ht j hj).1) (fun j hj => by simpa using (ht j hj).2) (fun v hv => (Array.all_eq_true_iff_forall_mem.1 h1) v (by simpa using hv))
  simpa using this

/-- The cells of a system without nodes. -/
def sysZ : List Value := .int .i64 0 :: ((List.replicate 17 (nodeC 0 0 (.map none))).flatten ++ List.replicate 25 (.bool false))
theorem sysZ_len : sysZ.length = 1845 := by
  simp [sysZ, nodeC_len]
theorem builtSys : Tryz.prog.built 103 [(0, .int .i64 0)] = some sysZ.toArray := by kernel_rfl

/-- The cells of a system with the root alone. -/
def sysC (m : Nat) : List Value := splice sysZ 108 (nodeC 2 1 (.map (some m)))

set_option maxHeartbeats 2000000 in
set_option maxRecDepth 20000 in
theorem nnew (w : World) :
    Calls Tryz.prog 12 #[.int .i64 0] w fun e w' => e = .returned (.pointer (some ⟨w.heap.size, 0, none⟩)) ∧ w'.heap[w.heap.size]? = some (.cells (sysC (w.heap.size + 3)).toArray 103 (0, 0)) ∧ w'.heap[w.heap.size + 3]? = some (.map #[] 0) ∧ Below w.heap.size w w' ∧ w'.heap.size = w.heap.size + 4 := by
  obtain ⟨Z, gZ⟩ : ∃ Z, Z = sysZ := ⟨_, rfl⟩
  obtain ⟨N1, gN1⟩ : ∃ N1, N1 = nodeC 2 1 (.map (some (w.heap.size + 3))) := ⟨_, rfl⟩
  have HB : Hid (Tryz.prog.built 103 [(0, .int .i64 0)] = some Z.toArray) := by rw [gZ]; exact builtSys
  have lZ : Hid (Z.length = 1845) := by rw [gZ]; exact sysZ_len
  have l1 : Hid (N1.length = 107) := by rw [gN1]; exact nodeC_len _ _ _
  have o1 : Hid (N1.toArray.all (·.oneCell') = true) := by rw [gN1]; exact nodeC_one _ _ _
  have S1 : Hid ((Tryz.prog.info? 99).map (·.size) = some N1.toArray.size) := by rw [csizeNode, List.size_toArray, l1.out]; exact hid rfl
  have hb1 : Below w.heap.size w (w.alloc (.cells Z.toArray 103)) := (Below.refl _ _).alloc (Nat.le_refl _) _
  have hs1 : (w.alloc (.cells Z.toArray 103)).heap.size = w.heap.size + 1 := by simp
  have hh1 : (w.alloc (.cells Z.toArray 103)).heap[w.heap.size]? = some (.cells Z.toArray 103 (0, 0)) := heap_alloc_new w _
  have k1 := newnode (w.alloc (.cells Z.toArray 103)).drew
  have kn : Hid (Calls Tryz.prog 51 #[.int .i64 2] (w.alloc (.cells Z.toArray 103)).drew fun e w' => e = .returned (.agg N1.toArray) ∧ Hid (w'.heap[w.heap.size]? = some (.cells Z.toArray 103 (0, 0))) ∧ Hid (Below w.heap.size w w') ∧ Hid (w'.heap.size = w.heap.size + 4) ∧ Hid (w'.heap[w.heap.size + 3]? = some (.map #[] 0))) := by
    refine hid (k1.mono ?_)
    rintro e w' ⟨rfl, h2, h3, h4⟩
    have hs2 : (w.alloc (.cells Z.toArray 103)).drew.heap.size = w.heap.size + 1 := by simp
    rw [hs2] at h2 h3 h4
    refine ⟨by rw [gN1, hs2], hid ((h2.block _ (by omega)).trans hh1), hid ?_, hid h3, hid h4⟩
    exact (hb1.drew).trans (h2.mono (by omega))
  have GZ := hid gZ
  have GN := hid gN1
  clear gZ gN1 k1 hb1 hh1
  go_enter Tryz.func12, Tryz.ntmps12
  go_wp2_with (refine wpList_build_is rfl 103 #[(0, .tmp 4)] rfl Z.toArray (by simpa [Act.eval] using HB.out) ?_)
  go_region_held3 (fun _ => True) (trivial) ((go_at_call 51; refine kn.out.mono ?_; rintro e w2 ⟨rfl, h2, h3, h4, h5⟩; have hst := run_cells_mid (P := Tryz.prog) w2 w.heap.size 108 N1 (there_of_block h2.out 108 _ (by rw [lZ.out, l1.out]; omega)) o1.out))
  go_wp2_with fail
  go_ret
  have u5 := upd_setCells w.heap.size N1 108 w2
  have h6 := heap_setCells w.heap.size 103 N1 108 w2 Z h2.out (by rw [lZ.out, l1.out]; omega)
  refine ⟨rfl, ?_, (u5.block _ (by have := h4.out; omega) (by omega)).trans h5.out, h3.out.trans (u5.below (by have := h4.out; omega) (fun x hx => by omega)), by rw [size_setCells]; exact h4.out⟩
  rw [sysC, ← GZ.out, ← GN.out]
  exact h6

end Go.Proofs.YtoknhcjneliboaaGreat

/- The program's file system as it lies: one block of 1845 cells (the defects, 17 nodes of 107 cells, 25 marks), and the maps of its directories. -/
namespace Go.Proofs.YtoknhcjneliboaaGreat
open Go.RowKit Go.ChangeMaps Go.MapKept
set_option linter.unusedVariables false

/-- A node: its kind, links, who holds it, its size, its bytes and blocks, its names' map. -/
structure Nd where
  k : Int
  l : Int
  h : Int
  s : Nat
  b : List Int
  B : List Int
  m : Option Nat
def ndC (x : Nd) : List Value := [.int .i64 x.k, .int .i64 x.l, .int .i64 x.h, .int .i64 (x.s : Int)] ++ x.b.map (.int .u8) ++ x.B.map (.int .i64) ++ [.map x.m]
structure Nd.ok (x : Nd) : Prop where
  b : x.b.length = 96
  B : x.B.length = 6
theorem ndC_len {x : Nd} (h : x.ok) : (ndC x).length = 107 := by simp [ndC, h.b, h.B]
theorem ndC_one (x : Nd) : (ndC x).toArray.all (·.oneCell') = true := all_oneCell_toArray (fun v hv => by
  simp only [ndC, List.mem_append, List.mem_cons, List.not_mem_nil, or_false, List.mem_map] at hv
  rcases hv with (((h | h | h | h) | ⟨_, _, h⟩) | ⟨_, _, h⟩) | h <;> subst h <;> rfl)
theorem ndC_b {x : Nd} (h : x.ok) (j : Nat) (hj : j < 96) : (ndC x)[4 + j]? = some (.int .u8 (x.b.getD j 0)) := by
  have hb := h.b
  unfold ndC
  rw [List.append_assoc, List.append_assoc, List.getElem?_append_right (by simp), List.getElem?_append_left (by simp; omega)]
  simp
  rw [List.getElem?_eq_getElem (by omega)]
  simp
theorem ndC_B {x : Nd} (h : x.ok) (j : Nat) (hj : j < 6) : (ndC x)[100 + j]? = some (.int .i64 (x.B.getD j 0)) := by
  have hb := h.b
  have hB := h.B
  unfold ndC
  rw [List.append_assoc, List.append_assoc, List.getElem?_append_right (by simp; omega), List.getElem?_append_right (by simp; omega), List.getElem?_append_left (by simp; omega)]
  simp [hb]
  rw [show 100 + j - 4 - 96 = j by omega, List.getElem?_eq_getElem (by omega)]
  simp
theorem ndC_m {x : Nd} (h : x.ok) : (ndC x)[106]? = some (.map x.m) := by
  have hb := h.b
  have hB := h.B
  unfold ndC
  rw [List.getElem?_append_right (by simp; omega)]
  simp [hb, hB]

/-- A node that is not there; a new one. -/
def noNd : Nd := ⟨0, 0, 0, 0, List.replicate 96 0, List.replicate 6 0, none⟩
def newNd (k : Int) (m : Option Nat) : Nd := ⟨k, 1, 0, 0, List.replicate 96 0, List.replicate 6 0, m⟩
theorem noNd_ok : noNd.ok := ⟨by simp [noNd], by simp [noNd]⟩
theorem newNd_ok (k : Int) (m : Option Nat) : (newNd k m).ok := ⟨by simp [newNd], by simp [newNd]⟩
theorem ndC_no : ndC noNd = nodeC 0 0 (.map none) := by simp [ndC, noNd, nodeC]
theorem ndC_new (k : Int) (m : Option Nat) : ndC (newNd k m) = nodeC k 1 (.map m) := by simp [ndC, newNd, nodeC]

/-- The cells of a system. -/
structure Sls (C : List Value) (d : Int) (P : Nat → Nd) (T : Nat → Bool) : Prop where
  len : C.length = 1845
  df : C[0]? = some (.int .i64 d)
  at_ : ∀ i, i < 17 → ∀ j, j < 107 → C[1 + i * 107 + j]? = (ndC (P i))[j]?
  tk : ∀ b, b < 25 → C[1820 + b]? = some (.bool (T b))
  ok : ∀ i, i < 17 → (P i).ok

/-- What a map of names says: how many names there are, and what each names (0: nothing). -/
def Nms (w : World) : Option Nat → Nat → (List UInt8 → Nat) → Prop
  | none, L, N => L = 0 ∧ ∀ s, N s = 0
  | some b, L, N => ∃ D : DataW Unit, w.ownsMap Tryz.prog 9 (plainElem Tryz.prog 3) b L D ∧ Maps.size D = L ∧ (∀ s, D.atKey (.string s) (.lit (.int .i64 0)) = .lit (.int .i64 (N s : Int))) ∧ ∀ s, Maps.has D (.string s) = decide (N s ≠ 0)

/-- A system: its defects, nodes, marks of blocks; of each node how many names, and what they name. -/
structure Sg where
  d : Int
  P : Nat → Nd
  T : Nat → Bool
  L : Nat → Nat
  N : Nat → List UInt8 → Nat

structure Sy (w : World) (p : Nat) (S : Sg) : Prop where
  blk : ∃ C, w.heap[p]? = some (.cells (List.toArray C) 103 (0, 0)) ∧ Sls C S.d S.P S.T
  nms : ∀ i, i < 17 → Nms w (S.P i).m (S.L i) (S.N i)
  to : ∀ i s, i < 17 → S.N i s < 17
  le : ∀ i, i < 17 → S.L i ≤ 6
  ap : ∀ i j b, i < 17 → j < 17 → (S.P i).m = some b → (S.P j).m = some b → i = j
  np : ∀ i, i < 17 → (S.P i).m ≠ some p
  dir : ∀ i, i < 17 → (S.P i).k = 2 → (S.P i).m.isSome = true
  root : (S.P 1).k = 2
  zero : (S.P 0).k = 0

/-- The blocks that it lies in. -/
def Sg.foot (S : Sg) (p x : Nat) : Prop := x = p ∨ ∃ i, i < 17 ∧ (S.P i).m = some x

theorem Nms.block {w w' : World} {m : Option Nat} {L : Nat} {N : List UInt8 → Nat} (h : Nms w m L N) (hb : ∀ b, m = some b → w'.heap[b]? = w.heap[b]?) : Nms w' m L N := by
  cases m with
  | none => exact h
  | some b =>
    obtain ⟨D, ⟨es, clock, h1, h2⟩, h3⟩ := h
    exact ⟨D, ⟨es, clock, (hb b rfl).trans h1, h2⟩, h3⟩
theorem Nms.lt {w : World} {b : Nat} {L : Nat} {N : List UInt8 → Nat} (h : Nms w (some b) L N) : b < w.heap.size := by
  obtain ⟨D, h, _⟩ := h; exact h.lt

theorem Sy.lt {w : World} {p : Nat} {S : Sg} (h : Sy w p S) : p < w.heap.size := by
  obtain ⟨C, h, _⟩ := h.blk; exact (Array.getElem?_eq_some_iff.1 h).1
theorem Sy.foot_lt {w : World} {p : Nat} {S : Sg} (h : Sy w p S) (x : Nat) (hx : S.foot p x) : x < w.heap.size := by
  rcases hx with rfl | ⟨i, hi, e⟩
  · exact h.lt
  · have := h.nms i hi
    rw [e] at this
    exact this.lt
theorem Sy.blocks {w w' : World} {p : Nat} {S : Sg} (h : Sy w p S) (hb : ∀ x, S.foot p x → w'.heap[x]? = w.heap[x]?) : Sy w' p S := by
  obtain ⟨C, h1, h2⟩ := h.blk
  exact ⟨⟨C, (hb p (.inl rfl)).trans h1, h2⟩, fun i hi => (h.nms i hi).block (fun b e => hb b (.inr ⟨i, hi, e⟩)), h.to, h.le, h.ap, h.np, h.dir, h.root, h.zero⟩
theorem Sy.upd {F : Nat → Prop} {w w' : World} {p : Nat} {S : Sg} (h : Sy w p S) (u : Upd F w w') (hF : ∀ x, S.foot p x → ¬ F x) : Sy w' p S :=
  h.blocks (fun x hx => u.block x (h.foot_lt x hx) (hF x hx))
theorem Sy.grow {w w' : World} {p : Nat} {S : Sg} (h : Sy w p S) (u : Below w.heap.size w w') : Sy w' p S :=
  h.blocks (fun x hx => u.block x (h.foot_lt x hx))
theorem Sy.below {B : Nat} {w w' : World} {p : Nat} {S : Sg} (h : Sy w p S) (u : Below B w w') (hF : ∀ x, S.foot p x → x < B) : Sy w' p S :=
  h.blocks (fun x hx => u.block x (hF x hx))
theorem Sy.hp {w w' : World} {p : Nat} {S : Sg} (h : Sy w p S) (e : w'.heap = w.heap) : Sy w' p S := h.blocks (fun x _ => by rw [e])

theorem Sy.c {w : World} {p : Nat} {S : Sg} (h : Sy w p S) (i : Nat) (hi : i < 17) (j : Nat) (hj : j < 107) (v : Value) (hv : (ndC (S.P i))[j]? = some v) : w.cell? ⟨p, 1 + i * 107 + j, none⟩ = some v := by
  obtain ⟨C, h1, h2⟩ := h.blk
  exact cell_list h1 ((h2.at_ i hi j hj).trans hv)
theorem Sy.ok {w : World} {p : Nat} {S : Sg} (h : Sy w p S) (i : Nat) (hi : i < 17) : (S.P i).ok := by
  obtain ⟨C, h1, h2⟩ := h.blk
  exact h2.ok i hi
theorem Sy.k {w : World} {p : Nat} {S : Sg} (h : Sy w p S) (i : Nat) (hi : i < 17) : w.cell? ⟨p, 1 + i * 107, none⟩ = some (.int .i64 (S.P i).k) := h.c i hi 0 (by omega) _ rfl
theorem Sy.l {w : World} {p : Nat} {S : Sg} (h : Sy w p S) (i : Nat) (hi : i < 17) : w.cell? ⟨p, 1 + i * 107 + 1, none⟩ = some (.int .i64 (S.P i).l) := h.c i hi 1 (by omega) _ rfl
theorem Sy.h {w : World} {p : Nat} {S : Sg} (h : Sy w p S) (i : Nat) (hi : i < 17) : w.cell? ⟨p, 1 + i * 107 + 2, none⟩ = some (.int .i64 (S.P i).h) := h.c i hi 2 (by omega) _ rfl
theorem Sy.s {w : World} {p : Nat} {S : Sg} (h : Sy w p S) (i : Nat) (hi : i < 17) : w.cell? ⟨p, 1 + i * 107 + 3, none⟩ = some (.int .i64 ((S.P i).s : Int)) := h.c i hi 3 (by omega) _ rfl
theorem Sy.b {w : World} {p : Nat} {S : Sg} (h : Sy w p S) (i : Nat) (hi : i < 17) (j : Nat) (hj : j < 96) : w.cell? ⟨p, 1 + i * 107 + (4 + j), none⟩ = some (.int .u8 ((S.P i).b.getD j 0)) := h.c i hi (4 + j) (by omega) _ (ndC_b (h.ok i hi) j hj)
theorem Sy.B {w : World} {p : Nat} {S : Sg} (h : Sy w p S) (i : Nat) (hi : i < 17) (j : Nat) (hj : j < 6) : w.cell? ⟨p, 1 + i * 107 + (100 + j), none⟩ = some (.int .i64 ((S.P i).B.getD j 0)) := h.c i hi (100 + j) (by omega) _ (ndC_B (h.ok i hi) j hj)
theorem Sy.m {w : World} {p : Nat} {S : Sg} (h : Sy w p S) (i : Nat) (hi : i < 17) : w.cell? ⟨p, 1 + i * 107 + 106, none⟩ = some (.map (S.P i).m) := h.c i hi 106 (by omega) _ (ndC_m (h.ok i hi))
theorem Sy.t {w : World} {p : Nat} {S : Sg} (h : Sy w p S) (b : Nat) (hb : b < 25) : w.cell? ⟨p, 1820 + b, none⟩ = some (.bool (S.T b)) := by
  obtain ⟨C, h1, h2⟩ := h.blk
  exact cell_list h1 (h2.tk b hb)
theorem Sy.df {w : World} {p : Nat} {S : Sg} (h : Sy w p S) : w.cell? ⟨p, 0, none⟩ = some (.int .i64 S.d) := by
  obtain ⟨C, h1, h2⟩ := h.blk
  exact cell_list h1 h2.df
theorem Sy.fz {w : World} {p : Nat} {S : Sg} (h : Sy w p S) (j : Nat) : w.frozen? ⟨p, j, none⟩ = false := by
  obtain ⟨C, h1, h2⟩ := h.blk
  simp [World.frozen?, h1]
theorem Sy.th {w : World} {p : Nat} {S : Sg} (h : Sy w p S) (i : Nat) (hi : i < 17) : w.there p (1 + i * 107) 107 := by
  obtain ⟨C, h1, h2⟩ := h.blk
  exact there_of_block h1 _ _ (by rw [h2.len]; omega)

/-- Another node at a number; another mark. -/
def updN (P : Nat → Nd) (i : Nat) (x : Nd) : Nat → Nd := fun j => if j = i then x else P j
theorem updN_same (P : Nat → Nd) (i : Nat) (x : Nd) : updN P i x i = x := by simp [updN]
theorem updN_ne (P : Nat → Nd) (i j : Nat) (x : Nd) (h : j ≠ i) : updN P i x j = P j := by simp [updN, h]

theorem Sls.put {C C' : List Value} {d : Int} {P : Nat → Nd} {T : Nat → Bool} (h : Sls C d P T) (i : Nat) (hi : i < 17) (x : Nd) (hx : x.ok) (hl : C'.length = 1845)
    (out : ∀ j, j < 1 + i * 107 ∨ 1 + i * 107 + 107 ≤ j → C'[j]? = C[j]?) (inn : ∀ j, j < 107 → C'[1 + i * 107 + j]? = (ndC x)[j]?) : Sls C' d (updN P i x) T := by
  refine ⟨hl, by rw [out 0 (by omega)]; exact h.df, ?_, fun b hb => by rw [out _ (by omega)]; exact h.tk b hb, fun k hk => ?_⟩
  · intro k hk j hj
    by_cases e : k = i
    · subst e; rw [updN_same]; exact inn j hj
    · rw [updN_ne _ _ _ _ e, out _ (by omega)]; exact h.at_ k hk j hj
  · by_cases e : k = i
    · subst e; rw [updN_same]; exact hx
    · rw [updN_ne _ _ _ _ e]; exact h.ok k hk

/-- A node turns that keeps its map. -/
theorem Sy.turn {w w' : World} {p : Nat} {S : Sg} (h : Sy w p S) (i : Nat) (hi : i < 17) (x : Nd) (hm : x.m = (S.P i).m) (hk : x.k = (S.P i).k) (u : Upd (· = p) w w')
    (hb : ∃ C, w'.heap[p]? = some (.cells (List.toArray C) 103 (0, 0)) ∧ Sls C S.d (updN S.P i x) S.T) : Sy w' p { S with P := updN S.P i x } := by
  have e : ∀ j, (updN S.P i x j).m = (S.P j).m := fun j => by
    by_cases q : j = i
    · subst q; rw [updN_same, hm]
    · rw [updN_ne _ _ _ _ q]
  have e2 : ∀ j, (updN S.P i x j).k = (S.P j).k := fun j => by
    by_cases q : j = i
    · subst q; rw [updN_same, hk]
    · rw [updN_ne _ _ _ _ q]
  refine ⟨hb, fun j hj => ?_, h.to, h.le, fun a b c ha hb h1 h2 => h.ap a b c ha hb (by rw [← e]; exact h1) (by rw [← e]; exact h2), fun j hj => by rw [e]; exact h.np j hj, fun j hj q => by rw [e]; exact h.dir j hj (by rw [← e2]; exact q), by show (updN S.P i x 1).k = 2; rw [e2]; exact h.root, by show (updN S.P i x 0).k = 0; rw [e2]; exact h.zero⟩
  show Nms w' (updN S.P i x j).m _ _
  rw [e]
  exact (h.nms j hj).block (fun c hc => u.block c (h.foot_lt c (.inr ⟨j, hj, hc⟩)) (fun q => h.np j hj (q ▸ hc)))

/-- One cell of a node is stored. -/
theorem Sy.set {w : World} {p : Nat} {S : Sg} (h : Sy w p S) (i : Nat) (hi : i < 17) (x : Nd) (hx : x.ok) (hm : x.m = (S.P i).m) (hkk : x.k = (S.P i).k) (k : Nat) (hk : k < 107) (v : Value) (hv : (ndC x)[k]? = some v) (ho : ∀ j, j < 107 → j ≠ k → (ndC x)[j]? = (ndC (S.P i))[j]?) :
    Sy (w.setCell ⟨p, 1 + i * 107 + k, none⟩ v) p { S with P := updN S.P i x } := by
  obtain ⟨C, hb, hc⟩ := h.blk
  have hl := hc.len
  refine h.turn i hi x hm hkk (Upd.setCell (F := (· = p)) w ⟨p, _, none⟩ v rfl) ⟨C.set (1 + i * 107 + k) v, by rw [heap_setCell_same w p _ C.toArray _ v hb]; simp, hc.put i hi x hx (by simp [hl]) (fun j hj => by rw [List.getElem?_set_ne (by omega)]) (fun j hj => ?_)⟩
  by_cases e : j = k
  · subst e; rw [List.getElem?_set_self (by omega), hv]
  · rw [List.getElem?_set_ne (by omega), hc.at_ i hi j hj, ho j hj e]

/-- A mark is stored. -/
theorem Sy.mark {w : World} {p : Nat} {S : Sg} (h : Sy w p S) (b : Nat) (hb : b < 25) (x : Bool) : Sy (w.setCell ⟨p, 1820 + b, none⟩ (.bool x)) p { S with T := updT S.T b x } := by
  obtain ⟨C, hB, hc⟩ := h.blk
  have hl := hc.len
  have u : Upd (· = p) w (w.setCell ⟨p, 1820 + b, none⟩ (.bool x)) := Upd.setCell (F := (· = p)) w ⟨p, _, none⟩ _ rfl
  refine ⟨⟨C.set (1820 + b) (.bool x), by rw [heap_setCell_same w p _ C.toArray _ _ hB]; simp, ⟨by simp [hl], by rw [List.getElem?_set_ne (by omega)]; exact hc.df, fun i hi j hj => by rw [List.getElem?_set_ne (by omega)]; exact hc.at_ i hi j hj, fun q hq => ?_, hc.ok⟩⟩, fun j hj => (h.nms j hj).block (fun c hc => u.block c (h.foot_lt c (.inr ⟨j, hj, hc⟩)) (fun q => by subst q; exact h.np j hj hc)), h.to, h.le, h.ap, h.np, h.dir, h.root, h.zero⟩
  show _ = some (Value.bool (updT S.T b x q))
  by_cases e : q = b
  · subst e; rw [List.getElem?_set_self (by omega)]; simp [updT]
  · rw [List.getElem?_set_ne (by omega), hc.tk q hq]; simp [updT, e]

/-- The root alone. -/
def rootG (m : Nat) : Sg := ⟨0, fun i => if i = 1 then newNd 2 (some m) else noNd, fun _ => false, fun _ => 0, fun _ _ => 0⟩

theorem sysZ_nd (i : Nat) (hi : i < 17) (j : Nat) (hj : j < 107) : sysZ[1 + i * 107 + j]? = (nodeC 0 0 (.map none))[j]? := by
  have key : ∀ (n : Nat) (i : Nat), i < n → ((List.replicate n (nodeC 0 0 (.map none))).flatten)[i * 107 + j]? = (nodeC 0 0 (.map none))[j]? := by
    intro n
    induction n with
    | zero => intro i h; omega
    | succ n ih =>
      intro i h
      rw [List.replicate_succ, List.flatten_cons]
      cases i with
      | zero => rw [List.getElem?_append_left (by rw [nodeC_len]; omega)]; simp
      | succ i =>
        rw [List.getElem?_append_right (by rw [nodeC_len]; omega), nodeC_len, show (i + 1) * 107 + j - 107 = i * 107 + j by omega]
        exact ih i (by omega)
  unfold sysZ
  rw [show 1 + i * 107 + j = (i * 107 + j) + 1 by omega, List.getElem?_cons_succ, List.getElem?_append_left (by simp [nodeC_len]; omega)]
  exact key 17 i hi
theorem sysZ_mk (b : Nat) (hb : b < 25) : sysZ[1820 + b]? = some (.bool false) := by
  unfold sysZ
  rw [show 1820 + b = (1819 + b) + 1 by omega, List.getElem?_cons_succ, List.getElem?_append_right (by simp [nodeC_len]), List.getElem?_replicate, if_pos (by simp [nodeC_len]; omega)]

theorem nms_empty {w : World} {m c : Nat} (h : w.heap[m]? = some (.map #[] c)) : Nms w (some m) 0 (fun _ => 0) :=
  ⟨.map [], ⟨#[], c, h, ⟨by simp, stamped_empty c, by simp⟩, Nat.le_refl _, rfl⟩, rfl, fun s => WideAt.atKey_none _ (by simp), fun s => by simp [Maps.has]⟩

theorem Sy.fresh {w : World} {p m : Nat} (hb : w.heap[p]? = some (.cells (sysC m).toArray 103 (0, 0))) (hm : w.heap[m]? = some (.map #[] 0)) : Sy w p (rootG m) := by
  have hne : m ≠ p := by
    intro e; subst e; rw [hb] at hm; simp at hm
  have lz : 108 + (nodeC 2 1 (.map (some m))).length ≤ sysZ.length := by rw [sysZ_len, nodeC_len]; omega
  refine ⟨⟨_, hb, ⟨by unfold sysC; rw [length_splice _ _ _ lz, sysZ_len], ?_, ?_, ?_, ?_⟩⟩, ?_, ?_, ?_, ?_, ?_, ?_, rfl, rfl⟩
  · unfold sysC; rw [getElem?_splice_out _ _ _ _ lz (by omega)]; rfl
  · intro i hi j hj
    unfold sysC
    by_cases e : i = 1
    · subst e
      rw [show 1 + 1 * 107 + j = 108 + j by omega, getElem?_splice_in _ _ _ _ lz (by rw [nodeC_len]; exact hj)]
      simp [rootG, ndC_new]
    · rw [getElem?_splice_out _ _ _ _ lz (by rw [nodeC_len]; omega), sysZ_nd i hi j hj]
      simp [rootG, e, ndC_no]
  · intro b hb
    unfold sysC
    rw [getElem?_splice_out _ _ _ _ lz (by rw [nodeC_len]; omega), sysZ_mk b hb]
    rfl
  · intro i hi
    by_cases e : i = 1
    · simp [rootG, e, newNd_ok]
    · simp [rootG, e, noNd_ok]
  · intro i hi
    by_cases e : i = 1
    · subst e; exact nms_empty hm
    · simp only [rootG, if_neg e]; exact ⟨rfl, fun _ => rfl⟩
  · intro i s hi; simp [rootG]
  · intro i hi; simp [rootG]
  · intro i j b hi hj h1 h2
    by_cases e : i = 1 <;> by_cases e' : j = 1
    · omega
    · simp [rootG, e', noNd] at h2
    · simp [rootG, e, noNd] at h1
    · simp [rootG, e, noNd] at h1
  · intro i hi
    by_cases e : i = 1
    · simp [rootG, e, newNd]; exact hne
    · simp [rootG, e, noNd]
  · intro i hi h
    by_cases e : i = 1
    · simp [rootG, e, newNd]
    · simp [rootG, e, noNd] at h

end Go.Proofs.YtoknhcjneliboaaGreat
