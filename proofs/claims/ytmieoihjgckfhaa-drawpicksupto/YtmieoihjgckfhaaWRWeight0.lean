/- How often a pair of calls stands in programs, without memory: the document's count is the program's. -/
import Derived.Test.YtmieoihjgckfhaaWRTakes
import Derived.Test.YtmieoihjgckfhaaWPick
namespace Go.Proofs.Ytmieoihjgckfhaa
open Go.RowKit
set_option linter.unusedVariables false

/-- Does a step count? -/
def hit (a b : Int) (i : Nat) (prev k : Int) : Bool := decide (k = b) && (decide (i = 0 ∧ a < 0) || decide (0 < i ∧ 0 ≤ a ∧ prev = a))
/-- How many of the first steps of a program count. -/
def tmU (ks : List Int) (a b : Int) : Nat → Nat
  | 0 => 0
  | i + 1 => tmU ks a b i + (if hit a b i (ks.getD (i - 1) 0) (ks.getD i 0) = true then 1 else 0)
/-- How many steps of the first programs count. -/
def tmA (P : List (List Int)) (a b : Int) : Nat → Nat
  | 0 => 0
  | i + 1 => tmA P a b i + tmU (P.getD i []) a b (P.getD i []).length
theorem tmU_le (ks : List Int) (a b : Int) : ∀ i, tmU ks a b i ≤ i
  | 0 => Nat.le_refl _
  | i + 1 => by
    have := tmU_le ks a b i
    simp only [tmU]
    split <;> omega
theorem tmA_le (P : List (List Int)) (a b : Int) {L : Nat} (hL : ∀ p ∈ P, p.length ≤ L) : ∀ i, tmA P a b i ≤ i * L
  | 0 => Nat.zero_le _
  | i + 1 => by
    have h1 := tmU_le (P.getD i []) a b (P.getD i []).length
    have h2 : (P.getD i []).length ≤ L := by
      by_cases hq : i < P.length
      · rw [List.getD_eq_getElem?_getD, List.getElem?_eq_getElem hq]; exact hL _ (List.getElem_mem hq)
      · rw [List.getD_eq_getElem?_getD, List.getElem?_eq_none (by omega)]; exact Nat.zero_le _
    have h3 := tmA_le P a b hL i
    rw [Nat.succ_mul]
    simp only [tmA]
    omega

/-- The call behind which it is asked. -/
def bef (a : Int) : Int := if 0 ≤ a then a else -1

theorem step_tm (n : Nat) (F : Int → Int → Nat) (a b : Int) (i : Nat) (prev k : Int) (ha : a < n) (hb : hasB n b = true) : stepF n F i prev k (bef a) b = F (bef a) b + (if hit a b i prev k = true then 1 else 0) := by
  simp only [hasB, Bool.and_eq_true, decide_eq_true_eq] at hb
  by_cases h : hit a b i prev k = true
  · rw [if_pos h]
    simp only [hit, Bool.and_eq_true, Bool.or_eq_true, decide_eq_true_eq] at h
    obtain ⟨rfl, h⟩ := h
    have hk : hasB n k = true := by simp [hasB]; omega
    rcases h with ⟨h1, h2⟩ | ⟨h1, h2, h3⟩
    · have e : bef a = -1 := by unfold bef; rw [if_neg (by omega)]
      unfold stepF
      rw [if_pos ⟨hk, .inl h1⟩, if_pos h1, e]
      simp [incF]
    · subst h3
      have e : bef prev = prev := by unfold bef; rw [if_pos h2]
      have hp : hasB n prev = true := by simp [hasB]; omega
      unfold stepF
      rw [if_pos ⟨hk, .inr hp⟩, if_neg (by omega), e]
      simp [incF]
  · rw [if_neg h, Nat.add_zero]
    unfold stepF
    by_cases hc : hasB n k = true ∧ (i = 0 ∨ hasB n prev = true)
    · rw [if_pos hc]
      unfold incF
      rw [if_neg ?_]
      rintro ⟨h1, h2⟩
      apply h
      simp only [hit, Bool.and_eq_true, Bool.or_eq_true, decide_eq_true_eq]
      refine ⟨h2.symm, ?_⟩
      by_cases h0 : i = 0
      · rw [if_pos h0] at h1
        left
        refine ⟨h0, ?_⟩
        unfold bef at h1
        by_cases q : 0 ≤ a
        · rw [if_pos q] at h1; omega
        · omega
      · rw [if_neg h0] at h1
        right
        have hp : hasB n prev = true := by rcases hc.2 with q | q; exact absurd q h0; exact q
        simp only [hasB, Bool.and_eq_true, decide_eq_true_eq] at hp
        unfold bef at h1
        by_cases q : 0 ≤ a
        · rw [if_pos q] at h1; exact ⟨by omega, q, h1.symm⟩
        · rw [if_neg q] at h1; omega
    · rw [if_neg hc]

theorem cntU_tm (n : Nat) (ks : List Int) (F : Int → Int → Nat) (a b : Int) (ha : a < n) (hb : hasB n b = true) : ∀ i, cntU n ks F i (bef a) b = F (bef a) b + tmU ks a b i
  | 0 => rfl
  | i + 1 => by
    have := cntU_tm n ks F a b ha hb i
    simp only [cntU, tmU]
    rw [step_tm n _ a b i _ _ ha hb, this]
    omega
theorem cntA_tm (n : Nat) (P : List (List Int)) (a b : Int) (ha : a < n) (hb : hasB n b = true) : ∀ i, cntA n P i (bef a) b = tmA P a b i
  | 0 => rfl
  | i + 1 => by
    have := cntA_tm n P a b ha hb i
    simp only [cntA, tmA]
    rw [cntU_tm n _ _ a b ha hb, this]

theorem tm_true (ks : List Int) (a b : Int) (i : Nat) (h : hit a b i (ks.getD (i - 1) 0) (ks.getD i 0) = true) : tmU ks a b (i + 1) = tmU ks a b i + 1 := by
  simp only [tmU]; rw [if_pos h]
theorem tm_false (ks : List Int) (a b : Int) (i : Nat) (h : hit a b i (ks.getD (i - 1) 0) (ks.getD i 0) = false) : tmU ks a b (i + 1) = tmU ks a b i := by
  simp only [tmU]; rw [if_neg (by rw [h]; simp), Nat.add_zero]

end Go.Proofs.Ytmieoihjgckfhaa
