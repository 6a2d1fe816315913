/- How the document's Write puts a write into an epoch, step by step, is how it stands there. -/
import Derived.Test.YtcophmafkpbdaaaR2disk
namespace Go.Proofs.Ytcophmafkpbdaaa
open Go.RowKit
set_option linter.unusedVariables false

/-- Whether the write has been put ahead of what stands here. -/
def puts (i : Nat) (es : List (Nat × List Int)) : Bool := es.any fun s => decide (i ≤ s.1)
/-- What has been laid so far. -/
def racc (i : Nat) (bs : List Int) (es : List (Nat × List Int)) : List (Nat × List Int) := if puts i es then putE i bs es else es

theorem puts_snoc (i : Nat) (es : List (Nat × List Int)) (s : Nat × List Int) : puts i (es ++ [s]) = (puts i es || decide (i ≤ s.1)) := by simp [puts]

theorem putE_low (i : Nat) (bs : List Int) (es : List (Nat × List Int)) (h : puts i es = false) : putE i bs es = es ++ [(i, bs)] := by
  induction es with
  | nil => simp [putE]
  | cons s es ih =>
    simp only [puts, List.any_cons, Bool.or_eq_false_iff, decide_eq_false_iff_not] at h
    have h2 := ih h.2
    simp only [putE]
    grind

theorem racc_end (i : Nat) (bs : List Int) (es : List (Nat × List Int)) : putE i bs es = if puts i es then racc i bs es else racc i bs es ++ [(i, bs)] := by
  unfold racc
  cases h : puts i es
  · simp [putE_low i bs es h]
  · simp

theorem putE_snoc (i : Nat) (bs : List Int) (es : List (Nat × List Int)) (s : Nat × List Int) (h : puts i es = true) : putE i bs (es ++ [s]) = putE i bs es ++ [s] := by
  induction es with
  | nil => simp [puts] at h
  | cons a es ih =>
    simp only [puts, List.any_cons, Bool.or_eq_true, decide_eq_true_eq] at h
    simp only [putE, List.cons_append]
    by_cases h1 : i ≤ a.1
    · grind
    · have := ih (by simpa [puts] using h.resolve_left h1)
      grind

/-- A step ahead of the write. -/
theorem racc_low (i : Nat) (bs : List Int) (es : List (Nat × List Int)) (s : Nat × List Int) (h : puts i es = false) (hs : s.1 < i) : racc i bs (es ++ [s]) = racc i bs es ++ [s] ∧ puts i (es ++ [s]) = false := by
  have h2 : puts i (es ++ [s]) = false := by rw [puts_snoc, h]; simp; omega
  exact ⟨by simp [racc, h, h2], h2⟩
/-- The step at which it is put, in another's place. -/
theorem racc_at (i : Nat) (bs : List Int) (es : List (Nat × List Int)) (s : Nat × List Int) (h : puts i es = false) (hs : s.1 = i) : racc i bs (es ++ [s]) = racc i bs es ++ [(i, bs)] ∧ puts i (es ++ [s]) = true := by
  have h2 : puts i (es ++ [s]) = true := by rw [puts_snoc, h]; simp; omega
  refine ⟨?_, h2⟩
  simp only [racc, h, h2, if_true, Bool.false_eq_true, if_false]
  induction es with
  | nil => simp [putE, hs]
  | cons a es ih =>
    simp only [puts, List.any_cons, Bool.or_eq_false_iff, decide_eq_false_iff_not] at h
    have h3 := ih (by simpa [puts] using h.2) (by rw [puts_snoc]; simp; right; omega)
    simp only [putE, List.cons_append]
    grind
/-- The step at which it is put, ahead of another. -/
theorem racc_above (i : Nat) (bs : List Int) (es : List (Nat × List Int)) (s : Nat × List Int) (h : puts i es = false) (hs : i < s.1) : racc i bs (es ++ [s]) = racc i bs es ++ [(i, bs)] ++ [s] ∧ puts i (es ++ [s]) = true := by
  have h2 : puts i (es ++ [s]) = true := by rw [puts_snoc, h]; simp; omega
  refine ⟨?_, h2⟩
  simp only [racc, h, h2, if_true, Bool.false_eq_true, if_false]
  induction es with
  | nil => simp [putE]; grind
  | cons a es ih =>
    simp only [puts, List.any_cons, Bool.or_eq_false_iff, decide_eq_false_iff_not] at h
    have h3 := ih (by simpa [puts] using h.2) (by rw [puts_snoc]; simp; right; omega)
    simp only [putE, List.cons_append]
    grind
/-- A step behind it. -/
theorem racc_high (i : Nat) (bs : List Int) (es : List (Nat × List Int)) (s : Nat × List Int) (h : puts i es = true) : racc i bs (es ++ [s]) = racc i bs es ++ [s] ∧ puts i (es ++ [s]) = true := by
  have h2 : puts i (es ++ [s]) = true := by rw [puts_snoc, h]; rfl
  exact ⟨by simp [racc, h, h2, putE_snoc i bs es s h], h2⟩

end Go.Proofs.Ytcophmafkpbdaaa
