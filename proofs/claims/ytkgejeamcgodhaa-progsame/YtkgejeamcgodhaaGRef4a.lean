/- First numbers of lists; an argument's value as the document asks for it: without memory. -/
import Derived.Test.YtkgejeamcgodhaaGRef2
namespace Go.Proofs.Ytkgejeamcgodhaa
open Go.RowKit
set_option linter.unusedVariables false

theorem chkL_stop {f : Int → Ar → Int} : ∀ (ts : List Int) (qs : List Ar) (j : Nat) (h1 : j < ts.length) (h2 : j < qs.length), (∀ i (hi : i < j), f (ts.getD i 0) (qs[i]'(by omega)) = 0) → f (ts.getD j 0) qs[j] ≠ 0 → chkL f ts qs = f (ts.getD j 0) qs[j]
  | t :: ts, a :: qs, 0, _, _, _, hn => by
    simp only [chkL]
    rw [if_neg (by simpa using hn)]
    simp
  | t :: ts, a :: qs, j + 1, h1, h2, hz, hn => by
    simp only [chkL]
    have h0 : f t a = 0 := by simpa using hz 0 (by omega)
    rw [if_pos h0, chkL_stop ts qs j (by simpa using h1) (by simpa using h2) (fun i hi => by simpa using hz (i + 1) (by omega)) (by simpa using hn)]
    simp
theorem chkL_zero {f : Int → Ar → Int} : ∀ (ts : List Int) (qs : List Ar), ts.length = qs.length → (∀ i (hi : i < qs.length), f (ts.getD i 0) qs[i] = 0) → chkL f ts qs = 0
  | [], [], _, _ => rfl
  | t :: ts, a :: qs, hl, hz => by
    simp only [chkL]
    have h0 : f t a = 0 := hz 0 (by simp)
    rw [if_pos h0]
    exact chkL_zero ts qs (by simpa using hl) (fun i hi => hz (i + 1) (by simpa using hi))

theorem mis_two (T : Ty) (h : Hd) (hk : kindB T h = true) : (if h.k ≠ 2 ∧ valueB T h = false then (153 : Int) else 0) = rvalI T h := by
  unfold rvalI
  unfold kindB at hk
  by_cases e5 : T.k = 5
  · simp only [e5, if_true] at hk
    have hk' : h.k = 1 ∨ h.k = 2 := by simp at hk; omega
    by_cases hv : valueB T h = false
    · simp only [hv, and_true, e5, true_implies]
      rcases hk' with e | e
      · simp [e]
      · simp [e]
    · simp [hv]
  · have hk2 : h.k ≠ 2 := by
      simp only [e5, if_false] at hk
      by_cases e6 : T.k = 6
      · simp [e6] at hk; omega
      · simp only [e6, if_false] at hk
        by_cases e7 : T.k = 7 ∨ T.k = 8
        · simp only [if_pos e7] at hk; simp at hk; omega
        · simp only [if_neg e7] at hk
          by_cases e9 : T.k = 9
          · simp [e9] at hk; omega
          · simp only [e9, if_false] at hk
            by_cases e10 : T.k = 10 ∨ T.k = 11
            · simp only [if_pos e10] at hk; simp at hk; omega
            · simp only [if_neg e10] at hk; simp at hk; omega
    simp [hk2, e5]

end Go.Proofs.Ytkgejeamcgodhaa
