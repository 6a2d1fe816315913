/- A sorted list, compacted, is its numbers, rising, each once. -/
import Derived.Test.YtkgejeamcgodhaaCPure
import Derived.Lib.SlicesCompact
import Derived.Lib.RowBridge
namespace Go.Proofs.Ytkgejeamcgodhaa
open Go.Lib
set_option linter.unusedVariables false

theorem compact_upto (d : Array Int) (hs : ∀ i j, i ≤ j → j < d.size → d[i]! ≤ d[j]!) : ∀ m, m ≤ d.size → (compactUpTo d m).Pairwise (· < ·) ∧ ∀ x, x ∈ compactUpTo d m ↔ ∃ j, j < m ∧ d[j]! = x
  | 0, _ => ⟨by simp [compactUpTo], fun x => by simp [compactUpTo]⟩
  | m + 1, h => by
    obtain ⟨h1, h2⟩ := compact_upto d hs m (by omega)
    rw [compactUpTo_succ]
    by_cases hk : keeps d m = true
    · rw [if_pos hk]
      refine ⟨List.pairwise_append.2 ⟨h1, by simp, fun a ha b hb => ?_⟩, fun x => ?_⟩
      · obtain rfl : b = d[m]! := by simpa using hb
        obtain ⟨j, hj, rfl⟩ := (h2 a).1 ha
        have hm : m ≠ 0 := by omega
        have hne : d[m]! ≠ d[m - 1]! := by
          intro e
          rw [keeps_neg (by omega) e] at hk
          cases hk
        have a1 := hs j (m - 1) (by omega) (by omega)
        have a2 := hs (m - 1) m (by omega) (by omega)
        omega
      · rw [List.mem_append, h2, List.mem_singleton]
        constructor
        · rintro (⟨j, hj, e⟩ | e)
          · exact ⟨j, by omega, e⟩
          · exact ⟨m, by omega, e.symm⟩
        · rintro ⟨j, hj, e⟩
          rcases (show j < m ∨ j = m by omega) with q | rfl
          · exact .inl ⟨j, q, e⟩
          · exact .inr e.symm
    · rw [if_neg hk, List.append_nil]
      refine ⟨h1, fun x => ?_⟩
      rw [h2]
      have hm0 : m ≠ 0 := by rintro rfl; exact hk (keeps_lt_one d 0 (by omega))
      have e : d[m]! = d[m - 1]! := Classical.byContradiction (fun q => hk (keeps_pos q))
      constructor
      · rintro ⟨j, hj, q⟩; exact ⟨j, by omega, q⟩
      · rintro ⟨j, hj, q⟩
        rcases (show j < m ∨ j = m by omega) with p | rfl
        · exact ⟨j, p, q⟩
        · exact ⟨j - 1, by omega, by rw [← e]; exact q⟩

theorem getI (l : List Int) (j : Nat) (h : j < l.length) : l.toArray[j]! = l[j] := by
  rw [getElem!_pos l.toArray j (by simpa using h)]; simp

theorem compact_rises (l : List Int) (hs : l.Pairwise (· ≤ ·)) : Rises l (compact l) := by
  have hs' : ∀ i j, i ≤ j → j < l.toArray.size → l.toArray[i]! ≤ l.toArray[j]! := by
    intro i j hij hj
    have hj' : j < l.length := by simpa using hj
    rw [getI l i (by omega), getI l j hj']
    rcases (show i < j ∨ i = j by omega) with q | rfl
    · exact List.pairwise_iff_getElem.1 hs i j (by omega) hj' q
    · exact Int.le_refl _
  obtain ⟨h1, h2⟩ := compact_upto l.toArray hs' l.length (by simp)
  refine ⟨h1, fun x => ?_⟩
  show x ∈ compactUpTo l.toArray l.length ↔ _
  rw [h2, List.mem_iff_getElem]
  constructor
  · rintro ⟨j, hj, e⟩; exact ⟨j, hj, by rw [← getI l j hj]; exact e⟩
  · rintro ⟨j, hj, e⟩; exact ⟨j, hj, by rw [getI l j hj]; exact e⟩

/-- The program's rising: sorted, then compacted. -/
def riseP (l : List Int) : List Int := compact (l.mergeSort fun x y => decide (x ≤ y))
theorem sorted_int (l : List Int) : (l.mergeSort fun x y => decide (x ≤ y)).Pairwise (· ≤ ·) := by
  have := List.pairwise_mergeSort (le := fun x y : Int => decide (x ≤ y)) (fun a b c h k => by simp at h k ⊢; omega) (fun a b => by simp; omega) l
  exact this.imp (fun h => by simpa using h)
theorem riseP_rises (l : List Int) : Rises l (riseP l) := by
  have h := compact_rises _ (sorted_int l)
  exact ⟨h.1, fun x => (h.2 x).trans (List.mergeSort_perm l _).mem_iff⟩
theorem riseP_length (l : List Int) : (riseP l).length ≤ l.length := by
  have := compact_length_le (l.mergeSort fun x y => decide (x ≤ y))
  rw [List.length_mergeSort] at this
  exact this

end Go.Proofs.Ytkgejeamcgodhaa
