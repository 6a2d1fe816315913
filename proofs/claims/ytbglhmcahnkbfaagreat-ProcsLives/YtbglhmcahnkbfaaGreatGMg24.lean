/- Texts of this seat, merged. -/
import Derived.Test.YtbglhmcahnkbfaaGreatGMg11

/- What the document's Look does, and slices.Equal of what both tell. -/
namespace Go.Proofs.YtbglhmcahnkbfaaGreat.Pi
open Go.RowKit Lend
set_option linter.unusedVariables false
set_option maxRecDepth 20000

theorem looks_clr {P P0 : Nat → Pp} : ∀ n, (∀ i, i < n → P i = clr (P0 i)) → looks P0 n = looks P n ∧ countP P0 n = countP P n
  | 0, _ => ⟨rfl, rfl⟩
  | n + 1, h => by
    obtain ⟨h1, h2⟩ := looks_clr n (fun i hi => h i (by omega))
    have hn := h n (by omega)
    have ht : (P n).there = (P0 n).there := by rw [hn, clr_there]
    simp only [looks, countP, ht, h1, h2]
    cases hh : (P0 n).there
    · simp
    · rw [hn, clr_yes hh]; simp
theorem looks_len (P : Nat → Pp) : ∀ n, (looks P n).length = countP P n * 4
  | 0 => rfl
  | n + 1 => by
    have := looks_len P n
    simp only [looks, countP]; split
    · rw [List.length_append, this]; simp [infoCells]; omega
    · exact this
theorem looks_int (P : Nat → Pp) : ∀ n j, j < (looks P n).length → ∃ y : Int, (looks P n)[j]? = some (.int .i64 y)
  | 0, j, h => by simp [looks] at h
  | n + 1, j, h => by
    have ih := looks_int P n j
    simp only [looks] at h ⊢
    split at h
    · rename_i ht
      rw [if_pos ht]
      rcases Nat.lt_or_ge j (looks P n).length with h1 | h1
      · rw [List.getElem?_append_left h1]; exact ih h1
      · rw [List.getElem?_append_right h1]
        rw [List.length_append] at h
        simp only [infoCells, List.length_cons, List.length_nil] at h ⊢
        obtain hj | hj | hj | hj : j - (looks P n).length = 0 ∨ j - (looks P n).length = 1 ∨ j - (looks P n).length = 2 ∨ j - (looks P n).length = 3 := by omega
        all_goals (rw [hj]; exact ⟨_, rfl⟩)
    · rename_i ht
      rw [if_neg ht]; exact ih h

end Go.Proofs.YtbglhmcahnkbfaaGreat.Pi
