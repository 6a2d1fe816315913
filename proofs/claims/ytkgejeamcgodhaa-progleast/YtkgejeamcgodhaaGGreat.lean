/- A struct of a table that may be has few parts, if no list is longer than memory holds. -/
import Derived.Test.YtkgejeamcgodhaaGTy
namespace Go.Proofs.Ytkgejeamcgodhaa
open Go.RowKit
set_option linter.unusedVariables false

/-- Each is from 1 to 300. -/
def Near (g : List Int) : Prop := ∀ x ∈ g, 1 ≤ x ∧ x ≤ 300

theorem near_at {g : List Int} (hg : Near g) {k : Int} (h : 0 ≤ k ∧ k < (g.length : Int)) : 1 ≤ g.getD k.toNat 0 ∧ g.getD k.toNat 0 ≤ 300 := by
  have hk : k.toNat < g.length := by omega
  rw [List.getD_eq_getElem?_getD, List.getElem?_eq_getElem hk]
  exact hg _ (List.getElem_mem _)

theorem sum_near (g : List Int) (hg : Near g) (l : List Int) (ha : ahead g.length l = true) (hl : l.length ≤ 17592186044416) : ∀ j, j ≤ l.length → (j : Int) ≤ sumG g (l.take j) ∧ sumG g (l.take j) ≤ 300 * (j : Int) := by
  intro j
  induction j with
  | zero => intro _; simp [sumG]
  | succ j ih =>
    intro hj
    obtain ⟨h1, h2⟩ := ih (by omega)
    have h3 := near_at hg (ahead_at ha j (by omega))
    rw [sumG_more g l j (by omega)]
    generalize sumG g (l.take j) = s at *
    generalize g.getD (l.getD j 0).toNat 0 = x at *
    have e : wrap64 (s + x) = s + x := by unfold wrap64; omega
    rw [e]
    omega
theorem sum_all (g : List Int) (hg : Near g) (l : List Int) (ha : ahead g.length l = true) (hl : l.length ≤ 17592186044416) : (l.length : Int) ≤ sumG g l ∧ sumG g l ≤ 300 * (l.length : Int) := by
  have := sum_near g hg l ha hl l.length (Nat.le_refl _)
  rwa [List.take_length] at this

theorem most_near (g : List Int) (hg : Near g) (l : List Int) (ha : ahead g.length l = true) : ∀ j, j ≤ l.length → 0 ≤ mostG g (l.take j) ∧ mostG g (l.take j) ≤ 300 := by
  intro j
  induction j with
  | zero => intro _; simp [mostG]
  | succ j ih =>
    intro hj
    obtain ⟨h1, h2⟩ := ih (by omega)
    have h3 := near_at hg (ahead_at ha j (by omega))
    rw [mostG_more g l j (by omega)]
    split <;> omega
theorem most_all (g : List Int) (hg : Near g) (l : List Int) (ha : ahead g.length l = true) : 0 ≤ mostG g l ∧ mostG g l ≤ 300 := by
  have := most_near g hg l ha l.length (Nat.le_refl _)
  rwa [List.take_length] at this

theorem great_near {g : List Int} {T : Ty} (hg : Near g) (h : okG g T = true) (he : T.es.length = T.en) (hl : T.en ≤ 17592186044416) : 1 ≤ greatG T g ∧ greatG T g ≤ 300 ∧ (T.k = 8 → T.en ≤ 300) := by
  unfold okG at h
  simp only [Bool.and_eq_true, decide_eq_true_eq] at h
  obtain ⟨⟨⟨h1, h2⟩, h3⟩, h4⟩ := h
  have hs := sum_all g hg T.es h1 (by omega)
  have hm := most_all g hg T.es h1
  rw [he] at hs
  refine ⟨?_, h4, fun hk => ?_⟩
  · unfold greatG at h4 ⊢
    generalize sumG g T.es = s at *
    generalize mostG g T.es = x at *
    split
    · rename_i hk
      have he1 : T.en = 1 := by simpa [partsN, hk] using h2
      have hr : 0 ≤ T.lo ∧ T.lo ≤ T.hi ∧ T.hi ≤ 8 := by simpa [fitsB, rangeB, hk] using h3
      have hp : 0 ≤ T.hi * s ∧ T.hi * s ≤ 8 * 300 := ⟨Int.mul_nonneg (by omega) (by omega), Int.mul_le_mul (by omega) (by omega) (by omega) (by omega)⟩
      generalize T.hi * s = p at *
      unfold wrap64
      omega
    · split <;> (unfold wrap64; omega)
  · unfold greatG at h4
    rw [if_neg (by omega), if_neg (by omega)] at h4
    generalize sumG g T.es = s at *
    have e : wrap64 (1 + s) = 1 + s := by unfold wrap64; omega
    rw [e] at h4
    omega

theorem few_parts : ∀ (l : List Ty) (g : List Int), Near g → (runG g l).isSome = true → (∀ T ∈ l, T.es.length = T.en ∧ T.en ≤ 17592186044416) → ∀ T ∈ l, T.k = 8 → T.en ≤ 300
  | [], _, _, _, _, T, h => by cases h
  | S :: r, g, hg, hs, he, T, h => by
    rw [runG] at hs
    split at hs
    · rename_i hok
      obtain ⟨e1, e2⟩ := he S (List.mem_cons_self ..)
      obtain ⟨h1, h2, h3⟩ := great_near hg hok e1 e2
      rcases List.mem_cons.1 h with rfl | h
      · exact h3
      · refine few_parts r _ (fun x hx => ?_) hs (fun T hT => he T (List.mem_cons_of_mem _ hT)) T h
        rcases List.mem_append.1 hx with hx | hx
        · exact hg x hx
        · obtain rfl := List.mem_singleton.1 hx
          exact ⟨h1, h2⟩
    · cases hs

end Go.Proofs.Ytkgejeamcgodhaa
