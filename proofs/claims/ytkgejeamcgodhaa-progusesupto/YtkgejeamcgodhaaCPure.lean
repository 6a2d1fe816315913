/- Rising lists without memory: what a list's numbers are, each once, in their order. -/
import Derived.Test.YtkgejeamcgodhaaUpd
namespace Go.Proofs.Ytkgejeamcgodhaa
set_option linter.unusedVariables false

/-- r is the numbers of l, rising, each once. -/
def Rises (l r : List Int) : Prop := r.Pairwise (· < ·) ∧ ∀ x, x ∈ r ↔ x ∈ l

theorem rising_unique : ∀ (r s : List Int), r.Pairwise (· < ·) → s.Pairwise (· < ·) → (∀ x, x ∈ r ↔ x ∈ s) → r = s
  | [], [], _, _, _ => rfl
  | [], b :: s, _, _, e => absurd ((e b).2 List.mem_cons_self) List.not_mem_nil
  | a :: r, [], _, _, e => absurd ((e a).1 List.mem_cons_self) List.not_mem_nil
  | a :: r, b :: s, h, k, e => by
    obtain ⟨h1, h2⟩ := List.pairwise_cons.1 h
    obtain ⟨k1, k2⟩ := List.pairwise_cons.1 k
    have hab : a = b := by
      rcases List.mem_cons.1 ((e a).1 List.mem_cons_self) with x | x
      · exact x
      · rcases List.mem_cons.1 ((e b).2 List.mem_cons_self) with y | y
        · exact y.symm
        · have := h1 b y; have := k1 a x; omega
    subst hab
    congr 1
    refine rising_unique r s h2 k2 (fun x => ⟨fun hx => ?_, fun hx => ?_⟩)
    · rcases List.mem_cons.1 ((e x).1 (List.mem_cons_of_mem _ hx)) with y | y
      · have := h1 x hx; omega
      · exact y
    · rcases List.mem_cons.1 ((e x).2 (List.mem_cons_of_mem _ hx)) with y | y
      · have := k1 x hx; omega
      · exact y

theorem Rises.unique {l k r s : List Int} (h : Rises l r) (q : Rises k s) (e : ∀ x, x ∈ l ↔ x ∈ k) : r = s :=
  rising_unique r s h.1 q.1 (fun x => by rw [h.2, q.2, e])

def lows (n : Int) (l : List Int) : List Int := l.filter (fun m => decide (m < n))
def highs (n : Int) (l : List Int) : List Int := l.filter (fun m => decide (n < m))
def isPut (n : Int) (l : List Int) : Bool := l.any (fun m => decide (n ≤ m))
/-- What the document's rising has laid behind the first numbers of what it had. -/
def nextL (n : Int) (l : List Int) : List Int := lows n l ++ (if isPut n l then [n] else []) ++ highs n l

theorem noPut {n : Int} {l : List Int} (h : isPut n l = false) : ∀ x ∈ l, x < n := fun x hx => by
  have := List.any_eq_false.1 h x hx
  simp at this; omega
theorem highs_none {n : Int} {l : List Int} (h : isPut n l = false) : highs n l = [] := by
  unfold highs
  rw [List.filter_eq_nil_iff]
  intro x hx
  have := noPut h x hx
  simp; omega
theorem isPut_snoc (n m : Int) (l : List Int) : isPut n (l ++ [m]) = (isPut n l || decide (n ≤ m)) := by simp [isPut]

theorem next_lt {n m : Int} {l : List Int} (h : isPut n l = false) (hm : m < n) : nextL n (l ++ [m]) = nextL n l ++ [m] := by
  have h2 : isPut n (l ++ [m]) = false := by rw [isPut_snoc, h]; simp; omega
  unfold nextL
  rw [h, h2, highs_none h, highs_none h2]
  simp [lows, hm]
theorem next_eq {n : Int} {l : List Int} (h : isPut n l = false) : nextL n (l ++ [n]) = nextL n l ++ [n] := by
  have h2 : isPut n (l ++ [n]) = true := by rw [isPut_snoc]; simp
  unfold nextL
  rw [h, h2, highs_none h]
  have h3 : highs n (l ++ [n]) = [] := by have := highs_none h; simp [highs] at this ⊢; exact this
  rw [h3]
  simp [lows]
theorem next_gt {n m : Int} {l : List Int} (h : isPut n l = false) (hm : n < m) : nextL n (l ++ [m]) = nextL n l ++ [n] ++ [m] := by
  have h2 : isPut n (l ++ [m]) = true := by rw [isPut_snoc]; simp; omega
  unfold nextL
  rw [h, h2, highs_none h]
  have h3 : highs n (l ++ [m]) = [m] := by have := highs_none h; simp only [highs, List.filter_append] at this ⊢; rw [this]; simp [hm]
  rw [h3]
  have : ¬ m < n := by omega
  simp [lows, this]
theorem put_gt {n m : Int} {l : List Int} (h : isPut n l = true) (hp : (l ++ [m]).Pairwise (· < ·)) : n < m := by
  obtain ⟨x, hx, hn⟩ := List.any_eq_true.1 h
  have := (List.pairwise_append.1 hp).2.2 x hx m (by simp)
  simp at hn; omega
theorem next_more {n m : Int} {l : List Int} (h : isPut n l = true) (hm : n < m) : nextL n (l ++ [m]) = nextL n l ++ [m] := by
  have h2 : isPut n (l ++ [m]) = true := by rw [isPut_snoc, h]; simp
  unfold nextL
  rw [h, h2]
  have : ¬ m < n := by omega
  simp [lows, highs, hm, this]

/-- What stands behind the whole round. -/
def putIn (n : Int) (l : List Int) : List Int := lows n l ++ [n] ++ highs n l
theorem putIn_yes {n : Int} {l : List Int} (h : isPut n l = true) : nextL n l = putIn n l := by simp [nextL, putIn, h]
theorem putIn_no {n : Int} {l : List Int} (h : isPut n l = false) : nextL n l ++ [n] = putIn n l := by simp [nextL, putIn, h, highs_none h]

theorem Rises.putIn {l r : List Int} (h : Rises l r) (n : Int) : Rises (l ++ [n]) (putIn n r) := by
  refine ⟨?_, fun x => ?_⟩
  · unfold Go.Proofs.Ytkgejeamcgodhaa.putIn lows highs
    rw [List.append_assoc, List.pairwise_append]
    refine ⟨h.1.filter _, ?_, fun a ha b hb => ?_⟩
    · simp only [List.singleton_append, List.pairwise_cons]
      refine ⟨fun b hb => ?_, h.1.filter _⟩
      simpa using (List.mem_filter.1 hb).2
    · have h1 : a < n := by simpa using (List.mem_filter.1 ha).2
      simp only [List.singleton_append, List.mem_cons] at hb
      rcases hb with rfl | hb
      · exact h1
      · have : n < b := by simpa using (List.mem_filter.1 hb).2
        omega
  · have := h.2 x
    simp only [Go.Proofs.Ytkgejeamcgodhaa.putIn, lows, highs, List.mem_append, List.mem_filter, List.mem_singleton, decide_eq_true_eq, ← this]
    by_cases e : x = n
    · simp [e]
    · constructor
      · rintro ((h | h) | h)
        · exact .inl h.1
        · exact .inr h
        · exact .inl h.1
      · rintro (h | h)
        · rcases (show x < n ∨ n < x by omega) with q | q
          · exact .inl (.inl ⟨h, q⟩)
          · exact .inr ⟨h, q⟩
        · exact absurd h e

theorem next_length (n : Int) (l : List Int) : (nextL n l).length ≤ l.length + 1 := by
  have key : (lows n l).length + (highs n l).length ≤ l.length := by
    induction l with
    | nil => simp [lows, highs]
    | cons a l ih =>
      simp only [lows, highs, List.filter_cons] at ih ⊢
      by_cases h1 : a < n
      · have : ¬ n < a := by omega
        simp [h1, this]; omega
      · by_cases h2 : n < a
        · simp [h1, h2]; omega
        · simp [h1, h2]; omega
  unfold nextL
  split <;> simp <;> omega
theorem next_length_no {n : Int} {l : List Int} (h : isPut n l = false) : (nextL n l).length ≤ l.length := by
  unfold nextL
  rw [h, highs_none h]
  simpa [lows] using List.length_filter_le (fun m => decide (m < n)) l
theorem putIn_length (n : Int) (l : List Int) : (putIn n l).length ≤ l.length + 1 := by
  have := next_length n l
  cases h : isPut n l with
  | true => rw [← putIn_yes h]; exact this
  | false =>
    have h2 : lows n l = l := List.filter_eq_self.2 (fun x hx => by simpa using noPut h x hx)
    simp [putIn, highs_none h, h2]

end Go.Proofs.Ytkgejeamcgodhaa
