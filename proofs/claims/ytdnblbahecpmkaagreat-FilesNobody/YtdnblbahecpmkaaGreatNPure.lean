/- Paths and file systems without memory: a path's names; what a walk along them comes to. -/
import Derived.Test.YtdnblbahecpmkaaGreatUpd
namespace Go.Proofs.YtdnblbahecpmkaaGreat
set_option linter.unusedVariables false

/-- A text's pieces between slashes. -/
def spl : List UInt8 → List (List UInt8)
  | [] => [[]]
  | c :: r => if c = 47 then [] :: spl r else match spl r with
    | x :: xs => (c :: x) :: xs
    | [] => [[c]]
theorem spl_ne : ∀ l, spl l ≠ []
  | [] => by simp [spl]
  | c :: r => by
    unfold spl
    split
    · simp
    · split <;> simp
/-- How many bytes stand ahead of the first slash. -/
def upto : List UInt8 → Nat
  | [] => 0
  | c :: r => if c = 47 then 0 else upto r + 1
theorem upto_le : ∀ l, upto l ≤ l.length
  | [] => by simp [upto]
  | c :: r => by
    have := upto_le r
    unfold upto
    split <;> simp <;> omega
theorem spl_no : ∀ l, upto l = l.length → spl l = [l]
  | [], _ => rfl
  | c :: r, h => by
    unfold upto at h
    unfold spl
    split at h
    · simp at h
    · rename_i hc
      rw [if_neg hc, spl_no r (by simpa using h)]
theorem spl_yes : ∀ l, upto l < l.length → spl l = l.take (upto l) :: spl (l.drop (upto l + 1))
  | [], h => by simp [upto] at h
  | c :: r, h => by
    by_cases hc : c = 47
    · simp [upto, spl, hc]
    · have e : upto (c :: r) = upto r + 1 := by simp [upto, hc]
      rw [e] at h ⊢
      have h2 := spl_yes r (by simpa using h)
      simp [spl, hc, h2]
theorem mem_spl : ∀ l, ∀ s ∈ spl l, (47 : UInt8) ∉ s
  | [], s, h => by simp [spl] at h; subst h; simp
  | c :: r, s, h => by
    have ih := mem_spl r
    unfold spl at h
    split at h
    · rcases List.mem_cons.1 h with e | h
      · subst e; simp
      · exact ih s h
    · rename_i hc
      split at h
      · rename_i x xs e
        rcases List.mem_cons.1 h with e' | h
        · subst e'
          have := ih x (by rw [e]; simp)
          simp only [List.mem_cons, not_or]
          exact ⟨fun e => hc e.symm, this⟩
        · exact ih s (by rw [e]; simp [h])
      · rename_i e
        exact absurd e (spl_ne r)
/-- Two texts with the same pieces are one. -/
theorem spl_inj : ∀ l m, spl l = spl m → l = m
  | [], [], _ => rfl
  | [], d :: t, h => by
    unfold spl at h
    split at h
    · rename_i hd
      have := spl_ne t
      simp at h
      exact absurd h this
    · split at h <;> simp at h
  | c :: r, [], h => by
    unfold spl at h
    split at h
    · have := spl_ne r
      simp at h
      exact absurd h this
    · split at h <;> simp at h
  | c :: r, d :: t, h => by
    by_cases hc : c = 47 <;> by_cases hd : d = 47
    · subst hc; subst hd
      simp [spl] at h
      rw [spl_inj r t h]
    · exfalso
      have := spl_ne t
      simp only [spl, hc, hd, if_true, if_false] at h
      split at h <;> simp at h
    · exfalso
      simp only [spl, hc, hd, if_true, if_false] at h
      split at h <;> simp at h
    · simp only [spl, hc, hd, if_false] at h
      split at h
      · split at h
        · rename_i x xs e1 _ y ys e2
          simp at h
          obtain ⟨⟨h1, h2⟩, h3⟩ := h
          rw [h1, spl_inj r t (by rw [e1, e2, h2, h3])]
        · rename_i e
          exact absurd e (spl_ne t)
      · rename_i e
        exact absurd e (spl_ne r)

/-- A walk: the kinds of nodes, what names name, where it stands, the way there, the names that are left. An error; or the way, the last name, what it names. -/
def wk (K : Nat → Int) (N : Nat → List UInt8 → Nat) : Nat → List Nat → List (List UInt8) → Except Int (List Nat × List UInt8 × Nat)
  | _, _, [] => .error 0
  | n, y, s :: r =>
    if K n = 0 then .error 2 else if K n ≠ 2 then .error 20 else if s = [] then .error 22 else if 6 < s.length then .error 36 else
    match r with
    | [] => .ok (y ++ [n], s, N n s)
    | q :: t => wk K N (N n s) (y ++ [n]) (q :: t)

/-- Another mark at a number; how many of the first numbers are marked. -/
def updT (T : Nat → Bool) (i : Nat) (x : Bool) : Nat → Bool := fun j => if j = i then x else T j
theorem updT_same (T : Nat → Bool) (i : Nat) (x : Bool) : updT T i x i = x := by simp [updT]
theorem updT_ne (T : Nat → Bool) (i j : Nat) (x : Bool) (h : j ≠ i) : updT T i x j = T j := by simp [updT, h]
def cnt (T : Nat → Bool) : Nat → Nat
  | 0 => 0
  | n + 1 => cnt T n + if T n then 1 else 0
theorem cnt_out (T : Nat → Bool) (b : Nat) (x : Bool) : ∀ n, n ≤ b → cnt (updT T b x) n = cnt T n
  | 0, _ => rfl
  | n + 1, h => by
    unfold cnt
    rw [cnt_out T b x n (by omega), updT_ne _ _ _ _ (by omega)]
theorem cnt_set (T : Nat → Bool) (b : Nat) (hb : T b = false) : ∀ n, b < n → cnt (updT T b true) n = cnt T n + 1
  | 0, h => by omega
  | n + 1, h => by
    unfold cnt
    by_cases e : n = b
    · subst e; rw [cnt_out _ _ _ _ (Nat.le_refl _), updT_same, hb]; simp
    · rw [cnt_set T b hb n (by omega), updT_ne _ _ _ _ e]; omega
theorem cnt_clr (T : Nat → Bool) (b : Nat) (hb : T b = true) : ∀ n, b < n → cnt (updT T b false) n + 1 = cnt T n
  | 0, h => by omega
  | n + 1, h => by
    unfold cnt
    by_cases e : n = b
    · subst e; rw [cnt_out _ _ _ _ (Nat.le_refl _), updT_same, hb]; simp
    · have := cnt_clr T b hb n (by omega)
      rw [updT_ne _ _ _ _ e]; omega
theorem cnt_full (T : Nat → Bool) : ∀ n, (∀ c, 1 ≤ c → c < n → T c = true) → n ≤ cnt T n + 1
  | 0, _ => by omega
  | n + 1, h => by
    have := cnt_full T n (fun c h1 h2 => h c h1 (by omega))
    unfold cnt
    by_cases e : n = 0
    · subst e; omega
    · rw [h n (by omega) (by omega)]; simp; omega
theorem cnt_le (T : Nat → Bool) : ∀ n, cnt T n ≤ n
  | 0 => Nat.le_refl _
  | n + 1 => by
    have := cnt_le T n
    unfold cnt
    split <;> omega

end Go.Proofs.YtdnblbahecpmkaaGreat
