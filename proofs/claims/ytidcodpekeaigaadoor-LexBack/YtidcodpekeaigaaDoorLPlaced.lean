/- Tokens stand in order, each where it begins, with its bytes: without memory. -/
import Derived.Test.YtidcodpekeaigaaDoorLLen
namespace Go.Proofs.YtidcodpekeaigaaDoor
open Go.RowKit
set_option linter.unusedVariables false

theorem size_extract' (s : ByteArray) {a b : Nat} (hb : b ≤ s.size) : (s.extract a b).size = b - a := by
  rw [ByteArray.size_extract]
  omega

/-- Where a token's bytes begin. -/
def tb (t : Tok) : Nat := if t.kind = 3 then t.at_ + 1 else t.at_

/-- The tokens stand in order, from a place on. -/
def Placed (s : ByteArray) : Nat → List Tok → Prop
  | e, [] => e ≤ s.size
  | e, t :: l => e ≤ t.at_ ∧ tb t + t.text.size ≤ s.size ∧ s.extract (tb t) (tb t + t.text.size) = t.text ∧ (t.text.size = 0 → t.kind = 3) ∧ Placed s (tb t + t.text.size) l

theorem Placed.mono {s : ByteArray} {e e' : Nat} (h : e' ≤ e) : ∀ {l : List Tok}, Placed s e l → Placed s e' l
  | [], p => Nat.le_trans h p
  | t :: l, p => ⟨Nat.le_trans h p.1, p.2⟩

theorem tok_one {s : ByteArray} {i a b k : Nat} {kind n : Int} (h3 : ¬ kind = 3) (hk : b = k) (ha : a = i) (hab : a < b) (hb : b ≤ s.size) :
    (⟨kind, i, s.extract a b, n⟩ : Tok).at_ = i ∧ tb ⟨kind, i, s.extract a b, n⟩ + (s.extract a b).size ≤ k ∧ s.extract (tb ⟨kind, i, s.extract a b, n⟩) (tb ⟨kind, i, s.extract a b, n⟩ + (s.extract a b).size) = s.extract a b ∧ ((s.extract a b).size = 0 → kind = 3) := by
  have hz := size_extract' s (a := a) hb
  unfold tb
  simp only [if_neg h3]
  rw [hz]
  refine ⟨trivial, by omega, ?_, fun h => by omega⟩
  rw [ha, show i + (b - i) = b by omega]

theorem numE_facts {s : ByteArray} {i d : Nat} {a : Int} {e : Nat} {t : Tok} {k : Nat} (h : numE s i d a e = .tok t k) (hk : i < k ∧ k ≤ s.size) :
    t.at_ = i ∧ tb t + t.text.size ≤ k ∧ s.extract (tb t) (tb t + t.text.size) = t.text ∧ (t.text.size = 0 → t.kind = 3) := by
  unfold numE at h
  split at h
  · cases h
  split at h
  · cases h
  split at h
  · cases h
  cases h
  exact tok_one (by decide) rfl rfl hk.1 hk.2

theorem tok_facts {s : ByteArray} {i : Nat} {t : Tok} {k : Nat} (hi : i < s.size) (h : stepP s i = .tok t k) :
    t.at_ = i ∧ tb t + t.text.size ≤ k ∧ s.extract (tb t) (tb t + t.text.size) = t.text ∧ (t.text.size = 0 → t.kind = 3) := by
  have hk := stepP_tok hi h
  have hnum : ∀ d, numP s i d = .tok t k → t.at_ = i ∧ tb t + t.text.size ≤ k ∧ s.extract (tb t) (tb t + t.text.size) = t.text ∧ (t.text.size = 0 → t.kind = 3) := by
    intro d hd
    unfold numP at hd
    split at hd
    · exact numE_facts hd hk
    · exact numE_facts hd hk
  unfold stepP at h
  split at h
  · cases h
  split at h
  · cases h
  split at h
  · cases h
    exact tok_one (by decide) rfl rfl (by omega) (by omega)
  split at h
  · cases h
    exact tok_one (by decide) rfl rfl (by omega) (by omega)
  split at h
  · unfold txtP at h
    split at h
    · rename_i h1
      cases h
      have h3 : pass inTx s (i + 1) < s.size := bt_lt (by rw [h1]; decide)
      have h2 := pass_ge inTx s (i + 1)
      have hz := size_extract' s (a := i + 1) (Nat.le_of_lt h3)
      refine ⟨rfl, ?_, ?_, fun _ => rfl⟩
      · show i + 1 + (s.extract (i + 1) (pass inTx s (i + 1))).size ≤ _
        rw [hz]
        omega
      · show s.extract (i + 1) (i + 1 + (s.extract (i + 1) (pass inTx s (i + 1))).size) = _
        rw [hz, show i + 1 + (pass inTx s (i + 1) - (i + 1)) = pass inTx s (i + 1) by omega]
    · cases h
  split at h
  · exact hnum _ h
  unfold wordP at h
  split at h
  · exact hnum _ h
  split at h
  · cases h
    exact tok_one (by decide) rfl rfl hk.1 hk.2
  · cases h

theorem scanP_placed {s : ByteArray} {i : Nat} {acc l : List Tok} (hi : i ≤ s.size) (h : scanP s i acc = .toks l) : ∃ l', l = acc ++ l' ∧ Placed s i l' := by
  by_cases hl : i < s.size
  · rcases hs : stepP s i with k | ⟨t, k⟩ | ⟨j, why⟩
    · rw [scanP_skip hl hs] at h
      have hk := stepP_skip hl hs
      obtain ⟨l', e, p⟩ := scanP_placed hk.2 h
      exact ⟨l', e, p.mono (Nat.le_of_lt hk.1)⟩
    · rw [scanP_tok hl hs] at h
      have hk := stepP_tok hl hs
      obtain ⟨l', e, p⟩ := scanP_placed hk.2 h
      obtain ⟨f1, f2, f3, f4⟩ := tok_facts hl hs
      refine ⟨t :: l', by rw [e]; simp, ?_, by omega, f3, f4, p.mono f2⟩
      omega
    · rw [scanP_bad hl hs] at h
      cases h
  · rw [scanP_over hl] at h
    cases h
    exact ⟨[], by simp, hi⟩
termination_by s.size - i

theorem scanR_placed {s : ByteArray} {l : List Tok} (h : scanR s = .toks l) : Placed s 0 l ∧ s.size ≤ 4000 := by
  unfold scanR at h
  split at h
  · cases h
  · obtain ⟨l', e, p⟩ := scanP_placed (Nat.zero_le _) h
    rw [e]
    exact ⟨p, by omega⟩

/-- The place behind the first tokens. -/
def endAt : Nat → List Tok → Nat → Nat
  | e, _, 0 => e
  | e, [], _ + 1 => e
  | e, t :: l, j + 1 => endAt (tb t + t.text.size) l j

/-- What is asked of a token. -/
theorem Placed.at_ {s : ByteArray} : ∀ {l : List Tok} {e : Nat} (p : Placed s e l) (j : Nat) (hj : j < l.length),
    endAt e l j ≤ l[j].at_ ∧ tb l[j] + l[j].text.size ≤ s.size ∧ s.extract (tb l[j]) (tb l[j] + l[j].text.size) = l[j].text ∧ (l[j].text.size = 0 → l[j].kind = 3) ∧ endAt e l (j + 1) = tb l[j] + l[j].text.size
  | [], e, p, j, hj => absurd hj (Nat.not_lt_zero j)
  | t :: l, e, p, 0, hj => ⟨p.1, p.2.1, p.2.2.1, p.2.2.2.1, by cases l <;> rfl⟩
  | t :: l, e, p, j + 1, hj => by
    have h := Placed.at_ p.2.2.2.2 j (by simpa using hj)
    simpa [endAt] using h
theorem Placed.over {s : ByteArray} : ∀ {l : List Tok} {e : Nat} (p : Placed s e l), endAt e l l.length ≤ s.size
  | [], e, p => p
  | t :: l, e, p => Placed.over (l := l) p.2.2.2.2

end Go.Proofs.YtidcodpekeaigaaDoor
