/- What a crash leaves of the document's disk, without memory. -/
import Derived.Test.YtcophmafkpbdaaaR2done
import Derived.Test.YtcophmafkpbdaaaR2bad
namespace Go.Proofs.Ytcophmafkpbdaaa
open Go.RowKit
set_option linter.unusedVariables false

/-- Sectors that a crash may keep of an epoch. -/
def Gd (nx : List (Nat × List Int)) (zs : List Int) : Prop := zs.Nodup ∧ ∀ z ∈ zs, ∃ s ∈ nx, (s.1 : Int) = z

theorem Gd.nil (nx : List (Nat × List Int)) : Gd nx [] := ⟨List.nodup_nil, fun z hz => by simp at hz⟩

theorem Gd.snoc {nx : List (Nat × List Int)} {zs : List Int} {i : Nat} (h : Gd nx (zs.take i)) (hi : i < zs.length) (hin : ∃ s ∈ nx, (s.1 : Int) = zs[i]) (hne : ∀ j, ∀ hj : j < i, zs[j]'(by omega) ≠ zs[i]) : Gd nx (zs.take (i + 1)) := by
  rw [List.take_add_one, List.getElem?_eq_getElem hi]
  refine ⟨?_, fun z hz => ?_⟩
  · simp only [Option.toList_some, List.nodup_append, List.nodup_cons, List.not_mem_nil, not_false_iff, List.nodup_nil, and_self, true_and]
    refine ⟨h.1, fun a ha b hb => ?_⟩
    simp at hb
    subst hb
    obtain ⟨j, hj, e⟩ := List.getElem_of_mem ha
    rw [List.length_take] at hj
    rw [← e, List.getElem_take]
    exact hne j (by omega)
  · rcases List.mem_append.1 hz with h' | h'
    · exact h.2 z h'
    · simp at h'; subst h'; exact hin

theorem Gd.not_in {nx : List (Nat × List Int)} {zs : List Int} {i : Nat} (hi : i < zs.length) (hin : ∀ s ∈ nx, (s.1 : Int) ≠ zs[i]) : ¬ Gd nx zs := fun h => by
  obtain ⟨s, hs, e⟩ := h.2 zs[i] (List.getElem_mem hi)
  exact hin s hs e

theorem Gd.not_twice {nx : List (Nat × List Int)} {zs : List Int} {i j : Nat} (hi : i < zs.length) (hj : j < i) (e : zs[j]'(by omega) = zs[i]) : ¬ Gd nx zs := fun h => by
  have := List.getElem_inj (h₀ := by omega) (h₁ := hi) h.1 |>.1 e
  omega

/-- The greatest of some numbers, or -1. -/
def mxz (zs : List Int) : Int := zs.foldl max (-1)

theorem mxz_snoc (zs : List Int) (i : Nat) (h : i < zs.length) : mxz (zs.take (i + 1)) = max (mxz (zs.take i)) zs[i] := by
  rw [List.take_add_one, List.getElem?_eq_getElem h]
  unfold mxz
  rw [List.foldl_append]
  rfl

/-- A sector of an epoch as a crash leaves it. -/
def cutf (t : Int) (bs old : List Int) (G i : Int) : List Int := if i = G ∧ t < 128 then bs.take t.toNat ++ old.drop t.toNat else bs

/-- All sectors behind a crash. -/
def kf (nx : List (Nat × List Int)) (G t : Int) (base : Nat → List Int) (zs : List Int) : Nat → List Int := fun i => if (i : Int) ∈ zs then cutf t ((look nx i).getD []) (base i) G i else base i

theorem kf_nil (nx : List (Nat × List Int)) (G t : Int) (base : Nat → List Int) : kf nx G t base [] = base := by
  funext i; simp [kf]

theorem look_at {nx : List (Nat × List Int)} (hr : ∀ (a b : Nat) (hab : a < b) (h : b < nx.length), (nx[a]'(by omega)).1 < nx[b].1) (j : Nat) (hj : j < nx.length) : look nx nx[j].1 = some nx[j].2 := by
  unfold look
  have : nx.find? (fun s => s.1 == nx[j].1) = some nx[j] := by
    rw [List.find?_eq_some_iff_getElem]
    refine ⟨by simp, j, hj, rfl, fun a ha => ?_⟩
    have := hr a j ha hj
    simp
    omega
  rw [this]
  rfl

theorem kf_snoc (nx : List (Nat × List Int)) (G t : Int) (base : Nat → List Int) (zs : List Int) (i : Nat) (hi : i < zs.length) (S : Nat) (hS : (S : Int) = zs[i]) (hnd : zs.Nodup) (bs : List Int) (hb : look nx S = some bs) (k : Nat) :
    kf nx G t base (zs.take (i + 1)) k = if k = S then cutf t bs (kf nx G t base (zs.take i) S) G S else kf nx G t base (zs.take i) k := by
  have hnot : (S : Int) ∉ zs.take i := fun hm => by
    obtain ⟨j, hj, e⟩ := List.getElem_of_mem hm
    rw [List.length_take] at hj
    rw [List.getElem_take, hS] at e
    have := List.getElem_inj (h₀ := by omega) (h₁ := hi) hnd |>.1 e
    omega
  rw [List.take_add_one, List.getElem?_eq_getElem hi]
  unfold kf
  by_cases hk : k = S
  · subst hk
    rw [if_pos rfl, if_neg hnot, if_pos (List.mem_append.2 (.inr (by simp [hS]))), hb]
    rfl
  · have : ((k : Int) ∈ zs.take i ++ [zs[i]]) ↔ (k : Int) ∈ zs.take i := by
      simp only [List.mem_append, List.mem_singleton, ← hS]
      constructor
      · rintro (h | h)
        · exact h
        · omega
      · exact .inl
    simp only [Option.toList_some, this, hk, if_false]

end Go.Proofs.Ytcophmafkpbdaaa
