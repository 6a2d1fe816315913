/- The least argument of a type: the program's least. -/
import Derived.Test.YtkgejeamcgodhaaGLeast9
import Derived.Test.YtkgejeamcgodhaaGLeast10
namespace Go.Proofs.Ytkgejeamcgodhaa
open Go.RowKit
set_option linter.unusedVariables false
set_option maxRecDepth 20000

theorem fits_kinds {T : Ty} (h : fitsB T = true) : T.k = 1 ∨ T.k = 2 ∨ T.k = 3 ∨ T.k = 4 ∨ T.k = 5 ∨ T.k = 6 ∨ T.k = 7 ∨ T.k = 8 ∨ T.k = 9 ∨ T.k = 10 ∨ T.k = 11 := by
  unfold fitsB at h
  split at h
  · omega
  split at h
  · omega
  split at h
  · omega
  split at h
  · omega
  split at h
  · omega
  split at h
  · omega
  split at h
  · omega
  split at h
  · omega
  cases h

theorem least_any (a : Option Addr) (m c : Nat) (a2 : Option Addr) (m2 c2 : Nat) (l : List Ty) (hm : l.length = m) (hmb : m ≤ 9223372036854775807) (hG : Good l) (hE : ∀ n, ∀ h : n < l.length, l[n].k = 8 → l[n].en ≤ 1048576) : ∀ n, LeastAt a m c a2 m2 c2 l 37 n := by
  intro n
  induction n using Nat.strongRecOn with
  | _ n ih =>
    intro w hT hn
    obtain ⟨tb, to', e, htb, hts⟩ := hT (by omega)
    have hO := (hts n hn).2
    obtain ⟨h1, h2, h3⟩ := hG n hn
    have hen := hE n hn
    have hl : l[n] = l[n] := rfl
    generalize hTT : l[n] = T at *
    rcases fits_kinds h3 with hk | hk | hk | hk | hk | hk | hk | hk | hk | hk | hk
    · exact least_1 a m c a2 m2 c2 l n hm hmb w hT hn T hTT hk
    · exact least_2 a m c a2 m2 c2 l n hm hmb w hT hn T hTT hk
    · exact least_3 a m c a2 m2 c2 l n hm hmb w hT hn T hTT hk
    · exact least_4 a m c a2 m2 c2 l n hm hmb w hT hn T hTT hk
    · exact least_5 a m c a2 m2 c2 l n hm hmb w hT hn T hTT hk (by simp [fitsB, hk] at h3; exact h3.2)
    · have he1 : T.en = 1 := by simpa [partsN, hk] using h2
      exact least_6 a m c a2 m2 c2 l n ih hm hmb w hT hn T hTT hk (by omega) he1 h1
    · exact least_7 a m c a2 m2 c2 l n ih hm hmb w hT hn T hTT hk (by simpa [partsN, hk] using h2) (by simp [fitsB, rangeB, hk] at h3; omega) h1
    · exact least_8 a m c a2 m2 c2 l n ih hm hmb w hT hn T hTT hk (hen hk) h1
    · exact least_9 a m c a2 m2 c2 l n ih hm hmb w hT hn T hTT hk (by simp [partsN, hk] at h2; exact h2.1) h1
    · have h4 : 0 < T.tn ∧ ∀ t ∈ T.ts, t.size ≤ 24 := by simpa [fitsB, hk] using h3
      refine least_10 a m c a2 m2 c2 l n hm hmb w hT hn T hTT hk h4.1 (h4.2 _ ?_)
      have : 0 < T.ts.length := by rw [hO.tl]; exact h4.1
      rw [List.getD_eq_getElem?_getD, List.getElem?_eq_getElem this]
      exact List.getElem_mem _
    · exact least_11 a m c a2 m2 c2 l n hm hmb w hT hn T hTT hk (by simp [fitsB, rangeB, hk] at h3; omega)

end Go.Proofs.Ytkgejeamcgodhaa
