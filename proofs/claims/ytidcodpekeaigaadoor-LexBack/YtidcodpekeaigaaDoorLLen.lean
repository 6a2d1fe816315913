/- How many tokens a scan tells. -/
import Derived.Test.YtidcodpekeaigaaDoorLRefScan
import Derived.Test.YtidcodpekeaigaaDoorLEq
namespace Go.Proofs.YtidcodpekeaigaaDoor
open Go.RowKit
set_option linter.unusedVariables false

theorem scanP_len {s : ByteArray} {i : Nat} {acc l : List Tok} (hi : i ≤ s.size) (ha : acc.length ≤ i) (h : scanP s i acc = .toks l) : l.length ≤ s.size := by
  by_cases hl : i < s.size
  · rcases hs : stepP s i with k | ⟨t, k⟩ | ⟨j, why⟩
    · rw [scanP_skip hl hs] at h
      have := stepP_skip hl hs
      exact scanP_len this.2 (by omega) h
    · rw [scanP_tok hl hs] at h
      have := stepP_tok hl hs
      exact scanP_len this.2 (by simp; omega) h
    · rw [scanP_bad hl hs] at h
      cases h
  · rw [scanP_over hl] at h
    cases h
    omega
termination_by s.size - i

theorem scanR_len {s : ByteArray} {l : List Tok} (h : scanR s = .toks l) : l.length ≤ 4000 := by
  unfold scanR at h
  split at h
  · cases h
  · have := scanP_len (Nat.zero_le _) (Nat.zero_le _) h
    omega

end Go.Proofs.YtidcodpekeaigaaDoor
