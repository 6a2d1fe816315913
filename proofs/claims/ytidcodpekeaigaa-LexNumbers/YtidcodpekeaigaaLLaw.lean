/- The law of Scan: both tell the same. -/
import Derived.Test.YtidcodpekeaigaaLRefScan
import Derived.Test.YtidcodpekeaigaaLEq
namespace Go.Proofs.Ytidcodpekeaigaa
open Go.RowKit
set_option linter.unusedVariables false

theorem scanP_len {s : ByteArray} {i : Nat} {acc l : List Tok} (hi : i ≤ s.size) (ha : acc.length ≤ i) (h : scanP s i acc = .toks l) : l.length ≤ s.size := by
  by_cases hl : i < s.size
  · rcases hs : stepP s i with k | ⟨t, k⟩ | ⟨j, why⟩
    · rw [scanP_skip hl hs] at h
      have := stepP_skip hl hs
      exact scanP_len this.2 (by omega) h
    · rw [scanP_tok hl hs] at h
      have := stepP_tok hl hs
      exact scanP_len this.2 (by simp; omega) h
    · rw [scanP_bad hl hs] at h
      cases h
  · rw [scanP_over hl] at h
    cases h
    omega
termination_by s.size - i

theorem scanR_len {s : ByteArray} {l : List Tok} (h : scanR s = .toks l) : l.length ≤ 4000 := by
  unfold scanR at h
  split at h
  · cases h
  · have := scanP_len (Nat.zero_le _) (Nat.zero_le _) h
    omega

set_option maxHeartbeats 2000000 in
theorem lexscans_any (s : ByteArray) (w : World) (hs : s.size ≤ 140737488355328) :
    Calls Try.prog 3 #[.string s] w fun e w' => e = .returned (.bool true) ∧ Below w.heap.size w w' := by
  have k1 := hid (scan_any s w hs)
  have HL := hid (fun l => scanR_len (s := s) (l := l))
  have k2 := hid (fun w1 => rscan_any s w1 hs)
  obtain ⟨R, gR⟩ : ∃ R, R = scanR s := ⟨_, rfl⟩
  rw [← gR] at k1 k2 HL
  clear gR
  go_enter Try.func3, Try.ntmps3
  go_wp2_with fail
  refine k1.out.mono ?_
  rintro e w1 ⟨h1, hb1⟩
  have HB1 := hid hb1
  rcases R with l | ⟨j, why⟩
  · obtain ⟨v1, rfl, ho1⟩ := h1
    have HO1 := hid ho1
    clear hb1 ho1
    go_wp2_with fail
    refine (k2.out w1).mono ?_
    rintro e w2 ⟨h2, hb2⟩
    obtain ⟨v2, rfl, ho2⟩ := h2
    have k3 := hid (is_nil 0 0 w2)
    rw [show decide ((0 : Int) = 0 ∧ (0 : Int) = 0) = true by decide] at k3
    have k4 := hid (seq_yes v1 v2 w.heap.size w1.heap.size l w2 (own_below HO1.out hb2) ho2 (by have := HL.out l rfl; omega))
    have HB2 := hid hb2
    clear hb2 ho2
    go_wp2_with fail
    refine k3.out.mono ?_
    rintro e w3 ⟨rfl, rfl⟩
    go_wp2_with fail
    refine k4.out.mono ?_
    rintro e w4 ⟨rfl, _, hu⟩
    have HU := hid hu
    clear hu
    go_wp2_with fail
    go_ret
    exact ⟨rfl, (HB1.out.trans (HB2.out.mono HB1.out.size)).trans (HU.out.below (Nat.le_trans HB1.out.size HB2.out.size) (fun x hx => hx.elim))⟩
  · obtain rfl := h1
    clear hb1
    go_wp2_with fail
    refine (k2.out w1).mono ?_
    rintro e w2 ⟨h2, hb2⟩
    obtain rfl := h2
    have k3 := hid (is_fault j why j why w2)
    rw [show decide (why = why ∧ (j : Int) = j) = true by simp] at k3
    have k4 := hid (fun w4 => seq_yes (.slice none 0 0) (.slice none 0 0) 0 0 [] w4 (World.ownsRow_nil _ _ _ _) (World.ownsRow_nil _ _ _ _) (Nat.zero_le _))
    have HB2 := hid hb2
    clear hb2
    go_wp2_with fail
    refine k3.out.mono ?_
    rintro e w3 ⟨rfl, hb3⟩
    have HB3 := hid hb3
    clear hb3
    go_wp2_with fail
    refine (k4.out w3).mono ?_
    rintro e w4 ⟨rfl, _, hu⟩
    have HU := hid hu
    clear hu
    go_wp2_with fail
    go_ret
    have s1 := HB1.out.size
    have s2 := HB2.out.size
    have s3 := HB3.out.size
    exact ⟨rfl, ((HB1.out.trans (HB2.out.mono s1)).trans (HB3.out.mono (Nat.le_trans s1 s2))).trans (HU.out.below (Nat.le_trans s1 (Nat.le_trans s2 s3)) (fun x hx => hx.elim))⟩

end Go.Proofs.Ytidcodpekeaigaa
