/- The road of ProgUses. -/
import Derived.Test.YtkgejeamcgodhaaGU6
namespace Go.Proofs.Ytkgejeamcgodhaa
open Go.RowKit
set_option linter.unusedVariables false
set_option maxRecDepth 20000

theorem ilst_nil (w : World) : Ilst w none 0 0 [] := ⟨rfl, fun h => absurd h (Nat.lt_irrefl 0), fun _ => rfl⟩

set_option maxHeartbeats 4000000 in
theorem uses_road (a : Option Addr) (n c : Nat) (i : Int) (w : World) (hn : n ≤ 9223372036854775807) (h : ∀ j, j < n → ∃ d ra rn rc qs, StepAt d w a j ra rn rc qs) :
    Calls Try.prog 7 #[.slice a n c, .int .i64 i] w fun e w' => e = .returned (.bool true) ∧ Below w.heap.size w w' := by
  obtain ⟨k1, k2⟩ : (∃ L : List Int, L.length ≤ 1048576 ∧ Hid (Calls Try.prog 21 #[.slice a n c, .int .i64 i] w fun e w' => ∃ a' n' c', e = .returned (.slice a' n' c') ∧ Ilst w' a' n' c' (riseP L) ∧ Below w.heap.size w w') ∧
      Hid (∀ wx, Below w.heap.size w wx → Calls Try.prog 23 #[.slice a n c, .int .i64 i] wx fun e w' => ∃ a' n' c' r, e = .returned (.slice a' n' c') ∧ Ilst w' a' n' c' r ∧ Rises L r ∧ Below wx.heap.size wx w')) ∧ True := by
    refine ⟨?_, trivial⟩
    by_cases hi : 0 ≤ i ∧ i < (n : Int)
    · obtain ⟨j, rfl⟩ : ∃ j : Nat, i = (j : Int) := ⟨i.toNat, by omega⟩
      obtain ⟨d, ra, rn, rc, qs, hS⟩ := h j (by omega)
      have hcn : cntL d qs ≤ 1048576 := by
        obtain ⟨_, _, _, _, _, _, _, _, _, hcn⟩ := hS
        exact hcn
      exact ⟨refsL d qs, Nat.le_trans (refsL_le d qs) hcn, hid (puses_any a n c j d ra rn rc qs w (by omega) hn hS), hid (fun wx hb => ruses_any a n c j d ra rn rc qs wx (by omega) hn (hS.below hb))⟩
    · refine ⟨[], by simp, hid ((puses_out a n c i w (by omega)).mono ?_), hid (fun wx hb => (ruses_out a n c i wx (by omega)).mono ?_)⟩
      · rintro e w' ⟨rfl, rfl⟩
        exact ⟨none, 0, 0, rfl, by rw [riseP_nil]; exact ilst_nil _, Below.refl _ _⟩
      · rintro e w' ⟨rfl, rfl⟩
        exact ⟨none, 0, 0, [], rfl, ilst_nil _, ⟨List.Pairwise.nil, fun x => by simp⟩, Below.refl _ _⟩
  obtain ⟨L, hL, k1, k2⟩ := k1
  clear h
  go_enter Try.func7, Try.ntmps7
  go_wp2_with fail
  refine k1.out.mono ?_
  rintro e w1 ⟨a1, n1, c1, rfl, hI1, hb1⟩
  have k2' := hid (k2.out w1 hb1)
  have HI1 := hid hI1
  have HB1 := hid hb1
  clear k1 k2 hI1 hb1
  go_wp2_with fail
  refine k2'.out.mono ?_
  rintro e w2 ⟨a2, n2, c2, r, rfl, hI2, hR, hb2⟩
  obtain rfl : r = riseP L := hR.unique (riseP_rises L) (fun _ => Iff.rfl)
  have hI1' := HI1.out.below hb2
  have hlen := riseP_length L
  have hs1 := hI1'.size
  have k3 := hid (eq_lst a1 a2 n1 c1 n2 c2 (riseP L) w2 hI1' hI2 (by omega))
  have k4 : Hid (∀ wx, Below w2.heap.size w2 wx → Calls Try.prog 24 #[.slice a1 n1 c1] wx fun e w' => e = .returned (.bool true) ∧ Below wx.heap.size wx w') := hid (fun wx hb => sorted_yes a1 n1 c1 (riseP L) wx (hI1'.below hb) (riseP_rises L).1 (by omega))
  have HB2 : Hid (Below w.heap.size w w2) := hid (HB1.out.trans (hb2.mono HB1.out.size))
  clear k2' hI2 hR hb2 hI1'
  go_wp2_with fail
  refine k3.out.mono ?_
  rintro e w3 ⟨rfl, hb3⟩
  have k5 := hid (k4.out w3 hb3)
  have HB3 : Hid (Below w.heap.size w w3) := hid (HB2.out.trans (hb3.mono HB2.out.size))
  clear k3 k4 hb3
  go_wp2_with fail
  refine k5.out.mono ?_
  rintro e w4 ⟨rfl, hb4⟩
  have HB4 : Hid (Below w.heap.size w w4) := hid (HB3.out.trans (hb4.mono HB3.out.size))
  clear k5 hb4
  go_wp2_with fail
  go_ret
  exact ⟨rfl, HB4.out⟩

end Go.Proofs.Ytkgejeamcgodhaa
