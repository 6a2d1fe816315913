/- Whether programs are the same: the document's answer. -/
import Derived.Test.YtkgejeamcgodhaaGS3
namespace Go.Proofs.Ytkgejeamcgodhaa
open Go.RowKit
set_option linter.unusedVariables false
set_option maxRecDepth 20000

set_option maxHeartbeats 8000000 in
theorem rsame_any (d d' : Nat) (ra : Option Addr) (rn rc : Nat) (sa : Option Addr) (sn sc : Nat) (qs rs : List Stp) (w : World) (h1 : Pgm d w ra qs) (hl1 : qs.length = rn) (hc1 : rn ≤ rc) (hb1 : rc ≤ 9223372036854775807) (h2 : Pgm d' w sa rs) (hl2 : rs.length = sn) (hc2 : sn ≤ sc) (hb2 : sc ≤ 9223372036854775807) :
    Calls Try.prog 17 #[.slice ra rn rc, .slice sa sn sc] w fun e w' => e = .returned (.bool (sameP d qs rs)) ∧ Below w.heap.size w w' := by
  have H1 := hid h1
  have H2 := hid h2
  have HL1 := hid hl1
  have HL2 := hid hl2
  clear h1 h2
  by_cases hne : rn = sn
  · subst hne
    go_enter Try.func17, Try.ntmps17
    go_wp2_with fail
    go_loopw [13] (fun k wr => ∃ i : Nat, i ≤ rn ∧ k = .int .i64 i ∧ Hid (sameP d qs rs = sameP d (qs.drop i) (rs.drop i)) ∧ Hid (Below w.heap.size w wr)) (fun k _ => rn - (intOf k).toNat)
    case atStart => exact ⟨0, Nat.zero_le _, rfl, hid rfl, hid (Below.refl _ _)⟩
    case round =>
      obtain ⟨i, hi, rfl, HD, HB⟩ := hrel
      by_cases hlt : i < rn
      · have hi1 : i < qs.length := by rw [HL1.out]; exact hlt
        have hi2 : i < rs.length := by rw [HL2.out]; exact hlt
        obtain ⟨b, o, rfl, hbl, hcs⟩ := (H1.out.below HB.out) (by omega)
        obtain ⟨b2, o2, rfl, hbl2, hcs2⟩ := (H2.out.below HB.out) (by omega)
        obtain ⟨x0, x1, okx⟩ := hcs i hi1
        obtain ⟨z0, z1, okz⟩ := hcs2 i hi2
        have HDr := hid (sameP_drop d qs rs i hi1 hi2)
        generalize qs[i] = sA at *
        generalize rs[i] = tA at *
        have k1 := hid (fun wx (hb : Below wr.heap.size wr wx) => rsameargs_any d d' sA.ra sA.rn sA.rc tA.ra tA.rn tA.rc sA.qs tA.qs wx (okx.row.below hb) okx.len okx.le okx.few (okz.row.below hb) okz.len okz.le okz.few)
        have HS : Hid (sameS d sA tA = (decide (sA.c = tA.c) && sameQ (sameB d) sA.qs tA.qs)) := hid rfl
        clear hcs hcs2 hi1 hi2 okx okz
        generalize sameQ (sameB d) sA.qs tA.qs = R at *
        obtain ⟨sc', sra, srn, src, sqs⟩ := sA
        obtain ⟨tc', tra, trn, trc, tqs⟩ := tA
        dsimp only at *
        have hz1 : (0 : Int) ≤ (i : Int) := by omega
        have hz2 : (i : Int) < (rn : Int) := by omega
        by_cases hk : sc' = tc'
        · subst hk
          go_wp2_with fail
          go_region_held3 (fun wx => wx.cell? ⟨b, o + i * 2, none⟩ = some (.int .i64 sc') ∧ wx.cell? ⟨b, o + i * 2 + 1, none⟩ = some (.slice sra srn src) ∧ wx.cell? ⟨b2, o2 + i * 2, none⟩ = some (.int .i64 sc') ∧ wx.cell? ⟨b2, o2 + i * 2 + 1, none⟩ = some (.slice tra trn trc)) (go_keep) (first
            | (go_at_call 46; refine (k1.out _ (below_hp (Below.refl _ wr) (by rfl) (by rfl) (by rfl) (by rfl))).mono ?_; rintro e w2 ⟨rfl, hb2⟩; have hb2' : Below wr.heap.size wr w2 := (below_hp (Below.refl _ wr) (by rfl) (by rfl) (by rfl) (by rfl)).trans hb2; have HB2 := hid hb2'; have y3 : ∀ o, w2.cell? ⟨b, o, none⟩ = wr.cell? ⟨b, o, none⟩ := (fun o => HB2.out.cell (p := ⟨b, o, none⟩) hbl); have y4 : ∀ o, w2.cell? ⟨b2, o, none⟩ = wr.cell? ⟨b2, o, none⟩ := (fun o => HB2.out.cell (p := ⟨b2, o, none⟩) hbl2); clear hb2 hb2'))
          have HBF := hid (HB.out.trans (HB2.out.mono HB.out.size))
          cases R with
          | false =>
            go_wp2_with fail
            go_ret
            refine ⟨?_, HBF.out⟩
            rw [HD.out, HDr.out, HS.out]
            simp
          | true =>
            go_wp2_with fail
            go_roundw
            case rel => exact ⟨i + 1, by omega, by go_num, hid (by rw [HD.out, HDr.out, HS.out]; simp), HBF⟩
            case measure => simp [intOf]; omega
        · go_wp2_with fail
          go_quiet ((fail))
          go_wp2_with fail
          go_ret
          refine ⟨?_, below_hp HB.out (by rfl) (by rfl) (by rfl) (by rfl)⟩
          rw [HD.out, HDr.out, HS.out]
          simp [hk]
      · obtain rfl : i = rn := by omega
        go_wp2_with fail
        go_ret
        refine ⟨?_, HB.out⟩
        rw [HD.out, sameP_end _ _ _ _ (by rw [HL1.out]; exact Nat.le_refl _) (by rw [HL2.out]; exact Nat.le_refl _)]
        rfl
  · have hnz : ¬ (rn : Int) = (sn : Int) := by omega
    have hq := sameP_ne d qs rs (by omega)
    go_enter Try.func17, Try.ntmps17
    go_wp2_with fail
    go_ret
    exact ⟨by rw [hq]; rfl, Below.refl _ _⟩

end Go.Proofs.Ytkgejeamcgodhaa
