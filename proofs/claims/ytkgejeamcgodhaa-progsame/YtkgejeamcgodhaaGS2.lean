/- Whether arguments are the same: the document's answer. -/
import Derived.Test.YtkgejeamcgodhaaGS1
namespace Go.Proofs.Ytkgejeamcgodhaa
open Go.RowKit
set_option linter.unusedVariables false
set_option maxRecDepth 20000

theorem box2_at {wr X : World} {o1 o2 : Obj} (h : World.drew (World.alloc (World.alloc wr o1) o2) = X) : X.heap[wr.heap.size]? = some o1 ∧ X.heap[wr.heap.size + 1]? = some o2 ∧ Below wr.heap.size wr X := by
  subst h
  refine ⟨?_, ?_, below_hp (below_box2 wr o1 o2) rfl rfl rfl rfl⟩
  · show ((wr.alloc o1).alloc o2).heap[wr.heap.size]? = some o1
    rw [(below_box (wr.alloc o1) o2).block _ (by simp)]
    exact heap_alloc_new _ _
  · show ((wr.alloc o1).alloc o2).heap[wr.heap.size + 1]? = some o2
    have := heap_alloc_new (wr.alloc o1) o2
    simpa using this

set_option maxHeartbeats 8000000 in
theorem rsameargs_any : ∀ (d d' : Nat) (ra : Option Addr) (rn rc : Nat) (sa : Option Addr) (sn sc : Nat) (qs rs : List Ar) (w : World), Krow d w ra qs → qs.length = rn → rn ≤ rc → rc ≤ 9223372036854775807 → Krow d' w sa rs → rs.length = sn → sn ≤ sc → sc ≤ 9223372036854775807 →
    Calls Try.prog 46 #[.slice ra rn rc, .slice sa sn sc] w fun e w' => e = .returned (.bool (sameQ (sameB d) qs rs)) ∧ Below w.heap.size w w' := by
  intro d
  induction d with
  | zero =>
    intro d' ra rn rc sa sn sc qs rs w h1 hl1 hc1 hb1 h2 hl2 hc2 hb2
    have h0 : qs.length = 0 := by
      rcases Nat.eq_zero_or_pos qs.length with h | h
      · exact h
      · obtain ⟨_, _, _, _, hc⟩ := h1 h
        exact (hc 0 h).2.elim
    obtain rfl : qs = [] := List.eq_nil_of_length_eq_zero h0
    obtain rfl : rn = 0 := hl1.symm
    by_cases hz : sn = 0
    · subst hz
      obtain rfl : rs = [] := List.eq_nil_of_length_eq_zero hl2
      clear h1 h2
      go_enter Try.func46, Try.ntmps46
      go_wp2_with fail
      go_loop [15] (fun k => k = .int .i64 0) (fun _ => 0)
      case atStart => rfl
      case round =>
        subst hrel
        go_wp2_with fail
        go_ret
        exact ⟨rfl, Below.refl _ _⟩
    · have hq := sameQ_ne (sameB 0) [] rs (by simp; omega)
      have hn : ¬ (0 : Int) = (sn : Int) := by omega
      have hn' : ¬ (sn : Int) = 0 := by omega
      clear h1 h2
      go_enter Try.func46, Try.ntmps46
      go_wp2_with fail
      go_ret
      exact ⟨by rw [hq]; rfl, Below.refl _ _⟩
  | succ d ih =>
    intro d' ra rn rc sa sn sc qs rs w h1 hl1 hc1 hb1 h2 hl2 hc2 hb2
    by_cases hne : rn = sn
    · subst hne
      have H1 := hid h1
      have H2 := hid h2
      have HL1 := hid hl1
      have HL2 := hid hl2
      have IH := hid ih
      clear h1 h2 ih
      go_enter Try.func46, Try.ntmps46
      go_wp2_with fail
      go_loopw [15] (fun k wr => ∃ i : Nat, i ≤ rn ∧ k = .int .i64 i ∧ Hid (sameQ (sameB (d + 1)) qs rs = sameQ (sameB (d + 1)) (qs.drop i) (rs.drop i)) ∧ Hid (Below w.heap.size w wr)) (fun k _ => rn - (intOf k).toNat)
      case atStart => exact ⟨0, Nat.zero_le _, rfl, hid rfl, hid (Below.refl _ _)⟩
      case round =>
        obtain ⟨i, hi, rfl, HD, HB⟩ := hrel
        by_cases hlt : i < rn
        · have hi1 : i < qs.length := by rw [HL1.out]; exact hlt
          have hi2 : i < rs.length := by rw [HL2.out]; exact hlt
          obtain ⟨b, o, rfl, hbl, hcs⟩ := H1.out (by omega)
          obtain ⟨b2, o2, rfl, hbl2, hcs2⟩ := H2.out (by omega)
          obtain ⟨x0, x1, x2, x3⟩ := (hcs i hi1).1.blk (HB.out.block b hbl)
          obtain ⟨z0, z1, z2, z3⟩ := (hcs2 i hi2).1.blk (HB.out.block b2 hbl2)
          have hA := (hcs i hi1).2
          have hBo := (hcs2 i hi2).2
          have HDr := hid (sameQ_drop (sameB (d + 1)) qs rs i hi1 hi2)
          generalize qs[i] = A at *
          generalize rs[i] = B at *
          have hsz := HB.out.size
          have hb1' : b < wr.heap.size := by omega
          have hb2' : b2 < wr.heap.size := by omega
          clear hcs hcs2 hi1 hi2
          cases d' with
          | zero => exact hBo.elim
          | succ d' =>
          obtain ⟨a1, a2, a3⟩ := hA
          obtain ⟨b1, b2', b3⟩ := hBo
          have k2 := hid (fun wx (hb : Below w.heap.size w wx) => IH.out d' A.h.ka A.h.kn A.h.kc B.h.ka B.h.kn B.h.kc A.ks B.ks wx (Krow.below a3 hb) a2 a1.km a1.kb (Krow.below b3 hb) b2' b1.km b1.kb)
          have HS : Hid (sameB (d + 1) A B = (decide (A.h.k = B.h.k) && (decide (A.h.v = B.h.v) && (eqS (strOfNums A.h.bs) (strOfNums B.h.bs) && sameQ (sameB d) A.ks B.ks)))) := hid rfl
          have HC1 := hid (fun wx (hb : Below w.heap.size w wx) => (a1.bs.below hb).convert (P := Try.prog) A.h.bc 28 5 9 Try.underlying28 Try.underlying5 Try.underlying9)
          have HC2 := hid (fun wx (hb : Below w.heap.size w wx) => (b1.bs.below hb).convert (P := Try.prog) B.h.bc 28 5 9 Try.underlying28 Try.underlying5 Try.underlying9)
          clear a1 a2 a3 b1 b2' b3
          generalize sameQ (sameB d) A.ks B.ks = R at *
          generalize A.h = ah at *
          generalize B.h = bh at *
          obtain ⟨ak, av, ka, kn, kc, ba, bn, bc, bs⟩ := ah
          obtain ⟨bk, bv, la, ln, lc, da, dn, dc, ds⟩ := bh
          dsimp only at *
          go_wp2_with fail
          go_region
          all_goals
            generalize hX : World.drew (World.alloc (World.alloc wr _) _) = X
            obtain ⟨y0, y1, hXB⟩ := box2_at hX
            have c0 := cell_of_row X wr.heap.size 0 _ _ _ y0
            have c1 := cell_of_row X wr.heap.size 1 _ _ _ y0
            have c2 := cell_of_row X wr.heap.size 2 _ _ _ y0
            have c3 := cell_of_row X wr.heap.size 3 _ _ _ y0
            have e0 := cell_of_row X (wr.heap.size + 1) 0 _ _ _ y1
            have e1 := cell_of_row X (wr.heap.size + 1) 1 _ _ _ y1
            have e2 := cell_of_row X (wr.heap.size + 1) 2 _ _ _ y1
            have e3 := cell_of_row X (wr.heap.size + 1) 3 _ _ _ y1
            simp at c0 c1 c2 c3 e0 e1 e2 e3
            have HBX : Hid (Below w.heap.size w X) := hid (HB.out.trans (hXB.mono HB.out.size))
            have f1 := HC1.out X HBX.out
            have f2 := HC2.out X HBX.out
            have K2 := hid (k2.out X HBX.out)
            have hQ : eqS (strOfNums bs) (strOfNums ds) = ((strOfNums bs).toList == (strOfNums ds).toList) := rfl
            generalize strOfNums bs = SS at *
            generalize strOfNums ds = RR at *
            have HQ := hid hQ
            clear HC1 HC2 k2 y0 y1 hXB hX x0 x1 x2 x3 z0 z1 z2 z3 hQ
            by_cases h1 : ak = bk
            · subst h1
              by_cases h2 : av = bv
              · subst h2
                cases hr : (SS.toList == RR.toList) with
                | false =>
                  go_wp2_with fail
                  go_ret
                  refine ⟨?_, HBX.out⟩
                  rw [HD.out, HDr.out, HS.out, HQ.out, hr]
                  simp
                | true =>
                  go_wp2_with fail
                  refine K2.out.mono ?_
                  rintro e w2 ⟨rfl, hb2⟩
                  have HB2 : Hid (Below w.heap.size w w2) := hid (HBX.out.trans (hb2.mono HBX.out.size))
                  clear hb2 K2
                  cases R with
                  | false =>
                    go_wp2_with fail
                    go_ret
                    refine ⟨?_, HB2.out⟩
                    rw [HD.out, HDr.out, HS.out, HQ.out, hr]
                    simp
                  | true =>
                    go_wp2_with fail
                    go_roundw
                    case rel => exact ⟨i + 1, by omega, by go_num, hid (by rw [HD.out, HDr.out, HS.out, HQ.out, hr]; simp), HB2⟩
                    case measure => simp [intOf]; omega
              · go_wp2_with fail
                go_ret
                refine ⟨?_, HBX.out⟩
                rw [HD.out, HDr.out, HS.out]
                simp [h2]
            · go_wp2_with fail
              go_ret
              refine ⟨?_, HBX.out⟩
              rw [HD.out, HDr.out, HS.out]
              simp [h1]
        · obtain rfl : i = rn := by omega
          go_wp2_with fail
          go_ret
          refine ⟨?_, HB.out⟩
          rw [HD.out, sameQ_end _ _ _ _ (by rw [HL1.out]; exact Nat.le_refl _) (by rw [HL2.out]; exact Nat.le_refl _)]
          rfl
    · have hnz : ¬ (rn : Int) = (sn : Int) := by omega
      have hq := sameQ_ne (sameB (d + 1)) qs rs (by omega)
      clear h1 h2 ih
      go_enter Try.func46, Try.ntmps46
      go_wp2_with fail
      go_ret
      exact ⟨by rw [hq]; rfl, Below.refl _ _⟩

end Go.Proofs.Ytkgejeamcgodhaa
