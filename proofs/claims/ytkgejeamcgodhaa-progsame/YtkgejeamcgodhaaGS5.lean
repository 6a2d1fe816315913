/- The road of ProgSame. -/
import Derived.Test.YtkgejeamcgodhaaGC9
import Derived.Test.YtkgejeamcgodhaaGS4
namespace Go.Proofs.Ytkgejeamcgodhaa
open Go.RowKit
set_option linter.unusedVariables false
set_option maxRecDepth 20000

theorem sameP_true (d : Nat) : ∀ (hs ps : List Stp), hs.length = ps.length → (∀ j (h1 : j < hs.length) (h2 : j < ps.length), hs[j].c = ps[j].c ∧ AllS (SameA d) hs[j].qs ps[j].qs) → sameP d hs ps = true
  | [], [], _, _ => rfl
  | s :: hs, t :: ps, hl, h => by
    have h0 : s.c = t.c ∧ AllS (SameA d) s.qs t.qs := h 0 (by simp) (by simp)
    have ih := sameP_true d hs ps (by simpa using hl) (fun j h1 h2 => h (j + 1) (Nat.succ_lt_succ h1) (Nat.succ_lt_succ h2))
    simp only [sameP, sameS]
    rw [ih, sameQ_all (same_yes d) _ _ h0.2, h0.1]
    simp

theorem BytS.far {P : Nat → Prop} {w w' : World} (hb : Below w.heap.size w w') {ba : Option Addr} {bn : Nat} (h : BytS P w ba bn) : BytS (fun x => P x ∧ x < w.heap.size) w' ba bn := fun h0 => by
  obtain ⟨g, C, e, hP, hg, r⟩ := h h0
  have hl := (Array.getElem?_eq_some_iff.1 hg).1
  exact ⟨g, C, e, ⟨hP, hl⟩, (hb.block g hl).trans hg, r⟩
theorem RowS.far {P : Nat → Prop} {w w' : World} (hb : Below w.heap.size w w') : ∀ (d : Nat) (a : Option Addr) (n : Nat), RowS P d w a n → RowS (fun x => P x ∧ x < w.heap.size) d w' a n
  | 0, _, _, h => h
  | d + 1, a, n, h => fun h0 => by
    obtain ⟨g, C, e, hP, hg, hc⟩ := h h0
    have hl := (Array.getElem?_eq_some_iff.1 hg).1
    refine ⟨g, C, e, ⟨hP, hl⟩, (hb.block g hl).trans hg, fun j hj => ?_⟩
    obtain ⟨k, v, ka, kn, kc, ba, bn, bc, c0, c1, c2, c3, l1, l2, l3, l4, hr, hbb⟩ := hc j hj
    exact ⟨k, v, ka, kn, kc, ba, bn, bc, c0, c1, c2, c3, l1, l2, l3, l4, RowS.far hb d ka kn hr, hbb.far hb⟩
theorem PgS.far {P : Nat → Prop} {d : Nat} {w w' : World} (hb : Below w.heap.size w w') {a : Option Addr} {n : Nat} (h : PgS P d w a n) : PgS (fun x => P x ∧ x < w.heap.size) d w' a n := fun h0 => by
  obtain ⟨g, C, e, hP, hg, hc⟩ := h h0
  have hl := (Array.getElem?_eq_some_iff.1 hg).1
  refine ⟨g, C, e, ⟨hP, hl⟩, (hb.block g hl).trans hg, fun j hj => ?_⟩
  obtain ⟨k, ra, rn, rc, c0, c1, l1, l2, hr⟩ := hc j hj
  exact ⟨k, ra, rn, rc, c0, c1, l1, l2, RowS.far hb d ra rn hr⟩

theorem stpR_pgm {B d : Nat} {P : Nat → Prop} {w : World} {a : Option Addr} {hs ps : List Stp} (h : StpR B w a hs) (hl : hs.length = ps.length) (hc : ∀ j (h1 : j < hs.length) (h2 : j < ps.length), StpC P d w hs[j] ps[j]) : Pgm d w a hs := fun h0 => by
  obtain ⟨g, C, e, _, hg, hcc⟩ := h h0
  refine ⟨g, 0, e, (Array.getElem?_eq_some_iff.1 hg).1, fun j hj => ?_⟩
  obtain ⟨k0, k1⟩ := hcc j hj
  have s := hc j hj (by omega)
  exact ⟨by rw [Nat.zero_add, cell_of_row w g _ _ _ _ hg]; exact k0, by rw [Nat.zero_add, cell_of_row w g _ _ _ _ hg]; exact k1, ⟨s.row.krow, s.len, s.le, s.few⟩⟩
theorem stpR_pgS {B d : Nat} {w : World} {a : Option Addr} {hs ps : List Stp} (h : StpR B w a hs) (hl : hs.length = ps.length) (hc : ∀ j (h1 : j < hs.length) (h2 : j < ps.length), StpC (B ≤ ·) d w hs[j] ps[j]) : PgS (B ≤ ·) (d + 1) w a hs.length := fun h0 => by
  obtain ⟨g, C, e, hB, hg, hcc⟩ := h h0
  refine ⟨g, C, e, hB, hg, fun j hj => ?_⟩
  obtain ⟨k0, k1⟩ := hcc j hj
  have s := hc j hj (by omega)
  exact ⟨_, _, _, _, k0, k1, s.le, s.few, by rw [← s.len]; exact s.row.rowS⟩

set_option maxHeartbeats 8000000 in
theorem same_road (d d' : Nat) (a : Option Addr) (n c : Nat) (ps : List Stp) (b : Option Addr) (m e : Nat) (rs : List Stp) (w : World) (h1 : Pgm d w a ps) (hl1 : ps.length = n) (hc1 : n ≤ c) (hb1 : c ≤ 9223372036854775807) (h2 : Pgm d' w b rs) (hl2 : rs.length = m) (hc2 : m ≤ e) (hb2 : e ≤ 9223372036854775807) (hr : n ≤ 4398046511104) (hw : ∀ j, ∀ hj : j < ps.length, fewL d ps[j].qs) :
    Calls Try.prog 6 #[.slice a n c, .slice b m e] w fun r w' => r = .returned (.bool true) ∧ Below w.heap.size w w' := by
  have k1 := hid (copy_any d a n c ps w h1 hl1 hr hw)
  have H1 := hid h1
  have H2 := hid h2
  have HL1 := hid hl1
  have HL2 := hid hl2
  have HWT := hid hw
  clear h1 h2 hl1 hl2 hw
  go_enter Try.func6, Try.ntmps6
  go_wp2_with fail
  refine k1.out.mono ?_
  rintro r w1 ⟨ca, cc, hs, rfl, hm1, hx1, hlh, hSR, hSC, hb1'⟩
  have hlq : hs.length = ps.length := by rw [hlh, HL1.out]
  have HPc := hid (stpR_pgm hSR hlq hSC)
  have HPS : Hid (PgS (w.heap.size ≤ ·) (d + 1) w1 ca n) := hid (by have := stpR_pgS hSR hlq hSC; rw [hlh] at this; exact this)
  have HT1 := hid (sameP_true d hs ps hlq (fun j g1 g2 => ⟨(hSC j g1 g2).c, (hSC j g1 g2).same⟩))
  have HB1 := hid hb1'
  have HLH := hid hlh
  have k2 := hid (psame_any d d' a n c b m e ps rs w1 (H1.out.below hb1') HL1.out hc1 hb1 (H2.out.below hb1') HL2.out hc2 hb2)
  clear k1 hSR hSC hb1' hlh hlq
  go_wp2_with fail
  refine k2.out.mono ?_
  rintro r w2 ⟨rfl, hb⟩
  have HB2 : Hid (Below w.heap.size w w2) := hid (HB1.out.trans (hb.mono HB1.out.size))
  have HB12 := hid hb
  have k3 := hid (rsame_any d d' a n c b m e ps rs w2 (H1.out.below HB2.out) HL1.out hc1 hb1 (H2.out.below HB2.out) HL2.out hc2 hb2)
  clear k2 hb
  generalize sameP d ps rs = R at *
  go_wp2_with fail
  refine k3.out.mono ?_
  rintro r w3 ⟨rfl, hb⟩
  have HB3 : Hid (Below w.heap.size w w3) := hid (HB2.out.trans (hb.mono HB2.out.size))
  have HB13 : Hid (Below w1.heap.size w1 w3) := hid (HB12.out.trans (hb.mono HB12.out.size))
  have k4 := psame_any d d ca n cc a n c hs ps w3 (HPc.out.below HB13.out) HLH.out hm1 hx1 (H1.out.below HB3.out) HL1.out hc1 hb1
  rw [HT1.out] at k4
  have K4 := hid k4
  clear k3 k4 hb
  go_wp2_with fail
  refine K4.out.mono ?_
  rintro r w4 ⟨rfl, hb⟩
  have HB4 : Hid (Below w.heap.size w w4) := hid (HB3.out.trans (hb.mono HB3.out.size))
  have HB14 : Hid (Below w1.heap.size w1 w4) := hid (HB13.out.trans (hb.mono HB13.out.size))
  have k5 := plsame_any d d ca n cc a n c hs ps w4 (HPc.out.below HB14.out) HLH.out hm1 hx1 (H1.out.below HB4.out) HL1.out hc1 hb1
  rw [HT1.out] at k5
  have K5 := hid k5
  clear K4 k5 hb
  go_wp2_with fail
  refine K5.out.mono ?_
  rintro r w5 ⟨rfl, hb⟩
  have HB5 : Hid (Below w.heap.size w w5) := hid (HB4.out.trans (hb.mono HB4.out.size))
  have HB15 : Hid (Below w1.heap.size w1 w5) := hid (HB14.out.trans (hb.mono HB14.out.size))
  have k6 := hid (plprog_any d a n c ps w5 (H1.out.below HB5.out) HL1.out hr HWT.out)
  clear K5 hb
  go_wp2_with fail
  refine k6.out.mono ?_
  rintro r w6 ⟨ga, gc, gs, rfl, hm6, hx6, hl6, hS6, hP6, hb⟩
  have HB6 : Hid (Below w.heap.size w w6) := hid (HB5.out.trans (hb.mono HB5.out.size))
  have HB16 : Hid (Below w1.heap.size w1 w6) := hid (HB15.out.trans (hb.mono HB15.out.size))
  have HP6 : Hid (PgmA (w5.heap.size ≤ ·) d w6 ga gs) := hid hP6
  have HL6 := hid hl6
  have HT6 := hid (sameP_true d gs ps (by rw [hl6, HL1.out]) hS6)
  have k7 := hid (spoilp_any (fun x => w.heap.size ≤ x ∧ x < w1.heap.size) (d + 1) ca n cc w6 (PgS.far HB16.out HPS.out) hm1 hx1)
  clear k6 hb hS6 hP6 hl6
  go_wp2_with fail
  refine k7.out.mono ?_
  rintro r w7 ⟨rfl, hu⟩
  have hs15 := HB15.out.size
  have HB7 : Hid (Below w.heap.size w w7) := hid (HB6.out.trans (hu.below HB6.out.size (fun x hx => hx.1)))
  have HP7 := hid (HP6.out.upd hu (fun x (hx : w5.heap.size ≤ x) hf => by have := hf.2; omega))
  have k8 := plsame_any d d ga n gc a n c gs ps w7 HP7.out.pgm HL6.out hm6 hx6 (H1.out.below HB7.out) HL1.out hc1 hb1
  rw [HT6.out] at k8
  have K8 := hid k8
  clear k7 hu k8
  go_wp2_with fail
  refine K8.out.mono ?_
  rintro r w8 ⟨rfl, hb⟩
  have HB8 : Hid (Below w.heap.size w w8) := hid (HB7.out.trans (hb.mono HB7.out.size))
  clear K8 hb
  go_wp2_with fail
  go_ret
  exact ⟨rfl, HB8.out⟩

end Go.Proofs.Ytkgejeamcgodhaa
