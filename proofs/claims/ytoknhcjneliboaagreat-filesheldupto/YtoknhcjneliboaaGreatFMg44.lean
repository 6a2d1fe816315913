/- Texts of this seat, merged. -/
import Derived.Test.YtoknhcjneliboaaGreatFMg35
import Derived.Test.YtoknhcjneliboaaGreatFMg42
import Derived.Test.YtoknhcjneliboaaGreatFMg43
import Derived.Test.YtoknhcjneliboaaGreatFMg30
import Derived.Test.YtoknhcjneliboaaGreatFMg5
import Derived.Test.YtoknhcjneliboaaGreatFMg10
import Derived.Test.YtoknhcjneliboaaGreatFMg33
import Derived.Test.YtoknhcjneliboaaGreatFMg22
import Derived.Deep.RegionHeld3
import Derived.Deep.DeepCutAuto
import Derived.Deep.CutBlock

/- Both tables of open files beside each other, as they lie. -/
namespace Go.Proofs.YtoknhcjneliboaaGreat
open Go.RowKit Go.ChangeMaps Go.MapKept
set_option linter.unusedVariables false
set_option maxRecDepth 20000

/-- The pair's box; the program's files (which have Tp) in blocks G, the document's (which have Td) in blocks D; all new since B. -/
structure Pt (w : World) (B : Nat) (G D : Nat → Prop) (pp t x : Nat) (TP TD : Ft) : Prop where
  box : w.heap[pp]? = some (.cells (List.toArray [.pointer (some ⟨t, 0, none⟩), .pointer (some ⟨x, 0, none⟩)]) 29 (0, 0))
  tp : Tp w t TP G
  td : Td w x TD D
  gG : ∀ b, G b → B ≤ b ∧ b < w.heap.size ∧ b ≠ pp ∧ ¬ D b
  gD : ∀ b, D b → B ≤ b ∧ b < w.heap.size ∧ b ≠ pp
  gp : B ≤ pp

section
variable {w w' : World} {B : Nat} {G D : Nat → Prop} {pp t x : Nat} {TP TD T' : Ft}
theorem Pt.lt (h : Pt w B G D pp t x TP TD) : pp < w.heap.size := (Array.getElem?_eq_some_iff.1 h.box).1
theorem Pt.c0 (h : Pt w B G D pp t x TP TD) : w.cell? ⟨pp, 0, none⟩ = some (.pointer (some ⟨t, 0, none⟩)) := cell_list h.box rfl
theorem Pt.c1 (h : Pt w B G D pp t x TP TD) : w.cell? ⟨pp, 1, none⟩ = some (.pointer (some ⟨x, 0, none⟩)) := cell_list h.box rfl
/-- What is neither the pair's, nor either side's. -/
def Oty (w : World) (G D : Nat → Prop) (pp b : Nat) : Prop := b < w.heap.size ∧ b ≠ pp ∧ ¬ G b ∧ ¬ D b
/-- Nothing of the pair's turns. -/
theorem Pt.upd {U : Nat → Prop} (h : Pt w B G D pp t x TP TD) (q : Upd U w w') (hU : ∀ b, b < w.heap.size → U b → Oty w G D pp b) : Pt w' B G D pp t x TP TD :=
  ⟨q.heap h.box (fun e => (hU pp h.lt e).2.1 rfl), h.tp.upd q (fun b hb hG hu => (hU b hb hu).2.2.1 hG), h.td.upd q (fun b hb hD hu => (hU b hb hu).2.2.2 hD), fun b hb => ⟨(h.gG b hb).1, Nat.lt_of_lt_of_le (h.gG b hb).2.1 q.size, (h.gG b hb).2.2⟩, fun b hb => ⟨(h.gD b hb).1, Nat.lt_of_lt_of_le (h.gD b hb).2.1 q.size, (h.gD b hb).2.2⟩, h.gp⟩
theorem Pt.grow (h : Pt w B G D pp t x TP TD) (q : Below w.heap.size w w') : Pt w' B G D pp t x TP TD := h.upd (Upd.of_below (F := fun _ => False) q) (fun _ _ h => h.elim)
theorem Oty.grow {b : Nat} (h : Oty w G D pp b) (q : Below w.heap.size w w') : Oty w' G D pp b := ⟨Nat.lt_of_lt_of_le h.1 q.size, h.2⟩
/-- The program's call. -/
theorem Pt.prog (h : Pt w B G D pp t x TP TD) (k : TpTo w t T' G w') : Pt w' B (fun b => (G b ∨ w.heap.size ≤ b) ∧ b < w'.heap.size) D pp t x T' TD ∧ Below B w w' ∧ (∀ b, Oty w G D pp b → w'.heap[b]? = w.heap[b]? ∧ Oty w' (fun b => (G b ∨ w.heap.size ≤ b) ∧ b < w'.heap.size) D pp b) := by
  obtain ⟨t1, t2⟩ := k
  have hB : B ≤ w.heap.size := Nat.le_trans h.gp (Nat.le_of_lt h.lt)
  refine ⟨⟨t2.heap h.box (fun e => (h.gG pp e).2.2.1 rfl), t1.mono (fun b hb hG => ⟨hG, hb⟩), h.td.upd t2 (fun b _ hD hG => (h.gG b hG).2.2.2 hD), fun b hb => ?_, fun b hb => ⟨(h.gD b hb).1, Nat.lt_of_lt_of_le (h.gD b hb).2.1 t2.size, (h.gD b hb).2.2⟩, h.gp⟩, t2.below hB (fun b hb => (h.gG b hb).1), fun b hb => ⟨t2.block b hb.1 hb.2.2.1, Nat.lt_of_lt_of_le hb.1 t2.size, hb.2.1, fun q => ?_, hb.2.2.2⟩⟩
  · rcases hb with ⟨hb | hb, hs⟩
    · exact ⟨(h.gG b hb).1, hs, (h.gG b hb).2.2⟩
    · refine ⟨Nat.le_trans hB hb, hs, fun e => ?_, fun e => ?_⟩
      · have := h.lt; omega
      · have := (h.gD b e).2.1; omega
  · rcases q.1 with q | q
    · exact hb.2.2.1 q
    · have := hb.1; omega
/-- The document's call. -/
theorem Pt.doc (h : Pt w B G D pp t x TP TD) (k : TdTo w x T' D w') : Pt w' B G (fun b => (D b ∨ w.heap.size ≤ b) ∧ b < w'.heap.size) pp t x TP T' ∧ Below B w w' ∧ (∀ b, Oty w G D pp b → w'.heap[b]? = w.heap[b]? ∧ Oty w' G (fun b => (D b ∨ w.heap.size ≤ b) ∧ b < w'.heap.size) pp b) := by
  obtain ⟨t1, t2⟩ := k
  have hB : B ≤ w.heap.size := Nat.le_trans h.gp (Nat.le_of_lt h.lt)
  refine ⟨⟨t2.heap h.box (fun e => (h.gD pp e).2.2 rfl), h.tp.upd t2 (fun b _ hG hD => (h.gG b hG).2.2.2 hD), t1.mono (fun b hb hD => ⟨hD, hb⟩), fun b hb => ⟨(h.gG b hb).1, Nat.lt_of_lt_of_le (h.gG b hb).2.1 t2.size, (h.gG b hb).2.2.1, fun q => ?_⟩, fun b hb => ?_, h.gp⟩, t2.below hB (fun b hb => (h.gD b hb).1), fun b hb => ⟨t2.block b hb.1 hb.2.2.2, Nat.lt_of_lt_of_le hb.1 t2.size, hb.2.1, hb.2.2.1, fun q => ?_⟩⟩
  · rcases q.1 with q | q
    · exact (h.gG b hb).2.2.2 q
    · have := (h.gG b hb).2.1; omega
  · rcases hb with ⟨hb | hb, hs⟩
    · exact ⟨(h.gD b hb).1, hs, (h.gD b hb).2.2⟩
    · refine ⟨Nat.le_trans hB hb, hs, fun e => ?_⟩
      have := h.lt; omega
  · rcases q.1 with q | q
    · exact hb.2.2.2 q
    · have := hb.1; omega
end

set_option maxHeartbeats 16000000 in
/-- Both have the same. -/
theorem same_yes8 (w : World) (B : Nat) (G D : Nat → Prop) (pp t x : Nat) (T : Ft) (H : Pt w B G D pp t x T T) (hT : TOk T) :
    Calls Tryz.prog 8 #[.pointer (some ⟨pp, 0, none⟩)] w fun e w' => e = .returned (.bool true) ∧ Below w.heap.size w w' := by
  have HH := hid (fun (W : World) (hb : Below w.heap.size w W) => H.grow hb)
  have c0 := H.c0
  have c1 := H.c1
  obtain ⟨g, s, q, Dn, Dp, hR, hDD⟩ := H.td
  have d1 := hR.cs
  have d2 := hR.cq
  have HR := hid (fun (W : World) (hb : Below w.heap.size w W) => hR.grow hb)
  have HT := hid hT
  have HF := hid hT.F
  obtain ⟨n0, gn0⟩ : ∃ n0, n0 = oiN T.O 11 := ⟨_, rfl⟩
  obtain ⟨l0, gl0⟩ : ∃ l0, l0 = oiL T.O 11 := ⟨_, rfl⟩
  have hn0 : n0 ≤ 11 := by rw [gn0]; exact oiN_le _ _
  have hi0 : Hid (∀ j, j < l0.length → ∃ y : Int, l0[j]? = some (.int .i64 y)) := by rw [gl0]; exact hid (oiL_int T.O 11)
  have A1 : Hid (∀ W, Below w.heap.size w W → Calls Tryz.prog 9 #[.pointer (some ⟨t, 0, none⟩)] W fun e w' => ∃ v, e = .returned v ∧ Hid (w'.ownsRow 0 40 6 v n0 l0) ∧ Hid (Below W.heap.size W w')) := by
    rw [gn0, gl0]
    refine hid (fun W hb => (tplook W t T G (HH.out W hb).tp HT.out).mono ?_)
    rintro e w' ⟨⟨v, rfl, h1⟩, h3⟩
    exact ⟨v, rfl, hid (own_base h1 (Nat.zero_le _)), hid h3⟩
  have A2 : Hid (∀ W, Below w.heap.size w W → Calls Tryz.prog 40 #[.pointer (some ⟨x, 0, none⟩)] W fun e w' => ∃ v, e = .returned v ∧ Hid (w'.ownsRow 0 40 6 v n0 l0) ∧ Hid (Below W.heap.size W w')) := by
    rw [gn0, gl0]
    refine hid (fun W hb => (tdlook W x T D (HH.out W hb).td HT.out).mono ?_)
    rintro e w' ⟨⟨v, rfl, h1⟩, h3⟩
    exact ⟨v, rfl, hid (own_base h1 (Nat.zero_le _)), hid h3⟩
  have A3 : Hid (∀ W v1 v2, W.ownsRow 0 40 6 v1 n0 l0 → W.ownsRow 0 40 6 v2 n0 l0 → Calls Tryz.prog 39 #[v1, v2] W fun e w' => e = .returned (.bool true) ∧ Hid (Below W.heap.size W w')) := by
    refine hid (fun W v1 v2 h1 h2 => (oequal_yes v1 v2 0 n0 l0 W h1 h2 hi0.out hn0).mono ?_)
    rintro e w' ⟨rfl, h⟩
    exact ⟨rfl, hid h⟩
  clear gn0 gl0
  obtain ⟨n, gn⟩ : ∃ n, n = (thr T.F 17).length := ⟨_, rfl⟩
  have hn17 : n ≤ 17 := by rw [gn]; exact thr_len T.F 17
  have B1 : Hid (∀ W, Below w.heap.size w W → Calls Tryz.prog 10 #[.pointer (some ⟨t, 0, none⟩)] W fun e w' => ∃ a c cs, e = .returned (.slice a n c) ∧ Hid (w'.ownsRow 0 47 8 (.slice a n c) n cs ∧ LkL w' (fun b => W.heap.size ≤ b) T.F (thr T.F 17) cs) ∧ Hid (Below W.heap.size W w')) := by
    rw [gn]
    refine hid (fun W hb => (tpnodes W t T G (HH.out W hb).tp HF.out).mono ?_)
    rintro e w' ⟨⟨v, cs, rfl, h1, h2⟩, h3⟩
    obtain ⟨a, c, rfl, _⟩ := own_shp h1
    exact ⟨a, c, cs, rfl, hid ⟨h1, h2⟩, hid h3⟩
  have B2 : Hid (∀ W, Below w.heap.size w W → Calls Tryz.prog 42 #[.pointer (some ⟨s, 0, none⟩)] W fun e w' => ∃ a c cs, e = .returned (.slice a n c) ∧ Hid (w'.ownsRow 0 47 8 (.slice a n c) n cs ∧ LkL w' (fun b => W.heap.size ≤ b) T.F (thr T.F 17) cs) ∧ Hid (Below W.heap.size W w')) := by
    rw [gn]
    refine hid (fun W hb => ((HR.out W hb).looks HF.out).mono ?_)
    rintro e w' ⟨⟨v, cs, rfl, h1, h2⟩, h3⟩
    obtain ⟨a, c, rfl, _⟩ := own_shp h1
    exact ⟨a, c, cs, rfl, hid ⟨h1, h2⟩, hid h3⟩
  have B3 : Hid (∀ (W : World) W1 W2 a1 c1 cs1 a2 c2 cs2, W.ownsRow 0 47 8 (.slice a1 n c1) n cs1 → LkL W (fun b => W1 ≤ b) T.F (thr T.F 17) cs1 → W.ownsRow 0 47 8 (.slice a2 n c2) n cs2 → LkL W (fun b => W2 ≤ b) T.F (thr T.F 17) cs2 → Calls Tryz.prog 41 #[.slice a1 n c1, .slice a2 n c2] W fun e w' => e = .returned (.bool true) ∧ Hid (Below W.heap.size W w')) := by
    refine hid (fun W W1 W2 a1 c1 cs1 a2 c2 cs2 h1 h2 h3 h4 => (samenodes_yes T.F HF.out (thr T.F 17) n gn.symm hn17 a1 a2 c1 c2 cs1 cs2 W _ _ h1 h3 h2 h4).mono ?_)
    rintro e w' ⟨rfl, h⟩
    exact ⟨rfl, hid h⟩
  obtain ⟨BL, gBL⟩ : ∃ BL, BL = (List.range 25).filter T.F.T := ⟨_, rfl⟩
  obtain ⟨m, gm⟩ : ∃ m, m = BL.length := ⟨_, rfl⟩
  have hm : m ≤ 25 := by
    rw [gm, gBL]
    have := List.length_filter_le T.F.T (List.range 25)
    rw [List.length_range] at this
    exact this
  have e1 : BL.map natV = (BL.map fun b : Nat => (b : Int)).map (Value.int .i64) := by rw [List.map_map]; rfl
  obtain ⟨zs, gz⟩ : ∃ zs, zs = (BL.map fun b : Nat => (b : Int)) := ⟨_, rfl⟩
  rw [← gz] at e1
  have C1 : Hid (∀ W, Below w.heap.size w W → Calls Tryz.prog 44 #[.pointer (some ⟨t, 0, none⟩)] W fun e w' => ∃ a c, e = .returned (.slice a m c) ∧ Hid (Rdv w' a m (zs.map (Value.int .i64))) ∧ Hid (Below W.heap.size W w')) := by
    refine hid (fun W hb => (tpblocks W t T G (HH.out W hb).tp).mono ?_)
    rintro e w' ⟨⟨v, rfl, h1⟩, h3⟩
    rw [← gBL, ← gm, e1] at h1
    obtain ⟨a, c, rfl, _⟩ := own_shp h1
    exact ⟨a, c, rfl, hid (Rdv.of h1), hid h3⟩
  have C2 : Hid (∀ W, Below w.heap.size w W → Calls Tryz.prog 45 #[.pointer (some ⟨s, 0, none⟩)] W fun e w' => ∃ a c, e = .returned (.slice a m c) ∧ Hid (Rdv w' a m (zs.map (Value.int .i64))) ∧ Hid (Below W.heap.size W w')) := by
    refine hid (fun W hb => ((HR.out W hb).blocks).mono ?_)
    rintro e w' ⟨⟨v, rfl, h1⟩, h3⟩
    rw [← gBL, ← gm, e1] at h1
    obtain ⟨a, c, rfl, _⟩ := own_shp h1
    exact ⟨a, c, rfl, hid (Rdv.of h1), hid h3⟩
  have C3 : Hid (∀ W a1 c1 a2 c2, Rdv W a1 m (zs.map (Value.int .i64)) → Rdv W a2 m (zs.map (Value.int .i64)) → Calls Tryz.prog 43 #[.slice a1 m c1, .slice a2 m c2] W fun e w' => e = .returned (.bool true) ∧ Hid (Below W.heap.size W w')) := by
    refine hid (fun W a1 c1 a2 c2 h1 h2 => (ieq_yes a1 a2 m c1 c2 (by omega) zs W h1 h2).mono ?_)
    rintro e w' ⟨rfl, h⟩
    exact ⟨rfl, hid h⟩
  clear gBL gm e1 gz
  have E1 : Hid (∀ W, Below w.heap.size w W → Calls Tryz.prog 11 #[.pointer (some ⟨t, 0, none⟩)] W fun e w' => ∃ v, e = .returned v ∧ Hid (w'.ownsRow 0 51 4 v (Pi.countP T.P 5) (Pi.looks T.P 5)) ∧ Hid (Below W.heap.size W w')) := by
    refine hid (fun W hb => (tppipes W t T G (HH.out W hb).tp).mono ?_)
    rintro e w' ⟨v, rfl, h1, h3⟩
    exact ⟨v, rfl, hid (own_base h1 (Nat.zero_le _)), hid h3⟩
  have E2 : Hid (∀ W, Below w.heap.size w W → Calls Tryz.prog 47 #[.pointer (some ⟨q, 0, none⟩)] W fun e w' => ∃ v, e = .returned v ∧ Hid (w'.ownsRow 0 51 4 v (Pi.countP T.P 5) (Pi.looks T.P 5)) ∧ Hid (Below W.heap.size W w')) := by
    refine hid (fun W hb => ((HR.out W hb).plook).mono ?_)
    rintro e w' ⟨v, rfl, h1, h3⟩
    exact ⟨v, rfl, hid (own_base h1 (Nat.zero_le _)), hid h3⟩
  have E3 : Hid (∀ W v1 v2, W.ownsRow 0 51 4 v1 (Pi.countP T.P 5) (Pi.looks T.P 5) → W.ownsRow 0 51 4 v2 (Pi.countP T.P 5) (Pi.looks T.P 5) → Calls Tryz.prog 46 #[v1, v2] W fun e w' => e = .returned (.bool true) ∧ Hid (Below W.heap.size W w')) := by
    refine hid (fun W v1 v2 h1 h2 => (Pi.sequal_yes v1 v2 0 _ _ W h1 h2 (Pi.looks_int _ 5) (Pi.countP_le _ 5)).mono ?_)
    rintro e w' ⟨rfl, _, h⟩
    exact ⟨rfl, hid (h.below (Nat.le_refl _) (fun _ h => h.elim))⟩
  have HS : Hid (∀ W, Below w.heap.size w W → W.cell? ⟨pp, 0, none⟩ = some (.pointer (some ⟨t, 0, none⟩)) ∧ W.cell? ⟨pp, 1, none⟩ = some (.pointer (some ⟨x, 0, none⟩)) ∧ W.cell? ⟨x, 1, none⟩ = some (.pointer (some ⟨s, 0, none⟩)) ∧ W.cell? ⟨x, 2, none⟩ = some (.pointer (some ⟨q, 0, none⟩))) := hid (fun W hb => ⟨(HH.out W hb).c0, (HH.out W hb).c1, (HR.out W hb).cs, (HR.out W hb).cq⟩)
  generalize thr T.F 17 = th at B1 B2 B3
  generalize Pi.countP T.P 5 = np at E1 E2 E3
  generalize Pi.looks T.P 5 = lp at E1 E2 E3
  generalize T.F = F at B1 B2 B3
  clear H hT hR hDD gn hi0 hn0 hm hn17 HT HF HH HR
  go_enter Tryz.func8, Tryz.ntmps8
  go_wp2_with fail
  go_region_held3 (fun W => W.cell? ⟨pp, 0, none⟩ = some (.pointer (some ⟨t, 0, none⟩)) ∧ W.cell? ⟨pp, 1, none⟩ = some (.pointer (some ⟨x, 0, none⟩)) ∧ W.cell? ⟨x, 1, none⟩ = some (.pointer (some ⟨s, 0, none⟩)) ∧ W.cell? ⟨x, 2, none⟩ = some (.pointer (some ⟨q, 0, none⟩))) (first | (refine ⟨?_, ?_, ?_, ?_⟩ <;> assumption) | exact HS.out _ (Below.refl _ _).drew | go_keep) (first
    | (go_at_call 9; refine (A1.out _ (Below.refl _ _).drew).mono ?_; rintro e w1 ⟨v1, rfl, HO1, hb1⟩; have HB1 : Hid (Below w.heap.size w w1) := hid ((Below.refl _ _).drew.trans hb1.out); obtain ⟨y0, y1, y2, y3⟩ := HS.out w1 HB1.out; clear hb1)
    | (go_at_call 40; refine (A2.out _ HB1.out).mono ?_; rintro e w2 ⟨v2, rfl, HO2, hb2⟩; have HB2 : Hid (Below w.heap.size w w2) := hid (HB1.out.trans (hb2.out.mono HB1.out.size)); have HO1' := hid ((Upd.of_below (F := fun _ => False) hb2.out).own HO1.out (fun _ _ h => h)); obtain ⟨x0, x1, x2, x3⟩ := HS.out w2 HB2.out; clear hb2 HO1)
    | (go_at_call 39; refine (A3.out w2 _ _ HO1'.out HO2.out).mono ?_; rintro e w3 ⟨rfl, hb3⟩; have HB3 : Hid (Below w.heap.size w w3) := hid (HB2.out.trans (hb3.out.mono HB2.out.size)); obtain ⟨u0, u1, u2, u3⟩ := HS.out w3 HB3.out; clear hb3 HO1' HO2)
    | (go_at_call 10; refine (B1.out _ HB3.out).mono ?_; rintro e w4 ⟨a4, c4, cs4, rfl, HO4, hb4⟩; have HB4 : Hid (Below w.heap.size w w4) := hid (HB3.out.trans (hb4.out.mono HB3.out.size)); obtain ⟨v0, v1, v2, v3⟩ := HS.out w4 HB4.out; clear hb4)
    | (go_at_call 42; refine (B2.out _ HB4.out).mono ?_; rintro e w5 ⟨a5, c5, cs5, rfl, HO5, hb5⟩; have HB5 : Hid (Below w.heap.size w w5) := hid (HB4.out.trans (hb5.out.mono HB4.out.size)); have HO4' := hid (And.intro ((Upd.of_below (F := fun _ => False) hb5.out).own HO4.out.1 (fun _ _ h => h)) (LkL.upd (Upd.of_below (F := fun _ => False) hb5.out) (fun _ _ _ h => h) (fun _ _ h => h) HO4.out.2)); obtain ⟨t0, t1, t2, t3⟩ := HS.out w5 HB5.out; clear hb5 HO4)
    | (go_at_call 41; refine (B3.out w5 _ _ _ _ _ _ _ _ HO4'.out.1 HO4'.out.2 HO5.out.1 HO5.out.2).mono ?_; rintro e w6 ⟨rfl, hb6⟩; have HB6 : Hid (Below w.heap.size w w6) := hid (HB5.out.trans (hb6.out.mono HB5.out.size)); obtain ⟨s0, s1, s2, s3⟩ := HS.out w6 HB6.out; clear hb6 HO4' HO5)
    | (go_at_call 44; refine (C1.out _ HB6.out).mono ?_; rintro e w7 ⟨a7, c7, rfl, HO7, hb7⟩; have HB7 : Hid (Below w.heap.size w w7) := hid (HB6.out.trans (hb7.out.mono HB6.out.size)); obtain ⟨r0, r1, r2, r3⟩ := HS.out w7 HB7.out; clear hb7)
    | (go_at_call 45; refine (C2.out _ HB7.out).mono ?_; rintro e w8 ⟨a8, c8, rfl, HO8, hb8⟩; have HB8 : Hid (Below w.heap.size w w8) := hid (HB7.out.trans (hb8.out.mono HB7.out.size)); have HO7' := hid (HO7.out.below hb8.out); obtain ⟨q0, q1, q2, q3⟩ := HS.out w8 HB8.out; clear hb8 HO7)
    | (go_at_call 43; refine (C3.out w8 _ _ _ _ HO7'.out HO8.out).mono ?_; rintro e w9 ⟨rfl, hb9⟩; have HB9 : Hid (Below w.heap.size w w9) := hid (HB8.out.trans (hb9.out.mono HB8.out.size)); obtain ⟨p0, p1, p2, p3⟩ := HS.out w9 HB9.out; clear hb9 HO7' HO8)
    | (go_at_call 11; refine (E1.out _ HB9.out).mono ?_; rintro e wa ⟨va, rfl, HOa, hba⟩; have HBa : Hid (Below w.heap.size w wa) := hid (HB9.out.trans (hba.out.mono HB9.out.size)); obtain ⟨o0, o1, o2, o3⟩ := HS.out wa HBa.out; clear hba)
    | (go_at_call 47; refine (E2.out _ HBa.out).mono ?_; rintro e wb ⟨vb, rfl, HOb, hbb⟩; have HBb : Hid (Below w.heap.size w wb) := hid (HBa.out.trans (hbb.out.mono HBa.out.size)); have HOa' := hid ((Upd.of_below (F := fun _ => False) hbb.out).own HOa.out (fun _ _ h => h)); obtain ⟨m0, m1, m2, m3⟩ := HS.out wb HBb.out; clear hbb HOa)
    | (go_at_call 46; refine (E3.out wb _ _ HOa'.out HOb.out).mono ?_; rintro e wc ⟨rfl, hbc⟩; have HBc : Hid (Below w.heap.size w wc) := hid (HBb.out.trans (hbc.out.mono HBb.out.size)); obtain ⟨l0, l1, l2, l3⟩ := HS.out wc HBc.out; clear hbc)
    | fail)
  all_goals
    go_wp2_with fail
    go_ret
    exact ⟨rfl, HBc.out⟩

end Go.Proofs.YtoknhcjneliboaaGreat

/- Both tables with what else lies beside them, through a call of the law's 'does'. -/
namespace Go.Proofs.YtoknhcjneliboaaGreat
open Go.RowKit Go.ChangeMaps Go.MapKept
set_option linter.unusedVariables false
set_option maxRecDepth 20000

/-- What is true behind a call. -/
def Ok3 (T T' : Ft) (m : Int) : Prop := TOk T' ∧ LB T'.F (m + 1) ∧ T'.F.d = T.F.d
section
variable {T : Ft} {m : Int}
theorem Ok3.refl (H : TOk T) (hL : LB T.F m) : Ok3 T T m := ⟨H, hL.mono (by omega), rfl⟩
theorem lb_node {F : Fs} (hL : LB F m) (hm : 1 ≤ m) (l : List UInt8) (g : Int) : LB (Ft.node F l g).1 m := by
  unfold Ft.node
  split
  · exact hL
  split
  · exact hL.make hm l 1
  split
  · exact hL
  · exact hL
theorem lb_cutF {F : Fs} (hL : LB F m) (n : Nat) (g : Int) : LB (Ft.cutF F n g).1 m := by
  unfold Ft.cutF
  split
  · exact hL
  split
  · exact hL
  split
  · exact hL
  · exact hL.resize _ _
theorem openN_F (H : TOk T) (hL : LB T.F m) (hm : 1 ≤ m) (l : List UInt8) (g : Int) : LB (T.openN l g).1 m ∧ (T.openN l g).1.d = T.F.d := by
  obtain ⟨f1, s1⟩ := Ft.node_ok H.F l g
  obtain ⟨f2, s2⟩ := Ft.cutF_ok f1 (Ft.node T.F l g).2.1 g
  have l1 := lb_node hL hm l g
  have l2 := lb_cutF l1 (Ft.node T.F l g).2.1 g
  have d2 := s2.1.trans s1.1
  unfold Ft.openN
  split
  · exact ⟨l1, s1.1⟩
  split
  · exact ⟨l2, d2⟩
  · exact ⟨l2.hold _, (hold_d _ _).trans d2⟩
theorem Ok3.open_ (H : TOk T) (hL : LB T.F m) (hm : 1 ≤ m) (l : List UInt8) (g : Int) : Ok3 T (T.open_ l g).1 m := by
  obtain ⟨a, b⟩ := openN_F H hL hm l g
  refine ⟨H.open_ l g, ?_⟩
  unfold Ft.open_
  split
  · exact ⟨hL.mono (by omega), rfl⟩
  split
  · exact ⟨hL.mono (by omega), rfl⟩
  split
  · exact ⟨a.mono (by omega), b⟩
  · exact ⟨a.mono (by omega), b⟩
theorem Ok3.pipe (H : TOk T) (hL : LB T.F m) : Ok3 T T.pipe.1 m := by
  refine ⟨H.pipe, ?_⟩
  unfold Ft.pipe
  split
  · split
    · exact ⟨hL.mono (by omega), rfl⟩
    · exact ⟨hL.mono (by omega), rfl⟩
  · exact ⟨hL.mono (by omega), rfl⟩
theorem Ok3.read (H : TOk T) (hL : LB T.F m) (n c : Int) : Ok3 T (T.read n c).1 m := by
  refine ⟨H.read n c, ?_⟩
  unfold Ft.read
  split
  · exact ⟨hL.mono (by omega), rfl⟩
  split
  · exact ⟨hL.mono (by omega), rfl⟩
  · exact ⟨hL.mono (by omega), rfl⟩
theorem Ok3.write (H : TOk T) (hL : LB T.F m) (n : Int) (b : List Int) (hb : ∀ z ∈ b, 0 ≤ z ∧ z < 256) : Ok3 T (T.write n b).1 m := by
  refine ⟨H.write n b hb, ?_⟩
  unfold Ft.write
  split
  · exact ⟨hL.mono (by omega), rfl⟩
  split
  · exact ⟨hL.mono (by omega), rfl⟩
  split
  · exact ⟨hL.mono (by omega), rfl⟩
  · exact ⟨(hL.write _ _ _).mono (by omega), (SH.write _ _ _ _).1⟩
theorem Ok3.seek (H : TOk T) (hL : LB T.F m) (n off wh : Int) : Ok3 T (T.seek n off wh).1 m := by
  refine ⟨H.seek n off wh, ?_⟩
  unfold Ft.seek
  split
  · exact ⟨hL.mono (by omega), rfl⟩
  split
  · exact ⟨hL.mono (by omega), rfl⟩
  split
  · exact ⟨hL.mono (by omega), rfl⟩
  · exact ⟨hL.mono (by omega), rfl⟩
theorem Ok3.hold (H : TOk T) (hL : LB T.F m) (n : Int) : Ok3 T (T.hold n).1 m := by
  refine ⟨H.hold n, ?_⟩
  unfold Ft.hold
  split
  · exact ⟨hL.mono (by omega), rfl⟩
  split
  · exact ⟨hL.mono (by omega), rfl⟩
  · exact ⟨hL.mono (by omega), rfl⟩
theorem Ok3.drop (H : TOk T) (hL : LB T.F m) (hm : 1 ≤ m) (n : Int) : Ok3 T (T.drop n).1 m := by
  refine ⟨H.drop n, ?_⟩
  unfold Ft.drop
  split
  · exact ⟨hL.mono (by omega), rfl⟩
  split
  · exact ⟨hL.mono (by omega), rfl⟩
  split
  · exact ⟨(hL.drop hm _).mono (by omega), drop_d _ _⟩
  · exact ⟨hL.mono (by omega), rfl⟩
theorem Ok3.name (H : TOk T) (hL : LB T.F m) (hm : 1 ≤ m) (c : Int) (l l2 : List UInt8) : Ok3 T (T.name c l l2).1 m := by
  refine ⟨H.name c l l2, ?_, (Ft.nameF_ok H.F c l l2).2.1⟩
  show LB (Ft.nameF T.F c l l2).1 (m + 1)
  unfold Ft.nameF
  split
  · exact (hL.unlink hm l).mono (by omega)
  split
  · exact (hL.make hm l 2).mono (by omega)
  split
  · exact (hL.rmdir hm l).mono (by omega)
  split
  · exact hL.link l l2
  split
  · exact (hL.rename hm l l2).mono (by omega)
  · exact hL.mono (by omega)
theorem Ok3.trunc (H : TOk T) (hL : LB T.F m) (l : List UInt8) (z : Int) : Ok3 T (T.trunc l z).1 m := by
  refine ⟨H.trunc l z, ?_⟩
  unfold Ft.trunc
  split
  · exact ⟨hL.mono (by omega), rfl⟩
  · exact ⟨(hL.resize _ _).mono (by omega), (SH.resize _ _ _).1⟩
end

theorem tread_len {T : Ft} (H : TOk T) (n c : Int) : (T.read n c).2.1.length ≤ 96 := by
  unfold Ft.read
  split
  · exact Nat.zero_le _
  split
  · show (Pi.readL T.P _ c).length ≤ 96
    unfold Pi.readL
    split
    · split
      · have := (H.pq ((T.O n.toNat).of).toNat).1
        rw [List.length_take]
        omega
      · exact Nat.zero_le _
    · exact Nat.zero_le _
  · exact read_len H.F _ _ _

/-- wF is a world, blocks kb .. of it are kept; the pair has TP and TD in w, which is behind wF. -/
structure Sf (wF : World) (B kb : Nat) (G D : Nat → Prop) (pp t x : Nat) (TP TD : Ft) (w : World) : Prop where
  pr : Pt w B G D pp t x TP TD
  up : Upd (fun b => B ≤ b ∧ b < kb) wF w
  ot : ∀ b, kb ≤ b → b < wF.heap.size → Oty w G D pp b

section
variable {wF w w' : World} {B kb : Nat} {G D : Nat → Prop} {pp t x : Nat} {TP TD T' : Ft}
theorem Sf.prog (h : Sf wF B kb G D pp t x TP TD w) (k : TpTo w t T' G w') : ∃ G', Sf wF B kb G' D pp t x T' TD w' := by
  obtain ⟨a, b, c⟩ := h.pr.prog k
  exact ⟨_, a, h.up.trans k.2 (fun b hb hG => ⟨(h.pr.gG b hG).1, Nat.lt_of_not_le fun hk => (h.ot b hk hb).2.2.1 hG⟩), fun b hk hb => (c b (h.ot b hk hb)).2⟩
theorem Sf.progIn (h : Sf wF B kb G D pp t x TP TD w) (k : TpIn w t T' G w') : Sf wF B kb G D pp t x T' TD w' := by
  obtain ⟨t1, t2⟩ := k
  refine ⟨⟨t2.heap h.pr.box (fun e => (h.pr.gG pp e).2.2.1 rfl), t1, h.pr.td.upd t2 (fun b _ hD hG => (h.pr.gG b hG).2.2.2 hD), fun b hb => ⟨(h.pr.gG b hb).1, Nat.lt_of_lt_of_le (h.pr.gG b hb).2.1 t2.size, (h.pr.gG b hb).2.2⟩, fun b hb => ⟨(h.pr.gD b hb).1, Nat.lt_of_lt_of_le (h.pr.gD b hb).2.1 t2.size, (h.pr.gD b hb).2.2⟩, h.pr.gp⟩, h.up.trans t2 (fun b hb hG => ⟨(h.pr.gG b hG).1, Nat.lt_of_not_le fun hk => (h.ot b hk hb).2.2.1 hG⟩), fun b hk hb => ?_⟩
  obtain ⟨a1, a2, a3, a4⟩ := h.ot b hk hb
  exact ⟨Nat.lt_of_lt_of_le a1 t2.size, a2, a3, a4⟩
theorem Sf.doc (h : Sf wF B kb G D pp t x TP TD w) (k : TdTo w x T' D w') : ∃ D', Sf wF B kb G D' pp t x TP T' w' ∧ (∀ b, Oty w G D pp b → Oty w' G D' pp b) ∧ Upd D w w' := by
  obtain ⟨a, b, c⟩ := h.pr.doc k
  exact ⟨_, ⟨a, h.up.trans k.2 (fun b hb hG => ⟨(h.pr.gD b hG).1, Nat.lt_of_not_le fun hk => (h.ot b hk hb).2.2.2 hG⟩), fun b hk hb => (c b (h.ot b hk hb)).2⟩, fun b hb => (c b hb).2, k.2⟩
theorem Sf.doc1 (h : Sf wF B kb G D pp t x TP TD w) (k : TdTo w x T' D w') : ∃ D', Sf wF B kb G D' pp t x TP T' w' := by
  obtain ⟨D', a, _⟩ := h.doc k
  exact ⟨D', a⟩
theorem Sf.grow (h : Sf wF B kb G D pp t x TP TD w) (q : Below w.heap.size w w') : Sf wF B kb G D pp t x TP TD w' :=
  ⟨h.pr.grow q, h.up.trans (Upd.of_below (F := fun _ => False) q) (fun _ _ h => h.elim), fun b hk hb => (h.ot b hk hb).grow q⟩
theorem Sf.drew (h : Sf wF B kb G D pp t x TP TD w) : Sf wF B kb G D pp t x TP TD w.drew := h.grow (Below.refl _ _).drew
/-- What is neither side's turns. -/
theorem Sf.upd {U : Nat → Prop} (h : Sf wF B kb G D pp t x TP TD w) (q : Upd U w w') (hU : ∀ b, b < w.heap.size → U b → Oty w G D pp b) (hB : ∀ b, U b → wF.heap.size ≤ b) : Sf wF B kb G D pp t x TP TD w' :=
  ⟨h.pr.upd q hU, h.up.trans q (fun b hb hb2 => absurd (hB b hb2) (Nat.not_le_of_lt hb)), fun b hk hb => ⟨Nat.lt_of_lt_of_le (h.ot b hk hb).1 q.size, (h.ot b hk hb).2⟩⟩
theorem Sf.c0 (h : Sf wF B kb G D pp t x TP TD w) : w.cell? ⟨pp, 0, none⟩ = some (.pointer (some ⟨t, 0, none⟩)) := h.pr.c0
theorem Sf.c1 (h : Sf wF B kb G D pp t x TP TD w) : w.cell? ⟨pp, 1, none⟩ = some (.pointer (some ⟨x, 0, none⟩)) := h.pr.c1
theorem Sf.k (h : Sf wF B kb G D pp t x TP TD w) {b o : Nat} {v : Value} (hk : kb ≤ b) (hb : b < wF.heap.size) (hc : wF.cell? ⟨b, o, none⟩ = some v) : w.cell? ⟨b, o, none⟩ = some v :=
  (World.cell?_of_block (a := ⟨b, o, none⟩) (h.up.block b hb (fun q => absurd q.2 (Nat.not_lt_of_le hk)))).trans hc
/-- What is new behind a world is neither side's. -/
theorem Sf.new (h : Sf wF B kb G D pp t x TP TD w) {b : Nat} (h1 : w.heap.size ≤ b) (h2 : b < w'.heap.size) : Oty w' G D pp b :=
  ⟨h2, fun e => by have := h.pr.lt; omega, fun hG => by have := (h.pr.gG b hG).2.1; omega, fun hD => by have := (h.pr.gD b hD).2.1; omega⟩
end

/-- What 'does' leaves. -/
def DoF (w : World) (B : Nat) (pp t x : Nat) (m : Int) (T : Ft) (e : Ending) (w' : World) : Prop :=
  e = .returned (.bool true) ∧ ∃ G' D' T', Pt w' B G' D' pp t x T' T' ∧ Ok3 T T' m ∧ Below B w w'
theorem Sf.done {wF w w' : World} {B kb : Nat} {G D : Nat → Prop} {pp t x : Nat} {T T' : Ft} {m : Int} (h : Sf wF B kb G D pp t x T' T' w') (hb : Below w.heap.size w wF) (hB : B ≤ w.heap.size) (hT : Ok3 T T' m) : DoF w B pp t x m T (.returned (.bool true)) w' :=
  ⟨rfl, G, D, T', h.pr, hT, (hb.mono hB).trans (h.up.below (Nat.le_trans hB hb.size) (fun _ h => h.1))⟩
/-- A row of the call's own is written into at the end. -/
theorem Sf.doneU {wF w w1 w' : World} {B kb : Nat} {U G D : Nat → Prop} {pp t x : Nat} {T T' : Ft} {m : Int} (h : Sf wF B kb G D pp t x T' T' w1) (q : Upd U w1 w') (hU : ∀ b, b < w1.heap.size → U b → Oty w1 G D pp b) (hUB : ∀ b, U b → B ≤ b) (hb : Below w.heap.size w wF) (hB : B ≤ w.heap.size) (hT : Ok3 T T' m) : DoF w B pp t x m T (.returned (.bool true)) w' :=
  ⟨rfl, G, D, T', h.pr.upd q hU, hT, ((hb.mono hB).trans (h.up.below (Nat.le_trans hB hb.size) (fun _ h => h.1))).trans (q.below (Nat.le_trans hB (Nat.le_trans hb.size h.up.size)) hUB)⟩

end Go.Proofs.YtoknhcjneliboaaGreat

/- What the files' 'does' does: cases 0, 2, 6 (written by gen_tdo.py). -/
namespace Go.Proofs.YtoknhcjneliboaaGreat
open Go.RowKit Go.ChangeMaps Go.MapKept
set_option linter.unusedVariables false
set_option maxRecDepth 20000

set_option maxHeartbeats 8000000 in
theorem dof_0 (pp t x B : Nat) (G D : Nat → Prop) (T : Ft) (m : Int) (x0 x1 x2 x3 : Int) (t4 t5 : ByteArray) (ab : Option Addr) (lb cb : Nat) (bz : List Int) (w : World) (H : Pt w B G D pp t x T T) (hT : TOk T) (hL : LB T.F m) (hm : 1 ≤ m ∧ m ≤ 900000)
    (h4 : t4.size ≤ 1048576) (h5 : t5.size ≤ 1048576) (hx3n : -9223372036854775808 ≤ x3) (hx3 : x3 ≤ 9223372036854775807) (hb : Src w ab lb bz) (hbz : ∀ z ∈ bz, 0 ≤ z ∧ z < 256) (hlb : lb ≤ 140737488355328) (hcb : lb ≤ cb) (hbn : ab = none → lb = 0 ∧ cb = 0) (hbB : 0 < lb → ∀ b o, ab = some ⟨b, o, none⟩ → b < B)
    (hq : wrap64 ((IntKind.u64.wrap x0).tmod 12) = 0) :
    Calls Tryz.prog 7 #[.pointer (some ⟨pp, 0, none⟩), .agg #[.int .i64 x0, .int .i64 x1, .int .i64 x2, .int .i64 x3, .string t4, .string t5, .slice ab lb cb]] w (DoF w B pp t x m T) := by
  have hpl := H.lt
  have HB : Hid (B ≤ w.heap.size) := hid (Nat.le_trans H.gp (Nat.le_of_lt hpl))
  have HT := hid hT
  have HL := hid hL
  have HM := hid hm
  have H4 := hid h4
  have H5 := hid h5
  have HX3 := hid (And.intro hx3n hx3)
  have HSB := hid hb
  have HBZ := hid hbz
  have HBB := hid hbB
  have HBN := hid hbn
  have HLC := hid hcb
  have HLL := hid hlb
  have HML : Hid (∀ i, (T.F.P i).l ≤ 1000000) := hid (fun i => Int.le_trans (hL i) (by omega))
  have HQ := hid hq
  have HP := hid H
  have kc : Hid (∀ wx, Below w.heap.size w wx → Calls Tryz.prog 16 #[.slice ab lb cb] wx fun e w' => ∃ (av : Option Addr) (cv : Nat), e = .returned (.slice av lb cv) ∧ w'.ownsRow wx.heap.size 5 1 (.slice av lb cv) lb (bz.map (Value.int .u8)) ∧ Below wx.heap.size wx w') := hid (fun wx hbx => clone_opt ab lb cb bz wx (hb.below hbx) hlb hbn)
  clear H hT hL hm h4 h5 hx3n hx3 hb hbz hlb hcb hbn hbB hq
  go_enter Tryz.func7, Tryz.ntmps7
  go_upto_region 1 with fail
  obtain ⟨W1, gW1⟩ : ∃ W1, W1 = w.alloc (.cells #[.int .i64 x0, .int .i64 x1, .int .i64 x2, .int .i64 x3, .string t4, .string t5, .slice ab lb cb] 32) := ⟨_, rfl⟩
  rw [← gW1]
  have hb1 : Below w.heap.size w W1 := by rw [gW1]; exact (Below.refl _ _).alloc (Nat.le_refl _) _
  have hs1 : w.heap.size < W1.heap.size := by rw [gW1]; simp
  have e0 : W1.cell? ⟨w.heap.size, 0, none⟩ = some (.int .i64 x0) := by rw [gW1]; simp [go_sem]
  have e1 : W1.cell? ⟨w.heap.size, 1, none⟩ = some (.int .i64 x1) := by rw [gW1]; simp [go_sem]
  have e2 : W1.cell? ⟨w.heap.size, 2, none⟩ = some (.int .i64 x2) := by rw [gW1]; simp [go_sem]
  have e3 : W1.cell? ⟨w.heap.size, 3, none⟩ = some (.int .i64 x3) := by rw [gW1]; simp [go_sem]
  have e4 : W1.cell? ⟨w.heap.size, 4, none⟩ = some (.string t4) := by rw [gW1]; simp [go_sem]
  have e5 : W1.cell? ⟨w.heap.size, 5, none⟩ = some (.string t5) := by rw [gW1]; simp [go_sem]
  have e6 : W1.cell? ⟨w.heap.size, 6, none⟩ = some (.slice ab lb cb) := by rw [gW1]; simp [go_sem]
  have HB1 := hid hb1
  clear gW1 hb1
  go_upto_block 0 with (go_at_call 16; refine (kc.out _ HB1.out).mono ?_; rintro e wF ⟨av, cv, rfl, hG, hbF⟩; have f0 := (hbF.cell (p := ⟨w.heap.size, 0, none⟩) hs1).trans e0; have HG := hid hG; have HBF := hid hbF; clear hG hbF)
  rw [HQ.out]
  have hsF : w.heap.size < wF.heap.size := Nat.lt_of_lt_of_le hs1 HBF.out.size
  have f1 := (HBF.out.cell (p := ⟨w.heap.size, 1, none⟩) hs1).trans e1
  have f2 := (HBF.out.cell (p := ⟨w.heap.size, 2, none⟩) hs1).trans e2
  have f3 := (HBF.out.cell (p := ⟨w.heap.size, 3, none⟩) hs1).trans e3
  have f4 := (HBF.out.cell (p := ⟨w.heap.size, 4, none⟩) hs1).trans e4
  have f5 := (HBF.out.cell (p := ⟨w.heap.size, 5, none⟩) hs1).trans e5
  have f6 := (HBF.out.cell (p := ⟨w.heap.size, 6, none⟩) hs1).trans e6
  have HWF : Hid (Below w.heap.size w wF) := hid (HB1.out.trans (HBF.out.mono HB1.out.size))
  obtain ⟨kb, gkb⟩ : ∃ kb, kb = w.heap.size := ⟨_, rfl⟩
  rw [← gkb] at f0 f1 f2 f3 f4 f5 f6 hsF ⊢
  have hS0 : Sf wF B kb G D pp t x T T wF := by
    have h := HP.out.grow HWF.out
    refine ⟨h, Upd.refl _ _, fun b hk hb => ⟨hb, fun e => ?_, fun hG => ?_, fun hR => ?_⟩⟩
    · omega
    · have h1 := (HP.out.gG b hG).2.1
      omega
    · have h1 := (HP.out.gD b hR).2.1
      omega
  have q0 := hS0.c0
  have q1 := hS0.c1
  have HS0 := hid hS0
  have GKB := hid gkb
  have HKB : Hid (kb ≤ kb) := hid (Nat.le_refl _)
  clear e0 e1 e2 e3 e4 e5 e6 kc hS0 gkb
  obtain ⟨R, gR⟩ : ∃ R, R = T.open_ (bl t4) x3 := ⟨_, rfl⟩
  have HE : Hid (Ok3 T R.1 m) := by rw [gR]; exact hid (Ok3.open_ HT.out HL.out HM.out.1 _ _)
  have KP : Hid (∀ W G D TD, Sf wF B kb G D pp t x T TD W → Calls Tryz.prog 17 #[.pointer (some ⟨t, 0, none⟩), .string t4, .int .i64 x3] W fun e w' => e = .returned (.tuple #[.int .i64 (R.2.1 : Int), .int .i64 R.2.2]) ∧ ∃ G', Sf wF B kb G' D pp t x R.1 TD w') := by
    rw [gR]
    exact hid (fun W G D TD hs => (tpopen W t T G hs.pr.tp HT.out t4 (Nat.le_trans H4.out (by omega)) x3).mono (by rintro e w' ⟨he, k⟩; exact ⟨he, hs.prog k⟩))
  have KD : Hid (∀ W G D TP, Sf wF B kb G D pp t x TP T W → Calls Tryz.prog 18 #[.pointer (some ⟨x, 0, none⟩), .string t4, .int .i64 x3] W fun e w' => e = .returned (.tuple #[.int .i64 (R.2.1 : Int), .int .i64 R.2.2]) ∧ ∃ D', Sf wF B kb G D' pp t x TP R.1 w') := by
    rw [gR]
    exact hid (fun W G D TP hs => (tdopen W x T D hs.pr.td HT.out t4 H4.out x3 HX3.out.1 HX3.out.2).mono (by rintro e w' ⟨he, k⟩; exact ⟨he, hs.doc1 k⟩))
  clear gR
  go_wp2_with fail
  go_region_held3 (fun W => W.cell? ⟨pp, 0, none⟩ = some (.pointer (some ⟨t, 0, none⟩)) ∧ W.cell? ⟨pp, 1, none⟩ = some (.pointer (some ⟨x, 0, none⟩)) ∧ W.cell? ⟨kb, 3, none⟩ = some (.int .i64 x3) ∧ W.cell? ⟨kb, 4, none⟩ = some (.string t4)) (first | (refine ⟨?_, ?_, ?_, ?_⟩ <;> assumption) | go_keep) (first
    | (go_at_call 17; refine (KP.out _ _ _ _ (by first | exact HS0.out.drew | exact HS0.out)).mono ?_; rintro e w1 ⟨rfl, G1, hS1⟩; have z0 := hS1.c0; have z1 := hS1.c1; have zk3 := hS1.k HKB.out hsF f3; have zk4 := hS1.k HKB.out hsF f4; have HS1 := hid hS1; clear hS1)
    | fail)
  go_wp2_with fail
  go_region_held3 (fun W => W.cell? ⟨pp, 0, none⟩ = some (.pointer (some ⟨t, 0, none⟩)) ∧ W.cell? ⟨pp, 1, none⟩ = some (.pointer (some ⟨x, 0, none⟩)) ∧ W.cell? ⟨kb, 3, none⟩ = some (.int .i64 x3) ∧ W.cell? ⟨kb, 4, none⟩ = some (.string t4)) (first | (refine ⟨?_, ?_, ?_, ?_⟩ <;> assumption) | go_keep) (first
    | (go_at_call 18; refine (KD.out _ _ _ _ (by first | exact HS1.out.drew | exact HS1.out)).mono ?_; rintro e w2 ⟨rfl, D2, hS2⟩; have y0 := hS2.c0; have y1 := hS2.c1; have yk3 := hS2.k HKB.out hsF f3; have yk4 := hS2.k HKB.out hsF f4; have HS2 := hid hS2; clear hS2)
    | fail)
  go_wp2_with fail
  go_ret
  first
  | exact HS2.out.done HWF.out HB.out HE.out
  | exact HS2.out.drew.done HWF.out HB.out HE.out

set_option maxHeartbeats 8000000 in
theorem dof_2 (pp t x B : Nat) (G D : Nat → Prop) (T : Ft) (m : Int) (x0 x1 x2 x3 : Int) (t4 t5 : ByteArray) (ab : Option Addr) (lb cb : Nat) (bz : List Int) (w : World) (H : Pt w B G D pp t x T T) (hT : TOk T) (hL : LB T.F m) (hm : 1 ≤ m ∧ m ≤ 900000)
    (h4 : t4.size ≤ 1048576) (h5 : t5.size ≤ 1048576) (hx3n : -9223372036854775808 ≤ x3) (hx3 : x3 ≤ 9223372036854775807) (hb : Src w ab lb bz) (hbz : ∀ z ∈ bz, 0 ≤ z ∧ z < 256) (hlb : lb ≤ 140737488355328) (hcb : lb ≤ cb) (hbn : ab = none → lb = 0 ∧ cb = 0) (hbB : 0 < lb → ∀ b o, ab = some ⟨b, o, none⟩ → b < B)
    (hq : wrap64 ((IntKind.u64.wrap x0).tmod 12) = 2) :
    Calls Tryz.prog 7 #[.pointer (some ⟨pp, 0, none⟩), .agg #[.int .i64 x0, .int .i64 x1, .int .i64 x2, .int .i64 x3, .string t4, .string t5, .slice ab lb cb]] w (DoF w B pp t x m T) := by
  have hpl := H.lt
  have HB : Hid (B ≤ w.heap.size) := hid (Nat.le_trans H.gp (Nat.le_of_lt hpl))
  have HT := hid hT
  have HL := hid hL
  have HM := hid hm
  have H4 := hid h4
  have H5 := hid h5
  have HX3 := hid (And.intro hx3n hx3)
  have HSB := hid hb
  have HBZ := hid hbz
  have HBB := hid hbB
  have HBN := hid hbn
  have HLC := hid hcb
  have HLL := hid hlb
  have HML : Hid (∀ i, (T.F.P i).l ≤ 1000000) := hid (fun i => Int.le_trans (hL i) (by omega))
  have HQ := hid hq
  have HP := hid H
  have kc : Hid (∀ wx, Below w.heap.size w wx → Calls Tryz.prog 16 #[.slice ab lb cb] wx fun e w' => ∃ (av : Option Addr) (cv : Nat), e = .returned (.slice av lb cv) ∧ w'.ownsRow wx.heap.size 5 1 (.slice av lb cv) lb (bz.map (Value.int .u8)) ∧ Below wx.heap.size wx w') := hid (fun wx hbx => clone_opt ab lb cb bz wx (hb.below hbx) hlb hbn)
  clear H hT hL hm h4 h5 hx3n hx3 hb hbz hlb hcb hbn hbB hq
  go_enter Tryz.func7, Tryz.ntmps7
  go_upto_region 1 with fail
  obtain ⟨W1, gW1⟩ : ∃ W1, W1 = w.alloc (.cells #[.int .i64 x0, .int .i64 x1, .int .i64 x2, .int .i64 x3, .string t4, .string t5, .slice ab lb cb] 32) := ⟨_, rfl⟩
  rw [← gW1]
  have hb1 : Below w.heap.size w W1 := by rw [gW1]; exact (Below.refl _ _).alloc (Nat.le_refl _) _
  have hs1 : w.heap.size < W1.heap.size := by rw [gW1]; simp
  have e0 : W1.cell? ⟨w.heap.size, 0, none⟩ = some (.int .i64 x0) := by rw [gW1]; simp [go_sem]
  have e1 : W1.cell? ⟨w.heap.size, 1, none⟩ = some (.int .i64 x1) := by rw [gW1]; simp [go_sem]
  have e2 : W1.cell? ⟨w.heap.size, 2, none⟩ = some (.int .i64 x2) := by rw [gW1]; simp [go_sem]
  have e3 : W1.cell? ⟨w.heap.size, 3, none⟩ = some (.int .i64 x3) := by rw [gW1]; simp [go_sem]
  have e4 : W1.cell? ⟨w.heap.size, 4, none⟩ = some (.string t4) := by rw [gW1]; simp [go_sem]
  have e5 : W1.cell? ⟨w.heap.size, 5, none⟩ = some (.string t5) := by rw [gW1]; simp [go_sem]
  have e6 : W1.cell? ⟨w.heap.size, 6, none⟩ = some (.slice ab lb cb) := by rw [gW1]; simp [go_sem]
  have HB1 := hid hb1
  clear gW1 hb1
  go_upto_block 0 with (go_at_call 16; refine (kc.out _ HB1.out).mono ?_; rintro e wF ⟨av, cv, rfl, hG, hbF⟩; have f0 := (hbF.cell (p := ⟨w.heap.size, 0, none⟩) hs1).trans e0; have HG := hid hG; have HBF := hid hbF; clear hG hbF)
  rw [HQ.out]
  have hsF : w.heap.size < wF.heap.size := Nat.lt_of_lt_of_le hs1 HBF.out.size
  have f1 := (HBF.out.cell (p := ⟨w.heap.size, 1, none⟩) hs1).trans e1
  have f2 := (HBF.out.cell (p := ⟨w.heap.size, 2, none⟩) hs1).trans e2
  have f3 := (HBF.out.cell (p := ⟨w.heap.size, 3, none⟩) hs1).trans e3
  have f4 := (HBF.out.cell (p := ⟨w.heap.size, 4, none⟩) hs1).trans e4
  have f5 := (HBF.out.cell (p := ⟨w.heap.size, 5, none⟩) hs1).trans e5
  have f6 := (HBF.out.cell (p := ⟨w.heap.size, 6, none⟩) hs1).trans e6
  have HWF : Hid (Below w.heap.size w wF) := hid (HB1.out.trans (HBF.out.mono HB1.out.size))
  obtain ⟨kb, gkb⟩ : ∃ kb, kb = w.heap.size := ⟨_, rfl⟩
  rw [← gkb] at f0 f1 f2 f3 f4 f5 f6 hsF ⊢
  have hS0 : Sf wF B kb G D pp t x T T wF := by
    have h := HP.out.grow HWF.out
    refine ⟨h, Upd.refl _ _, fun b hk hb => ⟨hb, fun e => ?_, fun hG => ?_, fun hR => ?_⟩⟩
    · omega
    · have h1 := (HP.out.gG b hG).2.1
      omega
    · have h1 := (HP.out.gD b hR).2.1
      omega
  have q0 := hS0.c0
  have q1 := hS0.c1
  have HS0 := hid hS0
  have GKB := hid gkb
  have HKB : Hid (kb ≤ kb) := hid (Nat.le_refl _)
  clear e0 e1 e2 e3 e4 e5 e6 kc hS0 gkb
  obtain ⟨R, gR⟩ : ∃ R, R = T.pipe := ⟨_, rfl⟩
  have HE : Hid (Ok3 T R.1 m) := by rw [gR]; exact hid (Ok3.pipe HT.out HL.out)
  have KP : Hid (∀ W G D TD, Sf wF B kb G D pp t x T TD W → Calls Tryz.prog 19 #[.pointer (some ⟨t, 0, none⟩)] W fun e w' => e = .returned (.tuple #[.int .i64 (R.2.1 : Int), .int .i64 (R.2.2.1 : Int), .int .i64 R.2.2.2]) ∧ ∃ G', Sf wF B kb G' D pp t x R.1 TD w') := by
    rw [gR]
    exact hid (fun W G D TD hs => (tppipe W t T G hs.pr.tp HT.out).mono (by rintro e w' ⟨he, k⟩; exact ⟨he, hs.prog k⟩))
  have KD : Hid (∀ W G D TP, Sf wF B kb G D pp t x TP T W → Calls Tryz.prog 20 #[.pointer (some ⟨x, 0, none⟩)] W fun e w' => e = .returned (.tuple #[.int .i64 (R.2.1 : Int), .int .i64 (R.2.2.1 : Int), .int .i64 R.2.2.2]) ∧ ∃ D', Sf wF B kb G D' pp t x TP R.1 w') := by
    rw [gR]
    exact hid (fun W G D TP hs => (tdpipe W x T D hs.pr.td HT.out).mono (by rintro e w' ⟨he, k⟩; exact ⟨he, hs.doc1 k⟩))
  clear gR
  have k1 := hid (KP.out _ _ _ _ HS0.out)
  go_wp2_with fail
  refine k1.out.mono ?_
  rintro e w1 ⟨rfl, G1, hS1⟩
  have z0 := hS1.c0
  have z1 := hS1.c1
  have k2 := hid (KD.out _ _ _ _ hS1)
  have HS1 := hid hS1
  clear hS1 k1
  go_wp2_with fail
  refine k2.out.mono ?_
  rintro e w2 ⟨rfl, D2, hS2⟩
  have y0 := hS2.c0
  have y1 := hS2.c1
  have HS2 := hid hS2
  clear hS2 k2
  go_wp2_with fail
  go_ret
  first
  | exact HS2.out.done HWF.out HB.out HE.out
  | exact HS2.out.drew.done HWF.out HB.out HE.out

set_option maxHeartbeats 8000000 in
theorem dof_6 (pp t x B : Nat) (G D : Nat → Prop) (T : Ft) (m : Int) (x0 x1 x2 x3 : Int) (t4 t5 : ByteArray) (ab : Option Addr) (lb cb : Nat) (bz : List Int) (w : World) (H : Pt w B G D pp t x T T) (hT : TOk T) (hL : LB T.F m) (hm : 1 ≤ m ∧ m ≤ 900000)
    (h4 : t4.size ≤ 1048576) (h5 : t5.size ≤ 1048576) (hx3n : -9223372036854775808 ≤ x3) (hx3 : x3 ≤ 9223372036854775807) (hb : Src w ab lb bz) (hbz : ∀ z ∈ bz, 0 ≤ z ∧ z < 256) (hlb : lb ≤ 140737488355328) (hcb : lb ≤ cb) (hbn : ab = none → lb = 0 ∧ cb = 0) (hbB : 0 < lb → ∀ b o, ab = some ⟨b, o, none⟩ → b < B)
    (hq : wrap64 ((IntKind.u64.wrap x0).tmod 12) = 6) :
    Calls Tryz.prog 7 #[.pointer (some ⟨pp, 0, none⟩), .agg #[.int .i64 x0, .int .i64 x1, .int .i64 x2, .int .i64 x3, .string t4, .string t5, .slice ab lb cb]] w (DoF w B pp t x m T) := by
  have hpl := H.lt
  have HB : Hid (B ≤ w.heap.size) := hid (Nat.le_trans H.gp (Nat.le_of_lt hpl))
  have HT := hid hT
  have HL := hid hL
  have HM := hid hm
  have H4 := hid h4
  have H5 := hid h5
  have HX3 := hid (And.intro hx3n hx3)
  have HSB := hid hb
  have HBZ := hid hbz
  have HBB := hid hbB
  have HBN := hid hbn
  have HLC := hid hcb
  have HLL := hid hlb
  have HML : Hid (∀ i, (T.F.P i).l ≤ 1000000) := hid (fun i => Int.le_trans (hL i) (by omega))
  have HQ := hid hq
  have HP := hid H
  have kc : Hid (∀ wx, Below w.heap.size w wx → Calls Tryz.prog 16 #[.slice ab lb cb] wx fun e w' => ∃ (av : Option Addr) (cv : Nat), e = .returned (.slice av lb cv) ∧ w'.ownsRow wx.heap.size 5 1 (.slice av lb cv) lb (bz.map (Value.int .u8)) ∧ Below wx.heap.size wx w') := hid (fun wx hbx => clone_opt ab lb cb bz wx (hb.below hbx) hlb hbn)
  clear H hT hL hm h4 h5 hx3n hx3 hb hbz hlb hcb hbn hbB hq
  go_enter Tryz.func7, Tryz.ntmps7
  go_upto_region 1 with fail
  obtain ⟨W1, gW1⟩ : ∃ W1, W1 = w.alloc (.cells #[.int .i64 x0, .int .i64 x1, .int .i64 x2, .int .i64 x3, .string t4, .string t5, .slice ab lb cb] 32) := ⟨_, rfl⟩
  rw [← gW1]
  have hb1 : Below w.heap.size w W1 := by rw [gW1]; exact (Below.refl _ _).alloc (Nat.le_refl _) _
  have hs1 : w.heap.size < W1.heap.size := by rw [gW1]; simp
  have e0 : W1.cell? ⟨w.heap.size, 0, none⟩ = some (.int .i64 x0) := by rw [gW1]; simp [go_sem]
  have e1 : W1.cell? ⟨w.heap.size, 1, none⟩ = some (.int .i64 x1) := by rw [gW1]; simp [go_sem]
  have e2 : W1.cell? ⟨w.heap.size, 2, none⟩ = some (.int .i64 x2) := by rw [gW1]; simp [go_sem]
  have e3 : W1.cell? ⟨w.heap.size, 3, none⟩ = some (.int .i64 x3) := by rw [gW1]; simp [go_sem]
  have e4 : W1.cell? ⟨w.heap.size, 4, none⟩ = some (.string t4) := by rw [gW1]; simp [go_sem]
  have e5 : W1.cell? ⟨w.heap.size, 5, none⟩ = some (.string t5) := by rw [gW1]; simp [go_sem]
  have e6 : W1.cell? ⟨w.heap.size, 6, none⟩ = some (.slice ab lb cb) := by rw [gW1]; simp [go_sem]
  have HB1 := hid hb1
  clear gW1 hb1
  go_upto_block 0 with (go_at_call 16; refine (kc.out _ HB1.out).mono ?_; rintro e wF ⟨av, cv, rfl, hG, hbF⟩; have f0 := (hbF.cell (p := ⟨w.heap.size, 0, none⟩) hs1).trans e0; have HG := hid hG; have HBF := hid hbF; clear hG hbF)
  rw [HQ.out]
  have hsF : w.heap.size < wF.heap.size := Nat.lt_of_lt_of_le hs1 HBF.out.size
  have f1 := (HBF.out.cell (p := ⟨w.heap.size, 1, none⟩) hs1).trans e1
  have f2 := (HBF.out.cell (p := ⟨w.heap.size, 2, none⟩) hs1).trans e2
  have f3 := (HBF.out.cell (p := ⟨w.heap.size, 3, none⟩) hs1).trans e3
  have f4 := (HBF.out.cell (p := ⟨w.heap.size, 4, none⟩) hs1).trans e4
  have f5 := (HBF.out.cell (p := ⟨w.heap.size, 5, none⟩) hs1).trans e5
  have f6 := (HBF.out.cell (p := ⟨w.heap.size, 6, none⟩) hs1).trans e6
  have HWF : Hid (Below w.heap.size w wF) := hid (HB1.out.trans (HBF.out.mono HB1.out.size))
  obtain ⟨kb, gkb⟩ : ∃ kb, kb = w.heap.size := ⟨_, rfl⟩
  rw [← gkb] at f0 f1 f2 f3 f4 f5 f6 hsF ⊢
  have hS0 : Sf wF B kb G D pp t x T T wF := by
    have h := HP.out.grow HWF.out
    refine ⟨h, Upd.refl _ _, fun b hk hb => ⟨hb, fun e => ?_, fun hG => ?_, fun hR => ?_⟩⟩
    · omega
    · have h1 := (HP.out.gG b hG).2.1
      omega
    · have h1 := (HP.out.gD b hR).2.1
      omega
  have q0 := hS0.c0
  have q1 := hS0.c1
  have HS0 := hid hS0
  have GKB := hid gkb
  have HKB : Hid (kb ≤ kb) := hid (Nat.le_refl _)
  clear e0 e1 e2 e3 e4 e5 e6 kc hS0 gkb
  obtain ⟨R, gR⟩ : ∃ R, R = T.seek x1 x2 x3 := ⟨_, rfl⟩
  have HE : Hid (Ok3 T R.1 m) := by rw [gR]; exact hid (Ok3.seek HT.out HL.out _ _ _)
  have KP : Hid (∀ W G D TD, Sf wF B kb G D pp t x T TD W → Calls Tryz.prog 27 #[.pointer (some ⟨t, 0, none⟩), .int .i64 x1, .int .i64 x2, .int .i64 x3] W fun e w' => e = .returned (.tuple #[.int .i64 R.2.1, .int .i64 R.2.2]) ∧ ∃ G', Sf wF B kb G' D pp t x R.1 TD w') := by
    rw [gR]
    exact hid (fun W G D TD hs => (tpseek W t T G hs.pr.tp HT.out x1 x2 x3).mono (by rintro e w' ⟨he, k⟩; exact ⟨he, hs.prog k⟩))
  have KD : Hid (∀ W G D TP, Sf wF B kb G D pp t x TP T W → Calls Tryz.prog 28 #[.pointer (some ⟨x, 0, none⟩), .int .i64 x1, .int .i64 x2, .int .i64 x3] W fun e w' => e = .returned (.tuple #[.int .i64 R.2.1, .int .i64 R.2.2]) ∧ ∃ D', Sf wF B kb G D' pp t x TP R.1 w') := by
    rw [gR]
    exact hid (fun W G D TP hs => (tdseek W x T D hs.pr.td HT.out x1 x2 x3).mono (by rintro e w' ⟨he, k⟩; exact ⟨he, hs.doc1 k⟩))
  clear gR
  go_wp2_with fail
  go_region_held3 (fun W => W.cell? ⟨pp, 0, none⟩ = some (.pointer (some ⟨t, 0, none⟩)) ∧ W.cell? ⟨pp, 1, none⟩ = some (.pointer (some ⟨x, 0, none⟩)) ∧ W.cell? ⟨kb, 1, none⟩ = some (.int .i64 x1) ∧ W.cell? ⟨kb, 2, none⟩ = some (.int .i64 x2) ∧ W.cell? ⟨kb, 3, none⟩ = some (.int .i64 x3)) (first | (refine ⟨?_, ?_, ?_, ?_, ?_⟩ <;> assumption) | go_keep) (first
    | (go_at_call 27; refine (KP.out _ _ _ _ (by first | exact HS0.out.drew | exact HS0.out)).mono ?_; rintro e w1 ⟨rfl, G1, hS1⟩; have z0 := hS1.c0; have z1 := hS1.c1; have zk1 := hS1.k HKB.out hsF f1; have zk2 := hS1.k HKB.out hsF f2; have zk3 := hS1.k HKB.out hsF f3; have HS1 := hid hS1; clear hS1)
    | fail)
  go_wp2_with fail
  go_region_held3 (fun W => W.cell? ⟨pp, 0, none⟩ = some (.pointer (some ⟨t, 0, none⟩)) ∧ W.cell? ⟨pp, 1, none⟩ = some (.pointer (some ⟨x, 0, none⟩)) ∧ W.cell? ⟨kb, 1, none⟩ = some (.int .i64 x1) ∧ W.cell? ⟨kb, 2, none⟩ = some (.int .i64 x2) ∧ W.cell? ⟨kb, 3, none⟩ = some (.int .i64 x3)) (first | (refine ⟨?_, ?_, ?_, ?_, ?_⟩ <;> assumption) | go_keep) (first
    | (go_at_call 28; refine (KD.out _ _ _ _ (by first | exact HS1.out.drew | exact HS1.out)).mono ?_; rintro e w2 ⟨rfl, D2, hS2⟩; have y0 := hS2.c0; have y1 := hS2.c1; have yk1 := hS2.k HKB.out hsF f1; have yk2 := hS2.k HKB.out hsF f2; have yk3 := hS2.k HKB.out hsF f3; have HS2 := hid hS2; clear hS2)
    | fail)
  go_wp2_with fail
  go_ret
  first
  | exact HS2.out.done HWF.out HB.out HE.out
  | exact HS2.out.drew.done HWF.out HB.out HE.out

end Go.Proofs.YtoknhcjneliboaaGreat

/- What the files' 'does' does: cases 1, 7, 8 (written by gen_tdo.py). -/
namespace Go.Proofs.YtoknhcjneliboaaGreat
open Go.RowKit Go.ChangeMaps Go.MapKept
set_option linter.unusedVariables false
set_option maxRecDepth 20000

set_option maxHeartbeats 8000000 in
theorem dof_1 (pp t x B : Nat) (G D : Nat → Prop) (T : Ft) (m : Int) (x0 x1 x2 x3 : Int) (t4 t5 : ByteArray) (ab : Option Addr) (lb cb : Nat) (bz : List Int) (w : World) (H : Pt w B G D pp t x T T) (hT : TOk T) (hL : LB T.F m) (hm : 1 ≤ m ∧ m ≤ 900000)
    (h4 : t4.size ≤ 1048576) (h5 : t5.size ≤ 1048576) (hx3n : -9223372036854775808 ≤ x3) (hx3 : x3 ≤ 9223372036854775807) (hb : Src w ab lb bz) (hbz : ∀ z ∈ bz, 0 ≤ z ∧ z < 256) (hlb : lb ≤ 140737488355328) (hcb : lb ≤ cb) (hbn : ab = none → lb = 0 ∧ cb = 0) (hbB : 0 < lb → ∀ b o, ab = some ⟨b, o, none⟩ → b < B)
    (hq : wrap64 ((IntKind.u64.wrap x0).tmod 12) = 1) :
    Calls Tryz.prog 7 #[.pointer (some ⟨pp, 0, none⟩), .agg #[.int .i64 x0, .int .i64 x1, .int .i64 x2, .int .i64 x3, .string t4, .string t5, .slice ab lb cb]] w (DoF w B pp t x m T) := by
  have hpl := H.lt
  have HB : Hid (B ≤ w.heap.size) := hid (Nat.le_trans H.gp (Nat.le_of_lt hpl))
  have HT := hid hT
  have HL := hid hL
  have HM := hid hm
  have H4 := hid h4
  have H5 := hid h5
  have HX3 := hid (And.intro hx3n hx3)
  have HSB := hid hb
  have HBZ := hid hbz
  have HBB := hid hbB
  have HBN := hid hbn
  have HLC := hid hcb
  have HLL := hid hlb
  have HML : Hid (∀ i, (T.F.P i).l ≤ 1000000) := hid (fun i => Int.le_trans (hL i) (by omega))
  have HQ := hid hq
  have HP := hid H
  have kc : Hid (∀ wx, Below w.heap.size w wx → Calls Tryz.prog 16 #[.slice ab lb cb] wx fun e w' => ∃ (av : Option Addr) (cv : Nat), e = .returned (.slice av lb cv) ∧ w'.ownsRow wx.heap.size 5 1 (.slice av lb cv) lb (bz.map (Value.int .u8)) ∧ Below wx.heap.size wx w') := hid (fun wx hbx => clone_opt ab lb cb bz wx (hb.below hbx) hlb hbn)
  clear H hT hL hm h4 h5 hx3n hx3 hb hbz hlb hcb hbn hbB hq
  go_enter Tryz.func7, Tryz.ntmps7
  go_upto_region 1 with fail
  obtain ⟨W1, gW1⟩ : ∃ W1, W1 = w.alloc (.cells #[.int .i64 x0, .int .i64 x1, .int .i64 x2, .int .i64 x3, .string t4, .string t5, .slice ab lb cb] 32) := ⟨_, rfl⟩
  rw [← gW1]
  have hb1 : Below w.heap.size w W1 := by rw [gW1]; exact (Below.refl _ _).alloc (Nat.le_refl _) _
  have hs1 : w.heap.size < W1.heap.size := by rw [gW1]; simp
  have e0 : W1.cell? ⟨w.heap.size, 0, none⟩ = some (.int .i64 x0) := by rw [gW1]; simp [go_sem]
  have e1 : W1.cell? ⟨w.heap.size, 1, none⟩ = some (.int .i64 x1) := by rw [gW1]; simp [go_sem]
  have e2 : W1.cell? ⟨w.heap.size, 2, none⟩ = some (.int .i64 x2) := by rw [gW1]; simp [go_sem]
  have e3 : W1.cell? ⟨w.heap.size, 3, none⟩ = some (.int .i64 x3) := by rw [gW1]; simp [go_sem]
  have e4 : W1.cell? ⟨w.heap.size, 4, none⟩ = some (.string t4) := by rw [gW1]; simp [go_sem]
  have e5 : W1.cell? ⟨w.heap.size, 5, none⟩ = some (.string t5) := by rw [gW1]; simp [go_sem]
  have e6 : W1.cell? ⟨w.heap.size, 6, none⟩ = some (.slice ab lb cb) := by rw [gW1]; simp [go_sem]
  have HB1 := hid hb1
  clear gW1 hb1
  go_upto_block 0 with (go_at_call 16; refine (kc.out _ HB1.out).mono ?_; rintro e wF ⟨av, cv, rfl, hG, hbF⟩; have f0 := (hbF.cell (p := ⟨w.heap.size, 0, none⟩) hs1).trans e0; have HG := hid hG; have HBF := hid hbF; clear hG hbF)
  rw [HQ.out]
  have hsF : w.heap.size < wF.heap.size := Nat.lt_of_lt_of_le hs1 HBF.out.size
  have f1 := (HBF.out.cell (p := ⟨w.heap.size, 1, none⟩) hs1).trans e1
  have f2 := (HBF.out.cell (p := ⟨w.heap.size, 2, none⟩) hs1).trans e2
  have f3 := (HBF.out.cell (p := ⟨w.heap.size, 3, none⟩) hs1).trans e3
  have f4 := (HBF.out.cell (p := ⟨w.heap.size, 4, none⟩) hs1).trans e4
  have f5 := (HBF.out.cell (p := ⟨w.heap.size, 5, none⟩) hs1).trans e5
  have f6 := (HBF.out.cell (p := ⟨w.heap.size, 6, none⟩) hs1).trans e6
  have HWF : Hid (Below w.heap.size w wF) := hid (HB1.out.trans (HBF.out.mono HB1.out.size))
  obtain ⟨kb, gkb⟩ : ∃ kb, kb = w.heap.size := ⟨_, rfl⟩
  rw [← gkb] at f0 f1 f2 f3 f4 f5 f6 hsF ⊢
  have hS0 : Sf wF B kb G D pp t x T T wF := by
    have h := HP.out.grow HWF.out
    refine ⟨h, Upd.refl _ _, fun b hk hb => ⟨hb, fun e => ?_, fun hG => ?_, fun hR => ?_⟩⟩
    · omega
    · have h1 := (HP.out.gG b hG).2.1
      omega
    · have h1 := (HP.out.gD b hR).2.1
      omega
  have q0 := hS0.c0
  have q1 := hS0.c1
  have HS0 := hid hS0
  have GKB := hid gkb
  have HKB : Hid (kb ≤ kb) := hid (Nat.le_refl _)
  clear e0 e1 e2 e3 e4 e5 e6 kc hS0 gkb
  obtain ⟨R, gR⟩ : ∃ R, R = T.open_ (bl t4) x3 := ⟨_, rfl⟩
  have HE : Hid (Ok3 T R.1 m) := by rw [gR]; exact hid (Ok3.open_ HT.out HL.out HM.out.1 _ _)
  have KP : Hid (∀ W G D TD, Sf wF B kb G D pp t x T TD W → Calls Tryz.prog 17 #[.pointer (some ⟨t, 0, none⟩), .string t4, .int .i64 x3] W fun e w' => e = .returned (.tuple #[.int .i64 (R.2.1 : Int), .int .i64 R.2.2]) ∧ ∃ G', Sf wF B kb G' D pp t x R.1 TD w') := by
    rw [gR]
    exact hid (fun W G D TD hs => (tpopen W t T G hs.pr.tp HT.out t4 (Nat.le_trans H4.out (by omega)) x3).mono (by rintro e w' ⟨he, k⟩; exact ⟨he, hs.prog k⟩))
  have KD : Hid (∀ W G D TP, Sf wF B kb G D pp t x TP T W → Calls Tryz.prog 18 #[.pointer (some ⟨x, 0, none⟩), .string t4, .int .i64 x3] W fun e w' => e = .returned (.tuple #[.int .i64 (R.2.1 : Int), .int .i64 R.2.2]) ∧ ∃ D', Sf wF B kb G D' pp t x TP R.1 w') := by
    rw [gR]
    exact hid (fun W G D TP hs => (tdopen W x T D hs.pr.td HT.out t4 H4.out x3 HX3.out.1 HX3.out.2).mono (by rintro e w' ⟨he, k⟩; exact ⟨he, hs.doc1 k⟩))
  clear gR
  go_wp2_with fail
  go_region_held3 (fun W => W.cell? ⟨pp, 0, none⟩ = some (.pointer (some ⟨t, 0, none⟩)) ∧ W.cell? ⟨pp, 1, none⟩ = some (.pointer (some ⟨x, 0, none⟩)) ∧ W.cell? ⟨kb, 3, none⟩ = some (.int .i64 x3) ∧ W.cell? ⟨kb, 4, none⟩ = some (.string t4)) (first | (refine ⟨?_, ?_, ?_, ?_⟩ <;> assumption) | go_keep) (first
    | (go_at_call 17; refine (KP.out _ _ _ _ (by first | exact HS0.out.drew | exact HS0.out)).mono ?_; rintro e w1 ⟨rfl, G1, hS1⟩; have z0 := hS1.c0; have z1 := hS1.c1; have zk3 := hS1.k HKB.out hsF f3; have zk4 := hS1.k HKB.out hsF f4; have HS1 := hid hS1; clear hS1)
    | fail)
  go_wp2_with fail
  go_region_held3 (fun W => W.cell? ⟨pp, 0, none⟩ = some (.pointer (some ⟨t, 0, none⟩)) ∧ W.cell? ⟨pp, 1, none⟩ = some (.pointer (some ⟨x, 0, none⟩)) ∧ W.cell? ⟨kb, 3, none⟩ = some (.int .i64 x3) ∧ W.cell? ⟨kb, 4, none⟩ = some (.string t4)) (first | (refine ⟨?_, ?_, ?_, ?_⟩ <;> assumption) | go_keep) (first
    | (go_at_call 18; refine (KD.out _ _ _ _ (by first | exact HS1.out.drew | exact HS1.out)).mono ?_; rintro e w2 ⟨rfl, D2, hS2⟩; have y0 := hS2.c0; have y1 := hS2.c1; have yk3 := hS2.k HKB.out hsF f3; have yk4 := hS2.k HKB.out hsF f4; have HS2 := hid hS2; clear hS2)
    | fail)
  go_wp2_with fail
  go_ret
  first
  | exact HS2.out.done HWF.out HB.out HE.out
  | exact HS2.out.drew.done HWF.out HB.out HE.out

set_option maxHeartbeats 8000000 in
theorem dof_7 (pp t x B : Nat) (G D : Nat → Prop) (T : Ft) (m : Int) (x0 x1 x2 x3 : Int) (t4 t5 : ByteArray) (ab : Option Addr) (lb cb : Nat) (bz : List Int) (w : World) (H : Pt w B G D pp t x T T) (hT : TOk T) (hL : LB T.F m) (hm : 1 ≤ m ∧ m ≤ 900000)
    (h4 : t4.size ≤ 1048576) (h5 : t5.size ≤ 1048576) (hx3n : -9223372036854775808 ≤ x3) (hx3 : x3 ≤ 9223372036854775807) (hb : Src w ab lb bz) (hbz : ∀ z ∈ bz, 0 ≤ z ∧ z < 256) (hlb : lb ≤ 140737488355328) (hcb : lb ≤ cb) (hbn : ab = none → lb = 0 ∧ cb = 0) (hbB : 0 < lb → ∀ b o, ab = some ⟨b, o, none⟩ → b < B)
    (hq : wrap64 ((IntKind.u64.wrap x0).tmod 12) = 7) :
    Calls Tryz.prog 7 #[.pointer (some ⟨pp, 0, none⟩), .agg #[.int .i64 x0, .int .i64 x1, .int .i64 x2, .int .i64 x3, .string t4, .string t5, .slice ab lb cb]] w (DoF w B pp t x m T) := by
  have hpl := H.lt
  have HB : Hid (B ≤ w.heap.size) := hid (Nat.le_trans H.gp (Nat.le_of_lt hpl))
  have HT := hid hT
  have HL := hid hL
  have HM := hid hm
  have H4 := hid h4
  have H5 := hid h5
  have HX3 := hid (And.intro hx3n hx3)
  have HSB := hid hb
  have HBZ := hid hbz
  have HBB := hid hbB
  have HBN := hid hbn
  have HLC := hid hcb
  have HLL := hid hlb
  have HML : Hid (∀ i, (T.F.P i).l ≤ 1000000) := hid (fun i => Int.le_trans (hL i) (by omega))
  have HQ := hid hq
  have HP := hid H
  have kc : Hid (∀ wx, Below w.heap.size w wx → Calls Tryz.prog 16 #[.slice ab lb cb] wx fun e w' => ∃ (av : Option Addr) (cv : Nat), e = .returned (.slice av lb cv) ∧ w'.ownsRow wx.heap.size 5 1 (.slice av lb cv) lb (bz.map (Value.int .u8)) ∧ Below wx.heap.size wx w') := hid (fun wx hbx => clone_opt ab lb cb bz wx (hb.below hbx) hlb hbn)
  clear H hT hL hm h4 h5 hx3n hx3 hb hbz hlb hcb hbn hbB hq
  go_enter Tryz.func7, Tryz.ntmps7
  go_upto_region 1 with fail
  obtain ⟨W1, gW1⟩ : ∃ W1, W1 = w.alloc (.cells #[.int .i64 x0, .int .i64 x1, .int .i64 x2, .int .i64 x3, .string t4, .string t5, .slice ab lb cb] 32) := ⟨_, rfl⟩
  rw [← gW1]
  have hb1 : Below w.heap.size w W1 := by rw [gW1]; exact (Below.refl _ _).alloc (Nat.le_refl _) _
  have hs1 : w.heap.size < W1.heap.size := by rw [gW1]; simp
  have e0 : W1.cell? ⟨w.heap.size, 0, none⟩ = some (.int .i64 x0) := by rw [gW1]; simp [go_sem]
  have e1 : W1.cell? ⟨w.heap.size, 1, none⟩ = some (.int .i64 x1) := by rw [gW1]; simp [go_sem]
  have e2 : W1.cell? ⟨w.heap.size, 2, none⟩ = some (.int .i64 x2) := by rw [gW1]; simp [go_sem]
  have e3 : W1.cell? ⟨w.heap.size, 3, none⟩ = some (.int .i64 x3) := by rw [gW1]; simp [go_sem]
  have e4 : W1.cell? ⟨w.heap.size, 4, none⟩ = some (.string t4) := by rw [gW1]; simp [go_sem]
  have e5 : W1.cell? ⟨w.heap.size, 5, none⟩ = some (.string t5) := by rw [gW1]; simp [go_sem]
  have e6 : W1.cell? ⟨w.heap.size, 6, none⟩ = some (.slice ab lb cb) := by rw [gW1]; simp [go_sem]
  have HB1 := hid hb1
  clear gW1 hb1
  go_upto_block 0 with (go_at_call 16; refine (kc.out _ HB1.out).mono ?_; rintro e wF ⟨av, cv, rfl, hG, hbF⟩; have f0 := (hbF.cell (p := ⟨w.heap.size, 0, none⟩) hs1).trans e0; have HG := hid hG; have HBF := hid hbF; clear hG hbF)
  rw [HQ.out]
  have hsF : w.heap.size < wF.heap.size := Nat.lt_of_lt_of_le hs1 HBF.out.size
  have f1 := (HBF.out.cell (p := ⟨w.heap.size, 1, none⟩) hs1).trans e1
  have f2 := (HBF.out.cell (p := ⟨w.heap.size, 2, none⟩) hs1).trans e2
  have f3 := (HBF.out.cell (p := ⟨w.heap.size, 3, none⟩) hs1).trans e3
  have f4 := (HBF.out.cell (p := ⟨w.heap.size, 4, none⟩) hs1).trans e4
  have f5 := (HBF.out.cell (p := ⟨w.heap.size, 5, none⟩) hs1).trans e5
  have f6 := (HBF.out.cell (p := ⟨w.heap.size, 6, none⟩) hs1).trans e6
  have HWF : Hid (Below w.heap.size w wF) := hid (HB1.out.trans (HBF.out.mono HB1.out.size))
  obtain ⟨kb, gkb⟩ : ∃ kb, kb = w.heap.size := ⟨_, rfl⟩
  rw [← gkb] at f0 f1 f2 f3 f4 f5 f6 hsF ⊢
  have hS0 : Sf wF B kb G D pp t x T T wF := by
    have h := HP.out.grow HWF.out
    refine ⟨h, Upd.refl _ _, fun b hk hb => ⟨hb, fun e => ?_, fun hG => ?_, fun hR => ?_⟩⟩
    · omega
    · have h1 := (HP.out.gG b hG).2.1
      omega
    · have h1 := (HP.out.gD b hR).2.1
      omega
  have q0 := hS0.c0
  have q1 := hS0.c1
  have HS0 := hid hS0
  have GKB := hid gkb
  have HKB : Hid (kb ≤ kb) := hid (Nat.le_refl _)
  clear e0 e1 e2 e3 e4 e5 e6 kc hS0 gkb
  obtain ⟨R, gR⟩ : ∃ R, R = T.hold x1 := ⟨_, rfl⟩
  have HE : Hid (Ok3 T R.1 m) := by rw [gR]; exact hid (Ok3.hold HT.out HL.out _)
  have KP : Hid (∀ W G D TD, Sf wF B kb G D pp t x T TD W → Calls Tryz.prog 29 #[.pointer (some ⟨t, 0, none⟩), .int .i64 x1] W fun e w' => e = .returned (.int .i64 R.2) ∧ ∃ G', Sf wF B kb G' D pp t x R.1 TD w') := by
    rw [gR]
    exact hid (fun W G D TD hs => (tphold W t T G hs.pr.tp HT.out x1).mono (by rintro e w' ⟨he, k⟩; exact ⟨he, hs.prog k⟩))
  have KD : Hid (∀ W G D TP, Sf wF B kb G D pp t x TP T W → Calls Tryz.prog 30 #[.pointer (some ⟨x, 0, none⟩), .int .i64 x1] W fun e w' => e = .returned (.int .i64 R.2) ∧ ∃ D', Sf wF B kb G D' pp t x TP R.1 w') := by
    rw [gR]
    exact hid (fun W G D TP hs => (tdhold W x T D hs.pr.td HT.out x1).mono (by rintro e w' ⟨he, k⟩; exact ⟨he, hs.doc1 k⟩))
  clear gR
  go_wp2_with fail
  go_region_held3 (fun W => W.cell? ⟨pp, 0, none⟩ = some (.pointer (some ⟨t, 0, none⟩)) ∧ W.cell? ⟨pp, 1, none⟩ = some (.pointer (some ⟨x, 0, none⟩)) ∧ W.cell? ⟨kb, 1, none⟩ = some (.int .i64 x1)) (first | (refine ⟨?_, ?_, ?_⟩ <;> assumption) | go_keep) (first
    | (go_at_call 29; refine (KP.out _ _ _ _ (by first | exact HS2.out | exact HS0.out.drew | exact HS0.out)).mono ?_; rintro e w1 ⟨rfl, G1, hS1⟩; have z0 := hS1.c0; have z1 := hS1.c1; have zk1 := hS1.k HKB.out hsF f1; have HS1 := hid hS1; clear hS1)
    | (go_at_call 30; refine (KD.out _ _ _ _ (by first | exact HS1.out | exact HS0.out.drew | exact HS0.out)).mono ?_; rintro e w2 ⟨rfl, D2, hS2⟩; have y0 := hS2.c0; have y1 := hS2.c1; have yk1 := hS2.k HKB.out hsF f1; have HS2 := hid hS2; clear hS2)
    | fail)
  all_goals
    go_wp2_with fail
    go_ret
    first
    | exact HS1.out.done HWF.out HB.out HE.out
    | exact HS2.out.done HWF.out HB.out HE.out
    | exact HS1.out.drew.done HWF.out HB.out HE.out
    | exact HS2.out.drew.done HWF.out HB.out HE.out

set_option maxHeartbeats 8000000 in
theorem dof_8 (pp t x B : Nat) (G D : Nat → Prop) (T : Ft) (m : Int) (x0 x1 x2 x3 : Int) (t4 t5 : ByteArray) (ab : Option Addr) (lb cb : Nat) (bz : List Int) (w : World) (H : Pt w B G D pp t x T T) (hT : TOk T) (hL : LB T.F m) (hm : 1 ≤ m ∧ m ≤ 900000)
    (h4 : t4.size ≤ 1048576) (h5 : t5.size ≤ 1048576) (hx3n : -9223372036854775808 ≤ x3) (hx3 : x3 ≤ 9223372036854775807) (hb : Src w ab lb bz) (hbz : ∀ z ∈ bz, 0 ≤ z ∧ z < 256) (hlb : lb ≤ 140737488355328) (hcb : lb ≤ cb) (hbn : ab = none → lb = 0 ∧ cb = 0) (hbB : 0 < lb → ∀ b o, ab = some ⟨b, o, none⟩ → b < B)
    (hq : wrap64 ((IntKind.u64.wrap x0).tmod 12) = 8) :
    Calls Tryz.prog 7 #[.pointer (some ⟨pp, 0, none⟩), .agg #[.int .i64 x0, .int .i64 x1, .int .i64 x2, .int .i64 x3, .string t4, .string t5, .slice ab lb cb]] w (DoF w B pp t x m T) := by
  have hpl := H.lt
  have HB : Hid (B ≤ w.heap.size) := hid (Nat.le_trans H.gp (Nat.le_of_lt hpl))
  have HT := hid hT
  have HL := hid hL
  have HM := hid hm
  have H4 := hid h4
  have H5 := hid h5
  have HX3 := hid (And.intro hx3n hx3)
  have HSB := hid hb
  have HBZ := hid hbz
  have HBB := hid hbB
  have HBN := hid hbn
  have HLC := hid hcb
  have HLL := hid hlb
  have HML : Hid (∀ i, (T.F.P i).l ≤ 1000000) := hid (fun i => Int.le_trans (hL i) (by omega))
  have HQ := hid hq
  have HP := hid H
  have kc : Hid (∀ wx, Below w.heap.size w wx → Calls Tryz.prog 16 #[.slice ab lb cb] wx fun e w' => ∃ (av : Option Addr) (cv : Nat), e = .returned (.slice av lb cv) ∧ w'.ownsRow wx.heap.size 5 1 (.slice av lb cv) lb (bz.map (Value.int .u8)) ∧ Below wx.heap.size wx w') := hid (fun wx hbx => clone_opt ab lb cb bz wx (hb.below hbx) hlb hbn)
  clear H hT hL hm h4 h5 hx3n hx3 hb hbz hlb hcb hbn hbB hq
  go_enter Tryz.func7, Tryz.ntmps7
  go_upto_region 1 with fail
  obtain ⟨W1, gW1⟩ : ∃ W1, W1 = w.alloc (.cells #[.int .i64 x0, .int .i64 x1, .int .i64 x2, .int .i64 x3, .string t4, .string t5, .slice ab lb cb] 32) := ⟨_, rfl⟩
  rw [← gW1]
  have hb1 : Below w.heap.size w W1 := by rw [gW1]; exact (Below.refl _ _).alloc (Nat.le_refl _) _
  have hs1 : w.heap.size < W1.heap.size := by rw [gW1]; simp
  have e0 : W1.cell? ⟨w.heap.size, 0, none⟩ = some (.int .i64 x0) := by rw [gW1]; simp [go_sem]
  have e1 : W1.cell? ⟨w.heap.size, 1, none⟩ = some (.int .i64 x1) := by rw [gW1]; simp [go_sem]
  have e2 : W1.cell? ⟨w.heap.size, 2, none⟩ = some (.int .i64 x2) := by rw [gW1]; simp [go_sem]
  have e3 : W1.cell? ⟨w.heap.size, 3, none⟩ = some (.int .i64 x3) := by rw [gW1]; simp [go_sem]
  have e4 : W1.cell? ⟨w.heap.size, 4, none⟩ = some (.string t4) := by rw [gW1]; simp [go_sem]
  have e5 : W1.cell? ⟨w.heap.size, 5, none⟩ = some (.string t5) := by rw [gW1]; simp [go_sem]
  have e6 : W1.cell? ⟨w.heap.size, 6, none⟩ = some (.slice ab lb cb) := by rw [gW1]; simp [go_sem]
  have HB1 := hid hb1
  clear gW1 hb1
  go_upto_block 0 with (go_at_call 16; refine (kc.out _ HB1.out).mono ?_; rintro e wF ⟨av, cv, rfl, hG, hbF⟩; have f0 := (hbF.cell (p := ⟨w.heap.size, 0, none⟩) hs1).trans e0; have HG := hid hG; have HBF := hid hbF; clear hG hbF)
  rw [HQ.out]
  have hsF : w.heap.size < wF.heap.size := Nat.lt_of_lt_of_le hs1 HBF.out.size
  have f1 := (HBF.out.cell (p := ⟨w.heap.size, 1, none⟩) hs1).trans e1
  have f2 := (HBF.out.cell (p := ⟨w.heap.size, 2, none⟩) hs1).trans e2
  have f3 := (HBF.out.cell (p := ⟨w.heap.size, 3, none⟩) hs1).trans e3
  have f4 := (HBF.out.cell (p := ⟨w.heap.size, 4, none⟩) hs1).trans e4
  have f5 := (HBF.out.cell (p := ⟨w.heap.size, 5, none⟩) hs1).trans e5
  have f6 := (HBF.out.cell (p := ⟨w.heap.size, 6, none⟩) hs1).trans e6
  have HWF : Hid (Below w.heap.size w wF) := hid (HB1.out.trans (HBF.out.mono HB1.out.size))
  obtain ⟨kb, gkb⟩ : ∃ kb, kb = w.heap.size := ⟨_, rfl⟩
  rw [← gkb] at f0 f1 f2 f3 f4 f5 f6 hsF ⊢
  have hS0 : Sf wF B kb G D pp t x T T wF := by
    have h := HP.out.grow HWF.out
    refine ⟨h, Upd.refl _ _, fun b hk hb => ⟨hb, fun e => ?_, fun hG => ?_, fun hR => ?_⟩⟩
    · omega
    · have h1 := (HP.out.gG b hG).2.1
      omega
    · have h1 := (HP.out.gD b hR).2.1
      omega
  have q0 := hS0.c0
  have q1 := hS0.c1
  have HS0 := hid hS0
  have GKB := hid gkb
  have HKB : Hid (kb ≤ kb) := hid (Nat.le_refl _)
  clear e0 e1 e2 e3 e4 e5 e6 kc hS0 gkb
  obtain ⟨R, gR⟩ : ∃ R, R = T.drop x1 := ⟨_, rfl⟩
  have HE : Hid (Ok3 T R.1 m) := by rw [gR]; exact hid (Ok3.drop HT.out HL.out HM.out.1 _)
  have KP : Hid (∀ W G D TD, Sf wF B kb G D pp t x T TD W → Calls Tryz.prog 31 #[.pointer (some ⟨t, 0, none⟩), .int .i64 x1] W fun e w' => e = .returned (.int .i64 R.2) ∧ ∃ G', Sf wF B kb G' D pp t x R.1 TD w') := by
    rw [gR]
    exact hid (fun W G D TD hs => (tpdrop W t T G hs.pr.tp HT.out x1).mono (by rintro e w' ⟨he, k⟩; exact ⟨he, hs.prog k⟩))
  have KD : Hid (∀ W G D TP, Sf wF B kb G D pp t x TP T W → Calls Tryz.prog 32 #[.pointer (some ⟨x, 0, none⟩), .int .i64 x1] W fun e w' => e = .returned (.int .i64 R.2) ∧ ∃ D', Sf wF B kb G D' pp t x TP R.1 w') := by
    rw [gR]
    exact hid (fun W G D TP hs => (tddrop W x T D hs.pr.td HT.out x1).mono (by rintro e w' ⟨he, k⟩; exact ⟨he, hs.doc1 k⟩))
  clear gR
  go_wp2_with fail
  go_region_held3 (fun W => W.cell? ⟨pp, 0, none⟩ = some (.pointer (some ⟨t, 0, none⟩)) ∧ W.cell? ⟨pp, 1, none⟩ = some (.pointer (some ⟨x, 0, none⟩)) ∧ W.cell? ⟨kb, 1, none⟩ = some (.int .i64 x1)) (first | (refine ⟨?_, ?_, ?_⟩ <;> assumption) | go_keep) (first
    | (go_at_call 31; refine (KP.out _ _ _ _ (by first | exact HS2.out | exact HS0.out.drew | exact HS0.out)).mono ?_; rintro e w1 ⟨rfl, G1, hS1⟩; have z0 := hS1.c0; have z1 := hS1.c1; have zk1 := hS1.k HKB.out hsF f1; have HS1 := hid hS1; clear hS1)
    | (go_at_call 32; refine (KD.out _ _ _ _ (by first | exact HS1.out | exact HS0.out.drew | exact HS0.out)).mono ?_; rintro e w2 ⟨rfl, D2, hS2⟩; have y0 := hS2.c0; have y1 := hS2.c1; have yk1 := hS2.k HKB.out hsF f1; have HS2 := hid hS2; clear hS2)
    | fail)
  all_goals
    go_wp2_with fail
    go_ret
    first
    | exact HS1.out.done HWF.out HB.out HE.out
    | exact HS2.out.done HWF.out HB.out HE.out
    | exact HS1.out.drew.done HWF.out HB.out HE.out
    | exact HS2.out.drew.done HWF.out HB.out HE.out

end Go.Proofs.YtoknhcjneliboaaGreat

/- What the files' 'does' does: cases 3, 4 (written by gen_tdo.py). -/
namespace Go.Proofs.YtoknhcjneliboaaGreat
open Go.RowKit Go.ChangeMaps Go.MapKept
set_option linter.unusedVariables false
set_option maxRecDepth 20000

set_option maxHeartbeats 8000000 in
theorem dof_3 (pp t x B : Nat) (G D : Nat → Prop) (T : Ft) (m : Int) (x0 x1 x2 x3 : Int) (t4 t5 : ByteArray) (ab : Option Addr) (lb cb : Nat) (bz : List Int) (w : World) (H : Pt w B G D pp t x T T) (hT : TOk T) (hL : LB T.F m) (hm : 1 ≤ m ∧ m ≤ 900000)
    (h4 : t4.size ≤ 1048576) (h5 : t5.size ≤ 1048576) (hx3n : -9223372036854775808 ≤ x3) (hx3 : x3 ≤ 9223372036854775807) (hb : Src w ab lb bz) (hbz : ∀ z ∈ bz, 0 ≤ z ∧ z < 256) (hlb : lb ≤ 140737488355328) (hcb : lb ≤ cb) (hbn : ab = none → lb = 0 ∧ cb = 0) (hbB : 0 < lb → ∀ b o, ab = some ⟨b, o, none⟩ → b < B)
    (hq : wrap64 ((IntKind.u64.wrap x0).tmod 12) = 3) :
    Calls Tryz.prog 7 #[.pointer (some ⟨pp, 0, none⟩), .agg #[.int .i64 x0, .int .i64 x1, .int .i64 x2, .int .i64 x3, .string t4, .string t5, .slice ab lb cb]] w (DoF w B pp t x m T) := by
  have hpl := H.lt
  have HB : Hid (B ≤ w.heap.size) := hid (Nat.le_trans H.gp (Nat.le_of_lt hpl))
  have HT := hid hT
  have HL := hid hL
  have HM := hid hm
  have H4 := hid h4
  have H5 := hid h5
  have HX3 := hid (And.intro hx3n hx3)
  have HSB := hid hb
  have HBZ := hid hbz
  have HBB := hid hbB
  have HBN := hid hbn
  have HLC := hid hcb
  have HLL := hid hlb
  have HML : Hid (∀ i, (T.F.P i).l ≤ 1000000) := hid (fun i => Int.le_trans (hL i) (by omega))
  have HQ := hid hq
  have HP := hid H
  have kc : Hid (∀ wx, Below w.heap.size w wx → Calls Tryz.prog 16 #[.slice ab lb cb] wx fun e w' => ∃ (av : Option Addr) (cv : Nat), e = .returned (.slice av lb cv) ∧ w'.ownsRow wx.heap.size 5 1 (.slice av lb cv) lb (bz.map (Value.int .u8)) ∧ Below wx.heap.size wx w') := hid (fun wx hbx => clone_opt ab lb cb bz wx (hb.below hbx) hlb hbn)
  clear H hT hL hm h4 h5 hx3n hx3 hb hbz hlb hcb hbn hbB hq
  go_enter Tryz.func7, Tryz.ntmps7
  go_upto_region 1 with fail
  obtain ⟨W1, gW1⟩ : ∃ W1, W1 = w.alloc (.cells #[.int .i64 x0, .int .i64 x1, .int .i64 x2, .int .i64 x3, .string t4, .string t5, .slice ab lb cb] 32) := ⟨_, rfl⟩
  rw [← gW1]
  have hb1 : Below w.heap.size w W1 := by rw [gW1]; exact (Below.refl _ _).alloc (Nat.le_refl _) _
  have hs1 : w.heap.size < W1.heap.size := by rw [gW1]; simp
  have e0 : W1.cell? ⟨w.heap.size, 0, none⟩ = some (.int .i64 x0) := by rw [gW1]; simp [go_sem]
  have e1 : W1.cell? ⟨w.heap.size, 1, none⟩ = some (.int .i64 x1) := by rw [gW1]; simp [go_sem]
  have e2 : W1.cell? ⟨w.heap.size, 2, none⟩ = some (.int .i64 x2) := by rw [gW1]; simp [go_sem]
  have e3 : W1.cell? ⟨w.heap.size, 3, none⟩ = some (.int .i64 x3) := by rw [gW1]; simp [go_sem]
  have e4 : W1.cell? ⟨w.heap.size, 4, none⟩ = some (.string t4) := by rw [gW1]; simp [go_sem]
  have e5 : W1.cell? ⟨w.heap.size, 5, none⟩ = some (.string t5) := by rw [gW1]; simp [go_sem]
  have e6 : W1.cell? ⟨w.heap.size, 6, none⟩ = some (.slice ab lb cb) := by rw [gW1]; simp [go_sem]
  have HB1 := hid hb1
  clear gW1 hb1
  go_upto_block 0 with (go_at_call 16; refine (kc.out _ HB1.out).mono ?_; rintro e wF ⟨av, cv, rfl, hG, hbF⟩; have f0 := (hbF.cell (p := ⟨w.heap.size, 0, none⟩) hs1).trans e0; have HG := hid hG; have HBF := hid hbF; clear hG hbF)
  rw [HQ.out]
  have hsF : w.heap.size < wF.heap.size := Nat.lt_of_lt_of_le hs1 HBF.out.size
  have f1 := (HBF.out.cell (p := ⟨w.heap.size, 1, none⟩) hs1).trans e1
  have f2 := (HBF.out.cell (p := ⟨w.heap.size, 2, none⟩) hs1).trans e2
  have f3 := (HBF.out.cell (p := ⟨w.heap.size, 3, none⟩) hs1).trans e3
  have f4 := (HBF.out.cell (p := ⟨w.heap.size, 4, none⟩) hs1).trans e4
  have f5 := (HBF.out.cell (p := ⟨w.heap.size, 5, none⟩) hs1).trans e5
  have f6 := (HBF.out.cell (p := ⟨w.heap.size, 6, none⟩) hs1).trans e6
  have HWF : Hid (Below w.heap.size w wF) := hid (HB1.out.trans (HBF.out.mono HB1.out.size))
  obtain ⟨kb, gkb⟩ : ∃ kb, kb = w.heap.size := ⟨_, rfl⟩
  rw [← gkb] at f0 f1 f2 f3 f4 f5 f6 hsF ⊢
  have hS0 : Sf wF B kb G D pp t x T T wF := by
    have h := HP.out.grow HWF.out
    refine ⟨h, Upd.refl _ _, fun b hk hb => ⟨hb, fun e => ?_, fun hG => ?_, fun hR => ?_⟩⟩
    · omega
    · have h1 := (HP.out.gG b hG).2.1
      omega
    · have h1 := (HP.out.gD b hR).2.1
      omega
  have q0 := hS0.c0
  have q1 := hS0.c1
  have HS0 := hid hS0
  have GKB := hid gkb
  have HKB : Hid (kb ≤ kb) := hid (Nat.le_refl _)
  clear e0 e1 e2 e3 e4 e5 e6 kc hS0 gkb
  obtain ⟨R, gR⟩ : ∃ R, R = T.read x1 x3 := ⟨_, rfl⟩
  have hR96 : R.2.1.length ≤ 140737488355328 := by rw [gR]; exact Nat.le_trans (tread_len HT.out _ _) (by omega)
  obtain ⟨n, gn⟩ : ∃ n, n = R.2.1.length := ⟨_, rfl⟩
  have HE : Hid (Ok3 T R.1 m) := by rw [gR]; exact hid (Ok3.read HT.out HL.out _ _)
  have KP : Hid (∀ W G D TD, Sf wF B kb G D pp t x T TD W → Calls Tryz.prog 21 #[.pointer (some ⟨t, 0, none⟩), .int .i64 x1, .int .i64 x3] W fun e w' => (∃ a c, e = .returned (.tuple #[.slice a n c, .bool R.2.2.1, .int .i64 R.2.2.2]) ∧ w'.ownsRow W.heap.size 5 1 (.slice a n c) n (R.2.1.map (Value.int .u8))) ∧ Sf wF B kb G D pp t x R.1 TD w') := by
    rw [gn, gR]
    refine hid (fun W G D TD hs => (tpread W t T G hs.pr.tp HT.out x1 x3 HX3.out.2).mono ?_)
    rintro e w' ⟨⟨v, rfl, h1⟩, k⟩
    obtain ⟨a, c, rfl, _⟩ := own_shp h1
    exact ⟨⟨a, c, rfl, h1⟩, hs.progIn k⟩
  have KD : Hid (∀ W G D TP, Sf wF B kb G D pp t x TP T W → Calls Tryz.prog 22 #[.pointer (some ⟨x, 0, none⟩), .int .i64 x1, .int .i64 x3] W fun e w' => (∃ a c, e = .returned (.tuple #[.slice a n c, .bool R.2.2.1, .int .i64 R.2.2.2]) ∧ Src w' a n R.2.1) ∧ ∃ D', Sf wF B kb G D' pp t x TP R.1 w' ∧ (∀ b, Oty W G D pp b → Oty w' G D' pp b) ∧ Upd D W w') := by
    rw [gn, gR]
    refine hid (fun W G D TP hs => (tdread W x T D hs.pr.td HT.out x1 x3 HX3.out.2).mono ?_)
    rintro e w' ⟨⟨a, c, rfl, h1⟩, k⟩
    exact ⟨⟨a, c, rfl, h1⟩, hs.doc k⟩
  have HN : Hid (n ≤ 140737488355328) := hid (by omega)
  clear gR gn hR96
  go_wp2_with fail
  go_region_held3 (fun W => W.cell? ⟨pp, 0, none⟩ = some (.pointer (some ⟨t, 0, none⟩)) ∧ W.cell? ⟨pp, 1, none⟩ = some (.pointer (some ⟨x, 0, none⟩)) ∧ W.cell? ⟨kb, 1, none⟩ = some (.int .i64 x1) ∧ W.cell? ⟨kb, 3, none⟩ = some (.int .i64 x3)) (first | (refine ⟨?_, ?_, ?_, ?_⟩ <;> assumption) | go_keep) (first
    | (go_at_call 21; refine (KP.out _ _ _ _ (by first | exact HS0.out.drew | exact HS0.out)).mono ?_; rintro e w1 ⟨⟨a1, d1, rfl, hO1⟩, hS1⟩; have HN1 : Hid (∀ b, (Value.slice a1 n d1).ownBlock = some b → Oty w1 G D pp b ∧ B ≤ b) := hid (fun b hb => ⟨HS0.out.new (hO1.lt b hb).1 (hO1.lt b hb).2, Nat.le_trans (Nat.le_trans HB.out HWF.out.size) (hO1.lt b hb).1⟩); have z0 := hS1.c0; have z1 := hS1.c1; have zk1 := hS1.k HKB.out hsF f1; have zk3 := hS1.k HKB.out hsF f3; have HS1 := hid hS1; have HO1 := hid hO1; clear hS1 hO1)
    | fail)
  go_wp2_with fail
  go_region_held3 (fun W => W.cell? ⟨pp, 0, none⟩ = some (.pointer (some ⟨t, 0, none⟩)) ∧ W.cell? ⟨pp, 1, none⟩ = some (.pointer (some ⟨x, 0, none⟩)) ∧ W.cell? ⟨kb, 1, none⟩ = some (.int .i64 x1) ∧ W.cell? ⟨kb, 3, none⟩ = some (.int .i64 x3)) (first | (refine ⟨?_, ?_, ?_, ?_⟩ <;> assumption) | go_keep) (first
    | (go_at_call 22; first | (refine (KD.out _ _ _ _ HS1.out.drew).mono ?_; rintro e w2 ⟨⟨a2, d2, rfl, hO2⟩, D2, hS2, hN2, hU2⟩; have HU2 : Hid (Upd D w1 w2) := hid ((Upd.refl _ _).drewD.trans hU2 (fun _ _ h => h)); have HN3 : Hid (∀ b, (Value.slice a1 n d1).ownBlock = some b → Oty w2 G D2 pp b ∧ B ≤ b) := hid (fun b hb => ⟨hN2 b (HN1.out b hb).1, (HN1.out b hb).2⟩); have y0 := hS2.c0; have y1 := hS2.c1; have yk1 := hS2.k HKB.out hsF f1; have yk3 := hS2.k HKB.out hsF f3; have HS2 := hid hS2; have HO2 := hid hO2; clear hS2 hO2 hN2 hU2) | (refine (KD.out _ _ _ _ HS1.out).mono ?_; rintro e w2 ⟨⟨a2, d2, rfl, hO2⟩, D2, hS2, hN2, hU2⟩; have HU2 : Hid (Upd D w1 w2) := hid hU2; have HN3 : Hid (∀ b, (Value.slice a1 n d1).ownBlock = some b → Oty w2 G D2 pp b ∧ B ≤ b) := hid (fun b hb => ⟨hN2 b (HN1.out b hb).1, (HN1.out b hb).2⟩); have y0 := hS2.c0; have y1 := hS2.c1; have yk1 := hS2.k HKB.out hsF f1; have yk3 := hS2.k HKB.out hsF f3; have HS2 := hid hS2; have HO2 := hid hO2; clear hS2 hO2 hN2 hU2))
    | fail)
  have HO3 := hid (HU2.out.own HO1.out (fun b hb hD => (HN1.out b hb).1.2.2.2 hD))
  go_wp2_with (first
    | (go_at_call 23; first
        | (refine (equal_yes a1 a2 n d1 n d2 R.2.1 w2.drew (own_src (own_below HO3.out (Below.refl _ _).drew)) (HO2.out.below (Below.refl _ _).drew)).mono ?_; rintro e wz ⟨rfl, hwz⟩; subst wz)
        | (refine (equal_yes a1 a2 n d1 n d2 R.2.1 w2 (own_src HO3.out) HO2.out).mono ?_; rintro e wz ⟨rfl, hwz⟩; subst wz))
    | (go_at_call 24; first
        | (refine (spoil_any _ n d1 a1 R.2.1 w2.drew _ rfl (own_below HO3.out (Below.refl _ _).drew) HN.out).mono ?_; rintro e w4 ⟨rfl, hu4⟩; have HU4 := hid hu4; clear hu4)
        | (refine (spoil_any _ n d1 a1 R.2.1 w2 _ rfl HO3.out HN.out).mono ?_; rintro e w4 ⟨rfl, hu4⟩; have HU4 := hid hu4; clear hu4)))
  go_ret
  first
  | exact HS2.out.drew.doneU HU4.out (fun b _ hu => (HN3.out b hu).1) (fun b hu => (HN3.out b hu).2) HWF.out HB.out HE.out
  | exact HS2.out.doneU HU4.out (fun b _ hu => (HN3.out b hu).1) (fun b hu => (HN3.out b hu).2) HWF.out HB.out HE.out

set_option maxHeartbeats 8000000 in
theorem dof_4 (pp t x B : Nat) (G D : Nat → Prop) (T : Ft) (m : Int) (x0 x1 x2 x3 : Int) (t4 t5 : ByteArray) (ab : Option Addr) (lb cb : Nat) (bz : List Int) (w : World) (H : Pt w B G D pp t x T T) (hT : TOk T) (hL : LB T.F m) (hm : 1 ≤ m ∧ m ≤ 900000)
    (h4 : t4.size ≤ 1048576) (h5 : t5.size ≤ 1048576) (hx3n : -9223372036854775808 ≤ x3) (hx3 : x3 ≤ 9223372036854775807) (hb : Src w ab lb bz) (hbz : ∀ z ∈ bz, 0 ≤ z ∧ z < 256) (hlb : lb ≤ 140737488355328) (hcb : lb ≤ cb) (hbn : ab = none → lb = 0 ∧ cb = 0) (hbB : 0 < lb → ∀ b o, ab = some ⟨b, o, none⟩ → b < B)
    (hq : wrap64 ((IntKind.u64.wrap x0).tmod 12) = 4) :
    Calls Tryz.prog 7 #[.pointer (some ⟨pp, 0, none⟩), .agg #[.int .i64 x0, .int .i64 x1, .int .i64 x2, .int .i64 x3, .string t4, .string t5, .slice ab lb cb]] w (DoF w B pp t x m T) := by
  have hpl := H.lt
  have HB : Hid (B ≤ w.heap.size) := hid (Nat.le_trans H.gp (Nat.le_of_lt hpl))
  have HT := hid hT
  have HL := hid hL
  have HM := hid hm
  have H4 := hid h4
  have H5 := hid h5
  have HX3 := hid (And.intro hx3n hx3)
  have HSB := hid hb
  have HBZ := hid hbz
  have HBB := hid hbB
  have HBN := hid hbn
  have HLC := hid hcb
  have HLL := hid hlb
  have HML : Hid (∀ i, (T.F.P i).l ≤ 1000000) := hid (fun i => Int.le_trans (hL i) (by omega))
  have HQ := hid hq
  have HP := hid H
  have kc : Hid (∀ wx, Below w.heap.size w wx → Calls Tryz.prog 16 #[.slice ab lb cb] wx fun e w' => ∃ (av : Option Addr) (cv : Nat), e = .returned (.slice av lb cv) ∧ w'.ownsRow wx.heap.size 5 1 (.slice av lb cv) lb (bz.map (Value.int .u8)) ∧ Below wx.heap.size wx w') := hid (fun wx hbx => clone_opt ab lb cb bz wx (hb.below hbx) hlb hbn)
  clear H hT hL hm h4 h5 hx3n hx3 hb hbz hlb hcb hbn hbB hq
  go_enter Tryz.func7, Tryz.ntmps7
  go_upto_region 1 with fail
  obtain ⟨W1, gW1⟩ : ∃ W1, W1 = w.alloc (.cells #[.int .i64 x0, .int .i64 x1, .int .i64 x2, .int .i64 x3, .string t4, .string t5, .slice ab lb cb] 32) := ⟨_, rfl⟩
  rw [← gW1]
  have hb1 : Below w.heap.size w W1 := by rw [gW1]; exact (Below.refl _ _).alloc (Nat.le_refl _) _
  have hs1 : w.heap.size < W1.heap.size := by rw [gW1]; simp
  have e0 : W1.cell? ⟨w.heap.size, 0, none⟩ = some (.int .i64 x0) := by rw [gW1]; simp [go_sem]
  have e1 : W1.cell? ⟨w.heap.size, 1, none⟩ = some (.int .i64 x1) := by rw [gW1]; simp [go_sem]
  have e2 : W1.cell? ⟨w.heap.size, 2, none⟩ = some (.int .i64 x2) := by rw [gW1]; simp [go_sem]
  have e3 : W1.cell? ⟨w.heap.size, 3, none⟩ = some (.int .i64 x3) := by rw [gW1]; simp [go_sem]
  have e4 : W1.cell? ⟨w.heap.size, 4, none⟩ = some (.string t4) := by rw [gW1]; simp [go_sem]
  have e5 : W1.cell? ⟨w.heap.size, 5, none⟩ = some (.string t5) := by rw [gW1]; simp [go_sem]
  have e6 : W1.cell? ⟨w.heap.size, 6, none⟩ = some (.slice ab lb cb) := by rw [gW1]; simp [go_sem]
  have HB1 := hid hb1
  clear gW1 hb1
  go_upto_block 0 with (go_at_call 16; refine (kc.out _ HB1.out).mono ?_; rintro e wF ⟨av, cv, rfl, hG, hbF⟩; have f0 := (hbF.cell (p := ⟨w.heap.size, 0, none⟩) hs1).trans e0; have HG := hid hG; have HBF := hid hbF; clear hG hbF)
  rw [HQ.out]
  have hsF : w.heap.size < wF.heap.size := Nat.lt_of_lt_of_le hs1 HBF.out.size
  have f1 := (HBF.out.cell (p := ⟨w.heap.size, 1, none⟩) hs1).trans e1
  have f2 := (HBF.out.cell (p := ⟨w.heap.size, 2, none⟩) hs1).trans e2
  have f3 := (HBF.out.cell (p := ⟨w.heap.size, 3, none⟩) hs1).trans e3
  have f4 := (HBF.out.cell (p := ⟨w.heap.size, 4, none⟩) hs1).trans e4
  have f5 := (HBF.out.cell (p := ⟨w.heap.size, 5, none⟩) hs1).trans e5
  have f6 := (HBF.out.cell (p := ⟨w.heap.size, 6, none⟩) hs1).trans e6
  have HWF : Hid (Below w.heap.size w wF) := hid (HB1.out.trans (HBF.out.mono HB1.out.size))
  obtain ⟨kb, gkb⟩ : ∃ kb, kb = w.heap.size := ⟨_, rfl⟩
  rw [← gkb] at f0 f1 f2 f3 f4 f5 f6 hsF ⊢
  have hS0 : Sf wF B kb G D pp t x T T wF := by
    have h := HP.out.grow HWF.out
    refine ⟨h, Upd.refl _ _, fun b hk hb => ⟨hb, fun e => ?_, fun hG => ?_, fun hR => ?_⟩⟩
    · omega
    · have h1 := (HP.out.gG b hG).2.1
      omega
    · have h1 := (HP.out.gD b hR).2.1
      omega
  have q0 := hS0.c0
  have q1 := hS0.c1
  have HS0 := hid hS0
  have GKB := hid gkb
  have HKB : Hid (kb ≤ kb) := hid (Nat.le_refl _)
  clear e0 e1 e2 e3 e4 e5 e6 kc hS0 gkb
  obtain ⟨R, gR⟩ : ∃ R, R = T.write x1 bz := ⟨_, rfl⟩
  have HE : Hid (Ok3 T R.1 m) := by rw [gR]; exact hid (Ok3.write HT.out HL.out _ _ HBZ.out)
  have hkW : kb ≤ W1.heap.size := by rw [GKB.out]; exact Nat.le_of_lt hs1
  have HKW := hid hkW
  have HGV : Hid (∀ W G D TP TD, Sf wF B kb G D pp t x TP TD W → W.ownsRow W1.heap.size 5 1 (.slice av lb cv) lb (bz.map (Value.int .u8))) := hid (fun W G D TP TD hs => hs.up.own HG.out (fun b hb q => by have := (HG.out.lt b hb).1; have := q.2; omega))
  have HSW : Hid (∀ W G D TP TD, Sf wF B kb G D pp t x TP TD W → Src W ab lb bz) := hid (fun W G D TP TD hs => Src.updL hs.up (HSB.out.below HWF.out) (fun hl b o e q => absurd q.1 (Nat.not_le_of_lt (HBB.out hl b o e))))
  have KP : Hid (∀ W G D TD, Sf wF B kb G D pp t x T TD W → Calls Tryz.prog 25 #[.pointer (some ⟨t, 0, none⟩), .int .i64 x1, .slice av lb cv] W fun e w' => e = .returned (.tuple #[.int .i64 R.2.1, .bool R.2.2.1, .int .i64 R.2.2.2]) ∧ ∃ G', Sf wF B kb G' D pp t x R.1 TD w') := by
    rw [gR]
    exact hid (fun W G D TD hs => (tpwrite W t T G hs.pr.tp HT.out x1 av lb cv bz (own_src (HGV.out _ _ _ _ _ hs)) (fun b o e => (hs.ot b (Nat.le_trans HKW.out (own_at HG.out b o e).1) (own_at HG.out b o e).2).2.2.1)).mono (by rintro e w' ⟨he, k⟩; exact ⟨he, hs.prog k⟩))
  have KD : Hid (∀ W G D TP, Sf wF B kb G D pp t x TP T W → Calls Tryz.prog 26 #[.pointer (some ⟨x, 0, none⟩), .int .i64 x1, .slice ab lb cb] W fun e w' => e = .returned (.tuple #[.int .i64 R.2.1, .bool R.2.2.1, .int .i64 R.2.2.2]) ∧ ∃ D', Sf wF B kb G D' pp t x TP R.1 w') := by
    rw [gR]
    exact hid (fun W G D TP hs => (tdwrite W x T D hs.pr.td HT.out x1 ab lb cb bz (HSW.out _ _ _ _ _ hs) (fun h0 b o e hD => absurd (hs.pr.gD b hD).1 (Nat.not_le_of_lt (HBB.out h0 b o e))) HLC.out HLL.out).mono (by rintro e w' ⟨he, k⟩; exact ⟨he, hs.doc1 k⟩))
  clear gR hkW
  go_wp2_with fail
  go_region_held3 (fun W => W.cell? ⟨pp, 0, none⟩ = some (.pointer (some ⟨t, 0, none⟩)) ∧ W.cell? ⟨pp, 1, none⟩ = some (.pointer (some ⟨x, 0, none⟩)) ∧ W.cell? ⟨kb, 1, none⟩ = some (.int .i64 x1) ∧ W.cell? ⟨kb, 6, none⟩ = some (.slice ab lb cb)) (first | (refine ⟨?_, ?_, ?_, ?_⟩ <;> assumption) | go_keep) (first
    | (go_at_call 25; refine (KP.out _ _ _ _ (by first | exact HS0.out.drew | exact HS0.out)).mono ?_; rintro e w1 ⟨rfl, G1, hS1⟩; have z0 := hS1.c0; have z1 := hS1.c1; have zk1 := hS1.k HKB.out hsF f1; have zk6 := hS1.k HKB.out hsF f6; have HS1 := hid hS1; clear hS1)
    | fail)
  go_wp2_with fail
  go_region_held3 (fun W => W.cell? ⟨pp, 0, none⟩ = some (.pointer (some ⟨t, 0, none⟩)) ∧ W.cell? ⟨pp, 1, none⟩ = some (.pointer (some ⟨x, 0, none⟩)) ∧ W.cell? ⟨kb, 1, none⟩ = some (.int .i64 x1) ∧ W.cell? ⟨kb, 6, none⟩ = some (.slice ab lb cb)) (first | (refine ⟨?_, ?_, ?_, ?_⟩ <;> assumption) | go_keep) (first
    | (go_at_call 26; refine (KD.out _ _ _ _ (by first | exact HS1.out.drew | exact HS1.out)).mono ?_; rintro e w2 ⟨rfl, D2, hS2⟩; have y0 := hS2.c0; have y1 := hS2.c1; have yk1 := hS2.k HKB.out hsF f1; have yk6 := hS2.k HKB.out hsF f6; have HS2 := hid hS2; clear hS2)
    | fail)
  have HO3 := hid (HGV.out _ _ _ _ _ HS2.out)
  have HO4 := hid (HGV.out _ _ _ _ _ HS2.out.drew)
  have HN3 : Hid (∀ b, (Value.slice av lb cv).ownBlock = some b → kb ≤ b ∧ b < wF.heap.size ∧ B ≤ b) := hid (fun b hb => ⟨Nat.le_trans HKW.out (HG.out.lt b hb).1, (HG.out.lt b hb).2, Nat.le_trans HB.out (by rw [← GKB.out]; exact Nat.le_trans HKW.out (HG.out.lt b hb).1)⟩)
  go_wp2_with (first
    | (go_at_call 23; first
        | (refine (equal_yes av ab lb cv lb cb bz w2.drew (own_src HO4.out) (HSW.out _ _ _ _ _ HS2.out.drew)).mono ?_; rintro e wz ⟨rfl, hwz⟩; subst wz)
        | (refine (equal_yes av ab lb cv lb cb bz w2 (own_src HO3.out) (HSW.out _ _ _ _ _ HS2.out)).mono ?_; rintro e wz ⟨rfl, hwz⟩; subst wz))
    | (go_at_call 24; first
        | (refine (spoil_any _ lb cv av bz w2.drew _ rfl HO4.out HLL.out).mono ?_; rintro e w4 ⟨rfl, hu4⟩; have HU4 := hid hu4; clear hu4)
        | (refine (spoil_any _ lb cv av bz w2 _ rfl HO3.out HLL.out).mono ?_; rintro e w4 ⟨rfl, hu4⟩; have HU4 := hid hu4; clear hu4)))
  go_ret
  first
  | exact HS2.out.drew.doneU HU4.out (fun b _ hu => HS2.out.drew.ot b (HN3.out b hu).1 (HN3.out b hu).2.1) (fun b hu => (HN3.out b hu).2.2) HWF.out HB.out HE.out
  | exact HS2.out.doneU HU4.out (fun b _ hu => HS2.out.ot b (HN3.out b hu).1 (HN3.out b hu).2.1) (fun b hu => (HN3.out b hu).2.2) HWF.out HB.out HE.out

end Go.Proofs.YtoknhcjneliboaaGreat
