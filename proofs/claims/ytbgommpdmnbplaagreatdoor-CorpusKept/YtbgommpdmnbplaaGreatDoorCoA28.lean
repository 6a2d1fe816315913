/- The corpus and what it stands on, merged. -/
import Derived.Test.YtbgommpdmnbplaaGreatDoorCoA26
import Derived.Test.YtbgommpdmnbplaaGreatDoorCoA18
import Derived.Laws.CopyOwn

/- Entries compared that may differ: some answer. -/
namespace Go.Proofs.YtbgommpdmnbplaaGreatDoor
open Go.RowKit Co Num Jr
set_option linter.unusedVariables false
set_option maxRecDepth 20000

/-- Some answer, and all that lay there lies there still. -/
def SomB (w : World) (r : Ending) (w' : World) : Prop := ∃ b : Bool, r = .returned (.bool b) ∧ Below w.heap.size w w'

theorem eq_any (a b : Option Addr) (n c m d : Nat) (xs ys : List Int) (w : World) (h : Ilst w a n c xs) (q : Ilst w b m d ys) (hn : n ≤ 9223372036854775807) (hm : m ≤ 9223372036854775807) :
    Calls Tryz.prog 58 #[.slice a n c, .slice b m d] w (SomB w) := by
  obtain rfl := h.size
  obtain rfl := q.size
  rcases Nat.eq_zero_or_pos xs.length with z | z
  · rw [z]
    refine (Tryz.slices_Equal_int_empty a b c ys.length d w hm).mono ?_
    rintro e w' ⟨rfl, rfl⟩
    exact ⟨_, rfl, Below.refl _ _⟩
  · rcases Nat.eq_zero_or_pos ys.length with z2 | z2
    · rw [z2]
      obtain ⟨k, gk⟩ : ∃ k, k = xs.length := ⟨_, rfl⟩
      rw [← gk] at z hn
      rw [← gk]
      clear h q gk z2
      have hv : ¬ (k : Int) = 0 := by omega
      have hb : ((k : Int) != 0) = true := by simp; omega
      go_enter Tryz.func58, Tryz.ntmps58
      go_wp2_with fail
      go_ret
      exact ⟨false, rfl, Below.refl _ _⟩
    · obtain ⟨b1, o1, rfl, _, hc1⟩ := h.cells z
      obtain ⟨b2, o2, rfl, _, hc2⟩ := q.cells z2
      refine (Tryz.slices_Equal_int b1 o1 xs.length c b2 o2 ys.length d xs ys w (Nat.le_refl _) (Nat.le_refl _) hn hm hc1 hc2).mono ?_
      rintro e w' ⟨rfl, q, rfl⟩
      exact ⟨_, rfl, ⟨rfl, rfl, rfl, Nat.le_refl _, fun _ _ => rfl⟩⟩

set_option maxHeartbeats 4000000 in
theorem ent_any (N N' : List Nat) (v v' : Value) (e e2 : Ety) (w : World) (h : Ev w N v e) (h' : Ev w N' v' e2) (hp : e.p.length ≤ 2000) (hq : e.q.length ≤ 2000) (hp2 : e2.p.length ≤ 2000) (hq2 : e2.q.length ≤ 2000) : Calls Tryz.prog 15 #[v, v'] w (SomB w) := by
  obtain ⟨pa, pc, qa, qc, rfl, hP, hQ⟩ := h
  obtain ⟨pa', pc', qa', qc', rfl, hP', hQ'⟩ := h'
  unfold entV
  obtain ⟨pn, gpn⟩ : ∃ pn, pn = e.p.length := ⟨_, rfl⟩
  obtain ⟨qn, gqn⟩ : ∃ qn, qn = e.q.length := ⟨_, rfl⟩
  obtain ⟨ks, gks⟩ : ∃ ks, ks = e.k := ⟨_, rfl⟩
  obtain ⟨gs, ggs⟩ : ∃ gs, gs = e.g := ⟨_, rfl⟩
  obtain ⟨fx, gfx⟩ : ∃ fx, fx = e.f := ⟨_, rfl⟩
  obtain ⟨pn2, gpn2⟩ : ∃ pn, pn = e2.p.length := ⟨_, rfl⟩
  obtain ⟨qn2, gqn2⟩ : ∃ qn, qn = e2.q.length := ⟨_, rfl⟩
  obtain ⟨ks2, gks2⟩ : ∃ ks, ks = e2.k := ⟨_, rfl⟩
  obtain ⟨gs2, ggs2⟩ : ∃ gs, gs = e2.g := ⟨_, rfl⟩
  obtain ⟨fx2, gfx2⟩ : ∃ fx, fx = e2.f := ⟨_, rfl⟩
  rw [← gpn, ← gqn, ← gks, ← ggs, ← gfx, ← gpn2, ← gqn2, ← gks2, ← ggs2, ← gfx2]
  rw [← gpn] at hP hp
  rw [← gqn] at hQ hq
  rw [← gpn2] at hP' hp2
  rw [← gqn2] at hQ' hq2
  obtain ⟨W, gW⟩ : ∃ W, W = (w.alloc (.cells #[.string ks, .string gs, .slice pa pn pc, .int .i64 fx, .slice qa qn qc] 37)).alloc (.cells #[.string ks2, .string gs2, .slice pa' pn2 pc', .int .i64 fx2, .slice qa' qn2 qc'] 37) := ⟨_, rfl⟩
  have hbW : Below w.heap.size w W := by rw [gW]; exact ((Below.refl _ _).alloc (Nat.le_refl _) _).alloc (by simp) _
  have hW0 : W.heap[w.heap.size]? = some (.cells #[.string ks, .string gs, .slice pa pn pc, .int .i64 fx, .slice qa qn qc] 37 (0, 0)) := by
    rw [gW]; exact (Below.heap_alloc _ _ _ (by simp)).trans (heap_alloc_new _ _)
  have hW1 : W.heap[w.heap.size + 1]? = some (.cells #[.string ks2, .string gs2, .slice pa' pn2 pc', .int .i64 fx2, .slice qa' qn2 qc'] 37 (0, 0)) := by
    rw [gW]
    have := heap_alloc_new (w.alloc (.cells #[.string ks, .string gs, .slice pa pn pc, .int .i64 fx, .slice qa qn qc] 37)) (.cells #[.string ks2, .string gs2, .slice pa' pn2 pc', .int .i64 fx2, .slice qa' qn2 qc'] 37)
    simpa using this
  have hwl : w.heap.size + 1 < W.heap.size := (Array.getElem?_eq_some_iff.1 hW1).1
  have k1 := hid (fun wx (hb : Below W.heap.size W wx) => eq_any pa pa' pn pc pn2 pc' e.p e2.p wx (hP.il.below (hbW.trans (hb.mono hbW.size))) (hP'.il.below (hbW.trans (hb.mono hbW.size))) (by omega) (by omega))
  have k2 := hid (fun wx (hb : Below W.heap.size W wx) => eq_any qa qa' qn qc qn2 qc' e.q e2.q wx (hQ.il.below (hbW.trans (hb.mono hbW.size))) (hQ'.il.below (hbW.trans (hb.mono hbW.size))) (by omega) (by omega))
  have hc : ∀ wx, Below W.heap.size W wx → wx.heap[w.heap.size]? = some (.cells #[.string ks, .string gs, .slice pa pn pc, .int .i64 fx, .slice qa qn qc] 37 (0, 0)) ∧ wx.heap[w.heap.size + 1]? = some (.cells #[.string ks2, .string gs2, .slice pa' pn2 pc', .int .i64 fx2, .slice qa' qn2 qc'] 37 (0, 0)) := fun wx hb => ⟨(hb.block _ (by omega)).trans hW0, (hb.block _ hwl).trans hW1⟩
  have c0 : W.cell? ⟨w.heap.size, 0, none⟩ = some (.string ks) := heap_cells hW0 0 _ rfl
  have c1 : W.cell? ⟨w.heap.size, 1, none⟩ = some (.string gs) := heap_cells hW0 1 _ rfl
  have c2 : W.cell? ⟨w.heap.size, 2, none⟩ = some (.slice pa pn pc) := heap_cells hW0 2 _ rfl
  have c3 : W.cell? ⟨w.heap.size, 3, none⟩ = some (.int .i64 fx) := heap_cells hW0 3 _ rfl
  have d0 : W.cell? ⟨w.heap.size + 1, 0, none⟩ = some (.string ks2) := heap_cells hW1 0 _ rfl
  have d1 : W.cell? ⟨w.heap.size + 1, 1, none⟩ = some (.string gs2) := heap_cells hW1 1 _ rfl
  have d2 : W.cell? ⟨w.heap.size + 1, 2, none⟩ = some (.slice pa' pn2 pc') := heap_cells hW1 2 _ rfl
  have d3 : W.cell? ⟨w.heap.size + 1, 3, none⟩ = some (.int .i64 fx2) := heap_cells hW1 3 _ rfl
  have GW := hid gW
  have HBW := hid hbW
  have HC := hid hc
  clear hP hQ hP' hQ' gW hbW hW0 hW1 hc gpn gqn gks ggs gfx gpn2 gqn2 gks2 ggs2 gfx2
  go_enter Tryz.func15, Tryz.ntmps15
  go_upto_region 1 with fail
  rw [← GW.out]
  go_wp2_with (first | (go_at_call 58; refine (k1.out _ (Below.refl _ _)).mono ?_; rintro r w1 ⟨B1, rfl, hb1⟩; have HB1 := hid hb1; have x4 : w1.cell? ⟨w.heap.size, 4, none⟩ = some (.slice qa qn qc) := heap_cells (HC.out w1 hb1).1 4 _ rfl; have y4 : w1.cell? ⟨w.heap.size + 1, 4, none⟩ = some (.slice qa' qn2 qc') := heap_cells (HC.out w1 hb1).2 4 _ rfl; clear hb1 k1; cases B1) | (go_at_call 58; refine (k2.out _ HB1.out).mono ?_; rintro r w2 ⟨B2, rfl, hb2⟩; have HB2 := hid (HB1.out.trans (hb2.mono HB1.out.size)); clear hb2 k2; cases B2))
  all_goals first
    | (go_ret; exact ⟨_, rfl, HBW.out.trans (HB2.out.mono HBW.out.size)⟩)
    | (go_ret; exact ⟨_, rfl, HBW.out.trans (HB1.out.mono HBW.out.size)⟩)
    | (go_ret; exact ⟨_, rfl, HBW.out⟩)
    | (go_wp2_with (first | (go_at_call 58; refine (k2.out _ HB1.out).mono ?_; rintro r w2 ⟨B2, rfl, hb2⟩; have HB2 := hid (HB1.out.trans (hb2.mono HB1.out.size)); clear hb2 k2; cases B2))
       all_goals first
         | (go_ret; exact ⟨_, rfl, HBW.out.trans (HB2.out.mono HBW.out.size)⟩)
         | (go_ret; exact ⟨_, rfl, HBW.out.trans (HB1.out.mono HBW.out.size)⟩)
         | (go_ret; exact ⟨_, rfl, HBW.out⟩)
         | (go_wp2_with fail
            go_ret
            first | exact ⟨_, rfl, HBW.out.trans (HB2.out.mono HBW.out.size)⟩ | exact ⟨_, rfl, HBW.out.trans (HB1.out.mono HBW.out.size)⟩))

set_option maxHeartbeats 8000000 in
theorem eqf_any (B B' : Nat) (v v' : Value) (L L2 : List Ety) (w : World) (h : Els w B v L) (h' : Els w B' v' L2) (hl : L.length ≤ 40) (hl2 : L2.length ≤ 40) (hL : ∀ e ∈ L, e.p.length ≤ 2000 ∧ e.q.length ≤ 2000) (hL2 : ∀ e ∈ L2, e.p.length ≤ 2000 ∧ e.q.length ≤ 2000) : Calls Tryz.prog 85 #[v, v', .func (.func 15) #[] #[]] w (SomB w) := by
  have hA := h
  have hA' := h'
  obtain ⟨vs, h1, h2, _, _⟩ := h
  obtain ⟨vs', h1', h2', _, _⟩ := h'
  obtain ⟨a, c, ev, hc1, hc2⟩ := own_shape h2
  obtain ⟨a', c', ev', hc1', hc2'⟩ := own_shape h2'
  subst ev
  subst ev'
  obtain ⟨ln, gln⟩ : ∃ ln, ln = L.length := ⟨_, rfl⟩
  obtain ⟨ln2, gln2⟩ : ∃ ln, ln = L2.length := ⟨_, rfl⟩
  rw [← gln] at hl hc1 hA
  rw [← gln2] at hl2 hc1' hA'
  rw [← gln, ← gln2]
  have GLN := hid gln
  have GLN2 := hid gln2
  have HL2 := hid hL2
  have HA := hid hA
  have HA' := hid hA'
  have HL := hid hL
  clear hA hA' hL hL2 h1 h2 h1' h2' gln gln2
  by_cases hne : ln = ln2
  case neg =>
    have hnv : ¬ (ln : Int) = (ln2 : Int) := by omega
    have hnb : ((ln : Int) != (ln2 : Int)) = true := by simp; omega
    go_enter Tryz.func85, Tryz.ntmps85
    go_wp2_with fail
    go_ret
    exact ⟨false, rfl, Below.refl _ _⟩
  subst hne
  go_enter Tryz.func85, Tryz.ntmps85
  go_upto_region 4 with fail
  go_loopw [17] (fun k wr => ∃ i : Nat, k = .int .i64 i ∧ i ≤ ln ∧ Hid (Below w.heap.size w wr)) (fun k _ => ln - (intOf k).toNat)
  case atStart => exact ⟨0, rfl, Nat.zero_le _, hid (Below.refl _ _)⟩
  case round =>
    obtain ⟨i, rfl, hin, HB⟩ := hrel
    by_cases hlt : i < ln
    · have hiL : i < L.length := by rw [← GLN.out]; exact hlt
      have hiL2 : i < L2.length := by rw [← GLN2.out]; exact hlt
      obtain ⟨g, c2, pa, pc, qa, qc, ev, hgl, _, _, c0, c1, c2', c3, c4, hp, hq⟩ := HA.out.at i hiL
      obtain ⟨g', c2x, pa', pc', qa', qc', ev', hgl', _, _, d0, d1, d2, d3, d4, hp', hq'⟩ := HA'.out.at i hiL2
      injection ev with ev1 ev2 ev3
      injection ev' with ev1' ev2' ev3'
      subst ev1
      subst ev1'
      have hle := HL.out L[i] (List.getElem_mem hiL)
      have hle2 := HL2.out L2[i] (List.getElem_mem hiL2)
      obtain ⟨e, ge⟩ : ∃ e, e = L[i] := ⟨_, rfl⟩
      obtain ⟨e2, ge2⟩ : ∃ e, e = L2[i] := ⟨_, rfl⟩
      rw [← ge] at c0 c1 c2' c3 c4 hp hq hle
      rw [← ge2] at d0 d1 d2 d3 d4 hp' hq' hle2
      have hE : ∀ wx, Below w.heap.size w wx → Ev wx [] (entV e.k e.g pa e.p.length pc e.f qa e.q.length qc) e := fun wx hb => Ev.upd (w := w) (N := vb (.slice (some ⟨g, 0, none⟩) ln c)) ⟨pa, pc, qa, qc, rfl, hp, hq⟩ (Upd.of_below (F := fun _ => False) hb) (fun _ _ h => h.elim) (fun x hx => by simp at hx)
      have hE' : ∀ wx, Below w.heap.size w wx → Ev wx [] (entV e2.k e2.g pa' e2.p.length pc' e2.f qa' e2.q.length qc') e2 := fun wx hb => Ev.upd (w := w) (N := vb (.slice (some ⟨g', 0, none⟩) ln c')) ⟨pa', pc', qa', qc', rfl, hp', hq'⟩ (Upd.of_below (F := fun _ => False) hb) (fun _ _ h => h.elim) (fun x hx => by simp at hx)
      have kS := hid (fun wx (hb : Below w.heap.size w wx) => ent_any [] [] _ _ e e2 wx (hE wx hb) (hE' wx hb) hle.1 hle.2 hle2.1 hle2.2)
      unfold entV at kS
      obtain ⟨pn, gpn⟩ : ∃ pn, pn = e.p.length := ⟨_, rfl⟩
      obtain ⟨qn, gqn⟩ : ∃ qn, qn = e.q.length := ⟨_, rfl⟩
      obtain ⟨ks, gks⟩ : ∃ ks, ks = e.k := ⟨_, rfl⟩
      obtain ⟨gs, ggs⟩ : ∃ gs, gs = e.g := ⟨_, rfl⟩
      obtain ⟨fx, gfx⟩ : ∃ fx, fx = e.f := ⟨_, rfl⟩
      obtain ⟨pn2, gpn2⟩ : ∃ pn, pn = e2.p.length := ⟨_, rfl⟩
      obtain ⟨qn2, gqn2⟩ : ∃ qn, qn = e2.q.length := ⟨_, rfl⟩
      obtain ⟨ks2, gks2⟩ : ∃ ks, ks = e2.k := ⟨_, rfl⟩
      obtain ⟨gs2, ggs2⟩ : ∃ gs, gs = e2.g := ⟨_, rfl⟩
      obtain ⟨fx2, gfx2⟩ : ∃ fx, fx = e2.f := ⟨_, rfl⟩
      rw [← gpn, ← gqn, ← gks, ← ggs, ← gfx, ← gpn2, ← gqn2, ← gks2, ← ggs2, ← gfx2] at kS
      rw [← gks] at c0
      rw [← ggs] at c1
      rw [← gpn] at c2'
      rw [← gfx] at c3
      rw [← gqn] at c4
      rw [← gks2] at d0
      rw [← ggs2] at d1
      rw [← gpn2] at d2
      rw [← gfx2] at d3
      rw [← gqn2] at d4
      have hb := HB.out
      have x0 : wr.cell? ⟨g, i * 5, none⟩ = some (.string ks) := (hb.cell (p := ⟨g, i * 5, none⟩) hgl).trans c0
      have x1 : wr.cell? ⟨g, i * 5 + 1, none⟩ = some (.string gs) := (hb.cell (p := ⟨g, i * 5 + 1, none⟩) hgl).trans c1
      have x2 : wr.cell? ⟨g, i * 5 + 2, none⟩ = some (.slice pa pn pc) := (hb.cell (p := ⟨g, i * 5 + 2, none⟩) hgl).trans c2'
      have x3 : wr.cell? ⟨g, i * 5 + 3, none⟩ = some (.int .i64 fx) := (hb.cell (p := ⟨g, i * 5 + 3, none⟩) hgl).trans c3
      have x4 : wr.cell? ⟨g, i * 5 + 4, none⟩ = some (.slice qa qn qc) := (hb.cell (p := ⟨g, i * 5 + 4, none⟩) hgl).trans c4
      obtain ⟨X, gX⟩ : ∃ X, X = wr.alloc (.cells #[.string ks, .string gs, .slice pa pn pc, .int .i64 fx, .slice qa qn qc] 37) := ⟨_, rfl⟩
      have hbX : Below wr.heap.size wr X := by rw [gX]; exact (Below.refl _ _).alloc (Nat.le_refl _) _
      have hX : X.heap[wr.heap.size]? = some (.cells #[.string ks, .string gs, .slice pa pn pc, .int .i64 fx, .slice qa qn qc] 37 (0, 0)) := by rw [gX]; exact heap_alloc_new _ _
      have hbwX : Below w.heap.size w X := hb.trans (hbX.mono hb.size)
      have z0 : X.cell? ⟨g', i * 5, none⟩ = some (.string ks2) := (hbwX.cell (p := ⟨g', i * 5, none⟩) hgl').trans d0
      have z1 : X.cell? ⟨g', i * 5 + 1, none⟩ = some (.string gs2) := (hbwX.cell (p := ⟨g', i * 5 + 1, none⟩) hgl').trans d1
      have z2 : X.cell? ⟨g', i * 5 + 2, none⟩ = some (.slice pa' pn2 pc') := (hbwX.cell (p := ⟨g', i * 5 + 2, none⟩) hgl').trans d2
      have z3 : X.cell? ⟨g', i * 5 + 3, none⟩ = some (.int .i64 fx2) := (hbwX.cell (p := ⟨g', i * 5 + 3, none⟩) hgl').trans d3
      have z4 : X.cell? ⟨g', i * 5 + 4, none⟩ = some (.slice qa' qn2 qc') := (hbwX.cell (p := ⟨g', i * 5 + 4, none⟩) hgl').trans d4
      obtain ⟨Y, gY⟩ : ∃ Y, Y = X.alloc (.cells #[.string ks2, .string gs2, .slice pa' pn2 pc', .int .i64 fx2, .slice qa' qn2 qc'] 37) := ⟨_, rfl⟩
      have hbY : Below X.heap.size X Y := by rw [gY]; exact (Below.refl _ _).alloc (Nat.le_refl _) _
      have hY : Y.heap[X.heap.size]? = some (.cells #[.string ks2, .string gs2, .slice pa' pn2 pc', .int .i64 fx2, .slice qa' qn2 qc'] 37 (0, 0)) := by rw [gY]; exact heap_alloc_new _ _
      have hYX : Y.heap[wr.heap.size]? = some (.cells #[.string ks, .string gs, .slice pa pn pc, .int .i64 fx, .slice qa qn qc] 37 (0, 0)) := (hbY.block _ (Array.getElem?_eq_some_iff.1 hX).1).trans hX
      have HBY : Hid (Below w.heap.size w Y) := hid (hbwX.trans (hbY.mono hbwX.size))
      have GX := hid gX
      have GY := hid gY
      have HY := hid hY
      have HYX := hid hYX
      clear ev2 ev3 ev2' ev3' c0 c1 c2' c3 c4 d0 d1 d2 d3 d4 hp hq hp' hq' hE hE' hle hle2 ge ge2 gpn gqn gks ggs gfx gpn2 gqn2 gks2 ggs2 gfx2 hb gX hbX hX hbwX gY hbY hY hYX
      go_upto_region 6 with fail
      rw [← GX.out]
      go_upto_region 7 with fail
      rw [← GY.out]
      clear x0 x1 x2 x3 x4 z0 z1 z2 z3 z4
      have x0 : Y.cell? ⟨wr.heap.size, 0, none⟩ = some (.string ks) := heap_cells HYX.out 0 _ rfl
      have x1 : Y.cell? ⟨wr.heap.size, 1, none⟩ = some (.string gs) := heap_cells HYX.out 1 _ rfl
      have x2 : Y.cell? ⟨wr.heap.size, 2, none⟩ = some (.slice pa pn pc) := heap_cells HYX.out 2 _ rfl
      have x3 : Y.cell? ⟨wr.heap.size, 3, none⟩ = some (.int .i64 fx) := heap_cells HYX.out 3 _ rfl
      have x4 : Y.cell? ⟨wr.heap.size, 4, none⟩ = some (.slice qa qn qc) := heap_cells HYX.out 4 _ rfl
      have z0 : Y.cell? ⟨X.heap.size, 0, none⟩ = some (.string ks2) := heap_cells HY.out 0 _ rfl
      have z1 : Y.cell? ⟨X.heap.size, 1, none⟩ = some (.string gs2) := heap_cells HY.out 1 _ rfl
      have z2 : Y.cell? ⟨X.heap.size, 2, none⟩ = some (.slice pa' pn2 pc') := heap_cells HY.out 2 _ rfl
      have z3 : Y.cell? ⟨X.heap.size, 3, none⟩ = some (.int .i64 fx2) := heap_cells HY.out 3 _ rfl
      have z4 : Y.cell? ⟨X.heap.size, 4, none⟩ = some (.slice qa' qn2 qc') := heap_cells HY.out 4 _ rfl
      go_wp2_with (first | (go_at_call 15; refine (kS.out _ HBY.out).mono ?_; rintro r w3 ⟨B3, rfl, hb3⟩; have HB3 := hid (HBY.out.trans (hb3.mono HBY.out.size)); clear hb3 kS; cases B3))
      · go_ret
        exact ⟨false, rfl, HB3.out⟩
      · go_roundw
        case rel => exact ⟨i + 1, by go_num, by omega, hid HB3.out⟩
        case measure => simp [intOf]; omega
    · have hltv : ¬ (i : Int) < (ln : Int) := by omega
      go_wp2_with fail
      go_ret
      exact ⟨true, rfl, HB.out⟩

theorem ents_any (B B' : Nat) (v v' : Value) (L L2 : List Ety) (w : World) (h : Els w B v L) (h' : Els w B' v' L2) (hl : L.length ≤ 40) (hl2 : L2.length ≤ 40) (hL : ∀ e ∈ L, e.p.length ≤ 2000 ∧ e.q.length ≤ 2000) (hL2 : ∀ e ∈ L2, e.p.length ≤ 2000 ∧ e.q.length ≤ 2000) : Calls Tryz.prog 32 #[v, v'] w (SomB w) := by
  have k := hid (eqf_any B B' v v' L L2 w h h' hl hl2 hL hL2)
  obtain ⟨_, _, h2, _, _⟩ := h
  obtain ⟨_, _, h2', _, _⟩ := h'
  obtain ⟨a, c, ev, _, _⟩ := own_shape h2
  obtain ⟨a', c', ev', _, _⟩ := own_shape h2'
  subst ev
  subst ev'
  obtain ⟨ln, gln⟩ : ∃ ln, ln = L.length := ⟨_, rfl⟩
  obtain ⟨ln2, gln2⟩ : ∃ ln, ln = L2.length := ⟨_, rfl⟩
  rw [← gln, ← gln2] at k
  rw [← gln, ← gln2]
  clear h2 h2' gln gln2
  go_enter Tryz.func32, Tryz.ntmps32
  go_wp2_with (first | (go_at_call 85; refine k.out.mono ?_; rintro r w1 ⟨B1, rfl, hb1⟩; have HB1 := hid hb1; clear hb1))
  go_ret
  exact ⟨B1, rfl, HB1.out⟩
end Go.Proofs.YtbgommpdmnbplaaGreatDoor

/- A group of which some sectors are there, the last of these torn: it is there whole, or not at all. -/
namespace Go.Proofs.YtbgommpdmnbplaaGreatDoor
open Go.RowKit Num Jr
set_option linter.unusedVariables false
set_option maxRecDepth 20000

namespace Jr
theorem rightS_end {zs : List Int} {place gen num : Nat} (h : rightS zs place gen num = true) : zs.getD 127 0 = 165 := by
  unfold rightS at h
  obtain ⟨h1, h2, h3⟩ := of_decide_eq_true h
  obtain ⟨l, gl⟩ : ∃ l, l = (zs.drop 21).take (zs.getD 1 0).toNat := ⟨_, rfl⟩
  have hl : l.length ≤ 100 := by rw [gl, List.length_take]; omega
  rw [← gl] at h3
  rw [h3, sectB, seald]
  rw [List.getD_eq_getElem?_getD, List.getElem?_append_right (by simp [length_le]; omega)]
  have e : 127 - (([74, ((l.length : Nat) : Int)] ++ le place 2 ++ le gen 8 ++ [if decide (zs.getD 12 0 = 1) then 1 else 0] ++ le num 8 ++ l ++ List.replicate (102 - l.length) 0) ++ le (Crc.crc ([74, ((l.length : Nat) : Int)] ++ le place 2 ++ le gen 8 ++ [if decide (zs.getD 12 0 = 1) then 1 else 0] ++ le num 8 ++ l ++ List.replicate (102 - l.length) 0)) 4).length = 0 := by
    simp [length_le]; omega
  rw [e]
  rfl

/-- A sector that was torn over noughts. -/
theorem torn_bad (zs : List Int) (t place gen num : Nat) (ht : t < 128) : rightS (zs.take t ++ zero128.drop t) place gen num = false := by
  cases hr : rightS (zs.take t ++ zero128.drop t) place gen num with
  | false => rfl
  | true =>
    have h := rightS_end hr
    exfalso
    have h0 : (zs.take t ++ zero128.drop t).getD 127 0 = 0 := by
      rw [List.getD_eq_getElem?_getD]
      have hl : (zs.take t).length ≤ t := by rw [List.length_take]; omega
      rw [List.getElem?_append_right (by omega)]
      cases hx : (zero128.drop t)[127 - (zs.take t).length]? with
      | none => rfl
      | some x =>
        have hm : x ∈ zero128 := List.mem_of_mem_drop (List.mem_of_getElem? hx)
        exact List.eq_of_mem_replicate hm
    omega

theorem loadGo_part (first gen num : Nat) (T : Nat → List Int) : ∀ (f : Nat) (S : Nat → List Int) (place : Nat) (load acc : List Int) (k : Nat), needN load.length ≤ f →
    (∀ j, place ≤ j → j < place + needN load.length → T (first + j) = writeGo first gen num f S place load (first + j) ∨ rightS (T (first + j)) j gen num = false) →
    (∃ j, place ≤ j ∧ j < place + needN load.length ∧ rightS (T (first + j)) j gen num = false) → loadGo T first gen num k place acc = []
  | 0, S, place, load, acc, k, hf, hT, ⟨j, h1, h2, _⟩ => by omega
  | f + 1, S, place, load, acc, 0, hf, hT, _ => rfl
  | f + 1, S, place, load, acc, k + 1, hf, hT, ⟨j, h1, h2, h3⟩ => by
    rw [loadGo]
    by_cases hb : rightS (T (first + place)) place gen num = false
    · rw [if_neg (by rw [hb]; simp)]
    · have hl : load ≠ [] := fun e => by rw [e] at h2; simp [needN] at h2; omega
      have hp : 0 < load.length := List.length_pos_iff.2 hl
      have hn := needN_pos load.length hp
      have hd : needN (load.drop 100).length = needN load.length - 1 := by rw [List.length_drop]; unfold needN; omega
      have hj : place < j := by
        rcases Nat.lt_or_ge place j with h | h
        · exact h
        · obtain rfl : j = place := by omega
          exact absurd h3 hb
      have hTp : T (first + place) = sectB place gen num (decide (load.drop 100 = [])) (load.take 100) := by
        rcases hT place (Nat.le_refl _) (by omega) with h | h
        · rw [h, writeGo, if_neg hl, writeGo_out first gen num f _ (place + 1) (load.drop 100) (first + place) (by omega)]
          simp [upS]
        · exact absurd h hb
      have hlen : 100 < load.length := by
        rcases Nat.lt_or_ge 100 load.length with h | h
        · exact h
        · unfold needN at h2; omega
      have hz : load.drop 100 ≠ [] := fun e => by have := congrArg List.length e; rw [List.length_drop] at this; simp at this; omega
      have htl : (load.take 100).length = min 100 load.length := by rw [List.length_take]
      rw [hTp, if_pos (rightS_sect _ _ _ _ _ (by omega) (by omega)), sectB_last, sectB_used, sectB_load, if_neg (by simp [hz]), if_neg (by rw [htl]; omega)]
      refine loadGo_part first gen num T f (upS S (first + place) (sectB place gen num (decide (load.drop 100 = [])) (load.take 100))) (place + 1) (load.drop 100) _ k (by omega) (fun i hi1 hi2 => ?_) ⟨j, by omega, by omega, h3⟩
      have := hT i (by omega) (by omega)
      rw [writeGo, if_neg hl] at this
      exact this

/-- Behind a crash within Commit. -/
theorem JI.whole {n : Nat} {S : Nat → List Int} {gen : Nat} {done : List (List Int)} {groups used : Nat} (h : JI n S gen done groups used) (waits : List (List Int)) (hw : waits ≠ []) (hr : ∀ r ∈ waits, RecOk r) (hroom : needN (loadOf waits).length ≤ szOf n - used) (f : Nat) (hf : needN (loadOf waits).length ≤ f) (T : Nat → List Int)
    (hT : ∀ i, T i = S i ∨ T i = writeGo (firstOf gen n) gen (groups + 1) f S used (loadOf waits) i ∨ ∃ t, t < 128 ∧ T i = (writeGo (firstOf gen n) gen (groups + 1) f S used (loadOf waits) i).take t ++ (S i).drop t) :
    (Jr.opened n T).1 = done ∨ (Jr.opened n T).1 = done ++ waits := by
  obtain ⟨W, gW⟩ : ∃ W, W = writeGo (firstOf gen n) gen (groups + 1) f S used (loadOf waits) := ⟨_, rfl⟩
  rw [← gW] at hT
  have hout : ∀ i, (i < firstOf gen n + used ∨ firstOf gen n + used + needN (loadOf waits).length ≤ i) → W i = S i := fun i hi => by rw [gW]; exact writeGo_out _ _ _ _ _ _ _ i hi
  have hTo : ∀ i, (i < firstOf gen n + used ∨ firstOf gen n + used + needN (loadOf waits).length ≤ i) → T i = S i := fun i hi => by
    rcases hT i with e | e | ⟨t, _, e⟩
    · exact e
    · rw [e]; exact hout i hi
    · rw [e, hout i hi, List.take_append_drop]
  have hf2 := firstOf_ge gen n
  have huse := h.use
  have hTi : ∀ j, used ≤ j → j < used + needN (loadOf waits).length → T (firstOf gen n + j) = W (firstOf gen n + j) ∨ rightS (T (firstOf gen n + j)) j gen (groups + 1) = false := fun j h1 h2 => by
    have hz := h.zero j h1 (by omega)
    rcases hT (firstOf gen n + j) with e | e | ⟨t, ht, e⟩
    · right
      rw [e, hz]
      have := torn_bad [] 0 j gen (groups + 1) (by omega)
      simpa using this
    · exact .inl e
    · right
      rw [e, hz]
      exact torn_bad _ t j gen (groups + 1) ht
  by_cases hbad : ∃ j, used ≤ j ∧ j < used + needN (loadOf waits).length ∧ rightS (T (firstOf gen n + j)) j gen (groups + 1) = false
  · left
    have hload : ∀ k, loadGo T (firstOf gen n) gen (groups + 1) k used [] = [] := fun k => loadGo_part (firstOf gen n) gen (groups + 1) T f S used (loadOf waits) [] k hf (fun j h1 h2 => by rw [← gW]; exact hTi j h1 h2) hbad
    have hg : grpsGo S (firstOf gen n) gen (szOf n) (szOf n + 1) 0 0 [] = (done, groups, used) := h.grp
    have := grpsGo_then S T (firstOf gen n) gen (szOf n) h.len (szOf n + 1) 0 0 [] (Nat.zero_le _) (by omega) (fun i hi => by rw [hg] at hi; exact hTo _ (.inl (by simp at hi; omega)))
    obtain ⟨f', hf', he⟩ := this
    rw [hg] at hf' he
    simp only at hf' he
    have hgr : grps T (firstOf gen n) gen (szOf n) = (done, groups, used) := by
      show grpsGo T (firstOf gen n) gen (szOf n) (szOf n + 1) 0 0 [] = _
      rw [he]
      obtain ⟨f', rfl⟩ : ∃ k, f' = k + 1 := ⟨f' - 1, by omega⟩
      rw [grpsGo, hload, if_pos recsOf_nil]
    have hnew : Jr.newest T = gen := by
      have := h.newest
      unfold Jr.newest at this ⊢
      rw [hTo 0 (.inl (by omega)), hTo 1 (.inl (by omega))]
      exact this
    have hg1 := h.g1
    unfold Jr.opened
    rw [hnew, if_neg (by omega)]
    rw [hgr]
  · right
    have hTW : T = W := by
      funext i
      by_cases hi : i < firstOf gen n + used ∨ firstOf gen n + used + needN (loadOf waits).length ≤ i
      · rw [hTo i hi, hout i hi]
      · have h1 : used ≤ i - firstOf gen n := by omega
        have h2 : i - firstOf gen n < used + needN (loadOf waits).length := by omega
        have e : firstOf gen n + (i - firstOf gen n) = i := by omega
        rcases hTi _ h1 h2 with h | h
        · rw [e] at h; exact h
        · exact absurd ⟨_, h1, h2, h⟩ hbad
    rw [hTW, gW]
    exact congrArg (·.1) (h.commit waits hw hr hroom f hf).opened.1
end Jr
end Go.Proofs.YtbgommpdmnbplaaGreatDoor

/- Bytes held against each other, whatever they are; lists of other lengths. -/
namespace Go.Proofs.YtbgommpdmnbplaaGreatDoor
open Go.RowKit Num Jr
set_option linter.unusedVariables false
set_option maxRecDepth 20000

set_option maxHeartbeats 400000 in
theorem equal_some (a0 a1 : Option Addr) (n c m d : Nat) (xs ys : List Int) (w : World) (h0 : Src w a0 n xs) (h1 : Src w a1 m ys) :
    Calls Tryz.prog 83 #[.slice a0 n c, .slice a1 m d] w fun e w' => (∃ b, e = .returned (.bool b)) ∧ w' = w := by
  have e0 := h0.convert (P := Tryz.prog) c 81 5 9 Tryz.underlying81 Tryz.underlying5 Tryz.underlying9
  have e1 := h1.convert (P := Tryz.prog) d 81 5 9 Tryz.underlying81 Tryz.underlying5 Tryz.underlying9
  obtain ⟨S, gS⟩ : ∃ S, S = strOfNums xs := ⟨_, rfl⟩
  obtain ⟨R, gR⟩ : ∃ R, R = strOfNums ys := ⟨_, rfl⟩
  rw [← gS] at e0
  rw [← gR] at e1
  clear gS gR h0 h1
  go_enter Tryz.func83, Tryz.ntmps83
  go_wp2
  go_ret
  exact ⟨⟨_, rfl⟩, rfl⟩

set_option maxHeartbeats 400000 in
theorem eqf_len (a1 a2 : Option Addr) (n m c1 c2 : Nat) (w : World) (h : n ≠ m) :
    Calls Tryz.prog 82 #[.slice a1 n c1, .slice a2 m c2, .func (.func 83) #[] #[]] w fun e w' => e = .returned (.bool false) ∧ w' = w := by
  have hv : ¬ (n : Int) = (m : Int) := by omega
  go_enter Tryz.func82, Tryz.ntmps82
  go_wp2_with fail
  go_ret
  exact ⟨rfl, rfl⟩

end Go.Proofs.YtbgommpdmnbplaaGreatDoor

/- A mixture of two images, as it comes to be: some sectors are the second one's, the last of these in a block of its own. -/
namespace Go.Proofs.YtbgommpdmnbplaaGreatDoor
open Go.RowKit Num Jr
set_option linter.unusedVariables false
set_option maxRecDepth 20000

def Mx (w0 w : World) (v : Value) (n : Nat) (S W T : Nat → List Int) (last : Int) : Prop :=
  ∃ vs, w.ownsRow 0 81 1 v n vs ∧ (∀ k, v.ownBlock = some k → w0.heap.size ≤ k) ∧ Below w0.heap.size w0 w ∧ (∀ j, j < n → ∃ u, vs[j]? = some u ∧ Byt w (vb v) u (T j)) ∧ (∀ j, T j = S j ∨ T j = W j) ∧
    (last = -1 ∨ ∃ l g c : Nat, last = (l : Int) ∧ l < n ∧ T l = W l ∧ vs[l]? = some (.slice (some ⟨g, 0, none⟩) 128 c) ∧ w.ownsRow w0.heap.size 5 1 (.slice (some ⟨g, 0, none⟩) 128 c) 128 ((W l).map (Value.int .u8)) ∧ g ∉ vb v ∧ ∀ j, j < n → j ≠ l → ∃ u, vs[j]? = some u ∧ Byt w [g] u (T j))

theorem Mx.start {w0 w : World} {v : Value} {n : Nat} {S W : Nat → List Int} (h : Pic w (vb v) v n S) (hv : ∀ k, v.ownBlock = some k → w0.heap.size ≤ k) (hb : Below w0.heap.size w0 w) : Mx w0 w v n S W S (-1) := by
  obtain ⟨vs, ho, hj⟩ := h
  exact ⟨vs, ho, hv, hb, hj, fun _ => .inl rfl, .inl rfl⟩

/-- A sector of the second image goes in. -/
theorem Mx.set {w0 w w1 : World} {v : Value} {n i g c k cv : Nat} {S W T : Nat → List Int} {last : Int} (h : Mx w0 w v n S W T last) (hi : i < n) (hb : Below w.heap.size w w1) (ho : w1.ownsRow w.heap.size 5 1 (.slice (some ⟨g, 0, none⟩) 128 c) 128 ((W i).map (Value.int .u8))) (gv : v = .slice (some ⟨k, 0, none⟩) n cv) :
    Mx w0 (w1.setCell ⟨k, i, none⟩ (.slice (some ⟨g, 0, none⟩) 128 c)) v n S W (fun j => if j = i then W i else T j) i := by
  obtain ⟨vs, hr, hv, hbw, hj, hT, _⟩ := h
  have hkv : vb v = [k] := by rw [gv]; simp [vb, Value.ownBlock]
  have hk : k < w.heap.size := own_lt hr (by rw [hkv]; simp)
  have hg := ho.lt g rfl
  have hgk : g ≠ k := by omega
  have hr1 := own_below hr hb
  rw [gv] at hr1
  have hst := (hr1.stored i (.slice (some ⟨g, 0, none⟩) 128 c)).1
  rw [← gv] at hst
  obtain ⟨w2, gw2⟩ : ∃ w2, w2 = w1.setCell ⟨k, i, none⟩ (.slice (some ⟨g, 0, none⟩) 128 c) := ⟨_, rfl⟩
  rw [← gw2] at hst ⊢
  have hU : Upd (· = k) w1 w2 := by rw [gw2]; exact Upd.setCell w1 _ _ rfl
  have hvl : vs.length = n := by have := hr.1; omega
  have ho2 := hU.own ho (fun x hx e => hgk ((show g = x by simpa [Value.ownBlock] using hx).trans e))
  have hcap := own_cap ho2
  have hs0 := hbw.size
  have hsrc : Src w2 (some ⟨g, 0, none⟩) 128 (W i) := Src.own ho2
  have hold : ∀ j u, j < n → Byt w (vb v) u (T j) → Byt w2 (vb v) u (T j) ∧ Byt w2 [g] u (T j) := fun j u _ hby => by
    have h2 : Byt w2 (vb v) u (T j) := (hby.upd (Upd.of_below hb) (grew_refl _ _)).upd (hU.mono (fun x _ hx => by rw [hkv]; have e : x = k := hx; simp [e])) (grew_refl _ _)
    refine ⟨h2, ?_⟩
    obtain ⟨a, c', e, hs, _, hc⟩ := hby
    obtain ⟨a2, c2, e2, hs2, _, hc2⟩ := h2
    have hlt := src_lt hs (by omega)
    rw [e] at e2
    injection e2 with e3 e4 e5
    injection e3 with e3
    subst e3
    refine ⟨a, c2, by rw [e, e5], hs2, fun hx => ?_, hc2⟩
    have : a.block = g := by simpa using hx
    omega
  refine ⟨vs.set i (.slice (some ⟨g, 0, none⟩) 128 c), hst, hv, (hbw.trans (hb.mono hs0)).trans (hU.below (Nat.le_trans hs0 hb.size) (fun x hx => by have e : x = k := hx; rw [e]; exact hv k (by rw [gv]; rfl))), fun j hl => ?_, fun j => ?_, .inr ⟨i, g, c, rfl, hi, by simp, by simp [hvl, hi], own_base ho2 hs0, by rw [hkv]; simpa using hgk, fun j hl hne => ?_⟩⟩
  · by_cases e : j = i
    · subst e
      refine ⟨_, by rw [List.getElem?_set, if_pos rfl, if_pos (by omega)], ?_⟩
      simp only [if_true]
      exact ⟨⟨g, 0, none⟩, c, rfl, hsrc, by rw [hkv]; simpa using hgk, hcap.1, hcap.2⟩
    · obtain ⟨u, h1, h2⟩ := hj j hl
      refine ⟨u, by rw [List.getElem?_set, if_neg (fun h => e h.symm)]; exact h1, ?_⟩
      simp only [if_neg e]
      exact (hold j u hl h2).1
  · by_cases e : j = i
    · subst e; simp
    · simp only [if_neg e]; exact hT j
  · obtain ⟨u, h1, h2⟩ := hj j hl
    refine ⟨u, by rw [List.getElem?_set, if_neg (fun h => hne h.symm)]; exact h1, ?_⟩
    simp only [if_neg hne]
    exact (hold j u hl h2).2

theorem Mx.below {w0 w w1 : World} {v : Value} {n : Nat} {S W T : Nat → List Int} {last : Int} (h : Mx w0 w v n S W T last) (hb : Below w.heap.size w w1) : Mx w0 w1 v n S W T last := by
  obtain ⟨vs, hr, hv, hbw, hj, hT, hl⟩ := h
  refine ⟨vs, own_below hr hb, hv, hbw.trans (hb.mono hbw.size), fun j hjn => ?_, hT, ?_⟩
  · obtain ⟨u, h1, h2⟩ := hj j hjn
    exact ⟨u, h1, h2.upd (Upd.of_below hb) (grew_refl _ _)⟩
  · rcases hl with h | ⟨l, g, c, h1, h2, h3, h4, h5, h6, h7⟩
    · exact .inl h
    · exact .inr ⟨l, g, c, h1, h2, h3, h4, own_below h5 hb, h6, fun j hjn hne => by
        obtain ⟨u, q1, q2⟩ := h7 j hjn hne
        exact ⟨u, q1, q2.upd (Upd.of_below hb) (grew_refl _ _)⟩⟩

/-- What the mixture is in the end. -/
def MixP (w : World) (n : Nat) (S W : Nat → List Int) (v : Value) (w' : World) : Prop := ∃ T : Nat → List Int, Pic w' [] v n T ∧ (∀ j, T j = S j ∨ T j = W j ∨ ∃ t, t < 128 ∧ T j = (W j).take t ++ (S j).drop t) ∧ Below w.heap.size w w'

theorem Mx.whole {w0 w : World} {v : Value} {n : Nat} {S W T : Nat → List Int} {last : Int} (h : Mx w0 w v n S W T last) : MixP w0 n S W v w := by
  obtain ⟨vs, hr, hv, hbw, hj, hT, hl⟩ := h
  refine ⟨T, ⟨vs, hr, fun j hjn => ?_⟩, fun j => ?_, hbw⟩
  · obtain ⟨u, h1, h2⟩ := hj j hjn
    exact ⟨u, h1, h2.weaken (fun x hx => by simp at hx)⟩
  · rcases hT j with h | h
    · exact .inl h
    · exact .inr (.inl h)

/-- The last of these, torn. -/
theorem Mx.torn {w0 w w1 : World} {v : Value} {n l g c t : Nat} {S W T : Nat → List Int} {vs : List Value} (hr : w.ownsRow 0 81 1 v n vs) (hbw : Below w0.heap.size w0 w) (hT : ∀ j, T j = S j ∨ T j = W j) (hl : l < n) (hvl : vs[l]? = some (.slice (some ⟨g, 0, none⟩) 128 c)) (hgv : g ∉ vb v) (h7 : ∀ j, j < n → j ≠ l → ∃ u, vs[j]? = some u ∧ Byt w [g] u (T j)) (hg0 : w0.heap.size ≤ g)
    (ht : t < 128) (hU : Upd (· = g) w w1) (ho : w1.ownsRow 0 5 1 (.slice (some ⟨g, 0, none⟩) 128 c) 128 (((W l).take t ++ (S l).drop t).map (Value.int .u8))) : MixP w0 n S W v w1 := by
  have hcap := own_cap ho
  refine ⟨fun j => if j = l then (W l).take t ++ (S l).drop t else T j, ⟨vs, hU.own hr (fun k hk e => hgv (by have e' : k = g := e; simp [vb, hk, e'])), fun j hjn => ?_⟩, fun j => ?_, hbw.trans (hU.below hbw.size (fun x hx => by have e : x = g := hx; omega))⟩
  · by_cases e : j = l
    · subst e
      refine ⟨_, hvl, ?_⟩
      simp only [if_true]
      exact ⟨⟨g, 0, none⟩, c, rfl, Src.own ho, by simp, hcap.1, hcap.2⟩
    · obtain ⟨u, h1, h2⟩ := h7 j hjn e
      refine ⟨u, h1, ?_⟩
      simp only [if_neg e]
      exact (h2.upd (hU.mono (fun x _ hx => by have e : x = g := hx; simp [e])) (grew_refl _ _)).weaken (fun x hx => by simp at hx)
  · by_cases e : j = l
    · subst e
      right; right
      exact ⟨t, ht, by simp⟩
    · simp only [if_neg e]
      rcases hT j with h | h
      · exact .inl h
      · exact .inr (.inl h)

end Go.Proofs.YtbgommpdmnbplaaGreatDoor

/- What dredgerplain.Mixed does. -/
namespace Go.Proofs.YtbgommpdmnbplaaGreatDoor
open Go.RowKit Num Jr
set_option linter.unusedVariables false
set_option maxRecDepth 20000

theorem Mx.cell {w0 w w1 : World} {n i k cv : Nat} {S W T : Nat → List Int} {last : Int} (h : Mx w0 w (.slice (some ⟨k, 0, none⟩) n cv) n S W T last) (hb : Below w.heap.size w w1) (hi : i < n) : ∃ old, w1.cell? ⟨k, i, none⟩ = some old := by
  obtain ⟨vs, hr, _, _, hj, _⟩ := h
  obtain ⟨u, hu, _⟩ := hj i hi
  exact ⟨u, by rw [(own_below hr hb).cellAt i (by omega)]; exact hu⟩
theorem Mx.frozen {w0 w w1 : World} {n k cv : Nat} {S W T : Nat → List Int} {last : Int} (h : Mx w0 w (.slice (some ⟨k, 0, none⟩) n cv) n S W T last) (hb : Below w.heap.size w w1) (i : Nat) : w1.frozen? ⟨k, i, none⟩ = false := by
  obtain ⟨vs, hr, _⟩ := h
  exact (own_below hr hb).frozenAt i

set_option maxHeartbeats 4000000 in
theorem mixed_any (g1 g2 n c1 c2 : Nat) (S W : Nat → List Int) (M1 M2 : List Nat) (mask torn : Int) (w : World) (hp1 : Pic w M1 (.slice (some ⟨g1, 0, none⟩) n c1) n S) (hp2 : Pic w M2 (.slice (some ⟨g2, 0, none⟩) n c2) n W) (hn : n ≤ 2048) (hn1 : 1 ≤ n) :
    Calls Tryz.prog 31 #[.slice (some ⟨g1, 0, none⟩) n c1, .slice (some ⟨g2, 0, none⟩) n c2, .int .u64 mask, .int .i64 torn] w fun e w' => ∃ v, e = .returned v ∧ MixP w n S W v w' := by
  have k1 := hid (pimage_any (.slice (some ⟨g1, 0, none⟩) n c1) n S M1 [] w hp1 hn (fun x hx => by simp at hx))
  obtain ⟨vs1, hr1, he1⟩ := hp1
  obtain ⟨vs2, hr2, he2⟩ := hp2
  have hc1 := own_cap hr1
  have hc2 := own_cap hr2
  have HR1 := hid hr1
  have HR2 := hid hr2
  have HE1 := hid he1
  have HE2 := hid he2
  clear hr1 hr2 he1 he2
  go_enter Tryz.func31, Tryz.ntmps31
  go_wp2_with fail
  refine k1.out.mono ?_
  rintro r w1 ⟨vo, rfl, hpo, hvo, hb1⟩
  rw [List.append_nil] at hpo
  have hM := Mx.start (W := W) hpo hvo hb1
  obtain ⟨vs, hro, _⟩ := hpo
  obtain ⟨ao, co, gvo, hco1, hco2⟩ := own_shape hro
  obtain ⟨k, rfl⟩ : ∃ k, ao = some ⟨k, 0, none⟩ := by
    rcases hro.2 with ⟨_, h⟩ | ⟨g, c, cur, h, _⟩
    · omega
    · rw [gvo] at h; injection h with h1 h2 h3; exact ⟨g, h1⟩
  subst gvo
  have HM := hid hM
  clear hM hro hvo hb1 k1
  go_wp2_with fail
  go_loopw [10, 11, 17] (fun kk last ii wr => ∃ (i k0 : Nat) (lst : Int), ii = .int .i64 i ∧ i ≤ n ∧ kk = .int .i64 k0 ∧ k0 ≤ i ∧ last = .int .i64 lst ∧ Hid (∃ T, Mx w wr (.slice (some ⟨k, 0, none⟩) n co) n S W T lst)) (fun _ _ ii _ => n - (intOf ii).toNat)
  case atStart => exact ⟨0, 0, -1, rfl, Nat.zero_le _, rfl, Nat.le_refl _, rfl, hid ⟨_, HM.out⟩⟩
  case round =>
    clear HM
    obtain ⟨i, k0, lst, rfl, hi, rfl, hk0, rfl, HX⟩ := hrel
    obtain ⟨T, hM⟩ := HX.out
    have hbw : Below w.heap.size w wr := by obtain ⟨_, _, _, h, _⟩ := hM; exact h
    by_cases hlt : i < n
    · obtain ⟨u1, hu1, hby1⟩ := HE1.out i hlt
      obtain ⟨u2, hu2, hby2⟩ := HE2.out i hlt
      obtain ⟨a1, d1, rfl, hs1, _, hd11, hd12⟩ := hby1.upd (Upd.of_below hbw) (grew_refl _ _)
      obtain ⟨a2, d2, rfl, hs2, _, hd21, hd22⟩ := hby2.upd (Upd.of_below hbw) (grew_refl _ _)
      have e1 : wr.cell? ⟨g1, i, none⟩ = some (.slice (some a1) 128 d1) := by rw [(own_below HR1.out hbw).cellAt i (by omega)]; exact hu1
      have e2 : wr.cell? ⟨g2, i, none⟩ = some (.slice (some a2) 128 d2) := by rw [(own_below HR2.out hbw).cellAt i (by omega)]; exact hu2
      have HS1 := hid hs1
      have HS2 := hid hs2
      have HMX := hid hM
      have HB := hid hbw
      clear hM hbw hs1 hs2 hu1 hu2 hby1 hby2 HX
      go_upto_region 6 with fail
      go_region_held3 (fun wx => wx.cell? ⟨g1, i, none⟩ = some (.slice (some a1) 128 d1) ∧ wx.cell? ⟨g2, i, none⟩ = some (.slice (some a2) 128 d2)) (exact ⟨e1, e2⟩) (first | (go_at_call 83; refine (equal_some (some a1) (some a2) 128 d1 128 d2 (S i) (W i) _ (HS1.out.heap (by rfl)) (HS2.out.heap (by rfl))).mono ?_; rintro r wx ⟨⟨b, rfl⟩, h⟩; subst wx))
      cases b with
      | true =>
        go_wp2_with fail
        go_roundw
        case rel => exact ⟨i + 1, k0, lst, by go_num, by omega, rfl, by omega, rfl, hid ⟨T, HMX.out.below (Below.refl _ wr).drew⟩⟩
        case measure => simp [intOf]; omega
      | false =>
        have e2d : wr.drew.cell? ⟨g2, i, none⟩ = some (.slice (some a2) 128 d2) := e2
        have kC := hid (clone_any a2 128 d2 (W i) wr.drew (HS2.out.heap rfl) (by omega))
        go_upto_region 8 with fail
        · go_wp2_with (first | (go_at_call 84; refine kC.out.mono ?_; rintro r w3 ⟨gc, cc, rfl, ho3, hb3⟩; have HO3 := hid ho3; have HB3 := hid (show Below wr.heap.size wr w3 from (Below.refl _ wr).drew.trans hb3); clear ho3 hb3 kC; obtain ⟨old, x1⟩ := HMX.out.cell HB3.out hlt; have x2 := HMX.out.frozen HB3.out i))
          go_roundw
          case rel => exact ⟨i + 1, k0 + 1, i, by go_num, by omega, by go_num, by omega, rfl, hid ⟨_, HMX.out.set hlt HB3.out HO3.out rfl⟩⟩
          case measure => simp [intOf]; omega
        · exact ⟨⟨i + 1, k0 + 1, lst, by go_num, by omega, by go_num, by omega, rfl, hid ⟨T, HMX.out.below (Below.refl _ wr).drew⟩⟩, by simp [intOf]; omega⟩
        · exact ⟨⟨i + 1, by omega, by omega, k0 + 1, by omega, by omega, hid ⟨T, HMX.out.below (Below.refl _ wr).drew⟩⟩, by simp [intOf]; omega⟩
    · obtain rfl : i = n := by omega
      have HMX := hid hM
      obtain ⟨vs, hr, hv, hb, hj, hTT, hl⟩ := hM
      have HB := hid hb
      clear HX hbw hb
      rcases hl with rfl | ⟨l, g, c, rfl, hli, hTl, hvl, hog, hgv, h7⟩
      · clear hr hv hj hTT
        go_wp2_with fail
        go_ret
        exact ⟨_, rfl, HMX.out.whole⟩
      · by_cases ht0 : torn < 0
        · have ht0' : ¬ 0 ≤ torn := by omega
          have hl0 : (0 : Int) ≤ (l : Int) := by omega
          clear hr hv hj hTT hvl hog hgv h7
          go_wp2_with fail
          go_ret
          exact ⟨_, rfl, HMX.out.whole⟩
        · obtain ⟨t, rfl⟩ : ∃ t : Nat, torn = (t : Int) := ⟨torn.toNat, by omega⟩
          obtain ⟨u1, hu1, hby1⟩ := HE1.out l hli
          obtain ⟨a1, d1, rfl, hs1, _, hd11, hd12⟩ := hby1.upd (Upd.of_below HB.out) (grew_refl _ _)
          have e1 : wr.cell? ⟨g1, l, none⟩ = some (.slice (some a1) 128 d1) := by rw [(own_below HR1.out HB.out).cellAt l (by omega)]; exact hu1
          by_cases ht : t < 128
          · have hkv : vb (.slice (some ⟨k, 0, none⟩) i co) = [k] := by simp [vb, Value.ownBlock]
            have hkg : k ≠ g := fun e => hgv (by rw [hkv, e]; simp)
            have hg0 : w.heap.size ≤ g := (hog.lt g rfl).1
            have hg1 : g1 ≠ g := fun e => by have := own_lt HR1.out (k := g1) (by simp [vb, Value.ownBlock]); omega
            have e3 : wr.cell? ⟨k, l, none⟩ = some (.slice (some ⟨g, 0, none⟩) 128 c) := by rw [hr.cellAt l (by omega)]; exact hvl
            obtain ⟨b1, o1, ea, _, _⟩ := hs1.2 (by omega)
            injection ea with ea
            subst ea
            have hSl := hs1.1
            obtain ⟨cur, hcur, hcc1, hcc2, hk3, hk4⟩ := own_heap hog
            have hsm : Src wr.drew (some ⟨b1, o1 + t, none⟩) (128 - t) ((S l).drop t) := by
              have := Src.mid (hs1.heap (w' := wr.drew) rfl) t (128 - t) (by omega)
              rwa [List.take_of_length_le (by rw [List.length_drop]; omega)] at this
            have crun := run_copy_row2 (P := Tryz.prog) wr.drew 81 81 3 5 1 g t (128 - t) (c - t) ⟨b1, o1 + t, none⟩ (128 - t) (d1 - t) (128 - t) cur.toArray 5 (((S l).drop t).map (Value.int .u8)) Tryz.underlying81 Tryz.psz5 hcur (by simp) (by simp; omega) (src_cells hsm) (by simp; omega) (u8_one _)
            obtain ⟨W7, g7⟩ : ∃ W7, W7 = wr.drew.setRow g (cur.toArray.toList.take t ++ ((S l).drop t).map (Value.int .u8) ++ cur.toArray.toList.drop (t + (((S l).drop t).map (Value.int .u8)).length)).toArray := ⟨_, rfl⟩
            rw [← g7] at crun
            have hrow : W7.heap[g]? = some (.cells (cur.toArray.toList.take t ++ ((S l).drop t).map (Value.int .u8) ++ cur.toArray.toList.drop (t + (((S l).drop t).map (Value.int .u8)).length)).toArray 5 (0, 0)) := by rw [g7]; exact setRow_heap wr.drew g _ _ _ _ hcur
            have hU7 : Upd (· = g) wr W7 := by
              rw [g7]
              exact ⟨rfl, rfl, rfl, by simp, fun x _ hx => setRow_other wr.drew g x _ hx⟩
            have ho7 : W7.ownsRow 0 5 1 (.slice (some ⟨g, 0, none⟩) 128 c) 128 (((W l).take t ++ (S l).drop t).map (Value.int .u8)) := by
              have hWl : (W l).length = 128 := by have := hog.1; simpa using this
              have hDl : ((S l).drop t).length = 128 - t := by rw [List.length_drop]; omega
              have hct : cur.take t = ((W l).take t).map (Value.int .u8) := by
                rw [List.map_take, ← hk4, List.take_take]
                congr 1
                omega
              refine ⟨by simp only [List.length_map, List.length_append, List.length_take, hDl]; omega, .inr ⟨g, c, _, rfl, Nat.zero_le _, hrow, hcc1, hcc2, ?_, ?_⟩⟩
              · simp only [List.size_toArray, List.length_append, List.length_take, List.length_map, List.length_drop]
                omega
              · show List.take (128 * 1) (cur.take t ++ ((S l).drop t).map (Value.int .u8) ++ cur.drop (t + (((S l).drop t).map (Value.int .u8)).length)) = _
                rw [hct, ← List.map_append]
                have hl2 : (((W l).take t ++ (S l).drop t).map (Value.int .u8)).length = 128 := by
                  simp only [List.length_map, List.length_append, List.length_take, hDl]; omega
                rw [List.take_append_of_le_length (by omega), List.take_of_length_le (by omega)]
            have hP := hid (Mx.torn hr HB.out hTT hli hvl hgv h7 hg0 ht hU7 ho7)
            have q1 : W7.cell? ⟨k, l, none⟩ = some (.slice (some ⟨g, 0, none⟩) 128 c) := by rw [g7]; exact (cell_setRow_block _ _ _ _ hkg).trans e3
            have q2 : W7.cell? ⟨g1, l, none⟩ = some (.slice (some ⟨b1, o1, none⟩) 128 d1) := by rw [g7]; exact (cell_setRow_block _ _ _ _ hg1).trans e1
            have ht1 : (t : Int) < 128 := by omega
            have ht2 : (0 : Int) ≤ (t : Int) := by omega
            have hl0 : (0 : Int) ≤ (l : Int) := by omega
            have ht3 : (t : Int) ≤ (c : Int) := by omega
            have ht4 : ¬ (c : Int) = (t : Int) := by omega
            have ht5 : (t : Int) ≤ (d1 : Int) := by omega
            have ht6 : ¬ (d1 : Int) = (t : Int) := by omega
            clear hr hv hj hTT hvl hog hgv h7 hs1 hu1 hby1 hsm hcur hk3 hk4 hrow hU7 ho7 g7 hSl hkv
            have ht7 : (t : Int) ≤ 128 := by omega
            go_upto_region 13 with fail
            go_region_held3 (fun wx => wx.cell? ⟨k, l, none⟩ = some (.slice (some ⟨g, 0, none⟩) 128 c) ∧ wx.cell? ⟨g1, l, none⟩ = some (.slice (some ⟨b1, o1, none⟩) 128 d1)) (first | go_keep | exact ⟨q1, q2⟩) (fail)
            go_wp2_with fail
            go_ret
            exact ⟨_, rfl, hP.out⟩
          · clear hr hv hj hTT hvl hog hgv h7 hs1 hu1 hby1
            have ht' : ¬ (t : Int) < 128 := by omega
            have hl0 : (0 : Int) ≤ (l : Int) := by omega
            have ht00 : (0 : Int) ≤ (t : Int) := by omega
            go_wp2_with fail
            go_ret
            exact ⟨_, rfl, HMX.out.whole⟩
end Go.Proofs.YtbgommpdmnbplaaGreatDoor

/- A list of records cloned; an image that was mixed, as a list, and the disk that it makes. -/
namespace Go.Proofs.YtbgommpdmnbplaaGreatDoor
open Go.RowKit Num Jr
set_option linter.unusedVariables false
set_option maxRecDepth 20000

theorem Pic.eq {w : World} {M : List Nat} {v : Value} {n : Nat} {f g : Nat → List Int} (h : Pic w M v n f) (e : ∀ j, j < n → f j = g j) : Pic w M v n g := by
  obtain ⟨vs, h1, h2⟩ := h
  exact ⟨vs, h1, fun j hj => by rw [← e j hj]; exact h2 j hj⟩

theorem Pic.len {w : World} {M : List Nat} {v : Value} {n : Nat} {f : Nat → List Int} (h : Pic w M v n f) (j : Nat) (hj : j < n) : (f j).length = 128 := by
  obtain ⟨vs, h1, h2⟩ := h
  obtain ⟨u, _, a, c, _, hs, _⟩ := h2 j hj
  exact hs.1

/-- An image as a list. -/
theorem Pic.img {w : World} {M : List Nat} {v : Value} {n : Nat} {f : Nat → List Int} (h : Pic w M v n f) : ∃ a c, v = .slice a n c ∧ n ≤ c ∧ c ≤ 9223372036854775807 ∧ Img w a ((List.range n).map f) := by
  have hlen := h.len
  obtain ⟨vs, ho, hj⟩ := h
  obtain ⟨a, c, rfl, h1, h2⟩ := own_shape ho
  refine ⟨a, c, rfl, h1, h2, fun h0 => ?_⟩
  have h0' : 0 < n := by simpa using h0
  obtain ⟨g, rfl⟩ : ∃ g, a = some ⟨g, 0, none⟩ := by
    rcases ho.2 with ⟨_, h⟩ | ⟨g, c, cur, h, _⟩
    · omega
    · injection h with h1 h2 h3; exact ⟨g, h1⟩
  refine ⟨g, 0, rfl, (ho.lt g rfl).2, fun j hjl => ?_⟩
  have hjn : j < n := by simpa using hjl
  obtain ⟨u, h3, a, c, e, hs, _, hc1, hc2⟩ := hj j hjn
  have hl := hlen j hjn
  refine ⟨u, by rw [Nat.zero_add, ho.cellAt _ (by omega)]; exact h3, ?_⟩
  rw [List.getElem_map, List.getElem_range]
  exact ⟨some a, c, by rw [e, hl], by rw [hl]; exact hs, fun _ b o _ hx => by simp at hx, by omega, hc2, fun h => by simp at h, by omega⟩

theorem flat_sec (n : Nat) (f : Nat → List Int) (hl : ∀ j, j < n → (f j).length = 128) (i : Nat) (hi : i < n) : sec ((List.range n).map f).flatten i = f i := by
  have key : ∀ (L : List (List Int)) (k : Nat), (∀ l ∈ L, l.length = 128) → ∀ h : k < L.length, sec L.flatten k = L[k] := by
    intro L
    induction L with
    | nil => intro k _ h; simp at h
    | cons x L ih =>
      intro k hL h
      have hx : x.length = 128 := hL x (List.mem_cons_self ..)
      cases k with
      | zero =>
        show (List.take 128 (List.drop (0 * 128) (x ++ L.flatten))) = x
        rw [Nat.zero_mul, List.drop_zero, List.take_append_of_le_length (by omega), List.take_of_length_le (by omega)]
      | succ k =>
        have hk : k < L.length := by simpa using h
        have := ih k (fun l hl => hL l (List.mem_cons_of_mem _ hl)) hk
        show (List.take 128 (List.drop ((k + 1) * 128) (x ++ L.flatten))) = L[k]
        rw [List.drop_append, List.drop_eq_nil_of_le (by omega), List.nil_append, ← this]
        show _ = (List.take 128 (List.drop (k * 128) L.flatten))
        congr 2
        omega
  have := key ((List.range n).map f) i (fun l hlm => by
    obtain ⟨j, hj, rfl⟩ := List.mem_map.1 hlm
    exact hl j (List.mem_range.1 hj)) (by simpa using hi)
  rw [this, List.getElem_map, List.getElem_range]

/-- The disk of an image that is known by a function. -/
theorem jd_pic {d : Dk} {w : World} {p n : Nat} {T : Nat → List Int} (hok : d.ok w p) (hn : d.n = n) (hd : d.dur = ((List.range n).map T).flatten) (hw : d.wr = d.dur) (he : d.eps = []) (ho : d.opn = false) (hB : ∀ i, Bytes (T i)) (hl : ∀ i, (T i).length = 128) : Jd d w p n T ∧ d.rest := by
  refine ⟨⟨hok, hn, fun i hi => ?_, fun i hi => ?_, hB, hl, by rw [he]; simp, .inr he⟩, he, ho⟩
  · rw [hw, hd]; exact flat_sec n T (fun j _ => hl j) i hi
  · have e1 : d.ab = [] := by simp [Dk.ab, he]
    rw [e1]
    show sec d.dur i = T i
    rw [hd]; exact flat_sec n T (fun j _ => hl j) i hi
end Go.Proofs.YtbgommpdmnbplaaGreatDoor
