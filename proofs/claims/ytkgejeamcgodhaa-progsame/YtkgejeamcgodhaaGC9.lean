/- dredgerplain.Program: a program in memory of its own. -/
import Derived.Test.YtkgejeamcgodhaaGC7
import Derived.Test.YtkgejeamcgodhaaGC8
namespace Go.Proofs.Ytkgejeamcgodhaa
open Go.RowKit
set_option linter.unusedVariables false
set_option maxRecDepth 20000

/-- A step that was laid anew. -/
structure StpA (P : Nat → Prop) (d : Nat) (w : World) (s t : Stp) : Prop where
  c : s.c = t.c
  rn : s.rn = t.rn
  len : s.qs.length = s.rn
  le : s.rn ≤ s.rc
  few : s.rc ≤ 9223372036854775807
  same : AllS (SameA d) s.qs t.qs
  row : KrowA P d w s.ra s.qs
/-- Steps all of whose blocks are such. -/
def PgmA (P : Nat → Prop) (d : Nat) (w : World) (a : Option Addr) (ps : List Stp) : Prop :=
  0 < ps.length → ∃ b o, a = some ⟨b, o, none⟩ ∧ b < w.heap.size ∧ P b ∧ ∀ j, ∀ h : j < ps.length, w.cell? ⟨b, o + j * 2, none⟩ = some (.int .i64 ps[j].c) ∧ w.cell? ⟨b, o + j * 2 + 1, none⟩ = some (.slice ps[j].ra ps[j].rn ps[j].rc) ∧ KrowA P d w ps[j].ra ps[j].qs ∧ ps[j].qs.length = ps[j].rn ∧ ps[j].rn ≤ ps[j].rc ∧ ps[j].rc ≤ 9223372036854775807
theorem PgmA.pgm {P : Nat → Prop} {d : Nat} {w : World} {a : Option Addr} {ps : List Stp} (h : PgmA P d w a ps) : Pgm d w a ps := fun h0 => by
  obtain ⟨b, o, e, hl, _, hc⟩ := h h0
  exact ⟨b, o, e, hl, fun j hj => ⟨(hc j hj).1, (hc j hj).2.1, (hc j hj).2.2.1.krow, (hc j hj).2.2.2.1, (hc j hj).2.2.2.2.1, (hc j hj).2.2.2.2.2⟩⟩
theorem PgmA.upd {P F : Nat → Prop} {d : Nat} {w w' : World} {a : Option Addr} {ps : List Stp} (h : PgmA P d w a ps) (u : Upd F w w') (hF : ∀ x, P x → ¬ F x) : PgmA P d w' a ps := fun h0 => by
  obtain ⟨b, o, e, hl, hP, hc⟩ := h h0
  exact ⟨b, o, e, Nat.lt_of_lt_of_le hl u.size, hP, fun j hj => ⟨(World.cell?_of_block (a := ⟨b, o + j * 2, none⟩) (u.block b hl (hF b hP))).trans (hc j hj).1, (World.cell?_of_block (a := ⟨b, o + j * 2 + 1, none⟩) (u.block b hl (hF b hP))).trans (hc j hj).2.1, (hc j hj).2.2.1.upd u hF, (hc j hj).2.2.2⟩⟩

/-- Steps that are laid one behind the other: what was laid so far. -/
structure Gs (W wr : World) (d i : Nat) (v : Value) (ps hs : List Stp) : Prop where
  len : hs.length = i
  own : wr.ownsRow W.heap.size 73 2 v i (stC hs)
  ok : ∀ j (h1 : j < hs.length) (h2 : j < ps.length), StpA (fun x => W.heap.size ≤ x ∧ some x ≠ v.ownBlock) d wr hs[j] ps[j]
  bel : Below W.heap.size W wr
theorem stC_snoc (ps : List Stp) (s : Stp) : stC (ps ++ [s]) = stC ps ++ [.int .i64 s.c, .slice s.ra s.rn s.rc] := by simp [stC]
theorem ownS_lt {w : World} {base n : Nat} {kv : Value} {xs : List Value} {g : Nat} (h : w.ownsRow base 73 2 kv n xs) (e : kv.ownBlock = some g) : base ≤ g ∧ g < w.heap.size := h.lt g e
theorem ownS_bel {w w' : World} {base n : Nat} {kv : Value} {xs : List Value} (h : w.ownsRow base 73 2 kv n xs) (hb : Below w.heap.size w w') : w'.ownsRow base 73 2 kv n xs := by
  refine ⟨h.1, ?_⟩
  rcases h.2 with h | ⟨g, cap, cur, e, h1, h2, r⟩
  · exact .inl h
  · exact .inr ⟨g, cap, cur, e, h1, (hb.block g (Array.getElem?_eq_some_iff.1 h2).1).trans h2, r⟩
theorem ownS_heap {w w' : World} {base n : Nat} {kv : Value} {xs : List Value} (h : w.ownsRow base 73 2 kv n xs) (e : w'.heap = w.heap) (o : Obj) : (w'.alloc o).ownsRow base 73 2 kv n xs := by
  refine ⟨h.1, ?_⟩
  rcases h.2 with h | ⟨g, cap, cur, e1, h1, h2, r⟩
  · exact .inl h
  · refine .inr ⟨g, cap, cur, e1, h1, ?_, r⟩
    have hl : g < w'.heap.size := by rw [e]; exact (Array.getElem?_eq_some_iff.1 h2).1
    rw [(below_box w' o).block g hl, e]
    exact h2
theorem stpA_of {P : Nat → Prop} {d : Nat} {w : World} {s t : Stp} {a : Option Addr} {c : Nat} {qs : List Ar} (e : s = t) (hl : qs.length = s.rn) (hm : s.rn ≤ c) (hx : c ≤ 9223372036854775807) (hS : AllS (SameA d) qs s.qs) (hK : KrowA P d w a qs) : StpA P d w ⟨s.c, a, s.rn, c, qs⟩ t := by
  subst e
  exact ⟨rfl, rfl, hl, hm, hx, hS, hK⟩
theorem Gs.step {W wr w1 z w2 : World} {d i : Nat} {v v' : Value} {ps hs : List Stp} (h : Gs W wr d i v ps hs) (hi : i < ps.length) {s : Stp} (hb : Below wr.heap.size wr w1) (hz : Below w1.heap.size w1 z) (hS : StpA (wr.heap.size ≤ ·) d w1 s ps[i])
    (ho : w2.ownsRow W.heap.size 73 2 v' (i + 1) (stC hs ++ [.int .i64 s.c, .slice s.ra s.rn s.rc])) (hg : z.grownBy w2 v.ownBlock) (hv : ∀ g, v'.ownBlock = some g → v.ownBlock = some g ∨ w1.heap.size ≤ g) : Gs W w2 d (i + 1) v' ps (hs ++ [s]) := by
  obtain ⟨h1, h3, h4, h5⟩ := h
  have hwr := h5.size
  have hr1 := hb.size
  have u12 : Upd (fun x => some x = v.ownBlock) w1 w2 := (Upd.of_below hz).trans (Upd.of_grown hg) (fun _ _ h => h)
  have u1 : Upd (fun x => some x = v.ownBlock) wr w2 := (Upd.of_below hb).trans u12 (fun _ _ h => h)
  refine ⟨by simp [h1], by rw [stC_snoc]; exact ho, fun j hj hj2 => ?_, h5.trans (u1.below hwr (fun x hx => (ownS_lt h3 hx.symm).1))⟩
  rcases Nat.lt_or_ge j hs.length with hjl | hjl
  · rw [List.getElem_append_left hjl]
    have s1 := h4 j hjl hj2
    have a1 := KrowA.mono (Q := fun x => (W.heap.size ≤ x ∧ some x ≠ v.ownBlock) ∧ x < wr.heap.size) s1.row (fun x hx hP => ⟨hP, hx⟩)
    have a2 := a1.upd u1 (fun x hP => hP.1.2)
    exact { s1 with row := a2.mono (fun x _ hP => ⟨hP.1.1, fun e => by
      rcases hv x e.symm with e' | e'
      · exact hP.1.2 e'.symm
      · have := hP.2; omega⟩) }
  · have ej : j = i := by simp at hj; omega
    subst ej
    have e : (hs ++ [s])[j] = s := by
      rw [List.getElem_append_right hjl]
      have : j - hs.length = 0 := by omega
      simp [this]
    rw [e]
    have a1 := KrowA.mono (Q := fun x => (wr.heap.size ≤ x ∧ some x ≠ v.ownBlock) ∧ x < w1.heap.size) hS.row (fun x hx hP => ⟨⟨hP, fun e => by have := (ownS_lt h3 e.symm).2; have hP2 : wr.heap.size ≤ x := hP; omega⟩, hx⟩)
    have a2 := a1.upd u12 (fun x hP => hP.1.2)
    exact { hS with row := a2.mono (fun x _ hP => ⟨by omega, fun e => by
      rcases hv x e.symm with e' | e'
      · exact hP.1.2 e'.symm
      · have := hP.2; omega⟩) }
theorem Gs.fin {W wr : World} {d i : Nat} {v : Value} {ps hs : List Stp} (h : Gs W wr d i v ps hs) (hl : ps.length = i) : ∃ a c, v = .slice a i c ∧ i ≤ c ∧ c ≤ 9223372036854775807 ∧ PgmA (W.heap.size ≤ ·) d wr a hs := by
  obtain ⟨h1, h3, h4, h5⟩ := h
  rcases h3.2 with ⟨e, h0⟩ | ⟨g, cap, cur, e, hb, hcur, hcap, hmx, hcs, htk⟩
  · subst h0
    exact ⟨none, 0, e, Nat.le_refl _, by omega, fun z => absurd z (by omega)⟩
  · refine ⟨_, cap, e, hcap, by unfold maxLen at hmx; omega, fun _ => ⟨g, 0, rfl, (Array.getElem?_eq_some_iff.1 hcur).1, hb, fun j hj => ?_⟩⟩
    have f : ∀ t, t < i * 2 → wr.cell? ⟨g, t, none⟩ = (stC hs)[t]? := fun t ht => by
      rw [cell_of_row wr g t _ 73 (0, 0) hcur, ← htk, List.getElem?_take, if_pos (by omega)]
      simp
    obtain ⟨k0, k1⟩ := stC_at hs j hj
    have s1 := h4 j hj (by omega)
    exact ⟨by rw [Nat.zero_add]; exact (f _ (by omega)).trans k0, by rw [Nat.zero_add]; exact (f _ (by omega)).trans k1, s1.row.mono (fun x _ hP => hP.1), s1.len, s1.le, s1.few⟩

set_option maxHeartbeats 8000000 in
theorem plprog_any (d : Nat) (a : Option Addr) (n c : Nat) (ps : List Stp) (W : World) (h : Pgm d W a ps) (hl : ps.length = n) (hr : n ≤ 4398046511104) (hw : ∀ j, ∀ hj : j < ps.length, fewL d ps[j].qs) :
    Calls Try.prog 19 #[.slice a n c] W fun e w' => ∃ a' c' hs, e = .returned (.slice a' n c') ∧ n ≤ c' ∧ c' ≤ 9223372036854775807 ∧ hs.length = n ∧ (∀ j (h1 : j < hs.length) (h2 : j < ps.length), hs[j].c = ps[j].c ∧ AllS (SameA d) hs[j].qs ps[j].qs) ∧ PgmA (W.heap.size ≤ ·) d w' a' hs ∧ Below W.heap.size W w' := by
  obtain ⟨i0, hi0, hz0, hz1, hz2⟩ := info_parts infoSt
  have HK := hid h
  have HN := hid hl
  have HWT := hid hw
  clear h hl hw
  go_enter Try.func19, Try.ntmps19
  go_wp2_with fail
  go_loopw [3, 8] (fun vx k wr => ∃ (i : Nat) (vv : Value) (hs : List Stp), i ≤ n ∧ k = .int .i64 i ∧ vv = vx ∧ Hid (Gs W wr d i vv ps hs)) (fun _ k _ => n - (intOf k).toNat)
  case atStart => exact ⟨0, _, [], by omega, rfl, rfl, hid ⟨rfl, World.ownsRow_nil _ _ _ _, fun j hj => absurd hj (by simp), Below.refl _ _⟩⟩
  case round =>
    obtain ⟨i, vv, hs, hi, rfl, rfl, HG⟩ := hrel
    by_cases hlt : i < n
    · have hil : i < ps.length := by rw [HN.out]; exact hlt
      have HB := HG.out.bel
      obtain ⟨s, hsE⟩ : ∃ s, s = ps[i] := ⟨_, rfl⟩
      have hkey : ∃ b o, a = some ⟨b, o, none⟩ ∧ b < wr.heap.size ∧ wr.cell? ⟨b, o + i * 2, none⟩ = some (.int .i64 s.c) ∧ wr.cell? ⟨b, o + i * 2 + 1, none⟩ = some (.slice s.ra s.rn s.rc) ∧ StpOk d wr s := by
        obtain ⟨b, o, e, hbl, hcs⟩ := (HK.out.below HB) (by omega)
        exact ⟨b, o, e, hbl, hsE ▸ (hcs i hil).1, hsE ▸ (hcs i hil).2.1, hsE ▸ (hcs i hil).2.2⟩
      obtain ⟨b, o, ha, hbl, q0, q1, hOk⟩ := hkey
      have hwi := HWT.out i hil
      rw [← hsE] at hwi
      have hwr := HB.size
      have k1 : Hid (∀ Z : World, Below wr.heap.size wr Z → Calls Try.prog 48 #[.slice s.ra s.rn s.rc] Z fun e w' => ∃ a c qs', e = .returned (.slice a s.rn c) ∧ s.rn ≤ c ∧ c ≤ 9223372036854775807 ∧ qs'.length = s.rn ∧ AllS (SameA d) qs' s.qs ∧ KrowA (Z.heap.size ≤ ·) d w' a qs' ∧ Below Z.heap.size Z w') := hid (fun Z hZ => plargs_any d s.ra s.rn s.rc s.qs Z (hOk.row.below hZ) hOk.len hOk.le hOk.few hwi)
      obtain ⟨V, gV⟩ : ∃ V, wr.alloc (.cells #[.int .i64 s.c, .slice s.ra s.rn s.rc] 73) = V := ⟨_, rfl⟩
      have hbV : Below wr.heap.size wr V := by rw [← gV]; exact below_box wr _
      have v0 : V.heap[wr.heap.size]? = some (.cells #[.int .i64 s.c, .slice s.ra s.rn s.rc] 73 (0, 0)) := by rw [← gV]; exact heap_alloc_new _ _
      have u0 : V.cell? ⟨wr.heap.size, 0, none⟩ = some (.int .i64 s.c) := cell_of_row _ _ 0 _ _ _ v0
      have u1 : V.cell? ⟨wr.heap.size, 1, none⟩ = some (.slice s.ra s.rn s.rc) := cell_of_row _ _ 1 _ _ _ v0
      have hsV : V.heap.size = wr.heap.size + 1 := by rw [← gV]; simp
      have hrV : wr.heap.size < V.heap.size := by omega
      have HBV := hid hbV
      have HE := hid hsE
      have GV := hid gV
      have hVb : Below W.heap.size W V := HB.trans (hbV.mono HB.size)
      have HVS := hid hVb.size
      clear hOk hwi gV hbV v0 hsE HB hsV hVb
      subst ha
      go_wp2_with fail
      rw [GV.out]
      go_region_law (first
        | (go_simp; go_at_call 48; refine (k1.out _ (below_hp HBV.out (by rfl) (by rfl) (by rfl) (by rfl))).mono ?_; rintro e w1 ⟨a1, c1, qs1, rfl, hm1, hx1, hl1, hS1, hK1, hb1⟩; have hb1' : Below V.heap.size V w1 := (below_hp (Below.refl _ V) (by rfl) (by rfl) (by rfl) (by rfl)).trans hb1; have HB1 : Hid (Below wr.heap.size wr w1) := hid (HBV.out.trans (hb1'.mono HBV.out.size)); have HL1 := hid hl1; have HS1 := hid hS1; have HK1 : Hid (KrowA (V.heap.size ≤ ·) d w1 a1 qs1) := hid hK1; have x0 : w1.cell? ⟨wr.heap.size, 0, none⟩ = some (.int .i64 s.c) := (hb1'.cell (p := ⟨wr.heap.size, 0, none⟩) hrV).trans u0; have x1 : w1.cell? ⟨wr.heap.size, 1, none⟩ = some (.slice s.ra s.rn s.rc) := (hb1'.cell (p := ⟨wr.heap.size, 1, none⟩) hrV).trans u1; have hs1 : V.heap.size ≤ w1.heap.size := hb1'.size; have HOW : Hid (∀ w' : World, w'.heap = w1.heap → ∀ o, (w'.alloc o).ownsRow W.heap.size 73 2 vv i (stC hs)) := hid (fun w' e o => ownS_heap (ownS_bel HG.out.own HB1.out) e o); clear hb1 hb1' hl1 hS1 hK1)
        | (refine step_append_lies _ (by rfl) _ _ 40 (by rfl) W.heap.size 73 i0 _ 2 32 Try.underlying40 hi0 hz0 hz1 hz2 rfl (by decide) vv i (stC hs) (by rfl) (HOW.out _ (by rfl) _) ⟨w1.heap.size, 0, none⟩ 1 1 [.int .i64 s.c, .slice a1 s.rn c1] (by rfl) rfl (World.news_of_block (heap_alloc_new _ _)) (by simp [Value.oneCell']) (by decide) (by unfold maxLen; omega) (by omega) (by simp; omega) (w1.heap.size + 1) (by simp) ?_; intro g cap w3 hO3 hG3 hat3 hlt3; have HN := hid (HG.out.step hil (s := ⟨s.c, a1, s.rn, c1, qs1⟩) HB1.out (below_hp (below_box w1 _) (by rfl) (by rfl) (by rfl) (by rfl)) (stpA_of HE.out HL1.out hm1 hx1 HS1.out (HK1.out.mono (fun x _ (hx : V.heap.size ≤ x) => (show wr.heap.size ≤ x by omega)))) hO3 hG3 (fun g' hg' => (by obtain rfl : g = g' := (by simpa [Value.ownBlock] using hg'); rcases hat3 with e | e; exact .inl e; exact .inr (by omega)))); clear hO3 hG3 hat3 hlt3))
      all_goals
        go_wp2_with fail
        go_roundw
        case rel => exact ⟨i + 1, _, _, by omega, by go_num, rfl, HN⟩
        case measure => simp [intOf]; omega
    · obtain rfl : i = n := by omega
      obtain ⟨a3, c3, rfl, h1, h2, h3⟩ := HG.out.fin HN.out
      have HF : Hid (hs.length = i ∧ (∀ j (h1 : j < hs.length) (h2 : j < ps.length), hs[j].c = ps[j].c ∧ AllS (SameA d) hs[j].qs ps[j].qs) ∧ PgmA (W.heap.size ≤ ·) d wr a3 hs ∧ Below W.heap.size W wr) := hid ⟨HG.out.len, fun j h1 h2 => ⟨(HG.out.ok j h1 h2).c, (HG.out.ok j h1 h2).same⟩, h3, HG.out.bel⟩
      clear h3
      go_wp2_with fail
      go_ret
      exact ⟨a3, c3, hs, rfl, h1, h2, HF.out.1, HF.out.2.1, HF.out.2.2.1, HF.out.2.2.2⟩

end Go.Proofs.Ytkgejeamcgodhaa
