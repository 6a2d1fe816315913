/- dredgerplain.Args: arguments in memory of their own. -/
import Derived.Test.YtkgejeamcgodhaaGC6
import Derived.Deep.AppendLies
namespace Go.Proofs.Ytkgejeamcgodhaa
open Go.RowKit
set_option linter.unusedVariables false
set_option maxRecDepth 20000

/-- A row of arguments all of whose blocks are such. -/
def KrowA (P : Nat → Prop) (d : Nat) (w : World) (a : Option Addr) (qs : List Ar) : Prop :=
  0 < qs.length → ∃ b o, a = some ⟨b, o, none⟩ ∧ b < w.heap.size ∧ P b ∧ ∀ j, ∀ h : j < qs.length, HdAt w b (o + j * 4) qs[j].h ∧ Oka P d w qs[j]
theorem KrowA.krow {P : Nat → Prop} {d : Nat} {w : World} {a : Option Addr} {qs : List Ar} (h : KrowA P d w a qs) : Krow d w a qs := fun h0 => by
  obtain ⟨b, o, e, hl, _, hc⟩ := h h0
  exact ⟨b, o, e, hl, fun j hj => ⟨(hc j hj).1, Oka.okd d _ (hc j hj).2⟩⟩
theorem KrowA.upd {P F : Nat → Prop} {d : Nat} {w w' : World} {a : Option Addr} {qs : List Ar} (h : KrowA P d w a qs) (u : Upd F w w') (hF : ∀ x, P x → ¬ F x) : KrowA P d w' a qs := fun h0 => by
  obtain ⟨b, o, e, hl, hP, hc⟩ := h h0
  exact ⟨b, o, e, Nat.lt_of_lt_of_le hl u.size, hP, fun j hj => ⟨(hc j hj).1.blk (u.block b hl (hF b hP)), Oka.upd u hF d _ (hc j hj).2⟩⟩
theorem KrowA.mono {P Q : Nat → Prop} {d : Nat} {w : World} {a : Option Addr} {qs : List Ar} (h : KrowA P d w a qs) (hq : ∀ x, x < w.heap.size → P x → Q x) : KrowA Q d w a qs := fun h0 => by
  obtain ⟨b, o, e, hl, hP, hc⟩ := h h0
  exact ⟨b, o, e, hl, hq b hl hP, fun j hj => ⟨(hc j hj).1, Oka.mono hq d _ (hc j hj).2⟩⟩

/-- A row that grows: what was laid so far. -/
structure Gr (W wr : World) (d i : Nat) (v : Value) (qs qs' : List Ar) : Prop where
  len : qs'.length = i
  all : AllS (SameA d) qs' (qs.take i)
  own : wr.ownsRow W.heap.size 30 4 v i (rowC qs')
  ok : ∀ j, ∀ h : j < qs'.length, Oka (fun x => W.heap.size ≤ x ∧ some x ≠ v.ownBlock) d wr qs'[j]
  bel : Below W.heap.size W wr

theorem allS_snoc {s : Ar → Ar → Prop} : ∀ (qs rs : List Ar) (a b : Ar), AllS s qs rs → s a b → AllS s (qs ++ [a]) (rs ++ [b])
  | [], [], a, b, _, h => ⟨h, trivial⟩
  | x :: qs, y :: rs, a, b, ⟨h1, h2⟩, h => ⟨h1, allS_snoc qs rs a b h2 h⟩

theorem Gr.step {W wr w1 w2 : World} {d i : Nat} {v v' : Value} {qs qs' : List Ar} (h : Gr W wr d i v qs qs') (hi : i < qs.length) {A : Ar} (hb : Below wr.heap.size wr w1) (hA : Oka (wr.heap.size ≤ ·) d w1 A) (hS : SameA d A qs[i]) (o : Obj)
    (ho : w2.ownsRow W.heap.size 30 4 v' (i + 1) (rowC qs' ++ arC A.h)) (hg : (w1.alloc o).grownBy w2 v.ownBlock) (hv : ∀ g, v'.ownBlock = some g → v.ownBlock = some g ∨ w1.heap.size + 1 ≤ g) : Gr W w2 d (i + 1) v' qs (qs' ++ [A]) := by
  obtain ⟨h1, h2, h3, h4, h5⟩ := h
  have hwr := h5.size
  have hr1 := hb.size
  have u1 : Upd (fun x => some x = v.ownBlock) wr w2 := ((Upd.of_below hb).trans (Upd.of_below (below_box w1 o) |>.mono (fun x _ h => h)) (fun _ _ h => h)).trans (Upd.of_grown hg) (fun _ _ h => h)
  have u12 : Upd (fun x => some x = v.ownBlock) w1 w2 := (Upd.of_below (below_box w1 o)).trans (Upd.of_grown hg) (fun _ _ h => h)
  refine ⟨by simp [h1], ?_, by rw [rowC_snoc]; exact ho, fun j hj => ?_, h5.trans (u1.below hwr (fun x hx => (own_lt h3 hx.symm).1))⟩
  · rw [List.take_add_one, List.getElem?_eq_getElem hi]
    exact allS_snoc _ _ _ _ h2 hS
  · rcases Nat.lt_or_ge j qs'.length with hjl | hjl
    · rw [List.getElem_append_left hjl]
      have a1 := Oka.mono (Q := fun x => (W.heap.size ≤ x ∧ some x ≠ v.ownBlock) ∧ x < wr.heap.size) (fun x hx hP => ⟨hP, hx⟩) d _ (h4 j hjl)
      have a2 := Oka.upd u1 (fun x hP => hP.1.2) d _ a1
      exact Oka.mono (fun x _ hP => ⟨hP.1.1, fun e => by
        rcases hv x e.symm with e' | e'
        · exact hP.1.2 e'.symm
        · have := hP.2; omega⟩) d _ a2
    · have e : (qs' ++ [A])[j] = A := by
        rw [List.getElem_append_right hjl]
        have : j - qs'.length = 0 := by simp at hj; omega
        simp [this]
      rw [e]
      have a1 := Oka.mono (Q := fun x => (wr.heap.size ≤ x ∧ some x ≠ v.ownBlock) ∧ x < w1.heap.size) (fun x hx hP => ⟨⟨hP, fun e => by have := (own_lt h3 e.symm).2; omega⟩, hx⟩) d _ hA
      have a2 := Oka.upd u12 (fun x hP => hP.1.2) d _ a1
      exact Oka.mono (fun x _ hP => ⟨by omega, fun e => by
        rcases hv x e.symm with e' | e'
        · exact hP.1.2 e'.symm
        · have := hP.2; omega⟩) d _ a2
theorem Gr.fin {W wr : World} {d i : Nat} {v : Value} {qs qs' : List Ar} (h : Gr W wr d i v qs qs') : ∃ a c, v = .slice a i c ∧ i ≤ c ∧ c ≤ 9223372036854775807 ∧ KrowA (W.heap.size ≤ ·) d wr a qs' := by
  obtain ⟨h1, h2, h3, h4, h5⟩ := h
  rcases h3.2 with ⟨e, h0⟩ | ⟨g, cap, cur, e, hb, hcur, hcap, hmx, hcs, htk⟩
  · subst h0
    exact ⟨none, 0, e, Nat.le_refl _, by omega, fun z => absurd z (by omega)⟩
  · refine ⟨_, cap, e, hcap, by unfold maxLen at hmx; omega, fun _ => ⟨g, 0, rfl, (Array.getElem?_eq_some_iff.1 hcur).1, hb, fun j hj => ⟨?_, Oka.mono (fun x _ hP => hP.1) d _ (h4 j hj)⟩⟩⟩
    have f : ∀ t, t < 4 → wr.cell? ⟨g, 0 + j * 4 + t, none⟩ = (arC qs'[j].h)[t]? := fun t ht => by
      rw [Nat.zero_add, cell_of_row wr g (j * 4 + t) _ 30 (0, 0) hcur, ← rowC_at qs' j hj t ht, ← htk, List.getElem?_take, if_pos (by omega)]
      simp
    exact ⟨f 0 (by omega), f 1 (by omega), f 2 (by omega), f 3 (by omega)⟩

theorem ownA_bel {w w' : World} {base n : Nat} {kv : Value} {xs : List Value} (h : w.ownsRow base 30 4 kv n xs) (hb : Below w.heap.size w w') : w'.ownsRow base 30 4 kv n xs := by
  refine ⟨h.1, ?_⟩
  rcases h.2 with h | ⟨g, cap, cur, e, h1, h2, r⟩
  · exact .inl h
  · exact .inr ⟨g, cap, cur, e, h1, (hb.block g (Array.getElem?_eq_some_iff.1 h2).1).trans h2, r⟩
set_option maxHeartbeats 8000000 in
theorem plargs_any : ∀ (d : Nat) (ra : Option Addr) (rn rc : Nat) (qs : List Ar) (W : World), Krow d W ra qs → qs.length = rn → rn ≤ rc → rc ≤ 9223372036854775807 → fewL d qs →
    Calls Try.prog 48 #[.slice ra rn rc] W fun e w' => ∃ a c qs', e = .returned (.slice a rn c) ∧ rn ≤ c ∧ c ≤ 9223372036854775807 ∧ qs'.length = rn ∧ AllS (SameA d) qs' qs ∧ KrowA (W.heap.size ≤ ·) d w' a qs' ∧ Below W.heap.size W w' := by
  intro d
  induction d with
  | zero =>
    intro ra rn rc qs W hK hrn hrc hrb hcn
    have h0 : qs.length = 0 := by
      rcases Nat.eq_zero_or_pos qs.length with h | h
      · exact h
      · obtain ⟨_, _, _, _, hc⟩ := hK h
        exact (hc 0 h).2.elim
    obtain rfl : qs = [] := List.eq_nil_of_length_eq_zero h0
    obtain rfl : rn = 0 := hrn.symm
    clear hK
    go_enter Try.func48, Try.ntmps48
    go_wp2_with fail
    go_loopw [3, 8] (fun v k wr => k = .int .i64 0 ∧ v = .slice none 0 0 ∧ wr = W) (fun _ _ _ => 0)
    case atStart => exact ⟨rfl, rfl, by first | rfl | trivial⟩
    case round =>
      obtain ⟨rfl, rfl, rfl⟩ := hrel
      have HE : Hid (∃ qs' : List Ar, qs'.length = 0 ∧ AllS (SameA 0) qs' [] ∧ KrowA (wr.heap.size ≤ ·) 0 wr none qs' ∧ Below wr.heap.size wr wr) := hid ⟨[], rfl, trivial, fun z => absurd z (by simp), Below.refl _ _⟩
      go_wp2_with fail
      go_ret
      obtain ⟨qs', h1, h2, h3, h4⟩ := HE.out
      exact ⟨none, 0, qs', rfl, Nat.le_refl _, by omega, h1, h2, h3, h4⟩
  | succ d ih =>
    intro ra rn rc qs W hK hrn hrc hrb hcn
    obtain ⟨i0, hi0, hz0, hz1, hz2⟩ := info_parts infoA
    have HK := hid hK
    have HN := hid hrn
    have IH := hid ih
    have HWT := hid hcn
    clear hK ih hrn hcn
    go_enter Try.func48, Try.ntmps48
    go_wp2_with fail
    go_loopw [3, 8] (fun vx k wr => ∃ (i : Nat) (vv : Value) (qs' : List Ar), i ≤ rn ∧ k = .int .i64 i ∧ vv = vx ∧ Hid (Gr W wr (d + 1) i vv qs qs')) (fun _ k _ => rn - (intOf k).toNat)
    case atStart => exact ⟨0, _, [], by omega, rfl, rfl, hid ⟨rfl, trivial, World.ownsRow_nil _ _ _ _, fun j hj => absurd hj (by simp), Below.refl _ _⟩⟩
    case round =>
      obtain ⟨i, vv, qs', hi, rfl, rfl, HG⟩ := hrel
      by_cases hlt : i < rn
      · have hil : i < qs.length := by rw [HN.out]; exact hlt
        have hwt : fewA (d + 1) qs[i] := HWT.out.2 _ (List.getElem_mem hil)
        have HB := HG.out.bel
        obtain ⟨A, hA⟩ : ∃ A, A = qs[i] := ⟨_, rfl⟩
        have hkey : ∃ b o, ra = some ⟨b, o, none⟩ ∧ b < W.heap.size ∧ HdAt W b (o + i * 4) A.h ∧ Okd (d + 1) W A := by
          obtain ⟨b, o, e, hbl, hcs⟩ := HK.out (by omega)
          exact ⟨b, o, e, hbl, hA ▸ (hcs i hil).1, hA ▸ (hcs i hil).2⟩
        obtain ⟨b, o, hra, hbl, hat, ho1, ho2, ho3⟩ := hkey
        rw [← hA] at hwt
        obtain ⟨hw1, hw2, hw3⟩ := hwt
        have hwr := HB.size
        have hbr : b < wr.heap.size := by omega
        have hwk : fewL d A.ks := ⟨by omega, hw3⟩
        have q0 : wr.cell? ⟨b, o + i * 4, none⟩ = some (.int .i64 A.h.k) := (HB.cell (p := ⟨b, o + i * 4, none⟩) hbl).trans hat.c0
        have q1 : wr.cell? ⟨b, o + i * 4 + 1, none⟩ = some (.int .i64 A.h.v) := (HB.cell (p := ⟨b, o + i * 4 + 1, none⟩) hbl).trans hat.c1
        have q2 : wr.cell? ⟨b, o + i * 4 + 2, none⟩ = some (.slice A.h.ka A.h.kn A.h.kc) := (HB.cell (p := ⟨b, o + i * 4 + 2, none⟩) hbl).trans hat.c2
        have q3 : wr.cell? ⟨b, o + i * 4 + 3, none⟩ = some (.slice A.h.ba A.h.bn A.h.bc) := (HB.cell (p := ⟨b, o + i * 4 + 3, none⟩) hbl).trans hat.c3
        have k1 : Hid (∀ Z : World, Below W.heap.size W Z → Calls Try.prog 77 #[.slice A.h.ba A.h.bn A.h.bc] Z fun e w' => ∃ a c, e = .returned (.slice a A.h.bn c) ∧ A.h.bn ≤ c ∧ c ≤ 9223372036854775807 ∧ Src w' a A.h.bn A.h.bs ∧ BytS (Z.heap.size ≤ ·) w' a A.h.bn ∧ Below Z.heap.size Z w') := hid (fun Z hZ => bcl2_any A.h.ba A.h.bn A.h.bc A.h.bs Z (ho1.bs.below hZ) hw2)
        have k2 : Hid (∀ Z : World, Below W.heap.size W Z → Calls Try.prog 48 #[.slice A.h.ka A.h.kn A.h.kc] Z fun e w' => ∃ a c qs', e = .returned (.slice a A.h.kn c) ∧ A.h.kn ≤ c ∧ c ≤ 9223372036854775807 ∧ qs'.length = A.h.kn ∧ AllS (SameA d) qs' A.ks ∧ KrowA (Z.heap.size ≤ ·) d w' a qs' ∧ Below Z.heap.size Z w') := hid (fun Z hZ => IH.out A.h.ka A.h.kn A.h.kc A.ks Z (Krow.below ho3 hZ) ho2 ho1.km ho1.kb hwk)
        obtain ⟨V, gV⟩ : ∃ V, wr.alloc (.cells #[.int .i64 A.h.k, .int .i64 A.h.v, .slice A.h.ka A.h.kn A.h.kc, .slice A.h.ba A.h.bn A.h.bc] 30) = V := ⟨_, rfl⟩
        have hbV : Below wr.heap.size wr V := by rw [← gV]; exact below_box wr _
        have v0 : V.heap[wr.heap.size]? = some (.cells #[.int .i64 A.h.k, .int .i64 A.h.v, .slice A.h.ka A.h.kn A.h.kc, .slice A.h.ba A.h.bn A.h.bc] 30 (0, 0)) := by rw [← gV]; exact heap_alloc_new _ _
        have u2 : V.cell? ⟨wr.heap.size, 2, none⟩ = some (.slice A.h.ka A.h.kn A.h.kc) := cell_of_row _ _ 2 _ _ _ v0
        have u3 : V.cell? ⟨wr.heap.size, 3, none⟩ = some (.slice A.h.ba A.h.bn A.h.bc) := cell_of_row _ _ 3 _ _ _ v0
        have hsV : V.heap.size = wr.heap.size + 1 := by rw [← gV]; simp
        have HBV := hid hbV
        have HV0 := hid v0
        have HBW : Hid (Below W.heap.size W V) := hid (HB.trans (hbV.mono HB.size))
        have HAE := hid hA
        have HWR := hid HB
        have HO2 := hid ho2
        have GV := hid gV
        have hrV : wr.heap.size < V.heap.size := by omega
        have HSV := hid hsV
        clear hat ho1 ho2 ho3 hw1 hw2 hw3 hwk gV hbV v0 hA HB hsV
        subst hra
        go_wp2_with fail
        rw [GV.out]
        go_region_law (first
          | (go_simp; go_at_call 77; refine (k1.out _ (below_hp HBW.out (by rfl) (by rfl) (by rfl) (by rfl))).mono ?_; rintro e w1 ⟨ba, bc, rfl, hbm, hbb, hSr, hBy, hb1⟩; have hb1' : Below V.heap.size V w1 := (below_hp (Below.refl _ V) (by rfl) (by rfl) (by rfl) (by rfl)).trans hb1; have HB1 := hid hb1'; have HSr := hid hSr; have HBy : Hid (BytS (V.heap.size ≤ ·) w1 ba A.h.bn) := hid hBy; have HBW1 : Hid (Below W.heap.size W w1) := hid (HBW.out.trans (hb1'.mono HBW.out.size)); have x2 : w1.cell? ⟨wr.heap.size, 2, none⟩ = some (.slice A.h.ka A.h.kn A.h.kc) := (HB1.out.cell (p := ⟨wr.heap.size, 2, none⟩) hrV).trans u2; have x3 : w1.cell? ⟨wr.heap.size, 3, none⟩ = some (.slice A.h.ba A.h.bn A.h.bc) := (HB1.out.cell (p := ⟨wr.heap.size, 3, none⟩) hrV).trans u3; have hs1 : V.heap.size ≤ w1.heap.size := HB1.out.size; clear hb1 hb1' hSr hBy)
          | (go_simp; go_at_call 48; refine (k2.out _ (below_hp HBW1.out (by rfl) (by rfl) (by rfl) (by rfl))).mono ?_; rintro e w2 ⟨ka, kc, qs2, rfl, hkm, hkb, hl2, hS2, hK2, hb2⟩; have hb2' : Below w1.heap.size w1 w2 := (below_hp (Below.refl _ w1) (by rfl) (by rfl) (by rfl) (by rfl)).trans hb2; have HB2 := hid hb2'; have HL2 := hid hl2; have HS2 := hid hS2; have HK2 : Hid (KrowA (w1.heap.size ≤ ·) d w2 ka qs2) := hid hK2; have g2 : w2.heap[wr.heap.size]? = some (.cells #[.int .i64 A.h.k, .int .i64 A.h.v, .slice A.h.ka A.h.kn A.h.kc, .slice A.h.ba A.h.bn A.h.bc] 30 (0, 0)) := (HB2.out.block _ (by omega)).trans ((HB1.out.block _ hrV).trans HV0.out); have y2 : w2.cell? ⟨wr.heap.size, 2, none⟩ = some (.slice A.h.ka A.h.kn A.h.kc) := cell_of_row _ _ 2 _ _ _ g2; have y3 : w2.cell? ⟨wr.heap.size, 3, none⟩ = some (.slice A.h.ba A.h.bn A.h.bc) := cell_of_row _ _ 3 _ _ _ g2; have f2 : w2.frozen? ⟨wr.heap.size, 2, none⟩ = false := (by simp [World.frozen?, g2]); have f3 : w2.frozen? ⟨wr.heap.size, 3, none⟩ = false := (by simp [World.frozen?, g2]); have HG2 := hid g2; have hs2 : w1.heap.size ≤ w2.heap.size := HB2.out.size; clear hb2 hb2' hl2 hS2 hK2 g2))
        all_goals
          obtain ⟨Z, gZ⟩ : ∃ Z, (w2.setCell ⟨wr.heap.size, 3, none⟩ (.slice ba A.h.bn bc)).setCell ⟨wr.heap.size, 2, none⟩ (.slice ka A.h.kn kc) = Z := ⟨_, rfl⟩
          rw [gZ]
          obtain ⟨hh, ghh⟩ : ∃ hh : Hd, hh = ⟨A.h.k, A.h.v, ka, A.h.kn, kc, ba, A.h.bn, bc, A.h.bs⟩ := ⟨_, rfl⟩
          have hsV := HSV.out
          have zg : Z.heap[wr.heap.size]? = some (.cells (arC hh).toArray 30 (0, 0)) := by
            rw [← gZ, heap_setCell_same _ _ _ _ _ _ (heap_setCell_same w2 _ 3 _ _ _ HG2.out), ghh]
            simp [arC]
          have uZ : Upd (· = wr.heap.size) w2 Z := by
            rw [← gZ]
            exact (Upd.setCell (F := (· = wr.heap.size)) w2 ⟨wr.heap.size, 3, none⟩ _ rfl).trans (Upd.setCell (F := (· = wr.heap.size)) _ ⟨wr.heap.size, 2, none⟩ _ rfl) (fun _ _ h => h)
          have hbZ : Below wr.heap.size wr Z := (HBV.out.trans ((HB1.out.trans (HB2.out.mono HB1.out.size)).mono HBV.out.size)).trans (uZ.below (by omega) (fun x hx => by omega))
          have hA2 : Oka (wr.heap.size ≤ ·) (d + 1) Z (.mk hh qs2) := by
            rw [ghh]
            refine ⟨⟨?_, hbm, hbb, hkm, hkb⟩, fun hp b o e => ?_, HL2.out, fun h0 => ?_⟩
            · rcases Nat.eq_zero_or_pos A.h.bn with hz | hp
              · exact ⟨HSr.out.1, fun h0 => absurd (show 0 < A.h.bn from h0) (by omega)⟩
              · obtain ⟨g', _, e', hP', _⟩ := HBy.out hp
                have hP2 : V.heap.size ≤ g' := hP'
                exact uZ.src (HSr.out.below HB2.out) (fun b o e f => by
                  rw [e'] at e
                  injection e with e
                  injection e with e1
                  omega)
            · obtain ⟨g', _, e', hP', _⟩ := HBy.out hp
              have hP2 : V.heap.size ≤ g' := hP'
              have e2 : ba = some ⟨b, o, none⟩ := e
              rw [e'] at e2
              injection e2 with e2
              injection e2 with e1
              show wr.heap.size ≤ b
              omega
            · obtain ⟨g', o', e', hl', hP', hc'⟩ := (HK2.out.upd uZ (fun x (hx : w1.heap.size ≤ x) e => by omega)) h0
              have hP2 : w1.heap.size ≤ g' := hP'
              exact ⟨g', o', e', hl', by show wr.heap.size ≤ g'; omega, fun j hj => ⟨(hc' j hj).1, Oka.mono (fun x _ (hx : w1.heap.size ≤ x) => by show wr.heap.size ≤ x; omega) d _ (hc' j hj).2⟩⟩
          have hS2 : SameA (d + 1) (.mk hh qs2) qs[i] := by
            rw [← HAE.out, ghh]
            exact ⟨rfl, rfl, rfl, HS2.out⟩
          have c0 : Z.cell? ⟨wr.heap.size, 0, none⟩ = some (.int .i64 hh.k) := cell_of_row _ _ 0 _ _ _ zg
          have c1 : Z.cell? ⟨wr.heap.size, 1, none⟩ = some (.int .i64 hh.v) := cell_of_row _ _ 1 _ _ _ zg
          have c2 : Z.cell? ⟨wr.heap.size, 2, none⟩ = some (.slice hh.ka hh.kn hh.kc) := cell_of_row _ _ 2 _ _ _ zg
          have c3 : Z.cell? ⟨wr.heap.size, 3, none⟩ = some (.slice hh.ba hh.bn hh.bc) := cell_of_row _ _ 3 _ _ _ zg
          have HOZ : Hid (Z.ownsRow W.heap.size 30 4 vv i (rowC qs')) := hid (ownA_bel HG.out.own hbZ)
          have HA2 := hid hA2
          have HSA := hid hS2
          have HBZ := hid hbZ
          have hwZ : W.heap.size ≤ Z.heap.size := by have := hbZ.size; omega
          have hi20 : i + 1 ≤ 2199023255552 := by have := HWT.out.1; omega
          clear ghh gZ zg uZ hbZ hA2 hS2 f2 f3 y2 y3 x2 x3 hkm hkb hbm hbb
          go_wp2_with (at_builtin; go_must (refine wpList_append_lies _ rfl (.tmp 20) (.tmp 22) 27 rfl W.heap.size 30 i0 _ 4 64 Try.underlying27 hi0 hz0 hz1 hz2 rfl (by decide) _ i (rowC qs') rfl (HOZ.out.alloc _) ⟨Z.heap.size, 0, none⟩ 1 1 (arC hh) rfl rfl (World.news_of_block (heap_alloc_new Z _)) (by simp [arC, Value.oneCell']) (by decide) (by unfold maxLen; omega) (by omega) (by simp; omega) (Z.heap.size + 1) (by simp) ?_))
          intro g cap w3 hO3 hG3 hat3 hlt3
          have HN := hid (HG.out.step hil HBZ.out HA2.out HSA.out _ hO3 hG3 (fun g' hg' => by
            obtain rfl : g = g' := by simpa [Value.ownBlock] using hg'
            rcases hat3 with e | e
            · exact .inl e
            · exact .inr (by omega)))
          clear hO3 hG3 hat3 hlt3
          go_wp2_with fail
          go_roundw
          case rel => exact ⟨i + 1, _, _, by omega, by go_num, rfl, HN⟩
          case measure => simp [intOf]; omega
      · obtain rfl : i = rn := by omega
        obtain ⟨a, c, rfl, h1, h2, h3⟩ := HG.out.fin
        have hT : qs.take i = qs := List.take_of_length_le (by rw [HN.out]; exact Nat.le_refl _)
        have HF : Hid (qs'.length = i ∧ AllS (SameA (d + 1)) qs' qs ∧ KrowA (W.heap.size ≤ ·) (d + 1) wr a qs' ∧ Below W.heap.size W wr) := hid ⟨HG.out.len, by have := HG.out.all; rw [hT] at this; exact this, h3, HG.out.bel⟩
        clear h3
        go_wp2_with fail
        go_ret
        exact ⟨a, c, qs', rfl, h1, h2, HF.out.1, HF.out.2.1, HF.out.2.2.1, HF.out.2.2.2⟩

end Go.Proofs.Ytkgejeamcgodhaa
