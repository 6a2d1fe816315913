/- What Open does. -/
import Derived.Test.YtdnblbahecpmkaaGreatFOpen
namespace Go.Proofs.YtdnblbahecpmkaaGreat
open Go.RowKit Go.ChangeMaps Go.MapKept
set_option linter.unusedVariables false
set_option maxRecDepth 20000

theorem Upd.bel {G : Nat → Prop} {B : Nat} {w w' : World} (u : Upd G w w') (hB : B ≤ w.heap.size) (hG : ∀ y, y < w.heap.size → G y → B ≤ y) : Below B w w' :=
  ⟨u.os, u.tape, u.output, u.size, fun k hk => u.block k (Nat.lt_of_lt_of_le hk hB) (fun g => by have := hG k (Nat.lt_of_lt_of_le hk hB) g; omega)⟩

theorem builtFl (of fl : Int) : Tryz.prog.built 50 [(0, .int .i64 1), (1, .int .i64 of), (3, .int .i64 fl), (4, .int .i64 1)] = some (flC ⟨1, of, 0, fl, 1⟩).toArray :=
  congrFun (congrFun (show (fun (of fl : Int) => Tryz.prog.built 50 [(0, .int .i64 1), (1, .int .i64 of), (3, .int .i64 fl), (4, .int .i64 1)]) = (fun of fl => some (flC ⟨1, of, 0, fl, 1⟩).toArray) by kernel_rfl) of) fl

theorem Fw.hold {w w' : World} {t p q : Nat} {S : Sg} {i : Nat} {x : Nd} {T : Nat → Bool} {F : Nat → Fl} (h : Fw w t p q S i x T F) (v : Int) (hs : Sy w' p ((S.bl i x T).at_ i (((S.bl i x T).P i).hold v))) (u : Upd (· = p) w w') : Fw w' t p q S i (x.hold v) T F := by
  have e : (S.bl i x T).at_ i (((S.bl i x T).P i).hold v) = S.bl i (x.hold v) T := by
    rw [show (S.bl i x T).P i = x from updN_same _ _ _]
    unfold Sg.bl Sg.at_
    congr 1
    funext j
    by_cases e : j = i <;> simp [updN, e]
  rw [e] at hs
  exact ⟨hs, h.tf.upd u h.tp, fun k => h.tn (foot_same S i x (x.hold v) T T rfl p t k), h.k, h.s, ⟨h.B.in_, h.B.ne, h.B.n⟩⟩

theorem Fw.putF {w : World} {t p q : Nat} {S : Sg} {i : Nat} {x : Nd} {T : Nat → Bool} {F : Nat → Fl} (h : Fw w t p q S i x T F) (f : Nat) (hf : f < 11) (y : Fl) : Fw (w.setCells t (2 + f * 5) (flC y)) t p q S i x T (updF F f y) :=
  ⟨h.sy.upd (upd_setCells t (flC y) (2 + f * 5) w) (fun z hz e => h.tn (e ▸ hz)), h.tf.put f hf y, h.tn, h.k, h.s, h.B⟩

set_option maxHeartbeats 4000000 in
set_option maxRecDepth 20000 in
theorem open_any (w : World) (t p q B : Nat) (S : Sg) (i : Nat) (h1 : 1 ≤ i) (hi : i < 17) (x : Nd) (T : Nat → Bool) (F : Nat → Fl) (path : ByteArray) (fl : Int) (hF0 : Tf w t p q F)
    (K : ∀ W, Below w.heap.size w W → Calls Tryz.prog 25 #[.pointer (some ⟨t, 0, none⟩), .string path, .int .i64 fl] W fun e w' => e = .returned (.tuple #[.int .i64 (i : Int), .int .i64 0]) ∧ Fw w' t p q S i x T F ∧ Upd (fun y => B ≤ y ∧ y < w.heap.size) W w')
    (hpw : p < w.heap.size) (hB : B ≤ w.heap.size) (hBt : B ≤ t) (hBp : B ≤ p)
    (ha : (bits BinOp.andNot IntKind.i64 fl 63 != 0) = false) (hrw : (bits BinOp.and IntKind.i64 fl 3 == 0) = false) (hw : (bits BinOp.and IntKind.i64 fl 2 == 0) = false) (hc : (bits BinOp.and IntKind.i64 fl 32 == 0) = true)
    (n : Nat) (hn : x.h = (n : Int)) (hn1 : n < 1000) (f : Nat) (hf1 : 1 ≤ f) (hf : f < 11) (hfh : (F f).h = 0) (hfj : ∀ j, 1 ≤ j → j < f → (F j).h ≠ 0) :
    Calls Tryz.prog 6 #[.pointer (some ⟨t, 0, none⟩), .string path, .int .i64 fl] w fun e w' => e = .returned (.tuple #[.int .i64 (f : Int), .int .i64 0]) ∧ Fw w' t p q S i (x.hold ((n + 1 : Nat) : Int)) T (updF F f ⟨1, (i : Int), 0, fl, 1⟩) ∧ Below B w w' := by
  have k0 := hid (fusable_yes t p w hF0.s)
  have k1 := hid (ffree_any w t p q F hF0)
  obtain ⟨r, hr⟩ := frL_first F f hf1 hfh hfj 11 hf
  rw [hr] at k1
  have KK := hid K
  have HX := hid (And.intro hn hn1)
  have hpl : t < w.heap.size := hF0.lt
  clear K hF0 hr hfh hfj hn
  go_enter Tryz.func6, Tryz.ntmps6
  go_wp2_with fail
  refine k0.out.mono ?_
  rintro e w1 ⟨rfl, rfl⟩
  clear k0
  go_wp2_with fail
  refine k1.out.mono ?_
  rintro e w2 ⟨⟨v, rfl, hO2⟩, hb2⟩
  obtain ⟨gl, cl, rfl, hgl, hc0⟩ : ∃ g c, v = .slice (some ⟨g, 0, none⟩) (r.length + 1) c ∧ (w1.heap.size ≤ g ∧ g < w2.heap.size) ∧ w2.cell? ⟨g, 0, none⟩ = some (.int .i64 (f : Int)) := by
    rcases hO2.2 with ⟨_, h2⟩ | ⟨g, c, cur, rfl, hb, hg, hnc, hcm, hcs, htake⟩
    · simp at h2
    · have hh : w2.ownsRow w1.heap.size 3 1 (.slice (some ⟨g, 0, none⟩) (f :: r).length c) (f :: r).length ((f :: r).map fun (i : Nat) => Value.int .i64 (i : Int)) := ⟨hO2.1, .inr ⟨g, c, cur, rfl, hb, hg, hnc, hcm, hcs, htake⟩⟩
      refine ⟨g, c, rfl, ⟨hb, (Array.getElem?_eq_some_iff.1 hg).1⟩, ?_⟩
      rw [hh.cellAt 0 (by simp)]
      rfl
  have hrl : ¬ ((r.length + 1 : Nat) : Int) = 0 := by omega
  have k3 := hid (KK.out w2 hb2)
  have HB2 := hid hb2
  have HGL := hid (And.intro hgl hc0)
  clear k1 hO2 hb2 hgl hc0 KK
  go_wp2_with fail
  refine k3.out.mono ?_
  rintro e w3 ⟨rfl, hF3, u3⟩
  have hgl3 : gl < w3.heap.size ∧ w3.cell? ⟨gl, 0, none⟩ = some (.int .i64 (f : Int)) := ⟨Nat.lt_of_lt_of_le HGL.out.1.2 u3.size, (World.cell?_of_block (a := ⟨gl, 0, none⟩) (u3.block gl HGL.out.1.2 (fun h => by have := HGL.out.1.1; omega))).trans HGL.out.2⟩
  have HB3 : Hid (Below B w1 w3) := hid ((HB2.out.mono hB).trans (u3.bel (Nat.le_trans hB HB2.out.size) (fun y _ h => h.1)))
  have HG3 := hid hgl3
  have HF3 := hid hF3
  have k4 := hid (ready_file w3 t p q S i h1 hi x T F hF3 fl hw hc)
  clear k3 hF3 u3 hgl3 hrl
  go_wp2_with fail
  refine k4.out.mono ?_
  rintro e w4 ⟨rfl, hb4⟩
  have hF4 := HF3.out.grow hb4
  have cs := hF4.tf.s
  have hx : (S.bl i x T).P i = x := updN_same _ _ _
  have k5 : Hid (Calls Tryz.prog 27 #[.pointer (some ⟨p, 0, none⟩), .int .i64 (i : Int)] w4 fun e w' => e = .returned (.int .i64 0) ∧ Hid (Fw w' t p q S i (x.hold ((n + 1 : Nat) : Int)) T F ∧ Upd (· = p) w4 w')) := by
    refine hid ((hold_yes p (S.bl i x T) w4 hF4.sy i h1 hi (by rw [hx, hF4.k]; omega) n (by rw [hx]; exact HX.out.1) HX.out.2).mono ?_)
    rintro e w' ⟨rfl, h, u⟩
    exact ⟨rfl, hid ⟨hF4.hold _ h u, u⟩⟩
  have HB4 : Hid (Below B w1 w4) := hid (HB3.out.trans (hb4.mono (Nat.le_trans hB HB3.out.size)))
  have HG4 : Hid (gl < w4.heap.size ∧ w4.cell? ⟨gl, 0, none⟩ = some (.int .i64 (f : Int))) := hid ⟨Nat.lt_of_lt_of_le HG3.out.1 hb4.size, (hb4.cell (p := ⟨gl, 0, none⟩) HG3.out.1).trans HG3.out.2⟩
  have hgp : gl ≠ p ∧ gl ≠ t := by
    have h1 := HGL.out.1.1
    omega
  clear k4 hF4 hb4 HF3 HB3 HG3 hx
  go_wp2_with fail
  refine k5.out.mono ?_
  rintro e w5 ⟨rfl, H5⟩
  have cg : w5.cell? ⟨gl, 0, none⟩ = some (.int .i64 (f : Int)) := (World.cell?_of_block (a := ⟨gl, 0, none⟩) (H5.out.2.block gl HG4.out.1 hgp.1)).trans HG4.out.2
  have t0 := H5.out.1.tf.c0 f hf
  have t1 := H5.out.1.tf.c1 f hf
  have t2 := H5.out.1.tf.c2 f hf
  have t3 := H5.out.1.tf.c3 f hf
  have t4 := H5.out.1.tf.c4 f hf
  have z0 := H5.out.1.tf.fz (2 + f * 5)
  have z1 := H5.out.1.tf.fz (2 + f * 5 + 1)
  have z2 := H5.out.1.tf.fz (2 + f * 5 + 2)
  have z3 := H5.out.1.tf.fz (2 + f * 5 + 3)
  have z4 := H5.out.1.tf.fz (2 + f * 5 + 4)
  have i1 : (0 : Int) ≤ (f : Int) := by omega
  have i2 : (f : Int) < 11 := by omega
  clear k5 cs
  go_wp2_with fail
  go_region
  obtain ⟨W6, g6⟩ : ∃ W6, W6 = (((((w5.setCell ⟨t, 2 + f * 5, none⟩ (.int .i64 1)).setCell ⟨t, 2 + f * 5 + 1, none⟩ (.int .i64 (i : Int))).setCell ⟨t, 2 + f * 5 + 2, none⟩ (.int .i64 0)).setCell ⟨t, 2 + f * 5 + 3, none⟩ (.int .i64 fl)).setCell ⟨t, 2 + f * 5 + 4, none⟩ (.int .i64 1)).drew := ⟨_, rfl⟩
  have e6 : W6 = (w5.setCells t (2 + f * 5) (flC ⟨1, (i : Int), 0, fl, 1⟩)).drew := g6
  rw [← g6]
  have hF6 : Fw W6 t p q S i (x.hold ((n + 1 : Nat) : Int)) T (updF F f ⟨1, (i : Int), 0, fl, 1⟩) := by rw [e6]; exact (H5.out.1.putF f hf ⟨1, (i : Int), 0, fl, 1⟩).hp rfl
  have u6 : Upd (· = t) w5 W6 := by rw [e6]; exact (upd_setCells t _ _ w5).drewN 1
  have c6 : W6.cell? ⟨gl, 0, none⟩ = some (.int .i64 (f : Int)) := (World.cell?_of_block (a := ⟨gl, 0, none⟩) (u6.block gl (Nat.lt_of_lt_of_le HG4.out.1 H5.out.2.size) hgp.2)).trans cg
  have H6 : Hid (Fw W6 t p q S i (x.hold ((n + 1 : Nat) : Int)) T (updF F f ⟨1, (i : Int), 0, fl, 1⟩) ∧ Below B w1 W6) := by
    have hs4 := HB4.out.size
    have hb5 : Below B w4 w5 := H5.out.2.bel (Nat.le_trans hB hs4) (fun y _ h => by omega)
    exact hid ⟨hF6, (HB4.out.trans hb5).trans (u6.bel (Nat.le_trans (Nat.le_trans hB hs4) hb5.size) (fun y _ h => by omega))⟩
  clear g6 e6 hF6 u6 cg t0 t1 t2 t3 t4 z0 z1 z2 z3 z4 H5
  go_wp2_with fail
  go_ret2
  exact ⟨rfl, H6.out.1, H6.out.2⟩

end Go.Proofs.YtdnblbahecpmkaaGreat
