/- Texts of this seat, merged. -/
import Derived.Test.YtbglhmcahnkbfaaGreatGMg41
import Derived.Test.YtbglhmcahnkbfaaGreatGMg32
import Derived.Test.YtbglhmcahnkbfaaGreatGMg39
import Derived.Test.YtbglhmcahnkbfaaGreatGMg26
import Derived.Test.YtbglhmcahnkbfaaGreatGMg45
import Derived.Test.YtbglhmcahnkbfaaGreatGMg11

/- What Open of the document's open files does. (Written by gen_td8.py.) -/
namespace Go.Proofs.YtbglhmcahnkbfaaGreat
open Go.RowKit Go.ChangeMaps Go.MapKept
set_option linter.unusedVariables false
set_option maxRecDepth 20000

theorem not63 (x : BitVec 64) : (x &&& ~~~63#64 = 0#64) ↔ x.toNat < 64 := by
  constructor
  · intro h
    have h2 : x &&& 63#64 = x := by
      have : x = (x &&& 63#64) ||| (x &&& ~~~63#64) := by
        rw [← BitVec.and_or_distrib_left]
        rw [show (63#64 ||| ~~~63#64) = BitVec.allOnes 64 by decide, BitVec.and_allOnes]
      rw [h] at this
      simpa using this.symm
    rw [← h2, BitVec.toNat_and]
    exact Nat.lt_of_le_of_lt Nat.and_le_right (by decide)
  · intro h
    have h1 : x.toNat &&& 63 = x.toNat := by
      have := Nat.and_two_pow_sub_one_eq_mod x.toNat 6
      simp at this
      rw [this]; omega
    have h2 : x &&& 63#64 = x := by
      apply BitVec.eq_of_toNat_eq
      rw [BitVec.toNat_and]
      exact h1
    rw [← h2, BitVec.and_assoc]
    simp
theorem dfcN_iff (g : Int) (h1 : -9223372036854775808 ≤ g) (h2 : g ≤ 9223372036854775807) : dfcN g = true ↔ (g < 0 ∨ 63 < g) := by
  unfold dfcN
  rw [decide_eq_true_eq]
  have e : bits .andNot .i64 g 63 = IntKind.i64.wrap ((BitVec.ofInt 64 g &&& ~~~63#64).toNat : Int) := rfl
  have hz : (bits .andNot .i64 g 63 = 0) ↔ (BitVec.ofInt 64 g).toNat < 64 := by
    rw [e, ← not63]
    constructor
    · intro h
      apply BitVec.eq_of_toNat_eq
      have hl := (BitVec.ofInt 64 g &&& ~~~63#64).isLt
      generalize (BitVec.ofInt 64 g &&& ~~~63#64).toNat = n at h hl
      rw [IntKind.wrap_i64] at h
      show n = 0
      omega
    · intro h
      rw [h]; rfl
  rw [ne_eq, hz, BitVec.toNat_ofInt]
  omega
theorem resize_file {F : Fs} {m : Nat} (h : F.there m = true) (hk : (F.P m).k ≠ 2) : (F.resize m 0).2 = 0 := by
  unfold Fs.resize Fs.file
  rw [if_neg (by rw [h, if_neg (by simp), Int.toNat_natCast, if_neg hk]; simp), if_neg (by decide), if_neg (by decide)]
  split
  · rfl
  · rw [if_neg (by simp [Fs.fits, Fs.need])]
theorem Rs.putNew {w : World} {x g s q : Nat} {Dn Dp : Nat → Prop} {T : Ft} (h : Rs w x g s q Dn Dp T) (f : Nat) (hf : f < 11) (y : Fl) : Rs ((w.setCells g (f * 5) (flC y)).drew) x g s q Dn Dp { T with O := updF T.O f y } :=
  (h.fil (h.gf.put f hf y) (upd_setCells g (flC y) (f * 5) w)).drew
theorem Upd.drewD {F : Nat → Prop} {w a : World} (h : Upd F w a) : Upd F w a.drew := h.drewN 1

set_option maxHeartbeats 16000000 in
theorem tdopen (w : World) (x : Nat) (T : Ft) (D : Nat → Prop) (HP : Td w x T D) (hT : TOk T) (l : ByteArray) (hs : l.size ≤ 1048576) (fg : Int) (hg1 : -9223372036854775808 ≤ fg) (hg2 : fg ≤ 9223372036854775807) :
    Calls Tryz.prog 73 #[.pointer (some ⟨x, 0, none⟩), .string l, .int .i64 fg] w fun e w' => e = .returned (.tuple #[.int .i64 ((T.open_ (bl l) fg).2.1 : Int), .int .i64 (T.open_ (bl l) fg).2.2]) ∧ TdTo w x (T.open_ (bl l) fg).1 D w' := by
  have HP0 := HP
  obtain ⟨g, s, q, Dn, Dp, H, hD1⟩ := HP.mono (D' := fun b => D b ∧ b < w.heap.size) (fun x hx h => ⟨h, hx⟩)
  have hD : ∀ b, RFoot x g Dn Dp b → D b := fun b hb => (hD1 b hb).1
  have hlt : ∀ b, RFoot x g Dn Dp b → b < w.heap.size := fun b hb => (hD1 b hb).2
  have HS := hid (fun X (hX : Below w.heap.size w X) => TdTo.same HP0 hX)
  have hN := dfcN_iff fg hg1 hg2
  clear hg1 hg2
  cases hfl : Ft.flagsOk fg
  · unfold Ft.open_
    rw [hfl, if_pos rfl]
    have HQ := hid (HS.out w (Below.refl _ _))
    clear H hD hD1 hlt HP HP0 HS hT
    unfold Ft.flagsOk at hfl
    dsimp only
    by_cases n1 : fg < 0
    · clear hfl hN
      go_enter Tryz.func73, Tryz.ntmps73
      go_wp2_with fail
      go_ret2
      exact ⟨rfl, HQ.out⟩
    by_cases n2 : 63 < fg
    · clear hfl hN
      go_enter Tryz.func73, Tryz.ntmps73
      go_wp2_with fail
      go_ret2
      exact ⟨rfl, HQ.out⟩
    have n0 : dfcN fg = false := by
      cases h : dfcN fg
      · rfl
      · exact absurd (hN.1 h) (by omega)
    rw [n0] at hfl
    have h3 : dfc fg 3 = false := by simpa using hfl
    obtain ⟨b3, b4⟩ := ddfc_f h3
    clear hfl hN h3 n0
    go_enter Tryz.func73, Tryz.ntmps73
    go_wp2_with fail
    go_ret2
    exact ⟨rfl, HQ.out⟩
  have hf2 : dfcN fg = false ∧ dfc fg 3 = true := by unfold Ft.flagsOk at hfl; simpa using hfl
  obtain ⟨b3, b4⟩ := ddfc_t hf2.2
  have n1 : ¬ fg < 0 := fun h => by
    have := hN.2 (.inl h)
    rw [hf2.1] at this
    exact absurd this (by simp)
  have n2 : ¬ 63 < fg := fun h => by
    have := hN.2 (.inr h)
    rw [hf2.1] at this
    exact absurd this (by simp)
  clear hf2 hN
  have k1 := r8free w x g s q Dn Dp T H hT
  have hmem := @ofL_mem T.O 11
  cases hL : ofL T.O 11 with
  | nil =>
    rw [hL] at k1
    unfold Ft.open_
    rw [if_neg (by rw [hfl]; simp), if_pos hL]
    have k1 := hid k1
    clear H hD hD1 hlt HP HP0 hmem hL hfl hT
    dsimp only
    go_enter Tryz.func73, Tryz.ntmps73
    go_wp2_with fail
    refine k1.out.mono ?_
    rintro e w2 ⟨⟨v, rfl, hO⟩, hb⟩
    have HQ := hid (HS.out w2 hb)
    obtain ⟨a, c, rfl, _⟩ := own_shp hO
    clear k1 hO hb HS
    go_wp2_with fail
    go_ret2
    exact ⟨rfl, HQ.out⟩
  | cons f r =>
    rw [open_eq T (bl l) fg f r hfl hL]
    rw [hL] at k1 hmem
    clear hfl
    obtain ⟨f1, f11, fh⟩ := hmem (i := f) List.mem_cons_self
    clear hmem hL
    have k1 := hid k1
    have k2 : Hid (∀ X, Below w.heap.size w X → Calls Tryz.prog 95 #[.pointer (some ⟨x, 0, none⟩), .string l, .int .i64 fg] X fun e w' => e = .returned (.tuple #[.int .i64 ((Ft.node T.F (bl l) fg).2.1 : Int), .int .i64 (Ft.node T.F (bl l) fg).2.2]) ∧ Hid (RsP X x g s q Dn Dp { T with F := (Ft.node T.F (bl l) fg).1 } w')) := by
      refine hid (fun X hX => (r8node X x g s q Dn Dp T (H.grow hX) hT.F l hs fg).mono ?_)
      rintro e w' ⟨rfl, hk⟩
      exact ⟨rfl, hid hk⟩
    obtain ⟨nF, nS⟩ := Ft.node_ok hT.F (bl l) fg
    have nT := @node_there T.F hT.F (bl l) fg
    have HW : Hid (∀ X T' w', Below w.heap.size w X → RsP X x g s q Dn Dp T' w' → TdTo w x T' D w') := hid (fun X T' w' hX hk => hk.to hX hD)
    have HLT := hid hlt
    have HD := hid hD
    have hxg := H.xg
    clear H hD hD1 hlt HP HP0 HS hT
    generalize Ft.node T.F (bl l) fg = rn at k2 nF nS nT ⊢
    obtain ⟨F1, m, E1⟩ := rn
    unfold openR
    dsimp only at k2 nF nS nT ⊢
    by_cases hE1 : E1 = 0
    case neg =>
      rw [if_pos hE1]
      dsimp only
      go_enter Tryz.func73, Tryz.ntmps73
      go_wp2_with fail
      refine k1.out.mono ?_
      rintro e w2 ⟨⟨v, rfl, hO⟩, hb2⟩
      obtain ⟨gl, cl, rfl, hgb, hgl, hgc⟩ := head_own hO
      have cg2 := hgc 0 (by simp)
      have HB2 := hid hb2
      have HGL := hid (And.intro hgb (And.intro hgl cg2))
      have hrl : ¬ ((r.length + 1 : Nat) : Int) = 0 := by omega
      have K2 := hid (k2.out w2 hb2)
      clear k1 k2 hO hb2 hgb hgl hgc cg2
      go_wp2_with fail
      refine K2.out.mono ?_
      rintro e w3 ⟨rfl, H3⟩
      clear K2
      have HQ := hid (HW.out w2 _ w3 HB2.out H3.out)
      have hne : (E1 == 0) = false := by simpa using hE1
      go_wp2_with fail
      go_ret2
      exact ⟨rfl, HQ.out⟩
    subst hE1
    rw [if_neg (by simp)]
    have hth := nT rfl
    clear nT
    have k3 : Hid (∀ X w3, RsP X x g s q Dn Dp { T with F := F1 } w3 → w3.cell? ⟨x, 1, none⟩ = some (.pointer (some ⟨s, 0, none⟩)) ∧ Calls Tryz.prog 96 #[.pointer (some ⟨s, 0, none⟩), .int .i64 (m : Int)] w3 fun e w' => e = .returned (.tuple #[.agg #[.int .i64 (F1.P m).k, .int .i64 (F1.stat m).2.1, .int .i64 (F1.stat m).2.2.1], .int .i64 0]) ∧ Hid (RsP X x g s q Dn Dp { T with F := F1 } (w'.alloc (.cells #[.int .i64 (F1.P m).k, .int .i64 (F1.stat m).2.1, .int .i64 (F1.stat m).2.2.1] 135)))) := by
      refine hid (fun X w3 hk => ?_)
      have hk0 := hk
      obtain ⟨Gm, h1, h2, h3⟩ := hk
      refine ⟨h1.cs, ?_⟩
      have k := h1.stat nF m
      have hst := stat_thereD hth
      rw [hst.2.1, hst.2.2, Int.toNat_natCast] at k
      refine k.mono ?_
      rintro e w' ⟨rfl, hb⟩
      exact ⟨rfl, hid (hk0.grow (hb.trans ((one_new w' _).mono hb.size)))⟩
    have k4 : Hid (∀ (F2 : Fs), FOk F2 → F2.d = T.F.d → ∀ X w4, RsP X x g s q Dn Dp { T with F := F2 } w4 → w4.cell? ⟨x, 1, none⟩ = some (.pointer (some ⟨s, 0, none⟩)) ∧ Calls Tryz.prog 98 #[.pointer (some ⟨s, 0, none⟩), .int .i64 (m : Int)] w4 fun e w' => e = .returned (.int .i64 (F2.hold m).2) ∧ Hid (RsP X x g s q Dn Dp { T with F := (F2.hold m).1 } w')) := by
      refine hid (fun F2 hF2 hd2 X w4 hk => ?_)
      obtain ⟨Gm, h1, h2, h3⟩ := hk
      refine ⟨h1.cs, (h1.hold hF2 m).mono ?_⟩
      rintro e w' ⟨rfl, hk⟩
      exact ⟨rfl, hid (RsP.trans h2 h3 (RsP.of (T := { T with F := F2 }) h1 (Below.refl _ _) hk (hold_d _ _)))⟩
    have HN : Hid (∀ F3 X w5, Below w.heap.size w X → RsP X x g s q Dn Dp { T with F := F3 } w5 → (∃ Dm, Rs w5 x g s q Dm Dp { T with F := F3 }) ∧ TdTo w x { T with F := F3, O := updF T.O f ⟨1, (m : Int), 0, fg, 1⟩ } D ((w5.setCells g (f * 5) (flC ⟨1, (m : Int), 0, fg, 1⟩)).drew)) := by
      refine hid (fun F3 X w5 hX hk => ?_)
      obtain ⟨Gm, h1, h2, h3⟩ := hk
      refine ⟨⟨Gm, h1⟩, ?_⟩
      have h4 := h1.putNew f f11 ⟨1, (m : Int), 0, fg, 1⟩
      have hu : Upd (RFoot x g Dn Dp) w ((w5.setCells g (f * 5) (flC ⟨1, (m : Int), 0, fg, 1⟩)).drew) := ((Upd.of_below hX).trans h3 (fun b _ hb => .inr (.inr (.inl hb)))).trans (upd_setCells g (flC ⟨1, (m : Int), 0, fg, 1⟩) (f * 5) w5).drewD (fun b _ hb => .inr (.inl hb))
      exact TdTo.of h4 HD.out (fun b hb => (h2 b hb).imp id (fun h => Nat.le_trans hX.size h)) (fun b hb => .inl hb) hu
    have HGL5 : Hid (∀ gl v X w5 T', Below w.heap.size w X → w.heap.size ≤ gl → gl < X.heap.size → X.cell? ⟨gl, 0, none⟩ = some v → RsP X x g s q Dn Dp T' w5 → w5.cell? ⟨gl, 0, none⟩ = some v ∧ gl < w5.heap.size) := by
      refine hid (fun gl v X w5 T' hX h1 h2 h3 hk => ?_)
      obtain ⟨_, _, _, hu⟩ := hk
      refine ⟨(World.cell?_of_block (a := ⟨gl, 0, none⟩) (hu.block gl h2 (fun h => ?_))).trans h3, Nat.lt_of_lt_of_le h2 hu.size⟩
      have := HLT.out gl (.inr (.inr (.inl h)))
      omega
    have hrs := fun (h : (F1.P m).k ≠ 2) => resize_file hth h
    have k5 : Hid (∀ X w4, RsP X x g s q Dn Dp { T with F := F1 } w4 → w4.cell? ⟨x, 1, none⟩ = some (.pointer (some ⟨s, 0, none⟩)) ∧ Calls Tryz.prog 97 #[.pointer (some ⟨s, 0, none⟩), .int .i64 (m : Int), .int .i64 0] w4 fun e w' => e = .returned (.int .i64 (F1.resize m 0).2) ∧ Hid (RsP X x g s q Dn Dp { T with F := (F1.resize m 0).1 } w')) := by
      refine hid (fun X w4 hk => ?_)
      obtain ⟨Gm, h1, h2, h3⟩ := hk
      refine ⟨h1.cs, (h1.resize nF m 0 (by decide)).mono ?_⟩
      rintro e w' ⟨rfl, hk⟩
      exact ⟨rfl, hid (RsP.trans h2 h3 (RsP.of (T := { T with F := F1 }) h1 (Below.refl _ _) hk (SH.resize _ _ _).1))⟩
    have hd1 : F1.d = T.F.d := nS.1
    have hkk : (F1.P m).k = 1 ∨ (F1.P m).k = 2 := by
      have h0 : (F1.P m).k ≠ 0 := by
        unfold Fs.there at hth
        simp only [Int.toNat_natCast, decide_eq_true_eq] at hth
        exact hth.2.2
      exact (nF.k m).resolve_left h0
    obtain ⟨cF1, cS1⟩ := Ft.cutF_ok nF m fg
    generalize (F1.stat m).2.1 = s1 at k3
    generalize (F1.stat m).2.2.1 = s2 at k3
    cases h2 : dfc fg 2
    · obtain ⟨d1, d2⟩ := ddfc_f h2
      have hc : Ft.cutF F1 m fg = (F1, 0) := by unfold Ft.cutF; rw [h2, if_pos rfl]
      rw [hc] at cF1 ⊢
      dsimp only at cF1 ⊢
      rw [if_neg (by simp)]
      clear k5 hrs h2 cS1 hc
      rcases hkk with hK | hK <;> rw [hK] at k3 <;> clear hK
      · generalize hrh : (F1).hold m = rh
        obtain ⟨F3, E3⟩ := rh
        have k4 := hid (k4.out (F1) cF1 hd1)
        rw [hrh] at k4
        clear hrh
        dsimp only at k4 ⊢
        by_cases hE3 : E3 = 0
        · subst hE3
          rw [if_neg (by simp)]
          dsimp only
          go_enter Tryz.func73, Tryz.ntmps73
          go_wp2_with fail
          refine k1.out.mono ?_
          rintro e w2 ⟨⟨v, rfl, hO⟩, hb2⟩
          obtain ⟨gl, cl, rfl, hgb, hgl, hgc⟩ := head_own hO
          have cg2 := hgc 0 (by simp)
          have HB2 := hid hb2
          have HGL := hid (And.intro hgb (And.intro hgl cg2))
          have hrl : ¬ ((r.length + 1 : Nat) : Int) = 0 := by omega
          have K2 := hid (k2.out w2 hb2)
          clear k1 k2 hO hb2 hgb hgl hgc cg2
          go_wp2_with fail
          refine K2.out.mono ?_
          rintro e w3 ⟨rfl, H3⟩
          clear K2
          obtain ⟨cs3, k3'⟩ := k3.out w2 w3 H3.out
          have K3 := hid k3'
          clear k3 k3' H3
          go_wp2_with fail
          refine K3.out.mono ?_
          rintro e w4 ⟨rfl, H4⟩
          clear K3 cs3
          obtain ⟨cs5, k4'⟩ := k4.out w2 _ H4.out
          have K4 := hid k4'
          clear k4 k4'
          go_wp2_with fail
          refine K4.out.mono ?_
          rintro e w5 ⟨rfl, H5⟩
          obtain ⟨⟨Dm, h5⟩, h6⟩ := HN.out _ w2 _ HB2.out H5.out
          obtain ⟨cg, hgl5⟩ := HGL5.out gl _ w2 _ _ HB2.out HGL.out.1 HGL.out.2.1 HGL.out.2.2 H5.out
          have hgg : gl ≠ g := fun e => by
            have := HLT.out g (.inr (.inl rfl))
            have := HGL.out.1
            omega
          have cl5 := h5.cl
          have z0 := h5.gf.fz (f * 5)
          have z1 := h5.gf.fz (f * 5 + 1)
          have z2 := h5.gf.fz (f * 5 + 2)
          have z3 := h5.gf.fz (f * 5 + 3)
          have z4 := h5.gf.fz (f * 5 + 4)
          have t0 := h5.gf.c0 f f11
          have t1 := h5.gf.c1 f f11
          have t2 := h5.gf.c2 f f11
          have t3 := h5.gf.c3 f f11
          have t4 := h5.gf.c4 f f11
          have i1 : (0 : Int) ≤ (f : Int) := by omega
          have i2 : (f : Int) < 11 := by omega
          have i3 : (0 : Int) < ((r.length + 1 : Nat) : Int) := by omega
          have H6 := hid h6
          have HGT := hid hgg
          clear h5 h6 H5 HN HGL5 hgg K4 cs5
          go_wp2_with fail
          go_region
          obtain ⟨W6, g6⟩ : ∃ W6, W6 = (((((w5.setCell ⟨g, f * 5, none⟩ (.int .i64 1)).setCell ⟨g, f * 5 + 1, none⟩ (.int .i64 (m : Int))).setCell ⟨g, f * 5 + 2, none⟩ (.int .i64 0)).setCell ⟨g, f * 5 + 3, none⟩ (.int .i64 fg)).setCell ⟨g, f * 5 + 4, none⟩ (.int .i64 1)).drew := ⟨_, rfl⟩
          have e6 : W6 = (w5.setCells g (f * 5) (flC ⟨1, (m : Int), 0, fg, 1⟩)).drew := g6
          rw [← g6]
          have hto := H6.out
          rw [← e6] at hto
          have u6 : Upd (· = g) w5 W6 := by rw [e6]; exact (upd_setCells g _ _ w5).drewD
          have c6 : W6.cell? ⟨gl, 0, none⟩ = some (.int .i64 (f : Int)) := (World.cell?_of_block (a := ⟨gl, 0, none⟩) (u6.block gl hgl5 HGT.out)).trans cg
          have HTO := hid hto
          clear g6 e6 u6 cg t0 t1 t2 t3 t4 z0 z1 z2 z3 z4 hto H6 hgl5 cl5
          go_wp2_with fail
          go_ret2
          exact ⟨rfl, HTO.out⟩
        · rw [if_pos hE3]
          dsimp only
          go_enter Tryz.func73, Tryz.ntmps73
          go_wp2_with fail
          refine k1.out.mono ?_
          rintro e w2 ⟨⟨v, rfl, hO⟩, hb2⟩
          obtain ⟨gl, cl, rfl, hgb, hgl, hgc⟩ := head_own hO
          have cg2 := hgc 0 (by simp)
          have HB2 := hid hb2
          have HGL := hid (And.intro hgb (And.intro hgl cg2))
          have hrl : ¬ ((r.length + 1 : Nat) : Int) = 0 := by omega
          have K2 := hid (k2.out w2 hb2)
          clear k1 k2 hO hb2 hgb hgl hgc cg2
          go_wp2_with fail
          refine K2.out.mono ?_
          rintro e w3 ⟨rfl, H3⟩
          clear K2
          obtain ⟨cs3, k3'⟩ := k3.out w2 w3 H3.out
          have K3 := hid k3'
          clear k3 k3' H3
          go_wp2_with fail
          refine K3.out.mono ?_
          rintro e w4 ⟨rfl, H4⟩
          clear K3 cs3
          obtain ⟨cs5, k4'⟩ := k4.out w2 _ H4.out
          have K4 := hid k4'
          clear k4 k4'
          go_wp2_with fail
          refine K4.out.mono ?_
          rintro e w5 ⟨rfl, H5⟩
          have HQ := hid (HW.out w2 _ w5 HB2.out H5.out)
          have hne : (E3 == 0) = false := by simpa using hE3
          go_wp2_with fail
          go_ret2
          exact ⟨rfl, HQ.out⟩
      · generalize hrh : (F1).hold m = rh
        obtain ⟨F3, E3⟩ := rh
        have k4 := hid (k4.out (F1) cF1 hd1)
        rw [hrh] at k4
        clear hrh
        dsimp only at k4 ⊢
        by_cases hE3 : E3 = 0
        · subst hE3
          rw [if_neg (by simp)]
          dsimp only
          go_enter Tryz.func73, Tryz.ntmps73
          go_wp2_with fail
          refine k1.out.mono ?_
          rintro e w2 ⟨⟨v, rfl, hO⟩, hb2⟩
          obtain ⟨gl, cl, rfl, hgb, hgl, hgc⟩ := head_own hO
          have cg2 := hgc 0 (by simp)
          have HB2 := hid hb2
          have HGL := hid (And.intro hgb (And.intro hgl cg2))
          have hrl : ¬ ((r.length + 1 : Nat) : Int) = 0 := by omega
          have K2 := hid (k2.out w2 hb2)
          clear k1 k2 hO hb2 hgb hgl hgc cg2
          go_wp2_with fail
          refine K2.out.mono ?_
          rintro e w3 ⟨rfl, H3⟩
          clear K2
          obtain ⟨cs3, k3'⟩ := k3.out w2 w3 H3.out
          have K3 := hid k3'
          clear k3 k3' H3
          go_wp2_with fail
          refine K3.out.mono ?_
          rintro e w4 ⟨rfl, H4⟩
          clear K3 cs3
          obtain ⟨cs5, k4'⟩ := k4.out w2 _ H4.out
          have K4 := hid k4'
          clear k4 k4'
          go_wp2_with fail
          refine K4.out.mono ?_
          rintro e w5 ⟨rfl, H5⟩
          obtain ⟨⟨Dm, h5⟩, h6⟩ := HN.out _ w2 _ HB2.out H5.out
          obtain ⟨cg, hgl5⟩ := HGL5.out gl _ w2 _ _ HB2.out HGL.out.1 HGL.out.2.1 HGL.out.2.2 H5.out
          have hgg : gl ≠ g := fun e => by
            have := HLT.out g (.inr (.inl rfl))
            have := HGL.out.1
            omega
          have cl5 := h5.cl
          have z0 := h5.gf.fz (f * 5)
          have z1 := h5.gf.fz (f * 5 + 1)
          have z2 := h5.gf.fz (f * 5 + 2)
          have z3 := h5.gf.fz (f * 5 + 3)
          have z4 := h5.gf.fz (f * 5 + 4)
          have t0 := h5.gf.c0 f f11
          have t1 := h5.gf.c1 f f11
          have t2 := h5.gf.c2 f f11
          have t3 := h5.gf.c3 f f11
          have t4 := h5.gf.c4 f f11
          have i1 : (0 : Int) ≤ (f : Int) := by omega
          have i2 : (f : Int) < 11 := by omega
          have i3 : (0 : Int) < ((r.length + 1 : Nat) : Int) := by omega
          have H6 := hid h6
          have HGT := hid hgg
          clear h5 h6 H5 HN HGL5 hgg K4 cs5
          go_wp2_with fail
          go_region
          obtain ⟨W6, g6⟩ : ∃ W6, W6 = (((((w5.setCell ⟨g, f * 5, none⟩ (.int .i64 1)).setCell ⟨g, f * 5 + 1, none⟩ (.int .i64 (m : Int))).setCell ⟨g, f * 5 + 2, none⟩ (.int .i64 0)).setCell ⟨g, f * 5 + 3, none⟩ (.int .i64 fg)).setCell ⟨g, f * 5 + 4, none⟩ (.int .i64 1)).drew := ⟨_, rfl⟩
          have e6 : W6 = (w5.setCells g (f * 5) (flC ⟨1, (m : Int), 0, fg, 1⟩)).drew := g6
          rw [← g6]
          have hto := H6.out
          rw [← e6] at hto
          have u6 : Upd (· = g) w5 W6 := by rw [e6]; exact (upd_setCells g _ _ w5).drewD
          have c6 : W6.cell? ⟨gl, 0, none⟩ = some (.int .i64 (f : Int)) := (World.cell?_of_block (a := ⟨gl, 0, none⟩) (u6.block gl hgl5 HGT.out)).trans cg
          have HTO := hid hto
          clear g6 e6 u6 cg t0 t1 t2 t3 t4 z0 z1 z2 z3 z4 hto H6 hgl5 cl5
          go_wp2_with fail
          go_ret2
          exact ⟨rfl, HTO.out⟩
        · rw [if_pos hE3]
          dsimp only
          go_enter Tryz.func73, Tryz.ntmps73
          go_wp2_with fail
          refine k1.out.mono ?_
          rintro e w2 ⟨⟨v, rfl, hO⟩, hb2⟩
          obtain ⟨gl, cl, rfl, hgb, hgl, hgc⟩ := head_own hO
          have cg2 := hgc 0 (by simp)
          have HB2 := hid hb2
          have HGL := hid (And.intro hgb (And.intro hgl cg2))
          have hrl : ¬ ((r.length + 1 : Nat) : Int) = 0 := by omega
          have K2 := hid (k2.out w2 hb2)
          clear k1 k2 hO hb2 hgb hgl hgc cg2
          go_wp2_with fail
          refine K2.out.mono ?_
          rintro e w3 ⟨rfl, H3⟩
          clear K2
          obtain ⟨cs3, k3'⟩ := k3.out w2 w3 H3.out
          have K3 := hid k3'
          clear k3 k3' H3
          go_wp2_with fail
          refine K3.out.mono ?_
          rintro e w4 ⟨rfl, H4⟩
          clear K3 cs3
          obtain ⟨cs5, k4'⟩ := k4.out w2 _ H4.out
          have K4 := hid k4'
          clear k4 k4'
          go_wp2_with fail
          refine K4.out.mono ?_
          rintro e w5 ⟨rfl, H5⟩
          have HQ := hid (HW.out w2 _ w5 HB2.out H5.out)
          have hne : (E3 == 0) = false := by simpa using hE3
          go_wp2_with fail
          go_ret2
          exact ⟨rfl, HQ.out⟩
    · obtain ⟨d1, d2⟩ := ddfc_t h2
      rcases hkk with hK | hK <;> rw [hK] at k3
      · cases h3 : dfc fg 32
        · obtain ⟨d3, d4⟩ := ddfc_f h3
          have hc : Ft.cutF F1 m fg = (F1, 0) := by unfold Ft.cutF; rw [h2, if_neg (by simp), hK, if_neg (by decide), h3, if_pos rfl]
          rw [hc] at cF1 ⊢
          dsimp only at cF1 ⊢
          rw [if_neg (by simp)]
          clear k5 hrs h3 h2 hK cS1 hc
          generalize hrh : (F1).hold m = rh
          obtain ⟨F3, E3⟩ := rh
          have k4 := hid (k4.out (F1) cF1 hd1)
          rw [hrh] at k4
          clear hrh
          dsimp only at k4 ⊢
          by_cases hE3 : E3 = 0
          · subst hE3
            rw [if_neg (by simp)]
            dsimp only
            go_enter Tryz.func73, Tryz.ntmps73
            go_wp2_with fail
            refine k1.out.mono ?_
            rintro e w2 ⟨⟨v, rfl, hO⟩, hb2⟩
            obtain ⟨gl, cl, rfl, hgb, hgl, hgc⟩ := head_own hO
            have cg2 := hgc 0 (by simp)
            have HB2 := hid hb2
            have HGL := hid (And.intro hgb (And.intro hgl cg2))
            have hrl : ¬ ((r.length + 1 : Nat) : Int) = 0 := by omega
            have K2 := hid (k2.out w2 hb2)
            clear k1 k2 hO hb2 hgb hgl hgc cg2
            go_wp2_with fail
            refine K2.out.mono ?_
            rintro e w3 ⟨rfl, H3⟩
            clear K2
            obtain ⟨cs3, k3'⟩ := k3.out w2 w3 H3.out
            have K3 := hid k3'
            clear k3 k3' H3
            go_wp2_with fail
            refine K3.out.mono ?_
            rintro e w4 ⟨rfl, H4⟩
            clear K3 cs3
            obtain ⟨cs5, k4'⟩ := k4.out w2 _ H4.out
            have K4 := hid k4'
            clear k4 k4'
            go_wp2_with fail
            refine K4.out.mono ?_
            rintro e w5 ⟨rfl, H5⟩
            obtain ⟨⟨Dm, h5⟩, h6⟩ := HN.out _ w2 _ HB2.out H5.out
            obtain ⟨cg, hgl5⟩ := HGL5.out gl _ w2 _ _ HB2.out HGL.out.1 HGL.out.2.1 HGL.out.2.2 H5.out
            have hgg : gl ≠ g := fun e => by
              have := HLT.out g (.inr (.inl rfl))
              have := HGL.out.1
              omega
            have cl5 := h5.cl
            have z0 := h5.gf.fz (f * 5)
            have z1 := h5.gf.fz (f * 5 + 1)
            have z2 := h5.gf.fz (f * 5 + 2)
            have z3 := h5.gf.fz (f * 5 + 3)
            have z4 := h5.gf.fz (f * 5 + 4)
            have t0 := h5.gf.c0 f f11
            have t1 := h5.gf.c1 f f11
            have t2 := h5.gf.c2 f f11
            have t3 := h5.gf.c3 f f11
            have t4 := h5.gf.c4 f f11
            have i1 : (0 : Int) ≤ (f : Int) := by omega
            have i2 : (f : Int) < 11 := by omega
            have i3 : (0 : Int) < ((r.length + 1 : Nat) : Int) := by omega
            have H6 := hid h6
            have HGT := hid hgg
            clear h5 h6 H5 HN HGL5 hgg K4 cs5
            go_wp2_with fail
            go_region
            obtain ⟨W6, g6⟩ : ∃ W6, W6 = (((((w5.setCell ⟨g, f * 5, none⟩ (.int .i64 1)).setCell ⟨g, f * 5 + 1, none⟩ (.int .i64 (m : Int))).setCell ⟨g, f * 5 + 2, none⟩ (.int .i64 0)).setCell ⟨g, f * 5 + 3, none⟩ (.int .i64 fg)).setCell ⟨g, f * 5 + 4, none⟩ (.int .i64 1)).drew := ⟨_, rfl⟩
            have e6 : W6 = (w5.setCells g (f * 5) (flC ⟨1, (m : Int), 0, fg, 1⟩)).drew := g6
            rw [← g6]
            have hto := H6.out
            rw [← e6] at hto
            have u6 : Upd (· = g) w5 W6 := by rw [e6]; exact (upd_setCells g _ _ w5).drewD
            have c6 : W6.cell? ⟨gl, 0, none⟩ = some (.int .i64 (f : Int)) := (World.cell?_of_block (a := ⟨gl, 0, none⟩) (u6.block gl hgl5 HGT.out)).trans cg
            have HTO := hid hto
            clear g6 e6 u6 cg t0 t1 t2 t3 t4 z0 z1 z2 z3 z4 hto H6 hgl5 cl5
            go_wp2_with fail
            go_ret2
            exact ⟨rfl, HTO.out⟩
          · rw [if_pos hE3]
            dsimp only
            go_enter Tryz.func73, Tryz.ntmps73
            go_wp2_with fail
            refine k1.out.mono ?_
            rintro e w2 ⟨⟨v, rfl, hO⟩, hb2⟩
            obtain ⟨gl, cl, rfl, hgb, hgl, hgc⟩ := head_own hO
            have cg2 := hgc 0 (by simp)
            have HB2 := hid hb2
            have HGL := hid (And.intro hgb (And.intro hgl cg2))
            have hrl : ¬ ((r.length + 1 : Nat) : Int) = 0 := by omega
            have K2 := hid (k2.out w2 hb2)
            clear k1 k2 hO hb2 hgb hgl hgc cg2
            go_wp2_with fail
            refine K2.out.mono ?_
            rintro e w3 ⟨rfl, H3⟩
            clear K2
            obtain ⟨cs3, k3'⟩ := k3.out w2 w3 H3.out
            have K3 := hid k3'
            clear k3 k3' H3
            go_wp2_with fail
            refine K3.out.mono ?_
            rintro e w4 ⟨rfl, H4⟩
            clear K3 cs3
            obtain ⟨cs5, k4'⟩ := k4.out w2 _ H4.out
            have K4 := hid k4'
            clear k4 k4'
            go_wp2_with fail
            refine K4.out.mono ?_
            rintro e w5 ⟨rfl, H5⟩
            have HQ := hid (HW.out w2 _ w5 HB2.out H5.out)
            have hne : (E3 == 0) = false := by simpa using hE3
            go_wp2_with fail
            go_ret2
            exact ⟨rfl, HQ.out⟩
        · obtain ⟨d3, d4⟩ := ddfc_t h3
          have hc : Ft.cutF F1 m fg = F1.resize m 0 := by unfold Ft.cutF; rw [h2, if_neg (by simp), hK, if_neg (by decide), h3, if_neg (by simp)]
          rw [hc] at cF1 cS1 ⊢
          have hr0 := hrs (by rw [hK]; decide)
          have hd2 : (F1.resize m 0).1.d = T.F.d := cS1.1.trans hd1
          clear hrs h3 h2 hK cS1 hc
          rw [hr0] at k5
          generalize F1.resize m 0 = rz at k5 cF1 hd2 hr0 ⊢
          obtain ⟨F2, E2⟩ := rz
          dsimp only at k5 cF1 hd2 hr0 ⊢
          rw [hr0, if_neg (by simp)]
          clear hr0
          generalize hrh : (F2).hold m = rh
          obtain ⟨F3, E3⟩ := rh
          have k4 := hid (k4.out (F2) cF1 hd2)
          rw [hrh] at k4
          clear hrh
          dsimp only at k4 ⊢
          by_cases hE3 : E3 = 0
          · subst hE3
            rw [if_neg (by simp)]
            dsimp only
            go_enter Tryz.func73, Tryz.ntmps73
            go_wp2_with fail
            refine k1.out.mono ?_
            rintro e w2 ⟨⟨v, rfl, hO⟩, hb2⟩
            obtain ⟨gl, cl, rfl, hgb, hgl, hgc⟩ := head_own hO
            have cg2 := hgc 0 (by simp)
            have HB2 := hid hb2
            have HGL := hid (And.intro hgb (And.intro hgl cg2))
            have hrl : ¬ ((r.length + 1 : Nat) : Int) = 0 := by omega
            have K2 := hid (k2.out w2 hb2)
            clear k1 k2 hO hb2 hgb hgl hgc cg2
            go_wp2_with fail
            refine K2.out.mono ?_
            rintro e w3 ⟨rfl, H3⟩
            clear K2
            obtain ⟨cs3, k3'⟩ := k3.out w2 w3 H3.out
            have K3 := hid k3'
            clear k3 k3' H3
            go_wp2_with fail
            refine K3.out.mono ?_
            rintro e w4 ⟨rfl, H4⟩
            clear K3 cs3
            obtain ⟨cs4, k5'⟩ := k5.out w2 _ H4.out
            have K5 := hid k5'
            clear k5 k5' H4
            go_wp2_with fail
            refine K5.out.mono ?_
            rintro e w6 ⟨rfl, H4⟩
            clear K5 cs4
            obtain ⟨cs5, k4'⟩ := k4.out w2 _ H4.out
            have K4 := hid k4'
            clear k4 k4'
            go_wp2_with fail
            refine K4.out.mono ?_
            rintro e w5 ⟨rfl, H5⟩
            obtain ⟨⟨Dm, h5⟩, h6⟩ := HN.out _ w2 _ HB2.out H5.out
            obtain ⟨cg, hgl5⟩ := HGL5.out gl _ w2 _ _ HB2.out HGL.out.1 HGL.out.2.1 HGL.out.2.2 H5.out
            have hgg : gl ≠ g := fun e => by
              have := HLT.out g (.inr (.inl rfl))
              have := HGL.out.1
              omega
            have cl5 := h5.cl
            have z0 := h5.gf.fz (f * 5)
            have z1 := h5.gf.fz (f * 5 + 1)
            have z2 := h5.gf.fz (f * 5 + 2)
            have z3 := h5.gf.fz (f * 5 + 3)
            have z4 := h5.gf.fz (f * 5 + 4)
            have t0 := h5.gf.c0 f f11
            have t1 := h5.gf.c1 f f11
            have t2 := h5.gf.c2 f f11
            have t3 := h5.gf.c3 f f11
            have t4 := h5.gf.c4 f f11
            have i1 : (0 : Int) ≤ (f : Int) := by omega
            have i2 : (f : Int) < 11 := by omega
            have i3 : (0 : Int) < ((r.length + 1 : Nat) : Int) := by omega
            have H6 := hid h6
            have HGT := hid hgg
            clear h5 h6 H5 HN HGL5 hgg K4 cs5
            go_wp2_with fail
            go_region
            obtain ⟨W6, g6⟩ : ∃ W6, W6 = (((((w5.setCell ⟨g, f * 5, none⟩ (.int .i64 1)).setCell ⟨g, f * 5 + 1, none⟩ (.int .i64 (m : Int))).setCell ⟨g, f * 5 + 2, none⟩ (.int .i64 0)).setCell ⟨g, f * 5 + 3, none⟩ (.int .i64 fg)).setCell ⟨g, f * 5 + 4, none⟩ (.int .i64 1)).drew := ⟨_, rfl⟩
            have e6 : W6 = (w5.setCells g (f * 5) (flC ⟨1, (m : Int), 0, fg, 1⟩)).drew := g6
            rw [← g6]
            have hto := H6.out
            rw [← e6] at hto
            have u6 : Upd (· = g) w5 W6 := by rw [e6]; exact (upd_setCells g _ _ w5).drewD
            have c6 : W6.cell? ⟨gl, 0, none⟩ = some (.int .i64 (f : Int)) := (World.cell?_of_block (a := ⟨gl, 0, none⟩) (u6.block gl hgl5 HGT.out)).trans cg
            have HTO := hid hto
            clear g6 e6 u6 cg t0 t1 t2 t3 t4 z0 z1 z2 z3 z4 hto H6 hgl5 cl5
            go_wp2_with fail
            go_ret2
            exact ⟨rfl, HTO.out⟩
          · rw [if_pos hE3]
            dsimp only
            go_enter Tryz.func73, Tryz.ntmps73
            go_wp2_with fail
            refine k1.out.mono ?_
            rintro e w2 ⟨⟨v, rfl, hO⟩, hb2⟩
            obtain ⟨gl, cl, rfl, hgb, hgl, hgc⟩ := head_own hO
            have cg2 := hgc 0 (by simp)
            have HB2 := hid hb2
            have HGL := hid (And.intro hgb (And.intro hgl cg2))
            have hrl : ¬ ((r.length + 1 : Nat) : Int) = 0 := by omega
            have K2 := hid (k2.out w2 hb2)
            clear k1 k2 hO hb2 hgb hgl hgc cg2
            go_wp2_with fail
            refine K2.out.mono ?_
            rintro e w3 ⟨rfl, H3⟩
            clear K2
            obtain ⟨cs3, k3'⟩ := k3.out w2 w3 H3.out
            have K3 := hid k3'
            clear k3 k3' H3
            go_wp2_with fail
            refine K3.out.mono ?_
            rintro e w4 ⟨rfl, H4⟩
            clear K3 cs3
            obtain ⟨cs4, k5'⟩ := k5.out w2 _ H4.out
            have K5 := hid k5'
            clear k5 k5' H4
            go_wp2_with fail
            refine K5.out.mono ?_
            rintro e w6 ⟨rfl, H4⟩
            clear K5 cs4
            obtain ⟨cs5, k4'⟩ := k4.out w2 _ H4.out
            have K4 := hid k4'
            clear k4 k4'
            go_wp2_with fail
            refine K4.out.mono ?_
            rintro e w5 ⟨rfl, H5⟩
            have HQ := hid (HW.out w2 _ w5 HB2.out H5.out)
            have hne : (E3 == 0) = false := by simpa using hE3
            go_wp2_with fail
            go_ret2
            exact ⟨rfl, HQ.out⟩
      · have hc : Ft.cutF F1 m fg = (F1, 21) := by unfold Ft.cutF; rw [h2, if_neg (by simp), hK, if_pos rfl]
        rw [hc]
        dsimp only
        rw [if_pos (by decide)]
        clear k4 k5 HN hrs cF1 cS1 h2 hc hK
        dsimp only
        go_enter Tryz.func73, Tryz.ntmps73
        go_wp2_with fail
        refine k1.out.mono ?_
        rintro e w2 ⟨⟨v, rfl, hO⟩, hb2⟩
        obtain ⟨gl, cl, rfl, hgb, hgl, hgc⟩ := head_own hO
        have cg2 := hgc 0 (by simp)
        have HB2 := hid hb2
        have HGL := hid (And.intro hgb (And.intro hgl cg2))
        have hrl : ¬ ((r.length + 1 : Nat) : Int) = 0 := by omega
        have K2 := hid (k2.out w2 hb2)
        clear k1 k2 hO hb2 hgb hgl hgc cg2
        go_wp2_with fail
        refine K2.out.mono ?_
        rintro e w3 ⟨rfl, H3⟩
        clear K2
        obtain ⟨cs3, k3'⟩ := k3.out w2 w3 H3.out
        have K3 := hid k3'
        clear k3 k3' H3
        go_wp2_with fail
        refine K3.out.mono ?_
        rintro e w4 ⟨rfl, H4⟩
        clear K3 cs3
        have HQ := hid (HW.out w2 _ _ HB2.out H4.out)
        go_wp2_with fail
        go_ret2
        exact ⟨rfl, HQ.out⟩

end Go.Proofs.YtbglhmcahnkbfaaGreat

/- What Pipe of the document's open files does. -/
namespace Go.Proofs.YtbglhmcahnkbfaaGreat
open Go.RowKit Go.ChangeMaps Go.MapKept
set_option linter.unusedVariables false
set_option maxRecDepth 20000

theorem TdTo.after {w w' w2 : World} {x : Nat} {T : Ft} {D : Nat → Prop} (h : TdTo w x T D w') (u : Upd (fun _ => False) w' w2) : TdTo w x T D w2 :=
  ⟨h.1.upd u (fun _ _ _ h => h), h.2.trans u (fun _ _ h => h.elim)⟩

set_option maxHeartbeats 8000000 in
theorem tdpipe (w : World) (x : Nat) (T : Ft) (D : Nat → Prop) (HP : Td w x T D) (hT : TOk T) :
    Calls Tryz.prog 75 #[.pointer (some ⟨x, 0, none⟩)] w fun e w' => e = .returned (.tuple #[.int .i64 (T.pipe.2.1 : Int), .int .i64 (T.pipe.2.2.1 : Int), .int .i64 T.pipe.2.2.2]) ∧ TdTo w x T.pipe.1 D w' := by
  have HP0 := HP
  obtain ⟨g, s, q, Dn, Dp, H, hD1⟩ := HP.mono (D' := fun b => D b ∧ b < w.heap.size) (fun x hx h => ⟨h, hx⟩)
  have hD : ∀ b, RFoot x g Dn Dp b → D b := fun b hb => (hD1 b hb).1
  have hlt : ∀ b, RFoot x g Dn Dp b → b < w.heap.size := fun b hb => (hD1 b hb).2
  have HS := hid (fun X (hX : Below w.heap.size w X) => TdTo.same HP0 hX)
  have k1 := r8free w x g s q Dn Dp T H hT
  have hmem := @ofL_mem T.O 11
  by_cases h2 : (ofL T.O 11).length < 2
  · rw [pipe_eq1 T h2]
    generalize ofL T.O 11 = L at k1 h2
    have k1 := hid k1
    obtain ⟨n, gn⟩ : ∃ n, n = L.length := ⟨_, rfl⟩
    have hn2 : (n : Int) < 2 := by omega
    rw [← gn] at k1
    clear H hD hD1 hlt HP HP0 hmem gn h2 hT
    dsimp only
    go_enter Tryz.func75, Tryz.ntmps75
    go_wp2_with fail
    refine k1.out.mono ?_
    rintro e w2 ⟨⟨v, rfl, hO⟩, hb⟩
    have HQ := hid (HS.out w2 hb)
    obtain ⟨a, c, rfl, _⟩ := own_shp hO
    clear k1 hO hb HS
    go_wp2_with fail
    go_ret3
    exact ⟨rfl, HQ.out⟩
  obtain ⟨a, b, r, hL⟩ : ∃ a b r, ofL T.O 11 = a :: b :: r := by
    cases h : ofL T.O 11 with
    | nil => rw [h] at h2; exact absurd (by simp) h2
    | cons a l =>
      cases l with
      | nil => rw [h] at h2; exact absurd (by simp) h2
      | cons b r => exact ⟨a, b, r, rfl⟩
  rw [pipe_eq2 T a b r hL]
  rw [hL] at k1 hmem
  obtain ⟨a1, a11, ah⟩ := hmem (i := a) List.mem_cons_self
  obtain ⟨b1, b11, bh⟩ := hmem (i := b) (List.mem_cons_of_mem _ List.mem_cons_self)
  clear hmem hL h2
  have k1 := hid k1
  have cp := hid (fun X (hX : Below w.heap.size w X) => (H.grow hX).cq)
  have k2 : Hid (∀ X, Below w.heap.size w X → Calls Tryz.prog 100 #[.pointer (some ⟨q, 0, none⟩)] X fun e w' => e = .returned (.tuple #[.int .i64 (Pi.lowest T.P : Int), .int .i64 (Pi.makeE T.P)]) ∧ Hid (Rs X x g s q Dn Dp T ∧ PdTo X q T.F.d (Pi.makeP T.P) Dp w')) := by
    refine hid (fun X hX => ((H.grow hX).pmake).mono ?_)
    rintro e w' ⟨rfl, hk⟩
    exact ⟨rfl, hid ⟨H.grow hX, hk⟩⟩
  have HLT := hid hlt
  have HD := hid hD
  have hlp := hid H.lp
  have hsame : Pi.makeE T.P ≠ 0 → Pi.makeP T.P = T.P := fun h => by
    unfold Pi.makeE at h
    unfold Pi.makeP
    by_cases e : Pi.lowest T.P = 0
    · rw [if_pos e]
    · rw [if_neg e] at h; exact absurd rfl h
  clear H hD hD1 hlt HP HP0 hT HS
  generalize Pi.makeE T.P = E at k2 hsame ⊢
  generalize Pi.lowest T.P = m at k2 ⊢
  by_cases hE : E = 0
  · subst hE
    rw [if_neg (by simp)]
    dsimp only
    clear hsame
    generalize hT' : ({ T with P := Pi.makeP T.P, O := updF (updF T.O a ⟨2, (m : Int), 0, 1, 1⟩) b ⟨3, (m : Int), 0, 2, 1⟩ } : Ft) = T'
    have HN : Hid (∀ X w5, Below w.heap.size w X → Rs X x g s q Dn Dp T → PdTo X q T.F.d (Pi.makeP T.P) Dp w5 → (∃ Dm T5, Rs w5 x g s q Dn Dm T5) ∧ (∃ Dm T5, Rs ((w5.setCells g (a * 5) (flC ⟨2, (m : Int), 0, 1, 1⟩)).drew) x g s q Dn Dm T5) ∧ TdTo w x T' D ((((w5.setCells g (a * 5) (flC ⟨2, (m : Int), 0, 1, 1⟩)).drew).setCells g (b * 5) (flC ⟨3, (m : Int), 0, 2, 1⟩)).drew)) := by
      refine hid (fun X w5 hX hk hu => ?_)
      have h3 := hk.pip hu
      have h4 := h3.putNew a a11 ⟨2, (m : Int), 0, 1, 1⟩
      have h5 := h4.putNew b b11 ⟨3, (m : Int), 0, 2, 1⟩
      refine ⟨⟨_, _, h3⟩, ⟨_, _, h4⟩, ?_⟩
      rw [← hT']
      refine TdTo.of h5 HD.out (fun b hb => .inl hb) (fun b hb => hb.1.imp id (fun h => Nat.le_trans hX.size h)) ?_
      exact ((((Upd.of_below hX).trans hu.2 (fun b _ hb => .inr (.inr (.inr hb)))).trans (upd_setCells g _ _ w5).drewD (fun b _ hb => .inr (.inl hb)))).trans (upd_setCells g _ _ _).drewD (fun b _ hb => .inr (.inl hb))
    clear hT'
    go_enter Tryz.func75, Tryz.ntmps75
    go_wp2_with fail
    refine k1.out.mono ?_
    rintro e w2 ⟨⟨v, rfl, hO⟩, hb2⟩
    obtain ⟨gl, cl, rfl, hgb, hgl, hgc⟩ := head_own hO
    have cga := hgc 0 (by simp)
    have cgb := hgc 1 (by simp)
    have HB2 := hid hb2
    have HGL := hid (And.intro hgb (And.intro hgl (And.intro cga cgb)))
    have hrl : ¬ (((b :: r).length + 1 : Nat) : Int) < 2 := by simp; omega
    have hrl2 : (1 : Int) < (((b :: r).length + 1 : Nat) : Int) := by simp; omega
    have hrl3 : (0 : Int) < (((b :: r).length + 1 : Nat) : Int) := by simp; omega
    generalize (b :: r).length + 1 = ln at hrl hrl2 hrl3 ⊢
    have K2 := hid (k2.out w2 hb2)
    have cp2 := cp.out w2 hb2
    clear k1 k2 hO hb2 hgb hgl hgc cga cgb cp
    go_wp2_with fail
    refine K2.out.mono ?_
    rintro e w5 ⟨rfl, H5⟩
    obtain ⟨⟨Dm5, T5, hs5⟩, ⟨Dm6, T6, h5⟩, h6⟩ := HN.out w2 w5 HB2.out H5.out.1 H5.out.2
    have hgq : ¬ Dp gl := fun e => by
      have := HLT.out gl (.inr (.inr (.inr e)))
      have := HGL.out.1
      omega
    have hgt : gl ≠ g := fun e => by
      have := HLT.out g (.inr (.inl rfl))
      have := HGL.out.1
      omega
    have hb5 := H5.out.2.2.block gl HGL.out.2.1 hgq
    have cga := (World.cell?_of_block (a := ⟨gl, 0, none⟩) hb5).trans HGL.out.2.2.1
    have cgb := (World.cell?_of_block (a := ⟨gl, 1, none⟩) hb5).trans HGL.out.2.2.2
    have hgl5 : gl < w5.heap.size := Nat.lt_of_lt_of_le HGL.out.2.1 H5.out.2.2.size
    have cl5 := hs5.cl
    have t0 := hs5.gf.c0 a a11
    have t1 := hs5.gf.c1 a a11
    have t2 := hs5.gf.c2 a a11
    have t3 := hs5.gf.c3 a a11
    have t4 := hs5.gf.c4 a a11
    have z0 := hs5.gf.fz (a * 5)
    have z1 := hs5.gf.fz (a * 5 + 1)
    have z2 := hs5.gf.fz (a * 5 + 2)
    have z3 := hs5.gf.fz (a * 5 + 3)
    have z4 := hs5.gf.fz (a * 5 + 4)
    have i1 : (0 : Int) ≤ (a : Int) := by omega
    have i2 : (a : Int) < 11 := by omega
    have i3 : (0 : Int) ≤ (b : Int) := by omega
    have i4 : (b : Int) < 11 := by omega
    have H6 := hid h6
    have H5' := hid h5
    have HGT := hid hgt
    clear h5 h6 H5 HN hgt K2 cp2 hs5 hgq hb5
    go_wp2_with fail
    go_region
    obtain ⟨W6, g6⟩ : ∃ W6, W6 = (((((w5.setCell ⟨g, a * 5, none⟩ (.int .i64 2)).setCell ⟨g, a * 5 + 1, none⟩ (.int .i64 (m : Int))).setCell ⟨g, a * 5 + 2, none⟩ (.int .i64 0)).setCell ⟨g, a * 5 + 3, none⟩ (.int .i64 1)).setCell ⟨g, a * 5 + 4, none⟩ (.int .i64 1)).drew := ⟨_, rfl⟩
    have e6 : W6 = (w5.setCells g (a * 5) (flC ⟨2, (m : Int), 0, 1, 1⟩)).drew := g6
    rw [← g6]
    have u6 : Upd (· = g) w5 W6 := by rw [e6]; exact (upd_setCells g _ _ w5).drewD
    have hto := H6.out
    have hs6 := H5'.out
    rw [← e6] at hto hs6
    have hb6 := u6.block gl hgl5 HGT.out
    have dga := (World.cell?_of_block (a := ⟨gl, 0, none⟩) hb6).trans cga
    have dgb := (World.cell?_of_block (a := ⟨gl, 1, none⟩) hb6).trans cgb
    have hgl6 : gl < W6.heap.size := Nat.lt_of_lt_of_le hgl5 u6.size
    clear g6 e6 u6 cga cgb t0 t1 t2 t3 t4 z0 z1 z2 z3 z4 H6 H5' hgl5 hb6 cl5
    have cl5 := hs6.cl
    have t0 := hs6.gf.c0 b b11
    have t1 := hs6.gf.c1 b b11
    have t2 := hs6.gf.c2 b b11
    have t3 := hs6.gf.c3 b b11
    have t4 := hs6.gf.c4 b b11
    have z0 := hs6.gf.fz (b * 5)
    have z1 := hs6.gf.fz (b * 5 + 1)
    have z2 := hs6.gf.fz (b * 5 + 2)
    have z3 := hs6.gf.fz (b * 5 + 3)
    have z4 := hs6.gf.fz (b * 5 + 4)
    have HTO := hid hto
    clear hto hs6
    go_wp2_with fail
    go_region
    obtain ⟨W7, g7⟩ : ∃ W7, W7 = (((((W6.setCell ⟨g, b * 5, none⟩ (.int .i64 3)).setCell ⟨g, b * 5 + 1, none⟩ (.int .i64 (m : Int))).setCell ⟨g, b * 5 + 2, none⟩ (.int .i64 0)).setCell ⟨g, b * 5 + 3, none⟩ (.int .i64 2)).setCell ⟨g, b * 5 + 4, none⟩ (.int .i64 1)).drew := ⟨_, rfl⟩
    have e7 : W7 = (W6.setCells g (b * 5) (flC ⟨3, (m : Int), 0, 2, 1⟩)).drew := g7
    rw [← g7]
    have u7 : Upd (· = g) W6 W7 := by rw [e7]; exact (upd_setCells g _ _ W6).drewD
    have hto := HTO.out
    rw [← e7] at hto
    have hb7 := u7.block gl hgl6 HGT.out
    have ega := (World.cell?_of_block (a := ⟨gl, 0, none⟩) hb7).trans dga
    have egb := (World.cell?_of_block (a := ⟨gl, 1, none⟩) hb7).trans dgb
    have HTO2 := hid (hto : TdTo w x T' D W7)
    clear g7 e7 u7 dga dgb t0 t1 t2 t3 t4 z0 z1 z2 z3 z4 hto HTO hgl6 hb7 cl5
    go_wp2_with fail
    go_region
    go_wp2_with fail
    go_ret3
    exact ⟨rfl, TdTo.after HTO2.out (Upd.refl _ _).drewD⟩
  · rw [if_pos hE]
    have hse := hsame hE
    clear hsame
    dsimp only
    go_enter Tryz.func75, Tryz.ntmps75
    go_wp2_with fail
    refine k1.out.mono ?_
    rintro e w2 ⟨⟨v, rfl, hO⟩, hb2⟩
    obtain ⟨gl, cl, rfl, hgb, hgl, hgc⟩ := head_own hO
    have HB2 := hid hb2
    have hrl : ¬ (((b :: r).length + 1 : Nat) : Int) < 2 := by simp; omega
    generalize (b :: r).length + 1 = ln at hrl ⊢
    have K2 := hid (k2.out w2 hb2)
    have cp2 := cp.out w2 hb2
    clear k1 k2 hO hb2 hgb hgl hgc cp
    go_wp2_with fail
    refine K2.out.mono ?_
    rintro e w5 ⟨rfl, H5⟩
    have HQ : Hid (TdTo w x T D w5) := by
      have h1 := H5.out.2
      rw [hse] at h1
      exact hid (TdTo.pip H5.out.1 HB2.out HD.out h1)
    have hne : (E == 0) = false := by simpa using hE
    clear K2 cp2 H5
    go_wp2_with fail
    go_ret3
    exact ⟨rfl, HQ.out⟩

end Go.Proofs.YtbglhmcahnkbfaaGreat

/- What New of the document's open files does; what its Looks tell. -/
namespace Go.Proofs.YtbglhmcahnkbfaaGreat
open Go.RowKit Go.ChangeMaps Go.MapKept
set_option linter.unusedVariables false
set_option maxRecDepth 20000

theorem Rs.looks {w : World} {x g s q : Nat} {Dn Dp : Nat → Prop} {T : Ft} (H : Rs w x g s q Dn Dp T) (hF : FOk T.F) : Calls Tryz.prog 46 #[.pointer (some ⟨s, 0, none⟩)] w (LooksP w T.F) := by
  obtain ⟨gN, uN, V, hR, hD⟩ := H.nf
  exact rlooks_any s gN uN V T.F w hR hF
/-- A new system, new pipes of the document. -/
theorem nfnew (w : World) (d : Int) : Calls Tryz.prog 67 #[.int .i64 d] w fun e w' => ∃ s, e = .returned (.pointer (some ⟨s, 0, none⟩)) ∧ Nf w' s (rootF d) (fun b => w.heap.size ≤ b ∧ b < w'.heap.size) ∧ Below w.heap.size w w' := by
  refine (rnew_any w d).mono ?_
  rintro e w' ⟨x, g, u, V, rfl, h1, h2, h3⟩
  exact ⟨x, rfl, ⟨g, u, V, h1, fun b hb => ⟨h3 b hb, h1.foot_lt b hb⟩⟩, h2⟩
theorem pdnew (w : World) (d : Int) : Calls Tryz.prog 68 #[.int .i64 d] w fun e w' => ∃ q, e = .returned (.pointer (some ⟨q, 0, none⟩)) ∧ Pd w' q d Pi.noPipes (fun b => w.heap.size ≤ b ∧ b < w'.heap.size) ∧ Below w.heap.size w w' := by
  refine (Pi.rnew_any d w w.heap.size (Nat.le_refl _)).mono ?_
  rintro e w' ⟨q, g, rfl, h1, h2⟩
  refine ⟨q, rfl, ⟨_, _, _, h1, fun b hb => ⟨?_, PdFoot.lt h1 b hb⟩⟩, h2⟩
  rcases hb with rfl | rfl | ⟨i, hi, e⟩
  · exact h1.geq
  · exact h1.geg
  · exact ((h1.own i hi).lt b e).1

/-- The files of a new table. -/
def noFls : List Value := (madeCells (Value.agg #[.int .i64 0, .int .i64 0, .int .i64 0, .int .i64 0, .int .i64 0]).cells (11 * 5)).toList
theorem infoR8 : (Tryz.prog.info? 109).map (fun i => (i.zero, i.size, i.bytes)) = some (some (.agg #[.int .i64 0, .int .i64 0, .int .i64 0, .int .i64 0, .int .i64 0]), 5, 40) := by kernel_rfl
theorem noFls_gls : Gls noFls (fun _ => noFl) := by
  refine ⟨by simp [noFls, size_madeCells], fun i hi j hj => ?_⟩
  obtain rfl | rfl | rfl | rfl | rfl | rfl | rfl | rfl | rfl | rfl | rfl : i = 0 ∨ i = 1 ∨ i = 2 ∨ i = 3 ∨ i = 4 ∨ i = 5 ∨ i = 6 ∨ i = 7 ∨ i = 8 ∨ i = 9 ∨ i = 10 := by omega
  all_goals (obtain rfl | rfl | rfl | rfl | rfl : j = 0 ∨ j = 1 ∨ j = 2 ∨ j = 3 ∨ j = 4 := by omega)
  all_goals kernel_rfl

/-- The three parts of a new table, wherever they lie. -/
theorem new_join {w W : World} {g s q : Nat} {d : Int} {Dn Dp : Nat → Prop} (hb : Below w.heap.size w W) (hg : W.heap[g]? = some (.cells noFls.toArray 109 (0, 0))) (hn : Nf W s (rootF d) Dn) (hp : Pd W q d Pi.noPipes Dp)
    (h1 : ∀ b, Dn b → w.heap.size ≤ b ∧ b < W.heap.size) (h2 : ∀ b, Dp b → w.heap.size ≤ b ∧ b < W.heap.size) (h3 : w.heap.size ≤ g) (h4 : ∀ b, Dn b → ¬ Dp b) (h5 : ¬ Dn g) (h6 : ¬ Dp g) :
    Td (W.alloc (.cells #[.slice (some ⟨g, 0, none⟩) 11 11, .pointer (some ⟨s, 0, none⟩), .pointer (some ⟨q, 0, none⟩)] 75)) W.heap.size (newT d) (fun b => w.heap.size ≤ b) ∧ Below w.heap.size w (W.alloc (.cells #[.slice (some ⟨g, 0, none⟩) 11 11, .pointer (some ⟨s, 0, none⟩), .pointer (some ⟨q, 0, none⟩)] 75)) := by
  have hs := hb.size
  have hgl : g < W.heap.size := (Array.getElem?_eq_some_iff.1 hg).1
  have hz := one_new W (.cells #[.slice (some ⟨g, 0, none⟩) 11 11, .pointer (some ⟨s, 0, none⟩), .pointer (some ⟨q, 0, none⟩)] 75)
  refine ⟨⟨g, s, q, Dn, Dp, ⟨heap_alloc_new _ _, ⟨noFls, (hz.block g hgl).trans hg, noFls_gls⟩, hn.upd (Upd.of_below (F := fun _ => False) hz) (fun _ _ _ h => h), hp.upd (Upd.of_below (F := fun _ => False) hz) (fun _ _ _ h => h), fun b h => ?_, fun b h => ?_, h4, by omega, fun h => ?_, fun h => ?_, h5, h6⟩, fun b h => ?_⟩, hb.trans (hz.mono hs)⟩
  · exact Nat.lt_of_lt_of_le (h1 b h).2 hz.size
  · exact Nat.lt_of_lt_of_le (h2 b h).2 hz.size
  · exact absurd (h1 _ h).2 (Nat.lt_irrefl _)
  · exact absurd (h2 _ h).2 (Nat.lt_irrefl _)
  · rcases h with rfl | rfl | h | h
    · exact hs
    · exact h3
    · exact (h1 b h).1
    · exact (h2 b h).1

set_option maxHeartbeats 4000000 in
theorem tdnew (w : World) (d : Int) : Calls Tryz.prog 23 #[.int .i64 d] w fun e w' => ∃ x, e = .returned (.pointer (some ⟨x, 0, none⟩)) ∧ Td w' x (newT d) (fun b => w.heap.size ≤ b) ∧ Below w.heap.size w w' := by
  obtain ⟨C, gC⟩ : ∃ C, C = noFls := ⟨_, rfl⟩
  have hm' : ∀ W : World, (Instr.makeSlice 71 (.int .i64 11) (.int .i64 11)).run Tryz.prog W = .ok (.slice (some ⟨W.heap.size, 0, none⟩) 11 11) (W.alloc (.cells C.toArray 109)) := by
    rw [gC]
    exact made_zs (P := Tryz.prog) 71 109 11 _ _ _ Tryz.underlying71 infoR8 (by omega) (by omega)
  have k6 := hid (fun W => nfnew W d)
  have k7 := hid (fun W => pdnew W d)
  have HC := hid gC
  clear gC
  go_enter Tryz.func23, Tryz.ntmps23
  go_wp2_with fail
  go_region_held3 (fun _ => True) (trivial) (first
    | (go_at_call 67; refine (k6.out _).mono ?_; rintro e w6 ⟨s, rfl, h6⟩; have H6 := hid h6; clear h6)
    | (go_at_call 68; refine (k7.out _).mono ?_; rintro e w7 ⟨q, rfl, h7⟩; have H7 := hid h7; clear h7))
  all_goals go_wp2_with fail
  all_goals go_ret
  · obtain ⟨h6, b6⟩ := H6.out
    obtain ⟨h7, b7⟩ := H7.out
    obtain ⟨W, gW⟩ : ∃ W, W = (w.alloc (Obj.cells C.toArray 109)).drew := ⟨_, rfl⟩
    have a1 : W.heap.size = w.heap.size + 1 := by rw [gW]; simp [World.drew]
    have a2 : Below w.heap.size w W := by rw [gW]; exact (one_new _ _).drew
    have a3 : W.heap[w.heap.size]? = some (.cells C.toArray 109 (0, 0)) := by rw [gW]; exact heap_alloc_new _ _
    rw [← gW] at h6 b6
    have s6 := b6.size
    have s7 := b7.size
    rw [HC.out] at a3
    have k := new_join (w := w) (W := w7) (g := w.heap.size) (s := s) (q := q) (d := d) (a2.trans ((b6.trans (b7.mono (by omega))).mono (by omega))) ((b7.block _ (by omega)).trans ((b6.block _ (by omega)).trans a3)) (h6.upd (Upd.of_below (F := fun _ => False) b7) (fun _ _ _ h => h)) h7 (fun b h => by omega) (fun b h => by omega) (Nat.le_refl _) (fun b h h' => by omega) (fun h => by omega) (fun h => by omega)
    exact ⟨_, rfl, k⟩
  · obtain ⟨h6, b6⟩ := H6.out
    obtain ⟨h7, b7⟩ := H7.out
    obtain ⟨W, gW⟩ : ∃ W, W = w6.alloc (Obj.cells C.toArray 109) := ⟨_, rfl⟩
    have a1 : W.heap.size = w6.heap.size + 1 := by rw [gW]; simp
    have a2 : Below w6.heap.size w6 W := by rw [gW]; exact one_new _ _
    have a3 : W.heap[w6.heap.size]? = some (.cells C.toArray 109 (0, 0)) := by rw [gW]; exact heap_alloc_new _ _
    rw [← gW] at h7 b7
    have b6' : Below w.heap.size w w6 := (Below.refl _ w).drew.trans b6
    have h6' : Nf w6 s (rootF d) (fun b => w.heap.size ≤ b ∧ b < w6.heap.size) := h6
    have s6 := b6'.size
    have s7 := b7.size
    rw [HC.out] at a3
    have b67 : Below w6.heap.size w6 w7 := a2.trans (b7.mono (by omega))
    have k := new_join (w := w) (W := w7) (g := w6.heap.size) (s := s) (q := q) (d := d) (b6'.trans (b67.mono (by omega))) ((b7.block _ (by omega)).trans a3) (h6'.upd (Upd.of_below (F := fun _ => False) b67) (fun _ _ _ h => h)) h7 (fun b h => by omega) (fun b h => by omega) (by omega) (fun b h h' => by omega) (fun h => by omega) (fun h => by omega)
    exact ⟨_, rfl, k⟩
  · obtain ⟨h6, b6⟩ := H6.out
    obtain ⟨h7, b7⟩ := H7.out
    obtain ⟨W, gW⟩ : ∃ W, W = w7.alloc (Obj.cells C.toArray 109) := ⟨_, rfl⟩
    have a1 : W.heap.size = w7.heap.size + 1 := by rw [gW]; simp
    have a2 : Below w7.heap.size w7 W := by rw [gW]; exact one_new _ _
    have a3 : W.heap[w7.heap.size]? = some (.cells C.toArray 109 (0, 0)) := by rw [gW]; exact heap_alloc_new _ _
    have b6' : Below w.heap.size w w6 := (Below.refl _ w).drew.trans b6
    have h6' : Nf w6 s (rootF d) (fun b => w.heap.size ≤ b ∧ b < w6.heap.size) := h6
    have s6 := b6'.size
    have s7 := b7.size
    rw [HC.out] at a3
    have b67 : Below w6.heap.size w6 W := b7.trans (a2.mono s7)
    have k := new_join (w := w) (W := W) (g := w7.heap.size) (s := s) (q := q) (d := d) (b6'.trans (b67.mono (by omega))) a3 (h6'.upd (Upd.of_below (F := fun _ => False) b67) (fun _ _ _ h => h)) (h7.upd (Upd.of_below (F := fun _ => False) a2) (fun _ _ _ h => h)) (fun b h => by omega) (fun b h => by omega) (by omega) (fun b h h' => by omega) (fun h => by omega) (fun h => by omega)
    rw [gW] at k
    exact ⟨_, rfl, by rw [← a1, gW]; exact k⟩

end Go.Proofs.YtbglhmcahnkbfaaGreat
