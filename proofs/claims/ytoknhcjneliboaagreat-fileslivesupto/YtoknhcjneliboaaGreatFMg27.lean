/- Texts of this seat, merged. -/
import Derived.Test.YtoknhcjneliboaaGreatFMg23
import Derived.Test.YtoknhcjneliboaaGreatFMg26
import Derived.Test.YtoknhcjneliboaaGreatFMg15

/- What Open of the document's open files does. (Written by gen_td8.py.) -/
namespace Go.Proofs.YtoknhcjneliboaaGreat
open Go.RowKit Go.ChangeMaps Go.MapKept
set_option linter.unusedVariables false
set_option maxRecDepth 20000

theorem not63 (x : BitVec 64) : (x &&& ~~~63#64 = 0#64) ↔ x.toNat < 64 := by
  constructor
  · intro h
    have h2 : x &&& 63#64 = x := by
      have : x = (x &&& 63#64) ||| (x &&& ~~~63#64) := by
        rw [← BitVec.and_or_distrib_left]
        rw [show (63#64 ||| ~~~63#64) = BitVec.allOnes 64 by decide, BitVec.and_allOnes]
      rw [h] at this
      simpa using this.symm
    rw [← h2, BitVec.toNat_and]
    exact Nat.lt_of_le_of_lt Nat.and_le_right (by decide)
  · intro h
    have h1 : x.toNat &&& 63 = x.toNat := by
      have := Nat.and_two_pow_sub_one_eq_mod x.toNat 6
      simp at this
      rw [this]; omega
    have h2 : x &&& 63#64 = x := by
      apply BitVec.eq_of_toNat_eq
      rw [BitVec.toNat_and]
      exact h1
    rw [← h2, BitVec.and_assoc]
    simp
theorem dfcN_iff (g : Int) (h1 : -9223372036854775808 ≤ g) (h2 : g ≤ 9223372036854775807) : dfcN g = true ↔ (g < 0 ∨ 63 < g) := by
  unfold dfcN
  rw [decide_eq_true_eq]
  have e : bits .andNot .i64 g 63 = IntKind.i64.wrap ((BitVec.ofInt 64 g &&& ~~~63#64).toNat : Int) := rfl
  have hz : (bits .andNot .i64 g 63 = 0) ↔ (BitVec.ofInt 64 g).toNat < 64 := by
    rw [e, ← not63]
    constructor
    · intro h
      apply BitVec.eq_of_toNat_eq
      have hl := (BitVec.ofInt 64 g &&& ~~~63#64).isLt
      generalize (BitVec.ofInt 64 g &&& ~~~63#64).toNat = n at h hl
      rw [IntKind.wrap_i64] at h
      show n = 0
      omega
    · intro h
      rw [h]; rfl
  rw [ne_eq, hz, BitVec.toNat_ofInt]
  omega
theorem resize_file {F : Fs} {m : Nat} (h : F.there m = true) (hk : (F.P m).k ≠ 2) : (F.resize m 0).2 = 0 := by
  unfold Fs.resize Fs.file
  rw [if_neg (by rw [h, if_neg (by simp), Int.toNat_natCast, if_neg hk]; simp), if_neg (by decide), if_neg (by decide)]
  split
  · rfl
  · rw [if_neg (by simp [Fs.fits, Fs.need])]
theorem Rs.putNew {w : World} {x g s q : Nat} {Dn Dp : Nat → Prop} {T : Ft} (h : Rs w x g s q Dn Dp T) (f : Nat) (hf : f < 11) (y : Fl) : Rs ((w.setCells g (f * 5) (flC y)).drew) x g s q Dn Dp { T with O := updF T.O f y } :=
  (h.fil (h.gf.put f hf y) (upd_setCells g (flC y) (f * 5) w)).drew
theorem Upd.drewD {F : Nat → Prop} {w a : World} (h : Upd F w a) : Upd F w a.drew := h.drewN 1

set_option maxHeartbeats 16000000 in
theorem tdopen (w : World) (x : Nat) (T : Ft) (D : Nat → Prop) (HP : Td w x T D) (hT : TOk T) (l : ByteArray) (hs : l.size ≤ 1048576) (fg : Int) (hg1 : -9223372036854775808 ≤ fg) (hg2 : fg ≤ 9223372036854775807) :
    Calls Tryz.prog 18 #[.pointer (some ⟨x, 0, none⟩), .string l, .int .i64 fg] w fun e w' => e = .returned (.tuple #[.int .i64 ((T.open_ (bl l) fg).2.1 : Int), .int .i64 (T.open_ (bl l) fg).2.2]) ∧ TdTo w x (T.open_ (bl l) fg).1 D w' := by
  have HP0 := HP
  obtain ⟨g, s, q, Dn, Dp, H, hD1⟩ := HP.mono (D' := fun b => D b ∧ b < w.heap.size) (fun x hx h => ⟨h, hx⟩)
  have hD : ∀ b, RFoot x g Dn Dp b → D b := fun b hb => (hD1 b hb).1
  have hlt : ∀ b, RFoot x g Dn Dp b → b < w.heap.size := fun b hb => (hD1 b hb).2
  have HS := hid (fun X (hX : Below w.heap.size w X) => TdTo.same HP0 hX)
  have hN := dfcN_iff fg hg1 hg2
  clear hg1 hg2
  cases hfl : Ft.flagsOk fg
  · unfold Ft.open_
    rw [hfl, if_pos rfl]
    have HQ := hid (HS.out w (Below.refl _ _))
    clear H hD hD1 hlt HP HP0 HS hT
    unfold Ft.flagsOk at hfl
    dsimp only
    by_cases n1 : fg < 0
    · clear hfl hN
      go_enter Tryz.func18, Tryz.ntmps18
      go_wp2_with fail
      go_ret2
      exact ⟨rfl, HQ.out⟩
    by_cases n2 : 63 < fg
    · clear hfl hN
      go_enter Tryz.func18, Tryz.ntmps18
      go_wp2_with fail
      go_ret2
      exact ⟨rfl, HQ.out⟩
    have n0 : dfcN fg = false := by
      cases h : dfcN fg
      · rfl
      · exact absurd (hN.1 h) (by omega)
    rw [n0] at hfl
    have h3 : dfc fg 3 = false := by simpa using hfl
    obtain ⟨b3, b4⟩ := ddfc_f h3
    clear hfl hN h3 n0
    go_enter Tryz.func18, Tryz.ntmps18
    go_wp2_with fail
    go_ret2
    exact ⟨rfl, HQ.out⟩
  have hf2 : dfcN fg = false ∧ dfc fg 3 = true := by unfold Ft.flagsOk at hfl; simpa using hfl
  obtain ⟨b3, b4⟩ := ddfc_t hf2.2
  have n1 : ¬ fg < 0 := fun h => by
    have := hN.2 (.inl h)
    rw [hf2.1] at this
    exact absurd this (by simp)
  have n2 : ¬ 63 < fg := fun h => by
    have := hN.2 (.inr h)
    rw [hf2.1] at this
    exact absurd this (by simp)
  clear hf2 hN
  have k1 := r8free w x g s q Dn Dp T H hT
  have hmem := @ofL_mem T.O 11
  cases hL : ofL T.O 11 with
  | nil =>
    rw [hL] at k1
    unfold Ft.open_
    rw [if_neg (by rw [hfl]; simp), if_pos hL]
    have k1 := hid k1
    clear H hD hD1 hlt HP HP0 hmem hL hfl hT
    dsimp only
    go_enter Tryz.func18, Tryz.ntmps18
    go_wp2_with fail
    refine k1.out.mono ?_
    rintro e w2 ⟨⟨v, rfl, hO⟩, hb⟩
    have HQ := hid (HS.out w2 hb)
    obtain ⟨a, c, rfl, _⟩ := own_shp hO
    clear k1 hO hb HS
    go_wp2_with fail
    go_ret2
    exact ⟨rfl, HQ.out⟩
  | cons f r =>
    rw [open_eq T (bl l) fg f r hfl hL]
    rw [hL] at k1 hmem
    clear hfl
    obtain ⟨f1, f11, fh⟩ := hmem (i := f) List.mem_cons_self
    clear hmem hL
    have k1 := hid k1
    have k2 : Hid (∀ X, Below w.heap.size w X → Calls Tryz.prog 57 #[.pointer (some ⟨x, 0, none⟩), .string l, .int .i64 fg] X fun e w' => e = .returned (.tuple #[.int .i64 ((Ft.node T.F (bl l) fg).2.1 : Int), .int .i64 (Ft.node T.F (bl l) fg).2.2]) ∧ Hid (RsP X x g s q Dn Dp { T with F := (Ft.node T.F (bl l) fg).1 } w')) := by
      refine hid (fun X hX => (r8node X x g s q Dn Dp T (H.grow hX) hT.F l hs fg).mono ?_)
      rintro e w' ⟨rfl, hk⟩
      exact ⟨rfl, hid hk⟩
    obtain ⟨nF, nS⟩ := Ft.node_ok hT.F (bl l) fg
    have nT := @node_there T.F hT.F (bl l) fg
    have HW : Hid (∀ X T' w', Below w.heap.size w X → RsP X x g s q Dn Dp T' w' → TdTo w x T' D w') := hid (fun X T' w' hX hk => hk.to hX hD)
    have HLT := hid hlt
    have HD := hid hD
    have hxg := H.xg
    clear H hD hD1 hlt HP HP0 HS hT
    generalize Ft.node T.F (bl l) fg = rn at k2 nF nS nT ⊢
    obtain ⟨F1, m, E1⟩ := rn
    unfold openR
    dsimp only at k2 nF nS nT ⊢
    by_cases hE1 : E1 = 0
    case neg =>
      rw [if_pos hE1]
      dsimp only
      go_enter Tryz.func18, Tryz.ntmps18
      go_wp2_with fail
      refine k1.out.mono ?_
      rintro e w2 ⟨⟨v, rfl, hO⟩, hb2⟩
      obtain ⟨gl, cl, rfl, hgb, hgl, hgc⟩ := head_own hO
      have cg2 := hgc 0 (by simp)
      have HB2 := hid hb2
      have HGL := hid (And.intro hgb (And.intro hgl cg2))
      have hrl : ¬ ((r.length + 1 : Nat) : Int) = 0 := by omega
      have K2 := hid (k2.out w2 hb2)
      clear k1 k2 hO hb2 hgb hgl hgc cg2
      go_wp2_with fail
      refine K2.out.mono ?_
      rintro e w3 ⟨rfl, H3⟩
      clear K2
      have HQ := hid (HW.out w2 _ w3 HB2.out H3.out)
      have hne : (E1 == 0) = false := by simpa using hE1
      go_wp2_with fail
      go_ret2
      exact ⟨rfl, HQ.out⟩
    subst hE1
    rw [if_neg (by simp)]
    have hth := nT rfl
    clear nT
    have k3 : Hid (∀ X w3, RsP X x g s q Dn Dp { T with F := F1 } w3 → w3.cell? ⟨x, 1, none⟩ = some (.pointer (some ⟨s, 0, none⟩)) ∧ Calls Tryz.prog 58 #[.pointer (some ⟨s, 0, none⟩), .int .i64 (m : Int)] w3 fun e w' => e = .returned (.tuple #[.agg #[.int .i64 (F1.P m).k, .int .i64 (F1.stat m).2.1, .int .i64 (F1.stat m).2.2.1], .int .i64 0]) ∧ Hid (RsP X x g s q Dn Dp { T with F := F1 } (w'.alloc (.cells #[.int .i64 (F1.P m).k, .int .i64 (F1.stat m).2.1, .int .i64 (F1.stat m).2.2.1] 87)))) := by
      refine hid (fun X w3 hk => ?_)
      have hk0 := hk
      obtain ⟨Gm, h1, h2, h3⟩ := hk
      refine ⟨h1.cs, ?_⟩
      have k := h1.stat nF m
      have hst := stat_thereD hth
      rw [hst.2.1, hst.2.2, Int.toNat_natCast] at k
      refine k.mono ?_
      rintro e w' ⟨rfl, hb⟩
      exact ⟨rfl, hid (hk0.grow (hb.trans ((one_new w' _).mono hb.size)))⟩
    have k4 : Hid (∀ (F2 : Fs), FOk F2 → F2.d = T.F.d → ∀ X w4, RsP X x g s q Dn Dp { T with F := F2 } w4 → w4.cell? ⟨x, 1, none⟩ = some (.pointer (some ⟨s, 0, none⟩)) ∧ Calls Tryz.prog 60 #[.pointer (some ⟨s, 0, none⟩), .int .i64 (m : Int)] w4 fun e w' => e = .returned (.int .i64 (F2.hold m).2) ∧ Hid (RsP X x g s q Dn Dp { T with F := (F2.hold m).1 } w')) := by
      refine hid (fun F2 hF2 hd2 X w4 hk => ?_)
      obtain ⟨Gm, h1, h2, h3⟩ := hk
      refine ⟨h1.cs, (h1.hold hF2 m).mono ?_⟩
      rintro e w' ⟨rfl, hk⟩
      exact ⟨rfl, hid (RsP.trans h2 h3 (RsP.of (T := { T with F := F2 }) h1 (Below.refl _ _) hk (hold_d _ _)))⟩
    have HN : Hid (∀ F3 X w5, Below w.heap.size w X → RsP X x g s q Dn Dp { T with F := F3 } w5 → (∃ Dm, Rs w5 x g s q Dm Dp { T with F := F3 }) ∧ TdTo w x { T with F := F3, O := updF T.O f ⟨1, (m : Int), 0, fg, 1⟩ } D ((w5.setCells g (f * 5) (flC ⟨1, (m : Int), 0, fg, 1⟩)).drew)) := by
      refine hid (fun F3 X w5 hX hk => ?_)
      obtain ⟨Gm, h1, h2, h3⟩ := hk
      refine ⟨⟨Gm, h1⟩, ?_⟩
      have h4 := h1.putNew f f11 ⟨1, (m : Int), 0, fg, 1⟩
      have hu : Upd (RFoot x g Dn Dp) w ((w5.setCells g (f * 5) (flC ⟨1, (m : Int), 0, fg, 1⟩)).drew) := ((Upd.of_below hX).trans h3 (fun b _ hb => .inr (.inr (.inl hb)))).trans (upd_setCells g (flC ⟨1, (m : Int), 0, fg, 1⟩) (f * 5) w5).drewD (fun b _ hb => .inr (.inl hb))
      exact TdTo.of h4 HD.out (fun b hb => (h2 b hb).imp id (fun h => Nat.le_trans hX.size h)) (fun b hb => .inl hb) hu
    have HGL5 : Hid (∀ gl v X w5 T', Below w.heap.size w X → w.heap.size ≤ gl → gl < X.heap.size → X.cell? ⟨gl, 0, none⟩ = some v → RsP X x g s q Dn Dp T' w5 → w5.cell? ⟨gl, 0, none⟩ = some v ∧ gl < w5.heap.size) := by
      refine hid (fun gl v X w5 T' hX h1 h2 h3 hk => ?_)
      obtain ⟨_, _, _, hu⟩ := hk
      refine ⟨(World.cell?_of_block (a := ⟨gl, 0, none⟩) (hu.block gl h2 (fun h => ?_))).trans h3, Nat.lt_of_lt_of_le h2 hu.size⟩
      have := HLT.out gl (.inr (.inr (.inl h)))
      omega
    have hrs := fun (h : (F1.P m).k ≠ 2) => resize_file hth h
    have k5 : Hid (∀ X w4, RsP X x g s q Dn Dp { T with F := F1 } w4 → w4.cell? ⟨x, 1, none⟩ = some (.pointer (some ⟨s, 0, none⟩)) ∧ Calls Tryz.prog 59 #[.pointer (some ⟨s, 0, none⟩), .int .i64 (m : Int), .int .i64 0] w4 fun e w' => e = .returned (.int .i64 (F1.resize m 0).2) ∧ Hid (RsP X x g s q Dn Dp { T with F := (F1.resize m 0).1 } w')) := by
      refine hid (fun X w4 hk => ?_)
      obtain ⟨Gm, h1, h2, h3⟩ := hk
      refine ⟨h1.cs, (h1.resize nF m 0 (by decide)).mono ?_⟩
      rintro e w' ⟨rfl, hk⟩
      exact ⟨rfl, hid (RsP.trans h2 h3 (RsP.of (T := { T with F := F1 }) h1 (Below.refl _ _) hk (SH.resize _ _ _).1))⟩
    have hd1 : F1.d = T.F.d := nS.1
    have hkk : (F1.P m).k = 1 ∨ (F1.P m).k = 2 := by
      have h0 : (F1.P m).k ≠ 0 := by
        unfold Fs.there at hth
        simp only [Int.toNat_natCast, decide_eq_true_eq] at hth
        exact hth.2.2
      exact (nF.k m).resolve_left h0
    obtain ⟨cF1, cS1⟩ := Ft.cutF_ok nF m fg
    generalize (F1.stat m).2.1 = s1 at k3
    generalize (F1.stat m).2.2.1 = s2 at k3
    cases h2 : dfc fg 2
    · obtain ⟨d1, d2⟩ := ddfc_f h2
      have hc : Ft.cutF F1 m fg = (F1, 0) := by unfold Ft.cutF; rw [h2, if_pos rfl]
      rw [hc] at cF1 ⊢
      dsimp only at cF1 ⊢
      rw [if_neg (by simp)]
      clear k5 hrs h2 cS1 hc
      rcases hkk with hK | hK <;> rw [hK] at k3 <;> clear hK
      · generalize hrh : (F1).hold m = rh
        obtain ⟨F3, E3⟩ := rh
        have k4 := hid (k4.out (F1) cF1 hd1)
        rw [hrh] at k4
        clear hrh
        dsimp only at k4 ⊢
        by_cases hE3 : E3 = 0
        · subst hE3
          rw [if_neg (by simp)]
          dsimp only
          go_enter Tryz.func18, Tryz.ntmps18
          go_wp2_with fail
          refine k1.out.mono ?_
          rintro e w2 ⟨⟨v, rfl, hO⟩, hb2⟩
          obtain ⟨gl, cl, rfl, hgb, hgl, hgc⟩ := head_own hO
          have cg2 := hgc 0 (by simp)
          have HB2 := hid hb2
          have HGL := hid (And.intro hgb (And.intro hgl cg2))
          have hrl : ¬ ((r.length + 1 : Nat) : Int) = 0 := by omega
          have K2 := hid (k2.out w2 hb2)
          clear k1 k2 hO hb2 hgb hgl hgc cg2
          go_wp2_with fail
          refine K2.out.mono ?_
          rintro e w3 ⟨rfl, H3⟩
          clear K2
          obtain ⟨cs3, k3'⟩ := k3.out w2 w3 H3.out
          have K3 := hid k3'
          clear k3 k3' H3
          go_wp2_with fail
          refine K3.out.mono ?_
          rintro e w4 ⟨rfl, H4⟩
          clear K3 cs3
          obtain ⟨cs5, k4'⟩ := k4.out w2 _ H4.out
          have K4 := hid k4'
          clear k4 k4'
          go_wp2_with fail
          refine K4.out.mono ?_
          rintro e w5 ⟨rfl, H5⟩
          obtain ⟨⟨Dm, h5⟩, h6⟩ := HN.out _ w2 _ HB2.out H5.out
          obtain ⟨cg, hgl5⟩ := HGL5.out gl _ w2 _ _ HB2.out HGL.out.1 HGL.out.2.1 HGL.out.2.2 H5.out
          have hgg : gl ≠ g := fun e => by
            have := HLT.out g (.inr (.inl rfl))
            have := HGL.out.1
            omega
          have cl5 := h5.cl
          have z0 := h5.gf.fz (f * 5)
          have z1 := h5.gf.fz (f * 5 + 1)
          have z2 := h5.gf.fz (f * 5 + 2)
          have z3 := h5.gf.fz (f * 5 + 3)
          have z4 := h5.gf.fz (f * 5 + 4)
          have t0 := h5.gf.c0 f f11
          have t1 := h5.gf.c1 f f11
          have t2 := h5.gf.c2 f f11
          have t3 := h5.gf.c3 f f11
          have t4 := h5.gf.c4 f f11
          have i1 : (0 : Int) ≤ (f : Int) := by omega
          have i2 : (f : Int) < 11 := by omega
          have i3 : (0 : Int) < ((r.length + 1 : Nat) : Int) := by omega
          have H6 := hid h6
          have HGT := hid hgg
          clear h5 h6 H5 HN HGL5 hgg K4 cs5
          go_wp2_with fail
          go_region
          obtain ⟨W6, g6⟩ : ∃ W6, W6 = (((((w5.setCell ⟨g, f * 5, none⟩ (.int .i64 1)).setCell ⟨g, f * 5 + 1, none⟩ (.int .i64 (m : Int))).setCell ⟨g, f * 5 + 2, none⟩ (.int .i64 0)).setCell ⟨g, f * 5 + 3, none⟩ (.int .i64 fg)).setCell ⟨g, f * 5 + 4, none⟩ (.int .i64 1)).drew := ⟨_, rfl⟩
          have e6 : W6 = (w5.setCells g (f * 5) (flC ⟨1, (m : Int), 0, fg, 1⟩)).drew := g6
          rw [← g6]
          have hto := H6.out
          rw [← e6] at hto
          have u6 : Upd (· = g) w5 W6 := by rw [e6]; exact (upd_setCells g _ _ w5).drewD
          have c6 : W6.cell? ⟨gl, 0, none⟩ = some (.int .i64 (f : Int)) := (World.cell?_of_block (a := ⟨gl, 0, none⟩) (u6.block gl hgl5 HGT.out)).trans cg
          have HTO := hid hto
          clear g6 e6 u6 cg t0 t1 t2 t3 t4 z0 z1 z2 z3 z4 hto H6 hgl5 cl5
          go_wp2_with fail
          go_ret2
          exact ⟨rfl, HTO.out⟩
        · rw [if_pos hE3]
          dsimp only
          go_enter Tryz.func18, Tryz.ntmps18
          go_wp2_with fail
          refine k1.out.mono ?_
          rintro e w2 ⟨⟨v, rfl, hO⟩, hb2⟩
          obtain ⟨gl, cl, rfl, hgb, hgl, hgc⟩ := head_own hO
          have cg2 := hgc 0 (by simp)
          have HB2 := hid hb2
          have HGL := hid (And.intro hgb (And.intro hgl cg2))
          have hrl : ¬ ((r.length + 1 : Nat) : Int) = 0 := by omega
          have K2 := hid (k2.out w2 hb2)
          clear k1 k2 hO hb2 hgb hgl hgc cg2
          go_wp2_with fail
          refine K2.out.mono ?_
          rintro e w3 ⟨rfl, H3⟩
          clear K2
          obtain ⟨cs3, k3'⟩ := k3.out w2 w3 H3.out
          have K3 := hid k3'
          clear k3 k3' H3
          go_wp2_with fail
          refine K3.out.mono ?_
          rintro e w4 ⟨rfl, H4⟩
          clear K3 cs3
          obtain ⟨cs5, k4'⟩ := k4.out w2 _ H4.out
          have K4 := hid k4'
          clear k4 k4'
          go_wp2_with fail
          refine K4.out.mono ?_
          rintro e w5 ⟨rfl, H5⟩
          have HQ := hid (HW.out w2 _ w5 HB2.out H5.out)
          have hne : (E3 == 0) = false := by simpa using hE3
          go_wp2_with fail
          go_ret2
          exact ⟨rfl, HQ.out⟩
      · generalize hrh : (F1).hold m = rh
        obtain ⟨F3, E3⟩ := rh
        have k4 := hid (k4.out (F1) cF1 hd1)
        rw [hrh] at k4
        clear hrh
        dsimp only at k4 ⊢
        by_cases hE3 : E3 = 0
        · subst hE3
          rw [if_neg (by simp)]
          dsimp only
          go_enter Tryz.func18, Tryz.ntmps18
          go_wp2_with fail
          refine k1.out.mono ?_
          rintro e w2 ⟨⟨v, rfl, hO⟩, hb2⟩
          obtain ⟨gl, cl, rfl, hgb, hgl, hgc⟩ := head_own hO
          have cg2 := hgc 0 (by simp)
          have HB2 := hid hb2
          have HGL := hid (And.intro hgb (And.intro hgl cg2))
          have hrl : ¬ ((r.length + 1 : Nat) : Int) = 0 := by omega
          have K2 := hid (k2.out w2 hb2)
          clear k1 k2 hO hb2 hgb hgl hgc cg2
          go_wp2_with fail
          refine K2.out.mono ?_
          rintro e w3 ⟨rfl, H3⟩
          clear K2
          obtain ⟨cs3, k3'⟩ := k3.out w2 w3 H3.out
          have K3 := hid k3'
          clear k3 k3' H3
          go_wp2_with fail
          refine K3.out.mono ?_
          rintro e w4 ⟨rfl, H4⟩
          clear K3 cs3
          obtain ⟨cs5, k4'⟩ := k4.out w2 _ H4.out
          have K4 := hid k4'
          clear k4 k4'
          go_wp2_with fail
          refine K4.out.mono ?_
          rintro e w5 ⟨rfl, H5⟩
          obtain ⟨⟨Dm, h5⟩, h6⟩ := HN.out _ w2 _ HB2.out H5.out
          obtain ⟨cg, hgl5⟩ := HGL5.out gl _ w2 _ _ HB2.out HGL.out.1 HGL.out.2.1 HGL.out.2.2 H5.out
          have hgg : gl ≠ g := fun e => by
            have := HLT.out g (.inr (.inl rfl))
            have := HGL.out.1
            omega
          have cl5 := h5.cl
          have z0 := h5.gf.fz (f * 5)
          have z1 := h5.gf.fz (f * 5 + 1)
          have z2 := h5.gf.fz (f * 5 + 2)
          have z3 := h5.gf.fz (f * 5 + 3)
          have z4 := h5.gf.fz (f * 5 + 4)
          have t0 := h5.gf.c0 f f11
          have t1 := h5.gf.c1 f f11
          have t2 := h5.gf.c2 f f11
          have t3 := h5.gf.c3 f f11
          have t4 := h5.gf.c4 f f11
          have i1 : (0 : Int) ≤ (f : Int) := by omega
          have i2 : (f : Int) < 11 := by omega
          have i3 : (0 : Int) < ((r.length + 1 : Nat) : Int) := by omega
          have H6 := hid h6
          have HGT := hid hgg
          clear h5 h6 H5 HN HGL5 hgg K4 cs5
          go_wp2_with fail
          go_region
          obtain ⟨W6, g6⟩ : ∃ W6, W6 = (((((w5.setCell ⟨g, f * 5, none⟩ (.int .i64 1)).setCell ⟨g, f * 5 + 1, none⟩ (.int .i64 (m : Int))).setCell ⟨g, f * 5 + 2, none⟩ (.int .i64 0)).setCell ⟨g, f * 5 + 3, none⟩ (.int .i64 fg)).setCell ⟨g, f * 5 + 4, none⟩ (.int .i64 1)).drew := ⟨_, rfl⟩
          have e6 : W6 = (w5.setCells g (f * 5) (flC ⟨1, (m : Int), 0, fg, 1⟩)).drew := g6
          rw [← g6]
          have hto := H6.out
          rw [← e6] at hto
          have u6 : Upd (· = g) w5 W6 := by rw [e6]; exact (upd_setCells g _ _ w5).drewD
          have c6 : W6.cell? ⟨gl, 0, none⟩ = some (.int .i64 (f : Int)) := (World.cell?_of_block (a := ⟨gl, 0, none⟩) (u6.block gl hgl5 HGT.out)).trans cg
          have HTO := hid hto
          clear g6 e6 u6 cg t0 t1 t2 t3 t4 z0 z1 z2 z3 z4 hto H6 hgl5 cl5
          go_wp2_with fail
          go_ret2
          exact ⟨rfl, HTO.out⟩
        · rw [if_pos hE3]
          dsimp only
          go_enter Tryz.func18, Tryz.ntmps18
          go_wp2_with fail
          refine k1.out.mono ?_
          rintro e w2 ⟨⟨v, rfl, hO⟩, hb2⟩
          obtain ⟨gl, cl, rfl, hgb, hgl, hgc⟩ := head_own hO
          have cg2 := hgc 0 (by simp)
          have HB2 := hid hb2
          have HGL := hid (And.intro hgb (And.intro hgl cg2))
          have hrl : ¬ ((r.length + 1 : Nat) : Int) = 0 := by omega
          have K2 := hid (k2.out w2 hb2)
          clear k1 k2 hO hb2 hgb hgl hgc cg2
          go_wp2_with fail
          refine K2.out.mono ?_
          rintro e w3 ⟨rfl, H3⟩
          clear K2
          obtain ⟨cs3, k3'⟩ := k3.out w2 w3 H3.out
          have K3 := hid k3'
          clear k3 k3' H3
          go_wp2_with fail
          refine K3.out.mono ?_
          rintro e w4 ⟨rfl, H4⟩
          clear K3 cs3
          obtain ⟨cs5, k4'⟩ := k4.out w2 _ H4.out
          have K4 := hid k4'
          clear k4 k4'
          go_wp2_with fail
          refine K4.out.mono ?_
          rintro e w5 ⟨rfl, H5⟩
          have HQ := hid (HW.out w2 _ w5 HB2.out H5.out)
          have hne : (E3 == 0) = false := by simpa using hE3
          go_wp2_with fail
          go_ret2
          exact ⟨rfl, HQ.out⟩
    · obtain ⟨d1, d2⟩ := ddfc_t h2
      rcases hkk with hK | hK <;> rw [hK] at k3
      · cases h3 : dfc fg 32
        · obtain ⟨d3, d4⟩ := ddfc_f h3
          have hc : Ft.cutF F1 m fg = (F1, 0) := by unfold Ft.cutF; rw [h2, if_neg (by simp), hK, if_neg (by decide), h3, if_pos rfl]
          rw [hc] at cF1 ⊢
          dsimp only at cF1 ⊢
          rw [if_neg (by simp)]
          clear k5 hrs h3 h2 hK cS1 hc
          generalize hrh : (F1).hold m = rh
          obtain ⟨F3, E3⟩ := rh
          have k4 := hid (k4.out (F1) cF1 hd1)
          rw [hrh] at k4
          clear hrh
          dsimp only at k4 ⊢
          by_cases hE3 : E3 = 0
          · subst hE3
            rw [if_neg (by simp)]
            dsimp only
            go_enter Tryz.func18, Tryz.ntmps18
            go_wp2_with fail
            refine k1.out.mono ?_
            rintro e w2 ⟨⟨v, rfl, hO⟩, hb2⟩
            obtain ⟨gl, cl, rfl, hgb, hgl, hgc⟩ := head_own hO
            have cg2 := hgc 0 (by simp)
            have HB2 := hid hb2
            have HGL := hid (And.intro hgb (And.intro hgl cg2))
            have hrl : ¬ ((r.length + 1 : Nat) : Int) = 0 := by omega
            have K2 := hid (k2.out w2 hb2)
            clear k1 k2 hO hb2 hgb hgl hgc cg2
            go_wp2_with fail
            refine K2.out.mono ?_
            rintro e w3 ⟨rfl, H3⟩
            clear K2
            obtain ⟨cs3, k3'⟩ := k3.out w2 w3 H3.out
            have K3 := hid k3'
            clear k3 k3' H3
            go_wp2_with fail
            refine K3.out.mono ?_
            rintro e w4 ⟨rfl, H4⟩
            clear K3 cs3
            obtain ⟨cs5, k4'⟩ := k4.out w2 _ H4.out
            have K4 := hid k4'
            clear k4 k4'
            go_wp2_with fail
            refine K4.out.mono ?_
            rintro e w5 ⟨rfl, H5⟩
            obtain ⟨⟨Dm, h5⟩, h6⟩ := HN.out _ w2 _ HB2.out H5.out
            obtain ⟨cg, hgl5⟩ := HGL5.out gl _ w2 _ _ HB2.out HGL.out.1 HGL.out.2.1 HGL.out.2.2 H5.out
            have hgg : gl ≠ g := fun e => by
              have := HLT.out g (.inr (.inl rfl))
              have := HGL.out.1
              omega
            have cl5 := h5.cl
            have z0 := h5.gf.fz (f * 5)
            have z1 := h5.gf.fz (f * 5 + 1)
            have z2 := h5.gf.fz (f * 5 + 2)
            have z3 := h5.gf.fz (f * 5 + 3)
            have z4 := h5.gf.fz (f * 5 + 4)
            have t0 := h5.gf.c0 f f11
            have t1 := h5.gf.c1 f f11
            have t2 := h5.gf.c2 f f11
            have t3 := h5.gf.c3 f f11
            have t4 := h5.gf.c4 f f11
            have i1 : (0 : Int) ≤ (f : Int) := by omega
            have i2 : (f : Int) < 11 := by omega
            have i3 : (0 : Int) < ((r.length + 1 : Nat) : Int) := by omega
            have H6 := hid h6
            have HGT := hid hgg
            clear h5 h6 H5 HN HGL5 hgg K4 cs5
            go_wp2_with fail
            go_region
            obtain ⟨W6, g6⟩ : ∃ W6, W6 = (((((w5.setCell ⟨g, f * 5, none⟩ (.int .i64 1)).setCell ⟨g, f * 5 + 1, none⟩ (.int .i64 (m : Int))).setCell ⟨g, f * 5 + 2, none⟩ (.int .i64 0)).setCell ⟨g, f * 5 + 3, none⟩ (.int .i64 fg)).setCell ⟨g, f * 5 + 4, none⟩ (.int .i64 1)).drew := ⟨_, rfl⟩
            have e6 : W6 = (w5.setCells g (f * 5) (flC ⟨1, (m : Int), 0, fg, 1⟩)).drew := g6
            rw [← g6]
            have hto := H6.out
            rw [← e6] at hto
            have u6 : Upd (· = g) w5 W6 := by rw [e6]; exact (upd_setCells g _ _ w5).drewD
            have c6 : W6.cell? ⟨gl, 0, none⟩ = some (.int .i64 (f : Int)) := (World.cell?_of_block (a := ⟨gl, 0, none⟩) (u6.block gl hgl5 HGT.out)).trans cg
            have HTO := hid hto
            clear g6 e6 u6 cg t0 t1 t2 t3 t4 z0 z1 z2 z3 z4 hto H6 hgl5 cl5
            go_wp2_with fail
            go_ret2
            exact ⟨rfl, HTO.out⟩
          · rw [if_pos hE3]
            dsimp only
            go_enter Tryz.func18, Tryz.ntmps18
            go_wp2_with fail
            refine k1.out.mono ?_
            rintro e w2 ⟨⟨v, rfl, hO⟩, hb2⟩
            obtain ⟨gl, cl, rfl, hgb, hgl, hgc⟩ := head_own hO
            have cg2 := hgc 0 (by simp)
            have HB2 := hid hb2
            have HGL := hid (And.intro hgb (And.intro hgl cg2))
            have hrl : ¬ ((r.length + 1 : Nat) : Int) = 0 := by omega
            have K2 := hid (k2.out w2 hb2)
            clear k1 k2 hO hb2 hgb hgl hgc cg2
            go_wp2_with fail
            refine K2.out.mono ?_
            rintro e w3 ⟨rfl, H3⟩
            clear K2
            obtain ⟨cs3, k3'⟩ := k3.out w2 w3 H3.out
            have K3 := hid k3'
            clear k3 k3' H3
            go_wp2_with fail
            refine K3.out.mono ?_
            rintro e w4 ⟨rfl, H4⟩
            clear K3 cs3
            obtain ⟨cs5, k4'⟩ := k4.out w2 _ H4.out
            have K4 := hid k4'
            clear k4 k4'
            go_wp2_with fail
            refine K4.out.mono ?_
            rintro e w5 ⟨rfl, H5⟩
            have HQ := hid (HW.out w2 _ w5 HB2.out H5.out)
            have hne : (E3 == 0) = false := by simpa using hE3
            go_wp2_with fail
            go_ret2
            exact ⟨rfl, HQ.out⟩
        · obtain ⟨d3, d4⟩ := ddfc_t h3
          have hc : Ft.cutF F1 m fg = F1.resize m 0 := by unfold Ft.cutF; rw [h2, if_neg (by simp), hK, if_neg (by decide), h3, if_neg (by simp)]
          rw [hc] at cF1 cS1 ⊢
          have hr0 := hrs (by rw [hK]; decide)
          have hd2 : (F1.resize m 0).1.d = T.F.d := cS1.1.trans hd1
          clear hrs h3 h2 hK cS1 hc
          rw [hr0] at k5
          generalize F1.resize m 0 = rz at k5 cF1 hd2 hr0 ⊢
          obtain ⟨F2, E2⟩ := rz
          dsimp only at k5 cF1 hd2 hr0 ⊢
          rw [hr0, if_neg (by simp)]
          clear hr0
          generalize hrh : (F2).hold m = rh
          obtain ⟨F3, E3⟩ := rh
          have k4 := hid (k4.out (F2) cF1 hd2)
          rw [hrh] at k4
          clear hrh
          dsimp only at k4 ⊢
          by_cases hE3 : E3 = 0
          · subst hE3
            rw [if_neg (by simp)]
            dsimp only
            go_enter Tryz.func18, Tryz.ntmps18
            go_wp2_with fail
            refine k1.out.mono ?_
            rintro e w2 ⟨⟨v, rfl, hO⟩, hb2⟩
            obtain ⟨gl, cl, rfl, hgb, hgl, hgc⟩ := head_own hO
            have cg2 := hgc 0 (by simp)
            have HB2 := hid hb2
            have HGL := hid (And.intro hgb (And.intro hgl cg2))
            have hrl : ¬ ((r.length + 1 : Nat) : Int) = 0 := by omega
            have K2 := hid (k2.out w2 hb2)
            clear k1 k2 hO hb2 hgb hgl hgc cg2
            go_wp2_with fail
            refine K2.out.mono ?_
            rintro e w3 ⟨rfl, H3⟩
            clear K2
            obtain ⟨cs3, k3'⟩ := k3.out w2 w3 H3.out
            have K3 := hid k3'
            clear k3 k3' H3
            go_wp2_with fail
            refine K3.out.mono ?_
            rintro e w4 ⟨rfl, H4⟩
            clear K3 cs3
            obtain ⟨cs4, k5'⟩ := k5.out w2 _ H4.out
            have K5 := hid k5'
            clear k5 k5' H4
            go_wp2_with fail
            refine K5.out.mono ?_
            rintro e w6 ⟨rfl, H4⟩
            clear K5 cs4
            obtain ⟨cs5, k4'⟩ := k4.out w2 _ H4.out
            have K4 := hid k4'
            clear k4 k4'
            go_wp2_with fail
            refine K4.out.mono ?_
            rintro e w5 ⟨rfl, H5⟩
            obtain ⟨⟨Dm, h5⟩, h6⟩ := HN.out _ w2 _ HB2.out H5.out
            obtain ⟨cg, hgl5⟩ := HGL5.out gl _ w2 _ _ HB2.out HGL.out.1 HGL.out.2.1 HGL.out.2.2 H5.out
            have hgg : gl ≠ g := fun e => by
              have := HLT.out g (.inr (.inl rfl))
              have := HGL.out.1
              omega
            have cl5 := h5.cl
            have z0 := h5.gf.fz (f * 5)
            have z1 := h5.gf.fz (f * 5 + 1)
            have z2 := h5.gf.fz (f * 5 + 2)
            have z3 := h5.gf.fz (f * 5 + 3)
            have z4 := h5.gf.fz (f * 5 + 4)
            have t0 := h5.gf.c0 f f11
            have t1 := h5.gf.c1 f f11
            have t2 := h5.gf.c2 f f11
            have t3 := h5.gf.c3 f f11
            have t4 := h5.gf.c4 f f11
            have i1 : (0 : Int) ≤ (f : Int) := by omega
            have i2 : (f : Int) < 11 := by omega
            have i3 : (0 : Int) < ((r.length + 1 : Nat) : Int) := by omega
            have H6 := hid h6
            have HGT := hid hgg
            clear h5 h6 H5 HN HGL5 hgg K4 cs5
            go_wp2_with fail
            go_region
            obtain ⟨W6, g6⟩ : ∃ W6, W6 = (((((w5.setCell ⟨g, f * 5, none⟩ (.int .i64 1)).setCell ⟨g, f * 5 + 1, none⟩ (.int .i64 (m : Int))).setCell ⟨g, f * 5 + 2, none⟩ (.int .i64 0)).setCell ⟨g, f * 5 + 3, none⟩ (.int .i64 fg)).setCell ⟨g, f * 5 + 4, none⟩ (.int .i64 1)).drew := ⟨_, rfl⟩
            have e6 : W6 = (w5.setCells g (f * 5) (flC ⟨1, (m : Int), 0, fg, 1⟩)).drew := g6
            rw [← g6]
            have hto := H6.out
            rw [← e6] at hto
            have u6 : Upd (· = g) w5 W6 := by rw [e6]; exact (upd_setCells g _ _ w5).drewD
            have c6 : W6.cell? ⟨gl, 0, none⟩ = some (.int .i64 (f : Int)) := (World.cell?_of_block (a := ⟨gl, 0, none⟩) (u6.block gl hgl5 HGT.out)).trans cg
            have HTO := hid hto
            clear g6 e6 u6 cg t0 t1 t2 t3 t4 z0 z1 z2 z3 z4 hto H6 hgl5 cl5
            go_wp2_with fail
            go_ret2
            exact ⟨rfl, HTO.out⟩
          · rw [if_pos hE3]
            dsimp only
            go_enter Tryz.func18, Tryz.ntmps18
            go_wp2_with fail
            refine k1.out.mono ?_
            rintro e w2 ⟨⟨v, rfl, hO⟩, hb2⟩
            obtain ⟨gl, cl, rfl, hgb, hgl, hgc⟩ := head_own hO
            have cg2 := hgc 0 (by simp)
            have HB2 := hid hb2
            have HGL := hid (And.intro hgb (And.intro hgl cg2))
            have hrl : ¬ ((r.length + 1 : Nat) : Int) = 0 := by omega
            have K2 := hid (k2.out w2 hb2)
            clear k1 k2 hO hb2 hgb hgl hgc cg2
            go_wp2_with fail
            refine K2.out.mono ?_
            rintro e w3 ⟨rfl, H3⟩
            clear K2
            obtain ⟨cs3, k3'⟩ := k3.out w2 w3 H3.out
            have K3 := hid k3'
            clear k3 k3' H3
            go_wp2_with fail
            refine K3.out.mono ?_
            rintro e w4 ⟨rfl, H4⟩
            clear K3 cs3
            obtain ⟨cs4, k5'⟩ := k5.out w2 _ H4.out
            have K5 := hid k5'
            clear k5 k5' H4
            go_wp2_with fail
            refine K5.out.mono ?_
            rintro e w6 ⟨rfl, H4⟩
            clear K5 cs4
            obtain ⟨cs5, k4'⟩ := k4.out w2 _ H4.out
            have K4 := hid k4'
            clear k4 k4'
            go_wp2_with fail
            refine K4.out.mono ?_
            rintro e w5 ⟨rfl, H5⟩
            have HQ := hid (HW.out w2 _ w5 HB2.out H5.out)
            have hne : (E3 == 0) = false := by simpa using hE3
            go_wp2_with fail
            go_ret2
            exact ⟨rfl, HQ.out⟩
      · have hc : Ft.cutF F1 m fg = (F1, 21) := by unfold Ft.cutF; rw [h2, if_neg (by simp), hK, if_pos rfl]
        rw [hc]
        dsimp only
        rw [if_pos (by decide)]
        clear k4 k5 HN hrs cF1 cS1 h2 hc hK
        dsimp only
        go_enter Tryz.func18, Tryz.ntmps18
        go_wp2_with fail
        refine k1.out.mono ?_
        rintro e w2 ⟨⟨v, rfl, hO⟩, hb2⟩
        obtain ⟨gl, cl, rfl, hgb, hgl, hgc⟩ := head_own hO
        have cg2 := hgc 0 (by simp)
        have HB2 := hid hb2
        have HGL := hid (And.intro hgb (And.intro hgl cg2))
        have hrl : ¬ ((r.length + 1 : Nat) : Int) = 0 := by omega
        have K2 := hid (k2.out w2 hb2)
        clear k1 k2 hO hb2 hgb hgl hgc cg2
        go_wp2_with fail
        refine K2.out.mono ?_
        rintro e w3 ⟨rfl, H3⟩
        clear K2
        obtain ⟨cs3, k3'⟩ := k3.out w2 w3 H3.out
        have K3 := hid k3'
        clear k3 k3' H3
        go_wp2_with fail
        refine K3.out.mono ?_
        rintro e w4 ⟨rfl, H4⟩
        clear K3 cs3
        have HQ := hid (HW.out w2 _ _ HB2.out H4.out)
        go_wp2_with fail
        go_ret2
        exact ⟨rfl, HQ.out⟩

end Go.Proofs.YtoknhcjneliboaaGreat

/- What Pipe of the document's open files does. -/
namespace Go.Proofs.YtoknhcjneliboaaGreat
open Go.RowKit Go.ChangeMaps Go.MapKept
set_option linter.unusedVariables false
set_option maxRecDepth 20000

theorem TdTo.after {w w' w2 : World} {x : Nat} {T : Ft} {D : Nat → Prop} (h : TdTo w x T D w') (u : Upd (fun _ => False) w' w2) : TdTo w x T D w2 :=
  ⟨h.1.upd u (fun _ _ _ h => h), h.2.trans u (fun _ _ h => h.elim)⟩

set_option maxHeartbeats 8000000 in
theorem tdpipe (w : World) (x : Nat) (T : Ft) (D : Nat → Prop) (HP : Td w x T D) (hT : TOk T) :
    Calls Tryz.prog 20 #[.pointer (some ⟨x, 0, none⟩)] w fun e w' => e = .returned (.tuple #[.int .i64 (T.pipe.2.1 : Int), .int .i64 (T.pipe.2.2.1 : Int), .int .i64 T.pipe.2.2.2]) ∧ TdTo w x T.pipe.1 D w' := by
  have HP0 := HP
  obtain ⟨g, s, q, Dn, Dp, H, hD1⟩ := HP.mono (D' := fun b => D b ∧ b < w.heap.size) (fun x hx h => ⟨h, hx⟩)
  have hD : ∀ b, RFoot x g Dn Dp b → D b := fun b hb => (hD1 b hb).1
  have hlt : ∀ b, RFoot x g Dn Dp b → b < w.heap.size := fun b hb => (hD1 b hb).2
  have HS := hid (fun X (hX : Below w.heap.size w X) => TdTo.same HP0 hX)
  have k1 := r8free w x g s q Dn Dp T H hT
  have hmem := @ofL_mem T.O 11
  by_cases h2 : (ofL T.O 11).length < 2
  · rw [pipe_eq1 T h2]
    generalize ofL T.O 11 = L at k1 h2
    have k1 := hid k1
    obtain ⟨n, gn⟩ : ∃ n, n = L.length := ⟨_, rfl⟩
    have hn2 : (n : Int) < 2 := by omega
    rw [← gn] at k1
    clear H hD hD1 hlt HP HP0 hmem gn h2 hT
    dsimp only
    go_enter Tryz.func20, Tryz.ntmps20
    go_wp2_with fail
    refine k1.out.mono ?_
    rintro e w2 ⟨⟨v, rfl, hO⟩, hb⟩
    have HQ := hid (HS.out w2 hb)
    obtain ⟨a, c, rfl, _⟩ := own_shp hO
    clear k1 hO hb HS
    go_wp2_with fail
    go_ret3
    exact ⟨rfl, HQ.out⟩
  obtain ⟨a, b, r, hL⟩ : ∃ a b r, ofL T.O 11 = a :: b :: r := by
    cases h : ofL T.O 11 with
    | nil => rw [h] at h2; exact absurd (by simp) h2
    | cons a l =>
      cases l with
      | nil => rw [h] at h2; exact absurd (by simp) h2
      | cons b r => exact ⟨a, b, r, rfl⟩
  rw [pipe_eq2 T a b r hL]
  rw [hL] at k1 hmem
  obtain ⟨a1, a11, ah⟩ := hmem (i := a) List.mem_cons_self
  obtain ⟨b1, b11, bh⟩ := hmem (i := b) (List.mem_cons_of_mem _ List.mem_cons_self)
  clear hmem hL h2
  have k1 := hid k1
  have cp := hid (fun X (hX : Below w.heap.size w X) => (H.grow hX).cq)
  have k2 : Hid (∀ X, Below w.heap.size w X → Calls Tryz.prog 62 #[.pointer (some ⟨q, 0, none⟩)] X fun e w' => e = .returned (.tuple #[.int .i64 (Pi.lowest T.P : Int), .int .i64 (Pi.makeE T.P)]) ∧ Hid (Rs X x g s q Dn Dp T ∧ PdTo X q T.F.d (Pi.makeP T.P) Dp w')) := by
    refine hid (fun X hX => ((H.grow hX).pmake).mono ?_)
    rintro e w' ⟨rfl, hk⟩
    exact ⟨rfl, hid ⟨H.grow hX, hk⟩⟩
  have HLT := hid hlt
  have HD := hid hD
  have hlp := hid H.lp
  have hsame : Pi.makeE T.P ≠ 0 → Pi.makeP T.P = T.P := fun h => by
    unfold Pi.makeE at h
    unfold Pi.makeP
    by_cases e : Pi.lowest T.P = 0
    · rw [if_pos e]
    · rw [if_neg e] at h; exact absurd rfl h
  clear H hD hD1 hlt HP HP0 hT HS
  generalize Pi.makeE T.P = E at k2 hsame ⊢
  generalize Pi.lowest T.P = m at k2 ⊢
  by_cases hE : E = 0
  · subst hE
    rw [if_neg (by simp)]
    dsimp only
    clear hsame
    generalize hT' : ({ T with P := Pi.makeP T.P, O := updF (updF T.O a ⟨2, (m : Int), 0, 1, 1⟩) b ⟨3, (m : Int), 0, 2, 1⟩ } : Ft) = T'
    have HN : Hid (∀ X w5, Below w.heap.size w X → Rs X x g s q Dn Dp T → PdTo X q T.F.d (Pi.makeP T.P) Dp w5 → (∃ Dm T5, Rs w5 x g s q Dn Dm T5) ∧ (∃ Dm T5, Rs ((w5.setCells g (a * 5) (flC ⟨2, (m : Int), 0, 1, 1⟩)).drew) x g s q Dn Dm T5) ∧ TdTo w x T' D ((((w5.setCells g (a * 5) (flC ⟨2, (m : Int), 0, 1, 1⟩)).drew).setCells g (b * 5) (flC ⟨3, (m : Int), 0, 2, 1⟩)).drew)) := by
      refine hid (fun X w5 hX hk hu => ?_)
      have h3 := hk.pip hu
      have h4 := h3.putNew a a11 ⟨2, (m : Int), 0, 1, 1⟩
      have h5 := h4.putNew b b11 ⟨3, (m : Int), 0, 2, 1⟩
      refine ⟨⟨_, _, h3⟩, ⟨_, _, h4⟩, ?_⟩
      rw [← hT']
      refine TdTo.of h5 HD.out (fun b hb => .inl hb) (fun b hb => hb.1.imp id (fun h => Nat.le_trans hX.size h)) ?_
      exact ((((Upd.of_below hX).trans hu.2 (fun b _ hb => .inr (.inr (.inr hb)))).trans (upd_setCells g _ _ w5).drewD (fun b _ hb => .inr (.inl hb)))).trans (upd_setCells g _ _ _).drewD (fun b _ hb => .inr (.inl hb))
    clear hT'
    go_enter Tryz.func20, Tryz.ntmps20
    go_wp2_with fail
    refine k1.out.mono ?_
    rintro e w2 ⟨⟨v, rfl, hO⟩, hb2⟩
    obtain ⟨gl, cl, rfl, hgb, hgl, hgc⟩ := head_own hO
    have cga := hgc 0 (by simp)
    have cgb := hgc 1 (by simp)
    have HB2 := hid hb2
    have HGL := hid (And.intro hgb (And.intro hgl (And.intro cga cgb)))
    have hrl : ¬ (((b :: r).length + 1 : Nat) : Int) < 2 := by simp; omega
    have hrl2 : (1 : Int) < (((b :: r).length + 1 : Nat) : Int) := by simp; omega
    have hrl3 : (0 : Int) < (((b :: r).length + 1 : Nat) : Int) := by simp; omega
    generalize (b :: r).length + 1 = ln at hrl hrl2 hrl3 ⊢
    have K2 := hid (k2.out w2 hb2)
    have cp2 := cp.out w2 hb2
    clear k1 k2 hO hb2 hgb hgl hgc cga cgb cp
    go_wp2_with fail
    refine K2.out.mono ?_
    rintro e w5 ⟨rfl, H5⟩
    obtain ⟨⟨Dm5, T5, hs5⟩, ⟨Dm6, T6, h5⟩, h6⟩ := HN.out w2 w5 HB2.out H5.out.1 H5.out.2
    have hgq : ¬ Dp gl := fun e => by
      have := HLT.out gl (.inr (.inr (.inr e)))
      have := HGL.out.1
      omega
    have hgt : gl ≠ g := fun e => by
      have := HLT.out g (.inr (.inl rfl))
      have := HGL.out.1
      omega
    have hb5 := H5.out.2.2.block gl HGL.out.2.1 hgq
    have cga := (World.cell?_of_block (a := ⟨gl, 0, none⟩) hb5).trans HGL.out.2.2.1
    have cgb := (World.cell?_of_block (a := ⟨gl, 1, none⟩) hb5).trans HGL.out.2.2.2
    have hgl5 : gl < w5.heap.size := Nat.lt_of_lt_of_le HGL.out.2.1 H5.out.2.2.size
    have cl5 := hs5.cl
    have t0 := hs5.gf.c0 a a11
    have t1 := hs5.gf.c1 a a11
    have t2 := hs5.gf.c2 a a11
    have t3 := hs5.gf.c3 a a11
    have t4 := hs5.gf.c4 a a11
    have z0 := hs5.gf.fz (a * 5)
    have z1 := hs5.gf.fz (a * 5 + 1)
    have z2 := hs5.gf.fz (a * 5 + 2)
    have z3 := hs5.gf.fz (a * 5 + 3)
    have z4 := hs5.gf.fz (a * 5 + 4)
    have i1 : (0 : Int) ≤ (a : Int) := by omega
    have i2 : (a : Int) < 11 := by omega
    have i3 : (0 : Int) ≤ (b : Int) := by omega
    have i4 : (b : Int) < 11 := by omega
    have H6 := hid h6
    have H5' := hid h5
    have HGT := hid hgt
    clear h5 h6 H5 HN hgt K2 cp2 hs5 hgq hb5
    go_wp2_with fail
    go_region
    obtain ⟨W6, g6⟩ : ∃ W6, W6 = (((((w5.setCell ⟨g, a * 5, none⟩ (.int .i64 2)).setCell ⟨g, a * 5 + 1, none⟩ (.int .i64 (m : Int))).setCell ⟨g, a * 5 + 2, none⟩ (.int .i64 0)).setCell ⟨g, a * 5 + 3, none⟩ (.int .i64 1)).setCell ⟨g, a * 5 + 4, none⟩ (.int .i64 1)).drew := ⟨_, rfl⟩
    have e6 : W6 = (w5.setCells g (a * 5) (flC ⟨2, (m : Int), 0, 1, 1⟩)).drew := g6
    rw [← g6]
    have u6 : Upd (· = g) w5 W6 := by rw [e6]; exact (upd_setCells g _ _ w5).drewD
    have hto := H6.out
    have hs6 := H5'.out
    rw [← e6] at hto hs6
    have hb6 := u6.block gl hgl5 HGT.out
    have dga := (World.cell?_of_block (a := ⟨gl, 0, none⟩) hb6).trans cga
    have dgb := (World.cell?_of_block (a := ⟨gl, 1, none⟩) hb6).trans cgb
    have hgl6 : gl < W6.heap.size := Nat.lt_of_lt_of_le hgl5 u6.size
    clear g6 e6 u6 cga cgb t0 t1 t2 t3 t4 z0 z1 z2 z3 z4 H6 H5' hgl5 hb6 cl5
    have cl5 := hs6.cl
    have t0 := hs6.gf.c0 b b11
    have t1 := hs6.gf.c1 b b11
    have t2 := hs6.gf.c2 b b11
    have t3 := hs6.gf.c3 b b11
    have t4 := hs6.gf.c4 b b11
    have z0 := hs6.gf.fz (b * 5)
    have z1 := hs6.gf.fz (b * 5 + 1)
    have z2 := hs6.gf.fz (b * 5 + 2)
    have z3 := hs6.gf.fz (b * 5 + 3)
    have z4 := hs6.gf.fz (b * 5 + 4)
    have HTO := hid hto
    clear hto hs6
    go_wp2_with fail
    go_region
    obtain ⟨W7, g7⟩ : ∃ W7, W7 = (((((W6.setCell ⟨g, b * 5, none⟩ (.int .i64 3)).setCell ⟨g, b * 5 + 1, none⟩ (.int .i64 (m : Int))).setCell ⟨g, b * 5 + 2, none⟩ (.int .i64 0)).setCell ⟨g, b * 5 + 3, none⟩ (.int .i64 2)).setCell ⟨g, b * 5 + 4, none⟩ (.int .i64 1)).drew := ⟨_, rfl⟩
    have e7 : W7 = (W6.setCells g (b * 5) (flC ⟨3, (m : Int), 0, 2, 1⟩)).drew := g7
    rw [← g7]
    have u7 : Upd (· = g) W6 W7 := by rw [e7]; exact (upd_setCells g _ _ W6).drewD
    have hto := HTO.out
    rw [← e7] at hto
    have hb7 := u7.block gl hgl6 HGT.out
    have ega := (World.cell?_of_block (a := ⟨gl, 0, none⟩) hb7).trans dga
    have egb := (World.cell?_of_block (a := ⟨gl, 1, none⟩) hb7).trans dgb
    have HTO2 := hid (hto : TdTo w x T' D W7)
    clear g7 e7 u7 dga dgb t0 t1 t2 t3 t4 z0 z1 z2 z3 z4 hto HTO hgl6 hb7 cl5
    go_wp2_with fail
    go_region
    go_wp2_with fail
    go_ret3
    exact ⟨rfl, TdTo.after HTO2.out (Upd.refl _ _).drewD⟩
  · rw [if_pos hE]
    have hse := hsame hE
    clear hsame
    dsimp only
    go_enter Tryz.func20, Tryz.ntmps20
    go_wp2_with fail
    refine k1.out.mono ?_
    rintro e w2 ⟨⟨v, rfl, hO⟩, hb2⟩
    obtain ⟨gl, cl, rfl, hgb, hgl, hgc⟩ := head_own hO
    have HB2 := hid hb2
    have hrl : ¬ (((b :: r).length + 1 : Nat) : Int) < 2 := by simp; omega
    generalize (b :: r).length + 1 = ln at hrl ⊢
    have K2 := hid (k2.out w2 hb2)
    have cp2 := cp.out w2 hb2
    clear k1 k2 hO hb2 hgb hgl hgc cp
    go_wp2_with fail
    refine K2.out.mono ?_
    rintro e w5 ⟨rfl, H5⟩
    have HQ : Hid (TdTo w x T D w5) := by
      have h1 := H5.out.2
      rw [hse] at h1
      exact hid (TdTo.pip H5.out.1 HB2.out HD.out h1)
    have hne : (E == 0) = false := by simpa using hE
    clear K2 cp2 H5
    go_wp2_with fail
    go_ret3
    exact ⟨rfl, HQ.out⟩

end Go.Proofs.YtoknhcjneliboaaGreat

/- The document's New with any defects. -/
namespace Go.Proofs.YtoknhcjneliboaaGreat
open Go.RowKit
set_option linter.unusedVariables false
set_option maxRecDepth 20000

def noU6 : List Value := (madeCells (Value.bool false).cells (25 * 1)).toList
theorem noU6_len : noU6.length = 25 := by simp [noU6, size_madeCells]
theorem noU6_at (b : Nat) (hb : b < 25) : noU6[b]? = some (.bool false) := by
  rcases (show b = 0 ∨ b = 1 ∨ b = 2 ∨ b = 3 ∨ b = 4 ∨ b = 5 ∨ b = 6 ∨ b = 7 ∨ b = 8 ∨ b = 9 ∨ b = 10 ∨ b = 11 ∨ b = 12 ∨ b = 13 ∨ b = 14 ∨ b = 15 ∨ b = 16 ∨ b = 17 ∨ b = 18 ∨ b = 19 ∨ b = 20 ∨ b = 21 ∨ b = 22 ∨ b = 23 ∨ b = 24 by omega) with rfl | rfl | rfl | rfl | rfl | rfl | rfl | rfl | rfl | rfl | rfl | rfl | rfl | rfl | rfl | rfl | rfl | rfl | rfl | rfl | rfl | rfl | rfl | rfl | rfl <;> kernel_rfl
theorem noR6_at (i : Nat) (hi : i < 17) : noR6[i * 6]? = some (.int .i64 0) ∧ noR6[i * 6 + 1]? = some (.int .i64 0) ∧ noR6[i * 6 + 2]? = some (.int .i64 0) ∧ noR6[i * 6 + 3]? = some (.slice none 0 0) ∧ noR6[i * 6 + 4]? = some (.slice none 0 0) ∧ noR6[i * 6 + 5]? = some (.slice none 0 0) := by
  rcases (show i = 0 ∨ i = 1 ∨ i = 2 ∨ i = 3 ∨ i = 4 ∨ i = 5 ∨ i = 6 ∨ i = 7 ∨ i = 8 ∨ i = 9 ∨ i = 10 ∨ i = 11 ∨ i = 12 ∨ i = 13 ∨ i = 14 ∨ i = 15 ∨ i = 16 by omega) with rfl | rfl | rfl | rfl | rfl | rfl | rfl | rfl | rfl | rfl | rfl | rfl | rfl | rfl | rfl | rfl | rfl <;> exact ⟨by kernel_rfl, by kernel_rfl, by kernel_rfl, by kernel_rfl, by kernel_rfl, by kernel_rfl⟩

/-- The root is laid. -/
theorem Rf.made {w : World} {x g u : Nat} {d : Int} (h1 : w.heap[x]? = some (.cells #[.slice (some ⟨g, 0, none⟩) 17 17, .slice (some ⟨u, 0, none⟩) 25 25, .int .i64 d] 114 (0, 0))) (h2 : w.heap[g]? = some (.cells noR6.toArray 117 (0, 0))) (h3 : w.heap[u]? = some (.cells noU6.toArray 4 (0, 0))) (hn : x ≠ g ∧ x ≠ u ∧ g ≠ u)
    {N : List Value} (hN : N = [.int .i64 2, .int .i64 1, .int .i64 0, .slice none 0 0, .slice none 0 0, .slice none 0 0]) : Rf (w.setCells g 6 N) x g u (noV (fun _ => .slice none 0 0) 1) (rootF d) := by
  have H : Rf w x g u (fun _ => .slice none 0 0) ⟨d, fun _ => Fn.no, fun _ => false⟩ :=
    ⟨h1, ⟨noR6, h2, noR6_len, fun i hi => noR6_at i hi⟩, ⟨noU6, h3, noU6_len, fun b hb => noU6_at b hb⟩, fun i hi => World.ownsRow_nil _ _ _ _, fun i hi => World.ownsRow_nil _ _ _ _, fun i hi => World.ownsRow_nil _ _ _ _,
      fun i j b _ _ h => by simp [Value.ownBlock] at h, fun i b _ h => by simp [Value.ownBlock] at h, hn⟩
  rw [hN]
  exact H.node 1 (by omega) (Fn.nu 2) rfl rfl rfl
theorem root_foot {x g u b : Nat} (h : RfFoot x g u (noV (fun _ => Value.slice none 0 0) 1) b) : b = x ∨ b = g ∨ b = u := by
  rcases h with h | h | h | ⟨i, _, h⟩
  · exact .inl h
  · exact .inr (.inl h)
  · exact .inr (.inr h)
  · exact absurd (noV_own h).2 (by simp [Value.ownBlock])

set_option maxHeartbeats 2000000 in
set_option maxRecDepth 20000 in
theorem rnew_any (w : World) (d : Int) :
    Calls Tryz.prog 14 #[.int .i64 d] w fun e w' => ∃ x g u V, e = .returned (.pointer (some ⟨x, 0, none⟩)) ∧ Rf w' x g u V (rootF d) ∧ Below w.heap.size w w' ∧ ∀ b, RfFoot x g u V b → w.heap.size ≤ b := by
  obtain ⟨C, gC⟩ : ∃ C, C = noR6 := ⟨_, rfl⟩
  have hm' : ∀ W : World, (Instr.makeSlice 111 (.int .i64 17) (.int .i64 17)).run Tryz.prog W = .ok (.slice (some ⟨W.heap.size, 0, none⟩) 17 17) (W.alloc (.cells C.toArray 117)) := by
    rw [gC]
    exact made_zs (P := Tryz.prog) 111 117 17 _ _ _ Tryz.underlying111 infoR6 (by omega) (by omega)
  obtain ⟨D, gD⟩ : ∃ D, D = noU6.toArray := ⟨_, rfl⟩
  have hk' : ∀ W : World, (Instr.makeSlice 112 (.int .i64 25) (.int .i64 25)).run Tryz.prog W = .ok (.slice (some ⟨W.heap.size, 0, none⟩) 25 25) (W.alloc (.cells D 4)) := by
    rw [gD, show noU6.toArray = madeCells (Value.bool false).cells (25 * 1) by simp [noU6]]
    exact made_zs (P := Tryz.prog) 112 4 25 _ _ _ Tryz.underlying112 infoR6b (by omega) (by omega)
  have HL : Hid (C.length = 102) := by rw [gC]; exact hid noR6_len
  obtain ⟨N, gN⟩ : ∃ N : List Value, N = [.int .i64 2, .int .i64 1, .int .i64 0, .slice none 0 0, .slice none 0 0, .slice none 0 0] := ⟨_, rfl⟩
  have H1 : Hid (N.toArray.all (·.oneCell') = true) := by rw [gN]; exact hid (by simp [Value.oneCell'])
  have HSZ : Hid ((Tryz.prog.info? 117).map (·.size) = some N.toArray.size) := by rw [gN]; exact hid csizeR6
  have HB : Hid (Tryz.prog.built 117 [(0, .int .i64 2), (1, .int .i64 1)] = some N.toArray) := by rw [gN]; exact hid builtR6
  have HT : Hid (6 = N.toArray.size) := by rw [gN]; exact hid rfl
  have HN := hid gN
  have HC := hid gC
  have HD := hid gD
  clear gN gD gC
  go_enter Tryz.func14, Tryz.ntmps14
  go_wp2_with fail
  go_region_held3 (fun _ => True) (trivial) (fail)
  all_goals go_wp2_with (first
    | (refine wpList_build_is rfl 117 #[(0, .const (.int .i64 2)), (1, .const (.int .i64 1))] rfl N.toArray (by simpa [Act.eval] using HB.out) ?_)
    | (refine wpList_store_mid rfl 117 (.tmp 14) (.tmp 13) rfl w.heap.size 6 N.toArray rfl rfl (by rw [← HT.out]; exact there_of_block (C := C) (t := 117) (by exact first_block w C 117 _ _) 6 6 (by rw [HL.out]; omega)) HSZ.out H1.out ?_)
    | (refine wpList_store_mid rfl 117 (.tmp 14) (.tmp 13) rfl (w.heap.size + 1) 6 N.toArray rfl rfl (by rw [← HT.out]; exact there_of_block (C := C) (t := 117) (by exact second_block w C 117 _ _) 6 6 (by rw [HL.out]; omega)) HSZ.out H1.out ?_))
  all_goals go_ret
  · obtain ⟨W, gW⟩ : ∃ W, W = (((w.alloc (.cells C.toArray 117)).alloc (.cells D 4)).alloc (.cells #[.slice (some ⟨w.heap.size, 0, none⟩) 17 17, .slice (some ⟨w.heap.size + 1, 0, none⟩) 25 25, .int .i64 d] 114)).drew := ⟨_, rfl⟩
    have hb : Below w.heap.size w W := by rw [gW]; exact (three_allocs w _ _ _).drew
    have hp : W.heap[w.heap.size + 2]? = some (.cells #[.slice (some ⟨w.heap.size, 0, none⟩) 17 17, .slice (some ⟨w.heap.size + 1, 0, none⟩) 25 25, .int .i64 d] 114 (0, 0)) := by
      rw [gW]
      have k := heap_alloc_new ((w.alloc (.cells C.toArray 117)).alloc (.cells D 4)) (.cells #[.slice (some ⟨w.heap.size, 0, none⟩) 17 17, .slice (some ⟨w.heap.size + 1, 0, none⟩) 25 25, .int .i64 d] 114)
      rw [show ((w.alloc (.cells C.toArray 117)).alloc (.cells D 4)).heap.size = w.heap.size + 2 by simp] at k
      exact k
    have hq : W.heap[w.heap.size]? = some (.cells noR6.toArray 117 (0, 0)) := by rw [gW, ← HC.out]; exact first_block w C 117 _ _
    have hu : W.heap[w.heap.size + 1]? = some (.cells noU6.toArray 4 (0, 0)) := by rw [gW, HD.out]; exact second_block w noU6 4 _ _
    rw [← gW]
    exact ⟨_, _, _, _, rfl, Rf.made hp hq hu ⟨by omega, by omega, by omega⟩ HN.out, hb.trans ((upd_setCells w.heap.size _ _ _).below hb.size (fun x hx => by omega)), fun b h => by rcases root_foot h with h | h | h <;> omega⟩
  · obtain ⟨W, gW⟩ : ∃ W, W = (((w.alloc (.cells D 4)).alloc (.cells C.toArray 117)).alloc (.cells #[.slice (some ⟨w.heap.size + 1, 0, none⟩) 17 17, .slice (some ⟨w.heap.size, 0, none⟩) 25 25, .int .i64 d] 114)).drew := ⟨_, rfl⟩
    have hb : Below w.heap.size w W := by rw [gW]; exact (three_allocs w _ _ _).drew
    have hp : W.heap[w.heap.size + 2]? = some (.cells #[.slice (some ⟨w.heap.size + 1, 0, none⟩) 17 17, .slice (some ⟨w.heap.size, 0, none⟩) 25 25, .int .i64 d] 114 (0, 0)) := by
      rw [gW]
      have k := heap_alloc_new ((w.alloc (.cells D 4)).alloc (.cells C.toArray 117)) (.cells #[.slice (some ⟨w.heap.size + 1, 0, none⟩) 17 17, .slice (some ⟨w.heap.size, 0, none⟩) 25 25, .int .i64 d] 114)
      rw [show ((w.alloc (.cells D 4)).alloc (.cells C.toArray 117)).heap.size = w.heap.size + 2 by simp] at k
      exact k
    have hq : W.heap[w.heap.size + 1]? = some (.cells noR6.toArray 117 (0, 0)) := by rw [gW, ← HC.out]; exact second_block w C 117 _ _
    have hu : W.heap[w.heap.size]? = some (.cells noU6.toArray 4 (0, 0)) := by rw [gW, HD.out]; exact first_block w noU6 4 _ _
    rw [← gW]
    exact ⟨_, _, _, _, rfl, Rf.made hp hq hu ⟨by omega, by omega, by omega⟩ HN.out, hb.trans ((upd_setCells (w.heap.size + 1) _ _ _).below hb.size (fun x hx => by omega)), fun b h => by rcases root_foot h with h | h | h <;> omega⟩

end Go.Proofs.YtoknhcjneliboaaGreat
