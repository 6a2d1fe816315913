/- Texts of this seat, merged. -/
import Derived.Test.YtbglhmcahnkbfaaGreatHMg32
import Derived.Test.YtbglhmcahnkbfaaGreatHMg26
import Derived.Test.YtbglhmcahnkbfaaGreatHMg33
import Derived.Test.YtbglhmcahnkbfaaGreatHMg27
import Derived.Test.YtbglhmcahnkbfaaGreatHMg35

/- What Open does (program). -/
namespace Go.Proofs.YtbglhmcahnkbfaaGreat
open Go.RowKit Go.ChangeMaps Go.MapKept
set_option linter.unusedVariables false
set_option maxRecDepth 20000

theorem SysP.trans {w w3 w4 : World} {t p q : Nat} {O0 : Nat → Fl} {Gn Gm : Nat → Prop} {T2 : Ft} (hm : ∀ b, Gm b → Gn b ∨ w.heap.size ≤ b) (hu : Upd Gn w w3) (k : SysP w3 t p q O0 Gm T2 w4) : SysP w t p q O0 Gn T2 w4 := by
  obtain ⟨Gk, h1, h2, h3⟩ := k
  refine ⟨Gk, h1, fun b hb => ?_, hu.trans h3 (fun b hb hG => ?_)⟩
  · rcases h2 b hb with h | h
    · exact hm b h
    · exact .inr (Nat.le_trans hu.size h)
  · rcases hm b hG with h | h
    · exact h
    · omega

theorem make_there {F : Fs} (H : FOk F) {l : List UInt8} {kind : Int} (h : (F.make l kind).2.2 = 0) : ((F.make l kind).1.P (F.make l kind).2.1).k ≠ 0 := by
  unfold Fs.make at h ⊢
  split at h
  · exact absurd (show (22 : Int) = 0 from h) (by decide)
  rename_i a
  rw [if_neg a]
  split at h
  · rename_i e he
    have := Fs.walk_err he
    exact absurd (show e = 0 from h) (by omega)
  rename_i y s n hw
  split at h
  · exact absurd (show (17 : Int) = 0 from h) (by decide)
  rename_i b
  split at h
  · exact absurd (show (28 : Int) = 0 from h) (by decide)
  rename_i c
  split at h
  · exact absurd (show (28 : Int) = 0 from h) (by decide)
  rename_i d
  rw [if_neg b, if_neg c, if_neg d]
  dsimp only
  rw [Fs.addn_P]
  dsimp only
  rw [Fs.at_self]
  show kind ≠ 0
  omega
theorem node_there {F : Fs} (H : FOk F) {l : List UInt8} {g : Int} (h : (Ft.node F l g).2.2 = 0) : (Ft.node F l g).1.there (Ft.node F l g).2.1 = true := by
  have hk : ((Ft.node F l g).1.P (Ft.node F l g).2.1).k ≠ 0 := by
    unfold Ft.node at h ⊢
    split at h
    · rename_i a
      rw [if_pos a]
      exact (H.find_ok h).1
    rename_i a
    rw [if_neg a]
    split at h
    · rename_i b
      rw [if_pos b]
      exact make_there H h
    rename_i b
    rw [if_neg b]
    split at h
    · exact absurd (show (17 : Int) = 0 from h) (by decide)
    rename_i c
    rw [if_neg c]
    exact (H.find_ok h).1
  have hl := ((Ft.node_ok H l g).1).lt hk
  unfold Fs.there
  simp only [Int.toNat_natCast, decide_eq_true_eq]
  exact ⟨by omega, by omega, hk⟩

theorem dfcN_t {g : Int} (h : dfcN g = true) : (bits BinOp.andNot IntKind.i64 g 63 == 0) = false ∧ (bits BinOp.andNot IntKind.i64 g 63 != 0) = true := by
  unfold dfcN at h
  simp at h
  simp [h]
theorem dfcN_f {g : Int} (h : dfcN g = false) : (bits BinOp.andNot IntKind.i64 g 63 == 0) = true ∧ (bits BinOp.andNot IntKind.i64 g 63 != 0) = false := by
  unfold dfcN at h
  simp at h
  simp [h]

/-- A new open file is put down. -/
theorem Ts.putNew {w : World} {t p q : Nat} {O0 : Nat → Fl} {Gn : Nat → Prop} {T : Ft} (h : Ts w t p q O0 Gn T) (f : Nat) (hf : f < 11) (x : Fl) (hx : x.h ≠ 0) : Ts (w.setCells t (2 + f * 5) (flC x)) t p q (updF O0 f x) Gn { T with O := updF T.O f x } :=
  h.fil (h.tf.put f hf x) (clF_of hx).symm (upd_setCells t (flC x) (2 + f * 5) w)

theorem head_own {w : World} {B : Nat} {v : Value} {f : Nat} {r : List Nat} (hO : w.ownsRow B 3 1 v (f :: r).length ((f :: r).map fun (i : Nat) => Value.int .i64 (i : Int))) : ∃ g c, v = .slice (some ⟨g, 0, none⟩) (r.length + 1) c ∧ B ≤ g ∧ g < w.heap.size ∧ (∀ j, ∀ h : j < (f :: r).length, w.cell? ⟨g, j, none⟩ = some (.int .i64 (((f :: r)[j] : Nat) : Int))) := by
  obtain ⟨a, c, rfl, _, _, h⟩ := own_shp hO
  obtain ⟨q, rfl, h1, h2, h3⟩ := h (by simp)
  exact ⟨q, c, rfl, h1, h2, fun j hj => h3 j _ (by rw [List.getElem?_map, List.getElem?_eq_getElem hj]; rfl)⟩

/-- What Open comes to where it may. -/
def openR (T : Ft) (f : Nat) (g : Int) (n : Fs × Nat × Int) : Ft × Nat × Int :=
  if n.2.2 ≠ 0 then ({ T with F := n.1 }, 0, n.2.2) else
  if (Ft.cutF n.1 n.2.1 g).2 ≠ 0 then ({ T with F := (Ft.cutF n.1 n.2.1 g).1 }, 0, (Ft.cutF n.1 n.2.1 g).2) else
  if ((Ft.cutF n.1 n.2.1 g).1.hold n.2.1).2 ≠ 0 then ({ T with F := ((Ft.cutF n.1 n.2.1 g).1.hold n.2.1).1 }, 0, ((Ft.cutF n.1 n.2.1 g).1.hold n.2.1).2) else
  ({ T with F := ((Ft.cutF n.1 n.2.1 g).1.hold n.2.1).1, O := updF T.O f ⟨1, n.2.1, 0, g, 1⟩ }, f, 0)
theorem open_eq (T : Ft) (l : List UInt8) (g : Int) (f : Nat) (r : List Nat) (h : Ft.flagsOk g = true) (hL : ofL T.O 11 = f :: r) : T.open_ l g = openR T f g (Ft.node T.F l g) := by
  unfold Ft.open_ Ft.openN openR
  rw [hL, if_neg (by rw [h]; simp), if_neg (by simp)]
  generalize Ft.node T.F l g = n
  by_cases h1 : n.2.2 ≠ 0
  · rw [if_pos h1, if_pos h1, if_pos h1]
  rw [if_neg h1, if_neg h1]
  by_cases h2 : (Ft.cutF n.1 n.2.1 g).2 ≠ 0
  · rw [if_pos h2, if_pos h2, if_pos h2]
  rw [if_neg h2, if_neg h2]
  rfl

set_option maxHeartbeats 8000000 in
theorem tpopen (w : World) (t : Nat) (T : Ft) (G : Nat → Prop) (HP : Tp w t T G) (hT : TOk T) (l : ByteArray) (hs : l.size ≤ 140737488355328) (g : Int) :
    Calls Tryz.prog 16 #[.pointer (some ⟨t, 0, none⟩), .string l, .int .i64 g] w fun e w' => e = .returned (.tuple #[.int .i64 ((T.open_ (bl l) g).2.1 : Int), .int .i64 (T.open_ (bl l) g).2.2]) ∧ TpTo w t (T.open_ (bl l) g).1 G w' := by
  have HP0 := HP
  obtain ⟨p, q, O0, Gn, H, hG1⟩ := HP.mono (G' := fun b => G b ∧ b < w.heap.size) (fun x hx h => ⟨h, hx⟩)
  have hG : ∀ b, Foot t q Gn b → G b := fun b hb => (hG1 b hb).1
  have hlt : ∀ b, Foot t q Gn b → b < w.heap.size := fun b hb => (hG1 b hb).2
  have k0 := hid (fusable_yes t p w H.tf.s)
  have HS := hid (fun X (hX : Below w.heap.size w X) => TpTo.same HP0 hX)
  cases hfl : Ft.flagsOk g
  · unfold Ft.open_
    rw [hfl, if_pos rfl]
    have HQ := hid (HS.out w (Below.refl _ _))
    clear H hG hG1 hlt HP HP0 HS
    unfold Ft.flagsOk at hfl
    dsimp only
    cases hN : dfcN g
    · rw [hN] at hfl
      have h3 : dfc g 3 = false := by simpa using hfl
      obtain ⟨b1, b2⟩ := dfcN_f hN
      obtain ⟨b3, b4⟩ := dfc_f h3
      clear hfl hN h3
      go_enter Tryz.func16, Tryz.ntmps16
      go_wp2_with fail
      refine k0.out.mono ?_
      rintro e w1 ⟨rfl, rfl⟩
      clear k0
      go_wp2_with fail
      go_ret2
      exact ⟨rfl, HQ.out⟩
    · obtain ⟨b1, b2⟩ := dfcN_t hN
      clear hfl hN
      go_enter Tryz.func16, Tryz.ntmps16
      go_wp2_with fail
      refine k0.out.mono ?_
      rintro e w1 ⟨rfl, rfl⟩
      clear k0
      go_wp2_with fail
      go_ret2
      exact ⟨rfl, HQ.out⟩
  have hf2 : dfcN g = false ∧ dfc g 3 = true := by unfold Ft.flagsOk at hfl; simpa using hfl
  obtain ⟨b1, b2⟩ := dfcN_f hf2.1
  obtain ⟨b3, b4⟩ := dfc_t hf2.2
  clear hf2
  have k1 := ffree_any w t p q O0 H.tf
  rw [ofL_congr (O' := T.O) 11 (fun i hi => H.h0 i hi)] at k1
  have hmem := @ofL_mem T.O 11
  cases hL : ofL T.O 11 with
  | nil =>
    rw [hL] at k1
    unfold Ft.open_
    rw [if_neg (by rw [hfl]; simp), if_pos hL]
    have k1 := hid k1
    clear H hG hG1 hlt HP HP0 hmem hL hfl
    dsimp only
    go_enter Tryz.func16, Tryz.ntmps16
    go_wp2_with fail
    refine k0.out.mono ?_
    rintro e w1 ⟨rfl, rfl⟩
    clear k0
    go_wp2_with fail
    refine k1.out.mono ?_
    rintro e w2 ⟨⟨v, rfl, hO⟩, hb⟩
    have HQ := hid (HS.out w2 hb)
    obtain ⟨a, c, rfl, _⟩ := own_shp hO
    clear k1 hO hb HS
    go_wp2_with fail
    go_ret2
    exact ⟨rfl, HQ.out⟩
  | cons f r =>
    rw [open_eq T (bl l) g f r hfl hL]
    rw [hL] at k1 hmem
    clear hfl
    obtain ⟨f1, f11, fh⟩ := hmem (i := f) List.mem_cons_self
    clear hmem hL
    have k1 := hid k1
    have k2 : Hid (∀ X, Below w.heap.size w X → Calls Tryz.prog 56 #[.pointer (some ⟨t, 0, none⟩), .string l, .int .i64 g] X fun e w' => e = .returned (.tuple #[.int .i64 ((Ft.node T.F (bl l) g).2.1 : Int), .int .i64 (Ft.node T.F (bl l) g).2.2]) ∧ Hid (SysP X t p q O0 Gn { T with F := (Ft.node T.F (bl l) g).1 } w')) := by
      refine hid (fun X hX => (ffindm X t p q O0 Gn T (H.grow hX) hT l hs g).mono ?_)
      rintro e w' ⟨rfl, hk⟩
      exact ⟨rfl, hid hk⟩
    obtain ⟨nF, nS⟩ := Ft.node_ok hT.F (bl l) g
    have nT := @node_there T.F hT.F (bl l) g
    have HW : Hid (∀ X T' w', Below w.heap.size w X → SysP X t p q O0 Gn T' w' → TpTo w t T' G w') := by
      refine hid (fun X T' w' hX hk => ?_)
      obtain ⟨Gm, h1, h2, h3⟩ := hk
      exact TpTo.of h1 hG (fun b hb => (h2 b hb).imp id (fun h => Nat.le_trans hX.size h)) ((Upd.of_below hX).trans h3 (fun b _ hb => .inr (.inr hb)))
    have HLT := hid hlt
    have HG := hid hG
    clear H hG hG1 hlt HP HP0 HS hT
    generalize Ft.node T.F (bl l) g = rn at k2 nF nS nT ⊢
    obtain ⟨F1, m, E1⟩ := rn
    unfold openR
    dsimp only at k2 nF nS nT ⊢
    by_cases hE1 : E1 = 0
    · subst hE1
      rw [if_neg (by simp)]
      have hth := nT rfl
      clear nT
      have k3 : Hid (∀ X w3, SysP X t p q O0 Gn { T with F := F1 } w3 → Calls Tryz.prog 57 #[.pointer (some ⟨t, 0, none⟩), .int .i64 (m : Int), .int .i64 g] w3 fun e w' => e = .returned (.int .i64 (Ft.cutF F1 m g).2) ∧ Hid (SysP X t p q O0 Gn { T with F := (Ft.cutF F1 m g).1 } w')) := by
        refine hid (fun X w3 hk => ?_)
        obtain ⟨Gm, h1, h2, h3⟩ := hk
        refine (fready w3 t p q O0 Gm _ h1 nF m hth g).mono ?_
        rintro e w' ⟨rfl, hk⟩
        exact ⟨rfl, hid (SysP.trans h2 h3 hk)⟩
      obtain ⟨cF1, cS1⟩ := Ft.cutF_ok nF m g
      generalize Ft.cutF F1 m g = rc at k3 cF1 cS1 ⊢
      obtain ⟨F2, E2⟩ := rc
      dsimp only at k3 cF1 cS1 ⊢
      have hd2 : F2.d = T.F.d := cS1.1.trans nS.1
      clear nF nS hth cS1
      by_cases hE2 : E2 = 0
      · subst hE2
        rw [if_neg (by simp)]
        have k4 : Hid (∀ X w4, SysP X t p q O0 Gn { T with F := F2 } w4 → w4.cell? ⟨t, 0, none⟩ = some (.pointer (some ⟨p, 0, none⟩)) ∧ Calls Tryz.prog 58 #[.pointer (some ⟨p, 0, none⟩), .int .i64 (m : Int)] w4 fun e w' => e = .returned (.int .i64 (F2.hold m).2) ∧ Hid (SysP X t p q O0 Gn { T with F := (F2.hold m).1 } w')) := by
          refine hid (fun X w4 hk => ?_)
          obtain ⟨Gm, h1, h2, h3⟩ := hk
          refine ⟨h1.tf.s, (phold p F2 Gm w4 h1.pf cF1 m).mono ?_⟩
          rintro e w' ⟨rfl, hk⟩
          exact ⟨rfl, hid (SysP.trans h2 h3 (SysP.of (T := { T with F := F2 }) h1 (Below.refl _ _) hk (hold_d _ _)))⟩
        clear cF1
        generalize F2.hold m = rh at k4 ⊢
        obtain ⟨F3, E3⟩ := rh
        dsimp only at k4 ⊢
        by_cases hE3 : E3 = 0
        · subst hE3
          rw [if_neg (by simp)]
          dsimp only
          have HN : Hid (∀ X w5, Below w.heap.size w X → SysP X t p q O0 Gn { T with F := F3 } w5 → (∃ O5 Gm, Ts w5 t p q O5 Gm { T with F := F3 }) ∧ TpTo w t { T with F := F3, O := updF T.O f ⟨1, (m : Int), 0, g, 1⟩ } G ((w5.setCells t (2 + f * 5) (flC ⟨1, (m : Int), 0, g, 1⟩)).drew)) := by
            refine hid (fun X w5 hX hk => ?_)
            obtain ⟨Gm, h1, h2, h3⟩ := hk
            refine ⟨⟨O0, Gm, h1⟩, ?_⟩
            have h4 := (h1.putNew f f11 ⟨1, (m : Int), 0, g, 1⟩ (by show (1 : Int) ≠ 0; omega)).hp (w' := (w5.setCells t (2 + f * 5) (flC ⟨1, (m : Int), 0, g, 1⟩)).drew) rfl
            have hu : Upd (Foot t q Gn) w ((w5.setCells t (2 + f * 5) (flC ⟨1, (m : Int), 0, g, 1⟩)).drew) := ((Upd.of_below hX).trans h3 (fun b _ hb => .inr (.inr hb))).trans ((upd_setCells t (flC ⟨1, (m : Int), 0, g, 1⟩) (2 + f * 5) w5).drewN 1) (fun b _ hb => .inl hb)
            exact TpTo.of h4 HG.out (fun b hb => (h2 b hb).imp id (fun h => Nat.le_trans hX.size h)) hu
          go_enter Tryz.func16, Tryz.ntmps16
          go_wp2_with fail
          refine k0.out.mono ?_
          rintro e w1 ⟨rfl, rfl⟩
          clear k0
          go_wp2_with fail
          refine k1.out.mono ?_
          rintro e w2 ⟨⟨v, rfl, hO⟩, hb2⟩
          obtain ⟨gl, cl, rfl, hgb, hgl, hgc⟩ := head_own hO
          have cg2 := hgc 0 (by simp)
          have HB2 := hid hb2
          have HGL := hid (And.intro hgb (And.intro hgl cg2))
          have hrl : ¬ ((r.length + 1 : Nat) : Int) = 0 := by omega
          have K2 := hid (k2.out w2 hb2)
          clear k1 k2 hO hb2 hgb hgl hgc cg2
          go_wp2_with fail
          refine K2.out.mono ?_
          rintro e w3 ⟨rfl, H3⟩
          clear K2
          have K3 := hid (k3.out w2 w3 H3.out)
          clear k3
          go_wp2_with fail
          refine K3.out.mono ?_
          rintro e w4 ⟨rfl, H4⟩
          clear K3
          obtain ⟨cs, k4'⟩ := k4.out w2 w4 H4.out
          have K4 := hid k4'
          clear k4 k4'
          go_wp2_with fail
          refine K4.out.mono ?_
          rintro e w5 ⟨rfl, H5⟩
          clear K4 cs
          obtain ⟨⟨O5, Gm, h5⟩, h6⟩ := HN.out w2 w5 HB2.out H5.out
          have cg : w5.cell? ⟨gl, 0, none⟩ = some (.int .i64 (f : Int)) := by
            obtain ⟨_, _, _, hu⟩ := H5.out
            refine (World.cell?_of_block (a := ⟨gl, 0, none⟩) (hu.block gl HGL.out.2.1 (fun h => ?_))).trans HGL.out.2.2
            have := HLT.out gl (.inr (.inr h))
            have := HGL.out.1
            omega
          have hgt : gl ≠ t := fun e => by
            have := HLT.out t (.inl rfl)
            have := HGL.out.1
            omega
          have hgl5 : gl < w5.heap.size := by
            obtain ⟨_, _, _, hu⟩ := H5.out
            exact Nat.lt_of_lt_of_le HGL.out.2.1 hu.size
          have t0 := h5.tf.c0 f f11
          have t1 := h5.tf.c1 f f11
          have t2 := h5.tf.c2 f f11
          have t3 := h5.tf.c3 f f11
          have t4 := h5.tf.c4 f f11
          have z0 := h5.tf.fz (2 + f * 5)
          have z1 := h5.tf.fz (2 + f * 5 + 1)
          have z2 := h5.tf.fz (2 + f * 5 + 2)
          have z3 := h5.tf.fz (2 + f * 5 + 3)
          have z4 := h5.tf.fz (2 + f * 5 + 4)
          have i1 : (0 : Int) ≤ (f : Int) := by omega
          have i2 : (f : Int) < 11 := by omega
          have H6 := hid h6
          have HGT := hid hgt
          clear h5 h6 H3 H4 H5 HN hgt
          go_wp2_with fail
          go_region
          obtain ⟨W6, g6⟩ : ∃ W6, W6 = (((((w5.setCell ⟨t, 2 + f * 5, none⟩ (.int .i64 1)).setCell ⟨t, 2 + f * 5 + 1, none⟩ (.int .i64 (m : Int))).setCell ⟨t, 2 + f * 5 + 2, none⟩ (.int .i64 0)).setCell ⟨t, 2 + f * 5 + 3, none⟩ (.int .i64 g)).setCell ⟨t, 2 + f * 5 + 4, none⟩ (.int .i64 1)).drew := ⟨_, rfl⟩
          have e6 : W6 = (w5.setCells t (2 + f * 5) (flC ⟨1, (m : Int), 0, g, 1⟩)).drew := g6
          rw [← g6]
          have hto := H6.out
          rw [← e6] at hto
          have u6 : Upd (· = t) w5 W6 := by rw [e6]; exact (upd_setCells t _ _ w5).drewN 1
          have c6 : W6.cell? ⟨gl, 0, none⟩ = some (.int .i64 (f : Int)) := (World.cell?_of_block (a := ⟨gl, 0, none⟩) (u6.block gl hgl5 HGT.out)).trans cg
          have HTO := hid hto
          clear g6 e6 u6 cg t0 t1 t2 t3 t4 z0 z1 z2 z3 z4 hto H6 hgl5
          go_wp2_with fail
          go_ret2
          exact ⟨rfl, HTO.out⟩
        · rw [if_pos hE3]
          dsimp only
          go_enter Tryz.func16, Tryz.ntmps16
          go_wp2_with fail
          refine k0.out.mono ?_
          rintro e w1 ⟨rfl, rfl⟩
          clear k0
          go_wp2_with fail
          refine k1.out.mono ?_
          rintro e w2 ⟨⟨v, rfl, hO⟩, hb2⟩
          obtain ⟨gl, cl, rfl, hgb, hgl, hgc⟩ := head_own hO
          have cg2 := hgc 0 (by simp)
          have HB2 := hid hb2
          have HGL := hid (And.intro hgb (And.intro hgl cg2))
          have hrl : ¬ ((r.length + 1 : Nat) : Int) = 0 := by omega
          have K2 := hid (k2.out w2 hb2)
          clear k1 k2 hO hb2 hgb hgl hgc cg2
          go_wp2_with fail
          refine K2.out.mono ?_
          rintro e w3 ⟨rfl, H3⟩
          clear K2
          have K3 := hid (k3.out w2 w3 H3.out)
          clear k3
          go_wp2_with fail
          refine K3.out.mono ?_
          rintro e w4 ⟨rfl, H4⟩
          clear K3
          obtain ⟨cs, k4'⟩ := k4.out w2 w4 H4.out
          have K4 := hid k4'
          clear k4 k4'
          go_wp2_with fail
          refine K4.out.mono ?_
          rintro e w5 ⟨rfl, H5⟩
          clear K4 cs
          have HQ := hid (HW.out w2 _ w5 HB2.out H5.out)
          have hne : (E3 == 0) = false := by simpa using hE3
          go_wp2_with fail
          go_ret2
          exact ⟨rfl, HQ.out⟩
      · rw [if_pos hE2]
        dsimp only
        go_enter Tryz.func16, Tryz.ntmps16
        go_wp2_with fail
        refine k0.out.mono ?_
        rintro e w1 ⟨rfl, rfl⟩
        clear k0
        go_wp2_with fail
        refine k1.out.mono ?_
        rintro e w2 ⟨⟨v, rfl, hO⟩, hb2⟩
        obtain ⟨gl, cl, rfl, hgb, hgl, hgc⟩ := head_own hO
        have cg2 := hgc 0 (by simp)
        have HB2 := hid hb2
        have HGL := hid (And.intro hgb (And.intro hgl cg2))
        have hrl : ¬ ((r.length + 1 : Nat) : Int) = 0 := by omega
        have K2 := hid (k2.out w2 hb2)
        clear k1 k2 hO hb2 hgb hgl hgc cg2
        go_wp2_with fail
        refine K2.out.mono ?_
        rintro e w3 ⟨rfl, H3⟩
        clear K2
        have K3 := hid (k3.out w2 w3 H3.out)
        clear k3
        go_wp2_with fail
        refine K3.out.mono ?_
        rintro e w4 ⟨rfl, H4⟩
        clear K3
        have HQ := hid (HW.out w2 _ w4 HB2.out H4.out)
        have hne : (E2 == 0) = false := by simpa using hE2
        go_wp2_with fail
        go_ret2
        exact ⟨rfl, HQ.out⟩
    · rw [if_pos hE1]
      dsimp only
      go_enter Tryz.func16, Tryz.ntmps16
      go_wp2_with fail
      refine k0.out.mono ?_
      rintro e w1 ⟨rfl, rfl⟩
      clear k0
      go_wp2_with fail
      refine k1.out.mono ?_
      rintro e w2 ⟨⟨v, rfl, hO⟩, hb2⟩
      obtain ⟨gl, cl, rfl, hgb, hgl, hgc⟩ := head_own hO
      have cg2 := hgc 0 (by simp)
      have HB2 := hid hb2
      have HGL := hid (And.intro hgb (And.intro hgl cg2))
      have hrl : ¬ ((r.length + 1 : Nat) : Int) = 0 := by omega
      have K2 := hid (k2.out w2 hb2)
      clear k1 k2 hO hb2 hgb hgl hgc cg2
      go_wp2_with fail
      refine K2.out.mono ?_
      rintro e w3 ⟨rfl, H3⟩
      clear K2
      have HQ := hid (HW.out w2 _ w3 HB2.out H3.out)
      have hne : (E1 == 0) = false := by simpa using hE1
      go_wp2_with fail
      go_ret2
      exact ⟨rfl, HQ.out⟩

end Go.Proofs.YtbglhmcahnkbfaaGreat

/- What Pipe does (program). -/
namespace Go.Proofs.YtbglhmcahnkbfaaGreat
open Go.RowKit Go.ChangeMaps Go.MapKept
set_option linter.unusedVariables false
set_option maxRecDepth 20000

end Go.Proofs.YtbglhmcahnkbfaaGreat

/- What the calls of names do (program): ofOne, ofTwo, Name, find, Stat, Truncate. (Written by gen_tp11.py.) -/
namespace Go.Proofs.YtbglhmcahnkbfaaGreat
open Go.RowKit Go.ChangeMaps Go.MapKept
set_option linter.unusedVariables false
set_option maxRecDepth 20000

end Go.Proofs.YtbglhmcahnkbfaaGreat
