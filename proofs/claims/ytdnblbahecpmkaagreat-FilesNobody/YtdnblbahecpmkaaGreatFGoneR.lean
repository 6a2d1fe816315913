/- The road of FilesGone. -/
import Derived.Test.YtdnblbahecpmkaaGreatFAt
import Derived.Test.YtdnblbahecpmkaaGreatFLook
import Derived.Test.YtdnblbahecpmkaaGreatNLkC
namespace Go.Proofs.YtdnblbahecpmkaaGreat
open Go.RowKit Go.ChangeMaps Go.MapKept
set_option linter.unusedVariables false
set_option maxRecDepth 20000

theorem drop_bl (S : Sg) (i d : Nat) (s : List UInt8) (x y : Nd) (T : Nat → Bool) : ((S.bl i x T).drop d s).at_ i y = (S.drop d s).bl i y T := by
  unfold Sg.bl Sg.drop Sg.at_ updN
  congr 1
  funext j
  by_cases e : j = i <;> simp [e]

theorem Tree.drop {S : Sg} (h : Tree S) (d : Nat) (s : List UInt8) : Tree (S.drop d s) := by
  obtain ⟨rk, h1, h2⟩ := h
  refine ⟨rk, h1, fun i x hi hx => ?_⟩
  by_cases e : i = d
  · subst e
    by_cases e' : x = s
    · subst e'; exact absurd (by simp [Sg.drop]) hx
    · have e3 : (S.drop i s).N i x = S.N i x := by simp [Sg.drop, e']
      rw [e3] at hx ⊢; exact h2 i x hi hx
  · have e3 : (S.drop d s).N i x = S.N i x := by simp [Sg.drop, e]
    rw [e3] at hx ⊢; exact h2 i x hi hx

/-- The system when the file's name is gone. -/
def noG (m : Nat) : Sg := (oneG m [102]).drop 1 [102]
theorem noG_tree (m : Nat) (x : Nd) (T : Nat → Bool) : Tree ((noG m).bl 2 x T) := (oneG_tree m [102] x T).drop 1 [102]
theorem noG_find (m : Nat) (x : Nd) (T : Nat → Bool) : findS ((noG m).bl 2 x T) pathF = (0, 2) := by
  have h : ((noG m).bl 2 x T).N 1 [102] = 0 := by simp [noG, Sg.bl, Sg.drop]
  unfold findS
  rw [if_neg (by rw [pathF_bl]; simp), wkS_one _ pathF [102] pathF_bl pathF_good rfl, h]
  rfl

theorem foot_x {m p y : Nat} {x : Nd} {T : Nat → Bool} (hm : x.m = none) (h : ((oneG m [102]).bl 2 x T).foot p y) : y = p ∨ y = m := by
  rcases h with h | ⟨i, hi, e⟩
  · exact .inl h
  · change (updN (updN (rootG m).P 2 (newNd 1 none)) 2 x i).m = some y at e
    by_cases q : i = 2
    · subst q; rw [updN_same, hm] at e; cases e
    · rw [updN_ne _ _ _ _ q, updN_ne _ _ _ _ q] at e
      change (if i = 1 then newNd 2 (some m) else noNd).m = some y at e
      split at e
      · exact .inr (Option.some.inj e).symm
      · cases e

theorem fw_unlinked {w3 w4 : World} {t p q m : Nat} {x : Nd} {T : Nat → Bool} {F : Nat → Fl} (H : Fw w3 t p q (oneG m [102]) 2 x T F) (h : Sy w4 p ((((oneG m [102]).bl 2 x T).drop 1 [102]).at_ 2 ((((oneG m [102]).bl 2 x T).P 2).link 0))) (u : Upd (((oneG m [102]).bl 2 x T).foot p) w3 w4) : Fw w4 t p q (noG m) 2 (x.link 0) T F := by
  rw [show ((oneG m [102]).bl 2 x T).P 2 = x from rfl, drop_bl] at h
  refine ⟨h, H.tf.upd u H.tn, fun hf => ?_, H.k, H.s, ⟨H.B.in_, H.B.ne, H.B.n⟩⟩
  rcases hf with e | ⟨i, hi, e⟩
  · exact H.tn (.inl e)
  · refine H.tn (.inr ⟨i, hi, ?_⟩)
    change (updN (oneG m [102]).P 2 (x.link 0) i).m = some t at e
    show (updN (oneG m [102]).P 2 x i).m = some t
    by_cases q : i = 2
    · subst q; rw [updN_same] at e ⊢; exact e
    · rw [updN_ne _ _ _ _ q] at e ⊢; exact e

theorem gone_root {w : World} {p m : Nat} {x : Nd} {T : Nat → Bool} (h : Sy w p (((noG m).bl 2 x T).gone 2)) : Root w p m := by
  refine ⟨_, h, ⟨rfl, rfl, rfl, rfl, rfl⟩, fun i hi h1 => ?_⟩
  show (updN (updN (updN (rootG m).P 2 (newNd 1 none)) 2 x) 2 noNd i).k = 0
  by_cases q : i = 2
  · subst q; rw [updN_same]; rfl
  · rw [updN_ne _ _ _ _ q, updN_ne _ _ _ _ q, updN_ne _ _ _ _ q]
    show (if i = 1 then newNd 2 (some m) else noNd).k = 0
    rw [if_neg h1]; rfl

set_option maxHeartbeats 1000000 in
theorem fnodes_root (t p m : Nat) (w : World) (H : Root w p m) (hp : p < w.heap.size) (hm : m < w.heap.size) (c0 : w.cell? ⟨t, 0, none⟩ = some (.pointer (some ⟨p, 0, none⟩))) :
    Calls Tryz.prog 15 #[.pointer (some ⟨t, 0, none⟩)] w fun e w' => (∃ a c, e = .returned (.slice a 1 c)) ∧ Below w.heap.size w w' := by
  have k0 := hid (fusable_yes t p w c0)
  have k1 := hid (look_root p m w H hp hm)
  clear H
  go_enter Tryz.func15, Tryz.ntmps15
  go_wp2_with fail
  refine k0.out.mono ?_
  rintro e w1 ⟨rfl, rfl⟩
  go_wp2_with fail
  refine k1.out.mono ?_
  rintro e w2 ⟨⟨a, c, rfl⟩, hb⟩
  have HB := hid hb
  clear k0 k1 hb
  go_wp2_with fail
  go_ret
  exact ⟨⟨a, c, rfl⟩, HB.out⟩

set_option maxHeartbeats 8000000 in
theorem gone_road (a0 : Option Addr) (la ca : Nat) (xs : List Int) (w : World) (hsa : Src w a0 la xs) (hla : la ≤ ca) (hca : ca ≤ 9223372036854775807) :
    Calls Tryz.prog 3 #[.slice a0 la ca] w fun e w' => e = .returned (.bool true) ∧ Below w.heap.size w w' := by
  obtain ⟨na, ga⟩ : ∃ na, na = min la 96 := ⟨_, rfl⟩
  have ma : min (la : Int) 96 = (na : Int) := by omega
  have i1 : (0 : Int) ≤ (na : Int) := by omega
  have i2 : (na : Int) ≤ (ca : Int) := by omega
  have HA := hid (hsa.to na (by omega))
  have hna40 : na ≤ 96 := by omega
  clear hsa ga
  obtain ⟨za, gza⟩ : ∃ za, za = xs.take na := ⟨_, rfl⟩
  rw [← gza] at HA
  have HLA := hid HA.out.1
  clear gza
  have k0 : Hid (Calls Tryz.prog 5 #[.int .i64 0] w fun e w' => ∃ t p q m, e = .returned (.pointer (some ⟨t, 0, none⟩)) ∧ Hid (Fnew w' t p q m ∧ w.heap.size ≤ t ∧ w.heap.size ≤ p ∧ w.heap.size ≤ m ∧ Below w.heap.size w w')) := by
    refine hid ((fnew_any w).mono ?_)
    rintro e w' ⟨t, p, q, m, rfl, h1, h2, h3, h4, h5⟩
    exact ⟨t, p, q, m, rfl, hid ⟨h1, h2, h3, h4, h5⟩⟩
  go_enter Tryz.func3, Tryz.ntmps3
  go_wp2_with fail
  refine k0.out.mono ?_
  rintro e w1 ⟨t, p, q, m, rfl, H1⟩
  clear k0 ma i1 i2 hla
  have k1 := open_new w1 t p q m w.heap.size H1.out.1 11 H1.out.2.2.2.2.size H1.out.2.1 H1.out.2.2.1 H1.out.2.2.2.1 (by decide) (by decide) (by decide) (by decide) (by decide)
  have K1 := hid k1
  clear k1
  go_wp2_with fail
  refine K1.out.mono ?_
  rintro e w2 ⟨rfl, hF2, hb2⟩
  have HF2 := hid hF2
  have HB2 := hid (H1.out.2.2.2.2.trans hb2)
  have HP : Hid (w.heap.size ≤ t ∧ w.heap.size ≤ p ∧ w.heap.size ≤ m ∧ m < w2.heap.size) := hid ⟨H1.out.2.1, H1.out.2.2.1, H1.out.2.2.2.1, Nat.lt_of_lt_of_le (H1.out.1.sy.foot_lt m (.inr ⟨1, by omega, rfl⟩)) hb2.size⟩
  clear K1 hF2 hb2 H1
  obtain ⟨x0, gx0⟩ : ∃ x0, x0 = (newNd 1 none).hold 1 := ⟨_, rfl⟩
  rw [← gx0] at HF2
  have X0 : Hid (x0.s = 0 ∧ x0.b.length = 96 ∧ x0.l = 1 ∧ x0.h = 1 ∧ x0.m = none) := by rw [gx0]; exact hid ⟨rfl, by simp [newNd, Nd.hold], rfl, rfl, rfl⟩
  clear gx0
  have hap : ∀ b o, a0 = some ⟨b, o, none⟩ → 0 < na → b ≠ p := fun b o e h0 => by
    obtain ⟨b', o', e', hlt, _⟩ := HA.out.2 h0
    rw [e] at e'
    injection e' with e'
    injection e' with e1 _
    have := HP.out.2.1
    omega
  obtain ⟨F0, gF0⟩ : ∃ F0, F0 = updF (fun _ => noFl) 1 ⟨1, 2, 0, 11, 1⟩ := ⟨_, rfl⟩
  rw [← gF0] at HF2
  have Z0 : Hid (∀ j, j ≠ 1 → (F0 j).h = 0) := by rw [gF0]; exact hid (fun j hj => by rw [updF_ne _ _ _ _ hj]; rfl)
  have k2 : Hid (Calls Tryz.prog 7 #[.pointer (some ⟨t, 0, none⟩), .int .i64 1, .slice a0 na ca] w2 fun e w' => e = .returned (.tuple #[.int .i64 (na : Int), .bool false, .int .i64 0]) ∧ Hid (∃ B' T', Fw w' t p q (oneG m [102]) 2 (wrote x0 x0.s za B') T' (updF F0 1 ⟨1, 2, ((x0.s + na : Nat) : Int), 11, 1⟩)) ∧ Hid (Below w.heap.size w w')) := by
    have hF0 : F0 1 = ⟨1, 2, ((0 : Nat) : Int), 11, 1⟩ := by rw [gF0]; rfl
    refine hid ((wr_at w2 t p q _ x0 _ F0 HF2.out 1 (by omega) (by omega) 0 11 hF0 (by decide) false (by decide) na ca a0 za (HA.out.below HB2.out) hap (by rw [X0.out.1]; rfl) (by have := X0.out.1; omega)).mono ?_)
    rintro e w' ⟨rfl, h1, u⟩
    refine ⟨rfl, hid h1, hid (HB2.out.trans (u.bel HB2.out.size (fun y _ hy => ?_)))⟩
    have := HP.out
    omega
  clear gF0 hap
  go_wp2_with fail
  refine k2.out.mono ?_
  rintro e w3 ⟨rfl, H3, HB3⟩
  obtain ⟨B1, T1, hF3⟩ := H3.out
  obtain ⟨x1, gx1⟩ : ∃ x1, x1 = wrote x0 x0.s za B1 := ⟨_, rfl⟩
  rw [← gx1] at hF3
  have X1 : Hid (x1.s = na ∧ x1.b.length = 96 ∧ x1.b.take x1.s = za ∧ x1.l = 1 ∧ x1.h = 1 ∧ x1.m = none) := by
    rw [gx1]
    refine hid ⟨?_, ?_, ?_, X0.out.2.2.1, X0.out.2.2.2.1, X0.out.2.2.2.2⟩
    · rw [wrote_s, X0.out.1, HLA.out]; omega
    · show (splice x0.b x0.s za).length = 96
      rw [length_splice _ _ _ (by rw [X0.out.1, X0.out.2.1, HLA.out]; omega)]; exact X0.out.2.1
    · rw [rd_end x0 X0.out.2.1 za B1 (by rw [X0.out.1, HLA.out]; omega), X0.out.1]; rfl
  have HF3 := hid hF3
  obtain ⟨F1, gF1⟩ : ∃ F1, F1 = updF F0 1 ⟨1, 2, ((x0.s + na : Nat) : Int), 11, 1⟩ := ⟨_, rfl⟩
  rw [← gF1] at HF3
  have F1e : Hid (F1 1 = ⟨1, 2, ((x0.s + na : Nat) : Int), 11, 1⟩) := by rw [gF1]; exact hid (updF_same _ _ _)
  have Z1 : Hid (∀ j, j ≠ 1 → (F1 j).h = 0) := by rw [gF1]; exact hid (fun j hj => by rw [updF_ne _ _ _ _ hj]; exact Z0.out j hj)
  clear gF1 gx1 hF3 H3 HF2 k2 HB2
  have k3 : Hid (Calls Tryz.prog 8 #[.pointer (some ⟨t, 0, none⟩), .int .i64 7, .string ⟨#[47, 102]⟩, .string ⟨#[]⟩] w3 fun e w' => e = .returned (.int .i64 0) ∧ Hid (Fw w' t p q (noG m) 2 (x1.link 0) T1 F1 ∧ Below w.heap.size w w')) := by
    have hP : ((oneG m [102]).bl 2 x1 T1).P 2 = x1 := rfl
    have hu := unlink_held p ((oneG m [102]).bl 2 x1 T1) pathF w3 HF3.out.sy (oneG_tree _ _ _ _) (by decide) [1] [102] 2 (by rw [wkS_one _ pathF [102] pathF_bl pathF_good rfl, oneG_name]) (by omega) (by rw [hP]; exact HF3.out.k) (by rw [hP]; exact X1.out.2.2.2.1) 1 (by rw [hP]; exact X1.out.2.2.2.2.1) (by omega)
    refine hid (name_unlink t p pathF w3 HF3.out.tf.s (fun w' => Hid (Fw w' t p q (noG m) 2 (x1.link 0) T1 F1 ∧ Below w.heap.size w w')) (hu.mono ?_))
    rintro e w' ⟨rfl, h1, u⟩
    refine ⟨rfl, hid ⟨fw_unlinked HF3.out h1 u, HB3.out.trans (u.bel HB3.out.size (fun y _ hy => ?_))⟩⟩
    have := HP.out
    rcases foot_x X1.out.2.2.2.2.2 hy with h | h <;> omega
  go_wp2_with fail
  refine k3.out.mono ?_
  rintro e w4 ⟨rfl, H4⟩
  clear k3 HF3 HB3
  have k4 := hid (fstat_none t p ((noG m).bl 2 (x1.link 0) T1) pathF w4 H4.out.1.sy (noG_tree _ _ _) (by decide) H4.out.1.tf.s H4.out.1.tf.lt 0 2 (noG_find _ _ _) (by omega))
  go_wp2_with fail
  refine k4.out.mono ?_
  rintro e w5 ⟨rfl, hb5⟩
  obtain ⟨W6, g6⟩ : ∃ W6, W6 = w5.alloc (Obj.cells #[.int .i64 0, .int .i64 0, .int .i64 0] 32) := ⟨_, rfl⟩
  have hb6 : Below w4.heap.size w4 W6 := by rw [g6]; exact hb5.trans ((one_new w5 _).mono hb5.size)
  have HF6 := hid (H4.out.1.grow hb6)
  have HB6 := hid (H4.out.2.trans (hb6.mono H4.out.2.size))
  have k5 : Hid (Calls Tryz.prog 10 #[.pointer (some ⟨t, 0, none⟩), .int .i64 1, .int .i64 0, .int .i64 0] W6 fun e w' => e = .returned (.tuple #[.int .i64 0, .int .i64 0]) ∧ Hid (Fw w' t p q (noG m) 2 (x1.link 0) T1 (updF F1 1 ⟨1, 2, ((0 : Nat) : Int), 11, 1⟩) ∧ Below w.heap.size w w')) := by
    refine hid ((sk_at W6 t p q _ (x1.link 0) T1 F1 HF6.out 1 (by omega) (by omega) _ 11 F1e.out 0 (by omega)).mono ?_)
    rintro e w' ⟨rfl, h1, u⟩
    exact ⟨rfl, hid ⟨h1, HB6.out.trans (u.bel HB6.out.size (fun y _ hy => by have := HP.out.1; omega))⟩⟩
  clear k4 hb5 hb6 H4
  go_wp2_with fail
  rw [← g6]
  refine k5.out.mono ?_
  rintro e w7 ⟨rfl, H7⟩
  obtain ⟨F2, gF2⟩ : ∃ F2, F2 = updF F1 1 ⟨1, 2, ((0 : Nat) : Int), 11, 1⟩ := ⟨_, rfl⟩
  rw [← gF2] at H7
  have F2e : Hid (F2 1 = ⟨1, 2, ((0 : Nat) : Int), 11, 1⟩) := by rw [gF2]; exact hid (updF_same _ _ _)
  have Z2 : Hid (∀ j, j ≠ 1 → (F2 j).h = 0) := by rw [gF2]; exact hid (fun j hj => by rw [updF_ne _ _ _ _ hj]; exact Z1.out j hj)
  clear gF2 k5 HF6 HB6 g6
  have k6 : Hid (Calls Tryz.prog 11 #[.pointer (some ⟨t, 0, none⟩), .int .i64 1, .int .i64 200] w7 fun e w' => ∃ g c, e = .returned (.tuple #[.slice (some ⟨g, 0, none⟩) na c, .bool false, .int .i64 0]) ∧ Hid (w'.ownsRow w7.heap.size 5 1 (.slice (some ⟨g, 0, none⟩) na c) na (za.map (Value.int .u8)) ∧ Fw w' t p q (noG m) 2 (x1.link 0) T1 (updF F2 1 ⟨1, 2, ((x1.link 0).s : Int), 11, 1⟩) ∧ Below w.heap.size w w')) := by
    have := rd_at w7 t p q _ (x1.link 0) T1 F2 H7.out.1 1 (by omega) (by omega) 0 11 F2e.out (by decide) (by omega)
    rw [show ((x1.link 0).b.take (x1.link 0).s) = za from X1.out.2.2.1, Nat.sub_zero, List.drop_zero] at this
    rw [show (x1.link 0).s = na from X1.out.1] at this ⊢
    refine hid (this.mono ?_)
    rintro e w' ⟨⟨g, c, rfl, h1⟩, h2, u⟩
    exact ⟨g, c, rfl, hid ⟨h1, h2, H7.out.2.trans (u.bel H7.out.2.size (fun y _ hy => by have := HP.out.1; omega))⟩⟩
  go_wp2_with fail
  refine k6.out.mono ?_
  rintro e w8 ⟨g, c, rfl, H8⟩
  have ke := hid (equal_yes (some ⟨g, 0, none⟩) a0 na c na ca za w8 (Src.own H8.out.1) (HA.out.below H8.out.2.2))
  obtain ⟨F3, gF3⟩ : ∃ F3, F3 = updF F2 1 ⟨1, 2, ((x1.link 0).s : Int), 11, 1⟩ := ⟨_, rfl⟩
  rw [← gF3] at H8
  have F3e : Hid (F3 1 = ⟨1, 2, ((x1.link 0).s : Int), 11, 1⟩) := by rw [gF3]; exact hid (updF_same _ _ _)
  have Z3 : Hid (∀ j, j ≠ 1 → (F3 j).h = 0) := by rw [gF3]; exact hid (fun j hj => by rw [updF_ne _ _ _ _ hj]; exact Z2.out j hj)
  have k8 : Hid (Calls Tryz.prog 13 #[.pointer (some ⟨t, 0, none⟩), .int .i64 1] w8 fun e w' => e = .returned (.int .i64 0) ∧ Hid ((∃ T', Sy w' p (((noG m).bl 2 ((x1.link 0).hold 0) T').gone 2) ∧ cnt T' 25 = 0) ∧ Tf w' t p q (updF F3 1 { F3 1 with h := 0 }) ∧ Below w.heap.size w w')) := by
    refine hid ((fdrop_last w8 t p q (noG m) 2 (by omega) (by omega) (x1.link 0) T1 F3 H8.out.2.1 1 (by omega) (by omega) (by rw [F3e.out]) (by rw [F3e.out]) (by rw [F3e.out]; rfl) rfl rfl X1.out.2.2.2.2.1).mono ?_)
    rintro e w' ⟨rfl, h1, h2, u⟩
    exact ⟨rfl, hid ⟨h1, h2, H8.out.2.2.trans (u.bel H8.out.2.2.size (fun y _ hy => by have := HP.out; omega))⟩⟩
  clear gF3 k6 H7
  go_wp2_with fail
  refine ke.out.mono ?_
  rintro e w9 ⟨rfl, rfl⟩
  clear ke
  go_wp2_with fail
  refine k8.out.mono ?_
  rintro e w10 ⟨rfl, H10⟩
  clear k8
  obtain ⟨⟨T', hS, hc⟩, hT, hb10⟩ := H10.out
  have k9 := hid (fblocks_none t p _ w10 hS hc hT.s)
  have HQ := hid (And.intro hS (And.intro hT hb10))
  clear H10 hS hc hT hb10
  go_wp2_with fail
  refine k9.out.mono ?_
  rintro e w11 ⟨⟨ab, cb, rfl⟩, hb11⟩
  clear k9
  have k10 := hid (fnodes_root t p m w11 (gone_root (HQ.out.1.grow hb11)) (HQ.out.1.grow hb11).lt ((HQ.out.1.grow hb11).foot_lt m (.inr ⟨1, by omega, rfl⟩)) (HQ.out.2.1.grow hb11).s)
  have HB11 := hid hb11
  clear hb11
  go_wp2_with fail
  refine k10.out.mono ?_
  rintro e w12 ⟨⟨an, cn, rfl⟩, hb12⟩
  clear k10
  have hb12' : Below w10.heap.size w10 w12 := HB11.out.trans (hb12.mono HB11.out.size)
  have k11 := hid (flook_none w12 t p q _ (HQ.out.2.1.grow hb12') (fun j hj => by
    by_cases e : j = 1
    · subst e; rw [updF_same]
    · rw [updF_ne _ _ _ _ e]; exact Z3.out j e))
  have HB12 := hid (HQ.out.2.2.trans (hb12'.mono HQ.out.2.2.size))
  clear hb12 hb12'
  go_wp2_with fail
  refine k11.out.mono ?_
  rintro e w13 ⟨rfl, hb13⟩
  have HB13 := hid (HB12.out.trans (hb13.mono HB12.out.size))
  clear k11 hb13
  go_wp2_with fail
  go_ret
  exact ⟨rfl, HB13.out⟩

end Go.Proofs.YtdnblbahecpmkaaGreat
