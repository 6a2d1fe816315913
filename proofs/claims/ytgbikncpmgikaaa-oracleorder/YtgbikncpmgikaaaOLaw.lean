/- The law: the rules do not hang on the order. -/
import Derived.Test.YtgbikncpmgikaaaORev
namespace Go.Proofs.Ytgbikncpmgikaaa
open Go.RowKit
set_option linter.unusedVariables false
set_option maxRecDepth 20000

theorem opn_perm (k : Int) (l : List Rec) : cn (opn k l.reverse) = cn (opn k l) := cn_perm ((List.reverse_perm l).filterMap _)
theorem hadL_perm (l : List Rec) : cn (hadL l.reverse) = cn (hadL l) := cn_perm ((List.reverse_perm l).flatMap_right _)
theorem heldsB_perm (l : List Rec) (F : Int → Nat) : heldsB l.reverse F = heldsB l F := by
  unfold heldsB
  rw [List.all_reverse, cn_perm ((List.reverse_perm l).map _)]

set_option maxHeartbeats 8000000 in
theorem order_any (w : World) (a1 a2 a3 a4 a5 : Option Addr) (l : List Nd) (L : List Int) (P O Q : List Rec) (c1 c2 c3 c4 c5 : Nat) (h1 : Nds w a1 l) (h2 : IntL w a2 L) (h3 : Recs w 4 a3 P) (h4 : Recs w 6 a4 O) (h5 : Recs w 10 a5 Q)
    (z1 : l.length ≤ 17592186044416) (z2 : L.length ≤ 17592186044416) (z3 : P.length ≤ 17592186044416) (z4 : O.length ≤ 2932031007402) (z5 : Q.length ≤ 1759218604441) :
    Calls Try.prog 3 #[.slice a1 l.length c1, .slice a2 L.length c2, .slice a3 P.length c3, .slice a4 O.length c4, .slice a5 Q.length c5] w fun e w' => e = .returned (.bool true) ∧ Upd (fun x => w.heap.size ≤ x) w w' := by
  have H1 := hid h1
  have H2 := hid h2
  have H3 := hid h3
  have H4 := hid h4
  have H5 := hid h5
  have Z := hid (And.intro z1 (And.intro z2 (And.intro z3 (And.intro z4 z5))))
  have K := hid (iclone_ints w a2 L c2 h2 z2)
  clear h1 h2 h3 h4 h5 z1 z2 z3 z4 z5
  go_enter Try.func3, Try.ntmps3
  go_wp2_with fail
  refine K.out.mono ?_
  rintro e w1 ⟨b2, d2, rfl, hk2, hb1⟩
  have U1 : Hid (Upd (fun _ => False) w w1) := hid (Upd.of_below hb1)
  have KI1 := hid hk2
  have K4 := hid (oclone_recs w1 a4 O c4 (H4.out.upd U1.out (fun _ _ _ _ _ h => h)) Z.out.2.2.2.1)
  have D2 : Hid (∀ g o, b2 = some ⟨g, o, none⟩ → 0 < L.length → g < w1.heap.size) := hid fun g o e hn => by
    obtain ⟨g', e', _, hg, _⟩ := hk2.ex hn
    rw [e] at e'
    injection e' with e'
    injection e' with e'
    omega
  clear K hk2 hb1
  go_wp2_with fail
  refine K4.out.mono ?_
  rintro e w2 ⟨b4, d4, rfl, hk4, hb2⟩
  have V2 : Hid (Upd (fun _ => False) w1 w2) := hid (Upd.of_below hb2)
  have U2 : Hid (Upd (fun _ => False) w w2) := hid (U1.out.trans V2.out (fun _ _ h => h))
  have KI2 := hid (KI1.out.upd V2.out (fun _ _ _ _ _ h => h))
  have KR2 := hid hk4
  have D4 : Hid (∀ g o, b4 = some ⟨g, o, none⟩ → 0 < O.length → g < w2.heap.size) := hid fun g o e hn => by
    obtain ⟨g', e', _, hg, _⟩ := hk4.ex hn
    rw [e] at e'
    injection e' with e'
    injection e' with e'
    omega
  have K5 := hid (qclone_recs w2 a5 Q c5 (H5.out.upd U2.out (fun _ _ _ _ _ h => h)) Z.out.2.2.2.2)
  clear K4 hk4 hb2 KI1
  go_wp2_with fail
  refine K5.out.mono ?_
  rintro e w3 ⟨b5, d5, rfl, hk5, hb3⟩
  have V3 : Hid (Upd (fun _ => False) w2 w3) := hid (Upd.of_below hb3)
  have U3 : Hid (Upd (fun _ => False) w w3) := hid (U2.out.trans V3.out (fun _ _ h => h))
  have KI3 := hid (KI2.out.upd V3.out (fun _ _ _ _ _ h => h))
  have KR3 := hid (KR2.out.upd V3.out (fun _ _ _ _ _ h => h))
  have KQ3 := hid hk5
  have S1 := hid U1.out.size
  have S2 := hid V2.out.size
  have R2 := hid (irev_ints w3 w.heap.size b2 L d2 KI3.out (by have := Z.out.2.1; omega))
  clear K5 hk5 hb3 KI2 KR2
  go_wp2_with fail
  refine R2.out.mono ?_
  rintro e w4 ⟨rfl, hk, hu⟩
  have KI4 := hid hk
  have KR4 := hid (KR3.out.upd hu (fun g o e hB hn ⟨q1, q2, o', q3⟩ => by have := D2.out g o' q3 q1; omega))
  have KQ4 := hid (KQ3.out.upd hu (fun g o e hB hn ⟨q1, q2, o', q3⟩ => by have := D2.out g o' q3 q1; have := S2.out; omega))
  have U4 : Hid (Upd (fun x => w.heap.size ≤ x) w w4) := hid ((U3.out.mono (fun _ _ h => h.elim)).trans hu (fun x _ h => h.2.1))
  have R4 := hid (orev_recs w4 w1.heap.size b4 O d4 KR4.out (by have := Z.out.2.2.2.1; omega))
  clear R2 hk hu KI3 KR3 KQ3
  go_wp2_with fail
  refine R4.out.mono ?_
  rintro e w5 ⟨rfl, hk, hu⟩
  have KI5 := hid (KI4.out.upd hu (fun g o e hB hn ⟨q1, q2, o', q3⟩ => by have := D2.out g o e (by simpa using hn); omega))
  have KR5 := hid hk
  have KQ5 := hid (KQ4.out.upd hu (fun g o e hB hn ⟨q1, q2, o', q3⟩ => by have := D4.out g o' q3 q1; omega))
  have U5 : Hid (Upd (fun x => w.heap.size ≤ x) w w5) := hid (U4.out.trans hu (fun x _ h => by have := S1.out; have := h.2.1; omega))
  have R5 := hid (qrev_recs w5 w2.heap.size b5 Q d5 KQ5.out (by have := Z.out.2.2.2.2; omega))
  clear R4 hk hu KI4 KR4 KQ4
  go_wp2_with fail
  refine R5.out.mono ?_
  rintro e w6 ⟨rfl, hk, hu⟩
  have I6 := hid (KI5.out.upd hu (fun g o e hB hn ⟨q1, q2, o', q3⟩ => by have := D2.out g o e (by simpa using hn); have := S2.out; omega)).intl
  have O6 := hid (KR5.out.upd hu (fun g o e hB hn ⟨q1, q2, o', q3⟩ => by have := D4.out g o e (by simpa using hn); omega)).recs
  have Q6 := hid hk.recs
  have U6 : Hid (Upd (fun x => w.heap.size ≤ x) w w6) := hid (U5.out.trans hu (fun x _ h => by have := S1.out; have := S2.out; have := h.2.1; omega))
  clear R5 hk hu KI5 KR5 KQ5 D2 D4 S1 S2 U1 U2 U3 U4 U5 V2 V3
  -- what each rule comes to, in any world behind this one
  have HB : Hid (∀ wx, Upd (fun _ => False) w6 wx → Calls Try.prog 11 #[.slice a1 l.length c1, .slice a2 L.length c2] wx fun e w' => e = .returned (.bool (blocksB l L)) ∧ Upd (fun _ => False) wx w') := hid fun wx hu => by
    have hU := U6.out.trans (hu.mono (fun _ _ h => h.elim)) (fun _ _ (h : False) => h.elim)
    exact blocks_any wx a1 l c1 a2 L c2 (H1.out.upd (w := wx) hU (fun b hb h => by omega)) (by have := Z.out.1; omega) (H2.out.upd hU (fun b o _ hb _ h => by omega)) (by have := Z.out.2.1; omega)
  have HB' : Hid (∀ wx, Upd (fun _ => False) w6 wx → Calls Try.prog 11 #[.slice a1 l.length c1, .slice b2 L.length d2] wx fun e w' => e = .returned (.bool (blocksB l L)) ∧ Upd (fun _ => False) wx w') := hid fun wx hu => by
    have hU := U6.out.trans (hu.mono (fun _ _ h => h.elim)) (fun _ _ (h : False) => h.elim)
    have := blocks_any wx a1 l c1 b2 L.reverse d2 (H1.out.upd (w := wx) hU (fun b hb h => by omega)) (by have := Z.out.1; omega) (I6.out.upd hu (fun _ _ _ _ _ h => h)) (by have := Z.out.2.1; simp; omega)
    rwa [blocksB_perm (List.reverse_perm L), List.length_reverse] at this
  have HP : Hid (∀ wx, Upd (fun _ => False) w6 wx → Calls Try.prog 12 #[.slice a3 P.length c3, .slice a4 O.length c4] wx fun e w' => e = .returned (.bool (pipesB P (cn (opn 2 O)) (cn (opn 3 O)))) ∧ Upd (fun _ => False) wx w') := hid fun wx hu => by
    have hU := U6.out.trans (hu.mono (fun _ _ h => h.elim)) (fun _ _ (h : False) => h.elim)
    exact pipes_any wx a3 P c3 a4 O c4 (H3.out.upd hU (fun b o _ hb _ h => by omega)) (by have := Z.out.2.2.1; omega) (H4.out.upd hU (fun b o _ hb _ h => by omega)) (by have := Z.out.2.2.2.1; omega)
  have HP' : Hid (∀ wx, Upd (fun _ => False) w6 wx → Calls Try.prog 12 #[.slice a3 P.length c3, .slice b4 O.length d4] wx fun e w' => e = .returned (.bool (pipesB P (cn (opn 2 O)) (cn (opn 3 O)))) ∧ Upd (fun _ => False) wx w') := hid fun wx hu => by
    have hU := U6.out.trans (hu.mono (fun _ _ h => h.elim)) (fun _ _ (h : False) => h.elim)
    have := pipes_any wx a3 P c3 b4 O.reverse d4 (H3.out.upd hU (fun b o _ hb _ h => by omega)) (by have := Z.out.2.2.1; omega) (O6.out.upd hu (fun _ _ _ _ _ h => h)) (by have := Z.out.2.2.2.1; simp; omega)
    rwa [opn_perm, opn_perm, List.length_reverse] at this
  have HH : Hid (∀ wx, Upd (fun _ => False) w6 wx → Calls Try.prog 13 #[.slice a4 O.length c4, .slice a5 Q.length c5] wx fun e w' => e = .returned (.bool (heldsB O (cn (hadL Q)))) ∧ Upd (fun _ => False) wx w') := hid fun wx hu => by
    have hU := U6.out.trans (hu.mono (fun _ _ h => h.elim)) (fun _ _ (h : False) => h.elim)
    exact held_any wx a4 O c4 a5 Q c5 (H4.out.upd hU (fun b o _ hb _ h => by omega)) (by have := Z.out.2.2.2.1; omega) (H5.out.upd hU (fun b o _ hb _ h => by omega)) (by have := Z.out.2.2.2.2; omega)
  have HH' : Hid (∀ wx, Upd (fun _ => False) w6 wx → Calls Try.prog 13 #[.slice b4 O.length d4, .slice b5 Q.length d5] wx fun e w' => e = .returned (.bool (heldsB O (cn (hadL Q)))) ∧ Upd (fun _ => False) wx w') := hid fun wx hu => by
    have hU := U6.out.trans (hu.mono (fun _ _ h => h.elim)) (fun _ _ (h : False) => h.elim)
    have := held_any wx b4 O.reverse d4 b5 Q.reverse d5 (O6.out.upd hu (fun _ _ _ _ _ h => h)) (by have := Z.out.2.2.2.1; simp; omega) (Q6.out.upd hu (fun _ _ _ _ _ h => h)) (by have := Z.out.2.2.2.2; simp; omega)
    rwa [hadL_perm, heldsB_perm, List.length_reverse, List.length_reverse] at this
  have HO : Hid (∀ wx, Upd (fun _ => False) w6 wx → Calls Try.prog 14 #[.slice a1 l.length c1, .slice a4 O.length c4] wx fun e w' => e = .returned (.bool (opensB l (cn (opn 1 O)))) ∧ Upd (fun _ => False) wx w') := hid fun wx hu => by
    have hU := U6.out.trans (hu.mono (fun _ _ h => h.elim)) (fun _ _ (h : False) => h.elim)
    exact opens_any wx a1 l c1 a4 O c4 (H1.out.upd (w := wx) hU (fun b hb h => by omega)) (by have := Z.out.1; omega) (H4.out.upd hU (fun b o _ hb _ h => by omega)) (by have := Z.out.2.2.2.1; omega)
  have HO' : Hid (∀ wx, Upd (fun _ => False) w6 wx → Calls Try.prog 14 #[.slice a1 l.length c1, .slice b4 O.length d4] wx fun e w' => e = .returned (.bool (opensB l (cn (opn 1 O)))) ∧ Upd (fun _ => False) wx w') := hid fun wx hu => by
    have hU := U6.out.trans (hu.mono (fun _ _ h => h.elim)) (fun _ _ (h : False) => h.elim)
    have := opens_any wx a1 l c1 b4 O.reverse d4 (H1.out.upd (w := wx) hU (fun b hb h => by omega)) (by have := Z.out.1; omega) (O6.out.upd hu (fun _ _ _ _ _ h => h)) (by have := Z.out.2.2.2.1; simp; omega)
    rwa [opn_perm, List.length_reverse] at this
  generalize blocksB l L = vB at *
  generalize pipesB P (cn (opn 2 O)) (cn (opn 3 O)) = vP at *
  generalize heldsB O (cn (hadL Q)) = vH at *
  generalize opensB l (cn (opn 1 O)) = vO at *
  have eB : (vB == vB) = true := by simp
  have eP : (vP == vP) = true := by simp
  have eH : (vH == vH) = true := by simp
  have eO : (vO == vO) = true := by simp
  have KA := hid (awake_any w6)
  clear I6 O6 Q6 H1 H2 H3 H4 H5 Z
  generalize l.length = n1 at *
  generalize L.length = n2 at *
  generalize P.length = n3 at *
  generalize O.length = n4 at *
  generalize Q.length = n5 at *
  go_wp2_with fail
  refine KA.out.mono ?_
  rintro e w7 ⟨rfl, hu⟩
  have X := hid hu
  clear KA hu
  go_wp2_with fail
  refine (HB.out _ X.out).mono ?_
  rintro e w8 ⟨rfl, hu⟩
  replace X := hid (X.out.trans hu (fun _ _ h => h))
  clear HB hu
  go_wp2_with fail
  refine (HB'.out _ X.out).mono ?_
  rintro e w9 ⟨rfl, hu⟩
  replace X := hid (X.out.trans hu (fun _ _ h => h))
  clear HB' hu
  go_wp2_with fail
  refine (HP.out _ X.out).mono ?_
  rintro e w10 ⟨rfl, hu⟩
  replace X := hid (X.out.trans hu (fun _ _ h => h))
  clear HP hu
  go_wp2_with fail
  refine (HP'.out _ X.out).mono ?_
  rintro e w11 ⟨rfl, hu⟩
  replace X := hid (X.out.trans hu (fun _ _ h => h))
  clear HP' hu
  go_wp2_with fail
  refine (HH.out _ X.out).mono ?_
  rintro e w12 ⟨rfl, hu⟩
  replace X := hid (X.out.trans hu (fun _ _ h => h))
  clear HH hu
  go_wp2_with fail
  refine (HH'.out _ X.out).mono ?_
  rintro e w13 ⟨rfl, hu⟩
  replace X := hid (X.out.trans hu (fun _ _ h => h))
  clear HH' hu
  go_wp2_with fail
  refine (HO.out _ X.out).mono ?_
  rintro e w14 ⟨rfl, hu⟩
  replace X := hid (X.out.trans hu (fun _ _ h => h))
  clear HO hu
  go_wp2_with fail
  refine (HO'.out _ X.out).mono ?_
  rintro e w15 ⟨rfl, hu⟩
  replace X := hid (X.out.trans hu (fun _ _ h => h))
  clear HO' hu
  go_wp2_with fail
  go_ret
  exact ⟨rfl, U6.out.trans (X.out.mono (fun _ _ h => h.elim)) (fun _ _ (h : False) => h.elim)⟩

end Go.Proofs.Ytgbikncpmgikaaa
