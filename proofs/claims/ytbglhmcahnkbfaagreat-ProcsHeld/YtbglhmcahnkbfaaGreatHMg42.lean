/- Texts of this seat, merged. -/
import Derived.Test.YtbglhmcahnkbfaaGreatHMg25
import Derived.Test.YtbglhmcahnkbfaaGreatHMg27
import Derived.Test.YtbglhmcahnkbfaaGreatHMg33
import Derived.Test.YtbglhmcahnkbfaaGreatHMg29
import Derived.Test.YtbglhmcahnkbfaaGreatHMg31
import Derived.Test.YtbglhmcahnkbfaaGreatHMg41
import Derived.Deep.RegionHeld3
import Derived.Test.YtbglhmcahnkbfaaGreatHMg19
import Derived.Deep.DeepCutAuto
import Derived.Deep.CutBlock
import Derived.Test.YtbglhmcahnkbfaaGreatHMg34
import Derived.Test.YtbglhmcahnkbfaaGreatHMg46
import Derived.Test.YtbglhmcahnkbfaaGreatHMg11

/- What is below, from the document's table: its file system's calls, its pipes'. -/
namespace Go.Proofs.YtbglhmcahnkbfaaGreat
open Go.RowKit Go.ChangeMaps Go.MapKept
set_option linter.unusedVariables false
set_option maxRecDepth 20000

section
variable {w : World} {x g s q : Nat} {Dn Dp : Nat → Prop} {T : Ft}
theorem Rs.drop (H : Rs w x g s q Dn Dp T) (hF : FOk T.F) (n : Int) :
    Calls Tryz.prog 101 #[.pointer (some ⟨s, 0, none⟩), .int .i64 n] w fun e w' => e = .returned (.int .i64 (T.F.drop n).2) ∧ NfTo w s (T.F.drop n).1 Dn w' := by
  obtain ⟨gN, uN, V, hR, hD⟩ := H.nf
  refine (rdrop_any s gN uN V T.F w hR hF n).mono ?_
  rintro e w' ⟨rfl, h⟩
  exact ⟨rfl, NfTo.of hD h⟩
theorem TOk.r1 (H : TOk T) (n : Nat) : (T.P n).r ≤ 1000 ∧ (T.P n).w ≤ 1000 := by
  have h1 := H.r n
  have h2 := (H.pq n).2.1
  have h3 : cF T.O 2 n ≤ 11 := by
    unfold cF
    have := List.countP_le_length (p := fun i => decide ((T.O i).h ≠ 0 ∧ (T.O i).k = 2 ∧ (T.O i).of = (n : Int))) (l := List.range 11)
    rwa [List.length_range] at this
  omega
end

end Go.Proofs.YtbglhmcahnkbfaaGreat

/- What Read of the document's open files does. -/
namespace Go.Proofs.YtbglhmcahnkbfaaGreat
open Go.RowKit Go.ChangeMaps Go.MapKept
set_option linter.unusedVariables false
set_option maxRecDepth 20000

end Go.Proofs.YtbglhmcahnkbfaaGreat

/- What Write of the document's open files does. (Written by gen_td4.py.) -/
namespace Go.Proofs.YtbglhmcahnkbfaaGreat
open Go.RowKit Go.ChangeMaps Go.MapKept
set_option linter.unusedVariables false
set_option maxRecDepth 20000

/-- The node of an open file is there. -/
theorem TOk.nodeD {T : Ft} (H : TOk T) (j : Nat) (hj : j < 11) (hh : (T.O j).h ≠ 0) (hk : (T.O j).k = 1) : ∃ m : Nat, (T.O j).of = (m : Int) ∧ T.F.there m = true := by
  obtain ⟨m, hm⟩ := H.of j
  have hc := cF_mem hj hh m hm
  rw [hk] at hc
  have hp : 0 < (T.F.P m).h := by rw [H.hc m]; omega
  have hk : (T.F.P m).k ≠ 0 := fun e => by rw [H.F.none m e] at hp; exact absurd hp (by decide)
  have hl := H.F.lt hk
  refine ⟨m, hm, ?_⟩
  unfold Fs.there
  simp only [Int.toNat_natCast, decide_eq_true_eq]
  exact ⟨by omega, by omega, hk⟩
end Go.Proofs.YtbglhmcahnkbfaaGreat

/- What Seek, Hold, Drop of the document's open files do. (Written by gen_td5.py.) -/
namespace Go.Proofs.YtbglhmcahnkbfaaGreat
open Go.RowKit Go.ChangeMaps Go.MapKept
set_option linter.unusedVariables false
set_option maxRecDepth 20000

theorem updF_updF (O : Nat → Fl) (i : Nat) (a b : Fl) : updF (updF O i a) i b = updF O i b := by
  funext j; unfold updF; by_cases h : j = i <;> simp [h]
set_option maxHeartbeats 2000000 in
theorem tdhold (w : World) (x : Nat) (T : Ft) (D : Nat → Prop) (HP : Td w x T D) (hT : TOk T) (n : Int) :
    Calls Tryz.prog 71 #[.pointer (some ⟨x, 0, none⟩), .int .i64 n] w fun e w' => e = .returned (.int .i64 (T.hold n).2) ∧ TdTo w x (T.hold n).1 D w' := by
  have HP0 := HP
  obtain ⟨g, s, q, Dn, Dp, H, hD⟩ := HP
  have k0 := hid (r8there w x g s q Dn Dp T H hT n)
  have HQ := hid (TdTo.same HP0 (Below.refl _ w))
  unfold Ft.hold
  cases hh : T.there n
  · rw [hh] at k0
    rw [if_pos rfl]
    clear H hD HP0 hT hh
    dsimp only
    go_enter Tryz.func71, Tryz.ntmps71
    go_wp2_with fail
    refine k0.out.mono ?_
    rintro e w1 ⟨rfl, rfl⟩
    clear k0
    go_wp2_with fail
    go_ret
    exact ⟨rfl, HQ.out⟩
  rw [hh] at k0
  obtain ⟨i, rfl, h1, hi, h0⟩ := Ft.there_lt hh
  rw [if_neg (by simp), Int.toNat_natCast]
  have cl := H.cl
  have c4 := H.gf.c4 i hi
  have f4 := H.gf.fz (i * 5 + 4)
  have i1 : (0 : Int) ≤ (i : Int) := by omega
  have i2 : (i : Int) < 11 := by omega
  have hle := hT.h i
  by_cases h9 : 1000 ≤ (T.O i).h
  · rw [if_pos h9]
    clear H hD HP0 hT hh h0
    generalize (T.O i).h = h at c4 h9 hle
    dsimp only
    go_enter Tryz.func71, Tryz.ntmps71
    go_wp2_with fail
    refine k0.out.mono ?_
    rintro e w1 ⟨rfl, rfl⟩
    clear k0
    go_wp2_with fail
    go_ret
    exact ⟨rfl, HQ.out⟩
  · rw [if_neg h9]
    have H4 : Hid (TdTo w x (T.at_ i { T.O i with h := (T.O i).h + 1 }) D (w.setCell ⟨g, i * 5 + 4, none⟩ (.int .i64 ((T.O i).h + 1)))) := hid (TdTo.fil H (Below.refl _ _) hD (H.gf.heldTo i hi _) (Upd.setCell (F := (· = g)) w ⟨g, _, none⟩ _ rfl))
    dsimp only
    generalize T.at_ i { T.O i with h := (T.O i).h + 1 } = T' at H4 ⊢
    clear H hD HP0 hT hh h0 HQ
    generalize (T.O i).h = h at c4 h9 hle H4
    go_enter Tryz.func71, Tryz.ntmps71
    go_wp2_with fail
    refine k0.out.mono ?_
    rintro e w1 ⟨rfl, rfl⟩
    clear k0
    go_wp2_with fail
    go_ret
    exact ⟨rfl, H4.out⟩

end Go.Proofs.YtbglhmcahnkbfaaGreat

/- What Drop of the document's open files does. -/
namespace Go.Proofs.YtbglhmcahnkbfaaGreat
open Go.RowKit Go.ChangeMaps Go.MapKept
set_option linter.unusedVariables false
set_option maxRecDepth 20000

theorem builtFl0 : Tryz.prog.built 109 [] = some #[.int .i64 0, .int .i64 0, .int .i64 0, .int .i64 0, .int .i64 0] := by kernel_rfl
theorem Ft.set_set (T : Ft) (i : Nat) (a b : Fl) : ({ T.at_ i a with O := updF (T.at_ i a).O i b } : Ft) = T.at_ i b := by
  unfold Ft.at_
  dsimp only
  rw [updF_updF]

set_option maxHeartbeats 8000000 in
theorem tddrop (w : World) (x : Nat) (T : Ft) (D : Nat → Prop) (HP : Td w x T D) (hT : TOk T) (n : Int) :
    Calls Tryz.prog 77 #[.pointer (some ⟨x, 0, none⟩), .int .i64 n] w fun e w' => e = .returned (.int .i64 (T.drop n).2) ∧ TdTo w x (T.drop n).1 D w' := by
  have HP0 := HP
  obtain ⟨g, s, q, Dn, Dp, H, hD⟩ := HP
  have k0 := hid (r8there w x g s q Dn Dp T H hT n)
  unfold Ft.drop
  cases hh : T.there n
  · rw [hh] at k0
    rw [if_pos rfl]
    have HQ := hid (TdTo.same HP0 (Below.refl _ w))
    clear H hD HP0 hT hh
    dsimp only
    go_enter Tryz.func77, Tryz.ntmps77
    go_wp2_with fail
    refine k0.out.mono ?_
    rintro e w1 ⟨rfl, rfl⟩
    clear k0
    go_wp2_with fail
    go_ret
    exact ⟨rfl, HQ.out⟩
  rw [hh] at k0
  obtain ⟨i, rfl, h1, hi, h0⟩ := Ft.there_lt hh
  rw [if_neg (by simp), Int.toNat_natCast]
  have cl := H.cl
  have c4 := H.gf.c4 i hi
  have f4 := H.gf.fz (i * 5 + 4)
  have i1 : (0 : Int) ≤ (i : Int) := by omega
  have i2 : (i : Int) < 11 := by omega
  have hle := hT.h i
  have hxg := H.xg
  by_cases h9 : 1 < (T.O i).h
  · rw [if_pos h9]
    have hs := H.fil (H.gf.heldTo i hi ((T.O i).h - 1)) (Upd.setCell (F := (· = g)) w ⟨g, i * 5 + 4, none⟩ (.int .i64 ((T.O i).h - 1)) rfl)
    have d4 := hs.gf.c4 i hi
    rw [show (updF T.O i { T.O i with h := (T.O i).h - 1 } i).h = (T.O i).h - 1 by rw [updF_same]] at d4
    have dl := hs.cl
    have H4 : Hid (TdTo w x (T.at_ i { T.O i with h := (T.O i).h - 1 }) D (w.setCell ⟨g, i * 5 + 4, none⟩ (.int .i64 ((T.O i).h - 1)))) := hid (TdTo.fil H (Below.refl _ _) hD (H.gf.heldTo i hi _) (Upd.setCell (F := (· = g)) w ⟨g, _, none⟩ _ rfl))
    dsimp only
    generalize T.at_ i { T.O i with h := (T.O i).h - 1 } = T' at H4 ⊢
    clear H hD HP0 hT hh h0 hs
    generalize (T.O i).h = h at c4 h9 hle H4 d4 dl
    have hh1 : (0 : Int) < h - 1 := by omega
    go_enter Tryz.func77, Tryz.ntmps77
    go_wp2_with fail
    refine k0.out.mono ?_
    rintro e w1 ⟨rfl, rfl⟩
    clear k0
    go_wp2_with fail
    go_ret
    exact ⟨rfl, H4.out⟩
  rw [if_neg h9]
  have e1 : (T.O i).h = 1 := by omega
  rw [e1] at c4
  obtain ⟨W1, g1⟩ : ∃ W1, W1 = w.setCell ⟨g, i * 5 + 4, none⟩ (.int .i64 0) := ⟨_, rfl⟩
  have hs1 := H.fil (H.gf.heldTo i hi 0) (Upd.setCell (F := (· = g)) w ⟨g, i * 5 + 4, none⟩ (.int .i64 0) rfl)
  rw [← g1] at hs1
  have u1 : Upd (RFoot x g Dn Dp) w W1 := by rw [g1]; exact Upd.setCell (F := RFoot x g Dn Dp) w ⟨g, _, none⟩ _ (.inr (.inl rfl))
  have gf1 : Gf W1 g (updF T.O i { T.O i with h := 0 }) := hs1.gf
  have a0 := gf1.c0 i hi
  have a1 := gf1.c1 i hi
  have a2 := gf1.c2 i hi
  have a3 := gf1.c3 i hi
  have a4 := gf1.c4 i hi
  have al := hs1.cl
  rw [updF_same] at a0 a1 a2 a3 a4
  obtain ⟨W2, g2⟩ : ∃ W2, W2 = W1.alloc (Obj.cells #[.int .i64 (T.O i).k, .int .i64 (T.O i).of, .int .i64 (T.O i).off, .int .i64 (T.O i).fl, .int .i64 0] 109) := ⟨_, rfl⟩
  have hB2 : Below W1.heap.size W1 W2 := by rw [g2]; exact one_new _ _
  have hrow : W2.heap[W1.heap.size]? = some (.cells #[.int .i64 (T.O i).k, .int .i64 (T.O i).of, .int .i64 (T.O i).off, .int .i64 (T.O i).fl, .int .i64 0] 109 (0, 0)) := by rw [g2]; exact heap_alloc_new _ _
  have hZ : W1.heap.size < W2.heap.size := by rw [g2]; simp
  have hs2 := hs1.grow hB2
  have gf2 : Gf W2 g (updF T.O i { T.O i with h := 0 }) := hs2.gf
  have b0 := gf2.c0 i hi
  have b1 := gf2.c1 i hi
  have b2 := gf2.c2 i hi
  have b3 := gf2.c3 i hi
  have b4 := gf2.c4 i hi
  have bl := hs2.cl
  have z0 := hs2.gf.fz (i * 5)
  have z1 := hs2.gf.fz (i * 5 + 1)
  have z2 := hs2.gf.fz (i * 5 + 2)
  have z3 := hs2.gf.fz (i * 5 + 3)
  have z4 := hs2.gf.fz (i * 5 + 4)
  rw [updF_same] at b0 b1 b2 b3 b4
  obtain ⟨W3, g3⟩ : ∃ W3, W3 = ((((W2.setCell ⟨g, i * 5, none⟩ (.int .i64 0)).setCell ⟨g, i * 5 + 1, none⟩ (.int .i64 0)).setCell ⟨g, i * 5 + 2, none⟩ (.int .i64 0)).setCell ⟨g, i * 5 + 3, none⟩ (.int .i64 0)).setCell ⟨g, i * 5 + 4, none⟩ (.int .i64 0) := ⟨_, rfl⟩
  have e3 : W3 = W2.setCells g (i * 5) (flC noFl) := g3
  have u3 : Upd (· = g) W2 W3 := by rw [e3]; exact upd_setCells g _ _ W2
  have hs3 : Rs W3 x g s q Dn Dp (T.at_ i noFl) := by
    have := hs2.fil (by rw [e3]; exact hs2.gf.put i hi noFl) u3
    rw [show ({ ({ T with O := updF T.O i { T.O i with h := 0 } } : Ft) with O := updF ({ T with O := updF T.O i { T.O i with h := 0 } } : Ft).O i noFl } : Ft) = T.at_ i noFl from Ft.set_set T i _ noFl] at this
    exact this
  have hu13 : Upd (RFoot x g Dn Dp) w W3 := (u1.trans (Upd.of_below (F := RFoot x g Dn Dp) hB2) (fun _ _ h => h)).trans u3 (fun b _ e => .inr (.inl e))
  have hsz : w.heap.size = W1.heap.size := by rw [g1]; simp
  obtain ⟨lbk, glb⟩ : ∃ lbk, lbk = W1.heap.size := ⟨_, rfl⟩
  have hgl := hs1.gf.lt
  have hxl1 := hs1.xlt
  have hl3 : lbk < W3.heap.size := Nat.lt_of_lt_of_le (by omega) u3.size
  have hrow3 := u3.heap hrow (by omega)
  rw [← glb] at hrow3
  have l0 : W3.cell? ⟨lbk, 0, none⟩ = some (.int .i64 (T.O i).k) := by rw [cell_of_row _ _ 0 _ _ _ hrow3]; rfl
  have l1 : W3.cell? ⟨lbk, 1, none⟩ = some (.int .i64 (T.O i).of) := by rw [cell_of_row _ _ 1 _ _ _ hrow3]; rfl
  have hlw : ∀ b, RFoot x g Dn Dp b → b < lbk := fun b hb => by
    rw [glb, ← hsz]
    rcases hb with rfl | rfl | e | e
    · exact H.xlt
    · exact H.gf.lt
    · exact H.ln b e
    · exact H.lp b e
  have ys := hs3.cs
  have yq := hs3.cq
  have HGB : Hid (lbk = w.heap.size) := hid (glb.trans hsz.symm)
  by_cases hk : (T.O i).k = 1
  · rw [if_pos hk]
    obtain ⟨m, hm, hth⟩ := hT.nodeD i hi h0 hk
    have HN : Hid (∀ X, Below W3.heap.size W3 X → Calls Tryz.prog 101 #[.pointer (some ⟨s, 0, none⟩), .int .i64 (T.O i).of] X fun e w' => (∃ z, e = .returned (.int .i64 z)) ∧ Hid (TdTo w x { T with F := (T.F.drop (T.O i).of).1, O := updF T.O i noFl } D w' ∧ w'.cell? ⟨x, 1, none⟩ = some (.pointer (some ⟨s, 0, none⟩)) ∧ w'.cell? ⟨lbk, 1, none⟩ = some (.int .i64 (T.O i).of))) := by
      refine hid (fun X hX => ?_)
      have hSX := hs3.grow hX
      refine (hSX.drop hT.F (T.O i).of).mono ?_
      rintro e w' ⟨rfl, h⟩
      have hr := hSX.sys h (drop_d _ _)
      refine ⟨⟨_, rfl⟩, hid ⟨?_, hr.cs, ?_⟩⟩
      · exact TdTo.of hr hD (fun b hb => hb.1.imp id (fun h => Nat.le_trans (Nat.le_trans hu13.size hX.size) h)) (fun b hb => .inl hb) ((hu13.trans (Upd.of_below (F := RFoot x g Dn Dp) hX) (fun _ _ h => h)).trans h.2 (fun b _ hb => .inr (.inr (.inl hb))))
      · have hb := h.2.block lbk (Nat.lt_of_lt_of_le hl3 hX.size) (fun e => by have := hlw lbk (.inr (.inr (.inl e))); omega)
        exact (World.cell?_of_block (a := ⟨lbk, 1, none⟩) hb).trans ((hX.cell (p := ⟨lbk, 1, none⟩) hl3).trans l1)
    dsimp only
    clear H hD HP0 hT hh h0 hs1 hs2 hs3 u1 u3 hu13 hB2 hrow hrow3 hlw e3 hsz hgl hxl1 hm hth hle h9 hZ glb gf1 gf2
    generalize ({ T with F := (T.F.drop (T.O i).of).1, O := updF T.O i noFl } : Ft) = T' at HN ⊢
    rw [hk] at a0 b0 g2 l0
    generalize (T.O i).of = of at a1 b1 g2 l1 HN
    generalize (T.O i).off = off at a2 b2 g2
    generalize (T.O i).fl = fl at a3 b3 g2
    have m0 := b0
    have m1 := b1
    have m2 := b2
    have m3 := b3
    have m4 := b4
    go_enter Tryz.func77, Tryz.ntmps77
    go_wp2_with fail
    refine k0.out.mono ?_
    rintro e w1 ⟨rfl, rfl⟩
    clear k0
    rw [g1] at a0 a1 a2 a3 a4 al
    rw [g2, g1] at b0 b1 b2 b3 b4 bl z0 z1 z2 z3 z4
    go_wp2_with (refine wpList_build_is rfl 109 #[] rfl _ (by simpa [Act.eval] using builtFl0) ?_)
    rw [← g1, ← g2, ← g3, ← HGB.out]
    clear g1 g2 g3 a0 a1 a2 a3 a4 al b0 b1 b2 b3 b4 bl z0 z1 z2 z3 z4 m0 m1 m2 m3 m4 cl c4 f4
    go_region_held3 (fun V => V.cell? ⟨x, 1, none⟩ = some (.pointer (some ⟨s, 0, none⟩)) ∧ V.cell? ⟨lbk, 1, none⟩ = some (.int .i64 of)) (go_keep) ((go_at_call 101; refine (HN.out _ (Below.refl _ _).drew).mono ?_; rintro e w9 ⟨⟨z, rfl⟩, H9⟩; obtain ⟨h5, y8, y9⟩ := H9.out))
    have HQ := hid h5
    clear h5 H9 HN
    go_wp2_with fail
    go_ret
    exact ⟨rfl, HQ.out⟩
  · rw [if_neg hk]
    have PDR : ∀ X, Below W3.heap.size W3 X → Calls Tryz.prog 102 #[.pointer (some ⟨q, 0, none⟩), .int .i64 (T.O i).of, .bool (decide ((T.O i).k = 3))] X fun e w' => e = .returned (.int .i64 (Pi.dropE T.P (T.O i).of (decide ((T.O i).k = 3)))) ∧ PdTo X q T.F.d (Pi.dropP T.kp T.P (T.O i).of (decide ((T.O i).k = 3))) Dp w' := by
      intro X hX
      obtain ⟨B, gq, A, hR, hDq⟩ := (hs3.grow hX).pd
      refine (Pi.rdrop_any B q gq (T.O i).of T.F.d (decide ((T.O i).k = 3)) A T.P X hR (fun i _ => hT.r1 i)).mono ?_
      rintro e w' ⟨rfl, h, u⟩
      exact ⟨rfl, PdTo.own hDq h u⟩
    have HN : Hid (∀ X, Below W3.heap.size W3 X → Calls Tryz.prog 102 #[.pointer (some ⟨q, 0, none⟩), .int .i64 (T.O i).of, .bool (decide ((T.O i).k = 3))] X fun e w' => (∃ z, e = .returned (.int .i64 z)) ∧ Hid (TdTo w x { T with P := Pi.dropP T.kp T.P (T.O i).of (decide ((T.O i).k = 3)), O := updF T.O i noFl } D w' ∧ w'.cell? ⟨x, 2, none⟩ = some (.pointer (some ⟨q, 0, none⟩)) ∧ w'.cell? ⟨lbk, 1, none⟩ = some (.int .i64 (T.O i).of) ∧ w'.cell? ⟨lbk, 0, none⟩ = some (.int .i64 (T.O i).k))) := by
      refine hid (fun X hX => ?_)
      have hSX := hs3.grow hX
      refine (PDR X hX).mono ?_
      rintro e w' ⟨rfl, h⟩
      have hr := hSX.pip h
      have hb := h.2.block lbk (Nat.lt_of_lt_of_le hl3 hX.size) (fun e => by have := hlw lbk (.inr (.inr (.inr e))); omega)
      refine ⟨⟨_, rfl⟩, hid ⟨?_, hr.cq, ?_, ?_⟩⟩
      · exact TdTo.of hr hD (fun b hb => .inl hb) (fun b hb => hb.1.imp id (fun h => Nat.le_trans (Nat.le_trans hu13.size hX.size) h)) ((hu13.trans (Upd.of_below (F := RFoot x g Dn Dp) hX) (fun _ _ h => h)).trans h.2 (fun b _ hb => .inr (.inr (.inr hb))))
      · exact (World.cell?_of_block (a := ⟨lbk, 1, none⟩) hb).trans ((hX.cell (p := ⟨lbk, 1, none⟩) hl3).trans l1)
      · exact (World.cell?_of_block (a := ⟨lbk, 0, none⟩) hb).trans ((hX.cell (p := ⟨lbk, 0, none⟩) hl3).trans l0)
    dsimp only
    clear H hD HP0 hT hh h0 hs1 hs2 hs3 u1 u3 hu13 hB2 hrow hrow3 hlw e3 hsz hgl hxl1 PDR hle h9 hZ glb gf1 gf2
    generalize ({ T with P := Pi.dropP T.kp T.P (T.O i).of (decide ((T.O i).k = 3)), O := updF T.O i noFl } : Ft) = T' at HN ⊢
    have hk' : ¬ (T.O i).k = 1 := hk
    clear hk
    generalize (T.O i).k = k at a0 b0 g2 l0 HN hk'
    generalize (T.O i).of = of at a1 b1 g2 l1 HN
    generalize (T.O i).off = off at a2 b2 g2
    generalize (T.O i).fl = fl at a3 b3 g2
    have m0 := b0
    have m1 := b1
    have m2 := b2
    have m3 := b3
    have m4 := b4
    go_enter Tryz.func77, Tryz.ntmps77
    go_wp2_with fail
    refine k0.out.mono ?_
    rintro e w1 ⟨rfl, rfl⟩
    clear k0
    rw [g1] at a0 a1 a2 a3 a4 al
    rw [g2, g1] at b0 b1 b2 b3 b4 bl z0 z1 z2 z3 z4
    go_wp2_with (refine wpList_build_is rfl 109 #[] rfl _ (by simpa [Act.eval] using builtFl0) ?_)
    rw [← g1, ← g2, ← g3, ← HGB.out]
    clear g1 g2 g3 a0 a1 a2 a3 a4 al b0 b1 b2 b3 b4 bl z0 z1 z2 z3 z4 m0 m1 m2 m3 m4 cl c4 f4
    go_region_held3 (fun V => V.cell? ⟨x, 2, none⟩ = some (.pointer (some ⟨q, 0, none⟩)) ∧ V.cell? ⟨lbk, 1, none⟩ = some (.int .i64 of) ∧ V.cell? ⟨lbk, 0, none⟩ = some (.int .i64 k)) (go_keep) ((go_at_call 102; refine (HN.out _ (Below.refl _ _).drew).mono ?_; rintro e w9 ⟨⟨z, rfl⟩, H9⟩; obtain ⟨h5, y8, y9, y10⟩ := H9.out))
    have HQ := hid h5
    clear h5 H9 HN
    go_wp2_with fail
    go_ret
    exact ⟨rfl, HQ.out⟩

end Go.Proofs.YtbglhmcahnkbfaaGreat

/- What Name, Truncate, Stat, Look of the document's open files do. (Written by gen_td7.py.) -/
namespace Go.Proofs.YtbglhmcahnkbfaaGreat
open Go.RowKit Go.ChangeMaps Go.MapKept
set_option linter.unusedVariables false
set_option maxRecDepth 20000

end Go.Proofs.YtbglhmcahnkbfaaGreat

/- What Open of the document's open files does. (Written by gen_td8.py.) -/
namespace Go.Proofs.YtbglhmcahnkbfaaGreat
open Go.RowKit Go.ChangeMaps Go.MapKept
set_option linter.unusedVariables false
set_option maxRecDepth 20000

end Go.Proofs.YtbglhmcahnkbfaaGreat

/- What Pipe of the document's open files does. -/
namespace Go.Proofs.YtbglhmcahnkbfaaGreat
open Go.RowKit Go.ChangeMaps Go.MapKept
set_option linter.unusedVariables false
set_option maxRecDepth 20000

end Go.Proofs.YtbglhmcahnkbfaaGreat

/- What New of the document's open files does; what its Looks tell. -/
namespace Go.Proofs.YtbglhmcahnkbfaaGreat
open Go.RowKit Go.ChangeMaps Go.MapKept
set_option linter.unusedVariables false
set_option maxRecDepth 20000

/-- A new system, new pipes of the document. -/
theorem nfnew (w : World) (d : Int) : Calls Tryz.prog 67 #[.int .i64 d] w fun e w' => ∃ s, e = .returned (.pointer (some ⟨s, 0, none⟩)) ∧ Nf w' s (rootF d) (fun b => w.heap.size ≤ b ∧ b < w'.heap.size) ∧ Below w.heap.size w w' := by
  refine (rnew_any w d).mono ?_
  rintro e w' ⟨x, g, u, V, rfl, h1, h2, h3⟩
  exact ⟨x, rfl, ⟨g, u, V, h1, fun b hb => ⟨h3 b hb, h1.foot_lt b hb⟩⟩, h2⟩
theorem pdnew (w : World) (d : Int) : Calls Tryz.prog 68 #[.int .i64 d] w fun e w' => ∃ q, e = .returned (.pointer (some ⟨q, 0, none⟩)) ∧ Pd w' q d Pi.noPipes (fun b => w.heap.size ≤ b ∧ b < w'.heap.size) ∧ Below w.heap.size w w' := by
  refine (Pi.rnew_any d w w.heap.size (Nat.le_refl _)).mono ?_
  rintro e w' ⟨q, g, rfl, h1, h2⟩
  refine ⟨q, rfl, ⟨_, _, _, h1, fun b hb => ⟨?_, PdFoot.lt h1 b hb⟩⟩, h2⟩
  rcases hb with rfl | rfl | ⟨i, hi, e⟩
  · exact h1.geq
  · exact h1.geg
  · exact ((h1.own i hi).lt b e).1

/-- The files of a new table. -/
def noFls : List Value := (madeCells (Value.agg #[.int .i64 0, .int .i64 0, .int .i64 0, .int .i64 0, .int .i64 0]).cells (11 * 5)).toList
theorem infoR8 : (Tryz.prog.info? 109).map (fun i => (i.zero, i.size, i.bytes)) = some (some (.agg #[.int .i64 0, .int .i64 0, .int .i64 0, .int .i64 0, .int .i64 0]), 5, 40) := by kernel_rfl
theorem noFls_gls : Gls noFls (fun _ => noFl) := by
  refine ⟨by simp [noFls, size_madeCells], fun i hi j hj => ?_⟩
  obtain rfl | rfl | rfl | rfl | rfl | rfl | rfl | rfl | rfl | rfl | rfl : i = 0 ∨ i = 1 ∨ i = 2 ∨ i = 3 ∨ i = 4 ∨ i = 5 ∨ i = 6 ∨ i = 7 ∨ i = 8 ∨ i = 9 ∨ i = 10 := by omega
  all_goals (obtain rfl | rfl | rfl | rfl | rfl : j = 0 ∨ j = 1 ∨ j = 2 ∨ j = 3 ∨ j = 4 := by omega)
  all_goals kernel_rfl

/-- The three parts of a new table, wherever they lie. -/
theorem new_join {w W : World} {g s q : Nat} {d : Int} {Dn Dp : Nat → Prop} (hb : Below w.heap.size w W) (hg : W.heap[g]? = some (.cells noFls.toArray 109 (0, 0))) (hn : Nf W s (rootF d) Dn) (hp : Pd W q d Pi.noPipes Dp)
    (h1 : ∀ b, Dn b → w.heap.size ≤ b ∧ b < W.heap.size) (h2 : ∀ b, Dp b → w.heap.size ≤ b ∧ b < W.heap.size) (h3 : w.heap.size ≤ g) (h4 : ∀ b, Dn b → ¬ Dp b) (h5 : ¬ Dn g) (h6 : ¬ Dp g) :
    Td (W.alloc (.cells #[.slice (some ⟨g, 0, none⟩) 11 11, .pointer (some ⟨s, 0, none⟩), .pointer (some ⟨q, 0, none⟩)] 75)) W.heap.size (newT d) (fun b => w.heap.size ≤ b) ∧ Below w.heap.size w (W.alloc (.cells #[.slice (some ⟨g, 0, none⟩) 11 11, .pointer (some ⟨s, 0, none⟩), .pointer (some ⟨q, 0, none⟩)] 75)) := by
  have hs := hb.size
  have hgl : g < W.heap.size := (Array.getElem?_eq_some_iff.1 hg).1
  have hz := one_new W (.cells #[.slice (some ⟨g, 0, none⟩) 11 11, .pointer (some ⟨s, 0, none⟩), .pointer (some ⟨q, 0, none⟩)] 75)
  refine ⟨⟨g, s, q, Dn, Dp, ⟨heap_alloc_new _ _, ⟨noFls, (hz.block g hgl).trans hg, noFls_gls⟩, hn.upd (Upd.of_below (F := fun _ => False) hz) (fun _ _ _ h => h), hp.upd (Upd.of_below (F := fun _ => False) hz) (fun _ _ _ h => h), fun b h => ?_, fun b h => ?_, h4, by omega, fun h => ?_, fun h => ?_, h5, h6⟩, fun b h => ?_⟩, hb.trans (hz.mono hs)⟩
  · exact Nat.lt_of_lt_of_le (h1 b h).2 hz.size
  · exact Nat.lt_of_lt_of_le (h2 b h).2 hz.size
  · exact absurd (h1 _ h).2 (Nat.lt_irrefl _)
  · exact absurd (h2 _ h).2 (Nat.lt_irrefl _)
  · rcases h with rfl | rfl | h | h
    · exact hs
    · exact h3
    · exact (h1 b h).1
    · exact (h2 b h).1

set_option maxHeartbeats 4000000 in
theorem tdnew (w : World) (d : Int) : Calls Tryz.prog 23 #[.int .i64 d] w fun e w' => ∃ x, e = .returned (.pointer (some ⟨x, 0, none⟩)) ∧ Td w' x (newT d) (fun b => w.heap.size ≤ b) ∧ Below w.heap.size w w' := by
  obtain ⟨C, gC⟩ : ∃ C, C = noFls := ⟨_, rfl⟩
  have hm' : ∀ W : World, (Instr.makeSlice 71 (.int .i64 11) (.int .i64 11)).run Tryz.prog W = .ok (.slice (some ⟨W.heap.size, 0, none⟩) 11 11) (W.alloc (.cells C.toArray 109)) := by
    rw [gC]
    exact made_zs (P := Tryz.prog) 71 109 11 _ _ _ Tryz.underlying71 infoR8 (by omega) (by omega)
  have k6 := hid (fun W => nfnew W d)
  have k7 := hid (fun W => pdnew W d)
  have HC := hid gC
  clear gC
  go_enter Tryz.func23, Tryz.ntmps23
  go_wp2_with fail
  go_region_held3 (fun _ => True) (trivial) (first
    | (go_at_call 67; refine (k6.out _).mono ?_; rintro e w6 ⟨s, rfl, h6⟩; have H6 := hid h6; clear h6)
    | (go_at_call 68; refine (k7.out _).mono ?_; rintro e w7 ⟨q, rfl, h7⟩; have H7 := hid h7; clear h7))
  all_goals go_wp2_with fail
  all_goals go_ret
  · obtain ⟨h6, b6⟩ := H6.out
    obtain ⟨h7, b7⟩ := H7.out
    obtain ⟨W, gW⟩ : ∃ W, W = (w.alloc (Obj.cells C.toArray 109)).drew := ⟨_, rfl⟩
    have a1 : W.heap.size = w.heap.size + 1 := by rw [gW]; simp [World.drew]
    have a2 : Below w.heap.size w W := by rw [gW]; exact (one_new _ _).drew
    have a3 : W.heap[w.heap.size]? = some (.cells C.toArray 109 (0, 0)) := by rw [gW]; exact heap_alloc_new _ _
    rw [← gW] at h6 b6
    have s6 := b6.size
    have s7 := b7.size
    rw [HC.out] at a3
    have k := new_join (w := w) (W := w7) (g := w.heap.size) (s := s) (q := q) (d := d) (a2.trans ((b6.trans (b7.mono (by omega))).mono (by omega))) ((b7.block _ (by omega)).trans ((b6.block _ (by omega)).trans a3)) (h6.upd (Upd.of_below (F := fun _ => False) b7) (fun _ _ _ h => h)) h7 (fun b h => by omega) (fun b h => by omega) (Nat.le_refl _) (fun b h h' => by omega) (fun h => by omega) (fun h => by omega)
    exact ⟨_, rfl, k⟩
  · obtain ⟨h6, b6⟩ := H6.out
    obtain ⟨h7, b7⟩ := H7.out
    obtain ⟨W, gW⟩ : ∃ W, W = w6.alloc (Obj.cells C.toArray 109) := ⟨_, rfl⟩
    have a1 : W.heap.size = w6.heap.size + 1 := by rw [gW]; simp
    have a2 : Below w6.heap.size w6 W := by rw [gW]; exact one_new _ _
    have a3 : W.heap[w6.heap.size]? = some (.cells C.toArray 109 (0, 0)) := by rw [gW]; exact heap_alloc_new _ _
    rw [← gW] at h7 b7
    have b6' : Below w.heap.size w w6 := (Below.refl _ w).drew.trans b6
    have h6' : Nf w6 s (rootF d) (fun b => w.heap.size ≤ b ∧ b < w6.heap.size) := h6
    have s6 := b6'.size
    have s7 := b7.size
    rw [HC.out] at a3
    have b67 : Below w6.heap.size w6 w7 := a2.trans (b7.mono (by omega))
    have k := new_join (w := w) (W := w7) (g := w6.heap.size) (s := s) (q := q) (d := d) (b6'.trans (b67.mono (by omega))) ((b7.block _ (by omega)).trans a3) (h6'.upd (Upd.of_below (F := fun _ => False) b67) (fun _ _ _ h => h)) h7 (fun b h => by omega) (fun b h => by omega) (by omega) (fun b h h' => by omega) (fun h => by omega) (fun h => by omega)
    exact ⟨_, rfl, k⟩
  · obtain ⟨h6, b6⟩ := H6.out
    obtain ⟨h7, b7⟩ := H7.out
    obtain ⟨W, gW⟩ : ∃ W, W = w7.alloc (Obj.cells C.toArray 109) := ⟨_, rfl⟩
    have a1 : W.heap.size = w7.heap.size + 1 := by rw [gW]; simp
    have a2 : Below w7.heap.size w7 W := by rw [gW]; exact one_new _ _
    have a3 : W.heap[w7.heap.size]? = some (.cells C.toArray 109 (0, 0)) := by rw [gW]; exact heap_alloc_new _ _
    have b6' : Below w.heap.size w w6 := (Below.refl _ w).drew.trans b6
    have h6' : Nf w6 s (rootF d) (fun b => w.heap.size ≤ b ∧ b < w6.heap.size) := h6
    have s6 := b6'.size
    have s7 := b7.size
    rw [HC.out] at a3
    have b67 : Below w6.heap.size w6 W := b7.trans (a2.mono s7)
    have k := new_join (w := w) (W := W) (g := w7.heap.size) (s := s) (q := q) (d := d) (b6'.trans (b67.mono (by omega))) a3 (h6'.upd (Upd.of_below (F := fun _ => False) b67) (fun _ _ _ h => h)) (h7.upd (Upd.of_below (F := fun _ => False) a2) (fun _ _ _ h => h)) (fun b h => by omega) (fun b h => by omega) (by omega) (fun b h h' => by omega) (fun h => by omega) (fun h => by omega)
    rw [gW] at k
    exact ⟨_, rfl, by rw [← a1, gW]; exact k⟩

end Go.Proofs.YtbglhmcahnkbfaaGreat
