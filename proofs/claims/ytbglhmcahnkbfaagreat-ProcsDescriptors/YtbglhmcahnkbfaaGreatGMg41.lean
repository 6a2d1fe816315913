/- Texts of this seat, merged. -/
import Derived.Test.YtbglhmcahnkbfaaGreatGMg25
import Derived.Test.YtbglhmcahnkbfaaGreatGMg26
import Derived.Test.YtbglhmcahnkbfaaGreatGMg28
import Derived.Test.YtbglhmcahnkbfaaGreatGMg29
import Derived.Test.YtbglhmcahnkbfaaGreatGMg39
import Derived.Test.YtbglhmcahnkbfaaGreatGMg31
import Derived.Test.YtbglhmcahnkbfaaGreatGMg40
import Derived.Deep.RegionHeld3
import Derived.Test.YtbglhmcahnkbfaaGreatGMg19
import Derived.Deep.DeepCutAuto
import Derived.Deep.CutBlock

/- What is below, from the document's table: its file system's calls, its pipes'. -/
namespace Go.Proofs.YtbglhmcahnkbfaaGreat
open Go.RowKit Go.ChangeMaps Go.MapKept
set_option linter.unusedVariables false
set_option maxRecDepth 20000

section
variable {w : World} {x g s q : Nat} {Dn Dp : Nat → Prop} {T : Ft}
theorem Rs.hold (H : Rs w x g s q Dn Dp T) (hF : FOk T.F) (n : Int) :
    Calls Tryz.prog 98 #[.pointer (some ⟨s, 0, none⟩), .int .i64 n] w fun e w' => e = .returned (.int .i64 (T.F.hold n).2) ∧ NfTo w s (T.F.hold n).1 Dn w' := by
  obtain ⟨gN, uN, V, hR, hD⟩ := H.nf
  refine (rhold_any s gN uN V T.F w hR hF n).mono ?_
  rintro e w' ⟨rfl, h⟩
  exact ⟨rfl, NfTo.of hD h⟩
theorem Rs.drop (H : Rs w x g s q Dn Dp T) (hF : FOk T.F) (n : Int) :
    Calls Tryz.prog 101 #[.pointer (some ⟨s, 0, none⟩), .int .i64 n] w fun e w' => e = .returned (.int .i64 (T.F.drop n).2) ∧ NfTo w s (T.F.drop n).1 Dn w' := by
  obtain ⟨gN, uN, V, hR, hD⟩ := H.nf
  refine (rdrop_any s gN uN V T.F w hR hF n).mono ?_
  rintro e w' ⟨rfl, h⟩
  exact ⟨rfl, NfTo.of hD h⟩
theorem Rs.stat (H : Rs w x g s q Dn Dp T) (hF : FOk T.F) (n : Int) :
    Calls Tryz.prog 96 #[.pointer (some ⟨s, 0, none⟩), .int .i64 n] w fun e w' => e = .returned (.tuple #[.agg #[.int .i64 (T.F.stat n).1, .int .i64 (T.F.stat n).2.1, .int .i64 (T.F.stat n).2.2.1], .int .i64 (T.F.stat n).2.2.2]) ∧ Below w.heap.size w w' := by
  obtain ⟨gN, uN, V, hR, hD⟩ := H.nf
  exact rstat_any s gN uN V T.F w hR hF n
theorem Rs.resize (H : Rs w x g s q Dn Dp T) (hF : FOk T.F) (n z : Int) (hz : z ≤ 9223372036854775807) :
    Calls Tryz.prog 97 #[.pointer (some ⟨s, 0, none⟩), .int .i64 n, .int .i64 z] w fun e w' => e = .returned (.int .i64 (T.F.resize n z).2) ∧ NfTo w s (T.F.resize n z).1 Dn w' := by
  obtain ⟨gN, uN, V, hR, hD⟩ := H.nf
  refine (rresize_any s gN uN V T.F w hR hF n z hz).mono ?_
  rintro e w' ⟨rfl, h⟩
  exact ⟨rfl, NfTo.of hD h⟩
theorem TOk.r1 (H : TOk T) (n : Nat) : (T.P n).r ≤ 1000 ∧ (T.P n).w ≤ 1000 := by
  have h1 := H.r n
  have h2 := (H.pq n).2.1
  have h3 : cF T.O 2 n ≤ 11 := by
    unfold cF
    have := List.countP_le_length (p := fun i => decide ((T.O i).h ≠ 0 ∧ (T.O i).k = 2 ∧ (T.O i).of = (n : Int))) (l := List.range 11)
    rwa [List.length_range] at this
  omega
theorem Rs.pmake (H : Rs w x g s q Dn Dp T) :
    Calls Tryz.prog 100 #[.pointer (some ⟨q, 0, none⟩)] w fun e w' => e = .returned (.tuple #[.int .i64 (Pi.lowest T.P : Int), .int .i64 (Pi.makeE T.P)]) ∧ PdTo w q T.F.d (Pi.makeP T.P) Dp w' := by
  obtain ⟨B, gq, A, hR, hD⟩ := H.pd
  refine (Pi.rmake_any B q gq T.F.d A T.P w hR).mono ?_
  rintro e w' ⟨rfl, h, u⟩
  exact ⟨rfl, PdTo.own hD h u⟩
theorem Rs.pdrop (H : Rs w x g s q Dn Dp T) (hT : TOk T) (n : Int) (b : Bool) :
    Calls Tryz.prog 102 #[.pointer (some ⟨q, 0, none⟩), .int .i64 n, .bool b] w fun e w' => e = .returned (.int .i64 (Pi.dropE T.P n b)) ∧ PdTo w q T.F.d (Pi.dropP T.kp T.P n b) Dp w' := by
  obtain ⟨B, gq, A, hR, hD⟩ := H.pd
  refine (Pi.rdrop_any B q gq n T.F.d b A T.P w hR (fun i _ => hT.r1 i)).mono ?_
  rintro e w' ⟨rfl, h, u⟩
  exact ⟨rfl, PdTo.own hD h u⟩
end

end Go.Proofs.YtbglhmcahnkbfaaGreat

/- What Read of the document's open files does. -/
namespace Go.Proofs.YtbglhmcahnkbfaaGreat
open Go.RowKit Go.ChangeMaps Go.MapKept
set_option linter.unusedVariables false
set_option maxRecDepth 20000

end Go.Proofs.YtbglhmcahnkbfaaGreat

/- What Write of the document's open files does. (Written by gen_td4.py.) -/
namespace Go.Proofs.YtbglhmcahnkbfaaGreat
open Go.RowKit Go.ChangeMaps Go.MapKept
set_option linter.unusedVariables false
set_option maxRecDepth 20000

/-- The node of an open file is there. -/
theorem TOk.nodeD {T : Ft} (H : TOk T) (j : Nat) (hj : j < 11) (hh : (T.O j).h ≠ 0) (hk : (T.O j).k = 1) : ∃ m : Nat, (T.O j).of = (m : Int) ∧ T.F.there m = true := by
  obtain ⟨m, hm⟩ := H.of j
  have hc := cF_mem hj hh m hm
  rw [hk] at hc
  have hp : 0 < (T.F.P m).h := by rw [H.hc m]; omega
  have hk : (T.F.P m).k ≠ 0 := fun e => by rw [H.F.none m e] at hp; exact absurd hp (by decide)
  have hl := H.F.lt hk
  refine ⟨m, hm, ?_⟩
  unfold Fs.there
  simp only [Int.toNat_natCast, decide_eq_true_eq]
  exact ⟨by omega, by omega, hk⟩
theorem stat_thereD {F : Fs} {n : Int} (h : F.there n = true) : (F.stat n).2.2.1 = (F.size n.toNat : Int) ∧ (F.stat n).2.2.2 = 0 ∧ (F.stat n).1 = (F.P n.toNat).k := by
  unfold Fs.stat
  rw [if_neg (by rw [h]; simp)]
  exact ⟨rfl, rfl, rfl⟩
end Go.Proofs.YtbglhmcahnkbfaaGreat

/- What Seek, Hold, Drop of the document's open files do. (Written by gen_td5.py.) -/
namespace Go.Proofs.YtbglhmcahnkbfaaGreat
open Go.RowKit Go.ChangeMaps Go.MapKept
set_option linter.unusedVariables false
set_option maxRecDepth 20000

theorem updF_updF (O : Nat → Fl) (i : Nat) (a b : Fl) : updF (updF O i a) i b = updF O i b := by
  funext j; unfold updF; by_cases h : j = i <;> simp [h]
theorem TdTo.post {w X w' : World} {x : Nat} {T : Ft} {D : Nat → Prop} (h : TdTo w x T D w') (u : Below w'.heap.size w' X) : TdTo w x T D X := ⟨h.1.grow u, h.2.trans (Upd.of_below (F := D) u) (fun _ _ h => h)⟩

set_option maxHeartbeats 2000000 in
theorem tdhold (w : World) (x : Nat) (T : Ft) (D : Nat → Prop) (HP : Td w x T D) (hT : TOk T) (n : Int) :
    Calls Tryz.prog 71 #[.pointer (some ⟨x, 0, none⟩), .int .i64 n] w fun e w' => e = .returned (.int .i64 (T.hold n).2) ∧ TdTo w x (T.hold n).1 D w' := by
  have HP0 := HP
  obtain ⟨g, s, q, Dn, Dp, H, hD⟩ := HP
  have k0 := hid (r8there w x g s q Dn Dp T H hT n)
  have HQ := hid (TdTo.same HP0 (Below.refl _ w))
  unfold Ft.hold
  cases hh : T.there n
  · rw [hh] at k0
    rw [if_pos rfl]
    clear H hD HP0 hT hh
    dsimp only
    go_enter Tryz.func71, Tryz.ntmps71
    go_wp2_with fail
    refine k0.out.mono ?_
    rintro e w1 ⟨rfl, rfl⟩
    clear k0
    go_wp2_with fail
    go_ret
    exact ⟨rfl, HQ.out⟩
  rw [hh] at k0
  obtain ⟨i, rfl, h1, hi, h0⟩ := Ft.there_lt hh
  rw [if_neg (by simp), Int.toNat_natCast]
  have cl := H.cl
  have c4 := H.gf.c4 i hi
  have f4 := H.gf.fz (i * 5 + 4)
  have i1 : (0 : Int) ≤ (i : Int) := by omega
  have i2 : (i : Int) < 11 := by omega
  have hle := hT.h i
  by_cases h9 : 1000 ≤ (T.O i).h
  · rw [if_pos h9]
    clear H hD HP0 hT hh h0
    generalize (T.O i).h = h at c4 h9 hle
    dsimp only
    go_enter Tryz.func71, Tryz.ntmps71
    go_wp2_with fail
    refine k0.out.mono ?_
    rintro e w1 ⟨rfl, rfl⟩
    clear k0
    go_wp2_with fail
    go_ret
    exact ⟨rfl, HQ.out⟩
  · rw [if_neg h9]
    have H4 : Hid (TdTo w x (T.at_ i { T.O i with h := (T.O i).h + 1 }) D (w.setCell ⟨g, i * 5 + 4, none⟩ (.int .i64 ((T.O i).h + 1)))) := hid (TdTo.fil H (Below.refl _ _) hD (H.gf.heldTo i hi _) (Upd.setCell (F := (· = g)) w ⟨g, _, none⟩ _ rfl))
    dsimp only
    generalize T.at_ i { T.O i with h := (T.O i).h + 1 } = T' at H4 ⊢
    clear H hD HP0 hT hh h0 HQ
    generalize (T.O i).h = h at c4 h9 hle H4
    go_enter Tryz.func71, Tryz.ntmps71
    go_wp2_with fail
    refine k0.out.mono ?_
    rintro e w1 ⟨rfl, rfl⟩
    clear k0
    go_wp2_with fail
    go_ret
    exact ⟨rfl, H4.out⟩

end Go.Proofs.YtbglhmcahnkbfaaGreat

/- What Drop of the document's open files does. -/
namespace Go.Proofs.YtbglhmcahnkbfaaGreat
open Go.RowKit Go.ChangeMaps Go.MapKept
set_option linter.unusedVariables false
set_option maxRecDepth 20000

theorem builtFl0 : Tryz.prog.built 109 [] = some #[.int .i64 0, .int .i64 0, .int .i64 0, .int .i64 0, .int .i64 0] := by kernel_rfl
theorem Ft.set_set (T : Ft) (i : Nat) (a b : Fl) : ({ T.at_ i a with O := updF (T.at_ i a).O i b } : Ft) = T.at_ i b := by
  unfold Ft.at_
  dsimp only
  rw [updF_updF]

set_option maxHeartbeats 8000000 in
theorem tddrop (w : World) (x : Nat) (T : Ft) (D : Nat → Prop) (HP : Td w x T D) (hT : TOk T) (n : Int) :
    Calls Tryz.prog 77 #[.pointer (some ⟨x, 0, none⟩), .int .i64 n] w fun e w' => e = .returned (.int .i64 (T.drop n).2) ∧ TdTo w x (T.drop n).1 D w' := by
  have HP0 := HP
  obtain ⟨g, s, q, Dn, Dp, H, hD⟩ := HP
  have k0 := hid (r8there w x g s q Dn Dp T H hT n)
  unfold Ft.drop
  cases hh : T.there n
  · rw [hh] at k0
    rw [if_pos rfl]
    have HQ := hid (TdTo.same HP0 (Below.refl _ w))
    clear H hD HP0 hT hh
    dsimp only
    go_enter Tryz.func77, Tryz.ntmps77
    go_wp2_with fail
    refine k0.out.mono ?_
    rintro e w1 ⟨rfl, rfl⟩
    clear k0
    go_wp2_with fail
    go_ret
    exact ⟨rfl, HQ.out⟩
  rw [hh] at k0
  obtain ⟨i, rfl, h1, hi, h0⟩ := Ft.there_lt hh
  rw [if_neg (by simp), Int.toNat_natCast]
  have cl := H.cl
  have c4 := H.gf.c4 i hi
  have f4 := H.gf.fz (i * 5 + 4)
  have i1 : (0 : Int) ≤ (i : Int) := by omega
  have i2 : (i : Int) < 11 := by omega
  have hle := hT.h i
  have hxg := H.xg
  by_cases h9 : 1 < (T.O i).h
  · rw [if_pos h9]
    have hs := H.fil (H.gf.heldTo i hi ((T.O i).h - 1)) (Upd.setCell (F := (· = g)) w ⟨g, i * 5 + 4, none⟩ (.int .i64 ((T.O i).h - 1)) rfl)
    have d4 := hs.gf.c4 i hi
    rw [show (updF T.O i { T.O i with h := (T.O i).h - 1 } i).h = (T.O i).h - 1 by rw [updF_same]] at d4
    have dl := hs.cl
    have H4 : Hid (TdTo w x (T.at_ i { T.O i with h := (T.O i).h - 1 }) D (w.setCell ⟨g, i * 5 + 4, none⟩ (.int .i64 ((T.O i).h - 1)))) := hid (TdTo.fil H (Below.refl _ _) hD (H.gf.heldTo i hi _) (Upd.setCell (F := (· = g)) w ⟨g, _, none⟩ _ rfl))
    dsimp only
    generalize T.at_ i { T.O i with h := (T.O i).h - 1 } = T' at H4 ⊢
    clear H hD HP0 hT hh h0 hs
    generalize (T.O i).h = h at c4 h9 hle H4 d4 dl
    have hh1 : (0 : Int) < h - 1 := by omega
    go_enter Tryz.func77, Tryz.ntmps77
    go_wp2_with fail
    refine k0.out.mono ?_
    rintro e w1 ⟨rfl, rfl⟩
    clear k0
    go_wp2_with fail
    go_ret
    exact ⟨rfl, H4.out⟩
  rw [if_neg h9]
  have e1 : (T.O i).h = 1 := by omega
  rw [e1] at c4
  obtain ⟨W1, g1⟩ : ∃ W1, W1 = w.setCell ⟨g, i * 5 + 4, none⟩ (.int .i64 0) := ⟨_, rfl⟩
  have hs1 := H.fil (H.gf.heldTo i hi 0) (Upd.setCell (F := (· = g)) w ⟨g, i * 5 + 4, none⟩ (.int .i64 0) rfl)
  rw [← g1] at hs1
  have u1 : Upd (RFoot x g Dn Dp) w W1 := by rw [g1]; exact Upd.setCell (F := RFoot x g Dn Dp) w ⟨g, _, none⟩ _ (.inr (.inl rfl))
  have gf1 : Gf W1 g (updF T.O i { T.O i with h := 0 }) := hs1.gf
  have a0 := gf1.c0 i hi
  have a1 := gf1.c1 i hi
  have a2 := gf1.c2 i hi
  have a3 := gf1.c3 i hi
  have a4 := gf1.c4 i hi
  have al := hs1.cl
  rw [updF_same] at a0 a1 a2 a3 a4
  obtain ⟨W2, g2⟩ : ∃ W2, W2 = W1.alloc (Obj.cells #[.int .i64 (T.O i).k, .int .i64 (T.O i).of, .int .i64 (T.O i).off, .int .i64 (T.O i).fl, .int .i64 0] 109) := ⟨_, rfl⟩
  have hB2 : Below W1.heap.size W1 W2 := by rw [g2]; exact one_new _ _
  have hrow : W2.heap[W1.heap.size]? = some (.cells #[.int .i64 (T.O i).k, .int .i64 (T.O i).of, .int .i64 (T.O i).off, .int .i64 (T.O i).fl, .int .i64 0] 109 (0, 0)) := by rw [g2]; exact heap_alloc_new _ _
  have hZ : W1.heap.size < W2.heap.size := by rw [g2]; simp
  have hs2 := hs1.grow hB2
  have gf2 : Gf W2 g (updF T.O i { T.O i with h := 0 }) := hs2.gf
  have b0 := gf2.c0 i hi
  have b1 := gf2.c1 i hi
  have b2 := gf2.c2 i hi
  have b3 := gf2.c3 i hi
  have b4 := gf2.c4 i hi
  have bl := hs2.cl
  have z0 := hs2.gf.fz (i * 5)
  have z1 := hs2.gf.fz (i * 5 + 1)
  have z2 := hs2.gf.fz (i * 5 + 2)
  have z3 := hs2.gf.fz (i * 5 + 3)
  have z4 := hs2.gf.fz (i * 5 + 4)
  rw [updF_same] at b0 b1 b2 b3 b4
  obtain ⟨W3, g3⟩ : ∃ W3, W3 = ((((W2.setCell ⟨g, i * 5, none⟩ (.int .i64 0)).setCell ⟨g, i * 5 + 1, none⟩ (.int .i64 0)).setCell ⟨g, i * 5 + 2, none⟩ (.int .i64 0)).setCell ⟨g, i * 5 + 3, none⟩ (.int .i64 0)).setCell ⟨g, i * 5 + 4, none⟩ (.int .i64 0) := ⟨_, rfl⟩
  have e3 : W3 = W2.setCells g (i * 5) (flC noFl) := g3
  have u3 : Upd (· = g) W2 W3 := by rw [e3]; exact upd_setCells g _ _ W2
  have hs3 : Rs W3 x g s q Dn Dp (T.at_ i noFl) := by
    have := hs2.fil (by rw [e3]; exact hs2.gf.put i hi noFl) u3
    rw [show ({ ({ T with O := updF T.O i { T.O i with h := 0 } } : Ft) with O := updF ({ T with O := updF T.O i { T.O i with h := 0 } } : Ft).O i noFl } : Ft) = T.at_ i noFl from Ft.set_set T i _ noFl] at this
    exact this
  have hu13 : Upd (RFoot x g Dn Dp) w W3 := (u1.trans (Upd.of_below (F := RFoot x g Dn Dp) hB2) (fun _ _ h => h)).trans u3 (fun b _ e => .inr (.inl e))
  have hsz : w.heap.size = W1.heap.size := by rw [g1]; simp
  obtain ⟨lbk, glb⟩ : ∃ lbk, lbk = W1.heap.size := ⟨_, rfl⟩
  have hgl := hs1.gf.lt
  have hxl1 := hs1.xlt
  have hl3 : lbk < W3.heap.size := Nat.lt_of_lt_of_le (by omega) u3.size
  have hrow3 := u3.heap hrow (by omega)
  rw [← glb] at hrow3
  have l0 : W3.cell? ⟨lbk, 0, none⟩ = some (.int .i64 (T.O i).k) := by rw [cell_of_row _ _ 0 _ _ _ hrow3]; rfl
  have l1 : W3.cell? ⟨lbk, 1, none⟩ = some (.int .i64 (T.O i).of) := by rw [cell_of_row _ _ 1 _ _ _ hrow3]; rfl
  have hlw : ∀ b, RFoot x g Dn Dp b → b < lbk := fun b hb => by
    rw [glb, ← hsz]
    rcases hb with rfl | rfl | e | e
    · exact H.xlt
    · exact H.gf.lt
    · exact H.ln b e
    · exact H.lp b e
  have ys := hs3.cs
  have yq := hs3.cq
  have HGB : Hid (lbk = w.heap.size) := hid (glb.trans hsz.symm)
  by_cases hk : (T.O i).k = 1
  · rw [if_pos hk]
    obtain ⟨m, hm, hth⟩ := hT.nodeD i hi h0 hk
    have HN : Hid (∀ X, Below W3.heap.size W3 X → Calls Tryz.prog 101 #[.pointer (some ⟨s, 0, none⟩), .int .i64 (T.O i).of] X fun e w' => (∃ z, e = .returned (.int .i64 z)) ∧ Hid (TdTo w x { T with F := (T.F.drop (T.O i).of).1, O := updF T.O i noFl } D w' ∧ w'.cell? ⟨x, 1, none⟩ = some (.pointer (some ⟨s, 0, none⟩)) ∧ w'.cell? ⟨lbk, 1, none⟩ = some (.int .i64 (T.O i).of))) := by
      refine hid (fun X hX => ?_)
      have hSX := hs3.grow hX
      refine (hSX.drop hT.F (T.O i).of).mono ?_
      rintro e w' ⟨rfl, h⟩
      have hr := hSX.sys h (drop_d _ _)
      refine ⟨⟨_, rfl⟩, hid ⟨?_, hr.cs, ?_⟩⟩
      · exact TdTo.of hr hD (fun b hb => hb.1.imp id (fun h => Nat.le_trans (Nat.le_trans hu13.size hX.size) h)) (fun b hb => .inl hb) ((hu13.trans (Upd.of_below (F := RFoot x g Dn Dp) hX) (fun _ _ h => h)).trans h.2 (fun b _ hb => .inr (.inr (.inl hb))))
      · have hb := h.2.block lbk (Nat.lt_of_lt_of_le hl3 hX.size) (fun e => by have := hlw lbk (.inr (.inr (.inl e))); omega)
        exact (World.cell?_of_block (a := ⟨lbk, 1, none⟩) hb).trans ((hX.cell (p := ⟨lbk, 1, none⟩) hl3).trans l1)
    dsimp only
    clear H hD HP0 hT hh h0 hs1 hs2 hs3 u1 u3 hu13 hB2 hrow hrow3 hlw e3 hsz hgl hxl1 hm hth hle h9 hZ glb gf1 gf2
    generalize ({ T with F := (T.F.drop (T.O i).of).1, O := updF T.O i noFl } : Ft) = T' at HN ⊢
    rw [hk] at a0 b0 g2 l0
    generalize (T.O i).of = of at a1 b1 g2 l1 HN
    generalize (T.O i).off = off at a2 b2 g2
    generalize (T.O i).fl = fl at a3 b3 g2
    have m0 := b0
    have m1 := b1
    have m2 := b2
    have m3 := b3
    have m4 := b4
    go_enter Tryz.func77, Tryz.ntmps77
    go_wp2_with fail
    refine k0.out.mono ?_
    rintro e w1 ⟨rfl, rfl⟩
    clear k0
    rw [g1] at a0 a1 a2 a3 a4 al
    rw [g2, g1] at b0 b1 b2 b3 b4 bl z0 z1 z2 z3 z4
    go_wp2_with (refine wpList_build_is rfl 109 #[] rfl _ (by simpa [Act.eval] using builtFl0) ?_)
    rw [← g1, ← g2, ← g3, ← HGB.out]
    clear g1 g2 g3 a0 a1 a2 a3 a4 al b0 b1 b2 b3 b4 bl z0 z1 z2 z3 z4 m0 m1 m2 m3 m4 cl c4 f4
    go_region_held3 (fun V => V.cell? ⟨x, 1, none⟩ = some (.pointer (some ⟨s, 0, none⟩)) ∧ V.cell? ⟨lbk, 1, none⟩ = some (.int .i64 of)) (go_keep) ((go_at_call 101; refine (HN.out _ (Below.refl _ _).drew).mono ?_; rintro e w9 ⟨⟨z, rfl⟩, H9⟩; obtain ⟨h5, y8, y9⟩ := H9.out))
    have HQ := hid h5
    clear h5 H9 HN
    go_wp2_with fail
    go_ret
    exact ⟨rfl, HQ.out⟩
  · rw [if_neg hk]
    have PDR : ∀ X, Below W3.heap.size W3 X → Calls Tryz.prog 102 #[.pointer (some ⟨q, 0, none⟩), .int .i64 (T.O i).of, .bool (decide ((T.O i).k = 3))] X fun e w' => e = .returned (.int .i64 (Pi.dropE T.P (T.O i).of (decide ((T.O i).k = 3)))) ∧ PdTo X q T.F.d (Pi.dropP T.kp T.P (T.O i).of (decide ((T.O i).k = 3))) Dp w' := by
      intro X hX
      obtain ⟨B, gq, A, hR, hDq⟩ := (hs3.grow hX).pd
      refine (Pi.rdrop_any B q gq (T.O i).of T.F.d (decide ((T.O i).k = 3)) A T.P X hR (fun i _ => hT.r1 i)).mono ?_
      rintro e w' ⟨rfl, h, u⟩
      exact ⟨rfl, PdTo.own hDq h u⟩
    have HN : Hid (∀ X, Below W3.heap.size W3 X → Calls Tryz.prog 102 #[.pointer (some ⟨q, 0, none⟩), .int .i64 (T.O i).of, .bool (decide ((T.O i).k = 3))] X fun e w' => (∃ z, e = .returned (.int .i64 z)) ∧ Hid (TdTo w x { T with P := Pi.dropP T.kp T.P (T.O i).of (decide ((T.O i).k = 3)), O := updF T.O i noFl } D w' ∧ w'.cell? ⟨x, 2, none⟩ = some (.pointer (some ⟨q, 0, none⟩)) ∧ w'.cell? ⟨lbk, 1, none⟩ = some (.int .i64 (T.O i).of) ∧ w'.cell? ⟨lbk, 0, none⟩ = some (.int .i64 (T.O i).k))) := by
      refine hid (fun X hX => ?_)
      have hSX := hs3.grow hX
      refine (PDR X hX).mono ?_
      rintro e w' ⟨rfl, h⟩
      have hr := hSX.pip h
      have hb := h.2.block lbk (Nat.lt_of_lt_of_le hl3 hX.size) (fun e => by have := hlw lbk (.inr (.inr (.inr e))); omega)
      refine ⟨⟨_, rfl⟩, hid ⟨?_, hr.cq, ?_, ?_⟩⟩
      · exact TdTo.of hr hD (fun b hb => .inl hb) (fun b hb => hb.1.imp id (fun h => Nat.le_trans (Nat.le_trans hu13.size hX.size) h)) ((hu13.trans (Upd.of_below (F := RFoot x g Dn Dp) hX) (fun _ _ h => h)).trans h.2 (fun b _ hb => .inr (.inr (.inr hb))))
      · exact (World.cell?_of_block (a := ⟨lbk, 1, none⟩) hb).trans ((hX.cell (p := ⟨lbk, 1, none⟩) hl3).trans l1)
      · exact (World.cell?_of_block (a := ⟨lbk, 0, none⟩) hb).trans ((hX.cell (p := ⟨lbk, 0, none⟩) hl3).trans l0)
    dsimp only
    clear H hD HP0 hT hh h0 hs1 hs2 hs3 u1 u3 hu13 hB2 hrow hrow3 hlw e3 hsz hgl hxl1 PDR hle h9 hZ glb gf1 gf2
    generalize ({ T with P := Pi.dropP T.kp T.P (T.O i).of (decide ((T.O i).k = 3)), O := updF T.O i noFl } : Ft) = T' at HN ⊢
    have hk' : ¬ (T.O i).k = 1 := hk
    clear hk
    generalize (T.O i).k = k at a0 b0 g2 l0 HN hk'
    generalize (T.O i).of = of at a1 b1 g2 l1 HN
    generalize (T.O i).off = off at a2 b2 g2
    generalize (T.O i).fl = fl at a3 b3 g2
    have m0 := b0
    have m1 := b1
    have m2 := b2
    have m3 := b3
    have m4 := b4
    go_enter Tryz.func77, Tryz.ntmps77
    go_wp2_with fail
    refine k0.out.mono ?_
    rintro e w1 ⟨rfl, rfl⟩
    clear k0
    rw [g1] at a0 a1 a2 a3 a4 al
    rw [g2, g1] at b0 b1 b2 b3 b4 bl z0 z1 z2 z3 z4
    go_wp2_with (refine wpList_build_is rfl 109 #[] rfl _ (by simpa [Act.eval] using builtFl0) ?_)
    rw [← g1, ← g2, ← g3, ← HGB.out]
    clear g1 g2 g3 a0 a1 a2 a3 a4 al b0 b1 b2 b3 b4 bl z0 z1 z2 z3 z4 m0 m1 m2 m3 m4 cl c4 f4
    go_region_held3 (fun V => V.cell? ⟨x, 2, none⟩ = some (.pointer (some ⟨q, 0, none⟩)) ∧ V.cell? ⟨lbk, 1, none⟩ = some (.int .i64 of) ∧ V.cell? ⟨lbk, 0, none⟩ = some (.int .i64 k)) (go_keep) ((go_at_call 102; refine (HN.out _ (Below.refl _ _).drew).mono ?_; rintro e w9 ⟨⟨z, rfl⟩, H9⟩; obtain ⟨h5, y8, y9, y10⟩ := H9.out))
    have HQ := hid h5
    clear h5 H9 HN
    go_wp2_with fail
    go_ret
    exact ⟨rfl, HQ.out⟩

end Go.Proofs.YtbglhmcahnkbfaaGreat

/- What Name, Truncate, Stat, Look of the document's open files do. (Written by gen_td7.py.) -/
namespace Go.Proofs.YtbglhmcahnkbfaaGreat
open Go.RowKit Go.ChangeMaps Go.MapKept
set_option linter.unusedVariables false
set_option maxRecDepth 20000

set_option maxHeartbeats 4000000 in
theorem tdlook (w : World) (x : Nat) (T : Ft) (D : Nat → Prop) (HP : Td w x T D) (hT : TOk T) :
    Calls Tryz.prog 43 #[.pointer (some ⟨x, 0, none⟩)] w fun e w' => (∃ v, e = .returned v ∧ w'.ownsRow w.heap.size 46 6 v (oiN T.O 11) (oiL T.O 11)) ∧ Below w.heap.size w w' := by
  obtain ⟨g, s, q, Dn, Dp, H, hD⟩ := HP
  obtain ⟨i0, hi0, hz0, hz1, hz2⟩ := info_parts infoOI
  have cl := H.cl
  have HK := hid hT.k0
  have hgl := H.gf.lt
  obtain ⟨O0, gO⟩ : ∃ O0, O0 = T.O := ⟨_, rfl⟩
  rw [← gO] at HK ⊢
  have HC : Hid (∀ X, Below w.heap.size w X → ∀ j, j < 11 → X.cell? ⟨g, j * 5, none⟩ = some (.int .i64 (O0 j).k) ∧ X.cell? ⟨g, j * 5 + 1, none⟩ = some (.int .i64 (O0 j).of) ∧ X.cell? ⟨g, j * 5 + 2, none⟩ = some (.int .i64 (O0 j).off) ∧ X.cell? ⟨g, j * 5 + 3, none⟩ = some (.int .i64 (O0 j).fl) ∧ X.cell? ⟨g, j * 5 + 4, none⟩ = some (.int .i64 (O0 j).h)) := by
    rw [gO]
    exact hid (fun X hX j hj => ⟨(H.grow hX).gf.c0 j hj, (H.grow hX).gf.c1 j hj, (H.grow hX).gf.c2 j hj, (H.grow hX).gf.c3 j hj, (H.grow hX).gf.c4 j hj⟩)
  clear H gO hD hT
  go_enter Tryz.func43, Tryz.ntmps43
  go_wp2_with fail
  rename World => w1
  go_loopw [3, 11] (fun v k wr => ∃ (j : Nat) (a : Option Addr) (c : Nat), j ≤ 11 ∧ k = .int .i64 (j : Int) ∧ v = .slice a (oiN O0 j) c ∧ Hid (wr.ownsRow w1.heap.size 46 6 (.slice a (oiN O0 j) c) (oiN O0 j) (oiL O0 j)) ∧ Hid (Below w1.heap.size w1 wr)) (fun _ k _ => 11 - (intOf k).toNat)
  case atStart => exact ⟨0, none, 0, by omega, rfl, rfl, hid (World.ownsRow_nil _ _ _ _), hid (Below.refl _ _)⟩
  case round =>
    obtain ⟨j, a, c, hj5, rfl, rfl, HO, HB⟩ := hrel
    by_cases e : j = 11
    · subst e
      go_wp2_with fail
      go_ret
      exact ⟨⟨_, rfl, HO.out⟩, HB.out⟩
    · have hj : j < 11 := by omega
      obtain ⟨c0, c1, c2, c3, c4⟩ := HC.out _ HB.out j hj
      have hj6 : (j : Int) < 11 := by omega
      have hj7 : (0 : Int) ≤ (j : Int) := by omega
      have hkk := HK.out j
      have hcl := oiN_le O0 j
      have HN : Hid ((O0 j).h = 0 → oiL O0 (j + 1) = oiL O0 j ∧ oiN O0 (j + 1) = oiN O0 j) := hid (fun e => ⟨by rw [oiL, if_pos e], by rw [oiN, if_pos e]⟩)
      have HY : Hid ((O0 j).h ≠ 0 → oiL O0 (j + 1) = oiL O0 j ++ oiV j (O0 j) ∧ oiN O0 (j + 1) = oiN O0 j + 1) := hid (fun e => ⟨by rw [oiL, if_neg e], by rw [oiN, if_neg e]⟩)
      rename World => wr
      have hX := (Below.refl wr.heap.size wr).alloc (Nat.le_refl _) (.cells #[.int .i64 (O0 j).k, .int .i64 (O0 j).of, .int .i64 (O0 j).off, .int .i64 (O0 j).fl, .int .i64 (O0 j).h] 109)
      have HB2 : Hid (Below w1.heap.size w1 (wr.alloc (.cells #[.int .i64 (O0 j).k, .int .i64 (O0 j).of, .int .i64 (O0 j).off, .int .i64 (O0 j).fl, .int .i64 (O0 j).h] 109))) := hid (HB.out.trans (hX.mono HB.out.size))
      have HO2 : Hid ((wr.alloc (.cells #[.int .i64 (O0 j).k, .int .i64 (O0 j).of, .int .i64 (O0 j).off, .int .i64 (O0 j).fl, .int .i64 (O0 j).h] 109)).ownsRow w1.heap.size 46 6 (.slice a (oiN O0 j) c) (oiN O0 j) (oiL O0 j)) := hid ((Upd.of_below (F := fun _ => False) hX).own HO.out (fun _ _ h => h))
      clear hX HO HB e
      by_cases hh : (O0 j).h = 0
      · obtain ⟨e1, e2⟩ := HN.out hh
        have HO3 := HO2
        rw [← e1, ← e2] at HO3
        have hk0 := hkk.2 hh
        have E2 := hid e2
        have HK0 := hid hk0
        rw [hk0] at c0 HO3 HB2
        clear HN HY e1 e2 hh hkk hk0
        go_wp2_with fail
        go_roundw
        case rel => exact ⟨j + 1, a, c, by omega, by go_num, by rw [E2.out], HO3, HB2⟩
        case measure => simp [intOf]; omega
      · obtain ⟨e1, e2⟩ := HY.out hh
        have E1 := hid e1
        have E2 := hid e2
        have hk0 : ¬ (O0 j).k = 0 := fun e => hh (hkk.1 e)
        have E3 : Hid (oiV j (O0 j) = [.int .i64 (j : Int), .int .i64 (O0 j).k, .int .i64 (O0 j).of, .int .i64 (O0 j).off, .int .i64 (O0 j).fl, .int .i64 (O0 j).h]) := hid rfl
        clear HN HY e1 e2 hh hkk
        generalize (O0 j).k = fk at c0 HB2 HO2 E3 hk0
        generalize (O0 j).of = fo at c1 HB2 HO2 E3
        generalize (O0 j).off = ff at c2 HB2 HO2 E3
        generalize (O0 j).fl = fg at c3 HB2 HO2 E3
        generalize (O0 j).h = fh at c4 HB2 HO2 E3
        rw [E3.out] at E1
        generalize oiN O0 j = nn at HO2 E2 hcl ⊢
        generalize oiL O0 j = ll at HO2 E1
        go_wp2_with (at_builtin; go_must (refine wpList_append_own _ rfl (.tmp 19) (.tmp 32) 43 rfl w1.heap.size 46 i0 _ 6 48 Tryz.underlying43 hi0 hz0 hz1 hz2 rfl (by decide) _ nn ll rfl (HO2.out.alloc _) ⟨_, 0, none⟩ 1 1 [.int .i64 (j : Int), .int .i64 fk, .int .i64 fo, .int .i64 ff, .int .i64 fg, .int .i64 fh] rfl rfl (cells_new _ _ _ _ (by simp)) (by simp [Value.oneCell']) (by unfold maxLen; omega) (by omega) (by have := HB2.out.size; simp at this ⊢; omega) ?_))
        intro v' w6 hO6 hG6 hN6
        obtain ⟨va, vc, rfl, _⟩ := own_shp hO6
        have HB6 : Hid (Below w1.heap.size w1 w6) := hid ((HB2.out.alloc HB2.out.size _).grown hG6 (by have := HB2.out.size; simp at this ⊢; omega) (fun x hx => (HO2.out.lt x hx).1))
        have HO6 : Hid (w6.ownsRow w1.heap.size 46 6 (.slice va (nn + 1) vc) (nn + 1) (oiL O0 (j + 1))) := hid (by rw [E1.out]; exact hO6)
        clear hO6 hG6 hN6 HO2 HB2
        go_wp2_with fail
        go_roundw
        case rel => exact ⟨j + 1, va, vc, by omega, by go_num, by rw [E2.out], by rw [E2.out]; exact HO6, HB6⟩
        case measure => simp [intOf]; omega

end Go.Proofs.YtbglhmcahnkbfaaGreat
