/- Texts of this seat, merged. -/
import Derived.Test.YtbglhmcahnkbfaaGreatGMg31
import Derived.Deep.DeepCutAuto
import Derived.Deep.CutBlock

/- The document's Resize. (Written by gen_rf20.py.) -/
namespace Go.Proofs.YtbglhmcahnkbfaaGreat
open Go.RowKit
set_option linter.unusedVariables false
set_option maxRecDepth 20000

/-- What the document's Resize makes of a file. -/
def rszF (F : Fs) (n z : Nat) : Fs :=
  ((((F.grow n z).ct n (((F.P n).c ++ List.replicate (z - (F.P n).c.length) 0).take z)).relB (((F.grow n z).P n).B.drop (Fs.need z)))).at_ n { (F.grow n z).P n with c := ((F.P n).c ++ List.replicate (z - (F.P n).c.length) 0).take z, B := ((F.grow n z).P n).B.take (Fs.need z) }
theorem grow_B (F : Fs) (n s : Nat) : ((F.grow n s).P n).B = (F.P n).B ++ F.frees.take (Fs.need s - (F.P n).B.length) := by
  unfold Fs.grow Fs.at_
  simp
theorem grow_Bl {F : Fs} (hF : FOk F) (n s : Nat) (hf : F.fits n s = true) : ((F.grow n s).P n).B.length = max (F.P n).B.length (Fs.need s) := by
  rw [grow_B, List.length_append, List.length_take]
  simp only [Fs.fits, decide_eq_true_eq] at hf
  omega
theorem grow_none (F : Fs) (n s : Nat) (h : Fs.need s ≤ (F.P n).B.length) : F.grow n s = F := by
  rw [grow_K, show Fs.need s - (F.P n).B.length = 0 by omega, growK_0]
theorem rsz_is {F : Fs} (hF : FOk F) (n z : Nat) (hf : F.fits n z = true) : rszF F n z = if z < (F.P n).c.length then (F.relB ((F.P n).B.drop (Fs.need z))).at_ n { F.P n with c := (F.P n).c.take z, B := (F.P n).B.take (Fs.need z) } else (F.grow n z).ct n ((F.P n).c ++ List.replicate (z - (F.P n).c.length) 0) := by
  have hB := hF.B n
  split
  · rename_i h
    have hg : F.grow n z = F := grow_none F n z (by rw [hB]; unfold Fs.need; omega)
    unfold rszF Fs.ct
    rw [hg, show z - (F.P n).c.length = 0 by omega, List.replicate_zero, List.append_nil, relB_lnk, Fs.at_at]
  · rename_i h
    have hl := grow_Bl hF n z hf
    have hd : ((F.grow n z).P n).B.length ≤ Fs.need z := by rw [hl, hB]; unfold Fs.need; omega
    unfold rszF
    rw [List.drop_of_length_le hd, List.take_of_length_le hd, relB_nil, List.take_of_length_le (by simp; omega)]
    unfold Fs.ct
    rw [Fs.at_at]

set_option maxHeartbeats 4000000 in
theorem rresize_no (x g u : Nat) (V : Nat → Value) (F : Fs) (w : World) (H : Rf w x g u V F) (n z : Int) (h : F.file n ≠ 0 ∨ z < 0 ∨ 96 < z) (hz : z ≤ 9223372036854775807) :
    Calls Tryz.prog 97 #[.pointer (some ⟨x, 0, none⟩), .int .i64 n, .int .i64 z] w fun e w' => e = .returned (.int .i64 (F.resize n z).2) ∧ (F.resize n z).1 = F ∧ Below w.heap.size w w' := by
  have k1 := hid (rfile_any x g u V F w H n)
  obtain ⟨R, gR⟩ : ∃ R, R = F.resize n z := ⟨_, rfl⟩
  rw [← gR]
  obtain ⟨E, gE⟩ : ∃ E, E = F.file n := ⟨_, rfl⟩
  rw [← gE] at k1 h
  by_cases h1 : E ≠ 0
  · have e : Hid (R = (F, E)) := hid (by rw [gR]; unfold Fs.resize; rw [if_pos (by rw [← gE]; exact h1), ← gE])
    clear H gR gE h
    go_enter Tryz.func97, Tryz.ntmps97
    go_wp2_with fail
    refine k1.out.mono ?_
    rintro e w1 ⟨rfl, rfl⟩
    clear k1
    go_wp2_with fail
    go_ret
    rw [e.out]
    exact ⟨rfl, rfl, Below.refl _ _⟩
  obtain rfl : E = 0 := Decidable.not_not.1 h1
  have f0 : ¬ F.file n ≠ 0 := fun q => q gE.symm
  by_cases h2 : z < 0
  · have e : Hid (R = (F, 22)) := hid (by rw [gR]; unfold Fs.resize; rw [if_neg f0, if_pos h2])
    clear H gR gE h f0 h1
    go_enter Tryz.func97, Tryz.ntmps97
    go_wp2_with fail
    refine k1.out.mono ?_
    rintro e w1 ⟨rfl, rfl⟩
    clear k1
    go_wp2_with fail
    go_ret
    rw [e.out]
    exact ⟨rfl, rfl, Below.refl _ _⟩
  have h4 : 96 < z := by
    rcases h with q | q | q
    · exact absurd rfl q
    · exact absurd q h2
    · exact q
  have e : Hid (R = (F, 27)) := hid (by rw [gR]; unfold Fs.resize; rw [if_neg f0, if_neg h2, if_pos h4])
  clear H gR gE h f0 h1
  go_enter Tryz.func97, Tryz.ntmps97
  go_wp2_with fail
  refine k1.out.mono ?_
  rintro e w1 ⟨rfl, rfl⟩
  clear k1
  go_wp2_with fail
  go_ret
  rw [e.out]
  exact ⟨rfl, rfl, Below.refl _ _⟩

theorem own_takeR {w : World} {B e n c : Nat} {a : Option Addr} {xs : List Value} (m : Nat) (h : w.ownsRow B e 1 (.slice a n c) n xs) (hm : m ≤ n) : w.ownsRow B e 1 (.slice a m c) m (xs.take m) := by
  obtain ⟨h1, h2⟩ := h
  refine ⟨by simp at h1 ⊢; omega, ?_⟩
  rcases h2 with ⟨q1, q2⟩ | ⟨g, cap, cur, q1, hb, hg, hnc, hcm, hcs, htake⟩
  · injection q1 with r1 r2 r3
    subst r1
    obtain rfl : m = 0 := by omega
    exact .inl ⟨by rw [r3], rfl⟩
  · injection q1 with r1 r2 r3
    subst r1 r3
    refine .inr ⟨g, c, cur, rfl, hb, hg, by omega, hcm, hcs, ?_⟩
    rw [← htake, List.take_take]
    congr 1
    omega

set_option maxHeartbeats 8000000 in
theorem rresize_ok (x g u : Nat) (V : Nat → Value) (F : Fs) (w : World) (H : Rf w x g u V F) (hF : FOk F) (i : Nat) (i1 : 1 ≤ i) (i2 : i < 17) (hf : F.file (i : Int) = 0) (z : Nat) (h96 : z ≤ 96) :
    Calls Tryz.prog 97 #[.pointer (some ⟨x, 0, none⟩), .int .i64 (i : Int), .int .i64 (z : Int)] w fun e w' => e = .returned (.int .i64 (F.resize (i : Int) (z : Int)).2) ∧ RfTo w x g u V (F.resize (i : Int) (z : Int)).1 w' := by
  have k1 := hid (rfile_any x g u V F w H (i : Int))
  rw [hf] at k1
  have k2 := hid (rgrow_any x g u V F w H hF i z i2 h96)
  have hL96 := (hF.c i).1
  obtain ⟨C, gC⟩ : ∃ C, C = (F.P i).c := ⟨_, rfl⟩
  obtain ⟨L, gL⟩ : ∃ L, L = C.length := ⟨_, rfl⟩
  rw [← gC, ← gL] at hL96
  obtain ⟨R, gR⟩ : ∃ R, R = F.resize (i : Int) (z : Int) := ⟨_, rfl⟩
  have HR : Hid (R = if F.fits i z = false then (F, 28) else (rszF F i z, 0)) := hid (by
    rw [gR]
    unfold Fs.resize
    rw [if_neg (fun q => q hf), if_neg (by omega), if_neg (by omega)]
    rw [show ((i : Int)).toNat = i by omega, show ((z : Int)).toNat = z by omega]
    by_cases hz : z < (F.P i).c.length
    · have hfit : F.fits i z = true := by
        have hB := hF.B i
        unfold Fs.fits
        rw [show Fs.need z - (F.P i).B.length = 0 by rw [hB]; unfold Fs.need; omega]
        simp
      rw [if_pos hz, if_neg (by rw [hfit]; simp), rsz_is hF i z hfit, if_pos hz]
    · rw [if_neg hz]
      by_cases hfit : F.fits i z = false
      · rw [if_pos hfit, if_pos hfit]
      · rw [if_neg hfit, if_neg hfit, rsz_is hF i z (by simpa using hfit), if_neg hz])
  rw [← gR]
  have HH := hid H
  have n0 : (0 : Int) ≤ (i : Int) := by omega
  have n1 : (i : Int) < 17 := by omega
  have j1 : ¬ (z : Int) < 0 := by omega
  have j2 : ¬ (96 : Int) < (z : Int) := by omega
  have GC := hid gC
  have GL := hid gL
  have HF := hid hF
  clear H hf gR gC gL
  by_cases hfit : F.fits i z = false
  · rw [if_neg (by rw [hfit]; simp), if_neg (by rw [hfit]; simp)] at k2
    have HR2 : Hid (R = (F, 28)) := hid (by rw [HR.out, if_pos hfit])
    clear HR hfit hF
    go_enter Tryz.func97, Tryz.ntmps97
    go_wp2_with fail
    refine k1.out.mono ?_
    rintro e w1 ⟨rfl, rfl⟩
    clear k1
    go_wp2_with fail
    refine k2.out.mono ?_
    rintro e w2 ⟨rfl, hT⟩
    have HT := hid hT
    clear k2 hT
    go_wp2_with fail
    go_ret
    rw [HR2.out]
    exact ⟨rfl, HT.out⟩
  have hfit : F.fits i z = true := by simpa using hfit
  rw [if_pos hfit, if_pos hfit] at k2
  have HR2 : Hid (R = (rszF F i z, 0)) := hid (by rw [HR.out, if_neg (by rw [hfit]; simp)])
  have hBl := grow_Bl hF i z hfit
  have hB0 := hF.B i
  have hB25 : Hid (∀ b ∈ ((F.grow i z).P i).B, b < 25) := hid (fun b hb => by
    rw [grow_B] at hb
    rcases List.mem_append.1 hb with q | q
    · exact (hF.T i b q).2.1
    · exact (Fs.mem_frees.1 (List.mem_of_mem_take q)).2.1)
  obtain ⟨nd, gnd⟩ : ∃ nd, nd = Fs.need z := ⟨_, rfl⟩
  obtain ⟨LB, gLB⟩ : ∃ LB, LB = ((F.grow i z).P i).B.length := ⟨_, rfl⟩
  have hnd : nd ≤ LB := by rw [gLB, hBl, gnd]; exact Nat.le_max_right _ _
  have hLB6 : LB ≤ 6 := by rw [gLB, hBl, hB0]; have := (hF.c i).1; unfold Fs.need; omega
  have hq : ((z : Int) + 15).tdiv 16 = (nd : Int) := by rw [gnd, Int.tdiv_eq_ediv_of_nonneg (by omega)]; unfold Fs.need; omega
  have hwq : IntKind.i64.wrap ((z : Int) + 15) = (z : Int) + 15 := by rw [IntKind.wrap_i64]; omega
  have hwq2 : IntKind.i64.wrap (nd : Int) = (nd : Int) := by rw [IntKind.wrap_i64]; omega
  have GND := hid gnd
  have GLB := hid gLB
  clear HR hfit hBl hB0 gnd gLB hF
  go_enter Tryz.func97, Tryz.ntmps97
  go_wp2_with fail
  refine k1.out.mono ?_
  rintro e w1 ⟨rfl, rfl⟩
  clear k1
  go_wp2_with fail
  refine k2.out.mono ?_
  rintro e w2 ⟨rfl, V1, hT⟩
  have HT := hid hT
  have H2 := hid hT.1
  clear k2 hT
  have c0 := H2.out.c0
  have c4 := H2.out.b i i2
  have hrow := H2.out.rb i i2
  rw [grow_c, ← GC.out, ← GL.out] at hrow
  obtain ⟨ra, rc, eV, hLc, hcm, _⟩ := own_shp hrow
  rw [eV] at c4 hrow
  have hnil : Hid (ra = none → rc = 0) := hid (fun q => by
    subst q
    rcases hrow.2 with ⟨e, _⟩ | ⟨_, _, _, e, _⟩
    · injection e
    · injection e with e1; cases e1)
  have HS : Hid (Src w2 ra L C) := hid (by
    cases ra with
    | none =>
      obtain rfl := hnil.out rfl
      refine ⟨GL.out.symm, fun h => by omega⟩
    | some ad =>
      rcases hrow.2 with ⟨e, _⟩ | ⟨q, _, _, e, _⟩
      · cases e
      · injection e with e1 _ e3
        injection e1 with e1
        subst e1 e3
        exact Src.own hrow)
  have hmx : max (0 : Int) ((z : Int) - (L : Int)) = ((z - L : Nat) : Int) := by omega
  have hw3 : IntKind.i64.wrap ((z : Int) - (L : Int)) = (z : Int) - (L : Int) := by rw [IntKind.wrap_i64]; omega
  have HX : Hid (∀ W, Below w2.heap.size w2 W → W.cell? ⟨x, 0, none⟩ = some (.slice (some ⟨g, 0, none⟩) 17 17) ∧ W.cell? ⟨g, i * 6 + 3, none⟩ = some (.slice ra L rc)) := hid (fun W hb => ⟨(H2.out.grow hb).c0, by have := (H2.out.grow hb).b i i2; rw [eV] at this; exact this⟩)
  obtain ⟨M, gM⟩ : ∃ M, M = L + (z - L) := ⟨_, rfl⟩
  have hzM : z ≤ M := by omega
  have hM96 : M ≤ 192 := by omega
  have GM := hid gM
  have HO5 : Hid ((w2.alloc (.cells #[] 5)).drew.ownsRow w2.heap.size 5 1 (.slice (some ⟨w2.heap.size, 0, none⟩) 0 0) 0 []) := hid (own_empty w2 5)
  have HB5 : Hid (Below w2.heap.size w2 (w2.alloc (.cells #[] 5)).drew) := hid (alloc1 _ _).drew
  clear hrow eV gM
  go_upto_region 11 with fail
  go_cut [9] (fun v9 wx => ∃ vb vd, v9 = .slice vb M vd ∧ Hid (wx.ownsRow w2.heap.size 5 1 (.slice vb M vd) M (([] ++ C.map (Value.int .u8)) ++ List.replicate (z - L) (Value.int .u8 0))) ∧ Hid (Below w2.heap.size w2 wx))
  case first =>
    go_region_held3 (fun W => W.cell? ⟨x, 0, none⟩ = some (.slice (some ⟨g, 0, none⟩) 17 17) ∧ W.cell? ⟨g, i * 6 + 3, none⟩ = some (.slice ra L rc)) (first | (refine ⟨?_, ?_⟩ <;> assumption) | exact HX.out _ (alloc1 _ _).drew | exact HX.out _ HY1.out | exact HX.out _ HY2.out | go_keep) (first
      | (refine step_bytes (by rfl) _ _ (by rfl) (by rfl) w2.heap.size _ 0 [] (by first | (simp [Act.eval]; done) | (simp [Act.eval]; rfl)) HO5.out HB5.out.size ra L rc C (by first | (simp [Act.eval]; done) | (simp [Act.eval]; rfl)) (HS.out.below HB5.out) hnil.out (by omega) L (by omega) ?_; intro va vc w4 HO4 HB4; have HY1 : Hid (Below w2.heap.size w2 w4) := hid (HB5.out.trans HB4.out))
      | (refine step_zeros (by rfl) _ _ (by rfl) w2.heap.size _ _ _ (by first | (simp [Act.eval]; done) | (simp [Act.eval]; rfl)) HO4.out HY1.out.size (z - L) _ rfl (by first | (simp [Act.eval]; done) | (simp [Act.eval]; rfl)) (by omega) M GM.out ?_; intro vb vd w6 HO6 HB6; have HY2 : Hid (Below w2.heap.size w2 w6) := hid (HY1.out.trans HB6.out))
      | fail)
    all_goals
      go_wp2_with fail
      go_meet
      case rel => exact ⟨vb, vd, rfl, HO6, HY2⟩
  case rest =>
    clear c0 c4 HO5 HB5 HX hmx hw3 hnil HS
    obtain ⟨vb, vd, rfl, HO6, HY2⟩ := hcut
    obtain ⟨w6, gw6⟩ : ∃ w6, w6 = wc := ⟨_, rfl⟩
    rw [← gw6] at HO6 HY2 ⊢
    clear gw6
    obtain ⟨va', vc', eV', hsd, hdm, hcell'⟩ := own_shp HO6.out
    injection eV' with e1 _ e3
    subst e1 e3
    have hzd : (z : Int) ≤ (vd : Int) := by omega
    have hz0 : (0 : Int) ≤ (z : Int) := by omega
    have c0 := (H2.out.grow HY2.out).c0
    have c4 := (H2.out.grow HY2.out).b i i2
    have c5 := (H2.out.grow HY2.out).frz (i * 6 + 3)
    have HT7 : Hid (RfTo w2 x g u V1 ((F.grow i z).ct i ((C ++ List.replicate (z - L) 0).take z)) (w6.setCell ⟨g, i * 6 + 3, none⟩ (.slice vb z vd))) := hid (by
      refine H2.out.bytes i i2 _ _ HY2.out ?_
      have h := own_takeR z HO6.out hzM
      have e1 : ((C ++ List.replicate (z - L) 0).take z).length = z := by
        rw [List.length_take, List.length_append, List.length_replicate, ← GL.out]; omega
      rw [e1, List.map_take, List.map_append, List.map_replicate]
      rw [List.nil_append] at h
      exact h)
    clear hcell' hdm
    have hgx : (⟨g, i * 6 + 3, none⟩ : Addr).block ≠ (⟨x, 0, none⟩ : Addr).block := fun e => H2.out.ne.1 e.symm
    go_wp2_with fail
    go_region_held3 (fun W => W.cell? ⟨x, 0, none⟩ = some (.slice (some ⟨g, 0, none⟩) 17 17)) (first | assumption | exact (World.cell?_setCell_far _ _ _ _ hgx).trans (by assumption) | go_keep) (fail)
    clear c0 c4 c5
    obtain ⟨Fc, gFc⟩ : ∃ Fc, Fc = (F.grow i z).ct i ((C ++ List.replicate (z - L) 0).take z) := ⟨_, rfl⟩
    rw [← gFc] at HT7
    have HT7d : Hid (RfTo w2 x g u V1 Fc (w6.setCell ⟨g, i * 6 + 3, none⟩ (.slice vb z vd)).drew) := hid (by
      obtain ⟨V2, h1, h2, h3⟩ := HT7.out
      exact ⟨V2, h1.upd ((Upd.refl (fun _ => False) _).drewN 1) (fun _ _ h => h), h2.drewN 1, h3⟩)
    obtain ⟨w7, gw7⟩ : ∃ w7, w7 = (w6.setCell ⟨g, i * 6 + 3, none⟩ (.slice vb z vd)).drew := ⟨_, rfl⟩
    rw [← gw7] at HT7d ⊢
    obtain ⟨V2, h71, h72, h73⟩ := HT7d.out
    have H7 := hid h71
    have HT27 : Hid (Upd (RfFoot x g u V1) w2 w7 ∧ ∀ b, RfFoot x g u V2 b → RfFoot x g u V1 b ∨ w2.heap.size ≤ b) := hid ⟨h72, h73⟩
    have eB : (Fc.P i).B = ((F.grow i z).P i).B := by rw [gFc]; unfold Fs.ct; rw [Fs.at_self]
    have EB := hid eB
    have HFC : Hid (rszF F i z = (Fc.relB ((Fc.P i).B.drop nd)).at_ i { Fc.P i with B := (Fc.P i).B.take nd }) := hid (by
      rw [eB, GND.out]
      unfold rszF
      rw [← GC.out, ← GL.out, ← gFc]
      congr 1
      rw [gFc]; unfold Fs.ct; rw [Fs.at_self])
    have HB7 : Hid (∀ b ∈ (Fc.P i).B, b < 25) := hid (by rw [eB]; exact hB25.out)
    have hLB7 : LB = (Fc.P i).B.length := by rw [eB]; exact GLB.out
    obtain ⟨BB, gBB⟩ : ∃ BB, BB = (Fc.P i).B := ⟨_, rfl⟩
    rw [← gBB] at hLB7 HB7 HFC
    have GBB := hid gBB
    have HLB7 := hid hLB7
    have c0 := H7.out.c0
    have cB := H7.out.B i i2
    have hrB := H7.out.rB i i2
    rw [← gBB, ← hLB7] at hrB
    have d0 : (0 : Int) ≤ (nd : Int) := by omega
    have d1 : (nd : Int) ≤ (LB : Int) := by omega
    clear gw7 HT7 HT7d h71 h72 h73 gFc eB gBB hLB7 HY2 HO6 hzM hsd hzd
    go_upto_region 14 with fail
    go_cut [64] (fun v64 wx => Hid (Rf wx x g u V2 (Fc.relB (BB.drop nd)) ∧ Upd (· = u) w7 wx))
    case first =>
      rcases hrB.2 with ⟨e, hL0⟩ | ⟨q, c, cur, e, _, hq7, hLc, hcm7, _⟩
      · subst hL0
        obtain rfl : nd = 0 := by omega
        rw [e] at cB
        have k3 := hid (rfree_any x g u V2 Fc w7 H7.out none 0 0 [] rfl (by omega) (fun b hb => by simp at hb) (fun j h => by simp at h))
        have hBB0 : BB = [] := List.eq_nil_of_length_eq_zero HLB7.out.symm
        have HBB0 := hid hBB0
        clear e hrB hBB0
        go_wp2_with fail
        refine k3.out.mono ?_
        rintro e w8 ⟨rfl, h8, u8⟩
        have H8 := hid h8
        have U8 := hid u8
        clear k3 h8 u8
        go_wp2_with fail
        go_meet
        case rel => exact hid ⟨by rw [HBB0.out]; exact H8.out, U8.out⟩
      · rw [e] at cB hrB
        have b3 : (LB : Int) ≤ (c : Int) := by omega
        have hcells : Hid (∀ j, ∀ h : j < (BB.drop nd).length, q < w7.heap.size ∧ q ≠ u ∧ w7.cell? ⟨q, nd + j, none⟩ = some (.int .i64 ((BB.drop nd)[j] : Int))) := hid (fun j h => by
          have hj : nd + j < BB.length := by rw [List.length_drop] at h; omega
          refine ⟨(Array.getElem?_eq_some_iff.1 hq7).1, (H7.out.ng (i * 3 + 1) q (by omega) (by rw [e]; rfl)).2.2, ?_⟩
          rw [List.getElem_drop]
          have := (H7.out.blocks i i2)
          rw [← GBB.out] at this
          obtain ⟨a', c', e', _, _, h'⟩ := this
          rw [e] at e'
          injection e' with e1
          obtain ⟨q', o', e2, _, _, hc'⟩ := h' (nd + j) hj
          rw [← e1] at e2
          injection e2 with e2
          injection e2 with e3 e4
          subst e3 e4
          rw [Nat.zero_add] at hc'
          exact hc')
        have hbl : (BB.drop nd).length = LB - nd := by rw [List.length_drop, ← HLB7.out]
        have hb25 : ∀ b ∈ BB.drop nd, b < 25 := fun b hb => HB7.out b (List.mem_of_mem_drop hb)
        by_cases hcn : c = nd
        · have hz0 : LB - nd = 0 := by omega
          have HD0 : Hid (BB.drop nd = []) := hid (List.eq_nil_of_length_eq_zero (by rw [hbl]; exact hz0))
          have k3 : Hid (∀ a, Calls Tryz.prog 120 #[.pointer (some ⟨x, 0, none⟩), .slice a 0 0] w7 fun e w' => e = .returned (.tuple #[]) ∧ Rf w' x g u V2 (Fc.relB []) ∧ Upd (· = u) w7 w') := hid (fun a => rfree_any x g u V2 Fc w7 H7.out a 0 0 [] rfl (by omega) (fun b hb => by simp at hb) (fun j h => by simp at h))
          clear e hrB hcells hbl hb25 hq7
          go_wp2_with fail
          refine (k3.out _).mono ?_
          rintro e w8 ⟨rfl, h8, u8⟩
          have H8 := hid h8
          have U8 := hid u8
          clear k3 h8 u8
          go_wp2_with fail
          go_meet
          case rel => exact hid ⟨by rw [HD0.out]; exact H8.out, U8.out⟩
        · have k3 := hid (rfree_any x g u V2 Fc w7 H7.out (some ⟨q, nd, none⟩) (LB - nd) (c - nd) (BB.drop nd) hbl (by omega) hb25 (fun j h => ⟨q, nd, rfl, hcells.out j h⟩))
          clear e hrB hcells hbl hb25 hq7
          go_wp2_with fail
          refine k3.out.mono ?_
          rintro e w8 ⟨rfl, h8, u8⟩
          have H8 := hid h8
          have U8 := hid u8
          clear k3 h8 u8
          go_wp2_with fail
          go_meet
          case rel => exact hid ⟨H8.out, U8.out⟩
    case rest =>
      obtain ⟨w8, gw8⟩ : ∃ w8, w8 = wc := ⟨_, rfl⟩
      rw [← gw8] at hcut ⊢
      clear gw8
      have H8 := hid hcut.out.1
      have U8 := hid hcut.out.2
      have hcc := hcut
      clear c0 cB hrB hcut hcc
      have c0 := H8.out.c0
      have cB := H8.out.B i i2
      have hrB := H8.out.rB i i2
      rw [relB_P, ← GBB.out, ← HLB7.out] at hrB
      obtain ⟨ba, bc, eb, hbc, hbm, hbcell⟩ := own_shp hrB
      rw [eb] at cB hrB
      have hnil9 : Hid (ba = none → bc = 0) := hid (fun q => by
        subst q
        rcases hrB.2 with ⟨e, _⟩ | ⟨_, _, _, e, _⟩
        · injection e
        · injection e with e1; cases e1)
      have hlt9 : (BB.take nd).length = nd := by rw [List.length_take, ← HLB7.out]; omega
      have HSN : Hid (SrcN w8 ba nd (BB.take nd)) := hid ⟨hlt9, fun h0 => by
        obtain ⟨q, e, _, hq, hc⟩ := hbcell (by omega)
        refine ⟨q, 0, e, hq, fun j hj => ?_⟩
        rw [hlt9] at hj
        rw [Nat.zero_add]
        refine hc j _ ?_
        rw [List.getElem?_map, List.getElem_take, List.getElem?_eq_getElem (by have := HLB7.out; omega)]
        rfl⟩
      have hgl : g < w8.heap.size := H8.out.lts.2.1
      have hgx : (⟨g, i * 6 + 4, none⟩ : Addr).block ≠ (⟨x, 0, none⟩ : Addr).block := fun e => H8.out.ne.1 e.symm
      have HSS : Hid (∀ W : World, Below w8.heap.size w8 W → W.cell? ⟨x, 0, none⟩ = some (.slice (some ⟨g, 0, none⟩) 17 17)) := hid (fun W hb => (H8.out.grow hb).c0)
      have HO9 : Hid ((w8.alloc (.cells #[] 3)).drew.ownsRow w8.heap.size 3 1 (.slice (some ⟨w8.heap.size, 0, none⟩) 0 0) 0 []) := hid (own_empty w8 3)
      have HB9 : Hid (Below w8.heap.size w8 (w8.alloc (.cells #[] 3)).drew) := hid (alloc1 _ _).drew
      have b9 : (nd : Int) ≤ (bc : Int) := by omega
      clear hbcell hrB eb hbm
      go_wp2_with fail
      refine wp_region_held_drew (S := (fun W : World => W.cell? ⟨x, 0, none⟩ = some (.slice (some ⟨g, 0, none⟩) 17 17))) (by kernel_rfl) ?_ (fun hHeld => ?_)
      · (try dsimp only); exact HSS.out _ (Below.refl _ _).drew
      refine wpAnyH_take (i := 0) (v := ?_) rfl (by kernel_rfl) (by kernel_rfl) (by kernel_rfl) (fun _ _ _ h => h) (Or.inl ⟨by rfl, ?_⟩) (by assumption) ?_
      rotate_left 1
      · intro w hSw
        (try dsimp only at hSw)
        go_simp
        try with_reducible rfl
      (try simp only [Act.put, List.getElem_toArray, List.getElem_cons_zero, List.setIfInBounds_toArray, List.set_cons_zero, List.set_cons_succ])
      refine wpAnyH_take (i := 1) (v := ?_) rfl (by kernel_rfl) (by kernel_rfl) (by kernel_rfl) (fun _ _ _ h => h) (Or.inl ⟨by rfl, ?_⟩) (by assumption) ?_
      rotate_left 1
      · intro w hSw
        (try dsimp only at hSw)
        go_simp
        try with_reducible rfl
      (try simp only [Act.put, List.getElem_toArray, List.getElem_cons_succ, List.getElem_cons_zero, List.setIfInBounds_toArray, List.set_cons_zero, List.set_cons_succ])
      refine wpAnyH_take (i := 2) (v := ?_) rfl (by kernel_rfl) (by kernel_rfl) (by kernel_rfl) (fun _ _ _ h => h) (Or.inl ⟨by rfl, ?_⟩) (by assumption) ?_
      rotate_left 1
      · intro w hSw
        (try dsimp only at hSw)
        go_simp
        try with_reducible rfl
      (try simp only [Act.put, List.getElem_toArray, List.getElem_cons_succ, List.getElem_cons_zero, List.setIfInBounds_toArray, List.set_cons_zero, List.set_cons_succ])
      refine wpAnyH_take (i := 3) (v := ?_) rfl (by kernel_rfl) (by kernel_rfl) (by kernel_rfl) (fun _ _ _ h => h) (Or.inl ⟨by rfl, ?_⟩) (by assumption) ?_
      rotate_left 1
      · intro w hSw
        (try dsimp only at hSw)
        go_simp
        try with_reducible rfl
      (try simp only [Act.put, List.getElem_toArray, List.getElem_cons_succ, List.getElem_cons_zero, List.setIfInBounds_toArray, List.set_cons_zero, List.set_cons_succ])
      refine wpAnyH_take (i := 4) (v := ?_) rfl (by kernel_rfl) (by kernel_rfl) (by kernel_rfl) (fun _ _ _ h => h) (Or.inl ⟨by rfl, ?_⟩) (by assumption) ?_
      rotate_left 1
      · intro w hSw
        (try dsimp only at hSw)
        go_simp
        try with_reducible rfl
      (try simp only [Act.put, List.getElem_toArray, List.getElem_cons_succ, List.getElem_cons_zero, List.setIfInBounds_toArray, List.set_cons_zero, List.set_cons_succ])
      refine wpAnyH_take (i := 6) (v := ?_) rfl (by kernel_rfl) (by kernel_rfl) (by kernel_rfl) (fun _ _ _ h => h) (Or.inl ⟨by rfl, ?_⟩) (by assumption) ?_
      rotate_left 1
      · intro w hSw
        (try dsimp only at hSw)
        go_simp
        try with_reducible rfl
      (try simp only [Act.put, List.getElem_toArray, List.getElem_cons_succ, List.getElem_cons_zero, List.setIfInBounds_toArray, List.set_cons_zero, List.set_cons_succ])
      refine wpAnyH_take (i := 7) (v := ?_) rfl (by kernel_rfl) (by kernel_rfl) (by kernel_rfl) (fun _ _ _ h => h) (Or.inl ⟨by rfl, ?_⟩) (by assumption) ?_
      rotate_left 1
      · intro w hSw
        (try dsimp only at hSw)
        go_simp
        try with_reducible rfl
      (try simp only [Act.put, List.getElem_toArray, List.getElem_cons_succ, List.getElem_cons_zero, List.setIfInBounds_toArray, List.set_cons_zero, List.set_cons_succ])
      refine wpAnyH_take (i := 8) (v := ?_) rfl (by kernel_rfl) (by kernel_rfl) (by kernel_rfl) (fun _ _ _ h => h) (Or.inl ⟨by rfl, ?_⟩) (by assumption) ?_
      rotate_left 1
      · intro w hSw
        (try dsimp only at hSw)
        go_simp
        try with_reducible rfl
      (try simp only [Act.put, List.getElem_toArray, List.getElem_cons_succ, List.getElem_cons_zero, List.setIfInBounds_toArray, List.set_cons_zero, List.set_cons_succ])
      refine wpAnyH_take (i := 9) (v := ?_) rfl (by kernel_rfl) (by kernel_rfl) (by kernel_rfl) (fun _ _ _ h => h) (Or.inl ⟨by rfl, ?_⟩) (by assumption) ?_
      rotate_left 1
      · intro w hSw
        (try dsimp only at hSw)
        go_simp
        try with_reducible rfl
      (try simp only [Act.put, List.getElem_toArray, List.getElem_cons_succ, List.getElem_cons_zero, List.setIfInBounds_toArray, List.set_cons_zero, List.set_cons_succ])
      refine wpAnyH_take (i := 10) (v := ?_) rfl (by kernel_rfl) (by kernel_rfl) (by kernel_rfl) (fun _ _ _ h => h) (Or.inl ⟨by rfl, ?_⟩) (by assumption) ?_
      rotate_left 1
      · intro w hSw
        (try dsimp only at hSw)
        go_simp
        try with_reducible rfl
      (try simp only [Act.put, List.getElem_toArray, List.getElem_cons_succ, List.getElem_cons_zero, List.setIfInBounds_toArray, List.set_cons_zero, List.set_cons_succ])
      refine wpAnyH_take (i := 11) (v := ?_) rfl (by kernel_rfl) (by kernel_rfl) (by kernel_rfl) (fun _ _ _ h => h) (Or.inl ⟨by rfl, ?_⟩) (by assumption) ?_
      rotate_left 1
      · intro w hSw
        (try dsimp only at hSw)
        go_simp
        try with_reducible rfl
      (try simp only [Act.put, List.getElem_toArray, List.getElem_cons_succ, List.getElem_cons_zero, List.setIfInBounds_toArray, List.set_cons_zero, List.set_cons_succ])
      refine wpAnyH_take (i := 12) (v := ?_) rfl (by kernel_rfl) (by kernel_rfl) (by kernel_rfl) (fun _ _ _ h => h) (Or.inl ⟨by rfl, ?_⟩) (by assumption) ?_
      rotate_left 1
      · intro w hSw
        (try dsimp only at hSw)
        go_simp
        try with_reducible rfl
      (try simp only [Act.put, List.getElem_toArray, List.getElem_cons_succ, List.getElem_cons_zero, List.setIfInBounds_toArray, List.set_cons_zero, List.set_cons_succ])
      refine wpAnyH_take (i := 14) (v := ?_) rfl (by kernel_rfl) (by kernel_rfl) (by kernel_rfl) (fun _ _ _ h => h) (Or.inl ⟨by rfl, ?_⟩) (by assumption) ?_
      rotate_left 1
      · intro w hSw
        (try dsimp only at hSw)
        go_simp
        try with_reducible rfl
      (try simp only [Act.put, List.getElem_toArray, List.getElem_cons_succ, List.getElem_cons_zero, List.setIfInBounds_toArray, List.set_cons_zero, List.set_cons_succ])
      refine wpAnyH_ready (rs := [5, 13]) (by kernel_rfl) (by simp) ?_
      refine AllReadyH.cons rfl (fun K hK => ?_) (AllReadyH.cons rfl (fun K hK => ?_) (AllReadyH.nil))
      · go_simp
        refine hK.out _ _ ?_ (fun hHeld => ?_)
        · exact HSS.out _ (by first | exact (Below.refl _ _).drew | exact (alloc1 _ _).drew | exact alloc1 _ _)
        clear hK K
        (try simp only [Act.put, List.getElem_toArray, List.getElem_cons_succ, List.getElem_cons_zero, List.setIfInBounds_toArray, List.set_cons_zero, List.set_cons_succ])
        refine wpAnyH_ready (rs := [13]) (by kernel_rfl) (by simp) ?_
        refine AllReadyH.cons rfl (fun K hK => ?_) (AllReadyH.nil)
        have y5 := ((alloc1 w8 (.cells #[] 3)).cell (p := ⟨g, i * 6 + 4, none⟩) hgl).trans cB
        go_simp
        refine hK.out _ _ ?_ (fun hHeld => ?_)
        · exact HSS.out _ (by first | exact (Below.refl _ _).drew | exact (alloc1 _ _).drew | exact alloc1 _ _)
        clear hK K
        (try simp only [Act.put, List.getElem_toArray, List.getElem_cons_succ, List.getElem_cons_zero, List.setIfInBounds_toArray, List.set_cons_zero, List.set_cons_succ])
        refine wpAnyH_take (i := 15) (v := ?_) rfl (by kernel_rfl) (by kernel_rfl) (by kernel_rfl) (fun _ _ _ h => h) (Or.inl ⟨by rfl, ?_⟩) (by assumption) ?_
        rotate_left 1
        · intro w hSw
          (try dsimp only at hSw)
          go_simp
          try with_reducible rfl
        (try simp only [Act.put, List.getElem_toArray, List.getElem_cons_succ, List.getElem_cons_zero, List.setIfInBounds_toArray, List.set_cons_zero, List.set_cons_succ])
        refine wpAnyH_ready (rs := [16]) (by kernel_rfl) (by simp) ?_
        refine AllReadyH.cons rfl (fun K hK => ?_) (AllReadyH.nil)
        refine step_ints (by rfl) _ _ (by rfl) w8.heap.size _ (by first | (simp [Act.eval]; done) | (simp [Act.eval]; rfl)) HO9.out HB9.out.size ba nd bc (BB.take nd) (by first | (simp [Act.eval]; done) | (simp [Act.eval]; rfl)) (HSN.out.below HB9.out) hnil9.out (by omega) ?_
        intro va9 vc9 w9 HO10 HB10
        have HB11 : Hid (Below w8.heap.size w8 w9) := hid (HB9.out.trans HB10.out)
        refine hK.out _ _ ?_ (fun hHeld => ?_)
        · exact HSS.out _ HB11.out
        clear hK K
        (try simp only [Act.put, List.getElem_toArray, List.getElem_cons_succ, List.getElem_cons_zero, List.setIfInBounds_toArray, List.set_cons_zero, List.set_cons_succ])
        refine wpAnyH_take (i := 17) (v := ?_) rfl (by kernel_rfl) (by kernel_rfl) (by kernel_rfl) (fun _ _ _ h => h) (Or.inl ⟨by rfl, ?_⟩) (by assumption) ?_
        rotate_left 1
        · intro w hSw
          (try dsimp only at hSw)
          go_simp
          try with_reducible rfl
        (try simp only [Act.put, List.getElem_toArray, List.getElem_cons_succ, List.getElem_cons_zero, List.setIfInBounds_toArray, List.set_cons_zero, List.set_cons_succ])
        refine wpAnyH_take (i := 18) (v := ?_) rfl (by kernel_rfl) (by kernel_rfl) (by kernel_rfl) (fun _ _ _ h => h) (Or.inl ⟨by rfl, ?_⟩) (by assumption) ?_
        rotate_left 1
        · intro w hSw
          (try dsimp only at hSw)
          go_simp
          try with_reducible rfl
        (try simp only [Act.put, List.getElem_toArray, List.getElem_cons_succ, List.getElem_cons_zero, List.setIfInBounds_toArray, List.set_cons_zero, List.set_cons_succ])
        refine wpAnyH_ready (rs := [19]) (by kernel_rfl) (by simp) ?_
        refine AllReadyH.cons rfl (fun K hK => ?_) (AllReadyH.nil)
        have y0 := HSS.out _ HB11.out
        have y1 := (H8.out.grow HB11.out).B i i2
        have y2 := (H8.out.grow HB11.out).frz (i * 6 + 4)
        have HT12 : Hid (RfTo w8 x g u V2 ((Fc.relB (BB.drop nd)).at_ i { (Fc.relB (BB.drop nd)).P i with B := BB.take nd }) (w9.setCell ⟨g, i * 6 + 4, none⟩ (.slice va9 nd vc9))) := hid (H8.out.blks i i2 (BB.take nd) _ HB11.out (by rw [hlt9]; exact HO10.out))
        go_simp
        refine hK.out _ _ ?_ (fun hHeld => ?_)
        · exact (World.cell?_setCell_far _ _ _ _ hgx).trans y0
        clear hK K
        (try simp only [Act.put, List.getElem_toArray, List.getElem_cons_succ, List.getElem_cons_zero, List.setIfInBounds_toArray, List.set_cons_zero, List.set_cons_succ])
        refine wpAnyH_done (by kernel_rfl) ?_ _
        clear y0 y1 y2 hHeld HO10 HB10
        go_wp2_with fail
        go_ret
        rw [HR2.out, HFC.out]
        have hT := HT12.out
        rw [relB_P] at hT
        exact ⟨rfl, RfTo.trans HT.out.2.1 HT.out.2.2 (RfTo.trans HT27.out.1 HT27.out.2 (RfTo.trans (U8.out.mono (fun b _ h => .inr (.inr (.inl h)))) (fun b h => .inl h) hT))⟩
      · go_simp
        refine hK.out _ _ ?_ (fun hHeld => ?_)
        · exact HSS.out _ (by first | exact (Below.refl _ _).drew | exact (alloc1 _ _).drew | exact alloc1 _ _)
        clear hK K
        (try simp only [Act.put, List.getElem_toArray, List.getElem_cons_succ, List.getElem_cons_zero, List.setIfInBounds_toArray, List.set_cons_zero, List.set_cons_succ])
        refine wpAnyH_take (i := 15) (v := ?_) rfl (by kernel_rfl) (by kernel_rfl) (by kernel_rfl) (fun _ _ _ h => h) (Or.inl ⟨by rfl, ?_⟩) (by assumption) ?_
        rotate_left 1
        · intro w hSw
          (try dsimp only at hSw)
          go_simp
          try with_reducible rfl
        (try simp only [Act.put, List.getElem_toArray, List.getElem_cons_succ, List.getElem_cons_zero, List.setIfInBounds_toArray, List.set_cons_zero, List.set_cons_succ])
        refine wpAnyH_ready (rs := [5]) (by kernel_rfl) (by simp) ?_
        refine AllReadyH.cons rfl (fun K hK => ?_) (AllReadyH.nil)
        go_simp
        refine hK.out _ _ ?_ (fun hHeld => ?_)
        · exact HSS.out _ (by first | exact (Below.refl _ _).drew | exact (alloc1 _ _).drew | exact alloc1 _ _)
        clear hK K
        (try simp only [Act.put, List.getElem_toArray, List.getElem_cons_succ, List.getElem_cons_zero, List.setIfInBounds_toArray, List.set_cons_zero, List.set_cons_succ])
        refine wpAnyH_ready (rs := [16]) (by kernel_rfl) (by simp) ?_
        refine AllReadyH.cons rfl (fun K hK => ?_) (AllReadyH.nil)
        refine step_ints (by rfl) _ _ (by rfl) w8.heap.size _ (by first | (simp [Act.eval]; done) | (simp [Act.eval]; rfl)) HO9.out HB9.out.size ba nd bc (BB.take nd) (by first | (simp [Act.eval]; done) | (simp [Act.eval]; rfl)) (HSN.out.below HB9.out) hnil9.out (by omega) ?_
        intro va9 vc9 w9 HO10 HB10
        have HB11 : Hid (Below w8.heap.size w8 w9) := hid (HB9.out.trans HB10.out)
        refine hK.out _ _ ?_ (fun hHeld => ?_)
        · exact HSS.out _ HB11.out
        clear hK K
        (try simp only [Act.put, List.getElem_toArray, List.getElem_cons_succ, List.getElem_cons_zero, List.setIfInBounds_toArray, List.set_cons_zero, List.set_cons_succ])
        refine wpAnyH_take (i := 17) (v := ?_) rfl (by kernel_rfl) (by kernel_rfl) (by kernel_rfl) (fun _ _ _ h => h) (Or.inl ⟨by rfl, ?_⟩) (by assumption) ?_
        rotate_left 1
        · intro w hSw
          (try dsimp only at hSw)
          go_simp
          try with_reducible rfl
        (try simp only [Act.put, List.getElem_toArray, List.getElem_cons_succ, List.getElem_cons_zero, List.setIfInBounds_toArray, List.set_cons_zero, List.set_cons_succ])
        refine wpAnyH_take (i := 18) (v := ?_) rfl (by kernel_rfl) (by kernel_rfl) (by kernel_rfl) (fun _ _ _ h => h) (Or.inl ⟨by rfl, ?_⟩) (by assumption) ?_
        rotate_left 1
        · intro w hSw
          (try dsimp only at hSw)
          go_simp
          try with_reducible rfl
        (try simp only [Act.put, List.getElem_toArray, List.getElem_cons_succ, List.getElem_cons_zero, List.setIfInBounds_toArray, List.set_cons_zero, List.set_cons_succ])
        refine wpAnyH_ready (rs := [19]) (by kernel_rfl) (by simp) ?_
        refine AllReadyH.cons rfl (fun K hK => ?_) (AllReadyH.nil)
        have y0 := HSS.out _ HB11.out
        have y1 := (H8.out.grow HB11.out).B i i2
        have y2 := (H8.out.grow HB11.out).frz (i * 6 + 4)
        have HT12 : Hid (RfTo w8 x g u V2 ((Fc.relB (BB.drop nd)).at_ i { (Fc.relB (BB.drop nd)).P i with B := BB.take nd }) (w9.setCell ⟨g, i * 6 + 4, none⟩ (.slice va9 nd vc9))) := hid (H8.out.blks i i2 (BB.take nd) _ HB11.out (by rw [hlt9]; exact HO10.out))
        go_simp
        refine hK.out _ _ ?_ (fun hHeld => ?_)
        · exact (World.cell?_setCell_far _ _ _ _ hgx).trans y0
        clear hK K
        (try simp only [Act.put, List.getElem_toArray, List.getElem_cons_succ, List.getElem_cons_zero, List.setIfInBounds_toArray, List.set_cons_zero, List.set_cons_succ])
        refine wpAnyH_done (by kernel_rfl) ?_ _
        clear y0 y1 y2 hHeld HO10 HB10
        go_wp2_with fail
        go_ret
        rw [HR2.out, HFC.out]
        have hT := HT12.out
        rw [relB_P] at hT
        exact ⟨rfl, RfTo.trans HT.out.2.1 HT.out.2.2 (RfTo.trans HT27.out.1 HT27.out.2 (RfTo.trans (U8.out.mono (fun b _ h => .inr (.inr (.inl h)))) (fun b h => .inl h) hT))⟩

theorem rresize_any (x g u : Nat) (V : Nat → Value) (F : Fs) (w : World) (H : Rf w x g u V F) (hF : FOk F) (n z : Int) (hz : z ≤ 9223372036854775807) :
    Calls Tryz.prog 97 #[.pointer (some ⟨x, 0, none⟩), .int .i64 n, .int .i64 z] w fun e w' => e = .returned (.int .i64 (F.resize n z).2) ∧ RfTo w x g u V (F.resize n z).1 w' := by
  by_cases h : F.file n ≠ 0 ∨ z < 0 ∨ 96 < z
  · refine (rresize_no x g u V F w H n z h hz).mono ?_
    rintro e w' ⟨h1, h2, h3⟩
    rw [h2]
    exact ⟨h1, H.same h3⟩
  · have hf : F.file n = 0 := Decidable.not_not.1 (fun q => h (.inl q))
    obtain ⟨i, rfl, i1, i2, _⟩ := file_is hF hf
    obtain ⟨o, rfl⟩ : ∃ o : Nat, z = (o : Int) := ⟨z.toNat, by have := fun q => h (.inr (.inl q)); omega⟩
    have h96 : o ≤ 96 := by
      have : ¬ 96 < (o : Int) := fun q => h (.inr (.inr q))
      omega
    exact rresize_ok x g u V F w H hF i i1 i2 hf o h96

end Go.Proofs.YtbglhmcahnkbfaaGreat
