/- Texts of this seat, merged. -/
import Derived.Test.YtliekndkjjaldaaGreatNMg33
import Derived.Test.YtliekndkjjaldaaGreatNMg19

/- The document's Write. -/
namespace Go.Proofs.YtliekndkjjaldaaGreat
open Go.RowKit
set_option linter.unusedVariables false
set_option maxRecDepth 20000

theorem grow_c (F : Fs) (n s : Nat) : ((F.grow n s).P n).c = (F.P n).c := by
  unfold Fs.grow Fs.at_
  simp
theorem lay_splice (c bs : List Int) (off s : Nat) (hs : s = max c.length (off + bs.length)) : splice (c.map (Value.int .u8) ++ List.replicate (s - c.length) (Value.int .u8 0)) off (bs.map (Value.int .u8)) = (Fs.lay c off bs).map (Value.int .u8) := by
  unfold splice Fs.lay
  rw [List.map_append, List.map_append, List.map_take, List.map_append, List.map_replicate, List.map_drop, List.length_map]
  have h1 : (c.map (Value.int .u8) ++ List.replicate (s - c.length) (Value.int .u8 0)).take off = (c.map (Value.int .u8) ++ List.replicate (off + bs.length - c.length) (Value.int .u8 0)).take off := by
    congr 3
    omega
  have h2 : (c.map (Value.int .u8) ++ List.replicate (s - c.length) (Value.int .u8 0)).drop (off + bs.length) = (c.map (Value.int .u8)).drop (off + bs.length) := by
    by_cases h : off + bs.length ≤ c.length
    · rw [show s - c.length = 0 by omega]; simp
    · rw [List.drop_of_length_le (by simp; omega), List.drop_of_length_le (by simp; omega)]
  rw [h1, h2]
  simp [List.append_assoc]

set_option maxHeartbeats 4000000 in
theorem rwrite_no (x g u : Nat) (V : Nat → Value) (F : Fs) (w : World) (H : Rf w x g u V F) (n off : Int) (a0 : Option Addr) (lb cb : Nat) (bs : List Int) (hbl : bs.length = lb) (h : F.file n ≠ 0 ∨ off < 0 ∨ lb = 0 ∨ 96 < off + (lb : Int)) (hl : lb ≤ 9223372036854775807) (hof : off ≤ 9223372036854775807) :
    Calls Tryz.prog 36 #[.pointer (some ⟨x, 0, none⟩), .int .i64 n, .int .i64 off, .slice a0 lb cb] w fun e w' => e = .returned (.tuple #[.int .i64 (F.write n off bs).2.1, .int .i64 (F.write n off bs).2.2]) ∧ (F.write n off bs).1 = F ∧ Below w.heap.size w w' := by
  have k1 := hid (rfile_any x g u V F w H n)
  obtain ⟨R, gR⟩ : ∃ R, R = F.write n off bs := ⟨_, rfl⟩
  have HR : Hid (R = F.write n off bs) := hid gR
  rw [← gR]
  have hb0 : bs = [] ↔ lb = 0 := by rw [← hbl]; exact List.length_eq_zero_iff.symm
  obtain ⟨E, gE⟩ : ∃ E, E = F.file n := ⟨_, rfl⟩
  rw [← gE] at k1 h
  by_cases h1 : E ≠ 0
  · have e : Hid (R = (F, 0, E)) := hid (by rw [gR]; unfold Fs.write; rw [if_pos (by rw [← gE]; exact h1), ← gE])
    clear H gR HR hb0 gE h
    go_enter Tryz.func36, Tryz.ntmps36
    go_wp2_with fail
    refine k1.out.mono ?_
    rintro e w1 ⟨rfl, rfl⟩
    clear k1
    go_wp2_with fail
    go_ret2
    rw [e.out]
    exact ⟨rfl, rfl, Below.refl _ _⟩
  obtain rfl : E = 0 := Decidable.not_not.1 h1
  have f0 : ¬ F.file n ≠ 0 := fun q => q gE.symm
  by_cases h2 : off < 0
  · have e : Hid (R = (F, 0, 22)) := hid (by rw [gR]; unfold Fs.write; rw [if_neg f0, if_pos h2])
    clear H gR HR hb0 gE h f0 h1
    go_enter Tryz.func36, Tryz.ntmps36
    go_wp2_with fail
    refine k1.out.mono ?_
    rintro e w1 ⟨rfl, rfl⟩
    clear k1
    go_wp2_with fail
    go_ret2
    rw [e.out]
    exact ⟨rfl, rfl, Below.refl _ _⟩
  by_cases h3 : lb = 0
  · have e : Hid (R = (F, 0, 0)) := hid (by rw [gR]; unfold Fs.write; rw [if_neg f0, if_neg h2, if_pos (hb0.2 h3)])
    have i1 : (lb : Int) = 0 := by omega
    clear H gR HR hb0 gE h f0 h1 hbl h3
    go_enter Tryz.func36, Tryz.ntmps36
    go_wp2_with fail
    refine k1.out.mono ?_
    rintro e w1 ⟨rfl, rfl⟩
    clear k1
    go_wp2_with fail
    go_ret2
    rw [e.out]
    exact ⟨rfl, rfl, Below.refl _ _⟩
  have h4 : 96 < off + (lb : Int) := by
    rcases h with q | q | q | q
    · exact absurd rfl q
    · exact absurd q h2
    · exact absurd q h3
    · exact q
  have e : Hid (R = (F, 0, 27)) := hid (by rw [gR]; unfold Fs.write; rw [if_neg f0, if_neg h2, if_neg (fun q => h3 (hb0.1 q)), if_pos (by rw [hbl]; exact h4)])
  have i1 : ¬ (lb : Int) = 0 := by omega
  clear H gR HR hb0 gE h f0 h1 hbl h3
  by_cases h5 : 96 < off
  · clear h4
    go_enter Tryz.func36, Tryz.ntmps36
    go_wp2_with fail
    refine k1.out.mono ?_
    rintro e w1 ⟨rfl, rfl⟩
    clear k1
    go_wp2_with fail
    go_ret2
    rw [e.out]
    exact ⟨rfl, rfl, Below.refl _ _⟩
  · have i2 : IntKind.i64.wrap (96 - off) = 96 - off := by rw [IntKind.wrap_i64]; omega
    have i3 : 96 - off < (lb : Int) := by omega
    clear h4
    go_enter Tryz.func36, Tryz.ntmps36
    go_wp2_with fail
    refine k1.out.mono ?_
    rintro e w1 ⟨rfl, rfl⟩
    clear k1
    go_wp2_with fail
    go_ret2
    rw [e.out]
    exact ⟨rfl, rfl, Below.refl _ _⟩

set_option maxHeartbeats 8000000 in
theorem rwrite_ok (x g u : Nat) (V : Nat → Value) (F : Fs) (w : World) (H : Rf w x g u V F) (hF : FOk F) (i : Nat) (i1 : 1 ≤ i) (i2 : i < 17) (hf : F.file (i : Int) = 0) (o lb cb : Nat) (ab ao : Nat) (bs : List Int) (hsrc : Src w (some ⟨ab, ao, none⟩) lb bs) (hlb : 0 < lb) (h96 : o + lb ≤ 96) (ha : ¬ RfFoot x g u V ab) (hal : ab < w.heap.size) (hcb : lb ≤ cb) :
    Calls Tryz.prog 36 #[.pointer (some ⟨x, 0, none⟩), .int .i64 (i : Int), .int .i64 (o : Int), .slice (some ⟨ab, ao, none⟩) lb cb] w fun e w' => e = .returned (.tuple #[.int .i64 (F.write (i : Int) (o : Int) bs).2.1, .int .i64 (F.write (i : Int) (o : Int) bs).2.2]) ∧ RfTo w x g u V (F.write (i : Int) (o : Int) bs).1 w' := by
  have hbl := hsrc.1
  have k1 := hid (rfile_any x g u V F w H (i : Int))
  rw [hf] at k1
  have c0 := H.c0
  have c4 := H.b i i2
  obtain ⟨ra0, rc0, eV0, hLc0, hcm0, _⟩ := own_shp (H.rb i i2)
  have hL96 := (hF.c i).1
  obtain ⟨C, gC⟩ : ∃ C, C = (F.P i).c := ⟨_, rfl⟩
  obtain ⟨L, gL⟩ : ∃ L, L = C.length := ⟨_, rfl⟩
  rw [eV0] at c4
  rw [← gC, ← gL] at c4 hLc0 hL96
  obtain ⟨s, gs⟩ : ∃ s, s = max L (o + lb) := ⟨_, rfl⟩
  have hs96 : s ≤ 96 := by omega
  have k2 := hid (rgrow_any x g u V F w H hF i s i2 hs96)
  obtain ⟨R, gR⟩ : ∃ R, R = F.write (i : Int) (o : Int) bs := ⟨_, rfl⟩
  have HR : Hid (R = if F.fits i s = false then (F, 0, 28) else ((F.grow i s).ct i (Fs.lay C o bs), (lb : Int), 0)) := hid (by
    rw [gR]
    unfold Fs.write
    rw [if_neg (fun q => q hf), if_neg (by omega), if_neg (fun q => by rw [q] at hbl; simp at hbl; omega), if_neg (by rw [hbl]; omega)]
    rw [show ((i : Int)).toNat = i by omega, show ((o : Int)).toNat = o by omega, ← gC, hbl, ← gL, ← gs])
  rw [← gR]
  have HH := hid H
  have hmax : max (L : Int) ((o : Int) + (lb : Int)) = (s : Int) := by omega
  have hw1 : IntKind.i64.wrap ((o : Int) + (lb : Int)) = (o : Int) + (lb : Int) := by rw [IntKind.wrap_i64]; omega
  have hw2 : IntKind.i64.wrap ((96 : Int) - (o : Int)) = (96 : Int) - (o : Int) := by rw [IntKind.wrap_i64]; omega
  have n0 : (0 : Int) ≤ (i : Int) := by omega
  have n1 : (i : Int) < 17 := by omega
  have j1 : ¬ (o : Int) < 0 := by omega
  have j2 : ¬ (lb : Int) = 0 := by omega
  have j3 : ¬ (96 : Int) < (o : Int) := by omega
  have j4 : ¬ (96 : Int) - (o : Int) < (lb : Int) := by omega
  have GS := hid gs
  have GC := hid gC
  have GL := hid gL
  have HSRC := hid hsrc
  have HBL := hid hbl
  have HA := hid ha
  clear H hF hf gR gs gC gL hsrc eV0 ha hbl
  by_cases hfit : F.fits i s = false
  · rw [if_neg (by rw [hfit]; simp), if_neg (by rw [hfit]; simp)] at k2
    have HR2 : Hid (R = (F, 0, 28)) := hid (by rw [HR.out, if_pos hfit])
    clear HR hfit
    go_enter Tryz.func36, Tryz.ntmps36
    go_wp2_with fail
    refine k1.out.mono ?_
    rintro e w1 ⟨rfl, rfl⟩
    clear k1
    go_wp2_with fail
    refine k2.out.mono ?_
    rintro e w2 ⟨rfl, hT⟩
    have HT := hid hT
    clear k2 hT
    go_wp2_with fail
    go_ret2
    rw [HR2.out]
    exact ⟨rfl, HT.out⟩
  have hfit : F.fits i s = true := by simpa using hfit
  rw [if_pos hfit, if_pos hfit] at k2
  have HR2 : Hid (R = ((F.grow i s).ct i (Fs.lay C o bs), (lb : Int), 0)) := hid (by rw [HR.out, if_neg (by rw [hfit]; simp)])
  clear HR hfit
  go_enter Tryz.func36, Tryz.ntmps36
  go_wp2_with fail
  refine k1.out.mono ?_
  rintro e w1 ⟨rfl, rfl⟩
  clear k1
  go_wp2_with fail
  refine k2.out.mono ?_
  rintro e w2 ⟨rfl, V1, hT⟩
  have HT := hid hT
  have H2 := hid hT.1
  clear k2 hT c0 c4
  have c0 := H2.out.c0
  have c4 := H2.out.b i i2
  have hrow := H2.out.rb i i2
  rw [grow_c, ← GC.out, ← GL.out] at hrow
  obtain ⟨ra, rc, eV, hLc, hcm, _⟩ := own_shp hrow
  rw [eV] at c4 hrow
  have hnil : Hid (ra = none → rc = 0) := hid (fun q => by
    subst q
    rcases hrow.2 with ⟨e, _⟩ | ⟨_, _, _, e, _⟩
    · injection e
    · injection e with e1; cases e1)
  have HS : Hid (Src w2 ra L C) := hid (by
    cases ra with
    | none =>
      obtain rfl := hnil.out rfl
      refine ⟨GL.out.symm, fun h => by omega⟩
    | some ad =>
      rcases hrow.2 with ⟨e, _⟩ | ⟨q, _, _, e, _⟩
      · cases e
      · injection e with e1 _ e3
        injection e1 with e1
        subst e1 e3
        exact Src.own hrow)
  have hsub : Hid ((s : Int) - (L : Int) = ((s - L : Nat) : Int)) := hid (by have := GS.out; omega)
  have hw3 : IntKind.i64.wrap ((s : Int) - (L : Int)) = ((s - L : Nat) : Int) := by rw [IntKind.wrap_i64, ← hsub.out]; have := GS.out; omega
  have HX : Hid (∀ W, Below w2.heap.size w2 W → W.cell? ⟨x, 0, none⟩ = some (.slice (some ⟨g, 0, none⟩) 17 17) ∧ W.cell? ⟨g, i * 6 + 3, none⟩ = some (.slice ra L rc)) := hid (fun W hb => ⟨(H2.out.grow hb).c0, by have := (H2.out.grow hb).b i i2; rw [eV] at this; exact this⟩)
  have hLs : L + (s - L) = s := by have := GS.out; omega
  have HO5 : Hid ((w2.alloc (.cells #[] 5)).drew.ownsRow w2.heap.size 5 1 (.slice (some ⟨w2.heap.size, 0, none⟩) 0 0) 0 []) := hid (own_empty w2 5)
  have HB5 : Hid (Below w2.heap.size w2 (w2.alloc (.cells #[] 5)).drew) := hid (alloc1 _ _).drew
  clear hrow eV
  go_wp2_with fail
  go_region_held3 (fun W => W.cell? ⟨x, 0, none⟩ = some (.slice (some ⟨g, 0, none⟩) 17 17) ∧ W.cell? ⟨g, i * 6 + 3, none⟩ = some (.slice ra L rc)) (first | (refine ⟨?_, ?_⟩ <;> assumption) | exact HX.out _ (alloc1 _ _).drew | exact HX.out _ HY1.out | exact HX.out _ HY2.out | go_keep) (first
    | (refine step_bytes (by rfl) _ _ (by rfl) (by rfl) w2.heap.size _ 0 [] (by first | (simp [Act.eval]; done) | (simp [Act.eval]; rfl)) HO5.out HB5.out.size ra L rc C (by first | (simp [Act.eval]; done) | (simp [Act.eval]; rfl)) (HS.out.below HB5.out) hnil.out (by omega) L (by omega) ?_; intro va vc w4 HO4 HB4; have HY1 : Hid (Below w2.heap.size w2 w4) := hid (HB5.out.trans HB4.out))
    | (refine step_zeros (by rfl) _ _ (by rfl) w2.heap.size _ _ _ (by first | (simp [Act.eval]; done) | (simp [Act.eval]; rfl)) HO4.out HY1.out.size (s - L) _ rfl (by first | (simp [Act.eval]; done) | (simp [Act.eval]; rfl)) (by omega) s hLs.symm ?_; intro vb vd w6 HO6 HB6; have HY2 : Hid (Below w2.heap.size w2 w6) := hid (HY1.out.trans HB6.out)))
  clear c0 c4 HO4 HB4 HO5 HB5 HY1 HX HB6 hmax hw1 hw2 hw3 hsub hLs hnil
  have hs1 : 0 < s := by have := GS.out; omega
  obtain ⟨va', vc', eV', hsd, hdm, hcell'⟩ := own_shp HO6.out
  injection eV' with e1 _ e3
  subst e1 e3
  obtain ⟨q, rfl, hq1, hq2, _⟩ := hcell' hs1
  obtain ⟨cur, hg6, hcl, _, hcopy⟩ := own_copy HO6.out
  have HCP := hid hcopy
  have HG6 := hid hg6
  have HCL := hid hcl
  have hos : o + lb ≤ s := by have := GS.out; omega
  have b1 : (0 : Int) ≤ (o : Int) := by omega
  have b2 : (o : Int) ≤ (s : Int) := by omega
  have b3 : (s : Int) ≤ (vd : Int) := by omega
  have b4 : ¬ vd = o := by omega
  have hab2 : ab ≠ q := fun e => by have := HT.out.2.1.size; omega
  have HSRC6 : Hid (∀ j v, (bs.map (Value.int .u8))[j]? = some v → w6.cell? ((⟨ab, ao, none⟩ : Addr).add j) = some v) := hid (fun j v hv => by
    have hj : j < lb := by
      have := (List.getElem?_eq_some_iff.1 hv).1
      rw [List.length_map, HBL.out] at this; exact this
    have h2 : Src w2 (some ⟨ab, ao, none⟩) lb bs := by
      refine ⟨HBL.out, fun h => ?_⟩
      obtain ⟨b, o', e, hb, hc⟩ := HSRC.out.2 h
      injection e with e
      injection e with e1 e2
      subst e1 e2
      exact ⟨ab, ao, rfl, Nat.lt_of_lt_of_le hb HT.out.2.1.size, fun j hj => (World.cell?_of_block (a := ⟨ab, ao + j, none⟩) (HT.out.2.1.block ab hb HA.out)).trans (hc j hj)⟩
    obtain ⟨b, o', e, hb, hc⟩ := (h2.below HY2.out).2 (by omega)
    injection e with e
    injection e with e1 e2
    subst e1 e2
    rw [Addr.add_lit, hc j hj]
    rw [List.getElem?_map] at hv
    rw [List.getD_eq_getElem?_getD]
    cases hz : bs[j]? with
    | none => rw [hz] at hv; simp at hv
    | some z => rw [hz] at hv; simpa using hv)
  clear HSRC hcell' hcopy hg6 hcl hdm
  go_wp2_with (refine wpList_copy2 rfl (.tmp 79) (.tmp 80) 30 30 rfl 5 1 Tryz.underlying30 csize5 (some ⟨q, o, none⟩) (s - o) (vd - o) ⟨ab, ao, none⟩ lb cb rfl rfl lb q o (by show lb = min lb (s - o); omega) rfl cur 5 HG6.out (bs.map (Value.int .u8)) (by rw [List.length_map, HBL.out]; omega) HSRC6.out (by rw [List.length_map, HBL.out, HCL.out]; omega) (fun v hv => by obtain ⟨z, _, rfl⟩ := List.mem_map.1 hv; rfl) ?_; intro w7 HG7 HU7; have HB7 : Hid (Below w2.heap.size w2 w7) := hid (HY2.out.trans (HU7.below HY2.out.size (fun y hy => by rw [hy]; exact hq1))); have c0 := (H2.out.grow HB7.out).c0; have c4 := (H2.out.grow HB7.out).b i i2; have c5 := (H2.out.grow HB7.out).frz (i * 6 + 3); have HG7' := hid (HCP.out o (bs.map (Value.int .u8)) w7 (by rw [List.length_map, HBL.out]; exact hos) HG7.out); clear HU7)
  have hbl2 := HBL.out
  have hT7 : RfTo w2 x g u V1 ((F.grow i s).ct i (Fs.lay C o bs)) (w7.setCell ⟨g, i * 6 + 3, none⟩ (.slice (some ⟨q, 0, none⟩) s vd)) := by
    refine H2.out.bytes i i2 (Fs.lay C o bs) _ HB7.out ?_
    have hll : (Fs.lay C o bs).length = s := by rw [lay_len, hbl2, GS.out, GL.out]
    have h := HG7'.out
    rw [show s - L = s - C.length by rw [GL.out], List.nil_append, lay_splice C bs o s (by rw [GS.out, GL.out, hbl2])] at h
    rw [hll]
    exact h
  go_ret2
  rw [HR2.out]
  exact ⟨rfl, RfTo.trans HT.out.2.1 HT.out.2.2 hT7⟩

theorem rwrite_any (x g u : Nat) (V : Nat → Value) (F : Fs) (w : World) (H : Rf w x g u V F) (hF : FOk F) (n off : Int) (a0 : Option Addr) (lb cb : Nat) (bs : List Int) (hsrc : Src w a0 lb bs) (ha : ∀ b o, a0 = some ⟨b, o, none⟩ → ¬ RfFoot x g u V b) (hcb : lb ≤ cb) (hl : lb ≤ 9223372036854775807) (hof : off ≤ 9223372036854775807) :
    Calls Tryz.prog 36 #[.pointer (some ⟨x, 0, none⟩), .int .i64 n, .int .i64 off, .slice a0 lb cb] w fun e w' => e = .returned (.tuple #[.int .i64 (F.write n off bs).2.1, .int .i64 (F.write n off bs).2.2]) ∧ RfTo w x g u V (F.write n off bs).1 w' := by
  have hbl := hsrc.1
  by_cases h : F.file n ≠ 0 ∨ off < 0 ∨ lb = 0 ∨ 96 < off + (lb : Int)
  · refine (rwrite_no x g u V F w H n off a0 lb cb bs hbl h hl hof).mono ?_
    rintro e w' ⟨h1, h2, h3⟩
    rw [h2]
    exact ⟨h1, H.same h3⟩
  · have hf : F.file n = 0 := Decidable.not_not.1 (fun q => h (.inl q))
    obtain ⟨i, rfl, i1, i2, _⟩ := file_is hF hf
    obtain ⟨o, rfl⟩ : ∃ o : Nat, off = (o : Int) := ⟨off.toNat, by have := fun q => h (.inr (.inl q)); omega⟩
    have hlb : 0 < lb := Nat.pos_of_ne_zero (fun q => h (.inr (.inr (.inl q))))
    have h96 : o + lb ≤ 96 := by
      have : ¬ 96 < (o : Int) + (lb : Int) := fun q => h (.inr (.inr (.inr q)))
      omega
    obtain ⟨ab, ao, rfl, hal, _⟩ := hsrc.2 hlb
    exact rwrite_ok x g u V F w H hF i i1 i2 hf o lb cb ab ao bs hsrc hlb h96 (ha ab ao rfl) hal hcb

end Go.Proofs.YtliekndkjjaldaaGreat
