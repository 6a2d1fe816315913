/- How many bytes an argument has, as the document measures it. -/
import Derived.Test.YtoohihlpjodhaaaGRef3
import Derived.Test.YtoohihlpjodhaaaGSz2
namespace Go.Proofs.Ytoohihlpjodhaaa
open Go.RowKit
set_option linter.unusedVariables false
set_option maxRecDepth 20000

theorem szL_more (f : Int → Ar → Int) : ∀ (ts : List Int) (qs : List Ar) (j : Nat) (h1 : j < ts.length) (h2 : j < qs.length), szL f (ts.take (j + 1)) (qs.take (j + 1)) = szL f (ts.take j) (qs.take j) + f (ts.getD j 0) qs[j]
  | t :: ts, a :: qs, 0, _, _ => by simp [szL]
  | t :: ts, a :: qs, j + 1, h1, h2 => by
    simp only [List.take_succ_cons, szL]
    rw [szL_more f ts qs j (by simpa using h1) (by simpa using h2)]
    simp only [List.getD_cons_succ, List.getElem_cons_succ]
    omega
theorem wrap_nat {n : Nat} (h : n ≤ 9223372036854775807) : wrap64 (n : Int) = (n : Int) := by unfold wrap64; omega

set_option maxHeartbeats 16000000 in
theorem rmeas_any (a : Option Addr) (m c : Nat) (a2 : Option Addr) (m2 c2 : Nat) (l : List Ty) (hm : l.length = m) (hmb : m ≤ 9223372036854775807) (hG : Good l) :
    ∀ (d n : Nat) (A : Ar) (w : World), Tys w a l → n < l.length → Okd d w A → chk l d n A = 0 →
      Calls Try.prog 36 #[.agg #[.slice a m c, .slice a2 m2 c2], .int .i64 n, .agg #[.int .i64 A.h.k, .int .i64 A.h.v, .slice A.h.ka A.h.kn A.h.kc, .slice A.h.ba A.h.bn A.h.bc]] w fun e w' => e = .returned (.int .i64 (wrap64 (szA l d n A))) ∧ Below w.heap.size w w' := by
  intro d
  induction d with
  | zero => intro n A w _ _ hA; exact hA.elim
  | succ d ih =>
    intro n A w hT hnl hA hC
    have hnm : n < m := by omega
    obtain ⟨g1, g2, g3⟩ := hG n hnl
    have hT0 : l[n].Ok w := by
      obtain ⟨_, _, _, _, htc⟩ := hT (by omega)
      exact (htc n hnl).2
    have HT := hid hT
    obtain ⟨tb, to', rfl, htl, htc⟩ := hT (by omega)
    obtain ⟨c0, c1, c2', c3, c4, c5, c6, c7, c8, c9⟩ := (htc n hnl).1
    obtain ⟨R, gR⟩ : ∃ R, R = wrap64 (szA l (d + 1) n A) := ⟨_, rfl⟩
    rw [← gR]
    rw [szA_at l d n hnl A] at gR
    rw [chk_at l d n hnl A] at hC
    obtain ⟨hmis, hCL⟩ : mis l[n] A.h = 0 ∧ chkL (chk l d) (kidTy l[n] A.h) A.ks = 0 := by
      split at hC
      · rename_i h0; exact ⟨h0, hC⟩
      · rename_i h0; exact absurd hC h0
    obtain ⟨hkl, hka⟩ := kid_ok hG n hnl A.h hT0.el hmis
    obtain ⟨ho1, ho2, ho3⟩ := hA
    have hCk := chkL_kids _ _ (by rw [hkl]; exact ho2.symm) hCL
    have HCK := hid hCk
    have HKL := hid hkl
    have HKA := hid hka
    have IH := hid ih
    clear htc ih hC hCL hkl hka hCk
    have HA2 := hid ho2
    have HA3 := hid ho3
    have k3 := hid (fun wx (hb : Below w.heap.size w wx) => rkids_any l[n] A.h wx (hT0.below hb) (ho1.below hb) g2 g3)
    have hszT : wrap64 l[n].s = l[n].s ∨ (l[n].k = 7 ∨ l[n].k = 8 ∨ l[n].k = 9 ∨ l[n].k = 10 ∨ l[n].k = 11) := by
      generalize l[n] = T at *
      unfold fitsB szB at g3
      unfold wrap64
      by_cases h1 : T.k = 1
      · simp [h1] at g3; omega
      · by_cases h2 : T.k = 2 ∨ T.k = 3 ∨ T.k = 4
        · simp [h1, h2] at g3; omega
        · by_cases h5 : T.k = 5
          · simp [h5] at g3; omega
          · by_cases h6 : T.k = 6
            · simp [h6] at g3; omega
            · by_cases h7 : T.k = 7 ∨ T.k = 8 ∨ T.k = 9 ∨ T.k = 10 ∨ T.k = 11
              · exact .inr h7
              · simp only [h1, h2, h5, h6, if_false] at g3
                rw [if_neg (by omega), if_neg (by omega), if_neg (by omega), if_neg (by omega)] at g3
                cases g3
    have hbm := ho1.bm
    have hbb := ho1.bb
    have hkm := ho1.km
    have hkb := ho1.kb
    have HMis := hid hmis
    clear hT0 g1 g2 g3 ho1 ho2 ho3 hmis
    generalize l[n] = T at *
    have HR := hid gR
    clear gR
    have htb1 : tb < w.heap.size + 1 := by omega
    have htb2 : tb < w.heap.size + 1 + 1 := by omega
    go_enter Try.func36, Try.ntmps36
    by_cases e7 : T.k = 7 ∨ T.k = 8 ∨ T.k = 9
    · rw [if_pos e7] at HR
      have e7' : T.k = 7 ∨ (T.k ≠ 7 ∧ T.k = 8) ∨ (T.k ≠ 7 ∧ T.k ≠ 8 ∧ T.k = 9) := by omega
      clear e7 hszT
      rcases e7' with h | ⟨h, h'⟩ | ⟨h, h', h''⟩
      · have f7 : (T.k == 7) = true := by simpa using h
        clear h
        go_wp2_with fail
        refine (k3.out _ (alloc3 w _ _ _)).mono ?_
        rintro e w1 ⟨ta, tn, tc, rfl, hI1, hb1⟩
        obtain ⟨hI, hIl, hIb⟩ := hI1 HMis.out
        have hs3 : ∀ o1 o2 o3 : Obj, (((w.alloc o1).alloc o2).alloc o3).heap.size = w.heap.size + 1 + 1 + 1 := fun _ _ _ => by simp
        have x0 := (hb1.block w.heap.size (by rw [hs3]; omega)).trans (heap3 w _ _ _).1
        have x1 := (hb1.block (w.heap.size + 1) (by rw [hs3]; omega)).trans (heap3 w _ _ _).2.1
        have hs1 : w.heap.size + 1 < w1.heap.size := by have := hb1.size; rw [hs3] at this; omega
        have HB1 : Hid (Below w.heap.size w w1) := hid ((alloc3 w _ _ _).trans (hb1.mono (alloc3 w _ _ _).size))
        have HX0 := hid x0
        have z2 : w1.cell? ⟨w.heap.size + 1, 2, none⟩ = some (.slice A.h.ka A.h.kn A.h.kc) := cell_of_row _ _ 2 _ _ _ x1
        have HI1 := hid hI
        have HIL := hid hIl
        clear x0 x1 hI hIl hI1 hb1 k3 c0 c1 c2' c3 c4 c5 c6 c7 c8 c9 HMis hs3
        generalize kidTy T A.h = KT at *
        generalize A.h = hh at *
        generalize A.ks = ks at *
        obtain ⟨ak, av, ka, kn, kc, ba, bn, bc, bs⟩ := hh
        dsimp only at *
        go_wp2_with fail
        go_loopw [10, 33] (fun u k wr => ∃ (j : Nat) (S : Int), j ≤ kn ∧ k = .int .i64 j ∧ u = .int .i64 S ∧ Hid (S = wrap64 (szL (szA l d) (KT.take j) (ks.take j))) ∧ Hid (Below w1.heap.size w1 wr)) (fun _ k _ => kn - (intOf k).toNat)
        case atStart => exact ⟨0, 0, Nat.zero_le _, rfl, rfl, hid (by simp [szL, wrap64]), hid (Below.refl _ _)⟩
        case round =>
          obtain ⟨j, S, hj, rfl, rfl, HS, HBr⟩ := hrel
          by_cases hlt : j < kn
          · have hjl : j < ks.length := by rw [HA2.out]; exact hlt
            have hjt : j < KT.length := by rw [HKL.out]; exact hlt
            obtain ⟨b, o, rfl, hbl, hcs⟩ := HA3.out (by omega)
            have HBw : Hid (Below w.heap.size w wr) := hid (HB1.out.trans (HBr.out.mono HB1.out.size))
            obtain ⟨q0, q1, q2, q3⟩ := (hcs j hjl).1.blk (HBw.out.block b hbl)
            have hOk := (hcs j hjl).2
            have hta := ahead_at HKA.out j hjt
            obtain ⟨tb2, to2, rfl, htbl, htcs⟩ := HI1.out.below HBr.out (by omega)
            have hct := htcs j hjt
            have HMr := hid (szL_more (szA l d) KT ks j hjt hjl)
            have hck := HCK.out j hjl
            obtain ⟨t, ht⟩ : ∃ t : Nat, KT.getD j 0 = (t : Int) := ⟨(KT.getD j 0).toNat, by omega⟩
            rw [ht] at hct HMr hta hck
            clear ht htcs hcs
            have htl2 : t < l.length := by omega
            generalize ks[j] = B at *
            have hwr := HBw.out.size
            have hbw : b < wr.heap.size := by omega
            have hw1r : w1.heap.size ≤ wr.heap.size := HBr.out.size
            have kr := hid (fun wx (hx : Below wr.heap.size wr wx) => IH.out t B wx (HT.out.below (HBw.out.trans (hx.mono HBw.out.size))) htl2 (Okd.below (HBw.out.trans (hx.mono HBw.out.size)) d B hOk) hck)
            have HS2 : Hid (wrap64 (S + wrap64 (szA l d (t : Int) B)) = wrap64 (szL (szA l d) (KT.take (j + 1)) (ks.take (j + 1)))) := hid (by rw [HMr.out, HS.out, wrap_add, wrap_add'])
            generalize wrap64 (szA l d (t : Int) B) = E at *
            clear hOk hta hck
            generalize B.h = bh at *
            have x0r := (HBr.out.block w.heap.size (by omega)).trans HX0.out
            go_wp2_with fail
            obtain ⟨Y, gY⟩ : ∃ Y, Y = wr.alloc (.cells #[.int .i64 bh.k, .int .i64 bh.v, .slice bh.ka bh.kn bh.kc, .slice bh.ba bh.bn bh.bc] 30) := ⟨_, rfl⟩
            rw [← gY]
            have HYB : Hid (Below wr.heap.size wr Y) := hid (by rw [gY]; exact below_box _ _)
            have hYs : wr.heap.size < Y.heap.size := by rw [gY]; simp
            have hy : Y.heap[wr.heap.size]? = some (.cells #[.int .i64 bh.k, .int .i64 bh.v, .slice bh.ka bh.kn bh.kc, .slice bh.ba bh.bn bh.bc] 30 (0, 0)) := by rw [gY]; exact heap_alloc_new _ _
            have hyt := (HYB.out.block w.heap.size (by omega)).trans x0r
            have e0 : Y.cell? ⟨wr.heap.size, 0, none⟩ = some (.int .i64 bh.k) := cell_of_row _ _ 0 _ _ _ hy
            have e1 : Y.cell? ⟨wr.heap.size, 1, none⟩ = some (.int .i64 bh.v) := cell_of_row _ _ 1 _ _ _ hy
            have e2 : Y.cell? ⟨wr.heap.size, 2, none⟩ = some (.slice bh.ka bh.kn bh.kc) := cell_of_row _ _ 2 _ _ _ hy
            have e3 : Y.cell? ⟨wr.heap.size, 3, none⟩ = some (.slice bh.ba bh.bn bh.bc) := cell_of_row _ _ 3 _ _ _ hy
            have e4 : Y.cell? ⟨tb2, to2 + j, none⟩ = some (.int .i64 (t : Int)) := (HYB.out.cell (p := ⟨tb2, to2 + j, none⟩) htbl).trans hct
            have e5 : Y.cell? ⟨w.heap.size, 0, none⟩ = some (.slice (some ⟨tb, to', none⟩) m c) := cell_of_row _ _ 0 _ _ _ hyt
            have e6 : Y.cell? ⟨w.heap.size, 1, none⟩ = some (.slice a2 m2 c2) := cell_of_row _ _ 1 _ _ _ hyt
            have htY : tb2 < Y.heap.size := by omega
            have hwY : w.heap.size < Y.heap.size := by omega
            have hjtn : j < tn := by have := HIL.out; have := HKL.out; omega
            clear gY hy hyt x0r q0 q1 q2 q3 hct
            go_region_held3 (fun wx => wx.cell? ⟨tb2, to2 + j, none⟩ = some (.int .i64 (t : Int)) ∧ wx.cell? ⟨w.heap.size, 0, none⟩ = some (.slice (some ⟨tb, to', none⟩) m c) ∧ wx.cell? ⟨w.heap.size, 1, none⟩ = some (.slice a2 m2 c2) ∧ wx.cell? ⟨wr.heap.size, 0, none⟩ = some (.int .i64 bh.k) ∧ wx.cell? ⟨wr.heap.size, 1, none⟩ = some (.int .i64 bh.v) ∧ wx.cell? ⟨wr.heap.size, 2, none⟩ = some (.slice bh.ka bh.kn bh.kc) ∧ wx.cell? ⟨wr.heap.size, 3, none⟩ = some (.slice bh.ba bh.bn bh.bc)) (go_keep) ((go_at_call 36; refine (kr.out _ (below_hp HYB.out (by rfl) (by rfl) (by rfl) (by rfl))).mono ?_; rintro e w5 ⟨rfl, hb5⟩; have y5 : ∀ b o, b < Y.heap.size → w5.cell? ⟨b, o, none⟩ = Y.cell? ⟨b, o, none⟩ := cell_like hb5 (by rfl); have HB5 : Hid (Below wr.heap.size wr w5) := hid ((below_hp HYB.out (by rfl) (by rfl) (by rfl) (by rfl)).trans (hb5.mono HYB.out.size)); clear hb5))
            have HB45 := hid (HBr.out.trans (HB5.out.mono HBr.out.size))
            go_wp2_with fail
            go_roundw
            case rel => exact ⟨j + 1, wrap64 (S + E), by omega, by go_num, by first | rfl | (rw [IntKind.wrap_i64, wrap64]), hid HS2.out, HB45⟩
            case measure => simp [intOf]; omega
          · obtain rfl : j = kn := by omega
            go_wp2_with fail
            go_ret
            refine ⟨ret_int ?_, HB1.out.trans (HBr.out.mono HB1.out.size)⟩
            rw [HR.out, HS.out, List.take_of_length_le (by rw [HKL.out]; exact Nat.le_refl _), List.take_of_length_le (by rw [HA2.out]; exact Nat.le_refl _)]
      · have f7 : (T.k == 7) = false := by simpa using h
        have f8 : (T.k == 8) = true := by simpa using h'
        clear h h'
        go_wp2_with fail
        refine (k3.out _ (alloc3 w _ _ _)).mono ?_
        rintro e w1 ⟨ta, tn, tc, rfl, hI1, hb1⟩
        obtain ⟨hI, hIl, hIb⟩ := hI1 HMis.out
        have hs3 : ∀ o1 o2 o3 : Obj, (((w.alloc o1).alloc o2).alloc o3).heap.size = w.heap.size + 1 + 1 + 1 := fun _ _ _ => by simp
        have x0 := (hb1.block w.heap.size (by rw [hs3]; omega)).trans (heap3 w _ _ _).1
        have x1 := (hb1.block (w.heap.size + 1) (by rw [hs3]; omega)).trans (heap3 w _ _ _).2.1
        have hs1 : w.heap.size + 1 < w1.heap.size := by have := hb1.size; rw [hs3] at this; omega
        have HB1 : Hid (Below w.heap.size w w1) := hid ((alloc3 w _ _ _).trans (hb1.mono (alloc3 w _ _ _).size))
        have HX0 := hid x0
        have z2 : w1.cell? ⟨w.heap.size + 1, 2, none⟩ = some (.slice A.h.ka A.h.kn A.h.kc) := cell_of_row _ _ 2 _ _ _ x1
        have HI1 := hid hI
        have HIL := hid hIl
        clear x0 x1 hI hIl hI1 hb1 k3 c0 c1 c2' c3 c4 c5 c6 c7 c8 c9 HMis hs3
        generalize kidTy T A.h = KT at *
        generalize A.h = hh at *
        generalize A.ks = ks at *
        obtain ⟨ak, av, ka, kn, kc, ba, bn, bc, bs⟩ := hh
        dsimp only at *
        go_wp2_with fail
        go_loopw [10, 33] (fun u k wr => ∃ (j : Nat) (S : Int), j ≤ kn ∧ k = .int .i64 j ∧ u = .int .i64 S ∧ Hid (S = wrap64 (szL (szA l d) (KT.take j) (ks.take j))) ∧ Hid (Below w1.heap.size w1 wr)) (fun _ k _ => kn - (intOf k).toNat)
        case atStart => exact ⟨0, 0, Nat.zero_le _, rfl, rfl, hid (by simp [szL, wrap64]), hid (Below.refl _ _)⟩
        case round =>
          obtain ⟨j, S, hj, rfl, rfl, HS, HBr⟩ := hrel
          by_cases hlt : j < kn
          · have hjl : j < ks.length := by rw [HA2.out]; exact hlt
            have hjt : j < KT.length := by rw [HKL.out]; exact hlt
            obtain ⟨b, o, rfl, hbl, hcs⟩ := HA3.out (by omega)
            have HBw : Hid (Below w.heap.size w wr) := hid (HB1.out.trans (HBr.out.mono HB1.out.size))
            obtain ⟨q0, q1, q2, q3⟩ := (hcs j hjl).1.blk (HBw.out.block b hbl)
            have hOk := (hcs j hjl).2
            have hta := ahead_at HKA.out j hjt
            obtain ⟨tb2, to2, rfl, htbl, htcs⟩ := HI1.out.below HBr.out (by omega)
            have hct := htcs j hjt
            have HMr := hid (szL_more (szA l d) KT ks j hjt hjl)
            have hck := HCK.out j hjl
            obtain ⟨t, ht⟩ : ∃ t : Nat, KT.getD j 0 = (t : Int) := ⟨(KT.getD j 0).toNat, by omega⟩
            rw [ht] at hct HMr hta hck
            clear ht htcs hcs
            have htl2 : t < l.length := by omega
            generalize ks[j] = B at *
            have hwr := HBw.out.size
            have hbw : b < wr.heap.size := by omega
            have hw1r : w1.heap.size ≤ wr.heap.size := HBr.out.size
            have kr := hid (fun wx (hx : Below wr.heap.size wr wx) => IH.out t B wx (HT.out.below (HBw.out.trans (hx.mono HBw.out.size))) htl2 (Okd.below (HBw.out.trans (hx.mono HBw.out.size)) d B hOk) hck)
            have HS2 : Hid (wrap64 (S + wrap64 (szA l d (t : Int) B)) = wrap64 (szL (szA l d) (KT.take (j + 1)) (ks.take (j + 1)))) := hid (by rw [HMr.out, HS.out, wrap_add, wrap_add'])
            generalize wrap64 (szA l d (t : Int) B) = E at *
            clear hOk hta hck
            generalize B.h = bh at *
            have x0r := (HBr.out.block w.heap.size (by omega)).trans HX0.out
            go_wp2_with fail
            obtain ⟨Y, gY⟩ : ∃ Y, Y = wr.alloc (.cells #[.int .i64 bh.k, .int .i64 bh.v, .slice bh.ka bh.kn bh.kc, .slice bh.ba bh.bn bh.bc] 30) := ⟨_, rfl⟩
            rw [← gY]
            have HYB : Hid (Below wr.heap.size wr Y) := hid (by rw [gY]; exact below_box _ _)
            have hYs : wr.heap.size < Y.heap.size := by rw [gY]; simp
            have hy : Y.heap[wr.heap.size]? = some (.cells #[.int .i64 bh.k, .int .i64 bh.v, .slice bh.ka bh.kn bh.kc, .slice bh.ba bh.bn bh.bc] 30 (0, 0)) := by rw [gY]; exact heap_alloc_new _ _
            have hyt := (HYB.out.block w.heap.size (by omega)).trans x0r
            have e0 : Y.cell? ⟨wr.heap.size, 0, none⟩ = some (.int .i64 bh.k) := cell_of_row _ _ 0 _ _ _ hy
            have e1 : Y.cell? ⟨wr.heap.size, 1, none⟩ = some (.int .i64 bh.v) := cell_of_row _ _ 1 _ _ _ hy
            have e2 : Y.cell? ⟨wr.heap.size, 2, none⟩ = some (.slice bh.ka bh.kn bh.kc) := cell_of_row _ _ 2 _ _ _ hy
            have e3 : Y.cell? ⟨wr.heap.size, 3, none⟩ = some (.slice bh.ba bh.bn bh.bc) := cell_of_row _ _ 3 _ _ _ hy
            have e4 : Y.cell? ⟨tb2, to2 + j, none⟩ = some (.int .i64 (t : Int)) := (HYB.out.cell (p := ⟨tb2, to2 + j, none⟩) htbl).trans hct
            have e5 : Y.cell? ⟨w.heap.size, 0, none⟩ = some (.slice (some ⟨tb, to', none⟩) m c) := cell_of_row _ _ 0 _ _ _ hyt
            have e6 : Y.cell? ⟨w.heap.size, 1, none⟩ = some (.slice a2 m2 c2) := cell_of_row _ _ 1 _ _ _ hyt
            have htY : tb2 < Y.heap.size := by omega
            have hwY : w.heap.size < Y.heap.size := by omega
            have hjtn : j < tn := by have := HIL.out; have := HKL.out; omega
            clear gY hy hyt x0r q0 q1 q2 q3 hct
            go_region_held3 (fun wx => wx.cell? ⟨tb2, to2 + j, none⟩ = some (.int .i64 (t : Int)) ∧ wx.cell? ⟨w.heap.size, 0, none⟩ = some (.slice (some ⟨tb, to', none⟩) m c) ∧ wx.cell? ⟨w.heap.size, 1, none⟩ = some (.slice a2 m2 c2) ∧ wx.cell? ⟨wr.heap.size, 0, none⟩ = some (.int .i64 bh.k) ∧ wx.cell? ⟨wr.heap.size, 1, none⟩ = some (.int .i64 bh.v) ∧ wx.cell? ⟨wr.heap.size, 2, none⟩ = some (.slice bh.ka bh.kn bh.kc) ∧ wx.cell? ⟨wr.heap.size, 3, none⟩ = some (.slice bh.ba bh.bn bh.bc)) (go_keep) ((go_at_call 36; refine (kr.out _ (below_hp HYB.out (by rfl) (by rfl) (by rfl) (by rfl))).mono ?_; rintro e w5 ⟨rfl, hb5⟩; have y5 : ∀ b o, b < Y.heap.size → w5.cell? ⟨b, o, none⟩ = Y.cell? ⟨b, o, none⟩ := cell_like hb5 (by rfl); have HB5 : Hid (Below wr.heap.size wr w5) := hid ((below_hp HYB.out (by rfl) (by rfl) (by rfl) (by rfl)).trans (hb5.mono HYB.out.size)); clear hb5))
            have HB45 := hid (HBr.out.trans (HB5.out.mono HBr.out.size))
            go_wp2_with fail
            go_roundw
            case rel => exact ⟨j + 1, wrap64 (S + E), by omega, by go_num, by first | rfl | (rw [IntKind.wrap_i64, wrap64]), hid HS2.out, HB45⟩
            case measure => simp [intOf]; omega
          · obtain rfl : j = kn := by omega
            go_wp2_with fail
            go_ret
            refine ⟨ret_int ?_, HB1.out.trans (HBr.out.mono HB1.out.size)⟩
            rw [HR.out, HS.out, List.take_of_length_le (by rw [HKL.out]; exact Nat.le_refl _), List.take_of_length_le (by rw [HA2.out]; exact Nat.le_refl _)]
      · have f7 : (T.k == 7) = false := by simpa using h
        have f8 : (T.k == 8) = false := by simpa using h'
        have f9 : (T.k == 9) = true := by simpa using h''
        clear h h' h''
        go_wp2_with fail
        refine (k3.out _ (alloc3 w _ _ _)).mono ?_
        rintro e w1 ⟨ta, tn, tc, rfl, hI1, hb1⟩
        obtain ⟨hI, hIl, hIb⟩ := hI1 HMis.out
        have hs3 : ∀ o1 o2 o3 : Obj, (((w.alloc o1).alloc o2).alloc o3).heap.size = w.heap.size + 1 + 1 + 1 := fun _ _ _ => by simp
        have x0 := (hb1.block w.heap.size (by rw [hs3]; omega)).trans (heap3 w _ _ _).1
        have x1 := (hb1.block (w.heap.size + 1) (by rw [hs3]; omega)).trans (heap3 w _ _ _).2.1
        have hs1 : w.heap.size + 1 < w1.heap.size := by have := hb1.size; rw [hs3] at this; omega
        have HB1 : Hid (Below w.heap.size w w1) := hid ((alloc3 w _ _ _).trans (hb1.mono (alloc3 w _ _ _).size))
        have HX0 := hid x0
        have z2 : w1.cell? ⟨w.heap.size + 1, 2, none⟩ = some (.slice A.h.ka A.h.kn A.h.kc) := cell_of_row _ _ 2 _ _ _ x1
        have HI1 := hid hI
        have HIL := hid hIl
        clear x0 x1 hI hIl hI1 hb1 k3 c0 c1 c2' c3 c4 c5 c6 c7 c8 c9 HMis hs3
        generalize kidTy T A.h = KT at *
        generalize A.h = hh at *
        generalize A.ks = ks at *
        obtain ⟨ak, av, ka, kn, kc, ba, bn, bc, bs⟩ := hh
        dsimp only at *
        go_wp2_with fail
        go_loopw [10, 33] (fun u k wr => ∃ (j : Nat) (S : Int), j ≤ kn ∧ k = .int .i64 j ∧ u = .int .i64 S ∧ Hid (S = wrap64 (szL (szA l d) (KT.take j) (ks.take j))) ∧ Hid (Below w1.heap.size w1 wr)) (fun _ k _ => kn - (intOf k).toNat)
        case atStart => exact ⟨0, 0, Nat.zero_le _, rfl, rfl, hid (by simp [szL, wrap64]), hid (Below.refl _ _)⟩
        case round =>
          obtain ⟨j, S, hj, rfl, rfl, HS, HBr⟩ := hrel
          by_cases hlt : j < kn
          · have hjl : j < ks.length := by rw [HA2.out]; exact hlt
            have hjt : j < KT.length := by rw [HKL.out]; exact hlt
            obtain ⟨b, o, rfl, hbl, hcs⟩ := HA3.out (by omega)
            have HBw : Hid (Below w.heap.size w wr) := hid (HB1.out.trans (HBr.out.mono HB1.out.size))
            obtain ⟨q0, q1, q2, q3⟩ := (hcs j hjl).1.blk (HBw.out.block b hbl)
            have hOk := (hcs j hjl).2
            have hta := ahead_at HKA.out j hjt
            obtain ⟨tb2, to2, rfl, htbl, htcs⟩ := HI1.out.below HBr.out (by omega)
            have hct := htcs j hjt
            have HMr := hid (szL_more (szA l d) KT ks j hjt hjl)
            have hck := HCK.out j hjl
            obtain ⟨t, ht⟩ : ∃ t : Nat, KT.getD j 0 = (t : Int) := ⟨(KT.getD j 0).toNat, by omega⟩
            rw [ht] at hct HMr hta hck
            clear ht htcs hcs
            have htl2 : t < l.length := by omega
            generalize ks[j] = B at *
            have hwr := HBw.out.size
            have hbw : b < wr.heap.size := by omega
            have hw1r : w1.heap.size ≤ wr.heap.size := HBr.out.size
            have kr := hid (fun wx (hx : Below wr.heap.size wr wx) => IH.out t B wx (HT.out.below (HBw.out.trans (hx.mono HBw.out.size))) htl2 (Okd.below (HBw.out.trans (hx.mono HBw.out.size)) d B hOk) hck)
            have HS2 : Hid (wrap64 (S + wrap64 (szA l d (t : Int) B)) = wrap64 (szL (szA l d) (KT.take (j + 1)) (ks.take (j + 1)))) := hid (by rw [HMr.out, HS.out, wrap_add, wrap_add'])
            generalize wrap64 (szA l d (t : Int) B) = E at *
            clear hOk hta hck
            generalize B.h = bh at *
            have x0r := (HBr.out.block w.heap.size (by omega)).trans HX0.out
            go_wp2_with fail
            obtain ⟨Y, gY⟩ : ∃ Y, Y = wr.alloc (.cells #[.int .i64 bh.k, .int .i64 bh.v, .slice bh.ka bh.kn bh.kc, .slice bh.ba bh.bn bh.bc] 30) := ⟨_, rfl⟩
            rw [← gY]
            have HYB : Hid (Below wr.heap.size wr Y) := hid (by rw [gY]; exact below_box _ _)
            have hYs : wr.heap.size < Y.heap.size := by rw [gY]; simp
            have hy : Y.heap[wr.heap.size]? = some (.cells #[.int .i64 bh.k, .int .i64 bh.v, .slice bh.ka bh.kn bh.kc, .slice bh.ba bh.bn bh.bc] 30 (0, 0)) := by rw [gY]; exact heap_alloc_new _ _
            have hyt := (HYB.out.block w.heap.size (by omega)).trans x0r
            have e0 : Y.cell? ⟨wr.heap.size, 0, none⟩ = some (.int .i64 bh.k) := cell_of_row _ _ 0 _ _ _ hy
            have e1 : Y.cell? ⟨wr.heap.size, 1, none⟩ = some (.int .i64 bh.v) := cell_of_row _ _ 1 _ _ _ hy
            have e2 : Y.cell? ⟨wr.heap.size, 2, none⟩ = some (.slice bh.ka bh.kn bh.kc) := cell_of_row _ _ 2 _ _ _ hy
            have e3 : Y.cell? ⟨wr.heap.size, 3, none⟩ = some (.slice bh.ba bh.bn bh.bc) := cell_of_row _ _ 3 _ _ _ hy
            have e4 : Y.cell? ⟨tb2, to2 + j, none⟩ = some (.int .i64 (t : Int)) := (HYB.out.cell (p := ⟨tb2, to2 + j, none⟩) htbl).trans hct
            have e5 : Y.cell? ⟨w.heap.size, 0, none⟩ = some (.slice (some ⟨tb, to', none⟩) m c) := cell_of_row _ _ 0 _ _ _ hyt
            have e6 : Y.cell? ⟨w.heap.size, 1, none⟩ = some (.slice a2 m2 c2) := cell_of_row _ _ 1 _ _ _ hyt
            have htY : tb2 < Y.heap.size := by omega
            have hwY : w.heap.size < Y.heap.size := by omega
            have hjtn : j < tn := by have := HIL.out; have := HKL.out; omega
            clear gY hy hyt x0r q0 q1 q2 q3 hct
            go_region_held3 (fun wx => wx.cell? ⟨tb2, to2 + j, none⟩ = some (.int .i64 (t : Int)) ∧ wx.cell? ⟨w.heap.size, 0, none⟩ = some (.slice (some ⟨tb, to', none⟩) m c) ∧ wx.cell? ⟨w.heap.size, 1, none⟩ = some (.slice a2 m2 c2) ∧ wx.cell? ⟨wr.heap.size, 0, none⟩ = some (.int .i64 bh.k) ∧ wx.cell? ⟨wr.heap.size, 1, none⟩ = some (.int .i64 bh.v) ∧ wx.cell? ⟨wr.heap.size, 2, none⟩ = some (.slice bh.ka bh.kn bh.kc) ∧ wx.cell? ⟨wr.heap.size, 3, none⟩ = some (.slice bh.ba bh.bn bh.bc)) (go_keep) ((go_at_call 36; refine (kr.out _ (below_hp HYB.out (by rfl) (by rfl) (by rfl) (by rfl))).mono ?_; rintro e w5 ⟨rfl, hb5⟩; have y5 : ∀ b o, b < Y.heap.size → w5.cell? ⟨b, o, none⟩ = Y.cell? ⟨b, o, none⟩ := cell_like hb5 (by rfl); have HB5 : Hid (Below wr.heap.size wr w5) := hid ((below_hp HYB.out (by rfl) (by rfl) (by rfl) (by rfl)).trans (hb5.mono HYB.out.size)); clear hb5))
            have HB45 := hid (HBr.out.trans (HB5.out.mono HBr.out.size))
            go_wp2_with fail
            go_roundw
            case rel => exact ⟨j + 1, wrap64 (S + E), by omega, by go_num, by first | rfl | (rw [IntKind.wrap_i64, wrap64]), hid HS2.out, HB45⟩
            case measure => simp [intOf]; omega
          · obtain rfl : j = kn := by omega
            go_wp2_with fail
            go_ret
            refine ⟨ret_int ?_, HB1.out.trans (HBr.out.mono HB1.out.size)⟩
            rw [HR.out, HS.out, List.take_of_length_le (by rw [HKL.out]; exact Nat.le_refl _), List.take_of_length_le (by rw [HA2.out]; exact Nat.le_refl _)]
    · rw [if_neg e7] at HR
      have e7' : T.k ≠ 7 := fun e => e7 (.inl e)
      have e8' : T.k ≠ 8 := fun e => e7 (.inr (.inl e))
      have e9' : T.k ≠ 9 := fun e => e7 (.inr (.inr e))
      have f7 : (T.k == 7) = false := by simpa using e7'
      have f8 : (T.k == 8) = false := by simpa using e8'
      have f9 : (T.k == 9) = false := by simpa using e9'
      clear e7 k3 IH HCK HA3
      by_cases e10 : T.k = 10
      · rw [if_pos e10] at HR
        have f10 : (T.k == 10) = true := by simpa using e10
        clear e10 e7' e8' e9' hszT
        generalize A.h = hh at *
        go_wp2_with fail
        go_ret
        refine ⟨ret_int ?_, alloc3 _ _ _ _⟩
        rw [HR.out]
      · rw [if_neg e10] at HR
        have f10 : (T.k == 10) = false := by simpa using e10
        by_cases e11 : T.k = 11
        · rw [if_pos e11] at HR
          have f11 : (T.k == 11) = true := by simpa using e11
          clear e11 e10 e7' e8' e9' hszT
          generalize A.h = hh at *
          go_wp2_with fail
          go_ret
          refine ⟨ret_int ?_, alloc3 _ _ _ _⟩
          rw [HR.out, wrap_nat (by omega)]
        · rw [if_neg e11] at HR
          have f11 : (T.k == 11) = false := by simpa using e11
          have hs : wrap64 T.s = T.s := by rcases hszT with h | h; exact h; omega
          rw [hs] at HR
          clear e11 e10 e7' e8' e9' hszT hs
          generalize A.h = hh at *
          go_wp2_with fail
          go_ret
          refine ⟨ret_int ?_, alloc3 _ _ _ _⟩
          rw [HR.out]

end Go.Proofs.Ytoohihlpjodhaaa
