/- The least argument of a type: the document's least (kinds 10, 11). Written by gen_rl0.py. -/
import Derived.Test.YtkgejeamcgodhaaGRp
import Derived.Test.YtkgejeamcgodhaaGRef1
import Derived.Test.YtkgejeamcgodhaaGLeast8
namespace Go.Proofs.Ytkgejeamcgodhaa
open Go.RowKit
set_option linter.unusedVariables false
set_option maxRecDepth 20000

set_option maxHeartbeats 8000000 in
theorem rleast_10 (a : Option Addr) (m c : Nat) (a2 : Option Addr) (m2 c2 : Nat) (l : List Ty) (n : Nat) (hm : l.length = m) (hmb : m ≤ 9223372036854775807) (w : World) (hT : Tys w a l) (hn : n < l.length) (T : Ty) (hl : l[n] = T) (hk : T.k = 10) (he0 : T.en = 0) (htn : 0 < T.tn) (hts0 : (T.ts.getD 0 .empty).size ≤ 24) :
    Calls Try.prog 38 #[.agg #[.slice a m c, .slice a2 m2 c2], .int .i64 n] w fun e w' => ∃ A : Ar, e = .returned (.agg #[.int .i64 A.h.k, .int .i64 A.h.v, .slice A.h.ka A.h.kn A.h.kc, .slice A.h.ba A.h.bn A.h.bc]) ∧ Oka (w.heap.size ≤ ·) (n + 1) w' A ∧ Lst l (n + 1) n A ∧ Below w.heap.size w w' := by
  have HT := hid hT
  obtain ⟨tb, to', rfl, htb, hts⟩ := hT (by omega)
  have HTA := hid (hl ▸ (hts n hn).1)
  have HTO := hid (hl ▸ (hts n hn).2)
  have HLn : Hid (l[n]? = some T) := hid (by rw [List.getElem?_eq_getElem hn, hl])
  have hnm : (n : Int) < (m : Int) := by omega
  obtain ⟨X, gX⟩ : ∃ X, (((w.alloc (.cells #[.slice (some ⟨tb, to', none⟩) m c, .slice a2 m2 c2] 25)).alloc (.cells #[.int .i64 0, .int .i64 0, .slice none 0 0, .slice none 0 0] 30)).alloc (.cells #[.int .i64 0, .int .i64 0, .int .i64 0, .int .i64 0, .int .i64 0, .string ⟨#[]⟩, .slice none 0 0, .slice none 0 0, .slice none 0 0, .slice none 0 0] 52)).setCells (w.heap.size + 1 + 1) 0 (tyC T) = X := ⟨_, rfl⟩
  have HX : Hid (Hed w X (some ⟨tb, to', none⟩) m c a2 m2 c2 T) := hid (by rw [← gX]; exact hed_of w _ m c a2 m2 c2 T)
  have HYT : Hid (((w.alloc (.cells #[.slice (some ⟨tb, to', none⟩) m c, .slice a2 m2 c2] 25)).alloc (.cells #[.int .i64 0, .int .i64 0, .slice none 0 0, .slice none 0 0] 30)).rangeAt tb (to' + n * 10) (tyC T)) := hid (HTA.out.below (below_box2 w _ _) htb).range
  have HTH : Hid ((((w.alloc (.cells #[.slice (some ⟨tb, to', none⟩) m c, .slice a2 m2 c2] 25)).alloc (.cells #[.int .i64 0, .int .i64 0, .slice none 0 0, .slice none 0 0] 30)).alloc (.cells #[.int .i64 0, .int .i64 0, .int .i64 0, .int .i64 0, .int .i64 0, .string ⟨#[]⟩, .slice none 0 0, .slice none 0 0, .slice none 0 0, .slice none 0 0] 52)).there (w.heap.size + 1 + 1) 0 10) := hid (there_of_block (t := 52) (C := [Value.int .i64 0, .int .i64 0, .int .i64 0, .int .i64 0, .int .i64 0, .string ⟨#[]⟩, .slice none 0 0, .slice none 0 0, .slice none 0 0, .slice none 0 0]) (heap3 w _ _ _).2.2 0 10 (by simp))
  have HO1 : Hid ((tyC T).toArray.all (·.oneCell') = true) := hid (by simp [tyC, Value.oneCell'])
  have HL10 : Hid ((tyC T).length = 10) := hid rfl
  have q : ∀ u v, (tyC T)[u]? = some v → X.cell? ⟨w.heap.size + 1 + 1, u, none⟩ = some v := fun u v hv => by
    rw [cell_of_row X _ u _ _ _ HX.out.b2]; simpa using hv
  have q0 : X.cell? ⟨w.heap.size + 1 + 1, 0, none⟩ = some (.int .i64 T.k) := q 0 _ rfl
  have x0 := HX.out.b0
  have y0 : X.cell? ⟨w.heap.size, 0, none⟩ = some (.slice (some ⟨tb, to', none⟩) m c) := cell_of_row _ _ 0 _ _ _ x0
  have y1 : X.cell? ⟨w.heap.size, 1, none⟩ = some (.slice a2 m2 c2) := cell_of_row _ _ 1 _ _ _ x0
  obtain ⟨C, hC, x1⟩ := HX.out.b1
  have HC := hid hC
  have HX1 := hid x1
  obtain ⟨sb, so, hta, hsl, hsc⟩ := HTO.out.ts (by rw [HTO.out.tl]; exact htn)
  obtain ⟨S, gS⟩ : ∃ S, S = T.ts.getD 0 .empty := ⟨_, rfl⟩
  have HV0 : Hid (w.cell? ⟨sb, so, none⟩ = some (.string S)) := hid (by rw [gS]; exact hsc 0 (by rw [HTO.out.tl]; exact htn))
  have HVA := hid hta
  have hSz : S.size ≤ maxLen := by rw [gS]; unfold maxLen; omega
  have HSz := hid hSz
  have HGx := hid gS
  have hv0 : (0 : Int) < (T.tn : Int) := by omega
  clear hsc hta gS hSz hts0
  have HYX : Hid (X.rangeAt (w.heap.size + 1 + 1) 0 (tyC T)) := hid (rangeAt_block HX.out.b2)
  obtain ⟨kd, hkd⟩ : ∃ kd, kd = rkindI T ⟨0, 0, none, 0, 0, none, 0, 0, []⟩ := ⟨_, rfl⟩
  have k0 : Hid (Calls Try.prog 65 #[.agg (tyC T).toArray, .agg #[.int .i64 0, .int .i64 0, .slice none 0 0, .slice none 0 0]] X fun e w' => e = .returned (.int .i64 kd) ∧ Below X.heap.size X w') := hid (hkd ▸ rkind_any T ⟨0, 0, none, 0, 0, none, 0, 0, []⟩ X)
  have HKD := hid hkd
  clear hkd
  rw [hk] at q0
  clear x0 x1 hC q
  generalize hTC : tyC T = TC at *
  have HTC := hid hTC
  have GX := hid gX
  have HTS := hid hts
  have HL := hid hl
  clear hTC gX hts hl hT
  have hst1 := (run_cells_mid (P := Try.prog) _ (w.heap.size + 1 + 1) 0 TC (by rw [HL10.out]; exact HTH.out) HO1.out).trans (congrArg _ GX.out)
  go_enter Try.func38, Try.ntmps38
  go_wp2_with (first
    | (refine wpList_load_mid rfl 52 (.tmp 13) rfl tb (to' + n * 10) rfl TC _ HYT.out Try.underlying52 rfl (by rw [HL10.out]; exact csizeT) ?_)
    | (refine wpList_load_mid rfl 52 (.tmp 5) rfl (w.heap.size + 1 + 1) 0 rfl TC _ HYX.out Try.underlying52 rfl (by rw [HL10.out]; exact csizeT) ?_))
  refine k0.out.mono ?_
  rintro e w1 ⟨rfl, hb1⟩
  have hs1 : w.heap.size + 1 + 1 < w1.heap.size := by have := hb1.size; have := HX.out.s; omega
  have v0 : w1.heap[w.heap.size]? = some (.cells #[.slice (some ⟨tb, to', none⟩) m c, .slice a2 m2 c2] 25 (0, 0)) := (hb1.block _ (by rw [HX.out.s]; omega)).trans HX.out.b0
  have v1 : w1.heap[w.heap.size + 1]? = some (.cells C.toArray 30 (0, 0)) := (hb1.block _ (by rw [HX.out.s]; omega)).trans HX1.out
  have v2 : w1.heap[w.heap.size + 1 + 1]? = some (.cells (tyC T).toArray 52 (0, 0)) := (hb1.block _ (by rw [HX.out.s]; omega)).trans HX.out.b2
  have HB1 : Hid (Below w.heap.size w w1) := hid (HX.out.B.trans (hb1.mono HX.out.B.size))
  have HBw1 := hid hb1
  obtain ⟨Y0, gY0⟩ : ∃ Y0, Y0 = w1.alloc (.cells #[.int .i64 kd, .int .i64 0, .slice none 0 0, .slice none 0 0] 30) := ⟨_, rfl⟩
  have bY0 : Below w1.heap.size w1 Y0 := by rw [gY0]; exact below_box _ _
  have HYs : Hid (Y0.heap.size = w1.heap.size + 1) := hid (by rw [gY0]; simp)
  have VP0 : Hid (Y0.heap[w1.heap.size]? = some (.cells #[.int .i64 kd, .int .i64 0, .slice none 0 0, .slice none 0 0] 30 (0, 0))) := hid (by rw [gY0]; exact heap_alloc_new _ _)
  have hcv := Lib.run_convert_string_bytes (P := Try.prog) Y0 9 28 5 S Try.underlying9 Try.underlying28 Try.underlying5
  obtain ⟨WB, gB⟩ : ∃ WB, WB = Lib.bytesWorld Y0 5 S := ⟨_, rfl⟩
  obtain ⟨CC, gC⟩ : ∃ CC, CC = grownCap Y0 S.size 0 5 := ⟨_, rfl⟩
  rw [← gB, ← gC] at hcv
  rw [gY0] at hcv
  have HW : Hid (Below Y0.heap.size Y0 WB) := hid (by rw [gB]; exact bytesWorld_below Y0 S)
  have HSB : Hid (Src WB (some ⟨w1.heap.size + 1, 0, none⟩) S.size (numsOf S)) := hid (by have := bytesWorld_src Y0 S; rw [HYs.out] at this; rw [gB]; exact this)
  have HC1 : Hid (S.size ≤ CC) := hid (by rw [gC]; exact grownCap_ge _ _ _ _)
  have HC2 : Hid (CC ≤ 9223372036854775807) := hid (by have := grownCap_le_maxLen Y0 S.size 0 5 HSz.out; rw [gC]; unfold maxLen at this; omega)
  clear gB gC
  have VP1 : WB.heap[w1.heap.size]? = some (.cells #[.int .i64 kd, .int .i64 0, .slice none 0 0, .slice none 0 0] 30 (0, 0)) := (HW.out.block _ (by rw [HYs.out]; omega)).trans VP0.out
  have hfz : WB.frozen? ⟨w1.heap.size, 3, none⟩ = false := by simp [World.frozen?, VP1]
  have hc3 : WB.cell? ⟨w1.heap.size, 3, none⟩ = some (.slice none 0 0) := cell_of_row _ _ 3 _ _ _ VP1
  have t0 : WB.cell? ⟨w.heap.size + 1 + 1, 8, none⟩ = some (.slice T.ea T.en T.ec) := by
    have h1 := (HW.out.block (w.heap.size + 1 + 1) (by rw [HYs.out]; omega)).trans ((bY0.block _ hs1).trans v2)
    rw [cell_of_row WB _ 8 _ _ _ h1]; rfl
  obtain ⟨Y, gY⟩ : ∃ Y, Y = WB.setCell ⟨w1.heap.size, 3, none⟩ (.slice (some ⟨w1.heap.size + 1, 0, none⟩) S.size CC) := ⟨_, rfl⟩
  have bWB : Below w1.heap.size w1 WB := bY0.trans (HW.out.mono bY0.size)
  have uY : Upd (· = w1.heap.size) WB Y := by rw [gY]; exact Upd.setCell WB _ _ rfl
  have bY : Below w1.heap.size w1 Y := bWB.trans (uY.below bWB.size (fun x hx => by omega))
  have VP : Hid (Y.heap[w1.heap.size]? = some (.cells #[.int .i64 kd, .int .i64 0, .slice none 0 0, .slice (some ⟨w1.heap.size + 1, 0, none⟩) S.size CC] 30 (0, 0))) := hid (by rw [gY, heap_setCell_same _ _ _ _ _ _ VP1]; simp)
  have HSY : Hid (Src Y (some ⟨w1.heap.size + 1, 0, none⟩) S.size (numsOf S)) := hid (uY.src HSB.out (fun b o e f => by injection e with e; injection e with e1; omega))
  have V1 := hid ((bY.block _ (by omega)).trans v1)
  have V2 := (bY.block _ (by omega)).trans v2
  have HBY : Hid (Below w.heap.size w Y) := hid (HB1.out.trans (bY.mono HB1.out.size))
  have r : ∀ u v, (tyC T)[u]? = some v → w1.cell? ⟨w.heap.size + 1 + 1, u, none⟩ = some v := fun u v hv => by
    rw [cell_of_row w1 _ u _ _ _ v2]; simpa using hv
  have r0 : w1.cell? ⟨w.heap.size + 1 + 1, 0, none⟩ = some (.int .i64 T.k) := r 0 _ rfl
  rw [hk] at r0
  have r8 : w1.cell? ⟨w.heap.size + 1 + 1, 8, none⟩ = some (.slice T.ea 0 T.ec) := by rw [← Int.toNat_natCast 0]; have := r 8 _ rfl; rw [he0] at this; exact this
  have s8 : Hid (Y.cell? ⟨w.heap.size + 1 + 1, 8, none⟩ = some (.slice T.ea 0 T.ec)) := hid (by rw [cell_of_row Y _ 8 _ _ _ V2, ← he0]; rfl)
  have r7 : w1.cell? ⟨w.heap.size + 1 + 1, 7, none⟩ = some (.slice (some ⟨sb, so, none⟩) T.tn T.tc) := by rw [← HVA.out]; exact r 7 _ rfl
  have rv : w1.cell? ⟨sb, so, none⟩ = some (.string S) := (HB1.out.cell (p := ⟨sb, so, none⟩) hsl).trans HV0.out
  have hvw : sb < w1.heap.size := Nat.lt_of_lt_of_le hsl HB1.out.size
  have GY : Hid (WB.setCell ⟨w1.heap.size, 3, none⟩ (.slice (some ⟨w1.heap.size + 1, 0, none⟩) S.size CC) = Y) := hid gY.symm
  have GY0 := hid gY0
  have HFN : Hid (Oka (w.heap.size + 1 + 1 ≤ ·) (n + 1) Y (.mk ⟨kd, 0, none, 0, 0, some ⟨w1.heap.size + 1, 0, none⟩, S.size, CC, numsOf S⟩ [])) := hid (Okb.oka (n + 1) _ (bytes_okb _ _ _ _ _ _ HSY.out (by omega) HC1.out HC2.out))
  have HLS : Hid (Lst l (n + 1) n (.mk ⟨kd, 0, none, 0, 0, some ⟨w1.heap.size + 1, 0, none⟩, S.size, CC, numsOf S⟩ [])) := hid ⟨T, HLn.out, by rw [HKD.out]; simp [lstH, rkindI, hk, Ar.h, HGx.out], by simp [kdT, hk, Ar.ks, AllL]⟩
  clear hb1 v0 v1 v2 V2 r bY bY0 gY gY0 k0 VP1 bWB uY
  go_wp2_with fail
  rw [GY.out]
  clear r0 r8 r7 rv hcv hfz hc3 t0
  go_loopw [58] (fun k wr => k = .int .i64 0 ∧ wr = Y) (fun _ _ => 1)
  case atStart => exact ⟨rfl, by first | rfl | trivial⟩
  case round =>
    obtain ⟨rfl, rfl⟩ := hrel
    have s8' := s8.out
    obtain ⟨W, gW⟩ : ∃ W, wr.setCells (w.heap.size + 1) 0 (arC ⟨kd, 0, none, 0, 0, some ⟨w1.heap.size + 1, 0, none⟩, S.size, CC, numsOf S⟩) = W := ⟨_, rfl⟩
    have HE := hid (rleast_end HBY.out V1.out HC.out HFN.out)
    simp only [Ar.h, gW] at HE
    have GW := hid gW
    have p0 : wr.cell? ⟨w1.heap.size, 0, none⟩ = some (.int .i64 kd) := cell_of_row _ _ 0 _ _ _ VP.out
    have p1 : wr.cell? ⟨w1.heap.size, 1, none⟩ = some (.int .i64 0) := cell_of_row _ _ 1 _ _ _ VP.out
    have p2 : wr.cell? ⟨w1.heap.size, 2, none⟩ = some (.slice none 0 0) := cell_of_row _ _ 2 _ _ _ VP.out
    have p3 : wr.cell? ⟨w1.heap.size, 3, none⟩ = some (.slice (some ⟨w1.heap.size + 1, 0, none⟩) S.size CC) := cell_of_row _ _ 3 _ _ _ VP.out
    clear gW
    go_wp2_with (refine wpList_store_as rfl 30 (.tmp 4) (.tmp 82) rfl (w.heap.size + 1) 0 (arC ⟨kd, 0, none, 0, 0, some ⟨w1.heap.size + 1, 0, none⟩, S.size, CC, numsOf S⟩).toArray rfl rfl (there_of_block V1.out 0 4 (by rw [HC.out]; decide)) csizeA (by simp [arC, Value.oneCell']) W GW.out ?_)
    refine bodyPost_ret (cell_result rfl _ _ (w.heap.size + 1) 0 rfl (arC ⟨kd, 0, none, 0, 0, some ⟨w1.heap.size + 1, 0, none⟩, S.size, CC, numsOf S⟩) _ HE.out.1 Try.underlying30 rfl csizeA) rfl ?_
    exact ⟨.mk ⟨kd, 0, none, 0, 0, some ⟨w1.heap.size + 1, 0, none⟩, S.size, CC, numsOf S⟩ [], rfl, HE.out.2.1, HLS.out, HE.out.2.2⟩

set_option maxHeartbeats 8000000 in
theorem rleast_11 (a : Option Addr) (m c : Nat) (a2 : Option Addr) (m2 c2 : Nat) (l : List Ty) (n : Nat) (hm : l.length = m) (hmb : m ≤ 9223372036854775807) (w : World) (hT : Tys w a l) (hn : n < l.length) (T : Ty) (hl : l[n] = T) (hk : T.k = 11) (he0 : T.en = 0) (hlo : 0 ≤ T.lo ∧ T.lo ≤ 64) :
    Calls Try.prog 38 #[.agg #[.slice a m c, .slice a2 m2 c2], .int .i64 n] w fun e w' => ∃ A : Ar, e = .returned (.agg #[.int .i64 A.h.k, .int .i64 A.h.v, .slice A.h.ka A.h.kn A.h.kc, .slice A.h.ba A.h.bn A.h.bc]) ∧ Oka (w.heap.size ≤ ·) (n + 1) w' A ∧ Lst l (n + 1) n A ∧ Below w.heap.size w w' := by
  have HT := hid hT
  obtain ⟨tb, to', rfl, htb, hts⟩ := hT (by omega)
  have HTA := hid (hl ▸ (hts n hn).1)
  have HTO := hid (hl ▸ (hts n hn).2)
  have HLn : Hid (l[n]? = some T) := hid (by rw [List.getElem?_eq_getElem hn, hl])
  have hnm : (n : Int) < (m : Int) := by omega
  obtain ⟨X, gX⟩ : ∃ X, (((w.alloc (.cells #[.slice (some ⟨tb, to', none⟩) m c, .slice a2 m2 c2] 25)).alloc (.cells #[.int .i64 0, .int .i64 0, .slice none 0 0, .slice none 0 0] 30)).alloc (.cells #[.int .i64 0, .int .i64 0, .int .i64 0, .int .i64 0, .int .i64 0, .string ⟨#[]⟩, .slice none 0 0, .slice none 0 0, .slice none 0 0, .slice none 0 0] 52)).setCells (w.heap.size + 1 + 1) 0 (tyC T) = X := ⟨_, rfl⟩
  have HX : Hid (Hed w X (some ⟨tb, to', none⟩) m c a2 m2 c2 T) := hid (by rw [← gX]; exact hed_of w _ m c a2 m2 c2 T)
  have HYT : Hid (((w.alloc (.cells #[.slice (some ⟨tb, to', none⟩) m c, .slice a2 m2 c2] 25)).alloc (.cells #[.int .i64 0, .int .i64 0, .slice none 0 0, .slice none 0 0] 30)).rangeAt tb (to' + n * 10) (tyC T)) := hid (HTA.out.below (below_box2 w _ _) htb).range
  have HTH : Hid ((((w.alloc (.cells #[.slice (some ⟨tb, to', none⟩) m c, .slice a2 m2 c2] 25)).alloc (.cells #[.int .i64 0, .int .i64 0, .slice none 0 0, .slice none 0 0] 30)).alloc (.cells #[.int .i64 0, .int .i64 0, .int .i64 0, .int .i64 0, .int .i64 0, .string ⟨#[]⟩, .slice none 0 0, .slice none 0 0, .slice none 0 0, .slice none 0 0] 52)).there (w.heap.size + 1 + 1) 0 10) := hid (there_of_block (t := 52) (C := [Value.int .i64 0, .int .i64 0, .int .i64 0, .int .i64 0, .int .i64 0, .string ⟨#[]⟩, .slice none 0 0, .slice none 0 0, .slice none 0 0, .slice none 0 0]) (heap3 w _ _ _).2.2 0 10 (by simp))
  have HO1 : Hid ((tyC T).toArray.all (·.oneCell') = true) := hid (by simp [tyC, Value.oneCell'])
  have HL10 : Hid ((tyC T).length = 10) := hid rfl
  have q : ∀ u v, (tyC T)[u]? = some v → X.cell? ⟨w.heap.size + 1 + 1, u, none⟩ = some v := fun u v hv => by
    rw [cell_of_row X _ u _ _ _ HX.out.b2]; simpa using hv
  have q0 : X.cell? ⟨w.heap.size + 1 + 1, 0, none⟩ = some (.int .i64 T.k) := q 0 _ rfl
  have x0 := HX.out.b0
  have y0 : X.cell? ⟨w.heap.size, 0, none⟩ = some (.slice (some ⟨tb, to', none⟩) m c) := cell_of_row _ _ 0 _ _ _ x0
  have y1 : X.cell? ⟨w.heap.size, 1, none⟩ = some (.slice a2 m2 c2) := cell_of_row _ _ 1 _ _ _ x0
  obtain ⟨C, hC, x1⟩ := HX.out.b1
  have HC := hid hC
  have HX1 := hid x1
  obtain ⟨z, hz⟩ : ∃ z : Nat, T.lo = (z : Int) := ⟨T.lo.toNat, by omega⟩
  have HGx := hid hz
  have hz64 : z ≤ 64 := by omega
  clear hlo hz
  have HYX : Hid (X.rangeAt (w.heap.size + 1 + 1) 0 (tyC T)) := hid (rangeAt_block HX.out.b2)
  obtain ⟨kd, hkd⟩ : ∃ kd, kd = rkindI T ⟨0, 0, none, 0, 0, none, 0, 0, []⟩ := ⟨_, rfl⟩
  have k0 : Hid (Calls Try.prog 65 #[.agg (tyC T).toArray, .agg #[.int .i64 0, .int .i64 0, .slice none 0 0, .slice none 0 0]] X fun e w' => e = .returned (.int .i64 kd) ∧ Below X.heap.size X w') := hid (hkd ▸ rkind_any T ⟨0, 0, none, 0, 0, none, 0, 0, []⟩ X)
  have HKD := hid hkd
  clear hkd
  rw [hk] at q0
  clear x0 x1 hC q
  generalize hTC : tyC T = TC at *
  have HTC := hid hTC
  have GX := hid gX
  have HTS := hid hts
  have HL := hid hl
  clear hTC gX hts hl hT
  have hst1 := (run_cells_mid (P := Try.prog) _ (w.heap.size + 1 + 1) 0 TC (by rw [HL10.out]; exact HTH.out) HO1.out).trans (congrArg _ GX.out)
  go_enter Try.func38, Try.ntmps38
  go_wp2_with (first
    | (refine wpList_load_mid rfl 52 (.tmp 13) rfl tb (to' + n * 10) rfl TC _ HYT.out Try.underlying52 rfl (by rw [HL10.out]; exact csizeT) ?_)
    | (refine wpList_load_mid rfl 52 (.tmp 5) rfl (w.heap.size + 1 + 1) 0 rfl TC _ HYX.out Try.underlying52 rfl (by rw [HL10.out]; exact csizeT) ?_))
  refine k0.out.mono ?_
  rintro e w1 ⟨rfl, hb1⟩
  have hs1 : w.heap.size + 1 + 1 < w1.heap.size := by have := hb1.size; have := HX.out.s; omega
  have v0 : w1.heap[w.heap.size]? = some (.cells #[.slice (some ⟨tb, to', none⟩) m c, .slice a2 m2 c2] 25 (0, 0)) := (hb1.block _ (by rw [HX.out.s]; omega)).trans HX.out.b0
  have v1 : w1.heap[w.heap.size + 1]? = some (.cells C.toArray 30 (0, 0)) := (hb1.block _ (by rw [HX.out.s]; omega)).trans HX1.out
  have v2 : w1.heap[w.heap.size + 1 + 1]? = some (.cells (tyC T).toArray 52 (0, 0)) := (hb1.block _ (by rw [HX.out.s]; omega)).trans HX.out.b2
  have HB1 : Hid (Below w.heap.size w w1) := hid (HX.out.B.trans (hb1.mono HX.out.B.size))
  have HBw1 := hid hb1
  obtain ⟨Y0, gY0⟩ : ∃ Y0, Y0 = w1.alloc (.cells #[.int .i64 kd, .int .i64 0, .slice none 0 0, .slice (some ⟨w1.heap.size + 1, 0, none⟩) z z] 30) := ⟨_, rfl⟩
  have bY0 : Below w1.heap.size w1 Y0 := by rw [gY0]; exact below_box _ _
  have HYs : Hid (Y0.heap.size = w1.heap.size + 1) := hid (by rw [gY0]; simp)
  have VP0 : Hid (Y0.heap[w1.heap.size]? = some (.cells #[.int .i64 kd, .int .i64 0, .slice none 0 0, .slice (some ⟨w1.heap.size + 1, 0, none⟩) z z] 30 (0, 0))) := hid (by rw [gY0]; exact heap_alloc_new _ _)
  obtain ⟨i0, hi, hz0, hz1, hz2⟩ := info_parts infoB
  have hmx : z ≤ maxLen := by unfold maxLen; omega
  have hby : i0.bytes * z ≤ 281474976710656 := by rw [hz2]; omega
  obtain ⟨WB, gB⟩ : ∃ WB, Y0.alloc (.cells (madeCells #[Value.int .u8 0] z) 5) = WB := ⟨_, rfl⟩
  have HW : Hid (Below Y0.heap.size Y0 WB) := hid (by rw [← gB]; exact below_box Y0 _)
  have HSB : Hid (Src WB (some ⟨w1.heap.size + 1, 0, none⟩) z (List.replicate z 0)) := hid (by have := made_src Y0 z; rw [HYs.out] at this; rw [← gB]; exact this)
  have HC1 : Hid (z ≤ z) := hid (Nat.le_refl _)
  have HC2 : Hid (z ≤ 9223372036854775807) := hid (by omega)
  have GB := hid gB
  clear gB
  obtain ⟨Y, gY⟩ : ∃ Y, Y = WB := ⟨_, rfl⟩
  have bY : Below w1.heap.size w1 Y := by rw [gY]; exact bY0.trans (HW.out.mono bY0.size)
  have VP : Hid (Y.heap[w1.heap.size]? = some (.cells #[.int .i64 kd, .int .i64 0, .slice none 0 0, .slice (some ⟨w1.heap.size + 1, 0, none⟩) z z] 30 (0, 0))) := hid (by rw [gY]; exact (HW.out.block _ (by rw [HYs.out]; omega)).trans VP0.out)
  have HSY : Hid (Src Y (some ⟨w1.heap.size + 1, 0, none⟩) z (List.replicate z 0)) := hid (by rw [gY]; exact HSB.out)
  have V1 := hid ((bY.block _ (by omega)).trans v1)
  have V2 := (bY.block _ (by omega)).trans v2
  have HBY : Hid (Below w.heap.size w Y) := hid (HB1.out.trans (bY.mono HB1.out.size))
  have r : ∀ u v, (tyC T)[u]? = some v → w1.cell? ⟨w.heap.size + 1 + 1, u, none⟩ = some v := fun u v hv => by
    rw [cell_of_row w1 _ u _ _ _ v2]; simpa using hv
  have r0 : w1.cell? ⟨w.heap.size + 1 + 1, 0, none⟩ = some (.int .i64 T.k) := r 0 _ rfl
  rw [hk] at r0
  have r8 : w1.cell? ⟨w.heap.size + 1 + 1, 8, none⟩ = some (.slice T.ea 0 T.ec) := by rw [← Int.toNat_natCast 0]; have := r 8 _ rfl; rw [he0] at this; exact this
  have s8 : Hid (Y.cell? ⟨w.heap.size + 1 + 1, 8, none⟩ = some (.slice T.ea 0 T.ec)) := hid (by rw [cell_of_row Y _ 8 _ _ _ V2, ← he0]; rfl)
  have r2 : w1.cell? ⟨w.heap.size + 1 + 1, 2, none⟩ = some (.int .i64 z) := by rw [← HGx.out]; exact r 2 _ rfl
  have GY : Hid ((w1.alloc (.cells #[.int .i64 kd, .int .i64 0, .slice none 0 0, .slice (some ⟨w1.heap.size + 1, 0, none⟩) z z] 30)).alloc (.cells (madeCells #[Value.int .u8 0] z) 5) = Y) := hid (by rw [gY, ← GB.out, gY0])
  have GY0 := hid gY0
  have HFN : Hid (Oka (w.heap.size + 1 + 1 ≤ ·) (n + 1) Y (.mk ⟨kd, 0, none, 0, 0, some ⟨w1.heap.size + 1, 0, none⟩, z, z, List.replicate z 0⟩ [])) := hid (Okb.oka (n + 1) _ (bytes_okb _ _ _ _ _ _ HSY.out (by omega) HC1.out HC2.out))
  have HLS : Hid (Lst l (n + 1) n (.mk ⟨kd, 0, none, 0, 0, some ⟨w1.heap.size + 1, 0, none⟩, z, z, List.replicate z 0⟩ [])) := hid ⟨T, HLn.out, by rw [HKD.out]; simp [lstH, rkindI, hk, Ar.h, HGx.out], by simp [kdT, hk, Ar.ks, AllL]⟩
  clear hb1 v0 v1 v2 V2 r bY bY0 gY gY0 k0
  go_wp2_with (at_make; go_must (refine wpList_make_lc _ rfl _ _ 28 rfl 5 i0 (.int .u8 0) 1 Try.underlying28 hi hz0 hz1 _ _ _ _ z z rfl rfl rfl rfl (Nat.le_refl _) hby hmx ?_))
  rw [GY.out]
  clear r0 r8 r2
  go_loopw [58] (fun k wr => k = .int .i64 0 ∧ wr = Y) (fun _ _ => 1)
  case atStart => exact ⟨rfl, by first | rfl | trivial⟩
  case round =>
    obtain ⟨rfl, rfl⟩ := hrel
    have s8' := s8.out
    obtain ⟨W, gW⟩ : ∃ W, wr.setCells (w.heap.size + 1) 0 (arC ⟨kd, 0, none, 0, 0, some ⟨w1.heap.size + 1, 0, none⟩, z, z, List.replicate z 0⟩) = W := ⟨_, rfl⟩
    have HE := hid (rleast_end HBY.out V1.out HC.out HFN.out)
    simp only [Ar.h, gW] at HE
    have GW := hid gW
    have p0 : wr.cell? ⟨w1.heap.size, 0, none⟩ = some (.int .i64 kd) := cell_of_row _ _ 0 _ _ _ VP.out
    have p1 : wr.cell? ⟨w1.heap.size, 1, none⟩ = some (.int .i64 0) := cell_of_row _ _ 1 _ _ _ VP.out
    have p2 : wr.cell? ⟨w1.heap.size, 2, none⟩ = some (.slice none 0 0) := cell_of_row _ _ 2 _ _ _ VP.out
    have p3 : wr.cell? ⟨w1.heap.size, 3, none⟩ = some (.slice (some ⟨w1.heap.size + 1, 0, none⟩) z z) := cell_of_row _ _ 3 _ _ _ VP.out
    clear gW
    go_wp2_with (refine wpList_store_as rfl 30 (.tmp 4) (.tmp 82) rfl (w.heap.size + 1) 0 (arC ⟨kd, 0, none, 0, 0, some ⟨w1.heap.size + 1, 0, none⟩, z, z, List.replicate z 0⟩).toArray rfl rfl (there_of_block V1.out 0 4 (by rw [HC.out]; decide)) csizeA (by simp [arC, Value.oneCell']) W GW.out ?_)
    refine bodyPost_ret (cell_result rfl _ _ (w.heap.size + 1) 0 rfl (arC ⟨kd, 0, none, 0, 0, some ⟨w1.heap.size + 1, 0, none⟩, z, z, List.replicate z 0⟩) _ HE.out.1 Try.underlying30 rfl csizeA) rfl ?_
    exact ⟨.mk ⟨kd, 0, none, 0, 0, some ⟨w1.heap.size + 1, 0, none⟩, z, z, List.replicate z 0⟩ [], rfl, HE.out.2.1, HLS.out, HE.out.2.2⟩

end Go.Proofs.Ytkgejeamcgodhaa
