/- The least argument of a type: the document's least (kinds 3, 4, 1, 2, 5). Written by gen_rl0.py. -/
import Derived.Test.YtkgejeamcgodhaaGRp
import Derived.Test.YtkgejeamcgodhaaGRef1
namespace Go.Proofs.Ytkgejeamcgodhaa
open Go.RowKit
set_option linter.unusedVariables false
set_option maxRecDepth 20000

set_option maxHeartbeats 8000000 in
theorem rleast_3 (a : Option Addr) (m c : Nat) (a2 : Option Addr) (m2 c2 : Nat) (l : List Ty) (n : Nat) (hm : l.length = m) (hmb : m ≤ 9223372036854775807) (w : World) (hT : Tys w a l) (hn : n < l.length) (T : Ty) (hl : l[n] = T) (hk : T.k = 3) (he0 : T.en = 0) :
    Calls Try.prog 38 #[.agg #[.slice a m c, .slice a2 m2 c2], .int .i64 n] w fun e w' => ∃ A : Ar, e = .returned (.agg #[.int .i64 A.h.k, .int .i64 A.h.v, .slice A.h.ka A.h.kn A.h.kc, .slice A.h.ba A.h.bn A.h.bc]) ∧ Oka (w.heap.size ≤ ·) (n + 1) w' A ∧ Lst l (n + 1) n A ∧ Below w.heap.size w w' := by
  have HT := hid hT
  obtain ⟨tb, to', rfl, htb, hts⟩ := hT (by omega)
  have HTA := hid (hl ▸ (hts n hn).1)
  have HTO := hid (hl ▸ (hts n hn).2)
  have HLn : Hid (l[n]? = some T) := hid (by rw [List.getElem?_eq_getElem hn, hl])
  have hnm : (n : Int) < (m : Int) := by omega
  obtain ⟨X, gX⟩ : ∃ X, (((w.alloc (.cells #[.slice (some ⟨tb, to', none⟩) m c, .slice a2 m2 c2] 25)).alloc (.cells #[.int .i64 0, .int .i64 0, .slice none 0 0, .slice none 0 0] 30)).alloc (.cells #[.int .i64 0, .int .i64 0, .int .i64 0, .int .i64 0, .int .i64 0, .string ⟨#[]⟩, .slice none 0 0, .slice none 0 0, .slice none 0 0, .slice none 0 0] 52)).setCells (w.heap.size + 1 + 1) 0 (tyC T) = X := ⟨_, rfl⟩
  have HX : Hid (Hed w X (some ⟨tb, to', none⟩) m c a2 m2 c2 T) := hid (by rw [← gX]; exact hed_of w _ m c a2 m2 c2 T)
  have HYT : Hid (((w.alloc (.cells #[.slice (some ⟨tb, to', none⟩) m c, .slice a2 m2 c2] 25)).alloc (.cells #[.int .i64 0, .int .i64 0, .slice none 0 0, .slice none 0 0] 30)).rangeAt tb (to' + n * 10) (tyC T)) := hid (HTA.out.below (below_box2 w _ _) htb).range
  have HTH : Hid ((((w.alloc (.cells #[.slice (some ⟨tb, to', none⟩) m c, .slice a2 m2 c2] 25)).alloc (.cells #[.int .i64 0, .int .i64 0, .slice none 0 0, .slice none 0 0] 30)).alloc (.cells #[.int .i64 0, .int .i64 0, .int .i64 0, .int .i64 0, .int .i64 0, .string ⟨#[]⟩, .slice none 0 0, .slice none 0 0, .slice none 0 0, .slice none 0 0] 52)).there (w.heap.size + 1 + 1) 0 10) := hid (there_of_block (t := 52) (C := [Value.int .i64 0, .int .i64 0, .int .i64 0, .int .i64 0, .int .i64 0, .string ⟨#[]⟩, .slice none 0 0, .slice none 0 0, .slice none 0 0, .slice none 0 0]) (heap3 w _ _ _).2.2 0 10 (by simp))
  have HO1 : Hid ((tyC T).toArray.all (·.oneCell') = true) := hid (by simp [tyC, Value.oneCell'])
  have HL10 : Hid ((tyC T).length = 10) := hid rfl
  have q : ∀ u v, (tyC T)[u]? = some v → X.cell? ⟨w.heap.size + 1 + 1, u, none⟩ = some v := fun u v hv => by
    rw [cell_of_row X _ u _ _ _ HX.out.b2]; simpa using hv
  have q0 : X.cell? ⟨w.heap.size + 1 + 1, 0, none⟩ = some (.int .i64 T.k) := q 0 _ rfl
  have x0 := HX.out.b0
  have y0 : X.cell? ⟨w.heap.size, 0, none⟩ = some (.slice (some ⟨tb, to', none⟩) m c) := cell_of_row _ _ 0 _ _ _ x0
  have y1 : X.cell? ⟨w.heap.size, 1, none⟩ = some (.slice a2 m2 c2) := cell_of_row _ _ 1 _ _ _ x0
  obtain ⟨C, hC, x1⟩ := HX.out.b1
  have HC := hid hC
  have HX1 := hid x1
  have HYX : Hid (X.rangeAt (w.heap.size + 1 + 1) 0 (tyC T)) := hid (rangeAt_block HX.out.b2)
  obtain ⟨kd, hkd⟩ : ∃ kd, kd = rkindI T ⟨0, 0, none, 0, 0, none, 0, 0, []⟩ := ⟨_, rfl⟩
  have k0 : Hid (Calls Try.prog 65 #[.agg (tyC T).toArray, .agg #[.int .i64 0, .int .i64 0, .slice none 0 0, .slice none 0 0]] X fun e w' => e = .returned (.int .i64 kd) ∧ Below X.heap.size X w') := hid (hkd ▸ rkind_any T ⟨0, 0, none, 0, 0, none, 0, 0, []⟩ X)
  have HKD := hid hkd
  clear hkd
  rw [hk] at q0
  clear x0 x1 hC q
  generalize hTC : tyC T = TC at *
  have HTC := hid hTC
  have GX := hid gX
  have HTS := hid hts
  have HL := hid hl
  clear hTC gX hts hl hT
  have hst1 := (run_cells_mid (P := Try.prog) _ (w.heap.size + 1 + 1) 0 TC (by rw [HL10.out]; exact HTH.out) HO1.out).trans (congrArg _ GX.out)
  go_enter Try.func38, Try.ntmps38
  go_wp2_with (first
    | (refine wpList_load_mid rfl 52 (.tmp 13) rfl tb (to' + n * 10) rfl TC _ HYT.out Try.underlying52 rfl (by rw [HL10.out]; exact csizeT) ?_)
    | (refine wpList_load_mid rfl 52 (.tmp 5) rfl (w.heap.size + 1 + 1) 0 rfl TC _ HYX.out Try.underlying52 rfl (by rw [HL10.out]; exact csizeT) ?_))
  refine k0.out.mono ?_
  rintro e w1 ⟨rfl, hb1⟩
  have hs1 : w.heap.size + 1 + 1 < w1.heap.size := by have := hb1.size; have := HX.out.s; omega
  have v0 : w1.heap[w.heap.size]? = some (.cells #[.slice (some ⟨tb, to', none⟩) m c, .slice a2 m2 c2] 25 (0, 0)) := (hb1.block _ (by rw [HX.out.s]; omega)).trans HX.out.b0
  have v1 : w1.heap[w.heap.size + 1]? = some (.cells C.toArray 30 (0, 0)) := (hb1.block _ (by rw [HX.out.s]; omega)).trans HX1.out
  have v2 : w1.heap[w.heap.size + 1 + 1]? = some (.cells (tyC T).toArray 52 (0, 0)) := (hb1.block _ (by rw [HX.out.s]; omega)).trans HX.out.b2
  have HB1 : Hid (Below w.heap.size w w1) := hid (HX.out.B.trans (hb1.mono HX.out.B.size))
  have HBw1 := hid hb1
  obtain ⟨Y0, gY0⟩ : ∃ Y0, Y0 = w1.alloc (.cells #[.int .i64 kd, .int .i64 0, .slice none 0 0, .slice none 0 0] 30) := ⟨_, rfl⟩
  have bY0 : Below w1.heap.size w1 Y0 := by rw [gY0]; exact below_box _ _
  have HYs : Hid (Y0.heap.size = w1.heap.size + 1) := hid (by rw [gY0]; simp)
  have VP0 : Hid (Y0.heap[w1.heap.size]? = some (.cells #[.int .i64 kd, .int .i64 0, .slice none 0 0, .slice none 0 0] 30 (0, 0))) := hid (by rw [gY0]; exact heap_alloc_new _ _)
  obtain ⟨Y, gY⟩ : ∃ Y, Y = Y0 := ⟨_, rfl⟩
  have bY : Below w1.heap.size w1 Y := by rw [gY]; exact bY0
  have VP : Hid (Y.heap[w1.heap.size]? = some (.cells #[.int .i64 kd, .int .i64 0, .slice none 0 0, .slice none 0 0] 30 (0, 0))) := hid (by rw [gY]; exact VP0.out)
  have V1 := hid ((bY.block _ (by omega)).trans v1)
  have V2 := (bY.block _ (by omega)).trans v2
  have HBY : Hid (Below w.heap.size w Y) := hid (HB1.out.trans (bY.mono HB1.out.size))
  have r : ∀ u v, (tyC T)[u]? = some v → w1.cell? ⟨w.heap.size + 1 + 1, u, none⟩ = some v := fun u v hv => by
    rw [cell_of_row w1 _ u _ _ _ v2]; simpa using hv
  have r0 : w1.cell? ⟨w.heap.size + 1 + 1, 0, none⟩ = some (.int .i64 T.k) := r 0 _ rfl
  rw [hk] at r0
  have r8 : w1.cell? ⟨w.heap.size + 1 + 1, 8, none⟩ = some (.slice T.ea 0 T.ec) := by rw [← Int.toNat_natCast 0]; have := r 8 _ rfl; rw [he0] at this; exact this
  have s8 : Hid (Y.cell? ⟨w.heap.size + 1 + 1, 8, none⟩ = some (.slice T.ea 0 T.ec)) := hid (by rw [cell_of_row Y _ 8 _ _ _ V2, ← he0]; rfl)
  have GY : Hid (w1.alloc (.cells #[.int .i64 kd, .int .i64 0, .slice none 0 0, .slice none 0 0] 30) = Y) := hid (by rw [gY, gY0])
  have GY0 := hid gY0
  have HFN : Hid (Oka (w.heap.size + 1 + 1 ≤ ·) (n + 1) Y (.mk ⟨kd, 0, none, 0, 0, none, 0, 0, []⟩ [])) := hid (Okb.oka (n + 1) _ (none_okb _ _))
  have HLS : Hid (Lst l (n + 1) n (.mk ⟨kd, 0, none, 0, 0, none, 0, 0, []⟩ [])) := hid ⟨T, HLn.out, by rw [HKD.out]; simp [lstH, rkindI, hk, Ar.h], by simp [kdT, hk, Ar.ks, AllL]⟩
  clear hb1 v0 v1 v2 V2 r bY bY0 gY gY0 k0
  go_wp2_with fail
  rw [GY.out]
  clear r0 r8
  go_loopw [58] (fun k wr => k = .int .i64 0 ∧ wr = Y) (fun _ _ => 1)
  case atStart => exact ⟨rfl, by first | rfl | trivial⟩
  case round =>
    obtain ⟨rfl, rfl⟩ := hrel
    have s8' := s8.out
    obtain ⟨W, gW⟩ : ∃ W, wr.setCells (w.heap.size + 1) 0 (arC ⟨kd, 0, none, 0, 0, none, 0, 0, []⟩) = W := ⟨_, rfl⟩
    have HE := hid (rleast_end HBY.out V1.out HC.out HFN.out)
    simp only [Ar.h, gW] at HE
    have GW := hid gW
    have p0 : wr.cell? ⟨w1.heap.size, 0, none⟩ = some (.int .i64 kd) := cell_of_row _ _ 0 _ _ _ VP.out
    have p1 : wr.cell? ⟨w1.heap.size, 1, none⟩ = some (.int .i64 0) := cell_of_row _ _ 1 _ _ _ VP.out
    have p2 : wr.cell? ⟨w1.heap.size, 2, none⟩ = some (.slice none 0 0) := cell_of_row _ _ 2 _ _ _ VP.out
    have p3 : wr.cell? ⟨w1.heap.size, 3, none⟩ = some (.slice none 0 0) := cell_of_row _ _ 3 _ _ _ VP.out
    clear gW
    go_wp2_with (refine wpList_store_as rfl 30 (.tmp 4) (.tmp 82) rfl (w.heap.size + 1) 0 (arC ⟨kd, 0, none, 0, 0, none, 0, 0, []⟩).toArray rfl rfl (there_of_block V1.out 0 4 (by rw [HC.out]; decide)) csizeA (by simp [arC, Value.oneCell']) W GW.out ?_)
    refine bodyPost_ret (cell_result rfl _ _ (w.heap.size + 1) 0 rfl (arC ⟨kd, 0, none, 0, 0, none, 0, 0, []⟩) _ HE.out.1 Try.underlying30 rfl csizeA) rfl ?_
    exact ⟨.mk ⟨kd, 0, none, 0, 0, none, 0, 0, []⟩ [], rfl, HE.out.2.1, HLS.out, HE.out.2.2⟩

set_option maxHeartbeats 8000000 in
theorem rleast_4 (a : Option Addr) (m c : Nat) (a2 : Option Addr) (m2 c2 : Nat) (l : List Ty) (n : Nat) (hm : l.length = m) (hmb : m ≤ 9223372036854775807) (w : World) (hT : Tys w a l) (hn : n < l.length) (T : Ty) (hl : l[n] = T) (hk : T.k = 4) (he0 : T.en = 0) :
    Calls Try.prog 38 #[.agg #[.slice a m c, .slice a2 m2 c2], .int .i64 n] w fun e w' => ∃ A : Ar, e = .returned (.agg #[.int .i64 A.h.k, .int .i64 A.h.v, .slice A.h.ka A.h.kn A.h.kc, .slice A.h.ba A.h.bn A.h.bc]) ∧ Oka (w.heap.size ≤ ·) (n + 1) w' A ∧ Lst l (n + 1) n A ∧ Below w.heap.size w w' := by
  have HT := hid hT
  obtain ⟨tb, to', rfl, htb, hts⟩ := hT (by omega)
  have HTA := hid (hl ▸ (hts n hn).1)
  have HTO := hid (hl ▸ (hts n hn).2)
  have HLn : Hid (l[n]? = some T) := hid (by rw [List.getElem?_eq_getElem hn, hl])
  have hnm : (n : Int) < (m : Int) := by omega
  obtain ⟨X, gX⟩ : ∃ X, (((w.alloc (.cells #[.slice (some ⟨tb, to', none⟩) m c, .slice a2 m2 c2] 25)).alloc (.cells #[.int .i64 0, .int .i64 0, .slice none 0 0, .slice none 0 0] 30)).alloc (.cells #[.int .i64 0, .int .i64 0, .int .i64 0, .int .i64 0, .int .i64 0, .string ⟨#[]⟩, .slice none 0 0, .slice none 0 0, .slice none 0 0, .slice none 0 0] 52)).setCells (w.heap.size + 1 + 1) 0 (tyC T) = X := ⟨_, rfl⟩
  have HX : Hid (Hed w X (some ⟨tb, to', none⟩) m c a2 m2 c2 T) := hid (by rw [← gX]; exact hed_of w _ m c a2 m2 c2 T)
  have HYT : Hid (((w.alloc (.cells #[.slice (some ⟨tb, to', none⟩) m c, .slice a2 m2 c2] 25)).alloc (.cells #[.int .i64 0, .int .i64 0, .slice none 0 0, .slice none 0 0] 30)).rangeAt tb (to' + n * 10) (tyC T)) := hid (HTA.out.below (below_box2 w _ _) htb).range
  have HTH : Hid ((((w.alloc (.cells #[.slice (some ⟨tb, to', none⟩) m c, .slice a2 m2 c2] 25)).alloc (.cells #[.int .i64 0, .int .i64 0, .slice none 0 0, .slice none 0 0] 30)).alloc (.cells #[.int .i64 0, .int .i64 0, .int .i64 0, .int .i64 0, .int .i64 0, .string ⟨#[]⟩, .slice none 0 0, .slice none 0 0, .slice none 0 0, .slice none 0 0] 52)).there (w.heap.size + 1 + 1) 0 10) := hid (there_of_block (t := 52) (C := [Value.int .i64 0, .int .i64 0, .int .i64 0, .int .i64 0, .int .i64 0, .string ⟨#[]⟩, .slice none 0 0, .slice none 0 0, .slice none 0 0, .slice none 0 0]) (heap3 w _ _ _).2.2 0 10 (by simp))
  have HO1 : Hid ((tyC T).toArray.all (·.oneCell') = true) := hid (by simp [tyC, Value.oneCell'])
  have HL10 : Hid ((tyC T).length = 10) := hid rfl
  have q : ∀ u v, (tyC T)[u]? = some v → X.cell? ⟨w.heap.size + 1 + 1, u, none⟩ = some v := fun u v hv => by
    rw [cell_of_row X _ u _ _ _ HX.out.b2]; simpa using hv
  have q0 : X.cell? ⟨w.heap.size + 1 + 1, 0, none⟩ = some (.int .i64 T.k) := q 0 _ rfl
  have x0 := HX.out.b0
  have y0 : X.cell? ⟨w.heap.size, 0, none⟩ = some (.slice (some ⟨tb, to', none⟩) m c) := cell_of_row _ _ 0 _ _ _ x0
  have y1 : X.cell? ⟨w.heap.size, 1, none⟩ = some (.slice a2 m2 c2) := cell_of_row _ _ 1 _ _ _ x0
  obtain ⟨C, hC, x1⟩ := HX.out.b1
  have HC := hid hC
  have HX1 := hid x1
  have HYX : Hid (X.rangeAt (w.heap.size + 1 + 1) 0 (tyC T)) := hid (rangeAt_block HX.out.b2)
  obtain ⟨kd, hkd⟩ : ∃ kd, kd = rkindI T ⟨0, 0, none, 0, 0, none, 0, 0, []⟩ := ⟨_, rfl⟩
  have k0 : Hid (Calls Try.prog 65 #[.agg (tyC T).toArray, .agg #[.int .i64 0, .int .i64 0, .slice none 0 0, .slice none 0 0]] X fun e w' => e = .returned (.int .i64 kd) ∧ Below X.heap.size X w') := hid (hkd ▸ rkind_any T ⟨0, 0, none, 0, 0, none, 0, 0, []⟩ X)
  have HKD := hid hkd
  clear hkd
  rw [hk] at q0
  clear x0 x1 hC q
  generalize hTC : tyC T = TC at *
  have HTC := hid hTC
  have GX := hid gX
  have HTS := hid hts
  have HL := hid hl
  clear hTC gX hts hl hT
  have hst1 := (run_cells_mid (P := Try.prog) _ (w.heap.size + 1 + 1) 0 TC (by rw [HL10.out]; exact HTH.out) HO1.out).trans (congrArg _ GX.out)
  go_enter Try.func38, Try.ntmps38
  go_wp2_with (first
    | (refine wpList_load_mid rfl 52 (.tmp 13) rfl tb (to' + n * 10) rfl TC _ HYT.out Try.underlying52 rfl (by rw [HL10.out]; exact csizeT) ?_)
    | (refine wpList_load_mid rfl 52 (.tmp 5) rfl (w.heap.size + 1 + 1) 0 rfl TC _ HYX.out Try.underlying52 rfl (by rw [HL10.out]; exact csizeT) ?_))
  refine k0.out.mono ?_
  rintro e w1 ⟨rfl, hb1⟩
  have hs1 : w.heap.size + 1 + 1 < w1.heap.size := by have := hb1.size; have := HX.out.s; omega
  have v0 : w1.heap[w.heap.size]? = some (.cells #[.slice (some ⟨tb, to', none⟩) m c, .slice a2 m2 c2] 25 (0, 0)) := (hb1.block _ (by rw [HX.out.s]; omega)).trans HX.out.b0
  have v1 : w1.heap[w.heap.size + 1]? = some (.cells C.toArray 30 (0, 0)) := (hb1.block _ (by rw [HX.out.s]; omega)).trans HX1.out
  have v2 : w1.heap[w.heap.size + 1 + 1]? = some (.cells (tyC T).toArray 52 (0, 0)) := (hb1.block _ (by rw [HX.out.s]; omega)).trans HX.out.b2
  have HB1 : Hid (Below w.heap.size w w1) := hid (HX.out.B.trans (hb1.mono HX.out.B.size))
  have HBw1 := hid hb1
  obtain ⟨Y0, gY0⟩ : ∃ Y0, Y0 = w1.alloc (.cells #[.int .i64 kd, .int .i64 0, .slice none 0 0, .slice none 0 0] 30) := ⟨_, rfl⟩
  have bY0 : Below w1.heap.size w1 Y0 := by rw [gY0]; exact below_box _ _
  have HYs : Hid (Y0.heap.size = w1.heap.size + 1) := hid (by rw [gY0]; simp)
  have VP0 : Hid (Y0.heap[w1.heap.size]? = some (.cells #[.int .i64 kd, .int .i64 0, .slice none 0 0, .slice none 0 0] 30 (0, 0))) := hid (by rw [gY0]; exact heap_alloc_new _ _)
  obtain ⟨Y, gY⟩ : ∃ Y, Y = Y0 := ⟨_, rfl⟩
  have bY : Below w1.heap.size w1 Y := by rw [gY]; exact bY0
  have VP : Hid (Y.heap[w1.heap.size]? = some (.cells #[.int .i64 kd, .int .i64 0, .slice none 0 0, .slice none 0 0] 30 (0, 0))) := hid (by rw [gY]; exact VP0.out)
  have V1 := hid ((bY.block _ (by omega)).trans v1)
  have V2 := (bY.block _ (by omega)).trans v2
  have HBY : Hid (Below w.heap.size w Y) := hid (HB1.out.trans (bY.mono HB1.out.size))
  have r : ∀ u v, (tyC T)[u]? = some v → w1.cell? ⟨w.heap.size + 1 + 1, u, none⟩ = some v := fun u v hv => by
    rw [cell_of_row w1 _ u _ _ _ v2]; simpa using hv
  have r0 : w1.cell? ⟨w.heap.size + 1 + 1, 0, none⟩ = some (.int .i64 T.k) := r 0 _ rfl
  rw [hk] at r0
  have r8 : w1.cell? ⟨w.heap.size + 1 + 1, 8, none⟩ = some (.slice T.ea 0 T.ec) := by rw [← Int.toNat_natCast 0]; have := r 8 _ rfl; rw [he0] at this; exact this
  have s8 : Hid (Y.cell? ⟨w.heap.size + 1 + 1, 8, none⟩ = some (.slice T.ea 0 T.ec)) := hid (by rw [cell_of_row Y _ 8 _ _ _ V2, ← he0]; rfl)
  have GY : Hid (w1.alloc (.cells #[.int .i64 kd, .int .i64 0, .slice none 0 0, .slice none 0 0] 30) = Y) := hid (by rw [gY, gY0])
  have GY0 := hid gY0
  have HFN : Hid (Oka (w.heap.size + 1 + 1 ≤ ·) (n + 1) Y (.mk ⟨kd, 0, none, 0, 0, none, 0, 0, []⟩ [])) := hid (Okb.oka (n + 1) _ (none_okb _ _))
  have HLS : Hid (Lst l (n + 1) n (.mk ⟨kd, 0, none, 0, 0, none, 0, 0, []⟩ [])) := hid ⟨T, HLn.out, by rw [HKD.out]; simp [lstH, rkindI, hk, Ar.h], by simp [kdT, hk, Ar.ks, AllL]⟩
  clear hb1 v0 v1 v2 V2 r bY bY0 gY gY0 k0
  go_wp2_with fail
  rw [GY.out]
  clear r0 r8
  go_loopw [58] (fun k wr => k = .int .i64 0 ∧ wr = Y) (fun _ _ => 1)
  case atStart => exact ⟨rfl, by first | rfl | trivial⟩
  case round =>
    obtain ⟨rfl, rfl⟩ := hrel
    have s8' := s8.out
    obtain ⟨W, gW⟩ : ∃ W, wr.setCells (w.heap.size + 1) 0 (arC ⟨kd, 0, none, 0, 0, none, 0, 0, []⟩) = W := ⟨_, rfl⟩
    have HE := hid (rleast_end HBY.out V1.out HC.out HFN.out)
    simp only [Ar.h, gW] at HE
    have GW := hid gW
    have p0 : wr.cell? ⟨w1.heap.size, 0, none⟩ = some (.int .i64 kd) := cell_of_row _ _ 0 _ _ _ VP.out
    have p1 : wr.cell? ⟨w1.heap.size, 1, none⟩ = some (.int .i64 0) := cell_of_row _ _ 1 _ _ _ VP.out
    have p2 : wr.cell? ⟨w1.heap.size, 2, none⟩ = some (.slice none 0 0) := cell_of_row _ _ 2 _ _ _ VP.out
    have p3 : wr.cell? ⟨w1.heap.size, 3, none⟩ = some (.slice none 0 0) := cell_of_row _ _ 3 _ _ _ VP.out
    clear gW
    go_wp2_with (refine wpList_store_as rfl 30 (.tmp 4) (.tmp 82) rfl (w.heap.size + 1) 0 (arC ⟨kd, 0, none, 0, 0, none, 0, 0, []⟩).toArray rfl rfl (there_of_block V1.out 0 4 (by rw [HC.out]; decide)) csizeA (by simp [arC, Value.oneCell']) W GW.out ?_)
    refine bodyPost_ret (cell_result rfl _ _ (w.heap.size + 1) 0 rfl (arC ⟨kd, 0, none, 0, 0, none, 0, 0, []⟩) _ HE.out.1 Try.underlying30 rfl csizeA) rfl ?_
    exact ⟨.mk ⟨kd, 0, none, 0, 0, none, 0, 0, []⟩ [], rfl, HE.out.2.1, HLS.out, HE.out.2.2⟩

set_option maxHeartbeats 8000000 in
theorem rleast_1 (a : Option Addr) (m c : Nat) (a2 : Option Addr) (m2 c2 : Nat) (l : List Ty) (n : Nat) (hm : l.length = m) (hmb : m ≤ 9223372036854775807) (w : World) (hT : Tys w a l) (hn : n < l.length) (T : Ty) (hl : l[n] = T) (hk : T.k = 1) (he0 : T.en = 0) :
    Calls Try.prog 38 #[.agg #[.slice a m c, .slice a2 m2 c2], .int .i64 n] w fun e w' => ∃ A : Ar, e = .returned (.agg #[.int .i64 A.h.k, .int .i64 A.h.v, .slice A.h.ka A.h.kn A.h.kc, .slice A.h.ba A.h.bn A.h.bc]) ∧ Oka (w.heap.size ≤ ·) (n + 1) w' A ∧ Lst l (n + 1) n A ∧ Below w.heap.size w w' := by
  have HT := hid hT
  obtain ⟨tb, to', rfl, htb, hts⟩ := hT (by omega)
  have HTA := hid (hl ▸ (hts n hn).1)
  have HTO := hid (hl ▸ (hts n hn).2)
  have HLn : Hid (l[n]? = some T) := hid (by rw [List.getElem?_eq_getElem hn, hl])
  have hnm : (n : Int) < (m : Int) := by omega
  obtain ⟨X, gX⟩ : ∃ X, (((w.alloc (.cells #[.slice (some ⟨tb, to', none⟩) m c, .slice a2 m2 c2] 25)).alloc (.cells #[.int .i64 0, .int .i64 0, .slice none 0 0, .slice none 0 0] 30)).alloc (.cells #[.int .i64 0, .int .i64 0, .int .i64 0, .int .i64 0, .int .i64 0, .string ⟨#[]⟩, .slice none 0 0, .slice none 0 0, .slice none 0 0, .slice none 0 0] 52)).setCells (w.heap.size + 1 + 1) 0 (tyC T) = X := ⟨_, rfl⟩
  have HX : Hid (Hed w X (some ⟨tb, to', none⟩) m c a2 m2 c2 T) := hid (by rw [← gX]; exact hed_of w _ m c a2 m2 c2 T)
  have HYT : Hid (((w.alloc (.cells #[.slice (some ⟨tb, to', none⟩) m c, .slice a2 m2 c2] 25)).alloc (.cells #[.int .i64 0, .int .i64 0, .slice none 0 0, .slice none 0 0] 30)).rangeAt tb (to' + n * 10) (tyC T)) := hid (HTA.out.below (below_box2 w _ _) htb).range
  have HTH : Hid ((((w.alloc (.cells #[.slice (some ⟨tb, to', none⟩) m c, .slice a2 m2 c2] 25)).alloc (.cells #[.int .i64 0, .int .i64 0, .slice none 0 0, .slice none 0 0] 30)).alloc (.cells #[.int .i64 0, .int .i64 0, .int .i64 0, .int .i64 0, .int .i64 0, .string ⟨#[]⟩, .slice none 0 0, .slice none 0 0, .slice none 0 0, .slice none 0 0] 52)).there (w.heap.size + 1 + 1) 0 10) := hid (there_of_block (t := 52) (C := [Value.int .i64 0, .int .i64 0, .int .i64 0, .int .i64 0, .int .i64 0, .string ⟨#[]⟩, .slice none 0 0, .slice none 0 0, .slice none 0 0, .slice none 0 0]) (heap3 w _ _ _).2.2 0 10 (by simp))
  have HO1 : Hid ((tyC T).toArray.all (·.oneCell') = true) := hid (by simp [tyC, Value.oneCell'])
  have HL10 : Hid ((tyC T).length = 10) := hid rfl
  have q : ∀ u v, (tyC T)[u]? = some v → X.cell? ⟨w.heap.size + 1 + 1, u, none⟩ = some v := fun u v hv => by
    rw [cell_of_row X _ u _ _ _ HX.out.b2]; simpa using hv
  have q0 : X.cell? ⟨w.heap.size + 1 + 1, 0, none⟩ = some (.int .i64 T.k) := q 0 _ rfl
  have x0 := HX.out.b0
  have y0 : X.cell? ⟨w.heap.size, 0, none⟩ = some (.slice (some ⟨tb, to', none⟩) m c) := cell_of_row _ _ 0 _ _ _ x0
  have y1 : X.cell? ⟨w.heap.size, 1, none⟩ = some (.slice a2 m2 c2) := cell_of_row _ _ 1 _ _ _ x0
  obtain ⟨C, hC, x1⟩ := HX.out.b1
  have HC := hid hC
  have HX1 := hid x1
  have HYX : Hid (X.rangeAt (w.heap.size + 1 + 1) 0 (tyC T)) := hid (rangeAt_block HX.out.b2)
  obtain ⟨kd, hkd⟩ : ∃ kd, kd = rkindI T ⟨0, 0, none, 0, 0, none, 0, 0, []⟩ := ⟨_, rfl⟩
  have k0 : Hid (Calls Try.prog 65 #[.agg (tyC T).toArray, .agg #[.int .i64 0, .int .i64 0, .slice none 0 0, .slice none 0 0]] X fun e w' => e = .returned (.int .i64 kd) ∧ Below X.heap.size X w') := hid (hkd ▸ rkind_any T ⟨0, 0, none, 0, 0, none, 0, 0, []⟩ X)
  have HKD := hid hkd
  clear hkd
  rw [hk] at q0
  clear x0 x1 hC q
  generalize hTC : tyC T = TC at *
  have HTC := hid hTC
  have GX := hid gX
  have HTS := hid hts
  have HL := hid hl
  clear hTC gX hts hl hT
  have hst1 := (run_cells_mid (P := Try.prog) _ (w.heap.size + 1 + 1) 0 TC (by rw [HL10.out]; exact HTH.out) HO1.out).trans (congrArg _ GX.out)
  go_enter Try.func38, Try.ntmps38
  go_wp2_with (first
    | (refine wpList_load_mid rfl 52 (.tmp 13) rfl tb (to' + n * 10) rfl TC _ HYT.out Try.underlying52 rfl (by rw [HL10.out]; exact csizeT) ?_)
    | (refine wpList_load_mid rfl 52 (.tmp 5) rfl (w.heap.size + 1 + 1) 0 rfl TC _ HYX.out Try.underlying52 rfl (by rw [HL10.out]; exact csizeT) ?_))
  refine k0.out.mono ?_
  rintro e w1 ⟨rfl, hb1⟩
  have hs1 : w.heap.size + 1 + 1 < w1.heap.size := by have := hb1.size; have := HX.out.s; omega
  have v0 : w1.heap[w.heap.size]? = some (.cells #[.slice (some ⟨tb, to', none⟩) m c, .slice a2 m2 c2] 25 (0, 0)) := (hb1.block _ (by rw [HX.out.s]; omega)).trans HX.out.b0
  have v1 : w1.heap[w.heap.size + 1]? = some (.cells C.toArray 30 (0, 0)) := (hb1.block _ (by rw [HX.out.s]; omega)).trans HX1.out
  have v2 : w1.heap[w.heap.size + 1 + 1]? = some (.cells (tyC T).toArray 52 (0, 0)) := (hb1.block _ (by rw [HX.out.s]; omega)).trans HX.out.b2
  have HB1 : Hid (Below w.heap.size w w1) := hid (HX.out.B.trans (hb1.mono HX.out.B.size))
  have HBw1 := hid hb1
  obtain ⟨Y0, gY0⟩ : ∃ Y0, Y0 = w1.alloc (.cells #[.int .i64 kd, .int .i64 T.lo, .slice none 0 0, .slice none 0 0] 30) := ⟨_, rfl⟩
  have bY0 : Below w1.heap.size w1 Y0 := by rw [gY0]; exact below_box _ _
  have HYs : Hid (Y0.heap.size = w1.heap.size + 1) := hid (by rw [gY0]; simp)
  have VP0 : Hid (Y0.heap[w1.heap.size]? = some (.cells #[.int .i64 kd, .int .i64 T.lo, .slice none 0 0, .slice none 0 0] 30 (0, 0))) := hid (by rw [gY0]; exact heap_alloc_new _ _)
  obtain ⟨Y, gY⟩ : ∃ Y, Y = Y0 := ⟨_, rfl⟩
  have bY : Below w1.heap.size w1 Y := by rw [gY]; exact bY0
  have VP : Hid (Y.heap[w1.heap.size]? = some (.cells #[.int .i64 kd, .int .i64 T.lo, .slice none 0 0, .slice none 0 0] 30 (0, 0))) := hid (by rw [gY]; exact VP0.out)
  have V1 := hid ((bY.block _ (by omega)).trans v1)
  have V2 := (bY.block _ (by omega)).trans v2
  have HBY : Hid (Below w.heap.size w Y) := hid (HB1.out.trans (bY.mono HB1.out.size))
  have r : ∀ u v, (tyC T)[u]? = some v → w1.cell? ⟨w.heap.size + 1 + 1, u, none⟩ = some v := fun u v hv => by
    rw [cell_of_row w1 _ u _ _ _ v2]; simpa using hv
  have r0 : w1.cell? ⟨w.heap.size + 1 + 1, 0, none⟩ = some (.int .i64 T.k) := r 0 _ rfl
  rw [hk] at r0
  have r8 : w1.cell? ⟨w.heap.size + 1 + 1, 8, none⟩ = some (.slice T.ea 0 T.ec) := by rw [← Int.toNat_natCast 0]; have := r 8 _ rfl; rw [he0] at this; exact this
  have s8 : Hid (Y.cell? ⟨w.heap.size + 1 + 1, 8, none⟩ = some (.slice T.ea 0 T.ec)) := hid (by rw [cell_of_row Y _ 8 _ _ _ V2, ← he0]; rfl)
  have r2 : w1.cell? ⟨w.heap.size + 1 + 1, 2, none⟩ = some (.int .i64 T.lo) := r 2 _ rfl
  have GY : Hid (w1.alloc (.cells #[.int .i64 kd, .int .i64 T.lo, .slice none 0 0, .slice none 0 0] 30) = Y) := hid (by rw [gY, gY0])
  have GY0 := hid gY0
  have HFN : Hid (Oka (w.heap.size + 1 + 1 ≤ ·) (n + 1) Y (.mk ⟨kd, T.lo, none, 0, 0, none, 0, 0, []⟩ [])) := hid (Okb.oka (n + 1) _ (none_okb _ _))
  have HLS : Hid (Lst l (n + 1) n (.mk ⟨kd, T.lo, none, 0, 0, none, 0, 0, []⟩ [])) := hid ⟨T, HLn.out, by rw [HKD.out]; simp [lstH, rkindI, hk, Ar.h], by simp [kdT, hk, Ar.ks, AllL]⟩
  clear hb1 v0 v1 v2 V2 r bY bY0 gY gY0 k0
  go_wp2_with fail
  rw [GY.out]
  clear r0 r8 r2
  go_loopw [58] (fun k wr => k = .int .i64 0 ∧ wr = Y) (fun _ _ => 1)
  case atStart => exact ⟨rfl, by first | rfl | trivial⟩
  case round =>
    obtain ⟨rfl, rfl⟩ := hrel
    have s8' := s8.out
    obtain ⟨W, gW⟩ : ∃ W, wr.setCells (w.heap.size + 1) 0 (arC ⟨kd, T.lo, none, 0, 0, none, 0, 0, []⟩) = W := ⟨_, rfl⟩
    have HE := hid (rleast_end HBY.out V1.out HC.out HFN.out)
    simp only [Ar.h, gW] at HE
    have GW := hid gW
    have p0 : wr.cell? ⟨w1.heap.size, 0, none⟩ = some (.int .i64 kd) := cell_of_row _ _ 0 _ _ _ VP.out
    have p1 : wr.cell? ⟨w1.heap.size, 1, none⟩ = some (.int .i64 T.lo) := cell_of_row _ _ 1 _ _ _ VP.out
    have p2 : wr.cell? ⟨w1.heap.size, 2, none⟩ = some (.slice none 0 0) := cell_of_row _ _ 2 _ _ _ VP.out
    have p3 : wr.cell? ⟨w1.heap.size, 3, none⟩ = some (.slice none 0 0) := cell_of_row _ _ 3 _ _ _ VP.out
    clear gW
    go_wp2_with (refine wpList_store_as rfl 30 (.tmp 4) (.tmp 82) rfl (w.heap.size + 1) 0 (arC ⟨kd, T.lo, none, 0, 0, none, 0, 0, []⟩).toArray rfl rfl (there_of_block V1.out 0 4 (by rw [HC.out]; decide)) csizeA (by simp [arC, Value.oneCell']) W GW.out ?_)
    refine bodyPost_ret (cell_result rfl _ _ (w.heap.size + 1) 0 rfl (arC ⟨kd, T.lo, none, 0, 0, none, 0, 0, []⟩) _ HE.out.1 Try.underlying30 rfl csizeA) rfl ?_
    exact ⟨.mk ⟨kd, T.lo, none, 0, 0, none, 0, 0, []⟩ [], rfl, HE.out.2.1, HLS.out, HE.out.2.2⟩

set_option maxHeartbeats 8000000 in
theorem rleast_2 (a : Option Addr) (m c : Nat) (a2 : Option Addr) (m2 c2 : Nat) (l : List Ty) (n : Nat) (hm : l.length = m) (hmb : m ≤ 9223372036854775807) (w : World) (hT : Tys w a l) (hn : n < l.length) (T : Ty) (hl : l[n] = T) (hk : T.k = 2) (he0 : T.en = 0) :
    Calls Try.prog 38 #[.agg #[.slice a m c, .slice a2 m2 c2], .int .i64 n] w fun e w' => ∃ A : Ar, e = .returned (.agg #[.int .i64 A.h.k, .int .i64 A.h.v, .slice A.h.ka A.h.kn A.h.kc, .slice A.h.ba A.h.bn A.h.bc]) ∧ Oka (w.heap.size ≤ ·) (n + 1) w' A ∧ Lst l (n + 1) n A ∧ Below w.heap.size w w' := by
  have HT := hid hT
  obtain ⟨tb, to', rfl, htb, hts⟩ := hT (by omega)
  have HTA := hid (hl ▸ (hts n hn).1)
  have HTO := hid (hl ▸ (hts n hn).2)
  have HLn : Hid (l[n]? = some T) := hid (by rw [List.getElem?_eq_getElem hn, hl])
  have hnm : (n : Int) < (m : Int) := by omega
  obtain ⟨X, gX⟩ : ∃ X, (((w.alloc (.cells #[.slice (some ⟨tb, to', none⟩) m c, .slice a2 m2 c2] 25)).alloc (.cells #[.int .i64 0, .int .i64 0, .slice none 0 0, .slice none 0 0] 30)).alloc (.cells #[.int .i64 0, .int .i64 0, .int .i64 0, .int .i64 0, .int .i64 0, .string ⟨#[]⟩, .slice none 0 0, .slice none 0 0, .slice none 0 0, .slice none 0 0] 52)).setCells (w.heap.size + 1 + 1) 0 (tyC T) = X := ⟨_, rfl⟩
  have HX : Hid (Hed w X (some ⟨tb, to', none⟩) m c a2 m2 c2 T) := hid (by rw [← gX]; exact hed_of w _ m c a2 m2 c2 T)
  have HYT : Hid (((w.alloc (.cells #[.slice (some ⟨tb, to', none⟩) m c, .slice a2 m2 c2] 25)).alloc (.cells #[.int .i64 0, .int .i64 0, .slice none 0 0, .slice none 0 0] 30)).rangeAt tb (to' + n * 10) (tyC T)) := hid (HTA.out.below (below_box2 w _ _) htb).range
  have HTH : Hid ((((w.alloc (.cells #[.slice (some ⟨tb, to', none⟩) m c, .slice a2 m2 c2] 25)).alloc (.cells #[.int .i64 0, .int .i64 0, .slice none 0 0, .slice none 0 0] 30)).alloc (.cells #[.int .i64 0, .int .i64 0, .int .i64 0, .int .i64 0, .int .i64 0, .string ⟨#[]⟩, .slice none 0 0, .slice none 0 0, .slice none 0 0, .slice none 0 0] 52)).there (w.heap.size + 1 + 1) 0 10) := hid (there_of_block (t := 52) (C := [Value.int .i64 0, .int .i64 0, .int .i64 0, .int .i64 0, .int .i64 0, .string ⟨#[]⟩, .slice none 0 0, .slice none 0 0, .slice none 0 0, .slice none 0 0]) (heap3 w _ _ _).2.2 0 10 (by simp))
  have HO1 : Hid ((tyC T).toArray.all (·.oneCell') = true) := hid (by simp [tyC, Value.oneCell'])
  have HL10 : Hid ((tyC T).length = 10) := hid rfl
  have q : ∀ u v, (tyC T)[u]? = some v → X.cell? ⟨w.heap.size + 1 + 1, u, none⟩ = some v := fun u v hv => by
    rw [cell_of_row X _ u _ _ _ HX.out.b2]; simpa using hv
  have q0 : X.cell? ⟨w.heap.size + 1 + 1, 0, none⟩ = some (.int .i64 T.k) := q 0 _ rfl
  have x0 := HX.out.b0
  have y0 : X.cell? ⟨w.heap.size, 0, none⟩ = some (.slice (some ⟨tb, to', none⟩) m c) := cell_of_row _ _ 0 _ _ _ x0
  have y1 : X.cell? ⟨w.heap.size, 1, none⟩ = some (.slice a2 m2 c2) := cell_of_row _ _ 1 _ _ _ x0
  obtain ⟨C, hC, x1⟩ := HX.out.b1
  have HC := hid hC
  have HX1 := hid x1
  have HYX : Hid (X.rangeAt (w.heap.size + 1 + 1) 0 (tyC T)) := hid (rangeAt_block HX.out.b2)
  obtain ⟨kd, hkd⟩ : ∃ kd, kd = rkindI T ⟨0, 0, none, 0, 0, none, 0, 0, []⟩ := ⟨_, rfl⟩
  have k0 : Hid (Calls Try.prog 65 #[.agg (tyC T).toArray, .agg #[.int .i64 0, .int .i64 0, .slice none 0 0, .slice none 0 0]] X fun e w' => e = .returned (.int .i64 kd) ∧ Below X.heap.size X w') := hid (hkd ▸ rkind_any T ⟨0, 0, none, 0, 0, none, 0, 0, []⟩ X)
  have HKD := hid hkd
  clear hkd
  rw [hk] at q0
  clear x0 x1 hC q
  generalize hTC : tyC T = TC at *
  have HTC := hid hTC
  have GX := hid gX
  have HTS := hid hts
  have HL := hid hl
  clear hTC gX hts hl hT
  have hst1 := (run_cells_mid (P := Try.prog) _ (w.heap.size + 1 + 1) 0 TC (by rw [HL10.out]; exact HTH.out) HO1.out).trans (congrArg _ GX.out)
  go_enter Try.func38, Try.ntmps38
  go_wp2_with (first
    | (refine wpList_load_mid rfl 52 (.tmp 13) rfl tb (to' + n * 10) rfl TC _ HYT.out Try.underlying52 rfl (by rw [HL10.out]; exact csizeT) ?_)
    | (refine wpList_load_mid rfl 52 (.tmp 5) rfl (w.heap.size + 1 + 1) 0 rfl TC _ HYX.out Try.underlying52 rfl (by rw [HL10.out]; exact csizeT) ?_))
  refine k0.out.mono ?_
  rintro e w1 ⟨rfl, hb1⟩
  have hs1 : w.heap.size + 1 + 1 < w1.heap.size := by have := hb1.size; have := HX.out.s; omega
  have v0 : w1.heap[w.heap.size]? = some (.cells #[.slice (some ⟨tb, to', none⟩) m c, .slice a2 m2 c2] 25 (0, 0)) := (hb1.block _ (by rw [HX.out.s]; omega)).trans HX.out.b0
  have v1 : w1.heap[w.heap.size + 1]? = some (.cells C.toArray 30 (0, 0)) := (hb1.block _ (by rw [HX.out.s]; omega)).trans HX1.out
  have v2 : w1.heap[w.heap.size + 1 + 1]? = some (.cells (tyC T).toArray 52 (0, 0)) := (hb1.block _ (by rw [HX.out.s]; omega)).trans HX.out.b2
  have HB1 : Hid (Below w.heap.size w w1) := hid (HX.out.B.trans (hb1.mono HX.out.B.size))
  have HBw1 := hid hb1
  obtain ⟨Y0, gY0⟩ : ∃ Y0, Y0 = w1.alloc (.cells #[.int .i64 kd, .int .i64 T.lo, .slice none 0 0, .slice none 0 0] 30) := ⟨_, rfl⟩
  have bY0 : Below w1.heap.size w1 Y0 := by rw [gY0]; exact below_box _ _
  have HYs : Hid (Y0.heap.size = w1.heap.size + 1) := hid (by rw [gY0]; simp)
  have VP0 : Hid (Y0.heap[w1.heap.size]? = some (.cells #[.int .i64 kd, .int .i64 T.lo, .slice none 0 0, .slice none 0 0] 30 (0, 0))) := hid (by rw [gY0]; exact heap_alloc_new _ _)
  obtain ⟨Y, gY⟩ : ∃ Y, Y = Y0 := ⟨_, rfl⟩
  have bY : Below w1.heap.size w1 Y := by rw [gY]; exact bY0
  have VP : Hid (Y.heap[w1.heap.size]? = some (.cells #[.int .i64 kd, .int .i64 T.lo, .slice none 0 0, .slice none 0 0] 30 (0, 0))) := hid (by rw [gY]; exact VP0.out)
  have V1 := hid ((bY.block _ (by omega)).trans v1)
  have V2 := (bY.block _ (by omega)).trans v2
  have HBY : Hid (Below w.heap.size w Y) := hid (HB1.out.trans (bY.mono HB1.out.size))
  have r : ∀ u v, (tyC T)[u]? = some v → w1.cell? ⟨w.heap.size + 1 + 1, u, none⟩ = some v := fun u v hv => by
    rw [cell_of_row w1 _ u _ _ _ v2]; simpa using hv
  have r0 : w1.cell? ⟨w.heap.size + 1 + 1, 0, none⟩ = some (.int .i64 T.k) := r 0 _ rfl
  rw [hk] at r0
  have r8 : w1.cell? ⟨w.heap.size + 1 + 1, 8, none⟩ = some (.slice T.ea 0 T.ec) := by rw [← Int.toNat_natCast 0]; have := r 8 _ rfl; rw [he0] at this; exact this
  have s8 : Hid (Y.cell? ⟨w.heap.size + 1 + 1, 8, none⟩ = some (.slice T.ea 0 T.ec)) := hid (by rw [cell_of_row Y _ 8 _ _ _ V2, ← he0]; rfl)
  have r2 : w1.cell? ⟨w.heap.size + 1 + 1, 2, none⟩ = some (.int .i64 T.lo) := r 2 _ rfl
  have GY : Hid (w1.alloc (.cells #[.int .i64 kd, .int .i64 T.lo, .slice none 0 0, .slice none 0 0] 30) = Y) := hid (by rw [gY, gY0])
  have GY0 := hid gY0
  have HFN : Hid (Oka (w.heap.size + 1 + 1 ≤ ·) (n + 1) Y (.mk ⟨kd, T.lo, none, 0, 0, none, 0, 0, []⟩ [])) := hid (Okb.oka (n + 1) _ (none_okb _ _))
  have HLS : Hid (Lst l (n + 1) n (.mk ⟨kd, T.lo, none, 0, 0, none, 0, 0, []⟩ [])) := hid ⟨T, HLn.out, by rw [HKD.out]; simp [lstH, rkindI, hk, Ar.h], by simp [kdT, hk, Ar.ks, AllL]⟩
  clear hb1 v0 v1 v2 V2 r bY bY0 gY gY0 k0
  go_wp2_with fail
  rw [GY.out]
  clear r0 r8 r2
  go_loopw [58] (fun k wr => k = .int .i64 0 ∧ wr = Y) (fun _ _ => 1)
  case atStart => exact ⟨rfl, by first | rfl | trivial⟩
  case round =>
    obtain ⟨rfl, rfl⟩ := hrel
    have s8' := s8.out
    obtain ⟨W, gW⟩ : ∃ W, wr.setCells (w.heap.size + 1) 0 (arC ⟨kd, T.lo, none, 0, 0, none, 0, 0, []⟩) = W := ⟨_, rfl⟩
    have HE := hid (rleast_end HBY.out V1.out HC.out HFN.out)
    simp only [Ar.h, gW] at HE
    have GW := hid gW
    have p0 : wr.cell? ⟨w1.heap.size, 0, none⟩ = some (.int .i64 kd) := cell_of_row _ _ 0 _ _ _ VP.out
    have p1 : wr.cell? ⟨w1.heap.size, 1, none⟩ = some (.int .i64 T.lo) := cell_of_row _ _ 1 _ _ _ VP.out
    have p2 : wr.cell? ⟨w1.heap.size, 2, none⟩ = some (.slice none 0 0) := cell_of_row _ _ 2 _ _ _ VP.out
    have p3 : wr.cell? ⟨w1.heap.size, 3, none⟩ = some (.slice none 0 0) := cell_of_row _ _ 3 _ _ _ VP.out
    clear gW
    go_wp2_with (refine wpList_store_as rfl 30 (.tmp 4) (.tmp 82) rfl (w.heap.size + 1) 0 (arC ⟨kd, T.lo, none, 0, 0, none, 0, 0, []⟩).toArray rfl rfl (there_of_block V1.out 0 4 (by rw [HC.out]; decide)) csizeA (by simp [arC, Value.oneCell']) W GW.out ?_)
    refine bodyPost_ret (cell_result rfl _ _ (w.heap.size + 1) 0 rfl (arC ⟨kd, T.lo, none, 0, 0, none, 0, 0, []⟩) _ HE.out.1 Try.underlying30 rfl csizeA) rfl ?_
    exact ⟨.mk ⟨kd, T.lo, none, 0, 0, none, 0, 0, []⟩ [], rfl, HE.out.2.1, HLS.out, HE.out.2.2⟩

set_option maxHeartbeats 8000000 in
theorem rleast_5 (a : Option Addr) (m c : Nat) (a2 : Option Addr) (m2 c2 : Nat) (l : List Ty) (n : Nat) (hm : l.length = m) (hmb : m ≤ 9223372036854775807) (w : World) (hT : Tys w a l) (hn : n < l.length) (T : Ty) (hl : l[n] = T) (hk : T.k = 5) (he0 : T.en = 0) (hvn : 0 < T.vn) :
    Calls Try.prog 38 #[.agg #[.slice a m c, .slice a2 m2 c2], .int .i64 n] w fun e w' => ∃ A : Ar, e = .returned (.agg #[.int .i64 A.h.k, .int .i64 A.h.v, .slice A.h.ka A.h.kn A.h.kc, .slice A.h.ba A.h.bn A.h.bc]) ∧ Oka (w.heap.size ≤ ·) (n + 1) w' A ∧ Lst l (n + 1) n A ∧ Below w.heap.size w w' := by
  have HT := hid hT
  obtain ⟨tb, to', rfl, htb, hts⟩ := hT (by omega)
  have HTA := hid (hl ▸ (hts n hn).1)
  have HTO := hid (hl ▸ (hts n hn).2)
  have HLn : Hid (l[n]? = some T) := hid (by rw [List.getElem?_eq_getElem hn, hl])
  have hnm : (n : Int) < (m : Int) := by omega
  obtain ⟨X, gX⟩ : ∃ X, (((w.alloc (.cells #[.slice (some ⟨tb, to', none⟩) m c, .slice a2 m2 c2] 25)).alloc (.cells #[.int .i64 0, .int .i64 0, .slice none 0 0, .slice none 0 0] 30)).alloc (.cells #[.int .i64 0, .int .i64 0, .int .i64 0, .int .i64 0, .int .i64 0, .string ⟨#[]⟩, .slice none 0 0, .slice none 0 0, .slice none 0 0, .slice none 0 0] 52)).setCells (w.heap.size + 1 + 1) 0 (tyC T) = X := ⟨_, rfl⟩
  have HX : Hid (Hed w X (some ⟨tb, to', none⟩) m c a2 m2 c2 T) := hid (by rw [← gX]; exact hed_of w _ m c a2 m2 c2 T)
  have HYT : Hid (((w.alloc (.cells #[.slice (some ⟨tb, to', none⟩) m c, .slice a2 m2 c2] 25)).alloc (.cells #[.int .i64 0, .int .i64 0, .slice none 0 0, .slice none 0 0] 30)).rangeAt tb (to' + n * 10) (tyC T)) := hid (HTA.out.below (below_box2 w _ _) htb).range
  have HTH : Hid ((((w.alloc (.cells #[.slice (some ⟨tb, to', none⟩) m c, .slice a2 m2 c2] 25)).alloc (.cells #[.int .i64 0, .int .i64 0, .slice none 0 0, .slice none 0 0] 30)).alloc (.cells #[.int .i64 0, .int .i64 0, .int .i64 0, .int .i64 0, .int .i64 0, .string ⟨#[]⟩, .slice none 0 0, .slice none 0 0, .slice none 0 0, .slice none 0 0] 52)).there (w.heap.size + 1 + 1) 0 10) := hid (there_of_block (t := 52) (C := [Value.int .i64 0, .int .i64 0, .int .i64 0, .int .i64 0, .int .i64 0, .string ⟨#[]⟩, .slice none 0 0, .slice none 0 0, .slice none 0 0, .slice none 0 0]) (heap3 w _ _ _).2.2 0 10 (by simp))
  have HO1 : Hid ((tyC T).toArray.all (·.oneCell') = true) := hid (by simp [tyC, Value.oneCell'])
  have HL10 : Hid ((tyC T).length = 10) := hid rfl
  have q : ∀ u v, (tyC T)[u]? = some v → X.cell? ⟨w.heap.size + 1 + 1, u, none⟩ = some v := fun u v hv => by
    rw [cell_of_row X _ u _ _ _ HX.out.b2]; simpa using hv
  have q0 : X.cell? ⟨w.heap.size + 1 + 1, 0, none⟩ = some (.int .i64 T.k) := q 0 _ rfl
  have x0 := HX.out.b0
  have y0 : X.cell? ⟨w.heap.size, 0, none⟩ = some (.slice (some ⟨tb, to', none⟩) m c) := cell_of_row _ _ 0 _ _ _ x0
  have y1 : X.cell? ⟨w.heap.size, 1, none⟩ = some (.slice a2 m2 c2) := cell_of_row _ _ 1 _ _ _ x0
  obtain ⟨C, hC, x1⟩ := HX.out.b1
  have HC := hid hC
  have HX1 := hid x1
  obtain ⟨vb, vo, hva, hvl, hvc⟩ := HTO.out.vs (by rw [HTO.out.vl]; exact hvn)
  obtain ⟨x, gx⟩ : ∃ x, x = T.vs.getD 0 0 := ⟨_, rfl⟩
  have HV0 : Hid (w.cell? ⟨vb, vo, none⟩ = some (.int .i64 x)) := hid (by rw [gx]; exact hvc 0 (by rw [HTO.out.vl]; exact hvn))
  have HVA := hid hva
  have HGx := hid gx
  have hv0 : (0 : Int) < (T.vn : Int) := by omega
  clear hvc hva gx
  have HYX : Hid (X.rangeAt (w.heap.size + 1 + 1) 0 (tyC T)) := hid (rangeAt_block HX.out.b2)
  obtain ⟨kd, hkd⟩ : ∃ kd, kd = rkindI T ⟨0, 0, none, 0, 0, none, 0, 0, []⟩ := ⟨_, rfl⟩
  have k0 : Hid (Calls Try.prog 65 #[.agg (tyC T).toArray, .agg #[.int .i64 0, .int .i64 0, .slice none 0 0, .slice none 0 0]] X fun e w' => e = .returned (.int .i64 kd) ∧ Below X.heap.size X w') := hid (hkd ▸ rkind_any T ⟨0, 0, none, 0, 0, none, 0, 0, []⟩ X)
  have HKD := hid hkd
  clear hkd
  rw [hk] at q0
  clear x0 x1 hC q
  generalize hTC : tyC T = TC at *
  have HTC := hid hTC
  have GX := hid gX
  have HTS := hid hts
  have HL := hid hl
  clear hTC gX hts hl hT
  have hst1 := (run_cells_mid (P := Try.prog) _ (w.heap.size + 1 + 1) 0 TC (by rw [HL10.out]; exact HTH.out) HO1.out).trans (congrArg _ GX.out)
  go_enter Try.func38, Try.ntmps38
  go_wp2_with (first
    | (refine wpList_load_mid rfl 52 (.tmp 13) rfl tb (to' + n * 10) rfl TC _ HYT.out Try.underlying52 rfl (by rw [HL10.out]; exact csizeT) ?_)
    | (refine wpList_load_mid rfl 52 (.tmp 5) rfl (w.heap.size + 1 + 1) 0 rfl TC _ HYX.out Try.underlying52 rfl (by rw [HL10.out]; exact csizeT) ?_))
  refine k0.out.mono ?_
  rintro e w1 ⟨rfl, hb1⟩
  have hs1 : w.heap.size + 1 + 1 < w1.heap.size := by have := hb1.size; have := HX.out.s; omega
  have v0 : w1.heap[w.heap.size]? = some (.cells #[.slice (some ⟨tb, to', none⟩) m c, .slice a2 m2 c2] 25 (0, 0)) := (hb1.block _ (by rw [HX.out.s]; omega)).trans HX.out.b0
  have v1 : w1.heap[w.heap.size + 1]? = some (.cells C.toArray 30 (0, 0)) := (hb1.block _ (by rw [HX.out.s]; omega)).trans HX1.out
  have v2 : w1.heap[w.heap.size + 1 + 1]? = some (.cells (tyC T).toArray 52 (0, 0)) := (hb1.block _ (by rw [HX.out.s]; omega)).trans HX.out.b2
  have HB1 : Hid (Below w.heap.size w w1) := hid (HX.out.B.trans (hb1.mono HX.out.B.size))
  have HBw1 := hid hb1
  obtain ⟨Y0, gY0⟩ : ∃ Y0, Y0 = w1.alloc (.cells #[.int .i64 kd, .int .i64 x, .slice none 0 0, .slice none 0 0] 30) := ⟨_, rfl⟩
  have bY0 : Below w1.heap.size w1 Y0 := by rw [gY0]; exact below_box _ _
  have HYs : Hid (Y0.heap.size = w1.heap.size + 1) := hid (by rw [gY0]; simp)
  have VP0 : Hid (Y0.heap[w1.heap.size]? = some (.cells #[.int .i64 kd, .int .i64 x, .slice none 0 0, .slice none 0 0] 30 (0, 0))) := hid (by rw [gY0]; exact heap_alloc_new _ _)
  obtain ⟨Y, gY⟩ : ∃ Y, Y = Y0 := ⟨_, rfl⟩
  have bY : Below w1.heap.size w1 Y := by rw [gY]; exact bY0
  have VP : Hid (Y.heap[w1.heap.size]? = some (.cells #[.int .i64 kd, .int .i64 x, .slice none 0 0, .slice none 0 0] 30 (0, 0))) := hid (by rw [gY]; exact VP0.out)
  have V1 := hid ((bY.block _ (by omega)).trans v1)
  have V2 := (bY.block _ (by omega)).trans v2
  have HBY : Hid (Below w.heap.size w Y) := hid (HB1.out.trans (bY.mono HB1.out.size))
  have r : ∀ u v, (tyC T)[u]? = some v → w1.cell? ⟨w.heap.size + 1 + 1, u, none⟩ = some v := fun u v hv => by
    rw [cell_of_row w1 _ u _ _ _ v2]; simpa using hv
  have r0 : w1.cell? ⟨w.heap.size + 1 + 1, 0, none⟩ = some (.int .i64 T.k) := r 0 _ rfl
  rw [hk] at r0
  have r8 : w1.cell? ⟨w.heap.size + 1 + 1, 8, none⟩ = some (.slice T.ea 0 T.ec) := by rw [← Int.toNat_natCast 0]; have := r 8 _ rfl; rw [he0] at this; exact this
  have s8 : Hid (Y.cell? ⟨w.heap.size + 1 + 1, 8, none⟩ = some (.slice T.ea 0 T.ec)) := hid (by rw [cell_of_row Y _ 8 _ _ _ V2, ← he0]; rfl)
  have r6 : w1.cell? ⟨w.heap.size + 1 + 1, 6, none⟩ = some (.slice (some ⟨vb, vo, none⟩) T.vn T.vc) := by rw [← HVA.out]; exact r 6 _ rfl
  have rv : w1.cell? ⟨vb, vo, none⟩ = some (.int .i64 x) := (HB1.out.cell (p := ⟨vb, vo, none⟩) hvl).trans HV0.out
  have hvw : vb < w1.heap.size := Nat.lt_of_lt_of_le hvl HB1.out.size
  have GY : Hid (w1.alloc (.cells #[.int .i64 kd, .int .i64 x, .slice none 0 0, .slice none 0 0] 30) = Y) := hid (by rw [gY, gY0])
  have GY0 := hid gY0
  have HFN : Hid (Oka (w.heap.size + 1 + 1 ≤ ·) (n + 1) Y (.mk ⟨kd, x, none, 0, 0, none, 0, 0, []⟩ [])) := hid (Okb.oka (n + 1) _ (none_okb _ _))
  have HLS : Hid (Lst l (n + 1) n (.mk ⟨kd, x, none, 0, 0, none, 0, 0, []⟩ [])) := hid ⟨T, HLn.out, by rw [HKD.out]; simp [lstH, rkindI, hk, Ar.h, HGx.out], by simp [kdT, hk, Ar.ks, AllL]⟩
  clear hb1 v0 v1 v2 V2 r bY bY0 gY gY0 k0
  go_wp2_with fail
  rw [GY.out]
  clear r0 r8 r6 rv
  go_loopw [58] (fun k wr => k = .int .i64 0 ∧ wr = Y) (fun _ _ => 1)
  case atStart => exact ⟨rfl, by first | rfl | trivial⟩
  case round =>
    obtain ⟨rfl, rfl⟩ := hrel
    have s8' := s8.out
    obtain ⟨W, gW⟩ : ∃ W, wr.setCells (w.heap.size + 1) 0 (arC ⟨kd, x, none, 0, 0, none, 0, 0, []⟩) = W := ⟨_, rfl⟩
    have HE := hid (rleast_end HBY.out V1.out HC.out HFN.out)
    simp only [Ar.h, gW] at HE
    have GW := hid gW
    have p0 : wr.cell? ⟨w1.heap.size, 0, none⟩ = some (.int .i64 kd) := cell_of_row _ _ 0 _ _ _ VP.out
    have p1 : wr.cell? ⟨w1.heap.size, 1, none⟩ = some (.int .i64 x) := cell_of_row _ _ 1 _ _ _ VP.out
    have p2 : wr.cell? ⟨w1.heap.size, 2, none⟩ = some (.slice none 0 0) := cell_of_row _ _ 2 _ _ _ VP.out
    have p3 : wr.cell? ⟨w1.heap.size, 3, none⟩ = some (.slice none 0 0) := cell_of_row _ _ 3 _ _ _ VP.out
    clear gW
    go_wp2_with (refine wpList_store_as rfl 30 (.tmp 4) (.tmp 82) rfl (w.heap.size + 1) 0 (arC ⟨kd, x, none, 0, 0, none, 0, 0, []⟩).toArray rfl rfl (there_of_block V1.out 0 4 (by rw [HC.out]; decide)) csizeA (by simp [arC, Value.oneCell']) W GW.out ?_)
    refine bodyPost_ret (cell_result rfl _ _ (w.heap.size + 1) 0 rfl (arC ⟨kd, x, none, 0, 0, none, 0, 0, []⟩) _ HE.out.1 Try.underlying30 rfl csizeA) rfl ?_
    exact ⟨.mk ⟨kd, x, none, 0, 0, none, 0, 0, []⟩ [], rfl, HE.out.2.1, HLS.out, HE.out.2.2⟩

end Go.Proofs.Ytkgejeamcgodhaa
