/- The least argument of a type: the program's least, case by case (bytes). Written by gen_least.py. -/
import Derived.Test.YtkgejeamcgodhaaGLeast7
import Derived.Lib.ConvBytes
namespace Go.Proofs.Ytkgejeamcgodhaa
open Go.RowKit
set_option linter.unusedVariables false
set_option maxRecDepth 20000

/-- The bytes of a text in new memory, as 'convert' lays them. -/
theorem bytesWorld_below (w : World) (s : ByteArray) : Below w.heap.size w (Lib.bytesWorld w 5 s) :=
  ⟨rfl, rfl, rfl, by rw [Lib.bytesWorld_size]; omega, fun k hk => Lib.bytesWorld_at_old w 5 s k hk⟩
theorem bytesWorld_src (w : World) (s : ByteArray) : Src (Lib.bytesWorld w 5 s) (some ⟨w.heap.size, 0, none⟩) s.size (numsOf s) :=
  ⟨length_numsOf s, fun _ => ⟨w.heap.size, 0, rfl, by rw [Lib.bytesWorld_size]; omega, fun j hj => by
    rw [Nat.zero_add, Lib.bytesWorld_cell w 5 s j hj]
    have : j < s.data.toList.length := by simpa using hj
    simp [numsOf, List.getD, List.getElem?_eq_getElem this]⟩⟩
theorem infoB : (Try.prog.info? 5).map (fun i => (i.zero, i.size, i.bytes)) = some (some (.int .u8 0), 1, 1) := by kernel_rfl
theorem made_src (w : World) (n : Nat) : Src (w.alloc (.cells (madeCells #[Value.int .u8 0] n) 5)) (some ⟨w.heap.size, 0, none⟩) n (List.replicate n 0) :=
  ⟨by simp, fun _ => ⟨w.heap.size, 0, rfl, by simp, fun j hj => by
    rw [Nat.zero_add, cell_of_row _ _ j _ 5 (0, 0) (heap_alloc_new w _)]
    simp [madeCells, hj, Nat.mod_one, List.getD]⟩⟩

set_option maxHeartbeats 8000000 in
theorem least_10 (a : Option Addr) (m c : Nat) (a2 : Option Addr) (m2 c2 : Nat) (l : List Ty) (n : Nat) (hm : l.length = m) (hmb : m ≤ 9223372036854775807) (w : World) (hT : Tys w a l) (hn : n < l.length) (T : Ty) (hl : l[n] = T) (hk : T.k = 10) (htn : 0 < T.tn) (hts0 : (T.ts.getD 0 .empty).size ≤ 24) :
    Calls Try.prog 37 #[.agg #[.slice a m c, .slice a2 m2 c2], .int .i64 n] w fun e w' => ∃ A : Ar, e = .returned (.agg #[.int .i64 A.h.k, .int .i64 A.h.v, .slice A.h.ka A.h.kn A.h.kc, .slice A.h.ba A.h.bn A.h.bc]) ∧ Okb w.heap.size (n + 1) w' A ∧ Lst l (n + 1) n A ∧ Below w.heap.size w w' := by
  have HT := hid hT
  obtain ⟨tb, to', rfl, htb, hts⟩ := hT (by omega)
  have HTA := hid (hl ▸ (hts n hn).1)
  have HTO := hid (hl ▸ (hts n hn).2)
  have HLn : Hid (l[n]? = some T) := hid (by rw [List.getElem?_eq_getElem hn, hl])
  have hnm : (n : Int) < (m : Int) := by omega
  obtain ⟨X, gX⟩ : ∃ X, (((w.alloc (.cells #[.slice (some ⟨tb, to', none⟩) m c, .slice a2 m2 c2] 25)).alloc (.cells #[.int .i64 0, .int .i64 0, .slice none 0 0, .slice none 0 0] 30)).alloc (.cells #[.int .i64 0, .int .i64 0, .int .i64 0, .int .i64 0, .int .i64 0, .string ⟨#[]⟩, .slice none 0 0, .slice none 0 0, .slice none 0 0, .slice none 0 0] 52)).setCells (w.heap.size + 1 + 1) 0 (tyC T) = X := ⟨_, rfl⟩
  have HX : Hid (Hed w X (some ⟨tb, to', none⟩) m c a2 m2 c2 T) := hid (by rw [← gX]; exact hed_of w _ m c a2 m2 c2 T)
  have HYT : Hid (((w.alloc (.cells #[.slice (some ⟨tb, to', none⟩) m c, .slice a2 m2 c2] 25)).alloc (.cells #[.int .i64 0, .int .i64 0, .slice none 0 0, .slice none 0 0] 30)).rangeAt tb (to' + n * 10) (tyC T)) := hid (HTA.out.below (below_box2 w _ _) htb).range
  have HTH : Hid ((((w.alloc (.cells #[.slice (some ⟨tb, to', none⟩) m c, .slice a2 m2 c2] 25)).alloc (.cells #[.int .i64 0, .int .i64 0, .slice none 0 0, .slice none 0 0] 30)).alloc (.cells #[.int .i64 0, .int .i64 0, .int .i64 0, .int .i64 0, .int .i64 0, .string ⟨#[]⟩, .slice none 0 0, .slice none 0 0, .slice none 0 0, .slice none 0 0] 52)).there (w.heap.size + 1 + 1) 0 10) := hid (there_of_block (t := 52) (C := [Value.int .i64 0, .int .i64 0, .int .i64 0, .int .i64 0, .int .i64 0, .string ⟨#[]⟩, .slice none 0 0, .slice none 0 0, .slice none 0 0, .slice none 0 0]) (heap3 w _ _ _).2.2 0 10 (by simp))
  have HO1 : Hid ((tyC T).toArray.all (·.oneCell') = true) := hid (by simp [tyC, Value.oneCell'])
  have HL10 : Hid ((tyC T).length = 10) := hid rfl
  have q : ∀ u v, (tyC T)[u]? = some v → X.cell? ⟨w.heap.size + 1 + 1, u, none⟩ = some v := fun u v hv => by
    rw [cell_of_row X _ u _ _ _ HX.out.b2]; simpa using hv
  have q0 : X.cell? ⟨w.heap.size + 1 + 1, 0, none⟩ = some (.int .i64 T.k) := q 0 _ rfl
  have x0 := HX.out.b0
  have y0 : X.cell? ⟨w.heap.size, 0, none⟩ = some (.slice (some ⟨tb, to', none⟩) m c) := cell_of_row _ _ 0 _ _ _ x0
  have y1 : X.cell? ⟨w.heap.size, 1, none⟩ = some (.slice a2 m2 c2) := cell_of_row _ _ 1 _ _ _ x0
  obtain ⟨C, hC, x1⟩ := HX.out.b1
  have HC := hid hC
  have HX1 := hid x1
  rw [hk] at q0
  obtain ⟨sb, so, hta, hsl, hsc⟩ := HTO.out.ts (by rw [HTO.out.tl]; exact htn)
  obtain ⟨S, gS⟩ : ∃ S, S = T.ts.getD 0 .empty := ⟨_, rfl⟩
  have s0 : X.cell? ⟨sb, so, none⟩ = some (.string S) := (HX.out.B.cell (p := ⟨sb, so, none⟩) hsl).trans (by rw [gS]; exact hsc 0 (by rw [HTO.out.tl]; exact htn))
  have q7 : X.cell? ⟨w.heap.size + 1 + 1, 7, none⟩ = some (.slice (some ⟨sb, so, none⟩) T.tn T.tc) := by rw [← hta]; exact q 7 _ rfl
  have ht0 : (0 : Int) < (T.tn : Int) := by omega
  have hcv := Lib.run_convert_string_bytes (P := Try.prog) X 9 28 5 S Try.underlying9 Try.underlying28 Try.underlying5
  obtain ⟨WB, gB⟩ : ∃ WB, WB = Lib.bytesWorld X 5 S := ⟨_, rfl⟩
  obtain ⟨CC, gC⟩ : ∃ CC, CC = grownCap X S.size 0 5 := ⟨_, rfl⟩
  rw [← gB, ← gC] at hcv
  have HW : Hid (Below X.heap.size X WB) := hid (by rw [gB]; exact bytesWorld_below X S)
  have HSB : Hid (Src WB (some ⟨X.heap.size, 0, none⟩) S.size (numsOf S)) := hid (by rw [gB]; exact bytesWorld_src X S)
  have hSz : S.size ≤ maxLen := by rw [gS]; unfold maxLen; omega
  have HC1 : Hid (S.size ≤ CC) := hid (by rw [gC]; exact grownCap_ge _ _ _ _)
  have HC2 : Hid (CC ≤ 9223372036854775807) := hid (by have := grownCap_le_maxLen X S.size 0 5 hSz; rw [gC]; unfold maxLen at this; omega)
  have HGS := hid gS
  clear gB gC hSz hsc hta gS
  have hBw : Below w.heap.size w WB := HX.out.B.trans (HW.out.mono HX.out.B.size)
  have x1' := (HW.out.block _ (by rw [HX.out.s]; omega)).trans x1
  have HX2 := hid x1'
  obtain ⟨W, gW⟩ : ∃ W, WB.setCells (w.heap.size + 1) 0 (arC ⟨6, 0, none, 0, 0, some ⟨X.heap.size, 0, none⟩, S.size, CC, numsOf S⟩) = W := ⟨_, rfl⟩
  have HE := hid (least_end (n := n) hBw x1' hC (A := .mk ⟨6, 0, none, 0, 0, some ⟨X.heap.size, 0, none⟩, S.size, CC, numsOf S⟩ []) (bytes_okb _ _ _ _ _ _ HSB.out (by rw [HX.out.s]; omega) HC1.out HC2.out))
  simp only [Ar.h, gW] at HE
  have GW := hid gW
  have HLS : Hid (Lst l (n + 1) n (.mk ⟨6, 0, none, 0, 0, some ⟨X.heap.size, 0, none⟩, S.size, CC, numsOf S⟩ [])) := hid ⟨T, HLn.out, by simp [lstH, hk, Ar.h, HGS.out], by simp [kdT, hk, Ar.ks, AllL]⟩
  clear gW hBw x1'
  clear x0 x1 hC q
  generalize hTC : tyC T = TC at *
  have HTC := hid hTC
  have GX := hid gX
  have HTS := hid hts
  have HL := hid hl
  clear hTC gX hts hl hT hts0
  have hst1 := (run_cells_mid (P := Try.prog) _ (w.heap.size + 1 + 1) 0 TC (by rw [HL10.out]; exact HTH.out) HO1.out).trans (congrArg _ GX.out)
  go_enter Try.func37, Try.ntmps37
  go_wp2_with (first
    | (refine wpList_load_mid rfl 52 (.tmp 9) rfl tb (to' + n * 10) rfl TC _ HYT.out Try.underlying52 rfl (by rw [HL10.out]; exact csizeT) ?_)
    | (refine wpList_store_as rfl 30 (.tmp 4) (.tmp 63) rfl (w.heap.size + 1) 0 (arC ⟨6, 0, none, 0, 0, some ⟨X.heap.size, 0, none⟩, S.size, CC, numsOf S⟩).toArray rfl rfl (there_of_block HX2.out 0 4 (by rw [HC.out]; decide)) csizeA (by simp [arC, Value.oneCell']) W GW.out ?_))
  refine bodyPost_ret (cell_result rfl _ _ (w.heap.size + 1) 0 rfl (arC ⟨6, 0, none, 0, 0, some ⟨X.heap.size, 0, none⟩, S.size, CC, numsOf S⟩) _ HE.out.1 Try.underlying30 rfl csizeA) rfl ?_
  exact ⟨.mk ⟨6, 0, none, 0, 0, some ⟨X.heap.size, 0, none⟩, S.size, CC, numsOf S⟩ [], rfl, HE.out.2.1, HLS.out, HE.out.2.2⟩

set_option maxHeartbeats 8000000 in
theorem least_11 (a : Option Addr) (m c : Nat) (a2 : Option Addr) (m2 c2 : Nat) (l : List Ty) (n : Nat) (hm : l.length = m) (hmb : m ≤ 9223372036854775807) (w : World) (hT : Tys w a l) (hn : n < l.length) (T : Ty) (hl : l[n] = T) (hk : T.k = 11) (hlo : 0 ≤ T.lo ∧ T.lo ≤ 64) :
    Calls Try.prog 37 #[.agg #[.slice a m c, .slice a2 m2 c2], .int .i64 n] w fun e w' => ∃ A : Ar, e = .returned (.agg #[.int .i64 A.h.k, .int .i64 A.h.v, .slice A.h.ka A.h.kn A.h.kc, .slice A.h.ba A.h.bn A.h.bc]) ∧ Okb w.heap.size (n + 1) w' A ∧ Lst l (n + 1) n A ∧ Below w.heap.size w w' := by
  have HT := hid hT
  obtain ⟨tb, to', rfl, htb, hts⟩ := hT (by omega)
  have HTA := hid (hl ▸ (hts n hn).1)
  have HTO := hid (hl ▸ (hts n hn).2)
  have HLn : Hid (l[n]? = some T) := hid (by rw [List.getElem?_eq_getElem hn, hl])
  have hnm : (n : Int) < (m : Int) := by omega
  obtain ⟨X, gX⟩ : ∃ X, (((w.alloc (.cells #[.slice (some ⟨tb, to', none⟩) m c, .slice a2 m2 c2] 25)).alloc (.cells #[.int .i64 0, .int .i64 0, .slice none 0 0, .slice none 0 0] 30)).alloc (.cells #[.int .i64 0, .int .i64 0, .int .i64 0, .int .i64 0, .int .i64 0, .string ⟨#[]⟩, .slice none 0 0, .slice none 0 0, .slice none 0 0, .slice none 0 0] 52)).setCells (w.heap.size + 1 + 1) 0 (tyC T) = X := ⟨_, rfl⟩
  have HX : Hid (Hed w X (some ⟨tb, to', none⟩) m c a2 m2 c2 T) := hid (by rw [← gX]; exact hed_of w _ m c a2 m2 c2 T)
  have HYT : Hid (((w.alloc (.cells #[.slice (some ⟨tb, to', none⟩) m c, .slice a2 m2 c2] 25)).alloc (.cells #[.int .i64 0, .int .i64 0, .slice none 0 0, .slice none 0 0] 30)).rangeAt tb (to' + n * 10) (tyC T)) := hid (HTA.out.below (below_box2 w _ _) htb).range
  have HTH : Hid ((((w.alloc (.cells #[.slice (some ⟨tb, to', none⟩) m c, .slice a2 m2 c2] 25)).alloc (.cells #[.int .i64 0, .int .i64 0, .slice none 0 0, .slice none 0 0] 30)).alloc (.cells #[.int .i64 0, .int .i64 0, .int .i64 0, .int .i64 0, .int .i64 0, .string ⟨#[]⟩, .slice none 0 0, .slice none 0 0, .slice none 0 0, .slice none 0 0] 52)).there (w.heap.size + 1 + 1) 0 10) := hid (there_of_block (t := 52) (C := [Value.int .i64 0, .int .i64 0, .int .i64 0, .int .i64 0, .int .i64 0, .string ⟨#[]⟩, .slice none 0 0, .slice none 0 0, .slice none 0 0, .slice none 0 0]) (heap3 w _ _ _).2.2 0 10 (by simp))
  have HO1 : Hid ((tyC T).toArray.all (·.oneCell') = true) := hid (by simp [tyC, Value.oneCell'])
  have HL10 : Hid ((tyC T).length = 10) := hid rfl
  have q : ∀ u v, (tyC T)[u]? = some v → X.cell? ⟨w.heap.size + 1 + 1, u, none⟩ = some v := fun u v hv => by
    rw [cell_of_row X _ u _ _ _ HX.out.b2]; simpa using hv
  have q0 : X.cell? ⟨w.heap.size + 1 + 1, 0, none⟩ = some (.int .i64 T.k) := q 0 _ rfl
  have x0 := HX.out.b0
  have y0 : X.cell? ⟨w.heap.size, 0, none⟩ = some (.slice (some ⟨tb, to', none⟩) m c) := cell_of_row _ _ 0 _ _ _ x0
  have y1 : X.cell? ⟨w.heap.size, 1, none⟩ = some (.slice a2 m2 c2) := cell_of_row _ _ 1 _ _ _ x0
  obtain ⟨C, hC, x1⟩ := HX.out.b1
  have HC := hid hC
  have HX1 := hid x1
  rw [hk] at q0
  obtain ⟨z, hz⟩ : ∃ z : Nat, T.lo = (z : Int) := ⟨T.lo.toNat, by omega⟩
  have q2 : X.cell? ⟨w.heap.size + 1 + 1, 2, none⟩ = some (.int .i64 z) := by rw [← hz]; exact q 2 _ rfl
  obtain ⟨i0, hi, hz0, hz1, hz2⟩ := info_parts infoB
  have hmx : z ≤ maxLen := by unfold maxLen; omega
  have hby : i0.bytes * z ≤ 281474976710656 := by rw [hz2]; omega
  obtain ⟨WB, gB⟩ : ∃ WB, X.alloc (.cells (madeCells #[Value.int .u8 0] z) 5) = WB := ⟨_, rfl⟩
  have HW : Hid (Below X.heap.size X WB) := hid (by rw [← gB]; exact below_box X _)
  have HSB : Hid (Src WB (some ⟨X.heap.size, 0, none⟩) z (List.replicate z 0)) := hid (by rw [← gB]; exact made_src X z)
  have HGZ := hid hz
  have HGB := hid gB
  have HZ6 : Hid (z ≤ 9223372036854775807) := hid (by omega)
  clear gB hlo
  have hBw : Below w.heap.size w WB := HX.out.B.trans (HW.out.mono HX.out.B.size)
  have x1' := (HW.out.block _ (by rw [HX.out.s]; omega)).trans x1
  have HX2 := hid x1'
  obtain ⟨W, gW⟩ : ∃ W, WB.setCells (w.heap.size + 1) 0 (arC ⟨6, 0, none, 0, 0, some ⟨X.heap.size, 0, none⟩, z, z, List.replicate z 0⟩) = W := ⟨_, rfl⟩
  have HE := hid (least_end (n := n) hBw x1' hC (A := .mk ⟨6, 0, none, 0, 0, some ⟨X.heap.size, 0, none⟩, z, z, List.replicate z 0⟩ []) (bytes_okb _ _ _ _ _ _ HSB.out (by rw [HX.out.s]; omega) (Nat.le_refl _) HZ6.out))
  simp only [Ar.h, gW] at HE
  have GW := hid gW
  have HLS : Hid (Lst l (n + 1) n (.mk ⟨6, 0, none, 0, 0, some ⟨X.heap.size, 0, none⟩, z, z, List.replicate z 0⟩ [])) := hid ⟨T, HLn.out, by simp [lstH, hk, Ar.h, HGZ.out], by simp [kdT, hk, Ar.ks, AllL]⟩
  clear gW hBw x1'
  rw [← HGB.out] at GW HX2
  clear x0 x1 hC q
  generalize hTC : tyC T = TC at *
  have HTC := hid hTC
  have GX := hid gX
  have HTS := hid hts
  have HL := hid hl
  clear hTC gX hts hl hT
  have hst1 := (run_cells_mid (P := Try.prog) _ (w.heap.size + 1 + 1) 0 TC (by rw [HL10.out]; exact HTH.out) HO1.out).trans (congrArg _ GX.out)
  go_enter Try.func37, Try.ntmps37
  go_wp2_with (first
    | (refine wpList_load_mid rfl 52 (.tmp 9) rfl tb (to' + n * 10) rfl TC _ HYT.out Try.underlying52 rfl (by rw [HL10.out]; exact csizeT) ?_)
    | (at_make; go_must (refine wpList_make_lc _ rfl _ _ 28 rfl 5 i0 (.int .u8 0) 1 Try.underlying28 hi hz0 hz1 _ _ _ _ z z rfl rfl rfl rfl (Nat.le_refl _) hby hmx ?_))
    | (refine wpList_store_as rfl 30 (.tmp 4) (.tmp 69) rfl (w.heap.size + 1) 0 (arC ⟨6, 0, none, 0, 0, some ⟨X.heap.size, 0, none⟩, z, z, List.replicate z 0⟩).toArray rfl rfl (there_of_block HX2.out 0 4 (by rw [HC.out]; decide)) csizeA (by simp [arC, Value.oneCell']) W GW.out ?_))
  refine bodyPost_ret (cell_result rfl _ _ (w.heap.size + 1) 0 rfl (arC ⟨6, 0, none, 0, 0, some ⟨X.heap.size, 0, none⟩, z, z, List.replicate z 0⟩) _ HE.out.1 Try.underlying30 rfl csizeA) rfl ?_
  exact ⟨.mk ⟨6, 0, none, 0, 0, some ⟨X.heap.size, 0, none⟩, z, z, List.replicate z 0⟩ [], rfl, HE.out.2.1, HLS.out, HE.out.2.2⟩

end Go.Proofs.Ytkgejeamcgodhaa
