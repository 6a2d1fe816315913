/- The least argument of a type: the program's least, case by case (what is made of others). Written by gen_least.py. -/
import Derived.Test.YtkgejeamcgodhaaGLeast6
namespace Go.Proofs.Ytkgejeamcgodhaa
open Go.RowKit
set_option linter.unusedVariables false
set_option maxRecDepth 20000

set_option maxHeartbeats 8000000 in
theorem least_5 (a : Option Addr) (m c : Nat) (a2 : Option Addr) (m2 c2 : Nat) (l : List Ty) (n : Nat) (hm : l.length = m) (hmb : m ≤ 9223372036854775807) (w : World) (hT : Tys w a l) (hn : n < l.length) (T : Ty) (hl : l[n] = T) (hk : T.k = 5) (hv : 0 < T.vn) :
    Calls Try.prog 37 #[.agg #[.slice a m c, .slice a2 m2 c2], .int .i64 n] w fun e w' => ∃ A : Ar, e = .returned (.agg #[.int .i64 A.h.k, .int .i64 A.h.v, .slice A.h.ka A.h.kn A.h.kc, .slice A.h.ba A.h.bn A.h.bc]) ∧ Okb w.heap.size (n + 1) w' A ∧ Lst l (n + 1) n A ∧ Below w.heap.size w w' := by
  have HT := hid hT
  obtain ⟨tb, to', rfl, htb, hts⟩ := hT (by omega)
  have HTA := hid (hl ▸ (hts n hn).1)
  have HTO := hid (hl ▸ (hts n hn).2)
  have HLn : Hid (l[n]? = some T) := hid (by rw [List.getElem?_eq_getElem hn, hl])
  have hnm : (n : Int) < (m : Int) := by omega
  obtain ⟨X, gX⟩ : ∃ X, (((w.alloc (.cells #[.slice (some ⟨tb, to', none⟩) m c, .slice a2 m2 c2] 25)).alloc (.cells #[.int .i64 0, .int .i64 0, .slice none 0 0, .slice none 0 0] 30)).alloc (.cells #[.int .i64 0, .int .i64 0, .int .i64 0, .int .i64 0, .int .i64 0, .string ⟨#[]⟩, .slice none 0 0, .slice none 0 0, .slice none 0 0, .slice none 0 0] 52)).setCells (w.heap.size + 1 + 1) 0 (tyC T) = X := ⟨_, rfl⟩
  have HX : Hid (Hed w X (some ⟨tb, to', none⟩) m c a2 m2 c2 T) := hid (by rw [← gX]; exact hed_of w _ m c a2 m2 c2 T)
  have HYT : Hid (((w.alloc (.cells #[.slice (some ⟨tb, to', none⟩) m c, .slice a2 m2 c2] 25)).alloc (.cells #[.int .i64 0, .int .i64 0, .slice none 0 0, .slice none 0 0] 30)).rangeAt tb (to' + n * 10) (tyC T)) := hid (HTA.out.below (below_box2 w _ _) htb).range
  have HTH : Hid ((((w.alloc (.cells #[.slice (some ⟨tb, to', none⟩) m c, .slice a2 m2 c2] 25)).alloc (.cells #[.int .i64 0, .int .i64 0, .slice none 0 0, .slice none 0 0] 30)).alloc (.cells #[.int .i64 0, .int .i64 0, .int .i64 0, .int .i64 0, .int .i64 0, .string ⟨#[]⟩, .slice none 0 0, .slice none 0 0, .slice none 0 0, .slice none 0 0] 52)).there (w.heap.size + 1 + 1) 0 10) := hid (there_of_block (t := 52) (C := [Value.int .i64 0, .int .i64 0, .int .i64 0, .int .i64 0, .int .i64 0, .string ⟨#[]⟩, .slice none 0 0, .slice none 0 0, .slice none 0 0, .slice none 0 0]) (heap3 w _ _ _).2.2 0 10 (by simp))
  have HO1 : Hid ((tyC T).toArray.all (·.oneCell') = true) := hid (by simp [tyC, Value.oneCell'])
  have HL10 : Hid ((tyC T).length = 10) := hid rfl
  have q : ∀ u v, (tyC T)[u]? = some v → X.cell? ⟨w.heap.size + 1 + 1, u, none⟩ = some v := fun u v hv => by
    rw [cell_of_row X _ u _ _ _ HX.out.b2]; simpa using hv
  have q0 : X.cell? ⟨w.heap.size + 1 + 1, 0, none⟩ = some (.int .i64 T.k) := q 0 _ rfl
  have x0 := HX.out.b0
  have y0 : X.cell? ⟨w.heap.size, 0, none⟩ = some (.slice (some ⟨tb, to', none⟩) m c) := cell_of_row _ _ 0 _ _ _ x0
  have y1 : X.cell? ⟨w.heap.size, 1, none⟩ = some (.slice a2 m2 c2) := cell_of_row _ _ 1 _ _ _ x0
  obtain ⟨C, hC, x1⟩ := HX.out.b1
  have HC := hid hC
  have HX1 := hid x1
  rw [hk] at q0
  obtain ⟨x, hx⟩ : ∃ x, x = T.vs.getD 0 0 := ⟨_, rfl⟩
  have k1 : Hid (Calls Try.prog 70 #[.agg (tyC T).toArray] X fun e w' => e = .returned (.agg #[.int .i64 1, .int .i64 x, .slice none 0 0, .slice none 0 0]) ∧ Below X.heap.size X w') := hid (hx ▸ special_any T X (HTO.out.below HX.out.B) hv)
  have HYX : Hid (X.rangeAt (w.heap.size + 1 + 1) 0 (tyC T)) := hid (rangeAt_block HX.out.b2)
  have HXV := hid hx
  clear hx
  clear x0 x1 hC q
  generalize hTC : tyC T = TC at *
  have HTC := hid hTC
  have GX := hid gX
  have HTS := hid hts
  have HL := hid hl
  clear hTC gX hts hl hT
  have hst1 := (run_cells_mid (P := Try.prog) _ (w.heap.size + 1 + 1) 0 TC (by rw [HL10.out]; exact HTH.out) HO1.out).trans (congrArg _ GX.out)
  go_enter Try.func37, Try.ntmps37
  go_wp2_with (first
    | (refine wpList_load_mid rfl 52 (.tmp 9) rfl tb (to' + n * 10) rfl TC _ HYT.out Try.underlying52 rfl (by rw [HL10.out]; exact csizeT) ?_)
    | (refine wpList_load_mid rfl 52 (.tmp 5) rfl (w.heap.size + 1 + 1) 0 rfl TC _ HYX.out Try.underlying52 rfl (by rw [HL10.out]; exact csizeT) ?_))
  refine k1.out.mono ?_
  rintro e w1 ⟨rfl, hb1⟩
  have hBw : Below w.heap.size w w1 := HX.out.B.trans (hb1.mono HX.out.B.size)
  have x1' := (hb1.block _ (by rw [HX.out.s]; omega)).trans HX1.out
  have HX2 := hid x1'
  obtain ⟨W, gW⟩ : ∃ W, w1.setCells (w.heap.size + 1) 0 (arC ⟨1, x, none, 0, 0, none, 0, 0, []⟩) = W := ⟨_, rfl⟩
  have HE := hid (least_end (n := n) hBw x1' HC.out (A := .mk ⟨1, x, none, 0, 0, none, 0, 0, []⟩ []) (none_okb _ _))
  simp only [Ar.h, gW] at HE
  have GW := hid gW
  have HLS : Hid (Lst l (n + 1) n (.mk ⟨1, x, none, 0, 0, none, 0, 0, []⟩ [])) := hid ⟨T, HLn.out, by simp [lstH, hk, Ar.h, HXV.out], by simp [kdT, hk, Ar.ks, AllL]⟩
  clear gW hb1 hBw x1' k1
  go_wp2_with (refine wpList_store_as rfl 30 (.tmp 4) (.tmp 22) rfl (w.heap.size + 1) 0 (arC ⟨1, x, none, 0, 0, none, 0, 0, []⟩).toArray rfl rfl (there_of_block HX2.out 0 4 (by rw [HC.out]; decide)) csizeA (by simp [arC, Value.oneCell']) W GW.out ?_)
  refine bodyPost_ret (cell_result rfl _ _ (w.heap.size + 1) 0 rfl (arC ⟨1, x, none, 0, 0, none, 0, 0, []⟩) _ HE.out.1 Try.underlying30 rfl csizeA) rfl ?_
  exact ⟨.mk ⟨1, x, none, 0, 0, none, 0, 0, []⟩ [], rfl, HE.out.2.1, HLS.out, HE.out.2.2⟩

set_option maxHeartbeats 8000000 in
theorem least_6 (a : Option Addr) (m c : Nat) (a2 : Option Addr) (m2 c2 : Nat) (l : List Ty) (n : Nat) (ih : ∀ t, t < n → LeastAt a m c a2 m2 c2 l 37 t) (hm : l.length = m) (hmb : m ≤ 9223372036854775807) (w : World) (hT : Tys w a l) (hn : n < l.length) (T : Ty) (hl : l[n] = T) (hk : T.k = 6) (hen : T.en ≤ 1048576) (he1 : T.en = 1) (hah : ahead n T.es = true) :
    Calls Try.prog 37 #[.agg #[.slice a m c, .slice a2 m2 c2], .int .i64 n] w fun e w' => ∃ A : Ar, e = .returned (.agg #[.int .i64 A.h.k, .int .i64 A.h.v, .slice A.h.ka A.h.kn A.h.kc, .slice A.h.ba A.h.bn A.h.bc]) ∧ Okb w.heap.size (n + 1) w' A ∧ Lst l (n + 1) n A ∧ Below w.heap.size w w' := by
  have HT := hid hT
  obtain ⟨tb, to', rfl, htb, hts⟩ := hT (by omega)
  have HTA := hid (hl ▸ (hts n hn).1)
  have HTO := hid (hl ▸ (hts n hn).2)
  have HLn : Hid (l[n]? = some T) := hid (by rw [List.getElem?_eq_getElem hn, hl])
  have hnm : (n : Int) < (m : Int) := by omega
  obtain ⟨X, gX⟩ : ∃ X, (((w.alloc (.cells #[.slice (some ⟨tb, to', none⟩) m c, .slice a2 m2 c2] 25)).alloc (.cells #[.int .i64 0, .int .i64 0, .slice none 0 0, .slice none 0 0] 30)).alloc (.cells #[.int .i64 0, .int .i64 0, .int .i64 0, .int .i64 0, .int .i64 0, .string ⟨#[]⟩, .slice none 0 0, .slice none 0 0, .slice none 0 0, .slice none 0 0] 52)).setCells (w.heap.size + 1 + 1) 0 (tyC T) = X := ⟨_, rfl⟩
  have HX : Hid (Hed w X (some ⟨tb, to', none⟩) m c a2 m2 c2 T) := hid (by rw [← gX]; exact hed_of w _ m c a2 m2 c2 T)
  have HYT : Hid (((w.alloc (.cells #[.slice (some ⟨tb, to', none⟩) m c, .slice a2 m2 c2] 25)).alloc (.cells #[.int .i64 0, .int .i64 0, .slice none 0 0, .slice none 0 0] 30)).rangeAt tb (to' + n * 10) (tyC T)) := hid (HTA.out.below (below_box2 w _ _) htb).range
  have HTH : Hid ((((w.alloc (.cells #[.slice (some ⟨tb, to', none⟩) m c, .slice a2 m2 c2] 25)).alloc (.cells #[.int .i64 0, .int .i64 0, .slice none 0 0, .slice none 0 0] 30)).alloc (.cells #[.int .i64 0, .int .i64 0, .int .i64 0, .int .i64 0, .int .i64 0, .string ⟨#[]⟩, .slice none 0 0, .slice none 0 0, .slice none 0 0, .slice none 0 0] 52)).there (w.heap.size + 1 + 1) 0 10) := hid (there_of_block (t := 52) (C := [Value.int .i64 0, .int .i64 0, .int .i64 0, .int .i64 0, .int .i64 0, .string ⟨#[]⟩, .slice none 0 0, .slice none 0 0, .slice none 0 0, .slice none 0 0]) (heap3 w _ _ _).2.2 0 10 (by simp))
  have HO1 : Hid ((tyC T).toArray.all (·.oneCell') = true) := hid (by simp [tyC, Value.oneCell'])
  have HL10 : Hid ((tyC T).length = 10) := hid rfl
  have q : ∀ u v, (tyC T)[u]? = some v → X.cell? ⟨w.heap.size + 1 + 1, u, none⟩ = some v := fun u v hv => by
    rw [cell_of_row X _ u _ _ _ HX.out.b2]; simpa using hv
  have q0 : X.cell? ⟨w.heap.size + 1 + 1, 0, none⟩ = some (.int .i64 T.k) := q 0 _ rfl
  have x0 := HX.out.b0
  have y0 : X.cell? ⟨w.heap.size, 0, none⟩ = some (.slice (some ⟨tb, to', none⟩) m c) := cell_of_row _ _ 0 _ _ _ x0
  have y1 : X.cell? ⟨w.heap.size, 1, none⟩ = some (.slice a2 m2 c2) := cell_of_row _ _ 1 _ _ _ x0
  obtain ⟨C, hC, x1⟩ := HX.out.b1
  have HC := hid hC
  have HX1 := hid x1
  rw [hk] at q0
  have q8 : X.cell? ⟨w.heap.size + 1 + 1, 8, none⟩ = some (.slice T.ea T.en T.ec) := q 8 _ rfl
  have HEL : Hid (T.es.length = T.en) := hid HTO.out.el
  have k1 := hid (ones_any (some ⟨tb, to', none⟩) m c a2 m2 c2 l n ih (by omega) T.ea T.en T.ec T.es X (HT.out.below HX.out.B) (HTO.out.es.below HX.out.B) HEL.out hen hah)
  have HE1 := hid he1
  clear ih hah he1
  clear x0 x1 hC q
  generalize hTC : tyC T = TC at *
  have HTC := hid hTC
  have GX := hid gX
  have HTS := hid hts
  have HL := hid hl
  clear hTC gX hts hl hT
  have hst1 := (run_cells_mid (P := Try.prog) _ (w.heap.size + 1 + 1) 0 TC (by rw [HL10.out]; exact HTH.out) HO1.out).trans (congrArg _ GX.out)
  go_enter Try.func37, Try.ntmps37
  go_wp2_with (first
    | (refine wpList_load_mid rfl 52 (.tmp 9) rfl tb (to' + n * 10) rfl TC _ HYT.out Try.underlying52 rfl (by rw [HL10.out]; exact csizeT) ?_)
    | fail)
  refine k1.out.mono ?_
  rintro e w1 ⟨g, qs, rfl, hK, hb1⟩
  have hBw : Below w.heap.size w w1 := HX.out.B.trans (hb1.mono HX.out.B.size)
  have x1' := (hb1.block _ (by rw [HX.out.s]; omega)).trans HX1.out
  have HX2 := hid x1'
  obtain ⟨W, gW⟩ : ∃ W, w1.setCells (w.heap.size + 1) 0 (arC ⟨3, 0, some ⟨g, 0, none⟩, T.en, T.en, none, 0, 0, []⟩) = W := ⟨_, rfl⟩
  have HE := hid (least_end (n := n) hBw x1' HC.out (A := .mk ⟨3, 0, some ⟨g, 0, none⟩, T.en, T.en, none, 0, 0, []⟩ qs) (Okb.less (by rw [HX.out.s]; omega) _ _ (kids_okb hK _ _ _ HEL.out hen)))
  simp only [Ar.h, gW] at HE
  have GW := hid gW
  have HLS : Hid (Lst l (n + 1) n (.mk ⟨3, 0, some ⟨g, 0, none⟩, T.en, T.en, none, 0, 0, []⟩ qs)) := hid ⟨T, HLn.out, by simp [lstH, hk, Ar.h], by simpa [kdT, hk, Ar.ks, List.take_of_length_le (show T.es.length ≤ 1 by rw [HEL.out]; exact Nat.le_of_eq HE1.out)] using hK.2.1⟩
  clear gW hb1 hBw x1' k1
  go_wp2_with (refine wpList_store_as rfl 30 (.tmp 4) (.tmp 29) rfl (w.heap.size + 1) 0 (arC ⟨3, 0, some ⟨g, 0, none⟩, T.en, T.en, none, 0, 0, []⟩).toArray rfl rfl (there_of_block HX2.out 0 4 (by rw [HC.out]; decide)) csizeA (by simp [arC, Value.oneCell']) W GW.out ?_)
  refine bodyPost_ret (cell_result rfl _ _ (w.heap.size + 1) 0 rfl (arC ⟨3, 0, some ⟨g, 0, none⟩, T.en, T.en, none, 0, 0, []⟩) _ HE.out.1 Try.underlying30 rfl csizeA) rfl ?_
  exact ⟨.mk ⟨3, 0, some ⟨g, 0, none⟩, T.en, T.en, none, 0, 0, []⟩ qs, rfl, HE.out.2.1, HLS.out, HE.out.2.2⟩

set_option maxHeartbeats 8000000 in
theorem least_8 (a : Option Addr) (m c : Nat) (a2 : Option Addr) (m2 c2 : Nat) (l : List Ty) (n : Nat) (ih : ∀ t, t < n → LeastAt a m c a2 m2 c2 l 37 t) (hm : l.length = m) (hmb : m ≤ 9223372036854775807) (w : World) (hT : Tys w a l) (hn : n < l.length) (T : Ty) (hl : l[n] = T) (hk : T.k = 8) (hen : T.en ≤ 1048576) (hah : ahead n T.es = true) :
    Calls Try.prog 37 #[.agg #[.slice a m c, .slice a2 m2 c2], .int .i64 n] w fun e w' => ∃ A : Ar, e = .returned (.agg #[.int .i64 A.h.k, .int .i64 A.h.v, .slice A.h.ka A.h.kn A.h.kc, .slice A.h.ba A.h.bn A.h.bc]) ∧ Okb w.heap.size (n + 1) w' A ∧ Lst l (n + 1) n A ∧ Below w.heap.size w w' := by
  have HT := hid hT
  obtain ⟨tb, to', rfl, htb, hts⟩ := hT (by omega)
  have HTA := hid (hl ▸ (hts n hn).1)
  have HTO := hid (hl ▸ (hts n hn).2)
  have HLn : Hid (l[n]? = some T) := hid (by rw [List.getElem?_eq_getElem hn, hl])
  have hnm : (n : Int) < (m : Int) := by omega
  obtain ⟨X, gX⟩ : ∃ X, (((w.alloc (.cells #[.slice (some ⟨tb, to', none⟩) m c, .slice a2 m2 c2] 25)).alloc (.cells #[.int .i64 0, .int .i64 0, .slice none 0 0, .slice none 0 0] 30)).alloc (.cells #[.int .i64 0, .int .i64 0, .int .i64 0, .int .i64 0, .int .i64 0, .string ⟨#[]⟩, .slice none 0 0, .slice none 0 0, .slice none 0 0, .slice none 0 0] 52)).setCells (w.heap.size + 1 + 1) 0 (tyC T) = X := ⟨_, rfl⟩
  have HX : Hid (Hed w X (some ⟨tb, to', none⟩) m c a2 m2 c2 T) := hid (by rw [← gX]; exact hed_of w _ m c a2 m2 c2 T)
  have HYT : Hid (((w.alloc (.cells #[.slice (some ⟨tb, to', none⟩) m c, .slice a2 m2 c2] 25)).alloc (.cells #[.int .i64 0, .int .i64 0, .slice none 0 0, .slice none 0 0] 30)).rangeAt tb (to' + n * 10) (tyC T)) := hid (HTA.out.below (below_box2 w _ _) htb).range
  have HTH : Hid ((((w.alloc (.cells #[.slice (some ⟨tb, to', none⟩) m c, .slice a2 m2 c2] 25)).alloc (.cells #[.int .i64 0, .int .i64 0, .slice none 0 0, .slice none 0 0] 30)).alloc (.cells #[.int .i64 0, .int .i64 0, .int .i64 0, .int .i64 0, .int .i64 0, .string ⟨#[]⟩, .slice none 0 0, .slice none 0 0, .slice none 0 0, .slice none 0 0] 52)).there (w.heap.size + 1 + 1) 0 10) := hid (there_of_block (t := 52) (C := [Value.int .i64 0, .int .i64 0, .int .i64 0, .int .i64 0, .int .i64 0, .string ⟨#[]⟩, .slice none 0 0, .slice none 0 0, .slice none 0 0, .slice none 0 0]) (heap3 w _ _ _).2.2 0 10 (by simp))
  have HO1 : Hid ((tyC T).toArray.all (·.oneCell') = true) := hid (by simp [tyC, Value.oneCell'])
  have HL10 : Hid ((tyC T).length = 10) := hid rfl
  have q : ∀ u v, (tyC T)[u]? = some v → X.cell? ⟨w.heap.size + 1 + 1, u, none⟩ = some v := fun u v hv => by
    rw [cell_of_row X _ u _ _ _ HX.out.b2]; simpa using hv
  have q0 : X.cell? ⟨w.heap.size + 1 + 1, 0, none⟩ = some (.int .i64 T.k) := q 0 _ rfl
  have x0 := HX.out.b0
  have y0 : X.cell? ⟨w.heap.size, 0, none⟩ = some (.slice (some ⟨tb, to', none⟩) m c) := cell_of_row _ _ 0 _ _ _ x0
  have y1 : X.cell? ⟨w.heap.size, 1, none⟩ = some (.slice a2 m2 c2) := cell_of_row _ _ 1 _ _ _ x0
  obtain ⟨C, hC, x1⟩ := HX.out.b1
  have HC := hid hC
  have HX1 := hid x1
  rw [hk] at q0
  have q8 : X.cell? ⟨w.heap.size + 1 + 1, 8, none⟩ = some (.slice T.ea T.en T.ec) := q 8 _ rfl
  have HEL : Hid (T.es.length = T.en) := hid HTO.out.el
  have k1 := hid (ones_any (some ⟨tb, to', none⟩) m c a2 m2 c2 l n ih (by omega) T.ea T.en T.ec T.es X (HT.out.below HX.out.B) (HTO.out.es.below HX.out.B) HEL.out hen hah)
  clear ih hah
  clear x0 x1 hC q
  generalize hTC : tyC T = TC at *
  have HTC := hid hTC
  have GX := hid gX
  have HTS := hid hts
  have HL := hid hl
  clear hTC gX hts hl hT
  have hst1 := (run_cells_mid (P := Try.prog) _ (w.heap.size + 1 + 1) 0 TC (by rw [HL10.out]; exact HTH.out) HO1.out).trans (congrArg _ GX.out)
  go_enter Try.func37, Try.ntmps37
  go_wp2_with (first
    | (refine wpList_load_mid rfl 52 (.tmp 9) rfl tb (to' + n * 10) rfl TC _ HYT.out Try.underlying52 rfl (by rw [HL10.out]; exact csizeT) ?_)
    | fail)
  refine k1.out.mono ?_
  rintro e w1 ⟨g, qs, rfl, hK, hb1⟩
  have hBw : Below w.heap.size w w1 := HX.out.B.trans (hb1.mono HX.out.B.size)
  have x1' := (hb1.block _ (by rw [HX.out.s]; omega)).trans HX1.out
  have HX2 := hid x1'
  obtain ⟨W, gW⟩ : ∃ W, w1.setCells (w.heap.size + 1) 0 (arC ⟨4, 0, some ⟨g, 0, none⟩, T.en, T.en, none, 0, 0, []⟩) = W := ⟨_, rfl⟩
  have HE := hid (least_end (n := n) hBw x1' HC.out (A := .mk ⟨4, 0, some ⟨g, 0, none⟩, T.en, T.en, none, 0, 0, []⟩ qs) (Okb.less (by rw [HX.out.s]; omega) _ _ (kids_okb hK _ _ _ HEL.out hen)))
  simp only [Ar.h, gW] at HE
  have GW := hid gW
  have HLS : Hid (Lst l (n + 1) n (.mk ⟨4, 0, some ⟨g, 0, none⟩, T.en, T.en, none, 0, 0, []⟩ qs)) := hid ⟨T, HLn.out, by simp [lstH, hk, Ar.h], by simpa [kdT, hk, Ar.ks] using hK.2.1⟩
  clear gW hb1 hBw x1' k1
  go_wp2_with (refine wpList_store_as rfl 30 (.tmp 4) (.tmp 47) rfl (w.heap.size + 1) 0 (arC ⟨4, 0, some ⟨g, 0, none⟩, T.en, T.en, none, 0, 0, []⟩).toArray rfl rfl (there_of_block HX2.out 0 4 (by rw [HC.out]; decide)) csizeA (by simp [arC, Value.oneCell']) W GW.out ?_)
  refine bodyPost_ret (cell_result rfl _ _ (w.heap.size + 1) 0 rfl (arC ⟨4, 0, some ⟨g, 0, none⟩, T.en, T.en, none, 0, 0, []⟩) _ HE.out.1 Try.underlying30 rfl csizeA) rfl ?_
  exact ⟨.mk ⟨4, 0, some ⟨g, 0, none⟩, T.en, T.en, none, 0, 0, []⟩ qs, rfl, HE.out.2.1, HLS.out, HE.out.2.2⟩

end Go.Proofs.Ytkgejeamcgodhaa
