/- The least argument of a type: the program's least, case by case (drawn orders). Written by gen_least.py. -/
import Derived.Test.YtkgejeamcgodhaaGLeast8
namespace Go.Proofs.Ytkgejeamcgodhaa
open Go.RowKit
set_option linter.unusedVariables false
set_option maxRecDepth 20000

set_option maxHeartbeats 8000000 in
theorem least_7 (a : Option Addr) (m c : Nat) (a2 : Option Addr) (m2 c2 : Nat) (l : List Ty) (n : Nat) (ih : ∀ t, t < n → LeastAt a m c a2 m2 c2 l 37 t) (hm : l.length = m) (hmb : m ≤ 9223372036854775807) (w : World) (hT : Tys w a l) (hn : n < l.length) (T : Ty) (hl : l[n] = T) (hk : T.k = 7) (he1 : T.en = 1) (hlo : 0 ≤ T.lo ∧ T.lo ≤ 8) (hah : ahead n T.es = true) :
    Calls Try.prog 37 #[.agg #[.slice a m c, .slice a2 m2 c2], .int .i64 n] w fun e w' => ∃ A : Ar, e = .returned (.agg #[.int .i64 A.h.k, .int .i64 A.h.v, .slice A.h.ka A.h.kn A.h.kc, .slice A.h.ba A.h.bn A.h.bc]) ∧ Okb w.heap.size (n + 1) w' A ∧ Lst l (n + 1) n A ∧ Below w.heap.size w w' := by
  have HT := hid hT
  obtain ⟨tb, to', rfl, htb, hts⟩ := hT (by omega)
  have HTA := hid (hl ▸ (hts n hn).1)
  have HTO := hid (hl ▸ (hts n hn).2)
  have HLn : Hid (l[n]? = some T) := hid (by rw [List.getElem?_eq_getElem hn, hl])
  have hnm : (n : Int) < (m : Int) := by omega
  obtain ⟨X, gX⟩ : ∃ X, (((w.alloc (.cells #[.slice (some ⟨tb, to', none⟩) m c, .slice a2 m2 c2] 25)).alloc (.cells #[.int .i64 0, .int .i64 0, .slice none 0 0, .slice none 0 0] 30)).alloc (.cells #[.int .i64 0, .int .i64 0, .int .i64 0, .int .i64 0, .int .i64 0, .string ⟨#[]⟩, .slice none 0 0, .slice none 0 0, .slice none 0 0, .slice none 0 0] 52)).setCells (w.heap.size + 1 + 1) 0 (tyC T) = X := ⟨_, rfl⟩
  have HX : Hid (Hed w X (some ⟨tb, to', none⟩) m c a2 m2 c2 T) := hid (by rw [← gX]; exact hed_of w _ m c a2 m2 c2 T)
  have HYT : Hid (((w.alloc (.cells #[.slice (some ⟨tb, to', none⟩) m c, .slice a2 m2 c2] 25)).alloc (.cells #[.int .i64 0, .int .i64 0, .slice none 0 0, .slice none 0 0] 30)).rangeAt tb (to' + n * 10) (tyC T)) := hid (HTA.out.below (below_box2 w _ _) htb).range
  have HTH : Hid ((((w.alloc (.cells #[.slice (some ⟨tb, to', none⟩) m c, .slice a2 m2 c2] 25)).alloc (.cells #[.int .i64 0, .int .i64 0, .slice none 0 0, .slice none 0 0] 30)).alloc (.cells #[.int .i64 0, .int .i64 0, .int .i64 0, .int .i64 0, .int .i64 0, .string ⟨#[]⟩, .slice none 0 0, .slice none 0 0, .slice none 0 0, .slice none 0 0] 52)).there (w.heap.size + 1 + 1) 0 10) := hid (there_of_block (t := 52) (C := [Value.int .i64 0, .int .i64 0, .int .i64 0, .int .i64 0, .int .i64 0, .string ⟨#[]⟩, .slice none 0 0, .slice none 0 0, .slice none 0 0, .slice none 0 0]) (heap3 w _ _ _).2.2 0 10 (by simp))
  have HO1 : Hid ((tyC T).toArray.all (·.oneCell') = true) := hid (by simp [tyC, Value.oneCell'])
  have HL10 : Hid ((tyC T).length = 10) := hid rfl
  have q : ∀ u v, (tyC T)[u]? = some v → X.cell? ⟨w.heap.size + 1 + 1, u, none⟩ = some v := fun u v hv => by
    rw [cell_of_row X _ u _ _ _ HX.out.b2]; simpa using hv
  have q0 : X.cell? ⟨w.heap.size + 1 + 1, 0, none⟩ = some (.int .i64 T.k) := q 0 _ rfl
  have x0 := HX.out.b0
  have y0 : X.cell? ⟨w.heap.size, 0, none⟩ = some (.slice (some ⟨tb, to', none⟩) m c) := cell_of_row _ _ 0 _ _ _ x0
  have y1 : X.cell? ⟨w.heap.size, 1, none⟩ = some (.slice a2 m2 c2) := cell_of_row _ _ 1 _ _ _ x0
  obtain ⟨C, hC, x1⟩ := HX.out.b1
  have HC := hid hC
  have HX1 := hid x1
  rw [hk] at q0
  obtain ⟨c0, c1, d2, d3, rfl⟩ : ∃ c0 c1 d2 d3, C = [c0, c1, d2, d3] := by
    match C, hC with
    | [c0, c1, d2, d3], _ => exact ⟨c0, c1, d2, d3, rfl⟩
  have hEL := HTO.out.el
  obtain ⟨eb, eo, hea, hel, hec⟩ := HTO.out.es (by omega)
  have e0 : X.cell? ⟨eb, eo, none⟩ = some (.int .i64 (T.es.getD 0 0)) := (HX.out.B.cell (p := ⟨eb, eo, none⟩) hel).trans (hec 0 (by omega))
  have q8 : X.cell? ⟨w.heap.size + 1 + 1, 8, none⟩ = some (.slice (some ⟨eb, eo, none⟩) T.en T.ec) := by rw [← hea]; exact q 8 _ rfl
  have hx := ahead_at hah 0 (by omega)
  obtain ⟨t, ht⟩ : ∃ t : Nat, T.es.getD 0 0 = (t : Int) := ⟨(T.es.getD 0 0).toNat, by omega⟩
  obtain ⟨z, hz⟩ : ∃ z : Nat, T.lo = (z : Int) := ⟨T.lo.toNat, by omega⟩
  rw [ht] at e0 hx
  have htn : t < n := by omega
  have hzb : z ≤ 1048576 := by omega
  have q2 : X.cell? ⟨w.heap.size + 1 + 1, 2, none⟩ = some (.int .i64 z) := by rw [← hz]; exact q 2 _ rfl
  have k1 : Hid (∀ Y, Below w.heap.size w Y → Calls Try.prog 72 #[.agg #[.slice (some ⟨tb, to', none⟩) m c, .slice a2 m2 c2], .int .i64 t, .int .i64 z] Y fun e w' => ∃ g qs, e = .returned (.slice (some ⟨g, 0, none⟩) z z) ∧ Kids Y.heap.size n w' l (List.replicate z (t : Int)) g qs ∧ Below Y.heap.size Y w') := hid fun Y hY => times_any (some ⟨tb, to', none⟩) m c a2 m2 c2 l n ih (by omega) t z htn Y (HT.out.below hY) hzb
  have HLo := hid hz
  have HTt := hid ht
  have HEN : Hid (T.en = 1) := hid he1
  have hen : (0 : Int) < (T.en : Int) := by omega
  have HHX := hid hx
  have HLZ := hid hlo
  clear ih hah he1 hea hec ht hz hEL hx hlo
  clear x0 x1 hC q
  generalize hTC : tyC T = TC at *
  have HTC := hid hTC
  have GX := hid gX
  have HTS := hid hts
  have HL := hid hl
  clear hTC gX hts hl hT
  have hst1 := (run_cells_mid (P := Try.prog) _ (w.heap.size + 1 + 1) 0 TC (by rw [HL10.out]; exact HTH.out) HO1.out).trans (congrArg _ GX.out)
  go_enter Try.func37, Try.ntmps37
  go_wp2_with (first
    | (refine wpList_load_mid rfl 52 (.tmp 9) rfl tb (to' + n * 10) rfl TC _ HYT.out Try.underlying52 rfl (by rw [HL10.out]; exact csizeT) ?_)
    | fail)
  go_region_with ((go_at_call 72; refine (k1.out _ (below_hp HX.out.B (by rfl) (by rfl) (by rfl) (by rfl))).mono ?_; rintro e w1 ⟨g, qs, rfl, hK, hb1⟩; have HK := hid hK; have HB1 : Hid (Below X.heap.size X w1) := hid ((below_hp (Below.refl _ X) (by rfl) (by rfl) (by rfl) (by rfl)).trans hb1); have x1' := (HB1.out.block _ (by rw [HX.out.s]; omega)).trans HX1.out; have z0 : w1.cell? ⟨w.heap.size + 1, 0, none⟩ = some c0 := cell_of_row _ _ 0 _ _ _ x1'; have z1 : w1.cell? ⟨w.heap.size + 1, 1, none⟩ = some c1 := cell_of_row _ _ 1 _ _ _ x1'; have z2 : w1.cell? ⟨w.heap.size + 1, 2, none⟩ = some d2 := cell_of_row _ _ 2 _ _ _ x1'; have z3 : w1.cell? ⟨w.heap.size + 1, 3, none⟩ = some d3 := cell_of_row _ _ 3 _ _ _ x1'; have fz : ∀ u, w1.frozen? ⟨w.heap.size + 1, u, none⟩ = false := (fun u => by simp [World.frozen?, x1']); have HX2 := hid x1'; clear hK hb1 x1'))
  all_goals
    have hBw : Below w.heap.size w w1 := HX.out.B.trans (HB1.out.mono HX.out.B.size)
    obtain ⟨W, gW⟩ : ∃ W, W = (((w1.setCell ⟨w.heap.size + 1, 0, none⟩ (.int .i64 4)).setCell ⟨w.heap.size + 1, 1, none⟩ (.int .i64 0)).setCell ⟨w.heap.size + 1, 2, none⟩ (.slice (some ⟨g, 0, none⟩) z z)).setCell ⟨w.heap.size + 1, 3, none⟩ (.slice none 0 0) := ⟨_, rfl⟩
    rw [← gW]
    have HE : Hid (W.rangeAt (w.heap.size + 1) 0 (arC ⟨4, 0, some ⟨g, 0, none⟩, z, z, none, 0, 0, []⟩) ∧ Okb w.heap.size (n + 1) W (.mk ⟨4, 0, some ⟨g, 0, none⟩, z, z, none, 0, 0, []⟩ qs) ∧ Below w.heap.size w W) := hid (by
      rw [gW]
      exact least_end (n := n) hBw HX2.out rfl (A := .mk ⟨4, 0, some ⟨g, 0, none⟩, z, z, none, 0, 0, []⟩ qs) (Okb.less (by show w.heap.size + 1 + 1 ≤ X.heap.size; rw [HX.out.s]; omega) _ _ (kids_okb HK.out _ _ _ (by simp) hzb)))
    have HLS : Hid (Lst l (n + 1) n (.mk ⟨4, 0, some ⟨g, 0, none⟩, z, z, none, 0, 0, []⟩ qs)) := hid ⟨T, HLn.out, by simp [lstH, hk, Ar.h], by have := HK.out.2.1; simpa [kdT, hk, Ar.ks, HLo.out, ← HTt.out] using this⟩
    clear gW hBw fz z0 z1 z2 z3
    go_wp2_with fail
    refine bodyPost_ret (cell_result rfl _ _ (w.heap.size + 1) 0 rfl (arC ⟨4, 0, some ⟨g, 0, none⟩, z, z, none, 0, 0, []⟩) _ HE.out.1 Try.underlying30 rfl csizeA) rfl ?_
    exact ⟨.mk ⟨4, 0, some ⟨g, 0, none⟩, z, z, none, 0, 0, []⟩ qs, rfl, HE.out.2.1, HLS.out, HE.out.2.2⟩

end Go.Proofs.Ytkgejeamcgodhaa
