/- What Weigh does with a table's calls: the first loop; the choice of no programs. -/
import Derived.Test.YtcnickihhjhphaaGreatDoorWWeigh
namespace Go.Proofs.YtcnickihhjhphaaGreatDoor
open Go.RowKit
set_option linter.unusedVariables false
set_option maxRecDepth 20000

/-- A choice with one call more: the row has grown, and its slice is stored anew. -/
theorem Cw.more {wr w2 w3 : World} {B p m : Nat} {cs : List Cc} (h : Cw wr B p m cs) (hm : B ≤ wr.heap.size) (hb : Below wr.heap.size wr w2) (x : Cc) (hx : x.Ok w2 B) (hxn : ∀ k, (Value.slice x.a x.n x.c).ownBlock = some k → wr.heap.size ≤ k)
    {v : Value} (hv : wr.heap[p]? = some (.cells #[.bool true, v, .map (some m)] 45 (0, 0))) (hvo : wr.ownsRow B 55 2 v cs.length (ccC cs)) {o : Obj} {g cap : Nat}
    (h3 : w3.ownsRow B 55 2 (.slice (some ⟨g, 0, none⟩) (cs.length + 1) cap) (cs.length + 1) (ccC cs ++ x.cells)) (hg : (w2.alloc o).grownBy w3 v.ownBlock) :
    Cw (w3.setCell ⟨p, 1, none⟩ (.slice (some ⟨g, 0, none⟩) (cs.length + 1) cap)) B p m (cs ++ [x]) ∧ w3.heap[p]? = some (.cells #[.bool true, v, .map (some m)] 45 (0, 0)) ∧ Below p wr (w3.setCell ⟨p, 1, none⟩ (.slice (some ⟨g, 0, none⟩) (cs.length + 1) cap)) := by
  have hp : p < wr.heap.size := (Array.getElem?_eq_some_iff.1 hv).1
  have hs2 := hb.size
  have hbA : Below wr.heap.size wr (w2.alloc o) := hb.trans ((below_box w2 o).mono hs2)
  have hsA := hbA.size
  have hpn : ∀ k, v.ownBlock = some k → k ≠ p := fun k hk => by have := (hvo.lt k hk).1; have := h.lt; omega
  have u3 := Upd.of_grown hg
  have hp3 : w3.heap[p]? = some (.cells #[.bool true, v, .map (some m)] 45 (0, 0)) := u3.heap (by rw [hbA.block p hp]; exact hv) (fun e => hpn p e.symm rfl)
  have u4 : Upd (· = p) w3 (w3.setCell ⟨p, 1, none⟩ (.slice (some ⟨g, 0, none⟩) (cs.length + 1) cap)) := Upd.setCell _ _ _ rfl
  have hgp : ∀ k, (Value.slice (some ⟨g, 0, none⟩) (cs.length + 1) cap).ownBlock = some k → ¬ k = p := fun k hk e => by have := (h3.lt k hk).1; have := h.lt; omega
  refine ⟨⟨⟨.slice (some ⟨g, 0, none⟩) (cs.length + 1) cap, ?_, ?_⟩, fun y hy => ?_, h.lt⟩, hp3, ?_⟩
  · rw [heap_setCell_same w3 p 1 _ _ _ hp3]; simp
  · rw [List.length_append, ccC_snoc]
    exact u4.own h3 hgp
  · rcases List.mem_append.1 hy with hy | hy
    · have hyo := h.ok y hy
      refine u4.own (u3.own (own_below hyo hbA) (fun k hk e => ?_)) (fun k hk e => ?_)
      · exact own_apart hyo hvo (by decide) hk e.symm
      · have := (Array.getElem?_eq_some_iff.1 hp3).1
        have := (hyo.lt k hk).1
        have := h.lt
        omega
    · obtain rfl : y = x := by simpa using hy
      refine u4.own (u3.own (own_below hx (below_box w2 o)) (fun k hk e => ?_)) (fun k hk e => ?_)
      · have h1 := hxn k hk
        have h2 := (hvo.lt k e.symm).2
        omega
      · have h1 := hxn k hk
        omega
  · refine (hbA.mono (by omega)).trans ((u3.below (B := p) (by omega) (fun k hk => ?_)).trans (u4.below (B := p) ?_ (fun k hk => by omega)))
    · have := (hvo.lt k hk.symm).1
      have := h.lt
      omega
    · have := (Array.getElem?_eq_some_iff.1 hp3).1; omega

set_option maxHeartbeats 16000000 in
theorem weigh_nil (a : Option Addr) (m c : Nat) (a2 : Option Addr) (m2 c2 : Nat) (l : List Ty) (q : List Cl) (w : World) (hT : Tys w a l) (hm : l.length = m) (hmb : m ≤ 9223372036854775807) (hQ : Cls w a2 q) (hq : q.length = m2) (hqb : m2 ≤ 1099511627776) (hcb : ∀ C ∈ q, C.an ≤ 4398046511104) :
    Calls Tryz.prog 4 #[.agg #[.slice a m c, .slice a2 m2 c2], .slice none 0 0] w fun e w' => ∃ cs : List Cc, e = .returned (.pointer (some ⟨w.heap.size + 1 + 1, 0, none⟩)) ∧ Cw w' (w.heap.size + 1 + 1 + 1) (w.heap.size + 1 + 1) (w.heap.size + 1) cs ∧ cs.map (fun x => (x.rs, x.ts)) = q.map (mt l) ∧ w'.heap[w.heap.size + 1]? = some (.map #[] 0) ∧ Below w.heap.size w w' := by
  obtain ⟨i0, hi0, hz0, hz1, hz2⟩ := info_parts infoCl
  subst hq
  obtain ⟨X, gX⟩ : ∃ X, ((w.alloc (.cells #[.slice a m c, .slice a2 q.length c2] 25)).alloc (.map #[] 0)).alloc (.cells #[.bool true, .slice none 0 0, .map (some (w.heap.size + 1))] 45) = X := ⟨_, rfl⟩
  have GX := hid gX
  have hmm := @run_makeMap Tryz.prog
  have s1 : (w.alloc (.cells #[.slice a m c, .slice a2 q.length c2] 25)).heap.size = w.heap.size + 1 := by simp
  have s2 : ((w.alloc (.cells #[.slice a m c, .slice a2 q.length c2] 25)).alloc (.map #[] 0)).heap.size = w.heap.size + 1 + 1 := by simp
  have hXs : X.heap.size = w.heap.size + 1 + 1 + 1 := by rw [← gX]; simp
  have b1 := below_box w (.cells #[.slice a m c, .slice a2 q.length c2] 25)
  have b2 := below_box (w.alloc (.cells #[.slice a m c, .slice a2 q.length c2] 25)) (.map #[] 0)
  have b3 := below_box ((w.alloc (.cells #[.slice a m c, .slice a2 q.length c2] 25)).alloc (.map #[] 0)) (.cells #[.bool true, .slice none 0 0, .map (some (w.heap.size + 1))] 45)
  have hB : Below w.heap.size w X := by rw [← gX]; exact (b1.trans (b2.mono (by omega))).trans (b3.mono (by omega))
  have x0 : X.heap[w.heap.size]? = some (.cells #[.slice a m c, .slice a2 q.length c2] 25 (0, 0)) := by
    rw [← gX, b3.block _ (by omega), b2.block _ (by omega)]; exact heap_alloc_new _ _
  have x1 : X.heap[w.heap.size + 1]? = some (.map #[] 0) := by
    have := heap_alloc_new (w.alloc (.cells #[.slice a m c, .slice a2 q.length c2] 25)) (.map #[] 0)
    rw [s1] at this
    rw [← gX, b3.block _ (by omega)]; exact this
  have x2 : X.heap[w.heap.size + 1 + 1]? = some (.cells #[.bool true, .slice none 0 0, .map (some (w.heap.size + 1))] 45 (0, 0)) := by
    have := heap_alloc_new ((w.alloc (.cells #[.slice a m c, .slice a2 q.length c2] 25)).alloc (.map #[] 0)) (.cells #[.bool true, .slice none 0 0, .map (some (w.heap.size + 1))] 45)
    rw [s2] at this
    rw [← gX]; exact this
  have y1 : X.cell? ⟨w.heap.size, 1, none⟩ = some (.slice a2 q.length c2) := cell_of_row _ _ 1 _ _ _ x0
  have HC0 : Hid (Cw X (w.heap.size + 1 + 1 + 1) (w.heap.size + 1 + 1) (w.heap.size + 1) []) := hid ⟨⟨_, x2, World.ownsRow_nil _ _ _ _⟩, fun x hx => by (cases hx), by omega⟩
  have HX0 := hid x0
  have HX1 := hid x1
  have HB := hid hB
  have HT := hid hT
  have HQ := hid hQ
  have HXs := hid hXs
  have HCB := hid hcb
  clear hT hQ hB x0 x1 x2 gX s1 s2 b1 b2 b3 hXs hcb
  go_enter Tryz.func4, Tryz.ntmps4
  go_wp2_with fail
  rw [GX.out]
  go_loopw [16] (fun k wr => ∃ (i : Nat) (cs : List Cc), i ≤ q.length ∧ k = .int .i64 i ∧ Hid (Cw wr (w.heap.size + 1 + 1 + 1) (w.heap.size + 1 + 1) (w.heap.size + 1) cs) ∧ Hid (cs.map (fun x => (x.rs, x.ts)) = (q.take i).map (mt l)) ∧ Hid (Below (w.heap.size + 1 + 1) X wr)) (fun k _ => q.length - (intOf k).toNat)
  case atStart => exact ⟨0, [], by omega, rfl, HC0, hid rfl, hid (Below.refl _ _)⟩
  case round =>
    obtain ⟨i, cs, hi, rfl, HC, HM, HW⟩ := hrel
    rename World => wr
    have hXs := HXs.out
    have hWs := HW.out.size
    have hBw : Below w.heap.size w wr := HB.out.trans (HW.out.mono (by omega))
    by_cases hlt : i < q.length
    · obtain ⟨cb, co, rfl, hcl, hcc⟩ := HQ.out (by omega)
      have HCA := hid ((hcc i hlt).1.below hBw hcl)
      have HCO := hid ((hcc i hlt).2.below hBw)
      have hcan := HCB.out q[i] (List.getElem_mem hlt)
      have HMT : Hid (q.take (i + 1) = q.take i ++ [q[i]]) := hid (by rw [List.take_add_one, List.getElem?_eq_getElem hlt]; rfl)
      generalize q[i] = C at HCA HCO hcan HMT
      have hli : (i : Int) < (q.length : Int) := by omega
      obtain ⟨v, hv, hvo⟩ := HC.out.ex
      have w0 : wr.heap[w.heap.size]? = some (.cells #[.slice a m c, .slice (some ⟨cb, co, none⟩) q.length c2] 25 (0, 0)) := (HW.out.block _ (by omega)).trans HX0.out
      have HCR := hid HCA.out.range
      have hcn : cs.length ≤ 1099511627776 := by
        have := congrArg List.length HM.out
        simp at this
        omega
      obtain ⟨Y, gY⟩ : ∃ Y, (wr.alloc (.cells #[.string ⟨#[]⟩, .int .i64 0, .slice none 0 0, .slice none 0 0, .string ⟨#[]⟩] 52)).setCells wr.heap.size 0 (clC C) = Y := ⟨_, rfl⟩
      have z1 : (wr.alloc (.cells #[.string ⟨#[]⟩, .int .i64 0, .slice none 0 0, .slice none 0 0, .string ⟨#[]⟩] 52)).heap[wr.heap.size]? = some (.cells ([.string ⟨#[]⟩, .int .i64 0, .slice none 0 0, .slice none 0 0, .string ⟨#[]⟩] : List Value).toArray 52 (0, 0)) := heap_alloc_new _ _
      have hst1 := (run_cells_mid (P := Tryz.prog) _ wr.heap.size 0 (clC C) (there_of_block z1 0 5 (by decide)) (by simp [clC, Value.oneCell'])).trans (congrArg _ gY)
      have Y1 : Y.heap[wr.heap.size]? = some (.cells (clC C).toArray 52 (0, 0)) := by rw [← gY]; exact store_new z1 rfl
      have bY : Below wr.heap.size wr Y := by
        rw [← gY]
        exact (below_box wr _).trans ((upd_setCells wr.heap.size (clC C) 0 _).below (by simp) (fun y hy => by omega))
      have hYs : Y.heap.size = wr.heap.size + 1 := by rw [← gY, size_setCells]; simp
      have t0 : Y.cell? ⟨w.heap.size, 0, none⟩ = some (.slice a m c) := (bY.cell (p := ⟨w.heap.size, 0, none⟩) (show w.heap.size < wr.heap.size by omega)).trans (cell_of_row _ _ 0 _ _ _ w0)
      have t1 : Y.cell? ⟨w.heap.size, 1, none⟩ = some (.slice (some ⟨cb, co, none⟩) q.length c2) := (bY.cell (p := ⟨w.heap.size, 1, none⟩) (show w.heap.size < wr.heap.size by omega)).trans (cell_of_row _ _ 1 _ _ _ w0)
      have hvY := (bY.block _ (show w.heap.size + 1 + 1 < wr.heap.size by omega)).trans hv
      have p1 : Y.cell? ⟨w.heap.size + 1 + 1, 1, none⟩ = some v := cell_of_row _ _ 1 _ _ _ hvY
      have d0 : Y.cell? ⟨wr.heap.size, 0, none⟩ = some (.string C.nm) := cell_of_row _ _ 0 _ _ _ Y1
      have d1 : Y.cell? ⟨wr.heap.size, 1, none⟩ = some (.int .i64 C.no) := cell_of_row _ _ 1 _ _ _ Y1
      have d2 : Y.cell? ⟨wr.heap.size, 2, none⟩ = some (.slice C.aa C.an C.ac) := cell_of_row _ _ 2 _ _ _ Y1
      have d3 : Y.cell? ⟨wr.heap.size, 3, none⟩ = some (.slice C.na C.nn C.nc) := cell_of_row _ _ 3 _ _ _ Y1
      have d4 : Y.cell? ⟨wr.heap.size, 4, none⟩ = some (.string C.rt) := cell_of_row _ _ 4 _ _ _ Y1
      have kT : Hid (∀ W, Below Y.heap.size Y W → Calls Tryz.prog 11 #[.agg #[.slice a m c, .slice (some ⟨cb, co, none⟩) q.length c2], .agg #[.string C.nm, .int .i64 C.no, .slice C.aa C.an C.ac, .slice C.na C.nn C.nc, .string C.rt]] W fun e w' => ∃ v, e = .returned v ∧ w'.ownsRow W.heap.size 9 1 v (takes l C.ags).length ((takes l C.ags).map Value.string) ∧ Below W.heap.size W w') :=
        hid fun W hW => taken_any a m c _ q.length c2 l C W (((HT.out.below hBw).below bY).below hW) hm hmb ((HCO.out.below bY).below hW) hcan
      have HV := hid hv
      have HVO := hid hvo
      have HBY := hid bY
      have HBW := hid hBw
      obtain ⟨tk, gtk⟩ : ∃ tk, takes l C.ags = tk := ⟨_, rfl⟩
      rw [gtk] at kT
      have GTK := hid gtk
      have hwY : wr.heap.size < Y.heap.size := by omega
      have hpY : w.heap.size + 1 + 1 < wr.heap.size := by omega
      have hTL : (clC C).length = 5 := rfl
      generalize gCC : clC C = CC at hst1 HCR hTL
      clear gY z1 Y1 bY hvY w0 hv hvo hBw gtk hcc HCA gCC
      go_wp2_with (refine wpList_load_mid rfl 52 (.tmp 18) rfl cb (co + i * 5) rfl CC _ HCR.out Tryz.underlying52 rfl (by rw [hTL]; exact csizeC) ?_)
      go_region_law (first
        | (go_simp; go_at_call 11; refine (kT.out _ (below_hp (Below.refl _ Y) (by rfl) (by rfl) (by rfl) (by rfl))).mono ?_; rintro e w2 ⟨v2, rfl, ho2, hb2⟩; have hY2 : Below Y.heap.size Y w2 := (below_hp (Below.refl _ Y) (by rfl) (by rfl) (by rfl) (by rfl)).trans hb2; have HB2 : Hid (Below wr.heap.size wr w2) := hid (HBY.out.trans (hY2.mono HBY.out.size)); have HO2 : Hid (w2.ownsRow Y.heap.size 9 1 v2 tk.length (tk.map Value.string)) := hid ho2; obtain ⟨ta, tc, rfl⟩ := own_shape ho2; have e1 : w2.cell? ⟨w.heap.size + 1 + 1, 1, none⟩ = some v := (hY2.cell (p := ⟨w.heap.size + 1 + 1, 1, none⟩) (show w.heap.size + 1 + 1 < Y.heap.size by omega)).trans p1; have e4 : w2.cell? ⟨wr.heap.size, 4, none⟩ = some (.string C.rt) := (hY2.cell (p := ⟨wr.heap.size, 4, none⟩) hwY).trans d4; have HVA : Hid (∀ o, (w2.alloc o).ownsRow (w.heap.size + 1 + 1 + 1) 55 2 v cs.length (ccC cs)) := hid (fun o => (own_below HVO.out HB2.out).alloc o); have hs2 : wr.heap.size ≤ w2.heap.size := HB2.out.size; have e1a : (w2.alloc (.cells #[.string C.rt, .slice ta tk.length tc] 55)).cell? ⟨w.heap.size + 1 + 1, 1, none⟩ = some v := ((below_box w2 _).cell (p := ⟨w.heap.size + 1 + 1, 1, none⟩) (show w.heap.size + 1 + 1 < w2.heap.size by omega)).trans e1; clear ho2 hb2 hY2)
        | (refine step_append_lies _ (by rfl) _ _ 42 (by rfl) (w.heap.size + 1 + 1 + 1) 55 i0 _ 2 40 Tryz.underlying42 hi0 hz0 hz1 hz2 rfl (by decide) v cs.length (ccC cs) (by rfl) (HVA.out _) ⟨w2.heap.size, 0, none⟩ 1 1 [.string C.rt, .slice ta tk.length tc] (by rfl) rfl (World.news_of_block (heap_alloc_new w2 _)) (by simp [Value.oneCell']) (by decide) (by unfold maxLen; omega) (by omega) (by simp; omega) (w2.heap.size + 1) (by simp) ?_; intro g cap w3 hO3 hG3 hAT hLT; have hMore := HC.out.more (show w.heap.size + 1 + 1 + 1 ≤ wr.heap.size by omega) HB2.out ⟨C.rt, ta, tk.length, tc, tk⟩ (own_base HO2.out (show w.heap.size + 1 + 1 + 1 ≤ Y.heap.size by omega)) (fun k hk => by have := (HO2.out.lt k hk).1; omega) HV.out HVO.out hO3 hG3; have HMO := hid hMore; have e5 : w3.cell? ⟨w.heap.size + 1 + 1, 1, none⟩ = some v := cell_of_row _ _ 1 _ _ _ hMore.2.1; have e6 : w3.frozen? ⟨w.heap.size + 1 + 1, 1, none⟩ = false := (by simp [World.frozen?, hMore.2.1]); clear hMore hO3 hG3 hAT hLT))
      all_goals
        have hNM : (cs ++ [(⟨C.rt, ta, tk.length, tc, tk⟩ : Cc)]).map (fun x => (x.rs, x.ts)) = (q.take (i + 1)).map (mt l) := by
          rw [HMT.out, List.map_append, List.map_append, HM.out]
          simp [mt, GTK.out]
        have HNM := hid hNM
        clear hNM
        have HNB := hid (HW.out.trans HMO.out.2.2)
        have HNC := hid HMO.out.1
        clear HMO HM HW HC kT HVA HVO HV HB2 HO2
        go_wp2_with fail
        go_roundw
        case rel => exact ⟨i + 1, cs ++ [⟨C.rt, ta, tk.length, tc, tk⟩], by omega, by go_num, HNC, HNM, HNB⟩
        case measure => simp [intOf]; omega
    · obtain rfl : i = q.length := by omega
      have HBW := hid hBw
      clear hBw
      go_wp2_with fail
      go_loopw [38] (fun k w' => k = .int .i64 0 ∧ Hid (w' = wr)) (fun _ _ => 0)
      case atStart => exact ⟨rfl, hid rfl⟩
      case round =>
        obtain ⟨rfl, HE⟩ := hrel
        rename World => wz
        obtain rfl : wz = wr := HE.out
        go_wp2_with fail
        go_ret
        refine ⟨rfl, cs, HC.out, ?_, (HW.out.block _ (by omega)).trans HX1.out, HBW.out⟩
        have := HM.out
        rwa [List.take_length] at this

end Go.Proofs.YtcnickihhjhphaaGreatDoor
