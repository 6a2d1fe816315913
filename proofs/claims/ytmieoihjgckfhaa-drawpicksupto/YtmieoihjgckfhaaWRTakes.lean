/- Whether a call takes a resource: what the document's takes answers. -/
import Derived.Test.YtmieoihjgckfhaaWRC
import Derived.Test.YtmieoihjgckfhaaWUses
namespace Go.Proofs.Ytmieoihjgckfhaa
open Go.RowKit Go.Lib
set_option linter.unusedVariables false
set_option maxRecDepth 20000

set_option maxHeartbeats 8000000 in
theorem rtakes_any (w : World) (p : Nat) (a : Option Addr) (m c : Nat) (a2 : Option Addr) (m2 c2 : Nat) (pa : Option Addr) (pn pc : Nat) (l : List Ty) (q : List Cl) (P : List (List Int)) (hR : Rc w p a m c a2 m2 c2 pa pn pc l q P) (b : Nat) (hb : b < q.length) (hcb : q[b].an ≤ 4398046511104) (of : ByteArray) :
    Calls Try.prog 29 #[.pointer (some ⟨p, 0, none⟩), .int .i64 (b : Int), .string of] w fun e w' => e = .returned (.bool ((takes l q[b].ags).any (fun t => decide (of = t)))) ∧ Below w.heap.size w w' := by
  obtain ⟨cb, co, e2, hcl, hcc⟩ := hR.cl (by omega)
  have hCA := (hcc b hb).1
  have hCO := (hcc b hb).2
  have hm := hR.tl
  have hmb := hR.tb
  have hpl : p < w.heap.size := (Array.getElem?_eq_some_iff.1 hR.blk).1
  have p0 : w.cell? ⟨p, 0, none⟩ = some (.slice a m c) := cell_of_row _ _ 0 _ _ _ hR.blk
  have p1 : w.cell? ⟨p, 1, none⟩ = some (.slice a2 m2 c2) := cell_of_row _ _ 1 _ _ _ hR.blk
  have hbm : (b : Int) < (m2 : Int) := by have := hR.ql; omega
  have HT := hid hR.ty
  rw [e2] at p1
  clear hcc e2 hR
  generalize q[b] = C at *
  obtain ⟨nm, no, aa, an, ac, ags, na, nn, nc, rt⟩ := C
  dsimp only at *
  have hal : ags.length = an := hCO.al
  subst hal
  have q2 : w.cell? ⟨cb, co + b * 5 + 2, none⟩ = some (.slice aa ags.length ac) := hCA.c2
  have HAg : Hid (Ints w aa ags) := hid hCO.ag
  subst hm
  have HP0 := hid p0
  have HT2 : Hid (∀ i, i < ags.length → ∀ t, t ∈ (resOf l (ags.getD i 0)).toList → of = t → (takes l ags).any (fun t => decide (of = t)) = true) := hid fun i hi t ht ho => by
    refine List.any_eq_true.2 ⟨t, ?_, by simpa using ho⟩
    unfold takes
    refine List.mem_filterMap.2 ⟨ags.getD i 0, ?_, by simpa using ht⟩
    rw [List.getD_eq_getElem?_getD, List.getElem?_eq_getElem hi]; exact List.getElem_mem hi
  clear hCA hCO p0
  go_enter Try.func29, Try.ntmps29
  go_wp2_with fail
  go_loopw [20] (fun k wr => ∃ (i : Nat), i ≤ ags.length ∧ k = .int .i64 i ∧ Hid ((takes l (ags.take i)).any (fun t => decide (of = t)) = false) ∧ Hid (Below w.heap.size w wr)) (fun k _ => ags.length - (intOf k).toNat)
  case atStart => exact ⟨0, by omega, rfl, hid rfl, hid (Below.refl _ _)⟩
  case round =>
    obtain ⟨i, hi, rfl, HA, HW⟩ := hrel
    rename World => wr
    by_cases hlt : i < ags.length
    · obtain ⟨ab, ao, rfl, habl, hac⟩ := HAg.out (by omega)
      have hci : wr.cell? ⟨ab, ao + i, none⟩ = some (.int .i64 (ags.getD i 0)) := (HW.out.cell (p := ⟨ab, ao + i, none⟩) habl).trans (hac i hlt)
      have HM := hid (takes_more l ags i hlt)
      have HT3 := hid (HT2.out i hlt)
      clear HT2
      have HT2 := HT3
      generalize ags.getD i 0 = x at hci HM HT2 HT3
      have hws := HW.out.size
      have k1 := hid (rtyp_any wr p a c l x ((HW.out.cell (p := ⟨p, 0, none⟩) hpl).trans HP0.out) (by omega) (HT.out.below HW.out) hmb)
      clear hac HT3
      go_wp2_with fail
      refine k1.out.mono ?_
      rintro e w1 ⟨rfl, hb1⟩
      have h1s := hb1.size
      obtain ⟨T1, gT1⟩ : ∃ T1, T1 = tyA l x := ⟨_, rfl⟩
      rw [← gT1]
      have HG1 := hid gT1
      have HT1 : Hid (T1.Ok wr) := by rw [gT1]; exact hid (tyA_ok (HT.out.below HW.out) x)
      obtain ⟨Z, gZ⟩ : ∃ Z, w1.alloc (.cells #[.int .i64 0, .int .i64 0, .int .i64 0, .int .i64 0, .int .i64 0, .string ⟨#[]⟩, .slice none 0 0, .slice none 0 0, .slice none 0 0, .slice none 0 0] 82) = Z := ⟨_, rfl⟩
      have z1 : Z.heap[w1.heap.size]? = some (.cells ([.int .i64 0, .int .i64 0, .int .i64 0, .int .i64 0, .int .i64 0, .string ⟨#[]⟩, .slice none 0 0, .slice none 0 0, .slice none 0 0, .slice none 0 0] : List Value).toArray 82 (0, 0)) := by rw [← gZ]; exact heap_alloc_new _ _
      have bZ : Below wr.heap.size wr Z := hb1.trans ((by rw [← gZ]; exact below_box w1 _ : Below w1.heap.size w1 Z).mono h1s)
      obtain ⟨Y, gY⟩ : ∃ Y, Z.setCells w1.heap.size 0 (tyC T1) = Y := ⟨_, rfl⟩
      have hst1 := (run_cells_mid (P := Try.prog) Z w1.heap.size 0 (tyC T1) (there_of_block z1 0 10 (by decide)) (by simp [tyC, Value.oneCell'])).trans (congrArg _ gY)
      have Y1 : Y.heap[w1.heap.size]? = some (.cells (tyC T1).toArray 82 (0, 0)) := by rw [← gY]; exact store_new z1 rfl
      have bY : Below wr.heap.size wr Y := bZ.trans ((by rw [← gY]; exact upd_setCells w1.heap.size (tyC T1) 0 Z : Upd (· = w1.heap.size) Z Y).below bZ.size (fun y hy => by omega))
      have HBY := hid bY
      have HY1 := hid Y1
      have HVB : Hid (Below w.heap.size w Y) := hid (HW.out.trans (bY.mono HW.out.size))
      have HVK := hid Y1
      rw [← gZ] at hst1
      have hTL : (tyC T1).length = 10 := rfl
      generalize gTC : tyC T1 = TC at hst1 hTL ⊢
      have q0 : Y.cell? ⟨w1.heap.size, 0, none⟩ = some (.int .i64 T1.k) := cell_of_row _ _ 0 _ _ _ Y1
      have q8 : Y.cell? ⟨w1.heap.size, 8, none⟩ = some (.slice T1.ea T1.en T1.ec) := cell_of_row _ _ 8 _ _ _ Y1
      clear k1 hb1 z1 bZ Y1 bY gZ gY hci gT1 gTC
      by_cases h6 : T1.k = 6
      · rw [h6] at q0
        by_cases hen : 0 < T1.en
        · have hen' : (0 : Int) < (T1.en : Int) := by omega
          have HTB : Hid (tyB l x = tyA l (T1.es.getD 0 0)) := by unfold tyB; rw [← HG1.out, if_pos ⟨h6, hen⟩]; exact hid rfl
          obtain ⟨eb, eo, hea, hel, hec⟩ := HT1.out.es (by rw [HT1.out.el]; omega)
          have hee := (HBY.out.cell (p := ⟨eb, eo, none⟩) hel).trans (hec 0 (by rw [HT1.out.el]; omega))
          rw [hea] at q8
          obtain ⟨y, gy⟩ : ∃ y, y = T1.es.getD 0 0 := ⟨_, rfl⟩
          rw [← gy] at hee HTB
          obtain ⟨T2, gT2⟩ : ∃ T2, T2 = tyA l y := ⟨_, rfl⟩
          rw [← gT2] at HTB
          have k2 : Hid (Calls Try.prog 32 #[.pointer (some ⟨p, 0, none⟩), .int .i64 y] Y fun e w' => e = .returned (.agg (tyC T2).toArray) ∧ Below Y.heap.size Y w') := by rw [gT2]; exact hid (rtyp_any Y p a c l y ((HVB.out.cell (p := ⟨p, 0, none⟩) hpl).trans HP0.out) (by have := HVB.out.size; omega) (HT.out.below HVB.out) hmb)
          have hTL2 : (tyC T2).length = 10 := rfl
          have HO2 : Hid ((tyC T2).toArray.all (·.oneCell') = true) := hid (by simp [tyC, Value.oneCell'])
          obtain ⟨TC2, gTC2⟩ : ∃ TC2, tyC T2 = TC2 := ⟨_, rfl⟩
          rw [gTC2] at k2 hTL2 HO2
          have GT2 := hid gTC2
          have hw1Y : w1.heap.size < Y.heap.size := (Array.getElem?_eq_some_iff.1 HY1.out).1
          clear gTC2 gy gT2 hec hea
          go_wp2_with fail
          refine k2.out.mono ?_
          rintro e w2 ⟨rfl, hb2⟩
          have hb3 := (hb2.block _ hw1Y).trans HY1.out
          obtain ⟨V, gV⟩ : ∃ V, w2.setCells w1.heap.size 0 TC2 = V := ⟨_, rfl⟩
          have hst2 := (run_cells_mid (P := Try.prog) w2 w1.heap.size 0 TC2 (by rw [hTL2]; exact there_of_block hb3 0 10 (Nat.le_of_eq rfl)) HO2.out).trans (congrArg _ gV)
          clear HVK
          have HVK : Hid (V.heap[w1.heap.size]? = some (.cells (tyC T2).toArray 82 (0, 0))) := by rw [← gV, GT2.out]; exact hid (store_new hb3 (by rw [hTL2]; rfl))
          have bV : Below wr.heap.size wr V := (HBY.out.trans (hb2.mono HBY.out.size)).trans ((by rw [← gV]; exact upd_setCells w1.heap.size TC2 0 w2 : Upd (· = w1.heap.size) w2 V).below (Nat.le_trans HBY.out.size hb2.size) (fun y hy => by omega))
          clear HVB
          have HVB : Hid (Below w.heap.size w V) := hid (HW.out.trans (bV.mono HW.out.size))
          clear hb2 hb3 gV bV k2 hee q0 q8 hst1
          have v0 : V.cell? ⟨w1.heap.size, 0, none⟩ = some (.int .i64 T2.k) := cell_of_row _ _ 0 _ _ _ HVK.out
          have v5 : V.cell? ⟨w1.heap.size, 5, none⟩ = some (.string T2.o) := cell_of_row _ _ 5 _ _ _ HVK.out
          by_cases h5 : T2.k = 5
          · rw [h5] at v0
            have hE : (resOf l x).toList = [T2.o] := by unfold resOf; rw [HTB.out, if_pos h5]; rfl
            have HE := hid hE
            clear hE
            by_cases ho : T2.o = of
            · have HF : Hid ((takes l ags).any (fun t => decide (of = t)) = true) := hid (HT2.out T2.o (by rw [HE.out]; simp) ho.symm)
              rw [ho] at v5
              go_wp2_with fail
              go_ret
              exact ⟨by rw [HF.out]; rfl, HVB.out⟩
            · have ho1 : (T2.o.toList == of.toList) = false := (bytes_beq_false_iff _ _).2 ho
              have HN : Hid ((takes l (ags.take (i + 1))).any (fun t => decide (of = t)) = false) := by
                rw [HM.out, HE.out, List.any_append, HA.out]
                exact hid (by simp; exact fun q => ho q.symm)
              go_wp2_with fail
              go_roundw
              case rel => exact ⟨i + 1, by omega, by go_num, HN, HVB⟩
              case measure => simp [intOf]; omega
          · have hE : (resOf l x).toList = [] := by unfold resOf; rw [HTB.out, if_neg h5]; rfl
            have HN : Hid ((takes l (ags.take (i + 1))).any (fun t => decide (of = t)) = false) := by
              rw [HM.out, hE, List.append_nil]; exact HA
            clear hE
            go_wp2_with fail
            go_roundw
            case rel => exact ⟨i + 1, by omega, by go_num, HN, HVB⟩
            case measure => simp [intOf]; omega
        · have HTB : Hid (tyB l x = T1) := by unfold tyB; rw [← HG1.out, if_neg (by omega)]; exact hid rfl
          have hen0 : ¬ (0 : Int) < (T1.en : Int) := by omega
          have hE : (resOf l x).toList = [] := by unfold resOf; rw [HTB.out, if_neg (by omega)]; rfl
          have HN : Hid ((takes l (ags.take (i + 1))).any (fun t => decide (of = t)) = false) := by
            rw [HM.out, hE, List.append_nil]; exact HA
          clear hE
          go_wp2_with fail
          go_roundw
          case rel => exact ⟨i + 1, by omega, by go_num, HN, HVB⟩
          case measure => simp [intOf]; omega
      · have HTB : Hid (tyB l x = T1) := by unfold tyB; rw [← HG1.out, if_neg (by omega)]; exact hid rfl
        have h6' : ¬ T1.k = 6 := h6
        have v0 : Y.cell? ⟨w1.heap.size, 0, none⟩ = some (.int .i64 T1.k) := cell_of_row _ _ 0 _ _ _ HVK.out
        have v5 : Y.cell? ⟨w1.heap.size, 5, none⟩ = some (.string T1.o) := cell_of_row _ _ 5 _ _ _ HVK.out
        by_cases h5 : T1.k = 5
        · rw [h5] at v0
          have hE : (resOf l x).toList = [T1.o] := by unfold resOf; rw [HTB.out, if_pos h5]; rfl
          have HE := hid hE
          clear hE
          by_cases ho : T1.o = of
          · have HF : Hid ((takes l ags).any (fun t => decide (of = t)) = true) := hid (HT2.out T1.o (by rw [HE.out]; simp) ho.symm)
            rw [ho] at v5
            go_wp2_with fail
            go_ret
            exact ⟨by rw [HF.out]; rfl, HVB.out⟩
          · have ho1 : (T1.o.toList == of.toList) = false := (bytes_beq_false_iff _ _).2 ho
            have HN : Hid ((takes l (ags.take (i + 1))).any (fun t => decide (of = t)) = false) := by
              rw [HM.out, HE.out, List.any_append, HA.out]
              exact hid (by simp; exact fun q => ho q.symm)
            go_wp2_with fail
            go_roundw
            case rel => exact ⟨i + 1, by omega, by go_num, HN, HVB⟩
            case measure => simp [intOf]; omega
        · have hE : (resOf l x).toList = [] := by unfold resOf; rw [HTB.out, if_neg h5]; rfl
          have HN : Hid ((takes l (ags.take (i + 1))).any (fun t => decide (of = t)) = false) := by
            rw [HM.out, hE, List.append_nil]; exact HA
          clear hE
          go_wp2_with fail
          go_roundw
          case rel => exact ⟨i + 1, by omega, by go_num, HN, HVB⟩
          case measure => simp [intOf]; omega
    · obtain rfl : i = ags.length := by omega
      have HF : Hid ((takes l ags).any (fun t => decide (of = t)) = false) := by
        have := HA.out
        rw [List.take_length] at this
        exact hid this
      go_wp2_with fail
      go_ret
      exact ⟨by rw [HF.out]; rfl, HW.out⟩

end Go.Proofs.Ytmieoihjgckfhaa
