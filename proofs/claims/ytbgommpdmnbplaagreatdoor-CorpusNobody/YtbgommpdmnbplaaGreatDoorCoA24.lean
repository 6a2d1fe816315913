/- The corpus and what it stands on, merged. -/
import Derived.Test.YtbgommpdmnbplaaGreatDoorCoA23
import Derived.Test.YtbgommpdmnbplaaGreatDoorCoA22

/- The road of CorpusNobody. (Written by gen_conob.py.) -/
namespace Go.Proofs.YtbgommpdmnbplaaGreatDoor
open Go.RowKit Co Num Jr
set_option linter.unusedVariables false
set_option maxRecDepth 20000

theorem dol1 (w : World) : Dol ((w.alloc (.cells #[.int .i64 1] 3)).alloc (.cells #[.int .i64 0, .string ⟨#[97]⟩, .string ⟨#[]⟩, .slice (some ⟨w.heap.size, 0, none⟩) 1 1, .int .i64 0, .slice none 0 0] 39)) (some ⟨w.heap.size + 1, 0, none⟩) 1 := fun _ => by
  obtain ⟨W, gW⟩ : ∃ W, W = (w.alloc (.cells #[.int .i64 1] 3)).alloc (.cells #[.int .i64 0, .string ⟨#[97]⟩, .string ⟨#[]⟩, .slice (some ⟨w.heap.size, 0, none⟩) 1 1, .int .i64 0, .slice none 0 0] 39) := ⟨_, rfl⟩
  have h1 : W.heap[w.heap.size + 1]? = some (.cells #[.int .i64 0, .string ⟨#[97]⟩, .string ⟨#[]⟩, .slice (some ⟨w.heap.size, 0, none⟩) 1 1, .int .i64 0, .slice none 0 0] 39 (0, 0)) := by
    rw [gW]
    have := heap_alloc_new (w.alloc (.cells #[.int .i64 1] 3)) (.cells #[.int .i64 0, .string ⟨#[97]⟩, .string ⟨#[]⟩, .slice (some ⟨w.heap.size, 0, none⟩) 1 1, .int .i64 0, .slice none 0 0] 39)
    simpa using this
  have h0 : W.heap[w.heap.size]? = some (.cells #[.int .i64 1] 3 (0, 0)) := by rw [gW]; exact (Below.heap_alloc _ _ _ (by simp)).trans (heap_alloc_new _ _)
  rw [← gW]
  refine ⟨w.heap.size + 1, 0, rfl, (Array.getElem?_eq_some_iff.1 h1).1, fun j hj => ?_⟩
  have hj0 : j = 0 := by omega
  subst hj0
  refine ⟨0, ⟨⟨#[97]⟩, ⟨#[]⟩, [1], 0, []⟩, some ⟨w.heap.size, 0, none⟩, 1, none, 0, heap_cells h1 0 _ rfl, heap_cells h1 1 _ rfl, heap_cells h1 2 _ rfl, heap_cells h1 3 _ rfl, heap_cells h1 4 _ rfl, heap_cells h1 5 _ rfl, ⟨⟨rfl, fun _ => ⟨w.heap.size, 0, rfl, (Array.getElem?_eq_some_iff.1 h0).1, fun j hj => ?_⟩, fun h => by cases h⟩, Nat.le_refl _, by omega, fun _ b o _ hx => by simp at hx⟩, il_nil _ _⟩
  have : j = 0 := by have : j < 1 := hj; omega
  subst this
  exact heap_cells h0 0 _ rfl

set_option maxHeartbeats 8000000 in
theorem cnobody_road (s : ByteArray) (w : World) (hT : Tab w) (hR : Er w) : Calls Tryz.prog 8 #[.string s] w fun r w' => r = .returned (.bool true) ∧ Below w.heap.size w w' := by
  have hTl : 1 < w.heap.size := World.block_lt_of_cell? _ _ (hT 0 (by omega))
  obtain ⟨X, gX⟩ : ∃ X, X = (w.alloc (.cells #[.pointer none, .map none] 77)).alloc (.cells #[.pointer none, .pointer (some ⟨w.heap.size, 0, none⟩)] 28) := ⟨_, rfl⟩
  have hX0 : X.heap[w.heap.size]? = some (.cells #[.pointer none, .map none] 77 (0, 0)) := by rw [gX]; exact (Below.heap_alloc _ _ _ (by simp)).trans (heap_alloc_new _ _)
  have hX1 : X.heap[w.heap.size + 1]? = some (.cells #[.pointer none, .pointer (some ⟨w.heap.size, 0, none⟩)] 28 (0, 0)) := by
    rw [gX]
    have := heap_alloc_new (w.alloc (.cells #[.pointer none, .map none] 77)) (.cells #[.pointer none, .pointer (some ⟨w.heap.size, 0, none⟩)] 28)
    simpa using this
  have hbX : Below w.heap.size w X := by rw [gX]; exact ((Below.refl _ _).alloc (Nat.le_refl _) _).alloc (by simp) _
  have HT := hid hT
  have HR := hid hR
  have HX0 := hid hX0
  have HX1 := hid hX1
  have HBX := hid hbX
  have GX := hid gX
  clear hT hR hX0 hX1 hbX gX
  go_enter Tryz.func8, Tryz.ntmps8
  go_upto_region 2 with fail
  rw [← GX.out]
  go_loopw [15] (fun k wr => ∃ (i : Nat), k = .int .i64 i ∧ i ≤ 2 ∧ Hid (Below X.heap.size X wr)) (fun k _ => 2 - (intOf k).toNat)
  case atStart => exact ⟨0, rfl, Nat.zero_le _, hid (Below.refl _ _)⟩
  case round =>
    obtain ⟨i, rfl, hin, HA⟩ := hrel
    by_cases hlt : i < 2
    · have hwx := (HA.out.block (w.heap.size + 1) (Array.getElem?_eq_some_iff.1 HX1.out).1).trans HX1.out
      rcases (by omega : i = 0 ∨ i = 1) with rfl | rfl
      · have hN : NobC wr (.pointer none) := .inl rfl
        have x0 : wr.cell? ⟨w.heap.size + 1, 0, none⟩ = some (.pointer none) := heap_cells hwx 0 _ rfl
        have HN := hid hN
        clear hN hwx
        go_wp2_with fail
        refine (get_no _ s wr HN.out).mono ?_
        rintro r w1 ⟨pa, pc, qa, qc, rfl, hb1⟩
        have HB1 := hid hb1
        clear hb1
        go_upto_region 5 with fail
        obtain ⟨Y, gY⟩ : ∃ Y, Y = w1.alloc (.cells #[.string ⟨#[]⟩, .string ⟨#[]⟩, .slice pa 0 pc, .int .i64 0, .slice qa 0 qc] 37) := ⟨_, rfl⟩
        have hbY : Below w1.heap.size w1 Y := by rw [gY]; exact (Below.refl _ _).alloc (Nat.le_refl _) _
        have hY : Y.heap[w1.heap.size]? = some (.cells #[.string ⟨#[]⟩, .string ⟨#[]⟩, .slice pa 0 pc, .int .i64 0, .slice qa 0 qc] 37 (0, 0)) := by rw [gY]; exact heap_alloc_new _ _
        rw [← gY]
        have d0 : Y.cell? ⟨w1.heap.size, 0, none⟩ = some (.string ⟨#[]⟩) := heap_cells hY 0 _ rfl
        have d1 : Y.cell? ⟨w1.heap.size, 1, none⟩ = some (.string ⟨#[]⟩) := heap_cells hY 1 _ rfl
        have d2 : Y.cell? ⟨w1.heap.size, 2, none⟩ = some (.slice pa 0 pc) := heap_cells hY 2 _ rfl
        have d3 : Y.cell? ⟨w1.heap.size, 3, none⟩ = some (.int .i64 0) := heap_cells hY 3 _ rfl
        have d4 : Y.cell? ⟨w1.heap.size, 4, none⟩ = some (.slice qa 0 qc) := heap_cells hY 4 _ rfl
        have HBY : Hid (Below wr.heap.size wr Y) := hid (HB1.out.trans (hbY.mono HB1.out.size))
        clear gY hY hbY
        go_wp2_with fail
        refine (sameent_none pa qa pc qc Y).mono ?_
        rintro r w2 ⟨rfl, hb2⟩
        have HB2 : Hid (Below wr.heap.size wr w2) := hid (HBY.out.trans (hb2.mono HBY.out.size))
        clear hb2
        go_wp2_with fail
        refine (put_no _ (.agg #[.nilIface, .nilIface, .nilIface, .nilIface, .nilIface]) w2 (HN.out.below HB2.out) ⟨_, rfl, rfl⟩).mono ?_
        rintro r w3 ⟨rfl, hb3⟩
        have HB3 : Hid (Below wr.heap.size wr w3) := hid (HB2.out.trans (hb3.mono HB2.out.size))
        clear hb3
        go_wp2_with fail
        refine (delete_no _ s w3 (HN.out.below HB3.out)).mono ?_
        rintro r w4 ⟨rfl, hb4⟩
        have HB4 : Hid (Below wr.heap.size wr w4) := hid (HB3.out.trans (hb4.mono HB3.out.size))
        clear hb4
        go_wp2_with fail
        refine (keys_no _ w4 (HN.out.below HB4.out)).mono ?_
        rintro r wx ⟨rfl, hx⟩
        subst wx
        go_wp2_with fail
        refine (points_no _ w4 (HN.out.below HB4.out)).mono ?_
        rintro r wx ⟨rfl, hx⟩
        subst wx
        go_wp2_with fail
        go_roundw
        case rel => exact ⟨0 + 1, by go_num, by omega, hid (HA.out.trans (HB4.out.mono HA.out.size))⟩
        case measure => simp [intOf]
      · have hN : NobC wr (.pointer (some ⟨w.heap.size, 0, none⟩)) := .inr ⟨_, rfl, (HA.out.block w.heap.size (Array.getElem?_eq_some_iff.1 HX0.out).1).trans HX0.out⟩
        have x1 : wr.cell? ⟨w.heap.size + 1, 1, none⟩ = some (.pointer (some ⟨w.heap.size, 0, none⟩)) := heap_cells hwx 1 _ rfl
        have HN := hid hN
        clear hN hwx
        go_wp2_with fail
        refine (get_no _ s wr HN.out).mono ?_
        rintro r w1 ⟨pa, pc, qa, qc, rfl, hb1⟩
        have HB1 := hid hb1
        clear hb1
        go_upto_region 5 with fail
        obtain ⟨Y, gY⟩ : ∃ Y, Y = w1.alloc (.cells #[.string ⟨#[]⟩, .string ⟨#[]⟩, .slice pa 0 pc, .int .i64 0, .slice qa 0 qc] 37) := ⟨_, rfl⟩
        have hbY : Below w1.heap.size w1 Y := by rw [gY]; exact (Below.refl _ _).alloc (Nat.le_refl _) _
        have hY : Y.heap[w1.heap.size]? = some (.cells #[.string ⟨#[]⟩, .string ⟨#[]⟩, .slice pa 0 pc, .int .i64 0, .slice qa 0 qc] 37 (0, 0)) := by rw [gY]; exact heap_alloc_new _ _
        rw [← gY]
        have d0 : Y.cell? ⟨w1.heap.size, 0, none⟩ = some (.string ⟨#[]⟩) := heap_cells hY 0 _ rfl
        have d1 : Y.cell? ⟨w1.heap.size, 1, none⟩ = some (.string ⟨#[]⟩) := heap_cells hY 1 _ rfl
        have d2 : Y.cell? ⟨w1.heap.size, 2, none⟩ = some (.slice pa 0 pc) := heap_cells hY 2 _ rfl
        have d3 : Y.cell? ⟨w1.heap.size, 3, none⟩ = some (.int .i64 0) := heap_cells hY 3 _ rfl
        have d4 : Y.cell? ⟨w1.heap.size, 4, none⟩ = some (.slice qa 0 qc) := heap_cells hY 4 _ rfl
        have HBY : Hid (Below wr.heap.size wr Y) := hid (HB1.out.trans (hbY.mono HB1.out.size))
        clear gY hY hbY
        go_wp2_with fail
        refine (sameent_none pa qa pc qc Y).mono ?_
        rintro r w2 ⟨rfl, hb2⟩
        have HB2 : Hid (Below wr.heap.size wr w2) := hid (HBY.out.trans (hb2.mono HBY.out.size))
        clear hb2
        go_wp2_with fail
        refine (put_no _ (.agg #[.nilIface, .nilIface, .nilIface, .nilIface, .nilIface]) w2 (HN.out.below HB2.out) ⟨_, rfl, rfl⟩).mono ?_
        rintro r w3 ⟨rfl, hb3⟩
        have HB3 : Hid (Below wr.heap.size wr w3) := hid (HB2.out.trans (hb3.mono HB2.out.size))
        clear hb3
        go_wp2_with fail
        refine (delete_no _ s w3 (HN.out.below HB3.out)).mono ?_
        rintro r w4 ⟨rfl, hb4⟩
        have HB4 : Hid (Below wr.heap.size wr w4) := hid (HB3.out.trans (hb4.mono HB3.out.size))
        clear hb4
        go_wp2_with fail
        refine (keys_no _ w4 (HN.out.below HB4.out)).mono ?_
        rintro r wx ⟨rfl, hx⟩
        subst wx
        go_wp2_with fail
        refine (points_no _ w4 (HN.out.below HB4.out)).mono ?_
        rintro r wx ⟨rfl, hx⟩
        subst wx
        go_wp2_with fail
        go_roundw
        case rel => exact ⟨1 + 1, by go_num, by omega, hid (HA.out.trans (HB4.out.mono HA.out.size))⟩
        case measure => simp [intOf]
    · have hi2 : i = 2 := by omega
      subst hi2
      have hbw : Below w.heap.size w wr := HBX.out.trans (HA.out.mono HBX.out.size)
      obtain ⟨w5, gw5⟩ : ∃ w5, w5 = wr := ⟨_, rfl⟩
      rw [← gw5] at hbw HA ⊢
      have HBW := hid hbw
      clear hbw gw5
      obtain ⟨Y, gY⟩ : ∃ Y, Y = (w5.alloc (.cells #[.slice none 0 0, .slice none 0 0, .slice none 0 0, .bool false] 84)).alloc (.cells #[.pointer none, .pointer (some ⟨w5.heap.size, 0, none⟩)] 24) := ⟨_, rfl⟩
      have hY0 : Y.heap[w5.heap.size]? = some (.cells #[.slice none 0 0, .slice none 0 0, .slice none 0 0, .bool false] 84 (0, 0)) := by rw [gY]; exact (Below.heap_alloc _ _ _ (by simp)).trans (heap_alloc_new _ _)
      have hY1 : Y.heap[w5.heap.size + 1]? = some (.cells #[.pointer none, .pointer (some ⟨w5.heap.size, 0, none⟩)] 24 (0, 0)) := by
        rw [gY]
        have := heap_alloc_new (w5.alloc (.cells #[.slice none 0 0, .slice none 0 0, .slice none 0 0, .bool false] 84)) (.cells #[.pointer none, .pointer (some ⟨w5.heap.size, 0, none⟩)] 24)
        simpa using this
      have hbY : Below w5.heap.size w5 Y := by rw [gY]; exact ((Below.refl _ _).alloc (Nat.le_refl _) _).alloc (by simp) _
      have HY0 := hid hY0
      have HY1 := hid hY1
      have HBY : Hid (Below w.heap.size w Y) := hid (HBW.out.trans (hbY.mono HBW.out.size))
      have GY := hid gY
      clear hY0 hY1 hbY gY
      have x0 : Y.cell? ⟨w5.heap.size + 1, 0, none⟩ = some (.pointer none) := heap_cells HY1.out 0 _ rfl
      have kO := hid (copen_no _ Y (.inl rfl) (er_in HR.out HBY.out hTl))
      go_wp2_with fail
      rw [← GY.out]
      refine wp_loop_rounds 3 ?_
      rw [rounds_succ]
      go_wp2_with (first | (go_at_call 10; refine kO.out.mono ?_; rintro r w7 ⟨rfl, hb7⟩; have HB7 := hid hb7; clear hb7 kO))
      have hb7 : Below w.heap.size w w7 := HBY.out.trans (HB7.out.mono HBY.out.size)
      have x1 : w7.cell? ⟨w5.heap.size + 1, 1, none⟩ = some (.pointer (some ⟨w5.heap.size, 0, none⟩)) := heap_cells ((HB7.out.block (w5.heap.size + 1) (Array.getElem?_eq_some_iff.1 HY1.out).1).trans HY1.out) 1 _ rfl
      have kO2 := hid (copen_no (.pointer (some ⟨w5.heap.size, 0, none⟩)) w7 (.inr ⟨_, rfl, heap_cells ((HB7.out.block w5.heap.size (Array.getElem?_eq_some_iff.1 HY0.out).1).trans HY0.out) 0 _ rfl⟩) (er_in HR.out hb7 hTl))
      have HBw7 := hid hb7
      clear hb7 x0
      rw [rounds_succ]
      go_wp2_with (first | (go_at_call 10; refine kO2.out.mono ?_; rintro r wi ⟨rfl, hb8⟩; have HB8 := hid hb8; clear hb8 kO2))
      have hbwi : Below w.heap.size w wi := HBw7.out.trans (HB8.out.mono HBw7.out.size)
      clear x1
      rw [rounds_succ]
      obtain ⟨Z, gZ⟩ : ∃ Z, Z = (wi.alloc (.cells #[.int .i64 1] 3)).alloc (.cells #[.int .i64 0, .string ⟨#[97]⟩, .string ⟨#[]⟩, .slice (some ⟨wi.heap.size, 0, none⟩) 1 1, .int .i64 0, .slice none 0 0] 39) := ⟨_, rfl⟩
      have hd : Dol Z (some ⟨wi.heap.size + 1, 0, none⟩) 1 := by rw [gZ]; exact dol1 wi
      have hbZ : Below wi.heap.size wi Z := by rw [gZ]; exact ((Below.refl _ _).alloc (Nat.le_refl _) _).alloc (by simp) _
      have hbwZ : Below w.heap.size w Z := hbwi.trans (hbZ.mono hbwi.size)
      have kP := hid (points_road (some ⟨wi.heap.size + 1, 0, none⟩) 1 1 Z hd (Nat.le_refl _) (by omega) (tab_in HT.out hbwZ hTl) (er_in HR.out hbwZ hTl))
      have HBZ := hid hbwZ
      have GZ := hid gZ
      clear hd hbZ hbwZ gZ hbwi
      go_wp2_with (first | (go_at_call 7; rw [← GZ.out]; refine kP.out.mono ?_; rintro r w9 ⟨rfl, hb9⟩; have HB9 := hid hb9; clear hb9 kP))
      go_ret
      exact ⟨rfl, HBZ.out.trans (HB9.out.mono HBZ.out.size)⟩
end Go.Proofs.YtbgommpdmnbplaaGreatDoor
