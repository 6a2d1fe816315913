/- The road of FilesNobody. -/
import Derived.Test.YtdnblbahecpmkaaGreatFGoneR
import Derived.Test.YtdnblbahecpmkaaGreatFNob
import Derived.Lib.SlBytesConst
namespace Go.Proofs.YtdnblbahecpmkaaGreat
open Go.RowKit Go.ChangeMaps Go.MapKept
set_option linter.unusedVariables false
set_option maxRecDepth 20000

set_option maxHeartbeats 1000000 in
theorem fn_stat (x : Option Addr) (t : ByteArray) (w : World) (hN : Fnob w x) :
    Calls Tryz.prog 9 #[.pointer x, .string t] w fun e w' => e = .returned (.tuple #[.agg #[.int .i64 0, .int .i64 0, .int .i64 0], .int .i64 22]) ∧ Below w.heap.size w w' := by
  obtain ⟨W, gW⟩ : ∃ W, W = w.alloc (Obj.cells #[.int .i64 0, .int .i64 0, .int .i64 0] 32) := ⟨_, rfl⟩
  have hB : Below w.heap.size w W := by rw [gW]; exact one_new _ _
  have h2 : W.heap[w.heap.size]? = some (.cells #[.int .i64 0, .int .i64 0, .int .i64 0] 32 (0, 0)) := by rw [gW]; exact heap_alloc_new _ _
  have k1 := hid (fn_find x t W (hN.below hB).usable)
  have r0 : W.cell? ⟨w.heap.size, 0, none⟩ = some (.int .i64 0) := by rw [cell_of_row W _ 0 _ _ _ h2]; rfl
  have r1 : W.cell? ⟨w.heap.size, 1, none⟩ = some (.int .i64 0) := by rw [cell_of_row W _ 1 _ _ _ h2]; rfl
  have r2 : W.cell? ⟨w.heap.size, 2, none⟩ = some (.int .i64 0) := by rw [cell_of_row W _ 2 _ _ _ h2]; rfl
  have f0 : ∀ j, W.frozen? ⟨w.heap.size, j, none⟩ = false := fun j => by simp [World.frozen?, h2]
  have f1 := f0 0
  have f2 := f0 1
  have f3 := f0 2
  have HB := hid hB
  have H2 := hid h2
  clear hN hB h2 f0
  go_enter Tryz.func9, Tryz.ntmps9
  go_wp2_with fail
  rw [← gW]
  refine k1.out.mono ?_
  rintro e w2 ⟨rfl, rfl⟩
  clear k1 gW
  go_wp2_with (refine wpList_build_is rfl 32 #[] rfl _ (by simpa [Act.eval] using builtInfo0) ?_)
  have q3 : (((w2.setCell ⟨w.heap.size, 0, none⟩ (.int .i64 0)).setCell ⟨w.heap.size, 1, none⟩ (.int .i64 0)).setCell ⟨w.heap.size, 2, none⟩ (.int .i64 0)).heap[w.heap.size]? = some (.cells (List.toArray [.int .i64 0, .int .i64 0, .int .i64 0]) 32 (0, 0)) := by
    have g1 := heap_setCell_same w2 w.heap.size 0 _ _ (.int .i64 0) H2.out
    have g2 := heap_setCell_same _ w.heap.size 1 _ _ (.int .i64 0) g1
    have g3 := heap_setCell_same _ w.heap.size 2 _ _ (.int .i64 0) g2
    exact g3
  refine bodyPost_ret (cell_result2 rfl _ _ w.heap.size 0 rfl [.int .i64 0, .int .i64 0, .int .i64 0] _ (rangeAt_block q3) Tryz.underlying32 rfl csizeInfo) rfl ?_
  exact ⟨rfl, ((HB.out.setCell (Nat.le_refl _) _).setCell (Nat.le_refl _) _).setCell (Nat.le_refl _) _⟩

/-- The cells of a table that no call made. -/
def tab0 : List Value := [.pointer none, .pointer none] ++ List.replicate 55 (.int .i64 0)
theorem builtTab0 : Tryz.prog.built 53 [] = some tab0.toArray := by kernel_rfl
theorem two_news (w : World) (a b : Obj) : Below w.heap.size w ((w.alloc a).alloc b) := ((Below.refl _ _).alloc (Nat.le_refl _) _).alloc (by simp) _

set_option maxHeartbeats 8000000 in
theorem fnobody_road (a0 : Int) (t : ByteArray) (w : World) : Calls Tryz.prog 4 #[.int .i64 a0, .string t] w fun e w' => e = .returned (.bool true) ∧ Below w.heap.size w w' := by
  obtain ⟨Z, gZ⟩ : ∃ Z : Array Value, Z = tab0.toArray := ⟨_, rfl⟩
  have HB : Hid (Tryz.prog.built 53 [] = some Z) := by rw [gZ]; exact hid builtTab0
  have z0 : Hid (Z[0]? = some (.pointer none)) := by rw [gZ]; exact hid rfl
  clear gZ
  go_enter Tryz.func4, Tryz.ntmps4
  go_wp2_with (refine wpList_build_is rfl 53 #[] rfl Z (by simpa using HB.out) ?_)
  obtain ⟨W, gW⟩ : ∃ W, W = (w.alloc (Obj.cells Z 53)).alloc (Obj.cells #[Value.pointer none, Value.pointer (some ⟨w.heap.size, 0, none⟩)] 23) := ⟨_, rfl⟩
  have hbW : Below w.heap.size w W := by rw [gW]; exact two_news _ _ _
  have hsW : W.heap.size = w.heap.size + 2 := by rw [gW]; simp
  have x2 : W.cell? ⟨w.heap.size, 0, none⟩ = some (.pointer none) := by
    rw [gW, cell_of_row _ w.heap.size 0 Z 53 (0, 0) (by exact (((Below.refl _ (w.alloc (.cells Z 53))).alloc (Nat.le_refl _) _).block w.heap.size (by simp)).trans (heap_alloc_new w _))]
    exact z0.out
  have y0 : W.cell? ⟨w.heap.size + 1, 0, none⟩ = some (.pointer none) := by rw [gW]; simp [go_sem]
  have y1 : W.cell? ⟨w.heap.size + 1, 1, none⟩ = some (.pointer (some ⟨w.heap.size, 0, none⟩)) := by rw [gW]; simp [go_sem]
  rw [← gW]
  have HS := hid hsW
  have HBW := hid hbW
  clear gW hsW hbW
  go_loopw [28] (fun k wr => ∃ i : Nat, i ≤ 2 ∧ k = .int .i64 i ∧ Below (w.heap.size + 2) W wr) (fun k _ => 2 - (intOf k).toNat)
  case atStart => exact ⟨0, by omega, rfl, Below.refl _ _⟩
  case round =>
    obtain ⟨i, hi, rfl, hb⟩ := hrel
    have z2 := (hb.cell (p := ⟨w.heap.size, 0, none⟩) (by simp)).trans x2
    have q0 := (hb.cell (p := ⟨w.heap.size + 1, 0, none⟩) (by simp)).trans y0
    have q1 := (hb.cell (p := ⟨w.heap.size + 1, 1, none⟩) (by simp)).trans y1
    clear x2 y0 y1
    rcases (show i = 2 ∨ i = 0 ∨ i = 1 by omega) with rfl | h01
    · have hsz := hb.size
      have hbw : Below w.heap.size w wr := HBW.out.trans (hb.mono (by omega))
      have HBw := hid hbw
      obtain ⟨W9, g9⟩ : ∃ W9, W9 = wr.alloc (Obj.cells #[.int .u8 120] 5 (1, 2)) := ⟨_, rfl⟩
      have hb9 : Below wr.heap.size wr W9 := by rw [g9]; exact one_new _ _
      have hsrc : Src W9 (some ⟨wr.heap.size, 0, none⟩) 1 [120] := by
        refine ⟨rfl, fun _ => ⟨wr.heap.size, 0, rfl, by rw [g9]; simp, fun j hj => ?_⟩⟩
        obtain rfl : j = 0 := by omega
        show W9.cell? ⟨wr.heap.size, 0, none⟩ = _
        rw [g9, cell_of_row _ wr.heap.size 0 #[.int .u8 120] 5 (1, 2) (by exact heap_alloc_new wr _)]
        rfl
      have k1 := hid (gone_road (some ⟨wr.heap.size, 0, none⟩) 1 1 [120] W9 hsrc (Nat.le_refl _) (by omega))
      have HB9 := hid (HBw.out.trans (hb9.mono HBw.out.size))
      have hcv : (convert 22 22 (.slice (some ⟨wr.heap.size, 0, none⟩) 1 1)).run Tryz.prog (wr.alloc (Obj.cells #[.int .u8 120] 5)) = .ok (.slice (some ⟨wr.heap.size, 0, none⟩) 1 1) (wr.alloc (Obj.cells #[.int .u8 120] 5 (1, 2))) := Lib.run_convert_bytes_const (P := Tryz.prog) wr 22 5 #[.int .u8 120] 1 1 Tryz.underlying22 Tryz.underlying5
      clear q0 q1 z2 hbw hb hsz hb9 hsrc
      go_wp2_with fail
      rw [← g9]
      refine k1.out.mono ?_
      rintro e w1 ⟨rfl, h1⟩
      have HB1 := hid (HB9.out.trans (h1.mono HB9.out.size))
      clear k1 h1 g9
      go_wp2_with fail
      go_ret
      exact ⟨rfl, HB1.out⟩
    · obtain ⟨x, hv, hnob⟩ : ∃ x, wr.cell? ⟨w.heap.size + 1, i, none⟩ = some (.pointer x) ∧ Fnob wr x := by
        have := hb.size
        have := HS.out
        rcases h01 with rfl | rfl
        · exact ⟨_, q0, .inl rfl⟩
        · exact ⟨_, q1, .inr ⟨_, rfl, by omega, z2⟩⟩
      have hi2 : i < 2 := by omega
      have HN := hid hnob
      clear q0 q1 z2 h01 hnob
      go_wp2_with fail
      refine (fn_open x t _ HN.out.usable).mono ?_
      rintro e w1 ⟨rfl, rfl⟩
      go_wp2_with fail
      refine (fn_pipe x _ HN.out.usable).mono ?_
      rintro e w1 ⟨rfl, rfl⟩
      go_wp2_with fail
      refine (fn_read x a0 _ HN.out.usable).mono ?_
      rintro e w1 ⟨rfl, rfl⟩
      go_wp2_with fail
      refine (fn_write x a0 _ HN.out.usable).mono ?_
      rintro e w1 ⟨rfl, rfl⟩
      go_wp2_with fail
      refine (fn_seek x a0 _ HN.out.usable).mono ?_
      rintro e w1 ⟨rfl, rfl⟩
      go_wp2_with fail
      refine (fn_stat x t _ HN.out).mono ?_
      rintro e w2 ⟨rfl, hb2⟩
      go_wp2_with fail
      obtain ⟨W3, g3⟩ : ∃ W3, W3 = w2.alloc (Obj.cells #[Value.int IntKind.i64 0, Value.int IntKind.i64 0, Value.int IntKind.i64 0] 32) := ⟨_, rfl⟩
      have hb3 : Below w1.heap.size w1 W3 := by rw [g3]; exact hb2.trans ((one_new w2 _).mono hb2.size)
      rw [← g3]
      have HN3 := hid (HN.out.below hb3)
      have hb' : Below (w.heap.size + 2) W W3 := hb.trans (hb3.mono (by have := HS.out; have := hb.size; omega))
      have HB' := hid hb'
      clear hb2 hb hb3 g3 hb' HN hv
      refine (fn_hold x a0 _ HN3.out.usable).mono ?_
      rintro e w3 ⟨rfl, rfl⟩
      go_wp2_with fail
      refine (fn_drop x a0 _ HN3.out.usable).mono ?_
      rintro e w3 ⟨rfl, rfl⟩
      go_wp2_with fail
      refine (fn_name x t _ HN3.out.usable).mono ?_
      rintro e w3 ⟨rfl, rfl⟩
      go_wp2_with fail
      refine (fn_trunc x t _ HN3.out.usable).mono ?_
      rintro e w3 ⟨rfl, rfl⟩
      go_wp2_with fail
      obtain ⟨W2, g2⟩ : ∃ W2, W2 = w3.alloc (Obj.cells #[.int .i64 22, .int .i64 22, .int .i64 22, .int .i64 22, .int .i64 22, .int .i64 22, .int .i64 22, .int .i64 22, .int .i64 22, .int .i64 22] 25) := ⟨_, rfl⟩
      have hb1 : Below w3.heap.size w3 W2 := by rw [g2]; exact (Below.refl _ _).alloc (Nat.le_refl _) _
      have hb2 : Below (w.heap.size + 2) W W2 := HB'.out.trans (hb1.mono (by have := HS.out; have := HB'.out.size; omega))
      have hc : ∀ j : Nat, j < 10 → W2.cell? ⟨w3.heap.size, j, none⟩ = some (.int .i64 22) := by
        intro j hj
        rcases (show j = 0 ∨ j = 1 ∨ j = 2 ∨ j = 3 ∨ j = 4 ∨ j = 5 ∨ j = 6 ∨ j = 7 ∨ j = 8 ∨ j = 9 by omega) with rfl | rfl | rfl | rfl | rfl | rfl | rfl | rfl | rfl | rfl <;> rw [g2] <;> simp [go_sem]
      have HN2 := hid (HN3.out.below hb1)
      rw [← g2]
      have HC := hid hc
      clear hc g2
      go_loop [90] (fun k => ∃ j : Nat, j ≤ 10 ∧ k = .int .i64 j) (fun k => 10 - (intOf k).toNat)
      case atStart => exact ⟨0, by omega, rfl⟩
      case round =>
        obtain ⟨j, hj, rfl⟩ := hrel
        by_cases hlt : j < 10
        · have hcj := HC.out j hlt
          go_wp2_with fail
          go_round
          case rel => exact ⟨j + 1, by omega, by go_num⟩
          case measure => simp [intOf]; omega
        · obtain rfl : j = 10 := by omega
          go_wp2_with fail
          refine (fn_look x _ HN2.out.usable).mono ?_
          rintro e w4 ⟨rfl, rfl⟩
          go_wp2_with fail
          refine (fn_nodes x _ HN2.out.usable).mono ?_
          rintro e w4 ⟨rfl, rfl⟩
          go_wp2_with fail
          refine (fn_blocks x _ HN2.out.usable).mono ?_
          rintro e w4 ⟨rfl, rfl⟩
          go_wp2_with fail
          refine (fn_pipes x _ HN2.out.usable).mono ?_
          rintro e w4 ⟨rfl, rfl⟩
          go_wp2_with fail
          go_roundw
          case rel => exact ⟨i + 1, by omega, by go_num, hb2⟩
          case measure => simp [intOf]; omega

end Go.Proofs.YtdnblbahecpmkaaGreat
