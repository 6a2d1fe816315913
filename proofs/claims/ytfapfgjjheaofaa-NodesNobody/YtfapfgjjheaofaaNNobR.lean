/- The road of NodesNobody. -/
import Derived.Test.YtfapfgjjheaofaaNLk3
namespace Go.Proofs.Ytfapfgjjheaofaa
open Go.RowKit
set_option linter.unusedVariables false

theorem two_allocs (w : World) (a b : Obj) : Below w.heap.size w ((w.alloc a).alloc b) := ((Below.refl _ _).alloc (Nat.le_refl _) _).alloc (by simp) _
theorem builtSys0 : Try.prog.built 31 [] = some sysZ.toArray := by kernel_rfl

set_option maxHeartbeats 4000000 in
set_option maxRecDepth 20000 in
theorem nobody_road (a0 : Int) (t : ByteArray) (w : World) : Calls Try.prog 3 #[.int .i64 a0, .string t] w fun e w' => e = .returned (.bool true) ∧ Below w.heap.size w w' := by
  obtain ⟨Z, gZ⟩ : ∃ Z : Array Value, Z = sysZ.toArray := ⟨_, rfl⟩
  have HB : Hid (Try.prog.built 31 [] = some Z) := by rw [gZ]; exact hid builtSys0
  have z0 : Hid (Z[108]? = some (.int .i64 0)) := by rw [gZ]; exact hid (by simpa using sysZ_at 1 (by omega))
  clear gZ
  go_enter Try.func3, Try.ntmps3
  go_wp2_with (refine wpList_build_is rfl 31 #[] rfl Z (by simpa using HB.out) ?_)
  obtain ⟨W, gW⟩ : ∃ W, W = (w.alloc (Obj.cells Z 31)).alloc (Obj.cells #[Value.pointer none, Value.pointer (some ⟨w.heap.size, 0, none⟩)] 22) := ⟨_, rfl⟩
  have hbW : Below w.heap.size w W := by rw [gW]; exact two_allocs _ _ _
  have hsW : W.heap.size = w.heap.size + 2 := by rw [gW]; simp
  have x2 : W.cell? ⟨w.heap.size, 108, none⟩ = some (.int .i64 0) := by
    rw [gW, cell_of_row _ w.heap.size 108 Z 31 (0, 0) (by exact (((Below.refl _ (w.alloc (.cells Z 31))).alloc (Nat.le_refl _) _).block w.heap.size (by simp)).trans (heap_alloc_new w _))]
    exact z0.out
  have y0 : W.cell? ⟨w.heap.size + 1, 0, none⟩ = some (.pointer none) := by rw [gW]; simp [go_sem]
  have y1 : W.cell? ⟨w.heap.size + 1, 1, none⟩ = some (.pointer (some ⟨w.heap.size, 0, none⟩)) := by rw [gW]; simp [go_sem]
  rw [← gW]
  have HS := hid hsW
  have HBW := hid hbW
  clear gW hsW hbW
  go_loopw [23] (fun k wr => ∃ i : Nat, i ≤ 2 ∧ k = .int .i64 i ∧ Below (w.heap.size + 2) W wr) (fun k _ => 2 - (intOf k).toNat)
  case atStart => exact ⟨0, by omega, rfl, Below.refl _ _⟩
  case round =>
    obtain ⟨i, hi, rfl, hb⟩ := hrel
    have z2 := (hb.cell (p := ⟨w.heap.size, 108, none⟩) (by simp)).trans x2
    have q0 := (hb.cell (p := ⟨w.heap.size + 1, 0, none⟩) (by simp)).trans y0
    have q1 := (hb.cell (p := ⟨w.heap.size + 1, 1, none⟩) (by simp)).trans y1
    clear x2 y0 y1
    rcases (show i = 2 ∨ i = 0 ∨ i = 1 by omega) with rfl | h01
    · have hsz := hb.size
      have hbw : Below w.heap.size w wr := HBW.out.trans (hb.mono (by omega))
      have HBw := hid hbw
      have k1 := hid (nnew wr)
      clear q0 q1 z2 hbw hb hsz
      go_wp2_with fail
      refine k1.out.mono ?_
      rintro e w1 ⟨rfl, h1, h2, h3, h4⟩
      have k2 := hid (look_root wr.heap.size (wr.heap.size + 3) w1 ⟨h1, h2⟩ (by omega) (by omega))
      have HB1 := hid (HBw.out.trans (h3.mono HBw.out.size))
      clear k1 h1 h2 h3 h4
      go_wp2_with fail
      refine k2.out.mono ?_
      rintro e w2 ⟨⟨a, c, rfl⟩, h5⟩
      have HB2 := hid (HB1.out.trans (h5.mono HB1.out.size))
      clear k2 h5
      go_wp2_with fail
      go_ret
      exact ⟨rfl, HB2.out⟩
    · obtain ⟨x, hv, hnob⟩ : ∃ x, wr.cell? ⟨w.heap.size + 1, i, none⟩ = some (.pointer x) ∧ Nob wr x := by
        have := hb.size
        have := HS.out
        rcases h01 with rfl | rfl
        · exact ⟨_, q0, .inl rfl⟩
        · exact ⟨_, q1, .inr ⟨_, rfl, by omega, z2⟩⟩
      have hi2 : i < 2 := by omega
      have HN := hid hnob
      clear q0 q1 z2 h01 hnob
      go_wp2_with fail
      refine (n_find x t _ HN.out.usable).mono ?_
      rintro e w1 ⟨rfl, rfl⟩
      go_wp2_with fail
      refine (n_make x t _ HN.out.usable).mono ?_
      rintro e w1 ⟨rfl, rfl⟩
      go_wp2_with fail
      refine (n_stat x a0 _ HN.out).mono ?_
      rintro e w2 ⟨rfl, hb2⟩
      go_wp2_with fail
      obtain ⟨W3, g3⟩ : ∃ W3, W3 = w2.alloc (Obj.cells #[Value.int IntKind.i64 0, Value.int IntKind.i64 0, Value.int IntKind.i64 0] 38) := ⟨_, rfl⟩
      have hb3 : Below w1.heap.size w1 W3 := by rw [g3]; exact hb2.trans ((one_alloc w2 _).mono hb2.size)
      rw [← g3]
      have HN3 := hid (HN.out.below hb3)
      have hb' : Below (w.heap.size + 2) W W3 := hb.trans (hb3.mono (by have := HS.out; have := hb.size; omega))
      have HB' := hid hb'
      clear hb2 hb hb3 g3 hb' HN hv
      refine (n_read x a0 _ HN3.out.usable).mono ?_
      rintro e w3 ⟨rfl, rfl⟩
      go_wp2_with fail
      refine (n_write x a0 _ HN3.out.usable).mono ?_
      rintro e w3 ⟨rfl, rfl⟩
      go_wp2_with fail
      refine (n_unlink x t _ HN3.out.usable).mono ?_
      rintro e w3 ⟨rfl, rfl⟩
      go_wp2_with fail
      refine (n_rmdir x t _ HN3.out.usable).mono ?_
      rintro e w3 ⟨rfl, rfl⟩
      go_wp2_with fail
      refine (n_link x t _ HN3.out.usable).mono ?_
      rintro e w3 ⟨rfl, rfl⟩
      go_wp2_with fail
      refine (n_rename x t _ HN3.out.usable).mono ?_
      rintro e w3 ⟨rfl, rfl⟩
      go_wp2_with fail
      refine (n_resize x a0 _ HN3.out.usable).mono ?_
      rintro e w3 ⟨rfl, rfl⟩
      go_wp2_with fail
      refine (n_hold x a0 _ HN3.out.usable).mono ?_
      rintro e w3 ⟨rfl, rfl⟩
      go_wp2_with fail
      refine (n_drop x a0 _ HN3.out.usable).mono ?_
      rintro e w3 ⟨rfl, rfl⟩
      go_wp2_with fail
      obtain ⟨W2, g2⟩ : ∃ W2, W2 = w3.alloc (Obj.cells #[.int .i64 22, .int .i64 22, .int .i64 22, .int .i64 22, .int .i64 22, .int .i64 22, .int .i64 22, .int .i64 22, .int .i64 22, .int .i64 22, .int .i64 22, .int .i64 22] 33) := ⟨_, rfl⟩
      have hb1 : Below w3.heap.size w3 W2 := by rw [g2]; exact (Below.refl _ _).alloc (Nat.le_refl _) _
      have hb2 : Below (w.heap.size + 2) W W2 := HB'.out.trans (hb1.mono (by have := HS.out; have := HB'.out.size; omega))
      have hc : ∀ j : Nat, j < 12 → W2.cell? ⟨w3.heap.size, j, none⟩ = some (.int .i64 22) := by
        intro j hj
        rcases (show j = 0 ∨ j = 1 ∨ j = 2 ∨ j = 3 ∨ j = 4 ∨ j = 5 ∨ j = 6 ∨ j = 7 ∨ j = 8 ∨ j = 9 ∨ j = 10 ∨ j = 11 by omega) with rfl | rfl | rfl | rfl | rfl | rfl | rfl | rfl | rfl | rfl | rfl | rfl <;> rw [g2] <;> simp [go_sem]
      have HN2 := hid (HN3.out.below hb1)
      rw [← g2]
      have HC := hid hc
      clear hc g2
      go_loop [87] (fun k => ∃ j : Nat, j ≤ 12 ∧ k = .int .i64 j) (fun k => 12 - (intOf k).toNat)
      case atStart => exact ⟨0, by omega, rfl⟩
      case round =>
        obtain ⟨j, hj, rfl⟩ := hrel
        by_cases hlt : j < 12
        · have hcj := HC.out j hlt
          go_wp2_with fail
          go_round
          case rel => exact ⟨j + 1, by omega, by go_num⟩
          case measure => simp [intOf]; omega
        · obtain rfl : j = 12 := by omega
          go_wp2_with fail
          refine (n_look x _ HN2.out.usable).mono ?_
          rintro e w4 ⟨rfl, rfl⟩
          go_wp2_with fail
          refine (n_blocks x _ HN2.out.usable).mono ?_
          rintro e w4 ⟨rfl, rfl⟩
          go_wp2_with fail
          go_roundw
          case rel => exact ⟨i + 1, by omega, by go_num, hb2⟩
          case measure => simp [intOf]; omega

end Go.Proofs.Ytfapfgjjheaofaa
