/- What Fork of the first process does, where it is the only one. -/
import Derived.Test.YtdkkohbkihaojaaWTab
namespace Go.Proofs.Ytdkkohbkihaojaa
open Go.RowKit
set_option linter.unusedVariables false

set_option maxHeartbeats 1000000 in
theorem free_2 (q f : Nat) (w : World) (h : Tq w q f 0 first) :
    Calls Try.prog 62 #[.pointer (some ⟨q, 0, none⟩)] w fun e w' => e = .returned (.int .i64 2) ∧ w' = w := by
  have s1 : w.cell? ⟨q, 11, none⟩ = some (.int .i64 1) := h.s 1 (by omega)
  have s2 : w.cell? ⟨q, 20, none⟩ = some (.int .i64 0) := h.s 2 (by omega)
  clear h
  go_enter Try.func62, Try.ntmps62
  go_wp2_with fail
  go_loop [3] (fun s => s = .int .i64 1 ∨ s = .int .i64 2) (fun s => 2 - (intOf s).toNat)
  case atStart => exact .inl rfl
  case round =>
    rcases hrel with rfl | rfl
    · go_wp2_with fail
      go_round
      case rel => exact .inr (by go_num)
      case measure => simp [intOf]
    · go_wp2_with fail
      go_ret
      exact ⟨rfl, rfl⟩

theorem cell_setCell_off (w : World) (b o o' : Nat) (v : Value) (h : o ≠ o') : (w.setCell ⟨b, o, none⟩ v).cell? ⟨b, o', none⟩ = w.cell? ⟨b, o', none⟩ :=
  World.cell?_setCells_out b [v] o w ⟨b, o', none⟩ (fun _ _ => show o' < o ∨ o + 1 ≤ o' by omega)

theorem nest9 (w : World) (q : Nat) : w.setCells q (2 + 2 * 9) (pcells ⟨1, 1, 0⟩) = (((((((((w.setCell ⟨q, 20, none⟩ (.int .i64 1)).setCell ⟨q, 21, none⟩ (.int .i64 1)).setCell ⟨q, 22, none⟩ (.int .i64 0)).setCell ⟨q, 23, none⟩ (.int .i64 0)).setCell ⟨q, 24, none⟩ (.int .i64 0)).setCell ⟨q, 25, none⟩ (.int .i64 0)).setCell ⟨q, 26, none⟩ (.int .i64 0)).setCell ⟨q, 27, none⟩ (.int .i64 0)).setCell ⟨q, 28, none⟩ (.int .i64 0)) := by
  simp only [pcells, World.setCells, Nat.reduceAdd, Nat.reduceMul]

theorem Tq.drew {w : World} {p f : Nat} {d : Int} {P : Nat → Pc} (h : Tq w p f d P) : Tq w.drew p f d P := h.hp rfl
theorem upd_drew {F : Nat → Prop} {w w' : World} (h : Upd F w w') : Upd F w w'.drew := ⟨h.os, h.tape, h.output, h.size, h.block⟩
theorem fork_tab {w : World} {q f : Nat} (h : Tq w q f 0 first) : Tq (w.setCells q (2 + 2 * 9) (pcells ⟨1, 1, 0⟩)).drew q f 0 (tab 1 1 0) := by
  have hp := h.put 2 (by omega) ⟨1, 1, 0⟩
  rw [← tab_first, tab_upd] at hp
  exact hp.drew

theorem qhas_no (q : Nat) (w : World) (h : w.cell? ⟨q, 1, none⟩ = some (.int .i64 0)) :
    Calls Try.prog 63 #[.pointer (some ⟨q, 0, none⟩), .int .i64 16] w fun e w' => e = .returned (.bool false) ∧ w' = w := by
  go_enter Try.func63, Try.ntmps63
  go_wp2
  go_ret
  exact ⟨rfl, rfl⟩

set_option maxHeartbeats 4000000 in
set_option maxRecDepth 20000 in
theorem fork_first (q f : Nat) (w : World) (h : Tq w q f 0 first) :
    Calls Try.prog 22 #[.pointer (some ⟨q, 0, none⟩), .int .i64 1] w fun e w' => e = .returned (.tuple #[.int .i64 2, .int .i64 0]) ∧ Tq w' q f 0 (tab 1 1 0) ∧ Upd (· = q) w w' := by
  have k1 := hid (qproc_yes q f 1 0 _ w h rfl)
  have k2 := hid (free_2 q f w h)
  have z0 : w.cell? ⟨q, 14, none⟩ = some (.int .i64 0) := h.z 1 (by omega) 0 (by omega)
  have z1 : w.cell? ⟨q, 15, none⟩ = some (.int .i64 0) := h.z 1 (by omega) 1 (by omega)
  have z2 : w.cell? ⟨q, 16, none⟩ = some (.int .i64 0) := h.z 1 (by omega) 2 (by omega)
  have z3 : w.cell? ⟨q, 17, none⟩ = some (.int .i64 0) := h.z 1 (by omega) 3 (by omega)
  have z4 : w.cell? ⟨q, 18, none⟩ = some (.int .i64 0) := h.z 1 (by omega) 4 (by omega)
  have z5 : w.cell? ⟨q, 19, none⟩ = some (.int .i64 0) := h.z 1 (by omega) 5 (by omega)
  have y0 : w.cell? ⟨q, 20, none⟩ = some (.int .i64 0) := h.s 2 (by omega)
  have y1 : w.cell? ⟨q, 21, none⟩ = some (.int .i64 0) := h.p 2 (by omega)
  have y2 : w.cell? ⟨q, 22, none⟩ = some (.int .i64 0) := h.c 2 (by omega)
  have y3 : w.cell? ⟨q, 23, none⟩ = some (.int .i64 0) := h.z 2 (by omega) 0 (by omega)
  have y4 : w.cell? ⟨q, 24, none⟩ = some (.int .i64 0) := h.z 2 (by omega) 1 (by omega)
  have y5 : w.cell? ⟨q, 25, none⟩ = some (.int .i64 0) := h.z 2 (by omega) 2 (by omega)
  have y6 : w.cell? ⟨q, 26, none⟩ = some (.int .i64 0) := h.z 2 (by omega) 3 (by omega)
  have y7 : w.cell? ⟨q, 27, none⟩ = some (.int .i64 0) := h.z 2 (by omega) 4 (by omega)
  have y8 : w.cell? ⟨q, 28, none⟩ = some (.int .i64 0) := h.z 2 (by omega) 5 (by omega)
  have g0 := h.fz 20
  have g1 := h.fz 21
  have g2 := h.fz 22
  have g3 := h.fz 23
  have g4 := h.fz 24
  have g5 := h.fz 25
  have g6 := h.fz 26
  have g7 := h.fz 27
  have g8 := h.fz 28
  have H := hid h
  clear h
  go_enter Try.func22, Try.ntmps22
  go_wp2_with fail
  refine k1.out.mono ?_
  rintro e w1 ⟨rfl, rfl⟩
  go_wp2_with fail
  refine k2.out.mono ?_
  rintro e w1 ⟨rfl, rfl⟩
  clear k1 k2
  go_wp2_with fail
  go_region_held3 (fun wx => wx.cell? ⟨q, 14, none⟩ = some (.int .i64 0) ∧ wx.cell? ⟨q, 15, none⟩ = some (.int .i64 0) ∧ wx.cell? ⟨q, 16, none⟩ = some (.int .i64 0) ∧ wx.cell? ⟨q, 17, none⟩ = some (.int .i64 0) ∧ wx.cell? ⟨q, 18, none⟩ = some (.int .i64 0) ∧ wx.cell? ⟨q, 19, none⟩ = some (.int .i64 0)) (simp [*, cell_setCell_off]) (fail)
  go_wp2_with fail
  have hdf := H.out.df
  refine (qhas_no q _ (by simp [cell_setCell_off, hdf])).mono ?_
  rintro e W2 ⟨rfl, gW2⟩
  have e2 : W2 = (w1.setCells q (2 + 2 * 9) (pcells ⟨1, 1, 0⟩)).drew := by rw [gW2, nest9]
  clear gW2
  have hT2 : Tq W2 q f 0 (tab 1 1 0) := by rw [e2]; exact fork_tab H.out
  have hU2 : Upd (· = q) w1 W2 := by rw [e2]; exact upd_drew (upd_setCells q (pcells ⟨1, 1, 0⟩) (2 + 2 * 9) w1)
  have HT2 := hid hT2
  have HU2 := hid hU2
  have hfd : Hid (W2.rangeAt q 14 fdL) := by
    refine hid (fun j v hv => ?_)
    have hj : j < 6 := (List.getElem?_eq_some_iff.1 hv).1
    have hz := hT2.z 1 (by omega) j hj
    have hv0 : v = .int .i64 0 := by
      obtain rfl | rfl | rfl | rfl | rfl | rfl : j = 0 ∨ j = 1 ∨ j = 2 ∨ j = 3 ∨ j = 4 ∨ j = 5 := by omega
      all_goals (simp [fdL] at hv; exact hv.symm)
    rw [hv0]; exact hz
  obtain ⟨F, gF⟩ : ∃ F, F = fdL := ⟨_, rfl⟩
  have HSF : Hid ((Try.prog.info? 24).map (·.size) = some F.length) := by rw [gF]; exact hid csizeFd
  have HIF : Hid (∀ j : Nat, j < 6 → ∀ W : World, (Instr.index 24 (.agg F.toArray) (.int .i64 (j : Int))).run Try.prog W = .ok (.int .i64 0) W) := by rw [gF]; exact hid (fun j hj W => ixFd j hj W)
  rw [← gF] at hfd
  clear gF e2 hT2 hU2 z0 z1 z2 z3 z4 z5 y0 y1 y2 y3 y4 y5 y6 y7 y8 g0 g1 g2 g3 g4 g5 g6 g7 g8
  go_wp2_with (refine wpList_load_mid rfl 24 (.tmp 40) rfl q 14 rfl F _ hfd.out Try.underlying24 rfl HSF.out ?_)
  go_loop [42] (fun s => ∃ j : Nat, j ≤ 6 ∧ s = .int .i64 j) (fun s => 6 - (intOf s).toNat)
  case atStart => exact ⟨0, by omega, rfl⟩
  case round =>
    obtain ⟨j, hj, rfl⟩ := hrel
    by_cases h6 : j < 6
    · have hix := HIF.out j h6
      have b0 : (0 : Int) ≤ j := by omega
      have b1 : (j : Int) < 6 := by omega
      go_wp2_with fail
      go_round
      case rel => exact ⟨j + 1, by omega, by go_num⟩
      case measure => simp [intOf]; omega
    · obtain rfl : j = 6 := by omega
      go_wp2_with fail
      go_ret2
      exact ⟨rfl, HT2.out, HU2.out⟩

end Go.Proofs.Ytdkkohbkihaojaa
