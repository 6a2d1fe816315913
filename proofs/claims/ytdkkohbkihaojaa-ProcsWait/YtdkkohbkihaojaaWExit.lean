/- What Exit of the second process, and Kill of it, do. -/
import Derived.Test.YtdkkohbkihaojaaWFork
namespace Go.Proofs.Ytdkkohbkihaojaa
open Go.RowKit
set_option linter.unusedVariables false

theorem updQ_self (P : Nat → Pc) (i : Nat) : updQ P i (P i) = P := by
  funext j
  by_cases h : j = i
  · subst h; rw [updQ_same]
  · rw [updQ_ne _ _ _ _ h]

theorem empty_no (q f i j : Nat) (d : Int) (P : Nat → Pc) (w : World) (h : Tq w q f d P) (hi : i < 5) (hj : j < 6) :
    Calls Try.prog 65 #[.pointer (some ⟨q, 0, none⟩), .pointer (some ⟨q, 2 + i * 9, none⟩), .int .i64 (j : Int)] w fun e w' => e = .returned (.tuple #[]) ∧ Tq w' q f d P ∧ Upd (· = q) w w' := by
  have hz := h.z i hi j hj
  have hf := h.fz (2 + i * 9 + 3 + j)
  have ht : Tq (w.setCell ⟨q, 2 + i * 9 + 3 + j, none⟩ (.int .i64 0)) q f d P := by
    have := h.set i hi (P i) (3 + j) (by omega) (.int .i64 0) (by
      obtain rfl | rfl | rfl | rfl | rfl | rfl : j = 0 ∨ j = 1 ∨ j = 2 ∨ j = 3 ∨ j = 4 ∨ j = 5 := by omega
      all_goals rfl) (fun _ _ _ => rfl)
    rw [updQ_self] at this
    rwa [show 2 + i * 9 + 3 + j = 2 + i * 9 + (3 + j) by omega]
  have HT := hid ht
  have b0 : (0 : Int) ≤ j := by omega
  have b1 : (j : Int) < 6 := by omega
  clear h ht
  go_enter Try.func65, Try.ntmps65
  go_wp2_with fail
  go_end0
  exact ⟨rfl, HT.out, Upd.setCell (F := (· = q)) w _ _ rfl⟩

set_option maxHeartbeats 1000000 in
theorem leave_no (q f : Nat) (d n : Int) (P : Nat → Pc) (w : World) (h : Tq w q f d P) (hp : ∀ i, i < 5 → (P i).pa ≠ n) :
    Calls Try.prog 66 #[.pointer (some ⟨q, 0, none⟩), .int .i64 n] w fun e w' => e = .returned (.tuple #[]) ∧ w' = w := by
  have H := hid h
  have HP := hid hp
  clear h hp
  go_enter Try.func66, Try.ntmps66
  go_wp2_with fail
  go_loop [6] (fun s => ∃ j : Nat, j ≤ 5 ∧ s = .int .i64 j) (fun s => 5 - (intOf s).toNat)
  case atStart => exact ⟨0, by omega, rfl⟩
  case round =>
    obtain ⟨j, hj, rfl⟩ := hrel
    by_cases h5 : j < 5
    · have hc := H.out.p j h5
      have hne := HP.out j h5
      obtain ⟨a, ga⟩ : ∃ a, a = (P j).pa := ⟨_, rfl⟩
      rw [← ga] at hc hne
      have b0 : (0 : Int) ≤ j := by omega
      have b1 : (j : Int) < 5 := by omega
      clear ga
      go_wp2_with fail
      go_round
      case rel => exact ⟨j + 1, by omega, by go_num⟩
      case measure => simp [intOf]; omega
    · obtain rfl : j = 5 := by omega
      go_wp2_with fail
      go_end0
      exact ⟨rfl, rfl⟩

set_option maxHeartbeats 2000000 in
theorem exit_two (q f : Nat) (a c : Int) (w : World) (h : Tq w q f 0 (tab 1 1 0)) (hc : bits .and .i64 a 255 = c) :
    Calls Try.prog 25 #[.pointer (some ⟨q, 0, none⟩), .int .i64 2, .int .i64 a] w fun e w' => e = .returned (.int .i64 0) ∧ Tq w' q f 0 (tab 2 1 c) ∧ Upd (· = q) w w' := by
  have k1 := hid (qproc_yes q f 2 0 _ w h rfl)
  have H := hid h
  clear h
  go_enter Try.func25, Try.ntmps25
  go_wp2_with fail
  refine k1.out.mono ?_
  rintro e w1 ⟨rfl, rfl⟩
  clear k1
  go_wp2_with fail
  rename World => w
  go_loopw [19] (fun s wr => ∃ j : Nat, j ≤ 6 ∧ s = .int .i64 j ∧ Hid (Tq wr q f 0 (tab 1 1 0)) ∧ Hid (Upd (· = q) w wr)) (fun s _ => 6 - (intOf s).toNat)
  case atStart => exact ⟨0, by omega, rfl, H, hid (Upd.refl _ _)⟩
  case round =>
    obtain ⟨j, hj, rfl, HT, HU⟩ := hrel
    by_cases h6 : j < 6
    · have k2 := hid (empty_no q f 2 j 0 _ wr HT.out (by omega) h6)
      have b0 : (0 : Int) ≤ j := by omega
      have b1 : (j : Int) < 6 := by omega
      go_wp2_with fail
      refine k2.out.mono ?_
      rintro e2 w2 ⟨rfl, ht2, hu2⟩
      have HT2 := hid ht2
      have HU2 := hid (HU.out.trans hu2 (fun _ _ h => h))
      clear ht2 hu2 k2
      go_wp2_with fail
      go_roundw
      case rel => exact ⟨j + 1, by omega, by go_num, HT2, HU2⟩
      case measure => simp [intOf]; omega
    · obtain rfl : j = 6 := by omega
      have s0 : wr.cell? ⟨q, 20, none⟩ = some (.int .i64 1) := HT.out.s 2 (by omega)
      have s1 : wr.cell? ⟨q, 21, none⟩ = some (.int .i64 1) := HT.out.p 2 (by omega)
      have s2 : wr.cell? ⟨q, 22, none⟩ = some (.int .i64 0) := HT.out.c 2 (by omega)
      have g0 := HT.out.fz 20
      have g2 := HT.out.fz 22
      have t1 := HT.out.set 2 (by omega) ⟨2, 1, 0⟩ 0 (by omega) (.int .i64 2) rfl (fun j hj hne => by
        obtain rfl | rfl | rfl | rfl | rfl | rfl | rfl | rfl : j = 1 ∨ j = 2 ∨ j = 3 ∨ j = 4 ∨ j = 5 ∨ j = 6 ∨ j = 7 ∨ j = 8 := by omega
        all_goals rfl)
      rw [tab_upd] at t1
      have t2 := t1.set 2 (by omega) ⟨2, 1, c⟩ 2 (by omega) (.int .i64 c) rfl (fun j hj hne => by
        obtain rfl | rfl | rfl | rfl | rfl | rfl | rfl | rfl : j = 0 ∨ j = 1 ∨ j = 3 ∨ j = 4 ∨ j = 5 ∨ j = 6 ∨ j = 7 ∨ j = 8 := by omega
        all_goals rfl)
      rw [tab_upd] at t2
      have t3 : Tq ((wr.setCell ⟨q, 20, none⟩ (.int .i64 2)).setCell ⟨q, 22, none⟩ (.int .i64 c)) q f 0 (tab 2 1 c) := t2
      have u3 : Upd (· = q) w ((wr.setCell ⟨q, 20, none⟩ (.int .i64 2)).setCell ⟨q, 22, none⟩ (.int .i64 c)) := (HU.out.trans (Upd.setCell (F := (· = q)) wr ⟨q, 20, none⟩ _ rfl) (fun _ _ h => h)).trans (Upd.setCell (F := (· = q)) _ ⟨q, 22, none⟩ _ rfl) (fun _ _ h => h)
      have T3 := hid t3
      have U3 := hid u3
      have k3 := hid (leave_no q f 0 2 _ _ t3 (fun i hi => by
        obtain rfl | rfl | rfl | rfl | rfl : i = 0 ∨ i = 1 ∨ i = 2 ∨ i = 3 ∨ i = 4 := by omega
        all_goals simp [tab, noProc]))
      have p3 : ((wr.setCell ⟨q, 20, none⟩ (.int .i64 2)).setCell ⟨q, 22, none⟩ (.int .i64 c)).cell? ⟨q, 21, none⟩ = some (.int .i64 1) := t3.p 2 (by omega)
      have k4 := hid (qruns_any q f 0 _ 1 true _ t3 rfl)
      obtain ⟨W3, gW3⟩ : ∃ W3, W3 = (wr.setCell ⟨q, 20, none⟩ (.int .i64 2)).setCell ⟨q, 22, none⟩ (.int .i64 c) := ⟨_, rfl⟩
      rw [← gW3] at T3 U3 k3 p3 k4
      have GW := hid gW3
      have HC := hid hc
      clear t1 t2 t3 u3 gW3
      go_wp2_with fail
      rw [← GW.out]
      refine k3.out.mono ?_
      rintro e2 w2 ⟨rfl, rfl⟩
      go_wp2_with fail
      refine k4.out.mono ?_
      rintro e2 w3 ⟨rfl, rfl⟩
      go_wp2_with fail
      go_ret
      exact ⟨rfl, T3.out, U3.out⟩

theorem kill_two (q f : Nat) (w : World) (h : Tq w q f 0 (tab 1 1 0)) :
    Calls Try.prog 24 #[.pointer (some ⟨q, 0, none⟩), .int .i64 1, .int .i64 2] w fun e w' => e = .returned (.int .i64 0) ∧ Tq w' q f 0 (tab 2 1 128) ∧ Upd (· = q) w w' := by
  have k1 := hid (qproc_yes q f 1 0 _ w h rfl)
  have k2 := hid (qproc_yes q f 2 0 _ w h rfl)
  have k3 := hid (exit_two q f 128 128 w h (by rfl))
  clear h
  go_enter Try.func24, Try.ntmps24
  go_wp2_with fail
  refine k1.out.mono ?_
  rintro e w1 ⟨rfl, rfl⟩
  go_wp2_with fail
  refine k2.out.mono ?_
  rintro e w1 ⟨rfl, rfl⟩
  go_wp2_with fail
  refine k3.out.mono ?_
  rintro e w2 ⟨rfl, ht, hu⟩
  have HT := hid ht
  have HU := hid hu
  clear ht hu
  go_wp2_with fail
  go_ret
  exact ⟨rfl, HT.out, HU.out⟩

end Go.Proofs.Ytdkkohbkihaojaa
