/- What Wait of the first process does. -/
import Derived.Test.YtdkkohbkihaojaaWTab
namespace Go.Proofs.Ytdkkohbkihaojaa
open Go.RowKit
set_option linter.unusedVariables false

theorem builtPr : Try.prog.built 72 [] = some (pcells noProc).toArray := by kernel_rfl

set_option maxHeartbeats 4000000 in
set_option maxRecDepth 20000 in
theorem wait_quiet (q f : Nat) (s c : Int) (w : World) (h : Tq w q f 0 (tab s 0 c)) :
    Calls Try.prog 23 #[.pointer (some ⟨q, 0, none⟩), .int .i64 1] w fun e w' => e = .returned (.tuple #[.int .i64 0, .int .i64 0, .bool false, .int .i64 10]) ∧ Below w.heap.size w w' := by
  have k1 := hid (qproc_yes q f 1 0 _ w h rfl)
  have H := hid h
  have hR := hid h.range
  have hql := h.lt
  obtain ⟨L, gL⟩ : ∃ L, L = tabL s 0 c := ⟨_, rfl⟩
  have HS : Hid ((Try.prog.info? 73).map (·.size) = some L.length) := by rw [csizeTab, gL, tabL_len]; exact hid rfl
  have HIX : Hid (∀ j : Nat, j < 5 → ∀ W : World, (Instr.index 73 (.agg L.toArray) (.int .i64 (j : Int))).run Try.prog W = .ok (.agg #[.int .i64 (tab s 0 c j).st, .int .i64 (tab s 0 c j).pa, .int .i64 (tab s 0 c j).co, .int .i64 0, .int .i64 0, .int .i64 0, .int .i64 0, .int .i64 0, .int .i64 0]) W) := by
    rw [gL]; exact hid (fun j hj W => ixTab s 0 c j hj W)
  rw [← gL] at hR
  clear h gL
  go_enter Try.func23, Try.ntmps23
  go_wp2_with fail
  refine k1.out.mono ?_
  rintro e w1 ⟨rfl, rfl⟩
  go_wp2_with (refine wpList_load_mid rfl 73 (.tmp 24) rfl q 2 rfl L _ hR.out Try.underlying73 rfl HS.out ?_)
  rename World => w
  go_loopw [10, 26] (fun ch k wr => ∃ j : Nat, j ≤ 5 ∧ k = .int .i64 j ∧ ch = .bool (false) ∧ Hid (Below w.heap.size w wr)) (fun _ k _ => 5 - (intOf k).toNat)
  case atStart => exact ⟨0, by omega, rfl, rfl, hid (Below.refl _ _)⟩
  case round =>
    obtain ⟨j, hj5, rfl, rfl, HB⟩ := hrel
    rcases (show j = 5 ∨ j = 2 ∨ (j = 0 ∨ j = 1 ∨ j = 3 ∨ j = 4) by omega) with rfl | h2 | h
    · go_wp2_with fail
      (try simp only [Exit.inBlock, Exit.then])
      refine bodyPost_ret (four_results rfl _ _ _) rfl ?_
      exact ⟨rfl, HB.out⟩
    · have hix := HIX.out j (by omega)
      have hpa : (tab s 0 c j).pa = 0 := by subst h2; rfl
      have hst : (tab s 0 c j).st = s := by subst h2; rfl
      have hco : (tab s 0 c j).co = c := by subst h2; rfl
      have hj6 : (j : Int) < 5 := by omega
      have b0 : (0 : Int) ≤ j := by omega
      have H2 := hid h2
      rw [hpa, hst, hco] at hix
      clear hpa hst hco h2
      go_wp2_with fail
      go_roundw
      case rel => exact ⟨j + 1, by have := H2.out; omega, by go_num, rfl, hid (HB.out.trans (((Below.refl _ _).alloc (Nat.le_refl _) _).mono HB.out.size))⟩
      case measure => simp [intOf]; omega
    · have hix := HIX.out j (by omega)
      have hpa : (tab s 0 c j).pa = 0 := by rcases h with rfl | rfl | rfl | rfl <;> rfl
      have hch : (false) = (false) := by rfl
      obtain ⟨x, gx⟩ : ∃ x, x = tab s 0 c j := ⟨_, rfl⟩
      rw [← gx] at hix hpa
      have HCH := hid hch
      have hj6 : (j : Int) < 5 := by omega
      have HJ : Hid (j + 1 ≤ 5) := hid (by omega)
      clear gx h hch
      rw [hpa] at hix
      go_wp2_with fail
      go_roundw
      case rel => exact ⟨j + 1, HJ.out, by go_num, by rw [HCH.out], hid (HB.out.trans (((Below.refl _ _).alloc (Nat.le_refl _) _).mono HB.out.size))⟩
      case measure => simp [intOf]; omega

set_option maxHeartbeats 4000000 in
set_option maxRecDepth 20000 in
theorem wait_must (q f : Nat) (c : Int) (w : World) (h : Tq w q f 0 (tab 1 1 c)) :
    Calls Try.prog 23 #[.pointer (some ⟨q, 0, none⟩), .int .i64 1] w fun e w' => e = .returned (.tuple #[.int .i64 0, .int .i64 0, .bool true, .int .i64 0]) ∧ Below w.heap.size w w' := by
  have k1 := hid (qproc_yes q f 1 0 _ w h rfl)
  have H := hid h
  have hR := hid h.range
  have hql := h.lt
  obtain ⟨L, gL⟩ : ∃ L, L = tabL 1 1 c := ⟨_, rfl⟩
  have HS : Hid ((Try.prog.info? 73).map (·.size) = some L.length) := by rw [csizeTab, gL, tabL_len]; exact hid rfl
  have HIX : Hid (∀ j : Nat, j < 5 → ∀ W : World, (Instr.index 73 (.agg L.toArray) (.int .i64 (j : Int))).run Try.prog W = .ok (.agg #[.int .i64 (tab 1 1 c j).st, .int .i64 (tab 1 1 c j).pa, .int .i64 (tab 1 1 c j).co, .int .i64 0, .int .i64 0, .int .i64 0, .int .i64 0, .int .i64 0, .int .i64 0]) W) := by
    rw [gL]; exact hid (fun j hj W => ixTab 1 1 c j hj W)
  rw [← gL] at hR
  clear h gL
  go_enter Try.func23, Try.ntmps23
  go_wp2_with fail
  refine k1.out.mono ?_
  rintro e w1 ⟨rfl, rfl⟩
  go_wp2_with (refine wpList_load_mid rfl 73 (.tmp 24) rfl q 2 rfl L _ hR.out Try.underlying73 rfl HS.out ?_)
  rename World => w
  go_loopw [10, 26] (fun ch k wr => ∃ j : Nat, j ≤ 5 ∧ k = .int .i64 j ∧ ch = .bool (decide (3 ≤ j)) ∧ Hid (Below w.heap.size w wr)) (fun _ k _ => 5 - (intOf k).toNat)
  case atStart => exact ⟨0, by omega, rfl, rfl, hid (Below.refl _ _)⟩
  case round =>
    obtain ⟨j, hj5, rfl, rfl, HB⟩ := hrel
    rcases (show j = 5 ∨ j = 2 ∨ (j = 0 ∨ j = 1 ∨ j = 3 ∨ j = 4) by omega) with rfl | h2 | h
    · go_wp2_with fail
      (try simp only [Exit.inBlock, Exit.then])
      refine bodyPost_ret (four_results rfl _ _ _) rfl ?_
      exact ⟨rfl, HB.out⟩
    · have hix := HIX.out j (by omega)
      have hpa : (tab 1 1 c j).pa = 1 := by subst h2; rfl
      have hst : (tab 1 1 c j).st = 1 := by subst h2; rfl
      have hco : (tab 1 1 c j).co = c := by subst h2; rfl
      have hj6 : (j : Int) < 5 := by omega
      have b0 : (0 : Int) ≤ j := by omega
      have H2 := hid h2
      rw [hpa, hst, hco] at hix
      clear hpa hst hco h2
      go_wp2_with fail
      go_roundw
      case rel => exact ⟨j + 1, by have := H2.out; omega, by go_num, by rw [H2.out]; rfl, hid (HB.out.trans (((Below.refl _ _).alloc (Nat.le_refl _) _).mono HB.out.size))⟩
      case measure => simp [intOf]; omega
    · have hix := HIX.out j (by omega)
      have hpa : (tab 1 1 c j).pa = 0 := by rcases h with rfl | rfl | rfl | rfl <;> rfl
      have hch : (decide (3 ≤ j + 1)) = (decide (3 ≤ j)) := by rcases h with rfl | rfl | rfl | rfl <;> rfl
      obtain ⟨x, gx⟩ : ∃ x, x = tab 1 1 c j := ⟨_, rfl⟩
      rw [← gx] at hix hpa
      have HCH := hid hch
      have hj6 : (j : Int) < 5 := by omega
      have HJ : Hid (j + 1 ≤ 5) := hid (by omega)
      clear gx h hch
      rw [hpa] at hix
      go_wp2_with fail
      go_roundw
      case rel => exact ⟨j + 1, HJ.out, by go_num, by rw [HCH.out], hid (HB.out.trans (((Below.refl _ _).alloc (Nat.le_refl _) _).mono HB.out.size))⟩
      case measure => simp [intOf]; omega

set_option maxHeartbeats 4000000 in
set_option maxRecDepth 20000 in
theorem wait_over (q f : Nat) (c : Int) (w : World) (h : Tq w q f 0 (tab 2 1 c)) :
    Calls Try.prog 23 #[.pointer (some ⟨q, 0, none⟩), .int .i64 1] w fun e w' => e = .returned (.tuple #[.int .i64 2, .int .i64 c, .bool false, .int .i64 0]) ∧ Tq w' q f 0 first ∧ Upd (· = q) w w' := by
  have k1 := hid (qproc_yes q f 1 0 _ w h rfl)
  have H := hid h
  have hR := hid h.range
  have hql := h.lt
  obtain ⟨L, gL⟩ : ∃ L, L = tabL 2 1 c := ⟨_, rfl⟩
  have HS : Hid ((Try.prog.info? 73).map (·.size) = some L.length) := by rw [csizeTab, gL, tabL_len]; exact hid rfl
  have HIX : Hid (∀ j : Nat, j < 5 → ∀ W : World, (Instr.index 73 (.agg L.toArray) (.int .i64 (j : Int))).run Try.prog W = .ok (.agg #[.int .i64 (tab 2 1 c j).st, .int .i64 (tab 2 1 c j).pa, .int .i64 (tab 2 1 c j).co, .int .i64 0, .int .i64 0, .int .i64 0, .int .i64 0, .int .i64 0, .int .i64 0]) W) := by
    rw [gL]; exact hid (fun j hj W => ixTab 2 1 c j hj W)
  rw [← gL] at hR
  clear h gL
  go_enter Try.func23, Try.ntmps23
  go_wp2_with fail
  refine k1.out.mono ?_
  rintro e w1 ⟨rfl, rfl⟩
  go_wp2_with (refine wpList_load_mid rfl 73 (.tmp 24) rfl q 2 rfl L _ hR.out Try.underlying73 rfl HS.out ?_)
  rename World => w
  go_loopw [10, 26] (fun ch k wr => ∃ j : Nat, j ≤ 2 ∧ k = .int .i64 j ∧ ch = .bool (false) ∧ Hid (Below w.heap.size w wr)) (fun _ k _ => 5 - (intOf k).toNat)
  case atStart => exact ⟨0, by omega, rfl, rfl, hid (Below.refl _ _)⟩
  case round =>
    obtain ⟨j, hj5, rfl, rfl, HB⟩ := hrel
    rcases (show j = 2 ∨ (j = 0 ∨ j = 1 ∨ j = 3 ∨ j = 4) by omega) with h2 | h
    · have hix := HIX.out j (by omega)
      have hpa : (tab 2 1 c j).pa = 1 := by subst h2; rfl
      have hst : (tab 2 1 c j).st = 2 := by subst h2; rfl
      have hco : (tab 2 1 c j).co = c := by subst h2; rfl
      have hj6 : (j : Int) < 5 := by omega
      have b0 : (0 : Int) ≤ j := by omega
      have H2 := hid h2
      rw [hpa, hst, hco] at hix
      clear hpa hst hco h2
      have hbA : Below w.heap.size w (wr.alloc (.cells #[.int .i64 2, .int .i64 1, .int .i64 c, .int .i64 0, .int .i64 0, .int .i64 0, .int .i64 0, .int .i64 0, .int .i64 0] 72)) := HB.out.trans (((Below.refl _ _).alloc (Nat.le_refl _) _).mono HB.out.size)
      have hTA := H.out.below hbA hql
      have HTH := hid (hTA.th j (by have := H2.out; omega))
      have HPUT := hid (hTA.put j (by have := H2.out; omega) noProc)
      have hz : (wr.alloc (.cells #[.int .i64 2, .int .i64 1, .int .i64 c, .int .i64 0, .int .i64 0, .int .i64 0, .int .i64 0, .int .i64 0, .int .i64 0] 72)).cell? ⟨wr.heap.size, 2, none⟩ = some (.int .i64 c) := by simp [go_sem]
      have hqr : q < wr.heap.size := Nat.lt_of_lt_of_le hql HB.out.size
      obtain ⟨WA, gWA⟩ : ∃ WA, WA = wr.alloc (.cells #[.int .i64 2, .int .i64 1, .int .i64 c, .int .i64 0, .int .i64 0, .int .i64 0, .int .i64 0, .int .i64 0, .int .i64 0] 72) := ⟨_, rfl⟩
      obtain ⟨N, gN⟩ : ∃ N, N = pcells noProc := ⟨_, rfl⟩
      have HSZ : Hid ((Try.prog.info? 72).map (·.size) = some N.toArray.size) := by rw [gN]; exact hid csizePr
      have HBU : Hid (Try.prog.built 72 [] = some N.toArray) := by rw [gN]; exact hid builtPr
      have H1 : Hid (N.toArray.all (·.oneCell') = true) := by rw [gN]; exact hid (by simp [pcells, Value.oneCell'])
      have HT2 : Hid (9 = N.toArray.size) := by rw [gN]; exact hid rfl
      rw [← gN, ← gWA] at HPUT
      rw [← gWA] at HTH hbA
      have HBA := hid hbA
      have hz2 : (WA.setCells q (2 + j * 9) N.toArray.toList).cell? ⟨wr.heap.size, 2, none⟩ = some (.int .i64 c) := by
        rw [gWA]
        have hu := upd_setCells q N.toArray.toList (2 + j * 9) (wr.alloc (.cells #[.int .i64 2, .int .i64 1, .int .i64 c, .int .i64 0, .int .i64 0, .int .i64 0, .int .i64 0, .int .i64 0, .int .i64 0] 72))
        exact (World.cell?_of_block (a := ⟨wr.heap.size, 2, none⟩) (hu.block wr.heap.size (by simp) (by omega))).trans hz
      have hz3 : (WA.setCells q (2 + j * 9) N).cell? ⟨wr.heap.size, 2, none⟩ = some (.int .i64 c) := hz2
      rw [gWA] at hz2 hz3 HTH HPUT HBA
      clear hz gN hTA hbA gWA
      go_wp2_with (first
        | (refine wpList_build_is rfl 72 #[] rfl N.toArray (by simpa using HBU.out) ?_)
        | (refine wpList_store_mid rfl 72 (.tmp 42) (.tmp 39) rfl q (2 + j * 9) N.toArray rfl rfl (by rw [← HT2.out]; exact HTH.out) HSZ.out H1.out ?_))
      go_region_held3 (fun wx => wx.cell? ⟨wr.heap.size, 2, none⟩ = some (.int .i64 c)) (go_keep) (fail)
      go_wp2_with fail
      (try simp only [Exit.inBlock, Exit.then])
      refine bodyPost_ret (four_results rfl _ _ _) rfl ?_
      obtain rfl : j = 2 := H2.out
      have hp := HPUT.out
      rw [show updQ (tab 2 1 c) 2 noProc = first from (tab_upd 2 1 c 0 0 0).trans tab_first] at hp
      have hu := (Upd.of_below (F := (· = q)) HBA.out).trans (upd_setCells q N (2 + 2 * 9) _) (fun _ _ h => h)
      exact ⟨rfl, hp.hp rfl, ⟨hu.os, hu.tape, hu.output, hu.size, hu.block⟩⟩
    · have hix := HIX.out j (by omega)
      have hpa : (tab 2 1 c j).pa = 0 := by rcases h with rfl | rfl | rfl | rfl <;> rfl
      have hch : (false) = (false) := by rfl
      obtain ⟨x, gx⟩ : ∃ x, x = tab 2 1 c j := ⟨_, rfl⟩
      rw [← gx] at hix hpa
      have HCH := hid hch
      have hj6 : (j : Int) < 5 := by omega
      have HJ : Hid (j + 1 ≤ 2) := hid (by omega)
      clear gx h hch
      rw [hpa] at hix
      go_wp2_with fail
      go_roundw
      case rel => exact ⟨j + 1, HJ.out, by go_num, by rw [HCH.out], hid (HB.out.trans (((Below.refl _ _).alloc (Nat.le_refl _) _).mono HB.out.size))⟩
      case measure => simp [intOf]; omega

end Go.Proofs.Ytdkkohbkihaojaa
