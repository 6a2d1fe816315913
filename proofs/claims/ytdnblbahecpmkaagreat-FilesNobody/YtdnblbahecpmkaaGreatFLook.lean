/- What Look tells of a table without open files. -/
import Derived.Test.YtdnblbahecpmkaaGreatFDrop
namespace Go.Proofs.YtdnblbahecpmkaaGreat
open Go.RowKit Go.ChangeMaps Go.MapKept
set_option linter.unusedVariables false
set_option maxRecDepth 20000

/-- The open files as they are read. -/
def fL (F : Nat → Fl) : List Value := flC (F 0) ++ flC (F 1) ++ flC (F 2) ++ flC (F 3) ++ flC (F 4) ++ flC (F 5) ++ flC (F 6) ++ flC (F 7) ++ flC (F 8) ++ flC (F 9) ++ flC (F 10)
theorem fL_len (F : Nat → Fl) : (fL F).length = 55 := rfl
set_option maxHeartbeats 4000000 in
theorem fL_at (F : Nat → Fl) (i : Nat) (hi : i < 11) (k : Nat) (hk : k < 5) : (fL F)[i * 5 + k]? = (flC (F i))[k]? := by
  obtain rfl | rfl | rfl | rfl | rfl | rfl | rfl | rfl | rfl | rfl | rfl : i = 0 ∨ i = 1 ∨ i = 2 ∨ i = 3 ∨ i = 4 ∨ i = 5 ∨ i = 6 ∨ i = 7 ∨ i = 8 ∨ i = 9 ∨ i = 10 := by omega
  all_goals (obtain rfl | rfl | rfl | rfl | rfl : k = 0 ∨ k = 1 ∨ k = 2 ∨ k = 3 ∨ k = 4 := by omega)
  all_goals rfl
theorem ixFl0 : (fun (F : Nat → Fl) (W : World) => (Instr.index 51 (.agg (fL F).toArray) (.int .i64 0)).run Tryz.prog W) = (fun (F : Nat → Fl) (W : World) => .ok (.agg (flC (F 0)).toArray) W) := by kernel_rfl
theorem ixFl1 : (fun (F : Nat → Fl) (W : World) => (Instr.index 51 (.agg (fL F).toArray) (.int .i64 1)).run Tryz.prog W) = (fun (F : Nat → Fl) (W : World) => .ok (.agg (flC (F 1)).toArray) W) := by kernel_rfl
theorem ixFl2 : (fun (F : Nat → Fl) (W : World) => (Instr.index 51 (.agg (fL F).toArray) (.int .i64 2)).run Tryz.prog W) = (fun (F : Nat → Fl) (W : World) => .ok (.agg (flC (F 2)).toArray) W) := by kernel_rfl
theorem ixFl3 : (fun (F : Nat → Fl) (W : World) => (Instr.index 51 (.agg (fL F).toArray) (.int .i64 3)).run Tryz.prog W) = (fun (F : Nat → Fl) (W : World) => .ok (.agg (flC (F 3)).toArray) W) := by kernel_rfl
theorem ixFl4 : (fun (F : Nat → Fl) (W : World) => (Instr.index 51 (.agg (fL F).toArray) (.int .i64 4)).run Tryz.prog W) = (fun (F : Nat → Fl) (W : World) => .ok (.agg (flC (F 4)).toArray) W) := by kernel_rfl
theorem ixFl5 : (fun (F : Nat → Fl) (W : World) => (Instr.index 51 (.agg (fL F).toArray) (.int .i64 5)).run Tryz.prog W) = (fun (F : Nat → Fl) (W : World) => .ok (.agg (flC (F 5)).toArray) W) := by kernel_rfl
theorem ixFl6 : (fun (F : Nat → Fl) (W : World) => (Instr.index 51 (.agg (fL F).toArray) (.int .i64 6)).run Tryz.prog W) = (fun (F : Nat → Fl) (W : World) => .ok (.agg (flC (F 6)).toArray) W) := by kernel_rfl
theorem ixFl7 : (fun (F : Nat → Fl) (W : World) => (Instr.index 51 (.agg (fL F).toArray) (.int .i64 7)).run Tryz.prog W) = (fun (F : Nat → Fl) (W : World) => .ok (.agg (flC (F 7)).toArray) W) := by kernel_rfl
theorem ixFl8 : (fun (F : Nat → Fl) (W : World) => (Instr.index 51 (.agg (fL F).toArray) (.int .i64 8)).run Tryz.prog W) = (fun (F : Nat → Fl) (W : World) => .ok (.agg (flC (F 8)).toArray) W) := by kernel_rfl
theorem ixFl9 : (fun (F : Nat → Fl) (W : World) => (Instr.index 51 (.agg (fL F).toArray) (.int .i64 9)).run Tryz.prog W) = (fun (F : Nat → Fl) (W : World) => .ok (.agg (flC (F 9)).toArray) W) := by kernel_rfl
theorem ixFl10 : (fun (F : Nat → Fl) (W : World) => (Instr.index 51 (.agg (fL F).toArray) (.int .i64 10)).run Tryz.prog W) = (fun (F : Nat → Fl) (W : World) => .ok (.agg (flC (F 10)).toArray) W) := by kernel_rfl
theorem ixFl (F : Nat → Fl) (j : Nat) (hj : j < 11) (W : World) : (Instr.index 51 (.agg (fL F).toArray) (.int .i64 (j : Int))).run Tryz.prog W = .ok (.agg #[.int .i64 (F j).k, .int .i64 (F j).of, .int .i64 (F j).off, .int .i64 (F j).fl, .int .i64 (F j).h]) W := by
  obtain rfl | rfl | rfl | rfl | rfl | rfl | rfl | rfl | rfl | rfl | rfl : j = 0 ∨ j = 1 ∨ j = 2 ∨ j = 3 ∨ j = 4 ∨ j = 5 ∨ j = 6 ∨ j = 7 ∨ j = 8 ∨ j = 9 ∨ j = 10 := by omega
  · exact congrFun (congrFun ixFl0 F) W
  · exact congrFun (congrFun ixFl1 F) W
  · exact congrFun (congrFun ixFl2 F) W
  · exact congrFun (congrFun ixFl3 F) W
  · exact congrFun (congrFun ixFl4 F) W
  · exact congrFun (congrFun ixFl5 F) W
  · exact congrFun (congrFun ixFl6 F) W
  · exact congrFun (congrFun ixFl7 F) W
  · exact congrFun (congrFun ixFl8 F) W
  · exact congrFun (congrFun ixFl9 F) W
  · exact congrFun (congrFun ixFl10 F) W

theorem Tf.range {w : World} {t p q : Nat} {F : Nat → Fl} (h : Tf w t p q F) : w.rangeAt t 2 (fL F) := fun j v hv => by
  obtain ⟨C, hb, hc⟩ := h
  have hj : j < 55 := by
    rcases Nat.lt_or_ge j 55 with q | q
    · exact q
    · rw [List.getElem?_eq_none (by rw [fL_len]; exact q)] at hv; simp at hv
  have e : j = j / 5 * 5 + j % 5 := by omega
  rw [e, fL_at F (j / 5) (by omega) (j % 5) (by omega), ← hc.at_ (j / 5) (by omega) (j % 5) (by omega)] at hv
  rw [show 2 + j = 2 + j / 5 * 5 + j % 5 by omega]
  exact cell_list hb hv
theorem csizeFls : (Tryz.prog.info? 51).map (·.size) = some 55 := by kernel_rfl

set_option maxHeartbeats 2000000 in
theorem flook_none (w : World) (t p q : Nat) (F : Nat → Fl) (H : Tf w t p q F) (hF : ∀ j, j < 11 → (F j).h = 0) :
    Calls Tryz.prog 16 #[.pointer (some ⟨t, 0, none⟩)] w fun e w' => e = .returned (.slice none 0 0) ∧ Below w.heap.size w w' := by
  have k1 := hid (fusable_yes t p w H.s)
  have hR := hid H.range
  obtain ⟨L, gL⟩ : ∃ L, L = fL F := ⟨_, rfl⟩
  have HS : Hid ((Tryz.prog.info? 51).map (·.size) = some L.length) := by rw [csizeFls, gL, fL_len]; exact hid rfl
  have HIX : Hid (∀ j : Nat, j < 11 → ∀ W : World, (Instr.index 51 (.agg L.toArray) (.int .i64 (j : Int))).run Tryz.prog W = .ok (.agg #[.int .i64 (F j).k, .int .i64 (F j).of, .int .i64 (F j).off, .int .i64 (F j).fl, .int .i64 0]) W) := by
    rw [gL]; exact hid (fun j hj W => by have := ixFl F j hj W; rw [hF j hj] at this; exact this)
  rw [← gL] at hR
  clear H gL hF
  go_enter Tryz.func16, Tryz.ntmps16
  go_wp2_with fail
  refine k1.out.mono ?_
  rintro e w1 ⟨rfl, rfl⟩
  clear k1
  go_wp2_with (refine wpList_load_mid rfl 51 (.tmp 11) rfl t 2 rfl L _ hR.out Tryz.underlying51 rfl HS.out ?_)
  go_loopw [3, 13] (fun v k wr => ∃ j : Nat, j ≤ 11 ∧ k = .int .i64 (j : Int) ∧ v = .slice none 0 0 ∧ Hid (Below w1.heap.size w1 wr)) (fun _ k _ => 11 - (intOf k).toNat)
  case atStart => exact ⟨0, by omega, rfl, rfl, hid (Below.refl _ _)⟩
  case round =>
    obtain ⟨j, hj5, rfl, rfl, HB⟩ := hrel
    by_cases e : j = 11
    · subst e
      go_wp2_with fail
      go_ret
      exact ⟨rfl, HB.out⟩
    · have hix := HIX.out j (by omega)
      have hj6 : (j : Int) < 11 := by omega
      go_wp2_with fail
      go_roundw
      case rel => exact ⟨j + 1, by omega, by go_num, rfl, hid (HB.out.trans (((Below.refl _ _).alloc (Nat.le_refl _) _).mono HB.out.size))⟩
      case measure => simp [intOf]; omega

end Go.Proofs.YtdnblbahecpmkaaGreat
