/- What the program's Running does: the numbers of the processes that run. -/
import Derived.Test.YtdkkohbkihaojaaQRun
namespace Go.Proofs.Ytdkkohbkihaojaa
open Go.RowKit
set_option linter.unusedVariables false

/-- The numbers of the first n that run. -/
def runL (P : Nat → Pc) : Nat → List Value
  | 0 => []
  | n + 1 => if qruns P (n : Int) then runL P n ++ [.int .i64 (n : Int)] else runL P n
theorem runL_le (P : Nat → Pc) : ∀ n, (runL P n).length ≤ n
  | 0 => Nat.le_refl _
  | n + 1 => by have := runL_le P n; unfold runL; split <;> simp <;> omega

theorem infoInt : (Try.prog.info? 3).map (fun i => (i.zero, i.size, i.bytes)) = some (some (.int .i64 0), 1, 8) := by kernel_rfl

set_option maxHeartbeats 2000000 in
theorem qrunning_any (p f : Nat) (d : Int) (P : Nat → Pc) (w : World) (h : Tq w p f d P) :
    Calls Try.prog 27 #[.pointer (some ⟨p, 0, none⟩)] w fun e w' => ∃ v, e = .returned v ∧ w'.ownsRow 0 3 1 v (runL P 5).length (runL P 5) ∧ (∀ x, v.ownBlock = some x → w.heap.size ≤ x) ∧ Below w.heap.size w w' := by
  obtain ⟨i0, hi0, hz0, hz1, hz2⟩ := info_parts infoInt
  have k1 := hid (qusable_yes p f w h.fl)
  have H := hid h
  clear h
  go_enter Try.func27, Try.ntmps27
  go_wp2_with fail
  refine k1.out.mono ?_
  rintro e w1 ⟨rfl, rfl⟩
  go_wp2_with fail
  rename World => w
  go_loopw [3, 8] (fun v s wr => ∃ j : Nat, j ≤ 5 ∧ s = .int .i64 j ∧ Hid (wr.ownsRow 0 3 1 v (runL P j).length (runL P j)) ∧ Hid (∀ x, v.ownBlock = some x → w.heap.size ≤ x) ∧ Hid (Below w.heap.size w wr)) (fun _ s _ => 5 - (intOf s).toNat)
  case atStart => exact ⟨0, by omega, rfl, hid (World.ownsRow_nil _ _ _ _), hid (fun x hx => by simp [Value.ownBlock] at hx), hid (Below.refl _ _)⟩
  case round =>
    obtain ⟨j, hj5, rfl, HR, HV, HB⟩ := hrel
    obtain ⟨vo, hvo⟩ : ∃ vo, vo = u3 := ⟨_, rfl⟩
    rw [← hvo] at HR HV ⊢
    clear hvo
    by_cases h5 : j < 5
    · have c3 : (0 : Int) ≤ j := by omega
      have c4 : (j : Int) < 5 := by omega
      have hT : Tq wr p f d P := H.out.below HB.out H.out.lt
      cases ht : qruns P (j : Int)
      · have k2 := hid (qruns_any p f d P j false wr hT ht.symm)
        have HN : Hid (runL P (j + 1) = runL P j) := hid (by simp [runL, ht])
        clear hT ht
        go_wp2_with fail
        refine k2.out.mono ?_
        rintro e2 w2 ⟨rfl, rfl⟩
        go_wp2_with fail
        go_roundw
        case rel => exact ⟨j + 1, by omega, by go_num, by rw [HN.out]; exact HR, HV, HB⟩
        case measure => simp [intOf]; omega
      · have k2 := hid (qruns_any p f d P j true wr hT ht.symm)
        have HN : Hid (runL P (j + 1) = runL P j ++ [.int .i64 (j : Int)]) := hid (by simp [runL, ht])
        have hle := runL_le P j
        obtain ⟨n, gn⟩ : ∃ n, n = (runL P j).length := ⟨_, rfl⟩
        obtain ⟨L, gL⟩ : ∃ L, L = runL P j := ⟨_, rfl⟩
        rw [← gn] at hle HR
        rw [← gL] at HR HN
        have GN := hid gn
        have GL := hid gL
        clear hT ht gn gL
        go_wp2_with fail
        refine k2.out.mono ?_
        rintro e2 w2 ⟨rfl, rfl⟩
        go_wp2_with (at_builtin; go_must (refine wpList_append_where rfl _ _ 52 rfl 3 i0 _ 1 8 Try.underlying52 hi0 hz0 hz1 hz2 rfl (by decide) vo n L rfl (HR.out.alloc _) ⟨_, 0, none⟩ 1 1 [.int .i64 (j : Int)] rfl rfl (by intro a u hj; rw [Addr.add_lit, Nat.zero_add, cell_of_row _ w2.heap.size a _ 3 (0, 0) (by exact heap_alloc_new w2 _)]; simpa using hj) (by simp [Value.oneCell']) (by unfold maxLen; omega) (by omega) ?_))
        intro v' w3 hO3 hU3 hN3 hW3
        have hbw3 : Below w.heap.size w w3 := by
          have s0 := HB.out.size
          exact HB.out.trans ((((Below.refl w2.heap.size w2).alloc (Nat.le_refl _) _).mono s0).trans (hU3.below (by simp; omega) (fun x hx => HV.out x hx)))
        have hv3 : ∀ x, v'.ownBlock = some x → w.heap.size ≤ x := by
          intro x hx
          rcases hW3.out with h | h
          · exact HV.out x (by rw [← h]; exact hx)
          · have h1 := h x hx
            have h2 := HB.out.size
            omega
        have hr3 : w3.ownsRow 0 3 1 v' (runL P (j + 1)).length (runL P (j + 1)) := by
          have h1 := hO3.out
          rw [HN.out]
          have h2 : (L ++ [Value.int .i64 (j : Int)]).length = n + 1 := by rw [GN.out, GL.out]; simp
          rw [h2]; exact h1
        have HR3 := hid hr3
        have HV3 := hid hv3
        have HB3 := hid hbw3
        clear hr3 hv3 hbw3 hO3 hU3 hN3 hW3 k2
        go_wp2_with fail
        go_roundw
        case rel => exact ⟨j + 1, by omega, by go_num, HR3, HV3, HB3⟩
        case measure => simp [intOf]; omega
    · obtain rfl : j = 5 := by omega
      go_wp2_with fail
      go_ret
      exact ⟨_, rfl, HR.out, HV.out, HB.out⟩

end Go.Proofs.Ytdkkohbkihaojaa
