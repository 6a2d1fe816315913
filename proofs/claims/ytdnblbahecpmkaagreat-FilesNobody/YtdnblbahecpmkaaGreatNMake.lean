/- What freeNumber, newNode of a file and give do. -/
import Derived.Test.YtdnblbahecpmkaaGreatNTo4
namespace Go.Proofs.YtdnblbahecpmkaaGreat
open Go.RowKit Go.ChangeMaps Go.MapKept
set_option linter.unusedVariables false
set_option maxRecDepth 20000

/-- The lowest number of 1 to 16 that no node has; 0: there is none. -/
def Free (P : Nat → Nd) (n : Nat) : Prop := (n = 0 ∧ ∀ i, 1 ≤ i → i < 17 → (P i).k ≠ 0) ∨ (1 ≤ n ∧ n < 17 ∧ (P n).k = 0 ∧ ∀ i, 1 ≤ i → i < n → (P i).k ≠ 0)

set_option maxHeartbeats 1000000 in
theorem freen_any (p : Nat) (S : Sg) (w : World) (H : Sy w p S) : Calls Tryz.prog 62 #[.pointer (some ⟨p, 0, none⟩)] w fun e w' => (∃ n : Nat, e = .returned (.int .i64 (n : Int)) ∧ Free S.P n) ∧ w' = w := by
  have HH := hid H
  clear H
  go_enter Tryz.func62, Tryz.ntmps62
  go_wp2_with fail
  go_loopw [3] (fun k wr => ∃ j : Nat, 1 ≤ j ∧ j ≤ 17 ∧ k = .int .i64 (j : Int) ∧ wr = w ∧ Hid (∀ i, 1 ≤ i → i < j → (S.P i).k ≠ 0)) (fun k _ => 17 - (intOf k).toNat)
  case atStart => exact ⟨1, by omega, by omega, rfl, rfl, hid (fun i h1 h2 => by omega)⟩
  case round =>
    obtain ⟨j, hj1, hj17, rfl, rfl, HQ⟩ := hrel
    by_cases e : j = 17
    · subst e
      go_wp2_with fail
      go_ret
      exact ⟨⟨0, rfl, .inl ⟨rfl, fun i h1 h2 => HQ.out i h1 (by omega)⟩⟩, rfl⟩
    · have hj : j < 17 := by omega
      have hj2 : (j : Int) ≤ 16 := by omega
      have hj3 : (j : Int) < 17 := by omega
      have hj0 : (0 : Int) ≤ (j : Int) := by omega
      have k1 := hid (isthere_any p (1 + j * 107) _ wr (HH.out.k j hj))
      by_cases h0 : (S.P j).k = 0
      · rw [show decide ((S.P j).k ≠ 0) = false by simp [h0]] at k1
        have H0 := hid h0
        clear h0 e
        go_wp2_with fail
        refine k1.out.mono ?_
        rintro e w1 ⟨rfl, rfl⟩
        go_wp2_with fail
        go_ret
        exact ⟨⟨j, rfl, .inr ⟨hj1, hj, H0.out, fun i h1 h2 => HQ.out i h1 h2⟩⟩, rfl⟩
      · rw [show decide ((S.P j).k ≠ 0) = true by simp [h0]] at k1
        have H0 := hid h0
        clear h0 e
        go_wp2_with fail
        refine k1.out.mono ?_
        rintro e w1 ⟨rfl, rfl⟩
        go_wp2_with fail
        go_roundw
        case rel => exact ⟨j + 1, by omega, by omega, by go_num, by first | rfl | trivial, hid (fun i h1 h2 => by
          by_cases q : i = j
          · subst q; exact H0.out
          · exact HQ.out i h1 (by omega))⟩
        case measure => simp [intOf]; omega

theorem builtNode1 : Tryz.prog.built 90 [(0, .int .i64 1), (1, .int .i64 1)] = some (nodeC 1 1 (.map none)).toArray := by kernel_rfl

set_option maxHeartbeats 2000000 in
set_option maxRecDepth 20000 in
theorem newfile (w : World) :
    Calls Tryz.prog 40 #[.int .i64 1] w fun e w' => e = .returned (.agg (nodeC 1 1 (.map none)).toArray) ∧ Below w.heap.size w w' := by
  obtain ⟨Z, gZ⟩ : ∃ Z, Z = nodeC 0 0 (.map none) := ⟨_, rfl⟩
  obtain ⟨N0, gN0⟩ : ∃ N0, N0 = nodeC 1 1 (.map none) := ⟨_, rfl⟩
  have HB : Hid (Tryz.prog.built 90 [(0, .int .i64 1), (1, .int .i64 1)] = some N0.toArray) := by rw [gN0]; exact builtNode1
  have HZ : Hid (Tryz.zeroCells90 = Z.toArray) := by rw [gZ]; exact nodeZ
  have lZ : Hid (Z.length = 107) := by rw [gZ]; exact nodeC_len _ _ _
  have l0 : Hid (N0.length = 107) := by rw [gN0]; exact nodeC_len _ _ _
  have o0 : Hid (N0.toArray.all (·.oneCell') = true) := by rw [gN0]; exact nodeC_one _ _ _
  rw [← gN0]
  have S0 : Hid ((Tryz.prog.info? 90).map (·.size) = some N0.toArray.size) := by rw [csizeNode, List.size_toArray, l0.out]; exact hid rfl
  have S0' : Hid ((Tryz.prog.info? 90).map (·.size) = some N0.length) := by rw [csizeNode, l0.out]; exact hid rfl
  clear gZ gN0
  have hW2 : Hid (((w.alloc (.cells Tryz.zeroCells90 90)).alloc (.cells Tryz.zeroCells90 90)).heap[w.heap.size + 1]? = some (.cells Z.toArray 90 (0, 0)) ∧ ((w.alloc (.cells Tryz.zeroCells90 90)).alloc (.cells Tryz.zeroCells90 90)).heap[w.heap.size]? = some (.cells Z.toArray 90 (0, 0)) ∧ ((w.alloc (.cells Tryz.zeroCells90 90)).alloc (.cells Tryz.zeroCells90 90)).heap.size = w.heap.size + 2 ∧ Below w.heap.size w ((w.alloc (.cells Tryz.zeroCells90 90)).alloc (.cells Tryz.zeroCells90 90))) := by
    rw [HZ.out]
    have b1 : Below w.heap.size w (w.alloc (.cells Z.toArray 90)) := (Below.refl _ _).alloc (Nat.le_refl _) _
    have s1 : (w.alloc (.cells Z.toArray 90)).heap.size = w.heap.size + 1 := by simp
    have b2 : Below (w.heap.size + 1) (w.alloc (.cells Z.toArray 90)) ((w.alloc (.cells Z.toArray 90)).alloc (.cells Z.toArray 90)) := by
      have := (Below.refl _ (w.alloc (.cells Z.toArray 90))).alloc (Nat.le_refl _) (.cells Z.toArray 90)
      rwa [s1] at this
    refine ⟨?_, ?_, by simp, b1.trans (b2.mono (by omega))⟩
    · have := heap_alloc_new (w.alloc (.cells Z.toArray 90)) (.cells Z.toArray 90)
      rwa [s1] at this
    · rw [b2.block _ (by omega)]; exact heap_alloc_new w _
  go_enter Tryz.func40, Tryz.ntmps40
  go_wp2_with (first
    | (refine wpList_build_is rfl 90 #[(0, .tmp 4), (1, .const (.int .i64 1))] rfl N0.toArray (by simpa [Act.eval] using HB.out) ?_)
    | (refine wpList_store_mid rfl 90 (.tmp 3) (.tmp 5) rfl (w.heap.size + 1) 0 N0.toArray rfl rfl (there_of_block hW2.out.1 0 _ (by rw [List.size_toArray, lZ.out, l0.out]; omega)) S0.out o0.out ?_
       obtain ⟨W3, g3⟩ : ∃ W3, W3 = ((w.alloc (.cells Tryz.zeroCells90 90)).alloc (.cells Tryz.zeroCells90 90)).setCells (w.heap.size + 1) 0 N0.toArray.toList := ⟨_, rfl⟩
       rw [← g3]
       have H3 : Hid (W3.heap[w.heap.size + 1]? = some (.cells N0.toArray 90 (0, 0)) ∧ W3.heap[w.heap.size]? = some (.cells Z.toArray 90 (0, 0)) ∧ W3.heap.size = w.heap.size + 2 ∧ Below w.heap.size w W3) := by
         have hU3 : Upd (· = w.heap.size + 1) ((w.alloc (.cells Tryz.zeroCells90 90)).alloc (.cells Tryz.zeroCells90 90)) W3 := by rw [g3]; exact upd_setCells _ _ _ _
         refine hid ⟨?_, hU3.heap hW2.out.2.1 (by omega), by rw [g3, size_setCells]; exact hW2.out.2.2.1, hW2.out.2.2.2.trans (hU3.below (by have := hW2.out.2.2.1; omega) (fun x hx => by omega))⟩
         rw [g3, heap_setCells _ 90 _ 0 _ Z hW2.out.1 (by simp [lZ.out, l0.out]), splice_all _ _ (by simp [lZ.out, l0.out])]
       clear g3)
    | (refine wpList_load_mid rfl 90 (.tmp 3) rfl (w.heap.size + 1) 0 rfl N0 _ (rangeAt_block H3.out.1) Tryz.underlying90 rfl S0'.out ?_)
    | (refine wpList_store_mid rfl 90 (.tmp 2) (.tmp 10) rfl w.heap.size 0 N0.toArray rfl rfl (there_of_block H3.out.2.1 0 _ (by rw [List.size_toArray, lZ.out, l0.out]; omega)) S0.out o0.out ?_))
  have h5 := heap_setCells w.heap.size 90 N0 0 _ Z H3.out.2.1 (by rw [lZ.out, l0.out]; omega)
  rw [splice_all _ _ (by rw [lZ.out, l0.out])] at h5
  (try simp only [Exit.inBlock, Exit.then])
  refine bodyPost_ret (cell_result rfl _ _ w.heap.size 0 rfl N0 _ (rangeAt_block h5) Tryz.underlying90 rfl S0'.out) rfl ?_
  have u5 := upd_setCells w.heap.size N0 0 W3
  exact ⟨rfl, H3.out.2.2.2.trans (u5.below (by have := H3.out.2.2.1; omega) (fun x hx => by omega))⟩

end Go.Proofs.YtdnblbahecpmkaaGreat
