/- What the program's New of nodes does. -/
import Derived.Test.YtdnblbahecpmkaaGreatNNew
namespace Go.Proofs.YtdnblbahecpmkaaGreat
open Go.RowKit
set_option linter.unusedVariables false

/-- A store of several cells, as the walk meets it. -/
theorem run_cells_mid {P : Program} (w : World) (b o : Nat) (cs : List Value) (ht : w.there b o cs.length) (h1 : cs.toArray.all (·.oneCell') = true) :
    (storeCells ⟨b, o, none⟩ cs).run P w = .ok () (w.setCells b o cs) := by
  have := run_storeCells_cells (P := P) b o cs 0 w (fun j hj => by simpa using (ht j hj).1) (fun j hj => by simpa using (ht j hj).2) (fun v hv => (Array.all_eq_true_iff_forall_mem.1 h1) v (by simpa using hv))
  simpa using this

/-- The cells of a system without nodes. -/
def sysZ : List Value := .int .i64 0 :: ((List.replicate 17 (nodeC 0 0 (.map none))).flatten ++ List.replicate 25 (.bool false))
theorem sysZ_len : sysZ.length = 1845 := by
  simp [sysZ, nodeC_len]
theorem builtSys : Tryz.prog.built 94 [(0, .int .i64 0)] = some sysZ.toArray := by kernel_rfl

/-- The cells of a system with the root alone. -/
def sysC (m : Nat) : List Value := splice sysZ 108 (nodeC 2 1 (.map (some m)))

set_option maxHeartbeats 2000000 in
set_option maxRecDepth 20000 in
theorem nnew (w : World) :
    Calls Tryz.prog 21 #[.int .i64 0] w fun e w' => e = .returned (.pointer (some ⟨w.heap.size, 0, none⟩)) ∧ w'.heap[w.heap.size]? = some (.cells (sysC (w.heap.size + 3)).toArray 94 (0, 0)) ∧ w'.heap[w.heap.size + 3]? = some (.map #[] 0) ∧ Below w.heap.size w w' ∧ w'.heap.size = w.heap.size + 4 := by
  obtain ⟨Z, gZ⟩ : ∃ Z, Z = sysZ := ⟨_, rfl⟩
  obtain ⟨N1, gN1⟩ : ∃ N1, N1 = nodeC 2 1 (.map (some (w.heap.size + 3))) := ⟨_, rfl⟩
  have HB : Hid (Tryz.prog.built 94 [(0, .int .i64 0)] = some Z.toArray) := by rw [gZ]; exact builtSys
  have lZ : Hid (Z.length = 1845) := by rw [gZ]; exact sysZ_len
  have l1 : Hid (N1.length = 107) := by rw [gN1]; exact nodeC_len _ _ _
  have o1 : Hid (N1.toArray.all (·.oneCell') = true) := by rw [gN1]; exact nodeC_one _ _ _
  have S1 : Hid ((Tryz.prog.info? 90).map (·.size) = some N1.toArray.size) := by rw [csizeNode, List.size_toArray, l1.out]; exact hid rfl
  have hb1 : Below w.heap.size w (w.alloc (.cells Z.toArray 94)) := (Below.refl _ _).alloc (Nat.le_refl _) _
  have hs1 : (w.alloc (.cells Z.toArray 94)).heap.size = w.heap.size + 1 := by simp
  have hh1 : (w.alloc (.cells Z.toArray 94)).heap[w.heap.size]? = some (.cells Z.toArray 94 (0, 0)) := heap_alloc_new w _
  have k1 := newnode (w.alloc (.cells Z.toArray 94)).drew
  have kn : Hid (Calls Tryz.prog 40 #[.int .i64 2] (w.alloc (.cells Z.toArray 94)).drew fun e w' => e = .returned (.agg N1.toArray) ∧ Hid (w'.heap[w.heap.size]? = some (.cells Z.toArray 94 (0, 0))) ∧ Hid (Below w.heap.size w w') ∧ Hid (w'.heap.size = w.heap.size + 4) ∧ Hid (w'.heap[w.heap.size + 3]? = some (.map #[] 0))) := by
    refine hid (k1.mono ?_)
    rintro e w' ⟨rfl, h2, h3, h4⟩
    have hs2 : (w.alloc (.cells Z.toArray 94)).drew.heap.size = w.heap.size + 1 := by simp
    rw [hs2] at h2 h3 h4
    refine ⟨by rw [gN1, hs2], hid ((h2.block _ (by omega)).trans hh1), hid ?_, hid h3, hid h4⟩
    exact (hb1.drew).trans (h2.mono (by omega))
  have GZ := hid gZ
  have GN := hid gN1
  clear gZ gN1 k1 hb1 hh1
  go_enter Tryz.func21, Tryz.ntmps21
  go_wp2_with (refine wpList_build_is rfl 94 #[(0, .tmp 4)] rfl Z.toArray (by simpa [Act.eval] using HB.out) ?_)
  go_region_held3 (fun _ => True) (trivial) ((go_at_call 40; refine kn.out.mono ?_; rintro e w2 ⟨rfl, h2, h3, h4, h5⟩; have hst := run_cells_mid (P := Tryz.prog) w2 w.heap.size 108 N1 (there_of_block h2.out 108 _ (by rw [lZ.out, l1.out]; omega)) o1.out))
  go_wp2_with fail
  go_ret
  have u5 := upd_setCells w.heap.size N1 108 w2
  have h6 := heap_setCells w.heap.size 94 N1 108 w2 Z h2.out (by rw [lZ.out, l1.out]; omega)
  refine ⟨rfl, ?_, (u5.block _ (by have := h4.out; omega) (by omega)).trans h5.out, h3.out.trans (u5.below (by have := h4.out; omega) (fun x hx => by omega)), by rw [size_setCells]; exact h4.out⟩
  rw [sysC, ← GZ.out, ← GN.out]
  exact h6

end Go.Proofs.YtdnblbahecpmkaaGreat
