/- Texts of this seat, merged. -/
import Derived.Test.YtbglhmcahnkbfaaGreatHMg12
import Derived.Carry

/- What the program's newNode of a directory and New of nodes do. -/
namespace Go.Proofs.YtbglhmcahnkbfaaGreat
open Go.RowKit
set_option linter.unusedVariables false

/-- The cells of a node without bytes and blocks. -/
def nodeC (k l : Int) (m : Value) : List Value := [.int .i64 k, .int .i64 l, .int .i64 0, .int .i64 0] ++ List.replicate 96 (.int .u8 0) ++ List.replicate 6 (.int .i64 0) ++ [m]
theorem nodeC_len (k l : Int) (m : Value) : (nodeC k l m).length = 107 := by simp [nodeC]
theorem nodeC_one (k l : Int) (m : Option Nat) : (nodeC k l (.map m)).toArray.all (·.oneCell') = true := all_oneCell_toArray (fun v hv => by
  simp only [nodeC, List.mem_append, List.mem_cons, List.not_mem_nil, or_false, List.mem_replicate] at hv
  rcases hv with (((h | h | h | h) | ⟨_, h⟩) | ⟨_, h⟩) | h <;> subst h <;> rfl)
theorem nodeC_set (k l : Int) (m m' : Value) : (nodeC k l m).set 106 m' = nodeC k l m' := by simp [nodeC]
theorem nodeZ : Tryz.zeroCells144 = (nodeC 0 0 (.map none)).toArray := by kernel_rfl
theorem builtNode : Tryz.prog.built 144 [(0, .int .i64 2), (1, .int .i64 1)] = some (nodeC 2 1 (.map none)).toArray := by kernel_rfl
theorem csizeNode : (Tryz.prog.info? 144).map (·.size) = some 107 := by kernel_rfl

theorem splice_all {α : Type} (xs ys : List α) (h : xs.length = ys.length) : splice xs 0 ys = ys := by
  unfold splice; simp; omega

theorem cell_result {P : Program} {fn : Func} {t : Tmp} {ty : TypeId} (h : fn.results = #[.cell t ty]) (tmps : Array Value) (w : World) (b o : Nat) (ht : tmps.getD t undef = .pointer (some ⟨b, o, none⟩)) (cs : List Value) (d : TypeDesc) (hc : w.rangeAt b o cs)
    (hu : P.underlying ty = some d) (hd : d.isRow = true) (hi : (P.info? ty).map (·.size) = some cs.length) :
    (results fn tmps).run P w = .ok (.agg cs.toArray) w := by
  have hl := run_loadVar_mid (P := P) w b o ty cs d hc hu hd hi
  rw [Array.getD_eq_getD_getElem?] at ht
  simp [results, h, ht, asAddr, hl]

theorem rangeAt_block {w : World} {b : Nat} {C : List Value} {t : TypeId} (h : w.heap[b]? = some (.cells C.toArray t (0, 0))) : w.rangeAt b 0 C := fun j v hv => by
  rw [Nat.zero_add]; exact cell_list h hv

set_option maxHeartbeats 2000000 in
set_option maxRecDepth 20000 in
theorem newnode (w : World) :
    Calls Tryz.prog 92 #[.int .i64 2] w fun e w' => e = .returned (.agg (nodeC 2 1 (.map (some (w.heap.size + 2)))).toArray) ∧ Below w.heap.size w w' ∧ w'.heap.size = w.heap.size + 3 ∧ w'.heap[w.heap.size + 2]? = some (.map #[] 0) := by
  obtain ⟨Z, gZ⟩ : ∃ Z, Z = nodeC 0 0 (.map none) := ⟨_, rfl⟩
  obtain ⟨N0, gN0⟩ : ∃ N0, N0 = nodeC 2 1 (.map none) := ⟨_, rfl⟩
  obtain ⟨N1, gN1⟩ : ∃ N1, N1 = nodeC 2 1 (.map (some (w.heap.size + 2))) := ⟨_, rfl⟩
  have HB : Hid (Tryz.prog.built 144 [(0, .int .i64 2), (1, .int .i64 1)] = some N0.toArray) := by rw [gN0]; exact builtNode
  have HZ : Hid (Tryz.zeroCells144 = Z.toArray) := by rw [gZ]; exact nodeZ
  have lZ : Hid (Z.length = 107) := by rw [gZ]; exact nodeC_len _ _ _
  have l0 : Hid (N0.length = 107) := by rw [gN0]; exact nodeC_len _ _ _
  have l1 : Hid (N1.length = 107) := by rw [gN1]; exact nodeC_len _ _ _
  have o0 : Hid (N0.toArray.all (·.oneCell') = true) := by rw [gN0]; exact nodeC_one _ _ _
  have o1 : Hid (N1.toArray.all (·.oneCell') = true) := by rw [gN1]; exact nodeC_one _ _ _
  have e01 : Hid (N0.set 106 (.map (some (w.heap.size + 2))) = N1) := by rw [gN0, gN1]; exact nodeC_set _ _ _ _
  have c106 : Hid (N0[106]? = some (.map none)) := by rw [gN0]; rfl
  rw [← gN1]
  have S0 : Hid ((Tryz.prog.info? 144).map (·.size) = some N0.toArray.size) := by rw [csizeNode, List.size_toArray, l0.out]; exact hid rfl
  have S1 : Hid ((Tryz.prog.info? 144).map (·.size) = some N1.toArray.size) := by rw [csizeNode, List.size_toArray, l1.out]; exact hid rfl
  have S1' : Hid ((Tryz.prog.info? 144).map (·.size) = some N1.length) := by rw [csizeNode, l1.out]; exact hid rfl
  clear gZ gN0 gN1
  have hW2 : Hid (((w.alloc (.cells Tryz.zeroCells144 144)).alloc (.cells Tryz.zeroCells144 144)).heap[w.heap.size + 1]? = some (.cells Z.toArray 144 (0, 0)) ∧ ((w.alloc (.cells Tryz.zeroCells144 144)).alloc (.cells Tryz.zeroCells144 144)).heap[w.heap.size]? = some (.cells Z.toArray 144 (0, 0)) ∧ ((w.alloc (.cells Tryz.zeroCells144 144)).alloc (.cells Tryz.zeroCells144 144)).heap.size = w.heap.size + 2 ∧ Below w.heap.size w ((w.alloc (.cells Tryz.zeroCells144 144)).alloc (.cells Tryz.zeroCells144 144))) := by
    rw [HZ.out]
    have b1 : Below w.heap.size w (w.alloc (.cells Z.toArray 144)) := (Below.refl _ _).alloc (Nat.le_refl _) _
    have s1 : (w.alloc (.cells Z.toArray 144)).heap.size = w.heap.size + 1 := by simp
    have b2 : Below (w.heap.size + 1) (w.alloc (.cells Z.toArray 144)) ((w.alloc (.cells Z.toArray 144)).alloc (.cells Z.toArray 144)) := by
      have := (Below.refl _ (w.alloc (.cells Z.toArray 144))).alloc (Nat.le_refl _) (.cells Z.toArray 144)
      rwa [s1] at this
    refine ⟨?_, ?_, by simp, b1.trans (b2.mono (by omega))⟩
    · have := heap_alloc_new (w.alloc (.cells Z.toArray 144)) (.cells Z.toArray 144)
      rwa [s1] at this
    · rw [b2.block _ (by omega)]; exact heap_alloc_new w _
  have hmm := @run_makeMap Tryz.prog
  go_enter Tryz.func92, Tryz.ntmps92
  go_wp2_with (first
    | (refine wpList_build_is rfl 144 #[(0, .tmp 4), (1, .const (.int .i64 1))] rfl N0.toArray (by simpa [Act.eval] using HB.out) ?_)
    | (refine wpList_store_mid rfl 144 (.tmp 3) (.tmp 5) rfl (w.heap.size + 1) 0 N0.toArray rfl rfl (there_of_block hW2.out.1 0 _ (by rw [List.size_toArray, lZ.out, l0.out]; omega)) S0.out o0.out ?_
       obtain ⟨W3, g3⟩ : ∃ W3, W3 = ((w.alloc (.cells Tryz.zeroCells144 144)).alloc (.cells Tryz.zeroCells144 144)).setCells (w.heap.size + 1) 0 N0.toArray.toList := ⟨_, rfl⟩
       rw [← g3]
       have hb3 : W3.heap[w.heap.size + 1]? = some (.cells N0.toArray 144 (0, 0)) := by
         rw [g3, heap_setCells _ 144 _ 0 _ Z hW2.out.1 (by simp [lZ.out, l0.out]), splice_all _ _ (by simp [lZ.out, l0.out])]
       have hs3 : W3.heap.size = w.heap.size + 2 := by rw [g3, size_setCells]; exact hW2.out.2.2.1
       have hU3 : Upd (· = w.heap.size + 1) ((w.alloc (.cells Tryz.zeroCells144 144)).alloc (.cells Tryz.zeroCells144 144)) W3 := by rw [g3]; exact upd_setCells _ _ _ _
       have ha3 : W3.heap[w.heap.size]? = some (.cells Z.toArray 144 (0, 0)) := hU3.heap hW2.out.2.1 (by omega)
       have hB3 : Below w.heap.size w W3 := hW2.out.2.2.2.trans (hU3.below (by have := hW2.out.2.2.1; omega) (fun x hx => by omega))
       have m3 : W3.cell? ⟨w.heap.size + 1, 106, none⟩ = some (.map none) := cell_list hb3 c106.out
       have f3 : W3.frozen? ⟨w.heap.size + 1, 106, none⟩ = false := by simp [World.frozen?, hb3]
       have s1 : (W3.setCell ⟨w.heap.size + 1, 106, none⟩ (.map (some (w.heap.size + 2)))).heap.size = w.heap.size + 2 := by simp [hs3]
       have H4 : Hid (((W3.setCell ⟨w.heap.size + 1, 106, none⟩ (.map (some (w.heap.size + 2)))).alloc (.map #[] 0)).heap[w.heap.size + 1]? = some (.cells N1.toArray 144 (0, 0)) ∧ ((W3.setCell ⟨w.heap.size + 1, 106, none⟩ (.map (some (w.heap.size + 2)))).alloc (.map #[] 0)).heap[w.heap.size]? = some (.cells Z.toArray 144 (0, 0)) ∧ ((W3.setCell ⟨w.heap.size + 1, 106, none⟩ (.map (some (w.heap.size + 2)))).alloc (.map #[] 0)).heap.size = w.heap.size + 3 ∧ ((W3.setCell ⟨w.heap.size + 1, 106, none⟩ (.map (some (w.heap.size + 2)))).alloc (.map #[] 0)).heap[w.heap.size + 2]? = some (.map #[] 0) ∧ Below w.heap.size w ((W3.setCell ⟨w.heap.size + 1, 106, none⟩ (.map (some (w.heap.size + 2)))).alloc (.map #[] 0))) := by
         have b4 := (Below.refl _ (W3.setCell ⟨w.heap.size + 1, 106, none⟩ (.map (some (w.heap.size + 2))))).alloc (Nat.le_refl _) (.map #[] 0)
         have u4 : Upd (· = w.heap.size + 1) W3 (W3.setCell ⟨w.heap.size + 1, 106, none⟩ (.map (some (w.heap.size + 2)))) := Upd.setCell (F := (· = w.heap.size + 1)) W3 ⟨w.heap.size + 1, 106, none⟩ _ rfl
         rw [s1] at b4
         refine ⟨?_, ?_, by simp [hs3], ?_, ?_⟩
         · rw [b4.block _ (by omega), heap_setCell_same W3 _ 106 _ _ _ hb3, ← e01.out]; simp
         · rw [b4.block _ (by omega)]; exact u4.heap ha3 (by omega)
         · have := heap_alloc_new (W3.setCell ⟨w.heap.size + 1, 106, none⟩ (.map (some (w.heap.size + 2)))) (.map #[] 0)
           rwa [s1] at this
         · exact hB3.trans ((u4.below (by omega) (fun x hx => by omega)).trans (b4.mono (by omega)))
       clear g3 hU3 ha3 hB3 hb3 s1)
    | (refine wpList_load_mid rfl 144 (.tmp 3) rfl (w.heap.size + 1) 0 rfl N1 _ (rangeAt_block H4.out.1) Tryz.underlying144 rfl S1'.out ?_)
    | (refine wpList_store_mid rfl 144 (.tmp 2) (.tmp 10) rfl w.heap.size 0 N1.toArray rfl rfl (there_of_block H4.out.2.1 0 _ (by rw [List.size_toArray, lZ.out, l1.out]; omega)) S1.out o1.out ?_))
  have h5 := heap_setCells w.heap.size 144 N1 0 _ Z H4.out.2.1 (by rw [lZ.out, l1.out]; omega)
  rw [splice_all _ _ (by rw [lZ.out, l1.out])] at h5
  (try simp only [Exit.inBlock, Exit.then])
  refine bodyPost_ret (cell_result rfl _ _ w.heap.size 0 rfl N1 _ (rangeAt_block h5) Tryz.underlying144 rfl S1'.out) rfl ?_
  have u5 := upd_setCells w.heap.size N1 0 ((W3.setCell ⟨w.heap.size + 1, 106, none⟩ (.map (some (w.heap.size + 2)))).alloc (.map #[] 0))
  refine ⟨rfl, H4.out.2.2.2.2.trans (u5.below (by have := H4.out.2.2.1; omega) (fun x hx => by omega)), by rw [size_setCells]; exact H4.out.2.2.1, ?_⟩
  exact (u5.block _ (by have := H4.out.2.2.1; omega) (by omega)).trans H4.out.2.2.2.1

end Go.Proofs.YtbglhmcahnkbfaaGreat

/- What the program's New of nodes does. -/
namespace Go.Proofs.YtbglhmcahnkbfaaGreat
open Go.RowKit
set_option linter.unusedVariables false

/-- A store of several cells, as the walk meets it. -/
theorem run_cells_mid {P : Program} (w : World) (b o : Nat) (cs : List Value) (ht : w.there b o cs.length) (h1 : cs.toArray.all (·.oneCell') = true) :
    (storeCells ⟨b, o, none⟩ cs).run P w = .ok () (w.setCells b o cs) := by
  have := run_storeCells_cells (P := P) b o cs 0 w (fun j hj => by simpa using (ht j hj).1) (fun j hj => by simpa using (ht j hj).2) (fun v hv => (Array.all_eq_true_iff_forall_mem.1 h1) v (by simpa using hv))
  simpa using this

/-- The cells of a system without nodes. -/
def sysZ : List Value := .int .i64 0 :: ((List.replicate 17 (nodeC 0 0 (.map none))).flatten ++ List.replicate 25 (.bool false))
end Go.Proofs.YtbglhmcahnkbfaaGreat
