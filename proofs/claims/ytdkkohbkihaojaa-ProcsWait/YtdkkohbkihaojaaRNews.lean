/- What the document's New of nodes, pipes, files and processes, and the law's fresh do. -/
import Derived.Test.YtdkkohbkihaojaaQNew
namespace Go.Proofs.Ytdkkohbkihaojaa
open Go.RowKit
set_option linter.unusedVariables false

/-- 'make([]T, n)', n a number that is written: some cells in a new block. -/
theorem made_is {P : Program} (t e : TypeId) (n : Nat) (z : Value) (size bytes : Nat) (ht : P.underlying t = some (.slice e)) (hi : (P.info? e).map (fun i => (i.zero, i.size, i.bytes)) = some (some z, size, bytes)) (hb : bytes * n ≤ 281474976710656) (hn : n ≤ 1000) :
    ∃ C : List Value, C.length = n * size ∧ ∀ W : World, (Instr.makeSlice t (.int .i64 (n : Int)) (.int .i64 (n : Int))).run P W = .ok (.slice (some ⟨W.heap.size, 0, none⟩) n n) (W.alloc (.cells C.toArray e)) := by
  obtain ⟨i, hi0, hz0, hz1, hz2⟩ := info_parts hi
  refine ⟨(madeCells z.cells (n * size)).toList, by simp [size_madeCells], fun W => ?_⟩
  have := run_make (P := P) W t e i z ht hi0 hz0 .i64 .i64 (n : Int) (n : Int) (by omega) (by omega) (by rw [hz2]; omega) (by omega)
  simpa [hz1] using this

theorem infoR6 : (Try.prog.info? 168).map (fun i => (i.zero, i.size, i.bytes)) = some (some (.agg #[.int .i64 0, .int .i64 0, .int .i64 0, .slice none 0 0, .slice none 0 0, .slice none 0 0]), 6, 96) := by kernel_rfl
theorem infoR6b : (Try.prog.info? 4).map (fun i => (i.zero, i.size, i.bytes)) = some (some (.bool false), 1, 1) := by kernel_rfl
theorem infoR7 : (Try.prog.info? 228).map (fun i => (i.zero, i.size, i.bytes)) = some (some (.agg #[.bool false, .int .i64 0, .int .i64 0, .slice none 0 0]), 4, 48) := by kernel_rfl
theorem infoR8 : (Try.prog.info? 224).map (fun i => (i.zero, i.size, i.bytes)) = some (some (.agg #[.int .i64 0, .int .i64 0, .int .i64 0, .int .i64 0, .int .i64 0]), 5, 40) := by kernel_rfl
theorem infoR9 : (Try.prog.info? 118).map (fun i => (i.zero, i.size, i.bytes)) = some (some (.agg #[.int .i64 0, .int .i64 0, .int .i64 0, .int .i64 0, .int .i64 0, .int .i64 0, .int .i64 0, .int .i64 0, .int .i64 0, .int .i64 0]), 10, 80) := by kernel_rfl
theorem csizeR6 : (Try.prog.info? 168).map (·.size) = some 6 := by kernel_rfl
theorem builtR9 : Try.prog.built 118 [(0, .int .i64 1), (2, .int .i64 1)] = some #[.int .i64 1, .int .i64 0, .int .i64 1, .int .i64 0, .int .i64 0, .int .i64 0, .int .i64 0, .int .i64 0, .int .i64 0, .int .i64 0] := by kernel_rfl
theorem builtR6 : Try.prog.built 168 [(0, .int .i64 2), (1, .int .i64 1)] = some #[.int .i64 2, .int .i64 1, .int .i64 0, .slice none 0 0, .slice none 0 0, .slice none 0 0] := by kernel_rfl
theorem csizeR9 : (Try.prog.info? 118).map (·.size) = some 10 := by kernel_rfl

theorem two_allocs (w : World) (a b : Obj) : Below w.heap.size w ((w.alloc a).alloc b) := ((Below.refl _ _).alloc (Nat.le_refl _) _).alloc (by simp) _

theorem first_block (w : World) (C : List Value) (t : TypeId) (b c : Obj) : ((((w.alloc (.cells C.toArray t)).alloc b).alloc c)).heap[w.heap.size]? = some (.cells C.toArray t (0, 0)) := by
  have h := (two_allocs (w.alloc (.cells C.toArray t)) b c).block w.heap.size (by simp)
  exact h.trans (heap_alloc_new w _)
theorem second_block (w : World) (C : List Value) (t : TypeId) (b c : Obj) : ((((w.alloc b).alloc (.cells C.toArray t)).alloc c)).heap[w.heap.size + 1]? = some (.cells C.toArray t (0, 0)) := by
  have h := ((Below.refl _ ((w.alloc b).alloc (.cells C.toArray t))).alloc (Nat.le_refl _) c).block (w.heap.size + 1) (by simp)
  have k := heap_alloc_new (w.alloc b) (.cells C.toArray t)
  rw [show (w.alloc b).heap.size = w.heap.size + 1 by simp] at k
  exact h.trans k
theorem three_allocs (w : World) (a b c : Obj) : Below w.heap.size w (((w.alloc a).alloc b).alloc c) := (two_allocs w a b).alloc (by simp; omega) _

set_option maxHeartbeats 2000000 in
set_option maxRecDepth 20000 in
theorem r7new (w : World) :
    Calls Try.prog 90 #[.int .i64 0] w fun e w' => ∃ p, e = .returned (.pointer (some ⟨p, 0, none⟩)) ∧ Below w.heap.size w w' := by
  obtain ⟨C, hl, hm⟩ := made_is (P := Try.prog) 169 228 5 _ _ _ Try.underlying169 infoR7 (by omega) (by omega)
  have hm' : ∀ W : World, (Instr.makeSlice 169 (.int .i64 5) (.int .i64 5)).run Try.prog W = .ok (.slice (some ⟨W.heap.size, 0, none⟩) 5 5) (W.alloc (.cells C.toArray 228)) := hm
  clear hm hl
  go_enter Try.func90, Try.ntmps90
  go_wp2
  go_ret
  exact ⟨_, rfl, two_allocs _ _ _⟩

set_option maxHeartbeats 2000000 in
set_option maxRecDepth 20000 in
theorem r6new (w : World) :
    Calls Try.prog 89 #[.int .i64 0] w fun e w' => ∃ p, e = .returned (.pointer (some ⟨p, 0, none⟩)) ∧ Below w.heap.size w w' := by
  obtain ⟨C, hl, hm⟩ := made_is (P := Try.prog) 162 168 17 _ _ _ Try.underlying162 infoR6 (by omega) (by omega)
  obtain ⟨D, hd, hk⟩ := made_is (P := Try.prog) 163 4 25 _ _ _ Try.underlying163 infoR6b (by omega) (by omega)
  have hm' : ∀ W : World, (Instr.makeSlice 162 (.int .i64 17) (.int .i64 17)).run Try.prog W = .ok (.slice (some ⟨W.heap.size, 0, none⟩) 17 17) (W.alloc (.cells C.toArray 168)) := hm
  have hk' : ∀ W : World, (Instr.makeSlice 163 (.int .i64 25) (.int .i64 25)).run Try.prog W = .ok (.slice (some ⟨W.heap.size, 0, none⟩) 25 25) (W.alloc (.cells D.toArray 4)) := hk
  have HL := hid hl
  clear hm hk hd hl
  obtain ⟨N, gN⟩ : ∃ N : List Value, N = [.int .i64 2, .int .i64 1, .int .i64 0, .slice none 0 0, .slice none 0 0, .slice none 0 0] := ⟨_, rfl⟩
  have H1 : Hid (N.toArray.all (·.oneCell') = true) := by rw [gN]; exact hid (by simp [Value.oneCell'])
  have HSZ : Hid ((Try.prog.info? 168).map (·.size) = some N.toArray.size) := by rw [gN]; exact hid csizeR6
  have HB : Hid (Try.prog.built 168 [(0, .int .i64 2), (1, .int .i64 1)] = some N.toArray) := by rw [gN]; exact hid builtR6
  have HT : Hid (6 = N.toArray.size) := by rw [gN]; exact hid rfl
  clear gN
  go_enter Try.func89, Try.ntmps89
  go_wp2_with fail
  go_region_held3 (fun _ => True) (trivial) (fail)
  all_goals go_wp2_with (first
    | (refine wpList_build_is rfl 168 #[(0, .const (.int .i64 2)), (1, .const (.int .i64 1))] rfl N.toArray (by simpa [Act.eval] using HB.out) ?_)
    | (refine wpList_store_mid rfl 168 (.tmp 14) (.tmp 13) rfl w.heap.size 6 N.toArray rfl rfl (by rw [← HT.out]; exact there_of_block (C := C) (t := 168) (by exact first_block w C 168 _ _) 6 6 (by rw [HL.out]; omega)) HSZ.out H1.out ?_)
    | (refine wpList_store_mid rfl 168 (.tmp 14) (.tmp 13) rfl (w.heap.size + 1) 6 N.toArray rfl rfl (by rw [← HT.out]; exact there_of_block (C := C) (t := 168) (by exact second_block w C 168 _ _) 6 6 (by rw [HL.out]; omega)) HSZ.out H1.out ?_))
  all_goals go_ret
  all_goals refine ⟨_, rfl, ?_⟩
  · have hb := (three_allocs w (.cells C.toArray 168) (.cells D.toArray 4) (.cells #[.slice (some ⟨w.heap.size, 0, none⟩) 17 17, .slice (some ⟨w.heap.size + 1, 0, none⟩) 25 25, .int .i64 0] 165)).drew
    exact hb.trans ((upd_setCells w.heap.size _ _ _).below hb.size (fun x hx => by omega))
  · have hb := (three_allocs w (.cells D.toArray 4) (.cells C.toArray 168) (.cells #[.slice (some ⟨w.heap.size + 1, 0, none⟩) 17 17, .slice (some ⟨w.heap.size, 0, none⟩) 25 25, .int .i64 0] 165)).drew
    exact hb.trans ((upd_setCells (w.heap.size + 1) _ _ _).below hb.size (fun x hx => by omega))

set_option maxHeartbeats 2000000 in
set_option maxRecDepth 20000 in
theorem r8new (w : World) :
    Calls Try.prog 59 #[.int .i64 0] w fun e w' => ∃ p, e = .returned (.pointer (some ⟨p, 0, none⟩)) ∧ Below w.heap.size w w' := by
  obtain ⟨C, hl, hm⟩ := made_is (P := Try.prog) 135 224 11 _ _ _ Try.underlying135 infoR8 (by omega) (by omega)
  have hm' : ∀ W : World, (Instr.makeSlice 135 (.int .i64 11) (.int .i64 11)).run Try.prog W = .ok (.slice (some ⟨W.heap.size, 0, none⟩) 11 11) (W.alloc (.cells C.toArray 224)) := hm
  clear hm hl
  go_enter Try.func59, Try.ntmps59
  go_wp2_with fail
  go_region_held3 (fun _ => True) (trivial) (first
    | (go_at_call 89; refine (r6new _).mono ?_; rintro e w2 ⟨p6, rfl, h6⟩)
    | (go_at_call 90; refine (r7new _).mono ?_; rintro e w3 ⟨p7, rfl, h7⟩))
  all_goals go_wp2_with fail
  all_goals go_ret
  all_goals refine ⟨_, rfl, ?_⟩
  all_goals have e0 : Below w.heap.size w w.drew := (Below.refl _ w).drew
  all_goals first
    | (have a := ((Below.refl w.heap.size w).alloc (Nat.le_refl _) (.cells C.toArray 224)).drew; have b := a.trans (h6.mono a.size); have c := b.trans (h7.mono b.size); exact c.alloc c.size _)
    | (have b := e0.trans (h6.mono e0.size); have a := b.alloc b.size (.cells C.toArray 224); have c := a.trans (h7.mono a.size); exact c.alloc c.size _)
    | (have b := e0.trans (h6.mono e0.size); have c := b.trans (h7.mono b.size); have a := c.alloc c.size (.cells C.toArray 224); exact a.alloc a.size _)

set_option maxHeartbeats 2000000 in
set_option maxRecDepth 20000 in
theorem r9new (f : Nat) (w : World) :
    Calls Try.prog 60 #[.pointer (some ⟨f, 0, none⟩), .int .i64 0] w fun e w' => ∃ p, e = .returned (.pointer (some ⟨p, 0, none⟩)) ∧ Below w.heap.size w w' := by
  obtain ⟨C, hl, hm⟩ := made_is (P := Try.prog) 68 118 5 _ _ _ Try.underlying68 infoR9 (by omega) (by omega)
  have hm' : ∀ W : World, (Instr.makeSlice 68 (.int .i64 5) (.int .i64 5)).run Try.prog W = .ok (.slice (some ⟨W.heap.size, 0, none⟩) 5 5) (W.alloc (.cells C.toArray 118)) := hm
  have HL := hid hl
  clear hm hl
  have hb := two_allocs w (.cells C.toArray 118) (.cells #[.slice (some ⟨w.heap.size, 0, none⟩) 5 5, .pointer (some ⟨f, 0, none⟩), .int .i64 0] 143)
  have hth : Hid (((w.alloc (.cells C.toArray 118)).alloc (.cells #[.slice (some ⟨w.heap.size, 0, none⟩) 5 5, .pointer (some ⟨f, 0, none⟩), .int .i64 0] 143)).there w.heap.size 10 10) := by
    refine hid (there_of_block (C := C) (t := 118) ?_ 10 10 (by rw [HL.out]; omega))
    exact (((Below.refl _ (w.alloc (.cells C.toArray 118))).alloc (Nat.le_refl _) _).block w.heap.size (by simp)).trans (heap_alloc_new w _)
  obtain ⟨N, gN⟩ : ∃ N : List Value, N = [.int .i64 1, .int .i64 0, .int .i64 1, .int .i64 0, .int .i64 0, .int .i64 0, .int .i64 0, .int .i64 0, .int .i64 0, .int .i64 0] := ⟨_, rfl⟩
  have H1 : Hid (N.toArray.all (·.oneCell') = true) := by rw [gN]; exact hid (by simp [Value.oneCell'])
  have HSZ : Hid ((Try.prog.info? 118).map (·.size) = some N.toArray.size) := by rw [gN]; exact hid csizeR9
  have HB : Hid (Try.prog.built 118 [(0, .int .i64 1), (2, .int .i64 1)] = some N.toArray) := by rw [gN]; exact hid builtR9
  have HT : Hid (10 = N.toArray.size) := by rw [gN]; exact hid rfl
  clear gN
  have HBW := hid hb
  clear hb
  go_enter Try.func60, Try.ntmps60
  go_wp2_with (first
    | (refine wpList_build_is rfl 118 #[(0, .const (.int .i64 1)), (2, .const (.int .i64 1))] rfl N.toArray (by simpa [Act.eval] using HB.out) ?_)
    | (refine wpList_store_mid rfl 118 (.tmp 18) (.tmp 17) rfl w.heap.size 10 N.toArray rfl rfl (by rw [← HT.out]; exact hth.out) HSZ.out H1.out ?_))
  go_ret
  exact ⟨_, rfl, HBW.out.trans ((upd_setCells w.heap.size _ _ _).below HBW.out.size (fun x hx => by omega))⟩

set_option maxHeartbeats 2000000 in
theorem fresh_any (w : World) :
    Calls Try.prog 21 #[.int .i64 0] w fun e w' => ∃ b t f, e = .returned (.pointer (some ⟨b, 0, none⟩)) ∧ w'.cell? ⟨b, 2, none⟩ = some (.pointer (some ⟨t, 0, none⟩)) ∧ Tq w' t f 0 first ∧ w.heap.size ≤ b ∧ w.heap.size ≤ t ∧ b ≠ t ∧ b < w'.heap.size ∧ Below w.heap.size w w' := by
  have k1 := hid (fnew w)
  go_enter Try.func21, Try.ntmps21
  go_wp2_with fail
  refine k1.out.mono ?_
  rintro e w1 ⟨f, s, rfl, hc, hf0, hf1, hb1⟩
  have HB1 := hid hb1
  have HC := hid hc
  clear hb1 hc k1
  have k2 := hid (r8new w1)
  go_wp2_with fail
  refine k2.out.mono ?_
  rintro e w2 ⟨x, rfl, hb2⟩
  have HB2 := hid hb2
  clear hb2 k2
  have k3 := hid (qnew f s w2 ((HB2.out.cell (p := ⟨f, 0, none⟩) hf1).trans HC.out))
  go_wp2_with fail
  refine k3.out.mono ?_
  rintro e w3 ⟨rfl, hq, hb3, hs3⟩
  have HQ := hid hq
  have HB3 := hid hb3
  have HS3 := hid hs3
  clear hq hb3 hs3 k3
  have k4 := hid (r9new x w3)
  go_wp2_with fail
  refine k4.out.mono ?_
  rintro e w4 ⟨y, rfl, hb4⟩
  have HB4 := hid hb4
  clear hb4 k4
  go_wp2_with fail
  go_ret
  have s1 := HB1.out.size
  have s2 := HB2.out.size
  have s3 := HS3.out
  have s4 := HB4.out.size
  have ha : Below w4.heap.size w4 (w4.alloc (.cells #[.pointer (some ⟨f, 0, none⟩), .pointer (some ⟨x, 0, none⟩), .pointer (some ⟨w2.heap.size, 0, none⟩), .pointer (some ⟨y, 0, none⟩)] 63)) := (Below.refl _ _).alloc (Nat.le_refl _) _
  refine ⟨w4.heap.size, w2.heap.size, f, rfl, by simp [go_sem], (HQ.out.below HB4.out (by omega)).below ha (by omega), by omega, by omega, by omega, by simp, ?_⟩
  exact (((HB1.out.trans (HB2.out.mono s1)).trans (HB3.out.mono (by omega))).trans (HB4.out.mono (by omega))).trans (ha.mono (by omega))

end Go.Proofs.Ytdkkohbkihaojaa
