/- Texts of this seat, merged. -/
import Derived.Test.YtliekndkjjaldaaGreatChecked
import Derived.Test.YtliekndkjjaldaaGreatNMg1
import Derived.Laws.Tables
import Derived.Deep.WholeRow
import Derived.Deep.MidRow
import Derived.Deep.RegionHeld3
import Derived.Carry

/- The program's processes as they lie (one block of 47 cells: the open files, the defects, five processes of nine cells), none with a descriptor; cells that are stored anew. -/
namespace Go.Proofs.YtliekndkjjaldaaGreat
open Go.RowKit
set_option linter.unusedVariables false

theorem wpList_build_is {P : Program} {ops : Array Oper} {rest : List Oper} {o : Oper} {a : Act} {w : World} {Q : Exit → Act → World → Prop} (hg : o.guard = none) (t : TypeId) (parts : Array (Nat × Operand)) (ho : o.op = .build t parts) (C : Array Value)
    (hf : P.built t (parts.map fun (i, x) => (i, a.eval x)).toList = some C) (h : wpList P ops Q rest (a.put o.dst (.agg C)) w) : wpList P ops Q (o :: rest) a w :=
  wpList_build hg t parts ho (by rw [hf]; rfl) (by rw [hf]; exact h)

theorem getElem?_splice_in {α : Type} (xs ys : List α) (o j : Nat) (h : o + ys.length ≤ xs.length) (hj : j < ys.length) : (splice xs o ys)[o + j]? = ys[j]? := by
  unfold splice
  rw [List.getElem?_append_right (by simp; omega), List.getElem?_append_left (by simp; omega)]
  congr 1; simp; omega
theorem getElem?_splice_out {α : Type} (xs ys : List α) (o j : Nat) (h : o + ys.length ≤ xs.length) (hj : j < o ∨ o + ys.length ≤ j) : (splice xs o ys)[j]? = xs[j]? := by
  unfold splice
  rcases hj with hj | hj
  · rw [List.getElem?_append_left (by simp; omega), List.getElem?_take_of_lt hj]
  · rw [List.getElem?_append_right (by simp; omega), List.getElem?_append_right (by simp; omega), List.getElem?_drop]
    congr 1; simp; omega
theorem length_splice {α : Type} (xs ys : List α) (o : Nat) (h : o + ys.length ≤ xs.length) : (splice xs o ys).length = xs.length := by
  unfold splice; simp; omega

theorem heap_setCells (p : Nat) (t : TypeId) : ∀ (vs : List Value) (o : Nat) (w : World) (C : List Value), w.heap[p]? = some (.cells C.toArray t (0, 0)) → o + vs.length ≤ C.length →
    (w.setCells p o vs).heap[p]? = some (.cells (splice C o vs).toArray t (0, 0))
  | [], o, w, C, h, _ => by simpa [World.setCells, splice] using h
  | v :: r, o, w, C, h, hl => by
    simp only [List.length_cons] at hl
    have h1 := heap_setCell_same w p o C.toArray t v h
    have e : (C.toArray.set! o v) = (C.set o v).toArray := by simp
    rw [World.setCells, heap_setCells p t r (o + 1) (w.setCell ⟨p, o, none⟩ v) (C.set o v) (by rw [h1]; simp) (by simp; omega)]
    congr 3
    apply List.ext_getElem?
    intro j
    rcases Nat.lt_or_ge j o with a | a
    · rw [getElem?_splice_out _ _ _ _ (by simp; omega) (by omega), getElem?_splice_out _ _ _ _ (by simp; omega) (by omega), List.getElem?_set_ne (by omega)]
    · rcases Nat.lt_or_ge j (o + (r.length + 1)) with b | b
      · obtain ⟨m, rfl⟩ := Nat.exists_eq_add_of_le a
        rw [getElem?_splice_in _ _ _ m (by simp; omega) (by simp; omega)]
        cases m with
        | zero => rw [getElem?_splice_out _ _ _ _ (by simp; omega) (by omega), Nat.add_zero, List.getElem?_set_self (by omega)]; simp
        | succ m => rw [show o + (m + 1) = o + 1 + m by omega, getElem?_splice_in _ _ _ m (by simp; omega) (by omega)]; simp
      · rw [getElem?_splice_out _ _ _ _ (by simp; omega) (by omega), getElem?_splice_out _ _ _ _ (by simp; omega) (by simp; omega), List.getElem?_set_ne (by omega)]

theorem upd_setCells (p : Nat) : ∀ (vs : List Value) (o : Nat) (w : World), Upd (· = p) w (w.setCells p o vs)
  | [], o, w => Upd.refl _ _
  | v :: r, o, w => by
    rw [World.setCells]
    exact (Upd.setCell (F := (· = p)) w ⟨p, o, none⟩ v rfl).trans (upd_setCells p r (o + 1) _) (fun _ _ h => h)

theorem size_setCells (p : Nat) : ∀ (vs : List Value) (o : Nat) (w : World), (w.setCells p o vs).heap.size = w.heap.size
  | [], _, _ => rfl
  | v :: r, o, w => by rw [World.setCells, size_setCells p r (o + 1)]; simp

theorem there_of_block {w : World} {p : Nat} {C : List Value} {t : TypeId} (h : w.heap[p]? = some (.cells C.toArray t (0, 0))) (o n : Nat) (hn : o + n ≤ C.length) : w.there p o n := fun j hj => by
  refine ⟨?_, ?_⟩
  · rw [cell_of_row w p (o + j) _ t (0, 0) h]; simp; omega
  · simp [World.frozen?, h]

/-- A process without descriptors: its state, parent, code. -/
structure Pc where
  st : Int
  pa : Int
  co : Int

def noProc : Pc := ⟨0, 0, 0⟩
def pcells (x : Pc) : List Value := [.int .i64 x.st, .int .i64 x.pa, .int .i64 x.co, .int .i64 0, .int .i64 0, .int .i64 0, .int .i64 0, .int .i64 0, .int .i64 0]

/-- The cells of a table. -/
structure Qls (C : List Value) (f : Nat) (d : Int) (P : Nat → Pc) : Prop where
  len : C.length = 47
  fl : C[0]? = some (.pointer (some ⟨f, 0, none⟩))
  df : C[1]? = some (.int .i64 d)
  at_ : ∀ i, i < 5 → ∀ j, j < 9 → C[2 + i * 9 + j]? = (pcells (P i))[j]?

/-- A table that a call made. -/
def Tq (w : World) (p f : Nat) (d : Int) (P : Nat → Pc) : Prop := ∃ C, w.heap[p]? = some (.cells (List.toArray C) 58 (0, 0)) ∧ Qls C f d P

theorem Tq.lt {w : World} {p f : Nat} {d : Int} {P : Nat → Pc} (h : Tq w p f d P) : p < w.heap.size := by
  obtain ⟨C, h, _⟩ := h; exact (Array.getElem?_eq_some_iff.1 h).1
theorem Tq.upd {F : Nat → Prop} {w w' : World} {p f : Nat} {d : Int} {P : Nat → Pc} (h : Tq w p f d P) (u : Upd F w w') (hF : ¬ F p) : Tq w' p f d P := by
  obtain ⟨C, h, hc⟩ := h; exact ⟨C, u.heap h hF, hc⟩
theorem Tq.below {B : Nat} {w w' : World} {p f : Nat} {d : Int} {P : Nat → Pc} (h : Tq w p f d P) (u : Below B w w') (hF : p < B) : Tq w' p f d P := by
  obtain ⟨C, h, hc⟩ := h; exact ⟨C, by rw [u.block p hF]; exact h, hc⟩
theorem Tq.hp {w w' : World} {p f : Nat} {d : Int} {P : Nat → Pc} (h : Tq w p f d P) (e : w'.heap = w.heap) : Tq w' p f d P := by
  obtain ⟨C, h, hc⟩ := h; exact ⟨C, by rw [e]; exact h, hc⟩
theorem cell_list {w : World} {p j : Nat} {t : TypeId} {C : List Value} {v : Value} (h : w.heap[p]? = some (.cells C.toArray t (0, 0))) (hc : C[j]? = some v) : w.cell? ⟨p, j, none⟩ = some v := by
  rw [cell_of_row w p j _ t (0, 0) h]; simpa using hc
theorem Tq.fl {w : World} {p f : Nat} {d : Int} {P : Nat → Pc} (h : Tq w p f d P) : w.cell? ⟨p, 0, none⟩ = some (.pointer (some ⟨f, 0, none⟩)) := by
  obtain ⟨C, h, hc⟩ := h; exact cell_list h hc.fl
theorem Tq.df {w : World} {p f : Nat} {d : Int} {P : Nat → Pc} (h : Tq w p f d P) : w.cell? ⟨p, 1, none⟩ = some (.int .i64 d) := by
  obtain ⟨C, h, hc⟩ := h; exact cell_list h hc.df
theorem Tq.s {w : World} {p f : Nat} {d : Int} {P : Nat → Pc} (h : Tq w p f d P) (i : Nat) (hi : i < 5) : w.cell? ⟨p, 2 + i * 9, none⟩ = some (.int .i64 (P i).st) := by
  obtain ⟨C, h, hc⟩ := h; exact cell_list h (hc.at_ i hi 0 (by omega))
theorem Tq.p {w : World} {p f : Nat} {d : Int} {P : Nat → Pc} (h : Tq w p f d P) (i : Nat) (hi : i < 5) : w.cell? ⟨p, 2 + i * 9 + 1, none⟩ = some (.int .i64 (P i).pa) := by
  obtain ⟨C, h, hc⟩ := h; exact cell_list h (hc.at_ i hi 1 (by omega))
theorem Tq.c {w : World} {p f : Nat} {d : Int} {P : Nat → Pc} (h : Tq w p f d P) (i : Nat) (hi : i < 5) : w.cell? ⟨p, 2 + i * 9 + 2, none⟩ = some (.int .i64 (P i).co) := by
  obtain ⟨C, h, hc⟩ := h; exact cell_list h (hc.at_ i hi 2 (by omega))
theorem Tq.z {w : World} {p f : Nat} {d : Int} {P : Nat → Pc} (h : Tq w p f d P) (i : Nat) (hi : i < 5) (j : Nat) (hj : j < 6) : w.cell? ⟨p, 2 + i * 9 + 3 + j, none⟩ = some (.int .i64 0) := by
  obtain ⟨C, h, hc⟩ := h
  refine cell_list h ?_
  rw [show 2 + i * 9 + 3 + j = 2 + i * 9 + (3 + j) by omega, hc.at_ i hi (3 + j) (by omega)]
  obtain rfl | rfl | rfl | rfl | rfl | rfl : j = 0 ∨ j = 1 ∨ j = 2 ∨ j = 3 ∨ j = 4 ∨ j = 5 := by omega
  all_goals rfl
theorem Tq.fz {w : World} {p f : Nat} {d : Int} {P : Nat → Pc} (h : Tq w p f d P) (j : Nat) : w.frozen? ⟨p, j, none⟩ = false := by
  obtain ⟨C, h, hc⟩ := h; simp [World.frozen?, h]
theorem Tq.th {w : World} {p f : Nat} {d : Int} {P : Nat → Pc} (h : Tq w p f d P) (i : Nat) (hi : i < 5) : w.there p (2 + i * 9) 9 := by
  obtain ⟨C, h, hc⟩ := h; exact there_of_block h _ _ (by rw [hc.len]; omega)

/-- A table with another process at a number. -/
def updQ (P : Nat → Pc) (i : Nat) (x : Pc) : Nat → Pc := fun j => if j = i then x else P j
theorem updQ_same (P : Nat → Pc) (i : Nat) (x : Pc) : updQ P i x i = x := by simp [updQ]
theorem updQ_ne (P : Nat → Pc) (i j : Nat) (x : Pc) (h : j ≠ i) : updQ P i x j = P j := by simp [updQ, h]

theorem Qls.put {C C' : List Value} {f : Nat} {d : Int} {P : Nat → Pc} (h : Qls C f d P) (i : Nat) (hi : i < 5) (x : Pc) (hl : C'.length = 47)
    (out : ∀ j, j < 2 + i * 9 ∨ 2 + i * 9 + 9 ≤ j → C'[j]? = C[j]?) (inn : ∀ j, j < 9 → C'[2 + i * 9 + j]? = (pcells x)[j]?) : Qls C' f d (updQ P i x) := by
  refine ⟨hl, by rw [out 0 (by omega)]; exact h.fl, by rw [out 1 (by omega)]; exact h.df, ?_⟩
  intro k hk j hj
  by_cases e : k = i
  · subst e; rw [updQ_same]; exact inn j hj
  · rw [updQ_ne _ _ _ _ e, out _ (by omega)]; exact h.at_ k hk j hj

/-- A process is stored whole. -/
theorem Tq.put {w : World} {p f : Nat} {d : Int} {P : Nat → Pc} (h : Tq w p f d P) (i : Nat) (hi : i < 5) (x : Pc) : Tq (w.setCells p (2 + i * 9) (pcells x)) p f d (updQ P i x) := by
  obtain ⟨C, hb, hc⟩ := h
  have hl := hc.len
  have hs : 2 + i * 9 + (pcells x).length ≤ C.length := by rw [hl]; simp [pcells]; omega
  exact ⟨_, heap_setCells p 58 (pcells x) _ w C hb hs, hc.put i hi x (by rw [length_splice _ _ _ hs, hl]) (fun j hj => getElem?_splice_out _ _ _ _ hs (by simpa [pcells] using hj)) (fun j hj => getElem?_splice_in C (pcells x) (2 + i * 9) j hs hj)⟩

/-- One cell of a process is stored. -/
theorem Tq.set {w : World} {p f : Nat} {d : Int} {P : Nat → Pc} (h : Tq w p f d P) (i : Nat) (hi : i < 5) (x : Pc) (k : Nat) (hk : k < 9) (v : Value) (hv : (pcells x)[k]? = some v) (ho : ∀ j, j < 9 → j ≠ k → (pcells x)[j]? = (pcells (P i))[j]?) : Tq (w.setCell ⟨p, 2 + i * 9 + k, none⟩ v) p f d (updQ P i x) := by
  obtain ⟨C, hb, hc⟩ := h
  have hl := hc.len
  refine ⟨C.set (2 + i * 9 + k) v, by rw [heap_setCell_same w p _ C.toArray _ v hb]; simp, hc.put i hi x (by simp [hl]) (fun j hj => by rw [List.getElem?_set_ne (by omega)]) (fun j hj => ?_)⟩
  by_cases e : j = k
  · subst e; rw [List.getElem?_set_self (by omega), hv]
  · rw [List.getElem?_set_ne (by omega), hc.at_ i hi j hj, ho j hj e]

/-- The one process at the beginning. -/
def first : Nat → Pc := fun i => if i = 1 then ⟨1, 0, 0⟩ else noProc

end Go.Proofs.YtliekndkjjaldaaGreat

/- What the program's newNode of a directory and New of nodes do. -/
namespace Go.Proofs.YtliekndkjjaldaaGreat
open Go.RowKit
set_option linter.unusedVariables false

/-- The cells of a node without bytes and blocks. -/
def nodeC (k l : Int) (m : Value) : List Value := [.int .i64 k, .int .i64 l, .int .i64 0, .int .i64 0] ++ List.replicate 96 (.int .u8 0) ++ List.replicate 6 (.int .i64 0) ++ [m]
theorem nodeC_len (k l : Int) (m : Value) : (nodeC k l m).length = 107 := by simp [nodeC]
theorem nodeC_one (k l : Int) (m : Option Nat) : (nodeC k l (.map m)).toArray.all (·.oneCell') = true := all_oneCell_toArray (fun v hv => by
  simp only [nodeC, List.mem_append, List.mem_cons, List.not_mem_nil, or_false, List.mem_replicate] at hv
  rcases hv with (((h | h | h | h) | ⟨_, h⟩) | ⟨_, h⟩) | h <;> subst h <;> rfl)
theorem nodeC_set (k l : Int) (m m' : Value) : (nodeC k l m).set 106 m' = nodeC k l m' := by simp [nodeC]
theorem nodeZ : Tryz.zeroCells54 = (nodeC 0 0 (.map none)).toArray := by kernel_rfl
theorem builtNode : Tryz.prog.built 54 [(0, .int .i64 2), (1, .int .i64 1)] = some (nodeC 2 1 (.map none)).toArray := by kernel_rfl
theorem csizeNode : (Tryz.prog.info? 54).map (·.size) = some 107 := by kernel_rfl

theorem splice_all {α : Type} (xs ys : List α) (h : xs.length = ys.length) : splice xs 0 ys = ys := by
  unfold splice; simp; omega

theorem cell_result {P : Program} {fn : Func} {t : Tmp} {ty : TypeId} (h : fn.results = #[.cell t ty]) (tmps : Array Value) (w : World) (b o : Nat) (ht : tmps.getD t undef = .pointer (some ⟨b, o, none⟩)) (cs : List Value) (d : TypeDesc) (hc : w.rangeAt b o cs)
    (hu : P.underlying ty = some d) (hd : d.isRow = true) (hi : (P.info? ty).map (·.size) = some cs.length) :
    (results fn tmps).run P w = .ok (.agg cs.toArray) w := by
  have hl := run_loadVar_mid (P := P) w b o ty cs d hc hu hd hi
  rw [Array.getD_eq_getD_getElem?] at ht
  simp [results, h, ht, asAddr, hl]

theorem rangeAt_block {w : World} {b : Nat} {C : List Value} {t : TypeId} (h : w.heap[b]? = some (.cells C.toArray t (0, 0))) : w.rangeAt b 0 C := fun j v hv => by
  rw [Nat.zero_add]; exact cell_list h hv

set_option maxHeartbeats 2000000 in
set_option maxRecDepth 20000 in
theorem newnode (w : World) :
    Calls Tryz.prog 17 #[.int .i64 2] w fun e w' => e = .returned (.agg (nodeC 2 1 (.map (some (w.heap.size + 2)))).toArray) ∧ Below w.heap.size w w' ∧ w'.heap.size = w.heap.size + 3 ∧ w'.heap[w.heap.size + 2]? = some (.map #[] 0) := by
  obtain ⟨Z, gZ⟩ : ∃ Z, Z = nodeC 0 0 (.map none) := ⟨_, rfl⟩
  obtain ⟨N0, gN0⟩ : ∃ N0, N0 = nodeC 2 1 (.map none) := ⟨_, rfl⟩
  obtain ⟨N1, gN1⟩ : ∃ N1, N1 = nodeC 2 1 (.map (some (w.heap.size + 2))) := ⟨_, rfl⟩
  have HB : Hid (Tryz.prog.built 54 [(0, .int .i64 2), (1, .int .i64 1)] = some N0.toArray) := by rw [gN0]; exact builtNode
  have HZ : Hid (Tryz.zeroCells54 = Z.toArray) := by rw [gZ]; exact nodeZ
  have lZ : Hid (Z.length = 107) := by rw [gZ]; exact nodeC_len _ _ _
  have l0 : Hid (N0.length = 107) := by rw [gN0]; exact nodeC_len _ _ _
  have l1 : Hid (N1.length = 107) := by rw [gN1]; exact nodeC_len _ _ _
  have o0 : Hid (N0.toArray.all (·.oneCell') = true) := by rw [gN0]; exact nodeC_one _ _ _
  have o1 : Hid (N1.toArray.all (·.oneCell') = true) := by rw [gN1]; exact nodeC_one _ _ _
  have e01 : Hid (N0.set 106 (.map (some (w.heap.size + 2))) = N1) := by rw [gN0, gN1]; exact nodeC_set _ _ _ _
  have c106 : Hid (N0[106]? = some (.map none)) := by rw [gN0]; rfl
  rw [← gN1]
  have S0 : Hid ((Tryz.prog.info? 54).map (·.size) = some N0.toArray.size) := by rw [csizeNode, List.size_toArray, l0.out]; exact hid rfl
  have S1 : Hid ((Tryz.prog.info? 54).map (·.size) = some N1.toArray.size) := by rw [csizeNode, List.size_toArray, l1.out]; exact hid rfl
  have S1' : Hid ((Tryz.prog.info? 54).map (·.size) = some N1.length) := by rw [csizeNode, l1.out]; exact hid rfl
  clear gZ gN0 gN1
  have hW2 : Hid (((w.alloc (.cells Tryz.zeroCells54 54)).alloc (.cells Tryz.zeroCells54 54)).heap[w.heap.size + 1]? = some (.cells Z.toArray 54 (0, 0)) ∧ ((w.alloc (.cells Tryz.zeroCells54 54)).alloc (.cells Tryz.zeroCells54 54)).heap[w.heap.size]? = some (.cells Z.toArray 54 (0, 0)) ∧ ((w.alloc (.cells Tryz.zeroCells54 54)).alloc (.cells Tryz.zeroCells54 54)).heap.size = w.heap.size + 2 ∧ Below w.heap.size w ((w.alloc (.cells Tryz.zeroCells54 54)).alloc (.cells Tryz.zeroCells54 54))) := by
    rw [HZ.out]
    have b1 : Below w.heap.size w (w.alloc (.cells Z.toArray 54)) := (Below.refl _ _).alloc (Nat.le_refl _) _
    have s1 : (w.alloc (.cells Z.toArray 54)).heap.size = w.heap.size + 1 := by simp
    have b2 : Below (w.heap.size + 1) (w.alloc (.cells Z.toArray 54)) ((w.alloc (.cells Z.toArray 54)).alloc (.cells Z.toArray 54)) := by
      have := (Below.refl _ (w.alloc (.cells Z.toArray 54))).alloc (Nat.le_refl _) (.cells Z.toArray 54)
      rwa [s1] at this
    refine ⟨?_, ?_, by simp, b1.trans (b2.mono (by omega))⟩
    · have := heap_alloc_new (w.alloc (.cells Z.toArray 54)) (.cells Z.toArray 54)
      rwa [s1] at this
    · rw [b2.block _ (by omega)]; exact heap_alloc_new w _
  have hmm := @run_makeMap Tryz.prog
  go_enter Tryz.func17, Tryz.ntmps17
  go_wp2_with (first
    | (refine wpList_build_is rfl 54 #[(0, .tmp 4), (1, .const (.int .i64 1))] rfl N0.toArray (by simpa [Act.eval] using HB.out) ?_)
    | (refine wpList_store_mid rfl 54 (.tmp 3) (.tmp 5) rfl (w.heap.size + 1) 0 N0.toArray rfl rfl (there_of_block hW2.out.1 0 _ (by rw [List.size_toArray, lZ.out, l0.out]; omega)) S0.out o0.out ?_
       obtain ⟨W3, g3⟩ : ∃ W3, W3 = ((w.alloc (.cells Tryz.zeroCells54 54)).alloc (.cells Tryz.zeroCells54 54)).setCells (w.heap.size + 1) 0 N0.toArray.toList := ⟨_, rfl⟩
       rw [← g3]
       have hb3 : W3.heap[w.heap.size + 1]? = some (.cells N0.toArray 54 (0, 0)) := by
         rw [g3, heap_setCells _ 54 _ 0 _ Z hW2.out.1 (by simp [lZ.out, l0.out]), splice_all _ _ (by simp [lZ.out, l0.out])]
       have hs3 : W3.heap.size = w.heap.size + 2 := by rw [g3, size_setCells]; exact hW2.out.2.2.1
       have hU3 : Upd (· = w.heap.size + 1) ((w.alloc (.cells Tryz.zeroCells54 54)).alloc (.cells Tryz.zeroCells54 54)) W3 := by rw [g3]; exact upd_setCells _ _ _ _
       have ha3 : W3.heap[w.heap.size]? = some (.cells Z.toArray 54 (0, 0)) := hU3.heap hW2.out.2.1 (by omega)
       have hB3 : Below w.heap.size w W3 := hW2.out.2.2.2.trans (hU3.below (by have := hW2.out.2.2.1; omega) (fun x hx => by omega))
       have m3 : W3.cell? ⟨w.heap.size + 1, 106, none⟩ = some (.map none) := cell_list hb3 c106.out
       have f3 : W3.frozen? ⟨w.heap.size + 1, 106, none⟩ = false := by simp [World.frozen?, hb3]
       have s1 : (W3.setCell ⟨w.heap.size + 1, 106, none⟩ (.map (some (w.heap.size + 2)))).heap.size = w.heap.size + 2 := by simp [hs3]
       have H4 : Hid (((W3.setCell ⟨w.heap.size + 1, 106, none⟩ (.map (some (w.heap.size + 2)))).alloc (.map #[] 0)).heap[w.heap.size + 1]? = some (.cells N1.toArray 54 (0, 0)) ∧ ((W3.setCell ⟨w.heap.size + 1, 106, none⟩ (.map (some (w.heap.size + 2)))).alloc (.map #[] 0)).heap[w.heap.size]? = some (.cells Z.toArray 54 (0, 0)) ∧ ((W3.setCell ⟨w.heap.size + 1, 106, none⟩ (.map (some (w.heap.size + 2)))).alloc (.map #[] 0)).heap.size = w.heap.size + 3 ∧ ((W3.setCell ⟨w.heap.size + 1, 106, none⟩ (.map (some (w.heap.size + 2)))).alloc (.map #[] 0)).heap[w.heap.size + 2]? = some (.map #[] 0) ∧ Below w.heap.size w ((W3.setCell ⟨w.heap.size + 1, 106, none⟩ (.map (some (w.heap.size + 2)))).alloc (.map #[] 0))) := by
         have b4 := (Below.refl _ (W3.setCell ⟨w.heap.size + 1, 106, none⟩ (.map (some (w.heap.size + 2))))).alloc (Nat.le_refl _) (.map #[] 0)
         have u4 : Upd (· = w.heap.size + 1) W3 (W3.setCell ⟨w.heap.size + 1, 106, none⟩ (.map (some (w.heap.size + 2)))) := Upd.setCell (F := (· = w.heap.size + 1)) W3 ⟨w.heap.size + 1, 106, none⟩ _ rfl
         rw [s1] at b4
         refine ⟨?_, ?_, by simp [hs3], ?_, ?_⟩
         · rw [b4.block _ (by omega), heap_setCell_same W3 _ 106 _ _ _ hb3, ← e01.out]; simp
         · rw [b4.block _ (by omega)]; exact u4.heap ha3 (by omega)
         · have := heap_alloc_new (W3.setCell ⟨w.heap.size + 1, 106, none⟩ (.map (some (w.heap.size + 2)))) (.map #[] 0)
           rwa [s1] at this
         · exact hB3.trans ((u4.below (by omega) (fun x hx => by omega)).trans (b4.mono (by omega)))
       clear g3 hU3 ha3 hB3 hb3 s1)
    | (refine wpList_load_mid rfl 54 (.tmp 3) rfl (w.heap.size + 1) 0 rfl N1 _ (rangeAt_block H4.out.1) Tryz.underlying54 rfl S1'.out ?_)
    | (refine wpList_store_mid rfl 54 (.tmp 2) (.tmp 10) rfl w.heap.size 0 N1.toArray rfl rfl (there_of_block H4.out.2.1 0 _ (by rw [List.size_toArray, lZ.out, l1.out]; omega)) S1.out o1.out ?_))
  have h5 := heap_setCells w.heap.size 54 N1 0 _ Z H4.out.2.1 (by rw [lZ.out, l1.out]; omega)
  rw [splice_all _ _ (by rw [lZ.out, l1.out])] at h5
  (try simp only [Exit.inBlock, Exit.then])
  refine bodyPost_ret (cell_result rfl _ _ w.heap.size 0 rfl N1 _ (rangeAt_block h5) Tryz.underlying54 rfl S1'.out) rfl ?_
  have u5 := upd_setCells w.heap.size N1 0 ((W3.setCell ⟨w.heap.size + 1, 106, none⟩ (.map (some (w.heap.size + 2)))).alloc (.map #[] 0))
  refine ⟨rfl, H4.out.2.2.2.2.trans (u5.below (by have := H4.out.2.2.1; omega) (fun x hx => by omega)), by rw [size_setCells]; exact H4.out.2.2.1, ?_⟩
  exact (u5.block _ (by have := H4.out.2.2.1; omega) (by omega)).trans H4.out.2.2.2.1

end Go.Proofs.YtliekndkjjaldaaGreat

/- What the program's New of nodes does. -/
namespace Go.Proofs.YtliekndkjjaldaaGreat
open Go.RowKit
set_option linter.unusedVariables false

/-- A store of several cells, as the walk meets it. -/
theorem run_cells_mid {P : Program} (w : World) (b o : Nat) (cs : List Value) (ht : w.there b o cs.length) (h1 : cs.toArray.all (·.oneCell') = true) :
    (storeCells ⟨b, o, none⟩ cs).run P w = .ok () (w.setCells b o cs) := by
  have := run_storeCells_cells (P := P) b o cs 0 w (fun j hj => by simpa using (ht j hj).1) (fun j hj => by simpa using (ht j hj).2) (fun v hv => (Array.all_eq_true_iff_forall_mem.1 h1) v (by simpa using hv))
  simpa using this

/-- The cells of a system without nodes. -/
def sysZ : List Value := .int .i64 0 :: ((List.replicate 17 (nodeC 0 0 (.map none))).flatten ++ List.replicate 25 (.bool false))
theorem sysZ_len : sysZ.length = 1845 := by
  simp [sysZ, nodeC_len]
theorem builtSys : Tryz.prog.built 58 [(0, .int .i64 0)] = some sysZ.toArray := by kernel_rfl

/-- The cells of a system with the root alone. -/
def sysC (m : Nat) : List Value := splice sysZ 108 (nodeC 2 1 (.map (some m)))

set_option maxHeartbeats 2000000 in
set_option maxRecDepth 20000 in
theorem nnew (w : World) :
    Calls Tryz.prog 6 #[.int .i64 0] w fun e w' => e = .returned (.pointer (some ⟨w.heap.size, 0, none⟩)) ∧ w'.heap[w.heap.size]? = some (.cells (sysC (w.heap.size + 3)).toArray 58 (0, 0)) ∧ w'.heap[w.heap.size + 3]? = some (.map #[] 0) ∧ Below w.heap.size w w' ∧ w'.heap.size = w.heap.size + 4 := by
  obtain ⟨Z, gZ⟩ : ∃ Z, Z = sysZ := ⟨_, rfl⟩
  obtain ⟨N1, gN1⟩ : ∃ N1, N1 = nodeC 2 1 (.map (some (w.heap.size + 3))) := ⟨_, rfl⟩
  have HB : Hid (Tryz.prog.built 58 [(0, .int .i64 0)] = some Z.toArray) := by rw [gZ]; exact builtSys
  have lZ : Hid (Z.length = 1845) := by rw [gZ]; exact sysZ_len
  have l1 : Hid (N1.length = 107) := by rw [gN1]; exact nodeC_len _ _ _
  have o1 : Hid (N1.toArray.all (·.oneCell') = true) := by rw [gN1]; exact nodeC_one _ _ _
  have S1 : Hid ((Tryz.prog.info? 54).map (·.size) = some N1.toArray.size) := by rw [csizeNode, List.size_toArray, l1.out]; exact hid rfl
  have hb1 : Below w.heap.size w (w.alloc (.cells Z.toArray 58)) := (Below.refl _ _).alloc (Nat.le_refl _) _
  have hs1 : (w.alloc (.cells Z.toArray 58)).heap.size = w.heap.size + 1 := by simp
  have hh1 : (w.alloc (.cells Z.toArray 58)).heap[w.heap.size]? = some (.cells Z.toArray 58 (0, 0)) := heap_alloc_new w _
  have k1 := newnode (w.alloc (.cells Z.toArray 58)).drew
  have kn : Hid (Calls Tryz.prog 17 #[.int .i64 2] (w.alloc (.cells Z.toArray 58)).drew fun e w' => e = .returned (.agg N1.toArray) ∧ Hid (w'.heap[w.heap.size]? = some (.cells Z.toArray 58 (0, 0))) ∧ Hid (Below w.heap.size w w') ∧ Hid (w'.heap.size = w.heap.size + 4) ∧ Hid (w'.heap[w.heap.size + 3]? = some (.map #[] 0))) := by
    refine hid (k1.mono ?_)
    rintro e w' ⟨rfl, h2, h3, h4⟩
    have hs2 : (w.alloc (.cells Z.toArray 58)).drew.heap.size = w.heap.size + 1 := by simp
    rw [hs2] at h2 h3 h4
    refine ⟨by rw [gN1, hs2], hid ((h2.block _ (by omega)).trans hh1), hid ?_, hid h3, hid h4⟩
    exact (hb1.drew).trans (h2.mono (by omega))
  have GZ := hid gZ
  have GN := hid gN1
  clear gZ gN1 k1 hb1 hh1
  go_enter Tryz.func6, Tryz.ntmps6
  go_wp2_with (refine wpList_build_is rfl 58 #[(0, .tmp 4)] rfl Z.toArray (by simpa [Act.eval] using HB.out) ?_)
  go_region_held3 (fun _ => True) (trivial) ((go_at_call 17; refine kn.out.mono ?_; rintro e w2 ⟨rfl, h2, h3, h4, h5⟩; have hst := run_cells_mid (P := Tryz.prog) w2 w.heap.size 108 N1 (there_of_block h2.out 108 _ (by rw [lZ.out, l1.out]; omega)) o1.out))
  go_wp2_with fail
  go_ret
  have u5 := upd_setCells w.heap.size N1 108 w2
  have h6 := heap_setCells w.heap.size 58 N1 108 w2 Z h2.out (by rw [lZ.out, l1.out]; omega)
  refine ⟨rfl, ?_, (u5.block _ (by have := h4.out; omega) (by omega)).trans h5.out, h3.out.trans (u5.below (by have := h4.out; omega) (fun x hx => by omega)), by rw [size_setCells]; exact h4.out⟩
  rw [sysC, ← GZ.out, ← GN.out]
  exact h6

end Go.Proofs.YtliekndkjjaldaaGreat

/- Paths and file systems without memory: a path's names; what a walk along them comes to. -/
namespace Go.Proofs.YtliekndkjjaldaaGreat
set_option linter.unusedVariables false

/-- A text's pieces between slashes. -/
def spl : List UInt8 → List (List UInt8)
  | [] => [[]]
  | c :: r => if c = 47 then [] :: spl r else match spl r with
    | x :: xs => (c :: x) :: xs
    | [] => [[c]]
theorem spl_ne : ∀ l, spl l ≠ []
  | [] => by simp [spl]
  | c :: r => by
    unfold spl
    split
    · simp
    · split <;> simp
/-- How many bytes stand ahead of the first slash. -/
def upto : List UInt8 → Nat
  | [] => 0
  | c :: r => if c = 47 then 0 else upto r + 1
theorem upto_le : ∀ l, upto l ≤ l.length
  | [] => by simp [upto]
  | c :: r => by
    have := upto_le r
    unfold upto
    split <;> simp <;> omega
theorem spl_no : ∀ l, upto l = l.length → spl l = [l]
  | [], _ => rfl
  | c :: r, h => by
    unfold upto at h
    unfold spl
    split at h
    · simp at h
    · rename_i hc
      rw [if_neg hc, spl_no r (by simpa using h)]
theorem spl_yes : ∀ l, upto l < l.length → spl l = l.take (upto l) :: spl (l.drop (upto l + 1))
  | [], h => by simp [upto] at h
  | c :: r, h => by
    by_cases hc : c = 47
    · simp [upto, spl, hc]
    · have e : upto (c :: r) = upto r + 1 := by simp [upto, hc]
      rw [e] at h ⊢
      have h2 := spl_yes r (by simpa using h)
      simp [spl, hc, h2]
theorem mem_spl : ∀ l, ∀ s ∈ spl l, (47 : UInt8) ∉ s
  | [], s, h => by simp [spl] at h; subst h; simp
  | c :: r, s, h => by
    have ih := mem_spl r
    unfold spl at h
    split at h
    · rcases List.mem_cons.1 h with e | h
      · subst e; simp
      · exact ih s h
    · rename_i hc
      split at h
      · rename_i x xs e
        rcases List.mem_cons.1 h with e' | h
        · subst e'
          have := ih x (by rw [e]; simp)
          simp only [List.mem_cons, not_or]
          exact ⟨fun e => hc e.symm, this⟩
        · exact ih s (by rw [e]; simp [h])
      · rename_i e
        exact absurd e (spl_ne r)
/-- Two texts with the same pieces are one. -/
theorem spl_inj : ∀ l m, spl l = spl m → l = m
  | [], [], _ => rfl
  | [], d :: t, h => by
    unfold spl at h
    split at h
    · rename_i hd
      have := spl_ne t
      simp at h
      exact absurd h this
    · split at h <;> simp at h
  | c :: r, [], h => by
    unfold spl at h
    split at h
    · have := spl_ne r
      simp at h
      exact absurd h this
    · split at h <;> simp at h
  | c :: r, d :: t, h => by
    by_cases hc : c = 47 <;> by_cases hd : d = 47
    · subst hc; subst hd
      simp [spl] at h
      rw [spl_inj r t h]
    · exfalso
      have := spl_ne t
      simp only [spl, hc, hd, if_true, if_false] at h
      split at h <;> simp at h
    · exfalso
      simp only [spl, hc, hd, if_true, if_false] at h
      split at h <;> simp at h
    · simp only [spl, hc, hd, if_false] at h
      split at h
      · split at h
        · rename_i x xs e1 _ y ys e2
          simp at h
          obtain ⟨⟨h1, h2⟩, h3⟩ := h
          rw [h1, spl_inj r t (by rw [e1, e2, h2, h3])]
        · rename_i e
          exact absurd e (spl_ne t)
      · rename_i e
        exact absurd e (spl_ne r)

/-- A walk: the kinds of nodes, what names name, where it stands, the way there, the names that are left. An error; or the way, the last name, what it names. -/
def wk (K : Nat → Int) (N : Nat → List UInt8 → Nat) : Nat → List Nat → List (List UInt8) → Except Int (List Nat × List UInt8 × Nat)
  | _, _, [] => .error 0
  | n, y, s :: r =>
    if K n = 0 then .error 2 else if K n ≠ 2 then .error 20 else if s = [] then .error 22 else if 6 < s.length then .error 36 else
    match r with
    | [] => .ok (y ++ [n], s, N n s)
    | q :: t => wk K N (N n s) (y ++ [n]) (q :: t)

/-- Another mark at a number; how many of the first numbers are marked. -/
def updT (T : Nat → Bool) (i : Nat) (x : Bool) : Nat → Bool := fun j => if j = i then x else T j
theorem updT_same (T : Nat → Bool) (i : Nat) (x : Bool) : updT T i x i = x := by simp [updT]
theorem updT_ne (T : Nat → Bool) (i j : Nat) (x : Bool) (h : j ≠ i) : updT T i x j = T j := by simp [updT, h]
def cnt (T : Nat → Bool) : Nat → Nat
  | 0 => 0
  | n + 1 => cnt T n + if T n then 1 else 0
theorem cnt_out (T : Nat → Bool) (b : Nat) (x : Bool) : ∀ n, n ≤ b → cnt (updT T b x) n = cnt T n
  | 0, _ => rfl
  | n + 1, h => by
    unfold cnt
    rw [cnt_out T b x n (by omega), updT_ne _ _ _ _ (by omega)]
theorem cnt_set (T : Nat → Bool) (b : Nat) (hb : T b = false) : ∀ n, b < n → cnt (updT T b true) n = cnt T n + 1
  | 0, h => by omega
  | n + 1, h => by
    unfold cnt
    by_cases e : n = b
    · subst e; rw [cnt_out _ _ _ _ (Nat.le_refl _), updT_same, hb]; simp
    · rw [cnt_set T b hb n (by omega), updT_ne _ _ _ _ e]; omega
theorem cnt_clr (T : Nat → Bool) (b : Nat) (hb : T b = true) : ∀ n, b < n → cnt (updT T b false) n + 1 = cnt T n
  | 0, h => by omega
  | n + 1, h => by
    unfold cnt
    by_cases e : n = b
    · subst e; rw [cnt_out _ _ _ _ (Nat.le_refl _), updT_same, hb]; simp
    · have := cnt_clr T b hb n (by omega)
      rw [updT_ne _ _ _ _ e]; omega
theorem cnt_full (T : Nat → Bool) : ∀ n, (∀ c, 1 ≤ c → c < n → T c = true) → n ≤ cnt T n + 1
  | 0, _ => by omega
  | n + 1, h => by
    have := cnt_full T n (fun c h1 h2 => h c h1 (by omega))
    unfold cnt
    by_cases e : n = 0
    · subst e; omega
    · rw [h n (by omega) (by omega)]; simp; omega
theorem cnt_le (T : Nat → Bool) : ∀ n, cnt T n ≤ n
  | 0 => Nat.le_refl _
  | n + 1 => by
    have := cnt_le T n
    unfold cnt
    split <;> omega

end Go.Proofs.YtliekndkjjaldaaGreat
