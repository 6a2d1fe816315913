/- Texts of this seat, merged. -/
import Derived.Test.YtbglhmcahnkbfaaGreatChecked
import Derived.Test.YtbglhmcahnkbfaaGreatGMg1
import Derived.Laws.Tables
import Derived.Deep.WholeRow
import Derived.Deep.MidRow
import Derived.Deep.RegionHeld3

/- The program's processes as they lie (one block of 47 cells: the open files, the defects, five processes of nine cells), none with a descriptor; cells that are stored anew. -/
namespace Go.Proofs.YtbglhmcahnkbfaaGreat
open Go.RowKit
set_option linter.unusedVariables false

theorem wpList_build_is {P : Program} {ops : Array Oper} {rest : List Oper} {o : Oper} {a : Act} {w : World} {Q : Exit → Act → World → Prop} (hg : o.guard = none) (t : TypeId) (parts : Array (Nat × Operand)) (ho : o.op = .build t parts) (C : Array Value)
    (hf : P.built t (parts.map fun (i, x) => (i, a.eval x)).toList = some C) (h : wpList P ops Q rest (a.put o.dst (.agg C)) w) : wpList P ops Q (o :: rest) a w :=
  wpList_build hg t parts ho (by rw [hf]; rfl) (by rw [hf]; exact h)

theorem getElem?_splice_in {α : Type} (xs ys : List α) (o j : Nat) (h : o + ys.length ≤ xs.length) (hj : j < ys.length) : (splice xs o ys)[o + j]? = ys[j]? := by
  unfold splice
  rw [List.getElem?_append_right (by simp; omega), List.getElem?_append_left (by simp; omega)]
  congr 1; simp; omega
theorem getElem?_splice_out {α : Type} (xs ys : List α) (o j : Nat) (h : o + ys.length ≤ xs.length) (hj : j < o ∨ o + ys.length ≤ j) : (splice xs o ys)[j]? = xs[j]? := by
  unfold splice
  rcases hj with hj | hj
  · rw [List.getElem?_append_left (by simp; omega), List.getElem?_take_of_lt hj]
  · rw [List.getElem?_append_right (by simp; omega), List.getElem?_append_right (by simp; omega), List.getElem?_drop]
    congr 1; simp; omega
theorem length_splice {α : Type} (xs ys : List α) (o : Nat) (h : o + ys.length ≤ xs.length) : (splice xs o ys).length = xs.length := by
  unfold splice; simp; omega

theorem heap_setCells (p : Nat) (t : TypeId) : ∀ (vs : List Value) (o : Nat) (w : World) (C : List Value), w.heap[p]? = some (.cells C.toArray t (0, 0)) → o + vs.length ≤ C.length →
    (w.setCells p o vs).heap[p]? = some (.cells (splice C o vs).toArray t (0, 0))
  | [], o, w, C, h, _ => by simpa [World.setCells, splice] using h
  | v :: r, o, w, C, h, hl => by
    simp only [List.length_cons] at hl
    have h1 := heap_setCell_same w p o C.toArray t v h
    have e : (C.toArray.set! o v) = (C.set o v).toArray := by simp
    rw [World.setCells, heap_setCells p t r (o + 1) (w.setCell ⟨p, o, none⟩ v) (C.set o v) (by rw [h1]; simp) (by simp; omega)]
    congr 3
    apply List.ext_getElem?
    intro j
    rcases Nat.lt_or_ge j o with a | a
    · rw [getElem?_splice_out _ _ _ _ (by simp; omega) (by omega), getElem?_splice_out _ _ _ _ (by simp; omega) (by omega), List.getElem?_set_ne (by omega)]
    · rcases Nat.lt_or_ge j (o + (r.length + 1)) with b | b
      · obtain ⟨m, rfl⟩ := Nat.exists_eq_add_of_le a
        rw [getElem?_splice_in _ _ _ m (by simp; omega) (by simp; omega)]
        cases m with
        | zero => rw [getElem?_splice_out _ _ _ _ (by simp; omega) (by omega), Nat.add_zero, List.getElem?_set_self (by omega)]; simp
        | succ m => rw [show o + (m + 1) = o + 1 + m by omega, getElem?_splice_in _ _ _ m (by simp; omega) (by omega)]; simp
      · rw [getElem?_splice_out _ _ _ _ (by simp; omega) (by omega), getElem?_splice_out _ _ _ _ (by simp; omega) (by simp; omega), List.getElem?_set_ne (by omega)]

theorem upd_setCells (p : Nat) : ∀ (vs : List Value) (o : Nat) (w : World), Upd (· = p) w (w.setCells p o vs)
  | [], o, w => Upd.refl _ _
  | v :: r, o, w => by
    rw [World.setCells]
    exact (Upd.setCell (F := (· = p)) w ⟨p, o, none⟩ v rfl).trans (upd_setCells p r (o + 1) _) (fun _ _ h => h)

theorem size_setCells (p : Nat) : ∀ (vs : List Value) (o : Nat) (w : World), (w.setCells p o vs).heap.size = w.heap.size
  | [], _, _ => rfl
  | v :: r, o, w => by rw [World.setCells, size_setCells p r (o + 1)]; simp

theorem there_of_block {w : World} {p : Nat} {C : List Value} {t : TypeId} (h : w.heap[p]? = some (.cells C.toArray t (0, 0))) (o n : Nat) (hn : o + n ≤ C.length) : w.there p o n := fun j hj => by
  refine ⟨?_, ?_⟩
  · rw [cell_of_row w p (o + j) _ t (0, 0) h]; simp; omega
  · simp [World.frozen?, h]

/-- A process without descriptors: its state, parent, code. -/
structure Pc where
  st : Int
  pa : Int
  co : Int

def noProc : Pc := ⟨0, 0, 0⟩
def pcells (x : Pc) : List Value := [.int .i64 x.st, .int .i64 x.pa, .int .i64 x.co, .int .i64 0, .int .i64 0, .int .i64 0, .int .i64 0, .int .i64 0, .int .i64 0]

/-- The cells of a table. -/
structure Qls (C : List Value) (f : Nat) (d : Int) (P : Nat → Pc) : Prop where
  len : C.length = 47
  fl : C[0]? = some (.pointer (some ⟨f, 0, none⟩))
  df : C[1]? = some (.int .i64 d)
  at_ : ∀ i, i < 5 → ∀ j, j < 9 → C[2 + i * 9 + j]? = (pcells (P i))[j]?

/-- A table that a call made. -/
def Tq (w : World) (p f : Nat) (d : Int) (P : Nat → Pc) : Prop := ∃ C, w.heap[p]? = some (.cells (List.toArray C) 150 (0, 0)) ∧ Qls C f d P

theorem Tq.lt {w : World} {p f : Nat} {d : Int} {P : Nat → Pc} (h : Tq w p f d P) : p < w.heap.size := by
  obtain ⟨C, h, _⟩ := h; exact (Array.getElem?_eq_some_iff.1 h).1
theorem Tq.upd {F : Nat → Prop} {w w' : World} {p f : Nat} {d : Int} {P : Nat → Pc} (h : Tq w p f d P) (u : Upd F w w') (hF : ¬ F p) : Tq w' p f d P := by
  obtain ⟨C, h, hc⟩ := h; exact ⟨C, u.heap h hF, hc⟩
theorem Tq.below {B : Nat} {w w' : World} {p f : Nat} {d : Int} {P : Nat → Pc} (h : Tq w p f d P) (u : Below B w w') (hF : p < B) : Tq w' p f d P := by
  obtain ⟨C, h, hc⟩ := h; exact ⟨C, by rw [u.block p hF]; exact h, hc⟩
theorem Tq.hp {w w' : World} {p f : Nat} {d : Int} {P : Nat → Pc} (h : Tq w p f d P) (e : w'.heap = w.heap) : Tq w' p f d P := by
  obtain ⟨C, h, hc⟩ := h; exact ⟨C, by rw [e]; exact h, hc⟩
theorem cell_list {w : World} {p j : Nat} {t : TypeId} {C : List Value} {v : Value} (h : w.heap[p]? = some (.cells C.toArray t (0, 0))) (hc : C[j]? = some v) : w.cell? ⟨p, j, none⟩ = some v := by
  rw [cell_of_row w p j _ t (0, 0) h]; simpa using hc
theorem Tq.fl {w : World} {p f : Nat} {d : Int} {P : Nat → Pc} (h : Tq w p f d P) : w.cell? ⟨p, 0, none⟩ = some (.pointer (some ⟨f, 0, none⟩)) := by
  obtain ⟨C, h, hc⟩ := h; exact cell_list h hc.fl
theorem Tq.df {w : World} {p f : Nat} {d : Int} {P : Nat → Pc} (h : Tq w p f d P) : w.cell? ⟨p, 1, none⟩ = some (.int .i64 d) := by
  obtain ⟨C, h, hc⟩ := h; exact cell_list h hc.df
theorem Tq.s {w : World} {p f : Nat} {d : Int} {P : Nat → Pc} (h : Tq w p f d P) (i : Nat) (hi : i < 5) : w.cell? ⟨p, 2 + i * 9, none⟩ = some (.int .i64 (P i).st) := by
  obtain ⟨C, h, hc⟩ := h; exact cell_list h (hc.at_ i hi 0 (by omega))
theorem Tq.p {w : World} {p f : Nat} {d : Int} {P : Nat → Pc} (h : Tq w p f d P) (i : Nat) (hi : i < 5) : w.cell? ⟨p, 2 + i * 9 + 1, none⟩ = some (.int .i64 (P i).pa) := by
  obtain ⟨C, h, hc⟩ := h; exact cell_list h (hc.at_ i hi 1 (by omega))
theorem Tq.c {w : World} {p f : Nat} {d : Int} {P : Nat → Pc} (h : Tq w p f d P) (i : Nat) (hi : i < 5) : w.cell? ⟨p, 2 + i * 9 + 2, none⟩ = some (.int .i64 (P i).co) := by
  obtain ⟨C, h, hc⟩ := h; exact cell_list h (hc.at_ i hi 2 (by omega))
theorem Tq.z {w : World} {p f : Nat} {d : Int} {P : Nat → Pc} (h : Tq w p f d P) (i : Nat) (hi : i < 5) (j : Nat) (hj : j < 6) : w.cell? ⟨p, 2 + i * 9 + 3 + j, none⟩ = some (.int .i64 0) := by
  obtain ⟨C, h, hc⟩ := h
  refine cell_list h ?_
  rw [show 2 + i * 9 + 3 + j = 2 + i * 9 + (3 + j) by omega, hc.at_ i hi (3 + j) (by omega)]
  obtain rfl | rfl | rfl | rfl | rfl | rfl : j = 0 ∨ j = 1 ∨ j = 2 ∨ j = 3 ∨ j = 4 ∨ j = 5 := by omega
  all_goals rfl
theorem Tq.fz {w : World} {p f : Nat} {d : Int} {P : Nat → Pc} (h : Tq w p f d P) (j : Nat) : w.frozen? ⟨p, j, none⟩ = false := by
  obtain ⟨C, h, hc⟩ := h; simp [World.frozen?, h]
theorem Tq.th {w : World} {p f : Nat} {d : Int} {P : Nat → Pc} (h : Tq w p f d P) (i : Nat) (hi : i < 5) : w.there p (2 + i * 9) 9 := by
  obtain ⟨C, h, hc⟩ := h; exact there_of_block h _ _ (by rw [hc.len]; omega)

/-- A table with another process at a number. -/
def updQ (P : Nat → Pc) (i : Nat) (x : Pc) : Nat → Pc := fun j => if j = i then x else P j
theorem updQ_same (P : Nat → Pc) (i : Nat) (x : Pc) : updQ P i x i = x := by simp [updQ]
theorem updQ_ne (P : Nat → Pc) (i j : Nat) (x : Pc) (h : j ≠ i) : updQ P i x j = P j := by simp [updQ, h]

theorem Qls.put {C C' : List Value} {f : Nat} {d : Int} {P : Nat → Pc} (h : Qls C f d P) (i : Nat) (hi : i < 5) (x : Pc) (hl : C'.length = 47)
    (out : ∀ j, j < 2 + i * 9 ∨ 2 + i * 9 + 9 ≤ j → C'[j]? = C[j]?) (inn : ∀ j, j < 9 → C'[2 + i * 9 + j]? = (pcells x)[j]?) : Qls C' f d (updQ P i x) := by
  refine ⟨hl, by rw [out 0 (by omega)]; exact h.fl, by rw [out 1 (by omega)]; exact h.df, ?_⟩
  intro k hk j hj
  by_cases e : k = i
  · subst e; rw [updQ_same]; exact inn j hj
  · rw [updQ_ne _ _ _ _ e, out _ (by omega)]; exact h.at_ k hk j hj

/-- A process is stored whole. -/
theorem Tq.put {w : World} {p f : Nat} {d : Int} {P : Nat → Pc} (h : Tq w p f d P) (i : Nat) (hi : i < 5) (x : Pc) : Tq (w.setCells p (2 + i * 9) (pcells x)) p f d (updQ P i x) := by
  obtain ⟨C, hb, hc⟩ := h
  have hl := hc.len
  have hs : 2 + i * 9 + (pcells x).length ≤ C.length := by rw [hl]; simp [pcells]; omega
  exact ⟨_, heap_setCells p 150 (pcells x) _ w C hb hs, hc.put i hi x (by rw [length_splice _ _ _ hs, hl]) (fun j hj => getElem?_splice_out _ _ _ _ hs (by simpa [pcells] using hj)) (fun j hj => getElem?_splice_in C (pcells x) (2 + i * 9) j hs hj)⟩

/-- One cell of a process is stored. -/
theorem Tq.set {w : World} {p f : Nat} {d : Int} {P : Nat → Pc} (h : Tq w p f d P) (i : Nat) (hi : i < 5) (x : Pc) (k : Nat) (hk : k < 9) (v : Value) (hv : (pcells x)[k]? = some v) (ho : ∀ j, j < 9 → j ≠ k → (pcells x)[j]? = (pcells (P i))[j]?) : Tq (w.setCell ⟨p, 2 + i * 9 + k, none⟩ v) p f d (updQ P i x) := by
  obtain ⟨C, hb, hc⟩ := h
  have hl := hc.len
  refine ⟨C.set (2 + i * 9 + k) v, by rw [heap_setCell_same w p _ C.toArray _ v hb]; simp, hc.put i hi x (by simp [hl]) (fun j hj => by rw [List.getElem?_set_ne (by omega)]) (fun j hj => ?_)⟩
  by_cases e : j = k
  · subst e; rw [List.getElem?_set_self (by omega), hv]
  · rw [List.getElem?_set_ne (by omega), hc.at_ i hi j hj, ho j hj e]

/-- The one process at the beginning. -/
def first : Nat → Pc := fun i => if i = 1 then ⟨1, 0, 0⟩ else noProc

end Go.Proofs.YtbglhmcahnkbfaaGreat
