/- Texts of this seat, merged. -/
import Derived.Test.YtbglhmcahnkbfaaGreatHMg7
import Derived.Deep.RegionHeld3

/- What the program's pipe and Make do. -/
namespace Go.Proofs.YtbglhmcahnkbfaaGreat.Pi
open Go.RowKit Lend
set_option linter.unusedVariables false
set_option maxRecDepth 20000

/-- 'T{..}' as a step of the walk: the cells are whatever they are. -/
theorem wpList_build_is {P : Program} {ops : Array Oper} {rest : List Oper} {o : Oper} {a : Act} {w : World} {Q : Exit → Act → World → Prop} (hg : o.guard = none) (t : TypeId) (parts : Array (Nat × Operand)) (ho : o.op = .build t parts) (C : Array Value)
    (hf : P.built t (parts.map fun (i, x) => (i, a.eval x)).toList = some C) (h : wpList P ops Q rest (a.put o.dst (.agg C)) w) : wpList P ops Q (o :: rest) a w :=
  wpList_build hg t parts ho (by rw [hf]; rfl) (by rw [hf]; exact h)

/-- Is there a pipe of this number? -/
def has (P : Nat → Pp) (n : Int) : Bool := decide (1 ≤ n) && decide (n ≤ 4) && (P n.toNat).there

set_option maxHeartbeats 1000000 in
theorem pipe_yes (p i : Nat) (k : Bool) (P : Nat → Pp) (w : World) (h : Tb w p k P) (h1 : 1 ≤ i) (h4 : i ≤ 4) (ht : (P i).there = true) :
    Calls Tryz.prog 204 #[.pointer (some ⟨p, 0, none⟩), .int .i64 i] w fun e w' => e = .returned (.tuple #[.pointer (some ⟨p, 2 + i * 11, none⟩), .int .i64 0]) ∧ w' = w := by
  have k1 := hid (usable_yes p w h.made)
  have k2 := hid (isthere_any p (2 + i * 11) _ _ true w (h.r i (by omega)) (h.w i (by omega)) (by rw [← ht]; rfl))
  have c1 : ¬ (i : Int) < 1 := by omega
  have c2 : ¬ 4 < (i : Int) := by omega
  have c3 : (0 : Int) ≤ i := by omega
  have c4 : (i : Int) < 5 := by omega
  clear h ht
  go_enter Tryz.func204, Tryz.ntmps204
  go_wp2_with fail
  refine k1.out.mono ?_
  rintro e w1 ⟨rfl, rfl⟩
  go_wp2_with fail
  refine k2.out.mono ?_
  rintro e w1 ⟨rfl, rfl⟩
  go_wp2_with fail
  go_ret2
  exact ⟨rfl, rfl⟩

set_option maxHeartbeats 1000000 in
theorem pipe_no (p : Nat) (n : Int) (k : Bool) (P : Nat → Pp) (w : World) (h : Tb w p k P) (hn : has P n = false) :
    Calls Tryz.prog 204 #[.pointer (some ⟨p, 0, none⟩), .int .i64 n] w fun e w' => e = .returned (.tuple #[.pointer none, .int .i64 9]) ∧ w' = w := by
  have k1 := hid (usable_yes p w h.made)
  by_cases c1 : n < 1
  · clear h hn
    go_enter Tryz.func204, Tryz.ntmps204
    go_wp2_with fail
    refine k1.out.mono ?_
    rintro e w1 ⟨rfl, rfl⟩
    go_wp2_with fail
    go_ret2
    exact ⟨rfl, rfl⟩
  · by_cases c2 : 4 < n
    · clear h hn
      go_enter Tryz.func204, Tryz.ntmps204
      go_wp2_with fail
      refine k1.out.mono ?_
      rintro e w1 ⟨rfl, rfl⟩
      go_wp2_with fail
      go_ret2
      exact ⟨rfl, rfl⟩
    · obtain ⟨i, rfl⟩ := Int.eq_ofNat_of_zero_le (show 0 ≤ n by omega)
      have ht : (P i).there = false := by simpa [has, show (1 : Int) ≤ i by omega, show (i : Int) ≤ 4 by omega] using hn
      have k2 := hid (isthere_any p (2 + i * 11) _ _ false w (h.r i (by omega)) (h.w i (by omega)) (by rw [← ht]; rfl))
      have c3 : (0 : Int) ≤ i := by omega
      have c4 : (i : Int) < 5 := by omega
      clear h ht hn
      go_enter Tryz.func204, Tryz.ntmps204
      go_wp2_with fail
      refine k1.out.mono ?_
      rintro e w1 ⟨rfl, rfl⟩
      go_wp2_with fail
      refine k2.out.mono ?_
      rintro e w1 ⟨rfl, rfl⟩
      go_wp2_with fail
      go_ret2
      exact ⟨rfl, rfl⟩

/-- A table with another pipe at a number. -/
def updP (P : Nat → Pp) (i : Nat) (x : Pp) : Nat → Pp := fun j => if j = i then x else P j
theorem updP_same (P : Nat → Pp) (i : Nat) (x : Pp) : updP P i x i = x := by simp [updP]
theorem updP_ne (P : Nat → Pp) (i j : Nat) (x : Pp) (h : j ≠ i) : updP P i x j = P j := by simp [updP, h]

/-- Some cells of one pipe are stored anew. -/
theorem Cls.put {C C' : List Value} {k : Bool} {P : Nat → Pp} (h : Cls C k P) (i : Nat) (hi : i < 5) (x : Pp) (hl : C'.length = 57)
    (out : ∀ j, j < 2 + i * 11 ∨ 2 + i * 11 + 11 ≤ j → C'[j]? = C[j]?) (hr : C'[2 + i * 11]? = some (.int .i64 x.r)) (hw : C'[2 + i * 11 + 1]? = some (.int .i64 x.w)) (hn : C'[2 + i * 11 + 2]? = some (.int .i64 x.q.length))
    (hle : x.q.length ≤ 8) (hb : ∀ j, j < 8 → ∃ z, C'[2 + i * 11 + 3 + j]? = some (.int .u8 z) ∧ (j < x.q.length → z = x.q.getD j 0)) : Cls C' k (updP P i x) := by
  refine ⟨hl, by rw [out 0 (by omega)]; exact h.made, by rw [out 1 (by omega)]; exact h.keep, ?_, ?_, ?_, ?_, ?_⟩
  · intro j hj
    by_cases e : j = i
    · subst e; rw [updP_same]; exact hr
    · rw [updP_ne _ _ _ _ e, out _ (by omega)]; exact h.r j hj
  · intro j hj
    by_cases e : j = i
    · subst e; rw [updP_same]; exact hw
    · rw [updP_ne _ _ _ _ e, out _ (by omega)]; exact h.w j hj
  · intro j hj
    by_cases e : j = i
    · subst e; rw [updP_same]; exact hn
    · rw [updP_ne _ _ _ _ e, out _ (by omega)]; exact h.n j hj
  · intro j hj
    by_cases e : j = i
    · subst e; rw [updP_same]; exact hle
    · rw [updP_ne _ _ _ _ e]; exact h.le j hj
  · intro j hj m hm
    by_cases e : j = i
    · subst e; rw [updP_same]; exact hb m hm
    · rw [updP_ne _ _ _ _ e, out _ (by omega)]; exact h.b j hj m hm

theorem getElem?_splice_in {α : Type} (xs ys : List α) (o j : Nat) (h : o + ys.length ≤ xs.length) (hj : j < ys.length) : (splice xs o ys)[o + j]? = ys[j]? := by
  unfold splice
  rw [List.getElem?_append_right (by simp; omega), List.getElem?_append_left (by simp; omega)]
  congr 1; simp; omega
theorem getElem?_splice_out {α : Type} (xs ys : List α) (o j : Nat) (h : o + ys.length ≤ xs.length) (hj : j < o ∨ o + ys.length ≤ j) : (splice xs o ys)[j]? = xs[j]? := by
  unfold splice
  rcases hj with hj | hj
  · rw [List.getElem?_append_left (by simp; omega), List.getElem?_take_of_lt hj]
  · rw [List.getElem?_append_right (by simp; omega), List.getElem?_append_right (by simp; omega), List.getElem?_drop]
    congr 1; simp; omega
theorem length_splice {α : Type} (xs ys : List α) (o : Nat) (h : o + ys.length ≤ xs.length) : (splice xs o ys).length = xs.length := by
  unfold splice; simp; omega

theorem heap_setCells (p : Nat) (t : TypeId) : ∀ (vs : List Value) (o : Nat) (w : World) (C : List Value), w.heap[p]? = some (.cells C.toArray t (0, 0)) → o + vs.length ≤ C.length →
    (w.setCells p o vs).heap[p]? = some (.cells (splice C o vs).toArray t (0, 0))
  | [], o, w, C, h, _ => by simpa [World.setCells, splice] using h
  | v :: r, o, w, C, h, hl => by
    simp only [List.length_cons] at hl
    have h1 := heap_setCell_same w p o C.toArray t v h
    have e : (C.toArray.set! o v) = (C.set o v).toArray := by simp
    rw [World.setCells, heap_setCells p t r (o + 1) (w.setCell ⟨p, o, none⟩ v) (C.set o v) (by rw [h1]; simp) (by simp; omega)]
    congr 3
    apply List.ext_getElem?
    intro j
    rcases Nat.lt_or_ge j o with a | a
    · rw [getElem?_splice_out _ _ _ _ (by simp; omega) (by omega), getElem?_splice_out _ _ _ _ (by simp; omega) (by omega), List.getElem?_set_ne (by omega)]
    · rcases Nat.lt_or_ge j (o + (r.length + 1)) with b | b
      · obtain ⟨m, rfl⟩ := Nat.exists_eq_add_of_le a
        rw [getElem?_splice_in _ _ _ m (by simp; omega) (by simp; omega)]
        cases m with
        | zero => rw [getElem?_splice_out _ _ _ _ (by simp; omega) (by omega), Nat.add_zero, List.getElem?_set_self (by omega)]; simp
        | succ m => rw [show o + (m + 1) = o + 1 + m by omega, getElem?_splice_in _ _ _ m (by simp; omega) (by omega)]; simp
      · rw [getElem?_splice_out _ _ _ _ (by simp; omega) (by omega), getElem?_splice_out _ _ _ _ (by simp; omega) (by simp; omega), List.getElem?_set_ne (by omega)]

theorem upd_setCells (p : Nat) : ∀ (vs : List Value) (o : Nat) (w : World), Upd (· = p) w (w.setCells p o vs)
  | [], o, w => Upd.refl _ _
  | v :: r, o, w => by
    rw [World.setCells]
    exact (Upd.setCell (F := (· = p)) w ⟨p, o, none⟩ v rfl).trans (upd_setCells p r (o + 1) _) (fun _ _ h => h)

theorem size_setCells (p : Nat) : ∀ (vs : List Value) (o : Nat) (w : World), (w.setCells p o vs).heap.size = w.heap.size
  | [], _, _ => rfl
  | v :: r, o, w => by rw [World.setCells, size_setCells p r (o + 1)]; simp

theorem there_of_block {w : World} {p : Nat} {C : List Value} {t : TypeId} (h : w.heap[p]? = some (.cells C.toArray t (0, 0))) (o n : Nat) (hn : o + n ≤ C.length) : w.there p o n := fun j hj => by
  refine ⟨?_, ?_⟩
  · rw [cell_of_row w p (o + j) _ t (0, 0) h]; simp; omega
  · simp [World.frozen?, h]

end Go.Proofs.YtbglhmcahnkbfaaGreat.Pi

/- What the program's Hold and Drop do. -/
namespace Go.Proofs.YtbglhmcahnkbfaaGreat.Pi
open Go.RowKit Lend
set_option linter.unusedVariables false
set_option maxRecDepth 20000

/-- The count of a pipe's writers, or of its readers. -/
def Pp.ends (x : Pp) (b : Bool) : Nat := if b then x.w else x.r
def Pp.setEnds (x : Pp) (b : Bool) (m : Nat) : Pp := if b then { x with w := m } else { x with r := m }

theorem Tb.ends {w : World} {p : Nat} {k : Bool} {P : Nat → Pp} (h : Tb w p k P) (i : Nat) (hi : i < 5) (b : Bool) : w.cell? ⟨p, 2 + i * 11 + (if b then 1 else 0), none⟩ = some (.int .i64 ((P i).ends b)) := by
  cases b
  · exact h.r i hi
  · exact h.w i hi
theorem Tb.frozen {w : World} {p : Nat} {k : Bool} {P : Nat → Pp} (h : Tb w p k P) (o : Nat) : w.frozen? ⟨p, o, none⟩ = false := by
  obtain ⟨C, hb, hc⟩ := h
  simp [World.frozen?, hb]

/-- Another count of writers, or of readers, is stored. -/
theorem Tb.setEnds {w : World} {p : Nat} {k : Bool} {P : Nat → Pp} (h : Tb w p k P) (i : Nat) (hi : i < 5) (b : Bool) (m : Nat) :
    Tb (w.setCell ⟨p, 2 + i * 11 + (if b then 1 else 0), none⟩ (.int .i64 m)) p k (updP P i ((P i).setEnds b m)) := by
  obtain ⟨C, hb, hc⟩ := h
  have hl := hc.len
  have hs := heap_setCell_same w p (2 + i * 11 + (if b then 1 else 0)) C.toArray 157 (.int .i64 m) hb
  refine ⟨C.set (2 + i * 11 + (if b then 1 else 0)) (.int .i64 m), by rw [hs]; simp, ?_⟩
  cases b
  · refine hc.put i hi _ (by simp [hl]) (fun j hj => by rw [List.getElem?_set_ne (by simp; omega)]) ?_ ?_ ?_ ?_ ?_
    · simp only [Pp.setEnds, Bool.false_eq_true, if_false, Nat.add_zero]; rw [List.getElem?_set_self (by omega)]
    · rw [List.getElem?_set_ne (by simp)]; exact hc.w i hi
    · rw [List.getElem?_set_ne (by simp)]; exact hc.n i hi
    · exact hc.le i hi
    · intro j hj; rw [List.getElem?_set_ne (by simp; omega)]; exact hc.b i hi j hj
  · refine hc.put i hi _ (by simp [hl]) (fun j hj => by rw [List.getElem?_set_ne (by simp; omega)]) ?_ ?_ ?_ ?_ ?_
    · rw [List.getElem?_set_ne (by simp)]; exact hc.r i hi
    · simp only [Pp.setEnds, if_true]; rw [List.getElem?_set_self (by omega)]
    · rw [List.getElem?_set_ne (by simp)]; exact hc.n i hi
    · exact hc.le i hi
    · intro j hj; rw [List.getElem?_set_ne (by simp; omega)]; exact hc.b i hi j hj

set_option maxHeartbeats 1000000 in
theorem drop_err (x : Option Addr) (n c : Int) (b : Bool) (w : World) (h : Calls Tryz.prog 204 #[.pointer x, .int .i64 n] w fun e w' => e = .returned (.tuple #[.pointer none, .int .i64 c]) ∧ w' = w) (hc : ¬ c = 0) :
    Calls Tryz.prog 203 #[.pointer x, .int .i64 n, .bool b] w fun e w' => e = .returned (.int .i64 c) ∧ w' = w := by
  have k1 := hid h
  clear h
  go_enter Tryz.func203, Tryz.ntmps203
  go_wp2_with fail
  refine k1.out.mono ?_
  rintro e w1 ⟨rfl, rfl⟩
  go_wp2_with fail
  go_ret
  exact ⟨rfl, rfl⟩

set_option maxHeartbeats 1000000 in
theorem drop_none (p i : Nat) (k b : Bool) (P : Nat → Pp) (w : World) (h : Tb w p k P) (h1 : 1 ≤ i) (h4 : i ≤ 4) (ht : (P i).there = true) (hm : (P i).ends b = 0) :
    Calls Tryz.prog 203 #[.pointer (some ⟨p, 0, none⟩), .int .i64 i, .bool b] w fun e w' => e = .returned (.int .i64 22) ∧ w' = w := by
  have k1 := hid (pipe_yes p i k P w h h1 h4 ht)
  have k2 := hid (ends_any p (2 + i * 11) b w)
  have hc := h.ends i (by omega) b
  obtain ⟨o, go⟩ : ∃ o, o = 2 + i * 11 + (if b then 1 else 0) := ⟨_, rfl⟩
  rw [hm, ← go] at hc
  rw [← go] at k2
  clear h ht go hm
  go_enter Tryz.func203, Tryz.ntmps203
  go_wp2_with fail
  refine k1.out.mono ?_
  rintro e w1 ⟨rfl, rfl⟩
  go_wp2_with fail
  refine k2.out.mono ?_
  rintro e w1 ⟨rfl, rfl⟩
  go_wp2_with fail
  go_ret
  exact ⟨rfl, rfl⟩

set_option maxHeartbeats 1000000 in
theorem drop_keeps (p i : Nat) (P : Nat → Pp) (w : World) (h : Tb w p true P) (h1 : 1 ≤ i) (h4 : i ≤ 4) (ht : (P i).there = true) (hm : 0 < (P i).w) :
    Calls Tryz.prog 203 #[.pointer (some ⟨p, 0, none⟩), .int .i64 i, .bool true] w fun e w' => e = .returned (.int .i64 0) ∧ w' = w := by
  have k1 := hid (pipe_yes p i true P w h h1 h4 ht)
  have k2 := hid (ends_any p (2 + i * 11) true w)
  have hc := h.w i (by omega)
  have hk := h.keep
  obtain ⟨m, gm⟩ : ∃ m, m = (P i).w := ⟨_, rfl⟩
  obtain ⟨o, go⟩ : ∃ o, o = 2 + i * 11 + 1 := ⟨_, rfl⟩
  rw [← gm, ← go] at hc
  rw [if_pos rfl, ← go] at k2
  rw [← gm] at hm
  have c1 : ¬ (m : Int) = 0 := by omega
  clear h ht go gm hm
  go_enter Tryz.func203, Tryz.ntmps203
  go_wp2_with fail
  refine k1.out.mono ?_
  rintro e w1 ⟨rfl, rfl⟩
  go_wp2_with fail
  refine k2.out.mono ?_
  rintro e w1 ⟨rfl, rfl⟩
  go_wp2_with fail
  go_ret
  exact ⟨rfl, rfl⟩

set_option maxHeartbeats 1000000 in
theorem drop_yes (p i : Nat) (k b : Bool) (P : Nat → Pp) (w : World) (h : Tb w p k P) (h1 : 1 ≤ i) (h4 : i ≤ 4) (ht : (P i).there = true) (hm : 0 < (P i).ends b) (hle : (P i).ends b ≤ 1000) (hkb : b = true → k = false) :
    Calls Tryz.prog 203 #[.pointer (some ⟨p, 0, none⟩), .int .i64 i, .bool b] w fun e w' => e = .returned (.int .i64 0) ∧ Tb w' p k (updP P i ((P i).setEnds b ((P i).ends b - 1))) ∧ Upd (· = p) w w' ∧ w'.heap.size = w.heap.size := by
  have k1 := hid (pipe_yes p i k P w h h1 h4 ht)
  have k2 := hid (ends_any p (2 + i * 11) b w)
  have HN := hid (h.setEnds i (by omega) b ((P i).ends b - 1))
  have hc := h.ends i (by omega) b
  have hf := h.frozen (2 + i * 11 + (if b then 1 else 0))
  have hk := h.keep
  obtain ⟨m, gm⟩ : ∃ m, m = (P i).ends b := ⟨_, rfl⟩
  obtain ⟨o, go⟩ : ∃ o, o = 2 + i * 11 + (if b then 1 else 0) := ⟨_, rfl⟩
  rw [← gm] at hc HN hm hle
  rw [← go] at hc hf HN k2
  have HG := hid gm
  clear h ht gm go
  have c1 : ¬ (m : Int) = 0 := by omega
  rw [show (P i).ends b = m from HG.out.symm]
  clear HG
  cases b
  · clear hkb
    go_enter Tryz.func203, Tryz.ntmps203
    go_wp2_with fail
    refine k1.out.mono ?_
    rintro e w1 ⟨rfl, rfl⟩
    go_wp2_with fail
    refine k2.out.mono ?_
    rintro e w1 ⟨rfl, rfl⟩
    go_wp2_with fail
    go_ret
    have e : (m : Int) - 1 = ((m - 1 : Nat) : Int) := by omega
    rw [e]
    exact ⟨rfl, HN.out, Upd.setCell _ _ _ rfl, by simp⟩
  · obtain rfl := hkb rfl
    clear hkb
    go_enter Tryz.func203, Tryz.ntmps203
    go_wp2_with fail
    refine k1.out.mono ?_
    rintro e w1 ⟨rfl, rfl⟩
    go_wp2_with fail
    refine k2.out.mono ?_
    rintro e w1 ⟨rfl, rfl⟩
    go_wp2_with fail
    go_ret
    have e : (m : Int) - 1 = ((m - 1 : Nat) : Int) := by omega
    rw [e]
    exact ⟨rfl, HN.out, Upd.setCell _ _ _ rfl, by simp⟩

end Go.Proofs.YtbglhmcahnkbfaaGreat.Pi

/- What the program's take, put, Read and Write do. -/
namespace Go.Proofs.YtbglhmcahnkbfaaGreat.Pi
open Go.RowKit Lend
set_option linter.unusedVariables false
set_option maxRecDepth 20000

theorem _root_.Go.Proofs.YtbglhmcahnkbfaaGreat.Src.hp {w w' : World} {a0 : Option Addr} {len : Nat} {zs : List Int} (h : Src w a0 len zs) (e : w'.heap = w.heap) : Src w' a0 len zs :=
  ⟨h.1, fun hl => by
    obtain ⟨b, o, e', hlt, hc⟩ := h.2 hl
    exact ⟨b, o, e', by rw [e]; exact hlt, fun j hj => by rw [← hc j hj]; exact World.cell?_of_block (a := ⟨b, o + j, none⟩) (by rw [e])⟩⟩

end Go.Proofs.YtbglhmcahnkbfaaGreat.Pi
