/- What the program's Hold and Drop do. -/
import Derived.Test.YtemdckmnedlfcaaPMake
namespace Go.Proofs.Ytemdckmnedlfcaa
open Go.RowKit Lend
set_option linter.unusedVariables false

/-- The count of a pipe's writers, or of its readers. -/
def Pp.ends (x : Pp) (b : Bool) : Nat := if b then x.w else x.r
def Pp.setEnds (x : Pp) (b : Bool) (m : Nat) : Pp := if b then { x with w := m } else { x with r := m }

theorem Tb.ends {w : World} {p : Nat} {k : Bool} {P : Nat → Pp} (h : Tb w p k P) (i : Nat) (hi : i < 5) (b : Bool) : w.cell? ⟨p, 2 + i * 11 + (if b then 1 else 0), none⟩ = some (.int .i64 ((P i).ends b)) := by
  cases b
  · exact h.r i hi
  · exact h.w i hi
theorem Tb.frozen {w : World} {p : Nat} {k : Bool} {P : Nat → Pp} (h : Tb w p k P) (o : Nat) : w.frozen? ⟨p, o, none⟩ = false := by
  obtain ⟨C, hb, hc⟩ := h
  simp [World.frozen?, hb]

/-- Another count of writers, or of readers, is stored. -/
theorem Tb.setEnds {w : World} {p : Nat} {k : Bool} {P : Nat → Pp} (h : Tb w p k P) (i : Nat) (hi : i < 5) (b : Bool) (m : Nat) :
    Tb (w.setCell ⟨p, 2 + i * 11 + (if b then 1 else 0), none⟩ (.int .i64 m)) p k (updP P i ((P i).setEnds b m)) := by
  obtain ⟨C, hb, hc⟩ := h
  have hl := hc.len
  have hs := heap_setCell_same w p (2 + i * 11 + (if b then 1 else 0)) C.toArray 58 (.int .i64 m) hb
  refine ⟨C.set (2 + i * 11 + (if b then 1 else 0)) (.int .i64 m), by rw [hs]; simp, ?_⟩
  cases b
  · refine hc.put i hi _ (by simp [hl]) (fun j hj => by rw [List.getElem?_set_ne (by simp; omega)]) ?_ ?_ ?_ ?_ ?_
    · simp only [Pp.setEnds, Bool.false_eq_true, if_false, Nat.add_zero]; rw [List.getElem?_set_self (by omega)]
    · rw [List.getElem?_set_ne (by simp)]; exact hc.w i hi
    · rw [List.getElem?_set_ne (by simp)]; exact hc.n i hi
    · exact hc.le i hi
    · intro j hj; rw [List.getElem?_set_ne (by simp; omega)]; exact hc.b i hi j hj
  · refine hc.put i hi _ (by simp [hl]) (fun j hj => by rw [List.getElem?_set_ne (by simp; omega)]) ?_ ?_ ?_ ?_ ?_
    · rw [List.getElem?_set_ne (by simp)]; exact hc.r i hi
    · simp only [Pp.setEnds, if_true]; rw [List.getElem?_set_self (by omega)]
    · rw [List.getElem?_set_ne (by simp)]; exact hc.n i hi
    · exact hc.le i hi
    · intro j hj; rw [List.getElem?_set_ne (by simp; omega)]; exact hc.b i hi j hj

set_option maxHeartbeats 1000000 in
theorem hold_yes (p i : Nat) (k b : Bool) (P : Nat → Pp) (w : World) (h : Tb w p k P) (h1 : 1 ≤ i) (h4 : i ≤ 4) (ht : (P i).there = true) (hm : (P i).ends b < 1000) :
    Calls Try.prog 19 #[.pointer (some ⟨p, 0, none⟩), .int .i64 i, .bool b] w fun e w' => e = .returned (.int .i64 0) ∧ Tb w' p k (updP P i ((P i).setEnds b ((P i).ends b + 1))) ∧ Upd (· = p) w w' ∧ w'.heap.size = w.heap.size := by
  have k1 := hid (pipe_yes p i k P w h h1 h4 ht)
  have k2 := hid (ends_any p (2 + i * 11) b w)
  have HN := hid (h.setEnds i (by omega) b ((P i).ends b + 1))
  have hc := h.ends i (by omega) b
  have hf := h.frozen (2 + i * 11 + (if b then 1 else 0))
  obtain ⟨m, gm⟩ : ∃ m, m = (P i).ends b := ⟨_, rfl⟩
  obtain ⟨o, go⟩ : ∃ o, o = 2 + i * 11 + (if b then 1 else 0) := ⟨_, rfl⟩
  rw [← gm] at hc HN hm
  rw [← go] at hc hf HN k2
  have HG := hid gm
  clear h ht gm go
  have c1 : ¬ (m : Int) = 1000 := by omega
  rw [show (P i).ends b = m from HG.out.symm]
  clear HG
  go_enter Try.func19, Try.ntmps19
  go_wp2_with fail
  refine k1.out.mono ?_
  rintro e w1 ⟨rfl, rfl⟩
  go_wp2_with fail
  refine k2.out.mono ?_
  rintro e w1 ⟨rfl, rfl⟩
  go_wp2_with fail
  go_ret
  exact ⟨rfl, HN.out, Upd.setCell _ _ _ rfl, by simp⟩

set_option maxHeartbeats 1000000 in
theorem hold_most (p i : Nat) (k b : Bool) (P : Nat → Pp) (w : World) (h : Tb w p k P) (h1 : 1 ≤ i) (h4 : i ≤ 4) (ht : (P i).there = true) (hm : (P i).ends b = 1000) :
    Calls Try.prog 19 #[.pointer (some ⟨p, 0, none⟩), .int .i64 i, .bool b] w fun e w' => e = .returned (.int .i64 11) ∧ w' = w := by
  have k1 := hid (pipe_yes p i k P w h h1 h4 ht)
  have k2 := hid (ends_any p (2 + i * 11) b w)
  have hc := h.ends i (by omega) b
  obtain ⟨o, go⟩ : ∃ o, o = 2 + i * 11 + (if b then 1 else 0) := ⟨_, rfl⟩
  rw [hm, ← go] at hc
  rw [← go] at k2
  clear h ht go hm
  go_enter Try.func19, Try.ntmps19
  go_wp2_with fail
  refine k1.out.mono ?_
  rintro e w1 ⟨rfl, rfl⟩
  go_wp2_with fail
  refine k2.out.mono ?_
  rintro e w1 ⟨rfl, rfl⟩
  go_wp2_with fail
  go_ret
  exact ⟨rfl, rfl⟩

set_option maxHeartbeats 1000000 in
theorem hold_err (x : Option Addr) (n c : Int) (b : Bool) (w : World) (h : Calls Try.prog 29 #[.pointer x, .int .i64 n] w fun e w' => e = .returned (.tuple #[.pointer none, .int .i64 c]) ∧ w' = w) (hc : ¬ c = 0) :
    Calls Try.prog 19 #[.pointer x, .int .i64 n, .bool b] w fun e w' => e = .returned (.int .i64 c) ∧ w' = w := by
  have k1 := hid h
  clear h
  go_enter Try.func19, Try.ntmps19
  go_wp2_with fail
  refine k1.out.mono ?_
  rintro e w1 ⟨rfl, rfl⟩
  go_wp2_with fail
  go_ret
  exact ⟨rfl, rfl⟩

set_option maxHeartbeats 1000000 in
theorem drop_err (x : Option Addr) (n c : Int) (b : Bool) (w : World) (h : Calls Try.prog 29 #[.pointer x, .int .i64 n] w fun e w' => e = .returned (.tuple #[.pointer none, .int .i64 c]) ∧ w' = w) (hc : ¬ c = 0) :
    Calls Try.prog 21 #[.pointer x, .int .i64 n, .bool b] w fun e w' => e = .returned (.int .i64 c) ∧ w' = w := by
  have k1 := hid h
  clear h
  go_enter Try.func21, Try.ntmps21
  go_wp2_with fail
  refine k1.out.mono ?_
  rintro e w1 ⟨rfl, rfl⟩
  go_wp2_with fail
  go_ret
  exact ⟨rfl, rfl⟩

set_option maxHeartbeats 1000000 in
theorem drop_none (p i : Nat) (k b : Bool) (P : Nat → Pp) (w : World) (h : Tb w p k P) (h1 : 1 ≤ i) (h4 : i ≤ 4) (ht : (P i).there = true) (hm : (P i).ends b = 0) :
    Calls Try.prog 21 #[.pointer (some ⟨p, 0, none⟩), .int .i64 i, .bool b] w fun e w' => e = .returned (.int .i64 22) ∧ w' = w := by
  have k1 := hid (pipe_yes p i k P w h h1 h4 ht)
  have k2 := hid (ends_any p (2 + i * 11) b w)
  have hc := h.ends i (by omega) b
  obtain ⟨o, go⟩ : ∃ o, o = 2 + i * 11 + (if b then 1 else 0) := ⟨_, rfl⟩
  rw [hm, ← go] at hc
  rw [← go] at k2
  clear h ht go hm
  go_enter Try.func21, Try.ntmps21
  go_wp2_with fail
  refine k1.out.mono ?_
  rintro e w1 ⟨rfl, rfl⟩
  go_wp2_with fail
  refine k2.out.mono ?_
  rintro e w1 ⟨rfl, rfl⟩
  go_wp2_with fail
  go_ret
  exact ⟨rfl, rfl⟩

set_option maxHeartbeats 1000000 in
theorem drop_keeps (p i : Nat) (P : Nat → Pp) (w : World) (h : Tb w p true P) (h1 : 1 ≤ i) (h4 : i ≤ 4) (ht : (P i).there = true) (hm : 0 < (P i).w) :
    Calls Try.prog 21 #[.pointer (some ⟨p, 0, none⟩), .int .i64 i, .bool true] w fun e w' => e = .returned (.int .i64 0) ∧ w' = w := by
  have k1 := hid (pipe_yes p i true P w h h1 h4 ht)
  have k2 := hid (ends_any p (2 + i * 11) true w)
  have hc := h.w i (by omega)
  have hk := h.keep
  obtain ⟨m, gm⟩ : ∃ m, m = (P i).w := ⟨_, rfl⟩
  obtain ⟨o, go⟩ : ∃ o, o = 2 + i * 11 + 1 := ⟨_, rfl⟩
  rw [← gm, ← go] at hc
  rw [if_pos rfl, ← go] at k2
  rw [← gm] at hm
  have c1 : ¬ (m : Int) = 0 := by omega
  clear h ht go gm hm
  go_enter Try.func21, Try.ntmps21
  go_wp2_with fail
  refine k1.out.mono ?_
  rintro e w1 ⟨rfl, rfl⟩
  go_wp2_with fail
  refine k2.out.mono ?_
  rintro e w1 ⟨rfl, rfl⟩
  go_wp2_with fail
  go_ret
  exact ⟨rfl, rfl⟩

set_option maxHeartbeats 1000000 in
theorem drop_yes (p i : Nat) (k b : Bool) (P : Nat → Pp) (w : World) (h : Tb w p k P) (h1 : 1 ≤ i) (h4 : i ≤ 4) (ht : (P i).there = true) (hm : 0 < (P i).ends b) (hle : (P i).ends b ≤ 1000) (hkb : b = true → k = false) :
    Calls Try.prog 21 #[.pointer (some ⟨p, 0, none⟩), .int .i64 i, .bool b] w fun e w' => e = .returned (.int .i64 0) ∧ Tb w' p k (updP P i ((P i).setEnds b ((P i).ends b - 1))) ∧ Upd (· = p) w w' ∧ w'.heap.size = w.heap.size := by
  have k1 := hid (pipe_yes p i k P w h h1 h4 ht)
  have k2 := hid (ends_any p (2 + i * 11) b w)
  have HN := hid (h.setEnds i (by omega) b ((P i).ends b - 1))
  have hc := h.ends i (by omega) b
  have hf := h.frozen (2 + i * 11 + (if b then 1 else 0))
  have hk := h.keep
  obtain ⟨m, gm⟩ : ∃ m, m = (P i).ends b := ⟨_, rfl⟩
  obtain ⟨o, go⟩ : ∃ o, o = 2 + i * 11 + (if b then 1 else 0) := ⟨_, rfl⟩
  rw [← gm] at hc HN hm hle
  rw [← go] at hc hf HN k2
  have HG := hid gm
  clear h ht gm go
  have c1 : ¬ (m : Int) = 0 := by omega
  rw [show (P i).ends b = m from HG.out.symm]
  clear HG
  cases b
  · clear hkb
    go_enter Try.func21, Try.ntmps21
    go_wp2_with fail
    refine k1.out.mono ?_
    rintro e w1 ⟨rfl, rfl⟩
    go_wp2_with fail
    refine k2.out.mono ?_
    rintro e w1 ⟨rfl, rfl⟩
    go_wp2_with fail
    go_ret
    have e : (m : Int) - 1 = ((m - 1 : Nat) : Int) := by omega
    rw [e]
    exact ⟨rfl, HN.out, Upd.setCell _ _ _ rfl, by simp⟩
  · obtain rfl := hkb rfl
    clear hkb
    go_enter Try.func21, Try.ntmps21
    go_wp2_with fail
    refine k1.out.mono ?_
    rintro e w1 ⟨rfl, rfl⟩
    go_wp2_with fail
    refine k2.out.mono ?_
    rintro e w1 ⟨rfl, rfl⟩
    go_wp2_with fail
    go_ret
    have e : (m : Int) - 1 = ((m - 1 : Nat) : Int) := by omega
    rw [e]
    exact ⟨rfl, HN.out, Upd.setCell _ _ _ rfl, by simp⟩

end Go.Proofs.Ytemdckmnedlfcaa
