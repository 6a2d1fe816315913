/- The document's draws as they lie (one block of two cells), and what its New, Next and Used do. -/
import Derived.Test.YtmieoihjgckfhaaWDraw
namespace Go.Proofs.Ytmieoihjgckfhaa
open Go.RowKit
set_option maxRecDepth 20000
set_option linter.unusedVariables false

/-- The document's draws of the list l, of which u were taken. -/
structure Rw (w : World) (B p : Nat) (l : List Int) (u : Nat) : Prop where
  ex : ∃ a c, w.heap[p]? = some (.cells #[.slice a l.length c, .int .i64 u] 63 (0, 0)) ∧ Il w B p a l
  base : B ≤ p
  le : u ≤ l.length
  few : l.length ≤ 1125899906842624

theorem Rw.lt {w : World} {B p : Nat} {l : List Int} {u : Nat} (h : Rw w B p l u) : p < w.heap.size := by
  obtain ⟨a, c, h, _⟩ := h.ex; exact (Array.getElem?_eq_some_iff.1 h).1
theorem Rw.upd {F : Nat → Prop} {w w' : World} {B p : Nat} {l : List Int} {u : Nat} (h : Rw w B p l u) (k : Upd F w w') (hF : ∀ x, B ≤ x → x ≤ p → ¬ F x) : Rw w' B p l u := by
  obtain ⟨a, c, h1, h2⟩ := h.ex
  exact ⟨⟨a, c, k.heap h1 (hF p h.base (Nat.le_refl _)), h2.upd k (fun x hx hy => hF x hx (by omega))⟩, h.base, h.le, h.few⟩
theorem Rw.below {w w' : World} {B p : Nat} {l : List Int} {u : Nat} (h : Rw w B p l u) (k : Below w.heap.size w w') : Rw w' B p l u :=
  h.upd (Upd.of_below (F := fun _ => False) k) (fun _ _ _ h => h)
theorem Rw.hp {w w' : World} {B p : Nat} {l : List Int} {u : Nat} (h : Rw w B p l u) (e : w'.heap = w.heap) : Rw w' B p l u := by
  obtain ⟨a, c, h1, h2⟩ := h.ex
  refine ⟨⟨a, c, by rw [e]; exact h1, fun hl => ?_⟩, h.base, h.le, h.few⟩
  obtain ⟨b, r1, r2, r3, r4, r5⟩ := h2 hl
  exact ⟨b, r1, r2, r3, by rw [e]; exact r4, fun j hj => by rw [← r5 j hj]; exact World.cell?_of_block (a := ⟨b, j, none⟩) (by rw [e])⟩
theorem Rw.c1 {w : World} {B p : Nat} {l : List Int} {u : Nat} (h : Rw w B p l u) : w.cell? ⟨p, 1, none⟩ = some (.int .i64 u) := by
  obtain ⟨a, c, h1, _⟩ := h.ex
  rw [cell_of_row w p 1 _ 63 (0, 0) h1]; rfl

set_option maxHeartbeats 1000000 in
theorem rnew (a : Option Addr) (n c : Nat) (l : List Int) (w : World) (h : Ilst w a n c l) (hn : n ≤ 17592186044416) :
    Calls Try.prog 11 #[.slice a n c] w fun e w' => ∃ p, e = .returned (.pointer (some ⟨p, 0, none⟩)) ∧ Rw w' w.heap.size p l 0 ∧ Below w.heap.size w w' := by
  obtain ⟨i0, hi0, hz0, hz1, hz2⟩ := info_parts infoInt
  obtain rfl := h.size
  have hA : Below w.heap.size w (w.alloc (.cells #[] 3)) := (Below.refl _ _).alloc (Nat.le_refl _) _
  have HA : Hid ((w.alloc (.cells #[] 3)).ownsRow w.heap.size 3 1 (.slice (some ⟨w.heap.size, 0, none⟩) 0 0) 0 []) := World.ownsRow_made w #[] 0 (Nat.le_refl _) (by unfold maxLen; omega) rfl
  have HBA := hid hA
  have HL := hid (h.below hA)
  clear h hA
  go_enter Try.func11, Try.ntmps11
  go_wp2_with (at_builtin; go_must (refine wpList_append_lst _ rfl (.tmp 3) (.tmp 4) 22 rfl w.heap.size i0 Try.underlying22 hi0 hz0 hz1 hz2 (.slice (some ⟨w.heap.size, 0, none⟩) 0 0) 0 [] rfl HA.out a l.length c l rfl HL.out (by omega) (by simp) ?_))
  intro v w1 ho hg
  have hb := HBA.out.grown hg (by simp) (by intro q hq; simp [Value.ownBlock] at hq; omega)
  obtain ⟨a1, c1, rfl, _, _, hI⟩ := own_il ho
  have HI := hid hI
  have HB := hid hb
  clear ho hI hb hg
  go_wp2_with fail
  go_ret
  have hbw := (Below.refl w1.heap.size w1).alloc (Nat.le_refl _) (.cells #[.slice a1 l.length c1, .int .i64 0] 63)
  refine ⟨w1.heap.size, rfl, ⟨⟨a1, c1, heap_alloc_new _ _, HI.out.upd (Upd.of_below (F := fun _ => False) hbw) (fun _ _ _ h => h)⟩, HB.out.size, by omega, by omega⟩, HB.out.trans (hbw.mono HB.out.size)⟩

set_option maxHeartbeats 1000000 in
theorem rused_any (w : World) (B p : Nat) (l : List Int) (u : Nat) (h : Rw w B p l u) : Calls Try.prog 15 #[.pointer (some ⟨p, 0, none⟩)] w fun e w' => e = .returned (.int .i64 u) ∧ w' = w := by
  have c1 := h.c1
  clear h
  go_enter Try.func15, Try.ntmps15
  go_wp2_with fail
  go_ret
  exact ⟨rfl, rfl⟩

set_option maxHeartbeats 2000000 in
theorem rnext_no (w : World) (B p : Nat) (l : List Int) (u : Nat) (n : Int) (h : Rw w B p l u) (hn : n < 1 ∨ u = l.length) :
    Calls Try.prog 13 #[.pointer (some ⟨p, 0, none⟩), .int .i64 n] w fun e w' => e = .returned (.int .i64 0) ∧ ∃ m, w' = w.drewN m := by
  obtain ⟨a, c, h1, _⟩ := h.ex
  have c0 : w.cell? ⟨p, 0, none⟩ = some (.slice a l.length c) := by rw [cell_of_row w p 0 _ 63 (0, 0) h1]; rfl
  have c1 := h.c1
  have hf := h.few
  obtain ⟨L, gL⟩ : ∃ L, L = l.length := ⟨_, rfl⟩
  rw [← gL] at hn c0 hf
  clear h h1 gL
  by_cases hd : n < 1
  · go_enter Try.func13, Try.ntmps13
    go_wp2_with fail
    go_quiet (fail)
    go_wp2_with fail
    go_ret
    exact ⟨rfl, nq, rfl⟩
  · obtain rfl : u = L := by rcases hn with h | h; exact absurd h hd; exact h
    have hd' : decide (n < 1) = false := decide_eq_false hd
    go_enter Try.func13, Try.ntmps13
    go_wp2_with fail
    go_quiet (fail)
    go_wp2_with fail
    go_ret
    exact ⟨rfl, nq, rfl⟩

set_option maxHeartbeats 2000000 in
theorem rnext_yes (w : World) (B p : Nat) (l : List Int) (u : Nat) (n : Int) (h : Rw w B p l u) (hn : 1 ≤ n) (hn2 : n ≤ 9223372036854775807) (hu : u < l.length) :
    Calls Try.prog 13 #[.pointer (some ⟨p, 0, none⟩), .int .i64 n] w fun e w' => e = .returned (.int .i64 (l.getD u 0 % 18446744073709551616 % n)) ∧ Rw w' B p l (u + 1) ∧ Upd (· = p) w w' := by
  obtain ⟨a, c, h1, hI⟩ := h.ex
  have c0 : w.cell? ⟨p, 0, none⟩ = some (.slice a l.length c) := by rw [cell_of_row w p 0 _ 63 (0, 0) h1]; rfl
  have c1 := h.c1
  have hf := h.few
  have hI' := hI
  obtain ⟨b, rfl, hb1, hb2, hb3, hb4⟩ := hI (by omega)
  have HK : Hid (∀ m : Nat, Rw ((w.drewN m).setCell ⟨p, 1, none⟩ (.int .i64 ((u : Int) + 1))) B p l (u + 1) ∧ Upd (· = p) w ((w.drewN m).setCell ⟨p, 1, none⟩ (.int .i64 ((u : Int) + 1)))) := by
    intro m
    have hU : Upd (· = p) (w.drewN m) ((w.drewN m).setCell ⟨p, 1, none⟩ (.int .i64 ((u : Int) + 1))) := Upd.setCell _ _ _ rfl
    have hU0 : Upd (· = p) w ((w.drewN m).setCell ⟨p, 1, none⟩ (.int .i64 ((u : Int) + 1))) := ⟨hU.os, hU.tape, hU.output, hU.size, hU.block⟩
    refine ⟨⟨⟨_, c, ?_, hI'.upd hU0 (fun k _ hk => by omega)⟩, h.base, hu, h.few⟩, hU0⟩
    rw [heap_setCell_same (w.drewN m) p 1 _ _ _ (show (w.drewN m).heap[p]? = _ from h1)]
    simp
  have cu := hb4 u hu
  obtain ⟨L, gL⟩ : ∃ L, L = l.length := ⟨_, rfl⟩
  obtain ⟨x, gx⟩ : ∃ x, x = l.getD u 0 := ⟨_, rfl⟩
  rw [← gL] at c0 hf hu
  rw [← gx] at cu ⊢
  have e1 : IntKind.u64.wrap x = x % 18446744073709551616 := by rw [IntKind.wrap_u64]
  have e2 : IntKind.u64.wrap n = n := by rw [IntKind.wrap_u64]; omega
  have hd : decide (n < 1) = false := decide_eq_false (by omega)
  have hd2 : decide ((L : Int) ≤ (u : Int)) = false := decide_eq_false (by omega)
  have hlt : (u : Int) < (L : Int) := by omega
  have hw : IntKind.i64.wrap ((u : Int) + 1) = (u : Int) + 1 := by rw [IntKind.wrap_i64]; omega
  have hw2 : IntKind.i64.wrap ((u : Int) + 1 - 1) = (u : Int) := by rw [IntKind.wrap_i64]; omega
  have hn0 : ¬ n = 0 := by omega
  have hfz : ∀ m : Nat, (w.drewN m).frozen? ⟨p, 1, none⟩ = false := fun m => by
    show w.frozen? ⟨p, 1, none⟩ = false
    simp [World.frozen?, h1]
  have f0 : ∀ m : Nat, ((w.drewN m).setCell ⟨p, 1, none⟩ (.int .i64 ((u : Int) + 1))).cell? ⟨p, 0, none⟩ = some (.slice (some ⟨b, 0, none⟩) L c) := fun m => by
    obtain ⟨a', c', q1, _⟩ := (HK.out m).1.ex
    have q2 := heap_setCell_same (w.drewN m) p 1 _ _ (.int .i64 ((u : Int) + 1)) (show (w.drewN m).heap[p]? = _ from h1)
    rw [cell_of_row _ p 0 _ 63 (0, 0) q2, gL]; simp
  have f1 : ∀ m : Nat, ((w.drewN m).setCell ⟨p, 1, none⟩ (.int .i64 ((u : Int) + 1))).cell? ⟨p, 1, none⟩ = some (.int .i64 ((u : Int) + 1)) := fun m => by
    have := (HK.out m).1.c1
    simpa using this
  have fu : ∀ m : Nat, ((w.drewN m).setCell ⟨p, 1, none⟩ (.int .i64 ((u : Int) + 1))).cell? ⟨b, u, none⟩ = some (.int .i64 x) := fun m => by
    rw [← cu]; exact World.cell?_of_block (a := ⟨b, u, none⟩) ((HK.out m).2.block b hb3 (by omega))
  clear h h1 gL gx hI hI' hb4 cu
  go_enter Try.func13, Try.ntmps13
  go_wp2_with fail
  go_quiet (fail)
  go_wp2_with fail
  obtain ⟨W, gW⟩ : ∃ W, W = (w.drewN nq).setCell ⟨p, 1, none⟩ (.int .i64 ((u : Int) + 1)) := ⟨_, rfl⟩
  have F0 := f0 nq
  have F1 := f1 nq
  have Fu := fu nq
  have HK1 := hid (HK.out nq)
  rw [← gW] at F0 F1 Fu HK1 ⊢
  clear gW f0 f1 fu HK c0 c1
  go_quiet (fail)
  go_wp2_with fail
  go_ret
  refine ⟨?_, HK1.out.1.hp rfl, HK1.out.2.drewN _⟩
  show Ending.returned (.int .i64 (wrap64 (x % 18446744073709551616 % n))) = _
  rw [wrap_in (Int.emod_nonneg _ hn0) (Int.lt_of_lt_of_le (Int.emod_lt_of_pos _ (by omega)) (by omega))]

/-- What the document's Next answers, and what is taken. -/
theorem rnext_any (w : World) (B p : Nat) (l : List Int) (u : Nat) (n : Int) (h : Rw w B p l u) (hn2 : n ≤ 9223372036854775807) :
    Calls Try.prog 13 #[.pointer (some ⟨p, 0, none⟩), .int .i64 n] w fun e w' => e = .returned (.int .i64 (nx n l u)) ∧ Rw w' B p l (nu n l u) ∧ Upd (· = p) w w' := by
  by_cases hq : n < 1 ∨ u = l.length
  · refine (rnext_no w B p l u n h hq).mono ?_
    rintro e w' ⟨rfl, m, rfl⟩
    simp only [nx, nu, hq, if_true]
    exact ⟨trivial, h.hp rfl, (Upd.refl _ _).drewN m⟩
  · have hl := h.le
    refine (rnext_yes w B p l u n h (by omega) hn2 (by omega)).mono ?_
    rintro e w' ⟨rfl, h1, h2⟩
    simp only [nx, nu, hq, if_false]
    exact ⟨trivial, h1, h2⟩

end Go.Proofs.Ytmieoihjgckfhaa
