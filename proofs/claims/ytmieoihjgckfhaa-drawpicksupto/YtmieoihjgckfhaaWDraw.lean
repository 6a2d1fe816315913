/- The draws of the program as they lie (one block of three cells), and what New, Made, Next and Used do. -/
import Derived.Test.YtmieoihjgckfhaaWInt
import Derived.Deep.WholeRow
import Derived.Deep.QuietTactic
import Derived.BigQuiet
namespace Go.Proofs.Ytmieoihjgckfhaa
open Go.RowKit
set_option maxRecDepth 20000
set_option linter.unusedVariables false

/-- Draws of the list l, of which u were taken; what they are made of lies from B on, up to p. -/
structure Dw (w : World) (B p : Nat) (l : List Int) (u : Nat) : Prop where
  ex : ∃ a c, w.heap[p]? = some (.cells #[.bool true, .slice a l.length c, .int .i64 u] 51 (0, 0)) ∧ Il w B p a l
  base : B ≤ p
  le : u ≤ l.length
  few : l.length ≤ 1125899906842624

theorem Dw.lt {w : World} {B p : Nat} {l : List Int} {u : Nat} (h : Dw w B p l u) : p < w.heap.size := by
  obtain ⟨a, c, h, _⟩ := h.ex; exact (Array.getElem?_eq_some_iff.1 h).1
theorem Dw.upd {F : Nat → Prop} {w w' : World} {B p : Nat} {l : List Int} {u : Nat} (h : Dw w B p l u) (k : Upd F w w') (hF : ∀ x, B ≤ x → x ≤ p → ¬ F x) : Dw w' B p l u := by
  obtain ⟨a, c, h1, h2⟩ := h.ex
  exact ⟨⟨a, c, k.heap h1 (hF p h.base (Nat.le_refl _)), h2.upd k (fun x hx hy => hF x hx (by omega))⟩, h.base, h.le, h.few⟩
theorem Dw.below {w w' : World} {B p : Nat} {l : List Int} {u : Nat} (h : Dw w B p l u) (k : Below w.heap.size w w') : Dw w' B p l u :=
  h.upd (Upd.of_below (F := fun _ => False) k) (fun _ _ _ h => h)
theorem Dw.hp {w w' : World} {B p : Nat} {l : List Int} {u : Nat} (h : Dw w B p l u) (e : w'.heap = w.heap) : Dw w' B p l u := by
  obtain ⟨a, c, h1, h2⟩ := h.ex
  refine ⟨⟨a, c, by rw [e]; exact h1, fun hl => ?_⟩, h.base, h.le, h.few⟩
  obtain ⟨b, r1, r2, r3, r4, r5⟩ := h2 hl
  exact ⟨b, r1, r2, r3, by rw [e]; exact r4, fun j hj => by rw [← r5 j hj]; exact World.cell?_of_block (a := ⟨b, j, none⟩) (by rw [e])⟩

theorem wrap_in {x : Int} (h1 : 0 ≤ x) (h2 : x < 9223372036854775808) : wrap64 x = x := by unfold wrap64; omega

/-- What is drawn below n. -/
def nx (n : Int) (l : List Int) (u : Nat) : Int := if n < 1 ∨ u = l.length then 0 else l.getD u 0 % 18446744073709551616 % n
/-- How many are taken then. -/
def nu (n : Int) (l : List Int) (u : Nat) : Nat := if n < 1 ∨ u = l.length then u else u + 1

set_option maxHeartbeats 1000000 in
theorem dnew (a : Option Addr) (n c : Nat) (l : List Int) (w : World) (h : Ilst w a n c l) (hn : n ≤ 17592186044416) :
    Calls Try.prog 10 #[.slice a n c] w fun e w' => ∃ p, e = .returned (.pointer (some ⟨p, 0, none⟩)) ∧ Dw w' w.heap.size p l 0 ∧ Below w.heap.size w w' := by
  have k1 := hid (iclone a n c l w h hn)
  obtain rfl := h.size
  clear h
  go_enter Try.func10, Try.ntmps10
  go_wp2_with fail
  refine k1.out.mono ?_
  rintro e w1 ⟨v, rfl, ho, hb⟩
  obtain ⟨a1, c1, rfl, _, _, hI⟩ := own_il ho
  have HI := hid hI
  have HB := hid hb
  clear k1 ho hI hb
  go_wp2_with fail
  go_ret
  have hbw := (Below.refl w1.heap.size w1).alloc (Nat.le_refl _) (.cells #[.bool true, .slice a1 l.length c1, .int .i64 0] 51)
  refine ⟨w1.heap.size, rfl, ⟨⟨a1, c1, heap_alloc_new _ _, HI.out.upd (Upd.of_below (F := fun _ => False) hbw) (fun _ _ _ h => h)⟩, HB.out.size, by omega, by omega⟩, HB.out.trans (hbw.mono HB.out.size)⟩

theorem made_of (w : World) (p : Nat) (b : Bool) (h : w.cell? ⟨p, 0, none⟩ = some (.bool b)) : Calls Try.prog 22 #[.pointer (some ⟨p, 0, none⟩)] w fun e w' => e = .returned (.bool b) ∧ w' = w := by
  go_enter Try.func22, Try.ntmps22
  go_wp2_with fail
  go_ret
  exact ⟨rfl, rfl⟩
theorem made_nil (w : World) : Calls Try.prog 22 #[.pointer none] w fun e w' => e = .returned (.bool false) ∧ w' = w := by
  go_enter Try.func22, Try.ntmps22
  go_wp2_with fail
  go_ret
  exact ⟨rfl, rfl⟩

theorem Dw.c0 {w : World} {B p : Nat} {l : List Int} {u : Nat} (h : Dw w B p l u) : w.cell? ⟨p, 0, none⟩ = some (.bool true) := by
  obtain ⟨a, c, h1, _⟩ := h.ex
  rw [cell_of_row w p 0 _ 51 (0, 0) h1]; rfl
theorem Dw.c2 {w : World} {B p : Nat} {l : List Int} {u : Nat} (h : Dw w B p l u) : w.cell? ⟨p, 2, none⟩ = some (.int .i64 u) := by
  obtain ⟨a, c, h1, _⟩ := h.ex
  rw [cell_of_row w p 2 _ 51 (0, 0) h1]; rfl

set_option maxHeartbeats 1000000 in
theorem used_any (w : World) (B p : Nat) (l : List Int) (u : Nat) (h : Dw w B p l u) : Calls Try.prog 14 #[.pointer (some ⟨p, 0, none⟩)] w fun e w' => e = .returned (.int .i64 u) ∧ w' = w := by
  have k1 := hid (made_of w p true h.c0)
  have c2 := h.c2
  clear h
  go_enter Try.func14, Try.ntmps14
  go_wp2_with fail
  refine k1.out.mono ?_
  rintro e w1 ⟨rfl, rfl⟩
  clear k1
  go_wp2_with fail
  go_ret
  exact ⟨rfl, rfl⟩

set_option maxHeartbeats 2000000 in
theorem next_no (w : World) (B p : Nat) (l : List Int) (u : Nat) (n : Int) (h : Dw w B p l u) (hn : n < 1 ∨ u = l.length) :
    Calls Try.prog 12 #[.pointer (some ⟨p, 0, none⟩), .int .i64 n] w fun e w' => e = .returned (.int .i64 0) ∧ ∃ m, w' = w.drewN m := by
  obtain ⟨a, c, h1, _⟩ := h.ex
  have c1 : w.cell? ⟨p, 1, none⟩ = some (.slice a l.length c) := by rw [cell_of_row w p 1 _ 51 (0, 0) h1]; rfl
  have c2 := h.c2
  have c0 := h.c0
  have hf := h.few
  obtain ⟨L, gL⟩ : ∃ L, L = l.length := ⟨_, rfl⟩
  rw [← gL] at hn c1 hf
  clear h h1 gL
  by_cases hd : n < 1
  · go_enter Try.func12, Try.ntmps12
    go_wp2_with fail
    go_quiet ((go_at_call 22; exact Calls.quiet_of_same (made_of _ p true c0)))
    go_wp2_with fail
    go_ret
    exact ⟨rfl, nq, rfl⟩
  · obtain rfl : u = L := by rcases hn with h | h; exact absurd h hd; exact h
    have hd' : decide (n < 1) = false := decide_eq_false hd
    go_enter Try.func12, Try.ntmps12
    go_wp2_with fail
    go_quiet ((go_at_call 22; exact Calls.quiet_of_same (made_of _ p true c0)))
    go_wp2_with fail
    go_ret
    exact ⟨rfl, nq, rfl⟩

set_option maxHeartbeats 2000000 in
theorem next_yes (w : World) (B p : Nat) (l : List Int) (u : Nat) (n : Int) (h : Dw w B p l u) (hn : 1 ≤ n) (hn2 : n ≤ 9223372036854775807) (hu : u < l.length) :
    Calls Try.prog 12 #[.pointer (some ⟨p, 0, none⟩), .int .i64 n] w fun e w' => e = .returned (.int .i64 (l.getD u 0 % 18446744073709551616 % n)) ∧ Dw w' B p l (u + 1) ∧ Upd (· = p) w w' := by
  obtain ⟨a, c, h1, hI⟩ := h.ex
  have c1 : w.cell? ⟨p, 1, none⟩ = some (.slice a l.length c) := by rw [cell_of_row w p 1 _ 51 (0, 0) h1]; rfl
  have c2 := h.c2
  have c0 := h.c0
  have hf := h.few
  have hI' := hI
  obtain ⟨b, rfl, hb1, hb2, hb3, hb4⟩ := hI (by omega)
  have cu := hb4 u hu
  have HK : Hid (∀ m : Nat, Dw ((w.drewN m).setCell ⟨p, 2, none⟩ (.int .i64 ((u : Int) + 1))) B p l (u + 1) ∧ Upd (· = p) w ((w.drewN m).setCell ⟨p, 2, none⟩ (.int .i64 ((u : Int) + 1)))) := by
    intro m
    have hU : Upd (· = p) (w.drewN m) ((w.drewN m).setCell ⟨p, 2, none⟩ (.int .i64 ((u : Int) + 1))) := Upd.setCell _ _ _ rfl
    have hU0 : Upd (· = p) w ((w.drewN m).setCell ⟨p, 2, none⟩ (.int .i64 ((u : Int) + 1))) := ⟨hU.os, hU.tape, hU.output, hU.size, hU.block⟩
    refine ⟨⟨⟨_, c, ?_, hI'.upd hU0 (fun k _ hk => by omega)⟩, h.base, hu, h.few⟩, hU0⟩
    rw [heap_setCell_same (w.drewN m) p 2 _ _ _ (show (w.drewN m).heap[p]? = _ from h1)]
    simp
  obtain ⟨L, gL⟩ : ∃ L, L = l.length := ⟨_, rfl⟩
  obtain ⟨x, gx⟩ : ∃ x, x = l.getD u 0 := ⟨_, rfl⟩
  rw [← gL] at c1 hf hu
  rw [← gx] at cu ⊢
  have e1 : IntKind.u64.wrap x = x % 18446744073709551616 := by rw [IntKind.wrap_u64]
  have e2 : IntKind.u64.wrap n = n := by rw [IntKind.wrap_u64]; omega
  have hd : decide (n < 1) = false := decide_eq_false (by omega)
  have hd2 : decide ((u : Int) = (L : Int)) = false := decide_eq_false (by omega)
  have hlt : (u : Int) < (L : Int) := by omega
  have hw : IntKind.i64.wrap ((u : Int) + 1) = (u : Int) + 1 := by rw [IntKind.wrap_i64]; omega
  have hn0 : ¬ n = 0 := by omega
  have hfz : w.frozen? ⟨p, 2, none⟩ = false := by simp [World.frozen?, h1]
  clear h h1 gL gx hI hI' hb4
  go_enter Try.func12, Try.ntmps12
  go_wp2_with fail
  go_quiet ((go_at_call 22; exact Calls.quiet_of_same (made_of _ p true c0)))
  go_wp2_with fail
  go_quiet (fail)
  go_wp2_with fail
  go_ret
  refine ⟨?_, HK.out _⟩
  show Ending.returned (.int .i64 (wrap64 (x % 18446744073709551616 % n))) = _
  rw [wrap_in (Int.emod_nonneg _ hn0) (Int.lt_of_lt_of_le (Int.emod_lt_of_pos _ (by omega)) (by omega))]

/-- What Next answers, and what is taken. -/
theorem next_any (w : World) (B p : Nat) (l : List Int) (u : Nat) (n : Int) (h : Dw w B p l u) (hn2 : n ≤ 9223372036854775807) :
    Calls Try.prog 12 #[.pointer (some ⟨p, 0, none⟩), .int .i64 n] w fun e w' => e = .returned (.int .i64 (nx n l u)) ∧ Dw w' B p l (nu n l u) ∧ Upd (· = p) w w' := by
  by_cases hq : n < 1 ∨ u = l.length
  · refine (next_no w B p l u n h hq).mono ?_
    rintro e w' ⟨rfl, m, rfl⟩
    simp only [nx, nu, hq, if_true]
    exact ⟨trivial, h.hp rfl, (Upd.refl _ _).drewN m⟩
  · have hl := h.le
    refine (next_yes w B p l u n h (by omega) hn2 (by omega)).mono ?_
    rintro e w' ⟨rfl, h1, h2⟩
    simp only [nx, nu, hq, if_false]
    exact ⟨trivial, h1, h2⟩

end Go.Proofs.Ytmieoihjgckfhaa
