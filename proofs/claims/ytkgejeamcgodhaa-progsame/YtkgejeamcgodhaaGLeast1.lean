/- The least argument of a type, the program's: what stands for a resource, and what lies in a block of arguments. -/
import Derived.Test.YtkgejeamcgodhaaGSame
import Derived.Test.YtkgejeamcgodhaaGKids
import Derived.Test.YtkgejeamcgodhaaGOpen2
namespace Go.Proofs.Ytkgejeamcgodhaa
open Go.RowKit
set_option linter.unusedVariables false
set_option maxRecDepth 20000

theorem Lst.more {l : List Ty} : ∀ (f : Nat) (n : Int) (A : Ar), Lst l f n A → ∀ f', f ≤ f' → Lst l f' n A := by
  intro f
  induction f with
  | zero => intro n A h; exact h.elim
  | succ f ih =>
    intro n A h f' hf
    obtain ⟨e, rfl⟩ : ∃ e, f' = e + 1 := ⟨f' - 1, by omega⟩
    obtain ⟨T, h1, h2, h3⟩ := h
    refine ⟨T, h1, h2, ?_⟩
    have : ∀ (ts : List Int) (qs : List Ar), AllL (Lst l f) ts qs → AllL (Lst l e) ts qs := by
      intro ts
      induction ts with
      | nil => intro qs h; cases qs with | nil => trivial | cons a r => exact h.elim
      | cons t ts iht =>
        intro qs h
        cases qs with
        | nil => exact h.elim
        | cons a r => exact ⟨ih t a h.1 e (by omega), iht r h.2⟩
    exact this _ _ h3

/-- Four cells of a block, stored one by one. -/
theorem fin4 {B : Nat} {w W : World} {p : Nat} {C : Array Value} {t : TypeId} (hB : Below B w W) (hp : W.heap[p]? = some (.cells C t (0, 0))) (hs : C.size = 4) (hBp : B ≤ p) (x y z u : Value) :
    ((((W.setCell ⟨p, 0, none⟩ x).setCell ⟨p, 1, none⟩ y).setCell ⟨p, 2, none⟩ z).setCell ⟨p, 3, none⟩ u).rangeAt p 0 [x, y, z, u] ∧ Below B w ((((W.setCell ⟨p, 0, none⟩ x).setCell ⟨p, 1, none⟩ y).setCell ⟨p, 2, none⟩ z).setCell ⟨p, 3, none⟩ u) ∧ Upd (· = p) W ((((W.setCell ⟨p, 0, none⟩ x).setCell ⟨p, 1, none⟩ y).setCell ⟨p, 2, none⟩ z).setCell ⟨p, 3, none⟩ u) := by
  refine ⟨?_, (((hB.setCell hBp _).setCell hBp _).setCell hBp _).setCell hBp _, ?_⟩
  · have h1 := heap_setCell_same W p 0 C t x hp
    have h2 := heap_setCell_same _ p 1 _ t y h1
    have h3 := heap_setCell_same _ p 2 _ t z h2
    have h4 := heap_setCell_same _ p 3 _ t u h3
    match C, hs with
    | ⟨[c0, c1, c2, c3]⟩, _ =>
      refine rangeAt_block (t := t) ?_
      rw [h4]
      simp
  · have u1 := Upd.setCell (F := (· = p)) W ⟨p, 0, none⟩ x rfl
    have u2 := Upd.setCell (F := (· = p)) (W.setCell ⟨p, 0, none⟩ x) ⟨p, 1, none⟩ y rfl
    have u3 := Upd.setCell (F := (· = p)) ((W.setCell ⟨p, 0, none⟩ x).setCell ⟨p, 1, none⟩ y) ⟨p, 2, none⟩ z rfl
    have u4 := Upd.setCell (F := (· = p)) (((W.setCell ⟨p, 0, none⟩ x).setCell ⟨p, 1, none⟩ y).setCell ⟨p, 2, none⟩ z) ⟨p, 3, none⟩ u rfl
    exact ((u1.trans u2 (fun _ _ h => h)).trans u3 (fun _ _ h => h)).trans u4 (fun _ _ h => h)

theorem heap2 (w : World) (o1 o2 : Obj) : ((w.alloc o1).alloc o2).heap[w.heap.size + 1]? = some o2 := by
  have := heap_alloc_new (w.alloc o1) o2
  simpa using this
theorem csizeA : (Try.prog.info? 30).map (·.size) = some 4 := by kernel_rfl
theorem infoA : (Try.prog.info? 30).map (fun i => (i.zero, i.size, i.bytes)) = some (some (.agg #[.int .i64 0, .int .i64 0, .slice none 0 0, .slice none 0 0]), 4, 64) := by kernel_rfl

set_option maxHeartbeats 4000000 in
theorem special_any (T : Ty) (w : World) (hT : T.Ok w) (hv : 0 < T.vn) : Calls Try.prog 70 #[.agg #[.int .i64 T.k, .int .i64 T.s, .int .i64 T.lo, .int .i64 T.hi, .int .i64 T.d, .string T.o, .slice T.va T.vn T.vc, .slice T.ta T.tn T.tc, .slice T.ea T.en T.ec, .slice T.na T.nn T.nc]] w fun e w' => e = .returned (.agg #[.int .i64 1, .int .i64 (T.vs.getD 0 0), .slice none 0 0, .slice none 0 0]) ∧ Below w.heap.size w w' := by
  have hvl := hT.vl
  obtain ⟨b, o, hva, hbl, hc⟩ := hT.vs (by omega)
  have h0 := hc 0 (by omega)
  rw [Nat.add_zero] at h0
  have hvm := hT.vm
  have hvb := hT.vb
  clear hc hT
  generalize T.vs.getD 0 0 = x at *
  obtain ⟨k, s, lo, hi, d, to', va, vn, vc, vs, ta, tn, tc, ts, ea, en, ec, es, na, nn, nc⟩ := T
  dsimp only at *
  subst hva
  have hb1 : b < w.heap.size + 1 := by omega
  have hb2 : b ≠ w.heap.size + 1 := by omega
  go_enter Try.func70, Try.ntmps70
  go_wp2_with fail
  refine bodyPost_ret (cell_result rfl _ _ (w.heap.size + 1) 0 rfl [.int .i64 1, .int .i64 x, .slice none 0 0, .slice none 0 0] _ (rangeAt_block (t := 30) (heap2 w _ _)) Try.underlying30 rfl csizeA) rfl ?_
  exact ⟨rfl, below_box2 _ _ _⟩

end Go.Proofs.Ytkgejeamcgodhaa
