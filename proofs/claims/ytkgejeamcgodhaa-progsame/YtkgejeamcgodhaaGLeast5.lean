/- The least argument of a type: the program's least, up to its switch. -/
import Derived.Test.YtkgejeamcgodhaaGLeast4
namespace Go.Proofs.Ytkgejeamcgodhaa
open Go.RowKit
set_option linter.unusedVariables false
set_option maxRecDepth 20000

/-- A store of several cells, with the world behind it by name. -/
theorem wpList_store_as {P : Program} {ops : Array Oper} {rest : List Oper} {op : Oper} {a : Act} {w : World} {Q : Exit → Act → World → Prop} (hgd : op.guard = none) (ty : TypeId) (x y : Operand) (ho : op.op = .store ty x y)
    (b o : Nat) (cells : Array Value) (hx : a.eval x = .pointer (some ⟨b, o, none⟩)) (hy : a.eval y = .agg cells)
    (ht : w.there b o cells.size) (hi : (P.info? ty).map (·.size) = some cells.size) (h1 : cells.all (·.oneCell') = true)
    (W : World) (hW : w.setCells b o cells.toList = W)
    (h : wpList P ops Q rest (a.put op.dst undef) W) : wpList P ops Q (op :: rest) a w :=
  wpList_store_mid hgd ty x y ho b o cells hx hy ht hi h1 (hW ▸ h)

/-- How a type is looked at: its table, the answer's place and the type lie in new memory. -/
structure Hed (w X : World) (a : Option Addr) (m c : Nat) (a2 : Option Addr) (m2 c2 : Nat) (T : Ty) : Prop where
  B : Below w.heap.size w X
  s : X.heap.size = w.heap.size + 1 + 1 + 1
  b0 : X.heap[w.heap.size]? = some (.cells #[.slice a m c, .slice a2 m2 c2] 25 (0, 0))
  b1 : ∃ C : List Value, C.length = 4 ∧ X.heap[w.heap.size + 1]? = some (.cells C.toArray 30 (0, 0))
  b2 : X.heap[w.heap.size + 1 + 1]? = some (.cells (tyC T).toArray 52 (0, 0))

theorem hed_of (w : World) (a : Option Addr) (m c : Nat) (a2 : Option Addr) (m2 c2 : Nat) (T : Ty) :
    Hed w ((((w.alloc (.cells #[.slice a m c, .slice a2 m2 c2] 25)).alloc (.cells #[.int .i64 0, .int .i64 0, .slice none 0 0, .slice none 0 0] 30)).alloc (.cells #[.int .i64 0, .int .i64 0, .int .i64 0, .int .i64 0, .int .i64 0, .string ⟨#[]⟩, .slice none 0 0, .slice none 0 0, .slice none 0 0, .slice none 0 0] 52)).setCells (w.heap.size + 1 + 1) 0 (tyC T)) a m c a2 m2 c2 T := by
  obtain ⟨h0, h1, h2⟩ := heap3 w (.cells #[.slice a m c, .slice a2 m2 c2] 25) (.cells #[.int .i64 0, .int .i64 0, .slice none 0 0, .slice none 0 0] 30) (.cells #[.int .i64 0, .int .i64 0, .int .i64 0, .int .i64 0, .int .i64 0, .string ⟨#[]⟩, .slice none 0 0, .slice none 0 0, .slice none 0 0, .slice none 0 0] 52)
  have hB : Below w.heap.size w (((w.alloc (.cells #[.slice a m c, .slice a2 m2 c2] 25)).alloc (.cells #[.int .i64 0, .int .i64 0, .slice none 0 0, .slice none 0 0] 30)).alloc (.cells #[.int .i64 0, .int .i64 0, .int .i64 0, .int .i64 0, .int .i64 0, .string ⟨#[]⟩, .slice none 0 0, .slice none 0 0, .slice none 0 0, .slice none 0 0] 52)) := (below_box2 w _ _).alloc (by simp; omega) _
  have hs : (((w.alloc (.cells #[.slice a m c, .slice a2 m2 c2] 25)).alloc (.cells #[.int .i64 0, .int .i64 0, .slice none 0 0, .slice none 0 0] 30)).alloc (.cells #[.int .i64 0, .int .i64 0, .int .i64 0, .int .i64 0, .int .i64 0, .string ⟨#[]⟩, .slice none 0 0, .slice none 0 0, .slice none 0 0, .slice none 0 0] 52)).heap.size = w.heap.size + 1 + 1 + 1 := by simp
  generalize (((w.alloc (.cells #[.slice a m c, .slice a2 m2 c2] 25)).alloc (.cells #[.int .i64 0, .int .i64 0, .slice none 0 0, .slice none 0 0] 30)).alloc (.cells #[.int .i64 0, .int .i64 0, .int .i64 0, .int .i64 0, .int .i64 0, .string ⟨#[]⟩, .slice none 0 0, .slice none 0 0, .slice none 0 0, .slice none 0 0] 52)) = Y at *
  have u := upd_setCells (w.heap.size + 1 + 1) (tyC T) 0 Y
  refine ⟨hB.trans (u.below hB.size (fun x hx => by omega)), by rw [size_setCells, hs], (u.block _ (by omega) (by omega)).trans h0, ⟨[.int .i64 0, .int .i64 0, .slice none 0 0, .slice none 0 0], rfl, (u.block _ (by omega) (by omega)).trans h1⟩, ?_⟩
  have h2' : Y.heap[w.heap.size + 1 + 1]? = some (.cells [Value.int .i64 0, .int .i64 0, .int .i64 0, .int .i64 0, .int .i64 0, .string ⟨#[]⟩, .slice none 0 0, .slice none 0 0, .slice none 0 0, .slice none 0 0].toArray 52 (0, 0)) := h2
  rw [heap_setCells (w.heap.size + 1 + 1) 52 (tyC T) 0 Y _ h2' (by simp [tyC]), splice_all _ _ (by simp [tyC])]

theorem kids_okb {B N : Nat} {w : World} {l : List Ty} {ps : List Int} {g : Nat} {qs : List Ar} (h : Kids B N w l ps g qs) (k v : Int) (pn : Nat) (hp : ps.length = pn) (hpn : pn ≤ 1048576) : Okb B (N + 1) w (.mk ⟨k, v, some ⟨g, 0, none⟩, pn, pn, none, 0, 0, []⟩ qs) := by
  obtain ⟨h1, h2, h3, h4⟩ := h
  refine ⟨⟨⟨rfl, fun h => (Nat.lt_irrefl 0 h).elim⟩, Nat.le_refl _, Nat.zero_le _, Nat.le_refl _, by show pn ≤ _; omega⟩, fun b o e => (by cases e), h1.trans hp, fun h0 => ?_⟩
  obtain ⟨b, o, e, hl, hgb, hc⟩ := h4 h0
  exact ⟨b, o, e, hl, by omega, fun j hj => ⟨(hc j hj).1, Okb.less h3 N _ (hc j hj).2⟩⟩
theorem none_okb {B N : Nat} {w : World} (k v : Int) : Okb B (N + 1) w (.mk ⟨k, v, none, 0, 0, none, 0, 0, []⟩ []) :=
  ⟨⟨⟨rfl, fun h => (Nat.lt_irrefl 0 h).elim⟩, Nat.le_refl _, Nat.zero_le _, Nat.le_refl _, Nat.zero_le _⟩, fun b o e => (by cases e), rfl, fun h0 => absurd h0 (by simp [Ar.ks])⟩
theorem bytes_okb {B N : Nat} {w : World} (k v : Int) (g bn bc : Nat) (bs : List Int) (hs : Src w (some ⟨g, 0, none⟩) bn bs) (hB : B ≤ g) (hm : bn ≤ bc) (hb : bc ≤ 9223372036854775807) : Okb B (N + 1) w (.mk ⟨k, v, none, 0, 0, some ⟨g, 0, none⟩, bn, bc, bs⟩ []) :=
  ⟨⟨hs, hm, hb, Nat.le_refl _, Nat.zero_le _⟩, fun b o e => (by cases e; exact hB), rfl, fun h0 => absurd h0 (by simp [Ar.ks])⟩

/-- The answer is stored. -/
theorem least_end {w W : World} {n : Nat} {C : List Value} (hB : Below w.heap.size w W) (h1 : W.heap[w.heap.size + 1]? = some (.cells C.toArray 30 (0, 0))) (hC : C.length = 4) {A : Ar} (hA : Okb (w.heap.size + 1 + 1) (n + 1) W A) :
    (W.setCells (w.heap.size + 1) 0 (arC A.h)).rangeAt (w.heap.size + 1) 0 (arC A.h) ∧ Okb w.heap.size (n + 1) (W.setCells (w.heap.size + 1) 0 (arC A.h)) A ∧ Below w.heap.size w (W.setCells (w.heap.size + 1) 0 (arC A.h)) := by
  have u := upd_setCells (w.heap.size + 1) (arC A.h) 0 W
  exact ⟨World.rangeAt_setCells_same _ _ _ _ (there_of_block h1 0 4 (by omega)), Okb.less (by omega) (n + 1) _ (Okb.upd u (fun x hx => by omega) (n + 1) _ hA), hB.trans (u.below hB.size (fun x hx => by omega))⟩

end Go.Proofs.Ytkgejeamcgodhaa
