/- The road of ProgSizes. -/
import Derived.Test.YtoohihlpjodhaaaGRef6
namespace Go.Proofs.Ytoohihlpjodhaaa
open Go.RowKit
set_option linter.unusedVariables false
set_option maxRecDepth 20000

set_option maxHeartbeats 8000000 in
theorem sizes_road (a : Option Addr) (m c : Nat) (a2 : Option Addr) (m2 c2 : Nat) (l : List Ty) (q : List Cl) (d : Nat) (n : Int) (A : Ar) (w : World) (h : Tys w a l) (hm : l.length = m) (h2 : Cls w a2 q) (hm2 : q.length = m2) (hc : m ≤ 9223372036854775807) (hc2 : m2 ≤ 9223372036854775807) (hA : Okd d w A) :
    Calls Try.prog 4 #[.agg #[.slice a m c, .slice a2 m2 c2], .int .i64 n, .agg #[.int .i64 A.h.k, .int .i64 A.h.v, .slice A.h.ka A.h.kn A.h.kc, .slice A.h.ba A.h.bn A.h.bc]] w fun e w' => e = .returned (.bool true) ∧ Below w.heap.size w w' := by
  have k1 := hid (fun wx (hb : Below w.heap.size w wx) => psize_any a m c a2 m2 c2 l q d n A wx (h.below hb) hm (h2.below hb) hm2 hc hc2 (Okd.below hb d A hA))
  have k2 := hid (fun wx (hb : Below w.heap.size w wx) => rsize_any a m c a2 m2 c2 l q d n A wx (h.below hb) hm (h2.below hb) hm2 hc hc2 (Okd.below hb d A hA))
  clear h hm h2 hm2 hA
  generalize sizeR l q d n A = SR at *
  obtain ⟨R1, R2⟩ := SR
  dsimp only at *
  generalize A.h = hh at *
  go_enter Try.func4, Try.ntmps4
  go_wp2_with fail
  refine (k1.out _ (below_box2 w _ _)).mono ?_
  rintro e w1 ⟨rfl, hb1⟩
  have u1 : Hid (Below w.heap.size w w1) := hid ((below_box2 w _ _).trans (hb1.mono (below_box2 w _ _).size))
  have c0 : w1.heap[w.heap.size]? = some (.cells #[.slice a m c, .slice a2 m2 c2] 25 (0, 0)) := by
    rw [hb1.block _ (by simp; omega), (below_box _ _).block _ (by simp)]; exact heap_alloc_new _ _
  have c1 : w1.heap[w.heap.size + 1]? = some (.cells #[.int .i64 hh.k, .int .i64 hh.v, .slice hh.ka hh.kn hh.kc, .slice hh.ba hh.bn hh.bc] 30 (0, 0)) := by
    rw [hb1.block _ (by simp)]
    have := heap_alloc_new (w.alloc (.cells #[.slice a m c, .slice a2 m2 c2] 25)) (.cells #[.int .i64 hh.k, .int .i64 hh.v, .slice hh.ka hh.kn hh.kc, .slice hh.ba hh.bn hh.bc] 30)
    simpa using this
  have d0 : w1.cell? ⟨w.heap.size + 1, 0, none⟩ = some (.int .i64 hh.k) := cell_of_row _ _ 0 _ _ _ c1
  have d1 : w1.cell? ⟨w.heap.size + 1, 1, none⟩ = some (.int .i64 hh.v) := cell_of_row _ _ 1 _ _ _ c1
  have d2 : w1.cell? ⟨w.heap.size + 1, 2, none⟩ = some (.slice hh.ka hh.kn hh.kc) := cell_of_row _ _ 2 _ _ _ c1
  have d3 : w1.cell? ⟨w.heap.size + 1, 3, none⟩ = some (.slice hh.ba hh.bn hh.bc) := cell_of_row _ _ 3 _ _ _ c1
  have f0 : w1.cell? ⟨w.heap.size, 0, none⟩ = some (.slice a m c) := cell_of_row _ _ 0 _ _ _ c0
  have f1 : w1.cell? ⟨w.heap.size, 1, none⟩ = some (.slice a2 m2 c2) := cell_of_row _ _ 1 _ _ _ c0
  clear c0 c1 hb1 k1
  go_wp2_with fail
  refine (k2.out _ u1.out).mono ?_
  rintro e w2 ⟨rfl, hb2⟩
  go_wp2_with fail
  go_ret
  exact ⟨rfl, u1.out.trans (hb2.mono u1.out.size)⟩

end Go.Proofs.Ytoohihlpjodhaaa
