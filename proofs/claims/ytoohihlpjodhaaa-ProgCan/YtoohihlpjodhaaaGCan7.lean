/- The road of ProgCan. -/
import Derived.Test.YtoohihlpjodhaaaGCan6
import Derived.Deep.RegionHeld3
namespace Go.Proofs.Ytoohihlpjodhaaa
open Go.RowKit
set_option linter.unusedVariables false
set_option maxRecDepth 20000

theorem below_hp {B : Nat} {w a b : World} (h : Below B w a) (e1 : b.os = a.os) (e2 : b.tape = a.tape) (e3 : b.output = a.output) (e4 : b.heap = a.heap) : Below B w b :=
  ⟨e1.trans h.os, e2.trans h.tape, e3.trans h.output, by rw [e4]; exact h.size, fun k hk => by rw [e4]; exact h.block k hk⟩

set_option maxHeartbeats 4000000 in
theorem can_road (a : Option Addr) (n c : Nat) (a2 : Option Addr) (m c2 : Nat) (l : List Ty) (q : List Cl) (w : World) (h : Tys w a l) (hn : l.length = n) (h2 : Cls w a2 q) (hm : q.length = m) (hc : n ≤ 9223372036854775807) (hc2 : m ≤ 9223372036854775807) :
    Calls Try.prog 3 #[.agg #[.slice a n c, .slice a2 m c2]] w fun e w' => e = .returned (.bool true) ∧ Below w.heap.size w w' := by
  have kp := hid (fun wx (hb : Below w.heap.size w wx) => pcan_any a n c a2 m c2 l q wx (h.below hb) hn (h2.below hb) hm hc hc2)
  have kr := hid (fun wx (hb : Below w.heap.size w wx) => rcan_any a n c a2 m c2 l q wx (h.below hb) hn (h2.below hb) hm hc hc2)
  clear h hn h2 hm
  generalize canB l q = B at *
  go_enter Try.func3, Try.ntmps3
  go_wp2_with fail
  obtain ⟨X, gX⟩ : ∃ X, X = w.alloc (.cells #[.slice a n c, .slice a2 m c2] 25) := ⟨_, rfl⟩
  rw [← gX]
  have HX : Hid (Below w.heap.size w X) := hid (by rw [gX]; exact below_box _ _)
  have HXs : Hid (w.heap.size < X.heap.size) := hid (by rw [gX]; simp)
  have x0 : X.cell? ⟨w.heap.size, 0, none⟩ = some (.slice a n c) := by rw [gX]; simp
  have x1 : X.cell? ⟨w.heap.size, 1, none⟩ = some (.slice a2 m c2) := by rw [gX]; simp
  clear gX
  go_region_held3 (fun wx => wx.cell? ⟨w.heap.size, 0, none⟩ = some (.slice a n c) ∧ wx.cell? ⟨w.heap.size, 1, none⟩ = some (.slice a2 m c2)) (go_keep) (first
    | (go_at_call 8; refine (kp.out _ (below_hp HX.out (by rfl) (by rfl) (by rfl) (by rfl))).mono ?_; rintro e w1 ⟨rfl, hb1⟩; have y0 : w1.cell? ⟨w.heap.size, 0, none⟩ = some (.slice a n c) := (hb1.cell (p := ⟨w.heap.size, 0, none⟩) HXs.out).trans x0; have y1 : w1.cell? ⟨w.heap.size, 1, none⟩ = some (.slice a2 m c2) := (hb1.cell (p := ⟨w.heap.size, 1, none⟩) HXs.out).trans x1; have HB1 := hid ((below_hp HX.out (by rfl) (by rfl) (by rfl) (by rfl)).trans (hb1.mono HX.out.size)); have HS1 : Hid (w.heap.size < w1.heap.size) := hid (Nat.lt_of_lt_of_le HXs.out hb1.size); clear hb1)
    | (go_at_call 9; refine (kr.out _ (below_hp HB1.out (by rfl) (by rfl) (by rfl) (by rfl))).mono ?_; rintro e w2 ⟨rfl, hb2⟩; have z0 : w2.cell? ⟨w.heap.size, 0, none⟩ = some (.slice a n c) := (hb2.cell (p := ⟨w.heap.size, 0, none⟩) HS1.out).trans y0; have z1 : w2.cell? ⟨w.heap.size, 1, none⟩ = some (.slice a2 m c2) := (hb2.cell (p := ⟨w.heap.size, 1, none⟩) HS1.out).trans y1; have HB2 := hid ((below_hp HB1.out (by rfl) (by rfl) (by rfl) (by rfl)).trans (hb2.mono HB1.out.size)); clear hb2))
  go_wp2_with fail
  go_ret
  exact ⟨ret_bool (by cases B <;> rfl), HB2.out⟩

end Go.Proofs.Ytoohihlpjodhaaa
