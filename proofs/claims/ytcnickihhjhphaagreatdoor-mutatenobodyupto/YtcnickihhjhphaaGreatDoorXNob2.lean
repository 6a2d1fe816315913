/- What the mutators answer of draws, and choices, that no call made. Written by gen_xnob.py. -/
import Derived.Test.YtcnickihhjhphaaGreatDoorXNob
import Derived.Test.YtcnickihhjhphaaGreatDoorWTaken
namespace Go.Proofs.YtcnickihhjhphaaGreatDoor
open Go.RowKit
set_option linter.unusedVariables false
set_option maxRecDepth 20000

set_option maxHeartbeats 1000000 in
theorem insert_dnob (w : World) (a : Option Addr) (m c : Nat) (a2 : Option Addr) (m2 c2 : Nat) (k d : Value) (n : Int) (h : Nob w d) :
    Calls Tryz.prog 5 #[.agg #[.slice a m c, .slice a2 m2 c2], k, .slice none 0 0, d, .int .i64 n] w fun e w' => e = .returned (.tuple #[.slice none 0 0, .int .i64 2]) ∧ Below w.heap.size w w' := by
  obtain ⟨X, gX⟩ : ∃ X, w.alloc (.cells #[.slice a m c, .slice a2 m2 c2] 25) = X := ⟨_, rfl⟩
  have hB : Below w.heap.size w X := by rw [← gX]; exact below_box w _
  have GX := hid gX
  have k1 := hid (unfit_dnob X a m c a2 m2 c2 k d (h.below hB))
  have HB := hid hB
  clear h hB gX
  go_enter Tryz.func5, Tryz.ntmps5
  go_wp2_with fail
  rw [GX.out]
  refine k1.out.mono ?_
  rintro e w1 ⟨rfl, hb⟩
  have HB1 := hid (HB.out.trans (hb.mono HB.out.size))
  clear k1 hb
  go_wp2_with fail
  go_ret2
  exact ⟨rfl, HB1.out⟩

set_option maxHeartbeats 1000000 in
theorem insert_cnob (w : World) (a : Option Addr) (m c : Nat) (a2 : Option Addr) (m2 c2 : Nat) (k : Value) (p : Nat) (n : Int) (h : Nob w k) (hl : p < w.heap.size) (hp : w.cell? ⟨p, 0, none⟩ = some (.bool true)) :
    Calls Tryz.prog 5 #[.agg #[.slice a m c, .slice a2 m2 c2], k, .slice none 0 0, .pointer (some ⟨p, 0, none⟩), .int .i64 n] w fun e w' => e = .returned (.tuple #[.slice none 0 0, .int .i64 2]) ∧ Below w.heap.size w w' := by
  obtain ⟨X, gX⟩ : ∃ X, w.alloc (.cells #[.slice a m c, .slice a2 m2 c2] 25) = X := ⟨_, rfl⟩
  have hB : Below w.heap.size w X := by rw [← gX]; exact below_box w _
  have GX := hid gX
  have k1 := hid (unfit_cnob X a m c a2 m2 c2 k p (h.below hB) (Nat.lt_of_lt_of_le hl hB.size) ((hB.cell (p := ⟨p, 0, none⟩) hl).trans hp))
  have HB := hid hB
  clear h hB gX hp
  go_enter Tryz.func5, Tryz.ntmps5
  go_wp2_with fail
  rw [GX.out]
  refine k1.out.mono ?_
  rintro e w1 ⟨rfl, hb⟩
  have HB1 := hid (HB.out.trans (hb.mono HB.out.size))
  clear k1 hb
  go_wp2_with fail
  go_ret2
  exact ⟨rfl, HB1.out⟩

set_option maxHeartbeats 1000000 in
theorem mutate_dnob (w : World) (a : Option Addr) (m c : Nat) (a2 : Option Addr) (m2 c2 : Nat) (k d : Value) (n : Int) (h : Nob w d) :
    Calls Tryz.prog 9 #[.agg #[.slice a m c, .slice a2 m2 c2], k, .slice none 0 0, .slice none 0 0, d, .int .i64 n] w fun e w' => e = .returned (.tuple #[.slice none 0 0, .int .i64 2]) ∧ Below w.heap.size w w' := by
  obtain ⟨X, gX⟩ : ∃ X, w.alloc (.cells #[.slice a m c, .slice a2 m2 c2] 25) = X := ⟨_, rfl⟩
  have hB : Below w.heap.size w X := by rw [← gX]; exact below_box w _
  have GX := hid gX
  have k1 := hid (unfit_dnob X a m c a2 m2 c2 k d (h.below hB))
  have HB := hid hB
  clear h hB gX
  go_enter Tryz.func9, Tryz.ntmps9
  go_wp2_with fail
  rw [GX.out]
  refine k1.out.mono ?_
  rintro e w1 ⟨rfl, hb⟩
  have HB1 := hid (HB.out.trans (hb.mono HB.out.size))
  clear k1 hb
  go_wp2_with fail
  go_ret2
  exact ⟨rfl, HB1.out⟩

set_option maxHeartbeats 1000000 in
theorem mutate_cnob (w : World) (a : Option Addr) (m c : Nat) (a2 : Option Addr) (m2 c2 : Nat) (k : Value) (p : Nat) (n : Int) (h : Nob w k) (hl : p < w.heap.size) (hp : w.cell? ⟨p, 0, none⟩ = some (.bool true)) :
    Calls Tryz.prog 9 #[.agg #[.slice a m c, .slice a2 m2 c2], k, .slice none 0 0, .slice none 0 0, .pointer (some ⟨p, 0, none⟩), .int .i64 n] w fun e w' => e = .returned (.tuple #[.slice none 0 0, .int .i64 2]) ∧ Below w.heap.size w w' := by
  obtain ⟨X, gX⟩ : ∃ X, w.alloc (.cells #[.slice a m c, .slice a2 m2 c2] 25) = X := ⟨_, rfl⟩
  have hB : Below w.heap.size w X := by rw [← gX]; exact below_box w _
  have GX := hid gX
  have k1 := hid (unfit_cnob X a m c a2 m2 c2 k p (h.below hB) (Nat.lt_of_lt_of_le hl hB.size) ((hB.cell (p := ⟨p, 0, none⟩) hl).trans hp))
  have HB := hid hB
  clear h hB gX hp
  go_enter Tryz.func9, Tryz.ntmps9
  go_wp2_with fail
  rw [GX.out]
  refine k1.out.mono ?_
  rintro e w1 ⟨rfl, hb⟩
  have HB1 := hid (HB.out.trans (hb.mono HB.out.size))
  clear k1 hb
  go_wp2_with fail
  go_ret2
  exact ⟨rfl, HB1.out⟩

set_option maxHeartbeats 4000000 in
theorem remove_nob (w : World) (a : Option Addr) (m c : Nat) (a2 : Option Addr) (m2 c2 : Nat) (dp : Option Addr) (h : Nob w (.pointer dp)) :
    Calls Tryz.prog 6 #[.agg #[.slice a m c, .slice a2 m2 c2], .slice none 0 0, .pointer dp] w fun e w' => e = .returned (.tuple #[.slice none 0 0, .int .i64 2]) ∧ Below w.heap.size w w' := by
  obtain ⟨X, gX⟩ : ∃ X, w.alloc (.cells #[.slice a m c, .slice a2 m2 c2] 25) = X := ⟨_, rfl⟩
  have hB : Below w.heap.size w X := by rw [← gX]; exact below_box w _
  have x0 : X.heap[w.heap.size]? = some (.cells #[.slice a m c, .slice a2 m2 c2] 25 (0, 0)) := by rw [← gX]; exact heap_alloc_new _ _
  have y0 : X.cell? ⟨w.heap.size, 0, none⟩ = some (.slice a m c) := cell_of_row _ _ 0 _ _ _ x0
  have y1 : X.cell? ⟨w.heap.size, 1, none⟩ = some (.slice a2 m2 c2) := cell_of_row _ _ 1 _ _ _ x0
  have hlt : w.heap.size < X.heap.size := by rw [← gX]; simp
  have GX := hid gX
  have HN := hid (h.below hB)
  have HB := hid hB
  clear h hB gX x0
  go_enter Tryz.func6, Tryz.ntmps6
  go_wp2_with fail
  rw [GX.out]
  go_region_held3 (fun wx => wx.cell? ⟨w.heap.size, 0, none⟩ = some (.slice a m c) ∧ wx.cell? ⟨w.heap.size, 1, none⟩ = some (.slice a2 m2 c2)) (go_keep) (first
        | (go_at_call 16; refine (always_any 1 _).mono ?_; rintro e w3 ⟨⟨f, rfl⟩, hb3⟩; have hb3' : Below X.heap.size X w3 := (below_hp (Below.refl _ X) (by rfl) (by rfl) (by rfl) (by rfl)).trans hb3; have HB3 := hid hb3'; have y6 : w3.cell? ⟨w.heap.size, 0, none⟩ = some (.slice a m c) := (HB3.out.cell (p := ⟨w.heap.size, 0, none⟩) hlt).trans y0; have y7 : w3.cell? ⟨w.heap.size, 1, none⟩ = some (.slice a2 m2 c2) := (HB3.out.cell (p := ⟨w.heap.size, 1, none⟩) hlt).trans y1; clear hb3 hb3')
        | (go_at_call 14; refine (mutated_nob _ (.pointer dp) (.slice a m c) (.slice a2 m2 c2) (.pointer none) (.slice none 0 0) (.slice none 0 0) (.int .i64 0) f (HN.out.below (below_hp HB3.out (by rfl) (by rfl) (by rfl) (by rfl))) (by simp [Value.oneCell'])).mono ?_; rintro e w4 ⟨rfl, hb4⟩; have hb4' : Below X.heap.size X w4 := (below_hp HB3.out (by rfl) (by rfl) (by rfl) (by rfl)).trans (hb4.mono HB3.out.size); have HB4 := hid hb4'; have y8 : w4.cell? ⟨w.heap.size, 0, none⟩ = some (.slice a m c) := (HB4.out.cell (p := ⟨w.heap.size, 0, none⟩) hlt).trans y0; have y9 : w4.cell? ⟨w.heap.size, 1, none⟩ = some (.slice a2 m2 c2) := (HB4.out.cell (p := ⟨w.heap.size, 1, none⟩) hlt).trans y1; clear hb4 hb4'))
  have HE := hid (HB.out.trans (HB4.out.mono HB.out.size))
  go_wp2_with fail
  go_ret2
  exact ⟨rfl, HE.out⟩

set_option maxHeartbeats 4000000 in
theorem change_nob (w : World) (a : Option Addr) (m c : Nat) (a2 : Option Addr) (m2 c2 : Nat) (dp : Option Addr) (h : Nob w (.pointer dp)) :
    Calls Tryz.prog 7 #[.agg #[.slice a m c, .slice a2 m2 c2], .slice none 0 0, .pointer dp] w fun e w' => e = .returned (.tuple #[.slice none 0 0, .int .i64 2]) ∧ Below w.heap.size w w' := by
  obtain ⟨X, gX⟩ : ∃ X, w.alloc (.cells #[.slice a m c, .slice a2 m2 c2] 25) = X := ⟨_, rfl⟩
  have hB : Below w.heap.size w X := by rw [← gX]; exact below_box w _
  have x0 : X.heap[w.heap.size]? = some (.cells #[.slice a m c, .slice a2 m2 c2] 25 (0, 0)) := by rw [← gX]; exact heap_alloc_new _ _
  have y0 : X.cell? ⟨w.heap.size, 0, none⟩ = some (.slice a m c) := cell_of_row _ _ 0 _ _ _ x0
  have y1 : X.cell? ⟨w.heap.size, 1, none⟩ = some (.slice a2 m2 c2) := cell_of_row _ _ 1 _ _ _ x0
  have hlt : w.heap.size < X.heap.size := by rw [← gX]; simp
  have GX := hid gX
  have HN := hid (h.below hB)
  have HB := hid hB
  clear h hB gX x0
  go_enter Tryz.func7, Tryz.ntmps7
  go_wp2_with fail
  rw [GX.out]
  go_region_held3 (fun wx => wx.cell? ⟨w.heap.size, 0, none⟩ = some (.slice a m c) ∧ wx.cell? ⟨w.heap.size, 1, none⟩ = some (.slice a2 m2 c2)) (go_keep) (first
        | (go_at_call 16; refine (always_any 2 _).mono ?_; rintro e w3 ⟨⟨f, rfl⟩, hb3⟩; have hb3' : Below X.heap.size X w3 := (below_hp (Below.refl _ X) (by rfl) (by rfl) (by rfl) (by rfl)).trans hb3; have HB3 := hid hb3'; have y6 : w3.cell? ⟨w.heap.size, 0, none⟩ = some (.slice a m c) := (HB3.out.cell (p := ⟨w.heap.size, 0, none⟩) hlt).trans y0; have y7 : w3.cell? ⟨w.heap.size, 1, none⟩ = some (.slice a2 m2 c2) := (HB3.out.cell (p := ⟨w.heap.size, 1, none⟩) hlt).trans y1; clear hb3 hb3')
        | (go_at_call 14; refine (mutated_nob _ (.pointer dp) (.slice a m c) (.slice a2 m2 c2) (.pointer none) (.slice none 0 0) (.slice none 0 0) (.int .i64 0) f (HN.out.below (below_hp HB3.out (by rfl) (by rfl) (by rfl) (by rfl))) (by simp [Value.oneCell'])).mono ?_; rintro e w4 ⟨rfl, hb4⟩; have hb4' : Below X.heap.size X w4 := (below_hp HB3.out (by rfl) (by rfl) (by rfl) (by rfl)).trans (hb4.mono HB3.out.size); have HB4 := hid hb4'; have y8 : w4.cell? ⟨w.heap.size, 0, none⟩ = some (.slice a m c) := (HB4.out.cell (p := ⟨w.heap.size, 0, none⟩) hlt).trans y0; have y9 : w4.cell? ⟨w.heap.size, 1, none⟩ = some (.slice a2 m2 c2) := (HB4.out.cell (p := ⟨w.heap.size, 1, none⟩) hlt).trans y1; clear hb4 hb4'))
  have HE := hid (HB.out.trans (HB4.out.mono HB.out.size))
  go_wp2_with fail
  go_ret2
  exact ⟨rfl, HE.out⟩

set_option maxHeartbeats 4000000 in
theorem splice_nob (w : World) (a : Option Addr) (m c : Nat) (a2 : Option Addr) (m2 c2 : Nat) (dp : Option Addr) (n : Int) (h : Nob w (.pointer dp)) :
    Calls Tryz.prog 8 #[.agg #[.slice a m c, .slice a2 m2 c2], .slice none 0 0, .slice none 0 0, .pointer dp, .int .i64 n] w fun e w' => e = .returned (.tuple #[.slice none 0 0, .int .i64 2]) ∧ Below w.heap.size w w' := by
  obtain ⟨X, gX⟩ : ∃ X, w.alloc (.cells #[.slice a m c, .slice a2 m2 c2] 25) = X := ⟨_, rfl⟩
  have hB : Below w.heap.size w X := by rw [← gX]; exact below_box w _
  have x0 : X.heap[w.heap.size]? = some (.cells #[.slice a m c, .slice a2 m2 c2] 25 (0, 0)) := by rw [← gX]; exact heap_alloc_new _ _
  have y0 : X.cell? ⟨w.heap.size, 0, none⟩ = some (.slice a m c) := cell_of_row _ _ 0 _ _ _ x0
  have y1 : X.cell? ⟨w.heap.size, 1, none⟩ = some (.slice a2 m2 c2) := cell_of_row _ _ 1 _ _ _ x0
  have hlt : w.heap.size < X.heap.size := by rw [← gX]; simp
  have GX := hid gX
  have HN := hid (h.below hB)
  have HB := hid hB
  clear h hB gX x0
  go_enter Tryz.func8, Tryz.ntmps8
  go_wp2_with fail
  rw [GX.out]
  go_region_held3 (fun wx => wx.cell? ⟨w.heap.size, 0, none⟩ = some (.slice a m c) ∧ wx.cell? ⟨w.heap.size, 1, none⟩ = some (.slice a2 m2 c2)) (go_keep) (first
        | (go_at_call 15; refine (bound_any n _).mono ?_; rintro e wb ⟨⟨bb, rfl⟩, rfl⟩)
        | (go_at_call 16; refine (always_any 3 _).mono ?_; rintro e w3 ⟨⟨f, rfl⟩, hb3⟩; have hb3' : Below X.heap.size X w3 := (below_hp (Below.refl _ X) (by rfl) (by rfl) (by rfl) (by rfl)).trans hb3; have HB3 := hid hb3'; have y6 : w3.cell? ⟨w.heap.size, 0, none⟩ = some (.slice a m c) := (HB3.out.cell (p := ⟨w.heap.size, 0, none⟩) hlt).trans y0; have y7 : w3.cell? ⟨w.heap.size, 1, none⟩ = some (.slice a2 m2 c2) := (HB3.out.cell (p := ⟨w.heap.size, 1, none⟩) hlt).trans y1; clear hb3 hb3')
        | (go_at_call 14; refine (mutated_nob _ (.pointer dp) (.slice a m c) (.slice a2 m2 c2) (.pointer none) (.slice none 0 0) (.slice none 0 0) (.int .i64 bb) f (HN.out.below (below_hp HB3.out (by rfl) (by rfl) (by rfl) (by rfl))) (by simp [Value.oneCell'])).mono ?_; rintro e w4 ⟨rfl, hb4⟩; have hb4' : Below X.heap.size X w4 := (below_hp HB3.out (by rfl) (by rfl) (by rfl) (by rfl)).trans (hb4.mono HB3.out.size); have HB4 := hid hb4'; have y8 : w4.cell? ⟨w.heap.size, 0, none⟩ = some (.slice a m c) := (HB4.out.cell (p := ⟨w.heap.size, 0, none⟩) hlt).trans y0; have y9 : w4.cell? ⟨w.heap.size, 1, none⟩ = some (.slice a2 m2 c2) := (HB4.out.cell (p := ⟨w.heap.size, 1, none⟩) hlt).trans y1; clear hb4 hb4'))
  have HE := hid (HB.out.trans (HB4.out.mono HB.out.size))
  go_wp2_with fail
  go_ret2
  exact ⟨rfl, HE.out⟩

end Go.Proofs.YtcnickihhjhphaaGreatDoor
