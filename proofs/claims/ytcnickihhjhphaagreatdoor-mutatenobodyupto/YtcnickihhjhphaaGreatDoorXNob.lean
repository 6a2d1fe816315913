/- What mutate's calls answer of draws, and choices, that no call made. -/
import Derived.Test.YtcnickihhjhphaaGreatDoorGNob
import Derived.Deep.RegionHeld3
namespace Go.Proofs.YtcnickihhjhphaaGreatDoor
open Go.RowKit
set_option linter.unusedVariables false
set_option maxRecDepth 20000

set_option maxHeartbeats 1000000 in
theorem unfit_dnob (w : World) (a : Option Addr) (m c : Nat) (a2 : Option Addr) (m2 c2 : Nat) (k d : Value) (h : Nob w d) :
    Calls Tryz.prog 13 #[.agg #[.slice a m c, .slice a2 m2 c2], k, d] w fun e w' => e = .returned (.int .i64 2) ∧ Below w.heap.size w w' := by
  obtain ⟨X, gX⟩ : ∃ X, w.alloc (.cells #[.slice a m c, .slice a2 m2 c2] 25) = X := ⟨_, rfl⟩
  have hB : Below w.heap.size w X := by rw [← gX]; exact below_box w _
  have GX := hid gX
  have k1 := hid (gprog_dnob X a m c a2 m2 c2 0 k d (h.below hB))
  have HB := hid hB
  clear h hB gX
  go_enter Tryz.func13, Tryz.ntmps13
  go_wp2_with fail
  rw [GX.out]
  refine k1.out.mono ?_
  rintro e w1 ⟨rfl, hb⟩
  have HB1 := hid (HB.out.trans (hb.mono HB.out.size))
  clear k1 hb
  go_wp2_with fail
  go_ret
  exact ⟨rfl, HB1.out⟩

set_option maxHeartbeats 1000000 in
theorem unfit_cnob (w : World) (a : Option Addr) (m c : Nat) (a2 : Option Addr) (m2 c2 : Nat) (k : Value) (p : Nat) (h : Nob w k) (hl : p < w.heap.size) (hp : w.cell? ⟨p, 0, none⟩ = some (.bool true)) :
    Calls Tryz.prog 13 #[.agg #[.slice a m c, .slice a2 m2 c2], k, .pointer (some ⟨p, 0, none⟩)] w fun e w' => e = .returned (.int .i64 2) ∧ Below w.heap.size w w' := by
  obtain ⟨X, gX⟩ : ∃ X, w.alloc (.cells #[.slice a m c, .slice a2 m2 c2] 25) = X := ⟨_, rfl⟩
  have hB : Below w.heap.size w X := by rw [← gX]; exact below_box w _
  have GX := hid gX
  have k1 := hid (gprog_cnob X a m c a2 m2 c2 0 k p (h.below hB) (Nat.lt_of_lt_of_le hl hB.size) ((hB.cell (p := ⟨p, 0, none⟩) hl).trans hp))
  have HB := hid hB
  clear h hB gX hp
  go_enter Tryz.func13, Tryz.ntmps13
  go_wp2_with fail
  rw [GX.out]
  refine k1.out.mono ?_
  rintro e w1 ⟨rfl, hb⟩
  have HB1 := hid (HB.out.trans (hb.mono HB.out.size))
  clear k1 hb
  go_wp2_with fail
  go_ret
  exact ⟨rfl, HB1.out⟩

theorem always_any (n : Int) (w : World) : Calls Tryz.prog 16 #[.int .i64 n] w fun e w' => (∃ f, e = .returned f) ∧ Below w.heap.size w w' := by
  have HB := hid (below_box w (.cells #[.int .i64 n] 3))
  go_enter Tryz.func16, Tryz.ntmps16
  go_wp2_with fail
  go_ret
  exact ⟨⟨_, rfl⟩, HB.out⟩

theorem bound_any (n : Int) (w : World) : Calls Tryz.prog 15 #[.int .i64 n] w fun e w' => (∃ b, e = .returned (.int .i64 b)) ∧ w' = w := by
  go_enter Tryz.func15, Tryz.ntmps15
  go_wp2_with fail
  all_goals
    go_ret
    exact ⟨⟨_, rfl⟩, rfl⟩

set_option maxHeartbeats 1000000 in
theorem wrong_nob (w : World) (d v1 v2 v3 v4 v5 v6 : Value) (h : Nob w d) :
    Calls Tryz.prog 22 #[.agg #[d, v1, v2, v3, v4, v5, v6]] w fun e w' => e = .returned (.int .i64 2) ∧ Below w.heap.size w w' := by
  obtain ⟨X, gX⟩ : ∃ X, w.alloc (.cells #[d, v1, v2, v3, v4, v5, v6] 61) = X := ⟨_, rfl⟩
  have hB : Below w.heap.size w X := by rw [← gX]; exact below_box w _
  have x0 : X.heap[w.heap.size]? = some (.cells #[d, v1, v2, v3, v4, v5, v6] 61 (0, 0)) := by rw [← gX]; exact heap_alloc_new _ _
  have c0 : X.cell? ⟨w.heap.size, 0, none⟩ = some d := cell_of_row _ _ 0 _ _ _ x0
  rw [← gX] at c0
  have GX := hid gX
  have k1 := hid (made_nob X d (h.below hB))
  have HB := hid hB
  clear h hB gX x0
  go_enter Tryz.func22, Tryz.ntmps22
  go_wp2_with fail
  rw [GX.out]
  refine k1.out.mono ?_
  rintro e w1 ⟨rfl, rfl⟩
  clear k1
  go_wp2_with fail
  go_ret
  exact ⟨rfl, HB.out⟩

theorem csizeJob : (Tryz.prog.info? 61).map (·.size) = some 7 := by kernel_rfl

set_option maxHeartbeats 1000000 in
theorem mutated_nob (w : World) (d v1 v2 v3 v4 v5 v6 f : Value) (h : Nob w d) (ho : (#[d, v1, v2, v3, v4, v5, v6] : Array Value).all (·.oneCell') = true) :
    Calls Tryz.prog 14 #[.agg #[d, v1, v2, v3, v4, v5, v6], f] w fun e w' => e = .returned (.tuple #[.slice none 0 0, .int .i64 2]) ∧ Below w.heap.size w w' := by
  obtain ⟨X, gX⟩ : ∃ X, w.alloc (.cells #[d, v1, v2, v3, v4, v5, v6] 61) = X := ⟨_, rfl⟩
  have hB : Below w.heap.size w X := by rw [← gX]; exact below_box w _
  have x0 : X.heap[w.heap.size]? = some (.cells ([d, v1, v2, v3, v4, v5, v6] : List Value).toArray 61 (0, 0)) := by rw [← gX]; exact heap_alloc_new _ _
  have HR := hid (rangeAt_block x0)
  have GX := hid gX
  have k1 := hid (wrong_nob X d v1 v2 v3 v4 v5 v6 (h.below hB))
  have HB := hid hB
  clear h hB x0 ho gX
  go_enter Tryz.func14, Tryz.ntmps14
  go_wp2_with (refine wpList_load_mid rfl 61 (.tmp 2) rfl w.heap.size 0 rfl [d, v1, v2, v3, v4, v5, v6] _ (by rw [GX.out]; exact HR.out) Tryz.underlying61 rfl csizeJob ?_)
  rw [GX.out]
  refine k1.out.mono ?_
  rintro e w1 ⟨rfl, hb⟩
  have HB1 := hid (HB.out.trans (hb.mono HB.out.size))
  clear k1 hb
  go_wp2_with fail
  go_ret2
  exact ⟨rfl, HB1.out⟩

end Go.Proofs.YtcnickihhjhphaaGreatDoor
