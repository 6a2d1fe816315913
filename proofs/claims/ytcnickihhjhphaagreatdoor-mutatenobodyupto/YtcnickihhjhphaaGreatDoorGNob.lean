/- What gen's calls answer of draws, and choices, that no call made. -/
import Derived.Test.YtcnickihhjhphaaGreatDoorWMade
import Derived.Test.YtcnickihhjhphaaGreatDoorWTab
namespace Go.Proofs.YtcnickihhjhphaaGreatDoor
open Go.RowKit
set_option linter.unusedVariables false
set_option maxRecDepth 20000

theorem cell_result2 {P : Program} {fn : Func} {t s : Tmp} {ty : TypeId} (h : fn.results = #[.cell t ty, .tmp s]) (tmps : Array Value) (w : World) (b o : Nat) (ht : tmps.getD t undef = .pointer (some ⟨b, o, none⟩)) (v : Value) (hs : tmps.getD s undef = v) (cs : List Value) (d : TypeDesc) (hc : w.rangeAt b o cs)
    (hu : P.underlying ty = some d) (hd : d.isRow = true) (hi : (P.info? ty).map (·.size) = some cs.length) :
    (results fn tmps).run P w = .ok (.tuple #[.agg cs.toArray, v]) w := by
  have hl := run_loadVar_mid (P := P) w b o ty cs d hc hu hd hi
  rw [Array.getD_eq_getD_getElem?] at ht hs
  simp [results, h, ht, hs, asAddr, hl]

theorem csizeAr : (Tryz.prog.info? 114).map (·.size) = some 4 := by kernel_rfl
theorem csizeSt : (Tryz.prog.info? 69).map (·.size) = some 2 := by kernel_rfl

set_option maxHeartbeats 1000000 in
theorem garg_nob (w : World) (a : Option Addr) (m c : Nat) (a2 : Option Addr) (m2 c2 : Nat) (n : Int) (d : Value) (h : Nob w d) :
    Calls Tryz.prog 55 #[.agg #[.slice a m c, .slice a2 m2 c2], .int .i64 n, .slice none 0 0, d] w fun e w' => e = .returned (.tuple #[.agg #[.int .i64 0, .int .i64 0, .slice none 0 0, .slice none 0 0], .int .i64 2]) ∧ Below w.heap.size w w' := by
  obtain ⟨X, gX⟩ : ∃ X, (w.alloc (.cells #[.slice a m c, .slice a2 m2 c2] 25)).alloc (.cells #[.int .i64 0, .int .i64 0, .slice none 0 0, .slice none 0 0] 114) = X := ⟨_, rfl⟩
  have hB : Below w.heap.size w X := by rw [← gX]; exact below_box2 w _ _
  have x1 : X.heap[w.heap.size + 1]? = some (.cells ([.int .i64 0, .int .i64 0, .slice none 0 0, .slice none 0 0] : List Value).toArray 114 (0, 0)) := by
    have := heap_alloc_new (w.alloc (.cells #[.slice a m c, .slice a2 m2 c2] 25)) (.cells #[.int .i64 0, .int .i64 0, .slice none 0 0, .slice none 0 0] 114)
    rw [← gX]; simpa using this
  have GX := hid gX
  have k := hid (made_nob X d (h.below hB))
  have HTH : Hid (X.there (w.heap.size + 1) 0 4) := hid (there_of_block x1 0 4 (by decide))
  have HR2 := hid (rangeAt_block (store_new x1 (D := [.int .i64 0, .int .i64 0, .slice none 0 0, .slice none 0 0]) rfl))
  have HB2 := hid (hB.trans ((upd_setCells (w.heap.size + 1) [.int .i64 0, .int .i64 0, .slice none 0 0, .slice none 0 0] 0 X).below hB.size (fun x hx => by omega)))
  clear h hB gX x1
  go_enter Tryz.func55, Tryz.ntmps55
  go_wp2_with fail
  rw [GX.out]
  refine k.out.mono ?_
  rintro e w1 ⟨rfl, rfl⟩
  clear k
  go_wp2_with (refine wpList_store_as rfl 114 (.tmp 8) (.tmp 14) rfl (w.heap.size + 1) 0 #[.int .i64 0, .int .i64 0, .slice none 0 0, .slice none 0 0] rfl rfl HTH.out csizeAr (by simp [Value.oneCell']) _ rfl ?_)
  refine bodyPost_ret (cell_result2 rfl _ _ (w.heap.size + 1) 0 rfl _ rfl [.int .i64 0, .int .i64 0, .slice none 0 0, .slice none 0 0] _ HR2.out Tryz.underlying114 rfl csizeAr) rfl ?_
  exact ⟨rfl, HB2.out⟩

set_option maxHeartbeats 1000000 in
theorem gstep_nob (w : World) (a : Option Addr) (m c : Nat) (a2 : Option Addr) (m2 c2 : Nat) (n : Int) (d : Value) (h : Nob w d) :
    Calls Tryz.prog 52 #[.agg #[.slice a m c, .slice a2 m2 c2], .int .i64 n, .slice none 0 0, d] w fun e w' => e = .returned (.tuple #[.agg #[.int .i64 0, .slice none 0 0], .int .i64 2]) ∧ Below w.heap.size w w' := by
  obtain ⟨X, gX⟩ : ∃ X, (w.alloc (.cells #[.slice a m c, .slice a2 m2 c2] 25)).alloc (.cells #[.int .i64 0, .slice none 0 0] 69) = X := ⟨_, rfl⟩
  have hB : Below w.heap.size w X := by rw [← gX]; exact below_box2 w _ _
  have x1 : X.heap[w.heap.size + 1]? = some (.cells ([.int .i64 0, .slice none 0 0] : List Value).toArray 69 (0, 0)) := by
    have := heap_alloc_new (w.alloc (.cells #[.slice a m c, .slice a2 m2 c2] 25)) (.cells #[.int .i64 0, .slice none 0 0] 69)
    rw [← gX]; simpa using this
  have GX := hid gX
  have k := hid (made_nob X d (h.below hB))
  have HTH : Hid (X.there (w.heap.size + 1) 0 2) := hid (there_of_block x1 0 2 (by decide))
  have HR2 := hid (rangeAt_block (store_new x1 (D := [.int .i64 0, .slice none 0 0]) rfl))
  have HB2 := hid (hB.trans ((upd_setCells (w.heap.size + 1) [.int .i64 0, .slice none 0 0] 0 X).below hB.size (fun x hx => by omega)))
  clear h hB gX x1
  go_enter Tryz.func52, Tryz.ntmps52
  go_wp2_with fail
  rw [GX.out]
  refine k.out.mono ?_
  rintro e w1 ⟨rfl, rfl⟩
  clear k
  go_wp2_with (refine wpList_store_as rfl 69 (.tmp 8) (.tmp 16) rfl (w.heap.size + 1) 0 #[.int .i64 0, .slice none 0 0] rfl rfl HTH.out csizeSt (by simp [Value.oneCell']) _ rfl ?_)
  refine bodyPost_ret (cell_result2 rfl _ _ (w.heap.size + 1) 0 rfl _ rfl [.int .i64 0, .slice none 0 0] _ HR2.out Tryz.underlying69 rfl csizeSt) rfl ?_
  exact ⟨rfl, HB2.out⟩

set_option maxHeartbeats 1000000 in
theorem gprog_dnob (w : World) (a : Option Addr) (m c : Nat) (a2 : Option Addr) (m2 c2 : Nat) (n : Int) (k d : Value) (h : Nob w d) :
    Calls Tryz.prog 21 #[.agg #[.slice a m c, .slice a2 m2 c2], k, d, .int .i64 n] w fun e w' => e = .returned (.tuple #[.slice none 0 0, .int .i64 2]) ∧ Below w.heap.size w w' := by
  obtain ⟨X, gX⟩ : ∃ X, w.alloc (.cells #[.slice a m c, .slice a2 m2 c2] 25) = X := ⟨_, rfl⟩
  have hB : Below w.heap.size w X := by rw [← gX]; exact below_box w _
  have GX := hid gX
  have k1 := hid (made_nob X d (h.below hB))
  have HB := hid hB
  clear h hB gX
  go_enter Tryz.func21, Tryz.ntmps21
  go_wp2_with fail
  rw [GX.out]
  refine k1.out.mono ?_
  rintro e w1 ⟨rfl, rfl⟩
  clear k1
  go_wp2_with fail
  go_ret2
  exact ⟨rfl, HB.out⟩

set_option maxHeartbeats 1000000 in
theorem gprog_cnob (w : World) (a : Option Addr) (m c : Nat) (a2 : Option Addr) (m2 c2 : Nat) (n : Int) (k : Value) (p : Nat) (h : Nob w k) (hl : p < w.heap.size) (hp : w.cell? ⟨p, 0, none⟩ = some (.bool true)) :
    Calls Tryz.prog 21 #[.agg #[.slice a m c, .slice a2 m2 c2], k, .pointer (some ⟨p, 0, none⟩), .int .i64 n] w fun e w' => e = .returned (.tuple #[.slice none 0 0, .int .i64 2]) ∧ Below w.heap.size w w' := by
  obtain ⟨X, gX⟩ : ∃ X, w.alloc (.cells #[.slice a m c, .slice a2 m2 c2] 25) = X := ⟨_, rfl⟩
  have hB : Below w.heap.size w X := by rw [← gX]; exact below_box w _
  have GX := hid gX
  have k1 := hid (made_of X p true ((hB.cell (p := ⟨p, 0, none⟩) hl).trans hp))
  have k2 := hid (cmade_nob X k (h.below hB))
  have HB := hid hB
  clear h hB gX hp
  go_enter Tryz.func21, Tryz.ntmps21
  go_wp2_with fail
  rw [GX.out]
  refine k1.out.mono ?_
  rintro e w1 ⟨rfl, rfl⟩
  clear k1
  go_wp2_with fail
  refine k2.out.mono ?_
  rintro e w1 ⟨rfl, rfl⟩
  clear k2
  go_wp2_with fail
  go_ret2
  exact ⟨rfl, HB.out⟩

end Go.Proofs.YtcnickihhjhphaaGreatDoor
