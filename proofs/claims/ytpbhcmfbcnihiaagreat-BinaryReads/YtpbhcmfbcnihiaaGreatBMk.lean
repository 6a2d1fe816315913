/- The functions that make codecs: what they answer, and what lies there then. Written by gen_bmk.py. -/
import Derived.Test.YtpbhcmfbcnihiaaGreatBCan1
import Derived.Laws.EntriesVeiled
import Derived.Test.YtpbhcmfbcnihiaaGreatGMid
namespace Go.Proofs.YtpbhcmfbcnihiaaGreat
open Go.RowKit Num
set_option linter.unusedVariables false
set_option maxRecDepth 20000

theorem heap1 (w : World) (o1 : Obj) : (w.alloc o1).heap[w.heap.size]? = some o1 := heap_alloc_new w o1
theorem heap2 (w : World) (o1 o2 : Obj) : ((w.alloc o1).alloc o2).heap[w.heap.size + 1]? = some o2 := by
  have := heap_alloc_new (w.alloc o1) o2
  simpa using this
theorem heap3 (w : World) (o1 o2 o3 : Obj) : (((w.alloc o1).alloc o2).alloc o3).heap[w.heap.size + 1 + 1]? = some o3 := by
  have := heap_alloc_new ((w.alloc o1).alloc o2) o3
  simpa using this
theorem heap3b (w : World) (o1 o2 o3 : Obj) : (((w.alloc o1).alloc o2).alloc o3).heap[w.heap.size + 1]? = some o2 := by
  rw [(below_box ((w.alloc o1).alloc o2) o3).block _ (by simp)]
  exact heap2 w o1 o2
theorem heap3a (w : World) (o1 o2 o3 : Obj) : (((w.alloc o1).alloc o2).alloc o3).heap[w.heap.size]? = some o1 := by
  rw [(below_box ((w.alloc o1).alloc o2) o3).block _ (by simp; omega), (below_box (w.alloc o1) o2).block _ (by simp)]
  exact heap_alloc_new w o1
theorem wpList_store_as {P : Program} {ops : Array Oper} {rest : List Oper} {op : Oper} {a : Act} {w : World} {Q : Exit → Act → World → Prop} (hgd : op.guard = none) (ty : TypeId) (x y : Operand) (ho : op.op = .store ty x y)
    (b o : Nat) (cells : Array Value) (hx : a.eval x = .pointer (some ⟨b, o, none⟩)) (hy : a.eval y = .agg cells)
    (ht : w.there b o cells.size) (hi : (P.info? ty).map (·.size) = some cells.size) (h1 : cells.all (·.oneCell') = true)
    (W : World) (hW : w.setCells b o cells.toList = W)
    (h : wpList P ops Q rest (a.put op.dst undef) W) : wpList P ops Q (op :: rest) a w :=
  wpList_store_mid hgd ty x y ho b o cells hx hy ht hi h1 (hW ▸ h)
/-- A codec is stored, and told. -/
theorem cdc_end {X Y : World} {p : Nat} {C : List Value} {t : TypeId} (f g : Value) (h : X.heap[p]? = some (.cells C.toArray t (0, 0))) (hC : C.length = 2) (hY : X.setCells p 0 [f, g] = Y) : Y.rangeAt p 0 [f, g] ∧ Upd (· = p) X Y := by
  subst hY
  exact ⟨World.rangeAt_setCells_same _ _ _ _ (there_of_block h 0 2 (by omega)), upd_setCells p _ 0 X⟩
theorem below_box2 (w : World) (o1 o2 : Obj) : Below w.heap.size w ((w.alloc o1).alloc o2) := (below_box w o1).trans ((below_box _ o2).mono (below_box w o1).size)
theorem below_box3 (w : World) (o1 o2 o3 : Obj) : Below w.heap.size w (((w.alloc o1).alloc o2).alloc o3) := (below_box2 w o1 o2).trans ((below_box _ o3).mono (below_box2 w o1 o2).size)
/-- A function value that is a closure. -/
abbrev fv (k : Nat) (c : Array Value) : Value := .func (.func k) #[] c
abbrev pt (q : Nat) : Value := .pointer (some ⟨q, 0, none⟩)

theorem csize41 : (Tryz.prog.info? 41).map (·.size) = some 2 := by kernel_rfl
theorem csize81 : (Tryz.prog.info? 81).map (·.size) = some 2 := by kernel_rfl
theorem csize114 : (Tryz.prog.info? 114).map (·.size) = some 2 := by kernel_rfl
theorem csize127 : (Tryz.prog.info? 127).map (·.size) = some 2 := by kernel_rfl
theorem csize96 : (Tryz.prog.info? 96).map (·.size) = some 2 := by kernel_rfl
theorem csize140 : (Tryz.prog.info? 140).map (·.size) = some 2 := by kernel_rfl
theorem csize109 : (Tryz.prog.info? 109).map (·.size) = some 2 := by kernel_rfl
theorem csize122 : (Tryz.prog.info? 122).map (·.size) = some 2 := by kernel_rfl

theorem number_mk (m : Int) (w : World) : Calls Tryz.prog 46 #[.int .i64 m] w fun e w' => ∃ q, e = .returned (.agg #[fv 65 #[pt q], fv 67 #[pt q]]) ∧ (w.heap.size ≤ q ∧ q < w'.heap.size) ∧ w'.cell? ⟨q, 0, none⟩ = some (.int .i64 m) ∧ Below w.heap.size w w' := by
  go_enter Tryz.func46, Tryz.ntmps46
  go_wp2_with fail
  refine bodyPost_ret (cell_result rfl _ _ (w.heap.size + 1) 0 rfl [fv 65 #[pt w.heap.size], fv 67 #[pt w.heap.size]] _ (rangeAt_block (t := 96) (heap2 w _ _)) Tryz.underlying96 rfl csize96) rfl ?_
  exact ⟨w.heap.size, rfl, ⟨Nat.le_refl _, by simp; omega⟩, by simp, below_box2 _ _ _⟩

theorem whole_mk (w : World) : Calls Tryz.prog 84 #[] w fun e w' => e = .returned (.agg #[fv 114 #[], fv 116 #[]]) ∧ Below w.heap.size w w' := by
  go_enter Tryz.func84, Tryz.ntmps84
  go_wp2_with fail
  refine bodyPost_ret (cell_result rfl _ _ w.heap.size 0 rfl [fv 114 #[], fv 116 #[]] _ (rangeAt_block (t := 96) (heap1 w _)) Tryz.underlying96 rfl csize96) rfl ?_
  exact ⟨rfl, below_box _ _⟩

theorem text_mk (m : Int) (w : World) : Calls Tryz.prog 79 #[.int .i64 m] w fun e w' => ∃ q, e = .returned (.agg #[fv 106 #[], fv 108 #[pt q]]) ∧ (w.heap.size ≤ q ∧ q < w'.heap.size) ∧ w'.cell? ⟨q, 0, none⟩ = some (.int .i64 m) ∧ Below w.heap.size w w' := by
  go_enter Tryz.func79, Tryz.ntmps79
  go_wp2_with fail
  refine bodyPost_ret (cell_result rfl _ _ (w.heap.size + 1) 0 rfl [fv 106 #[], fv 108 #[pt w.heap.size]] _ (rangeAt_block (t := 140) (heap2 w _ _)) Tryz.underlying140 rfl csize140) rfl ?_
  exact ⟨w.heap.size, rfl, ⟨Nat.le_refl _, by simp; omega⟩, by simp, below_box2 _ _ _⟩

theorem chosen_mk (k : Nat) (c : Array Value) (w : World) : Calls Tryz.prog 87 #[fv k c] w fun e w' => ∃ q, e = .returned (.agg #[fv 118 #[pt q], fv 119 #[pt q]]) ∧ (w.heap.size ≤ q ∧ q < w'.heap.size) ∧ w'.cell? ⟨q, 0, none⟩ = some (fv k c) ∧ Below w.heap.size w w' := by
  go_enter Tryz.func87, Tryz.ntmps87
  go_wp2_with fail
  refine bodyPost_ret (cell_result rfl _ _ (w.heap.size + 1) 0 rfl [fv 118 #[pt w.heap.size], fv 119 #[pt w.heap.size]] _ (rangeAt_block (t := 114) (heap2 w _ _)) Tryz.underlying114 rfl csize114) rfl ?_
  exact ⟨w.heap.size, rfl, ⟨Nat.le_refl _, by simp; omega⟩, by simp, below_box2 _ _ _⟩

theorem join_mk_x (a : Option Addr) (m c : Nat) (w : World) : Calls Tryz.prog 34 #[.slice a m c] w fun e w' => ∃ q, e = .returned (.agg #[fv 44 #[pt q], fv 45 #[pt q]]) ∧ (w.heap.size ≤ q ∧ q < w'.heap.size) ∧ w'.cell? ⟨q, 0, none⟩ = some (.slice a m c) ∧ Below w.heap.size w w' := by
  go_enter Tryz.func34, Tryz.ntmps34
  go_wp2_with fail
  refine bodyPost_ret (cell_result rfl _ _ (w.heap.size + 1) 0 rfl [fv 44 #[pt w.heap.size], fv 45 #[pt w.heap.size]] _ (rangeAt_block (t := 41) (heap2 w _ _)) Tryz.underlying41 rfl csize41) rfl ?_
  exact ⟨w.heap.size, rfl, ⟨Nat.le_refl _, by simp; omega⟩, by simp, below_box2 _ _ _⟩

theorem join_mk_e (a : Option Addr) (m c : Nat) (w : World) : Calls Tryz.prog 49 #[.slice a m c] w fun e w' => ∃ q, e = .returned (.agg #[fv 69 #[pt q], fv 70 #[pt q]]) ∧ (w.heap.size ≤ q ∧ q < w'.heap.size) ∧ w'.cell? ⟨q, 0, none⟩ = some (.slice a m c) ∧ Below w.heap.size w w' := by
  go_enter Tryz.func49, Tryz.ntmps49
  go_wp2_with fail
  refine bodyPost_ret (cell_result rfl _ _ (w.heap.size + 1) 0 rfl [fv 69 #[pt w.heap.size], fv 70 #[pt w.heap.size]] _ (rangeAt_block (t := 81) (heap2 w _ _)) Tryz.underlying81 rfl csize81) rfl ?_
  exact ⟨w.heap.size, rfl, ⟨Nat.le_refl _, by simp; omega⟩, by simp, below_box2 _ _ _⟩

theorem join_mk_c (a : Option Addr) (m c : Nat) (w : World) : Calls Tryz.prog 80 #[.slice a m c] w fun e w' => ∃ q, e = .returned (.agg #[fv 110 #[pt q], fv 111 #[pt q]]) ∧ (w.heap.size ≤ q ∧ q < w'.heap.size) ∧ w'.cell? ⟨q, 0, none⟩ = some (.slice a m c) ∧ Below w.heap.size w w' := by
  go_enter Tryz.func80, Tryz.ntmps80
  go_wp2_with fail
  refine bodyPost_ret (cell_result rfl _ _ (w.heap.size + 1) 0 rfl [fv 110 #[pt w.heap.size], fv 111 #[pt w.heap.size]] _ (rangeAt_block (t := 114) (heap2 w _ _)) Tryz.underlying114 rfl csize114) rfl ?_
  exact ⟨w.heap.size, rfl, ⟨Nat.le_refl _, by simp; omega⟩, by simp, below_box2 _ _ _⟩

theorem join_mk_w (a : Option Addr) (m c : Nat) (w : World) : Calls Tryz.prog 93 #[.slice a m c] w fun e w' => ∃ q, e = .returned (.agg #[fv 120 #[pt q], fv 121 #[pt q]]) ∧ (w.heap.size ≤ q ∧ q < w'.heap.size) ∧ w'.cell? ⟨q, 0, none⟩ = some (.slice a m c) ∧ Below w.heap.size w w' := by
  go_enter Tryz.func93, Tryz.ntmps93
  go_wp2_with fail
  refine bodyPost_ret (cell_result rfl _ _ (w.heap.size + 1) 0 rfl [fv 120 #[pt w.heap.size], fv 121 #[pt w.heap.size]] _ (rangeAt_block (t := 127) (heap2 w _ _)) Tryz.underlying127 rfl csize127) rfl ?_
  exact ⟨w.heap.size, rfl, ⟨Nat.le_refl _, by simp; omega⟩, by simp, below_box2 _ _ _⟩

theorem part_mk_en (k kw kr : Nat) (cw cr : Array Value) (w : World) : Calls Tryz.prog 50 #[fv k #[], .agg #[fv kw cw, fv kr cr]] w fun e w' => ∃ q p, e = .returned (.agg #[fv 71 #[pt q, pt p], fv 72 #[pt q, pt p]]) ∧ (w.heap.size ≤ q ∧ q < w'.heap.size) ∧ (w.heap.size ≤ p ∧ p < w'.heap.size) ∧ w'.cell? ⟨q, 0, none⟩ = some (fv kw cw) ∧ w'.cell? ⟨q, 1, none⟩ = some (fv kr cr) ∧ w'.cell? ⟨p, 0, none⟩ = some (fv k #[]) ∧ Below w.heap.size w w' := by
  go_enter Tryz.func50, Tryz.ntmps50
  go_wp2_with fail
  refine bodyPost_ret (cell_result rfl _ _ (w.heap.size + 1 + 1) 0 rfl [fv 71 #[pt (w.heap.size + 1), pt w.heap.size], fv 72 #[pt (w.heap.size + 1), pt w.heap.size]] _ (rangeAt_block (t := 81) (heap3 w _ _ _)) Tryz.underlying81 rfl csize81) rfl ?_
  exact ⟨w.heap.size + 1, w.heap.size, rfl, ⟨by omega, by simp⟩, ⟨Nat.le_refl _, by simp; omega⟩, cell_of_row _ _ 0 _ _ _ (heap3b w _ _ _), cell_of_row _ _ 1 _ _ _ (heap3b w _ _ _), cell_of_row _ _ 0 _ _ _ (heap3a w _ _ _), below_box3 _ _ _ _⟩

theorem part_mk_ec (k kw kr : Nat) (cw cr : Array Value) (w : World) : Calls Tryz.prog 52 #[fv k #[], .agg #[fv kw cw, fv kr cr]] w fun e w' => ∃ q p, e = .returned (.agg #[fv 73 #[pt q, pt p], fv 74 #[pt q, pt p]]) ∧ (w.heap.size ≤ q ∧ q < w'.heap.size) ∧ (w.heap.size ≤ p ∧ p < w'.heap.size) ∧ w'.cell? ⟨q, 0, none⟩ = some (fv kw cw) ∧ w'.cell? ⟨q, 1, none⟩ = some (fv kr cr) ∧ w'.cell? ⟨p, 0, none⟩ = some (fv k #[]) ∧ Below w.heap.size w w' := by
  go_enter Tryz.func52, Tryz.ntmps52
  go_wp2_with fail
  refine bodyPost_ret (cell_result rfl _ _ (w.heap.size + 1 + 1) 0 rfl [fv 73 #[pt (w.heap.size + 1), pt w.heap.size], fv 74 #[pt (w.heap.size + 1), pt w.heap.size]] _ (rangeAt_block (t := 81) (heap3 w _ _ _)) Tryz.underlying81 rfl csize81) rfl ?_
  exact ⟨w.heap.size + 1, w.heap.size, rfl, ⟨by omega, by simp⟩, ⟨Nat.le_refl _, by simp; omega⟩, cell_of_row _ _ 0 _ _ _ (heap3b w _ _ _), cell_of_row _ _ 1 _ _ _ (heap3b w _ _ _), cell_of_row _ _ 0 _ _ _ (heap3a w _ _ _), below_box3 _ _ _ _⟩

theorem part_mk_ew (k kw kr : Nat) (cw cr : Array Value) (w : World) : Calls Tryz.prog 56 #[fv k #[], .agg #[fv kw cw, fv kr cr]] w fun e w' => ∃ q p, e = .returned (.agg #[fv 89 #[pt q, pt p], fv 90 #[pt q, pt p]]) ∧ (w.heap.size ≤ q ∧ q < w'.heap.size) ∧ (w.heap.size ≤ p ∧ p < w'.heap.size) ∧ w'.cell? ⟨q, 0, none⟩ = some (fv kw cw) ∧ w'.cell? ⟨q, 1, none⟩ = some (fv kr cr) ∧ w'.cell? ⟨p, 0, none⟩ = some (fv k #[]) ∧ Below w.heap.size w w' := by
  go_enter Tryz.func56, Tryz.ntmps56
  go_wp2_with fail
  refine bodyPost_ret (cell_result rfl _ _ (w.heap.size + 1 + 1) 0 rfl [fv 89 #[pt (w.heap.size + 1), pt w.heap.size], fv 90 #[pt (w.heap.size + 1), pt w.heap.size]] _ (rangeAt_block (t := 81) (heap3 w _ _ _)) Tryz.underlying81 rfl csize81) rfl ?_
  exact ⟨w.heap.size + 1, w.heap.size, rfl, ⟨by omega, by simp⟩, ⟨Nat.le_refl _, by simp; omega⟩, cell_of_row _ _ 0 _ _ _ (heap3b w _ _ _), cell_of_row _ _ 1 _ _ _ (heap3b w _ _ _), cell_of_row _ _ 0 _ _ _ (heap3a w _ _ _), below_box3 _ _ _ _⟩

theorem part_mk_cb (k kw kr : Nat) (cw cr : Array Value) (w : World) : Calls Tryz.prog 77 #[fv k #[], .agg #[fv kw cw, fv kr cr]] w fun e w' => ∃ q p, e = .returned (.agg #[fv 104 #[pt q, pt p], fv 105 #[pt q, pt p]]) ∧ (w.heap.size ≤ q ∧ q < w'.heap.size) ∧ (w.heap.size ≤ p ∧ p < w'.heap.size) ∧ w'.cell? ⟨q, 0, none⟩ = some (fv kw cw) ∧ w'.cell? ⟨q, 1, none⟩ = some (fv kr cr) ∧ w'.cell? ⟨p, 0, none⟩ = some (fv k #[]) ∧ Below w.heap.size w w' := by
  go_enter Tryz.func77, Tryz.ntmps77
  go_wp2_with fail
  refine bodyPost_ret (cell_result rfl _ _ (w.heap.size + 1 + 1) 0 rfl [fv 104 #[pt (w.heap.size + 1), pt w.heap.size], fv 105 #[pt (w.heap.size + 1), pt w.heap.size]] _ (rangeAt_block (t := 114) (heap3 w _ _ _)) Tryz.underlying114 rfl csize114) rfl ?_
  exact ⟨w.heap.size + 1, w.heap.size, rfl, ⟨by omega, by simp⟩, ⟨Nat.le_refl _, by simp; omega⟩, cell_of_row _ _ 0 _ _ _ (heap3b w _ _ _), cell_of_row _ _ 1 _ _ _ (heap3b w _ _ _), cell_of_row _ _ 0 _ _ _ (heap3a w _ _ _), below_box3 _ _ _ _⟩

theorem part_mk_cn (k kw kr : Nat) (cw cr : Array Value) (w : World) : Calls Tryz.prog 81 #[fv k #[], .agg #[fv kw cw, fv kr cr]] w fun e w' => ∃ q p, e = .returned (.agg #[fv 112 #[pt q, pt p], fv 113 #[pt q, pt p]]) ∧ (w.heap.size ≤ q ∧ q < w'.heap.size) ∧ (w.heap.size ≤ p ∧ p < w'.heap.size) ∧ w'.cell? ⟨q, 0, none⟩ = some (fv kw cw) ∧ w'.cell? ⟨q, 1, none⟩ = some (fv kr cr) ∧ w'.cell? ⟨p, 0, none⟩ = some (fv k #[]) ∧ Below w.heap.size w w' := by
  go_enter Tryz.func81, Tryz.ntmps81
  go_wp2_with fail
  refine bodyPost_ret (cell_result rfl _ _ (w.heap.size + 1 + 1) 0 rfl [fv 112 #[pt (w.heap.size + 1), pt w.heap.size], fv 113 #[pt (w.heap.size + 1), pt w.heap.size]] _ (rangeAt_block (t := 114) (heap3 w _ _ _)) Tryz.underlying114 rfl csize114) rfl ?_
  exact ⟨w.heap.size + 1, w.heap.size, rfl, ⟨by omega, by simp⟩, ⟨Nat.le_refl _, by simp; omega⟩, cell_of_row _ _ 0 _ _ _ (heap3b w _ _ _), cell_of_row _ _ 1 _ _ _ (heap3b w _ _ _), cell_of_row _ _ 0 _ _ _ (heap3a w _ _ _), below_box3 _ _ _ _⟩

theorem part_mk_wn (k kw kr : Nat) (cw cr : Array Value) (w : World) : Calls Tryz.prog 94 #[fv k #[], .agg #[fv kw cw, fv kr cr]] w fun e w' => ∃ q p, e = .returned (.agg #[fv 122 #[pt q, pt p], fv 123 #[pt q, pt p]]) ∧ (w.heap.size ≤ q ∧ q < w'.heap.size) ∧ (w.heap.size ≤ p ∧ p < w'.heap.size) ∧ w'.cell? ⟨q, 0, none⟩ = some (fv kw cw) ∧ w'.cell? ⟨q, 1, none⟩ = some (fv kr cr) ∧ w'.cell? ⟨p, 0, none⟩ = some (fv k #[]) ∧ Below w.heap.size w w' := by
  go_enter Tryz.func94, Tryz.ntmps94
  go_wp2_with fail
  refine bodyPost_ret (cell_result rfl _ _ (w.heap.size + 1 + 1) 0 rfl [fv 122 #[pt (w.heap.size + 1), pt w.heap.size], fv 123 #[pt (w.heap.size + 1), pt w.heap.size]] _ (rangeAt_block (t := 127) (heap3 w _ _ _)) Tryz.underlying127 rfl csize127) rfl ?_
  exact ⟨w.heap.size + 1, w.heap.size, rfl, ⟨by omega, by simp⟩, ⟨Nat.le_refl _, by simp; omega⟩, cell_of_row _ _ 0 _ _ _ (heap3b w _ _ _), cell_of_row _ _ 1 _ _ _ (heap3b w _ _ _), cell_of_row _ _ 0 _ _ _ (heap3a w _ _ _), below_box3 _ _ _ _⟩

theorem list_mk_x (m : Int) (kw kr : Nat) (cw cr : Array Value) (w : World) : Calls Tryz.prog 35 #[.int .i64 m, .agg #[fv kw cw, fv kr cr]] w fun e w' => ∃ qc qm qi q, e = .returned (.agg #[fv 47 #[pt qc, pt qi], fv 48 #[pt qc, pt qm, pt qi]]) ∧ ((w.heap.size ≤ qc ∧ qc < w'.heap.size) ∧ (w.heap.size ≤ qm ∧ qm < w'.heap.size) ∧ (w.heap.size ≤ qi ∧ qi < w'.heap.size) ∧ w.heap.size ≤ q ∧ q < w'.heap.size) ∧ w'.cell? ⟨qc, 0, none⟩ = some (fv 65 #[pt q]) ∧ w'.cell? ⟨qc, 1, none⟩ = some (fv 67 #[pt q]) ∧ w'.cell? ⟨q, 0, none⟩ = some (.int .i64 0) ∧ w'.cell? ⟨qm, 0, none⟩ = some (.int .i64 m) ∧ w'.cell? ⟨qi, 0, none⟩ = some (fv kw cw) ∧ w'.cell? ⟨qi, 1, none⟩ = some (fv kr cr) ∧ Below w.heap.size w w' := by
  have k1 := hid (number_mk 0)
  go_enter Tryz.func35, Tryz.ntmps35
  go_wp2_with fail
  refine (k1.out _).mono ?_
  rintro e w1 ⟨q, rfl, ⟨hq0, hq⟩, hc, hb⟩
  have hs := hb.size
  simp at hs hq0
  have b3 := below_box3 w (.cells #[.int .i64 m] 3) (.cells #[fv kw cw, fv kr cr] 81) (.cells #[.nilFunc, .nilFunc] 41)
  have hb0 : Below w.heap.size w w1 := b3.trans (hb.mono b3.size)
  have y0 := (hb.block w.heap.size (by simp; omega)).trans (heap3a w _ _ _)
  have y1 := (hb.block (w.heap.size + 1) (by simp)).trans (heap3b w _ _ _)
  have hbk := (hb.block (w.heap.size + 1 + 1) (by simp)).trans (heap3 w _ _ _)
  have c0 : w1.cell? ⟨w.heap.size, 0, none⟩ = some (.int .i64 m) := cell_of_row w1 _ 0 _ _ _ y0
  have c1 : w1.cell? ⟨w.heap.size + 1, 0, none⟩ = some (fv kw cw) := cell_of_row w1 _ 0 _ _ _ y1
  have c2 : w1.cell? ⟨w.heap.size + 1, 1, none⟩ = some (fv kr cr) := cell_of_row w1 _ 1 _ _ _ y1
  have c3 : w1.cell? ⟨w.heap.size + 1 + 1, 0, none⟩ = some .nilFunc := cell_of_row w1 _ 0 _ _ _ hbk
  have hqn : q ≠ w.heap.size + 1 + 1 := fun e => by rw [e, c3] at hc; cases hc
  obtain ⟨X, gX⟩ : ∃ X, X = w1.alloc (.cells #[fv 65 #[pt q], fv 67 #[pt q]] 96) := ⟨_, rfl⟩
  have hX : Below w1.heap.size w1 X := by rw [gX]; exact below_box _ _
  have x0 : X.cell? ⟨w1.heap.size, 0, none⟩ = some (fv 65 #[pt q]) := by rw [gX]; simp
  have x1 : X.cell? ⟨w1.heap.size, 1, none⟩ = some (fv 67 #[pt q]) := by rw [gX]; simp
  have hXs : w1.heap.size < X.heap.size := by rw [gX]; simp
  have hbX : X.heap[w.heap.size + 1 + 1]? = some (.cells [.nilFunc, .nilFunc].toArray 41 (0, 0)) := (hX.block _ (by omega)).trans hbk
  obtain ⟨Y, gY⟩ : ∃ Y, X.setCells (w.heap.size + 1 + 1) 0 [fv 47 #[pt w1.heap.size, pt (w.heap.size + 1)], fv 48 #[pt w1.heap.size, pt w.heap.size, pt (w.heap.size + 1)]] = Y := ⟨_, rfl⟩
  obtain ⟨hY, uY⟩ := cdc_end _ _ hbX rfl gY
  have HT := hid (there_of_block hbX 0 2 (by simp))
  rw [gX] at gY HT
  have HY := hid hY
  have HU := hid uY
  have GY := hid gY
  have HX := hid hX
  have HB := hid hb0
  have HC := hid (And.intro c0 (And.intro c1 (And.intro c2 (And.intro hc (And.intro x0 x1)))))
  clear hbX hbk gX gY hY uY hb hb0 b3 hX x0 x1 hc c0 c1 c2 k1 y0 y1 c3
  go_wp2_with (refine wpList_store_as rfl 41 (.tmp 4) (.tmp 9) rfl (w.heap.size + 1 + 1) 0 #[fv 47 #[pt w1.heap.size, pt (w.heap.size + 1)], fv 48 #[pt w1.heap.size, pt w.heap.size, pt (w.heap.size + 1)]] rfl rfl HT.out csize41 (by simp [Value.oneCell']) Y GY.out ?_)
  refine bodyPost_ret (cell_result rfl _ _ (w.heap.size + 1 + 1) 0 rfl [fv 47 #[pt w1.heap.size, pt (w.heap.size + 1)], fv 48 #[pt w1.heap.size, pt w.heap.size, pt (w.heap.size + 1)]] _ HY.out Tryz.underlying41 rfl csize41) rfl ?_
  obtain ⟨c0, c1, c2, hc, x0, x1⟩ := HC.out
  have hs2 := HU.out.size
  have g := fun (b o : Nat) (hb : b < X.heap.size) (hne : b ≠ w.heap.size + 1 + 1) => World.cell?_of_block (a := ⟨b, o, none⟩) (HU.out.block b hb hne)
  have g1 := fun (b o : Nat) (hb : b < w1.heap.size) (hne : b ≠ w.heap.size + 1 + 1) => (g b o (by omega) hne).trans (HX.out.cell (p := ⟨b, o, none⟩) hb)
  refine ⟨w1.heap.size, w.heap.size, w.heap.size + 1, q, rfl, ⟨⟨by omega, by omega⟩, ⟨by omega, by omega⟩, ⟨by omega, by omega⟩, by omega, by omega⟩, (g _ _ hXs (by omega)).trans x0, (g _ _ hXs (by omega)).trans x1, (g1 _ _ hq hqn).trans hc, (g1 _ _ (by omega) (by omega)).trans c0, (g1 _ _ (by omega) (by omega)).trans c1, (g1 _ _ (by omega) (by omega)).trans c2, ?_⟩
  exact HB.out.trans ((HX.out.mono HB.out.size).trans (HU.out.below (by omega) (fun x hx => by subst hx; omega)))

theorem list_mk_c (m : Int) (kw kr : Nat) (cw cr : Array Value) (w : World) : Calls Tryz.prog 54 #[.int .i64 m, .agg #[fv kw cw, fv kr cr]] w fun e w' => ∃ qc qm qi q, e = .returned (.agg #[fv 75 #[pt qc, pt qi], fv 76 #[pt qc, pt qm, pt qi]]) ∧ ((w.heap.size ≤ qc ∧ qc < w'.heap.size) ∧ (w.heap.size ≤ qm ∧ qm < w'.heap.size) ∧ (w.heap.size ≤ qi ∧ qi < w'.heap.size) ∧ w.heap.size ≤ q ∧ q < w'.heap.size) ∧ w'.cell? ⟨qc, 0, none⟩ = some (fv 65 #[pt q]) ∧ w'.cell? ⟨qc, 1, none⟩ = some (fv 67 #[pt q]) ∧ w'.cell? ⟨q, 0, none⟩ = some (.int .i64 0) ∧ w'.cell? ⟨qm, 0, none⟩ = some (.int .i64 m) ∧ w'.cell? ⟨qi, 0, none⟩ = some (fv kw cw) ∧ w'.cell? ⟨qi, 1, none⟩ = some (fv kr cr) ∧ Below w.heap.size w w' := by
  have k1 := hid (number_mk 0)
  go_enter Tryz.func54, Tryz.ntmps54
  go_wp2_with fail
  refine (k1.out _).mono ?_
  rintro e w1 ⟨q, rfl, ⟨hq0, hq⟩, hc, hb⟩
  have hs := hb.size
  simp at hs hq0
  have b3 := below_box3 w (.cells #[.int .i64 m] 3) (.cells #[fv kw cw, fv kr cr] 114) (.cells #[.nilFunc, .nilFunc] 109)
  have hb0 : Below w.heap.size w w1 := b3.trans (hb.mono b3.size)
  have y0 := (hb.block w.heap.size (by simp; omega)).trans (heap3a w _ _ _)
  have y1 := (hb.block (w.heap.size + 1) (by simp)).trans (heap3b w _ _ _)
  have hbk := (hb.block (w.heap.size + 1 + 1) (by simp)).trans (heap3 w _ _ _)
  have c0 : w1.cell? ⟨w.heap.size, 0, none⟩ = some (.int .i64 m) := cell_of_row w1 _ 0 _ _ _ y0
  have c1 : w1.cell? ⟨w.heap.size + 1, 0, none⟩ = some (fv kw cw) := cell_of_row w1 _ 0 _ _ _ y1
  have c2 : w1.cell? ⟨w.heap.size + 1, 1, none⟩ = some (fv kr cr) := cell_of_row w1 _ 1 _ _ _ y1
  have c3 : w1.cell? ⟨w.heap.size + 1 + 1, 0, none⟩ = some .nilFunc := cell_of_row w1 _ 0 _ _ _ hbk
  have hqn : q ≠ w.heap.size + 1 + 1 := fun e => by rw [e, c3] at hc; cases hc
  obtain ⟨X, gX⟩ : ∃ X, X = w1.alloc (.cells #[fv 65 #[pt q], fv 67 #[pt q]] 96) := ⟨_, rfl⟩
  have hX : Below w1.heap.size w1 X := by rw [gX]; exact below_box _ _
  have x0 : X.cell? ⟨w1.heap.size, 0, none⟩ = some (fv 65 #[pt q]) := by rw [gX]; simp
  have x1 : X.cell? ⟨w1.heap.size, 1, none⟩ = some (fv 67 #[pt q]) := by rw [gX]; simp
  have hXs : w1.heap.size < X.heap.size := by rw [gX]; simp
  have hbX : X.heap[w.heap.size + 1 + 1]? = some (.cells [.nilFunc, .nilFunc].toArray 109 (0, 0)) := (hX.block _ (by omega)).trans hbk
  obtain ⟨Y, gY⟩ : ∃ Y, X.setCells (w.heap.size + 1 + 1) 0 [fv 75 #[pt w1.heap.size, pt (w.heap.size + 1)], fv 76 #[pt w1.heap.size, pt w.heap.size, pt (w.heap.size + 1)]] = Y := ⟨_, rfl⟩
  obtain ⟨hY, uY⟩ := cdc_end _ _ hbX rfl gY
  have HT := hid (there_of_block hbX 0 2 (by simp))
  rw [gX] at gY HT
  have HY := hid hY
  have HU := hid uY
  have GY := hid gY
  have HX := hid hX
  have HB := hid hb0
  have HC := hid (And.intro c0 (And.intro c1 (And.intro c2 (And.intro hc (And.intro x0 x1)))))
  clear hbX hbk gX gY hY uY hb hb0 b3 hX x0 x1 hc c0 c1 c2 k1 y0 y1 c3
  go_wp2_with (refine wpList_store_as rfl 109 (.tmp 4) (.tmp 9) rfl (w.heap.size + 1 + 1) 0 #[fv 75 #[pt w1.heap.size, pt (w.heap.size + 1)], fv 76 #[pt w1.heap.size, pt w.heap.size, pt (w.heap.size + 1)]] rfl rfl HT.out csize109 (by simp [Value.oneCell']) Y GY.out ?_)
  refine bodyPost_ret (cell_result rfl _ _ (w.heap.size + 1 + 1) 0 rfl [fv 75 #[pt w1.heap.size, pt (w.heap.size + 1)], fv 76 #[pt w1.heap.size, pt w.heap.size, pt (w.heap.size + 1)]] _ HY.out Tryz.underlying109 rfl csize109) rfl ?_
  obtain ⟨c0, c1, c2, hc, x0, x1⟩ := HC.out
  have hs2 := HU.out.size
  have g := fun (b o : Nat) (hb : b < X.heap.size) (hne : b ≠ w.heap.size + 1 + 1) => World.cell?_of_block (a := ⟨b, o, none⟩) (HU.out.block b hb hne)
  have g1 := fun (b o : Nat) (hb : b < w1.heap.size) (hne : b ≠ w.heap.size + 1 + 1) => (g b o (by omega) hne).trans (HX.out.cell (p := ⟨b, o, none⟩) hb)
  refine ⟨w1.heap.size, w.heap.size, w.heap.size + 1, q, rfl, ⟨⟨by omega, by omega⟩, ⟨by omega, by omega⟩, ⟨by omega, by omega⟩, by omega, by omega⟩, (g _ _ hXs (by omega)).trans x0, (g _ _ hXs (by omega)).trans x1, (g1 _ _ hq hqn).trans hc, (g1 _ _ (by omega) (by omega)).trans c0, (g1 _ _ (by omega) (by omega)).trans c1, (g1 _ _ (by omega) (by omega)).trans c2, ?_⟩
  exact HB.out.trans ((HX.out.mono HB.out.size).trans (HU.out.below (by omega) (fun x hx => by subst hx; omega)))

theorem list_mk_w (m : Int) (kw kr : Nat) (cw cr : Array Value) (w : World) : Calls Tryz.prog 58 #[.int .i64 m, .agg #[fv kw cw, fv kr cr]] w fun e w' => ∃ qc qm qi q, e = .returned (.agg #[fv 91 #[pt qc, pt qi], fv 92 #[pt qc, pt qm, pt qi]]) ∧ ((w.heap.size ≤ qc ∧ qc < w'.heap.size) ∧ (w.heap.size ≤ qm ∧ qm < w'.heap.size) ∧ (w.heap.size ≤ qi ∧ qi < w'.heap.size) ∧ w.heap.size ≤ q ∧ q < w'.heap.size) ∧ w'.cell? ⟨qc, 0, none⟩ = some (fv 65 #[pt q]) ∧ w'.cell? ⟨qc, 1, none⟩ = some (fv 67 #[pt q]) ∧ w'.cell? ⟨q, 0, none⟩ = some (.int .i64 0) ∧ w'.cell? ⟨qm, 0, none⟩ = some (.int .i64 m) ∧ w'.cell? ⟨qi, 0, none⟩ = some (fv kw cw) ∧ w'.cell? ⟨qi, 1, none⟩ = some (fv kr cr) ∧ Below w.heap.size w w' := by
  have k1 := hid (number_mk 0)
  go_enter Tryz.func58, Tryz.ntmps58
  go_wp2_with fail
  refine (k1.out _).mono ?_
  rintro e w1 ⟨q, rfl, ⟨hq0, hq⟩, hc, hb⟩
  have hs := hb.size
  simp at hs hq0
  have b3 := below_box3 w (.cells #[.int .i64 m] 3) (.cells #[fv kw cw, fv kr cr] 127) (.cells #[.nilFunc, .nilFunc] 122)
  have hb0 : Below w.heap.size w w1 := b3.trans (hb.mono b3.size)
  have y0 := (hb.block w.heap.size (by simp; omega)).trans (heap3a w _ _ _)
  have y1 := (hb.block (w.heap.size + 1) (by simp)).trans (heap3b w _ _ _)
  have hbk := (hb.block (w.heap.size + 1 + 1) (by simp)).trans (heap3 w _ _ _)
  have c0 : w1.cell? ⟨w.heap.size, 0, none⟩ = some (.int .i64 m) := cell_of_row w1 _ 0 _ _ _ y0
  have c1 : w1.cell? ⟨w.heap.size + 1, 0, none⟩ = some (fv kw cw) := cell_of_row w1 _ 0 _ _ _ y1
  have c2 : w1.cell? ⟨w.heap.size + 1, 1, none⟩ = some (fv kr cr) := cell_of_row w1 _ 1 _ _ _ y1
  have c3 : w1.cell? ⟨w.heap.size + 1 + 1, 0, none⟩ = some .nilFunc := cell_of_row w1 _ 0 _ _ _ hbk
  have hqn : q ≠ w.heap.size + 1 + 1 := fun e => by rw [e, c3] at hc; cases hc
  obtain ⟨X, gX⟩ : ∃ X, X = w1.alloc (.cells #[fv 65 #[pt q], fv 67 #[pt q]] 96) := ⟨_, rfl⟩
  have hX : Below w1.heap.size w1 X := by rw [gX]; exact below_box _ _
  have x0 : X.cell? ⟨w1.heap.size, 0, none⟩ = some (fv 65 #[pt q]) := by rw [gX]; simp
  have x1 : X.cell? ⟨w1.heap.size, 1, none⟩ = some (fv 67 #[pt q]) := by rw [gX]; simp
  have hXs : w1.heap.size < X.heap.size := by rw [gX]; simp
  have hbX : X.heap[w.heap.size + 1 + 1]? = some (.cells [.nilFunc, .nilFunc].toArray 122 (0, 0)) := (hX.block _ (by omega)).trans hbk
  obtain ⟨Y, gY⟩ : ∃ Y, X.setCells (w.heap.size + 1 + 1) 0 [fv 91 #[pt w1.heap.size, pt (w.heap.size + 1)], fv 92 #[pt w1.heap.size, pt w.heap.size, pt (w.heap.size + 1)]] = Y := ⟨_, rfl⟩
  obtain ⟨hY, uY⟩ := cdc_end _ _ hbX rfl gY
  have HT := hid (there_of_block hbX 0 2 (by simp))
  rw [gX] at gY HT
  have HY := hid hY
  have HU := hid uY
  have GY := hid gY
  have HX := hid hX
  have HB := hid hb0
  have HC := hid (And.intro c0 (And.intro c1 (And.intro c2 (And.intro hc (And.intro x0 x1)))))
  clear hbX hbk gX gY hY uY hb hb0 b3 hX x0 x1 hc c0 c1 c2 k1 y0 y1 c3
  go_wp2_with (refine wpList_store_as rfl 122 (.tmp 4) (.tmp 9) rfl (w.heap.size + 1 + 1) 0 #[fv 91 #[pt w1.heap.size, pt (w.heap.size + 1)], fv 92 #[pt w1.heap.size, pt w.heap.size, pt (w.heap.size + 1)]] rfl rfl HT.out csize122 (by simp [Value.oneCell']) Y GY.out ?_)
  refine bodyPost_ret (cell_result rfl _ _ (w.heap.size + 1 + 1) 0 rfl [fv 91 #[pt w1.heap.size, pt (w.heap.size + 1)], fv 92 #[pt w1.heap.size, pt w.heap.size, pt (w.heap.size + 1)]] _ HY.out Tryz.underlying122 rfl csize122) rfl ?_
  obtain ⟨c0, c1, c2, hc, x0, x1⟩ := HC.out
  have hs2 := HU.out.size
  have g := fun (b o : Nat) (hb : b < X.heap.size) (hne : b ≠ w.heap.size + 1 + 1) => World.cell?_of_block (a := ⟨b, o, none⟩) (HU.out.block b hb hne)
  have g1 := fun (b o : Nat) (hb : b < w1.heap.size) (hne : b ≠ w.heap.size + 1 + 1) => (g b o (by omega) hne).trans (HX.out.cell (p := ⟨b, o, none⟩) hb)
  refine ⟨w1.heap.size, w.heap.size, w.heap.size + 1, q, rfl, ⟨⟨by omega, by omega⟩, ⟨by omega, by omega⟩, ⟨by omega, by omega⟩, by omega, by omega⟩, (g _ _ hXs (by omega)).trans x0, (g _ _ hXs (by omega)).trans x1, (g1 _ _ hq hqn).trans hc, (g1 _ _ (by omega) (by omega)).trans c0, (g1 _ _ (by omega) (by omega)).trans c1, (g1 _ _ (by omega) (by omega)).trans c2, ?_⟩
  exact HB.out.trans ((HX.out.mono HB.out.size).trans (HU.out.below (by omega) (fun x hx => by subst hx; omega)))

end Go.Proofs.YtpbhcmfbcnihiaaGreat
