/- The corpus and what it stands on, merged. -/
import Derived.Test.YtbgommpdmnbplaaGreatDoorCoA13

/- errors.Is of a failure that wraps a number, or of none, with a number as the target; below.Wrap. -/
namespace Go.Proofs.YtbgommpdmnbplaaGreatDoor
open Go.RowKit Go.Extern.Stop Go.Stop Go.Extern
set_option linter.unusedVariables false
set_option maxRecDepth 20000

theorem nTypeOfI (v : Value) (w : World) : (ReflectliteType.typeOf #[.iface 29 v]).run Tryz.prog w = .ok (.iface 261 (.agg #[.pointer (some ⟨2, 29, none⟩)])) w := by kernel_rfl
/-- The model's entry for Comparable. -/
def cmpX : Array Value → Sem Value := ReflectliteType.method fun t => do Rtype.noPackHeld "Comparable" t; pure (.bool (← typeInfo t).comparable)
theorem nComparableE (w : World) : (cmpX #[.agg #[.pointer (some ⟨2, 29, none⟩)]]).run Tryz.prog w = .ok (.bool true) w := by kernel_rfl
theorem nMethodComparable (v : Value) (w : World) : (Go.method 443 261 v "Comparable").run Tryz.prog w = .ok (284, v) w := by kernel_rfl
theorem nCompE : (Tryz.prog.info? 29).map (·.comparable) = some true := by kernel_rfl
theorem nNoIsF (v : Value) (xT : TypeId) (w : World) : (Instr.typeAssert (.iface 239 v) xT 263 true).run Tryz.prog w = .ok (.tuple #[.nilIface, .bool false]) w := run_typeAssert_lacksB Tryz.underlying263 (by kernel_rfl) (by kernel_rfl) v xT w
theorem nNoIsE (v : Value) (xT : TypeId) (w : World) : (Instr.typeAssert (.iface 29 v) xT 263 true).run Tryz.prog w = .ok (.tuple #[.nilIface, .bool false]) w := run_typeAssert_lacksB Tryz.underlying263 (by kernel_rfl) (by kernel_rfl) v xT w
theorem nNoUnwE (v : Value) (xT : TypeId) (w : World) : (Instr.typeAssert (.iface 29 v) xT 266 true).run Tryz.prog w = .ok (.tuple #[.nilIface, .bool false]) w := run_typeAssert_lacksB Tryz.underlying266 (by kernel_rfl) (by kernel_rfl) v xT w
theorem nNoUnwsE (v : Value) (xT : TypeId) (w : World) : (Instr.typeAssert (.iface 29 v) xT 267 true).run Tryz.prog w = .ok (.tuple #[.nilIface, .bool false]) w := run_typeAssert_lacksB Tryz.underlying267 (by kernel_rfl) (by kernel_rfl) v xT w
theorem eql_errno (x y : Int) (w : World) : (binOp .eql 140 (.iface 29 (.int .i64 x)) (.iface 29 (.int .i64 y))).run Tryz.prog w = .ok (.bool (x == y)) w := by
  obtain ⟨i, hi, hcmp⟩ := Option.map_eq_some_iff.1 nCompE
  have h : ∀ d : Nat, (Op.equalIn (d + 2) 140 (.iface 29 (.int .i64 x)) (.iface 29 (.int .i64 y))).run Tryz.prog w = .ok (x == y) w := fun d => by
    simp [Op.equalIn, run_underlying Tryz.underlying140, run_underlying Tryz.underlying29, typeInfo, hi, hcmp]
  simp only [binOp]
  simp [Op.equal, Op.maxDepth, h 9998]

set_option maxHeartbeats 4000000 in
theorem is_in (c : ByteArray) (e n : Int) (w : World) :
    Calls Tryz.prog 161 #[.iface 239 (.agg #[.string c, .int .i64 e]), .iface 29 (.int .i64 n), .bool true] w fun ev w' => ev = .returned (.bool (e == n)) ∧ Below w.heap.size w w' := by
  have nF := nNoIsF
  have nE := nNoIsE
  have uF := nUnwF
  have uE := nNoUnwE
  have vE := nNoUnwsE
  have mU := nMethodUnwrap
  have heq := eql_errno e n
  have hty := run_eql_iface_types (P := Tryz.prog) 239 29 (.agg #[.string c, .int .i64 e]) (.int .i64 n) Tryz.underlying140 (by decide)
  have kU := hid (unwrap_any c e)
  by_cases h : e = n
  · subst h
    have hb : (e == e) = true := by simp
    go_enter Tryz.func161, Tryz.ntmps161
    go_wp2_with fail
    refine wp_loop_rounds 2 ?_
    rw [rounds_succ]
    go_wp2_with (first | (go_at_call 278; refine (kU.out _).mono ?_; rintro r wx ⟨rfl, rfl⟩))
    rw [rounds_succ]
    go_wp2_with fail
    go_ret
    exact ⟨by simp, (Below.refl _ _).alloc (Nat.le_refl _) _⟩
  · have hb : (e == n) = false := by simp [h]
    have hv : ¬ e = n := h
    go_enter Tryz.func161, Tryz.ntmps161
    go_wp2_with fail
    refine wp_loop_rounds 2 ?_
    rw [rounds_succ]
    go_wp2_with (first | (go_at_call 278; refine (kU.out _).mono ?_; rintro r wx ⟨rfl, rfl⟩))
    rw [rounds_succ]
    go_wp2_with fail
    go_ret
    exact ⟨by simp [h], (Below.refl _ _).alloc (Nat.le_refl _) _⟩

set_option maxHeartbeats 4000000 in
theorem is_fail (c : ByteArray) (e n : Int) (w : World) :
    Calls Tryz.prog 114 #[.iface 239 (.agg #[.string c, .int .i64 e]), .iface 29 (.int .i64 n)] w fun ev w' => ev = .returned (.bool (e == n)) ∧ Below w.heap.size w w' := by
  have h8 := @run_callFunc_extern Tryz.prog 160 _ ReflectliteType.typeOf Tryz.func160 (by kernel_rfl) (by kernel_rfl) (by kernel_rfl) (by kernel_rfl)
  have h32 := @run_callFunc_extern Tryz.prog 284 _ cmpX Tryz.func284 (by kernel_rfl) (by kernel_rfl) (by kernel_rfl) (by kernel_rfl)
  have tT := nTypeOfI
  have cT := nComparableE
  have mR := nMethodComparable
  have k := hid (is_in c e n)
  obtain ⟨B, gB⟩ : ∃ B, B = (e == n) := ⟨_, rfl⟩
  rw [← gB] at k
  rw [← gB]
  clear gB
  go_enter Tryz.func114, Tryz.ntmps114
  go_wp2_with (first | (go_at_call 161; refine (k.out _).mono ?_; rintro r w1 ⟨rfl, hb⟩))
  go_ret
  exact ⟨rfl, hb⟩
theorem is_none (n : Int) (w : World) :
    Calls Tryz.prog 114 #[.nilIface, .iface 29 (.int .i64 n)] w fun ev w' => ev = .returned (.bool false) ∧ w' = w := by
  have hn := run_eql_iface_nil_left (P := Tryz.prog) w 29 (.int .i64 n) Tryz.underlying140
  go_enter Tryz.func114, Tryz.ntmps114
  go_wp2
  go_ret
  exact ⟨rfl, rfl⟩

/-- What below.Wrap makes of a number. -/
def wrapV (c : ByteArray) (e : Nat) : Value := if e = 0 then .nilIface else .iface 239 (.agg #[.string c, .int .i64 e])
theorem wrap_nat (c : ByteArray) (e : Nat) (w : World) : Calls Tryz.prog 132 #[.string c, .int .i64 e] w fun r w' => r = .returned (wrapV c e) ∧ w' = w := by
  by_cases h : e = 0
  · subst h
    go_enter Tryz.func132, Tryz.ntmps132
    go_wp2
    go_ret
    exact ⟨rfl, rfl⟩
  · have hv : ¬ (e : Int) = 0 := by omega
    have hw : wrapV c e = .iface 239 (.agg #[.string c, .int .i64 e]) := by simp [wrapV, h]
    rw [hw]
    go_enter Tryz.func132, Tryz.ntmps132
    go_wp2
    go_ret
    exact ⟨rfl, rfl⟩
end Go.Proofs.YtbgommpdmnbplaaGreatDoor
