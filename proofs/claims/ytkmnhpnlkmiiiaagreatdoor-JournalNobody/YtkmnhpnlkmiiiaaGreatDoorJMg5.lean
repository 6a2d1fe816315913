/- The journal, merged. -/
import Derived.Test.YtkmnhpnlkmiiiaaGreatDoorProg
import Derived.Test.YtkmnhpnlkmiiiaaGreatDoorUpd
import Derived.WalkKit
import Derived.LaidEql
import Derived.Stop.Asserts
import Derived.RowKitTokens
import Derived.Test.YtkmnhpnlkmiiiaaGreatDoorJMg1
import Derived.Test.YtkmnhpnlkmiiiaaGreatDoorDNewK
import Derived.Test.YtkmnhpnlkmiiiaaGreatDoorJOpen

/- errors.As of a failure that wraps a number, with a target of that kind: the number is found. After the guide's worked example of errors.As. -/
namespace Go.Proofs.YtkmnhpnlkmiiiaaGreatDoor
open Go.RowKit Go.Extern.Stop Go.Stop Go.Extern
set_option linter.unusedVariables false
set_option maxRecDepth 20000

theorem nValueOfP (t : Addr) (w : World) : (ReflectliteValue.unpack (.iface 103 (.pointer (some t)))).run Tryz.prog w
    = .ok (.agg #[.pointer (some ⟨2, 103, none⟩), .pointer (some ⟨w.heap.size, 0, none⟩), .int .u64 150]) (w.alloc (.cells #[.pointer (some t)] 103)) := by kernel_rfl
theorem nTypeP (a : Addr) (w : World) : (ReflectliteValue.methodAny (ReflectliteValue.valueError "reflectlite.Value.Type" 0) (fun t _ _ _ => ReflectliteType.toType t) #[.agg #[.pointer (some ⟨2, 103, none⟩), .pointer (some a), .int .u64 150]]).run Tryz.prog w
    = .ok (.iface 148 (.agg #[.pointer (some ⟨2, 103, none⟩)])) w := by kernel_rfl
theorem nMethodKind (h : Value) (w : World) : (Go.method 306 148 (.agg #[h]) "Kind").run Tryz.prog w = .ok (122, h) w := by kernel_rfl
theorem nKindP (w : World) : ((ReflectliteType.abiMethod fun t => (fun a : Nat => Value.int IntKind.u8 (a : Int)) <$> Rtype.kind t) #[.pointer (some ⟨2, 103, none⟩)]).run Tryz.prog w = .ok (.int .u8 22) w := by kernel_rfl
theorem nKindE (w : World) : ((ReflectliteType.abiMethod fun t => (fun a : Nat => Value.int IntKind.u8 (a : Int)) <$> Rtype.kind t) #[.pointer (some ⟨2, 31, none⟩)]).run Tryz.prog w = .ok (.int .u8 2) w := by kernel_rfl
theorem rlm (z : Sem Value) (f : TypeId → Addr → Nat → Nat → Sem Value) (v : Value) :
    ReflectliteValue.method z f #[v] = (do match ← ReflectliteValue.parts v with | none => z | some (t, a, fl) => f t a fl (fl % 32)) := rfl
theorem nPartsP (a : Addr) (w : World) : (ReflectliteValue.parts (.agg #[.pointer (some ⟨2, 103, none⟩), .pointer (some a), .int .u64 150])).run Tryz.prog w = .ok (some (103, a, 150)) w := by kernel_rfl
theorem nIsNilP (a p : Addr) (W : World) (ha : W.cell? a = some (.pointer (some p))) :
    (ReflectliteValue.method (ReflectliteValue.valueError "reflectlite.Value.IsNil" 0) ReflectliteValue.isNil #[.agg #[.pointer (some ⟨2, 103, none⟩), .pointer (some a), .int .u64 150]]).run Tryz.prog W = .ok (.bool false) W := by
  rw [rlm]
  simp only [Sem.run_bind, nPartsP, Result.andThen]
  simp [ReflectliteValue.isNil, loadVar, isAgg, underlying, Tryz.underlying103, ha, Result.andThen]
theorem nMethodElem (h : Value) (w : World) : (Go.method 306 148 (.agg #[h]) "Elem").run Tryz.prog w = .ok (134, .agg #[h]) w := by kernel_rfl
theorem nMethodImplements (h : Value) (w : World) : (Go.method 306 148 (.agg #[h]) "Implements").run Tryz.prog w = .ok (135, .agg #[h]) w := by kernel_rfl
theorem nMethodAssignableTo (h : Value) (w : World) : (Go.method 306 148 (.agg #[h]) "AssignableTo").run Tryz.prog w = .ok (132, .agg #[h]) w := by kernel_rfl
theorem nMethodUnwrap (a b : Value) (w : World) : (Go.method 306 140 (.agg #[a, b]) "Unwrap").run Tryz.prog w = .ok (130, .agg #[a, b]) w := by kernel_rfl
theorem nElemP (w : World) : (ReflectliteType.method ReflectliteType.elem #[.agg #[.pointer (some ⟨2, 103, none⟩)]]).run Tryz.prog w = .ok (.iface 148 (.agg #[.pointer (some ⟨2, 31, none⟩)])) w := by kernel_rfl
theorem nImplementsE (w : World) : (ReflectliteType.relation "Implements" ReflectliteType.implements_ #[.agg #[.pointer (some ⟨2, 31, none⟩)], .iface 148 (.agg #[.pointer (some ⟨2, 76, none⟩)])]).run Tryz.prog w = .ok (.bool true) w := by kernel_rfl
theorem nTypeOfE (v : Value) (w : World) : (ReflectliteType.typeOf #[.iface 31 v]).run Tryz.prog w = .ok (.iface 148 (.agg #[.pointer (some ⟨2, 31, none⟩)])) w := by kernel_rfl
theorem nTypeOfF (v : Value) (w : World) : (ReflectliteType.typeOf #[.iface 140 v]).run Tryz.prog w = .ok (.iface 148 (.agg #[.pointer (some ⟨2, 140, none⟩)])) w := by kernel_rfl
theorem nAssignableE (w : World) : (ReflectliteType.relation "AssignableTo" ReflectliteType.assignableTo #[.agg #[.pointer (some ⟨2, 31, none⟩)], .iface 148 (.agg #[.pointer (some ⟨2, 31, none⟩)])]).run Tryz.prog w = .ok (.bool true) w := by kernel_rfl
theorem nAssignableF (w : World) : (ReflectliteType.relation "AssignableTo" ReflectliteType.assignableTo #[.agg #[.pointer (some ⟨2, 140, none⟩)], .iface 148 (.agg #[.pointer (some ⟨2, 31, none⟩)])]).run Tryz.prog w = .ok (.bool false) w := by kernel_rfl
theorem nValueOfE (e : Int) (w : World) : (ReflectliteValue.unpack (.iface 31 (.int .i64 e))).run Tryz.prog w
    = .ok (.agg #[.pointer (some ⟨2, 31, none⟩), .pointer (some ⟨w.heap.size, 0, none⟩), .int .u64 130]) (w.alloc (.cells #[.int .i64 e] 31)) := by kernel_rfl
theorem nElemOf (w : World) : (Rtype.elem? 103).run Tryz.prog w = .ok (some 31) w := by kernel_rfl
theorem nMkE (p : Addr) (w : World) : (ReflectliteValue.mk 31 p ReflectliteValue.flagAddr).run Tryz.prog w = .ok (.agg #[.pointer (some ⟨2, 31, none⟩), .pointer (some p), .int .u64 386]) w := by kernel_rfl
theorem nElemV (a p : Addr) (W : World) (ha : W.cell? a = some (.pointer (some p))) :
    (ReflectliteValue.method (ReflectliteValue.valueError "reflectlite.Value.Elem" 0) ReflectliteValue.elem #[.agg #[.pointer (some ⟨2, 103, none⟩), .pointer (some a), .int .u64 150]]).run Tryz.prog W
      = .ok (.agg #[.pointer (some ⟨2, 31, none⟩), .pointer (some p), .int .u64 386]) W := by
  rw [rlm]
  simp only [Sem.run_bind, nPartsP, Result.andThen]
  simp [ReflectliteValue.elem, loadVar, isAgg, underlying, Tryz.underlying103, ha, Result.andThen, nElemOf, nMkE]
theorem rls (v x : Value) : ReflectliteValue.set #[v, x] = (do
    let (some (dst, a, fl), some (src, b, _)) := (← ReflectliteValue.parts v, ← ReflectliteValue.parts x)
      | unsupported (.noEntry "extern/(internal/reflectlite.Value).Set.zeroValue")
    if fl / ReflectliteValue.flagAddr % 2 == 0 then unsupported (.noEntry "extern/(internal/reflectlite.Value).Set.unaddressable")
    let val ← loadVar src b
    if ← Rtype.directlyAssignable dst src then storeVar dst a val
    else if ← Rtype.implements dst src then
      if (← Rtype.kind src) == 20 then
        match val with
        | .nilIface => unsupported (.noEntry "extern/reflectlite: a nil value of one interface type handed on as a value of another")
        | _ => storeVar dst a val
      else storeVar dst a (.iface src val)
    else panicString ("reflectlite.Set: value of type " ++ (← Rtype.spelt src) ++ " is not assignable to type " ++ (← Rtype.spelt dst))
    pure (.tuple #[])) := rfl
theorem nPartsEa (a : Addr) (w : World) : (ReflectliteValue.parts (.agg #[.pointer (some ⟨2, 31, none⟩), .pointer (some a), .int .u64 386])).run Tryz.prog w = .ok (some (31, a, 386)) w := by kernel_rfl
theorem nPartsE (a : Addr) (w : World) : (ReflectliteValue.parts (.agg #[.pointer (some ⟨2, 31, none⟩), .pointer (some a), .int .u64 130])).run Tryz.prog w = .ok (some (31, a, 130)) w := by kernel_rfl
theorem nDirectE (w : World) : (Rtype.directlyAssignable 31 31).run Tryz.prog w = .ok true w := by kernel_rfl
theorem nSetE (ta b : Addr) (e : Int) (old : Value) (W : World) (hb : W.cell? b = some (.int .i64 e)) (ht : W.cell? ta = some old) (hf : W.frozen? ta = false) :
    (ReflectliteValue.set #[.agg #[.pointer (some ⟨2, 31, none⟩), .pointer (some ta), .int .u64 386], .agg #[.pointer (some ⟨2, 31, none⟩), .pointer (some b), .int .u64 130]]).run Tryz.prog W
      = .ok (.tuple #[]) (W.setCell ta (.int .i64 e)) := by
  rw [rls]
  simp only [Sem.run_bind, nPartsEa, nPartsE, Result.andThen]
  simp [ReflectliteValue.flagAddr, loadVar, isAgg, underlying, Tryz.underlying31, hb, Result.andThen, nDirectE, storeVar, Value.cells, storeCells, Addr.add]
  rw [run_store Tryz.prog W ta _ _ (by rfl)]
  simp [ht, hf]
theorem nNoAsF (v : Value) (xT : TypeId) (w : World) : (Instr.typeAssert (.iface 140 v) xT 153 true).run Tryz.prog w = .ok (.tuple #[.nilIface, .bool false]) w := run_typeAssert_lacksB Tryz.underlying153 (by kernel_rfl) (by kernel_rfl) v xT w
theorem nUnwF (v : Value) (xT : TypeId) (w : World) : (Instr.typeAssert (.iface 140 v) xT 156 true).run Tryz.prog w = .ok (.tuple #[.iface 140 v, .bool true]) w := run_typeAssert_hasB Tryz.underlying156 (by kernel_rfl) v xT w

theorem unwrap_any (c : ByteArray) (e : Int) (w : World) : Calls Tryz.prog 130 #[.agg #[.string c, .int .i64 e]] w fun r w' => r = .returned (.iface 31 (.int .i64 e)) ∧ w' = w.alloc (.cells #[.string c, .int .i64 e] 140) := by
  go_enter Tryz.func130, Tryz.ntmps130
  go_wp2
  go_ret
  exact ⟨rfl, rfl⟩

set_option maxHeartbeats 4000000 in
theorem as_in (c : ByteArray) (e : Int) (t : Addr) (q : Nat) (w : World) (hq : w.cell? ⟨q, 0, none⟩ = some (.pointer (some t))) (ht0 : w.cell? t = some (.int .i64 0)) (hf0 : w.frozen? t = false) :
    Calls Tryz.prog 78 #[.iface 140 (.agg #[.string c, .int .i64 e]), .iface 103 (.pointer (some t)), .agg #[.pointer (some ⟨2, 103, none⟩), .pointer (some ⟨q, 0, none⟩), .int .u64 150], .iface 148 (.agg #[.pointer (some ⟨2, 31, none⟩)])] w fun ev w' => ev = .returned (.bool true) ∧ ∃ w2, Below w.heap.size w w2 ∧ w' = w2.setCell t (.int .i64 e) := by
  have h75 := @run_callFunc_extern Tryz.prog 75 _ (fun args => ReflectliteValue.unpack (args.getD 0 (.tuple #[]))) Tryz.func75 (by kernel_rfl) (by kernel_rfl) (by kernel_rfl) (by kernel_rfl)
  have h76 := @run_callFunc_extern Tryz.prog 76 _ (ReflectliteValue.methodAny (ReflectliteValue.valueError "reflectlite.Value.Type" 0) (fun t _ _ _ => ReflectliteType.toType t)) Tryz.func76 (by kernel_rfl) (by kernel_rfl) (by kernel_rfl) (by kernel_rfl)
  have h77 := @run_callFunc_extern Tryz.prog 77 _ (ReflectliteValue.method (ReflectliteValue.valueError "reflectlite.Value.IsNil" 0) ReflectliteValue.isNil) Tryz.func77 (by kernel_rfl) (by kernel_rfl) (by kernel_rfl) (by kernel_rfl)
  have h122 := @run_callFunc_extern Tryz.prog 122 _ (ReflectliteType.abiMethod fun t => do pure (.int .u8 (← Rtype.kind t))) Tryz.func122 (by kernel_rfl) (by kernel_rfl) (by kernel_rfl) (by kernel_rfl)
  have h134 := @run_callFunc_extern Tryz.prog 134 _ (ReflectliteType.method ReflectliteType.elem) Tryz.func134 (by kernel_rfl) (by kernel_rfl) (by kernel_rfl) (by kernel_rfl)
  have h135 := @run_callFunc_extern Tryz.prog 135 _ (ReflectliteType.relation "Implements" ReflectliteType.implements_) Tryz.func135 (by kernel_rfl) (by kernel_rfl) (by kernel_rfl) (by kernel_rfl)
  have h91 := @run_callFunc_extern Tryz.prog 91 _ ReflectliteType.typeOf Tryz.func91 (by kernel_rfl) (by kernel_rfl) (by kernel_rfl) (by kernel_rfl)
  have h132 := @run_callFunc_extern Tryz.prog 132 _ (ReflectliteType.relation "AssignableTo" ReflectliteType.assignableTo) Tryz.func132 (by kernel_rfl) (by kernel_rfl) (by kernel_rfl) (by kernel_rfl)
  have h92 := @run_callFunc_extern Tryz.prog 92 _ (ReflectliteValue.method (ReflectliteValue.valueError "reflectlite.Value.Elem" 0) ReflectliteValue.elem) Tryz.func92 (by kernel_rfl) (by kernel_rfl) (by kernel_rfl) (by kernel_rfl)
  have h93 := @run_callFunc_extern Tryz.prog 93 _ ReflectliteValue.set Tryz.func93 (by kernel_rfl) (by kernel_rfl) (by kernel_rfl) (by kernel_rfl)
  have tE := nTypeOfE
  have tF := nTypeOfF
  have mA := nMethodAssignableTo
  have aE := nAssignableE
  have aF := nAssignableF
  have vE := nValueOfE
  have noAs := nNoAsF
  have unw := nUnwF
  have mU := nMethodUnwrap
  have hql : q < w.heap.size := World.block_lt_of_cell? _ _ hq
  have htl : t.block < w.heap.size := World.block_lt_of_cell? _ _ ht0
  have el := nElemV ⟨q, 0, none⟩ t ((w.alloc (.cells #[.pointer (some ⟨2, 103, none⟩), .pointer (some ⟨q, 0, none⟩), .int .u64 150] 126)).alloc (.cells #[.string c, .int .i64 e] 140)) (by rw [World.cell?_alloc_lt _ _ ⟨q, 0, none⟩ (by simp; omega), World.cell?_alloc_lt _ _ ⟨q, 0, none⟩ hql]; exact hq)
  have st := nSetE t ⟨w.heap.size + 1 + 1, 0, none⟩ e (.int .i64 0) (((w.alloc (.cells #[.pointer (some ⟨2, 103, none⟩), .pointer (some ⟨q, 0, none⟩), .int .u64 150] 126)).alloc (.cells #[.string c, .int .i64 e] 140)).alloc (.cells #[.int .i64 e] 31))
    (by rw [World.cell?_alloc_at _ _ _ _ (by simp)]; rfl)
    (by rw [World.cell?_alloc_lt _ _ t (by simp; omega), World.cell?_alloc_lt _ _ t (by simp; omega), World.cell?_alloc_lt _ _ t htl]; exact ht0)
    (by rw [World.frozen?_alloc_old _ _ t (by simp; omega), World.frozen?_alloc_old _ _ t (by simp; omega), World.frozen?_alloc_old _ _ t (Nat.ne_of_lt htl)]; exact hf0)
  have kU := hid (unwrap_any c e)
  go_enter Tryz.func78, Tryz.ntmps78
  go_wp2_with fail
  refine wp_loop_rounds 2 ?_
  rw [rounds_succ]
  go_wp2_with (first | (go_at_call 130; refine (kU.out _).mono ?_; rintro r wx ⟨rfl, rfl⟩))
  rw [rounds_succ]
  go_wp2_with fail
  go_ret
  exact ⟨rfl, _, (((Below.refl _ _).alloc (Nat.le_refl _) _).alloc (by simp) _).alloc (by simp; omega) _, rfl⟩

set_option maxHeartbeats 4000000 in
theorem as_hit (c : ByteArray) (e : Int) (t : Addr) (w : World) (hg : w.cell? ⟨0, 0, none⟩ = some (.iface 148 (.agg #[.pointer (some ⟨2, 76, none⟩)]))) (ht0 : w.cell? t = some (.int .i64 0)) (hf0 : w.frozen? t = false) :
    Calls Tryz.prog 57 #[.iface 140 (.agg #[.string c, .int .i64 e]), .iface 103 (.pointer (some t))] w fun ev w' => ev = .returned (.bool true) ∧ ∃ w2, Below w.heap.size w w2 ∧ w' = w2.setCell t (.int .i64 e) := by
  have h75 := @run_callFunc_extern Tryz.prog 75 _ (fun args => ReflectliteValue.unpack (args.getD 0 (.tuple #[]))) Tryz.func75 (by kernel_rfl) (by kernel_rfl) (by kernel_rfl) (by kernel_rfl)
  have h76 := @run_callFunc_extern Tryz.prog 76 _ (ReflectliteValue.methodAny (ReflectliteValue.valueError "reflectlite.Value.Type" 0) (fun t _ _ _ => ReflectliteType.toType t)) Tryz.func76 (by kernel_rfl) (by kernel_rfl) (by kernel_rfl) (by kernel_rfl)
  have h77 := @run_callFunc_extern Tryz.prog 77 _ (ReflectliteValue.method (ReflectliteValue.valueError "reflectlite.Value.IsNil" 0) ReflectliteValue.isNil) Tryz.func77 (by kernel_rfl) (by kernel_rfl) (by kernel_rfl) (by kernel_rfl)
  have h122 := @run_callFunc_extern Tryz.prog 122 _ (ReflectliteType.abiMethod fun t => do pure (.int .u8 (← Rtype.kind t))) Tryz.func122 (by kernel_rfl) (by kernel_rfl) (by kernel_rfl) (by kernel_rfl)
  have h134 := @run_callFunc_extern Tryz.prog 134 _ (ReflectliteType.method ReflectliteType.elem) Tryz.func134 (by kernel_rfl) (by kernel_rfl) (by kernel_rfl) (by kernel_rfl)
  have h135 := @run_callFunc_extern Tryz.prog 135 _ (ReflectliteType.relation "Implements" ReflectliteType.implements_) Tryz.func135 (by kernel_rfl) (by kernel_rfl) (by kernel_rfl) (by kernel_rfl)
  have h91 := @run_callFunc_extern Tryz.prog 91 _ ReflectliteType.typeOf Tryz.func91 (by kernel_rfl) (by kernel_rfl) (by kernel_rfl) (by kernel_rfl)
  have h132 := @run_callFunc_extern Tryz.prog 132 _ (ReflectliteType.relation "AssignableTo" ReflectliteType.assignableTo) Tryz.func132 (by kernel_rfl) (by kernel_rfl) (by kernel_rfl) (by kernel_rfl)
  have h92 := @run_callFunc_extern Tryz.prog 92 _ (ReflectliteValue.method (ReflectliteValue.valueError "reflectlite.Value.Elem" 0) ReflectliteValue.elem) Tryz.func92 (by kernel_rfl) (by kernel_rfl) (by kernel_rfl) (by kernel_rfl)
  have h93 := @run_callFunc_extern Tryz.prog 93 _ ReflectliteValue.set Tryz.func93 (by kernel_rfl) (by kernel_rfl) (by kernel_rfl) (by kernel_rfl)
  have tE := nTypeOfE
  have tF := nTypeOfF
  have mA := nMethodAssignableTo
  have aE := nAssignableE
  have aF := nAssignableF
  have vE := nValueOfE
  have f75 := nValueOfP
  have f76 := nTypeP
  have mK := nMethodKind
  have mE := nMethodElem
  have mI := nMethodImplements
  have kP := nKindP
  have kE := nKindE
  have eP := nElemP
  have iE := nImplementsE
  have noAs := nNoAsF
  have unw := nUnwF
  have mU := nMethodUnwrap
  obtain ⟨w1, g1⟩ : ∃ w1, w1 = (w.alloc (.cells #[.pointer (some t)] 103)).alloc (.cells #[.pointer (some ⟨2, 103, none⟩), .pointer (some ⟨w.heap.size, 0, none⟩), .int .u64 150] 126) := ⟨_, rfl⟩
  have n8 := nIsNilP ⟨w.heap.size, 0, none⟩ t ((w.alloc (.cells #[.pointer (some t)] 103)).alloc (.cells #[.pointer (some ⟨2, 103, none⟩), .pointer (some ⟨w.heap.size, 0, none⟩), .int .u64 150] 126)) (by simp)
  have hlt : 0 < w.heap.size := by
    rcases Nat.eq_zero_or_pos w.heap.size with h0 | h
    · simp [World.cell?, h0] at hg
    · exact h
  have hg2 : ((w.alloc (.cells #[.pointer (some t)] 103)).alloc (.cells #[.pointer (some ⟨2, 103, none⟩), .pointer (some ⟨w.heap.size, 0, none⟩), .int .u64 150] 126)).cell? ⟨0, 0, none⟩ = some (.iface 148 (.agg #[.pointer (some ⟨2, 76, none⟩)])) := by
    rw [World.cell?_alloc_lt _ _ ⟨0, 0, none⟩ (by simp), World.cell?_alloc_lt _ _ ⟨0, 0, none⟩ hlt]; exact hg
  clear g1
  have hA := hid (fun w1 hq h0 h1 => as_in c e t w.heap.size w1 hq h0 h1)
  go_enter Tryz.func57, Tryz.ntmps57
  go_wp2_with fail
  have hb1 : Below w.heap.size w ((w.alloc (.cells #[.pointer (some t)] 103)).alloc (.cells #[.pointer (some ⟨2, 103, none⟩), .pointer (some ⟨w.heap.size, 0, none⟩), .int .u64 150] 126)) := ((Below.refl _ _).alloc (Nat.le_refl _) _).alloc (by simp) _
  have htl : t.block < w.heap.size := World.block_lt_of_cell? _ _ ht0
  refine (hA.out _ (by simp) ((hb1.cell htl).trans ht0) ((hb1.frozen htl).trans hf0)).mono ?_
  rintro r w3 ⟨rfl, w2, hb2, rfl⟩
  go_wp2_with fail
  go_ret
  exact ⟨rfl, w2, hb1.trans (hb2.mono (by simp; omega)), rfl⟩

set_option maxHeartbeats 4000000 in
theorem errno_any (c : ByteArray) (e : Int) (w : World) (hg : w.cell? ⟨0, 0, none⟩ = some (.iface 148 (.agg #[.pointer (some ⟨2, 76, none⟩)]))) :
    Calls Tryz.prog 35 #[.iface 140 (.agg #[.string c, .int .i64 e])] w fun ev w' => ev = .returned (.int .i64 e) ∧ Below w.heap.size w w' := by
  have hlt : 0 < w.heap.size := World.block_lt_of_cell? _ _ hg
  have hA := hid (fun w1 hg h0 h1 => as_hit c e ⟨w.heap.size, 0, none⟩ w1 hg h0 h1)
  go_enter Tryz.func35, Tryz.ntmps35
  go_wp2_with fail
  refine (hA.out _ (by rw [World.cell?_alloc_lt _ _ ⟨0, 0, none⟩ hlt]; exact hg) (by simp) (by simp)).mono ?_
  rintro r w3 ⟨rfl, w2, hb2, rfl⟩
  have hc : w2.cell? ⟨w.heap.size, 0, none⟩ = some (.int .i64 0) := (hb2.cell (p := ⟨w.heap.size, 0, none⟩) (by simp)).trans (by simp)
  have hq : (w2.setCell ⟨w.heap.size, 0, none⟩ (.int .i64 e)).cell? ⟨w.heap.size, 0, none⟩ = some (.int .i64 e) := by
    simp [hc, go_sem]
  go_wp2_with fail
  go_ret
  have hb3 : Below w.heap.size w w2 := ((Below.refl _ _).alloc (Nat.le_refl _) _).trans (hb2.mono (by simp))
  exact ⟨rfl, hb3.trans ((Upd.setCell w2 ⟨w.heap.size, 0, none⟩ _ rfl).below hb3.size (fun x hx => by have e : w.heap.size = x := hx; omega))⟩
end Go.Proofs.YtkmnhpnlkmiiiaaGreatDoor

/- JournalNobody: a journal that no call made, and one of no disk. -/
namespace Go.Proofs.YtkmnhpnlkmiiiaaGreatDoor
open Go.RowKit Num Jr
set_option linter.unusedVariables false
set_option maxRecDepth 20000

/-- A journal that no call made. -/
def NobJ (w : World) (v : Value) : Prop := v = .pointer none ∨ ∃ p, v = .pointer (some ⟨p, 0, none⟩) ∧ w.cell? ⟨p, 0, none⟩ = some (.pointer none)
/-- A disk that no call made. -/
def NobD (w : World) (v : Value) : Prop := v = .pointer none ∨ ∃ p, v = .pointer (some ⟨p, 0, none⟩) ∧ w.cell? ⟨p, 0, none⟩ = some (.slice none 0 0)

theorem NobD.below {w w' : World} {v : Value} (h : NobD w v) (hb : Below w.heap.size w w') : NobD w' v := by
  rcases h with rfl | ⟨p, rfl, hc⟩
  · exact .inl rfl
  · exact .inr ⟨p, rfl, (hb.cell (p := ⟨p, 0, none⟩) (World.block_lt_of_cell? _ _ hc)).trans hc⟩

theorem jusable_no (v : Value) (w : World) (h : NobJ w v) : Calls Tryz.prog 33 #[v] w fun e w' => e = .returned (.bool false) ∧ w' = w := by
  rcases h with rfl | ⟨p, rfl, hc⟩
  · go_enter Tryz.func33, Tryz.ntmps33
    go_wp2
    go_ret
    exact ⟨rfl, rfl⟩
  · go_enter Tryz.func33, Tryz.ntmps33
    go_wp2
    go_ret
    exact ⟨rfl, rfl⟩

theorem jappend_no (v u : Value) (w : World) (h : NobJ w v) : Calls Tryz.prog 25 #[v, u] w fun e w' => e = .returned (.int .i64 2) ∧ w' = w := by
  have k := hid (jusable_no v w h)
  clear h
  go_enter Tryz.func25, Tryz.ntmps25
  go_wp2_with fail
  refine k.out.mono ?_
  rintro e w1 ⟨rfl, rfl⟩
  go_wp2_with fail
  go_ret
  exact ⟨rfl, rfl⟩
theorem jcommit_no (v : Value) (w : World) (h : NobJ w v) : Calls Tryz.prog 13 #[v] w fun e w' => e = .returned (.int .i64 2) ∧ w' = w := by
  have k := hid (jusable_no v w h)
  clear h
  go_enter Tryz.func13, Tryz.ntmps13
  go_wp2_with fail
  refine k.out.mono ?_
  rintro e w1 ⟨rfl, rfl⟩
  go_wp2_with fail
  go_ret
  exact ⟨rfl, rfl⟩
theorem jcompact_no (v u : Value) (w : World) (h : NobJ w v) : Calls Tryz.prog 20 #[v, u] w fun e w' => e = .returned (.int .i64 2) ∧ w' = w := by
  have k := hid (jusable_no v w h)
  clear h
  go_enter Tryz.func20, Tryz.ntmps20
  go_wp2_with fail
  refine k.out.mono ?_
  rintro e w1 ⟨rfl, rfl⟩
  go_wp2_with fail
  go_ret
  exact ⟨rfl, rfl⟩
theorem jwait_no (v : Value) (w : World) (h : NobJ w v) : Calls Tryz.prog 24 #[v] w fun e w' => e = .returned (.int .i64 0) ∧ w' = w := by
  have k := hid (jusable_no v w h)
  clear h
  go_enter Tryz.func24, Tryz.ntmps24
  go_wp2_with fail
  refine k.out.mono ?_
  rintro e w1 ⟨rfl, rfl⟩
  go_wp2_with fail
  go_ret
  exact ⟨rfl, rfl⟩
theorem jused_no (v : Value) (w : World) (h : NobJ w v) : Calls Tryz.prog 26 #[v] w fun e w' => e = .returned (.int .i64 0) ∧ w' = w := by
  have k := hid (jusable_no v w h)
  clear h
  go_enter Tryz.func26, Tryz.ntmps26
  go_wp2_with fail
  refine k.out.mono ?_
  rintro e w1 ⟨rfl, rfl⟩
  go_wp2_with fail
  go_ret
  exact ⟨rfl, rfl⟩
theorem jroom_no (v : Value) (w : World) (h : NobJ w v) : Calls Tryz.prog 27 #[v] w fun e w' => e = .returned (.int .i64 0) ∧ w' = w := by
  have k := hid (jusable_no v w h)
  clear h
  go_enter Tryz.func27, Tryz.ntmps27
  go_wp2_with fail
  refine k.out.mono ?_
  rintro e w1 ⟨rfl, rfl⟩
  go_wp2_with fail
  go_ret
  exact ⟨rfl, rfl⟩
theorem jgen_no (v : Value) (w : World) (h : NobJ w v) : Calls Tryz.prog 21 #[v] w fun e w' => e = .returned (.int .i64 0) ∧ w' = w := by
  have k := hid (jusable_no v w h)
  clear h
  go_enter Tryz.func21, Tryz.ntmps21
  go_wp2_with fail
  refine k.out.mono ?_
  rintro e w1 ⟨rfl, rfl⟩
  go_wp2_with fail
  go_ret
  exact ⟨rfl, rfl⟩

theorem dusable_no (v : Value) (w : World) (h : NobD w v) : Calls Tryz.prog 37 #[v] w fun e w' => e = .returned (.bool false) ∧ w' = w := by
  rcases h with rfl | ⟨p, rfl, hc⟩
  · go_enter Tryz.func37, Tryz.ntmps37
    go_wp2
    go_ret
    exact ⟨rfl, rfl⟩
  · go_enter Tryz.func37, Tryz.ntmps37
    go_wp2
    go_ret
    exact ⟨rfl, rfl⟩
theorem dread_nob (v : Value) (i : Int) (w : World) (h : NobD w v) : Calls Tryz.prog 19 #[v, .int .i64 i] w fun e w' => e = .returned (.tuple #[.slice none 0 0, .int .i64 2]) ∧ w' = w := by
  have k := hid (dusable_no v w h)
  clear h
  go_enter Tryz.func19, Tryz.ntmps19
  go_wp2_with fail
  refine k.out.mono ?_
  rintro e w1 ⟨rfl, rfl⟩
  go_wp2_with fail
  go_ret2
  exact ⟨rfl, rfl⟩
theorem wrap_two (c : ByteArray) (w : World) : Calls Tryz.prog 65 #[.string c, .int .i64 2] w fun e w' => e = .returned (.iface 140 (.agg #[.string c, .int .i64 2])) ∧ w' = w := by
  go_enter Tryz.func65, Tryz.ntmps65
  go_wp2_with fail
  go_ret
  exact ⟨rfl, rfl⟩
theorem jread_no (v : Value) (w : World) (h : NobD w v) : Calls Tryz.prog 51 #[.agg #[v], .int .i64 0] w fun e w' => (∃ c, e = .returned (.tuple #[.slice none 0 0, .iface 140 (.agg #[.string c, .int .i64 2])])) ∧ Below w.heap.size w w' := by
  have hb0 : Below w.heap.size w (w.alloc (.cells #[v] 55)) := (Below.refl _ _).alloc (Nat.le_refl _) _
  have k := hid (dread_nob v 0 _ (h.below hb0))
  have HB := hid hb0
  have hv : ∃ o, v = .pointer o := by rcases h with rfl | ⟨p, rfl, _⟩ <;> exact ⟨_, rfl⟩
  obtain ⟨o, rfl⟩ := hv
  clear h hb0
  go_enter Tryz.func51, Tryz.ntmps51
  go_wp2_with fail
  refine k.out.mono ?_
  rintro e w1 ⟨rfl, rfl⟩
  go_wp2_with fail
  refine (wrap_two _ _).mono ?_
  rintro e w2 ⟨rfl, rfl⟩
  go_wp2_with fail
  go_ret2
  exact ⟨⟨_, rfl⟩, HB.out⟩

theorem jopen_no (v : Value) (w : World) (h : NobD w v) (hg : w.cell? ⟨0, 0, none⟩ = some (.iface 148 (.agg #[.pointer (some ⟨2, 76, none⟩)]))) :
    Calls Tryz.prog 28 #[v] w fun e w' => e = .returned (.tuple #[.pointer none, .slice none 0 0, .int .i64 2]) ∧ Below w.heap.size w w' := by
  have hv : ∃ o, v = .pointer o := by rcases h with rfl | ⟨p, rfl, _⟩ <;> exact ⟨_, rfl⟩
  obtain ⟨o, rfl⟩ := hv
  have hl0 : 0 < w.heap.size := World.block_lt_of_cell? _ _ hg
  have hb0 : Below w.heap.size w (w.alloc (.cells #[.pointer o, .int .i64 0, .int .i64 0, .int .i64 0, .int .i64 0, .int .i64 0, .slice none 0 0, .int .i64 0] 59)) := (Below.refl _ _).alloc (Nat.le_refl _) _
  have k := hid (jread_no (.pointer o) _ (h.below hb0))
  have HB := hid hb0
  have HG := hid hg
  clear h hb0 hg
  go_enter Tryz.func28, Tryz.ntmps28
  go_wp2_with fail
  refine k.out.mono ?_
  rintro e w1 ⟨⟨c, rfl⟩, hb1⟩
  have hbw : Below w.heap.size w w1 := HB.out.trans (hb1.mono HB.out.size)
  have hg1 := (hbw.cell (p := ⟨0, 0, none⟩) hl0).trans HG.out
  have kN := hid (errno_any c 2 w1 hg1)
  have HBW := hid hbw
  clear hb1 hbw hg1 k
  go_wp2_with fail
  refine kN.out.mono ?_
  rintro e w2 ⟨rfl, hb2⟩
  have HB2 := hid hb2
  clear hb2
  go_wp2_with fail
  go_ret3
  exact ⟨rfl, HBW.out.trans (HB2.out.mono HBW.out.size)⟩
end Go.Proofs.YtkmnhpnlkmiiiaaGreatDoor

/- The road of JournalNobody. -/
namespace Go.Proofs.YtkmnhpnlkmiiiaaGreatDoor
open Go.RowKit Num Jr
set_option linter.unusedVariables false
set_option maxRecDepth 20000

/-- A new disk, as a journal sees it. -/
theorem jd_new {d : Dk} {w : World} {p n : Nat} (hok : d.ok w p) (hn : d.n = n) (hd : d.dur = List.replicate (n * 128) 0) (hw : d.wr = d.dur) (he : d.eps = []) (ho : d.opn = false) : Jd d w p n (fun _ => zero128) ∧ d.rest := by
  have key : ∀ i, i < n → sec (List.replicate (n * 128) (0 : Int)) i = zero128 := fun i hi => by
    show List.take 128 (List.drop (i * 128) (List.replicate (n * 128) 0)) = zero128
    rw [List.drop_replicate, List.take_replicate, show min 128 (n * 128 - i * 128) = 128 by omega]
    rfl
  refine ⟨⟨hok, hn, fun i hi => ?_, fun i hi => ?_, fun i => bytes_zero128, fun i => by simp [zero128], by rw [he]; simp, .inr he⟩, he, ho⟩
  · rw [hw, hd]; exact key i hi
  · have e1 : d.ab = [] := by simp [Dk.ab, he]
    rw [e1]
    show sec d.dur i = _
    rw [hd]; exact key i hi

set_option maxHeartbeats 4000000 in
theorem jnobody_road (a : Option Addr) (n c : Nat) (w : World) (hT : Tab w) (hg : w.cell? ⟨0, 0, none⟩ = some (.iface 148 (.agg #[.pointer (some ⟨2, 76, none⟩)]))) :
    Calls Tryz.prog 6 #[.slice a n c] w fun e w' => e = .returned (.bool true) ∧ Below w.heap.size w w' := by
  have hl0 : 0 < w.heap.size := World.block_lt_of_cell? _ _ hg
  have hTl : 1 < w.heap.size := World.block_lt_of_cell? _ _ (hT 0 (by omega))
  have HG := hid hg
  have HT := hid hT
  clear hg hT
  go_enter Tryz.func6, Tryz.ntmps6
  go_wp2_with fail
  obtain ⟨W, gW⟩ : ∃ W, W = (w.alloc (Obj.cells #[.pointer none, .int .i64 0, .int .i64 0, .int .i64 0, .int .i64 0, .int .i64 0, .slice none 0 0, .int .i64 0] 59)).alloc (Obj.cells #[Value.pointer none, Value.pointer (some ⟨w.heap.size, 0, none⟩)] 25) := ⟨_, rfl⟩
  have hbW : Below w.heap.size w W := by rw [gW]; exact ((Below.refl _ _).alloc (Nat.le_refl _) _).alloc (by simp) _
  have hsW : W.heap.size = w.heap.size + 2 := by rw [gW]; simp
  have x2 : W.cell? ⟨w.heap.size, 0, none⟩ = some (.pointer none) := by rw [gW]; simp [go_sem]
  have y0 : W.cell? ⟨w.heap.size + 1, 0, none⟩ = some (.pointer none) := by rw [gW]; simp [go_sem]
  have y1 : W.cell? ⟨w.heap.size + 1, 1, none⟩ = some (.pointer (some ⟨w.heap.size, 0, none⟩)) := by rw [gW]; simp [go_sem]
  rw [← gW]
  have HS := hid hsW
  clear gW hsW
  go_loopw [19] (fun k wr => ∃ i : Nat, i ≤ 2 ∧ k = .int .i64 i ∧ Below (w.heap.size + 2) W wr) (fun k _ => 2 - (intOf k).toNat)
  case atStart => exact ⟨0, by omega, rfl, Below.refl _ _⟩
  case round =>
    obtain ⟨i, hi, rfl, hb⟩ := hrel
    have z2 := (hb.cell (p := ⟨w.heap.size, 0, none⟩) (by simp)).trans x2
    have q0 := (hb.cell (p := ⟨w.heap.size + 1, 0, none⟩) (by simp)).trans y0
    have q1 := (hb.cell (p := ⟨w.heap.size + 1, 1, none⟩) (by simp)).trans y1
    clear x2 y0 y1
    rcases (show 2 ≤ i ∨ i = 0 ∨ i = 1 by omega) with h2i | h01
    · have hi2 : ¬ (i : Int) < 2 := by omega
      have hsz := hb.size
      have hbw : Below w.heap.size w wr := hbW.trans (hb.mono (by omega))
      have HBW := hid hbw
      clear q0 q1 z2 hbw hbW hb hsz hi h2i
      go_wp2_with fail
      rename World => wo
      obtain ⟨W2, gW2⟩ : ∃ W2, W2 = (wo.alloc (Obj.cells #[Value.slice none 0 0, Value.slice none 0 0, Value.slice none 0 0, Value.bool false] 64)).alloc (Obj.cells #[Value.pointer none, Value.pointer (some ⟨wo.heap.size, 0, none⟩)] 24) := ⟨_, rfl⟩
      have hbW2 : Below wo.heap.size wo W2 := by rw [gW2]; exact ((Below.refl _ _).alloc (Nat.le_refl _) _).alloc (by simp) _
      have hsW2 : W2.heap.size = wo.heap.size + 2 := by rw [gW2]; simp
      have x2 : W2.cell? ⟨wo.heap.size, 0, none⟩ = some (.slice none 0 0) := by rw [gW2]; simp [go_sem]
      have y0 : W2.cell? ⟨wo.heap.size + 1, 0, none⟩ = some (.pointer none) := by rw [gW2]; simp [go_sem]
      have y1 : W2.cell? ⟨wo.heap.size + 1, 1, none⟩ = some (.pointer (some ⟨wo.heap.size, 0, none⟩)) := by rw [gW2]; simp [go_sem]
      rw [← gW2]
      have HS2 := hid hsW2
      have HBW2 := hid hbW2
      clear gW2 hsW2 hbW2
      go_loopw [56] (fun k wr => ∃ i : Nat, i ≤ 2 ∧ k = .int .i64 i ∧ Below (wo.heap.size + 2) W2 wr) (fun k _ => 2 - (intOf k).toNat)
      case atStart => exact ⟨0, by omega, rfl, Below.refl _ _⟩
      case round =>
        obtain ⟨i, hi, rfl, hb⟩ := hrel
        have z2 := (hb.cell (p := ⟨wo.heap.size, 0, none⟩) (by simp)).trans x2
        have q0 := (hb.cell (p := ⟨wo.heap.size + 1, 0, none⟩) (by simp)).trans y0
        have q1 := (hb.cell (p := ⟨wo.heap.size + 1, 1, none⟩) (by simp)).trans y1
        have hsz := hb.size
        have hbr : Below w.heap.size w wr := by
          have h1 := HBW2.out.size
          have h2 := HBW.out.size
          exact (HBW.out.trans (HBW2.out.mono h2)).trans (hb.mono (by omega))
        have HBR := hid hbr
        clear x2 y0 y1 hbr
        rcases (show i = 2 ∨ i = 0 ∨ i = 1 by omega) with rfl | h01
        · clear q0 q1 z2 hb hsz
          have kN := hid (new_dk 10 wr (by omega) (by omega))
          go_wp2_with fail
          refine kN.out.mono ?_
          rintro e w1 ⟨p, d, rfl, hok, dn, dd, dw, de, dop, df, hb1⟩
          have hj := jd_new hok dn dd dw de dop
          have hbw1 : Below w.heap.size w w1 := HBR.out.trans (hb1.mono HBR.out.size)
          have hT1 : Tab w1 := HT.out.below hbw1 hTl
          have hs1 := HBR.out.size
          have kO := hid (jopen_any d p 10 (fun _ => zero128) w1 hj.1 hj.2 hT1 (fun hx => by have := df _ hx; omega) (by omega))
          have HBW1 := hid hbw1
          have HDF : Hid (∀ x ∈ d.foot p, w.heap.size ≤ x) := hid (fun x hx => Nat.le_trans hs1 (df x hx))
          clear hok dn dd dw de dop df hb1 hj hbw1 hT1 hs1 kN
          go_wp2_with fail
          refine kO.out.mono ?_
          rintro e w2 ⟨jp, v, d', m, rfl, _, _, hst, _, hjc, hrc, _⟩
          have hnw : newest (fun _ => zero128) = 0 := by unfold newest; rw [rightH_zero, rightH_zero]; rfl
          have h1 : openGen (fun _ => zero128) = 1 := by unfold openGen; rw [if_pos hnw]
          have h2 : opened 10 (fun _ => zero128) = ([], 0, 0) := by unfold opened; rw [if_pos hnw]
          rw [h1, h2] at hjc
          have hb2 : Below w.heap.size w w2 := HBW1.out.trans (hst.upd.below HBW1.out.size HDF.out)
          have hv : ∃ a n c, v = .slice a n c := by
            obtain ⟨us, ho, _⟩ := hrc
            obtain ⟨a, c, e, _⟩ := own_shape ho
            exact ⟨a, _, c, e⟩
          obtain ⟨av, nv, cv, rfl⟩ := hv
          have HJC := hid hjc
          have HB2 := hid hb2
          have kR := hid (jroom jp p 1 _ _ 0 0 0 _ w2 hjc (by omega) (by unfold szOf; omega))
          clear hst hnw h1 h2 hjc hb2 kO hrc
          go_wp2_with fail
          refine kR.out.mono ?_
          rintro e w3 ⟨rfl, rfl⟩
          go_wp2_with fail
          refine (jgen jp p 1 (firstOf 1 10) (szOf 10) 0 0 0 (.slice none 0 0) w2.drew HJC.out).mono ?_
          rintro e w3 ⟨rfl, rfl⟩
          go_wp2_with fail
          go_ret
          exact ⟨rfl, HB2.out.drew⟩
        · obtain ⟨v, hv, hnob⟩ : ∃ v, wr.cell? ⟨wo.heap.size + 1, i, none⟩ = some v ∧ NobD wr v := by
            rcases h01 with rfl | rfl
            · exact ⟨_, q0, .inl rfl⟩
            · exact ⟨_, q1, .inr ⟨_, rfl, z2⟩⟩
          have hi2 : i < 2 := by omega
          have hgr := (HBR.out.cell (p := ⟨0, 0, none⟩) hl0).trans HG.out
          have kO := hid (jopen_no v wr hnob hgr)
          clear q0 q1 z2 h01 hnob hgr
          go_wp2_with fail
          refine kO.out.mono ?_
          rintro e w1 ⟨rfl, hb1⟩
          go_wp2_with fail
          go_roundw
          case rel => exact ⟨i + 1, by omega, by go_num, hb.trans (hb1.mono (by have := HS2.out; omega))⟩
          case measure => simp [intOf]; omega
    · obtain ⟨v, hv, hnob⟩ : ∃ v, wr.cell? ⟨w.heap.size + 1, i, none⟩ = some v ∧ NobJ wr v := by
        rcases h01 with rfl | rfl
        · exact ⟨_, q0, .inl rfl⟩
        · exact ⟨_, q1, .inr ⟨_, rfl, z2⟩⟩
      have hi2 : i < 2 := by omega
      have HN := hid hnob
      clear q0 q1 z2 h01 hnob
      go_wp2_with fail
      refine (jappend_no v _ _ HN.out).mono ?_
      rintro e w1 ⟨rfl, rfl⟩
      go_wp2_with fail
      refine (jcommit_no v _ HN.out).mono ?_
      rintro e w1 ⟨rfl, rfl⟩
      go_wp2_with fail
      refine (jcompact_no v _ _ HN.out).mono ?_
      rintro e w1 ⟨rfl, rfl⟩
      go_wp2_with fail
      refine (jwait_no v _ HN.out).mono ?_
      rintro e w1 ⟨rfl, rfl⟩
      go_wp2_with fail
      refine (jused_no v _ HN.out).mono ?_
      rintro e w1 ⟨rfl, rfl⟩
      go_wp2_with fail
      refine (jroom_no v _ HN.out).mono ?_
      rintro e w1 ⟨rfl, rfl⟩
      go_wp2_with fail
      refine (jgen_no v _ HN.out).mono ?_
      rintro e w1 ⟨rfl, rfl⟩
      go_wp2_with fail
      go_roundw
      case rel => exact ⟨i + 1, by omega, by go_num, hb⟩
      case measure => simp [intOf]; omega
end Go.Proofs.YtkmnhpnlkmiiiaaGreatDoor
