/- The deferred call of lex.Scan: it does nothing where nothing was given up, else it lays the fault. -/
import Derived.Test.YtidcodpekeaigaaDoorLTab
import Derived.Defers
import Derived.Recover
import Derived.Laws.Pointers
namespace Go.Proofs.YtidcodpekeaigaaDoor
open Go.RowKit
set_option linter.unusedVariables false

set_option maxHeartbeats 1000000 in
theorem fault_any (i why : Int) (w : World) :
    Calls Tryd.prog 11 #[.iface 56 (.agg #[.int .i64 i, .int .i64 why])] w fun e w' => e = .returned (.iface 56 (.agg #[.int .i64 i, .int .i64 why])) ∧ w' = w.alloc (.cells #[.int .i64 i, .int .i64 why] 56) := by
  have hta : ∀ W : World, (Instr.typeAssert (.iface 56 (.agg #[.int .i64 i, .int .i64 why])) 20 56 true).run Tryd.prog W = .ok (.tuple #[.agg #[.int .i64 i, .int .i64 why], .bool true]) W := fun W => by kernel_rfl
  go_enter Tryd.func11, Tryd.ntmps11
  go_wp2
  go_ret
  exact ⟨rfl, rfl⟩

theorem scan1_idle (a b : Addr) (w : World) :
    CallsD Tryd.prog 10 #[.pointer (some a), .pointer (some b)] .returning w fun e u' w' => e = .returned (.tuple #[]) ∧ u' = .returning ∧ w' = w := by
  refine callsD_of_wpS Tryd.func10 rfl fun c₀ cs hu => ?_
  apply wpS_seq
  apply wpS_region
  simp [wpOpsS, go_sem, recoverD, hu, Tryd.ntmps10, Exit.thenS]
  refine wpS_of_wp ?_
  change Code.wp _ _ _ { tmps := #[.pointer (some a), .pointer (some b), .nilIface, .nilIface, undef, undef, undef, undef], defers := [] } _
  go_wp2_with fail
  cases c₀
  simp_all [bodyPostS, results, Tryd.results10]

theorem scan1_panic (a b : Addr) (i why : Int) (older : List PanicEntry) (w : World) (x y : Value) (ha : (w.alloc (.cells #[.int .i64 i, .int .i64 why] 56)).cell? a = some x) (fa : (w.alloc (.cells #[.int .i64 i, .int .i64 why] 56)).frozen? a = false) (hb : ((w.alloc (.cells #[.int .i64 i, .int .i64 why] 56)).setCell a (.slice none 0 0)).cell? b = some y) (fb : ((w.alloc (.cells #[.int .i64 i, .int .i64 why] 56)).setCell a (.slice none 0 0)).frozen? b = false) :
    CallsD Tryd.prog 10 #[.pointer (some a), .pointer (some b)] (.panicking ({ v := .iface 56 (.agg #[.int .i64 i, .int .i64 why]), recovered := false } :: older)) w fun e u' w' => 
      e = .returned (.tuple #[]) ∧ u' = .panicking ({ v := .iface 56 (.agg #[.int .i64 i, .int .i64 why]), recovered := true } :: older) ∧ w' = ((w.alloc (.cells #[.int .i64 i, .int .i64 why] 56)).setCell a (.slice none 0 0)).setCell b (.iface 56 (.agg #[.int .i64 i, .int .i64 why])) := by
  refine callsD_of_wpS Tryd.func10 rfl fun c₀ cs hu => ?_
  apply wpS_seq
  apply wpS_region
  simp [wpOpsS, go_sem, recoverD, hu, Tryd.ntmps10, Exit.thenS]
  refine wpS_of_wp ?_
  change Code.wp _ _ _ { tmps := #[.pointer (some a), .pointer (some b), .iface 56 (.agg #[.int .i64 i, .int .i64 why]), .iface 56 (.agg #[.int .i64 i, .int .i64 why]), undef, undef, undef, undef], defers := [] } _
  go_wp2_with (go_at_call 11; refine (fault_any i why w).mono ?_; rintro e w1 ⟨rfl, rfl⟩)
  simp_all [bodyPostS, results, Tryd.results10]

end Go.Proofs.YtidcodpekeaigaaDoor
