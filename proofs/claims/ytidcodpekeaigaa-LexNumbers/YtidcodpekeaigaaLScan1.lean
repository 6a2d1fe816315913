/- The deferred call of lex.Scan: it does nothing where nothing was given up, else it lays the fault. -/
import Derived.Test.YtidcodpekeaigaaLTab
import Derived.Defers
import Derived.Recover
import Derived.Laws.Pointers
namespace Go.Proofs.Ytidcodpekeaigaa
open Go.RowKit
set_option linter.unusedVariables false

set_option maxHeartbeats 1000000 in
theorem fault_any (i why : Int) (w : World) :
    Calls Try.prog 15 #[.iface 53 (.agg #[.int .i64 i, .int .i64 why])] w fun e w' => e = .returned (.iface 53 (.agg #[.int .i64 i, .int .i64 why])) ∧ w' = w.alloc (.cells #[.int .i64 i, .int .i64 why] 53) := by
  have hta : ∀ W : World, (Instr.typeAssert (.iface 53 (.agg #[.int .i64 i, .int .i64 why])) 20 53 true).run Try.prog W = .ok (.tuple #[.agg #[.int .i64 i, .int .i64 why], .bool true]) W := fun W => by kernel_rfl
  go_enter Try.func15, Try.ntmps15
  go_wp2
  go_ret
  exact ⟨rfl, rfl⟩

theorem scan1_idle (a b : Addr) (w : World) :
    CallsD Try.prog 14 #[.pointer (some a), .pointer (some b)] .returning w fun e u' w' => e = .returned (.tuple #[]) ∧ u' = .returning ∧ w' = w := by
  refine callsD_of_wpS Try.func14 rfl fun c₀ cs hu => ?_
  apply wpS_seq
  apply wpS_region
  simp [wpOpsS, go_sem, recoverD, hu, Try.ntmps14, Exit.thenS]
  refine wpS_of_wp ?_
  change Code.wp _ _ _ { tmps := #[.pointer (some a), .pointer (some b), .nilIface, .nilIface, undef, undef, undef, undef], defers := [] } _
  go_wp2_with fail
  cases c₀
  simp_all [bodyPostS, results, Try.results14]

theorem scan1_panic (a b : Addr) (i why : Int) (older : List PanicEntry) (w : World) (x y : Value) (ha : (w.alloc (.cells #[.int .i64 i, .int .i64 why] 53)).cell? a = some x) (fa : (w.alloc (.cells #[.int .i64 i, .int .i64 why] 53)).frozen? a = false) (hb : ((w.alloc (.cells #[.int .i64 i, .int .i64 why] 53)).setCell a (.slice none 0 0)).cell? b = some y) (fb : ((w.alloc (.cells #[.int .i64 i, .int .i64 why] 53)).setCell a (.slice none 0 0)).frozen? b = false) :
    CallsD Try.prog 14 #[.pointer (some a), .pointer (some b)] (.panicking ({ v := .iface 53 (.agg #[.int .i64 i, .int .i64 why]), recovered := false } :: older)) w fun e u' w' => 
      e = .returned (.tuple #[]) ∧ u' = .panicking ({ v := .iface 53 (.agg #[.int .i64 i, .int .i64 why]), recovered := true } :: older) ∧ w' = ((w.alloc (.cells #[.int .i64 i, .int .i64 why] 53)).setCell a (.slice none 0 0)).setCell b (.iface 53 (.agg #[.int .i64 i, .int .i64 why])) := by
  refine callsD_of_wpS Try.func14 rfl fun c₀ cs hu => ?_
  apply wpS_seq
  apply wpS_region
  simp [wpOpsS, go_sem, recoverD, hu, Try.ntmps14, Exit.thenS]
  refine wpS_of_wp ?_
  change Code.wp _ _ _ { tmps := #[.pointer (some a), .pointer (some b), .iface 53 (.agg #[.int .i64 i, .int .i64 why]), .iface 53 (.agg #[.int .i64 i, .int .i64 why]), undef, undef, undef, undef], defers := [] } _
  go_wp2_with (go_at_call 15; refine (fault_any i why w).mono ?_; rintro e w1 ⟨rfl, rfl⟩)
  simp_all [bodyPostS, results, Try.results14]

end Go.Proofs.Ytidcodpekeaigaa
