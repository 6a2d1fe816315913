/- What the calls of processes that no call made answer. -/
import Derived.Test.YtdkkohbkihaojaaQProc
import Derived.OwnWalk
namespace Go.Proofs.Ytdkkohbkihaojaa
open Go.RowKit
set_option linter.unusedVariables false

theorem four_results {fn : Func} {t u v x : Tmp} (h : fn.results = #[.tmp t, .tmp u, .tmp v, .tmp x]) (tmps : Array Value) (P : Program) (w : World) :
    (results fn tmps).run P w = .ok (.tuple #[tmps.getD t undef, tmps.getD u undef, tmps.getD v undef, tmps.getD x undef]) w := by
  simp [results, h]

theorem qdesc_nobody (x : Option Addr) (n : Int) (a : Int) (w : World) (h : Calls Try.prog 68 #[.pointer x] w fun e w' => e = .returned (.bool false) ∧ w' = w) :
    Calls Try.prog 71 #[.pointer x, .int .i64 n, .int .i64 a] w fun e w' => e = .returned (.tuple #[.pointer none, .int .i64 0, .int .i64 22]) ∧ w' = w := by
  have k1 := hid (qproc_nobody x n w h)
  clear h
  go_enter Try.func71, Try.ntmps71
  go_wp2_with fail
  refine k1.out.mono ?_
  rintro e w1 ⟨rfl, rfl⟩
  go_wp2_with fail
  go_ret3
  exact ⟨rfl, rfl⟩

theorem qfork_nobody (x : Option Addr) (n : Int) (w : World) (h : Calls Try.prog 68 #[.pointer x] w fun e w' => e = .returned (.bool false) ∧ w' = w) :
    Calls Try.prog 22 #[.pointer x, .int .i64 n] w fun e w' => e = .returned (.tuple #[.int .i64 0, .int .i64 22]) ∧ w' = w := by
  have k1 := hid (qproc_nobody x n w h)
  clear h
  go_enter Try.func22, Try.ntmps22
  go_wp2_with fail
  refine k1.out.mono ?_
  rintro e w1 ⟨rfl, rfl⟩
  go_wp2_with fail
  go_ret2
  exact ⟨rfl, rfl⟩

theorem qwait_nobody (x : Option Addr) (n : Int) (w : World) (h : Calls Try.prog 68 #[.pointer x] w fun e w' => e = .returned (.bool false) ∧ w' = w) :
    Calls Try.prog 23 #[.pointer x, .int .i64 n] w fun e w' => e = .returned (.tuple #[.int .i64 0, .int .i64 0, .bool false, .int .i64 22]) ∧ w' = w := by
  have k1 := hid (qproc_nobody x n w h)
  clear h
  go_enter Try.func23, Try.ntmps23
  go_wp2_with fail
  refine k1.out.mono ?_
  rintro e w1 ⟨rfl, rfl⟩
  go_wp2_with fail
  (try simp only [Exit.inBlock, Exit.then])
  refine bodyPost_ret (four_results rfl _ _ _) rfl ?_
  exact ⟨rfl, rfl⟩

theorem qinstall_nobody (x : Option Addr) (n : Int) (a : Int) (w : World) (h : Calls Try.prog 68 #[.pointer x] w fun e w' => e = .returned (.bool false) ∧ w' = w) :
    Calls Try.prog 29 #[.pointer x, .int .i64 n, .int .i64 a] w fun e w' => e = .returned (.tuple #[.int .i64 0, .int .i64 22]) ∧ w' = w := by
  have k1 := hid (qproc_nobody x n w h)
  clear h
  go_enter Try.func29, Try.ntmps29
  go_wp2_with fail
  refine k1.out.mono ?_
  rintro e w1 ⟨rfl, rfl⟩
  go_wp2_with fail
  go_ret2
  exact ⟨rfl, rfl⟩

theorem qfile_nobody (x : Option Addr) (n : Int) (a : Int) (w : World) (h : Calls Try.prog 68 #[.pointer x] w fun e w' => e = .returned (.bool false) ∧ w' = w) :
    Calls Try.prog 30 #[.pointer x, .int .i64 n, .int .i64 a] w fun e w' => e = .returned (.tuple #[.int .i64 0, .int .i64 22]) ∧ w' = w := by
  have k1 := hid (qdesc_nobody x n a w h)
  clear h
  go_enter Try.func30, Try.ntmps30
  go_wp2_with fail
  refine k1.out.mono ?_
  rintro e w1 ⟨rfl, rfl⟩
  go_wp2_with fail
  go_ret2
  exact ⟨rfl, rfl⟩

theorem qdup_nobody (x : Option Addr) (n : Int) (a : Int) (w : World) (h : Calls Try.prog 68 #[.pointer x] w fun e w' => e = .returned (.bool false) ∧ w' = w) :
    Calls Try.prog 31 #[.pointer x, .int .i64 n, .int .i64 a] w fun e w' => e = .returned (.tuple #[.int .i64 0, .int .i64 22]) ∧ w' = w := by
  have k1 := hid (qdesc_nobody x n a w h)
  clear h
  go_enter Try.func31, Try.ntmps31
  go_wp2_with fail
  refine k1.out.mono ?_
  rintro e w1 ⟨rfl, rfl⟩
  go_wp2_with fail
  go_ret2
  exact ⟨rfl, rfl⟩

theorem qdup2_nobody (x : Option Addr) (n : Int) (a : Int) (b : Int) (w : World) (h : Calls Try.prog 68 #[.pointer x] w fun e w' => e = .returned (.bool false) ∧ w' = w) :
    Calls Try.prog 32 #[.pointer x, .int .i64 n, .int .i64 a, .int .i64 b] w fun e w' => e = .returned (.tuple #[.int .i64 0, .int .i64 22]) ∧ w' = w := by
  have k1 := hid (qdesc_nobody x n a w h)
  clear h
  go_enter Try.func32, Try.ntmps32
  go_wp2_with fail
  refine k1.out.mono ?_
  rintro e w1 ⟨rfl, rfl⟩
  go_wp2_with fail
  go_ret2
  exact ⟨rfl, rfl⟩

theorem qclose_nobody (x : Option Addr) (n : Int) (a : Int) (w : World) (h : Calls Try.prog 68 #[.pointer x] w fun e w' => e = .returned (.bool false) ∧ w' = w) :
    Calls Try.prog 33 #[.pointer x, .int .i64 n, .int .i64 a] w fun e w' => e = .returned (.int .i64 22) ∧ w' = w := by
  have k1 := hid (qdesc_nobody x n a w h)
  clear h
  go_enter Try.func33, Try.ntmps33
  go_wp2_with fail
  refine k1.out.mono ?_
  rintro e w1 ⟨rfl, rfl⟩
  go_wp2_with fail
  go_ret
  exact ⟨rfl, rfl⟩

theorem qexit_nobody (x : Option Addr) (n : Int) (a : Int) (w : World) (h : Calls Try.prog 68 #[.pointer x] w fun e w' => e = .returned (.bool false) ∧ w' = w) :
    Calls Try.prog 25 #[.pointer x, .int .i64 n, .int .i64 a] w fun e w' => e = .returned (.int .i64 22) ∧ w' = w := by
  have k1 := hid (qproc_nobody x n w h)
  clear h
  go_enter Try.func25, Try.ntmps25
  go_wp2_with fail
  refine k1.out.mono ?_
  rintro e w1 ⟨rfl, rfl⟩
  go_wp2_with fail
  go_ret
  exact ⟨rfl, rfl⟩

theorem qkill_nobody (x : Option Addr) (n : Int) (a : Int) (w : World) (h : Calls Try.prog 68 #[.pointer x] w fun e w' => e = .returned (.bool false) ∧ w' = w) :
    Calls Try.prog 24 #[.pointer x, .int .i64 n, .int .i64 a] w fun e w' => e = .returned (.int .i64 22) ∧ w' = w := by
  have k1 := hid (qproc_nobody x n w h)
  clear h
  go_enter Try.func24, Try.ntmps24
  go_wp2_with fail
  refine k1.out.mono ?_
  rintro e w1 ⟨rfl, rfl⟩
  go_wp2_with fail
  go_ret
  exact ⟨rfl, rfl⟩

theorem qlook_nobody (x : Option Addr) (w : World) (h : Calls Try.prog 68 #[.pointer x] w fun e w' => e = .returned (.bool false) ∧ w' = w) :
    Calls Try.prog 28 #[.pointer x] w fun e w' => e = .returned (.slice none 0 0) ∧ w' = w := by
  have k1 := hid (h)
  clear h
  go_enter Try.func28, Try.ntmps28
  go_wp2_with fail
  refine k1.out.mono ?_
  rintro e w1 ⟨rfl, rfl⟩
  go_wp2_with fail
  go_ret
  exact ⟨rfl, rfl⟩

theorem qrunning_nobody (x : Option Addr) (w : World) (h : Calls Try.prog 68 #[.pointer x] w fun e w' => e = .returned (.bool false) ∧ w' = w) :
    Calls Try.prog 27 #[.pointer x] w fun e w' => e = .returned (.slice none 0 0) ∧ w' = w := by
  have k1 := hid (h)
  clear h
  go_enter Try.func27, Try.ntmps27
  go_wp2_with fail
  refine k1.out.mono ?_
  rintro e w1 ⟨rfl, rfl⟩
  go_wp2_with fail
  go_ret
  exact ⟨rfl, rfl⟩

end Go.Proofs.Ytdkkohbkihaojaa
