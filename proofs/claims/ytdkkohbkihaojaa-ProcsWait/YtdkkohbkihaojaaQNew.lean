/- What the program's New of pipes, of files and of processes, and Hold of no file do. -/
import Derived.Test.YtdkkohbkihaojaaNNew2
import Derived.Test.YtdkkohbkihaojaaQRun
namespace Go.Proofs.Ytdkkohbkihaojaa
open Go.RowKit
set_option linter.unusedVariables false

set_option maxHeartbeats 1000000 in
theorem pnew (w : World) :
    Calls Try.prog 88 #[.int .i64 0] w fun e w' => e = .returned (.pointer (some ⟨w.heap.size, 0, none⟩)) ∧ Below w.heap.size w w' ∧ w'.heap.size = w.heap.size + 1 := by
  go_enter Try.func88, Try.ntmps88
  go_wp2
  go_ret
  exact ⟨rfl, (Below.refl _ _).alloc (Nat.le_refl _) _, by simp⟩

set_option maxHeartbeats 1000000 in
theorem fnew (w : World) :
    Calls Try.prog 58 #[.int .i64 0] w fun e w' => ∃ f s, e = .returned (.pointer (some ⟨f, 0, none⟩)) ∧ w'.cell? ⟨f, 0, none⟩ = some (.pointer (some ⟨s, 0, none⟩)) ∧ w.heap.size ≤ f ∧ f < w'.heap.size ∧ Below w.heap.size w w' := by
  have k1 := hid (nnew w)
  go_enter Try.func58, Try.ntmps58
  go_wp2_with fail
  refine k1.out.mono ?_
  rintro e w1 ⟨rfl, _, _, h1, h2⟩
  have HB1 := hid h1
  have HS1 := hid h2
  clear h1 h2
  have k2 := hid (pnew w1)
  go_wp2_with fail
  refine k2.out.mono ?_
  rintro e w2 ⟨rfl, h1, h2⟩
  have HB2 := hid h1
  have HS2 := hid h2
  clear h1 h2
  go_wp2_with fail
  go_ret
  refine ⟨w2.heap.size, w.heap.size, rfl, by simp [go_sem], ?_, by simp, ?_⟩
  · have := HS1.out; have := HS2.out; omega
  · exact (HB1.out.trans (HB2.out.mono (by have := HS1.out; omega))).trans (((Below.refl _ _).alloc (Nat.le_refl _) _).mono (by have := HS1.out; have := HS2.out; omega))

theorem fusable_yes (p s : Nat) (w : World) (h : w.cell? ⟨p, 0, none⟩ = some (.pointer (some ⟨s, 0, none⟩))) :
    Calls Try.prog 103 #[.pointer (some ⟨p, 0, none⟩)] w fun e w' => e = .returned (.bool true) ∧ w' = w := by
  go_enter Try.func103, Try.ntmps103
  go_wp2
  go_ret
  exact ⟨rfl, rfl⟩
theorem fusable_no (p : Nat) (w : World) (h : w.cell? ⟨p, 0, none⟩ = some (.pointer none)) :
    Calls Try.prog 103 #[.pointer (some ⟨p, 0, none⟩)] w fun e w' => e = .returned (.bool false) ∧ w' = w := by
  go_enter Try.func103, Try.ntmps103
  go_wp2
  go_ret
  exact ⟨rfl, rfl⟩
theorem fusable_nil (w : World) :
    Calls Try.prog 103 #[.pointer none] w fun e w' => e = .returned (.bool false) ∧ w' = w := by
  go_enter Try.func103, Try.ntmps103
  go_wp2
  go_ret
  exact ⟨rfl, rfl⟩

theorem ffile_0 (p s : Nat) (w : World) (h : w.cell? ⟨p, 0, none⟩ = some (.pointer (some ⟨s, 0, none⟩))) :
    Calls Try.prog 91 #[.pointer (some ⟨p, 0, none⟩), .int .i64 0] w fun e w' => e = .returned (.tuple #[.pointer none, .int .i64 9]) ∧ w' = w := by
  have k1 := hid (fusable_yes p s w h)
  go_enter Try.func91, Try.ntmps91
  go_wp2_with fail
  refine k1.out.mono ?_
  rintro e w1 ⟨rfl, rfl⟩
  go_wp2_with fail
  go_ret2
  exact ⟨rfl, rfl⟩
theorem ffile_nobody (x : Option Addr) (n : Int) (w : World) (h : Calls Try.prog 103 #[.pointer x] w fun e w' => e = .returned (.bool false) ∧ w' = w) :
    Calls Try.prog 91 #[.pointer x, .int .i64 n] w fun e w' => e = .returned (.tuple #[.pointer none, .int .i64 22]) ∧ w' = w := by
  have k1 := hid h
  clear h
  go_enter Try.func91, Try.ntmps91
  go_wp2_with fail
  refine k1.out.mono ?_
  rintro e w1 ⟨rfl, rfl⟩
  go_wp2_with fail
  go_ret2
  exact ⟨rfl, rfl⟩

/-- Hold of a number of no file. -/
theorem fhold_err (x : Option Addr) (n c : Int) (w : World) (hc : c ≠ 0) (h : Calls Try.prog 91 #[.pointer x, .int .i64 n] w fun e w' => e = .returned (.tuple #[.pointer none, .int .i64 c]) ∧ w' = w) :
    Calls Try.prog 64 #[.pointer x, .int .i64 n] w fun e w' => e = .returned (.int .i64 c) ∧ w' = w := by
  have k1 := hid h
  clear h
  go_enter Try.func64, Try.ntmps64
  go_wp2_with fail
  refine k1.out.mono ?_
  rintro e w1 ⟨rfl, rfl⟩
  go_wp2_with fail
  go_ret
  exact ⟨rfl, rfl⟩

set_option maxHeartbeats 1000000 in
theorem qnew (f s : Nat) (w : World) (h : w.cell? ⟨f, 0, none⟩ = some (.pointer (some ⟨s, 0, none⟩))) :
    Calls Try.prog 34 #[.pointer (some ⟨f, 0, none⟩), .int .i64 0] w fun e w' => e = .returned (.pointer (some ⟨w.heap.size, 0, none⟩)) ∧ Tq w' w.heap.size f 0 first ∧ Below w.heap.size w w' ∧ w'.heap.size = w.heap.size + 1 := by
  have k1 := hid (fhold_err _ 0 9 w (by omega) (ffile_0 f s w h))
  clear h
  go_enter Try.func34, Try.ntmps34
  go_wp2_with fail
  refine k1.out.mono ?_
  rintro e w1 ⟨rfl, rfl⟩
  go_wp2_with fail
  go_ret
  refine ⟨rfl, ⟨.pointer (some ⟨f, 0, none⟩) :: .int .i64 0 :: (pcells noProc ++ (pcells ⟨1, 0, 0⟩ ++ (pcells noProc ++ (pcells noProc ++ pcells noProc)))), by rw [heap_alloc_new w1]; rfl, rfl, rfl, rfl, ?_⟩, (Below.refl _ _).alloc (Nat.le_refl _) _, by simp⟩
  intro i hi j hj
  obtain rfl | rfl | rfl | rfl | rfl : i = 0 ∨ i = 1 ∨ i = 2 ∨ i = 3 ∨ i = 4 := by omega
  all_goals (obtain rfl | rfl | rfl | rfl | rfl | rfl | rfl | rfl | rfl : j = 0 ∨ j = 1 ∨ j = 2 ∨ j = 3 ∨ j = 4 ∨ j = 5 ∨ j = 6 ∨ j = 7 ∨ j = 8 := by omega)
  all_goals rfl

theorem qnew_nobody (x : Option Addr) (a : Int) (w : World) (h : Calls Try.prog 103 #[.pointer x] w fun e w' => e = .returned (.bool false) ∧ w' = w) :
    Calls Try.prog 34 #[.pointer x, .int .i64 a] w fun e w' => e = .returned (.pointer none) ∧ w' = w := by
  have k1 := hid (fhold_err x 0 22 w (by omega) (ffile_nobody x 0 w h))
  clear h
  go_enter Try.func34, Try.ntmps34
  go_wp2_with fail
  refine k1.out.mono ?_
  rintro e w1 ⟨rfl, rfl⟩
  go_wp2_with fail
  go_ret
  exact ⟨rfl, rfl⟩

end Go.Proofs.Ytdkkohbkihaojaa
