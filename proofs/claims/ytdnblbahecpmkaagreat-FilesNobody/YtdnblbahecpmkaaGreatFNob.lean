/- What the calls of a table of open files that no call made answer. (Written by gen_fnob.py.) -/
import Derived.Test.YtdnblbahecpmkaaGreatNNew2
import Derived.OwnWalk
namespace Go.Proofs.YtdnblbahecpmkaaGreat
open Go.RowKit
set_option linter.unusedVariables false
set_option maxRecDepth 20000

theorem fusable_nil (w : World) : Calls Tryz.prog 23 #[.pointer none] w fun e w' => e = .returned (.bool false) ∧ w' = w := by
  go_enter Tryz.func23, Tryz.ntmps23
  go_wp2_with fail
  go_ret
  exact ⟨rfl, rfl⟩
theorem fusable_no (p : Nat) (w : World) (h : w.cell? ⟨p, 0, none⟩ = some (.pointer none)) : Calls Tryz.prog 23 #[.pointer (some ⟨p, 0, none⟩)] w fun e w' => e = .returned (.bool false) ∧ w' = w := by
  go_enter Tryz.func23, Tryz.ntmps23
  go_wp2_with fail
  go_ret
  exact ⟨rfl, rfl⟩
/-- A table that no call made. -/
def Fnob (w : World) (x : Option Addr) : Prop := x = none ∨ ∃ p, x = some ⟨p, 0, none⟩ ∧ p < w.heap.size ∧ w.cell? ⟨p, 0, none⟩ = some (.pointer none)
theorem Fnob.usable {w : World} {x : Option Addr} (h : Fnob w x) : Calls Tryz.prog 23 #[.pointer x] w fun e w' => e = .returned (.bool false) ∧ w' = w := by
  rcases h with rfl | ⟨p, rfl, _, h⟩
  · exact fusable_nil w
  · exact fusable_no p w h
theorem Fnob.below {w w' : World} {x : Option Addr} (h : Fnob w x) (u : Below w.heap.size w w') : Fnob w' x := by
  rcases h with rfl | ⟨p, rfl, hl, h⟩
  · exact .inl rfl
  · exact .inr ⟨p, rfl, Nat.lt_of_lt_of_le hl u.size, (u.cell (p := ⟨p, 0, none⟩) hl).trans h⟩

theorem fn_file (x : Option Addr) (n : Int) (w : World) (h : Calls Tryz.prog 23 #[.pointer x] w fun e w' => e = .returned (.bool false) ∧ w' = w) :
    Calls Tryz.prog 34 #[.pointer x, .int .i64 n] w fun e w' => e = .returned (.tuple #[.pointer none, .int .i64 22]) ∧ w' = w := by
  have k1 := hid (h)
  clear h
  go_enter Tryz.func34, Tryz.ntmps34
  go_wp2_with fail
  refine k1.out.mono ?_
  rintro e w1 ⟨rfl, rfl⟩
  go_wp2_with fail
  (try simp only [Exit.inBlock, Exit.then])
  go_ret2
  exact ⟨rfl, rfl⟩

theorem fn_opened (x : Option Addr) (n f : Int) (w : World) (h : Calls Tryz.prog 23 #[.pointer x] w fun e w' => e = .returned (.bool false) ∧ w' = w) :
    Calls Tryz.prog 28 #[.pointer x, .int .i64 n, .int .i64 f] w fun e w' => e = .returned (.tuple #[.pointer none, .int .i64 22]) ∧ w' = w := by
  have k1 := hid (fn_file x n w h)
  clear h
  go_enter Tryz.func28, Tryz.ntmps28
  go_wp2_with fail
  refine k1.out.mono ?_
  rintro e w1 ⟨rfl, rfl⟩
  go_wp2_with fail
  (try simp only [Exit.inBlock, Exit.then])
  go_ret2
  exact ⟨rfl, rfl⟩

theorem fn_find (x : Option Addr) (t : ByteArray) (w : World) (h : Calls Tryz.prog 23 #[.pointer x] w fun e w' => e = .returned (.bool false) ∧ w' = w) :
    Calls Tryz.prog 32 #[.pointer x, .string t] w fun e w' => e = .returned (.tuple #[.int .i64 0, .int .i64 22]) ∧ w' = w := by
  have k1 := hid (h)
  clear h
  go_enter Tryz.func32, Tryz.ntmps32
  go_wp2_with fail
  refine k1.out.mono ?_
  rintro e w1 ⟨rfl, rfl⟩
  go_wp2_with fail
  (try simp only [Exit.inBlock, Exit.then])
  go_ret2
  exact ⟨rfl, rfl⟩

theorem fn_open (x : Option Addr) (t : ByteArray) (w : World) (h : Calls Tryz.prog 23 #[.pointer x] w fun e w' => e = .returned (.bool false) ∧ w' = w) :
    Calls Tryz.prog 6 #[.pointer x, .string t, .int .i64 1] w fun e w' => e = .returned (.tuple #[.int .i64 0, .int .i64 22]) ∧ w' = w := by
  have k1 := hid (h)
  clear h
  go_enter Tryz.func6, Tryz.ntmps6
  go_wp2_with fail
  refine k1.out.mono ?_
  rintro e w1 ⟨rfl, rfl⟩
  go_wp2_with fail
  (try simp only [Exit.inBlock, Exit.then])
  go_ret2
  exact ⟨rfl, rfl⟩

theorem fn_pipe (x : Option Addr)  (w : World) (h : Calls Tryz.prog 23 #[.pointer x] w fun e w' => e = .returned (.bool false) ∧ w' = w) :
    Calls Tryz.prog 17 #[.pointer x] w fun e w' => e = .returned (.tuple #[.int .i64 0, .int .i64 0, .int .i64 22]) ∧ w' = w := by
  have k1 := hid (h)
  clear h
  go_enter Tryz.func17, Tryz.ntmps17
  go_wp2_with fail
  refine k1.out.mono ?_
  rintro e w1 ⟨rfl, rfl⟩
  go_wp2_with fail
  (try simp only [Exit.inBlock, Exit.then])
  go_ret3
  exact ⟨rfl, rfl⟩

theorem fn_read (x : Option Addr) (n : Int) (w : World) (h : Calls Tryz.prog 23 #[.pointer x] w fun e w' => e = .returned (.bool false) ∧ w' = w) :
    Calls Tryz.prog 11 #[.pointer x, .int .i64 n, .int .i64 1] w fun e w' => e = .returned (.tuple #[.slice none 0 0, .bool false, .int .i64 22]) ∧ w' = w := by
  have k1 := hid (fn_opened x n 1 w h)
  clear h
  go_enter Tryz.func11, Tryz.ntmps11
  go_wp2_with fail
  refine k1.out.mono ?_
  rintro e w1 ⟨rfl, rfl⟩
  go_wp2_with fail
  (try simp only [Exit.inBlock, Exit.then])
  go_ret3
  exact ⟨rfl, rfl⟩

theorem fn_write (x : Option Addr) (n : Int) (w : World) (h : Calls Tryz.prog 23 #[.pointer x] w fun e w' => e = .returned (.bool false) ∧ w' = w) :
    Calls Tryz.prog 7 #[.pointer x, .int .i64 n, .slice none 0 0] w fun e w' => e = .returned (.tuple #[.int .i64 0, .bool false, .int .i64 22]) ∧ w' = w := by
  have k1 := hid (fn_opened x n 2 w h)
  clear h
  go_enter Tryz.func7, Tryz.ntmps7
  go_wp2_with fail
  refine k1.out.mono ?_
  rintro e w1 ⟨rfl, rfl⟩
  go_wp2_with fail
  (try simp only [Exit.inBlock, Exit.then])
  go_ret3
  exact ⟨rfl, rfl⟩

theorem fn_seek (x : Option Addr) (n : Int) (w : World) (h : Calls Tryz.prog 23 #[.pointer x] w fun e w' => e = .returned (.bool false) ∧ w' = w) :
    Calls Tryz.prog 10 #[.pointer x, .int .i64 n, .int .i64 0, .int .i64 0] w fun e w' => e = .returned (.tuple #[.int .i64 0, .int .i64 22]) ∧ w' = w := by
  have k1 := hid (fn_file x n w h)
  clear h
  go_enter Tryz.func10, Tryz.ntmps10
  go_wp2_with fail
  refine k1.out.mono ?_
  rintro e w1 ⟨rfl, rfl⟩
  go_wp2_with fail
  (try simp only [Exit.inBlock, Exit.then])
  go_ret2
  exact ⟨rfl, rfl⟩

theorem fn_hold (x : Option Addr) (n : Int) (w : World) (h : Calls Tryz.prog 23 #[.pointer x] w fun e w' => e = .returned (.bool false) ∧ w' = w) :
    Calls Tryz.prog 18 #[.pointer x, .int .i64 n] w fun e w' => e = .returned (.int .i64 22) ∧ w' = w := by
  have k1 := hid (fn_file x n w h)
  clear h
  go_enter Tryz.func18, Tryz.ntmps18
  go_wp2_with fail
  refine k1.out.mono ?_
  rintro e w1 ⟨rfl, rfl⟩
  go_wp2_with fail
  (try simp only [Exit.inBlock, Exit.then])
  go_ret
  exact ⟨rfl, rfl⟩

theorem fn_drop (x : Option Addr) (n : Int) (w : World) (h : Calls Tryz.prog 23 #[.pointer x] w fun e w' => e = .returned (.bool false) ∧ w' = w) :
    Calls Tryz.prog 13 #[.pointer x, .int .i64 n] w fun e w' => e = .returned (.int .i64 22) ∧ w' = w := by
  have k1 := hid (fn_file x n w h)
  clear h
  go_enter Tryz.func13, Tryz.ntmps13
  go_wp2_with fail
  refine k1.out.mono ?_
  rintro e w1 ⟨rfl, rfl⟩
  go_wp2_with fail
  (try simp only [Exit.inBlock, Exit.then])
  go_ret
  exact ⟨rfl, rfl⟩

theorem fn_name (x : Option Addr) (t : ByteArray) (w : World) (h : Calls Tryz.prog 23 #[.pointer x] w fun e w' => e = .returned (.bool false) ∧ w' = w) :
    Calls Tryz.prog 8 #[.pointer x, .int .i64 8, .string t, .string ⟨#[]⟩] w fun e w' => e = .returned (.int .i64 22) ∧ w' = w := by
  have k1 := hid (h)
  clear h
  go_enter Tryz.func8, Tryz.ntmps8
  go_wp2_with fail
  refine k1.out.mono ?_
  rintro e w1 ⟨rfl, rfl⟩
  go_wp2_with fail
  (try simp only [Exit.inBlock, Exit.then])
  go_ret
  exact ⟨rfl, rfl⟩

theorem fn_trunc (x : Option Addr) (t : ByteArray) (w : World) (h : Calls Tryz.prog 23 #[.pointer x] w fun e w' => e = .returned (.bool false) ∧ w' = w) :
    Calls Tryz.prog 19 #[.pointer x, .string t, .int .i64 0] w fun e w' => e = .returned (.int .i64 22) ∧ w' = w := by
  have k1 := hid (fn_find x t w h)
  clear h
  go_enter Tryz.func19, Tryz.ntmps19
  go_wp2_with fail
  refine k1.out.mono ?_
  rintro e w1 ⟨rfl, rfl⟩
  go_wp2_with fail
  (try simp only [Exit.inBlock, Exit.then])
  go_ret
  exact ⟨rfl, rfl⟩

theorem fn_look (x : Option Addr)  (w : World) (h : Calls Tryz.prog 23 #[.pointer x] w fun e w' => e = .returned (.bool false) ∧ w' = w) :
    Calls Tryz.prog 16 #[.pointer x] w fun e w' => e = .returned (.slice none 0 0) ∧ w' = w := by
  have k1 := hid (h)
  clear h
  go_enter Tryz.func16, Tryz.ntmps16
  go_wp2_with fail
  refine k1.out.mono ?_
  rintro e w1 ⟨rfl, rfl⟩
  go_wp2_with fail
  (try simp only [Exit.inBlock, Exit.then])
  go_ret
  exact ⟨rfl, rfl⟩

theorem fn_nodes (x : Option Addr)  (w : World) (h : Calls Tryz.prog 23 #[.pointer x] w fun e w' => e = .returned (.bool false) ∧ w' = w) :
    Calls Tryz.prog 15 #[.pointer x] w fun e w' => e = .returned (.slice none 0 0) ∧ w' = w := by
  have k1 := hid (h)
  clear h
  go_enter Tryz.func15, Tryz.ntmps15
  go_wp2_with fail
  refine k1.out.mono ?_
  rintro e w1 ⟨rfl, rfl⟩
  go_wp2_with fail
  (try simp only [Exit.inBlock, Exit.then])
  go_ret
  exact ⟨rfl, rfl⟩

theorem fn_blocks (x : Option Addr)  (w : World) (h : Calls Tryz.prog 23 #[.pointer x] w fun e w' => e = .returned (.bool false) ∧ w' = w) :
    Calls Tryz.prog 14 #[.pointer x] w fun e w' => e = .returned (.slice none 0 0) ∧ w' = w := by
  have k1 := hid (h)
  clear h
  go_enter Tryz.func14, Tryz.ntmps14
  go_wp2_with fail
  refine k1.out.mono ?_
  rintro e w1 ⟨rfl, rfl⟩
  go_wp2_with fail
  (try simp only [Exit.inBlock, Exit.then])
  go_ret
  exact ⟨rfl, rfl⟩

theorem fn_pipes (x : Option Addr)  (w : World) (h : Calls Tryz.prog 23 #[.pointer x] w fun e w' => e = .returned (.bool false) ∧ w' = w) :
    Calls Tryz.prog 20 #[.pointer x] w fun e w' => e = .returned (.slice none 0 0) ∧ w' = w := by
  have k1 := hid (h)
  clear h
  go_enter Tryz.func20, Tryz.ntmps20
  go_wp2_with fail
  refine k1.out.mono ?_
  rintro e w1 ⟨rfl, rfl⟩
  go_wp2_with fail
  (try simp only [Exit.inBlock, Exit.then])
  go_ret
  exact ⟨rfl, rfl⟩

end Go.Proofs.YtdnblbahecpmkaaGreat
