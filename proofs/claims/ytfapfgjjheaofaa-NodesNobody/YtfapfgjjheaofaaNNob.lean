/- What the calls of a file system that no call made answer. (Written by gen_nnob.py.) -/
import Derived.Test.YtfapfgjjheaofaaNNew2
import Derived.OwnWalk
namespace Go.Proofs.Ytfapfgjjheaofaa
open Go.RowKit
set_option linter.unusedVariables false

theorem usable_nil (w : World) : Calls Try.prog 31 #[.pointer none] w fun e w' => e = .returned (.bool false) ∧ w' = w := by
  go_enter Try.func31, Try.ntmps31
  go_wp2_with fail
  go_ret
  exact ⟨rfl, rfl⟩

theorem isdir_any (p o : Nat) (k : Int) (w : World) (h : w.cell? ⟨p, o, none⟩ = some (.int .i64 k)) : Calls Try.prog 42 #[.pointer (some ⟨p, o, none⟩)] w fun e w' => e = .returned (.bool (decide (k = 2))) ∧ w' = w := by
  go_enter Try.func42, Try.ntmps42
  go_wp2_with fail
  go_ret
  refine ⟨?_, rfl⟩
  congr 2

theorem usable_any (p : Nat) (k : Int) (w : World) (h : w.cell? ⟨p, 108, none⟩ = some (.int .i64 k)) : Calls Try.prog 31 #[.pointer (some ⟨p, 0, none⟩)] w fun e w' => e = .returned (.bool (decide (k = 2))) ∧ w' = w := by
  have k1 := hid (isdir_any p 108 k w h)
  clear h
  go_enter Try.func31, Try.ntmps31
  go_wp2_with fail
  refine k1.out.mono ?_
  rintro e w1 ⟨rfl, rfl⟩
  go_wp2_with fail
  go_ret
  exact ⟨rfl, rfl⟩

theorem n_node (x : Option Addr) (n : Int) (w : World) (h : Calls Try.prog 31 #[.pointer x] w fun e w' => e = .returned (.bool false) ∧ w' = w) :
    Calls Try.prog 37 #[.pointer x, .int .i64 n] w fun e w' => e = .returned (.tuple #[.pointer none, .int .i64 22]) ∧ w' = w := by
  have k1 := hid (h)
  clear h
  go_enter Try.func37, Try.ntmps37
  go_wp2_with fail
  refine k1.out.mono ?_
  rintro e w1 ⟨rfl, rfl⟩
  go_wp2_with fail
  (try simp only [Exit.inBlock, Exit.then])
  go_ret2
  exact ⟨rfl, rfl⟩

theorem n_file (x : Option Addr) (n : Int) (w : World) (h : Calls Try.prog 31 #[.pointer x] w fun e w' => e = .returned (.bool false) ∧ w' = w) :
    Calls Try.prog 39 #[.pointer x, .int .i64 n] w fun e w' => e = .returned (.tuple #[.pointer none, .int .i64 22]) ∧ w' = w := by
  have k1 := hid (n_node x n w h)
  clear h
  go_enter Try.func39, Try.ntmps39
  go_wp2_with fail
  refine k1.out.mono ?_
  rintro e w1 ⟨rfl, rfl⟩
  go_wp2_with fail
  (try simp only [Exit.inBlock, Exit.then])
  go_ret2
  exact ⟨rfl, rfl⟩

theorem n_find (x : Option Addr) (t : ByteArray) (w : World) (h : Calls Try.prog 31 #[.pointer x] w fun e w' => e = .returned (.bool false) ∧ w' = w) :
    Calls Try.prog 5 #[.pointer x, .string t] w fun e w' => e = .returned (.tuple #[.int .i64 0, .int .i64 22]) ∧ w' = w := by
  have k1 := hid (h)
  clear h
  go_enter Try.func5, Try.ntmps5
  go_wp2_with fail
  refine k1.out.mono ?_
  rintro e w1 ⟨rfl, rfl⟩
  go_wp2_with fail
  (try simp only [Exit.inBlock, Exit.then])
  go_ret2
  exact ⟨rfl, rfl⟩

theorem n_make (x : Option Addr) (t : ByteArray) (w : World) (h : Calls Try.prog 31 #[.pointer x] w fun e w' => e = .returned (.bool false) ∧ w' = w) :
    Calls Try.prog 6 #[.pointer x, .string t, .int .i64 1] w fun e w' => e = .returned (.tuple #[.int .i64 0, .int .i64 22]) ∧ w' = w := by
  have k1 := hid (h)
  clear h
  go_enter Try.func6, Try.ntmps6
  go_wp2_with fail
  refine k1.out.mono ?_
  rintro e w1 ⟨rfl, rfl⟩
  go_wp2_with fail
  (try simp only [Exit.inBlock, Exit.then])
  go_ret2
  exact ⟨rfl, rfl⟩

theorem n_read (x : Option Addr) (n : Int) (w : World) (h : Calls Try.prog 31 #[.pointer x] w fun e w' => e = .returned (.bool false) ∧ w' = w) :
    Calls Try.prog 8 #[.pointer x, .int .i64 n, .int .i64 0, .int .i64 1] w fun e w' => e = .returned (.tuple #[.slice none 0 0, .int .i64 22]) ∧ w' = w := by
  have k1 := hid (n_file x n w h)
  clear h
  go_enter Try.func8, Try.ntmps8
  go_wp2_with fail
  refine k1.out.mono ?_
  rintro e w1 ⟨rfl, rfl⟩
  go_wp2_with fail
  (try simp only [Exit.inBlock, Exit.then])
  go_ret2
  exact ⟨rfl, rfl⟩

theorem n_write (x : Option Addr) (n : Int) (w : World) (h : Calls Try.prog 31 #[.pointer x] w fun e w' => e = .returned (.bool false) ∧ w' = w) :
    Calls Try.prog 9 #[.pointer x, .int .i64 n, .int .i64 0, .slice none 0 0] w fun e w' => e = .returned (.tuple #[.int .i64 0, .int .i64 22]) ∧ w' = w := by
  have k1 := hid (n_file x n w h)
  clear h
  go_enter Try.func9, Try.ntmps9
  go_wp2_with fail
  refine k1.out.mono ?_
  rintro e w1 ⟨rfl, rfl⟩
  go_wp2_with fail
  (try simp only [Exit.inBlock, Exit.then])
  go_ret2
  exact ⟨rfl, rfl⟩

theorem n_unlink (x : Option Addr) (t : ByteArray) (w : World) (h : Calls Try.prog 31 #[.pointer x] w fun e w' => e = .returned (.bool false) ∧ w' = w) :
    Calls Try.prog 10 #[.pointer x, .string t] w fun e w' => e = .returned (.int .i64 22) ∧ w' = w := by
  have k1 := hid (h)
  clear h
  go_enter Try.func10, Try.ntmps10
  go_wp2_with fail
  refine k1.out.mono ?_
  rintro e w1 ⟨rfl, rfl⟩
  go_wp2_with fail
  (try simp only [Exit.inBlock, Exit.then])
  go_ret
  exact ⟨rfl, rfl⟩

theorem n_rmdir (x : Option Addr) (t : ByteArray) (w : World) (h : Calls Try.prog 31 #[.pointer x] w fun e w' => e = .returned (.bool false) ∧ w' = w) :
    Calls Try.prog 11 #[.pointer x, .string t] w fun e w' => e = .returned (.int .i64 22) ∧ w' = w := by
  have k1 := hid (h)
  clear h
  go_enter Try.func11, Try.ntmps11
  go_wp2_with fail
  refine k1.out.mono ?_
  rintro e w1 ⟨rfl, rfl⟩
  go_wp2_with fail
  (try simp only [Exit.inBlock, Exit.then])
  go_ret
  exact ⟨rfl, rfl⟩

theorem n_link (x : Option Addr) (t : ByteArray) (w : World) (h : Calls Try.prog 31 #[.pointer x] w fun e w' => e = .returned (.bool false) ∧ w' = w) :
    Calls Try.prog 12 #[.pointer x, .string t, .string t] w fun e w' => e = .returned (.int .i64 22) ∧ w' = w := by
  have k1 := hid (n_find x t w h)
  clear h
  go_enter Try.func12, Try.ntmps12
  go_wp2_with fail
  refine k1.out.mono ?_
  rintro e w1 ⟨rfl, rfl⟩
  go_wp2_with fail
  (try simp only [Exit.inBlock, Exit.then])
  go_ret
  exact ⟨rfl, rfl⟩

theorem n_rename (x : Option Addr) (t : ByteArray) (w : World) (h : Calls Try.prog 31 #[.pointer x] w fun e w' => e = .returned (.bool false) ∧ w' = w) :
    Calls Try.prog 13 #[.pointer x, .string t, .string t] w fun e w' => e = .returned (.int .i64 22) ∧ w' = w := by
  have k1 := hid (h)
  clear h
  go_enter Try.func13, Try.ntmps13
  go_wp2_with fail
  refine k1.out.mono ?_
  rintro e w1 ⟨rfl, rfl⟩
  go_wp2_with fail
  (try simp only [Exit.inBlock, Exit.then])
  go_ret
  exact ⟨rfl, rfl⟩

theorem n_resize (x : Option Addr) (n : Int) (w : World) (h : Calls Try.prog 31 #[.pointer x] w fun e w' => e = .returned (.bool false) ∧ w' = w) :
    Calls Try.prog 14 #[.pointer x, .int .i64 n, .int .i64 1] w fun e w' => e = .returned (.int .i64 22) ∧ w' = w := by
  have k1 := hid (n_file x n w h)
  clear h
  go_enter Try.func14, Try.ntmps14
  go_wp2_with fail
  refine k1.out.mono ?_
  rintro e w1 ⟨rfl, rfl⟩
  go_wp2_with fail
  (try simp only [Exit.inBlock, Exit.then])
  go_ret
  exact ⟨rfl, rfl⟩

theorem n_hold (x : Option Addr) (n : Int) (w : World) (h : Calls Try.prog 31 #[.pointer x] w fun e w' => e = .returned (.bool false) ∧ w' = w) :
    Calls Try.prog 15 #[.pointer x, .int .i64 n] w fun e w' => e = .returned (.int .i64 22) ∧ w' = w := by
  have k1 := hid (n_node x n w h)
  clear h
  go_enter Try.func15, Try.ntmps15
  go_wp2_with fail
  refine k1.out.mono ?_
  rintro e w1 ⟨rfl, rfl⟩
  go_wp2_with fail
  (try simp only [Exit.inBlock, Exit.then])
  go_ret
  exact ⟨rfl, rfl⟩

theorem n_drop (x : Option Addr) (n : Int) (w : World) (h : Calls Try.prog 31 #[.pointer x] w fun e w' => e = .returned (.bool false) ∧ w' = w) :
    Calls Try.prog 16 #[.pointer x, .int .i64 n] w fun e w' => e = .returned (.int .i64 22) ∧ w' = w := by
  have k1 := hid (n_node x n w h)
  clear h
  go_enter Try.func16, Try.ntmps16
  go_wp2_with fail
  refine k1.out.mono ?_
  rintro e w1 ⟨rfl, rfl⟩
  go_wp2_with fail
  (try simp only [Exit.inBlock, Exit.then])
  go_ret
  exact ⟨rfl, rfl⟩

theorem n_look (x : Option Addr)  (w : World) (h : Calls Try.prog 31 #[.pointer x] w fun e w' => e = .returned (.bool false) ∧ w' = w) :
    Calls Try.prog 17 #[.pointer x] w fun e w' => e = .returned (.slice none 0 0) ∧ w' = w := by
  have k1 := hid (h)
  clear h
  go_enter Try.func17, Try.ntmps17
  go_wp2_with fail
  refine k1.out.mono ?_
  rintro e w1 ⟨rfl, rfl⟩
  go_wp2_with fail
  (try simp only [Exit.inBlock, Exit.then])
  go_ret
  exact ⟨rfl, rfl⟩

theorem n_blocks (x : Option Addr)  (w : World) (h : Calls Try.prog 31 #[.pointer x] w fun e w' => e = .returned (.bool false) ∧ w' = w) :
    Calls Try.prog 18 #[.pointer x] w fun e w' => e = .returned (.slice none 0 0) ∧ w' = w := by
  have k1 := hid (h)
  clear h
  go_enter Try.func18, Try.ntmps18
  go_wp2_with fail
  refine k1.out.mono ?_
  rintro e w1 ⟨rfl, rfl⟩
  go_wp2_with fail
  (try simp only [Exit.inBlock, Exit.then])
  go_ret
  exact ⟨rfl, rfl⟩

/-- A file system that no call made. -/
def Nob (w : World) (x : Option Addr) : Prop := x = none ∨ ∃ p, x = some ⟨p, 0, none⟩ ∧ p < w.heap.size ∧ w.cell? ⟨p, 108, none⟩ = some (.int .i64 0)
theorem Nob.usable {w : World} {x : Option Addr} (h : Nob w x) : Calls Try.prog 31 #[.pointer x] w fun e w' => e = .returned (.bool false) ∧ w' = w := by
  rcases h with rfl | ⟨p, rfl, _, h⟩
  · exact usable_nil w
  · exact (usable_any p 0 w h)
theorem Nob.below {w w' : World} {x : Option Addr} (h : Nob w x) (u : Below w.heap.size w w') : Nob w' x := by
  rcases h with rfl | ⟨p, rfl, hl, h⟩
  · exact .inl rfl
  · exact .inr ⟨p, rfl, Nat.lt_of_lt_of_le hl u.size, (u.cell (p := ⟨p, 108, none⟩) hl).trans h⟩

theorem cell_two {P : Program} {fn : Func} {t u : Tmp} {ty : TypeId} (h : fn.results = #[.cell t ty, .tmp u]) (tmps : Array Value) (w : World) (b o : Nat) (ht : tmps.getD t undef = .pointer (some ⟨b, o, none⟩)) (cs : List Value) (d : TypeDesc) (hc : w.rangeAt b o cs)
    (hu : P.underlying ty = some d) (hd : d.isRow = true) (hi : (P.info? ty).map (·.size) = some cs.length) :
    (results fn tmps).run P w = .ok (.tuple #[.agg cs.toArray, tmps.getD u undef]) w := by
  have hl := run_loadVar_mid (P := P) w b o ty cs d hc hu hd hi
  rw [Array.getD_eq_getD_getElem?] at ht
  simp [results, h, ht, asAddr, hl]

theorem csizeInfo : (Try.prog.info? 38).map (·.size) = some 3 := by kernel_rfl

set_option maxRecDepth 20000 in
theorem n_stat (x : Option Addr) (n : Int) (w : World) (h : Nob w x) :
    Calls Try.prog 7 #[.pointer x, .int .i64 n] w fun e w' => e = .returned (.tuple #[.agg #[.int .i64 0, .int .i64 0, .int .i64 0], .int .i64 22]) ∧ Below w.heap.size w w' := by
  obtain ⟨W, gW⟩ : ∃ W, W = w.alloc (Obj.cells #[Value.int IntKind.i64 0, Value.int IntKind.i64 0, Value.int IntKind.i64 0] 38) := ⟨_, rfl⟩
  have hb : Below w.heap.size w W := by rw [gW]; exact (Below.refl _ _).alloc (Nat.le_refl _) _
  have hh : W.heap[w.heap.size]? = some (.cells [Value.int IntKind.i64 0, Value.int IntKind.i64 0, Value.int IntKind.i64 0].toArray 38 (0, 0)) := by rw [gW]; exact heap_alloc_new w _
  have k1 := hid (n_node x n W (h.below hb).usable)
  have HH := hid hh
  have HB := hid hb
  have GW := hid gW
  clear h hb hh gW
  go_enter Try.func7, Try.ntmps7
  go_wp2_with fail
  rw [← GW.out]
  refine k1.out.mono ?_
  rintro e w1 ⟨rfl, rfl⟩
  clear k1
  have z0 := cell_list HH.out (j := 0) rfl
  have z1 := cell_list HH.out (j := 1) rfl
  have z2 := cell_list HH.out (j := 2) rfl
  have f0 : w1.frozen? ⟨w.heap.size, 0, none⟩ = false := by simp [World.frozen?, HH.out]
  have f1 : w1.frozen? ⟨w.heap.size, 1, none⟩ = false := by simp [World.frozen?, HH.out]
  have f2 : w1.frozen? ⟨w.heap.size, 2, none⟩ = false := by simp [World.frozen?, HH.out]
  go_wp2_with fail
  have h5 := heap_setCells w.heap.size 38 [.int .i64 0, .int .i64 0, .int .i64 0] 0 _ _ HH.out (by simp)
  (try simp only [Exit.inBlock, Exit.then])
  refine bodyPost_ret (cell_two rfl _ _ w.heap.size 0 rfl [.int .i64 0, .int .i64 0, .int .i64 0] _ (rangeAt_block h5) Try.underlying38 rfl csizeInfo) rfl ?_
  exact ⟨rfl, HB.out.trans ((upd_setCells w.heap.size [.int .i64 0, .int .i64 0, .int .i64 0] 0 w1).below HB.out.size (fun x hx => by omega))⟩

end Go.Proofs.Ytfapfgjjheaofaa
