/- The program's kernel with one process, as it lies; its New, usable, Files, Procs; a list of one number is searched. -/
import Derived.Test.YtdkkohbkihaojaaGreatQNew
import Derived.Test.YtdkkohbkihaojaaGreatQRunning
import Derived.OwnWalk
namespace Go.Proofs.YtdkkohbkihaojaaGreat
open Go.RowKit
set_option linter.unusedVariables false

/-- A kernel of one process, whose memory is at s1, or is not made yet. -/
def Kk (w : World) (k f t : Nat) (s1 : Option Addr) : Prop :=
  w.heap[k]? = some (.cells #[.pointer (some ⟨f, 0, none⟩), .pointer (some ⟨t, 0, none⟩), .pointer none, .pointer s1, .pointer none, .pointer none, .pointer none] 28 (0, 0)) ∧ Tq w t f 0 first ∧ k ≠ t

theorem Kk.lt {w : World} {k f t : Nat} {s : Option Addr} (h : Kk w k f t s) : k < w.heap.size := (Array.getElem?_eq_some_iff.1 h.1).1
theorem Kk.below {B : Nat} {w w' : World} {k f t : Nat} {s : Option Addr} (h : Kk w k f t s) (u : Below B w w') (hk : k < B) (ht : t < B) : Kk w' k f t s :=
  ⟨(u.block k hk).trans h.1, h.2.1.below u ht, h.2.2⟩
theorem Kk.cells {w : World} {k f t : Nat} {s : Option Addr} (h : Kk w k f t s) (j : Nat) (v : Value) (hj : #[Value.pointer (some ⟨f, 0, none⟩), .pointer (some ⟨t, 0, none⟩), .pointer none, .pointer s, .pointer none, .pointer none, .pointer none][j]? = some v) : w.cell? ⟨k, j, none⟩ = some v := by
  rw [cell_of_row w k j _ 28 (0, 0) h.1]; exact hj
theorem Kk.fz {w : World} {k f t : Nat} {s : Option Addr} (h : Kk w k f t s) (j : Nat) : w.frozen? ⟨k, j, none⟩ = false := by simp [World.frozen?, h.1]

theorem kusable_yes (k f : Nat) (w : World) (h : w.cell? ⟨k, 0, none⟩ = some (.pointer (some ⟨f, 0, none⟩))) :
    Calls Tryz.prog 9 #[.pointer (some ⟨k, 0, none⟩)] w fun e w' => e = .returned (.bool true) ∧ w' = w := by
  go_enter Tryz.func9, Tryz.ntmps9
  go_wp2
  go_ret
  exact ⟨rfl, rfl⟩
theorem kusable_no (k : Nat) (w : World) (h : w.cell? ⟨k, 0, none⟩ = some (.pointer none)) :
    Calls Tryz.prog 9 #[.pointer (some ⟨k, 0, none⟩)] w fun e w' => e = .returned (.bool false) ∧ w' = w := by
  go_enter Tryz.func9, Tryz.ntmps9
  go_wp2
  go_ret
  exact ⟨rfl, rfl⟩
theorem kusable_nil (w : World) :
    Calls Tryz.prog 9 #[.pointer none] w fun e w' => e = .returned (.bool false) ∧ w' = w := by
  go_enter Tryz.func9, Tryz.ntmps9
  go_wp2
  go_ret
  exact ⟨rfl, rfl⟩

theorem kfiles_nobody (x : Option Addr) (w : World) (h : Calls Tryz.prog 9 #[.pointer x] w fun e w' => e = .returned (.bool false) ∧ w' = w) :
    Calls Tryz.prog 6 #[.pointer x] w fun e w' => e = .returned (.pointer none) ∧ w' = w := by
  have k1 := hid h
  clear h
  go_enter Tryz.func6, Tryz.ntmps6
  go_wp2_with fail
  refine k1.out.mono ?_
  rintro e w1 ⟨rfl, rfl⟩
  go_wp2_with fail
  go_ret
  exact ⟨rfl, rfl⟩
theorem kprocs_nobody (x : Option Addr) (w : World) (h : Calls Tryz.prog 9 #[.pointer x] w fun e w' => e = .returned (.bool false) ∧ w' = w) :
    Calls Tryz.prog 7 #[.pointer x] w fun e w' => e = .returned (.pointer none) ∧ w' = w := by
  have k1 := hid h
  clear h
  go_enter Tryz.func7, Tryz.ntmps7
  go_wp2_with fail
  refine k1.out.mono ?_
  rintro e w1 ⟨rfl, rfl⟩
  go_wp2_with fail
  go_ret
  exact ⟨rfl, rfl⟩
theorem kspace_nobody (x : Option Addr) (n : Int) (w : World) (h : Calls Tryz.prog 9 #[.pointer x] w fun e w' => e = .returned (.bool false) ∧ w' = w) :
    Calls Tryz.prog 5 #[.pointer x, .int .i64 n] w fun e w' => e = .returned (.pointer none) ∧ w' = w := by
  have k1 := hid h
  clear h
  go_enter Tryz.func5, Tryz.ntmps5
  go_wp2_with fail
  refine k1.out.mono ?_
  rintro e w1 ⟨rfl, rfl⟩
  go_wp2_with fail
  go_ret
  exact ⟨rfl, rfl⟩
theorem kcall_nobody (x : Option Addr) (n m : Int) (a : Option Addr) (l c : Nat) (w : World) (h : Calls Tryz.prog 9 #[.pointer x] w fun e w' => e = .returned (.bool false) ∧ w' = w) :
    Calls Tryz.prog 4 #[.pointer x, .int .i64 n, .int .i64 m, .slice a l c] w fun e w' => e = .returned (.tuple #[.int .i64 0, .int .i64 22, .bool false]) ∧ w' = w := by
  have k1 := hid h
  clear h
  go_enter Tryz.func4, Tryz.ntmps4
  go_wp2_with fail
  refine k1.out.mono ?_
  rintro e w1 ⟨rfl, rfl⟩
  go_wp2_with fail
  go_ret3
  exact ⟨rfl, rfl⟩

theorem kfiles_yes (k f t : Nat) (s : Option Addr) (w : World) (h : Kk w k f t s) :
    Calls Tryz.prog 6 #[.pointer (some ⟨k, 0, none⟩)] w fun e w' => e = .returned (.pointer (some ⟨f, 0, none⟩)) ∧ w' = w := by
  have c0 := h.cells 0 _ rfl
  have k1 := hid (kusable_yes k f w c0)
  clear h
  go_enter Tryz.func6, Tryz.ntmps6
  go_wp2_with fail
  refine k1.out.mono ?_
  rintro e w1 ⟨rfl, rfl⟩
  go_wp2_with fail
  go_ret
  exact ⟨rfl, rfl⟩
theorem kprocs_yes (k f t : Nat) (s : Option Addr) (w : World) (h : Kk w k f t s) :
    Calls Tryz.prog 7 #[.pointer (some ⟨k, 0, none⟩)] w fun e w' => e = .returned (.pointer (some ⟨t, 0, none⟩)) ∧ w' = w := by
  have c1 := h.cells 1 _ rfl
  have k1 := hid (kusable_yes k f w (h.cells 0 _ rfl))
  clear h
  go_enter Tryz.func7, Tryz.ntmps7
  go_wp2_with fail
  refine k1.out.mono ?_
  rintro e w1 ⟨rfl, rfl⟩
  go_wp2_with fail
  go_ret
  exact ⟨rfl, rfl⟩

set_option maxHeartbeats 1000000 in
theorem knew (w : World) :
    Calls Tryz.prog 8 #[.int .i64 0] w fun e w' => ∃ k f t, e = .returned (.pointer (some ⟨k, 0, none⟩)) ∧ Kk w' k f t none ∧ w.heap.size ≤ k ∧ w.heap.size ≤ t ∧ Below w.heap.size w w' := by
  have k1 := hid (fnew w)
  go_enter Tryz.func8, Tryz.ntmps8
  go_wp2_with fail
  refine k1.out.mono ?_
  rintro e w1 ⟨f, s, rfl, hc, hf0, hf1, hb1⟩
  have HB1 := hid hb1
  have k2 := hid (qnew f s w1 hc)
  clear hb1 hc k1
  go_wp2_with fail
  refine k2.out.mono ?_
  rintro e w2 ⟨rfl, hq, hb2, hs2⟩
  have HQ := hid hq
  have HB2 := hid hb2
  have HS2 := hid hs2
  clear hq hb2 hs2 k2
  go_wp2_with fail
  go_ret
  have s1 := HB1.out.size
  have s2 := HS2.out
  have ha : Below w2.heap.size w2 (w2.alloc (.cells #[.pointer (some ⟨f, 0, none⟩), .pointer (some ⟨w1.heap.size, 0, none⟩), .pointer none, .pointer none, .pointer none, .pointer none, .pointer none] 28)) := (Below.refl _ _).alloc (Nat.le_refl _) _
  refine ⟨w2.heap.size, f, w1.heap.size, rfl, ⟨heap_alloc_new w2 _, HQ.out.below ha (by omega), by omega⟩, by omega, by omega, ?_⟩
  exact (HB1.out.trans (HB2.out.mono s1)).trans (ha.mono (by omega))

/-- A list of the one number 1. -/
def One (w : World) (a : Option Addr) : Prop := ∃ g, a = some ⟨g, 0, none⟩ ∧ g < w.heap.size ∧ w.cell? ⟨g, 0, none⟩ = some (.int .i64 1)

set_option maxHeartbeats 1000000 in
theorem sindex_one (a : Option Addr) (c : Nat) (n : Int) (w : World) (h : One w a) :
    Calls Tryz.prog 39 #[.slice a 1 c, .int .i64 n] w fun e w' => e = .returned (.int .i64 (if n = 1 then 0 else -1)) ∧ w' = w := by
  obtain ⟨g, rfl, hl, hc⟩ := h
  by_cases hn : n = 1
  · subst hn
    go_enter Tryz.func39, Tryz.ntmps39
    go_wp2_with fail
    go_loop [8] (fun s => s = .int .i64 0) (fun s => 1)
    case atStart => rfl
    case round =>
      subst hrel
      go_wp2_with fail
      go_ret
      exact ⟨rfl, rfl⟩
  · go_enter Tryz.func39, Tryz.ntmps39
    go_wp2_with fail
    go_loop [8] (fun s => ∃ j : Nat, j ≤ 1 ∧ s = .int .i64 j) (fun s => 1 - (intOf s).toNat)
    case atStart => exact ⟨0, by omega, rfl⟩
    case round =>
      obtain ⟨j, hj, rfl⟩ := hrel
      rcases (show j = 0 ∨ j = 1 by omega) with rfl | rfl
      · go_wp2_with fail
        go_round
        case rel => exact ⟨1, by omega, by go_num⟩
        case measure => simp [intOf]
      · go_wp2_with fail
        go_ret
        simp []

theorem scontains_one (a : Option Addr) (c : Nat) (n : Int) (b : Bool) (w : World) (h : One w a) (hb : b = decide (n = 1)) :
    Calls Tryz.prog 17 #[.slice a 1 c, .int .i64 n] w fun e w' => e = .returned (.bool b) ∧ w' = w := by
  have k1 := hid (sindex_one a c n w h)
  by_cases hn : n = 1
  · obtain rfl : b = true := by rw [hb]; simp [hn]
    simp only [hn, if_true] at k1
    subst hn
    clear h hb
    go_enter Tryz.func17, Tryz.ntmps17
    go_wp2_with fail
    refine k1.out.mono ?_
    rintro e w1 ⟨rfl, rfl⟩
    go_wp2_with fail
    go_ret
    exact ⟨rfl, rfl⟩
  · obtain rfl : b = false := by rw [hb]; simp [hn]
    simp only [hn, if_false] at k1
    clear h hb hn
    go_enter Tryz.func17, Tryz.ntmps17
    go_wp2_with fail
    refine k1.out.mono ?_
    rintro e w1 ⟨rfl, rfl⟩
    go_wp2_with fail
    go_ret
    exact ⟨rfl, rfl⟩

end Go.Proofs.YtdkkohbkihaojaaGreat
