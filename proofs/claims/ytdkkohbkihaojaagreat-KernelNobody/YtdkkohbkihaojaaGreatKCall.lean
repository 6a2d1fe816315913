/- Each call's function; forget; Call of Getpid, Space. -/
import Derived.Test.YtdkkohbkihaojaaGreatKRun
namespace Go.Proofs.YtdkkohbkihaojaaGreat
open Go.RowKit
set_option linter.unusedVariables false

def fns : List Value := [20, 21, 22, 23, 24, 25, 26, 27, 27, 27, 27, 27, 28, 29, 30, 31, 32, 33, 34, 35].map fun n => Value.func (.func n) #[] #[]
theorem fns_one : fns.toArray.all (·.oneCell') = true := by simp [fns, Value.oneCell']
theorem builtCalls : Tryz.prog.built 46 [(0, .func (.func 20) #[] #[]), (1, .func (.func 21) #[] #[]), (2, .func (.func 22) #[] #[]), (3, .func (.func 23) #[] #[]), (4, .func (.func 24) #[] #[]), (5, .func (.func 25) #[] #[]), (6, .func (.func 26) #[] #[]), (7, .func (.func 27) #[] #[]), (8, .func (.func 27) #[] #[]), (9, .func (.func 27) #[] #[]), (10, .func (.func 27) #[] #[]), (11, .func (.func 27) #[] #[]), (12, .func (.func 28) #[] #[]), (13, .func (.func 29) #[] #[]), (14, .func (.func 30) #[] #[]), (15, .func (.func 31) #[] #[]), (16, .func (.func 32) #[] #[]), (17, .func (.func 33) #[] #[]), (18, .func (.func 34) #[] #[]), (19, .func (.func 35) #[] #[])] = some fns.toArray := by kernel_rfl
theorem csizeCalls : (Tryz.prog.info? 46).map (·.size) = some 20 := by kernel_rfl
theorem there_alloc (w : World) (C : Array Value) (t : TypeId) (n : Nat) (h : n ≤ C.size) : (w.alloc (.cells C t)).there w.heap.size 0 n := by
  have hb : (w.alloc (.cells C t)).heap[w.heap.size]? = some (.cells C.toList.toArray t (0, 0)) := heap_alloc_new w _
  exact there_of_block hb 0 n (by simp; omega)

set_option maxHeartbeats 1000000 in
set_option maxRecDepth 20000 in
theorem calls_any (w : World) :
    Calls Tryz.prog 13 #[] w fun e w' => e = .returned (.agg fns.toArray) ∧ Below w.heap.size w w' := by
  obtain ⟨N, gN⟩ : ∃ N, N = fns := ⟨_, rfl⟩
  have HB : Hid (Tryz.prog.built 46 [(0, .func (.func 20) #[] #[]), (1, .func (.func 21) #[] #[]), (2, .func (.func 22) #[] #[]), (3, .func (.func 23) #[] #[]), (4, .func (.func 24) #[] #[]), (5, .func (.func 25) #[] #[]), (6, .func (.func 26) #[] #[]), (7, .func (.func 27) #[] #[]), (8, .func (.func 27) #[] #[]), (9, .func (.func 27) #[] #[]), (10, .func (.func 27) #[] #[]), (11, .func (.func 27) #[] #[]), (12, .func (.func 28) #[] #[]), (13, .func (.func 29) #[] #[]), (14, .func (.func 30) #[] #[]), (15, .func (.func 31) #[] #[]), (16, .func (.func 32) #[] #[]), (17, .func (.func 33) #[] #[]), (18, .func (.func 34) #[] #[]), (19, .func (.func 35) #[] #[])] = some N.toArray) := by rw [gN]; exact hid builtCalls
  have H1 : Hid (N.toArray.all (·.oneCell') = true) := by rw [gN]; exact hid fns_one
  have HT : Hid (N.length = 20) := by rw [gN]; exact hid rfl
  have HSZ : Hid ((Tryz.prog.info? 46).map (·.size) = some N.toArray.size) := by rw [csizeCalls, List.size_toArray, HT.out]; exact hid rfl
  have HSL : Hid ((Tryz.prog.info? 46).map (·.size) = some N.length) := by rw [csizeCalls, HT.out]; exact hid rfl
  rw [← gN]
  clear gN
  go_enter Tryz.func13, Tryz.ntmps13
  go_wp2_with (first
    | (refine wpList_build_is rfl 46 #[(0, .func 20), (1, .func 21), (2, .func 22), (3, .func 23), (4, .func 24), (5, .func 25), (6, .func 26), (7, .func 27), (8, .func 27), (9, .func 27), (10, .func 27), (11, .func 27), (12, .func 28), (13, .func 29), (14, .func 30), (15, .func 31), (16, .func 32), (17, .func 33), (18, .func 34), (19, .func 35)] rfl N.toArray (by simpa [Act.eval] using HB.out) ?_)
    | (refine wpList_store_mid rfl 46 (.tmp 0) (.tmp 1) rfl w.heap.size 0 N.toArray rfl rfl (there_alloc w _ 46 _ (by rw [List.size_toArray, HT.out]; decide)) HSZ.out H1.out ?_))
  (try simp only [Exit.inBlock, Exit.then])
  refine bodyPost_ret (cell_result rfl _ _ w.heap.size 0 rfl N _ (World.rangeAt_setCells_same _ _ _ N (there_alloc w _ 46 _ (by rw [HT.out]; decide))) Tryz.underlying46 rfl HSL.out) rfl ?_
  exact ⟨rfl, ((Below.refl _ w).alloc (Nat.le_refl _) _).trans ((upd_setCells w.heap.size _ _ _).below (by simp) (fun x hx => by omega))⟩

theorem getpid_one (c : Nat) (w : World) (h : w.cell? ⟨c, 1, none⟩ = some (.int .i64 1)) :
    Calls Tryz.prog 35 #[.pointer (some ⟨c, 0, none⟩)] w fun e w' => e = .returned (.tuple #[.int .i64 1, .int .i64 0, .bool false]) ∧ w' = w := by
  go_enter Tryz.func35, Tryz.ntmps35
  go_wp2_with fail
  go_ret3
  exact ⟨rfl, rfl⟩

theorem Kk.none_at {w : World} {k f t : Nat} {s : Option Addr} (h : Kk w k f t s) (j : Nat) (hj : j = 0 ∨ j = 2 ∨ j = 3 ∨ j = 4) : Kk (w.setCell ⟨k, 2 + j, none⟩ (.pointer none)) k f t s := by
  refine ⟨?_, h.2.1.upd (Upd.setCell (F := (· = k)) w ⟨k, 2 + j, none⟩ _ rfl) (fun e => h.2.2 e.symm), h.2.2⟩
  rw [heap_setCell_same w k (2 + j) _ _ _ h.1]
  rcases hj with rfl | rfl | rfl | rfl <;> rfl

set_option maxHeartbeats 2000000 in
theorem forget_one (k f t : Nat) (s : Option Addr) (w : World) (h : Kk w k f t s) :
    Calls Tryz.prog 14 #[.pointer (some ⟨k, 0, none⟩)] w fun e w' => e = .returned (.tuple #[]) ∧ Kk w' k f t s ∧ Upd (· = k) w w' := by
  have c1 := h.cells 1 _ rfl
  have k1 := hid (running_one t f w h.2.1)
  have hk := h.lt
  have ht := h.2.1.lt
  have H := hid h
  clear h
  go_enter Tryz.func14, Tryz.ntmps14
  go_wp2_with fail
  refine k1.out.mono ?_
  rintro e w1 ⟨a, c, rfl, ho, hn, hb⟩
  have HO := hid ho
  have HN := hid hn
  have HK1 := hid (H.out.below hb hk ht)
  have HU1 := hid (Upd.of_below (F := (· = k)) hb)
  clear ho hn hb k1 c1
  go_wp2_with fail
  go_loopw [9] (fun v wr => ∃ j : Nat, j ≤ 5 ∧ v = .int .i64 j ∧ Hid (Kk wr k f t s) ∧ Hid (Upd (· = k) w wr) ∧ Hid (One wr a)) (fun v _ => 5 - (intOf v).toNat)
  case atStart => exact ⟨0, by omega, rfl, HK1, HU1, HO⟩
  case round =>
    obtain ⟨j, hj, rfl, HK, HU, HR⟩ := hrel
    by_cases h5 : j < 5
    · have b0 : (0 : Int) ≤ j := by omega
      have b1 : (j : Int) < 5 := by omega
      by_cases h1 : j = 1
      · subst h1
        have k2 := hid (scontains_one a c 1 true wr HR.out (by decide))
        clear hj h5 b0 b1
        go_wp2_with fail
        refine k2.out.mono ?_
        rintro e2 w2 ⟨rfl, rfl⟩
        go_wp2_with fail
        go_roundw
        case rel => exact ⟨2, by omega, by go_num, HK, HU, HR⟩
        case measure => simp [intOf]
      · have k2 := hid (scontains_one a c (j : Int) false wr HR.out (by simp; omega))
        have hcell : wr.cell? ⟨k, 2 + j, none⟩ = some (.pointer none) := by
          refine HK.out.cells (2 + j) _ ?_
          obtain rfl | rfl | rfl | rfl : j = 0 ∨ j = 2 ∨ j = 3 ∨ j = 4 := by omega
          all_goals rfl
        have hfz := HK.out.fz (2 + j)
        have HK2 := hid (HK.out.none_at j (by omega))
        have u2 : Upd (· = k) wr (wr.setCell ⟨k, 2 + j, none⟩ (.pointer none)) := Upd.setCell (F := (· = k)) wr ⟨k, 2 + j, none⟩ _ rfl
        have HU2 := hid (HU.out.trans u2 (fun _ _ h => h))
        have HR2 := hid (HR.out.upd u2 (fun g e h => by have := HN.out g e; omega))
        clear u2
        go_wp2_with fail
        refine k2.out.mono ?_
        rintro e2 w2 ⟨rfl, rfl⟩
        go_wp2_with fail
        go_roundw
        case rel => exact ⟨j + 1, by omega, by go_num, HK2, HU2, HR2⟩
        case measure => simp [intOf]; omega
    · obtain rfl : j = 5 := by omega
      go_wp2_with fail
      go_end0
      exact ⟨rfl, HK.out, HU.out⟩

theorem ix19f : (fun W : World => (Instr.index 46 (.agg fns.toArray) (.int .i64 19)).run Tryz.prog W) = (fun W : World => .ok (.func (.func 35) #[] #[]) W) := by kernel_rfl
theorem ix19 (W : World) : (Instr.index 46 (.agg fns.toArray) (.int .i64 19)).run Tryz.prog W = .ok (.func (.func 35) #[] #[]) W := congrFun ix19f W
theorem csizeInt : (Tryz.prog.info? 3).map (·.size) = some 1 := by kernel_rfl
theorem iscall19 (w : World) : Calls Tryz.prog 11 #[.int .i64 19] w fun e w' => e = .returned (.bool true) ∧ w' = w := by
  go_enter Tryz.func11, Tryz.ntmps11
  go_wp2
  go_ret
  exact ⟨rfl, rfl⟩

set_option maxHeartbeats 2000000 in
set_option maxRecDepth 20000 in
theorem kcall_getpid (k f t : Nat) (w : World) (h : Kk w k f t none) :
    Calls Tryz.prog 4 #[.pointer (some ⟨k, 0, none⟩), .int .i64 1, .int .i64 19, .slice none 0 0] w fun e w' => e = .returned (.tuple #[.int .i64 1, .int .i64 0, .bool false]) ∧ (∃ s, Kk w' k f t (some ⟨s, 0, none⟩)) ∧ Upd (· = k) w w' := by
  have k0 := hid (kusable_yes k f w (h.cells 0 _ rfl))
  have k1 := hid (kruns_one k f t none w h)
  have hk := h.lt
  have ht := h.2.1.lt
  have H := hid h
  clear h
  go_enter Tryz.func4, Tryz.ntmps4
  go_wp2_with fail
  refine k0.out.mono ?_
  rintro e w0 ⟨rfl, rfl⟩
  go_wp2_with fail
  refine k1.out.mono ?_
  rintro e w1 ⟨rfl, hb1⟩
  have H1 := hid (H.out.below hb1 hk ht)
  have HU1 := hid (Upd.of_below (F := (· = k)) hb1)
  clear hb1 k0 k1
  go_wp2_with fail
  refine (iscall19 w1).mono ?_
  rintro e w9 ⟨rfl, rfl⟩
  have k2 := hid (spaceof_none k f t w9 H1.out)
  go_wp2_with fail
  refine k2.out.mono ?_
  rintro e w2 ⟨s, rfl, hk2, hu2⟩
  have H2 := hid hk2
  have HU2 := hid (HU1.out.trans hu2 (fun _ _ h => h))
  clear hk2 hu2 k2
  go_wp2_with (refine wpList_copy_nothing rfl (.tmp 36) (.tmp 37) 33 33 rfl 3 Tryz.underlying33 csizeInt _ _ 3 3 0 0 rfl rfl rfl ?_)
  obtain ⟨W, gW⟩ : ∃ W, W = w2.alloc (.cells #[.pointer (some ⟨k, 0, none⟩), .int .i64 1, .int .i64 19, .int .i64 0, .int .i64 0, .int .i64 0, .pointer (some ⟨s, 0, none⟩)] 44) := ⟨_, rfl⟩
  rw [← gW]
  have hbW : Below w2.heap.size w2 W := by rw [gW]; exact (Below.refl _ _).alloc (Nat.le_refl _) _
  have hcW : W.cell? ⟨w2.heap.size, 1, none⟩ = some (.int .i64 1) := by rw [gW]; simp [go_sem]
  have hsW : w2.heap.size < W.heap.size := by rw [gW]; simp
  clear gW
  refine (calls_any W).mono ?_
  rintro e w3 ⟨rfl, hb3⟩
  have hix := ix19 w3
  have hc3 : w3.cell? ⟨w2.heap.size, 1, none⟩ = some (.int .i64 1) := (hb3.cell (p := ⟨w2.heap.size, 1, none⟩) hsW).trans hcW
  have hk2 := H2.out.lt
  have ht2 := H2.out.2.1.lt
  have H3 := hid ((H2.out.below hbW hk2 ht2).below hb3 (by omega) (by omega))
  have HU3 := hid ((HU2.out.trans (Upd.of_below (F := (· = k)) hbW) (fun _ _ h => h)).trans (Upd.of_below (F := (· = k)) hb3) (fun _ _ h => h))
  clear hbW hcW hb3
  go_wp2_with fail
  refine (getpid_one w2.heap.size w3 hc3).mono ?_
  rintro e w4 ⟨rfl, rfl⟩
  have k5 := hid (forget_one k f t _ w4 H3.out)
  go_wp2_with fail
  refine k5.out.mono ?_
  rintro e w5 ⟨rfl, h5, hu5⟩
  have H5 := hid h5
  have HU5 := hid (HU3.out.trans hu5 (fun _ _ h => h))
  clear h5 hu5 k5
  go_wp2_with fail
  go_ret3
  exact ⟨rfl, ⟨s, H5.out⟩, HU5.out⟩

theorem kspace_one (k f t s : Nat) (w : World) (h : Kk w k f t (some ⟨s, 0, none⟩)) :
    Calls Tryz.prog 5 #[.pointer (some ⟨k, 0, none⟩), .int .i64 1] w fun e w' => e = .returned (.pointer (some ⟨s, 0, none⟩)) ∧ Below w.heap.size w w' := by
  have k0 := hid (kusable_yes k f w (h.cells 0 _ rfl))
  have k1 := hid (kruns_one k f t _ w h)
  have H := hid h
  clear h
  go_enter Tryz.func5, Tryz.ntmps5
  go_wp2_with fail
  refine k0.out.mono ?_
  rintro e w0 ⟨rfl, rfl⟩
  go_wp2_with fail
  refine k1.out.mono ?_
  rintro e w1 ⟨rfl, hb1⟩
  have k2 := hid (spaceof_some k f t s w1 (H.out.below hb1 H.out.lt H.out.2.1.lt))
  have HB := hid hb1
  clear hb1 k0 k1
  go_wp2_with fail
  refine k2.out.mono ?_
  rintro e w2 ⟨rfl, rfl⟩
  go_wp2_with fail
  go_ret
  exact ⟨rfl, HB.out⟩

end Go.Proofs.YtdkkohbkihaojaaGreat
