/- Rows of arguments: numbers repeated; the row of what an argument is made of. -/
import Derived.Test.YtkgejeamcgodhaaGWalk1
import Derived.Test.YtkgejeamcgodhaaGCan4
namespace Go.Proofs.Ytkgejeamcgodhaa
open Go.RowKit
set_option linter.unusedVariables false
set_option maxRecDepth 20000

theorem mul64_one (n : Nat) (hn : n ≤ 8) (w : World) : Calls Try.prog 114 #[.int .u64 1, .int .u64 n] w fun e w' => e = .returned (.tuple #[.int .u64 0, .int .u64 n]) ∧ w' = w := by
  obtain ⟨m, rfl⟩ : ∃ m : Fin 9, n = m.val := ⟨⟨n, by omega⟩, rfl⟩
  clear hn
  match m with
  | 0 | 1 | 2 | 3 | 4 | 5 | 6 | 7 | 8 =>
    go_enter Try.func114, Try.ntmps114
    go_wp2
    go_ret2
    exact ⟨rfl, rfl⟩

theorem mul_one (n : Nat) (hn : n ≤ 8) (w : World) : Calls Try.prog 107 #[.int .u64 1, .int .u64 n] w fun e w' => e = .returned (.tuple #[.int .u64 0, .int .u64 n]) ∧ w' = w := by
  have k1 := hid (mul64_one n hn w)
  go_enter Try.func107, Try.ntmps107
  go_wp2_with (refine k1.out.mono ?_; rintro e w1 ⟨rfl, rfl⟩)
  go_ret2
  exact ⟨rfl, rfl⟩

theorem csize3 : (Try.prog.info? 3).map (·.size) = some 1 := by kernel_rfl

theorem copy_ints (W : World) (g o dLen dCap : Nat) (a : Addr) (sLen sCap m : Nat) (cur cs : List Int) (hg : Row W g cur) (hm : m = Nat.min sLen dLen) (hn : cs.length = m) (hsrc : ∀ j, j < m → W.cell? (a.add j) = some (.int .i64 (cs.getD j 0))) (hfit : o + m ≤ cur.length) :
    ∃ W', (Builtin.copy_ #[44, 44] 3 #[.slice (some ⟨g, o, none⟩) dLen dCap, .slice (some a) sLen sCap]).run Try.prog W = .ok (.int .i64 (m : Int)) W' ∧ Row W' g (cur.take o ++ cs ++ cur.drop (o + m)) ∧ Upd (· = g) W W' := by
  have hr := run_copy_row2 (P := Try.prog) W 44 44 3 3 1 g o dLen dCap a sLen sCap m _ 3 (cs.map (Value.int .i64)) Try.underlying44 csize3 hg hm (by simp [hn]) (fun j v hv => by
    rw [List.getElem?_map] at hv
    have hj : j < cs.length := by
      rcases Nat.lt_or_ge j cs.length with h | h
      · exact h
      · rw [List.getElem?_eq_none h] at hv; cases hv
    rw [List.getElem?_eq_getElem hj] at hv
    rw [hsrc j (by omega), List.getD_eq_getElem?_getD, List.getElem?_eq_getElem hj]
    exact hv) (by simp; omega) (fun v hv => by obtain ⟨z, _, rfl⟩ := List.mem_map.1 hv; rfl)
  refine ⟨_, hr, ?_, Upd.setRow W g _ rfl⟩
  unfold Row
  rw [setRow_heap W g _ _ 3 _ hg]
  simp [hn]

set_option maxHeartbeats 8000000 in
theorem irep_any (x : Int) (a : Option Addr) (c n : Nat) (w : World) (h : Ints w a [x]) (hn : n ≤ 8) :
    Calls Try.prog 93 #[.slice a 1 c, .int .i64 n] w fun e w' => ∃ g, e = .returned (.slice (some ⟨g, 0, none⟩) n n) ∧ w.heap.size ≤ g ∧ Row w' g (List.replicate n x) ∧ Below w.heap.size w w' := by
  obtain ⟨i0, hi0, hz0, hz1, hz2⟩ := info_parts infoInt
  have hby : i0.bytes * n ≤ 281474976710656 := by rw [hz2]; omega
  have hmx : n ≤ maxLen := by unfold maxLen; omega
  have k1 := hid (mul_one n hn w)
  obtain ⟨b, o, rfl, hbl, hc⟩ := h (by simp)
  have hx : w.cell? ⟨b, o, none⟩ = some (.int .i64 x) := by simpa using hc 0 (by simp)
  clear hc h
  have hr0 : Row (w.alloc (.cells (madeCells #[Value.int .i64 0] n) 3)) w.heap.size (List.replicate n 0) := by
    unfold Row
    rw [heap_alloc_new w _]
    congr 2
    apply Array.ext'
    rw [toList_madeCells_one]
    simp
  have HR0 := hid hr0
  have hc1 : (w.alloc (.cells (madeCells #[Value.int .i64 0] n) 3)).cell? ⟨b, o, none⟩ = some (.int .i64 x) := ((below_box w _).cell (p := ⟨b, o, none⟩) hbl).trans hx
  have HC1 := hid hc1
  clear hr0 hc1
  by_cases hn0 : n = 0
  · subst hn0
    have hcp := run_copy_none2 (P := Try.prog) (w.alloc (.cells (madeCells #[Value.int .i64 0] 0) 3)) 44 44 3 3 1 (some ⟨w.heap.size, 0, none⟩) (some ⟨b, o, none⟩) 0 0 1 c Try.underlying44 csize3 rfl rfl rfl
    go_enter Try.func93, Try.ntmps93
    go_wp2_with (first
      | (at_make; go_must (refine wpList_make_lc _ rfl _ _ 44 rfl 3 i0 (.int .i64 0) 1 Try.underlying44 hi0 hz0 hz1 _ _ _ _ 0 0 rfl rfl rfl rfl (Nat.le_refl _) hby hmx ?_))
      | (refine k1.out.mono ?_; rintro e w1 ⟨rfl, h1⟩; subst w1))
    go_loop [8] (fun k => k = .int .i64 0) (fun _ => 0)
    case atStart => rfl
    case round =>
      subst hrel
      go_wp2_with fail
      go_ret
      exact ⟨w.heap.size, rfl, Nat.le_refl _, HR0.out, below_box _ _⟩
  · obtain ⟨W2, hcp, hR2, hU2⟩ := copy_ints (w.alloc (.cells (madeCells #[Value.int .i64 0] n) 3)) w.heap.size 0 n n ⟨b, o, none⟩ 1 c 1 _ [x] HR0.out (Nat.min_eq_left (by omega)).symm rfl (fun j hj => by
      obtain rfl : j = 0 := by omega
      rw [Addr.add_mid]
      simpa using HC1.out) (by simp; omega)
    have HR2 : Hid (Row W2 w.heap.size (List.replicate 1 x ++ List.replicate (n - 1) 0)) := hid (by simpa using hR2)
    have HB2 : Hid (Below w.heap.size w W2) := hid ((below_box w _).trans (hU2.below (by simp) (fun x hx => by omega)))
    clear hR2 hU2
    go_enter Try.func93, Try.ntmps93
    go_wp2_with (first
      | (at_make; go_must (refine wpList_make_lc _ rfl _ _ 44 rfl 3 i0 (.int .i64 0) 1 Try.underlying44 hi0 hz0 hz1 _ _ _ _ n n rfl rfl rfl rfl (Nat.le_refl _) hby hmx ?_))
      | (refine k1.out.mono ?_; rintro e w1 ⟨rfl, h1⟩; subst w1))
    go_loopw [8] (fun k wr => ∃ j : Nat, 1 ≤ j ∧ j ≤ n ∧ k = .int .i64 j ∧ Hid (Row wr w.heap.size (List.replicate j x ++ List.replicate (n - j) 0)) ∧ Hid (Below w.heap.size w wr)) (fun k _ => n - (intOf k).toNat)
    case atStart => exact ⟨1, Nat.le_refl _, by omega, rfl, HR2, HB2⟩
    case round =>
      obtain ⟨j, hj1, hj2, rfl, HR, HB⟩ := hrel
      by_cases hlt : j < n
      · have hlt' : (j : Int) < (n : Int) := by omega
        have hmin : ∃ m : Nat, m = Nat.min j (n - j) := ⟨_, rfl⟩
        obtain ⟨m, hm⟩ := hmin
        have hm1 : 1 ≤ m := by rw [hm]; exact Nat.le_min.2 ⟨by omega, by omega⟩
        have hm2 : m ≤ j := by rw [hm]; exact Nat.min_le_left _ _
        have hm3 : m ≤ n - j := by rw [hm]; exact Nat.min_le_right _ _
        have hRd : Row wr.drew w.heap.size (List.replicate j x ++ List.replicate (n - j) 0) := HR.out
        obtain ⟨W3, hcp3, hR3, hU3⟩ := copy_ints wr.drew w.heap.size j (n - j) (n - j) ⟨w.heap.size, 0, none⟩ j n m _ (List.replicate m x) hRd hm (by simp) (fun i hi => by
          rw [Addr.add_mid]
          obtain ⟨_, _, e, _, hx3⟩ := hRd.ints (by simp; omega)
          cases e
          rw [hx3 i (by simp; omega), List.getD_eq_getElem?_getD, List.getD_eq_getElem?_getD, List.getElem?_append_left (by simp; omega), List.getElem?_replicate, List.getElem?_replicate]
          rw [if_pos (by omega), if_pos (by omega)]) (by simp; omega)
        have HR3 : Hid (Row W3 w.heap.size (List.replicate (j + m) x ++ List.replicate (n - (j + m)) 0)) := hid (by
          have := hR3
          rw [show (List.replicate j x ++ List.replicate (n - j) (0 : Int)).take j = List.replicate j x by simp, show (List.replicate j x ++ List.replicate (n - j) (0 : Int)).drop (j + m) = List.replicate (n - (j + m)) 0 by simp [List.drop_append]; omega] at this
          rw [List.replicate_append_replicate] at this
          exact this)
        have HB3 : Hid (Below w.heap.size w W3) := hid ((below_hp (b := wr.drew) HB.out rfl rfl rfl rfl).trans (hU3.below HB.out.size (fun x hx => by omega)))
        have HM := hid hm
        clear hR3 hU3 hRd hm
        go_wp2_with fail
        go_region
        go_wp2_with fail
        go_roundw
        case rel => exact ⟨j + m, by omega, by omega, by go_num, HR3, HB3⟩
        case measure => simp [intOf]; omega
      · obtain rfl : j = n := by omega
        go_wp2_with fail
        go_ret
        refine ⟨w.heap.size, rfl, Nat.le_refl _, ?_, HB.out⟩
        have := HR.out
        simpa using this

end Go.Proofs.Ytkgejeamcgodhaa
