/- Texts of this seat, merged. -/
import Derived.Test.YtbglhmcahnkbfaaGreatHMg19

/- What walkToNew does. -/
namespace Go.Proofs.YtbglhmcahnkbfaaGreat
open Go.RowKit
set_option linter.unusedVariables false
set_option maxRecDepth 20000

set_option maxHeartbeats 4000000 in
set_option maxRecDepth 20000 in
theorem tonew_any (p : Nat) (S : Sg) (t : ByteArray) (w : World) (H : Sy w p S) (hT : Tree S) (hs : t.size ≤ 140737488355328) :
    Calls Tryz.prog 107 #[.pointer (some ⟨p, 0, none⟩), .string t] w fun e w' => ∃ v, e = .returned v ∧ Below w.heap.size w w' ∧ Walked w' w.heap.size (toNew S.L (wkS S t)) v := by
  have k1 := hid (walk_in p S t w H hT hs zPlc)
  have HO := hid (fun y s m => @wkS_ok w p S H t y s m)
  have HS := hid H
  have hn := heap_alloc_new w zPlc
  have hB : Below w.heap.size w (w.alloc zPlc) := (Below.refl _ _).alloc (Nat.le_refl _) _
  have HN := hid hn
  have HBB := hid hB
  clear H hn hB
  go_enter Tryz.func107, Tryz.ntmps107
  go_wp2_with fail
  refine k1.out.mono ?_
  rintro e w2 ⟨v, rfl, hb2, hv⟩
  have hN2 : w2.heap[w.heap.size]? = some (.cells #[.slice none 0 0, .string ⟨#[]⟩, .int .i64 0] 169 (0, 0)) := (hb2.block _ (by omega)).trans HN.out
  have HB2 : Hid (Below w.heap.size w w2) := hid (HBB.out.trans (hb2.mono (by omega)))
  have hs2 : w.heap.size + 1 ≤ w2.heap.size := by have := hb2.size; simpa using this
  clear k1 hb2
  cases hr : wkS S t with
  | error er =>
    rw [hr] at hv
    obtain rfl : v = _ := hv
    have her : ¬ er = 0 := by have := wkS_err hr; omega
    have hN3 := plc_behind hN2 (Obj.cells #[.slice none 0 0, .string ⟨#[]⟩, .int .i64 0] 169)
    obtain ⟨r0, r1, r2, f0, f1, f2⟩ := plc_cells hN3
    have HN3 := hid hN3
    clear hN3 hN2 HO
    go_wp2_with (refine wpList_build_is rfl 169 #[] rfl _ (by simpa [Act.eval] using builtPlc) ?_)
    obtain ⟨q1, q2⟩ := plc_fin HN3.out (.slice none 0 0) (.string ⟨#[]⟩) (.int .i64 0)
    refine bodyPost_ret (cell_result2 rfl _ _ w.heap.size 0 rfl [.slice none 0 0, .string ⟨#[]⟩, .int .i64 0] _ (rangeAt_block q1) Tryz.underlying169 rfl csizePlc) rfl ?_
    refine ⟨_, rfl, HB2.out.trans ((((Below.refl _ w2).alloc (Nat.le_refl _) _).mono HB2.out.size).trans (q2.below (by simp; omega) (fun x hx => by omega))), ?_⟩
    rw [hr]
    rfl
  | ok q =>
    obtain ⟨y, s, n⟩ := q
    rw [hr] at hv
    obtain ⟨u, rfl, yv, nm, rfl, hnm, hown⟩ := hv
    obtain ⟨d, hd, hd17, hdk, hnd, hsn, hsl⟩ := HO.out y s n hr
    obtain ⟨gy, cy, rfl, hy0, hgy, hcy, hyc, hcm⟩ := last_own hown hd
    have HOW := hid hown
    have HNM := hid hnm
    have HD := hid (And.intro hd (And.intro hd17 hdk))
    have HC := hid hcy
    clear HO hnd hsn hsl hd hdk hd17 hown hcy hnm
    by_cases hn0 : n = 0
    case neg =>
      have hn1 : ¬ (n : Int) = 0 := by omega
      have hN3 := plc_behind hN2 (Obj.cells #[.slice (some ⟨gy, 0, none⟩) y.length cy, .string nm, .int .i64 (n : Int)] 169)
      obtain ⟨r0, r1, r2, f0, f1, f2⟩ := plc_cells hN3
      have HN3 := hid hN3
      clear hN3 hN2
      go_wp2_with (refine wpList_build_is rfl 169 #[] rfl _ (by simpa [Act.eval] using builtPlc) ?_)
      obtain ⟨q1, q2⟩ := plc_fin HN3.out (.slice none 0 0) (.string ⟨#[]⟩) (.int .i64 0)
      refine bodyPost_ret (cell_result2 rfl _ _ w.heap.size 0 rfl [.slice none 0 0, .string ⟨#[]⟩, .int .i64 0] _ (rangeAt_block q1) Tryz.underlying169 rfl csizePlc) rfl ?_
      refine ⟨_, rfl, HB2.out.trans ((((Below.refl _ w2).alloc (Nat.le_refl _) _).mono HB2.out.size).trans (q2.below (by simp; omega) (fun x hx => by omega))), ?_⟩
      rw [hr, toNew, if_pos hn0]
      rfl
    subst hn0
    have hdL : y.getLastD 0 = d := by
      have := HD.out.1
      rw [List.getLastD_eq_getLast?, this]
      rfl
    have hr2 : toNew S.L (wkS S t) = if 6 ≤ S.L d then .error 28 else .ok (y, s, 0) := by
      rw [hr, toNew, if_neg (by simp), hdL]
    have HR2 := hid hr2
    obtain ⟨W3, g3⟩ : ∃ W3, W3 = w2.alloc (Obj.cells #[.slice (some ⟨gy, 0, none⟩) y.length cy, .string nm, .int .i64 0] 169) := ⟨_, rfl⟩
    have hN3 := plc_behind hN2 (Obj.cells #[.slice (some ⟨gy, 0, none⟩) y.length cy, .string nm, .int .i64 0] 169)
    have hP3 := heap_alloc_new w2 (Obj.cells #[.slice (some ⟨gy, 0, none⟩) y.length cy, .string nm, .int .i64 0] 169)
    have hO3 := HOW.out.alloc (Obj.cells #[.slice (some ⟨gy, 0, none⟩) y.length cy, .string nm, .int .i64 0] 169)
    have hB3 : Below w.heap.size w W3 := by rw [g3]; exact HB2.out.trans ((one_new w2 _).mono HB2.out.size)
    have hZ3 : w2.heap.size < W3.heap.size := by rw [g3]; simp
    rw [← g3] at hN3 hP3 hO3
    have hS3 : Sy W3 p S := HS.out.grow hB3
    obtain ⟨a0, a1, a2, b0, b1, b2⟩ := plc_cells hP3
    have hcy3 : W3.cell? ⟨gy, y.length - 1, none⟩ = some (.int .i64 (d : Int)) ∧ gy < W3.heap.size := by
      rw [g3]
      exact ⟨((one_new w2 _).cell (p := ⟨gy, y.length - 1, none⟩) hgy).trans HC.out, Nat.lt_of_lt_of_le hgy (one_new w2 _).size⟩
    have kd : Hid (Calls Tryz.prog 131 #[.agg #[.slice (some ⟨gy, 0, none⟩) y.length cy, .string nm, .int .i64 0]] W3.drew fun e w' => e = .returned (.int .i64 (d : Int)) ∧ Hid (Below W3.heap.size W3 w')) := by
      refine hid ((dir_any W3.drew gy y.length cy d nm 0 hy0 hcy3.1 hcy3.2 hyc hcm).mono ?_)
      rintro e w' ⟨rfl, h⟩
      exact ⟨rfl, hid ((Below.refl _ W3).drew.trans h)⟩
    have hd17 := HD.out.2.1
    have kf : Hid (∀ W, Hid (Below W3.heap.size W3 W) → Calls Tryz.prog 132 #[.pointer (some ⟨p, 1 + d * 107, none⟩)] W fun e w' => e = .returned (.bool (decide (6 ≤ S.L d))) ∧ w' = W) := by
      refine hid (fun W hW => ?_)
      have hS := hS3.grow hW.out
      exact isfull_any p (1 + d * 107) _ _ _ W (hS.m d hd17) (hS.nms d hd17)
    have hd0 : (0 : Int) ≤ (d : Int) := by omega
    have hd1 : (d : Int) < 17 := by omega
    have HN3 := hid hN3
    have HP3 := hid hP3
    have HO3 := hid hO3
    have HB3 := hid hB3
    have HZ3 := hid hZ3
    clear hr hr2 hN2 hdL hS3 hcy3 hN3 hP3 hO3 hB3 hZ3 b0 b1 b2
    go_wp2_with fail
    rw [← g3]
    clear g3
    by_cases h6 : 6 ≤ S.L d
    · rw [if_pos h6] at HR2
      rw [show decide (6 ≤ S.L d) = true by simp [h6]] at kf
      clear h6
      go_region_held3 (fun W => W.cell? ⟨w2.heap.size, 0, none⟩ = some (.slice (some ⟨gy, 0, none⟩) y.length cy) ∧ W.cell? ⟨w2.heap.size, 1, none⟩ = some (.string nm) ∧ W.cell? ⟨w2.heap.size, 2, none⟩ = some (.int .i64 0)) (go_keep) (first | (go_at_call 131; refine kd.out.mono ?_; rintro e w4 ⟨rfl, hb4⟩; have x0 := (hb4.out.cell (p := ⟨w2.heap.size, 0, none⟩) HZ3.out).trans a0; have x1 := (hb4.out.cell (p := ⟨w2.heap.size, 1, none⟩) HZ3.out).trans a1; have x2 := (hb4.out.cell (p := ⟨w2.heap.size, 2, none⟩) HZ3.out).trans a2) | (go_at_call 132; refine (kf.out _ hb4).mono ?_; rintro e w5 ⟨rfl, rfl⟩))
      have hN5 : w5.heap[w.heap.size]? = some (.cells #[.slice none 0 0, .string ⟨#[]⟩, .int .i64 0] 169 (0, 0)) := (hb4.out.block _ (by have := HZ3.out; omega)).trans HN3.out
      obtain ⟨r0, r1, r2, f0, f1, f2⟩ := plc_cells hN5
      have HN5 := hid hN5
      clear hN5 a0 a1 a2 kd kf
      go_wp2_with (refine wpList_build_is rfl 169 #[] rfl _ (by simpa [Act.eval] using builtPlc) ?_)
      obtain ⟨q1, q2⟩ := plc_fin HN5.out (.slice none 0 0) (.string ⟨#[]⟩) (.int .i64 0)
      refine bodyPost_ret (cell_result2 rfl _ _ w.heap.size 0 rfl [.slice none 0 0, .string ⟨#[]⟩, .int .i64 0] _ (rangeAt_block q1) Tryz.underlying169 rfl csizePlc) rfl ?_
      refine ⟨_, rfl, (HB3.out.trans (hb4.out.mono HB3.out.size)).trans (q2.below (by have := hb4.out.size; have := HB3.out.size; omega) (fun x hx => by omega)), ?_⟩
      rw [HR2.out]
      rfl
    · rw [if_neg h6] at HR2
      rw [show decide (6 ≤ S.L d) = false by simp [h6]] at kf
      clear h6
      go_region_held3 (fun W => W.cell? ⟨w2.heap.size, 0, none⟩ = some (.slice (some ⟨gy, 0, none⟩) y.length cy) ∧ W.cell? ⟨w2.heap.size, 1, none⟩ = some (.string nm) ∧ W.cell? ⟨w2.heap.size, 2, none⟩ = some (.int .i64 0)) (go_keep) (first | (go_at_call 131; refine kd.out.mono ?_; rintro e w4 ⟨rfl, hb4⟩; have x0 := (hb4.out.cell (p := ⟨w2.heap.size, 0, none⟩) HZ3.out).trans a0; have x1 := (hb4.out.cell (p := ⟨w2.heap.size, 1, none⟩) HZ3.out).trans a1; have x2 := (hb4.out.cell (p := ⟨w2.heap.size, 2, none⟩) HZ3.out).trans a2) | (go_at_call 132; refine (kf.out _ hb4).mono ?_; rintro e w5 ⟨rfl, rfl⟩))
      have hN5 : w5.heap[w.heap.size]? = some (.cells #[.slice none 0 0, .string ⟨#[]⟩, .int .i64 0] 169 (0, 0)) := (hb4.out.block _ (by have := HZ3.out; omega)).trans HN3.out
      obtain ⟨r0, r1, r2, f0, f1, f2⟩ := plc_cells hN5
      have HN5 := hid hN5
      clear hN5 a0 a1 a2 kd kf
      go_wp2_with (refine wpList_build_is rfl 169 #[] rfl _ (by simpa [Act.eval] using builtPlc) ?_)
      obtain ⟨q1, q2⟩ := plc_fin HN5.out (.slice (some ⟨gy, 0, none⟩) y.length cy) (.string nm) (.int .i64 0)
      refine bodyPost_ret (cell_result2 rfl _ _ w.heap.size 0 rfl [.slice (some ⟨gy, 0, none⟩) y.length cy, .string nm, .int .i64 0] _ (rangeAt_block q1) Tryz.underlying169 rfl csizePlc) rfl ?_
      refine ⟨_, rfl, (HB3.out.trans (hb4.out.mono HB3.out.size)).trans (q2.below (by have := hb4.out.size; have := HB3.out.size; omega) (fun x hx => by omega)), ?_⟩
      rw [HR2.out]
      refine ⟨_, rfl, _, _, rfl, HNM.out, own_mono (q2.own ((Upd.of_below (F := fun _ => False) hb4.out).own HO3.out (fun _ _ h => h)) (fun k hk e => ?_)) (Nat.le_succ _)⟩
      have := (HO3.out.lt k hk).1
      omega

end Go.Proofs.YtbglhmcahnkbfaaGreat

/- What freeNumber, newNode of a file and give do. -/
namespace Go.Proofs.YtbglhmcahnkbfaaGreat
open Go.RowKit Go.ChangeMaps Go.MapKept
set_option linter.unusedVariables false
set_option maxRecDepth 20000

/-- The lowest number of 1 to 16 that no node has; 0: there is none. -/
def Free (P : Nat → Nd) (n : Nat) : Prop := (n = 0 ∧ ∀ i, 1 ≤ i → i < 17 → (P i).k ≠ 0) ∨ (1 ≤ n ∧ n < 17 ∧ (P n).k = 0 ∧ ∀ i, 1 ≤ i → i < n → (P i).k ≠ 0)

set_option maxHeartbeats 1000000 in
theorem freen_any (p : Nat) (S : Sg) (w : World) (H : Sy w p S) : Calls Tryz.prog 108 #[.pointer (some ⟨p, 0, none⟩)] w fun e w' => (∃ n : Nat, e = .returned (.int .i64 (n : Int)) ∧ Free S.P n) ∧ w' = w := by
  have HH := hid H
  clear H
  go_enter Tryz.func108, Tryz.ntmps108
  go_wp2_with fail
  go_loopw [3] (fun k wr => ∃ j : Nat, 1 ≤ j ∧ j ≤ 17 ∧ k = .int .i64 (j : Int) ∧ wr = w ∧ Hid (∀ i, 1 ≤ i → i < j → (S.P i).k ≠ 0)) (fun k _ => 17 - (intOf k).toNat)
  case atStart => exact ⟨1, by omega, by omega, rfl, rfl, hid (fun i h1 h2 => by omega)⟩
  case round =>
    obtain ⟨j, hj1, hj17, rfl, rfl, HQ⟩ := hrel
    by_cases e : j = 17
    · subst e
      go_wp2_with fail
      go_ret
      exact ⟨⟨0, rfl, .inl ⟨rfl, fun i h1 h2 => HQ.out i h1 (by omega)⟩⟩, rfl⟩
    · have hj : j < 17 := by omega
      have hj2 : (j : Int) ≤ 16 := by omega
      have hj3 : (j : Int) < 17 := by omega
      have hj0 : (0 : Int) ≤ (j : Int) := by omega
      have k1 := hid (isthere_any p (1 + j * 107) _ wr (HH.out.k j hj))
      by_cases h0 : (S.P j).k = 0
      · rw [show decide ((S.P j).k ≠ 0) = false by simp [h0]] at k1
        have H0 := hid h0
        clear h0 e
        go_wp2_with fail
        refine k1.out.mono ?_
        rintro e w1 ⟨rfl, rfl⟩
        go_wp2_with fail
        go_ret
        exact ⟨⟨j, rfl, .inr ⟨hj1, hj, H0.out, fun i h1 h2 => HQ.out i h1 h2⟩⟩, rfl⟩
      · rw [show decide ((S.P j).k ≠ 0) = true by simp [h0]] at k1
        have H0 := hid h0
        clear h0 e
        go_wp2_with fail
        refine k1.out.mono ?_
        rintro e w1 ⟨rfl, rfl⟩
        go_wp2_with fail
        go_roundw
        case rel => exact ⟨j + 1, by omega, by omega, by go_num, by first | rfl | trivial, hid (fun i h1 h2 => by
          by_cases q : i = j
          · subst q; exact H0.out
          · exact HQ.out i h1 (by omega))⟩
        case measure => simp [intOf]; omega

theorem builtNode1 : Tryz.prog.built 144 [(0, .int .i64 1), (1, .int .i64 1)] = some (nodeC 1 1 (.map none)).toArray := by kernel_rfl

set_option maxHeartbeats 2000000 in
set_option maxRecDepth 20000 in
theorem newfile (w : World) :
    Calls Tryz.prog 92 #[.int .i64 1] w fun e w' => e = .returned (.agg (nodeC 1 1 (.map none)).toArray) ∧ Below w.heap.size w w' := by
  obtain ⟨Z, gZ⟩ : ∃ Z, Z = nodeC 0 0 (.map none) := ⟨_, rfl⟩
  obtain ⟨N0, gN0⟩ : ∃ N0, N0 = nodeC 1 1 (.map none) := ⟨_, rfl⟩
  have HB : Hid (Tryz.prog.built 144 [(0, .int .i64 1), (1, .int .i64 1)] = some N0.toArray) := by rw [gN0]; exact builtNode1
  have HZ : Hid (Tryz.zeroCells144 = Z.toArray) := by rw [gZ]; exact nodeZ
  have lZ : Hid (Z.length = 107) := by rw [gZ]; exact nodeC_len _ _ _
  have l0 : Hid (N0.length = 107) := by rw [gN0]; exact nodeC_len _ _ _
  have o0 : Hid (N0.toArray.all (·.oneCell') = true) := by rw [gN0]; exact nodeC_one _ _ _
  rw [← gN0]
  have S0 : Hid ((Tryz.prog.info? 144).map (·.size) = some N0.toArray.size) := by rw [csizeNode, List.size_toArray, l0.out]; exact hid rfl
  have S0' : Hid ((Tryz.prog.info? 144).map (·.size) = some N0.length) := by rw [csizeNode, l0.out]; exact hid rfl
  clear gZ gN0
  have hW2 : Hid (((w.alloc (.cells Tryz.zeroCells144 144)).alloc (.cells Tryz.zeroCells144 144)).heap[w.heap.size + 1]? = some (.cells Z.toArray 144 (0, 0)) ∧ ((w.alloc (.cells Tryz.zeroCells144 144)).alloc (.cells Tryz.zeroCells144 144)).heap[w.heap.size]? = some (.cells Z.toArray 144 (0, 0)) ∧ ((w.alloc (.cells Tryz.zeroCells144 144)).alloc (.cells Tryz.zeroCells144 144)).heap.size = w.heap.size + 2 ∧ Below w.heap.size w ((w.alloc (.cells Tryz.zeroCells144 144)).alloc (.cells Tryz.zeroCells144 144))) := by
    rw [HZ.out]
    have b1 : Below w.heap.size w (w.alloc (.cells Z.toArray 144)) := (Below.refl _ _).alloc (Nat.le_refl _) _
    have s1 : (w.alloc (.cells Z.toArray 144)).heap.size = w.heap.size + 1 := by simp
    have b2 : Below (w.heap.size + 1) (w.alloc (.cells Z.toArray 144)) ((w.alloc (.cells Z.toArray 144)).alloc (.cells Z.toArray 144)) := by
      have := (Below.refl _ (w.alloc (.cells Z.toArray 144))).alloc (Nat.le_refl _) (.cells Z.toArray 144)
      rwa [s1] at this
    refine ⟨?_, ?_, by simp, b1.trans (b2.mono (by omega))⟩
    · have := heap_alloc_new (w.alloc (.cells Z.toArray 144)) (.cells Z.toArray 144)
      rwa [s1] at this
    · rw [b2.block _ (by omega)]; exact heap_alloc_new w _
  go_enter Tryz.func92, Tryz.ntmps92
  go_wp2_with (first
    | (refine wpList_build_is rfl 144 #[(0, .tmp 4), (1, .const (.int .i64 1))] rfl N0.toArray (by simpa [Act.eval] using HB.out) ?_)
    | (refine wpList_store_mid rfl 144 (.tmp 3) (.tmp 5) rfl (w.heap.size + 1) 0 N0.toArray rfl rfl (there_of_block hW2.out.1 0 _ (by rw [List.size_toArray, lZ.out, l0.out]; omega)) S0.out o0.out ?_
       obtain ⟨W3, g3⟩ : ∃ W3, W3 = ((w.alloc (.cells Tryz.zeroCells144 144)).alloc (.cells Tryz.zeroCells144 144)).setCells (w.heap.size + 1) 0 N0.toArray.toList := ⟨_, rfl⟩
       rw [← g3]
       have H3 : Hid (W3.heap[w.heap.size + 1]? = some (.cells N0.toArray 144 (0, 0)) ∧ W3.heap[w.heap.size]? = some (.cells Z.toArray 144 (0, 0)) ∧ W3.heap.size = w.heap.size + 2 ∧ Below w.heap.size w W3) := by
         have hU3 : Upd (· = w.heap.size + 1) ((w.alloc (.cells Tryz.zeroCells144 144)).alloc (.cells Tryz.zeroCells144 144)) W3 := by rw [g3]; exact upd_setCells _ _ _ _
         refine hid ⟨?_, hU3.heap hW2.out.2.1 (by omega), by rw [g3, size_setCells]; exact hW2.out.2.2.1, hW2.out.2.2.2.trans (hU3.below (by have := hW2.out.2.2.1; omega) (fun x hx => by omega))⟩
         rw [g3, heap_setCells _ 144 _ 0 _ Z hW2.out.1 (by simp [lZ.out, l0.out]), splice_all _ _ (by simp [lZ.out, l0.out])]
       clear g3)
    | (refine wpList_load_mid rfl 144 (.tmp 3) rfl (w.heap.size + 1) 0 rfl N0 _ (rangeAt_block H3.out.1) Tryz.underlying144 rfl S0'.out ?_)
    | (refine wpList_store_mid rfl 144 (.tmp 2) (.tmp 10) rfl w.heap.size 0 N0.toArray rfl rfl (there_of_block H3.out.2.1 0 _ (by rw [List.size_toArray, lZ.out, l0.out]; omega)) S0.out o0.out ?_))
  have h5 := heap_setCells w.heap.size 144 N0 0 _ Z H3.out.2.1 (by rw [lZ.out, l0.out]; omega)
  rw [splice_all _ _ (by rw [lZ.out, l0.out])] at h5
  (try simp only [Exit.inBlock, Exit.then])
  refine bodyPost_ret (cell_result rfl _ _ w.heap.size 0 rfl N0 _ (rangeAt_block h5) Tryz.underlying144 rfl S0'.out) rfl ?_
  have u5 := upd_setCells w.heap.size N0 0 W3
  exact ⟨rfl, H3.out.2.2.2.trans (u5.below (by have := H3.out.2.2.1; omega) (fun x hx => by omega))⟩

end Go.Proofs.YtbglhmcahnkbfaaGreat

/- What give does: a directory's name names a node. -/
namespace Go.Proofs.YtbglhmcahnkbfaaGreat
open Go.RowKit Go.ChangeMaps Go.MapKept
set_option linter.unusedVariables false
set_option maxRecDepth 20000

theorem wf17 (n : Nat) (h : n < 17) : (Lit.int .i64 (n : Int)).wf = true := by
  have : ∀ m : Fin 17, (Lit.int .i64 ((m.val : Nat) : Int)).wf = true := by decide
  exact this ⟨n, h⟩

/-- A name more. -/
def Sg.put (S : Sg) (d : Nat) (s : List UInt8) (n : Nat) : Sg := { S with L := fun i => if i = d then S.L d + 1 else S.L i, N := fun i => if i = d then (fun x => if x = s then n else S.N d x) else S.N i }

theorem Sy.give {w w' : World} {p : Nat} {S : Sg} (h : Sy w p S) (d : Nat) (hd : d < 17) (b : Nat) (hb : (S.P d).m = some b) (s : List UInt8) (n : Nat) (hs : S.N d s = 0) (hl : S.L d < 6) (hn : n < 17) (hn0 : n ≠ 0) (D : DataW Unit)
    (h1 : w.ownsMap Tryz.prog 9 (plainElem Tryz.prog 3) b (S.L d) D) (h2 : Maps.size D = S.L d) (h3 : ∀ s, D.atKey (.string s) (.lit (.int .i64 0)) = .lit (.int .i64 (S.N d s : Int))) (h4 : ∀ s, Maps.has D (.string s) = decide (S.N d s ≠ 0))
    (h5 : w'.ownsMap Tryz.prog 9 (plainElem Tryz.prog 3) b (S.L d + 1) (D.put (.string s) (.lit (.int .i64 (n : Int))))) (u : Upd (· = b) w w') : Sy w' p (S.put d s n) := by
  have hbp : b ≠ p := fun e => h.np d hd (e ▸ hb)
  have hT : Maps.Tidy D := h1.tidy (Go.Maps.string_keyed Tryz.underlying9)
  have hM : Maps.IsMap D := hT.isMap
  have hk : WideAt.IsKeyLit (.string s) := by trivial
  obtain ⟨C, hC, hSl⟩ := h.blk
  refine ⟨⟨C, u.heap hC (fun e => hbp e.symm), hSl⟩, fun i hi => ?_, fun i x hi => ?_, fun i hi => ?_, h.ap, h.np, h.dir, h.root, h.zero⟩
  · by_cases e : i = d
    · subst e
      show Nms w' (S.P i).m _ _
      rw [hb]
      simp only [Sg.put, if_true]
      refine ⟨_, h5, ?_, fun x => ?_, fun x => ?_⟩
      · rw [Maps.size_put hT, h4, h2]; simp [hs]
      · by_cases ex : x = s
        · subst ex; rw [Maps.atKey_put_same hM hk]; simp
        · rw [Maps.atKey_put_other (by intro q; injection q with q; exact ex q), h3]; simp [ex]
      · by_cases ex : x = s
        · subst ex; rw [Maps.has_put_same hM hk]; simp [hn0]
        · rw [Maps.has_put_other (by intro q; injection q with q; exact ex q), h4]; simp [ex]
    · show Nms w' (S.P i).m (if i = d then _ else S.L i) (if i = d then _ else S.N i)
      rw [if_neg e, if_neg e]
      refine (h.nms i hi).block (fun c hc => u.block c (h.foot_lt c (.inr ⟨i, hi, hc⟩)) (fun q => e ?_))
      exact h.ap i d c hi hd hc (q ▸ hb)
  · show (if i = d then (fun x => if x = s then n else S.N d x) else S.N i) x < 17
    split
    · dsimp only
      split
      · exact hn
      · exact h.to d x hd
    · exact h.to i x hi
  · show (if i = d then S.L d + 1 else S.L i) ≤ 6
    split
    · omega
    · exact h.le i hi

set_option maxHeartbeats 1000000 in
theorem sclone_any (s : ByteArray) (w : World) (hlim : s.size ≤ 281474976710656) : Calls Tryz.prog 133 #[.string s] w fun e w' => e = .returned (.string s) ∧ Below w.heap.size w w' := by
  have k1 := hid (Tryz.stringslite_Clone s w hlim)
  go_enter Tryz.func133, Tryz.ntmps133
  go_wp2_with fail
  refine k1.out.mono ?_
  rintro e w1 ⟨rfl, hb⟩
  have HB := hid hb
  clear hb k1
  go_wp2_with fail
  go_ret
  exact ⟨rfl, HB.out⟩

set_option maxHeartbeats 4000000 in
set_option maxRecDepth 20000 in
theorem give_any (p : Nat) (S : Sg) (w : World) (H : Sy w p S) (gy ny cy d : Nat) (nm : ByteArray) (m : Int) (n : Nat) (hny : 0 < ny) (hcy : w.cell? ⟨gy, ny - 1, none⟩ = some (.int .i64 (d : Int))) (hgy : gy < w.heap.size) (hyc : ny ≤ cy) (hcm : cy ≤ 9223372036854775807)
    (hd : d < 17) (hk : (S.P d).k = 2) (hs : S.N d (bl nm) = 0) (hl : S.L d < 6) (hn : n < 17) (hn0 : n ≠ 0) (hsz : nm.size ≤ 140737488355328) :
    Calls Tryz.prog 109 #[.pointer (some ⟨p, 0, none⟩), .agg #[.slice (some ⟨gy, 0, none⟩) ny cy, .string nm, .int .i64 m], .int .i64 (n : Int)] w fun e w' => e = .returned (.tuple #[]) ∧ Sy w' p (S.put d (bl nm) n) ∧ Upd (fun x => (S.P d).m = some x) w w' := by
  obtain ⟨b, hb⟩ := Option.isSome_iff_exists.1 (H.dir d hd hk)
  obtain ⟨W1, g1⟩ : ∃ W1, W1 = w.alloc (Obj.cells #[.slice (some ⟨gy, 0, none⟩) ny cy, .string nm, .int .i64 m] 169) := ⟨_, rfl⟩
  have hB1 : Below w.heap.size w W1 := by rw [g1]; exact one_new _ _
  have hZ1 : w.heap.size < W1.heap.size := by rw [g1]; simp
  have hS1 : Sy W1 p S := H.grow hB1
  have hP1 : W1.heap[w.heap.size]? = some (.cells #[.slice (some ⟨gy, 0, none⟩) ny cy, .string nm, .int .i64 m] 169 (0, 0)) := by rw [g1]; exact heap_alloc_new _ _
  obtain ⟨a0, a1, a2, _, _, _⟩ := plc_cells hP1
  have kd : Hid (Calls Tryz.prog 131 #[.agg #[.slice (some ⟨gy, 0, none⟩) ny cy, .string nm, .int .i64 m]] W1.drew fun e w' => e = .returned (.int .i64 (d : Int)) ∧ Hid (Below W1.heap.size W1 w')) := by
    refine hid ((dir_any W1.drew gy ny cy d nm m hny ((hB1.cell (p := ⟨gy, ny - 1, none⟩) hgy).trans hcy) (Nat.lt_of_lt_of_le hgy hB1.size) hyc hcm).mono ?_)
    rintro e w' ⟨rfl, h⟩
    exact ⟨rfl, hid ((Below.refl _ W1).drew.trans h)⟩
  have kc : Hid (∀ W, Hid (Below W1.heap.size W1 W) → Calls Tryz.prog 133 #[.string nm] W fun e w' => e = .returned (.string nm) ∧ Hid (Below W1.heap.size W1 w')) := by
    refine hid (fun W hW => (sclone_any nm W (by omega)).mono ?_)
    rintro e w' ⟨rfl, h⟩
    exact ⟨rfl, hid (hW.out.trans (h.mono hW.out.size))⟩
  have ku : Hid (∀ W, Hid (Below W1.heap.size W1 W) → ∃ W', (Instr.mapUpdate 142 (.map (some b)) (.string nm) (.int .i64 (n : Int))).run Tryz.prog W = .ok () W' ∧ Hid (Sy W' p (S.put d (bl nm) n) ∧ Upd (fun x => (S.P d).m = some x) w W' ∧ (∀ a : Addr, a.block < W.heap.size → a.block ≠ b → W'.cell? a = W.cell? a))) := by
    refine hid (fun W hW => ?_)
    have hS := hS1.grow hW.out
    have hnm := hS.nms d hd
    rw [hb] at hnm
    obtain ⟨D, h1, h2, h3, h4⟩ := hnm
    have hkey : keyOf Tryz.prog 9 (.string nm) = some (.string nm.data.toList) := Go.WideMaps.keyOf_string_mk Tryz.underlying9 (by simp only [maxLen]; omega)
    obtain ⟨W', hr, h5, h6⟩ := h1.store (t := 142) (Go.Maps.string_keyed Tryz.underlying9) Tryz.underlying142 (by simp only [maxLen]; omega) hkey (plainElem_int (H := Unit) Tryz.underlying3 (a := (n : Int)) (wf17 n hn))
    have u : Upd (· = b) W W' := (Upd.of_grown h6.grown).mono (fun x _ hx => by simpa using hx)
    refine ⟨W', hr, hid ⟨hS.give d hd b hb (bl nm) n hs hl hn hn0 D h1 h2 h3 h4 h5 u, ?_, fun a ha hab => World.cell?_of_block (u.block a.block ha hab)⟩⟩
    have ub : Upd (fun x => (S.P d).m = some x) w W := Upd.of_below (hB1.trans (hW.out.mono hB1.size))
    exact ub.trans u (fun x _ hx => by subst hx; exact hb)
  have hm : ∀ W, Hid (Below W1.heap.size W1 W) → W.cell? ⟨p, 1 + d * 107 + 106, none⟩ = some (.map (some b)) := fun W hW => by
    rw [← hb]; exact (hS1.grow hW.out).m d hd
  have hd0 : (0 : Int) ≤ (d : Int) := by omega
  have hd1 : (d : Int) < 17 := by omega
  have HM := hid hm
  have HX : Hid ((∀ W, Hid (Below W1.heap.size W1 W) → w.heap.size < W.heap.size ∧ p < W.heap.size) ∧ w.heap.size ≠ b ∧ p ≠ b) := by
    refine hid ⟨fun W hW => ⟨Nat.lt_of_lt_of_le hZ1 hW.out.size, (hS1.grow hW.out).lt⟩, fun e => ?_, fun e => H.np d hd (e ▸ hb)⟩
    have := H.foot_lt b (.inr ⟨d, hd, hb⟩)
    omega
  have HZ1 := hid hZ1
  have hm0 := hm W1 (hid (Below.refl _ _))
  clear H hb hS1 hP1 hcy hgy hs hl hB1 hk hm hn0
  go_enter Tryz.func109, Tryz.ntmps109
  go_wp2_with fail
  rw [← g1]
  clear g1
  go_region_held3 (fun W => W.cell? ⟨w.heap.size, 0, none⟩ = some (.slice (some ⟨gy, 0, none⟩) ny cy) ∧ W.cell? ⟨w.heap.size, 1, none⟩ = some (.string nm) ∧ W.cell? ⟨w.heap.size, 2, none⟩ = some (.int .i64 m) ∧ W.cell? ⟨p, 1 + d * 107 + 106, none⟩ = some (.map (some b))) (go_keep) (first | (go_at_call 131; refine kd.out.mono ?_; rintro e w4 ⟨rfl, hb4⟩; have x0 := (hb4.out.cell (p := ⟨w.heap.size, 0, none⟩) HZ1.out).trans a0; have x1 := (hb4.out.cell (p := ⟨w.heap.size, 1, none⟩) HZ1.out).trans a1; have x2 := (hb4.out.cell (p := ⟨w.heap.size, 2, none⟩) HZ1.out).trans a2; have x3 := HM.out w4 hb4) | (go_at_call 133; refine (kc.out _ hb4).mono ?_; rintro e w5 ⟨rfl, hb5⟩; have y0 := (hb5.out.cell (p := ⟨w.heap.size, 0, none⟩) HZ1.out).trans a0; have y1 := (hb5.out.cell (p := ⟨w.heap.size, 1, none⟩) HZ1.out).trans a1; have y2 := (hb5.out.cell (p := ⟨w.heap.size, 2, none⟩) HZ1.out).trans a2; have y3 := HM.out w5 hb5; obtain ⟨w6, hup, H6⟩ := ku.out w5 hb5; have z0 := (H6.out.2.2 ⟨w.heap.size, 0, none⟩ (HX.out.1 w5 hb5).1 HX.out.2.1).trans y0; have z1 := (H6.out.2.2 ⟨w.heap.size, 1, none⟩ (HX.out.1 w5 hb5).1 HX.out.2.1).trans y1; have z2 := (H6.out.2.2 ⟨w.heap.size, 2, none⟩ (HX.out.1 w5 hb5).1 HX.out.2.1).trans y2; have z3 := (H6.out.2.2 ⟨p, 1 + d * 107 + 106, none⟩ (HX.out.1 w5 hb5).2 HX.out.2.2).trans y3))
  go_wp2_with fail
  go_end0
  exact ⟨rfl, H6.out.1, H6.out.2.1⟩

end Go.Proofs.YtbglhmcahnkbfaaGreat

/- What Make of a file does. -/
namespace Go.Proofs.YtbglhmcahnkbfaaGreat
open Go.RowKit Go.ChangeMaps Go.MapKept
set_option linter.unusedVariables false
set_option maxRecDepth 20000

theorem Free.uniq {P : Nat → Nd} {a b : Nat} (h : Free P a) (k : Free P b) : a = b := by
  rcases h with ⟨rfl, h⟩ | ⟨h1, h2, h3, h4⟩ <;> rcases k with ⟨rfl, k⟩ | ⟨k1, k2, k3, k4⟩
  · rfl
  · exact absurd k3 (h b k1 k2)
  · exact absurd h3 (k a h1 h2)
  · rcases Nat.lt_trichotomy a b with q | q | q
    · exact absurd h3 (k4 a h1 q)
    · exact q
    · exact absurd k3 (h4 b k1 q)

/-- A new file at a number. -/
def Sg.file (S : Sg) (f : Nat) : Sg := { S with P := updN S.P f (newNd 1 none), L := fun i => if i = f then 0 else S.L i, N := fun i => if i = f then (fun _ => 0) else S.N i }

theorem Sy.file {w : World} {p : Nat} {S : Sg} (h : Sy w p S) (f : Nat) (h1 : f < 17) (h2 : f ≠ 0) (h3 : (S.P f).k = 0) : Sy (w.setCells p (1 + f * 107) (nodeC 1 1 (.map none))) p (S.file f) := by
  obtain ⟨C, hb, hc⟩ := h.blk
  have hf1 : f ≠ 1 := fun e => by rw [e, h.root] at h3; omega
  have hl := hc.len
  have hln := nodeC_len 1 1 (.map none)
  have hs : 1 + f * 107 + (nodeC 1 1 (.map none)).length ≤ C.length := by rw [hl, hln]; omega
  have u := upd_setCells p (nodeC 1 1 (.map none)) (1 + f * 107) w
  refine ⟨⟨_, heap_setCells p 150 (nodeC 1 1 (.map none)) _ w C hb hs, hc.put f h1 (newNd 1 none) (newNd_ok _ _) (by rw [length_splice _ _ _ hs, hl]) (fun j hj => getElem?_splice_out _ _ _ _ hs (by rw [hln]; omega)) (fun j hj => by rw [ndC_new]; exact getElem?_splice_in C _ (1 + f * 107) j hs (by rw [hln]; exact hj))⟩, ?_, ?_, ?_, ?_, ?_, ?_, ?_, ?_⟩
  · intro i hi
    by_cases e : i = f
    · subst e
      show Nms _ (updN S.P i (newNd 1 none) i).m (if i = i then 0 else S.L i) (if i = i then (fun _ => 0) else S.N i)
      rw [updN_same, if_pos rfl, if_pos rfl]
      exact ⟨rfl, fun _ => rfl⟩
    · show Nms _ (updN S.P f (newNd 1 none) i).m (if i = f then 0 else S.L i) (if i = f then (fun _ => 0) else S.N i)
      rw [updN_ne _ _ _ _ e, if_neg e, if_neg e]
      exact (h.nms i hi).block (fun c hc => u.block c (h.foot_lt c (.inr ⟨i, hi, hc⟩)) (fun q => h.np i hi (q ▸ hc)))
  · intro i s hi
    show (if i = f then (fun _ => 0) else S.N i) s < 17
    split
    · show 0 < 17
      omega
    · exact h.to i s hi
  · intro i hi
    show (if i = f then 0 else S.L i) ≤ 6
    split
    · omega
    · exact h.le i hi
  · intro i j b hi hj q1 q2
    change (updN S.P f (newNd 1 none) i).m = some b at q1
    change (updN S.P f (newNd 1 none) j).m = some b at q2
    by_cases e : i = f
    · subst e; rw [updN_same] at q1; simp [newNd] at q1
    · by_cases e' : j = f
      · subst e'; rw [updN_same] at q2; simp [newNd] at q2
      · rw [updN_ne _ _ _ _ e] at q1
        rw [updN_ne _ _ _ _ e'] at q2
        exact h.ap i j b hi hj q1 q2
  · intro i hi
    show (updN S.P f (newNd 1 none) i).m ≠ some p
    by_cases e : i = f
    · subst e; rw [updN_same]; simp [newNd]
    · rw [updN_ne _ _ _ _ e]; exact h.np i hi
  · intro i hi q
    change (updN S.P f (newNd 1 none) i).k = 2 at q
    show (updN S.P f (newNd 1 none) i).m.isSome = true
    by_cases e : i = f
    · subst e; rw [updN_same] at q; simp [newNd] at q
    · rw [updN_ne _ _ _ _ e] at q ⊢; exact h.dir i hi q
  · show (updN S.P f (newNd 1 none) 1).k = 2
    rw [updN_ne _ _ _ _ (fun e => hf1 e.symm)]; exact h.root
  · show (updN S.P f (newNd 1 none) 0).k = 0
    rw [updN_ne _ _ _ _ (fun e => h2 e.symm)]; exact h.zero

theorem toNew_ok {L : Nat → Nat} {r : Except Int (List Nat × List UInt8 × Nat)} {y : List Nat} {s : List UInt8} {n : Nat} (h : toNew L r = .ok (y, s, n)) : r = .ok (y, s, n) ∧ n = 0 ∧ L (y.getLastD 0) < 6 := by
  cases r with
  | error e => simp [toNew] at h
  | ok q =>
    obtain ⟨a, b, c⟩ := q
    simp only [toNew] at h
    split at h
    · simp at h
    · split at h
      · simp at h
      · rename_i h1 h2
        simp only [Except.ok.injEq, Prod.mk.injEq] at h
        obtain ⟨rfl, rfl, rfl⟩ := h
        exact ⟨rfl, by omega, by omega⟩

theorem toNew_err {S : Sg} {t : ByteArray} {e : Int} (h : toNew S.L (wkS S t) = .error e) : e ≠ 0 := by
  cases hr : wkS S t with
  | error a =>
    rw [hr] at h
    simp only [toNew, Except.error.injEq] at h
    have := wkS_err hr
    omega
  | ok q =>
    obtain ⟨a, b, c⟩ := q
    rw [hr] at h
    simp only [toNew] at h
    split at h
    · simp at h; omega
    · split at h <;> simp at h
      omega

/-- What Make comes to. -/
def Made (S : Sg) (p f : Nat) (w w' : World) (e : Ending) : Except Int (List Nat × List UInt8 × Nat) → Prop
  | .error er => e = .returned (.tuple #[.int .i64 0, .int .i64 er]) ∧ Sy w' p S ∧ Below w.heap.size w w'
  | .ok (y, s, _) => e = .returned (.tuple #[.int .i64 (f : Int), .int .i64 0]) ∧ Sy w' p ((S.file f).put (y.getLastD 0) s f) ∧ Upd (S.foot p) w w'

set_option maxHeartbeats 8000000 in
set_option maxRecDepth 20000 in
theorem make_file (p : Nat) (S : Sg) (t : ByteArray) (w : World) (H : Sy w p S) (hT : Tree S) (hs : t.size ≤ 140737488355328) (f : Nat) (hf : Free S.P f) (hf0 : f ≠ 0) :
    Calls Tryz.prog 86 #[.pointer (some ⟨p, 0, none⟩), .string t, .int .i64 1] w fun e w' => Made S p f w w' e (toNew S.L (wkS S t)) := by
  obtain ⟨R, gR⟩ : ∃ R, R = toNew S.L (wkS S t) := ⟨_, rfl⟩
  rw [← gR]
  have k0 := hid H.usable
  have k1 := hid (tonew_any p S t w H hT hs)
  rw [← gR] at k1
  have HS := hid H
  have hf17 : f < 17 ∧ (S.P f).k = 0 := by
    rcases hf with ⟨e, _⟩ | ⟨_, h2, h3, _⟩
    · exact absurd e hf0
    · exact ⟨h2, h3⟩
  have GR := hid gR
  have HF := hid hf
  clear H gR hf
  go_enter Tryz.func86, Tryz.ntmps86
  go_wp2_with fail
  refine k0.out.mono ?_
  rintro e w1 ⟨rfl, rfl⟩
  clear k0
  go_wp2_with fail
  refine k1.out.mono ?_
  rintro e w2 ⟨v, rfl, hb2, hv⟩
  have HB2 := hid hb2
  clear k1 hb2
  cases R with
  | error er =>
    obtain rfl : v = _ := hv
    have her : ¬ er = 0 := toNew_err GR.out.symm
    go_wp2_with fail
    go_ret2
    exact ⟨rfl, HS.out.grow (HB2.out.trans ((one_new w2 _).mono HB2.out.size)), HB2.out.trans ((one_new w2 _).mono HB2.out.size)⟩
  | ok q =>
    obtain ⟨y, s, n⟩ := q
    obtain ⟨hr, hn0, hL⟩ := toNew_ok GR.out.symm
    obtain ⟨u, rfl, yv, nm, rfl, hnm, hown⟩ := hv
    obtain ⟨d, hd, hd17, hdk, hnd, hsn, hsl⟩ := wkS_ok HS.out hr
    obtain ⟨gy, cy, rfl, hy0, hgy, hcy, hyc, hcm⟩ := last_own hown hd
    have hdL : y.getLastD 0 = d := by rw [List.getLastD_eq_getLast?, hd]; rfl
    rw [hdL] at hL
    subst hn0
    have HNM := hid hnm
    have HD := hid (And.intro hd17 (And.intro hdk (And.intro hnd.symm (And.intro hL (And.intro hdL (And.intro hsl hsn))))))
    have hgb := (hown.lt gy rfl).1
    obtain ⟨W3, g3⟩ : ∃ W3, W3 = w2.alloc (Obj.cells #[.slice (some ⟨gy, 0, none⟩) y.length cy, .string nm, .int .i64 0] 169) := ⟨_, rfl⟩
    have hP3 : W3.heap[w2.heap.size]? = some (.cells #[.slice (some ⟨gy, 0, none⟩) y.length cy, .string nm, .int .i64 0] 169 (0, 0)) := by rw [g3]; exact heap_alloc_new w2 _
    have hB3 : Below w1.heap.size w1 W3 := by rw [g3]; exact HB2.out.trans ((one_new w2 _).mono HB2.out.size)
    have hZ3 : w2.heap.size < W3.heap.size ∧ gy < W3.heap.size := by rw [g3]; simp; omega
    have hC3 : W3.cell? ⟨gy, y.length - 1, none⟩ = some (.int .i64 (d : Int)) := by rw [g3]; exact ((one_new w2 _).cell (p := ⟨gy, y.length - 1, none⟩) hgy).trans hcy
    have hS3 : Sy W3 p S := HS.out.grow hB3
    clear hr hnd hsn hsl hd hdk hd17 hown hcy hnm hL hdL
    obtain ⟨a0, a1, a2, _, _, _⟩ := plc_cells hP3
    have hf1 : ¬ (f : Int) = 0 := by omega
    have k3 : Hid (Calls Tryz.prog 108 #[.pointer (some ⟨p, 0, none⟩)] W3 fun e w' => e = .returned (.int .i64 (f : Int)) ∧ w' = W3) := by
      refine hid ((freen_any p S W3 hS3).mono ?_)
      rintro e w' ⟨⟨n, rfl, h⟩, rfl⟩
      rw [h.uniq HF.out]
      exact ⟨rfl, rfl⟩
    obtain ⟨N1, gN⟩ : ∃ N1, N1 = nodeC 1 1 (.map none) := ⟨_, rfl⟩
    have l1 : Hid (N1.length = 107) := by rw [gN]; exact nodeC_len _ _ _
    have o1 : Hid (N1.toArray.all (·.oneCell') = true) := by rw [gN]; exact nodeC_one _ _ _
    have csz : Hid ((Tryz.prog.info? 144).map (·.size) = some N1.toArray.size) := by rw [csizeNode, List.size_toArray, l1.out]; exact hid rfl
    have kn : Hid (Calls Tryz.prog 92 #[.int .i64 1] W3.drew fun e w' => e = .returned (.agg N1.toArray) ∧ Hid (Below W3.heap.size W3 w')) := by
      refine hid ((newfile W3.drew).mono ?_)
      rintro e w' ⟨rfl, h⟩
      rw [gN]
      exact ⟨rfl, hid ((Below.refl _ W3).drew.trans h)⟩
    have HP : Hid (∀ W, Hid (Below W3.heap.size W3 W) → W.there p (1 + f * 107) N1.length) := hid (fun W hW => by rw [l1.out]; exact (hS3.grow hW.out).th f hf17.1)
    have hf0' : (0 : Int) ≤ (f : Int) := by omega
    have hf2 : (f : Int) < 17 := by omega
    have HS3 := hid hS3
    have HP3 := hid hP3
    have HB3 := hid hB3
    have HZ3 := hid hZ3
    have HC3 := hid hC3
    have GN := hid gN
    clear hS3 hP3 hB3 hZ3 hC3 gN
    go_wp2_with fail
    rw [← g3]
    clear g3
    refine k3.out.mono ?_
    rintro e w4 ⟨rfl, rfl⟩
    clear k3
    go_wp2_with fail
    go_region_held3 (fun _ => True) (trivial) ((go_at_call 92; refine kn.out.mono ?_; rintro e w5 ⟨rfl, hb5⟩; have hst := run_cells_mid (P := Tryz.prog) w5 p (1 + f * 107) N1 (HP.out w5 hb5) o1.out))
    obtain ⟨W6, g6⟩ : ∃ W6, W6 = w5.setCells p (1 + f * 107) N1 := ⟨_, rfl⟩
    rw [← g6]
    have hS6 : Sy W6 p (S.file f) := by rw [g6, GN.out]; exact (HS3.out.grow hb5.out).file f hf17.1 hf0 hf17.2
    have u6 : Upd (· = p) w5 W6 := by rw [g6]; exact upd_setCells _ _ _ _
    have hpl := HS.out.lt
    have hb1s := HB2.out.size
    have hP6 : W6.heap[w2.heap.size]? = some (.cells #[.slice (some ⟨gy, 0, none⟩) y.length cy, .string nm, .int .i64 0] 169 (0, 0)) := u6.heap ((hb5.out.block _ HZ3.out.1).trans HP3.out) (by omega)
    have hC6 : W6.cell? ⟨gy, y.length - 1, none⟩ = some (.int .i64 (d : Int)) := (World.cell?_of_block (a := ⟨gy, y.length - 1, none⟩) (u6.block gy (Nat.lt_of_lt_of_le HZ3.out.2 hb5.out.size) (by omega))).trans ((hb5.out.cell (p := ⟨gy, y.length - 1, none⟩) HZ3.out.2).trans HC3.out)
    have hG6 : gy < W6.heap.size := Nat.lt_of_lt_of_le (Nat.lt_of_lt_of_le HZ3.out.2 hb5.out.size) u6.size
    obtain ⟨d17, dk, dn, dl, dL, dsl, dsn⟩ := HD.out
    have hdf : d ≠ f := fun e => by rw [e, hf17.2] at dk; omega
    have hnmz : nm.size ≤ 6 := by have := bl_len nm; rw [HNM.out] at this; omega
    have k6 := hid (give_any p (S.file f) W6 hS6 gy y.length cy d nm 0 f hy0 hC6 hG6 hyc hcm d17 (by show (updN S.P f _ d).k = 2; rw [updN_ne _ _ _ _ hdf]; exact dk) (by show (if d = f then (fun _ => 0) else S.N d) (bl nm) = 0; rw [if_neg hdf, HNM.out]; exact dn) (by show (if d = f then 0 else S.L d) < 6; rw [if_neg hdf]; exact dl) hf17.1 hf0 (by omega))
    have hU6 : Upd (S.foot p) w1 W6 := (Upd.of_below (HB3.out.trans (hb5.out.mono HB3.out.size))).trans u6 (fun x _ hx => .inl hx)
    have HU6 := hid hU6
    have HDF := hid hdf
    obtain ⟨b0, b1, b2, _, _, _⟩ := plc_cells hP6
    have HDL := hid dL
    clear hS6 u6 hP6 hC6 hG6 d17 dk dn dl dL dsl dsn hdf hnmz hU6 g6 a0 a1 a2 hst kn HP hb1s hpl hgb
    go_wp2_with fail
    refine k6.out.mono ?_
    rintro e w7 ⟨rfl, h7, u7⟩
    have H7 := hid h7
    have U7 := hid u7
    clear k6 h7 u7
    go_wp2_with fail
    go_ret2
    refine ⟨rfl, ?_, HU6.out.trans U7.out (fun x _ hx => .inr ⟨d, (HD.out).1, ?_⟩)⟩
    · rw [HDL.out, ← HNM.out]; exact H7.out
    · have : ((S.file f).P d).m = (S.P d).m := by show (updN S.P f _ d).m = _; rw [updN_ne _ _ _ _ HDF.out]
      rw [← this]; exact hx

end Go.Proofs.YtbglhmcahnkbfaaGreat

/- What node, file, Hold, Stat and needed do at a node that is there. -/
namespace Go.Proofs.YtbglhmcahnkbfaaGreat
open Go.RowKit Go.ChangeMaps Go.MapKept
set_option linter.unusedVariables false
set_option maxRecDepth 20000

set_option maxHeartbeats 1000000 in
theorem node_yes (p : Nat) (S : Sg) (w : World) (H : Sy w p S) (i : Nat) (h1 : 1 ≤ i) (h2 : i < 17) (hk : (S.P i).k ≠ 0) :
    Calls Tryz.prog 89 #[.pointer (some ⟨p, 0, none⟩), .int .i64 (i : Int)] w fun e w' => e = .returned (.tuple #[.pointer (some ⟨p, 1 + i * 107, none⟩), .int .i64 0]) ∧ w' = w := by
  have k0 := hid H.usable
  have k1 := hid (isthere_any p (1 + i * 107) _ w (H.k i h2))
  rw [show decide ((S.P i).k ≠ 0) = true by simp [hk]] at k1
  have c1 : ¬ (i : Int) < 1 := by omega
  have c2 : ¬ (16 : Int) < (i : Int) := by omega
  have c3 : (0 : Int) ≤ (i : Int) := by omega
  have c4 : (i : Int) < 17 := by omega
  clear H hk
  go_enter Tryz.func89, Tryz.ntmps89
  go_wp2_with fail
  refine k0.out.mono ?_
  rintro e w1 ⟨rfl, rfl⟩
  clear k0
  go_wp2_with fail
  refine k1.out.mono ?_
  rintro e w1 ⟨rfl, rfl⟩
  clear k1
  go_wp2_with fail
  go_ret2
  exact ⟨rfl, rfl⟩

set_option maxHeartbeats 1000000 in
theorem file_yes (p : Nat) (S : Sg) (w : World) (H : Sy w p S) (i : Nat) (h1 : 1 ≤ i) (h2 : i < 17) (hk : (S.P i).k = 1) :
    Calls Tryz.prog 111 #[.pointer (some ⟨p, 0, none⟩), .int .i64 (i : Int)] w fun e w' => e = .returned (.tuple #[.pointer (some ⟨p, 1 + i * 107, none⟩), .int .i64 0]) ∧ w' = w := by
  have k0 := hid (node_yes p S w H i h1 h2 (by omega))
  have k1 := hid (isdir_any p (1 + i * 107) _ w (H.k i h2))
  rw [show decide ((S.P i).k = 2) = false by simp [hk]] at k1
  clear H hk
  go_enter Tryz.func111, Tryz.ntmps111
  go_wp2_with fail
  refine k0.out.mono ?_
  rintro e w1 ⟨rfl, rfl⟩
  clear k0
  go_wp2_with fail
  refine k1.out.mono ?_
  rintro e w1 ⟨rfl, rfl⟩
  clear k1
  go_wp2_with fail
  go_ret2
  exact ⟨rfl, rfl⟩

/-- A node that differs in one of its first cells. -/
theorem ndC_set0 (x : Nd) (k : Nat) (h : k < 4) (v : Value) (y : Nd) (hy : ndC y = (ndC x).set k v) (j : Nat) (hj : j ≠ k) : (ndC y)[j]? = (ndC x)[j]? := by
  rw [hy, List.getElem?_set_ne (fun e => hj e.symm)]

def Nd.size (x : Nd) (s : Nat) : Nd := { x with s := s }
def Nd.hold (x : Nd) (h : Int) : Nd := { x with h := h }
theorem ndC_size (x : Nd) (s : Nat) : ndC (x.size s) = (ndC x).set 3 (.int .i64 (s : Int)) := by simp [ndC, Nd.size]
theorem ndC_hold (x : Nd) (h : Int) : ndC (x.hold h) = (ndC x).set 2 (.int .i64 h) := by simp [ndC, Nd.hold]

/-- A node with another one in its place. -/
def Sg.at_ (S : Sg) (i : Nat) (x : Nd) : Sg := { S with P := updN S.P i x }
theorem Sg.at_self (S : Sg) (i : Nat) : S.at_ i (S.P i) = S := by
  unfold Sg.at_ updN
  have : (fun j => if j = i then S.P i else S.P j) = S.P := by
    funext j
    by_cases e : j = i <;> simp [e]
  rw [this]

theorem Sy.sizeTo {w : World} {p : Nat} {S : Sg} (h : Sy w p S) (i : Nat) (hi : i < 17) (s : Nat) : Sy (w.setCell ⟨p, 1 + i * 107 + 3, none⟩ (.int .i64 (s : Int))) p (S.at_ i ((S.P i).size s)) :=
  h.set i hi ((S.P i).size s) ⟨(h.ok i hi).b, (h.ok i hi).B⟩ rfl rfl 3 (by omega) _ rfl (fun j hj e => ndC_set0 _ 3 (by omega) _ _ (ndC_size _ _) j e)
theorem Sy.holdTo {w : World} {p : Nat} {S : Sg} (h : Sy w p S) (i : Nat) (hi : i < 17) (s : Int) : Sy (w.setCell ⟨p, 1 + i * 107 + 2, none⟩ (.int .i64 s)) p (S.at_ i ((S.P i).hold s)) :=
  h.set i hi ((S.P i).hold s) ⟨(h.ok i hi).b, (h.ok i hi).B⟩ rfl rfl 2 (by omega) _ rfl (fun j hj e => ndC_set0 _ 2 (by omega) _ _ (ndC_hold _ _) j e)

set_option maxHeartbeats 1000000 in
theorem hold_yes (p : Nat) (S : Sg) (w : World) (H : Sy w p S) (i : Nat) (h1 : 1 ≤ i) (h2 : i < 17) (hk : (S.P i).k ≠ 0) (n : Nat) (hh : (S.P i).h = (n : Int)) (hn : n < 1000) :
    Calls Tryz.prog 58 #[.pointer (some ⟨p, 0, none⟩), .int .i64 (i : Int)] w fun e w' => e = .returned (.int .i64 0) ∧ Sy w' p (S.at_ i ((S.P i).hold ((n + 1 : Nat) : Int))) ∧ Upd (· = p) w w' := by
  have k0 := hid (node_yes p S w H i h1 h2 hk)
  have c := H.h i h2
  rw [hh] at c
  have f := H.fz (1 + i * 107 + 2)
  have c1 : ¬ (n : Int) = 1000 := by omega
  have HS := hid (H.holdTo i h2 ((n + 1 : Nat) : Int))
  have c5 : wrap64 ((n : Int) + 1) = (n : Int) + 1 := by unfold wrap64; omega
  clear H hk hh
  go_enter Tryz.func58, Tryz.ntmps58
  go_wp2_with fail
  refine k0.out.mono ?_
  rintro e w1 ⟨rfl, rfl⟩
  clear k0
  go_wp2_with fail
  go_ret
  exact ⟨rfl, HS.out, Upd.setCell (F := (· = p)) _ ⟨p, _, none⟩ _ rfl⟩

theorem needed_any (s : Nat) (hs : s ≤ 4000) (w : World) : Calls Tryz.prog 135 #[.int .i64 (s : Int)] w fun e w' => e = .returned (.int .i64 (((s + 15) / 16 : Nat) : Int)) ∧ w' = w := by
  have c1 : IntKind.i64.wrap ((s : Int) + 16) = (s : Int) + 16 := by rw [IntKind.wrap_i64]; omega
  have c2 : IntKind.i64.wrap ((s : Int) + 16 - 1) = (s : Int) + 15 := by rw [IntKind.wrap_i64]; omega
  go_enter Tryz.func135, Tryz.ntmps135
  go_wp2_with fail
  go_ret
  refine ⟨?_, rfl⟩
  show Ending.returned (Value.int .i64 (((s : Int) + 15) / 16)) = _
  congr 2

end Go.Proofs.YtbglhmcahnkbfaaGreat
