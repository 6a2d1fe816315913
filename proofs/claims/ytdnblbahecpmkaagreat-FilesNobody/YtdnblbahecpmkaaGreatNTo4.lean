/- What walkToNew does. -/
import Derived.Test.YtdnblbahecpmkaaGreatNTo3
namespace Go.Proofs.YtdnblbahecpmkaaGreat
open Go.RowKit
set_option linter.unusedVariables false
set_option maxRecDepth 20000

set_option maxHeartbeats 4000000 in
set_option maxRecDepth 20000 in
theorem tonew_any (p : Nat) (S : Sg) (t : ByteArray) (w : World) (H : Sy w p S) (hT : Tree S) (hs : t.size ≤ 140737488355328) :
    Calls Tryz.prog 61 #[.pointer (some ⟨p, 0, none⟩), .string t] w fun e w' => ∃ v, e = .returned v ∧ Below w.heap.size w w' ∧ Walked w' w.heap.size (toNew S.L (wkS S t)) v := by
  have k1 := hid (walk_in p S t w H hT hs zPlc)
  have HO := hid (fun y s m => @wkS_ok w p S H t y s m)
  have HS := hid H
  have hn := heap_alloc_new w zPlc
  have hB : Below w.heap.size w (w.alloc zPlc) := (Below.refl _ _).alloc (Nat.le_refl _) _
  have HN := hid hn
  have HBB := hid hB
  clear H hn hB
  go_enter Tryz.func61, Tryz.ntmps61
  go_wp2_with fail
  refine k1.out.mono ?_
  rintro e w2 ⟨v, rfl, hb2, hv⟩
  have hN2 : w2.heap[w.heap.size]? = some (.cells #[.slice none 0 0, .string ⟨#[]⟩, .int .i64 0] 121 (0, 0)) := (hb2.block _ (by omega)).trans HN.out
  have HB2 : Hid (Below w.heap.size w w2) := hid (HBB.out.trans (hb2.mono (by omega)))
  have hs2 : w.heap.size + 1 ≤ w2.heap.size := by have := hb2.size; simpa using this
  clear k1 hb2
  cases hr : wkS S t with
  | error er =>
    rw [hr] at hv
    obtain rfl : v = _ := hv
    have her : ¬ er = 0 := by have := wkS_err hr; omega
    have hN3 := plc_behind hN2 (Obj.cells #[.slice none 0 0, .string ⟨#[]⟩, .int .i64 0] 121)
    obtain ⟨r0, r1, r2, f0, f1, f2⟩ := plc_cells hN3
    have HN3 := hid hN3
    clear hN3 hN2 HO
    go_wp2_with (refine wpList_build_is rfl 121 #[] rfl _ (by simpa [Act.eval] using builtPlc) ?_)
    obtain ⟨q1, q2⟩ := plc_fin HN3.out (.slice none 0 0) (.string ⟨#[]⟩) (.int .i64 0)
    refine bodyPost_ret (cell_result2 rfl _ _ w.heap.size 0 rfl [.slice none 0 0, .string ⟨#[]⟩, .int .i64 0] _ (rangeAt_block q1) Tryz.underlying121 rfl csizePlc) rfl ?_
    refine ⟨_, rfl, HB2.out.trans ((((Below.refl _ w2).alloc (Nat.le_refl _) _).mono HB2.out.size).trans (q2.below (by simp; omega) (fun x hx => by omega))), ?_⟩
    rw [hr]
    rfl
  | ok q =>
    obtain ⟨y, s, n⟩ := q
    rw [hr] at hv
    obtain ⟨u, rfl, yv, nm, rfl, hnm, hown⟩ := hv
    obtain ⟨d, hd, hd17, hdk, hnd, hsn, hsl⟩ := HO.out y s n hr
    obtain ⟨gy, cy, rfl, hy0, hgy, hcy, hyc, hcm⟩ := last_own hown hd
    have HOW := hid hown
    have HNM := hid hnm
    have HD := hid (And.intro hd (And.intro hd17 hdk))
    have HC := hid hcy
    clear HO hnd hsn hsl hd hdk hd17 hown hcy hnm
    by_cases hn0 : n = 0
    case neg =>
      have hn1 : ¬ (n : Int) = 0 := by omega
      have hN3 := plc_behind hN2 (Obj.cells #[.slice (some ⟨gy, 0, none⟩) y.length cy, .string nm, .int .i64 (n : Int)] 121)
      obtain ⟨r0, r1, r2, f0, f1, f2⟩ := plc_cells hN3
      have HN3 := hid hN3
      clear hN3 hN2
      go_wp2_with (refine wpList_build_is rfl 121 #[] rfl _ (by simpa [Act.eval] using builtPlc) ?_)
      obtain ⟨q1, q2⟩ := plc_fin HN3.out (.slice none 0 0) (.string ⟨#[]⟩) (.int .i64 0)
      refine bodyPost_ret (cell_result2 rfl _ _ w.heap.size 0 rfl [.slice none 0 0, .string ⟨#[]⟩, .int .i64 0] _ (rangeAt_block q1) Tryz.underlying121 rfl csizePlc) rfl ?_
      refine ⟨_, rfl, HB2.out.trans ((((Below.refl _ w2).alloc (Nat.le_refl _) _).mono HB2.out.size).trans (q2.below (by simp; omega) (fun x hx => by omega))), ?_⟩
      rw [hr, toNew, if_pos hn0]
      rfl
    subst hn0
    have hdL : y.getLastD 0 = d := by
      have := HD.out.1
      rw [List.getLastD_eq_getLast?, this]
      rfl
    have hr2 : toNew S.L (wkS S t) = if 6 ≤ S.L d then .error 28 else .ok (y, s, 0) := by
      rw [hr, toNew, if_neg (by simp), hdL]
    have HR2 := hid hr2
    obtain ⟨W3, g3⟩ : ∃ W3, W3 = w2.alloc (Obj.cells #[.slice (some ⟨gy, 0, none⟩) y.length cy, .string nm, .int .i64 0] 121) := ⟨_, rfl⟩
    have hN3 := plc_behind hN2 (Obj.cells #[.slice (some ⟨gy, 0, none⟩) y.length cy, .string nm, .int .i64 0] 121)
    have hP3 := heap_alloc_new w2 (Obj.cells #[.slice (some ⟨gy, 0, none⟩) y.length cy, .string nm, .int .i64 0] 121)
    have hO3 := HOW.out.alloc (Obj.cells #[.slice (some ⟨gy, 0, none⟩) y.length cy, .string nm, .int .i64 0] 121)
    have hB3 : Below w.heap.size w W3 := by rw [g3]; exact HB2.out.trans ((one_new w2 _).mono HB2.out.size)
    have hZ3 : w2.heap.size < W3.heap.size := by rw [g3]; simp
    rw [← g3] at hN3 hP3 hO3
    have hS3 : Sy W3 p S := HS.out.grow hB3
    obtain ⟨a0, a1, a2, b0, b1, b2⟩ := plc_cells hP3
    have hcy3 : W3.cell? ⟨gy, y.length - 1, none⟩ = some (.int .i64 (d : Int)) ∧ gy < W3.heap.size := by
      rw [g3]
      exact ⟨((one_new w2 _).cell (p := ⟨gy, y.length - 1, none⟩) hgy).trans HC.out, Nat.lt_of_lt_of_le hgy (one_new w2 _).size⟩
    have kd : Hid (Calls Tryz.prog 79 #[.agg #[.slice (some ⟨gy, 0, none⟩) y.length cy, .string nm, .int .i64 0]] W3.drew fun e w' => e = .returned (.int .i64 (d : Int)) ∧ Hid (Below W3.heap.size W3 w')) := by
      refine hid ((dir_any W3.drew gy y.length cy d nm 0 hy0 hcy3.1 hcy3.2 hyc hcm).mono ?_)
      rintro e w' ⟨rfl, h⟩
      exact ⟨rfl, hid ((Below.refl _ W3).drew.trans h)⟩
    have hd17 := HD.out.2.1
    have kf : Hid (∀ W, Hid (Below W3.heap.size W3 W) → Calls Tryz.prog 80 #[.pointer (some ⟨p, 1 + d * 107, none⟩)] W fun e w' => e = .returned (.bool (decide (6 ≤ S.L d))) ∧ w' = W) := by
      refine hid (fun W hW => ?_)
      have hS := hS3.grow hW.out
      exact isfull_any p (1 + d * 107) _ _ _ W (hS.m d hd17) (hS.nms d hd17)
    have hd0 : (0 : Int) ≤ (d : Int) := by omega
    have hd1 : (d : Int) < 17 := by omega
    have HN3 := hid hN3
    have HP3 := hid hP3
    have HO3 := hid hO3
    have HB3 := hid hB3
    have HZ3 := hid hZ3
    clear hr hr2 hN2 hdL hS3 hcy3 hN3 hP3 hO3 hB3 hZ3 b0 b1 b2
    go_wp2_with fail
    rw [← g3]
    clear g3
    by_cases h6 : 6 ≤ S.L d
    · rw [if_pos h6] at HR2
      rw [show decide (6 ≤ S.L d) = true by simp [h6]] at kf
      clear h6
      go_region_held3 (fun W => W.cell? ⟨w2.heap.size, 0, none⟩ = some (.slice (some ⟨gy, 0, none⟩) y.length cy) ∧ W.cell? ⟨w2.heap.size, 1, none⟩ = some (.string nm) ∧ W.cell? ⟨w2.heap.size, 2, none⟩ = some (.int .i64 0)) (go_keep) (first | (go_at_call 79; refine kd.out.mono ?_; rintro e w4 ⟨rfl, hb4⟩; have x0 := (hb4.out.cell (p := ⟨w2.heap.size, 0, none⟩) HZ3.out).trans a0; have x1 := (hb4.out.cell (p := ⟨w2.heap.size, 1, none⟩) HZ3.out).trans a1; have x2 := (hb4.out.cell (p := ⟨w2.heap.size, 2, none⟩) HZ3.out).trans a2) | (go_at_call 80; refine (kf.out _ hb4).mono ?_; rintro e w5 ⟨rfl, rfl⟩))
      have hN5 : w5.heap[w.heap.size]? = some (.cells #[.slice none 0 0, .string ⟨#[]⟩, .int .i64 0] 121 (0, 0)) := (hb4.out.block _ (by have := HZ3.out; omega)).trans HN3.out
      obtain ⟨r0, r1, r2, f0, f1, f2⟩ := plc_cells hN5
      have HN5 := hid hN5
      clear hN5 a0 a1 a2 kd kf
      go_wp2_with (refine wpList_build_is rfl 121 #[] rfl _ (by simpa [Act.eval] using builtPlc) ?_)
      obtain ⟨q1, q2⟩ := plc_fin HN5.out (.slice none 0 0) (.string ⟨#[]⟩) (.int .i64 0)
      refine bodyPost_ret (cell_result2 rfl _ _ w.heap.size 0 rfl [.slice none 0 0, .string ⟨#[]⟩, .int .i64 0] _ (rangeAt_block q1) Tryz.underlying121 rfl csizePlc) rfl ?_
      refine ⟨_, rfl, (HB3.out.trans (hb4.out.mono HB3.out.size)).trans (q2.below (by have := hb4.out.size; have := HB3.out.size; omega) (fun x hx => by omega)), ?_⟩
      rw [HR2.out]
      rfl
    · rw [if_neg h6] at HR2
      rw [show decide (6 ≤ S.L d) = false by simp [h6]] at kf
      clear h6
      go_region_held3 (fun W => W.cell? ⟨w2.heap.size, 0, none⟩ = some (.slice (some ⟨gy, 0, none⟩) y.length cy) ∧ W.cell? ⟨w2.heap.size, 1, none⟩ = some (.string nm) ∧ W.cell? ⟨w2.heap.size, 2, none⟩ = some (.int .i64 0)) (go_keep) (first | (go_at_call 79; refine kd.out.mono ?_; rintro e w4 ⟨rfl, hb4⟩; have x0 := (hb4.out.cell (p := ⟨w2.heap.size, 0, none⟩) HZ3.out).trans a0; have x1 := (hb4.out.cell (p := ⟨w2.heap.size, 1, none⟩) HZ3.out).trans a1; have x2 := (hb4.out.cell (p := ⟨w2.heap.size, 2, none⟩) HZ3.out).trans a2) | (go_at_call 80; refine (kf.out _ hb4).mono ?_; rintro e w5 ⟨rfl, rfl⟩))
      have hN5 : w5.heap[w.heap.size]? = some (.cells #[.slice none 0 0, .string ⟨#[]⟩, .int .i64 0] 121 (0, 0)) := (hb4.out.block _ (by have := HZ3.out; omega)).trans HN3.out
      obtain ⟨r0, r1, r2, f0, f1, f2⟩ := plc_cells hN5
      have HN5 := hid hN5
      clear hN5 a0 a1 a2 kd kf
      go_wp2_with (refine wpList_build_is rfl 121 #[] rfl _ (by simpa [Act.eval] using builtPlc) ?_)
      obtain ⟨q1, q2⟩ := plc_fin HN5.out (.slice (some ⟨gy, 0, none⟩) y.length cy) (.string nm) (.int .i64 0)
      refine bodyPost_ret (cell_result2 rfl _ _ w.heap.size 0 rfl [.slice (some ⟨gy, 0, none⟩) y.length cy, .string nm, .int .i64 0] _ (rangeAt_block q1) Tryz.underlying121 rfl csizePlc) rfl ?_
      refine ⟨_, rfl, (HB3.out.trans (hb4.out.mono HB3.out.size)).trans (q2.below (by have := hb4.out.size; have := HB3.out.size; omega) (fun x hx => by omega)), ?_⟩
      rw [HR2.out]
      refine ⟨_, rfl, _, _, rfl, HNM.out, own_mono (q2.own ((Upd.of_below (F := fun _ => False) hb4.out).own HO3.out (fun _ _ h => h)) (fun k hk e => ?_)) (Nat.le_succ _)⟩
      have := (HO3.out.lt k hk).1
      omega

end Go.Proofs.YtdnblbahecpmkaaGreat
