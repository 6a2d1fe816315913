/- What Unlink does to a file that is held. -/
import Derived.Test.YtdnblbahecpmkaaGreatNUnl
import Derived.Test.YtdnblbahecpmkaaGreatNMake2
namespace Go.Proofs.YtdnblbahecpmkaaGreat
open Go.RowKit Go.ChangeMaps Go.MapKept
set_option linter.unusedVariables false
set_option maxRecDepth 20000

set_option maxHeartbeats 8000000 in
theorem unlink_held (p : Nat) (S : Sg) (t : ByteArray) (w : World) (H : Sy w p S) (hT : Tree S) (hs : t.size ≤ 140737488355328) (y : List Nat) (s : List UInt8) (i : Nat) (hr : wkS S t = .ok (y, s, i)) (hi0 : i ≠ 0) (hk : (S.P i).k = 1) (hl : (S.P i).l = 1) (n : Nat) (hh : (S.P i).h = (n : Int)) (hn : 0 < n) :
    Calls Tryz.prog 45 #[.pointer (some ⟨p, 0, none⟩), .string t] w fun e w' => e = .returned (.int .i64 0) ∧ Sy w' p ((S.drop (y.getLastD 0) s).at_ i ((S.P i).link 0)) ∧ Upd (S.foot p) w w' := by
  have k0 := hid H.usable
  have k1 := hid (tonode_any p S t w H hT hs)
  rw [hr, show toNode (.ok (y, s, i)) = .ok (y, s, i) by simp [toNode, hi0]] at k1
  obtain ⟨d, hd, hd17, hdk, hnd, hsn, hsl⟩ := wkS_ok H hr
  have hi17 : i < 17 := by rw [hnd]; exact H.to d s hd17
  have hdL : y.getLastD 0 = d := by rw [List.getLastD_eq_getLast?, hd]; rfl
  rw [hdL]
  have HS := hid H
  have HD := hid (And.intro hdk (And.intro hnd (And.intro hk (And.intro hl hh))))
  have HY := hid hd
  clear H hr hdk hnd hk hl hh hd hdL
  go_enter Tryz.func45, Tryz.ntmps45
  go_wp2_with fail
  refine k0.out.mono ?_
  rintro e w1 ⟨rfl, rfl⟩
  clear k0
  go_wp2_with fail
  refine k1.out.mono ?_
  rintro e w2 ⟨v, rfl, hb2, hv⟩
  have HB2 := hid hb2
  clear k1 hb2
  obtain ⟨u, rfl, yv, nm, rfl, hnm, hown⟩ := hv
  obtain ⟨gy, cy, rfl, hy0, hgy, hcy, hyc, hcm⟩ := last_own hown HY.out
  have HNM := hid hnm
  have hgb := (hown.lt gy rfl).1
  obtain ⟨W3, g3⟩ : ∃ W3, W3 = w2.alloc (Obj.cells #[.slice (some ⟨gy, 0, none⟩) y.length cy, .string nm, .int .i64 (i : Int)] 121) := ⟨_, rfl⟩
  have hP3 : W3.heap[w2.heap.size]? = some (.cells #[.slice (some ⟨gy, 0, none⟩) y.length cy, .string nm, .int .i64 (i : Int)] 121 (0, 0)) := by rw [g3]; exact heap_alloc_new w2 _
  have hB3 : Below w1.heap.size w1 W3 := by rw [g3]; exact HB2.out.trans ((one_new w2 _).mono HB2.out.size)
  have hZ3 : w2.heap.size < W3.heap.size ∧ gy < W3.heap.size := by rw [g3]; simp; omega
  have hC3 : W3.cell? ⟨gy, y.length - 1, none⟩ = some (.int .i64 (d : Int)) := by rw [g3]; exact ((one_new w2 _).cell (p := ⟨gy, y.length - 1, none⟩) hgy).trans hcy
  have hS3 : Sy W3 p S := HS.out.grow hB3
  obtain ⟨a0, a1, a2, _, _, _⟩ := plc_cells hP3
  have hi1 : (0 : Int) ≤ (i : Int) := by omega
  have hi2 : (i : Int) < 17 := by omega
  have HB3 := hid hB3
  have HZ3 := hid hZ3
  have HC3 := hid hC3
  have HS3 := hid hS3
  have HP3 := hid hP3
  clear hown hcy hnm hgy hS3 hP3 hB3 hZ3 hC3
  go_wp2_with fail
  rw [← g3]
  clear g3
  go_region
  have hS4 : Sy W3.drew p S := HS3.out.hp rfl
  have hpl := HS.out.lt
  have hb1s := HB2.out.size
  have hnmz : nm.size ≤ 6 := by have := bl_len nm; rw [HNM.out] at this; omega
  have k2 : Hid (Calls Tryz.prog 64 #[.pointer (some ⟨p, 1 + i * 107, none⟩)] W3.drew fun e w' => e = .returned (.bool false) ∧ w' = W3.drew) := by
    have := hS4.k i hi17
    rw [HD.out.2.2.1] at this
    exact hid (isdir_any p _ 1 W3.drew this)
  have k3 := hid (tkname_any p S W3.drew hS4 gy y.length cy d nm (i : Int) hy0 HC3.out HZ3.out.2 hyc hcm hd17 HD.out.1 (by rw [HNM.out, ← HD.out.2.1]; exact hi0) (by omega))
  have HP4 : Hid (W3.drew.heap[w2.heap.size]? = some (.cells #[.slice (some ⟨gy, 0, none⟩) y.length cy, .string nm, .int .i64 (i : Int)] 121 (0, 0))) := hid HP3.out
  have HZ4 : Hid (w2.heap.size < W3.drew.heap.size) := hid HZ3.out.1
  obtain ⟨W4, g4⟩ : ∃ W4, W4 = W3.drew := ⟨_, rfl⟩
  have HU4 : Hid (Upd (S.foot p) w1 W4) := by rw [g4]; exact hid ((Upd.of_below HB3.out).drewN 1)
  rw [← g4] at k2 k3 HP4 HZ4 ⊢
  clear a0 a1 a2
  obtain ⟨a0, a1, a2, _, _, _⟩ := plc_cells HP4.out
  clear hS4 g4 HS3 HC3 HP3 HB3
  go_wp2_with fail
  refine k2.out.mono ?_
  rintro e w4 ⟨rfl, rfl⟩
  clear k2
  go_wp2_with fail
  refine k3.out.mono ?_
  rintro e w5 ⟨rfl, h5, u5⟩
  have d1 := h5.l i hi17
  rw [show ((S.drop d (bl nm)).P i).l = 1 from HD.out.2.2.2.1] at d1
  have hne : (S.P d).m ≠ some w2.heap.size := fun e => by
    have := HS.out.foot_lt w2.heap.size (.inr ⟨d, hd17, e⟩)
    omega
  have d2 : w5.cell? ⟨w2.heap.size, 2, none⟩ = some (.int .i64 (i : Int)) := (World.cell?_of_block (a := ⟨w2.heap.size, 2, none⟩) (u5.block w2.heap.size HZ4.out hne)).trans a2
  have k5 := hid (tklink_stay p (S.drop d (bl nm)) w5 h5 i hi17 HD.out.2.2.2.1 n HD.out.2.2.2.2 hn)
  have HU5 : Hid (Upd (S.foot p) w1 w5) := hid (HU4.out.trans u5 (fun x _ hx => .inr ⟨d, hd17, hx⟩))
  clear k3 h5 u5 hne a0 a1 a2
  go_wp2_with fail
  refine k5.out.mono ?_
  rintro e w6 ⟨rfl, h6, u6⟩
  have H6 := hid h6
  have U6 := hid u6
  clear k5 h6 u6
  go_wp2_with fail
  go_ret
  refine ⟨rfl, ?_, HU5.out.trans U6.out (fun x _ hx => .inl hx)⟩
  rw [← HNM.out]
  exact H6.out

end Go.Proofs.YtdnblbahecpmkaaGreat
