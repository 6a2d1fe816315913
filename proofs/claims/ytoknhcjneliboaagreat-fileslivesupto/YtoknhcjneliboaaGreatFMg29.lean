/- Texts of this seat, merged. -/
import Derived.Test.YtoknhcjneliboaaGreatFMg16
import Derived.Test.YtoknhcjneliboaaGreatFMg6
import Derived.Deep.RegionLaw

/- What Rmdir does to any system. -/
namespace Go.Proofs.YtoknhcjneliboaaGreat
open Go.RowKit Go.ChangeMaps Go.MapKept
set_option linter.unusedVariables false
set_option maxRecDepth 20000

set_option maxHeartbeats 8000000 in
theorem prmdir_err (p : Nat) (F : Fs) (G : Nat → Prop) (w : World) (H : Pf w p F G) (hF : FOk F) (t : ByteArray) (hs : t.size ≤ 140737488355328) (er : Int) (he : toNode (F.walk (bl t)) = .error er) :
    Calls Tryz.prog 105 #[.pointer (some ⟨p, 0, none⟩), .string t] w fun e w' => e = .returned (.int .i64 er) ∧ PfTo w p F G w' := by
  have HP := H
  obtain ⟨S, HS, R, hG⟩ := H
  have k0 := hid HS.usable
  have k1 := hid (tonode_any p S t w HS (R.tree hF) hs)
  rw [toNode_fs HS R, he] at k1
  have her : ¬ er = 0 := by
    cases hw : F.walk (bl t) with
    | error a => rw [hw] at he; have := Fs.walk_err hw; simp [toNode] at he; omega
    | ok q =>
      obtain ⟨y, s, n⟩ := q
      rw [hw] at he
      simp only [toNode] at he
      split at he
      · simp at he; omega
      · simp at he
  have HPP := hid HP
  clear HS R hG HP he

  go_enter Tryz.func105, Tryz.ntmps105
  go_wp2_with fail
  refine k0.out.mono ?_
  rintro e w1 ⟨rfl, rfl⟩
  clear k0
  go_wp2_with fail
  refine k1.out.mono ?_
  rintro e w2 ⟨v, rfl, hb2, hv⟩
  have HB2 := hid hb2
  clear k1 hb2
  obtain rfl : v = _ := hv
  go_wp2_with fail
  go_ret
  exact ⟨rfl, PfTo.same HPP.out (HB2.out.trans ((one_new w2 _).mono HB2.out.size))⟩

set_option maxHeartbeats 1000000 in
theorem maygo_any (p : Nat) (S : Sg) (F : Fs) (w : World) (H : Sy w p S) (R : Rel S F) (hF : FOk F) (i : Nat) (hi : i < 17) :
    Calls Tryz.prog 135 #[.pointer (some ⟨p, 1 + i * 107, none⟩)] w fun e w' => e = .returned (.int .i64 (F.stays i)) ∧ w' = w := by
  have c2 := H.h i hi
  have c6 := H.m i hi
  have hL := (H.nms i hi).len
  rw [(R.P i hi).h] at c2
  rw [R.L i hi] at hL
  have h0 := (hF.h i).1
  have h6 := hF.len i
  unfold Fs.stays
  obtain ⟨L, gL⟩ : ∃ L, L = (F.P i).Q.length := ⟨_, rfl⟩
  obtain ⟨h, gh⟩ : ∃ h, h = (F.P i).h := ⟨_, rfl⟩
  obtain ⟨m, gm⟩ : ∃ m, m = (S.P i).m := ⟨_, rfl⟩
  rw [← gL] at hL h6 ⊢
  rw [← gh] at c2 h0 ⊢
  rw [← gm] at c6 hL
  clear H R hF gL gh gm
  by_cases q : 0 < L
  · rw [if_pos q]
    have q' : (0 : Int) < (L : Int) := by omega
    clear q
    go_enter Tryz.func135, Tryz.ntmps135
    go_wp2_with fail
    go_ret
    exact ⟨rfl, rfl⟩
  · rw [if_neg q]
    have q' : ¬ (0 : Int) < (L : Int) := by omega
    clear q
    by_cases q2 : 0 < h
    · rw [if_pos q2]
      go_enter Tryz.func135, Tryz.ntmps135
      go_wp2_with fail
      go_ret
      exact ⟨rfl, rfl⟩
    · rw [if_neg q2]
      go_enter Tryz.func135, Tryz.ntmps135
      go_wp2_with fail
      go_ret
      exact ⟨rfl, rfl⟩

set_option maxHeartbeats 8000000 in
theorem prmdir_file (p : Nat) (F : Fs) (G : Nat → Prop) (w : World) (H : Pf w p F G) (hF : FOk F) (t : ByteArray) (hs : t.size ≤ 140737488355328) (y : List Nat) (s : List UInt8) (i : Nat) (hw : F.walk (bl t) = .ok (y, s, i)) (hi0 : i ≠ 0) (hk : (F.P i).k ≠ 2) :
    Calls Tryz.prog 105 #[.pointer (some ⟨p, 0, none⟩), .string t] w fun e w' => e = .returned (.int .i64 20) ∧ PfTo w p F G w' := by
  have HPf := H
  obtain ⟨S, HS0, R, hG⟩ := H
  have W := hF.walk_ok hw
  obtain ⟨d, gd⟩ : ∃ d, d = Fs.dirOf y := ⟨_, rfl⟩
  obtain ⟨hd17, hdk, hnd⟩ := W.sg R
  obtain ⟨i1, hi17, hik⟩ := W.to hi0
  have hlast := W.last
  have hsl := W.len
  rw [← gd] at hd17 hdk hnd hlast
  have k0 := hid HS0.usable
  have k1 := hid (tonode_any p S t w HS0 (R.tree hF) hs)
  rw [toNode_fs HS0 R, hw, show toNode (.ok (y, s, i)) = .ok (y, s, i) from if_neg hi0] at k1
  have HS := hid HS0
  have HD := hid (And.intro hdk hnd)
  have HY := hid hlast
  have HR := hid R
  have HG := hid hG
  have HW := hid W
  have HF := hid hF
  have HPP := hid HPf
  have GD := hid gd
  have HWK := hid hw
  clear HS0 HPf R hG W hF hdk hnd hlast gd hw

  go_enter Tryz.func105, Tryz.ntmps105
  go_wp2_with fail
  refine k0.out.mono ?_
  rintro e w1 ⟨rfl, rfl⟩
  clear k0
  go_wp2_with fail
  refine k1.out.mono ?_
  rintro e w2 ⟨v, rfl, hb2, hv⟩
  have HB2 := hid hb2
  clear k1 hb2
  obtain ⟨u, rfl, yv, nm, rfl, hnm, hown⟩ := hv
  obtain ⟨gy, cy, rfl, hy0, hgy, hcy, hyc, hcm⟩ := last_own hown HY.out
  have HNM := hid hnm
  have hgb := (hown.lt gy rfl).1
  obtain ⟨W3, g3⟩ : ∃ W3, W3 = w2.alloc (Obj.cells #[.slice (some ⟨gy, 0, none⟩) y.length cy, .string nm, .int .i64 (i : Int)] 184) := ⟨_, rfl⟩
  have hP3 : W3.heap[w2.heap.size]? = some (.cells #[.slice (some ⟨gy, 0, none⟩) y.length cy, .string nm, .int .i64 (i : Int)] 184 (0, 0)) := by rw [g3]; exact heap_alloc_new w2 _
  have hB3 : Below w1.heap.size w1 W3 := by rw [g3]; exact HB2.out.trans ((one_new w2 _).mono HB2.out.size)
  have hZ3 : w2.heap.size < W3.heap.size ∧ gy < W3.heap.size := by rw [g3]; simp; omega
  have hC3 : W3.cell? ⟨gy, y.length - 1, none⟩ = some (.int .i64 (d : Int)) := by rw [g3]; exact ((one_new w2 _).cell (p := ⟨gy, y.length - 1, none⟩) hgy).trans hcy
  have hS3 : Sy W3 p S := HS.out.grow hB3
  obtain ⟨a0, a1, a2, _, _, _⟩ := plc_cells hP3
  have hi1 : (0 : Int) ≤ (i : Int) := by omega
  have hi2 : (i : Int) < 17 := by omega
  have HB3 := hid hB3
  have HZ3 := hid hZ3
  have HC3 := hid hC3
  have HS3 := hid hS3
  have HP3 := hid hP3
  clear hown hcy hnm hgy hS3 hP3 hB3 hZ3 hC3
  go_wp2_with fail
  rw [← g3]
  clear g3
  go_region
  have hS4 : Sy W3.drew p S := HS3.out.hp rfl
  have hpl := HS.out.lt
  have hb1s := HB2.out.size
  have hnmz : nm.size ≤ 6 := by have := bl_len nm; rw [HNM.out] at this; omega
  have k2 : Hid (Calls Tryz.prog 123 #[.pointer (some ⟨p, 1 + i * 107, none⟩)] W3.drew fun e w' => e = .returned (.bool (decide ((S.P i).k = 2))) ∧ w' = W3.drew) := hid (isdir_any p _ _ W3.drew (hS4.k i hi17))
  have k3 := hid (tkname_any p S W3.drew hS4 gy y.length cy d nm (i : Int) hy0 HC3.out HZ3.out.2 hyc hcm hd17 HD.out.1 (by rw [HNM.out, ← HD.out.2]; exact hi0) (by omega))
  have HP4 : Hid (W3.drew.heap[w2.heap.size]? = some (.cells #[.slice (some ⟨gy, 0, none⟩) y.length cy, .string nm, .int .i64 (i : Int)] 184 (0, 0))) := hid HP3.out
  have HZ4 : Hid (w2.heap.size < W3.drew.heap.size) := hid HZ3.out.1
  have HS4 := hid hS4
  obtain ⟨W4, g4⟩ : ∃ W4, W4 = W3.drew := ⟨_, rfl⟩
  have HU4 : Hid (Below w1.heap.size w1 W4) := by rw [g4]; exact hid HB3.out.drew
  rw [← g4] at k2 k3 HP4 HZ4 HS4 ⊢
  clear a0 a1 a2
  obtain ⟨a0, a1, a2, _, _, _⟩ := plc_cells HP4.out
  clear hS4 g4 HS3 HC3 HP3 HB3
  rw [show decide ((S.P i).k = 2) = false by simp [(HR.out.P i hi17).k, hk]] at k2
  clear k3
  go_wp2_with fail
  refine k2.out.mono ?_
  rintro e w4 ⟨rfl, rfl⟩
  clear k2
  go_wp2_with fail
  go_ret
  exact ⟨rfl, PfTo.same HPP.out HU4.out⟩

set_option maxHeartbeats 8000000 in
theorem prmdir_dir (p : Nat) (F : Fs) (G : Nat → Prop) (w : World) (H : Pf w p F G) (hF : FOk F) (t : ByteArray) (hs : t.size ≤ 140737488355328) (y : List Nat) (s : List UInt8) (i : Nat) (hw : F.walk (bl t) = .ok (y, s, i)) (hi0 : i ≠ 0) (hk : (F.P i).k = 2) :
    Calls Tryz.prog 105 #[.pointer (some ⟨p, 0, none⟩), .string t] w fun e w' => e = .returned (.int .i64 (F.stays i)) ∧ PfTo w p (if F.stays i = 0 then (F.deln (Fs.dirOf y) s).less i else F) G w' := by
  have HPf := H
  obtain ⟨S, HS0, R, hG⟩ := H
  have W := hF.walk_ok hw
  obtain ⟨d, gd⟩ : ∃ d, d = Fs.dirOf y := ⟨_, rfl⟩
  obtain ⟨hd17, hdk, hnd⟩ := W.sg R
  obtain ⟨i1, hi17, hik⟩ := W.to hi0
  have hlast := W.last
  have hsl := W.len
  rw [← gd] at hd17 hdk hnd hlast
  have k0 := hid HS0.usable
  have k1 := hid (tonode_any p S t w HS0 (R.tree hF) hs)
  rw [toNode_fs HS0 R, hw, show toNode (.ok (y, s, i)) = .ok (y, s, i) from if_neg hi0] at k1
  have HS := hid HS0
  have HD := hid (And.intro hdk hnd)
  have HY := hid hlast
  have HR := hid R
  have HG := hid hG
  have HW := hid W
  have HF := hid hF
  have HPP := hid HPf
  have GD := hid gd
  have HWK := hid hw
  clear HS0 HPf R hG W hF hdk hnd hlast gd hw
  obtain ⟨E, gE⟩ : ∃ E, E = F.stays i := ⟨_, rfl⟩
  rw [← gE]
  obtain ⟨X, gX⟩ : ∃ X, X = (if E = 0 then (F.deln (Fs.dirOf y) s).less i else F) := ⟨_, rfl⟩
  rw [← gX]
  have GE := hid gE
  have GX := hid gX
  clear gX gE

  go_enter Tryz.func105, Tryz.ntmps105
  go_wp2_with fail
  refine k0.out.mono ?_
  rintro e w1 ⟨rfl, rfl⟩
  clear k0
  go_wp2_with fail
  refine k1.out.mono ?_
  rintro e w2 ⟨v, rfl, hb2, hv⟩
  have HB2 := hid hb2
  clear k1 hb2
  obtain ⟨u, rfl, yv, nm, rfl, hnm, hown⟩ := hv
  obtain ⟨gy, cy, rfl, hy0, hgy, hcy, hyc, hcm⟩ := last_own hown HY.out
  have HNM := hid hnm
  have hgb := (hown.lt gy rfl).1
  obtain ⟨W3, g3⟩ : ∃ W3, W3 = w2.alloc (Obj.cells #[.slice (some ⟨gy, 0, none⟩) y.length cy, .string nm, .int .i64 (i : Int)] 184) := ⟨_, rfl⟩
  have hP3 : W3.heap[w2.heap.size]? = some (.cells #[.slice (some ⟨gy, 0, none⟩) y.length cy, .string nm, .int .i64 (i : Int)] 184 (0, 0)) := by rw [g3]; exact heap_alloc_new w2 _
  have hB3 : Below w1.heap.size w1 W3 := by rw [g3]; exact HB2.out.trans ((one_new w2 _).mono HB2.out.size)
  have hZ3 : w2.heap.size < W3.heap.size ∧ gy < W3.heap.size := by rw [g3]; simp; omega
  have hC3 : W3.cell? ⟨gy, y.length - 1, none⟩ = some (.int .i64 (d : Int)) := by rw [g3]; exact ((one_new w2 _).cell (p := ⟨gy, y.length - 1, none⟩) hgy).trans hcy
  have hS3 : Sy W3 p S := HS.out.grow hB3
  obtain ⟨a0, a1, a2, _, _, _⟩ := plc_cells hP3
  have hi1 : (0 : Int) ≤ (i : Int) := by omega
  have hi2 : (i : Int) < 17 := by omega
  have HB3 := hid hB3
  have HZ3 := hid hZ3
  have HC3 := hid hC3
  have HS3 := hid hS3
  have HP3 := hid hP3
  clear hown hcy hnm hgy hS3 hP3 hB3 hZ3 hC3
  go_wp2_with fail
  rw [← g3]
  clear g3
  go_region
  have hS4 : Sy W3.drew p S := HS3.out.hp rfl
  have hpl := HS.out.lt
  have hb1s := HB2.out.size
  have hnmz : nm.size ≤ 6 := by have := bl_len nm; rw [HNM.out] at this; omega
  have k2 : Hid (Calls Tryz.prog 123 #[.pointer (some ⟨p, 1 + i * 107, none⟩)] W3.drew fun e w' => e = .returned (.bool (decide ((S.P i).k = 2))) ∧ w' = W3.drew) := hid (isdir_any p _ _ W3.drew (hS4.k i hi17))
  have k3 := hid (tkname_any p S W3.drew hS4 gy y.length cy d nm (i : Int) hy0 HC3.out HZ3.out.2 hyc hcm hd17 HD.out.1 (by rw [HNM.out, ← HD.out.2]; exact hi0) (by omega))
  have HP4 : Hid (W3.drew.heap[w2.heap.size]? = some (.cells #[.slice (some ⟨gy, 0, none⟩) y.length cy, .string nm, .int .i64 (i : Int)] 184 (0, 0))) := hid HP3.out
  have HZ4 : Hid (w2.heap.size < W3.drew.heap.size) := hid HZ3.out.1
  have HS4 := hid hS4
  obtain ⟨W4, g4⟩ : ∃ W4, W4 = W3.drew := ⟨_, rfl⟩
  have HU4 : Hid (Below w1.heap.size w1 W4) := by rw [g4]; exact hid HB3.out.drew
  rw [← g4] at k2 k3 HP4 HZ4 HS4 ⊢
  clear a0 a1 a2
  obtain ⟨a0, a1, a2, _, _, _⟩ := plc_cells HP4.out
  clear hS4 g4 HS3 HC3 HP3 HB3
  rw [show decide ((S.P i).k = 2) = true by simp [(HR.out.P i hi17).k, hk]] at k2
  have km := hid (maygo_any p S F W4 HS4.out HR.out HF.out i hi17)
  rw [← GE.out] at km
  by_cases hE : E = 0
  · have GX3 : Hid (X = (F.deln (Fs.dirOf y) s).less i) := hid (GX.out.trans (if_pos hE))
    have hE0 : F.stays i = 0 := by rw [← GE.out]; exact hE
    subst hE
    have HE0 := hid hE0
    clear hE0
    go_wp2_with fail
    refine k2.out.mono ?_
    rintro e w4 ⟨rfl, rfl⟩
    clear k2
    go_wp2_with fail
    refine km.out.mono ?_
    rintro e w4 ⟨rfl, rfl⟩
    clear km
    go_wp2_with fail
    refine k3.out.mono ?_
    rintro e w5 ⟨rfl, h5, u5⟩
    have d1 := h5.l i hi17
    have hne : (S.P d).m ≠ some w2.heap.size := fun e => by
      have := HS.out.foot_lt w2.heap.size (.inr ⟨d, hd17, e⟩)
      omega
    have d2 : w5.cell? ⟨w2.heap.size, 2, none⟩ = some (.int .i64 (i : Int)) := (World.cell?_of_block (a := ⟨w2.heap.size, 2, none⟩) (u5.block w2.heap.size HZ4.out hne)).trans a2
    have hR5 : Rel (S.drop d (bl nm)) (F.deln (Fs.dirOf y) s) := by
      rw [HNM.out, GD.out]
      exact HR.out.drop HF.out _ _ (by rw [← HW.out.nn]; exact hi0)
    have e5 : (F.deln (Fs.dirOf y) s).P i = { F.P i with Q := ((F.deln (Fs.dirOf y) s).P i).Q } := by rw [Fs.deln_P]
    have HU5 : Hid (Upd (S.foot p) w1 w5) := hid ((Upd.of_below HU4.out).trans u5 (fun x _ hx => .inr ⟨d, hd17, hx⟩))
    have ff5 : ∀ x, (S.drop d (bl nm)).foot p x → S.foot p x := fun x hx => hx
    have hE0 := HE0.out
    have hst : (F.P i).Q = [] ∧ (F.P i).h = 0 := by
      unfold Fs.stays at hE0
      split at hE0
      · simp at hE0
      rename_i hq
      split at hE0
      · simp at hE0
      rename_i hh
      exact ⟨List.eq_nil_of_length_eq_zero (by omega), by have := (HF.out.h i).1; omega⟩
    have hl1 := (HF.out.dir i hk).2.2
    have k5 := hid (ptklink p (S.drop d (bl nm)) (F.deln (Fs.dirOf y) s) w5 h5 hR5 i hi17 hi0 (by omega) (by rw [e5]; dsimp only; omega) (by rw [e5]; exact (HF.out.stl i).c) (by rw [e5]; exact (HF.out.stl i).B) (by rw [e5]; exact (HF.out.stl i).T) (fun _ => by
      rw [deln_Q]
      split
      · rename_i e; rw [← e, hst.1]; rfl
      · exact hst.1))
    clear k3 h5 u5 hne a0 a1 a2 hR5 e5 hst hl1 hE0
    go_wp2_with fail
    refine k5.out.mono ?_
    rintro e w7 ⟨rfl, h7⟩
    have H7 := hid h7
    clear k5 h7
    go_wp2_with fail
    go_ret
    rw [GX3.out]
    exact ⟨rfl, Into.to (Into.trans ff5 HU5.out H7.out) HG.out⟩
  · have GX3 : Hid (X = F) := hid (GX.out.trans (if_neg hE))
    clear k3
    go_wp2_with fail
    refine k2.out.mono ?_
    rintro e w4 ⟨rfl, rfl⟩
    clear k2
    go_wp2_with fail
    refine km.out.mono ?_
    rintro e w4 ⟨rfl, rfl⟩
    clear km
    go_wp2_with fail
    go_ret
    rw [GX3.out]
    exact ⟨rfl, PfTo.same HPP.out HU4.out⟩

theorem prmdir (p : Nat) (F : Fs) (G : Nat → Prop) (w : World) (H : Pf w p F G) (hF : FOk F) (t : ByteArray) (hs : t.size ≤ 140737488355328) :
    Calls Tryz.prog 105 #[.pointer (some ⟨p, 0, none⟩), .string t] w fun e w' => e = .returned (.int .i64 (F.rmdir (bl t)).2) ∧ PfTo w p (F.rmdir (bl t)).1 G w' := by
  cases hw : F.walk (bl t) with
  | error er =>
    have e : F.rmdir (bl t) = (F, er) := by unfold Fs.rmdir; rw [hw]
    rw [e]
    exact prmdir_err p F G w H hF t hs er (by rw [hw]; rfl)
  | ok q =>
    obtain ⟨y, s, i⟩ := q
    by_cases h0 : i = 0
    · have e : F.rmdir (bl t) = (F, 2) := by unfold Fs.rmdir; rw [hw]; exact if_pos h0
      rw [e]
      exact prmdir_err p F G w H hF t hs 2 (by rw [hw]; exact if_pos h0)
    by_cases hk : (F.P i).k = 2
    · have e : F.rmdir (bl t) = (if F.stays i = 0 then (F.deln (Fs.dirOf y) s).less i else F, F.stays i) := by
        unfold Fs.rmdir; rw [hw]; dsimp only; rw [if_neg h0, if_neg (fun q => q hk)]
        by_cases hs : F.stays i = 0
        · rw [if_neg (fun q => q hs), if_pos hs, hs]
        · rw [if_pos hs, if_neg hs]
      rw [e]
      exact prmdir_dir p F G w H hF t hs y s i hw h0 hk
    · have e : F.rmdir (bl t) = (F, 20) := by unfold Fs.rmdir; rw [hw]; dsimp only; rw [if_neg h0, if_pos hk]
      rw [e]
      exact prmdir_file p F G w H hF t hs y s i hw h0 hk

end Go.Proofs.YtoknhcjneliboaaGreat

/- Whether a number stands in a list of numbers (slices.Contains). -/
namespace Go.Proofs.YtoknhcjneliboaaGreat
open Go.RowKit
set_option linter.unusedVariables false
set_option maxRecDepth 20000

set_option maxHeartbeats 4000000 in
theorem nindex_any (g n c : Nat) (l : List Nat) (v : Nat) (w : World) (h : ∀ j, j < n → w.cell? ⟨g, j, none⟩ = some (.int .i64 ((l.getD j 0 : Nat) : Int))) (hn : l.length = n) (hc : n ≤ 9223372036854775807) :
    Calls Tryz.prog 160 #[.slice (some ⟨g, 0, none⟩) n c, .int .i64 (v : Int)] w fun e w' => ∃ r : Int, e = .returned (.int .i64 r) ∧ decide (0 ≤ r) = decide (v ∈ l) ∧ w' = w := by
  have HE := hid h
  have HN := hid hn
  clear h hn
  go_enter Tryz.func160, Tryz.ntmps160
  go_wp2_with fail
  go_loop [8] (fun k => ∃ j : Nat, j ≤ n ∧ k = .int .i64 j ∧ Hid (v ∉ l.take j)) (fun k => n - (intOf k).toNat)
  case atStart => exact ⟨0, Nat.zero_le _, rfl, hid (by simp)⟩
  case round =>
    obtain ⟨j, hj, rfl, HA⟩ := hrel
    by_cases hlt : j < n
    · have hjl : j < l.length := by rw [HN.out]; exact hlt
      have hci := HE.out j hlt
      have hx0 : l.getD j 0 = l[j] := by rw [List.getD_eq_getElem?_getD, List.getElem?_eq_getElem hjl]; rfl
      have H1 : Hid (l.getD j 0 ≠ v → v ∉ l.take (j + 1)) := hid (fun hne h => by
        rw [List.take_succ_eq_append_getElem hjl] at h
        rcases List.mem_append.1 h with h | h
        · exact HA.out h
        · simp at h; exact hne (hx0.trans h.symm))
      have H2 : Hid (l.getD j 0 = v → v ∈ l) := hid (fun e => by rw [← e, hx0]; exact List.getElem_mem _)
      clear hx0
      generalize l.getD j 0 = x at hci H1 H2
      by_cases hx : x = v
      · subst hx
        go_wp2_with fail
        go_ret
        exact ⟨_, rfl, by have hm : x ∈ l := H2.out (by trivial); simp [hm], rfl⟩
      · have hx2 : ¬ (v : Int) = (x : Int) := by omega
        have hx3 : ¬ (x : Int) = (v : Int) := by omega
        go_wp2_with fail
        go_round
        case rel => exact ⟨j + 1, by omega, by go_num, hid (H1.out hx)⟩
        case measure => simp [intOf]; omega
    · obtain rfl : j = n := by omega
      go_wp2_with fail
      go_ret
      refine ⟨_, rfl, ?_, rfl⟩
      have := HA.out
      rw [← HN.out, List.take_length] at this
      simp [this]

theorem ret_bool {a b : Bool} (h : a = b) : Ending.returned (.bool a) = .returned (.bool b) := by rw [h]
theorem ncont_any (g n c : Nat) (l : List Nat) (v : Nat) (w : World) (h : ∀ j, j < n → w.cell? ⟨g, j, none⟩ = some (.int .i64 ((l.getD j 0 : Nat) : Int))) (hn : l.length = n) (hc : n ≤ 9223372036854775807) :
    Calls Tryz.prog 153 #[.slice (some ⟨g, 0, none⟩) n c, .int .i64 (v : Int)] w fun e w' => e = .returned (.bool (decide (v ∈ l))) ∧ w' = w := by
  have k1 := hid (nindex_any g n c l v w h hn hc)
  clear h hn
  go_enter Tryz.func153, Tryz.ntmps153
  go_wp2_with fail
  refine k1.out.mono ?_
  rintro e w1 ⟨r, rfl, hr, rfl⟩
  have HR := hid hr
  clear hr
  go_wp2_with fail
  go_ret
  exact ⟨ret_bool HR.out, rfl⟩

end Go.Proofs.YtoknhcjneliboaaGreat

/- What mayReplace and mayRename tell. -/
namespace Go.Proofs.YtoknhcjneliboaaGreat
open Go.RowKit Go.ChangeMaps Go.MapKept
set_option linter.unusedVariables false
set_option maxRecDepth 20000

set_option maxHeartbeats 2000000 in
theorem mayrep_any (p : Nat) (S : Sg) (F : Fs) (w : World) (H : Sy w p S) (R : Rel S F) (hF : FOk F) (n m : Nat) (hn : n < 17) (hm : m < 17) :
    Calls Tryz.prog 152 #[.pointer (some ⟨p, 1 + n * 107, none⟩), .pointer (some ⟨p, 1 + m * 107, none⟩)] w fun e w' => e = .returned (.int .i64 (F.over n m)) ∧ w' = w := by
  have cn := H.k n hn
  have cm := H.k m hm
  rw [(R.P n hn).k] at cn
  rw [(R.P m hm).k] at cm
  have kn := hid (isdir_any p (1 + n * 107) _ w cn)
  have km := hid (isdir_any p (1 + m * 107) _ w cm)
  have ks := hid (maygo_any p S F w H R hF m hm)
  unfold Fs.over
  obtain ⟨E, gE⟩ : ∃ E, E = F.stays m := ⟨_, rfl⟩
  rw [← gE] at ks ⊢
  clear H R hF cn cm gE
  by_cases q1 : (F.P m).k = 2 <;> by_cases q2 : (F.P n).k = 2
  · rw [if_pos q1, if_pos q2]
    rw [show decide ((F.P m).k = 2) = true by simp [q1]] at km
    rw [show decide ((F.P n).k = 2) = true by simp [q2]] at kn
    clear q1 q2
    go_enter Tryz.func152, Tryz.ntmps152
    go_wp2_with (first | (go_at_call 123; first | (refine km.out.mono ?_; rintro e w' ⟨rfl, rfl⟩) | (refine kn.out.mono ?_; rintro e w' ⟨rfl, rfl⟩)) | (go_at_call 135; refine ks.out.mono ?_; rintro e w' ⟨rfl, rfl⟩))
    go_ret
    exact ⟨rfl, rfl⟩
  · rw [if_pos q1, if_neg q2]
    rw [show decide ((F.P m).k = 2) = true by simp [q1]] at km
    rw [show decide ((F.P n).k = 2) = false by simp [q2]] at kn
    clear q1 q2
    go_enter Tryz.func152, Tryz.ntmps152
    go_wp2_with (first | (go_at_call 123; first | (refine km.out.mono ?_; rintro e w' ⟨rfl, rfl⟩) | (refine kn.out.mono ?_; rintro e w' ⟨rfl, rfl⟩)) | (go_at_call 135; refine ks.out.mono ?_; rintro e w' ⟨rfl, rfl⟩))
    go_ret
    exact ⟨rfl, rfl⟩
  · rw [if_neg q1, if_pos q2]
    rw [show decide ((F.P m).k = 2) = false by simp [q1]] at km
    rw [show decide ((F.P n).k = 2) = true by simp [q2]] at kn
    clear q1 q2
    go_enter Tryz.func152, Tryz.ntmps152
    go_wp2_with (first | (go_at_call 123; first | (refine km.out.mono ?_; rintro e w' ⟨rfl, rfl⟩) | (refine kn.out.mono ?_; rintro e w' ⟨rfl, rfl⟩)) | (go_at_call 135; refine ks.out.mono ?_; rintro e w' ⟨rfl, rfl⟩))
    go_ret
    exact ⟨rfl, rfl⟩
  · rw [if_neg q1, if_neg q2]
    rw [show decide ((F.P m).k = 2) = false by simp [q1]] at km
    rw [show decide ((F.P n).k = 2) = false by simp [q2]] at kn
    clear q1 q2
    go_enter Tryz.func152, Tryz.ntmps152
    go_wp2_with (first | (go_at_call 123; first | (refine km.out.mono ?_; rintro e w' ⟨rfl, rfl⟩) | (refine kn.out.mono ?_; rintro e w' ⟨rfl, rfl⟩)) | (go_at_call 135; refine ks.out.mono ?_; rintro e w' ⟨rfl, rfl⟩))
    go_ret
    exact ⟨rfl, rfl⟩

/-- A place as it is handed on: a way that lies in its own block, a name, a node. -/
def plcV (g n c : Nat) (nm : ByteArray) (i : Nat) : Value := .agg #[.slice (some ⟨g, 0, none⟩) n c, .string nm, .int .i64 (i : Int)]
structure Wy (w : World) (g n c : Nat) (y : List Nat) : Prop where
  at_ : ∀ j, j < n → w.cell? ⟨g, j, none⟩ = some (.int .i64 ((y.getD j 0 : Nat) : Int))
  len : y.length = n
  pos : 0 < n
  lt : g < w.heap.size
  cap : n ≤ c
  max : c ≤ 9223372036854775807
theorem Wy.grow {w w' : World} {g n c : Nat} {y : List Nat} (h : Wy w g n c y) (u : Below w.heap.size w w') : Wy w' g n c y :=
  ⟨fun j hj => (u.cell (p := ⟨g, j, none⟩) h.lt).trans (h.at_ j hj), h.len, h.pos, Nat.lt_of_lt_of_le h.lt u.size, h.cap, h.max⟩
theorem Wy.last {w : World} {g n c : Nat} {y : List Nat} (h : Wy w g n c y) : w.cell? ⟨g, n - 1, none⟩ = some (.int .i64 ((Fs.dirOf y : Nat) : Int)) := by
  rw [h.at_ (n - 1) (by have := h.pos; omega)]
  unfold Fs.dirOf
  have hl := h.len
  have hp := h.pos
  rw [List.getLastD_eq_getLast?, List.getLast?_eq_getElem?, hl, List.getD_eq_getElem?_getD]
theorem Wy.dir {w : World} {g n c : Nat} {y : List Nat} (h : Wy w g n c y) (nm : ByteArray) (i : Nat) :
    Calls Tryz.prog 146 #[plcV g n c nm i] w fun e w' => e = .returned (.int .i64 ((Fs.dirOf y : Nat) : Int)) ∧ Below w.heap.size w w' :=
  dir_any w g n c (Fs.dirOf y) nm (i : Int) h.pos h.last h.lt h.cap h.max

/-- What keeps a rename away. -/
def Fs.mayR (F : Fs) (y : List Nat) (i : Nat) (y2 : List Nat) (m : Nat) : Int :=
  if m ≠ 0 ∧ F.over i m ≠ 0 then F.over i m else if i ∈ y2 then 22 else if m = 0 ∧ Fs.dirOf y2 ≠ Fs.dirOf y ∧ 6 ≤ (F.P (Fs.dirOf y2)).Q.length then 28 else 0

theorem two_boxes {w : World} (a b : Obj) : Below w.heap.size w ((w.alloc a).alloc b) := ((Below.refl _ _).alloc (Nat.le_refl _) _).alloc (by simp) _

end Go.Proofs.YtoknhcjneliboaaGreat

/- What mayRename tells. -/
namespace Go.Proofs.YtoknhcjneliboaaGreat
open Go.RowKit Go.ChangeMaps Go.MapKept
set_option linter.unusedVariables false
set_option maxRecDepth 20000

set_option maxHeartbeats 4000000 in
theorem mayren_any (p : Nat) (S : Sg) (F : Fs) (w : World) (H : Sy w p S) (R : Rel S F) (hF : FOk F) (g n c : Nat) (y : List Nat) (nm : ByteArray) (i : Nat) (g2 n2 c2 : Nat) (y2 : List Nat) (nm2 : ByteArray) (m : Nat)
    (W1 : Wy w g n c y) (W2 : Wy w g2 n2 c2 y2) (hi : i < 17) (hm : m < 17) (hd2 : Fs.dirOf y2 < 17) :
    Calls Tryz.prog 137 #[.pointer (some ⟨p, 0, none⟩), .agg #[.slice (some ⟨g, 0, none⟩) n c, .string nm, .int .i64 (i : Int)], .agg #[.slice (some ⟨g2, 0, none⟩) n2 c2, .string nm2, .int .i64 (m : Int)]] w fun e w' => e = .returned (.int .i64 (F.mayR y i y2 m)) ∧ Below w.heap.size w w' := by
  obtain ⟨X, gX⟩ : ∃ X, X = F.mayR y i y2 m := ⟨_, rfl⟩
  rw [← gX]
  unfold Fs.mayR at gX
  obtain ⟨WB, gB⟩ : ∃ WB, WB = (w.alloc (Obj.cells #[.slice (some ⟨g, 0, none⟩) n c, .string nm, .int .i64 (i : Int)] 184)).alloc (Obj.cells #[.slice (some ⟨g2, 0, none⟩) n2 c2, .string nm2, .int .i64 (m : Int)] 184) := ⟨_, rfl⟩
  have hB : Below w.heap.size w WB := by rw [gB]; exact two_boxes _ _
  have hs : WB.heap.size = w.heap.size + 1 + 1 := by rw [gB]; simp
  have hb2 : WB.heap[w.heap.size + 1]? = some (.cells #[.slice (some ⟨g2, 0, none⟩) n2 c2, .string nm2, .int .i64 (m : Int)] 184 (0, 0)) := by
    rw [gB]
    have := heap_alloc_new (w.alloc (Obj.cells #[.slice (some ⟨g, 0, none⟩) n c, .string nm, .int .i64 (i : Int)] 184)) (Obj.cells #[.slice (some ⟨g2, 0, none⟩) n2 c2, .string nm2, .int .i64 (m : Int)] 184)
    rw [show (w.alloc (Obj.cells #[.slice (some ⟨g, 0, none⟩) n c, .string nm, .int .i64 (i : Int)] 184)).heap.size = w.heap.size + 1 by simp] at this
    exact this
  have hb1 : WB.heap[w.heap.size]? = some (.cells #[.slice (some ⟨g, 0, none⟩) n c, .string nm, .int .i64 (i : Int)] 184 (0, 0)) := by
    rw [gB]; exact plc_behind (heap_alloc_new w _) _
  obtain ⟨a0, a1, a2, _, _, _⟩ := plc_cells hb1
  obtain ⟨b0, b1, b2, _, _, _⟩ := plc_cells hb2
  have hS := H.grow hB
  have V1 := W1.grow hB
  have V2 := W2.grow hB
  have kr : Hid (∀ W, W.heap = WB.heap → Calls Tryz.prog 152 #[.pointer (some ⟨p, 1 + i * 107, none⟩), .pointer (some ⟨p, 1 + m * 107, none⟩)] W fun e w' => e = .returned (.int .i64 (F.over i m)) ∧ w' = W) :=
    hid (fun W hW => mayrep_any p S F W (hS.hp hW) R hF i m hi hm)
  have kc : Hid (∀ W, W.heap = WB.heap → Calls Tryz.prog 153 #[.slice (some ⟨g2, 0, none⟩) n2 c2, .int .i64 (i : Int)] W fun e w' => e = .returned (.bool (decide (i ∈ y2))) ∧ w' = W) :=
    hid (fun W hW => ncont_any g2 n2 c2 y2 i W (fun j hj => (World.cell?_of_block (a := ⟨g2, j, none⟩) (show W.heap[g2]? = WB.heap[g2]? by rw [hW])).trans (V2.at_ j hj)) V2.len (by have := V2.cap; have := V2.max; omega))
  have kd1 : Hid (∀ W, Hid (Below WB.heap.size WB W) → Calls Tryz.prog 146 #[.agg #[.slice (some ⟨g, 0, none⟩) n c, .string nm, .int .i64 (i : Int)]] W fun e w' => e = .returned (.int .i64 ((Fs.dirOf y : Nat) : Int)) ∧ Hid (Below WB.heap.size WB w')) := by
    refine hid (fun W hW => ((V1.grow hW.out).dir nm i).mono ?_)
    rintro e w' ⟨rfl, h⟩
    exact ⟨rfl, hid (hW.out.trans (h.mono hW.out.size))⟩
  have kd2 : Hid (∀ W, Hid (Below WB.heap.size WB W) → Calls Tryz.prog 146 #[.agg #[.slice (some ⟨g2, 0, none⟩) n2 c2, .string nm2, .int .i64 (m : Int)]] W fun e w' => e = .returned (.int .i64 ((Fs.dirOf y2 : Nat) : Int)) ∧ Hid (Below WB.heap.size WB w')) := by
    refine hid (fun W hW => ((V2.grow hW.out).dir nm2 m).mono ?_)
    rintro e w' ⟨rfl, h⟩
    exact ⟨rfl, hid (hW.out.trans (h.mono hW.out.size))⟩
  have kf : Hid (∀ W, Hid (Below WB.heap.size WB W) → Calls Tryz.prog 147 #[.pointer (some ⟨p, 1 + Fs.dirOf y2 * 107, none⟩)] W fun e w' => e = .returned (.bool (decide (6 ≤ (F.P (Fs.dirOf y2)).Q.length))) ∧ w' = W) := by
    refine hid (fun W hW => ?_)
    have hS' := hS.grow hW.out
    have := isfull_any p (1 + Fs.dirOf y2 * 107) _ _ _ W (hS'.m _ hd2) (hS'.nms _ hd2)
    rw [R.L _ hd2] at this
    exact this
  obtain ⟨d, gd⟩ : ∃ d, d = Fs.dirOf y := ⟨_, rfl⟩
  obtain ⟨d2, gd2⟩ : ∃ d2, d2 = Fs.dirOf y2 := ⟨_, rfl⟩
  obtain ⟨L, gL⟩ : ∃ L, L = (F.P (Fs.dirOf y2)).Q.length := ⟨_, rfl⟩
  obtain ⟨E, gE⟩ : ∃ E, E = F.over i m := ⟨_, rfl⟩
  rw [← gL] at kf gX
  rw [← gd] at kd1 gX
  rw [← gd2] at kd2 kf gX hd2
  rw [← gE] at kr gX
  have KX : Hid (∀ W, Hid (Below WB.heap.size WB W) → W.cell? ⟨w.heap.size, 0, none⟩ = some (.slice (some ⟨g, 0, none⟩) n c) ∧ W.cell? ⟨w.heap.size, 1, none⟩ = some (.string nm) ∧ W.cell? ⟨w.heap.size, 2, none⟩ = some (.int .i64 (i : Int)) ∧ W.cell? ⟨w.heap.size + 1, 0, none⟩ = some (.slice (some ⟨g2, 0, none⟩) n2 c2) ∧ W.cell? ⟨w.heap.size + 1, 1, none⟩ = some (.string nm2) ∧ W.cell? ⟨w.heap.size + 1, 2, none⟩ = some (.int .i64 (m : Int))) := by
    refine hid (fun W hW => ?_)
    have e : ∀ k j, k < WB.heap.size → W.cell? ⟨k, j, none⟩ = WB.cell? ⟨k, j, none⟩ := fun k j hk => hW.out.cell (p := ⟨k, j, none⟩) hk
    rw [e _ _ (by omega), e _ _ (by omega), e _ _ (by omega), e _ _ (by omega), e _ _ (by omega), e _ _ (by omega)]
    exact ⟨a0, a1, a2, b0, b1, b2⟩
  have i0 : (0 : Int) ≤ (i : Int) := by omega
  have i1 : (i : Int) < 17 := by omega
  have m0 : (0 : Int) ≤ (m : Int) := by omega
  have m1 : (m : Int) < 17 := by omega
  have HB := hid hB
  have HZ : Hid (w.heap.size < WB.heap.size ∧ w.heap.size + 1 < WB.heap.size) := hid (by omega)
  have HGX := hid gX
  clear H R hF W1 W2 hS V1 V2 hb1 hb2 hB hs gX gd gd2 gL gE
  by_cases hm0 : m = 0
  · have e0 : ¬ m ≠ 0 := by omega
    have z0 : (m : Int) = 0 := by omega
    by_cases hc : i ∈ y2
    · have HX : Hid (X = 22) := by
        have := HGX.out
        rw [if_neg (fun q => e0 q.1), if_pos hc] at this
        exact hid this
      rw [show decide (i ∈ y2) = true by simp [hc]] at kc
      subst hm0
      change WB = (w.alloc (Obj.cells #[.slice (some ⟨g, 0, none⟩) n c, .string nm, .int .i64 (i : Int)] 184)).alloc (Obj.cells #[.slice (some ⟨g2, 0, none⟩) n2 c2, .string nm2, .int .i64 0] 184) at gB
      change WB.cell? ⟨w.heap.size + 1, 2, none⟩ = some (.int .i64 0) at b2
      change Hid (∀ W, Hid (Below WB.heap.size WB W) → W.cell? ⟨w.heap.size, 0, none⟩ = some (.slice (some ⟨g, 0, none⟩) n c) ∧ W.cell? ⟨w.heap.size, 1, none⟩ = some (.string nm) ∧ W.cell? ⟨w.heap.size, 2, none⟩ = some (.int .i64 (i : Int)) ∧ W.cell? ⟨w.heap.size + 1, 0, none⟩ = some (.slice (some ⟨g2, 0, none⟩) n2 c2) ∧ W.cell? ⟨w.heap.size + 1, 1, none⟩ = some (.string nm2) ∧ W.cell? ⟨w.heap.size + 1, 2, none⟩ = some (.int .i64 0)) at KX
      change Hid (∀ W, Hid (Below WB.heap.size WB W) → Calls Tryz.prog 146 #[.agg #[.slice (some ⟨g2, 0, none⟩) n2 c2, .string nm2, .int .i64 0]] W fun e w' => e = .returned (.int .i64 (d2 : Int)) ∧ Hid (Below WB.heap.size WB w')) at kd2
      clear HGX hc e0 kr kd1 kd2 kf z0 m0 m1
      go_enter Tryz.func137, Tryz.ntmps137
      go_wp2_with fail
      rw [← gB]
      clear gB
      refine (kc.out _ rfl).mono ?_
      rintro e w1 ⟨rfl, rfl⟩
      go_wp2_with fail
      go_ret
      rw [HX.out]
      exact ⟨rfl, HB.out⟩
    · rw [show decide (i ∈ y2) = false by simp [hc]] at kc
      have HGX2 : Hid (X = if d2 ≠ d ∧ 6 ≤ L then 28 else 0) := by
        have := HGX.out
        rw [if_neg (fun q => e0 q.1), if_neg hc] at this
        rw [this]
        exact hid (by simp [hm0])
      subst hm0
      change WB = (w.alloc (Obj.cells #[.slice (some ⟨g, 0, none⟩) n c, .string nm, .int .i64 (i : Int)] 184)).alloc (Obj.cells #[.slice (some ⟨g2, 0, none⟩) n2 c2, .string nm2, .int .i64 0] 184) at gB
      change WB.cell? ⟨w.heap.size + 1, 2, none⟩ = some (.int .i64 0) at b2
      change Hid (∀ W, Hid (Below WB.heap.size WB W) → W.cell? ⟨w.heap.size, 0, none⟩ = some (.slice (some ⟨g, 0, none⟩) n c) ∧ W.cell? ⟨w.heap.size, 1, none⟩ = some (.string nm) ∧ W.cell? ⟨w.heap.size, 2, none⟩ = some (.int .i64 (i : Int)) ∧ W.cell? ⟨w.heap.size + 1, 0, none⟩ = some (.slice (some ⟨g2, 0, none⟩) n2 c2) ∧ W.cell? ⟨w.heap.size + 1, 1, none⟩ = some (.string nm2) ∧ W.cell? ⟨w.heap.size + 1, 2, none⟩ = some (.int .i64 0)) at KX
      change Hid (∀ W, Hid (Below WB.heap.size WB W) → Calls Tryz.prog 146 #[.agg #[.slice (some ⟨g2, 0, none⟩) n2 c2, .string nm2, .int .i64 0]] W fun e w' => e = .returned (.int .i64 (d2 : Int)) ∧ Hid (Below WB.heap.size WB w')) at kd2
      have d20 : (0 : Int) ≤ (d2 : Int) := by omega
      have d21 : (d2 : Int) < 17 := by omega
      clear HGX hc e0 kr z0 m0 m1
      by_cases hdd : d2 = d
      · have HX : Hid (X = 0) := by rw [HGX2.out]; exact hid (by simp [hdd])
        subst hdd
        clear HGX2 kf
        go_enter Tryz.func137, Tryz.ntmps137
        go_wp2_with fail
        rw [← gB]
        clear gB
        refine (kc.out _ rfl).mono ?_
        rintro e w1 ⟨rfl, rfl⟩
        clear kc
        go_wp2_with fail
        -- MANUAL
        refine wp_region_held_drew (S := (fun W => W.cell? ⟨w.heap.size, 0, none⟩ = some (.slice (some ⟨g, 0, none⟩) n c) ∧ W.cell? ⟨w.heap.size, 1, none⟩ = some (.string nm) ∧ W.cell? ⟨w.heap.size, 2, none⟩ = some (.int .i64 (i : Int)) ∧ W.cell? ⟨w.heap.size + 1, 0, none⟩ = some (.slice (some ⟨g2, 0, none⟩) n2 c2) ∧ W.cell? ⟨w.heap.size + 1, 1, none⟩ = some (.string nm2) ∧ W.cell? ⟨w.heap.size + 1, 2, none⟩ = some (.int .i64 0))) (by kernel_rfl) ?_ (fun hHeld => ?_)
        · (try dsimp only); go_keep
        refine wpAnyH_take (i := 0) (v := ?_) rfl (by kernel_rfl) (by kernel_rfl) (by kernel_rfl) (fun _ _ _ h => h) (Or.inl ⟨by rfl, ?_⟩) (by assumption) ?_
        rotate_left 1
        · intro w hSw
          (try dsimp only at hSw)
          go_simp
          try with_reducible rfl
        (try simp only [Act.put, List.getElem_toArray, List.getElem_cons_zero, List.setIfInBounds_toArray, List.set_cons_zero, List.set_cons_succ])
        refine wpAnyH_take (i := 1) (v := ?_) rfl (by kernel_rfl) (by kernel_rfl) (by kernel_rfl) (fun _ _ _ h => h) (Or.inl ⟨by rfl, ?_⟩) (by assumption) ?_
        rotate_left 1
        · intro w hSw
          (try dsimp only at hSw)
          go_simp
          try with_reducible rfl
        (try simp only [Act.put, List.getElem_toArray, List.getElem_cons_succ, List.getElem_cons_zero, List.setIfInBounds_toArray, List.set_cons_zero, List.set_cons_succ])
        refine wpAnyH_take (i := 2) (v := ?_) rfl (by kernel_rfl) (by kernel_rfl) (by kernel_rfl) (fun _ _ _ h => h) (Or.inl ⟨by rfl, ?_⟩) (by assumption) ?_
        rotate_left 1
        · intro w hSw
          (try dsimp only at hSw)
          go_simp
          try with_reducible rfl
        (try simp only [Act.put, List.getElem_toArray, List.getElem_cons_succ, List.getElem_cons_zero, List.setIfInBounds_toArray, List.set_cons_zero, List.set_cons_succ])
        refine wpAnyH_take (i := 3) (v := ?_) rfl (by kernel_rfl) (by kernel_rfl) (by kernel_rfl) (fun _ _ _ h => h) (Or.inl ⟨by rfl, ?_⟩) (by assumption) ?_
        rotate_left 1
        · intro w hSw
          (try dsimp only at hSw)
          go_simp
          try with_reducible rfl
        (try simp only [Act.put, List.getElem_toArray, List.getElem_cons_succ, List.getElem_cons_zero, List.setIfInBounds_toArray, List.set_cons_zero, List.set_cons_succ])
        refine wpAnyH_take (i := 4) (v := ?_) rfl (by kernel_rfl) (by kernel_rfl) (by kernel_rfl) (fun _ _ _ h => h) (Or.inl ⟨by rfl, ?_⟩) (by assumption) ?_
        rotate_left 1
        · intro w hSw
          (try dsimp only at hSw)
          go_simp
          try with_reducible rfl
        (try simp only [Act.put, List.getElem_toArray, List.getElem_cons_succ, List.getElem_cons_zero, List.setIfInBounds_toArray, List.set_cons_zero, List.set_cons_succ])
        refine wpAnyH_take (i := 6) (v := ?_) rfl (by kernel_rfl) (by kernel_rfl) (by kernel_rfl) (fun _ _ _ h => h) (Or.inl ⟨by rfl, ?_⟩) (by assumption) ?_
        rotate_left 1
        · intro w hSw
          (try dsimp only at hSw)
          go_simp
          try with_reducible rfl
        (try simp only [Act.put, List.getElem_toArray, List.getElem_cons_succ, List.getElem_cons_zero, List.setIfInBounds_toArray, List.set_cons_zero, List.set_cons_succ])
        refine wpAnyH_ready (rs := [5]) (by kernel_rfl) (by simp) ?_
        refine AllReadyH.cons rfl (fun K hK => ?_) AllReadyH.nil
        go_simp
        go_at_call 146
        refine (kd2.out _ (hid ((Below.refl _ _).drew))).mono ?_
        rintro e w4 ⟨rfl, hw4⟩
        obtain ⟨x0, x1, x2, x3, x4, x5⟩ := KX.out w4 hw4
        (try go_wp2_with fail)
        refine hK.out _ _ ?_ (fun hHeld => ?_)
        · (try dsimp only); exact ⟨x0, x1, x2, x3, x4, x5⟩
        clear hK K
        (try simp only [Act.put, List.getElem_toArray, List.getElem_cons_succ, List.getElem_cons_zero, List.setIfInBounds_toArray, List.set_cons_zero, List.set_cons_succ])
        refine wpAnyH_ready (rs := [7]) (by kernel_rfl) (by simp) ?_
        refine AllReadyH.cons rfl (fun K hK => ?_) AllReadyH.nil
        go_simp
        go_at_call 146
        refine (kd1.out _ hw4).mono ?_
        rintro e w5 ⟨rfl, hw5⟩
        obtain ⟨x0, x1, x2, x3, x4, x5⟩ := KX.out w5 hw5
        (try go_wp2_with fail)
        refine hK.out _ _ ?_ (fun hHeld => ?_)
        · (try dsimp only); exact ⟨x0, x1, x2, x3, x4, x5⟩
        clear hK K
        (try simp only [Act.put, List.getElem_toArray, List.getElem_cons_succ, List.getElem_cons_zero, List.setIfInBounds_toArray, List.set_cons_zero, List.set_cons_succ])
        refine wpAnyH_take (i := 8) (v := ?_) rfl (by kernel_rfl) (by kernel_rfl) (by kernel_rfl) (fun _ _ _ h => h) (Or.inl ⟨by rfl, ?_⟩) (by assumption) ?_
        rotate_left 1
        · intro w hSw
          (try dsimp only at hSw)
          go_simp
          try with_reducible rfl
        (try simp only [Act.put, List.getElem_toArray, List.getElem_cons_succ, List.getElem_cons_zero, List.setIfInBounds_toArray, List.set_cons_zero, List.set_cons_succ])
        refine wpAnyH_take (i := 9) (v := ?_) rfl (by kernel_rfl) (by kernel_rfl) (by kernel_rfl) (fun _ _ _ h => h) (Or.inl ⟨by rfl, ?_⟩) (by assumption) ?_
        rotate_left 1
        · intro w hSw
          (try dsimp only at hSw)
          go_simp
          try with_reducible rfl
        (try simp only [Act.put, List.getElem_toArray, List.getElem_cons_succ, List.getElem_cons_zero, List.setIfInBounds_toArray, List.set_cons_zero, List.set_cons_succ])
        refine wpAnyH_take (i := 10) (v := ?_) rfl (by kernel_rfl) (by kernel_rfl) (by kernel_rfl) (fun _ _ _ h => h) (Or.inl ⟨by rfl, ?_⟩) (by assumption) ?_
        rotate_left 1
        · intro w hSw
          (try dsimp only at hSw)
          go_simp
          try with_reducible rfl
        (try simp only [Act.put, List.getElem_toArray, List.getElem_cons_succ, List.getElem_cons_zero, List.setIfInBounds_toArray, List.set_cons_zero, List.set_cons_succ])
        refine wpAnyH_take (i := 11) (v := undef) rfl (by kernel_rfl) (by kernel_rfl) (by kernel_rfl) (fun _ _ _ h => h) (Or.inr ⟨by rfl, rfl⟩) (by assumption) ?_
        (try simp only [Act.put, List.getElem_toArray, List.getElem_cons_succ, List.getElem_cons_zero, List.setIfInBounds_toArray, List.set_cons_zero, List.set_cons_succ])
        refine wpAnyH_take (i := 14) (v := undef) rfl (by kernel_rfl) (by kernel_rfl) (by kernel_rfl) (fun _ _ _ h => h) (Or.inr ⟨by rfl, rfl⟩) (by assumption) ?_
        (try simp only [Act.put, List.getElem_toArray, List.getElem_cons_succ, List.getElem_cons_zero, List.setIfInBounds_toArray, List.set_cons_zero, List.set_cons_succ])
        refine wpAnyH_take (i := 15) (v := undef) rfl (by kernel_rfl) (by kernel_rfl) (by kernel_rfl) (fun _ _ _ h => h) (Or.inr ⟨by rfl, rfl⟩) (by assumption) ?_
        (try simp only [Act.put, List.getElem_toArray, List.getElem_cons_succ, List.getElem_cons_zero, List.setIfInBounds_toArray, List.set_cons_zero, List.set_cons_succ])
        refine wpAnyH_take (i := 12) (v := undef) rfl (by kernel_rfl) (by kernel_rfl) (by kernel_rfl) (fun _ _ _ h => h) (Or.inr ⟨by rfl, rfl⟩) (by assumption) ?_
        (try simp only [Act.put, List.getElem_toArray, List.getElem_cons_succ, List.getElem_cons_zero, List.setIfInBounds_toArray, List.set_cons_zero, List.set_cons_succ])
        refine wpAnyH_take (i := 13) (v := undef) rfl (by kernel_rfl) (by kernel_rfl) (by kernel_rfl) (fun _ _ _ h => h) (Or.inr ⟨by rfl, rfl⟩) (by assumption) ?_
        (try simp only [Act.put, List.getElem_toArray, List.getElem_cons_succ, List.getElem_cons_zero, List.setIfInBounds_toArray, List.set_cons_zero, List.set_cons_succ])
        refine wpAnyH_take (i := 16) (v := undef) rfl (by kernel_rfl) (by kernel_rfl) (by kernel_rfl) (fun _ _ _ h => h) (Or.inr ⟨by rfl, rfl⟩) (by assumption) ?_
        (try simp only [Act.put, List.getElem_toArray, List.getElem_cons_succ, List.getElem_cons_zero, List.setIfInBounds_toArray, List.set_cons_zero, List.set_cons_succ])
        refine wpAnyH_take (i := 17) (v := undef) rfl (by kernel_rfl) (by kernel_rfl) (by kernel_rfl) (fun _ _ _ h => h) (Or.inr ⟨by rfl, rfl⟩) (by assumption) ?_
        (try simp only [Act.put, List.getElem_toArray, List.getElem_cons_succ, List.getElem_cons_zero, List.setIfInBounds_toArray, List.set_cons_zero, List.set_cons_succ])
        refine wpAnyH_take (i := 18) (v := ?_) rfl (by kernel_rfl) (by kernel_rfl) (by kernel_rfl) (fun _ _ _ h => h) (Or.inl ⟨by rfl, ?_⟩) (by assumption) ?_
        rotate_left 1
        · intro w hSw
          (try dsimp only at hSw)
          go_simp
          try with_reducible rfl
        (try simp only [Act.put, List.getElem_toArray, List.getElem_cons_succ, List.getElem_cons_zero, List.setIfInBounds_toArray, List.set_cons_zero, List.set_cons_succ])
        refine wpAnyH_done (by kernel_rfl) ?_ _
        clear x0 x1 x2 x3 x4 x5 kd1 kd2 KX a0 a1 a2 b0 b1 b2
        go_wp2_with fail
        go_ret
        rw [HX.out]
        exact ⟨rfl, HB.out.trans (hw5.out.mono HB.out.size)⟩
      · by_cases hL : 6 ≤ L
        · have hdd1 : ¬ (d2 : Int) = (d : Int) := by omega
          have hdd2 : ((d2 : Int) == (d : Int)) = false := by simpa using hdd1
          have hdd3 : ((d2 : Int) != (d : Int)) = true := by simpa using hdd1
          rw [show decide (6 ≤ L) = true by simp [hL]] at kf
          have HX : Hid (X = 28) := by rw [HGX2.out]; exact hid (by simp [hdd, hL])
          clear HGX2 hdd hL
          go_enter Tryz.func137, Tryz.ntmps137
          go_wp2_with fail
          rw [← gB]
          clear gB
          refine (kc.out _ rfl).mono ?_
          rintro e w1 ⟨rfl, rfl⟩
          clear kc
          go_wp2_with fail
          go_region_held3 (fun W => W.cell? ⟨w.heap.size, 0, none⟩ = some (.slice (some ⟨g, 0, none⟩) n c) ∧ W.cell? ⟨w.heap.size, 1, none⟩ = some (.string nm) ∧ W.cell? ⟨w.heap.size, 2, none⟩ = some (.int .i64 (i : Int)) ∧ W.cell? ⟨w.heap.size + 1, 0, none⟩ = some (.slice (some ⟨g2, 0, none⟩) n2 c2) ∧ W.cell? ⟨w.heap.size + 1, 1, none⟩ = some (.string nm2) ∧ W.cell? ⟨w.heap.size + 1, 2, none⟩ = some (.int .i64 0)) (go_keep) (first | (go_at_call 146; first | (with_reducible show Calls _ _ #[Value.agg #[Value.slice (some ⟨g, 0, none⟩) n c, _, _]] _ _; refine (kd1.out _ (by first | assumption | exact hid ((Below.refl _ _).drew))).mono ?_; rintro e w4 ⟨rfl, hb4⟩; obtain ⟨x0, x1, x2, x3, x4, x5⟩ := KX.out w4 hb4) | (with_reducible show Calls _ _ #[Value.agg #[Value.slice (some ⟨g2, 0, none⟩) n2 c2, _, _]] _ _; refine (kd2.out _ (by first | assumption | exact hid ((Below.refl _ _).drew))).mono ?_; rintro e w4 ⟨rfl, hb4⟩; obtain ⟨x0, x1, x2, x3, x4, x5⟩ := KX.out w4 hb4)) | (go_at_call 147; refine (kf.out _ (by assumption)).mono ?_; rintro e w6 ⟨rfl, rfl⟩))
          clear kd1 kd2 KX a0 a1 a2 b0 b1 b2
          all_goals go_wp2_with fail
          all_goals go_ret
          all_goals (rw [HX.out]; exact ⟨rfl, HB.out.trans ((by assumption : Hid (Below w1.heap.size w1 _)).out.mono HB.out.size)⟩)
        · have hdd1 : ¬ (d2 : Int) = (d : Int) := by omega
          have hdd2 : ((d2 : Int) == (d : Int)) = false := by simpa using hdd1
          have hdd3 : ((d2 : Int) != (d : Int)) = true := by simpa using hdd1
          rw [show decide (6 ≤ L) = false by simp [hL]] at kf
          have HX : Hid (X = 0) := by rw [HGX2.out]; exact hid (by simp [hdd, hL])
          clear HGX2 hdd hL
          go_enter Tryz.func137, Tryz.ntmps137
          go_wp2_with fail
          rw [← gB]
          clear gB
          refine (kc.out _ rfl).mono ?_
          rintro e w1 ⟨rfl, rfl⟩
          clear kc
          go_wp2_with fail
          go_region_held3 (fun W => W.cell? ⟨w.heap.size, 0, none⟩ = some (.slice (some ⟨g, 0, none⟩) n c) ∧ W.cell? ⟨w.heap.size, 1, none⟩ = some (.string nm) ∧ W.cell? ⟨w.heap.size, 2, none⟩ = some (.int .i64 (i : Int)) ∧ W.cell? ⟨w.heap.size + 1, 0, none⟩ = some (.slice (some ⟨g2, 0, none⟩) n2 c2) ∧ W.cell? ⟨w.heap.size + 1, 1, none⟩ = some (.string nm2) ∧ W.cell? ⟨w.heap.size + 1, 2, none⟩ = some (.int .i64 0)) (go_keep) (first | (go_at_call 146; first | (with_reducible show Calls _ _ #[Value.agg #[Value.slice (some ⟨g, 0, none⟩) n c, _, _]] _ _; refine (kd1.out _ (by first | assumption | exact hid ((Below.refl _ _).drew))).mono ?_; rintro e w4 ⟨rfl, hb4⟩; obtain ⟨x0, x1, x2, x3, x4, x5⟩ := KX.out w4 hb4) | (with_reducible show Calls _ _ #[Value.agg #[Value.slice (some ⟨g2, 0, none⟩) n2 c2, _, _]] _ _; refine (kd2.out _ (by first | assumption | exact hid ((Below.refl _ _).drew))).mono ?_; rintro e w4 ⟨rfl, hb4⟩; obtain ⟨x0, x1, x2, x3, x4, x5⟩ := KX.out w4 hb4)) | (go_at_call 147; refine (kf.out _ (by assumption)).mono ?_; rintro e w6 ⟨rfl, rfl⟩))
          clear kd1 kd2 KX a0 a1 a2 b0 b1 b2
          all_goals go_wp2_with fail
          all_goals go_ret
          all_goals (rw [HX.out]; exact ⟨rfl, HB.out.trans ((by assumption : Hid (Below w1.heap.size w1 _)).out.mono HB.out.size)⟩)
  · have z0 : ¬ (m : Int) = 0 := by omega
    have z1 : ((m : Int) == 0) = false := by simpa using hm0
    clear kd1 kd2 kf
    by_cases hE : E = 0
    case neg =>
      have HX : Hid (X = E) := by
        have := HGX.out
        rw [if_pos ⟨hm0, hE⟩] at this
        exact hid this
      clear HGX hm0 kc
      go_enter Tryz.func137, Tryz.ntmps137
      go_wp2_with fail
      rw [← gB]
      clear gB
      go_region_held3 (fun W => W.cell? ⟨w.heap.size, 0, none⟩ = some (.slice (some ⟨g, 0, none⟩) n c) ∧ W.cell? ⟨w.heap.size, 1, none⟩ = some (.string nm) ∧ W.cell? ⟨w.heap.size, 2, none⟩ = some (.int .i64 (i : Int)) ∧ W.cell? ⟨w.heap.size + 1, 0, none⟩ = some (.slice (some ⟨g2, 0, none⟩) n2 c2) ∧ W.cell? ⟨w.heap.size + 1, 1, none⟩ = some (.string nm2) ∧ W.cell? ⟨w.heap.size + 1, 2, none⟩ = some (.int .i64 (m : Int))) (go_keep) (first | (go_at_call 152; refine (kr.out _ (by rfl)).mono ?_; rintro e w4 ⟨rfl, rfl⟩))
      clear kr KX a0 a1 a2 b0 b1 b2
      all_goals go_wp2_with fail
      all_goals go_ret
      all_goals (rw [HX.out]; exact ⟨rfl, HB.out.drew⟩)
    subst hE
    by_cases hc : i ∈ y2
    · have HX : Hid (X = 22) := by
        have := HGX.out
        rw [if_neg (fun q => q.2 rfl), if_pos hc] at this
        exact hid this
      rw [show decide (i ∈ y2) = true by simp [hc]] at kc
      clear HGX hm0 hc
      go_enter Tryz.func137, Tryz.ntmps137
      go_wp2_with fail
      rw [← gB]
      clear gB
      go_region_held3 (fun W => W.cell? ⟨w.heap.size, 0, none⟩ = some (.slice (some ⟨g, 0, none⟩) n c) ∧ W.cell? ⟨w.heap.size, 1, none⟩ = some (.string nm) ∧ W.cell? ⟨w.heap.size, 2, none⟩ = some (.int .i64 (i : Int)) ∧ W.cell? ⟨w.heap.size + 1, 0, none⟩ = some (.slice (some ⟨g2, 0, none⟩) n2 c2) ∧ W.cell? ⟨w.heap.size + 1, 1, none⟩ = some (.string nm2) ∧ W.cell? ⟨w.heap.size + 1, 2, none⟩ = some (.int .i64 (m : Int))) (go_keep) (first | (go_at_call 152; refine (kr.out _ (by rfl)).mono ?_; rintro e w4 ⟨rfl, rfl⟩))
      clear kr KX
      go_wp2_with fail
      refine (kc.out WB.drew rfl).mono ?_
      rintro e w5 ⟨rfl, rfl⟩
      clear kc a0 a1 a2 b0 b1 b2
      go_wp2_with fail
      go_ret
      rw [HX.out]
      exact ⟨rfl, HB.out.drew⟩
    · have HX : Hid (X = 0) := by
        have := HGX.out
        rw [if_neg (fun q => q.2 rfl), if_neg hc, if_neg (fun q => hm0 q.1)] at this
        exact hid this
      rw [show decide (i ∈ y2) = false by simp [hc]] at kc
      clear HGX hm0 hc
      go_enter Tryz.func137, Tryz.ntmps137
      go_wp2_with fail
      rw [← gB]
      clear gB
      go_region_held3 (fun W => W.cell? ⟨w.heap.size, 0, none⟩ = some (.slice (some ⟨g, 0, none⟩) n c) ∧ W.cell? ⟨w.heap.size, 1, none⟩ = some (.string nm) ∧ W.cell? ⟨w.heap.size, 2, none⟩ = some (.int .i64 (i : Int)) ∧ W.cell? ⟨w.heap.size + 1, 0, none⟩ = some (.slice (some ⟨g2, 0, none⟩) n2 c2) ∧ W.cell? ⟨w.heap.size + 1, 1, none⟩ = some (.string nm2) ∧ W.cell? ⟨w.heap.size + 1, 2, none⟩ = some (.int .i64 (m : Int))) (go_keep) (first | (go_at_call 152; refine (kr.out _ (by rfl)).mono ?_; rintro e w4 ⟨rfl, rfl⟩))
      clear kr KX
      go_wp2_with fail
      refine (kc.out WB.drew rfl).mono ?_
      rintro e w5 ⟨rfl, rfl⟩
      clear kc
      go_wp2_with fail
      refine wp_region_held_drew (S := (fun W => W.cell? ⟨w.heap.size, 0, none⟩ = some (.slice (some ⟨g, 0, none⟩) n c) ∧ W.cell? ⟨w.heap.size, 1, none⟩ = some (.string nm) ∧ W.cell? ⟨w.heap.size, 2, none⟩ = some (.int .i64 (i : Int)) ∧ W.cell? ⟨w.heap.size + 1, 0, none⟩ = some (.slice (some ⟨g2, 0, none⟩) n2 c2) ∧ W.cell? ⟨w.heap.size + 1, 1, none⟩ = some (.string nm2) ∧ W.cell? ⟨w.heap.size + 1, 2, none⟩ = some (.int .i64 (m : Int)))) (by kernel_rfl) ?_ (fun hHeld => ?_)
      · (try dsimp only); go_keep
      refine wpAnyH_take (i := 0) (v := ?_) rfl (by kernel_rfl) (by kernel_rfl) (by kernel_rfl) (fun _ _ _ h => h) (Or.inl ⟨by rfl, ?_⟩) (by assumption) ?_
      rotate_left 1
      · intro w hSw
        (try dsimp only at hSw)
        go_simp
        try with_reducible rfl
      (try simp only [Act.put, List.getElem_toArray, List.getElem_cons_zero, List.setIfInBounds_toArray, List.set_cons_zero, List.set_cons_succ])
      refine wpAnyH_take (i := 1) (v := ?_) rfl (by kernel_rfl) (by kernel_rfl) (by kernel_rfl) (fun _ _ _ h => h) (Or.inl ⟨by rfl, ?_⟩) (by assumption) ?_
      rotate_left 1
      · intro w hSw
        (try dsimp only at hSw)
        go_simp
        try with_reducible rfl
      (try simp only [Act.put, List.getElem_toArray, List.getElem_cons_succ, List.getElem_cons_zero, List.setIfInBounds_toArray, List.set_cons_zero, List.set_cons_succ])
      refine wpAnyH_take (i := 2) (v := ?_) rfl (by kernel_rfl) (by kernel_rfl) (by kernel_rfl) (fun _ _ _ h => h) (Or.inl ⟨by rfl, ?_⟩) (by assumption) ?_
      rotate_left 1
      · intro w hSw
        (try dsimp only at hSw)
        go_simp
        try with_reducible rfl
      (try simp only [Act.put, List.getElem_toArray, List.getElem_cons_succ, List.getElem_cons_zero, List.setIfInBounds_toArray, List.set_cons_zero, List.set_cons_succ])
      refine wpAnyH_take (i := 3) (v := ?_) rfl (by kernel_rfl) (by kernel_rfl) (by kernel_rfl) (fun _ _ _ h => h) (Or.inl ⟨by rfl, ?_⟩) (by assumption) ?_
      rotate_left 1
      · intro w hSw
        (try dsimp only at hSw)
        go_simp
        try with_reducible rfl
      (try simp only [Act.put, List.getElem_toArray, List.getElem_cons_succ, List.getElem_cons_zero, List.setIfInBounds_toArray, List.set_cons_zero, List.set_cons_succ])
      refine wpAnyH_take (i := 4) (v := undef) rfl (by kernel_rfl) (by kernel_rfl) (by kernel_rfl) (fun _ _ _ h => h) (Or.inr ⟨by rfl, rfl⟩) (by assumption) ?_
      (try simp only [Act.put, List.getElem_toArray, List.getElem_cons_succ, List.getElem_cons_zero, List.setIfInBounds_toArray, List.set_cons_zero, List.set_cons_succ])
      refine wpAnyH_take (i := 6) (v := undef) rfl (by kernel_rfl) (by kernel_rfl) (by kernel_rfl) (fun _ _ _ h => h) (Or.inr ⟨by rfl, rfl⟩) (by assumption) ?_
      (try simp only [Act.put, List.getElem_toArray, List.getElem_cons_succ, List.getElem_cons_zero, List.setIfInBounds_toArray, List.set_cons_zero, List.set_cons_succ])
      refine wpAnyH_take (i := 5) (v := undef) rfl (by kernel_rfl) (by kernel_rfl) (by kernel_rfl) (fun _ _ _ h => h) (Or.inr ⟨by rfl, rfl⟩) (by assumption) ?_
      (try simp only [Act.put, List.getElem_toArray, List.getElem_cons_succ, List.getElem_cons_zero, List.setIfInBounds_toArray, List.set_cons_zero, List.set_cons_succ])
      refine wpAnyH_take (i := 7) (v := undef) rfl (by kernel_rfl) (by kernel_rfl) (by kernel_rfl) (fun _ _ _ h => h) (Or.inr ⟨by rfl, rfl⟩) (by assumption) ?_
      (try simp only [Act.put, List.getElem_toArray, List.getElem_cons_succ, List.getElem_cons_zero, List.setIfInBounds_toArray, List.set_cons_zero, List.set_cons_succ])
      refine wpAnyH_take (i := 8) (v := undef) rfl (by kernel_rfl) (by kernel_rfl) (by kernel_rfl) (fun _ _ _ h => h) (Or.inr ⟨by rfl, rfl⟩) (by assumption) ?_
      (try simp only [Act.put, List.getElem_toArray, List.getElem_cons_succ, List.getElem_cons_zero, List.setIfInBounds_toArray, List.set_cons_zero, List.set_cons_succ])
      refine wpAnyH_take (i := 9) (v := ?_) rfl (by kernel_rfl) (by kernel_rfl) (by kernel_rfl) (fun _ _ _ h => h) (Or.inl ⟨by rfl, ?_⟩) (by assumption) ?_
      rotate_left 1
      · intro w hSw
        (try dsimp only at hSw)
        go_simp
        try with_reducible rfl
      (try simp only [Act.put, List.getElem_toArray, List.getElem_cons_succ, List.getElem_cons_zero, List.setIfInBounds_toArray, List.set_cons_zero, List.set_cons_succ])
      refine wpAnyH_take (i := 10) (v := ?_) rfl (by kernel_rfl) (by kernel_rfl) (by kernel_rfl) (fun _ _ _ h => h) (Or.inl ⟨by rfl, ?_⟩) (by assumption) ?_
      rotate_left 1
      · intro w hSw
        (try dsimp only at hSw)
        go_simp
        try with_reducible rfl
      (try simp only [Act.put, List.getElem_toArray, List.getElem_cons_succ, List.getElem_cons_zero, List.setIfInBounds_toArray, List.set_cons_zero, List.set_cons_succ])
      refine wpAnyH_take (i := 11) (v := undef) rfl (by kernel_rfl) (by kernel_rfl) (by kernel_rfl) (fun _ _ _ h => h) (Or.inr ⟨by rfl, rfl⟩) (by assumption) ?_
      (try simp only [Act.put, List.getElem_toArray, List.getElem_cons_succ, List.getElem_cons_zero, List.setIfInBounds_toArray, List.set_cons_zero, List.set_cons_succ])
      refine wpAnyH_take (i := 14) (v := undef) rfl (by kernel_rfl) (by kernel_rfl) (by kernel_rfl) (fun _ _ _ h => h) (Or.inr ⟨by rfl, rfl⟩) (by assumption) ?_
      (try simp only [Act.put, List.getElem_toArray, List.getElem_cons_succ, List.getElem_cons_zero, List.setIfInBounds_toArray, List.set_cons_zero, List.set_cons_succ])
      refine wpAnyH_take (i := 15) (v := undef) rfl (by kernel_rfl) (by kernel_rfl) (by kernel_rfl) (fun _ _ _ h => h) (Or.inr ⟨by rfl, rfl⟩) (by assumption) ?_
      (try simp only [Act.put, List.getElem_toArray, List.getElem_cons_succ, List.getElem_cons_zero, List.setIfInBounds_toArray, List.set_cons_zero, List.set_cons_succ])
      refine wpAnyH_take (i := 12) (v := undef) rfl (by kernel_rfl) (by kernel_rfl) (by kernel_rfl) (fun _ _ _ h => h) (Or.inr ⟨by rfl, rfl⟩) (by assumption) ?_
      (try simp only [Act.put, List.getElem_toArray, List.getElem_cons_succ, List.getElem_cons_zero, List.setIfInBounds_toArray, List.set_cons_zero, List.set_cons_succ])
      refine wpAnyH_take (i := 13) (v := undef) rfl (by kernel_rfl) (by kernel_rfl) (by kernel_rfl) (fun _ _ _ h => h) (Or.inr ⟨by rfl, rfl⟩) (by assumption) ?_
      (try simp only [Act.put, List.getElem_toArray, List.getElem_cons_succ, List.getElem_cons_zero, List.setIfInBounds_toArray, List.set_cons_zero, List.set_cons_succ])
      refine wpAnyH_take (i := 16) (v := undef) rfl (by kernel_rfl) (by kernel_rfl) (by kernel_rfl) (fun _ _ _ h => h) (Or.inr ⟨by rfl, rfl⟩) (by assumption) ?_
      (try simp only [Act.put, List.getElem_toArray, List.getElem_cons_succ, List.getElem_cons_zero, List.setIfInBounds_toArray, List.set_cons_zero, List.set_cons_succ])
      refine wpAnyH_take (i := 17) (v := undef) rfl (by kernel_rfl) (by kernel_rfl) (by kernel_rfl) (fun _ _ _ h => h) (Or.inr ⟨by rfl, rfl⟩) (by assumption) ?_
      (try simp only [Act.put, List.getElem_toArray, List.getElem_cons_succ, List.getElem_cons_zero, List.setIfInBounds_toArray, List.set_cons_zero, List.set_cons_succ])
      refine wpAnyH_take (i := 18) (v := ?_) rfl (by kernel_rfl) (by kernel_rfl) (by kernel_rfl) (fun _ _ _ h => h) (Or.inl ⟨by rfl, ?_⟩) (by assumption) ?_
      rotate_left 1
      · intro w hSw
        (try dsimp only at hSw)
        go_simp
        try with_reducible rfl
      (try simp only [Act.put, List.getElem_toArray, List.getElem_cons_succ, List.getElem_cons_zero, List.setIfInBounds_toArray, List.set_cons_zero, List.set_cons_succ])
      refine wpAnyH_done (by kernel_rfl) ?_ _
      clear a0 a1 a2 b0 b1 b2
      go_wp2_with fail
      go_ret
      rw [HX.out]
      exact ⟨rfl, HB.out.drew.drew⟩

end Go.Proofs.YtoknhcjneliboaaGreat
