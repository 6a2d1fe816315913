/- Texts of this seat, merged. -/
import Derived.Test.YtliekndkjjaldaaGreatNMg16
import Derived.Test.YtliekndkjjaldaaGreatNMg15

/- What Rmdir does to any system. -/
namespace Go.Proofs.YtliekndkjjaldaaGreat
open Go.RowKit Go.ChangeMaps Go.MapKept
set_option linter.unusedVariables false
set_option maxRecDepth 20000

set_option maxHeartbeats 8000000 in
theorem prmdir_err (p : Nat) (F : Fs) (G : Nat → Prop) (w : World) (H : Pf w p F G) (hF : FOk F) (t : ByteArray) (hs : t.size ≤ 140737488355328) (er : Int) (he : toNode (F.walk (bl t)) = .error er) :
    Calls Tryz.prog 25 #[.pointer (some ⟨p, 0, none⟩), .string t] w fun e w' => e = .returned (.int .i64 er) ∧ PfTo w p F G w' := by
  have HP := H
  obtain ⟨S, HS, R, hG⟩ := H
  have k0 := hid HS.usable
  have k1 := hid (tonode_any p S t w HS (R.tree hF) hs)
  rw [toNode_fs HS R, he] at k1
  have her : ¬ er = 0 := by
    cases hw : F.walk (bl t) with
    | error a => rw [hw] at he; have := Fs.walk_err hw; simp [toNode] at he; omega
    | ok q =>
      obtain ⟨y, s, n⟩ := q
      rw [hw] at he
      simp only [toNode] at he
      split at he
      · simp at he; omega
      · simp at he
  have HPP := hid HP
  clear HS R hG HP he

  go_enter Tryz.func25, Tryz.ntmps25
  go_wp2_with fail
  refine k0.out.mono ?_
  rintro e w1 ⟨rfl, rfl⟩
  clear k0
  go_wp2_with fail
  refine k1.out.mono ?_
  rintro e w2 ⟨v, rfl, hb2, hv⟩
  have HB2 := hid hb2
  clear k1 hb2
  obtain rfl : v = _ := hv
  go_wp2_with fail
  go_ret
  exact ⟨rfl, PfTo.same HPP.out (HB2.out.trans ((one_new w2 _).mono HB2.out.size))⟩

set_option maxHeartbeats 1000000 in
theorem maygo_any (p : Nat) (S : Sg) (F : Fs) (w : World) (H : Sy w p S) (R : Rel S F) (hF : FOk F) (i : Nat) (hi : i < 17) :
    Calls Tryz.prog 70 #[.pointer (some ⟨p, 1 + i * 107, none⟩)] w fun e w' => e = .returned (.int .i64 (F.stays i)) ∧ w' = w := by
  have c2 := H.h i hi
  have c6 := H.m i hi
  have hL := (H.nms i hi).len
  rw [(R.P i hi).h] at c2
  rw [R.L i hi] at hL
  have h0 := (hF.h i).1
  have h6 := hF.len i
  unfold Fs.stays
  obtain ⟨L, gL⟩ : ∃ L, L = (F.P i).Q.length := ⟨_, rfl⟩
  obtain ⟨h, gh⟩ : ∃ h, h = (F.P i).h := ⟨_, rfl⟩
  obtain ⟨m, gm⟩ : ∃ m, m = (S.P i).m := ⟨_, rfl⟩
  rw [← gL] at hL h6 ⊢
  rw [← gh] at c2 h0 ⊢
  rw [← gm] at c6 hL
  clear H R hF gL gh gm
  by_cases q : 0 < L
  · rw [if_pos q]
    have q' : (0 : Int) < (L : Int) := by omega
    clear q
    go_enter Tryz.func70, Tryz.ntmps70
    go_wp2_with fail
    go_ret
    exact ⟨rfl, rfl⟩
  · rw [if_neg q]
    have q' : ¬ (0 : Int) < (L : Int) := by omega
    clear q
    by_cases q2 : 0 < h
    · rw [if_pos q2]
      go_enter Tryz.func70, Tryz.ntmps70
      go_wp2_with fail
      go_ret
      exact ⟨rfl, rfl⟩
    · rw [if_neg q2]
      go_enter Tryz.func70, Tryz.ntmps70
      go_wp2_with fail
      go_ret
      exact ⟨rfl, rfl⟩

set_option maxHeartbeats 8000000 in
theorem prmdir_file (p : Nat) (F : Fs) (G : Nat → Prop) (w : World) (H : Pf w p F G) (hF : FOk F) (t : ByteArray) (hs : t.size ≤ 140737488355328) (y : List Nat) (s : List UInt8) (i : Nat) (hw : F.walk (bl t) = .ok (y, s, i)) (hi0 : i ≠ 0) (hk : (F.P i).k ≠ 2) :
    Calls Tryz.prog 25 #[.pointer (some ⟨p, 0, none⟩), .string t] w fun e w' => e = .returned (.int .i64 20) ∧ PfTo w p F G w' := by
  have HPf := H
  obtain ⟨S, HS0, R, hG⟩ := H
  have W := hF.walk_ok hw
  obtain ⟨d, gd⟩ : ∃ d, d = Fs.dirOf y := ⟨_, rfl⟩
  obtain ⟨hd17, hdk, hnd⟩ := W.sg R
  obtain ⟨i1, hi17, hik⟩ := W.to hi0
  have hlast := W.last
  have hsl := W.len
  rw [← gd] at hd17 hdk hnd hlast
  have k0 := hid HS0.usable
  have k1 := hid (tonode_any p S t w HS0 (R.tree hF) hs)
  rw [toNode_fs HS0 R, hw, show toNode (.ok (y, s, i)) = .ok (y, s, i) from if_neg hi0] at k1
  have HS := hid HS0
  have HD := hid (And.intro hdk hnd)
  have HY := hid hlast
  have HR := hid R
  have HG := hid hG
  have HW := hid W
  have HF := hid hF
  have HPP := hid HPf
  have GD := hid gd
  have HWK := hid hw
  clear HS0 HPf R hG W hF hdk hnd hlast gd hw

  go_enter Tryz.func25, Tryz.ntmps25
  go_wp2_with fail
  refine k0.out.mono ?_
  rintro e w1 ⟨rfl, rfl⟩
  clear k0
  go_wp2_with fail
  refine k1.out.mono ?_
  rintro e w2 ⟨v, rfl, hb2, hv⟩
  have HB2 := hid hb2
  clear k1 hb2
  obtain ⟨u, rfl, yv, nm, rfl, hnm, hown⟩ := hv
  obtain ⟨gy, cy, rfl, hy0, hgy, hcy, hyc, hcm⟩ := last_own hown HY.out
  have HNM := hid hnm
  have hgb := (hown.lt gy rfl).1
  obtain ⟨W3, g3⟩ : ∃ W3, W3 = w2.alloc (Obj.cells #[.slice (some ⟨gy, 0, none⟩) y.length cy, .string nm, .int .i64 (i : Int)] 91) := ⟨_, rfl⟩
  have hP3 : W3.heap[w2.heap.size]? = some (.cells #[.slice (some ⟨gy, 0, none⟩) y.length cy, .string nm, .int .i64 (i : Int)] 91 (0, 0)) := by rw [g3]; exact heap_alloc_new w2 _
  have hB3 : Below w1.heap.size w1 W3 := by rw [g3]; exact HB2.out.trans ((one_new w2 _).mono HB2.out.size)
  have hZ3 : w2.heap.size < W3.heap.size ∧ gy < W3.heap.size := by rw [g3]; simp; omega
  have hC3 : W3.cell? ⟨gy, y.length - 1, none⟩ = some (.int .i64 (d : Int)) := by rw [g3]; exact ((one_new w2 _).cell (p := ⟨gy, y.length - 1, none⟩) hgy).trans hcy
  have hS3 : Sy W3 p S := HS.out.grow hB3
  obtain ⟨a0, a1, a2, _, _, _⟩ := plc_cells hP3
  have hi1 : (0 : Int) ≤ (i : Int) := by omega
  have hi2 : (i : Int) < 17 := by omega
  have HB3 := hid hB3
  have HZ3 := hid hZ3
  have HC3 := hid hC3
  have HS3 := hid hS3
  have HP3 := hid hP3
  clear hown hcy hnm hgy hS3 hP3 hB3 hZ3 hC3
  go_wp2_with fail
  rw [← g3]
  clear g3
  go_region
  have hS4 : Sy W3.drew p S := HS3.out.hp rfl
  have hpl := HS.out.lt
  have hb1s := HB2.out.size
  have hnmz : nm.size ≤ 6 := by have := bl_len nm; rw [HNM.out] at this; omega
  have k2 : Hid (Calls Tryz.prog 63 #[.pointer (some ⟨p, 1 + i * 107, none⟩)] W3.drew fun e w' => e = .returned (.bool (decide ((S.P i).k = 2))) ∧ w' = W3.drew) := hid (isdir_any p _ _ W3.drew (hS4.k i hi17))
  have k3 := hid (tkname_any p S W3.drew hS4 gy y.length cy d nm (i : Int) hy0 HC3.out HZ3.out.2 hyc hcm hd17 HD.out.1 (by rw [HNM.out, ← HD.out.2]; exact hi0) (by omega))
  have HP4 : Hid (W3.drew.heap[w2.heap.size]? = some (.cells #[.slice (some ⟨gy, 0, none⟩) y.length cy, .string nm, .int .i64 (i : Int)] 91 (0, 0))) := hid HP3.out
  have HZ4 : Hid (w2.heap.size < W3.drew.heap.size) := hid HZ3.out.1
  have HS4 := hid hS4
  obtain ⟨W4, g4⟩ : ∃ W4, W4 = W3.drew := ⟨_, rfl⟩
  have HU4 : Hid (Below w1.heap.size w1 W4) := by rw [g4]; exact hid HB3.out.drew
  rw [← g4] at k2 k3 HP4 HZ4 HS4 ⊢
  clear a0 a1 a2
  obtain ⟨a0, a1, a2, _, _, _⟩ := plc_cells HP4.out
  clear hS4 g4 HS3 HC3 HP3 HB3
  rw [show decide ((S.P i).k = 2) = false by simp [(HR.out.P i hi17).k, hk]] at k2
  clear k3
  go_wp2_with fail
  refine k2.out.mono ?_
  rintro e w4 ⟨rfl, rfl⟩
  clear k2
  go_wp2_with fail
  go_ret
  exact ⟨rfl, PfTo.same HPP.out HU4.out⟩

set_option maxHeartbeats 8000000 in
theorem prmdir_dir (p : Nat) (F : Fs) (G : Nat → Prop) (w : World) (H : Pf w p F G) (hF : FOk F) (t : ByteArray) (hs : t.size ≤ 140737488355328) (y : List Nat) (s : List UInt8) (i : Nat) (hw : F.walk (bl t) = .ok (y, s, i)) (hi0 : i ≠ 0) (hk : (F.P i).k = 2) :
    Calls Tryz.prog 25 #[.pointer (some ⟨p, 0, none⟩), .string t] w fun e w' => e = .returned (.int .i64 (F.stays i)) ∧ PfTo w p (if F.stays i = 0 then (F.deln (Fs.dirOf y) s).less i else F) G w' := by
  have HPf := H
  obtain ⟨S, HS0, R, hG⟩ := H
  have W := hF.walk_ok hw
  obtain ⟨d, gd⟩ : ∃ d, d = Fs.dirOf y := ⟨_, rfl⟩
  obtain ⟨hd17, hdk, hnd⟩ := W.sg R
  obtain ⟨i1, hi17, hik⟩ := W.to hi0
  have hlast := W.last
  have hsl := W.len
  rw [← gd] at hd17 hdk hnd hlast
  have k0 := hid HS0.usable
  have k1 := hid (tonode_any p S t w HS0 (R.tree hF) hs)
  rw [toNode_fs HS0 R, hw, show toNode (.ok (y, s, i)) = .ok (y, s, i) from if_neg hi0] at k1
  have HS := hid HS0
  have HD := hid (And.intro hdk hnd)
  have HY := hid hlast
  have HR := hid R
  have HG := hid hG
  have HW := hid W
  have HF := hid hF
  have HPP := hid HPf
  have GD := hid gd
  have HWK := hid hw
  clear HS0 HPf R hG W hF hdk hnd hlast gd hw
  obtain ⟨E, gE⟩ : ∃ E, E = F.stays i := ⟨_, rfl⟩
  rw [← gE]
  obtain ⟨X, gX⟩ : ∃ X, X = (if E = 0 then (F.deln (Fs.dirOf y) s).less i else F) := ⟨_, rfl⟩
  rw [← gX]
  have GE := hid gE
  have GX := hid gX
  clear gX gE

  go_enter Tryz.func25, Tryz.ntmps25
  go_wp2_with fail
  refine k0.out.mono ?_
  rintro e w1 ⟨rfl, rfl⟩
  clear k0
  go_wp2_with fail
  refine k1.out.mono ?_
  rintro e w2 ⟨v, rfl, hb2, hv⟩
  have HB2 := hid hb2
  clear k1 hb2
  obtain ⟨u, rfl, yv, nm, rfl, hnm, hown⟩ := hv
  obtain ⟨gy, cy, rfl, hy0, hgy, hcy, hyc, hcm⟩ := last_own hown HY.out
  have HNM := hid hnm
  have hgb := (hown.lt gy rfl).1
  obtain ⟨W3, g3⟩ : ∃ W3, W3 = w2.alloc (Obj.cells #[.slice (some ⟨gy, 0, none⟩) y.length cy, .string nm, .int .i64 (i : Int)] 91) := ⟨_, rfl⟩
  have hP3 : W3.heap[w2.heap.size]? = some (.cells #[.slice (some ⟨gy, 0, none⟩) y.length cy, .string nm, .int .i64 (i : Int)] 91 (0, 0)) := by rw [g3]; exact heap_alloc_new w2 _
  have hB3 : Below w1.heap.size w1 W3 := by rw [g3]; exact HB2.out.trans ((one_new w2 _).mono HB2.out.size)
  have hZ3 : w2.heap.size < W3.heap.size ∧ gy < W3.heap.size := by rw [g3]; simp; omega
  have hC3 : W3.cell? ⟨gy, y.length - 1, none⟩ = some (.int .i64 (d : Int)) := by rw [g3]; exact ((one_new w2 _).cell (p := ⟨gy, y.length - 1, none⟩) hgy).trans hcy
  have hS3 : Sy W3 p S := HS.out.grow hB3
  obtain ⟨a0, a1, a2, _, _, _⟩ := plc_cells hP3
  have hi1 : (0 : Int) ≤ (i : Int) := by omega
  have hi2 : (i : Int) < 17 := by omega
  have HB3 := hid hB3
  have HZ3 := hid hZ3
  have HC3 := hid hC3
  have HS3 := hid hS3
  have HP3 := hid hP3
  clear hown hcy hnm hgy hS3 hP3 hB3 hZ3 hC3
  go_wp2_with fail
  rw [← g3]
  clear g3
  go_region
  have hS4 : Sy W3.drew p S := HS3.out.hp rfl
  have hpl := HS.out.lt
  have hb1s := HB2.out.size
  have hnmz : nm.size ≤ 6 := by have := bl_len nm; rw [HNM.out] at this; omega
  have k2 : Hid (Calls Tryz.prog 63 #[.pointer (some ⟨p, 1 + i * 107, none⟩)] W3.drew fun e w' => e = .returned (.bool (decide ((S.P i).k = 2))) ∧ w' = W3.drew) := hid (isdir_any p _ _ W3.drew (hS4.k i hi17))
  have k3 := hid (tkname_any p S W3.drew hS4 gy y.length cy d nm (i : Int) hy0 HC3.out HZ3.out.2 hyc hcm hd17 HD.out.1 (by rw [HNM.out, ← HD.out.2]; exact hi0) (by omega))
  have HP4 : Hid (W3.drew.heap[w2.heap.size]? = some (.cells #[.slice (some ⟨gy, 0, none⟩) y.length cy, .string nm, .int .i64 (i : Int)] 91 (0, 0))) := hid HP3.out
  have HZ4 : Hid (w2.heap.size < W3.drew.heap.size) := hid HZ3.out.1
  have HS4 := hid hS4
  obtain ⟨W4, g4⟩ : ∃ W4, W4 = W3.drew := ⟨_, rfl⟩
  have HU4 : Hid (Below w1.heap.size w1 W4) := by rw [g4]; exact hid HB3.out.drew
  rw [← g4] at k2 k3 HP4 HZ4 HS4 ⊢
  clear a0 a1 a2
  obtain ⟨a0, a1, a2, _, _, _⟩ := plc_cells HP4.out
  clear hS4 g4 HS3 HC3 HP3 HB3
  rw [show decide ((S.P i).k = 2) = true by simp [(HR.out.P i hi17).k, hk]] at k2
  have km := hid (maygo_any p S F W4 HS4.out HR.out HF.out i hi17)
  rw [← GE.out] at km
  by_cases hE : E = 0
  · have GX3 : Hid (X = (F.deln (Fs.dirOf y) s).less i) := hid (GX.out.trans (if_pos hE))
    have hE0 : F.stays i = 0 := by rw [← GE.out]; exact hE
    subst hE
    have HE0 := hid hE0
    clear hE0
    go_wp2_with fail
    refine k2.out.mono ?_
    rintro e w4 ⟨rfl, rfl⟩
    clear k2
    go_wp2_with fail
    refine km.out.mono ?_
    rintro e w4 ⟨rfl, rfl⟩
    clear km
    go_wp2_with fail
    refine k3.out.mono ?_
    rintro e w5 ⟨rfl, h5, u5⟩
    have d1 := h5.l i hi17
    have hne : (S.P d).m ≠ some w2.heap.size := fun e => by
      have := HS.out.foot_lt w2.heap.size (.inr ⟨d, hd17, e⟩)
      omega
    have d2 : w5.cell? ⟨w2.heap.size, 2, none⟩ = some (.int .i64 (i : Int)) := (World.cell?_of_block (a := ⟨w2.heap.size, 2, none⟩) (u5.block w2.heap.size HZ4.out hne)).trans a2
    have hR5 : Rel (S.drop d (bl nm)) (F.deln (Fs.dirOf y) s) := by
      rw [HNM.out, GD.out]
      exact HR.out.drop HF.out _ _ (by rw [← HW.out.nn]; exact hi0)
    have e5 : (F.deln (Fs.dirOf y) s).P i = { F.P i with Q := ((F.deln (Fs.dirOf y) s).P i).Q } := by rw [Fs.deln_P]
    have HU5 : Hid (Upd (S.foot p) w1 w5) := hid ((Upd.of_below HU4.out).trans u5 (fun x _ hx => .inr ⟨d, hd17, hx⟩))
    have ff5 : ∀ x, (S.drop d (bl nm)).foot p x → S.foot p x := fun x hx => hx
    have hE0 := HE0.out
    have hst : (F.P i).Q = [] ∧ (F.P i).h = 0 := by
      unfold Fs.stays at hE0
      split at hE0
      · simp at hE0
      rename_i hq
      split at hE0
      · simp at hE0
      rename_i hh
      exact ⟨List.eq_nil_of_length_eq_zero (by omega), by have := (HF.out.h i).1; omega⟩
    have hl1 := (HF.out.dir i hk).2.2
    have k5 := hid (ptklink p (S.drop d (bl nm)) (F.deln (Fs.dirOf y) s) w5 h5 hR5 i hi17 hi0 (by omega) (by rw [e5]; dsimp only; omega) (by rw [e5]; exact (HF.out.stl i).c) (by rw [e5]; exact (HF.out.stl i).B) (by rw [e5]; exact (HF.out.stl i).T) (fun _ => by
      rw [deln_Q]
      split
      · rename_i e; rw [← e, hst.1]; rfl
      · exact hst.1))
    clear k3 h5 u5 hne a0 a1 a2 hR5 e5 hst hl1 hE0
    go_wp2_with fail
    refine k5.out.mono ?_
    rintro e w7 ⟨rfl, h7⟩
    have H7 := hid h7
    clear k5 h7
    go_wp2_with fail
    go_ret
    rw [GX3.out]
    exact ⟨rfl, Into.to (Into.trans ff5 HU5.out H7.out) HG.out⟩
  · have GX3 : Hid (X = F) := hid (GX.out.trans (if_neg hE))
    clear k3
    go_wp2_with fail
    refine k2.out.mono ?_
    rintro e w4 ⟨rfl, rfl⟩
    clear k2
    go_wp2_with fail
    refine km.out.mono ?_
    rintro e w4 ⟨rfl, rfl⟩
    clear km
    go_wp2_with fail
    go_ret
    rw [GX3.out]
    exact ⟨rfl, PfTo.same HPP.out HU4.out⟩

theorem prmdir (p : Nat) (F : Fs) (G : Nat → Prop) (w : World) (H : Pf w p F G) (hF : FOk F) (t : ByteArray) (hs : t.size ≤ 140737488355328) :
    Calls Tryz.prog 25 #[.pointer (some ⟨p, 0, none⟩), .string t] w fun e w' => e = .returned (.int .i64 (F.rmdir (bl t)).2) ∧ PfTo w p (F.rmdir (bl t)).1 G w' := by
  cases hw : F.walk (bl t) with
  | error er =>
    have e : F.rmdir (bl t) = (F, er) := by unfold Fs.rmdir; rw [hw]
    rw [e]
    exact prmdir_err p F G w H hF t hs er (by rw [hw]; rfl)
  | ok q =>
    obtain ⟨y, s, i⟩ := q
    by_cases h0 : i = 0
    · have e : F.rmdir (bl t) = (F, 2) := by unfold Fs.rmdir; rw [hw]; exact if_pos h0
      rw [e]
      exact prmdir_err p F G w H hF t hs 2 (by rw [hw]; exact if_pos h0)
    by_cases hk : (F.P i).k = 2
    · have e : F.rmdir (bl t) = (if F.stays i = 0 then (F.deln (Fs.dirOf y) s).less i else F, F.stays i) := by
        unfold Fs.rmdir; rw [hw]; dsimp only; rw [if_neg h0, if_neg (fun q => q hk)]
        by_cases hs : F.stays i = 0
        · rw [if_neg (fun q => q hs), if_pos hs, hs]
        · rw [if_pos hs, if_neg hs]
      rw [e]
      exact prmdir_dir p F G w H hF t hs y s i hw h0 hk
    · have e : F.rmdir (bl t) = (F, 20) := by unfold Fs.rmdir; rw [hw]; dsimp only; rw [if_neg h0, if_pos hk]
      rw [e]
      exact prmdir_file p F G w H hF t hs y s i hw h0 hk

end Go.Proofs.YtliekndkjjaldaaGreat

/- The document's Hold, Drop and Link. -/
namespace Go.Proofs.YtliekndkjjaldaaGreat
open Go.RowKit
set_option linter.unusedVariables false
set_option maxRecDepth 20000

theorem FOk.l1 {F : Fs} (H : FOk F) (n : Nat) (e : n = 1) : 0 < (F.P n).l := by subst e; rw [(H.dir 1 H.root).2.2]; omega

set_option maxHeartbeats 4000000 in
theorem rhold_any (x g u : Nat) (V : Nat → Value) (F : Fs) (w : World) (H : Rf w x g u V F) (hF : FOk F) (n : Int) :
    Calls Tryz.prog 40 #[.pointer (some ⟨x, 0, none⟩), .int .i64 n] w fun e w' => e = .returned (.int .i64 (F.hold n).2) ∧ RfTo w x g u V (F.hold n).1 w' := by
  have k1 := hid (rthere_any x g u V F w H n)
  obtain ⟨R, gR⟩ : ∃ R, R = F.hold n := ⟨_, rfl⟩
  rw [← gR]
  have HH := hid H
  have HF := hid hF
  by_cases ht : F.there n = false
  · have HR : Hid (R = (F, 2)) := hid (by rw [gR]; unfold Fs.hold; rw [if_pos ht])
    rw [ht] at k1
    clear H hF gR ht
    go_enter Tryz.func40, Tryz.ntmps40
    go_wp2_with fail
    refine k1.out.mono ?_
    rintro e w1 ⟨rfl, rfl⟩
    clear k1
    go_wp2_with fail
    go_ret
    rw [HR.out]
    exact ⟨rfl, HH.out.same (Below.refl _ _)⟩
  · have ht2 : F.there n = true := by simpa using ht
    obtain ⟨i, rfl, i1, i2, i3⟩ := there_is ht2
    rw [ht2] at k1
    have HR : Hid (R = if 1000 ≤ (F.P i).h then (F, 11) else (F.hld i ((F.P i).h + 1), 0)) := hid (by rw [gR]; unfold Fs.hold; rw [if_neg ht]; rfl)
    have c0 := H.c0
    have c1 := H.h i i2
    have c2 := H.frz (i * 6 + 2)
    obtain ⟨h0, h1⟩ := hF.h i
    have H2 := hid (H.hld i i2 ((F.P i).h + 1))
    obtain ⟨h, gh⟩ : ∃ h, h = (F.P i).h := ⟨_, rfl⟩
    rw [← gh] at HR c1 h0 h1 H2
    have n0 : (0 : Int) ≤ (i : Int) := by omega
    have n1 : (i : Int) < 17 := by omega
    have hwr : IntKind.i64.wrap (h + 1) = h + 1 := by rw [IntKind.wrap_i64]; omega
    clear H hF gR ht ht2 gh
    by_cases hh : 1000 ≤ h
    · have HR2 : Hid (R = (F, 11)) := hid (by rw [HR.out, if_pos hh])
      clear HR H2
      go_enter Tryz.func40, Tryz.ntmps40
      go_wp2_with fail
      refine k1.out.mono ?_
      rintro e w1 ⟨rfl, rfl⟩
      clear k1
      go_wp2_with fail
      go_ret
      rw [HR2.out]
      exact ⟨rfl, HH.out.same (Below.refl _ _)⟩
    · have HR2 : Hid (R = (F.hld i (h + 1), 0)) := hid (by rw [HR.out, if_neg hh])
      clear HR
      go_enter Tryz.func40, Tryz.ntmps40
      go_wp2_with fail
      refine k1.out.mono ?_
      rintro e w1 ⟨rfl, rfl⟩
      clear k1
      go_wp2_with fail
      go_ret
      rw [HR2.out]
      exact ⟨rfl, V, H2.out.cell_to⟩

set_option maxHeartbeats 4000000 in
theorem rdrop_any (x g u : Nat) (V : Nat → Value) (F : Fs) (w : World) (H : Rf w x g u V F) (hF : FOk F) (n : Int) :
    Calls Tryz.prog 42 #[.pointer (some ⟨x, 0, none⟩), .int .i64 n] w fun e w' => e = .returned (.int .i64 (F.drop n).2) ∧ RfTo w x g u V (F.drop n).1 w' := by
  have k1 := hid (rthere_any x g u V F w H n)
  obtain ⟨R, gR⟩ : ∃ R, R = F.drop n := ⟨_, rfl⟩
  rw [← gR]
  have HH := hid H
  have HF := hid hF
  by_cases ht : F.there n = false
  · have HR : Hid (R = (F, 2)) := hid (by rw [gR]; unfold Fs.drop; rw [if_pos ht])
    rw [ht] at k1
    clear H hF gR ht
    go_enter Tryz.func42, Tryz.ntmps42
    go_wp2_with fail
    refine k1.out.mono ?_
    rintro e w1 ⟨rfl, rfl⟩
    clear k1
    go_wp2_with fail
    go_ret
    rw [HR.out]
    exact ⟨rfl, HH.out.same (Below.refl _ _)⟩
  · have ht2 : F.there n = true := by simpa using ht
    obtain ⟨i, rfl, i1, i2, i3⟩ := there_is ht2
    rw [ht2] at k1
    have HR : Hid (R = if (F.P i).h = 0 then (F, 22) else ((F.hld i ((F.P i).h - 1)).gone i, 0)) := hid (by rw [gR]; unfold Fs.drop; rw [if_neg ht]; rfl)
    have c0 := H.c0
    have c1 := H.h i i2
    have c2 := H.frz (i * 6 + 2)
    obtain ⟨h0, h1⟩ := hF.h i
    have H2 := hid (H.hld i i2 ((F.P i).h - 1))
    have HB5 := hF.B25 i
    have k2 := hid (rgone_any x g u V _ _ H2.out i i2 (fun e => by rw [Fs.hld_P]; exact hF.l1 i e) (by rw [Fs.hld_P]; exact HB5.1) (by rw [Fs.hld_P]; exact HB5.2))
    obtain ⟨h, gh⟩ : ∃ h, h = (F.P i).h := ⟨_, rfl⟩
    rw [← gh] at HR c1 h0 h1 H2 k2
    have n0 : (0 : Int) ≤ (i : Int) := by omega
    have n1 : (i : Int) < 17 := by omega
    have hwr : IntKind.i64.wrap (h - 1) = h - 1 := by rw [IntKind.wrap_i64]; omega
    clear H hF gR ht ht2 gh HB5
    by_cases hh : h = 0
    · have HR2 : Hid (R = (F, 22)) := hid (by rw [HR.out, if_pos hh])
      clear HR H2 k2
      subst hh
      go_enter Tryz.func42, Tryz.ntmps42
      go_wp2_with fail
      refine k1.out.mono ?_
      rintro e w1 ⟨rfl, rfl⟩
      clear k1
      go_wp2_with fail
      go_ret
      rw [HR2.out]
      exact ⟨rfl, HH.out.same (Below.refl _ _)⟩
    · have HR2 : Hid (R = ((F.hld i (h - 1)).gone i, 0)) := hid (by rw [HR.out, if_neg hh])
      clear HR
      go_enter Tryz.func42, Tryz.ntmps42
      go_wp2_with fail
      refine k1.out.mono ?_
      rintro e w1 ⟨rfl, rfl⟩
      clear k1
      go_wp2_with fail
      refine k2.out.mono ?_
      rintro e w2 ⟨rfl, hT⟩
      have HT := hid hT
      clear k2 hT
      go_wp2_with fail
      go_ret
      rw [HR2.out]
      exact ⟨rfl, RfTo.next H2.out.cell_to HT.out⟩

set_option maxHeartbeats 4000000 in
theorem rlink_any (x g u : Nat) (V : Nat → Value) (F : Fs) (w : World) (H : Rf w x g u V F) (hF : FOk F) (hl : ∀ i, (F.P i).l ≤ 1000000) (t t2 : ByteArray) (hs : t.size ≤ 1048576) (hs2 : t2.size ≤ 1048576) :
    Calls Tryz.prog 28 #[.pointer (some ⟨x, 0, none⟩), .string t, .string t2] w fun e w' => e = .returned (.int .i64 (F.link (bl t) (bl t2)).2) ∧ RfTo w x g u V (F.link (bl t) (bl t2)).1 w' := by
  obtain ⟨R, gR⟩ : ∃ R, R = F.link (bl t) (bl t2) := ⟨_, rfl⟩
  rw [← gR]
  have HR : Hid (R = if (F.find (bl t)).2 ≠ 0 then (F, (F.find (bl t)).2) else if (F.P (F.find (bl t)).1).k = 2 then (F, 1) else match F.walk (bl t2) with
    | .error e => (F, e)
    | .ok (y, s, n) => if n ≠ 0 then (F, 17) else if 6 ≤ (F.P (Fs.dirOf y)).Q.length then (F, 28) else
      ((F.lnk (F.find (bl t)).1 ((F.P (F.find (bl t)).1).l + 1)).addn (Fs.dirOf y) s (F.find (bl t)).1, 0)) := hid (by rw [gR]; unfold Fs.link; cases F.walk (bl t2) <;> rfl)
  have k1 := hid (rfind_any x g u V F w H hF t hs)
  have HFI := hid (hF.find_ok (l := bl t))
  obtain ⟨⟨n, E⟩, gq⟩ : ∃ q, q = F.find (bl t) := ⟨_, rfl⟩
  rw [← gq] at HR k1 HFI
  simp only at HR k1 HFI
  have HH := hid H
  have HF := hid hF
  have HL := hid hl
  clear H hF hl gR gq
  by_cases hE : E ≠ 0
  · have HR2 : Hid (R = (F, E)) := hid (by rw [HR.out, if_pos hE])
    clear HR HFI
    go_enter Tryz.func28, Tryz.ntmps28
    go_wp2_with fail
    refine k1.out.mono ?_
    rintro e w1 ⟨rfl, hB⟩
    have HS := hid (HH.out.same hB)
    clear k1 hB
    go_wp2_with fail
    go_ret
    rw [HR2.out]
    exact ⟨rfl, HS.out⟩
  obtain rfl : E = 0 := Decidable.not_not.1 hE
  obtain ⟨f1, f2⟩ := HFI.out rfl
  obtain ⟨n2, n3⟩ := HF.out.lt f1
  have HR2 : Hid (R = if (F.P n).k = 2 then (F, 1) else match F.walk (bl t2) with
    | .error e => (F, e)
    | .ok (y, s, m) => if m ≠ 0 then (F, 17) else if 6 ≤ (F.P (Fs.dirOf y)).Q.length then (F, 28) else ((F.lnk n ((F.P n).l + 1)).addn (Fs.dirOf y) s n, 0)) := hid (by rw [HR.out, if_neg hE])
  have n0 : (0 : Int) ≤ (n : Int) := by omega
  have n1 : (n : Int) < 17 := by omega
  clear HR HFI hE f1 f2
  go_enter Tryz.func28, Tryz.ntmps28
  go_wp2_with fail
  refine k1.out.mono ?_
  rintro e w1 ⟨rfl, hB⟩
  have HB := hid hB
  have H1 := hid (HH.out.grow hB)
  clear k1 hB
  have c0 := H1.out.c0
  have c1 := H1.out.k n n3
  by_cases hk : (F.P n).k = 2
  · have HR3 : Hid (R = (F, 1)) := hid (by rw [HR2.out, if_pos hk])
    rw [hk] at c1
    clear HR2
    go_wp2_with fail
    go_ret
    rw [HR3.out]
    exact ⟨rfl, HH.out.same HB.out⟩
  obtain ⟨k, gk⟩ : ∃ k, k = (F.P n).k := ⟨_, rfl⟩
  have HR3 : Hid (R = match F.walk (bl t2) with
    | .error e => (F, e)
    | .ok (y, s, m) => if m ≠ 0 then (F, 17) else if 6 ≤ (F.P (Fs.dirOf y)).Q.length then (F, 28) else ((F.lnk n ((F.P n).l + 1)).addn (Fs.dirOf y) s n, 0)) := hid (by rw [HR2.out, if_neg hk])
  have HK : Hid ((F.P n).k ≠ 2) := hid hk
  rw [← gk] at c1 hk
  have k2 := hid (rend_any x g u V F w1 H1.out HF.out t2 hs2)
  clear HR2 gk
  go_wp2_with fail
  refine k2.out.mono ?_
  rintro e w2 ⟨⟨v, rfl, hE⟩, hb⟩
  have HB2 := hid (HB.out.trans (hb.mono HB.out.size))
  have H2 := hid (H1.out.grow hb)
  clear k2 hb HB H1 c0 c1
  rcases hE with ⟨er, hw, rfl⟩ | ⟨y, s, m, hw, rfl⟩
  · have HR4 : Hid (R = (F, er)) := hid (by rw [HR3.out, hw])
    have he : er ≠ 0 := by have := Fs.walk_err hw; omega
    clear hw HR3
    go_wp2_with fail
    go_ret
    rw [HR4.out]
    exact ⟨rfl, HH.out.same HB2.out⟩
  · have W := HF.out.walk_ok hw
    have HR4 : Hid (R = if m ≠ 0 then (F, 17) else if 6 ≤ (F.P (Fs.dirOf y)).Q.length then (F, 28) else ((F.lnk n ((F.P n).l + 1)).addn (Fs.dirOf y) s n, 0)) := hid (by rw [HR3.out, hw])
    obtain ⟨d, gd⟩ : ∃ d, d = Fs.dirOf y := ⟨_, rfl⟩
    have hd := W.lt
    have hdk := W.k
    rw [← gd] at hd hdk
    have k3 := hid (rlook_any x g u V F w2 H2.out d (by omega) (HF.out.len d) (bs s))
    rw [bl_bs, gd, ← W.nn, ← gd] at k3
    rw [← gd] at HR4 ⊢
    clear W hw HR3 gd
    go_wp2_with fail
    refine k3.out.mono ?_
    rintro e w3 ⟨rfl, hb⟩
    have HB3 := hid (HB2.out.trans (hb.mono HB2.out.size))
    have H3 := hid (H2.out.grow hb)
    clear k3 hb H2 HB2
    by_cases hm : m ≠ 0
    · have HR5 : Hid (R = (F, 17)) := hid (by rw [HR4.out, if_pos hm])
      have mz : ¬ (m : Int) = 0 := by omega
      clear HR4
      go_wp2_with fail
      go_ret
      rw [HR5.out]
      exact ⟨rfl, HH.out.same HB3.out⟩
    obtain rfl : m = 0 := Decidable.not_not.1 hm
    have HR5 : Hid (R = if 6 ≤ (F.P d).Q.length then (F, 28) else ((F.lnk n ((F.P n).l + 1)).addn d s n, 0)) := hid (by rw [HR4.out, if_neg hm])
    have c0 := H3.out.c0
    obtain ⟨qa, qc, eQ, hqc, hqm, _⟩ := own_shp (H3.out.rQ d (by omega))
    have c1 := H3.out.q d (by omega)
    rw [eQ] at c1
    have hq6 := HF.out.len d
    have k4 := hid (radd_any x g u V F w3 H3.out d (by omega) hq6 (bs s) n)
    rw [bl_bs] at k4
    obtain ⟨LQ, gLQ⟩ : ∃ LQ, LQ = (F.P d).Q.length := ⟨_, rfl⟩
    rw [← gLQ] at c1 hqc HR5 hq6
    have d0 : (0 : Int) ≤ (d : Int) := by omega
    have d1 : (d : Int) < 17 := by omega
    have HDN : Hid (d ≠ n) := hid (fun e => HK.out (by rw [← e]; exact hdk))
    clear HR4 hm eQ gLQ
    by_cases hq : 6 ≤ LQ
    · have hq2 : (6 : Int) ≤ (LQ : Int) := by omega
      have HR6 : Hid (R = (F, 28)) := hid (by rw [HR5.out, if_pos hq])
      clear HR5 k4
      go_wp2_with fail
      go_ret
      rw [HR6.out]
      exact ⟨rfl, HH.out.same HB3.out⟩
    · have hq2 : ¬ (6 : Int) ≤ (LQ : Int) := by omega
      have HR6 : Hid (R = ((F.addn d s n).lnk n ((F.P n).l + 1), 0)) := hid (by rw [HR5.out, if_neg hq, addn_lnk F d s n _ HDN.out])
      clear HR5 H3
      go_wp2_with fail
      refine k4.out.mono ?_
      rintro e w4 ⟨rfl, V1, hT⟩
      have HT := hid hT
      have H4 := hid hT.1
      clear k4 hT c0 c1
      have c0 := H4.out.c0
      have c2 := H4.out.l n n3
      rw [show ((F.addn d s n).P n).l = (F.P n).l by rw [Fs.addn_P]] at c2
      have hl0 := HF.out.l0 n
      have hl1 := HL.out n
      have c3 := H4.out.frz (n * 6 + 1)
      have H5 := hid (H4.out.lnk n n3 ((F.P n).l + 1))
      obtain ⟨l, gl⟩ : ∃ l, l = (F.P n).l := ⟨_, rfl⟩
      rw [← gl] at c2 hl0 hl1 H5 HR6
      have hwr : IntKind.i64.wrap (l + 1) = l + 1 := by rw [IntKind.wrap_i64]; omega
      clear gl H4
      go_wp2_with fail
      go_ret
      rw [HR6.out]
      exact ⟨rfl, RfTo.below HB3.out (RfTo.next HT.out ⟨V1, H5.out.cell_to⟩)⟩

end Go.Proofs.YtliekndkjjaldaaGreat
