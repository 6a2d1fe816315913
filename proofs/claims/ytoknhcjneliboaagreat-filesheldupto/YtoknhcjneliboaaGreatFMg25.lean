/- Texts of this seat, merged. -/
import Derived.Test.YtoknhcjneliboaaGreatFMg23
import Derived.Test.YtoknhcjneliboaaGreatFMg21
import Derived.BigQuiet
import Derived.Test.YtoknhcjneliboaaGreatFMg20

/- What Unlink does to any system. -/
namespace Go.Proofs.YtoknhcjneliboaaGreat
open Go.RowKit Go.ChangeMaps Go.MapKept
set_option linter.unusedVariables false
set_option maxRecDepth 20000

theorem toNode_fs {S : Sg} {F : Fs} {w : World} {p : Nat} {t : ByteArray} (H : Sy w p S) (R : Rel S F) : toNode (wkS S t) = toNode (F.walk (bl t)) := by
  rw [R.walk H t]

/-- What stands behind a place. -/
theorem Wlk.sg {F : Fs} {S : Sg} (R : Rel S F) {y : List Nat} {s : List UInt8} {n : Nat} (W : Wlk F y s n) : Fs.dirOf y < 17 ∧ (S.P (Fs.dirOf y)).k = 2 ∧ n = S.N (Fs.dirOf y) s := by
  refine ⟨W.lt.2, (R.P _ W.lt.2).k.trans W.k, ?_⟩
  rw [R.N _ W.lt.2]; exact W.nn

/-- What settle asks of a node. -/
structure Stl (F : Fs) (i : Nat) : Prop where
  c : (F.P i).c.length ≤ 96
  B : (F.P i).B.length = Fs.need (F.P i).c.length
  T : ∀ b ∈ (F.P i).B, b < 25
theorem FOk.stl {F : Fs} (H : FOk F) (i : Nat) : Stl F i := ⟨(H.c i).1, H.B i, fun b hb => (H.T i b hb).2.1⟩
theorem Stl.same {F F' : Fs} {i : Nat} (h : Stl F i) (ec : (F'.P i).c = (F.P i).c) (eB : (F'.P i).B = (F.P i).B) : Stl F' i := ⟨by rw [ec]; exact h.c, by rw [eB, ec]; exact h.B, by rw [eB]; exact h.T⟩

set_option maxHeartbeats 8000000 in
theorem punlink_err (p : Nat) (F : Fs) (G : Nat → Prop) (w : World) (H : Pf w p F G) (hF : FOk F) (t : ByteArray) (hs : t.size ≤ 140737488355328) (er : Int) (he : toNode (F.walk (bl t)) = .error er) :
    Calls Tryz.prog 103 #[.pointer (some ⟨p, 0, none⟩), .string t] w fun e w' => e = .returned (.int .i64 er) ∧ PfTo w p F G w' := by
  have HP := H
  obtain ⟨S, HS, R, hG⟩ := H
  have k0 := hid HS.usable
  have k1 := hid (tonode_any p S t w HS (R.tree hF) hs)
  rw [toNode_fs HS R, he] at k1
  have her : ¬ er = 0 := by
    cases hw : F.walk (bl t) with
    | error a => rw [hw] at he; have := Fs.walk_err hw; simp [toNode] at he; omega
    | ok q =>
      obtain ⟨y, s, n⟩ := q
      rw [hw] at he
      simp only [toNode] at he
      split at he
      · simp at he; omega
      · simp at he
  have HPP := hid HP
  clear HS R hG HP he

  go_enter Tryz.func103, Tryz.ntmps103
  go_wp2_with fail
  refine k0.out.mono ?_
  rintro e w1 ⟨rfl, rfl⟩
  clear k0
  go_wp2_with fail
  refine k1.out.mono ?_
  rintro e w2 ⟨v, rfl, hb2, hv⟩
  have HB2 := hid hb2
  clear k1 hb2
  obtain rfl : v = _ := hv
  go_wp2_with fail
  go_ret
  exact ⟨rfl, PfTo.same HPP.out (HB2.out.trans ((one_new w2 _).mono HB2.out.size))⟩

set_option maxHeartbeats 8000000 in
theorem punlink_dir (p : Nat) (F : Fs) (G : Nat → Prop) (w : World) (H : Pf w p F G) (hF : FOk F) (t : ByteArray) (hs : t.size ≤ 140737488355328) (y : List Nat) (s : List UInt8) (i : Nat) (hw : F.walk (bl t) = .ok (y, s, i)) (hi0 : i ≠ 0) (hk : (F.P i).k = 2) :
    Calls Tryz.prog 103 #[.pointer (some ⟨p, 0, none⟩), .string t] w fun e w' => e = .returned (.int .i64 21) ∧ PfTo w p F G w' := by
  have HPf := H
  obtain ⟨S, HS0, R, hG⟩ := H
  have W := hF.walk_ok hw
  obtain ⟨d, gd⟩ : ∃ d, d = Fs.dirOf y := ⟨_, rfl⟩
  obtain ⟨hd17, hdk, hnd⟩ := W.sg R
  obtain ⟨i1, hi17, hik⟩ := W.to hi0
  have hlast := W.last
  have hsl := W.len
  rw [← gd] at hd17 hdk hnd hlast
  have k0 := hid HS0.usable
  have k1 := hid (tonode_any p S t w HS0 (R.tree hF) hs)
  rw [toNode_fs HS0 R, hw, show toNode (.ok (y, s, i)) = .ok (y, s, i) from if_neg hi0] at k1
  have HS := hid HS0
  have HD := hid (And.intro hdk hnd)
  have HY := hid hlast
  have HR := hid R
  have HG := hid hG
  have HW := hid W
  have HF := hid hF
  have HPP := hid HPf
  have GD := hid gd
  have HWK := hid hw
  clear HS0 HPf R hG W hF hdk hnd hlast gd hw

  go_enter Tryz.func103, Tryz.ntmps103
  go_wp2_with fail
  refine k0.out.mono ?_
  rintro e w1 ⟨rfl, rfl⟩
  clear k0
  go_wp2_with fail
  refine k1.out.mono ?_
  rintro e w2 ⟨v, rfl, hb2, hv⟩
  have HB2 := hid hb2
  clear k1 hb2
  obtain ⟨u, rfl, yv, nm, rfl, hnm, hown⟩ := hv
  obtain ⟨gy, cy, rfl, hy0, hgy, hcy, hyc, hcm⟩ := last_own hown HY.out
  have HNM := hid hnm
  have hgb := (hown.lt gy rfl).1
  obtain ⟨W3, g3⟩ : ∃ W3, W3 = w2.alloc (Obj.cells #[.slice (some ⟨gy, 0, none⟩) y.length cy, .string nm, .int .i64 (i : Int)] 184) := ⟨_, rfl⟩
  have hP3 : W3.heap[w2.heap.size]? = some (.cells #[.slice (some ⟨gy, 0, none⟩) y.length cy, .string nm, .int .i64 (i : Int)] 184 (0, 0)) := by rw [g3]; exact heap_alloc_new w2 _
  have hB3 : Below w1.heap.size w1 W3 := by rw [g3]; exact HB2.out.trans ((one_new w2 _).mono HB2.out.size)
  have hZ3 : w2.heap.size < W3.heap.size ∧ gy < W3.heap.size := by rw [g3]; simp; omega
  have hC3 : W3.cell? ⟨gy, y.length - 1, none⟩ = some (.int .i64 (d : Int)) := by rw [g3]; exact ((one_new w2 _).cell (p := ⟨gy, y.length - 1, none⟩) hgy).trans hcy
  have hS3 : Sy W3 p S := HS.out.grow hB3
  obtain ⟨a0, a1, a2, _, _, _⟩ := plc_cells hP3
  have hi1 : (0 : Int) ≤ (i : Int) := by omega
  have hi2 : (i : Int) < 17 := by omega
  have HB3 := hid hB3
  have HZ3 := hid hZ3
  have HC3 := hid hC3
  have HS3 := hid hS3
  have HP3 := hid hP3
  clear hown hcy hnm hgy hS3 hP3 hB3 hZ3 hC3
  go_wp2_with fail
  rw [← g3]
  clear g3
  go_region
  have hS4 : Sy W3.drew p S := HS3.out.hp rfl
  have hpl := HS.out.lt
  have hb1s := HB2.out.size
  have hnmz : nm.size ≤ 6 := by have := bl_len nm; rw [HNM.out] at this; omega
  have k2 : Hid (Calls Tryz.prog 123 #[.pointer (some ⟨p, 1 + i * 107, none⟩)] W3.drew fun e w' => e = .returned (.bool (decide ((S.P i).k = 2))) ∧ w' = W3.drew) := hid (isdir_any p _ _ W3.drew (hS4.k i hi17))
  have k3 := hid (tkname_any p S W3.drew hS4 gy y.length cy d nm (i : Int) hy0 HC3.out HZ3.out.2 hyc hcm hd17 HD.out.1 (by rw [HNM.out, ← HD.out.2]; exact hi0) (by omega))
  have HP4 : Hid (W3.drew.heap[w2.heap.size]? = some (.cells #[.slice (some ⟨gy, 0, none⟩) y.length cy, .string nm, .int .i64 (i : Int)] 184 (0, 0))) := hid HP3.out
  have HZ4 : Hid (w2.heap.size < W3.drew.heap.size) := hid HZ3.out.1
  have HS4 := hid hS4
  obtain ⟨W4, g4⟩ : ∃ W4, W4 = W3.drew := ⟨_, rfl⟩
  have HU4 : Hid (Below w1.heap.size w1 W4) := by rw [g4]; exact hid HB3.out.drew
  rw [← g4] at k2 k3 HP4 HZ4 HS4 ⊢
  clear a0 a1 a2
  obtain ⟨a0, a1, a2, _, _, _⟩ := plc_cells HP4.out
  clear hS4 g4 HS3 HC3 HP3 HB3
  rw [show decide ((S.P i).k = 2) = true by simp [(HR.out.P i hi17).k, hk]] at k2
  clear k3
  go_wp2_with fail
  refine k2.out.mono ?_
  rintro e w4 ⟨rfl, rfl⟩
  clear k2
  go_wp2_with fail
  go_ret
  exact ⟨rfl, PfTo.same HPP.out HU4.out⟩

set_option maxHeartbeats 8000000 in
theorem punlink_file (p : Nat) (F : Fs) (G : Nat → Prop) (w : World) (H : Pf w p F G) (hF : FOk F) (t : ByteArray) (hs : t.size ≤ 140737488355328) (y : List Nat) (s : List UInt8) (i : Nat) (hw : F.walk (bl t) = .ok (y, s, i)) (hi0 : i ≠ 0) (hk : (F.P i).k ≠ 2) (hlm : (F.P i).l ≤ 1000000) :
    Calls Tryz.prog 103 #[.pointer (some ⟨p, 0, none⟩), .string t] w fun e w' => e = .returned (.int .i64 0) ∧ PfTo w p (if 1 < (F.P i).l ∧ dfc F.d 1 = true then F.deln (Fs.dirOf y) s else (F.deln (Fs.dirOf y) s).less i) G w' := by
  have HPf := H
  obtain ⟨S, HS0, R, hG⟩ := H
  have W := hF.walk_ok hw
  obtain ⟨d, gd⟩ : ∃ d, d = Fs.dirOf y := ⟨_, rfl⟩
  obtain ⟨hd17, hdk, hnd⟩ := W.sg R
  obtain ⟨i1, hi17, hik⟩ := W.to hi0
  have hlast := W.last
  have hsl := W.len
  rw [← gd] at hd17 hdk hnd hlast
  have k0 := hid HS0.usable
  have k1 := hid (tonode_any p S t w HS0 (R.tree hF) hs)
  rw [toNode_fs HS0 R, hw, show toNode (.ok (y, s, i)) = .ok (y, s, i) from if_neg hi0] at k1
  have HS := hid HS0
  have HD := hid (And.intro hdk hnd)
  have HY := hid hlast
  have HR := hid R
  have HG := hid hG
  have HW := hid W
  have HF := hid hF
  have HPP := hid HPf
  have GD := hid gd
  have HWK := hid hw
  clear HS0 HPf R hG W hF hdk hnd hlast gd hw
  obtain ⟨X, gX⟩ : ∃ X, X = (if 1 < (F.P i).l ∧ dfc F.d 1 = true then F.deln (Fs.dirOf y) s else (F.deln (Fs.dirOf y) s).less i) := ⟨_, rfl⟩
  rw [← gX]
  have GX := hid gX
  clear gX

  go_enter Tryz.func103, Tryz.ntmps103
  go_wp2_with fail
  refine k0.out.mono ?_
  rintro e w1 ⟨rfl, rfl⟩
  clear k0
  go_wp2_with fail
  refine k1.out.mono ?_
  rintro e w2 ⟨v, rfl, hb2, hv⟩
  have HB2 := hid hb2
  clear k1 hb2
  obtain ⟨u, rfl, yv, nm, rfl, hnm, hown⟩ := hv
  obtain ⟨gy, cy, rfl, hy0, hgy, hcy, hyc, hcm⟩ := last_own hown HY.out
  have HNM := hid hnm
  have hgb := (hown.lt gy rfl).1
  obtain ⟨W3, g3⟩ : ∃ W3, W3 = w2.alloc (Obj.cells #[.slice (some ⟨gy, 0, none⟩) y.length cy, .string nm, .int .i64 (i : Int)] 184) := ⟨_, rfl⟩
  have hP3 : W3.heap[w2.heap.size]? = some (.cells #[.slice (some ⟨gy, 0, none⟩) y.length cy, .string nm, .int .i64 (i : Int)] 184 (0, 0)) := by rw [g3]; exact heap_alloc_new w2 _
  have hB3 : Below w1.heap.size w1 W3 := by rw [g3]; exact HB2.out.trans ((one_new w2 _).mono HB2.out.size)
  have hZ3 : w2.heap.size < W3.heap.size ∧ gy < W3.heap.size := by rw [g3]; simp; omega
  have hC3 : W3.cell? ⟨gy, y.length - 1, none⟩ = some (.int .i64 (d : Int)) := by rw [g3]; exact ((one_new w2 _).cell (p := ⟨gy, y.length - 1, none⟩) hgy).trans hcy
  have hS3 : Sy W3 p S := HS.out.grow hB3
  obtain ⟨a0, a1, a2, _, _, _⟩ := plc_cells hP3
  have hi1 : (0 : Int) ≤ (i : Int) := by omega
  have hi2 : (i : Int) < 17 := by omega
  have HB3 := hid hB3
  have HZ3 := hid hZ3
  have HC3 := hid hC3
  have HS3 := hid hS3
  have HP3 := hid hP3
  clear hown hcy hnm hgy hS3 hP3 hB3 hZ3 hC3
  go_wp2_with fail
  rw [← g3]
  clear g3
  go_region
  have hS4 : Sy W3.drew p S := HS3.out.hp rfl
  have hpl := HS.out.lt
  have hb1s := HB2.out.size
  have hnmz : nm.size ≤ 6 := by have := bl_len nm; rw [HNM.out] at this; omega
  have k2 : Hid (Calls Tryz.prog 123 #[.pointer (some ⟨p, 1 + i * 107, none⟩)] W3.drew fun e w' => e = .returned (.bool (decide ((S.P i).k = 2))) ∧ w' = W3.drew) := hid (isdir_any p _ _ W3.drew (hS4.k i hi17))
  have k3 := hid (tkname_any p S W3.drew hS4 gy y.length cy d nm (i : Int) hy0 HC3.out HZ3.out.2 hyc hcm hd17 HD.out.1 (by rw [HNM.out, ← HD.out.2]; exact hi0) (by omega))
  have HP4 : Hid (W3.drew.heap[w2.heap.size]? = some (.cells #[.slice (some ⟨gy, 0, none⟩) y.length cy, .string nm, .int .i64 (i : Int)] 184 (0, 0))) := hid HP3.out
  have HZ4 : Hid (w2.heap.size < W3.drew.heap.size) := hid HZ3.out.1
  have HS4 := hid hS4
  obtain ⟨W4, g4⟩ : ∃ W4, W4 = W3.drew := ⟨_, rfl⟩
  have HU4 : Hid (Below w1.heap.size w1 W4) := by rw [g4]; exact hid HB3.out.drew
  rw [← g4] at k2 k3 HP4 HZ4 HS4 ⊢
  clear a0 a1 a2
  obtain ⟨a0, a1, a2, _, _, _⟩ := plc_cells HP4.out
  clear hS4 g4 HS3 HC3 HP3 HB3
  rw [show decide ((S.P i).k = 2) = false by simp [(HR.out.P i hi17).k, hk]] at k2
  go_wp2_with fail
  refine k2.out.mono ?_
  rintro e w4 ⟨rfl, rfl⟩
  clear k2
  go_wp2_with fail
  refine k3.out.mono ?_
  rintro e w5 ⟨rfl, h5, u5⟩
  have d1 := h5.l i hi17
  have hne : (S.P d).m ≠ some w2.heap.size := fun e => by
    have := HS.out.foot_lt w2.heap.size (.inr ⟨d, hd17, e⟩)
    omega
  have d2 : w5.cell? ⟨w2.heap.size, 2, none⟩ = some (.int .i64 (i : Int)) := (World.cell?_of_block (a := ⟨w2.heap.size, 2, none⟩) (u5.block w2.heap.size HZ4.out hne)).trans a2
  have hR5 : Rel (S.drop d (bl nm)) (F.deln (Fs.dirOf y) s) := by
    rw [HNM.out, GD.out]
    exact HR.out.drop HF.out _ _ (by rw [← HW.out.nn]; exact hi0)
  have e5 : (F.deln (Fs.dirOf y) s).P i = { F.P i with Q := ((F.deln (Fs.dirOf y) s).P i).Q } := by rw [Fs.deln_P]
  have HU5 : Hid (Upd (S.foot p) w1 w5) := hid ((Upd.of_below HU4.out).trans u5 (fun x _ hx => .inr ⟨d, hd17, hx⟩))
  have ff5 : ∀ x, (S.drop d (bl nm)).foot p x → S.foot p x := fun x hx => hx
  have el5 : ((S.drop d (bl nm)).P i).l = (F.P i).l := (HR.out.P i hi17).l
  rw [el5] at d1
  have k4 := hid (has_any p (S.drop d (bl nm)) w5 h5 1)
  rw [show (S.drop d (bl nm)).d = F.d from HR.out.d] at k4
  have hl0 := HF.out.l0 i
  have k5 := hid (ptklink p (S.drop d (bl nm)) (F.deln (Fs.dirOf y) s) w5 h5 hR5 i hi17 hi0 (by omega) (by rw [e5]; exact ⟨hl0, hlm⟩) (by rw [e5]; exact (HF.out.stl i).c) (by rw [e5]; exact (HF.out.stl i).B) (by rw [e5]; exact (HF.out.stl i).T) (fun _ => by rw [deln_Q, if_neg (fun e => hk (by rw [e]; exact HW.out.k))]; exact HF.out.file i hk))
  have H5 := hid (And.intro h5 hR5)
  obtain ⟨l, gl⟩ : ∃ l, l = (F.P i).l := ⟨_, rfl⟩
  have GX2 := hid GX.out
  rw [← gl] at d1 hlm hl0
  have GL := hid gl
  clear k3 h5 u5 hne a0 a1 a2 hR5 e5 el5 gl
  by_cases hl1 : 1 < l
  · cases hdf : dfc F.d 1 with
    | true =>
      rw [hdf] at k4
      have GX3 : Hid (X = F.deln (Fs.dirOf y) s) := by rw [GX.out, ← GL.out, hdf]; exact hid (if_pos ⟨hl1, rfl⟩)
      clear k5 hdf
      go_wp2_with fail
      refine k4.out.mono ?_
      rintro e w6 ⟨rfl, rfl⟩
      clear k4
      go_wp2_with fail
      go_ret
      rw [GX3.out]
      exact ⟨rfl, Into.to ⟨_, H5.out.1, H5.out.2, ff5, HU5.out⟩ HG.out⟩
    | false =>
      rw [hdf] at k4
      have GX3 : Hid (X = (F.deln (Fs.dirOf y) s).less i) := by rw [GX.out, ← GL.out, hdf]; exact hid (if_neg (by simp))
      clear hdf
      go_wp2_with fail
      refine k4.out.mono ?_
      rintro e w6 ⟨rfl, rfl⟩
      clear k4
      go_wp2_with fail
      refine k5.out.mono ?_
      rintro e w7 ⟨rfl, h7⟩
      have H7 := hid h7
      clear k5 h7
      go_wp2_with fail
      go_ret
      rw [GX3.out]
      exact ⟨rfl, Into.to (Into.trans ff5 HU5.out H7.out) HG.out⟩
  · have GX3 : Hid (X = (F.deln (Fs.dirOf y) s).less i) := by rw [GX.out, ← GL.out]; exact hid (if_neg (fun q => hl1 q.1))
    clear k4
    go_wp2_with fail
    refine k5.out.mono ?_
    rintro e w7 ⟨rfl, h7⟩
    have H7 := hid h7
    clear k5 h7
    go_wp2_with fail
    go_ret
    rw [GX3.out]
    exact ⟨rfl, Into.to (Into.trans ff5 HU5.out H7.out) HG.out⟩

theorem punlink (p : Nat) (F : Fs) (G : Nat → Prop) (w : World) (H : Pf w p F G) (hF : FOk F) (t : ByteArray) (hs : t.size ≤ 140737488355328) (hlm : ∀ i, (F.P i).l ≤ 1000000) :
    Calls Tryz.prog 103 #[.pointer (some ⟨p, 0, none⟩), .string t] w fun e w' => e = .returned (.int .i64 (F.unlink (bl t)).2) ∧ PfTo w p (F.unlink (bl t)).1 G w' := by
  cases hw : F.walk (bl t) with
  | error er =>
    have e : F.unlink (bl t) = (F, er) := by unfold Fs.unlink; rw [hw]
    rw [e]
    exact punlink_err p F G w H hF t hs er (by rw [hw]; rfl)
  | ok q =>
    obtain ⟨y, s, i⟩ := q
    by_cases h0 : i = 0
    · have e : F.unlink (bl t) = (F, 2) := by unfold Fs.unlink; rw [hw]; exact if_pos h0
      rw [e]
      exact punlink_err p F G w H hF t hs 2 (by rw [hw]; exact if_pos h0)
    by_cases hk : (F.P i).k = 2
    · have e : F.unlink (bl t) = (F, 21) := by unfold Fs.unlink; rw [hw]; dsimp only; rw [if_neg h0, if_pos hk]
      rw [e]
      exact punlink_dir p F G w H hF t hs y s i hw h0 hk
    · have e : F.unlink (bl t) = (if 1 < (F.P i).l ∧ dfc F.d 1 = true then F.deln (Fs.dirOf y) s else (F.deln (Fs.dirOf y) s).less i, 0) := by
        unfold Fs.unlink; rw [hw]; dsimp only; rw [if_neg h0, if_neg hk]
        split <;> rfl
      rw [e]
      exact punlink_file p F G w H hF t hs y s i hw h0 hk (hlm i)

end Go.Proofs.YtoknhcjneliboaaGreat

/- What Find and Link do to any system. -/
namespace Go.Proofs.YtoknhcjneliboaaGreat
open Go.RowKit Go.ChangeMaps Go.MapKept
set_option linter.unusedVariables false
set_option maxRecDepth 20000

theorem findS_fs {S : Sg} {F : Fs} {w : World} {p : Nat} {t : ByteArray} (H : Sy w p S) (R : Rel S F) : findS S t = F.find (bl t) := by
  unfold findS Fs.find
  rw [R.walk H t]
  split
  · rfl
  · cases F.walk (bl t) with
    | error e => rfl
    | ok q =>
      obtain ⟨y, s, n⟩ := q
      simp only [toNode]
      split <;> rename_i h
      · split at h
        · simp at h; rw [← h]; rename_i h0; rw [if_pos h0]
        · simp at h
      · split at h
        · simp at h
        · simp at h; rename_i h0; rw [if_neg h0]; rw [h.2.2]
theorem pfind (p : Nat) (F : Fs) (G : Nat → Prop) (w : World) (H : Pf w p F G) (hF : FOk F) (t : ByteArray) (hs : t.size ≤ 140737488355328) :
    Calls Tryz.prog 93 #[.pointer (some ⟨p, 0, none⟩), .string t] w fun e w' => e = .returned (.tuple #[.int .i64 ((F.find (bl t)).1 : Int), .int .i64 (F.find (bl t)).2]) ∧ Below w.heap.size w w' := by
  obtain ⟨S, HS, R, hG⟩ := H
  have := find_any p S t w HS (R.tree hF) hs
  rw [findS_fs HS R] at this
  exact this

theorem PfTo.drew {w w' : World} {p : Nat} {F : Fs} {G : Nat → Prop} (h : PfTo w p F G w') : PfTo w p F G w'.drew := ⟨h.1.hp rfl, h.2.drewN 1⟩

theorem addn_lnk (F : Fs) (dr : Nat) (s : List UInt8) (n : Nat) (l : Int) (h : dr ≠ n) : (F.addn dr s n).lnk n l = (F.lnk n l).addn dr s n := by
  have e1 : (F.addn dr s n).P n = F.P n := by unfold Fs.addn Fs.nq; exact Fs.at_ne _ _ _ _ (fun e => h e.symm)
  have e2 : (F.lnk n l).P dr = F.P dr := Fs.at_ne _ _ _ _ h
  show (F.addn dr s n).at_ n { (F.addn dr s n).P n with l := l } = (F.lnk n l).at_ dr { (F.lnk n l).P dr with Q := ins s n ((F.lnk n l).P dr).Q }
  rw [e1, e2]
  exact Fs.at_comm F dr n _ _ h

theorem toNew_fs {S : Sg} {F : Fs} {w : World} {p : Nat} {t : ByteArray} (H : Sy w p S) (R : Rel S F) (hF : FOk F) : toNew S.L (wkS S t) = toNew (fun i => (F.P i).Q.length) (F.walk (bl t)) := by
  rw [R.walk H t]
  cases hw : F.walk (bl t) with
  | error e => rfl
  | ok q =>
    obtain ⟨y, s, n⟩ := q
    have W := hF.walk_ok hw
    simp only [toNew]
    rw [show y.getLastD 0 = Fs.dirOf y from rfl, R.L _ W.lt.2]

set_option maxHeartbeats 8000000 in
theorem plink (p : Nat) (F : Fs) (G : Nat → Prop) (w : World) (H : Pf w p F G) (hF : FOk F) (t t2 : ByteArray) (hs : t.size ≤ 140737488355328) (hs2 : t2.size ≤ 140737488355328) (hlm : ∀ i, (F.P i).l ≤ 1000000) :
    Calls Tryz.prog 106 #[.pointer (some ⟨p, 0, none⟩), .string t, .string t2] w fun e w' => e = .returned (.int .i64 (F.link (bl t) (bl t2)).2) ∧ PfTo w p (F.link (bl t) (bl t2)).1 G w' := by
  have HP := H
  obtain ⟨S, HS0, R0, hG0⟩ := H
  have k0 := hid (pfind p F G w HP hF t hs)
  have hfo := hF.find_ok (l := bl t)
  obtain ⟨X, gX⟩ : ∃ X, X = F.link (bl t) (bl t2) := ⟨_, rfl⟩
  rw [← gX]
  have GX := hid gX
  have hsp : F.link (bl t) (bl t2) = _ := rfl
  conv at hsp => rhs; unfold Fs.link
  rw [← gX] at hsp
  obtain ⟨n, gn⟩ : ∃ n, n = (F.find (bl t)).1 := ⟨_, rfl⟩
  obtain ⟨e0, ge⟩ : ∃ e0, e0 = (F.find (bl t)).2 := ⟨_, rfl⟩
  rw [← gn, ← ge] at k0 hsp hfo
  have HS := hid HS0
  have HR := hid R0
  have HG := hid hG0
  have HPP := hid HP
  have HF := hid hF
  clear gX gn ge HS0 R0 hG0 HP hF
  by_cases he : e0 = 0
  case neg =>
    rw [if_pos he] at hsp
    have HX := hid hsp
    clear hsp GX hfo
    go_enter Tryz.func106, Tryz.ntmps106
    go_wp2_with fail
    refine k0.out.mono ?_
    rintro e w1 ⟨rfl, hb1⟩
    have HB1 := hid hb1
    clear k0 hb1
    go_wp2_with fail
    go_ret
    rw [HX.out]
    exact ⟨rfl, PfTo.same HPP.out HB1.out⟩
  subst he
  rw [if_neg (by simp)] at hsp
  obtain ⟨hk0, hk1⟩ := hfo rfl
  obtain ⟨n1, n17⟩ := HF.out.lt hk0
  have a0 : (0 : Int) ≤ (n : Int) := by omega
  have a1 : (n : Int) < 17 := by omega
  have kd : Hid (∀ W, Hid (Below w.heap.size w W) → Calls Tryz.prog 123 #[.pointer (some ⟨p, 1 + n * 107, none⟩)] W fun e w' => e = .returned (.bool (decide ((F.P n).k = 2))) ∧ w' = W) := by
    refine hid (fun W hW => ?_)
    have := (HS.out.grow hW.out).k n n17
    rw [(HR.out.P n n17).k] at this
    exact isdir_any p _ _ W this
  by_cases hk : (F.P n).k = 2
  · rw [if_pos hk] at hsp
    rw [show decide ((F.P n).k = 2) = true by simp [hk]] at kd
    have HX := hid hsp
    clear hsp GX hk hk0 hk1
    go_enter Tryz.func106, Tryz.ntmps106
    go_wp2_with fail
    refine k0.out.mono ?_
    rintro e w1 ⟨rfl, hb1⟩
    have HB1 := hid hb1
    clear k0 hb1
    go_wp2_with fail
    refine (kd.out w1 HB1).mono ?_
    rintro e w2 ⟨rfl, rfl⟩
    clear kd
    go_wp2_with fail
    go_ret
    rw [HX.out]
    exact ⟨rfl, PfTo.same HPP.out HB1.out⟩
  rw [if_neg hk] at hsp
  rw [show decide ((F.P n).k = 2) = false by simp [hk]] at kd
  have k1 : Hid (∀ W, Hid (Below w.heap.size w W) → Calls Tryz.prog 129 #[.pointer (some ⟨p, 0, none⟩), .string t2] W fun e w' => ∃ v, e = .returned v ∧ Below W.heap.size W w' ∧ Walked w' W.heap.size (toNew (fun i => (F.P i).Q.length) (F.walk (bl t2))) v) := by
    refine hid (fun W hW => ?_)
    have := tonew_any p S t2 W (HS.out.grow hW.out) (HR.out.tree HF.out) hs2
    rw [toNew_fs HS.out HR.out HF.out] at this
    exact this
  have HK := hid (And.intro hk (And.intro hk0 hk1))
  have hlmn := hlm n
  clear hk hk0 hk1 GX
  cases hr : toNew (fun i => (F.P i).Q.length) (F.walk (bl t2)) with
  | error er =>
    rw [hr] at k1
    have HX : Hid (X = (F, er) ∧ ¬ er = 0) := by
      cases hw : F.walk (bl t2) with
      | error e =>
        rw [hw] at hr hsp
        simp only [toNew, Except.error.injEq] at hr
        subst hr
        exact hid ⟨hsp, by have := Fs.walk_err hw; omega⟩
      | ok q =>
        obtain ⟨y, s, m⟩ := q
        rw [hw] at hr hsp
        simp only [toNew] at hr
        dsimp only at hsp
        by_cases hm : m ≠ 0
        · rw [if_pos hm] at hr hsp
          simp only [Except.error.injEq] at hr
          subst hr
          exact hid ⟨hsp, by omega⟩
        · rw [if_neg hm] at hr hsp
          by_cases h6 : 6 ≤ (F.P (Fs.dirOf y)).Q.length
          · rw [if_pos h6] at hsp
            rw [if_pos (show 6 ≤ (F.P (y.getLastD 0)).Q.length from h6)] at hr
            simp only [Except.error.injEq] at hr
            subst hr
            exact hid ⟨hsp, by omega⟩
          · rw [if_neg (show ¬ 6 ≤ (F.P (y.getLastD 0)).Q.length from h6)] at hr
            simp at hr
    have her := HX.out.2
    clear hsp hr
    go_enter Tryz.func106, Tryz.ntmps106
    go_wp2_with fail
    refine k0.out.mono ?_
    rintro e w1 ⟨rfl, hb1⟩
    have HB1 := hid hb1
    clear k0 hb1
    go_wp2_with fail
    refine (kd.out w1 HB1).mono ?_
    rintro e w2 ⟨rfl, rfl⟩
    clear kd
    go_wp2_with fail
    refine (k1.out _ HB1).mono ?_
    rintro e w3 ⟨v, rfl, hb3, hv⟩
    have HB3 := hid hb3
    clear k1 hb3
    obtain rfl : v = _ := hv
    go_wp2_with fail
    go_ret
    rw [HX.out.1]
    exact ⟨rfl, PfTo.same HPP.out (HB1.out.trans ((HB3.out.trans ((one_new w3 _).mono HB3.out.size)).mono HB1.out.size))⟩
  | ok q =>
    obtain ⟨y, s, m⟩ := q
    rw [hr] at k1
    obtain ⟨hw, hm0, hL⟩ := toNew_ok hr
    have W := HF.out.walk_ok hw
    rw [hw] at hsp
    dsimp only at hsp
    have hL6 : ¬ 6 ≤ (F.P (Fs.dirOf y)).Q.length := by have : (F.P (Fs.dirOf y)).Q.length < 6 := hL; omega
    rw [if_neg (fun h => h hm0), if_neg hL6] at hsp
    have hne : Fs.dirOf y ≠ n := fun e => HK.out.1 (by rw [← e]; exact W.k)
    rw [← addn_lnk F _ s n _ hne] at hsp
    have HX := hid hsp
    obtain ⟨d, gd⟩ : ∃ d, d = Fs.dirOf y := ⟨_, rfl⟩
    obtain ⟨hd17, hdk, hnd⟩ := W.sg HR.out
    have hlast := W.last
    have hsl := W.len
    rw [← gd] at hd17 hdk hnd hlast hne
    have hLd : S.L d < 6 := by rw [HR.out.L d hd17, gd]; omega
    have HY := hid hlast
    have GD := hid gd
    have HD := hid (And.intro hdk (And.intro hnd hLd))
    have HW := hid W
    have HNE := hid hne
    subst hm0
    clear hsp hr hw hL hL6 hdk hnd hlast gd W hLd hne
    go_enter Tryz.func106, Tryz.ntmps106
    go_wp2_with fail
    refine k0.out.mono ?_
    rintro e w1 ⟨rfl, hb1⟩
    have HB1 := hid hb1
    clear k0 hb1
    go_wp2_with fail
    refine (kd.out w1 HB1).mono ?_
    rintro e w1 ⟨rfl, rfl⟩
    clear kd
    go_wp2_with fail
    refine (k1.out _ HB1).mono ?_
    rintro e w2 ⟨v, rfl, hb2, hv⟩
    have HB2 := hid (HB1.out.trans (hb2.mono HB1.out.size))
    clear k1 hb2
    obtain ⟨u, rfl, yv, nm, rfl, hnm, hown⟩ := hv
    obtain ⟨gy, cy, rfl, hy0, hgy, hcy, hyc, hcm⟩ := last_own hown HY.out
    have HNM := hid hnm
    have hgb := (hown.lt gy rfl).1
    obtain ⟨W3, g3⟩ : ∃ W3, W3 = w2.alloc (Obj.cells #[.slice (some ⟨gy, 0, none⟩) y.length cy, .string nm, .int .i64 0] 184) := ⟨_, rfl⟩
    have hP3 : W3.heap[w2.heap.size]? = some (.cells #[.slice (some ⟨gy, 0, none⟩) y.length cy, .string nm, .int .i64 0] 184 (0, 0)) := by rw [g3]; exact heap_alloc_new w2 _
    have hB3 : Below w.heap.size w W3 := by rw [g3]; exact HB2.out.trans ((one_new w2 _).mono HB2.out.size)
    have hZ3 : w2.heap.size < W3.heap.size ∧ gy < W3.heap.size := by rw [g3]; simp; omega
    have hC3 : W3.cell? ⟨gy, y.length - 1, none⟩ = some (.int .i64 (d : Int)) := by rw [g3]; exact ((one_new w2 _).cell (p := ⟨gy, y.length - 1, none⟩) hgy).trans hcy
    have hS3 : Sy W3 p S := HS.out.grow hB3
    have hnmz : nm.size ≤ 6 := by have := bl_len nm; rw [hnm] at this; omega
    have k6 := hid (give_any p S W3 hS3 gy y.length cy d nm 0 n hy0 hC3 hZ3.2 hyc hcm hd17 HD.out.1 (by rw [hnm]; exact HD.out.2.1.symm) HD.out.2.2 n17 (by omega) (by omega))
    obtain ⟨a2, a3, a4, _, _, _⟩ := plc_cells hP3
    have HB3 := hid hB3
    clear hown hcy hnm hgy hS3 hP3 hB3 hZ3 hC3 hgb
    go_wp2_with fail
    rw [← g3]
    clear g3
    refine k6.out.mono ?_
    rintro e w7 ⟨rfl, h7, u7⟩
    have d1 := h7.l n n17
    have el : ((S.put d (bl nm) n).P n).l = (F.P n).l := (HR.out.P n n17).l
    rw [el] at d1
    have f1 := h7.fz (1 + n * 107 + 1)
    have hR7 : Rel (S.put d (bl nm) n) (F.addn (Fs.dirOf y) s n) := by
      rw [HNM.out, GD.out]
      exact HR.out.put HF.out _ _ _ HW.out.nn.symm
    have hl0 := HF.out.l0 n
    obtain ⟨l, gl⟩ : ∃ l, l = (F.P n).l := ⟨_, rfl⟩
    rw [← gl] at d1 hlmn hl0
    have hS8 := h7.linkTo n n17 (l + 1)
    have hR8 := hR7.link n n17 (l + 1)
    have HQ : Hid (PfTo w p X.1 G (w7.setCell ⟨p, 1 + n * 107 + 1, none⟩ (.int .i64 (l + 1)))) := by
      rw [HX.out, ← gl]
      have uu : Upd (S.foot p) w (w7.setCell ⟨p, 1 + n * 107 + 1, none⟩ (.int .i64 (l + 1))) :=
        ((Upd.of_below HB3.out).trans u7 (fun x _ hx => .inr ⟨d, hd17, hx⟩)).trans (Upd.setCell (F := (· = p)) w7 ⟨p, _, none⟩ _ rfl) (fun x _ hx => .inl hx)
      exact hid (Into.to ⟨_, hS8, hR8, fun x hx => foot_at (S := S.put d (bl nm) n) (x := (((S.put d (bl nm) n).P n).link (l + 1))) rfl x hx, uu⟩ HG.out)
    have HX2 : Hid (X.2 = 0) := by rw [HX.out]; exact hid rfl
    clear k6 h7 u7 el hR7 hS8 hR8 gl a2 a3 a4
    go_wp2_with fail
    go_region
    go_wp2_with fail
    go_ret
    rw [HX2.out]
    exact ⟨rfl, HQ.out.drew⟩

end Go.Proofs.YtoknhcjneliboaaGreat

/- The document's Hold, Drop and Link. -/
namespace Go.Proofs.YtoknhcjneliboaaGreat
open Go.RowKit
set_option linter.unusedVariables false
set_option maxRecDepth 20000

theorem FOk.l1 {F : Fs} (H : FOk F) (n : Nat) (e : n = 1) : 0 < (F.P n).l := by subst e; rw [(H.dir 1 H.root).2.2]; omega

set_option maxHeartbeats 4000000 in
theorem rhold_any (x g u : Nat) (V : Nat → Value) (F : Fs) (w : World) (H : Rf w x g u V F) (hF : FOk F) (n : Int) :
    Calls Tryz.prog 60 #[.pointer (some ⟨x, 0, none⟩), .int .i64 n] w fun e w' => e = .returned (.int .i64 (F.hold n).2) ∧ RfTo w x g u V (F.hold n).1 w' := by
  have k1 := hid (rthere_any x g u V F w H n)
  obtain ⟨R, gR⟩ : ∃ R, R = F.hold n := ⟨_, rfl⟩
  rw [← gR]
  have HH := hid H
  have HF := hid hF
  by_cases ht : F.there n = false
  · have HR : Hid (R = (F, 2)) := hid (by rw [gR]; unfold Fs.hold; rw [if_pos ht])
    rw [ht] at k1
    clear H hF gR ht
    go_enter Tryz.func60, Tryz.ntmps60
    go_wp2_with fail
    refine k1.out.mono ?_
    rintro e w1 ⟨rfl, rfl⟩
    clear k1
    go_wp2_with fail
    go_ret
    rw [HR.out]
    exact ⟨rfl, HH.out.same (Below.refl _ _)⟩
  · have ht2 : F.there n = true := by simpa using ht
    obtain ⟨i, rfl, i1, i2, i3⟩ := there_is ht2
    rw [ht2] at k1
    have HR : Hid (R = if 1000 ≤ (F.P i).h then (F, 11) else (F.hld i ((F.P i).h + 1), 0)) := hid (by rw [gR]; unfold Fs.hold; rw [if_neg ht]; rfl)
    have c0 := H.c0
    have c1 := H.h i i2
    have c2 := H.frz (i * 6 + 2)
    obtain ⟨h0, h1⟩ := hF.h i
    have H2 := hid (H.hld i i2 ((F.P i).h + 1))
    obtain ⟨h, gh⟩ : ∃ h, h = (F.P i).h := ⟨_, rfl⟩
    rw [← gh] at HR c1 h0 h1 H2
    have n0 : (0 : Int) ≤ (i : Int) := by omega
    have n1 : (i : Int) < 17 := by omega
    have hwr : IntKind.i64.wrap (h + 1) = h + 1 := by rw [IntKind.wrap_i64]; omega
    clear H hF gR ht ht2 gh
    by_cases hh : 1000 ≤ h
    · have HR2 : Hid (R = (F, 11)) := hid (by rw [HR.out, if_pos hh])
      clear HR H2
      go_enter Tryz.func60, Tryz.ntmps60
      go_wp2_with fail
      refine k1.out.mono ?_
      rintro e w1 ⟨rfl, rfl⟩
      clear k1
      go_wp2_with fail
      go_ret
      rw [HR2.out]
      exact ⟨rfl, HH.out.same (Below.refl _ _)⟩
    · have HR2 : Hid (R = (F.hld i (h + 1), 0)) := hid (by rw [HR.out, if_neg hh])
      clear HR
      go_enter Tryz.func60, Tryz.ntmps60
      go_wp2_with fail
      refine k1.out.mono ?_
      rintro e w1 ⟨rfl, rfl⟩
      clear k1
      go_wp2_with fail
      go_ret
      rw [HR2.out]
      exact ⟨rfl, V, H2.out.cell_to⟩

set_option maxHeartbeats 4000000 in
theorem rdrop_any (x g u : Nat) (V : Nat → Value) (F : Fs) (w : World) (H : Rf w x g u V F) (hF : FOk F) (n : Int) :
    Calls Tryz.prog 71 #[.pointer (some ⟨x, 0, none⟩), .int .i64 n] w fun e w' => e = .returned (.int .i64 (F.drop n).2) ∧ RfTo w x g u V (F.drop n).1 w' := by
  have k1 := hid (rthere_any x g u V F w H n)
  obtain ⟨R, gR⟩ : ∃ R, R = F.drop n := ⟨_, rfl⟩
  rw [← gR]
  have HH := hid H
  have HF := hid hF
  by_cases ht : F.there n = false
  · have HR : Hid (R = (F, 2)) := hid (by rw [gR]; unfold Fs.drop; rw [if_pos ht])
    rw [ht] at k1
    clear H hF gR ht
    go_enter Tryz.func71, Tryz.ntmps71
    go_wp2_with fail
    refine k1.out.mono ?_
    rintro e w1 ⟨rfl, rfl⟩
    clear k1
    go_wp2_with fail
    go_ret
    rw [HR.out]
    exact ⟨rfl, HH.out.same (Below.refl _ _)⟩
  · have ht2 : F.there n = true := by simpa using ht
    obtain ⟨i, rfl, i1, i2, i3⟩ := there_is ht2
    rw [ht2] at k1
    have HR : Hid (R = if (F.P i).h = 0 then (F, 22) else ((F.hld i ((F.P i).h - 1)).gone i, 0)) := hid (by rw [gR]; unfold Fs.drop; rw [if_neg ht]; rfl)
    have c0 := H.c0
    have c1 := H.h i i2
    have c2 := H.frz (i * 6 + 2)
    obtain ⟨h0, h1⟩ := hF.h i
    have H2 := hid (H.hld i i2 ((F.P i).h - 1))
    have HB5 := hF.B25 i
    have k2 := hid (rgone_any x g u V _ _ H2.out i i2 (fun e => by rw [Fs.hld_P]; exact hF.l1 i e) (by rw [Fs.hld_P]; exact HB5.1) (by rw [Fs.hld_P]; exact HB5.2))
    obtain ⟨h, gh⟩ : ∃ h, h = (F.P i).h := ⟨_, rfl⟩
    rw [← gh] at HR c1 h0 h1 H2 k2
    have n0 : (0 : Int) ≤ (i : Int) := by omega
    have n1 : (i : Int) < 17 := by omega
    have hwr : IntKind.i64.wrap (h - 1) = h - 1 := by rw [IntKind.wrap_i64]; omega
    clear H hF gR ht ht2 gh HB5
    by_cases hh : h = 0
    · have HR2 : Hid (R = (F, 22)) := hid (by rw [HR.out, if_pos hh])
      clear HR H2 k2
      subst hh
      go_enter Tryz.func71, Tryz.ntmps71
      go_wp2_with fail
      refine k1.out.mono ?_
      rintro e w1 ⟨rfl, rfl⟩
      clear k1
      go_wp2_with fail
      go_ret
      rw [HR2.out]
      exact ⟨rfl, HH.out.same (Below.refl _ _)⟩
    · have HR2 : Hid (R = ((F.hld i (h - 1)).gone i, 0)) := hid (by rw [HR.out, if_neg hh])
      clear HR
      go_enter Tryz.func71, Tryz.ntmps71
      go_wp2_with fail
      refine k1.out.mono ?_
      rintro e w1 ⟨rfl, rfl⟩
      clear k1
      go_wp2_with fail
      refine k2.out.mono ?_
      rintro e w2 ⟨rfl, hT⟩
      have HT := hid hT
      clear k2 hT
      go_wp2_with fail
      go_ret
      rw [HR2.out]
      exact ⟨rfl, RfTo.next H2.out.cell_to HT.out⟩

set_option maxHeartbeats 4000000 in
theorem rlink_any (x g u : Nat) (V : Nat → Value) (F : Fs) (w : World) (H : Rf w x g u V F) (hF : FOk F) (hl : ∀ i, (F.P i).l ≤ 1000000) (t t2 : ByteArray) (hs : t.size ≤ 1048576) (hs2 : t2.size ≤ 1048576) :
    Calls Tryz.prog 78 #[.pointer (some ⟨x, 0, none⟩), .string t, .string t2] w fun e w' => e = .returned (.int .i64 (F.link (bl t) (bl t2)).2) ∧ RfTo w x g u V (F.link (bl t) (bl t2)).1 w' := by
  obtain ⟨R, gR⟩ : ∃ R, R = F.link (bl t) (bl t2) := ⟨_, rfl⟩
  rw [← gR]
  have HR : Hid (R = if (F.find (bl t)).2 ≠ 0 then (F, (F.find (bl t)).2) else if (F.P (F.find (bl t)).1).k = 2 then (F, 1) else match F.walk (bl t2) with
    | .error e => (F, e)
    | .ok (y, s, n) => if n ≠ 0 then (F, 17) else if 6 ≤ (F.P (Fs.dirOf y)).Q.length then (F, 28) else
      ((F.lnk (F.find (bl t)).1 ((F.P (F.find (bl t)).1).l + 1)).addn (Fs.dirOf y) s (F.find (bl t)).1, 0)) := hid (by rw [gR]; unfold Fs.link; cases F.walk (bl t2) <;> rfl)
  have k1 := hid (rfind_any x g u V F w H hF t hs)
  have HFI := hid (hF.find_ok (l := bl t))
  obtain ⟨⟨n, E⟩, gq⟩ : ∃ q, q = F.find (bl t) := ⟨_, rfl⟩
  rw [← gq] at HR k1 HFI
  simp only at HR k1 HFI
  have HH := hid H
  have HF := hid hF
  have HL := hid hl
  clear H hF hl gR gq
  by_cases hE : E ≠ 0
  · have HR2 : Hid (R = (F, E)) := hid (by rw [HR.out, if_pos hE])
    clear HR HFI
    go_enter Tryz.func78, Tryz.ntmps78
    go_wp2_with fail
    refine k1.out.mono ?_
    rintro e w1 ⟨rfl, hB⟩
    have HS := hid (HH.out.same hB)
    clear k1 hB
    go_wp2_with fail
    go_ret
    rw [HR2.out]
    exact ⟨rfl, HS.out⟩
  obtain rfl : E = 0 := Decidable.not_not.1 hE
  obtain ⟨f1, f2⟩ := HFI.out rfl
  obtain ⟨n2, n3⟩ := HF.out.lt f1
  have HR2 : Hid (R = if (F.P n).k = 2 then (F, 1) else match F.walk (bl t2) with
    | .error e => (F, e)
    | .ok (y, s, m) => if m ≠ 0 then (F, 17) else if 6 ≤ (F.P (Fs.dirOf y)).Q.length then (F, 28) else ((F.lnk n ((F.P n).l + 1)).addn (Fs.dirOf y) s n, 0)) := hid (by rw [HR.out, if_neg hE])
  have n0 : (0 : Int) ≤ (n : Int) := by omega
  have n1 : (n : Int) < 17 := by omega
  clear HR HFI hE f1 f2
  go_enter Tryz.func78, Tryz.ntmps78
  go_wp2_with fail
  refine k1.out.mono ?_
  rintro e w1 ⟨rfl, hB⟩
  have HB := hid hB
  have H1 := hid (HH.out.grow hB)
  clear k1 hB
  have c0 := H1.out.c0
  have c1 := H1.out.k n n3
  by_cases hk : (F.P n).k = 2
  · have HR3 : Hid (R = (F, 1)) := hid (by rw [HR2.out, if_pos hk])
    rw [hk] at c1
    clear HR2
    go_wp2_with fail
    go_ret
    rw [HR3.out]
    exact ⟨rfl, HH.out.same HB.out⟩
  obtain ⟨k, gk⟩ : ∃ k, k = (F.P n).k := ⟨_, rfl⟩
  have HR3 : Hid (R = match F.walk (bl t2) with
    | .error e => (F, e)
    | .ok (y, s, m) => if m ≠ 0 then (F, 17) else if 6 ≤ (F.P (Fs.dirOf y)).Q.length then (F, 28) else ((F.lnk n ((F.P n).l + 1)).addn (Fs.dirOf y) s n, 0)) := hid (by rw [HR2.out, if_neg hk])
  have HK : Hid ((F.P n).k ≠ 2) := hid hk
  rw [← gk] at c1 hk
  have k2 := hid (rend_any x g u V F w1 H1.out HF.out t2 hs2)
  clear HR2 gk
  go_wp2_with fail
  refine k2.out.mono ?_
  rintro e w2 ⟨⟨v, rfl, hE⟩, hb⟩
  have HB2 := hid (HB.out.trans (hb.mono HB.out.size))
  have H2 := hid (H1.out.grow hb)
  clear k2 hb HB H1 c0 c1
  rcases hE with ⟨er, hw, rfl⟩ | ⟨y, s, m, hw, rfl⟩
  · have HR4 : Hid (R = (F, er)) := hid (by rw [HR3.out, hw])
    have he : er ≠ 0 := by have := Fs.walk_err hw; omega
    clear hw HR3
    go_wp2_with fail
    go_ret
    rw [HR4.out]
    exact ⟨rfl, HH.out.same HB2.out⟩
  · have W := HF.out.walk_ok hw
    have HR4 : Hid (R = if m ≠ 0 then (F, 17) else if 6 ≤ (F.P (Fs.dirOf y)).Q.length then (F, 28) else ((F.lnk n ((F.P n).l + 1)).addn (Fs.dirOf y) s n, 0)) := hid (by rw [HR3.out, hw])
    obtain ⟨d, gd⟩ : ∃ d, d = Fs.dirOf y := ⟨_, rfl⟩
    have hd := W.lt
    have hdk := W.k
    rw [← gd] at hd hdk
    have k3 := hid (rlook_any x g u V F w2 H2.out d (by omega) (HF.out.len d) (bs s))
    rw [bl_bs, gd, ← W.nn, ← gd] at k3
    rw [← gd] at HR4 ⊢
    clear W hw HR3 gd
    go_wp2_with fail
    refine k3.out.mono ?_
    rintro e w3 ⟨rfl, hb⟩
    have HB3 := hid (HB2.out.trans (hb.mono HB2.out.size))
    have H3 := hid (H2.out.grow hb)
    clear k3 hb H2 HB2
    by_cases hm : m ≠ 0
    · have HR5 : Hid (R = (F, 17)) := hid (by rw [HR4.out, if_pos hm])
      have mz : ¬ (m : Int) = 0 := by omega
      clear HR4
      go_wp2_with fail
      go_ret
      rw [HR5.out]
      exact ⟨rfl, HH.out.same HB3.out⟩
    obtain rfl : m = 0 := Decidable.not_not.1 hm
    have HR5 : Hid (R = if 6 ≤ (F.P d).Q.length then (F, 28) else ((F.lnk n ((F.P n).l + 1)).addn d s n, 0)) := hid (by rw [HR4.out, if_neg hm])
    have c0 := H3.out.c0
    obtain ⟨qa, qc, eQ, hqc, hqm, _⟩ := own_shp (H3.out.rQ d (by omega))
    have c1 := H3.out.q d (by omega)
    rw [eQ] at c1
    have hq6 := HF.out.len d
    have k4 := hid (radd_any x g u V F w3 H3.out d (by omega) hq6 (bs s) n)
    rw [bl_bs] at k4
    obtain ⟨LQ, gLQ⟩ : ∃ LQ, LQ = (F.P d).Q.length := ⟨_, rfl⟩
    rw [← gLQ] at c1 hqc HR5 hq6
    have d0 : (0 : Int) ≤ (d : Int) := by omega
    have d1 : (d : Int) < 17 := by omega
    have HDN : Hid (d ≠ n) := hid (fun e => HK.out (by rw [← e]; exact hdk))
    clear HR4 hm eQ gLQ
    by_cases hq : 6 ≤ LQ
    · have hq2 : (6 : Int) ≤ (LQ : Int) := by omega
      have HR6 : Hid (R = (F, 28)) := hid (by rw [HR5.out, if_pos hq])
      clear HR5 k4
      go_wp2_with fail
      go_ret
      rw [HR6.out]
      exact ⟨rfl, HH.out.same HB3.out⟩
    · have hq2 : ¬ (6 : Int) ≤ (LQ : Int) := by omega
      have HR6 : Hid (R = ((F.addn d s n).lnk n ((F.P n).l + 1), 0)) := hid (by rw [HR5.out, if_neg hq, addn_lnk F d s n _ HDN.out])
      clear HR5 H3
      go_wp2_with fail
      refine k4.out.mono ?_
      rintro e w4 ⟨rfl, V1, hT⟩
      have HT := hid hT
      have H4 := hid hT.1
      clear k4 hT c0 c1
      have c0 := H4.out.c0
      have c2 := H4.out.l n n3
      rw [show ((F.addn d s n).P n).l = (F.P n).l by rw [Fs.addn_P]] at c2
      have hl0 := HF.out.l0 n
      have hl1 := HL.out n
      have c3 := H4.out.frz (n * 6 + 1)
      have H5 := hid (H4.out.lnk n n3 ((F.P n).l + 1))
      obtain ⟨l, gl⟩ : ∃ l, l = (F.P n).l := ⟨_, rfl⟩
      rw [← gl] at c2 hl0 hl1 H5 HR6
      have hwr : IntKind.i64.wrap (l + 1) = l + 1 := by rw [IntKind.wrap_i64]; omega
      clear gl H4
      go_wp2_with fail
      go_ret
      rw [HR6.out]
      exact ⟨rfl, RfTo.below HB3.out (RfTo.next HT.out ⟨V1, H5.out.cell_to⟩)⟩

end Go.Proofs.YtoknhcjneliboaaGreat

/- What Drop and Stat do to any system. -/
namespace Go.Proofs.YtoknhcjneliboaaGreat
open Go.RowKit Go.ChangeMaps Go.MapKept
set_option linter.unusedVariables false
set_option maxRecDepth 20000

set_option maxHeartbeats 2000000 in
theorem pdrop (p : Nat) (F : Fs) (G : Nat → Prop) (w : World) (H : Pf w p F G) (hF : FOk F) (n : Int) :
    Calls Tryz.prog 217 #[.pointer (some ⟨p, 0, none⟩), .int .i64 n] w fun e w' => e = .returned (.int .i64 (F.drop n).2) ∧ PfTo w p (F.drop n).1 G w' := by
  have HP := H
  obtain ⟨S, HS, R, hG⟩ := H
  by_cases ht : F.there n = false
  · have e : F.drop n = (F, 2) := by unfold Fs.drop; rw [if_pos ht]
    rw [e]
    have k0 := hid (node_no p S w HS n (there_no R ht))
    have HQ := hid (PfTo.same HP (Below.refl _ w))
    clear HS R hG HP e ht
    go_enter Tryz.func217, Tryz.ntmps217
    go_wp2_with fail
    refine k0.out.mono ?_
    rintro e w1 ⟨rfl, rfl⟩
    clear k0
    go_wp2_with fail
    go_ret
    exact ⟨rfl, HQ.out⟩
  obtain ⟨i, rfl, h1, h2, hk⟩ := there_yes (by simpa using ht : F.there n = true)
  have hh := hF.h i
  have eh := (R.P i h2).h
  have hkk : (S.P i).k ≠ 0 := by rw [(R.P i h2).k]; exact hk
  obtain ⟨m, hm⟩ : ∃ m : Nat, (F.P i).h = (m : Int) := ⟨(F.P i).h.toNat, by omega⟩
  have k0 := hid (node_yes p S w HS i h1 h2 hkk)
  have c := HS.h i h2
  rw [eh, hm] at c
  by_cases h3 : (F.P i).h = 0
  · have e : F.drop (i : Int) = (F, 22) := by unfold Fs.drop; rw [if_neg ht]; exact if_pos h3
    rw [e]
    obtain rfl : m = 0 := by omega
    change w.cell? ⟨p, 1 + i * 107 + 2, none⟩ = some (.int .i64 0) at c
    have HQ := hid (PfTo.same HP (Below.refl _ w))
    clear HS R hG HP e ht hk hh eh hkk hm h3
    go_enter Tryz.func217, Tryz.ntmps217
    go_wp2_with fail
    refine k0.out.mono ?_
    rintro e w1 ⟨rfl, rfl⟩
    clear k0
    go_wp2_with fail
    go_ret
    exact ⟨rfl, HQ.out⟩
  · have e : F.drop (i : Int) = ((F.hld i ((F.P i).h - 1)).gone i, 0) := by unfold Fs.drop; rw [if_neg ht]; exact if_neg h3
    rw [e]
    obtain ⟨q, rfl⟩ : ∃ q, m = q + 1 := ⟨m - 1, by omega⟩
    have ehq : (F.P i).h - 1 = (q : Int) := by omega
    rw [ehq]
    have f := HS.fz (1 + i * 107 + 2)
    have hS := HS.holdTo i h2 (q : Int)
    have hR := R.hold i h2 (q : Int)
    have eP : (F.hld i (q : Int)).P i = { F.P i with h := (q : Int) } := Fs.at_self _ _ _
    obtain ⟨W, gW⟩ : ∃ W, W = w.setCell ⟨p, 1 + i * 107 + 2, none⟩ (.int .i64 (q : Int)) := ⟨_, rfl⟩
    rw [← gW] at hS
    have k1 := hid (psettle p _ (F.hld i (q : Int)) W hS hR i h2 (by omega) (fun e => by rw [eP]; subst e; dsimp only; rw [(hF.dir 1 hF.root).2.2]; omega) (by rw [eP]; exact (hF.c i).1) (by rw [eP]; exact hF.B i) (by rw [eP]; exact fun b hb => (hF.T i b hb).2.1) (fun hq => by
      rw [eP] at hq ⊢
      dsimp only at hq ⊢
      refine hF.file i (fun e => hq (.inl ?_))
      rw [(hF.dir i e).2.2]; omega))
    have HU : Hid (Upd (S.foot p) w W) := by rw [gW]; exact hid (upd_p (Upd.setCell (F := (· = p)) w ⟨p, _, none⟩ _ rfl))
    have HG := hid hG
    have c1 : ¬ ((q + 1 : Nat) : Int) = 0 := by omega
    have c2 : ((q + 1 : Nat) : Int) - 1 = (q : Int) := by omega
    have c3 : wrap64 (q : Int) = (q : Int) := by unfold wrap64; omega
    clear HS R HP hG e ht hk hh eh hkk hm h3 ehq hS hR eP
    go_enter Tryz.func217, Tryz.ntmps217
    go_wp2_with fail
    refine k0.out.mono ?_
    rintro e w1 ⟨rfl, rfl⟩
    clear k0
    go_wp2_with fail
    rw [show w1.setCell ⟨p, 1 + i * 107 + 2, none⟩ (.int .i64 (q : Int)) = W from gW.symm]
    refine k1.out.mono ?_
    rintro e w2 ⟨rfl, h⟩
    have HH := hid h
    clear k1 h gW c f
    go_wp2_with fail
    go_ret
    exact ⟨rfl, Into.to (Into.trans (fun x hx => foot_at (S := S) (x := (S.P i).hold (q : Int)) rfl x hx) HU.out HH.out) HG.out⟩

set_option maxHeartbeats 4000000 in
set_option maxRecDepth 20000 in
theorem stat_any (p : Nat) (S : Sg) (w : World) (i : Nat) (h1 : 1 ≤ i) (hi : i < 17) (H : Sy w p S) (hk : (S.P i).k ≠ 0) (z : Nat) (hz : (z : Int) = if (S.P i).k = 2 then (S.L i : Int) else ((S.P i).s : Int)) :
    Calls Tryz.prog 83 #[.pointer (some ⟨p, 0, none⟩), .int .i64 (i : Int)] w fun e w' => e = .returned (.tuple #[.agg #[.int .i64 (S.P i).k, .int .i64 (S.P i).l, .int .i64 (z : Int)], .int .i64 0]) ∧ Below w.heap.size w w' := by
  obtain ⟨W, gW⟩ : ∃ W, W = w.alloc (Obj.cells #[.int .i64 0, .int .i64 0, .int .i64 0] 87) := ⟨_, rfl⟩
  have hB : Below w.heap.size w W := by rw [gW]; exact one_new _ _
  have hN : W.heap[w.heap.size]? = some (.cells #[.int .i64 0, .int .i64 0, .int .i64 0] 87 (0, 0)) := by rw [gW]; exact heap_alloc_new _ _
  have hS : Sy W p S := H.grow hB
  have k1 := hid (node_yes p S W hS i h1 hi hk)
  have c0 := hS.k i hi
  have c1 := hS.l i hi
  have c3 := hS.s i hi
  have c6 := hS.m i hi
  have hnm := hS.nms i hi
  have kl : Hid (∀ W', W' = W ∨ W' = W.drew → Calls Tryz.prog 121 #[.pointer (some ⟨p, 1 + i * 107, none⟩)] W' fun e w' => e = .returned (.int .i64 (z : Int)) ∧ w' = W') := by
    refine hid (fun W' hW' => ?_)
    have := fun W' (hw : W'.heap = W.heap) => length_any p (1 + i * 107) (S.P i).k (S.P i).s (S.P i).m _ _ W' ((World.cell?_of_block (a := ⟨p, 1 + i * 107, none⟩) (show W'.heap[p]? = W.heap[p]? by rw [hw])).trans c0) ((World.cell?_of_block (a := ⟨p, 1 + i * 107 + 3, none⟩) (show W'.heap[p]? = W.heap[p]? by rw [hw])).trans c3) ((World.cell?_of_block (a := ⟨p, 1 + i * 107 + 106, none⟩) (show W'.heap[p]? = W.heap[p]? by rw [hw])).trans c6) (hnm.block (fun b _ => by rw [hw]))
    rw [← hz] at this
    rcases hW' with rfl | rfl
    · exact this _ rfl
    · exact this _ rfl
  have r0 : W.cell? ⟨w.heap.size, 0, none⟩ = some (.int .i64 0) := by rw [cell_of_row W _ 0 _ _ _ hN]; rfl
  have r1 : W.cell? ⟨w.heap.size, 1, none⟩ = some (.int .i64 0) := by rw [cell_of_row W _ 1 _ _ _ hN]; rfl
  have r2 : W.cell? ⟨w.heap.size, 2, none⟩ = some (.int .i64 0) := by rw [cell_of_row W _ 2 _ _ _ hN]; rfl
  have f0 : ∀ j, W.frozen? ⟨w.heap.size, j, none⟩ = false := fun j => by simp [World.frozen?, hN]
  have f1 := f0 0
  have f2 := f0 1
  have f3 := f0 2
  obtain ⟨k, gk⟩ : ∃ k, k = (S.P i).k := ⟨_, rfl⟩
  obtain ⟨l, gl⟩ : ∃ l, l = (S.P i).l := ⟨_, rfl⟩
  obtain ⟨s, gs⟩ : ∃ s, s = z := ⟨_, rfl⟩
  rw [← gk] at c0 ⊢
  rw [← gl] at c1 ⊢
  rw [← gs] at kl ⊢
  have hpn : p ≠ w.heap.size := Nat.ne_of_lt H.lt
  have HN := hid hN
  have HB := hid hB
  clear H hS hnm c6 c3 hk hN hB gk gl gs hz f0
  go_enter Tryz.func83, Tryz.ntmps83
  go_wp2_with fail
  rw [← gW]
  clear gW
  refine k1.out.mono ?_
  rintro e w1 ⟨rfl, rfl⟩
  clear k1
  go_wp2_with fail
  go_region_held3 (fun W' => W'.cell? ⟨p, 1 + i * 107, none⟩ = some (.int .i64 k) ∧ W'.cell? ⟨p, 1 + i * 107 + 1, none⟩ = some (.int .i64 l)) (first | (refine ⟨?_, ?_⟩ <;> assumption) | (refine ⟨(cell_three _ _ _ _ _ ⟨p, _, none⟩ hpn).trans ?_, (cell_three _ _ _ _ _ ⟨p, _, none⟩ hpn).trans ?_⟩ <;> assumption) | go_keep) ((go_at_call 121; refine (kl.out _ (by first | exact .inl rfl | exact .inr rfl)).mono ?_; rintro e w' ⟨rfl, rfl⟩))
  go_wp2_with fail
  have q3 : ((((w1.setCell ⟨w.heap.size, 0, none⟩ (.int .i64 k)).setCell ⟨w.heap.size, 1, none⟩ (.int .i64 l)).setCell ⟨w.heap.size, 2, none⟩ (.int .i64 (s : Int))).drew).heap[w.heap.size]? = some (.cells (List.toArray [.int .i64 k, .int .i64 l, .int .i64 (s : Int)]) 87 (0, 0)) := by
    have g1 := heap_setCell_same w1 w.heap.size 0 _ _ (.int .i64 k) HN.out
    have g2 := heap_setCell_same _ w.heap.size 1 _ _ (.int .i64 l) g1
    have g3 := heap_setCell_same _ w.heap.size 2 _ _ (.int .i64 (s : Int)) g2
    exact g3
  have uu : Upd (· = w.heap.size) w1 ((((w1.setCell ⟨w.heap.size, 0, none⟩ (.int .i64 k)).setCell ⟨w.heap.size, 1, none⟩ (.int .i64 l)).setCell ⟨w.heap.size, 2, none⟩ (.int .i64 (s : Int))).drew) := by
    have u1 : Upd (· = w.heap.size) w1 (w1.setCell ⟨w.heap.size, 0, none⟩ (.int .i64 k)) := Upd.setCell (F := (· = w.heap.size)) w1 ⟨_, _, none⟩ _ rfl
    have u2 : Upd (· = w.heap.size) (w1.setCell ⟨w.heap.size, 0, none⟩ (.int .i64 k)) ((w1.setCell ⟨w.heap.size, 0, none⟩ (.int .i64 k)).setCell ⟨w.heap.size, 1, none⟩ (.int .i64 l)) := Upd.setCell (F := (· = w.heap.size)) _ ⟨_, _, none⟩ _ rfl
    have u3 : Upd (· = w.heap.size) ((w1.setCell ⟨w.heap.size, 0, none⟩ (.int .i64 k)).setCell ⟨w.heap.size, 1, none⟩ (.int .i64 l)) (((w1.setCell ⟨w.heap.size, 0, none⟩ (.int .i64 k)).setCell ⟨w.heap.size, 1, none⟩ (.int .i64 l)).setCell ⟨w.heap.size, 2, none⟩ (.int .i64 (s : Int))) := Upd.setCell (F := (· = w.heap.size)) _ ⟨_, _, none⟩ _ rfl
    exact ((u1.trans u2 (fun _ _ h => h)).trans u3 (fun _ _ h => h)).drewN 1
  refine bodyPost_ret (cell_result2 rfl _ _ w.heap.size 0 rfl [.int .i64 k, .int .i64 l, .int .i64 (s : Int)] _ (rangeAt_block q3) Tryz.underlying87 rfl csizeInfo) rfl ?_
  exact ⟨rfl, HB.out.trans (uu.below HB.out.size (fun x hx => by omega))⟩


end Go.Proofs.YtoknhcjneliboaaGreat

/- What Stat does to any system, the answer of a number without a node too. -/
namespace Go.Proofs.YtoknhcjneliboaaGreat
open Go.RowKit Go.ChangeMaps Go.MapKept
set_option linter.unusedVariables false
set_option maxRecDepth 20000

theorem builtInfo0 : Tryz.prog.built 87 [] = some #[.int .i64 0, .int .i64 0, .int .i64 0] := by kernel_rfl
set_option maxHeartbeats 1000000 in
theorem stat_no (p : Nat) (S : Sg) (w : World) (H : Sy w p S) (n : Int) (h : n < 1 ∨ 16 < n ∨ (1 ≤ n ∧ n ≤ 16 ∧ (S.P n.toNat).k = 0)) :
    Calls Tryz.prog 83 #[.pointer (some ⟨p, 0, none⟩), .int .i64 n] w fun e w' => e = .returned (.tuple #[.agg #[.int .i64 0, .int .i64 0, .int .i64 0], .int .i64 2]) ∧ Below w.heap.size w w' := by
  obtain ⟨W, gW⟩ : ∃ W, W = w.alloc (Obj.cells #[.int .i64 0, .int .i64 0, .int .i64 0] 87) := ⟨_, rfl⟩
  have hB : Below w.heap.size w W := by rw [gW]; exact one_new _ _
  have hN : W.heap[w.heap.size]? = some (.cells #[.int .i64 0, .int .i64 0, .int .i64 0] 87 (0, 0)) := by rw [gW]; exact heap_alloc_new _ _
  have k1 := hid (node_no p S W (H.grow hB) n h)
  have HB := hid hB
  have HN := hid hN
  clear H h hB hN
  go_enter Tryz.func83, Tryz.ntmps83
  go_wp2_with fail
  rw [← gW]
  refine k1.out.mono ?_
  rintro e w2 ⟨rfl, rfl⟩
  have h2 := HN.out
  have r0 : w2.cell? ⟨w.heap.size, 0, none⟩ = some (.int .i64 0) := by rw [cell_of_row w2 _ 0 _ _ _ h2]; rfl
  have r1 : w2.cell? ⟨w.heap.size, 1, none⟩ = some (.int .i64 0) := by rw [cell_of_row w2 _ 1 _ _ _ h2]; rfl
  have r2 : w2.cell? ⟨w.heap.size, 2, none⟩ = some (.int .i64 0) := by rw [cell_of_row w2 _ 2 _ _ _ h2]; rfl
  have f0 : ∀ j, w2.frozen? ⟨w.heap.size, j, none⟩ = false := fun j => by simp [World.frozen?, h2]
  have f1 := f0 0
  have f2 := f0 1
  have f3 := f0 2
  clear k1 h2 f0 gW
  go_wp2_with (refine wpList_build_is rfl 87 #[] rfl _ (by simpa [Act.eval] using builtInfo0) ?_)
  have q3 : (((w2.setCell ⟨w.heap.size, 0, none⟩ (.int .i64 0)).setCell ⟨w.heap.size, 1, none⟩ (.int .i64 0)).setCell ⟨w.heap.size, 2, none⟩ (.int .i64 0)).heap[w.heap.size]? = some (.cells (List.toArray [.int .i64 0, .int .i64 0, .int .i64 0]) 87 (0, 0)) := by
    have g1 := heap_setCell_same w2 w.heap.size 0 _ _ (.int .i64 0) HN.out
    have g2 := heap_setCell_same _ w.heap.size 1 _ _ (.int .i64 0) g1
    have g3 := heap_setCell_same _ w.heap.size 2 _ _ (.int .i64 0) g2
    exact g3
  refine bodyPost_ret (cell_result2 rfl _ _ w.heap.size 0 rfl [.int .i64 0, .int .i64 0, .int .i64 0] _ (rangeAt_block q3) Tryz.underlying87 rfl csizeInfo) rfl ?_
  exact ⟨rfl, ((HB.out.setCell (Nat.le_refl _) _).setCell (Nat.le_refl _) _).setCell (Nat.le_refl _) _⟩

theorem pstat (p : Nat) (F : Fs) (G : Nat → Prop) (w : World) (H : Pf w p F G) (hF : FOk F) (n : Int) :
    Calls Tryz.prog 83 #[.pointer (some ⟨p, 0, none⟩), .int .i64 n] w fun e w' => e = .returned (.tuple #[.agg #[.int .i64 (F.stat n).1, .int .i64 (F.stat n).2.1, .int .i64 (F.stat n).2.2.1], .int .i64 (F.stat n).2.2.2]) ∧ PfTo w p F G w' := by
  have HP := H
  obtain ⟨S, HS, R, hG⟩ := H
  by_cases ht : F.there n = false
  · have e : F.stat n = (0, 0, 0, 2) := by unfold Fs.stat; rw [if_pos ht]
    rw [e]
    refine (stat_no p S w HS n (there_no R ht)).mono ?_
    rintro e w' ⟨rfl, h⟩
    exact ⟨rfl, PfTo.same HP h⟩
  · obtain ⟨i, rfl, h1, h2, hk⟩ := there_yes (by simpa using ht : F.there n = true)
    have e : F.stat (i : Int) = ((F.P i).k, (F.P i).l, (F.size i : Int), 0) := by unfold Fs.stat; rw [if_neg ht]; rfl
    rw [e]
    have r := R.P i h2
    refine (stat_any p S w i h1 h2 HS (by rw [r.k]; exact hk) (F.size i) ?_).mono ?_
    · rw [r.k, R.L i h2, r.s]
      unfold Fs.size
      by_cases q : (F.P i).k = 2
      · rw [if_pos q, (hF.dir i q).1]; simp
      · rw [if_neg q, hF.file i q]; simp
    · rintro e w' ⟨rfl, h⟩
      rw [r.k, r.l]
      exact ⟨rfl, PfTo.same HP h⟩

end Go.Proofs.YtoknhcjneliboaaGreat

/- The document's Stat. -/
namespace Go.Proofs.YtoknhcjneliboaaGreat
open Go.RowKit
set_option linter.unusedVariables false
set_option maxRecDepth 20000

set_option maxHeartbeats 2000000 in
theorem rstat_no (x g u : Nat) (V : Nat → Value) (F : Fs) (w : World) (H : Rf w x g u V F) (n : Int) (ht : F.there n = false) :
    Calls Tryz.prog 58 #[.pointer (some ⟨x, 0, none⟩), .int .i64 n] w fun e w' => e = .returned (.tuple #[.agg #[.int .i64 0, .int .i64 0, .int .i64 0], .int .i64 2]) ∧ Below w.heap.size w w' := by
  obtain ⟨W, gW⟩ : ∃ W, W = w.alloc (Obj.cells #[.int .i64 0, .int .i64 0, .int .i64 0] 87) := ⟨_, rfl⟩
  have hB : Below w.heap.size w W := by rw [gW]; exact one_new _ _
  have hN : W.heap[w.heap.size]? = some (.cells #[.int .i64 0, .int .i64 0, .int .i64 0] 87 (0, 0)) := by rw [gW]; exact heap_alloc_new _ _
  have k1 := hid (rthere_any x g u V F W (H.grow hB) n)
  have HB := hid hB
  have HN := hid hN
  rw [ht] at k1
  clear H ht hB hN
  go_enter Tryz.func58, Tryz.ntmps58
  go_wp2_with fail
  rw [← gW]
  refine k1.out.mono ?_
  rintro e w2 ⟨rfl, rfl⟩
  have h2 := HN.out
  have r0 : w2.cell? ⟨w.heap.size, 0, none⟩ = some (.int .i64 0) := by rw [cell_of_row w2 _ 0 _ _ _ h2]; rfl
  have r1 : w2.cell? ⟨w.heap.size, 1, none⟩ = some (.int .i64 0) := by rw [cell_of_row w2 _ 1 _ _ _ h2]; rfl
  have r2 : w2.cell? ⟨w.heap.size, 2, none⟩ = some (.int .i64 0) := by rw [cell_of_row w2 _ 2 _ _ _ h2]; rfl
  have f0 : ∀ j, w2.frozen? ⟨w.heap.size, j, none⟩ = false := fun j => by simp [World.frozen?, h2]
  have f1 := f0 0
  have f2 := f0 1
  have f3 := f0 2
  clear k1 h2 f0 gW
  go_wp2_with (refine wpList_build_is rfl 87 #[] rfl _ (by simpa [Act.eval] using builtInfo0) ?_)
  have q3 : (((w2.setCell ⟨w.heap.size, 0, none⟩ (.int .i64 0)).setCell ⟨w.heap.size, 1, none⟩ (.int .i64 0)).setCell ⟨w.heap.size, 2, none⟩ (.int .i64 0)).heap[w.heap.size]? = some (.cells (List.toArray [.int .i64 0, .int .i64 0, .int .i64 0]) 87 (0, 0)) := by
    have g1 := heap_setCell_same w2 w.heap.size 0 _ _ (.int .i64 0) HN.out
    have g2 := heap_setCell_same _ w.heap.size 1 _ _ (.int .i64 0) g1
    have g3 := heap_setCell_same _ w.heap.size 2 _ _ (.int .i64 0) g2
    exact g3
  refine bodyPost_ret (cell_result2 rfl _ _ w.heap.size 0 rfl [.int .i64 0, .int .i64 0, .int .i64 0] _ (rangeAt_block q3) Tryz.underlying87 rfl csizeInfo) rfl ?_
  exact ⟨rfl, ((HB.out.setCell (Nat.le_refl _) _).setCell (Nat.le_refl _) _).setCell (Nat.le_refl _) _⟩

set_option maxHeartbeats 2000000 in
theorem rstat_yes (x g u : Nat) (V : Nat → Value) (F : Fs) (w : World) (H : Rf w x g u V F) (hF : FOk F) (n : Nat) (hn : n < 17) (ht : F.there n = true) :
    Calls Tryz.prog 58 #[.pointer (some ⟨x, 0, none⟩), .int .i64 (n : Int)] w fun e w' => e = .returned (.tuple #[.agg #[.int .i64 (F.P n).k, .int .i64 (F.P n).l, .int .i64 (F.size n : Int)], .int .i64 0]) ∧ Below w.heap.size w w' := by
  obtain ⟨W, gW⟩ : ∃ W, W = w.alloc (Obj.cells #[.int .i64 0, .int .i64 0, .int .i64 0] 87) := ⟨_, rfl⟩
  have hB : Below w.heap.size w W := by rw [gW]; exact one_new _ _
  have hN : W.heap[w.heap.size]? = some (.cells #[.int .i64 0, .int .i64 0, .int .i64 0] 87 (0, 0)) := by rw [gW]; exact heap_alloc_new _ _
  have k1 := hid (rthere_any x g u V F W (H.grow hB) n)
  have HB := hid hB
  have HN := hid hN
  rw [ht] at k1
  have h3 := H.grow hB
  have c0 := h3.c0
  have c1 := h3.k n hn
  have c2 := h3.l n hn
  have c3 := h3.h n hn
  have c4 := h3.b n hn
  have c5 := h3.B n hn
  have c6 := h3.q n hn
  obtain ⟨a1, b1, e1, p1, m1, _⟩ := own_shp (H.rb n hn)
  obtain ⟨a2, b2, e2, p2, m2, _⟩ := own_shp (H.rB n hn)
  obtain ⟨a3, b3, e3, p3, m3, _⟩ := own_shp (H.rQ n hn)
  rw [e1] at c4
  rw [e2] at c5
  rw [e3] at c6
  have hq6 := hF.len n
  have hc6 := (hF.c n).1
  have hsz : (F.size n : Int) = ((F.P n).c.length : Int) + ((F.P n).Q.length : Int) := by unfold Fs.size; omega
  rw [hsz]
  have n0 : (0 : Int) ≤ (n : Int) := by omega
  have n1 : (n : Int) < 17 := by omega
  generalize (F.P n).k = k at c1 ⊢
  generalize (F.P n).l = l at c2 ⊢
  generalize (F.P n).h = h at c3
  generalize (F.P n).c.length = lc at c4 p1 hc6 ⊢
  generalize (F.P n).B.length = lb at c5 p2
  generalize (F.P n).Q.length = lq at c6 p3 hq6 ⊢
  have hwr : IntKind.i64.wrap ((lc : Int) + (lq : Int)) = (lc : Int) + (lq : Int) := by rw [IntKind.wrap_i64]; omega
  clear H ht hB hN h3 hF e1 e2 e3 hsz
  go_enter Tryz.func58, Tryz.ntmps58
  go_wp2_with fail
  rw [← gW]
  refine k1.out.mono ?_
  rintro e w2 ⟨rfl, rfl⟩
  have hlt : w.heap.size < w2.heap.size := (Array.getElem?_eq_some_iff.1 HN.out).1
  have h2 : (w2.alloc (Obj.cells #[.int .i64 k, .int .i64 l, .int .i64 h, .slice a1 lc b1, .slice a2 lb b2, .slice a3 lq b3] 117)).heap[w.heap.size]? = some (.cells #[.int .i64 0, .int .i64 0, .int .i64 0] 87 (0, 0)) := (((Below.refl w2.heap.size w2).alloc (Nat.le_refl _) _).block _ hlt).trans HN.out
  have r0 : (w2.alloc (Obj.cells #[.int .i64 k, .int .i64 l, .int .i64 h, .slice a1 lc b1, .slice a2 lb b2, .slice a3 lq b3] 117)).cell? ⟨w.heap.size, 0, none⟩ = some (.int .i64 0) := by rw [cell_of_row _ _ 0 _ _ _ h2]; rfl
  have r1 : (w2.alloc (Obj.cells #[.int .i64 k, .int .i64 l, .int .i64 h, .slice a1 lc b1, .slice a2 lb b2, .slice a3 lq b3] 117)).cell? ⟨w.heap.size, 1, none⟩ = some (.int .i64 0) := by rw [cell_of_row _ _ 1 _ _ _ h2]; rfl
  have r2 : (w2.alloc (Obj.cells #[.int .i64 k, .int .i64 l, .int .i64 h, .slice a1 lc b1, .slice a2 lb b2, .slice a3 lq b3] 117)).cell? ⟨w.heap.size, 2, none⟩ = some (.int .i64 0) := by rw [cell_of_row _ _ 2 _ _ _ h2]; rfl
  have f0 : ∀ j, (w2.alloc (Obj.cells #[.int .i64 k, .int .i64 l, .int .i64 h, .slice a1 lc b1, .slice a2 lb b2, .slice a3 lq b3] 117)).frozen? ⟨w.heap.size, j, none⟩ = false := fun j => by simp [World.frozen?, h2]
  have f1 := f0 0
  have f2 := f0 1
  have f3 := f0 2
  have H2 := hid h2
  have HBX : Hid (Below w.heap.size w (w2.alloc (Obj.cells #[.int .i64 k, .int .i64 l, .int .i64 h, .slice a1 lc b1, .slice a2 lb b2, .slice a3 lq b3] 117))) := hid (HB.out.alloc HB.out.size _)
  clear k1 h2 f0 gW hlt
  go_wp2_with fail
  have q3 : ((((w2.alloc (Obj.cells #[.int .i64 k, .int .i64 l, .int .i64 h, .slice a1 lc b1, .slice a2 lb b2, .slice a3 lq b3] 117)).setCell ⟨w.heap.size, 0, none⟩ (.int .i64 k)).setCell ⟨w.heap.size, 1, none⟩ (.int .i64 l)).setCell ⟨w.heap.size, 2, none⟩ (.int .i64 ((lc : Int) + (lq : Int)))).heap[w.heap.size]? = some (.cells (List.toArray [.int .i64 k, .int .i64 l, .int .i64 ((lc : Int) + (lq : Int))]) 87 (0, 0)) := by
    have g1 := heap_setCell_same (w2.alloc (Obj.cells #[.int .i64 k, .int .i64 l, .int .i64 h, .slice a1 lc b1, .slice a2 lb b2, .slice a3 lq b3] 117)) w.heap.size 0 _ _ (.int .i64 k) H2.out
    have g2 := heap_setCell_same _ w.heap.size 1 _ _ (.int .i64 l) g1
    have g3 := heap_setCell_same _ w.heap.size 2 _ _ (.int .i64 ((lc : Int) + (lq : Int))) g2
    exact g3
  refine bodyPost_ret (cell_result2 rfl _ _ w.heap.size 0 rfl [.int .i64 k, .int .i64 l, .int .i64 ((lc : Int) + (lq : Int))] _ (rangeAt_block q3) Tryz.underlying87 rfl csizeInfo) rfl ?_
  exact ⟨rfl, ((HBX.out.setCell (Nat.le_refl _) _).setCell (Nat.le_refl _) _).setCell (Nat.le_refl _) _⟩

theorem rstat_any (x g u : Nat) (V : Nat → Value) (F : Fs) (w : World) (H : Rf w x g u V F) (hF : FOk F) (n : Int) :
    Calls Tryz.prog 58 #[.pointer (some ⟨x, 0, none⟩), .int .i64 n] w fun e w' => e = .returned (.tuple #[.agg #[.int .i64 (F.stat n).1, .int .i64 (F.stat n).2.1, .int .i64 (F.stat n).2.2.1], .int .i64 (F.stat n).2.2.2]) ∧ Below w.heap.size w w' := by
  by_cases ht : F.there n = false
  · rw [show F.stat n = (0, 0, 0, 2) from if_pos ht]
    exact rstat_no x g u V F w H n ht
  · have ht2 : F.there n = true := by simpa using ht
    obtain ⟨i, rfl, i1, i2, i3⟩ := there_is ht2
    rw [show F.stat (i : Int) = ((F.P i).k, (F.P i).l, (F.size i : Int), 0) from if_neg ht]
    exact rstat_yes x g u V F w H hF i i2 ht2

end Go.Proofs.YtoknhcjneliboaaGreat

/- What take does to any system: the lowest free blocks. -/
namespace Go.Proofs.YtoknhcjneliboaaGreat
open Go.RowKit Go.ChangeMaps Go.MapKept
set_option linter.unusedVariables false
set_option maxRecDepth 20000

/-- The free blocks, rising; marks with some of them taken. -/
def frL (T : Nat → Bool) : List Nat := (List.range' 1 24).filter (fun b => !T b)
def mkT (T : Nat → Bool) (L : List Nat) : Nat → Bool := fun b => if b ∈ L then true else T b
theorem mem_frL {T : Nat → Bool} {b : Nat} : b ∈ frL T ↔ 1 ≤ b ∧ b < 25 ∧ T b = false := by
  unfold frL
  rw [List.mem_filter, List.mem_range'_1]
  cases T b <;> simp <;> omega
theorem frL_lt (T : Nat → Bool) : (frL T).Pairwise (· < ·) := List.Pairwise.sublist List.filter_sublist List.pairwise_lt_range'
theorem frL_get {T : Nat → Bool} {k : Nat} (hk : k < (frL T).length) : (frL T).getD k 0 ∈ frL T ∧ (frL T).getD k 0 ∉ (frL T).take k ∧ (∀ x ∈ frL T, x < (frL T).getD k 0 → x ∈ (frL T).take k) := by
  have hs := frL_lt T
  have e : (frL T).getD k 0 = (frL T)[k] := by rw [List.getD_eq_getElem?_getD, List.getElem?_eq_getElem hk]; rfl
  rw [e]
  have sp : frL T = (frL T).take k ++ (frL T)[k] :: (frL T).drop (k + 1) := by rw [List.getElem_cons_drop, List.take_append_drop]
  refine ⟨List.getElem_mem _, fun h => ?_, fun x hx hlt => ?_⟩
  · rw [sp] at hs
    have := (List.pairwise_append.1 hs).2.2 _ h _ (List.mem_cons_self)
    omega
  · rw [sp] at hx
    rcases List.mem_append.1 hx with h | h
    · exact h
    · rw [sp] at hs
      have := (List.pairwise_append.1 hs).2.1
      rcases List.mem_cons.1 h with h | h
      · omega
      · have := (List.pairwise_cons.1 this).1 x h
        omega
theorem frL_take {T : Nat → Bool} {k : Nat} (hk : k < (frL T).length) : (frL T).take (k + 1) = (frL T).take k ++ [(frL T).getD k 0] := by
  rw [List.take_succ_eq_append_getElem hk, List.getD_eq_getElem?_getD, List.getElem?_eq_getElem hk]
  rfl
/-- The lowest block that is not marked is the next free one. -/
theorem frL_next {T : Nat → Bool} {k b : Nat} (hk : k < (frL T).length) (h1 : 1 ≤ b) (h2 : b < 25) (hb : mkT T ((frL T).take k) b = false) (hc : ∀ c, 1 ≤ c → c < b → mkT T ((frL T).take k) c = true) : b = (frL T).getD k 0 := by
  obtain ⟨g1, g2, g3⟩ := frL_get hk
  obtain ⟨m1, m2, m3⟩ := mem_frL.1 g1
  have hb' : b ∉ (frL T).take k ∧ T b = false := by
    unfold mkT at hb
    split at hb
    · simp at hb
    · rename_i q; exact ⟨q, hb⟩
  rcases Nat.lt_trichotomy b ((frL T).getD k 0) with q | q | q
  · exact absurd (g3 b (mem_frL.2 ⟨h1, h2, hb'.2⟩) q) hb'.1
  · exact q
  · have := hc _ m1 q
    unfold mkT at this
    rw [if_neg g2, m3] at this
    simp at this
theorem mkT_succ {T : Nat → Bool} {k : Nat} (hk : k < (frL T).length) : updT (mkT T ((frL T).take k)) ((frL T).getD k 0) true = mkT T ((frL T).take (k + 1)) := by
  funext x
  rw [frL_take hk]
  by_cases e : x = (frL T).getD k 0
  · rw [e, updT_same]
    unfold mkT
    rw [if_pos (by simp)]
  · rw [updT_ne _ _ _ _ e]
    unfold mkT
    by_cases q : x ∈ (frL T).take k
    · rw [if_pos q, if_pos (List.mem_append.2 (.inl q))]
    · rw [if_neg q, if_neg (fun h => (List.mem_append.1 h).elim q (fun h => e (List.mem_singleton.1 h)))]

/-- What take has done behind k places. -/
structure Tkn (w wr : World) (p i : Nat) (S : Sg) (q k : Nat) (B' : List Int) : Prop where
  sy : Sy wr p (S.bl i { S.P i with B := B' } (mkT S.T ((frL S.T).take k)))
  new : ∀ j, j < k → B'.getD (q + j) 0 = (((frL S.T).getD j 0 : Nat) : Int)
  old : ∀ j, j < q ∨ q + k ≤ j → B'.getD j 0 = (S.P i).B.getD j 0
  upd : Upd (· = p) w wr

set_option maxHeartbeats 4000000 in
theorem take_gen (p : Nat) (S : Sg) (w : World) (H : Sy w p S) (i : Nat) (hi : i < 17) (q n c o : Nat) (ho : 0 < n → o = 1 + i * 107 + (100 + q)) (hq : q + n ≤ 6) (hn : n ≤ c) (hc : c ≤ 6) (hfr : n ≤ (frL S.T).length) :
    Calls Tryz.prog 142 #[.pointer (some ⟨p, 0, none⟩), .slice (some ⟨p, o, none⟩) n c] w fun e w' => e = .returned (.tuple #[]) ∧ ∃ B', Tkn w w' p i S q n B' := by
  have H0 : Hid (∃ B', Tkn w w p i S q 0 B') := by
    have e : S.bl i { S.P i with B := (S.P i).B } (mkT S.T ((frL S.T).take 0)) = S := by
      have : mkT S.T ((frL S.T).take 0) = S.T := by funext x; simp [mkT]
      rw [this]
      exact S.bl_self i
    exact hid ⟨(S.P i).B, by rw [e]; exact H, fun j hj => by omega, fun _ _ => rfl, Upd.refl _ _⟩
  have HOO := hid ho
  have HFR := hid hfr
  clear H ho hfr
  go_enter Tryz.func142, Tryz.ntmps142
  go_wp2_with fail
  go_loopw [4, 8] (fun v4 v8 wr => ∃ b k : Nat, 1 ≤ b ∧ b < 25 ∧ k ≤ n ∧ v4 = .int .i64 (b : Int) ∧ v8 = .int .i64 (k : Int) ∧ Hid ((∃ B', Tkn w wr p i S q k B') ∧ (∀ cc, 1 ≤ cc → cc < b → mkT S.T ((frL S.T).take k) cc = true))) (fun _ v8 _ => n - (intOf v8).toNat)
  case atStart => exact ⟨1, 0, by omega, by omega, by omega, rfl, rfl, hid ⟨H0.out, fun cc h1 h2 => by omega⟩⟩
  case round =>
    clear H0
    obtain ⟨b, k, hb1, hb2, hkn, rfl, rfl, HQ⟩ := hrel
    by_cases e : k = n
    · subst e
      go_wp2_with fail
      go_end0
      exact ⟨rfl, HQ.out.1⟩
    · have hk : k < n := by omega
      have hk2 : (k : Int) < (n : Int) := by omega
      obtain ⟨B', ht⟩ := HQ.out.1
      have HT := hid ht
      have HF := hid HQ.out.2
      have HKL : Hid (k < (frL S.T).length) := hid (by have := HFR.out; omega)
      clear HQ ht e
      go_wp2_with fail
      rename World => wo
      go_loopw [4] (fun v4 wr => ∃ b : Nat, 1 ≤ b ∧ b < 25 ∧ v4 = .int .i64 (b : Int) ∧ wr = wo ∧ Hid (∀ cc, 1 ≤ cc → cc < b → mkT S.T ((frL S.T).take k) cc = true)) (fun v4 _ => 25 - (intOf v4).toNat)
      case atStart => exact ⟨b, hb1, hb2, rfl, rfl, HF⟩
      case round =>
        clear HF hb1 hb2
        obtain ⟨b, hb1, hb2, rfl, rfl, HF⟩ := hrel
        have c0 : (0 : Int) ≤ (b : Int) := by omega
        have c1 : (b : Int) < 25 := by omega
        have hl := HT.out.sy.t b hb2
        change wr.cell? ⟨p, 1820 + b, none⟩ = some (.bool (mkT S.T ((frL S.T).take k) b)) at hl
        cases ht : mkT S.T ((frL S.T).take k) b with
        | true =>
          rw [ht] at hl
          have hb3 : b + 1 < 25 := by
            obtain ⟨g1, g2, g3⟩ := frL_get HKL.out
            obtain ⟨m1, m2, m3⟩ := mem_frL.1 g1
            rcases Nat.lt_or_ge (b + 1) 25 with h | h
            · exact h
            · have hx : mkT S.T ((frL S.T).take k) ((frL S.T).getD k 0) = true := by
                by_cases e : (frL S.T).getD k 0 = b
                · rw [e]; exact ht
                · exact HF.out _ m1 (by omega)
              unfold mkT at hx
              rw [if_neg g2, m3] at hx
              simp at hx
          have HF2 : Hid (∀ cc, 1 ≤ cc → cc < b + 1 → mkT S.T ((frL S.T).take k) cc = true) := hid (fun cc q1 q2 => by
            by_cases e : cc = b
            · subst e; exact ht
            · exact HF.out cc q1 (by omega))
          clear ht HF
          go_wp2_with fail
          go_roundw
          case rel => exact ⟨b + 1, by omega, hb3, by go_num, by first | rfl | trivial, HF2⟩
          case measure => simp [intOf]; omega
        | false =>
          rw [ht] at hl
          have hbe := frL_next HKL.out hb1 hb2 ht HF.out
          have f1 := HT.out.sy.fz (1820 + b)
          have hadr : 1 + i * 107 + (100 + (q + k)) = o + k := by have := HOO.out (by omega); omega
          have hS3 := HT.out.sy.mark b hb2 true
          have hb4 := hS3.B i hi (q + k) (by omega)
          rw [hadr] at hb4
          have f2 := hS3.fz (o + k)
          have hS4 := hS3.blkTo i hi (q + k) (by omega) (b : Int)
          rw [hadr] at hS4
          have HU4 : Hid (Upd (· = p) w ((wr.setCell ⟨p, 1820 + b, none⟩ (.bool true)).setCell ⟨p, o + k, none⟩ (.int .i64 (b : Int)))) := by
            have u1 : Upd (· = p) wr (wr.setCell ⟨p, 1820 + b, none⟩ (.bool true)) := Upd.setCell (F := (· = p)) wr ⟨p, _, none⟩ _ rfl
            have u2 : Upd (· = p) (wr.setCell ⟨p, 1820 + b, none⟩ (.bool true)) ((wr.setCell ⟨p, 1820 + b, none⟩ (.bool true)).setCell ⟨p, o + k, none⟩ (.int .i64 (b : Int))) := Upd.setCell (F := (· = p)) _ ⟨p, _, none⟩ _ rfl
            exact hid ((HT.out.upd.trans u1 (fun _ _ h => h)).trans u2 (fun _ _ h => h))
          have hBl : B'.length = 6 := by
            have := (HT.out.sy.ok i hi).B
            rw [show (S.bl i { S.P i with B := B' } (mkT S.T ((frL S.T).take k))).P i = { S.P i with B := B' } from updN_same _ _ _] at this
            exact this
          have HQ4 : Hid ((∃ B', Tkn w ((wr.setCell ⟨p, 1820 + b, none⟩ (.bool true)).setCell ⟨p, o + k, none⟩ (.int .i64 (b : Int))) p i S q (k + 1) B') ∧ (∀ cc, 1 ≤ cc → cc < b → mkT S.T ((frL S.T).take (k + 1)) cc = true)) := by
            refine hid ⟨⟨B'.set (q + k) (b : Int), ?_, fun j hj => ?_, fun j hj => ?_, HU4.out⟩, fun cc q1 q2 => ?_⟩
            · have e1 : (({ (S.bl i { S.P i with B := B' } (mkT S.T ((frL S.T).take k))) with T := updT (mkT S.T ((frL S.T).take k)) b true } : Sg).at_ i ((({ (S.bl i { S.P i with B := B' } (mkT S.T ((frL S.T).take k))) with T := updT (mkT S.T ((frL S.T).take k)) b true } : Sg).P i).blk (q + k) (b : Int))) = S.bl i { S.P i with B := B'.set (q + k) (b : Int) } (mkT S.T ((frL S.T).take (k + 1))) := by
                show ({ S with P := updN (updN S.P i { S.P i with B := B' }) i (Nd.blk (updN S.P i { S.P i with B := B' } i) (q + k) (b : Int)), T := updT (mkT S.T ((frL S.T).take k)) b true } : Sg) = _
                rw [updN_same, hbe, mkT_succ HKL.out]
                unfold Sg.bl Nd.blk
                congr 1
                funext j
                by_cases e : j = i <;> simp [updN, e]
              rw [← e1]
              exact hS4
            · by_cases e : j = k
              · subst e; rw [getD_set_same _ _ _ (by omega), hbe]
              · rw [getD_set_ne _ _ _ _ (by omega)]; exact HT.out.new j (by omega)
            · rw [getD_set_ne _ _ _ _ (by omega)]; exact HT.out.old j (by omega)
            · have := HF.out cc q1 q2
              rw [frL_take HKL.out]
              unfold mkT at this ⊢
              split
              · rfl
              · rename_i hh
                split at this
                · rename_i hx; exact absurd (List.mem_append.2 (.inl hx)) hh
                · exact this
          have ck : (0 : Int) ≤ (k : Int) := by omega
          have h7 := HT.out.sy.B i hi (q + k) (by omega)
          rw [hadr] at h7
          have f7 := HT.out.sy.fz (o + k)
          have n1 : ¬ 1820 + b = o + k := by have := HOO.out (by omega); omega
          have n2 : ¬ o + k = 1820 + b := by have := HOO.out (by omega); omega
          clear ht HF hS3 hS4 HU4 hadr HT hbe hBl
          go_wp2_with fail
          go_roundw
          case rel => exact ⟨b, k + 1, hb1, hb2, by omega, rfl, by go_num, HQ4⟩
          case measure => simp [intOf]; omega

end Go.Proofs.YtoknhcjneliboaaGreat

/- What grow does to any system. -/
namespace Go.Proofs.YtoknhcjneliboaaGreat
open Go.RowKit Go.ChangeMaps Go.MapKept
set_option linter.unusedVariables false
set_option maxRecDepth 20000

theorem range1_succ (n : Nat) : List.range' 1 (n + 1) = List.range' 1 n ++ [n + 1] := by
  rw [List.range'_concat]; simp; omega
theorem cnt_frL (T : Nat → Bool) (h0 : T 0 = false) : ∀ n, cnt T (n + 1) + ((List.range' 1 n).filter (fun b => !T b)).length = n
  | 0 => by simp [cnt, h0]
  | n + 1 => by
    have h := cnt_frL T h0 n
    have e : cnt T (n + 1 + 1) = cnt T (n + 1) + if T (n + 1) then 1 else 0 := rfl
    have e2 : ((List.range' 1 (n + 1)).filter (fun b => !T b)).length = ((List.range' 1 n).filter (fun b => !T b)).length + if T (n + 1) then 0 else 1 := by
      rw [range1_succ, List.filter_append, List.length_append]
      cases q : T (n + 1) <;> simp [q]
    rw [e, e2]
    cases q : T (n + 1)
    · rw [if_neg (by simp), if_neg (by simp)]; omega
    · rw [if_pos rfl, if_pos rfl]; omega
theorem free_len (T : Nat → Bool) (h0 : T 0 = false) : 24 - cnt T 25 = (frL T).length ∧ cnt T 25 ≤ 24 := by
  have := cnt_frL T h0 24
  rw [show 24 + 1 = 25 from rfl] at this
  unfold frL
  exact ⟨by omega, by omega⟩

set_option maxHeartbeats 4000000 in
theorem grow_gen (p : Nat) (S : Sg) (w : World) (H : Sy w p S) (hT0 : S.T 0 = false) (i : Nat) (hi : i < 17) (size : Nat) (hs : (S.P i).s < size) (hz : size ≤ 96) :
    Calls Tryz.prog 118 #[.pointer (some ⟨p, 0, none⟩), .pointer (some ⟨p, 1 + i * 107, none⟩), .int .i64 (size : Int)] w fun e w' =>
      (¬ need size - need (S.P i).s ≤ (frL S.T).length ∧ e = .returned (.int .i64 28) ∧ Below w.heap.size w w') ∨
      (need size - need (S.P i).s ≤ (frL S.T).length ∧ e = .returned (.int .i64 0) ∧ ∃ B', Sy w' p (S.bl i { S.P i with B := B', s := size } (mkT S.T ((frL S.T).take (need size - need (S.P i).s)))) ∧
        (∀ j, j < need size - need (S.P i).s → B'.getD (need (S.P i).s + j) 0 = (((frL S.T).getD j 0 : Nat) : Int)) ∧ (∀ j, j < need (S.P i).s → B'.getD j 0 = (S.P i).B.getD j 0) ∧ Upd (· = p) w w') := by
  have c3 := H.s i hi
  obtain ⟨q0, g0⟩ : ∃ q0, q0 = need (S.P i).s := ⟨_, rfl⟩
  obtain ⟨q1, g1⟩ : ∃ q1, q1 = need size := ⟨_, rfl⟩
  have h01 : q0 ≤ q1 := by rw [g0, g1]; exact need_mono (by omega)
  have h16 : q1 ≤ 6 := by rw [g1]; exact need_le hz
  rw [← g1, ← g0]
  obtain ⟨s0, gs⟩ : ∃ s0, s0 = (S.P i).s := ⟨_, rfl⟩
  rw [← gs] at c3 hs
  have K0 : Hid (∀ W, Calls Tryz.prog 140 #[.int .i64 (s0 : Int)] W fun e w' => e = .returned (.int .i64 (q0 : Int)) ∧ w' = W) := by
    refine hid (fun W => ?_)
    have := needed_any s0 (by omega) W
    rw [show (s0 + 15) / 16 = q0 by rw [g0, gs]; rfl] at this
    exact this
  have K1 : Hid (∀ W, Calls Tryz.prog 140 #[.int .i64 (size : Int)] W fun e w' => e = .returned (.int .i64 (q1 : Int)) ∧ w' = W) := by
    refine hid (fun W => ?_)
    have := needed_any size (by omega) W
    rw [show (size + 15) / 16 = q1 by rw [g1]; rfl] at this
    exact this
  have a1 : ¬ (size : Int) ≤ (s0 : Int) := by omega
  have a2 : (0 : Int) ≤ (q0 : Int) := by omega
  have a3 : (q0 : Int) ≤ (q1 : Int) := by omega
  have a4 : (q1 : Int) ≤ 6 := by omega
  have HH := hid H
  obtain ⟨L, gL⟩ : ∃ L, L = frL S.T := ⟨_, rfl⟩
  have hfl := free_len S.T hT0
  have HFL : Hid (24 - cnt S.T 25 = L.length ∧ cnt S.T 25 ≤ 24) := by rw [gL]; exact hid hfl
  rw [← gL]
  have GL := hid gL
  clear H g0 g1 gs gL hfl hT0
  go_enter Tryz.func118, Tryz.ntmps118
  go_wp2_with fail
  go_quiet ((go_at_call 140; first | refine Calls.quiet_of_same (K0.out _) | refine Calls.quiet_of_same (K1.out _)))
  obtain ⟨o, go⟩ : ∃ o, o = if 6 = q0 then 1 + i * 107 + 100 else 1 + i * 107 + 100 + q0 := ⟨_, rfl⟩
  have hA : (if 6 = q0 then (⟨p, 1 + i * 107 + 100, none⟩ : Addr) else ⟨p, 1 + i * 107 + 100 + q0, none⟩) = ⟨p, o, none⟩ := by
    rw [go]; split <;> rfl
  have ho : 0 < q1 - q0 → o = 1 + i * 107 + (100 + q0) := fun h => by
    rw [go, if_neg (by omega)]; omega
  rw [hA]
  have HO := hid ho
  clear hA go ho K0 K1
  obtain ⟨W1, g1⟩ : ∃ W1, W1 = w.drewN nq := ⟨_, rfl⟩
  rw [← g1]
  have hS1 : Sy W1 p S := HH.out.hp (by rw [g1]; rfl)
  have HU1 : Hid (Below w.heap.size w W1) := by rw [g1]; exact hid (((Upd.refl (fun _ => False) w).drewN nq).below (Nat.le_refl _) (fun x h => h.elim))
  have k1 := hid (free_any p S W1 hS1 HFL.out.2)
  rw [HFL.out.1] at k1
  have HS1 := hid hS1
  clear hS1 g1
  by_cases hfit : q1 - q0 ≤ L.length
  · have a5 : ¬ ((L.length : Nat) : Int) < ((q1 - q0 : Nat) : Int) := by omega
    have k2 : Hid (∀ W, Below W1.heap.size W1 W → Calls Tryz.prog 142 #[.pointer (some ⟨p, 0, none⟩), .slice (some ⟨p, o, none⟩) (q1 - q0) (6 - q0)] W fun e w' => e = .returned (.tuple #[]) ∧ Hid (∃ B', Tkn W w' p i S q0 (q1 - q0) B')) := by
      refine hid (fun W hW => ?_)
      refine (take_gen p S W (HS1.out.grow hW) i hi q0 (q1 - q0) (6 - q0) o HO.out (by omega) (by omega) (by omega) (by rw [← GL.out]; exact hfit)).mono ?_
      rintro e w' ⟨rfl, h⟩
      exact ⟨rfl, hid h⟩
    go_wp2_with fail
    refine k1.out.mono ?_
    rintro e w2 ⟨rfl, hb2⟩
    have k3 := hid (k2.out w2 hb2)
    have HB2 := hid (HU1.out.trans (hb2.mono HU1.out.size))
    clear k1 k2 hb2
    go_wp2_with fail
    refine k3.out.mono ?_
    rintro e w3 ⟨rfl, H3⟩
    clear k3
    obtain ⟨B', ht⟩ := H3.out
    have h1 := ht.sy
    rw [← GL.out] at h1
    have c4 := h1.s i hi
    have f4 := h1.fz (1 + i * 107 + 3)
    have hP3 : (S.bl i { S.P i with B := B' } (mkT S.T (L.take (q1 - q0)))).P i = { S.P i with B := B' } := updN_same _ _ _
    rw [hP3] at c4
    have h5 := h1.sizeTo i hi size
    rw [hP3] at h5
    have e5 : (S.bl i { S.P i with B := B' } (mkT S.T (L.take (q1 - q0)))).at_ i (Nd.size { S.P i with B := B' } size) = S.bl i { S.P i with B := B', s := size } (mkT S.T (L.take (q1 - q0))) := by
      unfold Sg.bl Sg.at_ Nd.size
      congr 1
      funext j
      by_cases e : j = i <;> simp [updN, e]
    rw [e5] at h5
    have H5 : Hid (∃ B', Sy (w3.setCell ⟨p, 1 + i * 107 + 3, none⟩ (.int .i64 (size : Int))) p (S.bl i { S.P i with B := B', s := size } (mkT S.T (L.take (q1 - q0)))) ∧
        (∀ j, j < q1 - q0 → B'.getD (q0 + j) 0 = ((L.getD j 0 : Nat) : Int)) ∧ (∀ j, j < q0 → B'.getD j 0 = (S.P i).B.getD j 0) ∧ Upd (· = p) w (w3.setCell ⟨p, 1 + i * 107 + 3, none⟩ (.int .i64 (size : Int)))) :=
      hid ⟨B', h5, by rw [GL.out]; exact ht.new, fun j hj => ht.old j (.inl hj), ((Upd.of_below HB2.out).trans ht.upd (fun _ _ h => h)).trans (Upd.setCell (F := (· = p)) w3 ⟨p, _, none⟩ _ rfl) (fun _ _ h => h)⟩
    have c5 : w3.cell? ⟨p, 1 + i * 107 + 3, none⟩ = some (.int .i64 ((S.P i).s : Int)) := c4
    clear h1 c4 h5 e5 hP3 H3 ht
    go_wp2_with fail
    go_ret
    exact .inr ⟨hfit, rfl, H5.out⟩
  · have a5 : ((L.length : Nat) : Int) < ((q1 - q0 : Nat) : Int) := by omega
    go_wp2_with fail
    refine k1.out.mono ?_
    rintro e w2 ⟨rfl, hb2⟩
    have HB2 := hid (HU1.out.trans (hb2.mono HU1.out.size))
    clear k1 hb2
    go_wp2_with fail
    go_ret
    exact .inl ⟨hfit, rfl, HB2.out⟩

end Go.Proofs.YtoknhcjneliboaaGreat

/- What grow and Write do to any system. -/
namespace Go.Proofs.YtoknhcjneliboaaGreat
open Go.RowKit Go.ChangeMaps Go.MapKept
set_option linter.unusedVariables false
set_option maxRecDepth 20000

theorem frees_frL (F : Fs) : F.frees = frL F.T := rfl
theorem take_getD {l : List Int} {n : Nat} {r : List Int} (h : l.take n = r) (hn : n ≤ l.length) (j : Nat) (hj : j < n) : l.getD j 0 = r.getD j 0 := by
  rw [← h, getD_take _ _ _ hj]
theorem getD_append_nat (a b : List Nat) (j : Nat) : (a ++ b).getD j 0 = if j < a.length then a.getD j 0 else b.getD (j - a.length) 0 := by
  rw [List.getD_eq_getElem?_getD, List.getElem?_append]
  split
  · rw [List.getD_eq_getElem?_getD]
  · rw [List.getD_eq_getElem?_getD]
theorem getD_take_nat (a : List Nat) (n j : Nat) (h : j < n) : (a.take n).getD j 0 = a.getD j 0 := by
  rw [List.getD_eq_getElem?_getD, List.getD_eq_getElem?_getD, List.getElem?_take_of_lt h]

/-- A file that grew, with other bytes. -/
theorem Rel.grown {S : Sg} {F : Fs} (R : Rel S F) (H : FOk F) (i : Nat) (hi : i < 17) (s : Nat) (hl : (F.P i).c.length ≤ s) (B' b' : List Int) (c' : List Int) (hb : b'.take s = c') (hz : ∀ j, s ≤ j → b'.getD j 0 = 0) (hc : c'.length = s)
    (hfit : F.fits i s = true)
    (h1 : ∀ j, j < need s - need (S.P i).s → B'.getD (need (S.P i).s + j) 0 = (((frL S.T).getD j 0 : Nat) : Int)) (h2 : ∀ j, j < need (S.P i).s → B'.getD j 0 = (S.P i).B.getD j 0) :
    Rel (S.bl i { S.P i with B := B', s := s, b := b' } (mkT S.T ((frL S.T).take (need s - need (S.P i).s)))) ((F.grow i s).ct i c') := by
  rw [grow_ct]
  have r := R.P i hi
  have hB := H.B i
  have hs : (S.P i).s = (F.P i).c.length := r.s
  have hn : (F.P i).B.length = need (S.P i).s := by rw [hB, hs]; rfl
  have e1 : Fs.need s - (F.P i).B.length = need s - need (S.P i).s := by rw [hn]; rfl
  have hT : S.T = F.T := R.T
  rw [e1, frees_frL, ← hT]
  have hle : need s - need (S.P i).s ≤ (frL S.T).length := by
    simp only [Fs.fits, decide_eq_true_eq] at hfit
    rw [e1, frees_frL, ← hT] at hfit
    exact hfit
  refine ⟨R.d, rfl, fun j hj => ?_, fun j hj => ?_, fun j hj x => ?_⟩
  · show NdR (updN S.P i _ j) ((F.with_ i _ _ _).P j)
    rw [Fs.with_P]
    by_cases e : j = i
    · subst e
      rw [updN_same, if_pos rfl]
      refine ⟨r.k, r.l, r.h, hc.symm, hb, hz, fun k hk => ?_⟩
      dsimp only at hk ⊢
      rw [getD_append_nat]
      rw [List.length_append, List.length_take, hn] at hk
      rw [hn]
      split
      · rename_i q
        rw [h2 k q]; exact r.B k (by omega)
      · rename_i q
        obtain ⟨k', rfl⟩ : ∃ k', k = need (S.P j).s + k' := ⟨k - need (S.P j).s, by omega⟩
        rw [Nat.add_sub_cancel_left, getD_take_nat _ _ _ (by omega)]
        exact h1 k' (by omega)
    · rw [updN_ne _ _ _ _ e, if_neg e]
      exact R.P j hj
  · have eQ : ((F.with_ i c' ((F.P i).B ++ (frL S.T).take (need s - need (S.P i).s)) (fun b => if b ∈ (frL S.T).take (need s - need (S.P i).s) then true else S.T b)).P j).Q = (F.P j).Q := by
      rw [Fs.with_P]
      split
      · rename_i e; rw [e]
      · rfl
    rw [eQ]; exact R.L j hj
  · have eQ : ((F.with_ i c' ((F.P i).B ++ (frL S.T).take (need s - need (S.P i).s)) (fun b => if b ∈ (frL S.T).take (need s - need (S.P i).s) then true else S.T b)).P j).Q = (F.P j).Q := by
      rw [Fs.with_P]
      split
      · rename_i e; rw [e]
      · rfl
    rw [eQ]; exact R.N j hj x

/-- What grow leaves. -/
def Grw (w : World) (p i : Nat) (S : Sg) (s : Nat) (w' : World) : Prop := ∃ B', Sy w' p (S.bl i { S.P i with B := B', s := s } (mkT S.T ((frL S.T).take (need s - need (S.P i).s)))) ∧
  (∀ j, j < need s - need (S.P i).s → B'.getD (need (S.P i).s + j) 0 = (((frL S.T).getD j 0 : Nat) : Int)) ∧ (∀ j, j < need (S.P i).s → B'.getD j 0 = (S.P i).B.getD j 0) ∧ Upd (· = p) w w'
theorem grow_all (p : Nat) (S : Sg) (w : World) (H : Sy w p S) (hT0 : S.T 0 = false) (i : Nat) (hi : i < 17) (size : Nat) (hz : size ≤ 96) :
    Calls Tryz.prog 118 #[.pointer (some ⟨p, 0, none⟩), .pointer (some ⟨p, 1 + i * 107, none⟩), .int .i64 (size : Int)] w fun e w' =>
      (¬ need (max (S.P i).s size) - need (S.P i).s ≤ (frL S.T).length ∧ e = .returned (.int .i64 28) ∧ Below w.heap.size w w') ∨
      (need (max (S.P i).s size) - need (S.P i).s ≤ (frL S.T).length ∧ e = .returned (.int .i64 0) ∧ Grw w p i S (max (S.P i).s size) w') := by
  by_cases h : (S.P i).s < size
  · rw [Nat.max_eq_right (Nat.le_of_lt h)]
    exact grow_gen p S w H hT0 i hi size h hz
  · rw [Nat.max_eq_left (by omega), Nat.sub_self]
    have e := S.bl_self i
    refine (grow_same p S w i hi (S.P i) S.T (by rw [e]; exact H) size (by omega)).mono ?_
    rintro e' w' ⟨rfl, rfl⟩
    refine .inr ⟨Nat.zero_le _, rfl, (S.P i).B, ?_, fun j hj => by omega, fun _ _ => rfl, Upd.refl _ _⟩
    have : mkT S.T ((frL S.T).take (need (S.P i).s - need (S.P i).s)) = S.T := by funext x; simp [mkT]
    rw [this]
    rw [show (S.bl i { S.P i with B := (S.P i).B, s := (S.P i).s } S.T) = S from e]
    exact H

end Go.Proofs.YtoknhcjneliboaaGreat

/- What Write does to any system. -/
namespace Go.Proofs.YtoknhcjneliboaaGreat
open Go.RowKit Go.ChangeMaps Go.MapKept
set_option linter.unusedVariables false
set_option maxRecDepth 20000

theorem getD_app2 (a b : List Int) (j : Nat) : (a ++ b).getD j 0 = if j < a.length then a.getD j 0 else b.getD (j - a.length) 0 := by
  rw [List.getD_eq_getElem?_getD, List.getElem?_append]
  split
  · rw [List.getD_eq_getElem?_getD]
  · rw [List.getD_eq_getElem?_getD]
theorem getD_drop2 (a : List Int) (n j : Nat) : (a.drop n).getD j 0 = a.getD (n + j) 0 := by
  rw [List.getD_eq_getElem?_getD, List.getD_eq_getElem?_getD, List.getElem?_drop]
/-- Bytes that are laid over a row's: what the file has then. -/
theorem lay_row {b c zs : List Int} {off : Nat} (hb : b.length = 96) (hc : b.take c.length = c) (hz : ∀ j, c.length ≤ j → b.getD j 0 = 0) (hf : off + zs.length ≤ 96) (hcl : c.length ≤ 96) :
    (splice b off zs).take (max c.length (off + zs.length)) = Fs.lay c off zs ∧ ∀ j, max c.length (off + zs.length) ≤ j → (splice b off zs).getD j 0 = 0 := by
  have hsl : (splice b off zs).length = 96 := by rw [length_splice _ _ _ (by omega), hb]
  have hin : ∀ j, off ≤ j → j < off + zs.length → (splice b off zs).getD j 0 = zs.getD (j - off) 0 := fun j h1 h2 => by
    have := getD_splice_in b zs off (j - off) (by omega) (by omega)
    rwa [show off + (j - off) = j by omega] at this
  have hout : ∀ j, j < off ∨ off + zs.length ≤ j → (splice b off zs).getD j 0 = b.getD j 0 := fun j h => getD_splice_out b zs off j (by omega) h
  have hbc : ∀ j, j < c.length → b.getD j 0 = c.getD j 0 := fun j h => take_getD hc (by omega) j h
  refine ⟨ext_getD (by rw [List.length_take, hsl, lay_len]; omega) (fun j hj => ?_), fun j hj => ?_⟩
  · rw [List.length_take, hsl] at hj
    rw [getD_take _ _ _ (by omega)]
    unfold Fs.lay
    have l1 : ((c ++ List.replicate (off + zs.length - c.length) (0 : Int)).take off).length = off := by simp; omega
    rw [getD_app2, getD_app2]
    by_cases h1 : j < off
    · rw [if_pos (by rw [List.length_append, l1]; omega), if_pos (by rw [l1]; exact h1), getD_take _ _ _ h1, getD_app, hout j (.inl h1)]
      by_cases h2 : j < c.length
      · rw [if_pos h2]; exact hbc j h2
      · rw [if_neg h2]; exact hz j (by omega)
    · by_cases h2 : j < off + zs.length
      · rw [if_pos (by rw [List.length_append, l1]; omega), if_neg (by rw [l1]; exact h1), l1]
        exact hin j (by omega) h2
      · rw [if_neg (by rw [List.length_append, l1]; omega), List.length_append, l1, getD_drop2, show off + zs.length + (j - (off + zs.length)) = j by omega, hout j (.inr (by omega))]
        by_cases h3 : j < c.length
        · exact hbc j h3
        · omega
  · rw [hout j (.inr (by omega))]
    exact hz j (by omega)

set_option maxHeartbeats 4000000 in
theorem write_gen (p : Nat) (S : Sg) (w : World) (H : Sy w p S) (hT0 : S.T 0 = false) (i : Nat) (h1 : 1 ≤ i) (hi : i < 17) (hk : (S.P i).k = 1) (hs96 : (S.P i).s ≤ 96) (off len c : Nat) (a : Option Addr) (zs : List Int) (hsrc : Src w a len zs) (ha : ∀ b o, a = some ⟨b, o, none⟩ → b ≠ p) (h0 : 0 < len) (hz : off + len ≤ 96)
    (hfit : need (max (S.P i).s (off + len)) - need (S.P i).s ≤ (frL S.T).length) :
    Calls Tryz.prog 220 #[.pointer (some ⟨p, 0, none⟩), .int .i64 (i : Int), .int .i64 (off : Int), .slice a len c] w fun e w' => e = .returned (.tuple #[.int .i64 (len : Int), .int .i64 0]) ∧
      ∃ B', Sy w' p (S.bl i { S.P i with B := B', s := max (S.P i).s (off + len), b := splice (S.P i).b off zs } (mkT S.T ((frL S.T).take (need (max (S.P i).s (off + len)) - need (S.P i).s)))) ∧
        (∀ j, j < need (max (S.P i).s (off + len)) - need (S.P i).s → B'.getD (need (S.P i).s + j) 0 = (((frL S.T).getD j 0 : Nat) : Int)) ∧ (∀ j, j < need (S.P i).s → B'.getD j 0 = (S.P i).B.getD j 0) ∧ Upd (· = p) w w' := by
  obtain ⟨ab, ao, rfl, hlt, hcell⟩ := hsrc.2 h0
  have hap := ha ab ao rfl
  have hzl := hsrc.1
  obtain ⟨M, gM⟩ : ∃ M, M = max (S.P i).s (off + len) := ⟨_, rfl⟩
  obtain ⟨TM, gT⟩ : ∃ TM, TM = mkT S.T ((frL S.T).take (need (max (S.P i).s (off + len)) - need (S.P i).s)) := ⟨_, rfl⟩
  rw [← gT]
  have k1 := hid (file_yes p S w H i h1 hi hk)
  have k2 : Hid (Calls Tryz.prog 118 #[.pointer (some ⟨p, 0, none⟩), .pointer (some ⟨p, 1 + i * 107, none⟩), .int .i64 ((off : Int) + (len : Int))] w fun e w' => e = .returned (.int .i64 0) ∧ Hid (∃ B' C, Sy w' p (S.bl i { S.P i with B := B', s := M } TM) ∧ ((∀ j, j < need M - need (S.P i).s → B'.getD (need (S.P i).s + j) 0 = (((frL S.T).getD j 0 : Nat) : Int)) ∧ (∀ j, j < need (S.P i).s → B'.getD j 0 = (S.P i).B.getD j 0)) ∧ Upd (· = p) w w' ∧ w'.heap[p]? = some (.cells (List.toArray C) 103 (0, 0)) ∧ Sls C (S.bl i { S.P i with B := B', s := M } TM).d (S.bl i { S.P i with B := B', s := M } TM).P (S.bl i { S.P i with B := B', s := M } TM).T)) := by
    have := grow_all p S w H hT0 i hi (off + len) hz
    rw [show ((off + len : Nat) : Int) = (off : Int) + (len : Int) by omega] at this
    refine hid (this.mono ?_)
    rintro e w' (⟨h, _⟩ | ⟨_, rfl, B', q1, q2, q3, u⟩)
    · exact absurd hfit h
    · rw [← gT, ← gM] at q1
      rw [← gM] at q2
      obtain ⟨C, q5, q4⟩ := q1.blk
      exact ⟨rfl, hid ⟨B', C, q1, ⟨q2, q3⟩, u, q5, q4⟩⟩
  have GM := hid gM
  have a1 : ¬ (off : Int) < 0 := by omega
  have a2 : ¬ (len : Int) = 0 := by omega
  have a3 : ¬ (96 : Int) < (off : Int) := by omega
  have a4 : ¬ (96 : Int) - (off : Int) < (len : Int) := by omega
  have a5 : IntKind.i64.wrap ((off : Int) + (len : Int)) = (off : Int) + (len : Int) := by rw [IntKind.wrap_i64]; omega
  have a6 : IntKind.i64.wrap ((96 : Int) - (off : Int)) = (96 : Int) - (off : Int) := by rw [IntKind.wrap_i64]; omega
  have a7 : (off : Int) ≤ 96 := by omega
  have a8 : (0 : Int) ≤ (off : Int) := by omega
  have HX := hid (And.intro hsrc (And.intro hap hcell))
  clear H hsrc ha hk hcell hap gM gT hfit hT0
  go_enter Tryz.func220, Tryz.ntmps220
  go_wp2_with fail
  refine k1.out.mono ?_
  rintro e w1 ⟨rfl, rfl⟩
  clear k1
  go_wp2_with fail
  refine k2.out.mono ?_
  rintro e w2 ⟨rfl, H2⟩
  clear k2
  obtain ⟨B', C, q1, q2, u, q3, q4⟩ := H2.out
  have hfit : 1 + i * 107 + 4 + off + len ≤ C.length := by rw [q4.len]; omega
  have HQ := hid (And.intro q1 (And.intro q2 (And.intro u (And.intro q3 q4))))
  have HF := hid hfit
  clear q1 q2 u q3 q4 hfit H2
  go_wp2_with (refine wpList_copy2 rfl (.tmp 50) (.tmp 51) 30 30 rfl 5 1 Tryz.underlying30 csize5 _ _ _ ⟨ab, ao, none⟩ len c rfl rfl len p (1 + i * 107 + 4 + off) ?_ ?_ C 103 HQ.out.2.2.2.1 (zs.map (Value.int .u8)) (by simp [hzl]) ?_ (by have := HF.out; simp [hzl]; omega) (fun v hv => by obtain ⟨z, _, rfl⟩ := List.mem_map.1 hv; rfl) ?_)
  case refine_1 => exact (Nat.min_eq_left (by omega)).symm
  case refine_2 => rfl
  case refine_3 =>
    intro j v hv
    obtain ⟨_, hap, hcell⟩ := HX.out
    have hj : j < len := by
      rcases Nat.lt_or_ge j len with h | h
      · exact h
      · rw [List.getElem?_eq_none (by simp; omega)] at hv; simp at hv
    rw [List.getElem?_map, List.getElem?_eq_getElem (by omega)] at hv
    simp only [Option.map_some, Option.some.injEq] at hv
    have := (World.cell?_of_block (a := ⟨ab, ao + j, none⟩) (HQ.out.2.2.1.block ab hlt hap)).trans (hcell j hj)
    rw [List.getD_eq_getElem?_getD, List.getElem?_eq_getElem (by omega)] at this
    rw [← hv, Addr.add_lit]
    exact this
  intro w3 hh u3
  have hS3 : Sy w3 p _ := HQ.out.1.over i hi C HQ.out.2.2.2.1 HQ.out.2.2.2.2 off zs (by omega) (by rw [show 1 + i * 107 + (4 + off) = 1 + i * 107 + 4 + off by omega]; exact hh.out) u3
  have e3 : (S.bl i { S.P i with B := B', s := M } TM).at_ i (((S.bl i { S.P i with B := B', s := M } TM).P i).over off zs) = S.bl i { S.P i with B := B', s := M, b := splice (S.P i).b off zs } TM := by
    rw [show (S.bl i { S.P i with B := B', s := M } TM).P i = { S.P i with B := B', s := M } from updN_same _ _ _]
    unfold Sg.bl Sg.at_ Nd.over
    congr 1
    funext j
    by_cases e : j = i <;> simp [updN, e]
  rw [e3] at hS3
  have H3 : Hid (Sy w3 p (S.bl i { S.P i with B := B', s := M, b := splice (S.P i).b off zs } TM) ∧ Upd (· = p) w1 w3) := hid ⟨hS3, HQ.out.2.2.1.trans u3 (fun _ _ h => h)⟩
  have HB := hid HQ.out.2.1
  clear hS3 e3 hh u3 HQ HF
  go_wp2_with fail
  go_ret2
  refine ⟨rfl, B', ?_, ?_, HB.out.2, H3.out.2⟩
  · rw [← GM.out]; exact H3.out.1
  · rw [← GM.out]; exact HB.out.1

end Go.Proofs.YtoknhcjneliboaaGreat
