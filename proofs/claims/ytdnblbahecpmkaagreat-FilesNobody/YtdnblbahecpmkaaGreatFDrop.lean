/- What Drop does with the last descriptor of a file without a name. -/
import Derived.Test.YtdnblbahecpmkaaGreatFName
import Derived.Test.YtdnblbahecpmkaaGreatFMove
namespace Go.Proofs.YtdnblbahecpmkaaGreat
open Go.RowKit Go.ChangeMaps Go.MapKept
set_option linter.unusedVariables false
set_option maxRecDepth 20000

theorem meth_drop : (fun (v : Value) (W : World) => (method 259 109 v "dredger/files.drop").run Tryz.prog W) = (fun (v : Value) (W : World) => .ok (150, v) W) := by kernel_rfl

theorem Tf.heldTo {w : World} {t p q : Nat} {F : Nat → Fl} (h : Tf w t p q F) (i : Nat) (hi : i < 11) (v : Int) : Tf (w.setCell ⟨t, 2 + i * 5 + 4, none⟩ (.int .i64 v)) t p q (updF F i { F i with h := v }) := by
  obtain ⟨C, hb, hc⟩ := h
  have hl := hc.len
  refine ⟨C.set (2 + i * 5 + 4) (.int .i64 v), by rw [heap_setCell_same w t _ C.toArray _ _ hb]; simp, hc.put i hi _ (by simp [hl]) (fun j hj => by rw [List.getElem?_set_ne (by omega)]) (fun j hj => ?_)⟩
  by_cases e : j = 4
  · subst e; rw [List.getElem?_set_self (by omega)]; rfl
  · rw [List.getElem?_set_ne (by omega), hc.at_ i hi j hj]
    obtain rfl | rfl | rfl | rfl : j = 0 ∨ j = 1 ∨ j = 2 ∨ j = 3 := by omega
    all_goals rfl

/-- A system whose file is gone. -/
def Gon (w w' : World) (p : Nat) (S : Sg) (i : Nat) (x : Nd) : Prop := (∃ T', Sy w' p ((S.bl i (x.hold 0) T').gone i) ∧ cnt T' 25 = 0) ∧ Upd (· = p) w w'

set_option maxHeartbeats 1000000 in
theorem fndrop_last (p : Nat) (S : Sg) (w : World) (i : Nat) (h1 : 2 ≤ i) (hi : i < 17) (x : Nd) (T : Nat → Bool) (H : Sy w p (S.bl i x T)) (hd : S.d = 0) (hk : x.k ≠ 0) (hl : x.l = 0) (hh : x.h = 1) (hs : x.s ≤ 96) (hB : Bok x T (need x.s)) :
    Calls Tryz.prog 150 #[.agg #[.pointer (some ⟨p, 0, none⟩), .int .i64 (i : Int)]] w fun e w' => e = .returned (.int .i64 0) ∧ Gon w w' p S i x := by
  obtain ⟨W, gW⟩ : ∃ W, W = w.alloc (Obj.cells #[.pointer (some ⟨p, 0, none⟩), .int .i64 (i : Int)] 109) := ⟨_, rfl⟩
  have hb : Below w.heap.size w W := by rw [gW]; exact one_new _ _
  have k1 := hid (drop_last p S W i h1 hi x T (H.grow hb) hd hk hl hh hs hB)
  have HB := hid hb
  have a0 : W.cell? ⟨w.heap.size, 0, none⟩ = some (.pointer (some ⟨p, 0, none⟩)) := by rw [gW]; simp [go_sem]
  have a1 : W.cell? ⟨w.heap.size, 1, none⟩ = some (.int .i64 (i : Int)) := by rw [gW]; simp [go_sem]
  clear H hk hb hd hl hh hs hB
  go_enter Tryz.func150, Tryz.ntmps150
  go_wp2_with fail
  rw [← gW]
  clear gW
  refine k1.out.mono ?_
  rintro e w2 ⟨rfl, hq, u⟩
  have HQ := hid (show Gon w w2 p S i x from ⟨hq, (Upd.of_below HB.out).trans u (fun _ _ h => h)⟩)
  clear k1 hq u
  go_wp2_with fail
  go_ret
  exact ⟨rfl, HQ.out⟩

set_option maxHeartbeats 2000000 in
theorem fdrop_last (w : World) (t p q : Nat) (S : Sg) (i : Nat) (h1 : 2 ≤ i) (hi : i < 17) (x : Nd) (T : Nat → Bool) (F : Nat → Fl) (H : Fw w t p q S i x T F) (j : Nat) (hj1 : 1 ≤ j) (hj : j < 11) (hh : (F j).h = 1) (hk : (F j).k = 1) (hof : (F j).of = (i : Int)) (hd : S.d = 0) (hl : x.l = 0) (hxh : x.h = 1) :
    Calls Tryz.prog 13 #[.pointer (some ⟨t, 0, none⟩), .int .i64 (j : Int)] w fun e w' => e = .returned (.int .i64 0) ∧ (∃ T', Sy w' p ((S.bl i (x.hold 0) T').gone i) ∧ cnt T' 25 = 0) ∧ Tf w' t p q (updF F j { F j with h := 0 }) ∧ Upd (fun y => y = t ∨ y = p) w w' := by
  have k1 := hid (ffile_yes w t p q F H.tf j hj1 hj (by omega))
  have c4 := H.tf.c4 j hj
  rw [hh] at c4
  have f4 := H.tf.fz (2 + j * 5 + 4)
  obtain ⟨W, gW⟩ : ∃ W, W = w.setCell ⟨t, 2 + j * 5 + 4, none⟩ (.int .i64 0) := ⟨_, rfl⟩
  have hTf : Tf W t p q (updF F j { F j with h := 0 }) := by rw [gW]; exact H.tf.heldTo j hj 0
  have hU : Upd (· = t) w W := by rw [gW]; exact Upd.setCell (F := (· = t)) w ⟨t, _, none⟩ _ rfl
  have hSy : Sy W p (S.bl i x T) := H.sy.upd hU (fun y hy e => H.tn (e ▸ hy))
  have htp : t ≠ p := fun e => H.tn (.inl e)
  have k2 := hid (body_file W t p q _ hTf j hj (by rw [updF_same]; exact hk))
  rw [show (updF F j { F j with h := 0 } j).of = (i : Int) by rw [updF_same]; exact hof] at k2
  have k3 : Hid (∀ n, Calls Tryz.prog 150 #[.agg #[.pointer (some ⟨p, 0, none⟩), .int .i64 (i : Int)]] (W.drewN n) fun e w' => e = .returned (.int .i64 0) ∧ Gon (W.drewN n) w' p S i x) :=
    hid (fun n => fndrop_last p S (W.drewN n) i h1 hi x T (hSy.hp rfl) hd (by rw [H.k]; omega) hl hxh H.s H.B)
  have HF := hid (And.intro hTf (And.intro hU htp))
  clear H hh hk hof hd hl hxh hTf hU hSy htp
  go_enter Tryz.func13, Tryz.ntmps13
  go_wp2_with fail
  refine k1.out.mono ?_
  rintro e w1 ⟨rfl, rfl⟩
  clear k1
  go_wp2_with fail
  rw [← gW]
  refine k2.out.mono ?_
  rintro e w2 ⟨rfl, n, rfl⟩
  clear k2 c4 f4 gW
  have hm := congrFun (congrFun meth_drop (.agg #[.pointer (some ⟨p, 0, none⟩), .int .i64 (i : Int)])) (W.drewN n)
  have k4 := hid (k3.out n)
  clear k3
  go_wp2_with fail
  refine k4.out.mono ?_
  rintro e w3 ⟨rfl, hG⟩
  have HG := hid hG
  clear k4 hm hG
  go_wp2_with fail
  go_ret
  obtain ⟨hTf, hU, htp⟩ := HF.out
  obtain ⟨hq, hu⟩ := HG.out
  have hu' : Upd (· = p) W w3 := ((Upd.refl (· = p) W).drewN n).trans hu (fun _ _ h => h)
  exact ⟨rfl, hq, hTf.upd hu' htp, (hU.mono (fun y _ h => .inl h)).trans hu' (fun y _ h => .inr h)⟩

end Go.Proofs.YtdnblbahecpmkaaGreat
