/- Texts of this seat, merged. -/
import Derived.Test.YtbglhmcahnkbfaaGreatHMg25
import Derived.Test.YtbglhmcahnkbfaaGreatHMg31
import Derived.Test.YtbglhmcahnkbfaaGreatHMg33

/- What read and write of a node do (program). -/
namespace Go.Proofs.YtbglhmcahnkbfaaGreat
open Go.RowKit Go.ChangeMaps Go.MapKept
set_option linter.unusedVariables false
set_option maxRecDepth 20000

end Go.Proofs.YtbglhmcahnkbfaaGreat

/- What write of a node does (program). -/
namespace Go.Proofs.YtbglhmcahnkbfaaGreat
open Go.RowKit Go.ChangeMaps Go.MapKept
set_option linter.unusedVariables false
set_option maxRecDepth 20000

/-- The node of an open file is there. -/
theorem TOk.node {T : Ft} (H : TOk T) (j : Nat) (hj : j < 11) (hh : (T.O j).h ≠ 0) (hk : (T.O j).k = 1) : ∃ m : Nat, (T.O j).of = (m : Int) ∧ (T.F.P m).k ≠ 0 ∧ T.F.there m = true ∧ 0 < (T.F.P m).h := by
  obtain ⟨m, hm⟩ := H.of j
  have hc := cF_mem hj hh m hm
  rw [hk] at hc
  have hp : 0 < (T.F.P m).h := by rw [H.hc m]; omega
  have hk : (T.F.P m).k ≠ 0 := fun e => by rw [H.F.none m e] at hp; exact absurd hp (by decide)
  have hl := H.F.lt hk
  refine ⟨m, hm, hk, ?_, hp⟩
  unfold Fs.there
  simp only [Int.toNat_natCast, decide_eq_true_eq]
  exact ⟨by omega, by omega, hk⟩
theorem stat_there {F : Fs} {n : Int} (h : F.there n = true) : (F.stat n).2.2.1 = (F.size n.toNat : Int) ∧ (F.stat n).2.2.2 = 0 ∧ (F.stat n).1 = (F.P n.toNat).k := by
  unfold Fs.stat
  rw [if_neg (by rw [h]; simp)]
  exact ⟨rfl, rfl, rfl⟩
end Go.Proofs.YtbglhmcahnkbfaaGreat

/- What Read, Write of open files do (program). -/
namespace Go.Proofs.YtbglhmcahnkbfaaGreat
open Go.RowKit Go.ChangeMaps Go.MapKept
set_option linter.unusedVariables false
set_option maxRecDepth 20000

theorem meth_ndrop : (fun (v : Value) (W : World) => (method 349 167 v "dredger/files.drop").run Tryz.prog W) = (fun (v : Value) (W : World) => .ok (206, v) W) := by kernel_rfl
theorem meth_edrop : (fun (v : Value) (W : World) => (method 349 165 v "dredger/files.drop").run Tryz.prog W) = (fun (v : Value) (W : World) => .ok (199, v) W) := by kernel_rfl

theorem bodyV_node (p q : Nat) (of : Int) : bodyV p q 1 of = .iface 167 (.agg #[.pointer (some ⟨p, 0, none⟩), .int .i64 of]) := by unfold bodyV; rw [if_neg (by decide), if_neg (by decide)]
theorem bodyV_end (p q : Nat) (k of : Int) (h : k = 2 ∨ k = 3) : bodyV p q k of = .iface 165 (.agg #[.pointer (some ⟨q, 0, none⟩), .int .i64 of, .bool (decide (k = 3))]) := by
  unfold bodyV
  rcases h with rfl | rfl
  · rw [if_neg (by decide), if_pos rfl]; rfl
  · rw [if_pos rfl]; rfl
theorem k23 {T : Ft} (hT : TOk T) {i : Nat} (hh : (T.O i).h ≠ 0) (hk : (T.O i).k ≠ 1) : (T.O i).k = 2 ∨ (T.O i).k = 3 := by
  rcases hT.k i hh with h | h | h
  · exact absurd h hk
  · exact .inl h
  · exact .inr h

end Go.Proofs.YtbglhmcahnkbfaaGreat

/- What Write of open files does (program). -/
namespace Go.Proofs.YtbglhmcahnkbfaaGreat
open Go.RowKit Go.ChangeMaps Go.MapKept
set_option linter.unusedVariables false
set_option maxRecDepth 20000

end Go.Proofs.YtbglhmcahnkbfaaGreat

/- What Seek, Hold, Drop of open files do (program). (Written by gen_tp7.py.) -/
namespace Go.Proofs.YtbglhmcahnkbfaaGreat
open Go.RowKit Go.ChangeMaps Go.MapKept
set_option linter.unusedVariables false
set_option maxRecDepth 20000

theorem updF_held {w : World} {t p q : Nat} {O0 : Nat → Fl} {Gn : Nat → Prop} {T : Ft} (H : Ts w t p q O0 Gn T) (j : Nat) (hj : j < 11) (hh : (T.O j).h ≠ 0) (v : Int) (x : Fl) (hx : x = clF { T.O j with h := v }) :
    Ts (w.setCell ⟨t, 2 + j * 5 + 4, none⟩ (.int .i64 v)) t p q (updF O0 j { T.O j with h := v }) Gn (T.at_ j x) := by
  have k := H.tf.heldTo j hj v
  rw [H.at j hj hh] at k
  exact H.fil k hx (Upd.setCell (F := (· = t)) w ⟨t, _, none⟩ _ rfl)

set_option maxHeartbeats 2000000 in
theorem tphold (w : World) (t : Nat) (T : Ft) (G : Nat → Prop) (HP : Tp w t T G) (hT : TOk T) (n : Int) :
    Calls Tryz.prog 62 #[.pointer (some ⟨t, 0, none⟩), .int .i64 n] w fun e w' => e = .returned (.int .i64 (T.hold n).2) ∧ TpTo w t (T.hold n).1 G w' := by
  have HP0 := HP
  obtain ⟨p, q, O0, Gn, H, hG⟩ := HP
  have k1 := ffile_any w t p q O0 Gn T H n
  unfold fileV at k1
  unfold Ft.hold
  have HQ := hid (TpTo.same HP0 (Below.refl _ w))
  cases hh : T.there n
  · rw [hh, if_neg (by simp)] at k1
    rw [if_pos rfl]
    have K1 := hid k1
    clear k1 H hG HP0 hT hh
    dsimp only
    go_enter Tryz.func62, Tryz.ntmps62
    go_wp2_with fail
    refine K1.out.mono ?_
    rintro e w1 ⟨rfl, rfl⟩
    clear K1
    go_wp2_with fail
    go_ret
    exact ⟨rfl, HQ.out⟩
  · rw [hh, if_pos rfl] at k1
    rw [if_neg (by simp)]
    obtain ⟨i, rfl, h1, hi, h0⟩ := Ft.there_lt hh
    rw [Int.toNat_natCast] at k1 ⊢
    have K1 := hid k1
    have c4 := H.tf.c4 i hi
    rw [H.h0 i hi] at c4
    have f4 := H.tf.fz (2 + i * 5 + 4)
    have hle := (hT.h i).2
    by_cases h9 : 1000 ≤ (T.O i).h
    · rw [if_pos h9]
      have e9 : (T.O i).h = 1000 := by omega
      rw [e9] at c4
      clear k1 H hG HP0 hT hh h0 hle h9 e9
      dsimp only
      go_enter Tryz.func62, Tryz.ntmps62
      go_wp2_with fail
      refine K1.out.mono ?_
      rintro e w1 ⟨rfl, rfl⟩
      clear K1
      go_wp2_with fail
      go_ret
      exact ⟨rfl, HQ.out⟩
    · rw [if_neg h9]
      have hp := (hT.h i).1
      have H4 : Hid (TpTo w t (T.at_ i { T.O i with h := (T.O i).h + 1 }) G (w.setCell ⟨t, 2 + i * 5 + 4, none⟩ (.int .i64 ((T.O i).h + 1)))) := by
        refine hid (TpTo.of (updF_held H i hi h0 ((T.O i).h + 1) { T.O i with h := (T.O i).h + 1 } (clF_of (x := { T.O i with h := (T.O i).h + 1 }) ?_).symm) hG (fun b hb => .inl hb) (Upd.setCell (F := Foot t q Gn) w ⟨t, _, none⟩ _ (.inl rfl)))
        show (T.O i).h + 1 ≠ 0
        omega
      dsimp only
      clear k1 H hG HP0 hT hh h0 HQ
      generalize T.at_ i _ = T' at H4 ⊢
      generalize (T.O i).h = h at c4 h9 hp hle H4
      have hne : ¬ h = 1000 := by omega
      go_enter Tryz.func62, Tryz.ntmps62
      go_wp2_with fail
      refine K1.out.mono ?_
      rintro e w1 ⟨rfl, rfl⟩
      clear K1
      go_wp2_with fail
      go_ret
      exact ⟨rfl, H4.out⟩

set_option maxHeartbeats 4000000 in
theorem tpdrop (w : World) (t : Nat) (T : Ft) (G : Nat → Prop) (HP : Tp w t T G) (hT : TOk T) (n : Int) :
    Calls Tryz.prog 48 #[.pointer (some ⟨t, 0, none⟩), .int .i64 n] w fun e w' => e = .returned (.int .i64 (T.drop n).2) ∧ TpTo w t (T.drop n).1 G w' := by
  have HP0 := HP
  obtain ⟨p, q, O0, Gn, H, hG⟩ := HP
  have k1 := ffile_any w t p q O0 Gn T H n
  unfold fileV at k1
  unfold Ft.drop
  cases hh : T.there n
  · rw [hh, if_neg (by simp)] at k1
    rw [if_pos rfl]
    have K1 := hid k1
    have HQ := hid (TpTo.same HP0 (Below.refl _ w))
    clear k1 H hG HP0 hT hh
    dsimp only
    go_enter Tryz.func48, Tryz.ntmps48
    go_wp2_with fail
    refine K1.out.mono ?_
    rintro e w1 ⟨rfl, rfl⟩
    clear K1
    go_wp2_with fail
    go_ret
    exact ⟨rfl, HQ.out⟩
  · rw [hh, if_pos rfl] at k1
    rw [if_neg (by simp)]
    obtain ⟨i, rfl, h1, hi, h0⟩ := Ft.there_lt hh
    rw [Int.toNat_natCast] at k1 ⊢
    have K1 := hid k1
    have c4 := H.tf.c4 i hi
    rw [H.h0 i hi] at c4
    have f4 := H.tf.fz (2 + i * 5 + 4)
    have hle := hT.h i
    by_cases h9 : 1 < (T.O i).h
    · rw [if_pos h9]
      have H4 : Hid (TpTo w t (T.at_ i { T.O i with h := (T.O i).h - 1 }) G (w.setCell ⟨t, 2 + i * 5 + 4, none⟩ (.int .i64 ((T.O i).h - 1))) ∧ (w.setCell ⟨t, 2 + i * 5 + 4, none⟩ (.int .i64 ((T.O i).h - 1))).cell? ⟨t, 2 + i * 5 + 4, none⟩ = some (.int .i64 ((T.O i).h - 1))) := by
        have hs := updF_held H i hi h0 ((T.O i).h - 1) { T.O i with h := (T.O i).h - 1 } (clF_of (x := { T.O i with h := (T.O i).h - 1 }) (by show (T.O i).h - 1 ≠ 0; omega)).symm
        have hc := hs.tf.c4 i hi
        rw [updF_same] at hc
        exact hid ⟨TpTo.of hs hG (fun b hb => .inl hb) (Upd.setCell (F := Foot t q Gn) w ⟨t, _, none⟩ _ (.inl rfl)), hc⟩
      dsimp only
      clear k1 H hG HP0 hT hh h0
      generalize T.at_ i _ = T' at H4 ⊢
      generalize (T.O i).h = h at c4 h9 hle H4
      have hh1 : (0 : Int) < h - 1 := by omega
      have d4 := H4.out.2
      go_enter Tryz.func48, Tryz.ntmps48
      go_wp2_with fail
      refine K1.out.mono ?_
      rintro e w1 ⟨rfl, rfl⟩
      clear K1
      go_wp2_with fail
      go_ret
      exact ⟨rfl, H4.out.1⟩
    · rw [if_neg h9]
      have e1 : (T.O i).h = 1 := by omega
      rw [e1] at c4
      obtain ⟨W, gW⟩ : ∃ W, W = w.setCell ⟨t, 2 + i * 5 + 4, none⟩ (.int .i64 0) := ⟨_, rfl⟩
      have hsW : Ts W t p q (updF O0 i { T.O i with h := 0 }) Gn (T.at_ i noFl) := by rw [gW]; exact updF_held H i hi h0 0 noFl (by unfold clF; rw [if_pos rfl])
      have huW : Upd (Foot t q Gn) w W := by rw [gW]; exact Upd.setCell (F := Foot t q Gn) w ⟨t, _, none⟩ _ (.inl rfl)
      have c0 := hsW.tf.c0 i hi
      have c1 := hsW.tf.c1 i hi
      have d4 := hsW.tf.c4 i hi
      rw [updF_same] at c0 c1 d4
      have k2 := body_any W t p q (2 + i * 5) (T.O i).k (T.O i).of hsW.tf.s hsW.tf.p c0 c1 (hT.k i h0)
      by_cases hk : (T.O i).k = 1
      · rw [if_pos hk]
        rw [hk, bodyV_node] at k2
        have K2 := hid k2
        obtain ⟨m, hm, _, _, hp⟩ := hT.node i hi h0 hk
        have hd := drop_h hT.F hp
        have k3 : Hid (∀ X, Below W.heap.size W X → Calls Tryz.prog 206 #[.agg #[.pointer (some ⟨p, 0, none⟩), .int .i64 (T.O i).of]] X fun e w' => e = .returned (.int .i64 0) ∧ Hid (TpTo w t { T with F := (T.F.drop (T.O i).of).1, O := updF T.O i noFl } G w')) := by
          refine hid (fun X hX => ?_)
          have hSX := hsW.grow hX
          refine (fndrop X p T.F Gn hSX.pf hT.F (T.O i).of).mono ?_
          rintro e w' ⟨rfl, hk⟩
          refine ⟨by rw [hm, hd.1], hid (TpTo.of (hSX.sys hk (drop_d _ _)) hG (fun b hb => hb.imp id (fun h => ?_)) ((huW.trans (Upd.of_below (F := Foot t q Gn) hX) (fun _ _ h => h)).trans hk.2 (fun b _ hb => .inr (.inr hb))))⟩
          exact Nat.le_trans (Nat.le_trans huW.size hX.size) h
        dsimp only
        clear k1 k2 H hG HP0 hT hh h0 hsW huW c0 c1 hk hp hd hle h9 hm
        generalize (({ T with F := (T.F.drop (T.O i).of).1, O := updF T.O i noFl } : Ft)) = T' at k3 ⊢
        generalize (T.O i).of = of at K2 k3
        go_enter Tryz.func48, Tryz.ntmps48
        go_wp2_with fail
        refine K1.out.mono ?_
        rintro e w1 ⟨rfl, rfl⟩
        clear K1
        go_wp2_with fail
        rw [← gW]
        refine K2.out.mono ?_
        rintro e w2 ⟨rfl, hb2⟩
        have K3 := hid (k3.out w2 hb2)
        clear K2 k3 hb2 c4 f4 gW d4
        have hm' := congrFun (congrFun meth_ndrop (.agg #[.pointer (some ⟨p, 0, none⟩), .int .i64 of])) w2
        go_wp2_with fail
        refine K3.out.mono ?_
        rintro e w3 ⟨rfl, H3⟩
        clear K3 hm'
        go_wp2_with fail
        go_ret
        exact ⟨rfl, H3.out⟩
      · rw [if_neg hk]
        have hde := hT.drop_end i h1 hi h0 (k23 hT h0 hk)
        rw [bodyV_end _ _ _ _ (k23 hT h0 hk)] at k2
        have K2 := hid k2
        have k3 : Hid (∀ X, Below W.heap.size W X → Calls Tryz.prog 199 #[.agg #[.pointer (some ⟨q, 0, none⟩), .int .i64 (T.O i).of, .bool (decide ((T.O i).k = 3))]] X fun e w' => e = .returned (.int .i64 0) ∧ Hid (TpTo w t { T with P := Pi.dropP T.kp T.P (T.O i).of (decide ((T.O i).k = 3)), O := updF T.O i noFl } G w')) := by
          refine hid (fun X hX => ?_)
          have hSX := hsW.grow hX
          refine (fedrop X q (T.O i).of _ T.kp T.P hSX.tc).mono ?_
          rintro e w' ⟨rfl, hS, hU⟩
          refine ⟨by rw [hde.1], hid (TpTo.of (hSX.pip hS hU) hG (fun b hb => .inl hb) ((huW.trans (Upd.of_below (F := Foot t q Gn) hX) (fun _ _ h => h)).trans hU (fun b _ hb => .inr (.inl hb))))⟩
        dsimp only
        clear k1 k2 H hG HP0 hT hh h0 hsW huW c0 c1 hk hde hle h9
        generalize (({ T with P := Pi.dropP T.kp T.P (T.O i).of (decide ((T.O i).k = 3)), O := updF T.O i noFl } : Ft)) = T' at k3 ⊢
        generalize (T.O i).of = of at K2 k3
        generalize decide ((T.O i).k = 3) = wr at K2 k3
        go_enter Tryz.func48, Tryz.ntmps48
        go_wp2_with fail
        refine K1.out.mono ?_
        rintro e w1 ⟨rfl, rfl⟩
        clear K1
        go_wp2_with fail
        rw [← gW]
        refine K2.out.mono ?_
        rintro e w2 ⟨rfl, hb2⟩
        have K3 := hid (k3.out w2 hb2)
        clear K2 k3 hb2 c4 f4 gW d4
        have hm' := congrFun (congrFun meth_edrop (.agg #[.pointer (some ⟨q, 0, none⟩), .int .i64 of, .bool wr])) w2
        go_wp2_with fail
        refine K3.out.mono ?_
        rintro e w3 ⟨rfl, H3⟩
        clear K3 hm'
        go_wp2_with fail
        go_ret
        exact ⟨rfl, H3.out⟩

end Go.Proofs.YtbglhmcahnkbfaaGreat

/- The program's processes: put, empty; the calls of open files below. -/
namespace Go.Proofs.YtbglhmcahnkbfaaGreat
open Go.RowKit Go.ChangeMaps Go.MapKept
set_option linter.unusedVariables false
set_option maxRecDepth 20000

theorem fthold_d (T : Ft) (n : Int) : (T.hold n).1.F.d = T.F.d := by
  unfold Ft.hold
  split
  · rfl
  split <;> rfl
theorem ftdrop_d (T : Ft) (n : Int) : (T.drop n).1.F.d = T.F.d := by
  unfold Ft.drop
  split
  · rfl
  split
  · rfl
  split
  · exact drop_d _ _
  · rfl
section
variable {w0 w w' : World} {p f : Nat} {g : Gt} {G : Nat → Prop}
theorem ZpTo.hold (h : ZpTo w0 p f g G w) (hT : TOk g.T) (n : Int) :
    Calls Tryz.prog 62 #[.pointer (some ⟨f, 0, none⟩), .int .i64 n] w fun e w' => e = .returned (.int .i64 (g.T.hold n).2) ∧ ZpTo w0 p f { g with T := (g.T.hold n).1 } G w' := by
  obtain ⟨Gn, h1, h3⟩ := h.parts
  refine (tphold w f g.T Gn h1.tp hT n).mono ?_
  rintro e w' ⟨rfl, k⟩
  exact ⟨rfl, h.fil h1 h3 k (fthold_d _ _)⟩
theorem ZpTo.dropf (h : ZpTo w0 p f g G w) (hT : TOk g.T) (n : Int) :
    Calls Tryz.prog 48 #[.pointer (some ⟨f, 0, none⟩), .int .i64 n] w fun e w' => e = .returned (.int .i64 (g.T.drop n).2) ∧ ZpTo w0 p f { g with T := (g.T.drop n).1 } G w' := by
  obtain ⟨Gn, h1, h3⟩ := h.parts
  refine (tpdrop w f g.T Gn h1.tp hT n).mono ?_
  rintro e w' ⟨rfl, k⟩
  exact ⟨rfl, h.fil h1 h3 k (ftdrop_d _ _)⟩
end

theorem lowest_at {f : Nat → Int} {j : Nat} (hj : j < 6) (h : ∀ i, i < j → f i ≠ 0) (h0 : f j = 0) : Gt.lowest f = some j := by
  unfold Gt.lowest
  rw [show List.range 6 = [0, 1, 2, 3, 4, 5] from rfl]
  obtain rfl | rfl | rfl | rfl | rfl | rfl : j = 0 ∨ j = 1 ∨ j = 2 ∨ j = 3 ∨ j = 4 ∨ j = 5 := by omega
  · simp [h0]
  · simp [h0, h 0 (by omega)]
  · simp [h0, h 0 (by omega), h 1 (by omega)]
  · simp [h0, h 0 (by omega), h 1 (by omega), h 2 (by omega)]
  · simp [h0, h 0 (by omega), h 1 (by omega), h 2 (by omega), h 3 (by omega)]
  · simp [h0, h 0 (by omega), h 1 (by omega), h 2 (by omega), h 3 (by omega), h 4 (by omega)]
theorem lowest_no {f : Nat → Int} (h : ∀ i, i < 6 → f i ≠ 0) : Gt.lowest f = none := by
  unfold Gt.lowest
  rw [show List.range 6 = [0, 1, 2, 3, 4, 5] from rfl]
  simp [h 0 (by omega), h 1 (by omega), h 2 (by omega), h 3 (by omega), h 4 (by omega), h 5 (by omega)]
def lowI (f : Nat → Int) : Int := match Gt.lowest f with | some i => (i : Int) | none => -1
theorem gindex_any (b o : Nat) (f : Nat → Int) (w : World) (h : ∀ j, j < 6 → w.cell? ⟨b, o + j, none⟩ = some (.int .i64 (f j))) :
    Calls Tryz.prog 82 #[.slice (some ⟨b, o, none⟩) 6 6, .int .i64 0] w fun e w' => e = .returned (.int .i64 (lowI f)) ∧ w' = w := by
  have H := hid h
  clear h
  go_enter Tryz.func82, Tryz.ntmps82
  go_wp2_with fail
  go_loop [8] (fun s => ∃ j : Nat, j ≤ 6 ∧ s = .int .i64 (j : Int) ∧ Hid (∀ i, i < j → f i ≠ 0)) (fun s => 6 - (intOf s).toNat)
  case atStart => exact ⟨0, by omega, rfl, hid (fun i h => absurd h (Nat.not_lt_zero i))⟩
  case round =>
    obtain ⟨j, h6, rfl, HP⟩ := hrel
    by_cases e6 : j = 6
    · have HE : Hid (lowI f = -1) := hid (by unfold lowI; rw [lowest_no (fun i hi => HP.out i (by omega))])
      subst e6
      clear HP
      go_wp2_with fail
      go_ret
      exact ⟨congrArg (fun k : Int => Ending.returned (.int .i64 k)) HE.out.symm, rfl⟩
    · have hs := H.out j (by omega)
      have c3 : (0 : Int) ≤ j := by omega
      have c4 : (j : Int) < 6 := by omega
      by_cases hz : f j = 0
      · have HE : Hid (lowI f = (j : Int)) := hid (by unfold lowI; rw [lowest_at (by omega) HP.out hz])
        rw [hz] at hs
        clear HP hz
        go_wp2_with fail
        go_ret
        exact ⟨congrArg (fun k : Int => Ending.returned (.int .i64 k)) HE.out.symm, rfl⟩
      · have HP' : Hid (∀ i, i < j + 1 → f i ≠ 0) := hid (fun i a => by
          by_cases e : i = j
          · rw [e]; exact hz
          · exact HP.out i (by omega))
        clear HP
        generalize f j = s at hs hz
        have hz' : ¬ (0 : Int) = s := fun e => hz e.symm
        go_wp2_with fail
        go_round
        case rel => exact ⟨j + 1, by omega, by go_num, HP'⟩
        case measure => simp [intOf]; omega

section
variable {w0 w : World} {p f : Nat} {g : Gt} {G : Nat → Prop}
theorem gput_no (h : ZpTo w0 p f g G w) (q : Nat) (hq : q < 5) (v : Int) (hl : Gt.lowest (g.Q q).fd = none) :
    Calls Tryz.prog 60 #[.pointer (some ⟨p, 2 + q * 9, none⟩), .int .i64 v] w fun e w' => e = .returned (.tuple #[.int .i64 0, .int .i64 24]) ∧ ZpTo w0 p f g G w' := by
  have k1 := hid (gindex_any p (2 + q * 9 + 3) (g.Q q).fd w (fun j hj => h.tab.z q hq j hj))
  have e : lowI (g.Q q).fd = -1 := by unfold lowI; rw [hl]
  rw [e] at k1
  have H := hid h
  clear h hl e
  go_enter Tryz.func60, Tryz.ntmps60
  go_wp2_with fail
  refine k1.out.mono ?_
  rintro e w1 ⟨rfl, rfl⟩
  go_wp2_with fail
  go_ret2
  exact ⟨rfl, H.out⟩
theorem gput_yes (h : ZpTo w0 p f g G w) (q : Nat) (hq : q < 5) (v : Int) (i : Nat) (hl : Gt.lowest (g.Q q).fd = some i) :
    Calls Tryz.prog 60 #[.pointer (some ⟨p, 2 + q * 9, none⟩), .int .i64 v] w fun e w' => e = .returned (.tuple #[.int .i64 (i : Int), .int .i64 0]) ∧ ZpTo w0 p f (g.setFd q i v) G w' := by
  have k1 := hid (gindex_any p (2 + q * 9 + 3) (g.Q q).fd w (fun j hj => h.tab.z q hq j hj))
  have e : lowI (g.Q q).fd = (i : Int) := by unfold lowI; rw [hl]
  rw [e] at k1
  have hi := (lowest_lt hl).1
  have z := h.tab.z q hq i hi
  have fz := h.tab.fz (2 + q * 9 + 3 + i)
  have c3 : (0 : Int) ≤ i := by omega
  have c4 : (i : Int) < 6 := by omega
  have H : Hid (ZpTo w0 p f (g.setFd q i v) G (w.setCell ⟨p, 2 + q * 9 + 3 + i, none⟩ (.int .i64 v))) := hid (h.put (h.tab.fdTo q hq i hi v) (Upd.setCell (F := (· = p)) w ⟨p, _, none⟩ _ rfl))
  clear h hl e
  go_enter Tryz.func60, Tryz.ntmps60
  go_wp2_with fail
  refine k1.out.mono ?_
  rintro e w1 ⟨rfl, rfl⟩
  go_wp2_with fail
  go_ret2
  exact ⟨rfl, H.out⟩

/-- A descriptor is emptied. -/
theorem gempty_any (h : ZpTo w0 p f g G w) (hT : TOk g.T) (q : Nat) (hq : q < 5) (i : Nat) (hi : i < 6) :
    Calls Tryz.prog 53 #[.pointer (some ⟨p, 0, none⟩), .pointer (some ⟨p, 2 + q * 9, none⟩), .int .i64 (i : Int)] w fun e w' => e = .returned (.tuple #[]) ∧ ZpTo w0 p f (g.empty q i) G w' := by
  have z := h.tab.z q hq i hi
  have fz := h.tab.fz (2 + q * 9 + 3 + i)
  have c3 : (0 : Int) ≤ i := by omega
  have c4 : (i : Int) < 6 := by omega
  have H : Hid (ZpTo w0 p f (g.setFd q i 0) G (w.setCell ⟨p, 2 + q * 9 + 3 + i, none⟩ (.int .i64 0))) := hid (h.put (h.tab.fdTo q hq i hi 0) (Upd.setCell (F := (· = p)) w ⟨p, _, none⟩ _ rfl))
  unfold Gt.empty
  by_cases hv : (g.Q q).fd i = 0
  · rw [if_pos hv]
    rw [hv] at z
    clear h hv hT
    go_enter Tryz.func53, Tryz.ntmps53
    go_wp2_with fail
    go_end0
    exact ⟨rfl, H.out⟩
  · rw [if_neg hv]
    have fl := H.out.tab.fl
    have kD := hid (H.out.dropf hT ((g.Q q).fd i))
    clear h hT H
    generalize (g.Q q).fd i = v at z hv kD ⊢
    generalize hg' : ({ g.setFd q i 0 with T := ((g.setFd q i 0).T.drop v).1 } : Gt) = g' at kD
    have HG : Hid ({ g.setFd q i 0 with T := (g.T.drop v).1 } = g') := hid hg'
    clear hg'
    go_enter Tryz.func53, Tryz.ntmps53
    go_wp2_with fail
    refine kD.out.mono ?_
    rintro e w1 ⟨rfl, h1⟩
    go_wp2_with fail
    go_end0
    exact ⟨rfl, by rw [HG.out]; exact h1⟩
end

end Go.Proofs.YtbglhmcahnkbfaaGreat

/- What free, findOrMake, ready do (program). -/
namespace Go.Proofs.YtbglhmcahnkbfaaGreat
open Go.RowKit Go.ChangeMaps Go.MapKept
set_option linter.unusedVariables false
set_option maxRecDepth 20000

theorem infoI8 : (Tryz.prog.info? 3).map (fun i => (i.zero, i.size, i.bytes)) = some (some (.int .i64 0), 1, 8) := by kernel_rfl
theorem ofL_congr {O O' : Nat → Fl} : ∀ n, (∀ i, i < n → (O i).h = (O' i).h) → ofL O n = ofL O' n
  | 0, _ => rfl
  | n + 1, h => by
    unfold ofL
    rw [ofL_congr n (fun i hi => h i (by omega)), h n (by omega)]

set_option maxHeartbeats 2000000 in
theorem ffree_any (w : World) (t p q : Nat) (F : Nat → Fl) (H : Tf w t p q F) : Calls Tryz.prog 55 #[.pointer (some ⟨t, 0, none⟩)] w fun e w' => (∃ v, e = .returned v ∧ w'.ownsRow w.heap.size 3 1 v (ofL F 11).length ((ofL F 11).map fun (i : Nat) => Value.int .i64 (i : Int))) ∧ Below w.heap.size w w' := by
  obtain ⟨i0, hi0, hz0, hz1, hz2⟩ := info_parts infoI8
  have HH := hid H
  clear H
  go_enter Tryz.func55, Tryz.ntmps55
  go_wp2_with fail
  go_loopw [3, 4] (fun v k wr => ∃ j : Nat, 1 ≤ j ∧ j ≤ 11 ∧ k = .int .i64 (j : Int) ∧ Hid (wr.ownsRow w.heap.size 3 1 v (ofL F j).length ((ofL F j).map fun (i : Nat) => Value.int .i64 (i : Int)) ∧ Below w.heap.size w wr)) (fun _ k _ => 11 - (intOf k).toNat)
  case atStart => exact ⟨1, by omega, by omega, rfl, hid ⟨World.ownsRow_nil _ _ _ _, Below.refl _ _⟩⟩
  case round =>
    obtain ⟨j, hj1, hj11, rfl, HQ⟩ := hrel
    by_cases e : j = 11
    · subst e
      go_wp2_with fail
      go_ret
      exact ⟨⟨_, rfl, HQ.out.1⟩, HQ.out.2⟩
    · have hj : j < 11 := by omega
      have hj2 : (j : Int) ≤ 10 := by omega
      have hj3 : (j : Int) < 11 := by omega
      have hj0 : (0 : Int) ≤ (j : Int) := by omega
      have c4 := (HH.out.grow HQ.out.2).c4 j hj
      have hfl := ofL_le F j
      clear e
      by_cases h0 : (F j).h = 0
      · rw [h0] at c4
        have HC : Hid (ofL F (j + 1) = ofL F j ++ [j]) := hid (by rw [ofL, if_pos ⟨hj1, h0⟩])
        have hsz := HQ.out.2.size
        clear h0
        go_wp2_with (at_builtin; go_must (refine wpList_append_own _ rfl (.tmp 17) (.tmp 19) 48 rfl w.heap.size 3 i0 _ 1 8 Tryz.underlying48 hi0 hz0 hz1 hz2 rfl (by decide) _ (ofL F j).length ((ofL F j).map fun (i : Nat) => Value.int .i64 (i : Int)) rfl (HQ.out.1.alloc _) ⟨_, 0, none⟩ 1 1 [.int .i64 (j : Int)] rfl rfl (cell_one_new _ _ _) (by simp [Value.oneCell']) (by unfold maxLen; omega) (by omega) (by simp; omega) ?_))
        intro v' w6 hO6 hG6 hN6
        have hb6 : Below w.heap.size w w6 := by
          have u : Upd _ _ w6 := Upd.of_grown hG6
          refine (HQ.out.2.trans ((one_new wr _).mono hsz)).trans (u.below (by simp; omega) (fun k hk => ?_))
          exact (HQ.out.1.lt k hk.symm).1
        have HQ6 : Hid (w6.ownsRow w.heap.size 3 1 v' (ofL F (j + 1)).length ((ofL F (j + 1)).map fun (i : Nat) => Value.int .i64 (i : Int)) ∧ Below w.heap.size w w6) := by
          rw [HC.out]
          refine hid ⟨?_, hb6⟩
          simpa using hO6
        clear hO6 hG6 hN6 hb6
        go_wp2_with fail
        go_roundw
        case rel => exact ⟨j + 1, by omega, by omega, by go_num, HQ6⟩
        case measure => simp [intOf]; omega
      · have HC : Hid (ofL F (j + 1) = ofL F j) := hid (by rw [ofL, if_neg (fun e => h0 e.2)]; simp)
        obtain ⟨n, gn⟩ : ∃ n, n = (F j).h := ⟨_, rfl⟩
        rw [← gn] at c4 h0
        clear gn
        go_wp2_with fail
        go_roundw
        case rel => exact ⟨j + 1, by omega, by omega, by go_num, by rw [HC.out]; exact HQ⟩
        case measure => simp [intOf]; omega

theorem dfc_t {g b : Int} (h : dfc g b = true) : (bits BinOp.and IntKind.i64 g b == 0) = false ∧ (bits BinOp.and IntKind.i64 g b != 0) = true := by
  unfold dfc at h
  simp at h
  simp [h]
theorem dfc_f {g b : Int} (h : dfc g b = false) : (bits BinOp.and IntKind.i64 g b == 0) = true ∧ (bits BinOp.and IntKind.i64 g b != 0) = false := by
  unfold dfc at h
  simp at h
  simp [h]

/-- The system turns alone. -/
def SysP (w : World) (t p q : Nat) (O0 : Nat → Fl) (Gn : Nat → Prop) (T : Ft) (w' : World) : Prop := ∃ Gm, Ts w' t p q O0 Gm T ∧ (∀ b, Gm b → Gn b ∨ w.heap.size ≤ b) ∧ Upd Gn w w'
theorem SysP.same {w w' : World} {t p q : Nat} {O0 : Nat → Fl} {Gn : Nat → Prop} {T : Ft} (H : Ts w t p q O0 Gn T) (u : Below w.heap.size w w') : SysP w t p q O0 Gn T w' := ⟨Gn, H.grow u, fun b hb => .inl hb, Upd.of_below u⟩
theorem SysP.of {w X w' : World} {t p q : Nat} {O0 : Nat → Fl} {Gn : Nat → Prop} {T : Ft} {F' : Fs} (H : Ts X t p q O0 Gn T) (hX : Below w.heap.size w X) (k : PfTo X p F' Gn w') (hd : F'.d = T.F.d) : SysP w t p q O0 Gn { T with F := F' } w' :=
  ⟨_, H.sys k hd, fun b hb => hb.imp id (fun h => Nat.le_trans hX.size h), (Upd.of_below hX).trans k.2 (fun _ _ h => h)⟩
set_option maxHeartbeats 2000000 in
theorem ffindm (w : World) (t p q : Nat) (O0 : Nat → Fl) (Gn : Nat → Prop) (T : Ft) (H : Ts w t p q O0 Gn T) (hT : TOk T) (l : ByteArray) (hs : l.size ≤ 140737488355328) (g : Int) :
    Calls Tryz.prog 56 #[.pointer (some ⟨t, 0, none⟩), .string l, .int .i64 g] w fun e w' => e = .returned (.tuple #[.int .i64 ((Ft.node T.F (bl l) g).2.1 : Int), .int .i64 (Ft.node T.F (bl l) g).2.2]) ∧ SysP w t p q O0 Gn { T with F := (Ft.node T.F (bl l) g).1 } w' := by
  have k1 := hid (pfind p T.F Gn w H.pf hT.F l hs)
  have cs := H.tf.s
  have HS := hid (fun X (hX : Below w.heap.size w X) => SysP.same H hX)
  have HC := hid (fun X (hX : Below w.heap.size w X) => (H.grow hX).tf.s)
  have k2 : Hid (∀ X, Below w.heap.size w X → Calls Tryz.prog 86 #[.pointer (some ⟨p, 0, none⟩), .string l, .int .i64 1] X fun e w' => e = .returned (.tuple #[.int .i64 ((T.F.make (bl l) 1).2.1 : Int), .int .i64 (T.F.make (bl l) 1).2.2]) ∧ Hid (SysP w t p q O0 Gn { T with F := (T.F.make (bl l) 1).1 } w')) := by
    refine hid (fun X hX => (pmake p T.F Gn X (H.grow hX).pf hT.F l hs 1).mono ?_)
    rintro e w' ⟨rfl, hk⟩
    exact ⟨rfl, hid (SysP.of (H.grow hX) hX hk (SH.make hT.F _ _).1)⟩
  unfold Ft.node
  clear H hT
  generalize hr : T.F.find (bl l) = r at k1 ⊢
  obtain ⟨n, E⟩ := r
  clear hr
  dsimp only at k1 ⊢
  cases h8 : dfc g 8
  · rw [if_pos rfl]
    obtain ⟨b1, b2⟩ := dfc_f h8
    clear k2 h8
    go_enter Tryz.func56, Tryz.ntmps56
    go_wp2_with fail
    refine k1.out.mono ?_
    rintro e w1 ⟨rfl, hb⟩
    have HQ := hid (HS.out w1 hb)
    clear k1 hb HS HC
    go_wp2_with fail
    go_ret2
    exact ⟨rfl, HQ.out⟩
  rw [if_neg (by simp)]
  obtain ⟨b1, b2⟩ := dfc_t h8
  clear h8
  by_cases h2 : E = 2
  · subst h2
    rw [if_pos rfl]
    generalize T.F.make (bl l) 1 = r at k2 ⊢
    obtain ⟨F', m, E⟩ := r
    dsimp only at k2 ⊢
    go_enter Tryz.func56, Tryz.ntmps56
    go_wp2_with fail
    refine k1.out.mono ?_
    rintro e w1 ⟨rfl, hb⟩
    have K2 := hid (k2.out w1 hb)
    have cs1 := HC.out w1 hb
    clear k1 k2 hb HS HC
    go_wp2_with fail
    refine K2.out.mono ?_
    rintro e w2 ⟨rfl, HQ⟩
    clear K2
    go_wp2_with fail
    go_ret2
    exact ⟨rfl, HQ.out⟩
  rw [if_neg h2]
  clear k2
  by_cases h3 : E = 0 ∧ dfc g 16 = true
  · rw [if_pos h3]
    obtain ⟨rfl, h16⟩ := h3
    obtain ⟨b3, b4⟩ := dfc_t h16
    clear h16
    go_enter Tryz.func56, Tryz.ntmps56
    go_wp2_with fail
    refine k1.out.mono ?_
    rintro e w1 ⟨rfl, hb⟩
    have HQ := hid (HS.out w1 hb)
    clear k1 hb HS HC
    go_wp2_with fail
    go_ret2
    exact ⟨rfl, HQ.out⟩
  rw [if_neg h3]
  by_cases h0 : E = 0
  · subst h0
    have h16 : dfc g 16 = false := by simpa using h3
    obtain ⟨b3, b4⟩ := dfc_f h16
    clear h16 h3
    go_enter Tryz.func56, Tryz.ntmps56
    go_wp2_with fail
    refine k1.out.mono ?_
    rintro e w1 ⟨rfl, hb⟩
    have HQ := hid (HS.out w1 hb)
    clear k1 hb HS HC
    go_wp2_with fail
    go_ret2
    exact ⟨rfl, HQ.out⟩
  · clear h3
    go_enter Tryz.func56, Tryz.ntmps56
    go_wp2_with fail
    refine k1.out.mono ?_
    rintro e w1 ⟨rfl, hb⟩
    have HQ := hid (HS.out w1 hb)
    clear k1 hb HS HC
    go_wp2_with fail
    go_ret2
    exact ⟨rfl, HQ.out⟩

set_option maxHeartbeats 2000000 in
theorem fready (w : World) (t p q : Nat) (O0 : Nat → Fl) (Gn : Nat → Prop) (T : Ft) (H : Ts w t p q O0 Gn T) (hF : FOk T.F) (m : Nat) (hth : T.F.there m = true) (g : Int) :
    Calls Tryz.prog 57 #[.pointer (some ⟨t, 0, none⟩), .int .i64 (m : Int), .int .i64 g] w fun e w' => e = .returned (.int .i64 (Ft.cutF T.F m g).2) ∧ SysP w t p q O0 Gn { T with F := (Ft.cutF T.F m g).1 } w' := by
  have cs := H.tf.s
  have HS := hid (fun X (hX : Below w.heap.size w X) => SysP.same H hX)
  have HC := hid (fun X (hX : Below w.heap.size w X) => (H.grow hX).tf.s)
  have k1 := pstat2 p T.F Gn w H.pf hF m
  have hst := stat_there hth
  rw [hst.2.1, hst.2.2, Int.toNat_natCast] at k1
  have k2 : Hid (∀ X, Below w.heap.size w X → Calls Tryz.prog 88 #[.pointer (some ⟨p, 0, none⟩), .int .i64 (m : Int), .int .i64 0] X fun e w' => e = .returned (.int .i64 (T.F.resize m 0).2) ∧ Hid (SysP w t p q O0 Gn { T with F := (T.F.resize m 0).1 } w')) := by
    refine hid (fun X hX => (presize p T.F Gn X (H.grow hX).pf hF m 0).mono ?_)
    rintro e w' ⟨rfl, hk⟩
    exact ⟨rfl, hid (SysP.of (H.grow hX) hX hk (SH.resize _ _ _).1)⟩
  unfold Ft.cutF
  clear H hF hst hth
  have k1 := hid k1
  generalize (T.F.P m).k = K at k1 ⊢
  generalize (T.F.stat m).2.1 = s1 at k1
  generalize (T.F.stat m).2.2.1 = s2 at k1
  cases h2 : dfc g 2
  · rw [if_pos rfl]
    obtain ⟨b1, b2⟩ := dfc_f h2
    have HQ := hid (HS.out w (Below.refl _ _))
    clear k2 h2 k1 HS HC
    go_enter Tryz.func57, Tryz.ntmps57
    go_wp2_with fail
    go_ret
    exact ⟨rfl, HQ.out⟩
  rw [if_neg (by simp)]
  obtain ⟨b1, b2⟩ := dfc_t h2
  clear h2
  by_cases hK : K = 2
  · subst hK
    rw [if_pos rfl]
    clear k2
    go_enter Tryz.func57, Tryz.ntmps57
    go_wp2_with fail
    refine k1.out.mono ?_
    rintro e w1 ⟨rfl, hb⟩
    have HQ := hid (HS.out _ (hb.trans ((one_new w1 (Obj.cells #[.int .i64 2, .int .i64 s1, .int .i64 s2] 135)).mono hb.size)))
    clear k1 hb HS HC
    go_wp2_with fail
    go_ret
    exact ⟨rfl, HQ.out⟩
  rw [if_neg hK]
  cases h3 : dfc g 32
  · rw [if_pos rfl]
    obtain ⟨b3, b4⟩ := dfc_f h3
    clear k2 h3
    go_enter Tryz.func57, Tryz.ntmps57
    go_wp2_with fail
    refine k1.out.mono ?_
    rintro e w1 ⟨rfl, hb⟩
    have HQ := hid (HS.out _ (hb.trans ((one_new w1 (Obj.cells #[.int .i64 K, .int .i64 s1, .int .i64 s2] 135)).mono hb.size)))
    clear k1 hb HS HC
    go_wp2_with fail
    go_ret
    exact ⟨rfl, HQ.out⟩
  rw [if_neg (by simp)]
  obtain ⟨b3, b4⟩ := dfc_t h3
  clear h3
  generalize T.F.resize m 0 = r at k2 ⊢
  obtain ⟨F', E⟩ := r
  dsimp only at k2 ⊢
  go_enter Tryz.func57, Tryz.ntmps57
  go_wp2_with fail
  refine k1.out.mono ?_
  rintro e w1 ⟨rfl, hb⟩
  have hX := hb.trans ((one_new w1 (Obj.cells #[.int .i64 K, .int .i64 s1, .int .i64 s2] 135)).mono hb.size)
  have K2 := hid (k2.out _ hX)
  have cs1 := HC.out _ hX
  clear k1 k2 hb HS HC hX
  go_wp2_with fail
  refine K2.out.mono ?_
  rintro e w2 ⟨rfl, HQ⟩
  clear K2
  go_wp2_with fail
  go_ret
  exact ⟨rfl, HQ.out⟩

end Go.Proofs.YtbglhmcahnkbfaaGreat
