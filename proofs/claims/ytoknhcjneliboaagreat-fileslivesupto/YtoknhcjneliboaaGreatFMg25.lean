/- Texts of this seat, merged. -/
import Derived.Test.YtoknhcjneliboaaGreatFMg24
import Derived.Test.YtoknhcjneliboaaGreatFMg16

/- What Seek, Hold, Drop of open files do (program). (Written by gen_tp7.py.) -/
namespace Go.Proofs.YtoknhcjneliboaaGreat
open Go.RowKit Go.ChangeMaps Go.MapKept
set_option linter.unusedVariables false
set_option maxRecDepth 20000

theorem Ft.base_le {T : Ft} (H : TOk T) (i : Nat) (wh : Int) : 0 ≤ T.base (T.O i) wh ∧ T.base (T.O i) wh ≤ 1048576 := by
  unfold Ft.base
  split
  · exact H.off i
  split
  · have := size_le H.F (T.O i).of.toNat
    omega
  · omega

theorem Ts.seekTo {w : World} {t p q : Nat} {O0 : Nat → Fl} {Gn G : Nat → Prop} {T : Ft} (H : Ts w t p q O0 Gn T) (hG : ∀ b, Foot t q Gn b → G b) (i : Nat) (hi : i < 11) (h0 : (T.O i).h ≠ 0) (X : World) (hX : Below w.heap.size w X) (v : Int) : TpTo w t (T.at_ i { T.O i with off := v }) G (X.setCell ⟨t, 2 + i * 5 + 2, none⟩ (.int .i64 v)) :=
  TpTo.of (updF_off (H.grow hX) i hi h0 v) hG (fun b hb => .inl hb) ((Upd.of_below hX).trans (Upd.setCell (F := (· = t)) X ⟨t, _, none⟩ _ rfl) (fun b _ hb => .inl hb))

set_option maxHeartbeats 8000000 in
theorem tpseek (w : World) (t : Nat) (T : Ft) (G : Nat → Prop) (HP : Tp w t T G) (hT : TOk T) (n off wh : Int) :
    Calls Tryz.prog 27 #[.pointer (some ⟨t, 0, none⟩), .int .i64 n, .int .i64 off, .int .i64 wh] w fun e w' => e = .returned (.tuple #[.int .i64 (T.seek n off wh).2.1, .int .i64 (T.seek n off wh).2.2]) ∧ TpTo w t (T.seek n off wh).1 G w' := by
  have HP0 := HP
  obtain ⟨p, q, O0, Gn, H, hG⟩ := HP
  have k1 := ffile_any w t p q O0 Gn T H n
  unfold fileV at k1
  unfold Ft.seek
  cases hh : T.there n
  · rw [hh, if_neg (by simp)] at k1
    rw [if_pos rfl]
    have K1 := hid k1
    have HQ := hid (TpTo.same HP0 (Below.refl _ w))
    clear k1 H hG HP0 hT hh
    dsimp only
    go_enter Tryz.func27, Tryz.ntmps27
    go_wp2_with fail
    refine K1.out.mono ?_
    rintro e w1 ⟨rfl, rfl⟩
    clear K1
    go_wp2_with fail
    go_ret2
    exact ⟨rfl, HQ.out⟩
  · rw [hh, if_pos rfl] at k1
    rw [if_neg (by simp)]
    obtain ⟨i, rfl, h1, hi, h0⟩ := Ft.there_lt hh
    rw [Int.toNat_natCast] at k1 ⊢
    have K1 := hid k1
    have k2 := H.body hT i hi h0
    by_cases hk : (T.O i).k = 1
    · rw [if_neg (by rw [hk]; simp)]
      rw [hk, bodyV_node] at k2
      have K2 := hid k2
      have HS := hid (fun X (hX : Below w.heap.size w X) => TpTo.same HP0 hX)
      have HM := hid (fun X (hX : Below w.heap.size w X) v => H.seekTo hG i hi h0 X hX v)
      have HC : Hid (∀ X, Below w.heap.size w X → (∃ v, X.cell? ⟨t, 2 + i * 5 + 2, none⟩ = some (.int .i64 v)) ∧ X.frozen? ⟨t, 2 + i * 5 + 2, none⟩ = false) := hid (fun X hX => ⟨⟨_, (H.grow hX).tf.c2 i hi⟩, (H.grow hX).tf.fz _⟩)
      have hfrom : ∀ X, Below w.heap.size w X → Calls Tryz.prog 214 #[.agg #[.pointer (some ⟨p, 0, none⟩), .int .i64 (T.O i).of], .pointer (some ⟨t, 2 + i * 5, none⟩), .int .i64 wh] X fun e w' => e = .returned (if 0 ≤ wh ∧ wh ≤ 2 then .tuple #[.int .i64 (T.base (T.O i) wh), .int .i64 0] else .tuple #[.int .i64 0, .int .i64 22]) ∧ Hid (Below w.heap.size w w') := by
        intro X hX
        have hSX := H.grow hX
        have c2 := hSX.tf.c2 i hi
        rw [H.at i hi h0] at c2
        refine (fnfrom X p T.F Gn hSX.pf hT.F (T.O i).of wh (T.O i).off t (2 + i * 5) c2 hSX.tf.lt).mono ?_
        rintro e w' ⟨rfl, hb⟩
        refine ⟨?_, hid (hX.trans (hb.mono hX.size))⟩
        obtain ⟨m, hm, _, hth, _⟩ := hT.node i hi h0 hk
        have hst := stat_there hth
        rw [Int.toNat_natCast] at hst
        unfold fromV Ft.base
        by_cases e0 : wh = 0
        · subst e0; rfl
        by_cases e1 : wh = 1
        · subst e1; rfl
        by_cases e2 : wh = 2
        · subst e2; rw [hm, hst.1, hst.2.1]; rfl
        rw [if_neg e0, if_neg e1, if_neg e2, if_neg (by omega)]
      have hbs := Ft.base_le hT i wh
      clear k1 k2 H hG HP0 hT hh
      generalize T.base (T.O i) wh = fr at hfrom hbs ⊢
      generalize (T.O i).of = of at K2 hfrom
      have k3 := hid hfrom
      clear hfrom hk h0
      by_cases hw : 0 ≤ wh ∧ wh ≤ 2
      · rw [if_pos hw] at k3
        by_cases c1 : off < -1048576
        · rw [if_pos (by omega)]
          dsimp only
          go_enter Tryz.func27, Tryz.ntmps27
          go_wp2_with fail
          refine K1.out.mono ?_
          rintro e w1 ⟨rfl, rfl⟩
          clear K1
          go_wp2_with fail
          refine K2.out.mono ?_
          rintro e w2 ⟨rfl, hb2⟩
          have K3 := hid (k3.out w2 hb2)
          clear K2 k3 hb2
          have hm := congrFun (congrFun meth_nfrom (.agg #[.pointer (some ⟨p, 0, none⟩), .int .i64 of])) w2
          go_wp2_with fail
          refine K3.out.mono ?_
          rintro e w3 ⟨rfl, H3⟩
          clear K3 hm
          go_wp2_with fail
          go_ret2
          exact ⟨rfl, HS.out _ H3.out⟩
        by_cases c2 : 1048576 < off
        · rw [if_pos (by omega)]
          dsimp only
          go_enter Tryz.func27, Tryz.ntmps27
          go_wp2_with fail
          refine K1.out.mono ?_
          rintro e w1 ⟨rfl, rfl⟩
          clear K1
          go_wp2_with fail
          refine K2.out.mono ?_
          rintro e w2 ⟨rfl, hb2⟩
          have K3 := hid (k3.out w2 hb2)
          clear K2 k3 hb2
          have hm := congrFun (congrFun meth_nfrom (.agg #[.pointer (some ⟨p, 0, none⟩), .int .i64 of])) w2
          go_wp2_with fail
          refine K3.out.mono ?_
          rintro e w3 ⟨rfl, H3⟩
          clear K3 hm
          go_wp2_with fail
          go_ret2
          exact ⟨rfl, HS.out _ H3.out⟩
        have w64 : IntKind.i64.wrap (fr + off) = fr + off := by rw [IntKind.wrap_i64]; omega
        by_cases c3 : fr + off < 0
        · rw [if_pos (by omega)]
          dsimp only
          go_enter Tryz.func27, Tryz.ntmps27
          go_wp2_with fail
          refine K1.out.mono ?_
          rintro e w1 ⟨rfl, rfl⟩
          clear K1
          go_wp2_with fail
          refine K2.out.mono ?_
          rintro e w2 ⟨rfl, hb2⟩
          have K3 := hid (k3.out w2 hb2)
          clear K2 k3 hb2
          have hm := congrFun (congrFun meth_nfrom (.agg #[.pointer (some ⟨p, 0, none⟩), .int .i64 of])) w2
          go_wp2_with fail
          refine K3.out.mono ?_
          rintro e w3 ⟨rfl, H3⟩
          clear K3 hm
          go_wp2_with fail
          go_ret2
          exact ⟨rfl, HS.out _ H3.out⟩
        by_cases c4 : 1048576 < fr + off
        · rw [if_pos (by omega)]
          dsimp only
          go_enter Tryz.func27, Tryz.ntmps27
          go_wp2_with fail
          refine K1.out.mono ?_
          rintro e w1 ⟨rfl, rfl⟩
          clear K1
          go_wp2_with fail
          refine K2.out.mono ?_
          rintro e w2 ⟨rfl, hb2⟩
          have K3 := hid (k3.out w2 hb2)
          clear K2 k3 hb2
          have hm := congrFun (congrFun meth_nfrom (.agg #[.pointer (some ⟨p, 0, none⟩), .int .i64 of])) w2
          go_wp2_with fail
          refine K3.out.mono ?_
          rintro e w3 ⟨rfl, H3⟩
          clear K3 hm
          go_wp2_with fail
          go_ret2
          exact ⟨rfl, HS.out _ H3.out⟩
        rw [if_neg (by omega)]
        dsimp only
        go_enter Tryz.func27, Tryz.ntmps27
        go_wp2_with fail
        refine K1.out.mono ?_
        rintro e w1 ⟨rfl, rfl⟩
        clear K1
        go_wp2_with fail
        refine K2.out.mono ?_
        rintro e w2 ⟨rfl, hb2⟩
        have K3 := hid (k3.out w2 hb2)
        clear K2 k3 hb2
        have hm := congrFun (congrFun meth_nfrom (.agg #[.pointer (some ⟨p, 0, none⟩), .int .i64 of])) w2
        go_wp2_with fail
        refine K3.out.mono ?_
        rintro e w3 ⟨rfl, H3⟩
        obtain ⟨⟨v, c2'⟩, f2⟩ := HC.out w3 H3.out
        have H4 := hid (HM.out w3 H3.out (fr + off))
        clear K3 hm
        go_wp2_with fail
        go_ret2
        exact ⟨rfl, H4.out⟩
      · rw [if_neg hw] at k3
        rw [if_pos (by omega)]
        dsimp only
        go_enter Tryz.func27, Tryz.ntmps27
        go_wp2_with fail
        refine K1.out.mono ?_
        rintro e w1 ⟨rfl, rfl⟩
        clear K1
        go_wp2_with fail
        refine K2.out.mono ?_
        rintro e w2 ⟨rfl, hb2⟩
        have K3 := hid (k3.out w2 hb2)
        clear K2 k3 hb2
        have hm := congrFun (congrFun meth_nfrom (.agg #[.pointer (some ⟨p, 0, none⟩), .int .i64 of])) w2
        go_wp2_with fail
        refine K3.out.mono ?_
        rintro e w3 ⟨rfl, H3⟩
        clear K3 hm
        go_wp2_with fail
        go_ret2
        exact ⟨rfl, HS.out _ H3.out⟩
    · rw [if_pos hk]
      rw [bodyV_end _ _ _ _ (k23 hT h0 hk)] at k2
      have K2 := hid k2
      have HS := hid (fun X (hX : Below w.heap.size w X) => TpTo.same HP0 hX)
      have k3 : Hid (∀ X, Below w.heap.size w X → Calls Tryz.prog 203 #[.agg #[.pointer (some ⟨q, 0, none⟩), .int .i64 (T.O i).of, .bool (decide ((T.O i).k = 3))], .pointer (some ⟨t, 2 + i * 5, none⟩), .int .i64 wh] X fun e w' => e = .returned (.tuple #[.int .i64 0, .int .i64 29]) ∧ Hid (Below w.heap.size w w')) := by
        refine hid (fun X hX => (fefrom X q _ wh _ _).mono ?_)
        rintro e w' ⟨rfl, hb⟩
        exact ⟨rfl, hid (hX.trans (hb.mono hX.size))⟩
      clear k1 k2 H hG HP0 hT hh hk h0
      dsimp only
      generalize (T.O i).of = of at K2 k3
      generalize decide ((T.O i).k = 3) = wr at K2 k3
      go_enter Tryz.func27, Tryz.ntmps27
      go_wp2_with fail
      refine K1.out.mono ?_
      rintro e w1 ⟨rfl, rfl⟩
      clear K1
      go_wp2_with fail
      refine K2.out.mono ?_
      rintro e w2 ⟨rfl, hb2⟩
      have K3 := hid (k3.out w2 hb2)
      clear K2 k3 hb2
      have hm := congrFun (congrFun meth_efrom (.agg #[.pointer (some ⟨q, 0, none⟩), .int .i64 of, .bool wr])) w2
      go_wp2_with fail
      refine K3.out.mono ?_
      rintro e w3 ⟨rfl, H3⟩
      clear K3 hm
      go_wp2_with fail
      go_ret2
      exact ⟨rfl, HS.out _ H3.out⟩

theorem updF_held {w : World} {t p q : Nat} {O0 : Nat → Fl} {Gn : Nat → Prop} {T : Ft} (H : Ts w t p q O0 Gn T) (j : Nat) (hj : j < 11) (hh : (T.O j).h ≠ 0) (v : Int) (x : Fl) (hx : x = clF { T.O j with h := v }) :
    Ts (w.setCell ⟨t, 2 + j * 5 + 4, none⟩ (.int .i64 v)) t p q (updF O0 j { T.O j with h := v }) Gn (T.at_ j x) := by
  have k := H.tf.heldTo j hj v
  rw [H.at j hj hh] at k
  exact H.fil k hx (Upd.setCell (F := (· = t)) w ⟨t, _, none⟩ _ rfl)

set_option maxHeartbeats 2000000 in
theorem tphold (w : World) (t : Nat) (T : Ft) (G : Nat → Prop) (HP : Tp w t T G) (hT : TOk T) (n : Int) :
    Calls Tryz.prog 29 #[.pointer (some ⟨t, 0, none⟩), .int .i64 n] w fun e w' => e = .returned (.int .i64 (T.hold n).2) ∧ TpTo w t (T.hold n).1 G w' := by
  have HP0 := HP
  obtain ⟨p, q, O0, Gn, H, hG⟩ := HP
  have k1 := ffile_any w t p q O0 Gn T H n
  unfold fileV at k1
  unfold Ft.hold
  have HQ := hid (TpTo.same HP0 (Below.refl _ w))
  cases hh : T.there n
  · rw [hh, if_neg (by simp)] at k1
    rw [if_pos rfl]
    have K1 := hid k1
    clear k1 H hG HP0 hT hh
    dsimp only
    go_enter Tryz.func29, Tryz.ntmps29
    go_wp2_with fail
    refine K1.out.mono ?_
    rintro e w1 ⟨rfl, rfl⟩
    clear K1
    go_wp2_with fail
    go_ret
    exact ⟨rfl, HQ.out⟩
  · rw [hh, if_pos rfl] at k1
    rw [if_neg (by simp)]
    obtain ⟨i, rfl, h1, hi, h0⟩ := Ft.there_lt hh
    rw [Int.toNat_natCast] at k1 ⊢
    have K1 := hid k1
    have c4 := H.tf.c4 i hi
    rw [H.h0 i hi] at c4
    have f4 := H.tf.fz (2 + i * 5 + 4)
    have hle := (hT.h i).2
    by_cases h9 : 1000 ≤ (T.O i).h
    · rw [if_pos h9]
      have e9 : (T.O i).h = 1000 := by omega
      rw [e9] at c4
      clear k1 H hG HP0 hT hh h0 hle h9 e9
      dsimp only
      go_enter Tryz.func29, Tryz.ntmps29
      go_wp2_with fail
      refine K1.out.mono ?_
      rintro e w1 ⟨rfl, rfl⟩
      clear K1
      go_wp2_with fail
      go_ret
      exact ⟨rfl, HQ.out⟩
    · rw [if_neg h9]
      have hp := (hT.h i).1
      have H4 : Hid (TpTo w t (T.at_ i { T.O i with h := (T.O i).h + 1 }) G (w.setCell ⟨t, 2 + i * 5 + 4, none⟩ (.int .i64 ((T.O i).h + 1)))) := by
        refine hid (TpTo.of (updF_held H i hi h0 ((T.O i).h + 1) { T.O i with h := (T.O i).h + 1 } (clF_of (x := { T.O i with h := (T.O i).h + 1 }) ?_).symm) hG (fun b hb => .inl hb) (Upd.setCell (F := Foot t q Gn) w ⟨t, _, none⟩ _ (.inl rfl)))
        show (T.O i).h + 1 ≠ 0
        omega
      dsimp only
      clear k1 H hG HP0 hT hh h0 HQ
      generalize T.at_ i _ = T' at H4 ⊢
      generalize (T.O i).h = h at c4 h9 hp hle H4
      have hne : ¬ h = 1000 := by omega
      go_enter Tryz.func29, Tryz.ntmps29
      go_wp2_with fail
      refine K1.out.mono ?_
      rintro e w1 ⟨rfl, rfl⟩
      clear K1
      go_wp2_with fail
      go_ret
      exact ⟨rfl, H4.out⟩

set_option maxHeartbeats 4000000 in
theorem tpdrop (w : World) (t : Nat) (T : Ft) (G : Nat → Prop) (HP : Tp w t T G) (hT : TOk T) (n : Int) :
    Calls Tryz.prog 31 #[.pointer (some ⟨t, 0, none⟩), .int .i64 n] w fun e w' => e = .returned (.int .i64 (T.drop n).2) ∧ TpTo w t (T.drop n).1 G w' := by
  have HP0 := HP
  obtain ⟨p, q, O0, Gn, H, hG⟩ := HP
  have k1 := ffile_any w t p q O0 Gn T H n
  unfold fileV at k1
  unfold Ft.drop
  cases hh : T.there n
  · rw [hh, if_neg (by simp)] at k1
    rw [if_pos rfl]
    have K1 := hid k1
    have HQ := hid (TpTo.same HP0 (Below.refl _ w))
    clear k1 H hG HP0 hT hh
    dsimp only
    go_enter Tryz.func31, Tryz.ntmps31
    go_wp2_with fail
    refine K1.out.mono ?_
    rintro e w1 ⟨rfl, rfl⟩
    clear K1
    go_wp2_with fail
    go_ret
    exact ⟨rfl, HQ.out⟩
  · rw [hh, if_pos rfl] at k1
    rw [if_neg (by simp)]
    obtain ⟨i, rfl, h1, hi, h0⟩ := Ft.there_lt hh
    rw [Int.toNat_natCast] at k1 ⊢
    have K1 := hid k1
    have c4 := H.tf.c4 i hi
    rw [H.h0 i hi] at c4
    have f4 := H.tf.fz (2 + i * 5 + 4)
    have hle := hT.h i
    by_cases h9 : 1 < (T.O i).h
    · rw [if_pos h9]
      have H4 : Hid (TpTo w t (T.at_ i { T.O i with h := (T.O i).h - 1 }) G (w.setCell ⟨t, 2 + i * 5 + 4, none⟩ (.int .i64 ((T.O i).h - 1))) ∧ (w.setCell ⟨t, 2 + i * 5 + 4, none⟩ (.int .i64 ((T.O i).h - 1))).cell? ⟨t, 2 + i * 5 + 4, none⟩ = some (.int .i64 ((T.O i).h - 1))) := by
        have hs := updF_held H i hi h0 ((T.O i).h - 1) { T.O i with h := (T.O i).h - 1 } (clF_of (x := { T.O i with h := (T.O i).h - 1 }) (by show (T.O i).h - 1 ≠ 0; omega)).symm
        have hc := hs.tf.c4 i hi
        rw [updF_same] at hc
        exact hid ⟨TpTo.of hs hG (fun b hb => .inl hb) (Upd.setCell (F := Foot t q Gn) w ⟨t, _, none⟩ _ (.inl rfl)), hc⟩
      dsimp only
      clear k1 H hG HP0 hT hh h0
      generalize T.at_ i _ = T' at H4 ⊢
      generalize (T.O i).h = h at c4 h9 hle H4
      have hh1 : (0 : Int) < h - 1 := by omega
      have d4 := H4.out.2
      go_enter Tryz.func31, Tryz.ntmps31
      go_wp2_with fail
      refine K1.out.mono ?_
      rintro e w1 ⟨rfl, rfl⟩
      clear K1
      go_wp2_with fail
      go_ret
      exact ⟨rfl, H4.out.1⟩
    · rw [if_neg h9]
      have e1 : (T.O i).h = 1 := by omega
      rw [e1] at c4
      obtain ⟨W, gW⟩ : ∃ W, W = w.setCell ⟨t, 2 + i * 5 + 4, none⟩ (.int .i64 0) := ⟨_, rfl⟩
      have hsW : Ts W t p q (updF O0 i { T.O i with h := 0 }) Gn (T.at_ i noFl) := by rw [gW]; exact updF_held H i hi h0 0 noFl (by unfold clF; rw [if_pos rfl])
      have huW : Upd (Foot t q Gn) w W := by rw [gW]; exact Upd.setCell (F := Foot t q Gn) w ⟨t, _, none⟩ _ (.inl rfl)
      have c0 := hsW.tf.c0 i hi
      have c1 := hsW.tf.c1 i hi
      have d4 := hsW.tf.c4 i hi
      rw [updF_same] at c0 c1 d4
      have k2 := body_any W t p q (2 + i * 5) (T.O i).k (T.O i).of hsW.tf.s hsW.tf.p c0 c1 (hT.k i h0)
      by_cases hk : (T.O i).k = 1
      · rw [if_pos hk]
        rw [hk, bodyV_node] at k2
        have K2 := hid k2
        obtain ⟨m, hm, _, _, hp⟩ := hT.node i hi h0 hk
        have hd := drop_h hT.F hp
        have k3 : Hid (∀ X, Below W.heap.size W X → Calls Tryz.prog 213 #[.agg #[.pointer (some ⟨p, 0, none⟩), .int .i64 (T.O i).of]] X fun e w' => e = .returned (.int .i64 0) ∧ Hid (TpTo w t { T with F := (T.F.drop (T.O i).of).1, O := updF T.O i noFl } G w')) := by
          refine hid (fun X hX => ?_)
          have hSX := hsW.grow hX
          refine (fndrop X p T.F Gn hSX.pf hT.F (T.O i).of).mono ?_
          rintro e w' ⟨rfl, hk⟩
          refine ⟨by rw [hm, hd.1], hid (TpTo.of (hSX.sys hk (drop_d _ _)) hG (fun b hb => hb.imp id (fun h => ?_)) ((huW.trans (Upd.of_below (F := Foot t q Gn) hX) (fun _ _ h => h)).trans hk.2 (fun b _ hb => .inr (.inr hb))))⟩
          exact Nat.le_trans (Nat.le_trans huW.size hX.size) h
        dsimp only
        clear k1 k2 H hG HP0 hT hh h0 hsW huW c0 c1 hk hp hd hle h9 hm
        generalize (({ T with F := (T.F.drop (T.O i).of).1, O := updF T.O i noFl } : Ft)) = T' at k3 ⊢
        generalize (T.O i).of = of at K2 k3
        go_enter Tryz.func31, Tryz.ntmps31
        go_wp2_with fail
        refine K1.out.mono ?_
        rintro e w1 ⟨rfl, rfl⟩
        clear K1
        go_wp2_with fail
        rw [← gW]
        refine K2.out.mono ?_
        rintro e w2 ⟨rfl, hb2⟩
        have K3 := hid (k3.out w2 hb2)
        clear K2 k3 hb2 c4 f4 gW d4
        have hm' := congrFun (congrFun meth_ndrop (.agg #[.pointer (some ⟨p, 0, none⟩), .int .i64 of])) w2
        go_wp2_with fail
        refine K3.out.mono ?_
        rintro e w3 ⟨rfl, H3⟩
        clear K3 hm'
        go_wp2_with fail
        go_ret
        exact ⟨rfl, H3.out⟩
      · rw [if_neg hk]
        have hde := hT.drop_end i h1 hi h0 (k23 hT h0 hk)
        rw [bodyV_end _ _ _ _ (k23 hT h0 hk)] at k2
        have K2 := hid k2
        have k3 : Hid (∀ X, Below W.heap.size W X → Calls Tryz.prog 202 #[.agg #[.pointer (some ⟨q, 0, none⟩), .int .i64 (T.O i).of, .bool (decide ((T.O i).k = 3))]] X fun e w' => e = .returned (.int .i64 0) ∧ Hid (TpTo w t { T with P := Pi.dropP T.kp T.P (T.O i).of (decide ((T.O i).k = 3)), O := updF T.O i noFl } G w')) := by
          refine hid (fun X hX => ?_)
          have hSX := hsW.grow hX
          refine (fedrop X q (T.O i).of _ T.kp T.P hSX.tc).mono ?_
          rintro e w' ⟨rfl, hS, hU⟩
          refine ⟨by rw [hde.1], hid (TpTo.of (hSX.pip hS hU) hG (fun b hb => .inl hb) ((huW.trans (Upd.of_below (F := Foot t q Gn) hX) (fun _ _ h => h)).trans hU (fun b _ hb => .inr (.inl hb))))⟩
        dsimp only
        clear k1 k2 H hG HP0 hT hh h0 hsW huW c0 c1 hk hde hle h9
        generalize (({ T with P := Pi.dropP T.kp T.P (T.O i).of (decide ((T.O i).k = 3)), O := updF T.O i noFl } : Ft)) = T' at k3 ⊢
        generalize (T.O i).of = of at K2 k3
        generalize decide ((T.O i).k = 3) = wr at K2 k3
        go_enter Tryz.func31, Tryz.ntmps31
        go_wp2_with fail
        refine K1.out.mono ?_
        rintro e w1 ⟨rfl, rfl⟩
        clear K1
        go_wp2_with fail
        rw [← gW]
        refine K2.out.mono ?_
        rintro e w2 ⟨rfl, hb2⟩
        have K3 := hid (k3.out w2 hb2)
        clear K2 k3 hb2 c4 f4 gW d4
        have hm' := congrFun (congrFun meth_edrop (.agg #[.pointer (some ⟨q, 0, none⟩), .int .i64 of, .bool wr])) w2
        go_wp2_with fail
        refine K3.out.mono ?_
        rintro e w3 ⟨rfl, H3⟩
        clear K3 hm'
        go_wp2_with fail
        go_ret
        exact ⟨rfl, H3.out⟩

end Go.Proofs.YtoknhcjneliboaaGreat

/- A new node of either kind. -/
namespace Go.Proofs.YtoknhcjneliboaaGreat
open Go.RowKit Go.ChangeMaps Go.MapKept
set_option linter.unusedVariables false
set_option maxRecDepth 20000

/-- A new node at a number. -/
def Sg.new (S : Sg) (f : Nat) (k : Int) (mo : Option Nat) : Sg := { S with P := updN S.P f (newNd k mo), L := fun i => if i = f then 0 else S.L i, N := fun i => if i = f then (fun _ => 0) else S.N i }

theorem Sy.new {w : World} {p : Nat} {S : Sg} (h : Sy w p S) (f : Nat) (h1 : f < 17) (h2 : f ≠ 0) (h3 : (S.P f).k = 0) (k : Int) (mo : Option Nat) (hk : k = 2 → mo.isSome = true) (hm : ∀ b, mo = some b → w.heap[b]? = some (.map #[] 0) ∧ b ≠ p ∧ ∀ i, i < 17 → (S.P i).m ≠ some b) : Sy (w.setCells p (1 + f * 107) (nodeC k 1 (.map mo))) p (S.new f k mo) := by
  obtain ⟨C, hb, hc⟩ := h.blk
  have hf1 : f ≠ 1 := fun e => by rw [e, h.root] at h3; omega
  have hl := hc.len
  have hln := nodeC_len k 1 (.map mo)
  have hs : 1 + f * 107 + (nodeC k 1 (.map mo)).length ≤ C.length := by rw [hl, hln]; omega
  have u := upd_setCells p (nodeC k 1 (.map mo)) (1 + f * 107) w
  refine ⟨⟨_, heap_setCells p 103 (nodeC k 1 (.map mo)) _ w C hb hs, hc.put f h1 (newNd k mo) (newNd_ok _ _) (by rw [length_splice _ _ _ hs, hl]) (fun j hj => getElem?_splice_out _ _ _ _ hs (by rw [hln]; omega)) (fun j hj => by rw [ndC_new]; exact getElem?_splice_in C _ (1 + f * 107) j hs (by rw [hln]; exact hj))⟩, ?_, ?_, ?_, ?_, ?_, ?_, ?_, ?_⟩
  · intro i hi
    by_cases e : i = f
    · subst e
      show Nms _ (updN S.P i (newNd k mo) i).m (if i = i then 0 else S.L i) (if i = i then (fun _ => 0) else S.N i)
      rw [updN_same, if_pos rfl, if_pos rfl]
      show Nms _ mo 0 (fun _ => 0)
      cases mo with
      | none => exact ⟨rfl, fun _ => rfl⟩
      | some b =>
        obtain ⟨q1, q2, _⟩ := hm b rfl
        exact nms_empty (c := 0) ((u.block b (Array.getElem?_eq_some_iff.1 q1).1 q2).trans q1)
    · show Nms _ (updN S.P f (newNd k mo) i).m (if i = f then 0 else S.L i) (if i = f then (fun _ => 0) else S.N i)
      rw [updN_ne _ _ _ _ e, if_neg e, if_neg e]
      exact (h.nms i hi).block (fun c hc => u.block c (h.foot_lt c (.inr ⟨i, hi, hc⟩)) (fun q => h.np i hi (q ▸ hc)))
  · intro i s hi
    show (if i = f then (fun _ => 0) else S.N i) s < 17
    split
    · show 0 < 17
      omega
    · exact h.to i s hi
  · intro i hi
    show (if i = f then 0 else S.L i) ≤ 6
    split
    · omega
    · exact h.le i hi
  · intro i j b hi hj q1 q2
    change (updN S.P f (newNd k mo) i).m = some b at q1
    change (updN S.P f (newNd k mo) j).m = some b at q2
    by_cases e : i = f
    · subst e
      rw [updN_same] at q1
      by_cases e' : j = i
      · exact e'.symm
      · rw [updN_ne _ _ _ _ e'] at q2
        exact absurd q2 ((hm b q1).2.2 j hj)
    · by_cases e' : j = f
      · subst e'
        rw [updN_same] at q2
        rw [updN_ne _ _ _ _ e] at q1
        exact absurd q1 ((hm b q2).2.2 i hi)
      · rw [updN_ne _ _ _ _ e] at q1
        rw [updN_ne _ _ _ _ e'] at q2
        exact h.ap i j b hi hj q1 q2
  · intro i hi
    show (updN S.P f (newNd k mo) i).m ≠ some p
    by_cases e : i = f
    · subst e
      rw [updN_same]
      intro q
      exact (hm p q).2.1 rfl
    · rw [updN_ne _ _ _ _ e]; exact h.np i hi
  · intro i hi q
    change (updN S.P f (newNd k mo) i).k = 2 at q
    show (updN S.P f (newNd k mo) i).m.isSome = true
    by_cases e : i = f
    · subst e; rw [updN_same] at q ⊢; exact hk q
    · rw [updN_ne _ _ _ _ e] at q ⊢; exact h.dir i hi q
  · show (updN S.P f (newNd k mo) 1).k = 2
    rw [updN_ne _ _ _ _ (fun e => hf1 e.symm)]; exact h.root
  · show (updN S.P f (newNd k mo) 0).k = 0
    rw [updN_ne _ _ _ _ (fun e => h2 e.symm)]; exact h.zero


theorem Rel.new {S : Sg} {F : Fs} (R : Rel S F) (f : Nat) (k : Int) (mo : Option Nat) (h0 : (F.P f).Q = []) : Rel (S.new f k mo) (F.at_ f (Fn.nu k)) := by
  refine ⟨R.d, R.T, fun j hj => ?_, fun j hj => ?_, fun j hj s => ?_⟩
  · show NdR (updN S.P f (newNd k mo) j) _
    rw [Fs.at_P]
    by_cases e : j = f
    · subst e; rw [updN_same, if_pos rfl]; exact NdR.nu k mo
    · rw [updN_ne _ _ _ _ e, if_neg e]; exact R.P j hj
  · show (if j = f then 0 else S.L j) = _
    rw [Fs.at_P]
    split
    · rfl
    · exact R.L j hj
  · show (if j = f then (fun _ => 0) else S.N j) s = _
    rw [Fs.at_P]
    split
    · rfl
    · exact R.N j hj s

/-- What newNode makes of either kind. -/
theorem newany (kind : Int) (hk : kind = 1 ∨ kind = 2) (w : World) :
    Calls Tryz.prog 51 #[.int .i64 kind] w fun e w' => ∃ mo : Option Nat, e = .returned (.agg (nodeC kind 1 (.map mo)).toArray) ∧ (kind = 2 → mo.isSome = true) ∧ (∀ b, mo = some b → w'.heap[b]? = some (.map #[] 0) ∧ w.heap.size ≤ b) ∧ Below w.heap.size w w' := by
  rcases hk with rfl | rfl
  · refine (newfile w).mono ?_
    rintro e w' ⟨rfl, h⟩
    exact ⟨none, rfl, fun q => by omega, fun b q => by simp at q, h⟩
  · refine (newnode w).mono ?_
    rintro e w' ⟨rfl, h2, h3, h4⟩
    exact ⟨some (w.heap.size + 2), rfl, fun _ => rfl, fun b q => by injection q with q; subst q; exact ⟨h4, by omega⟩, h2⟩

theorem Rel.free {S : Sg} {F : Fs} (R : Rel S F) : Free S.P F.free := by
  unfold Fs.free
  cases q : (List.range' 1 16).find? (fun i => decide ((F.P i).k = 0)) with
  | none =>
    refine .inl ⟨rfl, fun i h1 h2 => ?_⟩
    have := List.find?_eq_none.1 q i (by rw [List.mem_range'_1]; omega)
    rw [(R.P i h2).k]
    simpa using this
  | some i =>
    have h1 := List.find?_some q
    have h2 := List.mem_of_find?_eq_some q
    simp at h1
    rw [List.mem_range'_1] at h2
    refine .inr ⟨by show 1 ≤ i; omega, by show i < 17; omega, by show (S.P i).k = 0; rw [(R.P i (by omega)).k]; exact h1, fun j j1 j2 => ?_⟩
    change j < i at j2
    rw [(R.P j (by omega)).k]
    obtain ⟨_, l1, l2, e, hn⟩ := List.find?_eq_some_iff_append.1 q
    have hj : j ∈ l1 := by
      have hm : j ∈ List.range' 1 16 := by rw [List.mem_range'_1]; omega
      rw [e] at hm
      rcases List.mem_append.1 hm with h | h
      · exact h
      · have hs : (List.range' 1 16).Pairwise (· < ·) := List.pairwise_lt_range'
        rw [e] at hs
        rcases List.mem_cons.1 h with h | h
        · omega
        · have := (List.pairwise_cons.1 (List.pairwise_append.1 hs).2.1).1 j h
          omega
    have := hn j hj
    simpa using this

end Go.Proofs.YtoknhcjneliboaaGreat

/- What Make does to any system. -/
namespace Go.Proofs.YtoknhcjneliboaaGreat
open Go.RowKit Go.ChangeMaps Go.MapKept
set_option linter.unusedVariables false
set_option maxRecDepth 20000

/-- What Make of a directory comes to. -/
def MadD (S : Sg) (p f : Nat) (w w' : World) (e : Ending) : Except Int (List Nat × List UInt8 × Nat) → Prop
  | .error er => e = .returned (.tuple #[.int .i64 0, .int .i64 er]) ∧ Sy w' p S ∧ Below w.heap.size w w'
  | .ok (y, s, _) => ∃ b, e = .returned (.tuple #[.int .i64 (f : Int), .int .i64 0]) ∧ w.heap.size ≤ b ∧ Sy w' p ((S.new f 2 (some b)).put (y.getLastD 0) s f) ∧ Upd (S.foot p) w w'

set_option maxHeartbeats 8000000 in
set_option maxRecDepth 20000 in
theorem make_dir (p : Nat) (S : Sg) (t : ByteArray) (w : World) (H : Sy w p S) (hT : Tree S) (hs : t.size ≤ 140737488355328) (f : Nat) (hf : Free S.P f) (hf0 : f ≠ 0) :
    Calls Tryz.prog 94 #[.pointer (some ⟨p, 0, none⟩), .string t, .int .i64 2] w fun e w' => MadD S p f w w' e (toNew S.L (wkS S t)) := by
  obtain ⟨R, gR⟩ : ∃ R, R = toNew S.L (wkS S t) := ⟨_, rfl⟩
  rw [← gR]
  have k0 := hid H.usable
  have k1 := hid (tonew_any p S t w H hT hs)
  rw [← gR] at k1
  have HS := hid H
  have hf17 : f < 17 ∧ (S.P f).k = 0 := by
    rcases hf with ⟨e, _⟩ | ⟨_, h2, h3, _⟩
    · exact absurd e hf0
    · exact ⟨h2, h3⟩
  have GR := hid gR
  have HF := hid hf
  clear H gR hf
  go_enter Tryz.func94, Tryz.ntmps94
  go_wp2_with fail
  refine k0.out.mono ?_
  rintro e w1 ⟨rfl, rfl⟩
  clear k0
  go_wp2_with fail
  refine k1.out.mono ?_
  rintro e w2 ⟨v, rfl, hb2, hv⟩
  have HB2 := hid hb2
  clear k1 hb2
  cases R with
  | error er =>
    obtain rfl : v = _ := hv
    have her : ¬ er = 0 := toNew_err GR.out.symm
    go_wp2_with fail
    go_ret2
    exact ⟨rfl, HS.out.grow (HB2.out.trans ((one_new w2 _).mono HB2.out.size)), HB2.out.trans ((one_new w2 _).mono HB2.out.size)⟩
  | ok q =>
    obtain ⟨y, s, n⟩ := q
    obtain ⟨hr, hn0, hL⟩ := toNew_ok GR.out.symm
    obtain ⟨u, rfl, yv, nm, rfl, hnm, hown⟩ := hv
    obtain ⟨d, hd, hd17, hdk, hnd, hsn, hsl⟩ := wkS_ok HS.out hr
    obtain ⟨gy, cy, rfl, hy0, hgy, hcy, hyc, hcm⟩ := last_own hown hd
    have hdL : y.getLastD 0 = d := by rw [List.getLastD_eq_getLast?, hd]; rfl
    rw [hdL] at hL
    subst hn0
    have HNM := hid hnm
    have HD := hid (And.intro hd17 (And.intro hdk (And.intro hnd.symm (And.intro hL (And.intro hdL (And.intro hsl hsn))))))
    have hgb := (hown.lt gy rfl).1
    obtain ⟨W3, g3⟩ : ∃ W3, W3 = w2.alloc (Obj.cells #[.slice (some ⟨gy, 0, none⟩) y.length cy, .string nm, .int .i64 0] 184) := ⟨_, rfl⟩
    have hP3 : W3.heap[w2.heap.size]? = some (.cells #[.slice (some ⟨gy, 0, none⟩) y.length cy, .string nm, .int .i64 0] 184 (0, 0)) := by rw [g3]; exact heap_alloc_new w2 _
    have hB3 : Below w1.heap.size w1 W3 := by rw [g3]; exact HB2.out.trans ((one_new w2 _).mono HB2.out.size)
    have hZ3 : w2.heap.size < W3.heap.size ∧ gy < W3.heap.size := by rw [g3]; simp; omega
    have hC3 : W3.cell? ⟨gy, y.length - 1, none⟩ = some (.int .i64 (d : Int)) := by rw [g3]; exact ((one_new w2 _).cell (p := ⟨gy, y.length - 1, none⟩) hgy).trans hcy
    have hS3 : Sy W3 p S := HS.out.grow hB3
    obtain ⟨bm, gbm⟩ : ∃ bm, bm = W3.heap.size + 2 := ⟨_, rfl⟩
    have GBM := hid gbm
    have HBM : Hid (w1.heap.size ≤ bm ∧ bm ≠ p ∧ ∀ j, j < 17 → (S.P j).m ≠ some bm) := hid ⟨by have := hB3.size; omega, by have := hS3.lt; omega, fun j hj e => by have := hS3.foot_lt _ (.inr ⟨j, hj, e⟩); omega⟩
    clear gbm
    clear hr hnd hsn hsl hd hdk hd17 hown hcy hnm hL hdL
    obtain ⟨a0, a1, a2, _, _, _⟩ := plc_cells hP3
    have hf1 : ¬ (f : Int) = 0 := by omega
    have k3 : Hid (Calls Tryz.prog 130 #[.pointer (some ⟨p, 0, none⟩)] W3 fun e w' => e = .returned (.int .i64 (f : Int)) ∧ w' = W3) := by
      refine hid ((freen_any p S W3 hS3).mono ?_)
      rintro e w' ⟨⟨n, rfl, h⟩, rfl⟩
      rw [h.uniq HF.out]
      exact ⟨rfl, rfl⟩
    obtain ⟨N1, gN⟩ : ∃ N1, N1 = nodeC 2 1 (.map (some bm)) := ⟨_, rfl⟩
    have l1 : Hid (N1.length = 107) := by rw [gN]; exact nodeC_len _ _ _
    have o1 : Hid (N1.toArray.all (·.oneCell') = true) := by rw [gN]; exact nodeC_one _ _ _
    have csz : Hid ((Tryz.prog.info? 99).map (·.size) = some N1.toArray.size) := by rw [csizeNode, List.size_toArray, l1.out]; exact hid rfl
    have kn : Hid (Calls Tryz.prog 51 #[.int .i64 2] W3.drew fun e w' => e = .returned (.agg N1.toArray) ∧ Hid (Below W3.heap.size W3 w') ∧ Hid (w'.heap[bm]? = some (.map #[] 0))) := by
      refine hid ((newnode W3.drew).mono ?_)
      rintro e w' ⟨rfl, h, _, h4⟩
      rw [show W3.drew.heap.size + 2 = bm from GBM.out.symm] at h4 ⊢
      rw [gN]
      exact ⟨rfl, hid ((Below.refl _ W3).drew.trans h), hid h4⟩
    have HP : Hid (∀ W, Hid (Below W3.heap.size W3 W) → W.there p (1 + f * 107) N1.length) := hid (fun W hW => by rw [l1.out]; exact (hS3.grow hW.out).th f hf17.1)
    have hf0' : (0 : Int) ≤ (f : Int) := by omega
    have hf2 : (f : Int) < 17 := by omega
    have HS3 := hid hS3
    have HP3 := hid hP3
    have HB3 := hid hB3
    have HZ3 := hid hZ3
    have HC3 := hid hC3
    have GN := hid gN
    clear hS3 hP3 hB3 hZ3 hC3 gN
    go_wp2_with fail
    rw [← g3]
    clear g3
    refine k3.out.mono ?_
    rintro e w4 ⟨rfl, rfl⟩
    clear k3
    go_wp2_with fail
    go_region_held3 (fun _ => True) (trivial) ((go_at_call 51; refine kn.out.mono ?_; rintro e w5 ⟨rfl, hb5, hm5⟩; have hst := run_cells_mid (P := Tryz.prog) w5 p (1 + f * 107) N1 (HP.out w5 hb5) o1.out))
    obtain ⟨W6, g6⟩ : ∃ W6, W6 = w5.setCells p (1 + f * 107) N1 := ⟨_, rfl⟩
    rw [← g6]
    have hS6 : Sy W6 p (S.new f 2 (some bm)) := by rw [g6, GN.out]; exact (HS3.out.grow hb5.out).new f hf17.1 hf0 hf17.2 2 (some bm) (fun _ => rfl) (fun b hb => by injection hb with hb; subst hb; exact ⟨hm5.out, HBM.out.2.1, HBM.out.2.2⟩)
    have u6 : Upd (· = p) w5 W6 := by rw [g6]; exact upd_setCells _ _ _ _
    have hpl := HS.out.lt
    have hb1s := HB2.out.size
    have hP6 : W6.heap[w2.heap.size]? = some (.cells #[.slice (some ⟨gy, 0, none⟩) y.length cy, .string nm, .int .i64 0] 184 (0, 0)) := u6.heap ((hb5.out.block _ HZ3.out.1).trans HP3.out) (by omega)
    have hC6 : W6.cell? ⟨gy, y.length - 1, none⟩ = some (.int .i64 (d : Int)) := (World.cell?_of_block (a := ⟨gy, y.length - 1, none⟩) (u6.block gy (Nat.lt_of_lt_of_le HZ3.out.2 hb5.out.size) (by omega))).trans ((hb5.out.cell (p := ⟨gy, y.length - 1, none⟩) HZ3.out.2).trans HC3.out)
    have hG6 : gy < W6.heap.size := Nat.lt_of_lt_of_le (Nat.lt_of_lt_of_le HZ3.out.2 hb5.out.size) u6.size
    obtain ⟨d17, dk, dn, dl, dL, dsl, dsn⟩ := HD.out
    have hdf : d ≠ f := fun e => by rw [e, hf17.2] at dk; omega
    have hnmz : nm.size ≤ 6 := by have := bl_len nm; rw [HNM.out] at this; omega
    have k6 := hid (give_any p (S.new f 2 (some bm)) W6 hS6 gy y.length cy d nm 0 f hy0 hC6 hG6 hyc hcm d17 (by show (updN S.P f _ d).k = 2; rw [updN_ne _ _ _ _ hdf]; exact dk) (by show (if d = f then (fun _ => 0) else S.N d) (bl nm) = 0; rw [if_neg hdf, HNM.out]; exact dn) (by show (if d = f then 0 else S.L d) < 6; rw [if_neg hdf]; exact dl) hf17.1 hf0 (by omega))
    have hU6 : Upd (S.foot p) w1 W6 := (Upd.of_below (HB3.out.trans (hb5.out.mono HB3.out.size))).trans u6 (fun x _ hx => .inl hx)
    have HU6 := hid hU6
    have HDF := hid hdf
    obtain ⟨b0, b1, b2, _, _, _⟩ := plc_cells hP6
    have HDL := hid dL
    clear hS6 u6 hP6 hC6 hG6 d17 dk dn dl dL dsl dsn hdf hnmz hU6 g6 a0 a1 a2 hst kn HP hb1s hpl hgb
    go_wp2_with fail
    refine k6.out.mono ?_
    rintro e w7 ⟨rfl, h7, u7⟩
    have H7 := hid h7
    have U7 := hid u7
    clear k6 h7 u7
    go_wp2_with fail
    go_ret2
    refine ⟨bm, rfl, HBM.out.1, ?_, HU6.out.trans U7.out (fun x _ hx => .inr ⟨d, (HD.out).1, ?_⟩)⟩
    · rw [HDL.out, ← HNM.out]; exact H7.out
    · have : ((S.new f 2 (some bm)).P d).m = (S.P d).m := by show (updN S.P f _ d).m = _; rw [updN_ne _ _ _ _ HDF.out]
      rw [← this]; exact hx


end Go.Proofs.YtoknhcjneliboaaGreat

/- What Make does to any system, of any kind. -/
namespace Go.Proofs.YtoknhcjneliboaaGreat
open Go.RowKit Go.ChangeMaps Go.MapKept
set_option linter.unusedVariables false
set_option maxRecDepth 20000

set_option maxHeartbeats 1000000 in
theorem make_bad (p : Nat) (S : Sg) (t : ByteArray) (w : World) (H : Sy w p S) (kind : Int) (h1 : kind ≠ 1) (h2 : kind ≠ 2) :
    Calls Tryz.prog 94 #[.pointer (some ⟨p, 0, none⟩), .string t, .int .i64 kind] w fun e w' => e = .returned (.tuple #[.int .i64 0, .int .i64 22]) ∧ w' = w := by
  have k0 := hid H.usable
  have h3 : (kind == 1) = false := by simpa using h1
  have h4 : (kind == 2) = false := by simpa using h2
  have h5 : (kind != 1) = true := by simpa using h1
  have h6 : (kind != 2) = true := by simpa using h2
  clear H
  go_enter Tryz.func94, Tryz.ntmps94
  go_wp2_with fail
  refine k0.out.mono ?_
  rintro e w1 ⟨rfl, rfl⟩
  clear k0
  go_wp2_with fail
  go_ret2
  exact ⟨rfl, rfl⟩

set_option maxHeartbeats 1000000 in
theorem make_err (p : Nat) (S : Sg) (t : ByteArray) (w : World) (H : Sy w p S) (hT : Tree S) (hs : t.size ≤ 140737488355328) (kind : Int) (hk : kind = 1 ∨ kind = 2) (er : Int) (hr : toNew S.L (wkS S t) = .error er) :
    Calls Tryz.prog 94 #[.pointer (some ⟨p, 0, none⟩), .string t, .int .i64 kind] w fun e w' => e = .returned (.tuple #[.int .i64 0, .int .i64 er]) ∧ Below w.heap.size w w' := by
  have k0 := hid H.usable
  have k1 := hid (tonew_any p S t w H hT hs)
  rw [hr] at k1
  have her : ¬ er = 0 := toNew_err hr
  clear H hr
  rcases hk with rfl | rfl
  all_goals
    go_enter Tryz.func94, Tryz.ntmps94
    go_wp2_with fail
    refine k0.out.mono ?_
    rintro e w1 ⟨rfl, rfl⟩
    clear k0
    go_wp2_with fail
    refine k1.out.mono ?_
    rintro e w2 ⟨v, rfl, hb2, hv⟩
    have HB2 := hid hb2
    clear k1 hb2
    obtain rfl : v = _ := hv
    go_wp2_with fail
    go_ret2
    exact ⟨rfl, HB2.out.trans ((one_new w2 _).mono HB2.out.size)⟩

set_option maxHeartbeats 2000000 in
theorem make_full1 (p : Nat) (S : Sg) (t : ByteArray) (w : World) (H : Sy w p S) (hT : Tree S) (hs : t.size ≤ 140737488355328) (hf : Free S.P 0) (y : List Nat) (s : List UInt8) (n : Nat) (hr : toNew S.L (wkS S t) = .ok (y, s, n)) (kind : Int) (hk : kind = 1 ∨ kind = 2) :
    Calls Tryz.prog 94 #[.pointer (some ⟨p, 0, none⟩), .string t, .int .i64 kind] w fun e w' => e = .returned (.tuple #[.int .i64 0, .int .i64 28]) ∧ Below w.heap.size w w' := by
  have k0 := hid H.usable
  have k1 := hid (tonew_any p S t w H hT hs)
  rw [hr] at k1
  have HS := hid H
  have HF := hid hf
  obtain ⟨d, HD⟩ : ∃ d, Hid (y.getLast? = some d) := by obtain ⟨d, hd, _⟩ := wkS_ok H (toNew_ok hr).1; exact ⟨d, hid hd⟩
  clear H hf hr
  rcases hk with rfl | rfl
  all_goals
    go_enter Tryz.func94, Tryz.ntmps94
    go_wp2_with fail
    refine k0.out.mono ?_
    rintro e w1 ⟨rfl, rfl⟩
    clear k0
    go_wp2_with fail
    refine k1.out.mono ?_
    rintro e w2 ⟨v, rfl, hb2, hv⟩
    have HB2 := hid hb2
    clear k1 hb2
    obtain ⟨u, rfl, yv, nm, rfl, hnm, hown⟩ := hv
    obtain ⟨gy, cy, rfl, _⟩ := last_own hown HD.out
    obtain ⟨W3, g3⟩ : ∃ W3, W3 = w2.alloc (Obj.cells #[.slice (some ⟨gy, 0, none⟩) y.length cy, .string nm, .int .i64 (n : Int)] 184) := ⟨_, rfl⟩
    have hB3 : Below w1.heap.size w1 W3 := by rw [g3]; exact HB2.out.trans ((one_new w2 _).mono HB2.out.size)
    have k3 : Hid (Calls Tryz.prog 130 #[.pointer (some ⟨p, 0, none⟩)] W3 fun e w' => e = .returned (.int .i64 0) ∧ w' = W3) := by
      refine hid ((freen_any p S W3 (HS.out.grow hB3)).mono ?_)
      rintro e w' ⟨⟨n, rfl, h⟩, rfl⟩
      rw [h.uniq HF.out]
      exact ⟨rfl, rfl⟩
    have HB3 := hid hB3
    clear hB3 hown hnm
    go_wp2_with fail
    rw [← g3]
    clear g3
    refine k3.out.mono ?_
    rintro e w4 ⟨rfl, rfl⟩
    clear k3
    go_wp2_with fail
    go_ret2
    exact ⟨rfl, HB3.out⟩

theorem foot_new {S : Sg} {p f : Nat} {k : Int} {mo : Option Nat} (b : Nat) (h : (S.new f k mo).foot p b) : S.foot p b ∨ mo = some b := by
  rcases h with h | ⟨j, hj, h⟩
  · exact .inl (.inl h)
  · change (updN S.P f (newNd k mo) j).m = some b at h
    by_cases e : j = f
    · subst e; rw [updN_same] at h; exact .inr h
    · rw [updN_ne _ _ _ _ e] at h; exact .inl (.inr ⟨j, hj, h⟩)
theorem file_new (S : Sg) (f : Nat) : S.file f = S.new f 1 none := rfl

theorem pmake (p : Nat) (F : Fs) (G : Nat → Prop) (w : World) (H : Pf w p F G) (hF : FOk F) (t : ByteArray) (hs : t.size ≤ 140737488355328) (kind : Int) :
    Calls Tryz.prog 94 #[.pointer (some ⟨p, 0, none⟩), .string t, .int .i64 kind] w fun e w' => e = .returned (.tuple #[.int .i64 ((F.make (bl t) kind).2.1 : Int), .int .i64 (F.make (bl t) kind).2.2]) ∧ PfTo w p (F.make (bl t) kind).1 G w' := by
  have HP := H
  obtain ⟨S, HS, R, hG⟩ := H
  by_cases hb : kind ≠ 1 ∧ kind ≠ 2
  · have e : F.make (bl t) kind = (F, 0, 22) := by unfold Fs.make; rw [if_pos hb]
    rw [e]
    refine (make_bad p S t w HS kind hb.1 hb.2).mono ?_
    rintro e w' ⟨rfl, rfl⟩
    exact ⟨rfl, PfTo.same HP (Below.refl _ _)⟩
  have hk : kind = 1 ∨ kind = 2 := by omega
  have hT := R.tree hF
  have hN := toNew_fs (t := t) HS R hF
  have hfree := R.free
  cases hr : toNew S.L (wkS S t) with
  | error er =>
    have e : F.make (bl t) kind = (F, 0, er) := by
      rw [hN] at hr
      unfold Fs.make
      rw [if_neg hb]
      cases hw : F.walk (bl t) with
      | error a => rw [hw] at hr; simp only [toNew, Except.error.injEq] at hr; rw [hr]
      | ok q =>
        obtain ⟨y, s, n⟩ := q
        rw [hw] at hr
        simp only [toNew] at hr
        dsimp only
        by_cases h0 : n ≠ 0
        · rw [if_pos h0] at hr ⊢; simp only [Except.error.injEq] at hr; rw [hr]
        · rw [if_neg h0] at hr ⊢
          by_cases h6 : 6 ≤ (F.P (Fs.dirOf y)).Q.length
          · rw [if_pos h6]; rw [if_pos (show 6 ≤ (F.P (y.getLastD 0)).Q.length from h6)] at hr; simp only [Except.error.injEq] at hr; rw [hr]
          · rw [if_neg (show ¬ 6 ≤ (F.P (y.getLastD 0)).Q.length from h6)] at hr; simp at hr
    rw [e]
    refine (make_err p S t w HS hT hs kind hk er hr).mono ?_
    rintro e w' ⟨rfl, h⟩
    exact ⟨rfl, PfTo.same HP h⟩
  | ok q =>
    obtain ⟨y, s, n⟩ := q
    have hr2 := hr
    rw [hN] at hr2
    obtain ⟨hw, hn0, hL⟩ := toNew_ok hr2
    have W := hF.walk_ok hw
    have h6 : ¬ 6 ≤ (F.P (Fs.dirOf y)).Q.length := by have : (F.P (Fs.dirOf y)).Q.length < 6 := hL; omega
    by_cases hf0 : F.free = 0
    · have e : F.make (bl t) kind = (F, 0, 28) := by
        unfold Fs.make
        rw [if_neg hb, hw]
        dsimp only
        rw [if_neg (fun q => q hn0), if_neg h6, if_pos hf0]
      rw [e]
      rw [hf0] at hfree
      refine (make_full1 p S t w HS hT hs hfree y s n hr kind hk).mono ?_
      rintro e w' ⟨rfl, h⟩
      exact ⟨rfl, PfTo.same HP h⟩
    · have e : F.make (bl t) kind = ((F.at_ F.free (Fn.nu kind)).addn (Fs.dirOf y) s F.free, F.free, 0) := by
        unfold Fs.make
        rw [if_neg hb, hw]
        dsimp only
        rw [if_neg (fun q => q hn0), if_neg h6, if_neg hf0]
      rw [e]
      obtain ⟨f1, f2, f3⟩ := Fs.free_lt hf0
      have h0 := hF.none _ f3
      have hdf : Fs.dirOf y ≠ F.free := fun e => by have := W.k; rw [e] at this; omega
      have hFn := hF.new F.free kind f1 f2 f3 hk
      have hs0 : lk (((F.at_ F.free (Fn.nu kind))).P (Fs.dirOf y)).Q s = 0 := by rw [Fs.at_ne _ _ _ _ hdf, ← W.nn]; exact hn0
      rcases hk with rfl | rfl
      · refine (make_file p S t w HS hT hs F.free hfree hf0).mono ?_
        rintro e w' h
        rw [hr] at h
        obtain ⟨rfl, h1, u⟩ := h
        refine ⟨rfl, PfTo.of hG h1 ?_ (fun x hx => ?_) u⟩
        · exact (R.new F.free 1 none (by rw [h0]; rfl)).put hFn _ s F.free hs0
        · rcases foot_new (S := S) (p := p) (f := F.free) (k := 1) (mo := none) x hx with q | q
          · exact .inl q
          · simp at q
      · refine (make_dir p S t w HS hT hs F.free hfree hf0).mono ?_
        rintro e w' h
        rw [hr] at h
        obtain ⟨b, rfl, hbw, h1, u⟩ := h
        refine ⟨rfl, PfTo.of hG h1 ?_ (fun x hx => ?_) u⟩
        · exact (R.new F.free 2 (some b) (by rw [h0]; rfl)).put hFn _ s F.free hs0
        · rcases foot_new (S := S) (p := p) (f := F.free) (k := 2) (mo := some b) x hx with q | q
          · exact .inl q
          · injection q with q; subst q; exact .inr hbw

end Go.Proofs.YtoknhcjneliboaaGreat

/- What free, findOrMake, ready do (program). -/
namespace Go.Proofs.YtoknhcjneliboaaGreat
open Go.RowKit Go.ChangeMaps Go.MapKept
set_option linter.unusedVariables false
set_option maxRecDepth 20000

theorem infoI8 : (Tryz.prog.info? 3).map (fun i => (i.zero, i.size, i.bytes)) = some (some (.int .i64 0), 1, 8) := by kernel_rfl
theorem ofL_congr {O O' : Nat → Fl} : ∀ n, (∀ i, i < n → (O i).h = (O' i).h) → ofL O n = ofL O' n
  | 0, _ => rfl
  | n + 1, h => by
    unfold ofL
    rw [ofL_congr n (fun i hi => h i (by omega)), h n (by omega)]

set_option maxHeartbeats 2000000 in
theorem ffree_any (w : World) (t p q : Nat) (F : Nat → Fl) (H : Tf w t p q F) : Calls Tryz.prog 52 #[.pointer (some ⟨t, 0, none⟩)] w fun e w' => (∃ v, e = .returned v ∧ w'.ownsRow w.heap.size 3 1 v (ofL F 11).length ((ofL F 11).map fun (i : Nat) => Value.int .i64 (i : Int))) ∧ Below w.heap.size w w' := by
  obtain ⟨i0, hi0, hz0, hz1, hz2⟩ := info_parts infoI8
  have HH := hid H
  clear H
  go_enter Tryz.func52, Tryz.ntmps52
  go_wp2_with fail
  go_loopw [3, 4] (fun v k wr => ∃ j : Nat, 1 ≤ j ∧ j ≤ 11 ∧ k = .int .i64 (j : Int) ∧ Hid (wr.ownsRow w.heap.size 3 1 v (ofL F j).length ((ofL F j).map fun (i : Nat) => Value.int .i64 (i : Int)) ∧ Below w.heap.size w wr)) (fun _ k _ => 11 - (intOf k).toNat)
  case atStart => exact ⟨1, by omega, by omega, rfl, hid ⟨World.ownsRow_nil _ _ _ _, Below.refl _ _⟩⟩
  case round =>
    obtain ⟨j, hj1, hj11, rfl, HQ⟩ := hrel
    by_cases e : j = 11
    · subst e
      go_wp2_with fail
      go_ret
      exact ⟨⟨_, rfl, HQ.out.1⟩, HQ.out.2⟩
    · have hj : j < 11 := by omega
      have hj2 : (j : Int) ≤ 10 := by omega
      have hj3 : (j : Int) < 11 := by omega
      have hj0 : (0 : Int) ≤ (j : Int) := by omega
      have c4 := (HH.out.grow HQ.out.2).c4 j hj
      have hfl := ofL_le F j
      clear e
      by_cases h0 : (F j).h = 0
      · rw [h0] at c4
        have HC : Hid (ofL F (j + 1) = ofL F j ++ [j]) := hid (by rw [ofL, if_pos ⟨hj1, h0⟩])
        have hsz := HQ.out.2.size
        clear h0
        go_wp2_with (at_builtin; go_must (refine wpList_append_own _ rfl (.tmp 17) (.tmp 19) 44 rfl w.heap.size 3 i0 _ 1 8 Tryz.underlying44 hi0 hz0 hz1 hz2 rfl (by decide) _ (ofL F j).length ((ofL F j).map fun (i : Nat) => Value.int .i64 (i : Int)) rfl (HQ.out.1.alloc _) ⟨_, 0, none⟩ 1 1 [.int .i64 (j : Int)] rfl rfl (cell_one_new _ _ _) (by simp [Value.oneCell']) (by unfold maxLen; omega) (by omega) (by simp; omega) ?_))
        intro v' w6 hO6 hG6 hN6
        have hb6 : Below w.heap.size w w6 := by
          have u : Upd _ _ w6 := Upd.of_grown hG6
          refine (HQ.out.2.trans ((one_new wr _).mono hsz)).trans (u.below (by simp; omega) (fun k hk => ?_))
          exact (HQ.out.1.lt k hk.symm).1
        have HQ6 : Hid (w6.ownsRow w.heap.size 3 1 v' (ofL F (j + 1)).length ((ofL F (j + 1)).map fun (i : Nat) => Value.int .i64 (i : Int)) ∧ Below w.heap.size w w6) := by
          rw [HC.out]
          refine hid ⟨?_, hb6⟩
          simpa using hO6
        clear hO6 hG6 hN6 hb6
        go_wp2_with fail
        go_roundw
        case rel => exact ⟨j + 1, by omega, by omega, by go_num, HQ6⟩
        case measure => simp [intOf]; omega
      · have HC : Hid (ofL F (j + 1) = ofL F j) := hid (by rw [ofL, if_neg (fun e => h0 e.2)]; simp)
        obtain ⟨n, gn⟩ : ∃ n, n = (F j).h := ⟨_, rfl⟩
        rw [← gn] at c4 h0
        clear gn
        go_wp2_with fail
        go_roundw
        case rel => exact ⟨j + 1, by omega, by omega, by go_num, by rw [HC.out]; exact HQ⟩
        case measure => simp [intOf]; omega

theorem dfc_t {g b : Int} (h : dfc g b = true) : (bits BinOp.and IntKind.i64 g b == 0) = false ∧ (bits BinOp.and IntKind.i64 g b != 0) = true := by
  unfold dfc at h
  simp at h
  simp [h]
theorem dfc_f {g b : Int} (h : dfc g b = false) : (bits BinOp.and IntKind.i64 g b == 0) = true ∧ (bits BinOp.and IntKind.i64 g b != 0) = false := by
  unfold dfc at h
  simp at h
  simp [h]

/-- The system turns alone. -/
def SysP (w : World) (t p q : Nat) (O0 : Nat → Fl) (Gn : Nat → Prop) (T : Ft) (w' : World) : Prop := ∃ Gm, Ts w' t p q O0 Gm T ∧ (∀ b, Gm b → Gn b ∨ w.heap.size ≤ b) ∧ Upd Gn w w'
theorem SysP.same {w w' : World} {t p q : Nat} {O0 : Nat → Fl} {Gn : Nat → Prop} {T : Ft} (H : Ts w t p q O0 Gn T) (u : Below w.heap.size w w') : SysP w t p q O0 Gn T w' := ⟨Gn, H.grow u, fun b hb => .inl hb, Upd.of_below u⟩
theorem SysP.of {w X w' : World} {t p q : Nat} {O0 : Nat → Fl} {Gn : Nat → Prop} {T : Ft} {F' : Fs} (H : Ts X t p q O0 Gn T) (hX : Below w.heap.size w X) (k : PfTo X p F' Gn w') (hd : F'.d = T.F.d) : SysP w t p q O0 Gn { T with F := F' } w' :=
  ⟨_, H.sys k hd, fun b hb => hb.imp id (fun h => Nat.le_trans hX.size h), (Upd.of_below hX).trans k.2 (fun _ _ h => h)⟩
theorem SysP.grow {w w' w2 : World} {t p q : Nat} {O0 : Nat → Fl} {Gn : Nat → Prop} {T : Ft} (h : SysP w t p q O0 Gn T w') (u : Below w'.heap.size w' w2) : SysP w t p q O0 Gn T w2 := by
  obtain ⟨Gm, h1, h2, h3⟩ := h
  exact ⟨Gm, h1.grow u, h2, h3.trans (Upd.of_below (F := Gn) u) (fun _ _ h => h)⟩
theorem SysP.to {w w' : World} {t p q : Nat} {O0 : Nat → Fl} {Gn G : Nat → Prop} {T : Ft} (h : SysP w t p q O0 Gn T w') (hG : ∀ b, Foot t q Gn b → G b) : TpTo w t T G w' := by
  obtain ⟨Gm, h1, h2, h3⟩ := h
  exact TpTo.of h1 hG h2 (h3.mono (fun b _ hb => .inr (.inr hb)))

set_option maxHeartbeats 2000000 in
theorem ffindm (w : World) (t p q : Nat) (O0 : Nat → Fl) (Gn : Nat → Prop) (T : Ft) (H : Ts w t p q O0 Gn T) (hT : TOk T) (l : ByteArray) (hs : l.size ≤ 140737488355328) (g : Int) :
    Calls Tryz.prog 53 #[.pointer (some ⟨t, 0, none⟩), .string l, .int .i64 g] w fun e w' => e = .returned (.tuple #[.int .i64 ((Ft.node T.F (bl l) g).2.1 : Int), .int .i64 (Ft.node T.F (bl l) g).2.2]) ∧ SysP w t p q O0 Gn { T with F := (Ft.node T.F (bl l) g).1 } w' := by
  have k1 := hid (pfind p T.F Gn w H.pf hT.F l hs)
  have cs := H.tf.s
  have HS := hid (fun X (hX : Below w.heap.size w X) => SysP.same H hX)
  have HC := hid (fun X (hX : Below w.heap.size w X) => (H.grow hX).tf.s)
  have k2 : Hid (∀ X, Below w.heap.size w X → Calls Tryz.prog 94 #[.pointer (some ⟨p, 0, none⟩), .string l, .int .i64 1] X fun e w' => e = .returned (.tuple #[.int .i64 ((T.F.make (bl l) 1).2.1 : Int), .int .i64 (T.F.make (bl l) 1).2.2]) ∧ Hid (SysP w t p q O0 Gn { T with F := (T.F.make (bl l) 1).1 } w')) := by
    refine hid (fun X hX => (pmake p T.F Gn X (H.grow hX).pf hT.F l hs 1).mono ?_)
    rintro e w' ⟨rfl, hk⟩
    exact ⟨rfl, hid (SysP.of (H.grow hX) hX hk (SH.make hT.F _ _).1)⟩
  unfold Ft.node
  clear H hT
  generalize hr : T.F.find (bl l) = r at k1 ⊢
  obtain ⟨n, E⟩ := r
  clear hr
  dsimp only at k1 ⊢
  cases h8 : dfc g 8
  · rw [if_pos rfl]
    obtain ⟨b1, b2⟩ := dfc_f h8
    clear k2 h8
    go_enter Tryz.func53, Tryz.ntmps53
    go_wp2_with fail
    refine k1.out.mono ?_
    rintro e w1 ⟨rfl, hb⟩
    have HQ := hid (HS.out w1 hb)
    clear k1 hb HS HC
    go_wp2_with fail
    go_ret2
    exact ⟨rfl, HQ.out⟩
  rw [if_neg (by simp)]
  obtain ⟨b1, b2⟩ := dfc_t h8
  clear h8
  by_cases h2 : E = 2
  · subst h2
    rw [if_pos rfl]
    generalize T.F.make (bl l) 1 = r at k2 ⊢
    obtain ⟨F', m, E⟩ := r
    dsimp only at k2 ⊢
    go_enter Tryz.func53, Tryz.ntmps53
    go_wp2_with fail
    refine k1.out.mono ?_
    rintro e w1 ⟨rfl, hb⟩
    have K2 := hid (k2.out w1 hb)
    have cs1 := HC.out w1 hb
    clear k1 k2 hb HS HC
    go_wp2_with fail
    refine K2.out.mono ?_
    rintro e w2 ⟨rfl, HQ⟩
    clear K2
    go_wp2_with fail
    go_ret2
    exact ⟨rfl, HQ.out⟩
  rw [if_neg h2]
  clear k2
  by_cases h3 : E = 0 ∧ dfc g 16 = true
  · rw [if_pos h3]
    obtain ⟨rfl, h16⟩ := h3
    obtain ⟨b3, b4⟩ := dfc_t h16
    clear h16
    go_enter Tryz.func53, Tryz.ntmps53
    go_wp2_with fail
    refine k1.out.mono ?_
    rintro e w1 ⟨rfl, hb⟩
    have HQ := hid (HS.out w1 hb)
    clear k1 hb HS HC
    go_wp2_with fail
    go_ret2
    exact ⟨rfl, HQ.out⟩
  rw [if_neg h3]
  by_cases h0 : E = 0
  · subst h0
    have h16 : dfc g 16 = false := by simpa using h3
    obtain ⟨b3, b4⟩ := dfc_f h16
    clear h16 h3
    go_enter Tryz.func53, Tryz.ntmps53
    go_wp2_with fail
    refine k1.out.mono ?_
    rintro e w1 ⟨rfl, hb⟩
    have HQ := hid (HS.out w1 hb)
    clear k1 hb HS HC
    go_wp2_with fail
    go_ret2
    exact ⟨rfl, HQ.out⟩
  · clear h3
    go_enter Tryz.func53, Tryz.ntmps53
    go_wp2_with fail
    refine k1.out.mono ?_
    rintro e w1 ⟨rfl, hb⟩
    have HQ := hid (HS.out w1 hb)
    clear k1 hb HS HC
    go_wp2_with fail
    go_ret2
    exact ⟨rfl, HQ.out⟩

set_option maxHeartbeats 2000000 in
theorem fready (w : World) (t p q : Nat) (O0 : Nat → Fl) (Gn : Nat → Prop) (T : Ft) (H : Ts w t p q O0 Gn T) (hF : FOk T.F) (m : Nat) (hth : T.F.there m = true) (g : Int) :
    Calls Tryz.prog 54 #[.pointer (some ⟨t, 0, none⟩), .int .i64 (m : Int), .int .i64 g] w fun e w' => e = .returned (.int .i64 (Ft.cutF T.F m g).2) ∧ SysP w t p q O0 Gn { T with F := (Ft.cutF T.F m g).1 } w' := by
  have cs := H.tf.s
  have HS := hid (fun X (hX : Below w.heap.size w X) => SysP.same H hX)
  have HC := hid (fun X (hX : Below w.heap.size w X) => (H.grow hX).tf.s)
  have k1 := pstat2 p T.F Gn w H.pf hF m
  have hst := stat_there hth
  rw [hst.2.1, hst.2.2, Int.toNat_natCast] at k1
  have k2 : Hid (∀ X, Below w.heap.size w X → Calls Tryz.prog 81 #[.pointer (some ⟨p, 0, none⟩), .int .i64 (m : Int), .int .i64 0] X fun e w' => e = .returned (.int .i64 (T.F.resize m 0).2) ∧ Hid (SysP w t p q O0 Gn { T with F := (T.F.resize m 0).1 } w')) := by
    refine hid (fun X hX => (presize p T.F Gn X (H.grow hX).pf hF m 0).mono ?_)
    rintro e w' ⟨rfl, hk⟩
    exact ⟨rfl, hid (SysP.of (H.grow hX) hX hk (SH.resize _ _ _).1)⟩
  unfold Ft.cutF
  clear H hF hst hth
  have k1 := hid k1
  generalize (T.F.P m).k = K at k1 ⊢
  generalize (T.F.stat m).2.1 = s1 at k1
  generalize (T.F.stat m).2.2.1 = s2 at k1
  cases h2 : dfc g 2
  · rw [if_pos rfl]
    obtain ⟨b1, b2⟩ := dfc_f h2
    have HQ := hid (HS.out w (Below.refl _ _))
    clear k2 h2 k1 HS HC
    go_enter Tryz.func54, Tryz.ntmps54
    go_wp2_with fail
    go_ret
    exact ⟨rfl, HQ.out⟩
  rw [if_neg (by simp)]
  obtain ⟨b1, b2⟩ := dfc_t h2
  clear h2
  by_cases hK : K = 2
  · subst hK
    rw [if_pos rfl]
    clear k2
    go_enter Tryz.func54, Tryz.ntmps54
    go_wp2_with fail
    refine k1.out.mono ?_
    rintro e w1 ⟨rfl, hb⟩
    have HQ := hid (HS.out _ (hb.trans ((one_new w1 (Obj.cells #[.int .i64 2, .int .i64 s1, .int .i64 s2] 87)).mono hb.size)))
    clear k1 hb HS HC
    go_wp2_with fail
    go_ret
    exact ⟨rfl, HQ.out⟩
  rw [if_neg hK]
  cases h3 : dfc g 32
  · rw [if_pos rfl]
    obtain ⟨b3, b4⟩ := dfc_f h3
    clear k2 h3
    go_enter Tryz.func54, Tryz.ntmps54
    go_wp2_with fail
    refine k1.out.mono ?_
    rintro e w1 ⟨rfl, hb⟩
    have HQ := hid (HS.out _ (hb.trans ((one_new w1 (Obj.cells #[.int .i64 K, .int .i64 s1, .int .i64 s2] 87)).mono hb.size)))
    clear k1 hb HS HC
    go_wp2_with fail
    go_ret
    exact ⟨rfl, HQ.out⟩
  rw [if_neg (by simp)]
  obtain ⟨b3, b4⟩ := dfc_t h3
  clear h3
  generalize T.F.resize m 0 = r at k2 ⊢
  obtain ⟨F', E⟩ := r
  dsimp only at k2 ⊢
  go_enter Tryz.func54, Tryz.ntmps54
  go_wp2_with fail
  refine k1.out.mono ?_
  rintro e w1 ⟨rfl, hb⟩
  have hX := hb.trans ((one_new w1 (Obj.cells #[.int .i64 K, .int .i64 s1, .int .i64 s2] 87)).mono hb.size)
  have K2 := hid (k2.out _ hX)
  have cs1 := HC.out _ hX
  clear k1 k2 hb HS HC hX
  go_wp2_with fail
  refine K2.out.mono ?_
  rintro e w2 ⟨rfl, HQ⟩
  clear K2
  go_wp2_with fail
  go_ret
  exact ⟨rfl, HQ.out⟩

end Go.Proofs.YtoknhcjneliboaaGreat
