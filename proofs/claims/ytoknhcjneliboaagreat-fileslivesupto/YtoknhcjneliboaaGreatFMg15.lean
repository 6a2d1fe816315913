/- Texts of this seat, merged. -/
import Derived.Test.YtoknhcjneliboaaGreatFMg14
import Derived.Test.YtoknhcjneliboaaGreatFMg11
import Derived.Test.YtoknhcjneliboaaGreatFMg9

/- The document's Unlink and Rmdir. -/
namespace Go.Proofs.YtoknhcjneliboaaGreat
open Go.RowKit
set_option linter.unusedVariables false
set_option maxRecDepth 20000

theorem Rf.cell1 {w : World} {x g u : Nat} {V : Nat → Value} {F : Fs} (H : Rf w x g u V F) (n : Nat) (hn : n < 17) (y : Fn) (o : Nat) (v : Value) (ho : o < 3) (hy : splice (ndL (F.P n) (V (n * 3)) (V (n * 3 + 1)) (V (n * 3 + 2))) o [v] = ndL y (V (n * 3)) (V (n * 3 + 1)) (V (n * 3 + 2))) (hc : y.c = (F.P n).c) (hb : y.B = (F.P n).B) (hq : y.Q = (F.P n).Q) :
    Rf (w.setCell ⟨g, n * 6 + o, none⟩ v) x g u V (F.at_ n y) := by
  refine H.put (U := fun _ => False) n hn y V (fun _ _ => rfl) (Upd.refl _ _) (fun _ _ h => h.elim) o [v] (by simp; omega) hy ?_ ?_ ?_ (fun i b _ h => .inr h) (fun i j b hi hj hb ei ej => ?_)
  · rw [hc]; exact H.rb n hn
  · rw [hb]; exact H.rB n hn
  · rw [hq]; exact H.rQ n hn
  · exact absurd (H.foot_lt b (.inr (.inr (.inr ⟨i, by omega, ei⟩)))) (by omega)
theorem Rf.lnk {w : World} {x g u : Nat} {V : Nat → Value} {F : Fs} (H : Rf w x g u V F) (n : Nat) (hn : n < 17) (l : Int) : Rf (w.setCell ⟨g, n * 6 + 1, none⟩ (.int .i64 l)) x g u V (F.lnk n l) :=
  H.cell1 n hn { F.P n with l := l } 1 _ (by omega) rfl rfl rfl rfl
theorem Rf.hld {w : World} {x g u : Nat} {V : Nat → Value} {F : Fs} (H : Rf w x g u V F) (n : Nat) (hn : n < 17) (l : Int) : Rf (w.setCell ⟨g, n * 6 + 2, none⟩ (.int .i64 l)) x g u V (F.hld n l) :=
  H.cell1 n hn { F.P n with h := l } 2 _ (by omega) rfl rfl rfl rfl
theorem Rf.cell_to {w : World} {x g u : Nat} {V : Nat → Value} {F' : Fs} {j : Nat} {v : Value} (h : Rf (w.setCell ⟨g, j, none⟩ v) x g u V F') : Rf (w.setCell ⟨g, j, none⟩ v) x g u V F' ∧ Upd (RfFoot x g u V) w (w.setCell ⟨g, j, none⟩ v) ∧ ∀ b, RfFoot x g u V b → RfFoot x g u V b ∨ w.heap.size ≤ b :=
  ⟨h, Upd.setCell (F := RfFoot x g u V) w ⟨g, j, none⟩ v (.inr (.inl rfl)), fun b h => .inl h⟩
theorem RfTo.next {w w1 w2 : World} {x g u : Nat} {V V1 : Nat → Value} {F1 F2 : Fs} (h : Rf w1 x g u V1 F1 ∧ Upd (RfFoot x g u V) w w1 ∧ ∀ b, RfFoot x g u V1 b → RfFoot x g u V b ∨ w.heap.size ≤ b) (k : RfTo w1 x g u V1 F2 w2) : RfTo w x g u V F2 w2 := RfTo.trans h.2.1 h.2.2 k
theorem RfTo.below {w w1 w2 : World} {x g u : Nat} {V : Nat → Value} {F2 : Fs} (hb : Below w.heap.size w w1) (k : RfTo w1 x g u V F2 w2) : RfTo w x g u V F2 w2 := RfTo.trans (Upd.of_below hb) (fun b h => .inl h) k

theorem FOk.B25 {F : Fs} (H : FOk F) (n : Nat) : (∀ b ∈ (F.P n).B, b < 25) ∧ (F.P n).B.length ≤ 1000 := by
  refine ⟨fun b hb => (H.T n b hb).2.1, ?_⟩
  rw [H.B n]
  have := (H.c n).1
  unfold Fs.need
  omega

set_option maxHeartbeats 4000000 in
theorem runlink_any (x g u : Nat) (V : Nat → Value) (F : Fs) (w : World) (H : Rf w x g u V F) (hF : FOk F) (hl : ∀ i, (F.P i).l ≤ 1000000) (t : ByteArray) (hs : t.size ≤ 1048576) :
    Calls Tryz.prog 75 #[.pointer (some ⟨x, 0, none⟩), .string t] w fun e w' => e = .returned (.int .i64 (F.unlink (bl t)).2) ∧ RfTo w x g u V (F.unlink (bl t)).1 w' := by
  obtain ⟨R, gR⟩ : ∃ R, R = F.unlink (bl t) := ⟨_, rfl⟩
  rw [← gR]
  have GR := hid gR
  have k1 := hid (rend_any x g u V F w H hF t hs)
  have HH := hid H
  have HF := hid hF
  have HL := hid hl
  clear H hF hl gR
  go_enter Tryz.func75, Tryz.ntmps75
  go_wp2_with fail
  refine k1.out.mono ?_
  rintro e w1 ⟨⟨v, rfl, hE⟩, hB⟩
  have HB := hid hB
  have H1 := hid (HH.out.grow hB)
  clear k1 hB
  rcases hE with ⟨er, hw, rfl⟩ | ⟨y, s, n, hw, rfl⟩
  · have HR2 : Hid (R = (F, er)) := hid (by rw [GR.out]; unfold Fs.unlink; rw [hw])
    have he : er ≠ 0 := by have := Fs.walk_err hw; omega
    clear hw GR
    go_wp2_with fail
    go_ret
    rw [HR2.out]
    exact ⟨rfl, HH.out.same HB.out⟩
  · have W := HF.out.walk_ok hw
    have HR2 : Hid (R = if n = 0 then (F, 2) else if (F.P n).k = 2 then (F, 21) else if 1 < (F.P n).l ∧ dfc F.d 1 = true then (F.deln (Fs.dirOf y) s, 0) else ((F.deln (Fs.dirOf y) s).less n, 0)) := hid (by rw [GR.out]; unfold Fs.unlink; rw [hw])
    obtain ⟨d, gd⟩ : ∃ d, d = Fs.dirOf y := ⟨_, rfl⟩
    have hd := W.lt
    rw [← gd] at hd
    have k2 := hid (rlook_any x g u V F w1 H1.out d (by omega) (HF.out.len d) (bs s))
    rw [bl_bs, gd, ← W.nn, ← gd] at k2
    rw [← gd] at HR2 ⊢
    have hto := W.to
    clear W hw GR gd
    go_wp2_with fail
    refine k2.out.mono ?_
    rintro e w2 ⟨rfl, hb⟩
    have HB2 := hid (HB.out.trans (hb.mono HB.out.size))
    have H2 := hid (H1.out.grow hb)
    clear k2 hb H1 HB
    by_cases hn : n = 0
    · subst hn
      have HR3 : Hid (R = (F, 2)) := hid (by rw [HR2.out, if_pos rfl])
      clear HR2
      go_wp2_with fail
      go_ret
      rw [HR3.out]
      exact ⟨rfl, HH.out.same HB2.out⟩
    · obtain ⟨n2, n3, n4⟩ := hto hn
      have c0 := H2.out.c0
      have c1 := H2.out.k n n3
      have n0 : (0 : Int) ≤ (n : Int) := by omega
      have n1 : (n : Int) < 17 := by omega
      have nz : ¬ (n : Int) = 0 := by omega
      by_cases hk : (F.P n).k = 2
      · have HR3 : Hid (R = (F, 21)) := hid (by rw [HR2.out, if_neg hn, if_pos hk])
        rw [hk] at c1
        clear HR2
        go_wp2_with fail
        go_ret
        rw [HR3.out]
        exact ⟨rfl, HH.out.same HB2.out⟩
      · obtain ⟨k, gk⟩ : ∃ k, k = (F.P n).k := ⟨_, rfl⟩
        have HR3 : Hid (R = if 1 < (F.P n).l ∧ dfc F.d 1 = true then (F.deln d s, 0) else ((F.deln d s).less n, 0)) := hid (by rw [HR2.out, if_neg hn, if_neg hk])
        rw [← gk] at c1 hk
        have k3 := hid (rdropn_any x g u V F w2 H2.out d (by omega) (HF.out.len d) (bs s))
        rw [bl_bs] at k3
        clear HR2 gk hto n4
        go_wp2_with fail
        refine k3.out.mono ?_
        rintro e w3 ⟨rfl, V1, hT⟩
        have HT := hid hT
        have H3 := hid hT.1
        clear k3 hT c0 c1 H2
        have c0 := H3.out.c0
        have c2 := H3.out.l n n3
        have e1 : ((F.deln d s).P n).l = (F.P n).l := by rw [Fs.deln_P]
        have e2 : ((F.deln d s).P n).B = (F.P n).B := by rw [Fs.deln_P]
        rw [e1] at c2
        have k4 := hid (rhas_any x g u V1 _ w3 H3.out 1)
        rw [show (F.deln d s).d = F.d from rfl] at k4
        obtain ⟨l, gl⟩ : ∃ l, l = (F.P n).l := ⟨_, rfl⟩
        have hl0 := HF.out.l0 n
        have hl1 := HL.out n
        have c3 := H3.out.frz (n * 6 + 1)
        rw [← gl] at c2 hl0 hl1
        have hwr : IntKind.i64.wrap (l - 1) = l - 1 := by rw [IntKind.wrap_i64]; omega
        have H4 := hid (H3.out.lnk n n3 (l - 1))
        have HB5 := HF.out.B25 n
        have e5 : (((F.deln d s).lnk n (l - 1)).P n).B = (F.P n).B := by rw [Fs.lnk_P]; exact e2
        have k5 := hid (rgone_any x g u V1 _ _ H4.out n n3 (fun e => absurd e (by omega)) (by rw [e5]; exact HB5.1) (by rw [e5]; exact HB5.2))
        have k6 := hid (rgone_any x g u V1 _ _ H3.out n n3 (fun e => absurd e (by omega)) (by rw [e2]; exact HB5.1) (by rw [e2]; exact HB5.2))
        have HY : Hid (¬ (1 < l ∧ dfc F.d 1 = true) → R = (((F.deln d s).lnk n (l - 1)).gone n, 0)) := hid (fun h => by
          rw [HR3.out, if_neg (by rw [← gl]; exact h)]
          unfold Fs.less
          rw [e1, ← gl])
        have HZ : Hid (1 < l → dfc F.d 1 = true → R = ((F.deln d s).gone n, 0)) := hid (fun h h2 => by
          rw [HR3.out, if_pos (by rw [← gl]; exact ⟨h, h2⟩)]
          unfold Fs.gone
          rw [if_pos (by rw [e1, ← gl]; exact .inl (by omega))])
        obtain ⟨D, gD⟩ : ∃ D, D = dfc F.d 1 := ⟨_, rfl⟩
        rw [← gD] at k4 HY HZ
        clear e1 e2 e5 HB5 gD gl HR3 H3
        by_cases hl2 : l < 2
        · have HR4 := hid (HY.out (by omega))
          clear HY HZ k4 k6
          go_wp2_with fail
          refine k5.out.mono ?_
          rintro e w5 ⟨rfl, hT5⟩
          have HT5 := hid hT5
          clear k5 hT5
          go_wp2_with fail
          go_ret
          rw [HR4.out]
          exact ⟨rfl, RfTo.below HB2.out (RfTo.next HT.out (RfTo.next H4.out.cell_to HT5.out))⟩
        · cases D with
          | true =>
            have HR4 := hid (HZ.out (by omega) rfl)
            clear HY HZ k5 H4
            go_wp2_with fail
            refine k4.out.mono ?_
            rintro e w4 ⟨rfl, rfl⟩
            clear k4
            go_wp2_with fail
            refine k6.out.mono ?_
            rintro e w5 ⟨rfl, hT5⟩
            have HT5 := hid hT5
            clear k6 hT5
            go_wp2_with fail
            go_ret
            rw [HR4.out]
            exact ⟨rfl, RfTo.below HB2.out (RfTo.next HT.out HT5.out)⟩
          | false =>
            have HR4 := hid (HY.out (by simp))
            clear HY HZ k6
            go_wp2_with fail
            refine k4.out.mono ?_
            rintro e w4 ⟨rfl, rfl⟩
            clear k4
            go_wp2_with fail
            refine k5.out.mono ?_
            rintro e w5 ⟨rfl, hT5⟩
            have HT5 := hid hT5
            clear k5 hT5
            go_wp2_with fail
            go_ret
            rw [HR4.out]
            exact ⟨rfl, RfTo.below HB2.out (RfTo.next HT.out (RfTo.next H4.out.cell_to HT5.out))⟩

set_option maxHeartbeats 4000000 in
theorem rrmdir_any (x g u : Nat) (V : Nat → Value) (F : Fs) (w : World) (H : Rf w x g u V F) (hF : FOk F) (hl : ∀ i, (F.P i).l ≤ 1000000) (t : ByteArray) (hs : t.size ≤ 1048576) :
    Calls Tryz.prog 77 #[.pointer (some ⟨x, 0, none⟩), .string t] w fun e w' => e = .returned (.int .i64 (F.rmdir (bl t)).2) ∧ RfTo w x g u V (F.rmdir (bl t)).1 w' := by
  obtain ⟨R, gR⟩ : ∃ R, R = F.rmdir (bl t) := ⟨_, rfl⟩
  rw [← gR]
  have GR := hid gR
  have k1 := hid (rend_any x g u V F w H hF t hs)
  have HH := hid H
  have HF := hid hF
  have HL := hid hl
  clear H hF hl gR
  go_enter Tryz.func77, Tryz.ntmps77
  go_wp2_with fail
  refine k1.out.mono ?_
  rintro e w1 ⟨⟨v, rfl, hE⟩, hB⟩
  have HB := hid hB
  have H1 := hid (HH.out.grow hB)
  clear k1 hB
  rcases hE with ⟨er, hw, rfl⟩ | ⟨y, s, n, hw, rfl⟩
  · have HR2 : Hid (R = (F, er)) := hid (by rw [GR.out]; unfold Fs.rmdir; rw [hw])
    have he : er ≠ 0 := by have := Fs.walk_err hw; omega
    clear hw GR
    go_wp2_with fail
    go_ret
    rw [HR2.out]
    exact ⟨rfl, HH.out.same HB.out⟩
  · have W := HF.out.walk_ok hw
    have HR2 : Hid (R = if n = 0 then (F, 2) else if (F.P n).k ≠ 2 then (F, 20) else if F.stays n ≠ 0 then (F, F.stays n) else ((F.deln (Fs.dirOf y) s).less n, 0)) := hid (by rw [GR.out]; unfold Fs.rmdir; rw [hw])
    obtain ⟨d, gd⟩ : ∃ d, d = Fs.dirOf y := ⟨_, rfl⟩
    have hd := W.lt
    rw [← gd] at hd
    have k2 := hid (rlook_any x g u V F w1 H1.out d (by omega) (HF.out.len d) (bs s))
    rw [bl_bs, gd, ← W.nn, ← gd] at k2
    rw [← gd] at HR2 ⊢
    have hto := W.to
    clear W hw GR gd
    go_wp2_with fail
    refine k2.out.mono ?_
    rintro e w2 ⟨rfl, hb⟩
    have HB2 := hid (HB.out.trans (hb.mono HB.out.size))
    have H2 := hid (H1.out.grow hb)
    clear k2 hb H1 HB
    by_cases hn : n = 0
    · subst hn
      have HR3 : Hid (R = (F, 2)) := hid (by rw [HR2.out, if_pos rfl])
      clear HR2
      go_wp2_with fail
      go_ret
      rw [HR3.out]
      exact ⟨rfl, HH.out.same HB2.out⟩
    · obtain ⟨n2, n3, n4⟩ := hto hn
      have c0 := H2.out.c0
      have c1 := H2.out.k n n3
      have n0 : (0 : Int) ≤ (n : Int) := by omega
      have n1 : (n : Int) < 17 := by omega
      have nz : ¬ (n : Int) = 0 := by omega
      by_cases hk : (F.P n).k ≠ 2
      · have HR3 : Hid (R = (F, 20)) := hid (by rw [HR2.out, if_neg hn, if_pos hk])
        obtain ⟨k, gk⟩ : ∃ k, k = (F.P n).k := ⟨_, rfl⟩
        rw [← gk] at c1 hk
        clear HR2 gk
        go_wp2_with fail
        go_ret
        rw [HR3.out]
        exact ⟨rfl, HH.out.same HB2.out⟩
      · have HR3 : Hid (R = if F.stays n ≠ 0 then (F, F.stays n) else ((F.deln d s).less n, 0)) := hid (by rw [HR2.out, if_neg hn, if_neg hk])
        have k7 := hid (rempty_any x g u V F w2 H2.out HF.out n n3 )
        obtain ⟨E, gE⟩ : ∃ E, E = F.stays n := ⟨_, rfl⟩
        rw [← gE] at k7 HR3
        rw [Decidable.not_not.1 hk] at c1
        have k3 := hid (rdropn_any x g u V F w2 H2.out d (by omega) (HF.out.len d) (bs s))
        rw [bl_bs] at k3
        clear HR2 hto n4 hk gE
        by_cases hE : E ≠ 0
        · have HR4 : Hid (R = (F, E)) := hid (by rw [HR3.out, if_pos hE])
          clear HR3 k3
          go_wp2_with fail
          refine k7.out.mono ?_
          rintro e w3 ⟨rfl, rfl⟩
          clear k7
          go_wp2_with fail
          go_ret
          rw [HR4.out]
          exact ⟨rfl, HH.out.same HB2.out⟩
        have HR4 : Hid (R = ((F.deln d s).less n, 0)) := hid (by rw [HR3.out, if_neg hE])
        obtain rfl : E = 0 := Decidable.not_not.1 hE
        clear HR3 hE
        go_wp2_with fail
        refine k7.out.mono ?_
        rintro e w3' ⟨rfl, rfl⟩
        clear k7
        go_wp2_with fail
        refine k3.out.mono ?_
        rintro e w3 ⟨rfl, V1, hT⟩
        have HT := hid hT
        have H3 := hid hT.1
        clear k3 hT c0 c1 H2
        have c0 := H3.out.c0
        have c2 := H3.out.l n n3
        have e1 : ((F.deln d s).P n).l = (F.P n).l := by rw [Fs.deln_P]
        have e2 : ((F.deln d s).P n).B = (F.P n).B := by rw [Fs.deln_P]
        rw [e1] at c2
        obtain ⟨l, gl⟩ : ∃ l, l = (F.P n).l := ⟨_, rfl⟩
        have hl0 := HF.out.l0 n
        have hl1 := HL.out n
        have c3 := H3.out.frz (n * 6 + 1)
        rw [← gl] at c2 hl0 hl1
        have hwr : IntKind.i64.wrap (l - 1) = l - 1 := by rw [IntKind.wrap_i64]; omega
        have H4 := hid (H3.out.lnk n n3 (l - 1))
        have HB5 := HF.out.B25 n
        have e5 : (((F.deln d s).lnk n (l - 1)).P n).B = (F.P n).B := by rw [Fs.lnk_P]; exact e2
        have k5 := hid (rgone_any x g u V1 _ _ H4.out n n3 (fun e => absurd e (by omega)) (by rw [e5]; exact HB5.1) (by rw [e5]; exact HB5.2))
        have HR5 : Hid (R = (((F.deln d s).lnk n (l - 1)).gone n, 0)) := hid (by
          rw [HR4.out]
          unfold Fs.less
          rw [e1, ← gl])
        clear e1 e2 e5 HB5 gl HR4 H3
        go_wp2_with fail
        refine k5.out.mono ?_
        rintro e w5 ⟨rfl, hT5⟩
        have HT5 := hid hT5
        clear k5 hT5
        go_wp2_with fail
        go_ret
        rw [HR5.out]
        exact ⟨rfl, RfTo.below HB2.out (RfTo.next HT.out (RfTo.next H4.out.cell_to HT5.out))⟩

end Go.Proofs.YtoknhcjneliboaaGreat

/- The document's Make. -/
namespace Go.Proofs.YtoknhcjneliboaaGreat
open Go.RowKit
set_option linter.unusedVariables false
set_option maxRecDepth 20000

theorem free_from (F : Fs) : ∀ (m a n : Nat), a ≤ n → n ≤ a + m → (∀ i, a ≤ i → i < n → (F.P i).k ≠ 0) → (n < a + m → (F.P n).k = 0) → ((List.range' a m).find? (fun i => decide ((F.P i).k = 0))).getD 0 = if n < a + m then n else 0
  | 0, a, n, h1, h2, _, _ => by rw [if_neg (by omega)]; rfl
  | m + 1, a, n, h1, h2, h3, h4 => by
    rw [List.range'_succ]
    by_cases e : n = a
    · subst e
      rw [List.find?_cons_of_pos (by simpa using h4 (by omega)), if_pos (by omega)]
      rfl
    · rw [List.find?_cons_of_neg (by simpa using h3 a (Nat.le_refl _) (by omega))]
      have := free_from F m (a + 1) n (by omega) (by omega) (fun i hi hn => h3 i (by omega) hn) (fun h => h4 (by omega))
      rw [this]
      by_cases q : n < a + 1 + m
      · rw [if_pos q, if_pos (by omega)]
      · rw [if_neg q, if_neg (by omega)]
theorem free_is (F : Fs) (n : Nat) (h1 : 1 ≤ n) (h2 : n ≤ 17) (h3 : ∀ i, 1 ≤ i → i < n → (F.P i).k ≠ 0) (h4 : n < 17 → (F.P n).k = 0) : F.free = if n < 17 then n else 0 := free_from F 16 1 n h1 h2 h3 h4

theorem builtR2 : Tryz.prog.built 117 [(0, .int .i64 2), (1, .int .i64 1)] = some #[.int .i64 2, .int .i64 1, .int .i64 0, .slice none 0 0, .slice none 0 0, .slice none 0 0] := by kernel_rfl

set_option maxHeartbeats 4000000 in
theorem rmake_1 (x g u : Nat) (V : Nat → Value) (F : Fs) (w : World) (H : Rf w x g u V F) (hF : FOk F) (t : ByteArray) (hs : t.size ≤ 1048576) :
    Calls Tryz.prog 76 #[.pointer (some ⟨x, 0, none⟩), .string t, .int .i64 1] w fun e w' => e = .returned (.tuple #[.int .i64 ((F.make (bl t) 1).2.1 : Int), .int .i64 (F.make (bl t) 1).2.2]) ∧ RfTo w x g u V (F.make (bl t) 1).1 w' := by
  obtain ⟨R, gR⟩ : ∃ R, R = F.make (bl t) 1 := ⟨_, rfl⟩
  rw [← gR]
  have GR : Hid (R = match F.walk (bl t) with
    | .error e => (F, 0, e)
    | .ok (y, s, n) => if n ≠ 0 then (F, 0, 17) else if 6 ≤ (F.P (Fs.dirOf y)).Q.length then (F, 0, 28) else if F.free = 0 then (F, 0, 28) else
      ((F.at_ F.free (Fn.nu 1)).addn (Fs.dirOf y) s F.free, F.free, 0)) := hid (by rw [gR]; unfold Fs.make; rw [if_neg (by decide)]; cases F.walk (bl t) <;> rfl)
  have k1 := hid (rend_any x g u V F w H hF t hs)
  have HH := hid H
  have HF := hid hF
  clear H hF gR
  go_enter Tryz.func76, Tryz.ntmps76
  go_wp2_with fail
  refine k1.out.mono ?_
  rintro e w1 ⟨⟨v, rfl, hE⟩, hB⟩
  have HB := hid hB
  have H1 := hid (HH.out.grow hB)
  clear k1 hB
  rcases hE with ⟨er, hw, rfl⟩ | ⟨y, s, m, hw, rfl⟩
  · have HR2 : Hid (R = (F, 0, er)) := hid (by rw [GR.out, hw])
    have he : er ≠ 0 := by have := Fs.walk_err hw; omega
    clear hw GR
    go_wp2_with fail
    go_ret2
    rw [HR2.out]
    exact ⟨rfl, HH.out.same HB.out⟩
  · have W := HF.out.walk_ok hw
    have HR2 : Hid (R = if m ≠ 0 then (F, 0, 17) else if 6 ≤ (F.P (Fs.dirOf y)).Q.length then (F, 0, 28) else if F.free = 0 then (F, 0, 28) else
      ((F.at_ F.free (Fn.nu 1)).addn (Fs.dirOf y) s F.free, F.free, 0)) := hid (by rw [GR.out, hw])
    obtain ⟨d, gd⟩ : ∃ d, d = Fs.dirOf y := ⟨_, rfl⟩
    have hd := W.lt
    have hdk := W.k
    rw [← gd] at hd hdk
    have k2 := hid (rlook_any x g u V F w1 H1.out d (by omega) (HF.out.len d) (bs s))
    rw [bl_bs, gd, ← W.nn, ← gd] at k2
    rw [← gd] at HR2 ⊢
    clear W hw GR gd
    go_wp2_with fail
    refine k2.out.mono ?_
    rintro e w2 ⟨rfl, hb⟩
    have HB2 := hid (HB.out.trans (hb.mono HB.out.size))
    have H2 := hid (H1.out.grow hb)
    clear k2 hb H1 HB
    by_cases hm : m ≠ 0
    · have HR3 : Hid (R = (F, 0, 17)) := hid (by rw [HR2.out, if_pos hm])
      have mz : ¬ (m : Int) = 0 := by omega
      clear HR2
      go_wp2_with fail
      go_ret2
      rw [HR3.out]
      exact ⟨rfl, HH.out.same HB2.out⟩
    obtain rfl : m = 0 := Decidable.not_not.1 hm
    have HR3 : Hid (R = if 6 ≤ (F.P d).Q.length then (F, 0, 28) else if F.free = 0 then (F, 0, 28) else ((F.at_ F.free (Fn.nu 1)).addn d s F.free, F.free, 0)) := hid (by rw [HR2.out, if_neg hm])
    have c0 := H2.out.c0
    obtain ⟨qa, qc, eQ, hqc, hqm, _⟩ := own_shp (H2.out.rQ d (by omega))
    have c1 := H2.out.q d (by omega)
    rw [eQ] at c1
    have hq6 := HF.out.len d
    obtain ⟨LQ, gLQ⟩ : ∃ LQ, LQ = (F.P d).Q.length := ⟨_, rfl⟩
    rw [← gLQ] at c1 hqc HR3 hq6
    have d0 : (0 : Int) ≤ (d : Int) := by omega
    have d1 : (d : Int) < 17 := by omega
    clear HR2 hm eQ gLQ
    go_wp2_with fail
    go_loopw [11] (fun v11 wr => ∃ j : Nat, 1 ≤ j ∧ j ≤ 17 ∧ v11 = .int .i64 (j : Int) ∧ wr = w2 ∧ Hid (∀ i, 1 ≤ i → i < j → (F.P i).k ≠ 0)) (fun v11 _ => 17 - (intOf v11).toNat)
    case atStart => exact ⟨1, Nat.le_refl _, by omega, rfl, rfl, hid (fun i h1 h2 => by omega)⟩
    case round =>
      obtain ⟨j, j1, j2, rfl, rfl, HJ⟩ := hrel
      by_cases hj : j < 17
      · have j3 : (j : Int) ≤ 16 := by omega
        have j4 : (0 : Int) ≤ (j : Int) := by omega
        have j5 : (j : Int) < 17 := by omega
        have j6 : j + 1 ≤ 17 := hj
        have c2 := H2.out.k j hj
        obtain ⟨k, gk⟩ : ∃ k, k = (F.P j).k := ⟨_, rfl⟩
        rw [← gk] at c2
        by_cases hk : k = 0
        · have HFR : Hid (F.free = j) := hid (by rw [free_is F j j1 j2 HJ.out (fun _ => by rw [← gk]; exact hk), if_pos hj])
          rw [HFR.out] at HR3
          have hkj : (F.P j).k = 0 := by rw [← gk]; exact hk
          subst hk
          have j7 : ¬ (16 : Int) < (j : Int) := by omega
          by_cases hq : 6 ≤ LQ
          · have hq2 : (6 : Int) ≤ (LQ : Int) := by omega
            have HR4 : Hid (R = (F, 0, 28)) := hid (by rw [HR3.out, if_pos hq])
            clear HR3 HFR HJ hkj gk
            go_wp2_with fail
            go_ret2
            rw [HR4.out]
            exact ⟨rfl, HH.out.same HB2.out⟩
          · have hq2 : ¬ (6 : Int) ≤ (LQ : Int) := by omega
            have HR4 : Hid (R = ((F.at_ j (Fn.nu 1)).addn d s j, j, 0)) := hid (by rw [HR3.out, if_neg hq, if_neg (by omega)])
            obtain ⟨N, gN⟩ : ∃ N : List Value, N = [.int .i64 1, .int .i64 1, .int .i64 0, .slice none 0 0, .slice none 0 0, .slice none 0 0] := ⟨_, rfl⟩
            have HN1 : Hid (N.toArray.all (·.oneCell') = true) := by rw [gN]; exact hid (by simp [Value.oneCell'])
            have HSZ : Hid ((Tryz.prog.info? 117).map (·.size) = some N.toArray.size) := by rw [gN]; exact hid csizeR6
            have HBT : Hid (Tryz.prog.built 117 [(0, .int .i64 1), (1, .int .i64 1)] = some N.toArray) := by rw [gN]; exact hid builtR1
            have HTH : Hid (wr.there g (j * 6) N.toArray.size) := by
              obtain ⟨C, h1, h2, _⟩ := H2.out.nds
              rw [gN]
              exact hid (there_of_block h1 (j * 6) 6 (by omega))
            have H4 : Hid (Rf (wr.setCells g (j * 6) N) x g u (noV V j) (F.at_ j (Fn.nu 1))) := hid (by rw [gN]; exact H2.out.node j hj (Fn.nu 1) rfl rfl rfl)
            have HU4 := hid (upd_setCells g N (j * 6) wr)
            have hdj : d ≠ j := fun e => by rw [e, hkj] at hdk; omega
            have k3 := hid (radd_any x g u (noV V j) _ _ H4.out d (by omega) (by rw [show (F.at_ j (Fn.nu 1)).P d = F.P d from if_neg hdj]; exact HF.out.len d) (bs s) j)
            rw [bl_bs] at k3
            have HT : Hid (Rf (wr.setCells g (j * 6) N) x g u (noV V j) (F.at_ j (Fn.nu 1)) ∧ Upd (RfFoot x g u V) w (wr.setCells g (j * 6) N) ∧ ∀ b, RfFoot x g u (noV V j) b → RfFoot x g u V b ∨ w.heap.size ≤ b) := hid ⟨H4.out, (Upd.of_below HB2.out).trans (HU4.out.mono (G := RfFoot x g u V) (fun b _ h => .inr (.inl h))) (fun b _ h => h), fun b hb => .inl (noV_foot hb)⟩
            clear HR3 HFR HJ hkj gk gN H4 HU4 hdj
            go_wp2_with (first
              | (refine wpList_build_is rfl 117 #[(0, .tmp 67), (1, .const (.int .i64 1))] rfl N.toArray (by simpa [Act.eval] using HBT.out) ?_)
              | (refine wpList_store_mid rfl 117 (.tmp 69) (.tmp 68) rfl g (j * 6) N.toArray rfl rfl HTH.out HSZ.out HN1.out ?_))
            refine k3.out.mono ?_
            rintro e w3 ⟨rfl, hT3⟩
            have HT3 := hid hT3
            clear k3 hT3
            go_wp2_with fail
            go_ret2
            rw [HR4.out]
            exact ⟨rfl, RfTo.next HT.out HT3.out⟩
        · have j7 : (k != 0) = true := by simpa using hk
          have HJ2 : Hid (∀ i, 1 ≤ i → i < j + 1 → (F.P i).k ≠ 0) := hid (fun i h1 h2 => by
            by_cases e : i = j
            · subst e; rw [← gk]; exact hk
            · exact HJ.out i h1 (by omega))
          clear HJ gk
          go_wp2_with fail
          go_roundw
          case rel => exact ⟨j + 1, by omega, j6, by go_num, trivial, HJ2⟩
          case measure => simp [intOf]; omega
      · obtain rfl : j = 17 := by omega
        have HFR : Hid (F.free = 0) := hid (by rw [free_is F 17 j1 j2 HJ.out (fun h => absurd h hj), if_neg hj])
        have HR4 : Hid (R = (F, 0, 28)) := hid (by rw [HR3.out, HFR.out]; simp)
        clear HR3 HFR HJ
        go_wp2_with fail
        go_ret2
        rw [HR4.out]
        exact ⟨rfl, HH.out.same HB2.out⟩

set_option maxHeartbeats 4000000 in
theorem rmake_2 (x g u : Nat) (V : Nat → Value) (F : Fs) (w : World) (H : Rf w x g u V F) (hF : FOk F) (t : ByteArray) (hs : t.size ≤ 1048576) :
    Calls Tryz.prog 76 #[.pointer (some ⟨x, 0, none⟩), .string t, .int .i64 2] w fun e w' => e = .returned (.tuple #[.int .i64 ((F.make (bl t) 2).2.1 : Int), .int .i64 (F.make (bl t) 2).2.2]) ∧ RfTo w x g u V (F.make (bl t) 2).1 w' := by
  obtain ⟨R, gR⟩ : ∃ R, R = F.make (bl t) 2 := ⟨_, rfl⟩
  rw [← gR]
  have GR : Hid (R = match F.walk (bl t) with
    | .error e => (F, 0, e)
    | .ok (y, s, n) => if n ≠ 0 then (F, 0, 17) else if 6 ≤ (F.P (Fs.dirOf y)).Q.length then (F, 0, 28) else if F.free = 0 then (F, 0, 28) else
      ((F.at_ F.free (Fn.nu 2)).addn (Fs.dirOf y) s F.free, F.free, 0)) := hid (by rw [gR]; unfold Fs.make; rw [if_neg (by decide)]; cases F.walk (bl t) <;> rfl)
  have k1 := hid (rend_any x g u V F w H hF t hs)
  have HH := hid H
  have HF := hid hF
  clear H hF gR
  go_enter Tryz.func76, Tryz.ntmps76
  go_wp2_with fail
  refine k1.out.mono ?_
  rintro e w1 ⟨⟨v, rfl, hE⟩, hB⟩
  have HB := hid hB
  have H1 := hid (HH.out.grow hB)
  clear k1 hB
  rcases hE with ⟨er, hw, rfl⟩ | ⟨y, s, m, hw, rfl⟩
  · have HR2 : Hid (R = (F, 0, er)) := hid (by rw [GR.out, hw])
    have he : er ≠ 0 := by have := Fs.walk_err hw; omega
    clear hw GR
    go_wp2_with fail
    go_ret2
    rw [HR2.out]
    exact ⟨rfl, HH.out.same HB.out⟩
  · have W := HF.out.walk_ok hw
    have HR2 : Hid (R = if m ≠ 0 then (F, 0, 17) else if 6 ≤ (F.P (Fs.dirOf y)).Q.length then (F, 0, 28) else if F.free = 0 then (F, 0, 28) else
      ((F.at_ F.free (Fn.nu 2)).addn (Fs.dirOf y) s F.free, F.free, 0)) := hid (by rw [GR.out, hw])
    obtain ⟨d, gd⟩ : ∃ d, d = Fs.dirOf y := ⟨_, rfl⟩
    have hd := W.lt
    have hdk := W.k
    rw [← gd] at hd hdk
    have k2 := hid (rlook_any x g u V F w1 H1.out d (by omega) (HF.out.len d) (bs s))
    rw [bl_bs, gd, ← W.nn, ← gd] at k2
    rw [← gd] at HR2 ⊢
    clear W hw GR gd
    go_wp2_with fail
    refine k2.out.mono ?_
    rintro e w2 ⟨rfl, hb⟩
    have HB2 := hid (HB.out.trans (hb.mono HB.out.size))
    have H2 := hid (H1.out.grow hb)
    clear k2 hb H1 HB
    by_cases hm : m ≠ 0
    · have HR3 : Hid (R = (F, 0, 17)) := hid (by rw [HR2.out, if_pos hm])
      have mz : ¬ (m : Int) = 0 := by omega
      clear HR2
      go_wp2_with fail
      go_ret2
      rw [HR3.out]
      exact ⟨rfl, HH.out.same HB2.out⟩
    obtain rfl : m = 0 := Decidable.not_not.1 hm
    have HR3 : Hid (R = if 6 ≤ (F.P d).Q.length then (F, 0, 28) else if F.free = 0 then (F, 0, 28) else ((F.at_ F.free (Fn.nu 2)).addn d s F.free, F.free, 0)) := hid (by rw [HR2.out, if_neg hm])
    have c0 := H2.out.c0
    obtain ⟨qa, qc, eQ, hqc, hqm, _⟩ := own_shp (H2.out.rQ d (by omega))
    have c1 := H2.out.q d (by omega)
    rw [eQ] at c1
    have hq6 := HF.out.len d
    obtain ⟨LQ, gLQ⟩ : ∃ LQ, LQ = (F.P d).Q.length := ⟨_, rfl⟩
    rw [← gLQ] at c1 hqc HR3 hq6
    have d0 : (0 : Int) ≤ (d : Int) := by omega
    have d1 : (d : Int) < 17 := by omega
    clear HR2 hm eQ gLQ
    go_wp2_with fail
    go_loopw [11] (fun v11 wr => ∃ j : Nat, 1 ≤ j ∧ j ≤ 17 ∧ v11 = .int .i64 (j : Int) ∧ wr = w2 ∧ Hid (∀ i, 1 ≤ i → i < j → (F.P i).k ≠ 0)) (fun v11 _ => 17 - (intOf v11).toNat)
    case atStart => exact ⟨1, Nat.le_refl _, by omega, rfl, rfl, hid (fun i h1 h2 => by omega)⟩
    case round =>
      obtain ⟨j, j1, j2, rfl, rfl, HJ⟩ := hrel
      by_cases hj : j < 17
      · have j3 : (j : Int) ≤ 16 := by omega
        have j4 : (0 : Int) ≤ (j : Int) := by omega
        have j5 : (j : Int) < 17 := by omega
        have j6 : j + 1 ≤ 17 := hj
        have c2 := H2.out.k j hj
        obtain ⟨k, gk⟩ : ∃ k, k = (F.P j).k := ⟨_, rfl⟩
        rw [← gk] at c2
        by_cases hk : k = 0
        · have HFR : Hid (F.free = j) := hid (by rw [free_is F j j1 j2 HJ.out (fun _ => by rw [← gk]; exact hk), if_pos hj])
          rw [HFR.out] at HR3
          have hkj : (F.P j).k = 0 := by rw [← gk]; exact hk
          subst hk
          have j7 : ¬ (16 : Int) < (j : Int) := by omega
          by_cases hq : 6 ≤ LQ
          · have hq2 : (6 : Int) ≤ (LQ : Int) := by omega
            have HR4 : Hid (R = (F, 0, 28)) := hid (by rw [HR3.out, if_pos hq])
            clear HR3 HFR HJ hkj gk
            go_wp2_with fail
            go_ret2
            rw [HR4.out]
            exact ⟨rfl, HH.out.same HB2.out⟩
          · have hq2 : ¬ (6 : Int) ≤ (LQ : Int) := by omega
            have HR4 : Hid (R = ((F.at_ j (Fn.nu 2)).addn d s j, j, 0)) := hid (by rw [HR3.out, if_neg hq, if_neg (by omega)])
            obtain ⟨N, gN⟩ : ∃ N : List Value, N = [.int .i64 2, .int .i64 1, .int .i64 0, .slice none 0 0, .slice none 0 0, .slice none 0 0] := ⟨_, rfl⟩
            have HN1 : Hid (N.toArray.all (·.oneCell') = true) := by rw [gN]; exact hid (by simp [Value.oneCell'])
            have HSZ : Hid ((Tryz.prog.info? 117).map (·.size) = some N.toArray.size) := by rw [gN]; exact hid csizeR6
            have HBT : Hid (Tryz.prog.built 117 [(0, .int .i64 2), (1, .int .i64 1)] = some N.toArray) := by rw [gN]; exact hid builtR2
            have HTH : Hid (wr.there g (j * 6) N.toArray.size) := by
              obtain ⟨C, h1, h2, _⟩ := H2.out.nds
              rw [gN]
              exact hid (there_of_block h1 (j * 6) 6 (by omega))
            have H4 : Hid (Rf (wr.setCells g (j * 6) N) x g u (noV V j) (F.at_ j (Fn.nu 2))) := hid (by rw [gN]; exact H2.out.node j hj (Fn.nu 2) rfl rfl rfl)
            have HU4 := hid (upd_setCells g N (j * 6) wr)
            have hdj : d ≠ j := fun e => by rw [e, hkj] at hdk; omega
            have k3 := hid (radd_any x g u (noV V j) _ _ H4.out d (by omega) (by rw [show (F.at_ j (Fn.nu 2)).P d = F.P d from if_neg hdj]; exact HF.out.len d) (bs s) j)
            rw [bl_bs] at k3
            have HT : Hid (Rf (wr.setCells g (j * 6) N) x g u (noV V j) (F.at_ j (Fn.nu 2)) ∧ Upd (RfFoot x g u V) w (wr.setCells g (j * 6) N) ∧ ∀ b, RfFoot x g u (noV V j) b → RfFoot x g u V b ∨ w.heap.size ≤ b) := hid ⟨H4.out, (Upd.of_below HB2.out).trans (HU4.out.mono (G := RfFoot x g u V) (fun b _ h => .inr (.inl h))) (fun b _ h => h), fun b hb => .inl (noV_foot hb)⟩
            clear HR3 HFR HJ hkj gk gN H4 HU4 hdj
            go_wp2_with (first
              | (refine wpList_build_is rfl 117 #[(0, .tmp 67), (1, .const (.int .i64 1))] rfl N.toArray (by simpa [Act.eval] using HBT.out) ?_)
              | (refine wpList_store_mid rfl 117 (.tmp 69) (.tmp 68) rfl g (j * 6) N.toArray rfl rfl HTH.out HSZ.out HN1.out ?_))
            refine k3.out.mono ?_
            rintro e w3 ⟨rfl, hT3⟩
            have HT3 := hid hT3
            clear k3 hT3
            go_wp2_with fail
            go_ret2
            rw [HR4.out]
            exact ⟨rfl, RfTo.next HT.out HT3.out⟩
        · have j7 : (k != 0) = true := by simpa using hk
          have HJ2 : Hid (∀ i, 1 ≤ i → i < j + 1 → (F.P i).k ≠ 0) := hid (fun i h1 h2 => by
            by_cases e : i = j
            · subst e; rw [← gk]; exact hk
            · exact HJ.out i h1 (by omega))
          clear HJ gk
          go_wp2_with fail
          go_roundw
          case rel => exact ⟨j + 1, by omega, j6, by go_num, trivial, HJ2⟩
          case measure => simp [intOf]; omega
      · obtain rfl : j = 17 := by omega
        have HFR : Hid (F.free = 0) := hid (by rw [free_is F 17 j1 j2 HJ.out (fun h => absurd h hj), if_neg hj])
        have HR4 : Hid (R = (F, 0, 28)) := hid (by rw [HR3.out, HFR.out]; simp)
        clear HR3 HFR HJ
        go_wp2_with fail
        go_ret2
        rw [HR4.out]
        exact ⟨rfl, HH.out.same HB2.out⟩

set_option maxHeartbeats 2000000 in
theorem rmake_any (x g u : Nat) (V : Nat → Value) (F : Fs) (w : World) (H : Rf w x g u V F) (hF : FOk F) (t : ByteArray) (hs : t.size ≤ 1048576) (kind : Int) :
    Calls Tryz.prog 76 #[.pointer (some ⟨x, 0, none⟩), .string t, .int .i64 kind] w fun e w' => e = .returned (.tuple #[.int .i64 ((F.make (bl t) kind).2.1 : Int), .int .i64 (F.make (bl t) kind).2.2]) ∧ RfTo w x g u V (F.make (bl t) kind).1 w' := by
  by_cases hkd : kind ≠ 1 ∧ kind ≠ 2
  · rw [show F.make (bl t) kind = (F, 0, 22) from if_pos hkd]
    have HS := hid (H.same (Below.refl w.heap.size w))
    have q1 : (kind != 1) = true := by simpa using hkd.1
    have q2 : (kind != 2) = true := by simpa using hkd.2
    have q5 : (kind != 1 && kind != 2) = true := by rw [q1, q2]; rfl
    obtain ⟨q3, q4⟩ := hkd
    clear H hF
    go_enter Tryz.func76, Tryz.ntmps76
    go_wp2_with fail
    go_ret2
    exact ⟨rfl, HS.out⟩
  · rcases (show kind = 1 ∨ kind = 2 by omega) with rfl | rfl
    · exact rmake_1 x g u V F w H hF t hs
    · exact rmake_2 x g u V F w H hF t hs

end Go.Proofs.YtoknhcjneliboaaGreat

/- What there, free, node of the document's open files do. -/
namespace Go.Proofs.YtoknhcjneliboaaGreat
open Go.RowKit Go.ChangeMaps Go.MapKept
set_option linter.unusedVariables false
set_option maxRecDepth 20000

theorem TOk.k0 {T : Ft} (H : TOk T) (i : Nat) : (T.O i).k = 0 ↔ (T.O i).h = 0 := by
  constructor
  · intro e
    by_cases h : (T.O i).h = 0
    · exact h
    · have := H.k i h; omega
  · intro e
    rw [H.nn i e]; rfl

set_option maxHeartbeats 1000000 in
theorem r8there (w : World) (x g s q : Nat) (Dn Dp : Nat → Prop) (T : Ft) (H : Rs w x g s q Dn Dp T) (hT : TOk T) (n : Int) :
    Calls Tryz.prog 65 #[.pointer (some ⟨x, 0, none⟩), .int .i64 n] w fun e w' => e = .returned (.bool (T.there n)) ∧ w' = w := by
  by_cases h1 : n < 1
  · rw [show T.there n = false by unfold Ft.there; simp; omega]
    have h1' : ¬ (1 : Int) ≤ n := by omega
    clear H
    go_enter Tryz.func65, Tryz.ntmps65
    go_wp2_with fail
    go_ret
    exact ⟨rfl, rfl⟩
  have h1' : (1 : Int) ≤ n := by omega
  by_cases h2 : 10 < n
  · rw [show T.there n = false by unfold Ft.there; simp; omega]
    have h2' : ¬ n ≤ (10 : Int) := by omega
    clear H
    go_enter Tryz.func65, Tryz.ntmps65
    go_wp2_with fail
    go_ret
    exact ⟨rfl, rfl⟩
  have h2' : n ≤ (10 : Int) := by omega
  obtain ⟨i, rfl⟩ : ∃ i : Nat, n = (i : Int) := ⟨n.toNat, by omega⟩
  have hi : i < 11 := by omega
  have c0 := H.gf.c0 i hi
  have cl := H.cl
  have i1 : (0 : Int) ≤ (i : Int) := by omega
  have i2 : (i : Int) < 11 := by omega
  have hk := hT.k0 i
  by_cases hh : (T.O i).h = 0
  · rw [show T.there (i : Int) = false by unfold Ft.there; simp [hh]]
    rw [hk.2 hh] at c0
    clear H hh hk h1 h2
    go_enter Tryz.func65, Tryz.ntmps65
    go_wp2_with fail
    go_ret
    exact ⟨rfl, rfl⟩
  · rw [show T.there (i : Int) = true by unfold Ft.there; simp [hh]; omega]
    have hk' : ¬ (T.O i).k = 0 := fun e => hh (hk.1 e)
    generalize (T.O i).k = k at c0 hk'
    clear H hh hk h1 h2
    go_enter Tryz.func65, Tryz.ntmps65
    go_wp2_with fail
    go_ret
    refine ⟨?_, rfl⟩
    simp [hk']

theorem infoI9 : (Tryz.prog.info? 3).map (fun i => (i.zero, i.size, i.bytes)) = some (some (.int .i64 0), 1, 8) := by kernel_rfl

set_option maxHeartbeats 2000000 in
theorem r8free (w : World) (x g s q : Nat) (Dn Dp : Nat → Prop) (T : Ft) (H : Rs w x g s q Dn Dp T) (hT : TOk T) : Calls Tryz.prog 56 #[.pointer (some ⟨x, 0, none⟩)] w fun e w' => (∃ v, e = .returned v ∧ w'.ownsRow w.heap.size 3 1 v (ofL T.O 11).length ((ofL T.O 11).map fun (i : Nat) => Value.int .i64 (i : Int))) ∧ Below w.heap.size w w' := by
  obtain ⟨i0, hi0, hz0, hz1, hz2⟩ := info_parts infoI9
  have HH := hid H
  have HK := hid hT.k0
  obtain ⟨F, gF⟩ : ∃ F, F = T.O := ⟨_, rfl⟩
  rw [← gF] at HK ⊢
  have HC : Hid (∀ W, Below w.heap.size w W → W.cell? ⟨x, 0, none⟩ = some (.slice (some ⟨g, 0, none⟩) 11 11) ∧ ∀ j, j < 11 → W.cell? ⟨g, j * 5, none⟩ = some (.int .i64 (F j).k)) := by
    rw [gF]
    exact hid (fun W hW => ⟨(HH.out.grow hW).cl, fun j hj => (HH.out.grow hW).gf.c0 j hj⟩)
  clear H hT HH gF
  go_enter Tryz.func56, Tryz.ntmps56
  go_wp2_with fail
  go_loopw [3, 4] (fun v k wr => ∃ j : Nat, 1 ≤ j ∧ j ≤ 11 ∧ k = .int .i64 (j : Int) ∧ Hid (wr.ownsRow w.heap.size 3 1 v (ofL F j).length ((ofL F j).map fun (i : Nat) => Value.int .i64 (i : Int)) ∧ Below w.heap.size w wr)) (fun _ k _ => 11 - (intOf k).toNat)
  case atStart => exact ⟨1, by omega, by omega, rfl, hid ⟨World.ownsRow_nil _ _ _ _, Below.refl _ _⟩⟩
  case round =>
    obtain ⟨j, hj1, hj11, rfl, HQ⟩ := hrel
    by_cases e : j = 11
    · subst e
      go_wp2_with fail
      go_ret
      exact ⟨⟨_, rfl, HQ.out.1⟩, HQ.out.2⟩
    · have hj : j < 11 := by omega
      have hj2 : (j : Int) ≤ 10 := by omega
      have hj3 : (j : Int) < 11 := by omega
      have hj0 : (0 : Int) ≤ (j : Int) := by omega
      obtain ⟨cl, c0'⟩ := HC.out _ HQ.out.2
      have c0 := c0' j hj
      have hfl := ofL_le F j
      have hk := HK.out j
      clear e c0'
      by_cases h0 : (F j).h = 0
      · rw [hk.2 h0] at c0
        have HC : Hid (ofL F (j + 1) = ofL F j ++ [j]) := hid (by rw [ofL, if_pos ⟨hj1, h0⟩])
        have hsz := HQ.out.2.size
        clear h0 hk
        go_wp2_with (at_builtin; go_must (refine wpList_append_own _ rfl (.tmp 18) (.tmp 20) 44 rfl w.heap.size 3 i0 _ 1 8 Tryz.underlying44 hi0 hz0 hz1 hz2 rfl (by decide) _ (ofL F j).length ((ofL F j).map fun (i : Nat) => Value.int .i64 (i : Int)) rfl (HQ.out.1.alloc _) ⟨_, 0, none⟩ 1 1 [.int .i64 (j : Int)] rfl rfl (cell_one_new _ _ _) (by simp [Value.oneCell']) (by unfold maxLen; omega) (by omega) (by simp; omega) ?_))
        intro v' w6 hO6 hG6 hN6
        have hb6 : Below w.heap.size w w6 := by
          have u : Upd _ _ w6 := Upd.of_grown hG6
          refine (HQ.out.2.trans (((Below.refl _ _).alloc (Nat.le_refl _) _).mono hsz)).trans (u.below (by simp; omega) (fun k hk => ?_))
          exact (HQ.out.1.lt k hk.symm).1
        have HQ6 : Hid (w6.ownsRow w.heap.size 3 1 v' (ofL F (j + 1)).length ((ofL F (j + 1)).map fun (i : Nat) => Value.int .i64 (i : Int)) ∧ Below w.heap.size w w6) := by
          rw [HC.out]
          refine hid ⟨?_, hb6⟩
          simpa using hO6
        clear hO6 hG6 hN6 hb6
        go_wp2_with fail
        go_roundw
        case rel => exact ⟨j + 1, by omega, by omega, by go_num, HQ6⟩
        case measure => simp [intOf]; omega
      · have HC : Hid (ofL F (j + 1) = ofL F j) := hid (by rw [ofL, if_neg (fun e => h0 e.2)]; simp)
        have hk' : ¬ (F j).k = 0 := fun e => h0 (hk.1 e)
        generalize (F j).k = k at c0 hk'
        clear h0 hk
        go_wp2_with fail
        go_roundw
        case rel => exact ⟨j + 1, by omega, by omega, by go_num, by rw [HC.out]; exact HQ⟩
        case measure => simp [intOf]; omega

theorem ddfc_t {g b : Int} (h : dfc g b = true) : (bits BinOp.and IntKind.i64 g b == 0) = false ∧ (bits BinOp.and IntKind.i64 g b != 0) = true := by
  unfold dfc at h
  simp at h
  simp [h]
theorem ddfc_f {g b : Int} (h : dfc g b = false) : (bits BinOp.and IntKind.i64 g b == 0) = true ∧ (bits BinOp.and IntKind.i64 g b != 0) = false := by
  unfold dfc at h
  simp at h
  simp [h]

theorem Rs.find {w : World} {x g s q : Nat} {Dn Dp : Nat → Prop} {T : Ft} (H : Rs w x g s q Dn Dp T) (hF : FOk T.F) (l : ByteArray) (hs : l.size ≤ 1048576) :
    Calls Tryz.prog 82 #[.pointer (some ⟨s, 0, none⟩), .string l] w fun e w' => e = .returned (.tuple #[.int .i64 ((T.F.find (bl l)).1 : Int), .int .i64 (T.F.find (bl l)).2]) ∧ Below w.heap.size w w' := by
  obtain ⟨gN, uN, V, hR, hD⟩ := H.nf
  exact rfind_any s gN uN V T.F w hR hF l hs
theorem Rs.make {w : World} {x g s q : Nat} {Dn Dp : Nat → Prop} {T : Ft} (H : Rs w x g s q Dn Dp T) (hF : FOk T.F) (l : ByteArray) (hs : l.size ≤ 1048576) (k : Int) :
    Calls Tryz.prog 76 #[.pointer (some ⟨s, 0, none⟩), .string l, .int .i64 k] w fun e w' => e = .returned (.tuple #[.int .i64 ((T.F.make (bl l) k).2.1 : Int), .int .i64 (T.F.make (bl l) k).2.2]) ∧ NfTo w s (T.F.make (bl l) k).1 Dn w' := by
  obtain ⟨gN, uN, V, hR, hD⟩ := H.nf
  refine (rmake_any s gN uN V T.F w hR hF l hs k).mono ?_
  rintro e w' ⟨rfl, h⟩
  exact ⟨rfl, NfTo.of hD h⟩

/-- The system turns alone. -/
def RsP (w : World) (x g s q : Nat) (Dn Dp : Nat → Prop) (T : Ft) (w' : World) : Prop := ∃ Dm, Rs w' x g s q Dm Dp T ∧ (∀ b, Dm b → Dn b ∨ w.heap.size ≤ b) ∧ Upd Dn w w'
theorem RsP.same {w w' : World} {x g s q : Nat} {Dn Dp : Nat → Prop} {T : Ft} (H : Rs w x g s q Dn Dp T) (u : Below w.heap.size w w') : RsP w x g s q Dn Dp T w' := ⟨Dn, H.grow u, fun b hb => .inl hb, Upd.of_below u⟩
theorem RsP.of {w X w' : World} {x g s q : Nat} {Dn Dp : Nat → Prop} {T : Ft} {F' : Fs} (H : Rs X x g s q Dn Dp T) (hX : Below w.heap.size w X) (k : NfTo X s F' Dn w') (hd : F'.d = T.F.d) : RsP w x g s q Dn Dp { T with F := F' } w' :=
  ⟨_, H.sys k hd, fun b hb => hb.1.imp id (fun h => Nat.le_trans hX.size h), (Upd.of_below hX).trans k.2 (fun _ _ h => h)⟩
theorem RsP.grow {w w' w2 : World} {x g s q : Nat} {Dn Dp : Nat → Prop} {T : Ft} (h : RsP w x g s q Dn Dp T w') (u : Below w'.heap.size w' w2) : RsP w x g s q Dn Dp T w2 := by
  obtain ⟨Gm, h1, h2, h3⟩ := h
  exact ⟨Gm, h1.grow u, h2, h3.trans (Upd.of_below (F := Dn) u) (fun _ _ h => h)⟩
theorem RsP.to {w0 w w' : World} {x g s q : Nat} {Dn Dp D : Nat → Prop} {T : Ft} (h : RsP w x g s q Dn Dp T w') (hX : Below w0.heap.size w0 w) (hD : ∀ b, RFoot x g Dn Dp b → D b) : TdTo w0 x T D w' := by
  obtain ⟨Dm, h1, h2, h3⟩ := h
  exact TdTo.of h1 hD (fun b hb => (h2 b hb).imp id (fun h => Nat.le_trans hX.size h)) (fun b hb => .inl hb) ((Upd.of_below hX).trans h3 (fun b _ hb => .inr (.inr (.inl hb))))
theorem RsP.trans {w w3 w4 : World} {x g s q : Nat} {Dn Dm Dp : Nat → Prop} {T2 : Ft} (hm : ∀ b, Dm b → Dn b ∨ w.heap.size ≤ b) (hu : Upd Dn w w3) (k : RsP w3 x g s q Dm Dp T2 w4) : RsP w x g s q Dn Dp T2 w4 := by
  obtain ⟨Gk, h1, h2, h3⟩ := k
  refine ⟨Gk, h1, fun b hb => ?_, hu.trans h3 (fun b hb hG => ?_)⟩
  · rcases h2 b hb with h | h
    · exact hm b h
    · exact .inr (Nat.le_trans hu.size h)
  · rcases hm b hG with h | h
    · exact h
    · omega

set_option maxHeartbeats 2000000 in
theorem r8node (w : World) (x g s q : Nat) (Dn Dp : Nat → Prop) (T : Ft) (H : Rs w x g s q Dn Dp T) (hF : FOk T.F) (l : ByteArray) (hs : l.size ≤ 1048576) (f : Int) :
    Calls Tryz.prog 57 #[.pointer (some ⟨x, 0, none⟩), .string l, .int .i64 f] w fun e w' => e = .returned (.tuple #[.int .i64 ((Ft.node T.F (bl l) f).2.1 : Int), .int .i64 (Ft.node T.F (bl l) f).2.2]) ∧ RsP w x g s q Dn Dp { T with F := (Ft.node T.F (bl l) f).1 } w' := by
  have k1 := hid (H.find hF l hs)
  have cs := H.cs
  have HS := hid (fun X (hX : Below w.heap.size w X) => RsP.same H hX)
  have HC := hid (fun X (hX : Below w.heap.size w X) => (H.grow hX).cs)
  have k2 : Hid (∀ X, Below w.heap.size w X → Calls Tryz.prog 76 #[.pointer (some ⟨s, 0, none⟩), .string l, .int .i64 1] X fun e w' => e = .returned (.tuple #[.int .i64 ((T.F.make (bl l) 1).2.1 : Int), .int .i64 (T.F.make (bl l) 1).2.2]) ∧ Hid (RsP w x g s q Dn Dp { T with F := (T.F.make (bl l) 1).1 } w')) := by
    refine hid (fun X hX => ((H.grow hX).make hF l hs 1).mono ?_)
    rintro e w' ⟨rfl, hk⟩
    exact ⟨rfl, hid (RsP.of (H.grow hX) hX hk (SH.make hF _ _).1)⟩
  unfold Ft.node
  clear H hF
  generalize T.F.find (bl l) = r at k1 ⊢
  obtain ⟨n, E⟩ := r
  dsimp only at k1 ⊢
  cases h8 : dfc f 8
  · rw [if_pos rfl]
    obtain ⟨b1, b2⟩ := ddfc_f h8
    clear k2 h8
    by_cases e2 : E = 2
    · subst e2
      go_enter Tryz.func57, Tryz.ntmps57
      go_wp2_with fail
      refine k1.out.mono ?_
      rintro e w1 ⟨rfl, hb⟩
      have HQ := hid (HS.out w1 hb)
      clear k1 hb HS HC
      go_wp2_with fail
      go_ret2
      exact ⟨rfl, HQ.out⟩
    by_cases e0 : E = 0
    · subst e0
      go_enter Tryz.func57, Tryz.ntmps57
      go_wp2_with fail
      refine k1.out.mono ?_
      rintro e w1 ⟨rfl, hb⟩
      have HQ := hid (HS.out w1 hb)
      clear k1 hb HS HC
      go_wp2_with fail
      go_ret2
      exact ⟨rfl, HQ.out⟩
    go_enter Tryz.func57, Tryz.ntmps57
    go_wp2_with fail
    refine k1.out.mono ?_
    rintro e w1 ⟨rfl, hb⟩
    have HQ := hid (HS.out w1 hb)
    clear k1 hb HS HC
    go_wp2_with fail
    go_ret2
    exact ⟨rfl, HQ.out⟩
  rw [if_neg (by simp)]
  obtain ⟨b1, b2⟩ := ddfc_t h8
  clear h8
  by_cases h2 : E = 2
  · subst h2
    rw [if_pos rfl]
    generalize T.F.make (bl l) 1 = r at k2 ⊢
    obtain ⟨F', m, E⟩ := r
    dsimp only at k2 ⊢
    go_enter Tryz.func57, Tryz.ntmps57
    go_wp2_with fail
    refine k1.out.mono ?_
    rintro e w1 ⟨rfl, hb⟩
    have K2 := hid (k2.out w1 hb)
    have cs1 := HC.out w1 hb
    clear k1 k2 hb HS HC
    go_wp2_with fail
    refine K2.out.mono ?_
    rintro e w2 ⟨rfl, HQ⟩
    clear K2
    go_wp2_with fail
    go_ret2
    exact ⟨rfl, HQ.out⟩
  rw [if_neg h2]
  clear k2
  by_cases h3 : E = 0 ∧ dfc f 16 = true
  · rw [if_pos h3]
    obtain ⟨rfl, h16⟩ := h3
    obtain ⟨b3, b4⟩ := ddfc_t h16
    clear h16
    go_enter Tryz.func57, Tryz.ntmps57
    go_wp2_with fail
    refine k1.out.mono ?_
    rintro e w1 ⟨rfl, hb⟩
    have HQ := hid (HS.out w1 hb)
    clear k1 hb HS HC
    go_wp2_with fail
    go_ret2
    exact ⟨rfl, HQ.out⟩
  rw [if_neg h3]
  by_cases h0 : E = 0
  · subst h0
    have h16 : dfc f 16 = false := by simpa using h3
    obtain ⟨b3, b4⟩ := ddfc_f h16
    clear h16 h3
    go_enter Tryz.func57, Tryz.ntmps57
    go_wp2_with fail
    refine k1.out.mono ?_
    rintro e w1 ⟨rfl, hb⟩
    have HQ := hid (HS.out w1 hb)
    clear k1 hb HS HC
    go_wp2_with fail
    go_ret2
    exact ⟨rfl, HQ.out⟩
  · clear h3
    go_enter Tryz.func57, Tryz.ntmps57
    go_wp2_with fail
    refine k1.out.mono ?_
    rintro e w1 ⟨rfl, hb⟩
    have HQ := hid (HS.out w1 hb)
    clear k1 hb HS HC
    go_wp2_with fail
    go_ret2
    exact ⟨rfl, HQ.out⟩

end Go.Proofs.YtoknhcjneliboaaGreat

/- What node, file, Hold, Drop, settle and takeLink do to any system. -/
namespace Go.Proofs.YtoknhcjneliboaaGreat
open Go.RowKit Go.ChangeMaps Go.MapKept
set_option linter.unusedVariables false
set_option maxRecDepth 20000

set_option maxHeartbeats 1000000 in
theorem node_no (p : Nat) (S : Sg) (w : World) (H : Sy w p S) (n : Int) (h : n < 1 ∨ 16 < n ∨ (1 ≤ n ∧ n ≤ 16 ∧ (S.P n.toNat).k = 0)) :
    Calls Tryz.prog 95 #[.pointer (some ⟨p, 0, none⟩), .int .i64 n] w fun e w' => e = .returned (.tuple #[.pointer none, .int .i64 2]) ∧ w' = w := by
  have k0 := hid H.usable
  by_cases h1 : n < 1
  · clear H h
    go_enter Tryz.func95, Tryz.ntmps95
    go_wp2_with fail
    refine k0.out.mono ?_
    rintro e w1 ⟨rfl, rfl⟩
    clear k0
    go_wp2_with fail
    go_ret2
    exact ⟨rfl, rfl⟩
  by_cases h2 : 16 < n
  · clear H h
    go_enter Tryz.func95, Tryz.ntmps95
    go_wp2_with fail
    refine k0.out.mono ?_
    rintro e w1 ⟨rfl, rfl⟩
    clear k0
    go_wp2_with fail
    go_ret2
    exact ⟨rfl, rfl⟩
  obtain ⟨i, rfl⟩ : ∃ i : Nat, n = (i : Int) := ⟨n.toNat, by omega⟩
  have hk : (S.P i).k = 0 := by
    rcases h with h | h | h
    · omega
    · omega
    · exact h.2.2
  have hi : i < 17 := by omega
  have k1 := hid (isthere_any p (1 + i * 107) _ w (H.k i hi))
  rw [show decide ((S.P i).k ≠ 0) = false by simp [hk]] at k1
  have c3 : (0 : Int) ≤ (i : Int) := by omega
  have c4 : (i : Int) < 17 := by omega
  clear H h hk
  go_enter Tryz.func95, Tryz.ntmps95
  go_wp2_with fail
  refine k0.out.mono ?_
  rintro e w1 ⟨rfl, rfl⟩
  clear k0
  go_wp2_with fail
  refine k1.out.mono ?_
  rintro e w1 ⟨rfl, rfl⟩
  clear k1
  go_wp2_with fail
  go_ret2
  exact ⟨rfl, rfl⟩

theorem there_no {S : Sg} {F : Fs} (R : Rel S F) {n : Int} (h : F.there n = false) : n < 1 ∨ 16 < n ∨ (1 ≤ n ∧ n ≤ 16 ∧ (S.P n.toNat).k = 0) := by
  simp only [Fs.there, decide_eq_false_iff_not] at h
  by_cases h1 : n < 1
  · exact .inl h1
  by_cases h2 : 16 < n
  · exact .inr (.inl h2)
  refine .inr (.inr ⟨by omega, by omega, ?_⟩)
  rw [(R.P n.toNat (by omega)).k]
  exact Decidable.not_not.1 (fun q => h ⟨by omega, by omega, q⟩)
theorem there_yes {F : Fs} {n : Int} (h : F.there n = true) : ∃ i : Nat, n = (i : Int) ∧ 1 ≤ i ∧ i < 17 ∧ (F.P i).k ≠ 0 := by
  simp only [Fs.there, decide_eq_true_eq] at h
  exact ⟨n.toNat, by omega, by omega, by omega, h.2.2⟩

set_option maxHeartbeats 1000000 in
theorem file_no (p : Nat) (S : Sg) (F : Fs) (w : World) (H : Sy w p S) (R : Rel S F) (n : Int) (h : F.file n ≠ 0) :
    Calls Tryz.prog 116 #[.pointer (some ⟨p, 0, none⟩), .int .i64 n] w fun e w' => e = .returned (.tuple #[.pointer none, .int .i64 (F.file n)]) ∧ w' = w := by
  by_cases ht : F.there n = false
  · have e : F.file n = 2 := by unfold Fs.file; rw [if_pos ht]
    rw [e]
    have k0 := hid (node_no p S w H n (there_no R ht))
    clear H R h e ht
    go_enter Tryz.func116, Tryz.ntmps116
    go_wp2_with fail
    refine k0.out.mono ?_
    rintro e w1 ⟨rfl, rfl⟩
    clear k0
    go_wp2_with fail
    go_ret2
    exact ⟨rfl, rfl⟩
  · obtain ⟨i, rfl, h1, h2, hk⟩ := there_yes (by simpa using ht : F.there n = true)
    have h3 : (F.P i).k = 2 := by
      unfold Fs.file at h
      rw [if_neg ht] at h
      exact Decidable.not_not.1 (fun q => h (by rw [if_neg]; exact q))
    have e : F.file (i : Int) = 21 := by unfold Fs.file; rw [if_neg ht]; exact if_pos h3
    rw [e]
    have hkk : (S.P i).k = 2 := (R.P i h2).k.trans h3
    have k0 := hid (node_yes p S w H i h1 h2 (by omega))
    have k1 := hid (isdir_any p (1 + i * 107) _ w (H.k i h2))
    rw [show decide ((S.P i).k = 2) = true by simp [hkk]] at k1
    clear H R h e ht hk h3 hkk
    go_enter Tryz.func116, Tryz.ntmps116
    go_wp2_with fail
    refine k0.out.mono ?_
    rintro e w1 ⟨rfl, rfl⟩
    clear k0
    go_wp2_with fail
    refine k1.out.mono ?_
    rintro e w1 ⟨rfl, rfl⟩
    clear k1
    go_wp2_with fail
    go_ret2
    exact ⟨rfl, rfl⟩

set_option maxHeartbeats 1000000 in
theorem phold (p : Nat) (F : Fs) (G : Nat → Prop) (w : World) (H : Pf w p F G) (hF : FOk F) (n : Int) :
    Calls Tryz.prog 55 #[.pointer (some ⟨p, 0, none⟩), .int .i64 n] w fun e w' => e = .returned (.int .i64 (F.hold n).2) ∧ PfTo w p (F.hold n).1 G w' := by
  have HP := H
  obtain ⟨S, HS, R, hG⟩ := H
  by_cases ht : F.there n = false
  · have e : F.hold n = (F, 2) := by unfold Fs.hold; rw [if_pos ht]
    rw [e]
    have k0 := hid (node_no p S w HS n (there_no R ht))
    have HQ := hid (PfTo.same HP (Below.refl _ w))
    clear HS R hG HP e ht
    go_enter Tryz.func55, Tryz.ntmps55
    go_wp2_with fail
    refine k0.out.mono ?_
    rintro e w1 ⟨rfl, rfl⟩
    clear k0
    go_wp2_with fail
    go_ret
    exact ⟨rfl, HQ.out⟩
  obtain ⟨i, rfl, h1, h2, hk⟩ := there_yes (by simpa using ht : F.there n = true)
  have hh := hF.h i
  have eh := (R.P i h2).h
  have hkk : (S.P i).k ≠ 0 := by rw [(R.P i h2).k]; exact hk
  obtain ⟨m, hm⟩ : ∃ m : Nat, (F.P i).h = (m : Int) := ⟨(F.P i).h.toNat, by omega⟩
  by_cases h3 : 1000 ≤ (F.P i).h
  · have e : F.hold (i : Int) = (F, 11) := by unfold Fs.hold; rw [if_neg ht]; exact if_pos h3
    rw [e]
    have hm1 : m = 1000 := by omega
    have k0 := hid (node_yes p S w HS i h1 h2 hkk)
    have c := HS.h i h2
    rw [eh, hm, hm1] at c
    have HQ := hid (PfTo.same HP (Below.refl _ w))
    clear HS R hG HP e ht hk hh eh hkk hm h3
    go_enter Tryz.func55, Tryz.ntmps55
    go_wp2_with fail
    refine k0.out.mono ?_
    rintro e w1 ⟨rfl, rfl⟩
    clear k0
    go_wp2_with fail
    go_ret
    exact ⟨rfl, HQ.out⟩
  · have e : F.hold (i : Int) = (F.hld i ((F.P i).h + 1), 0) := by unfold Fs.hold; rw [if_neg ht]; exact if_neg h3
    rw [e]
    refine (hold_yes p S w HS i h1 h2 hkk m (eh.trans hm) (by omega)).mono ?_
    rintro e w' ⟨rfl, h4, u⟩
    refine ⟨rfl, PfTo.of hG h4 (by rw [hm]; exact R.hold i h2 ((m : Int) + 1)) (fun x hx => ?_) (u.mono (fun x _ hx => .inl hx))⟩
    · left
      rcases hx with hx | ⟨j, hj, hx⟩
      · exact .inl hx
      · refine .inr ⟨j, hj, ?_⟩
        rw [← hx]
        show _ = (updN S.P i _ j).m
        by_cases e : j = i
        · subst e; rw [updN_same]; rfl
        · rw [updN_ne _ _ _ _ e]

theorem foot_at {S : Sg} {p i : Nat} {x : Nd} (hm : x.m = (S.P i).m) (b : Nat) (h : (S.at_ i x).foot p b) : S.foot p b := by
  rcases h with h | ⟨j, hj, h⟩
  · exact .inl h
  · refine .inr ⟨j, hj, ?_⟩
    rw [← h]
    show _ = (updN S.P i x j).m
    by_cases e : j = i
    · subst e; rw [updN_same, hm]
    · rw [updN_ne _ _ _ _ e]
theorem foot_gone {S : Sg} {p i : Nat} {T : Nat → Bool} (b : Nat) (h : ((S.tk T).gone i).foot p b) : S.foot p b := by
  rcases h with h | ⟨j, hj, h⟩
  · exact .inl h
  · refine .inr ⟨j, hj, ?_⟩
    change (updN S.P i noNd j).m = some b at h
    by_cases e : j = i
    · subst e; rw [updN_same] at h; simp [noNd] at h
    · rw [updN_ne _ _ _ _ e] at h; exact h

/-- What a system becomes in its own blocks. -/
def Into (w : World) (p : Nat) (S : Sg) (F : Fs) (w' : World) : Prop := ∃ S', Sy w' p S' ∧ Rel S' F ∧ (∀ x, S'.foot p x → S.foot p x) ∧ Upd (S.foot p) w w'
theorem Into.to {w w' : World} {p : Nat} {S : Sg} {F : Fs} {G : Nat → Prop} (h : Into w p S F w') (h0 : ∀ x, S.foot p x → G x) : PfTo w p F G w' := by
  obtain ⟨S', h1, h2, h3, h4⟩ := h
  exact ⟨⟨S', h1, h2, fun x hx => .inl (h0 x (h3 x hx))⟩, h4.mono (fun x _ hx => h0 x hx)⟩
theorem Into.trans {w w1 w2 : World} {p : Nat} {S S1 : Sg} {F2 : Fs} (hf : ∀ x, S1.foot p x → S.foot p x) (u : Upd (S.foot p) w w1) (k : Into w1 p S1 F2 w2) : Into w p S F2 w2 := by
  obtain ⟨S2, k1, k2, k3, k4⟩ := k
  exact ⟨S2, k1, k2, fun x hx => hf x (k3 x hx), u.trans k4 (fun x _ hx => hf x hx)⟩
theorem upd_p {w w' : World} {p : Nat} {S : Sg} (u : Upd (· = p) w w') : Upd (S.foot p) w w' := u.mono (fun x _ hx => .inl hx)

theorem NdR.bs {x : Nd} {y : Fn} (h : NdR x y) (hB : y.B.length = Fs.need y.c.length) : y.B.length = need x.s ∧ ∀ j, j < need x.s → x.B.getD j 0 = ((y.B.getD j 0 : Nat) : Int) := by
  have e : y.B.length = need x.s := by rw [hB, h.s]; rfl
  exact ⟨e, fun j hj => h.B j (by omega)⟩

/-- A node that nothing keeps goes. -/
theorem psettle (p : Nat) (S : Sg) (F : Fs) (w : World) (H : Sy w p S) (R : Rel S F) (i : Nat) (hi : i < 17) (hi0 : i ≠ 0) (h1 : i = 1 → 0 < (F.P i).l) (hc : (F.P i).c.length ≤ 96) (hB : (F.P i).B.length = Fs.need (F.P i).c.length) (hT : ∀ b ∈ (F.P i).B, b < 25)
    (hQ : ¬ (0 < (F.P i).l ∨ 0 < (F.P i).h) → (F.P i).Q = []) :
    Calls Tryz.prog 149 #[.pointer (some ⟨p, 0, none⟩), .int .i64 (i : Int)] w fun e w' => e = .returned (.tuple #[]) ∧ Into w p S (F.gone i) w' := by
  have r := R.P i hi
  unfold Fs.gone
  by_cases hk : 0 < (F.P i).l ∨ 0 < (F.P i).h
  · rw [if_pos hk]
    refine (settle_keep p S w H i hi (by rw [r.l, r.h]; exact hk)).mono ?_
    rintro e w' ⟨rfl, rfl⟩
    exact ⟨rfl, S, H, R, fun _ h => h, Upd.refl _ _⟩
  · rw [if_neg hk]
    obtain ⟨b1, b2⟩ := r.bs hB
    refine (settle_gone p S w H i hi hi0 (fun e => hk (.inl (h1 e))) (by rw [r.l]; omega) (by rw [r.h]; omega) (by rw [r.s]; exact hc) (F.P i).B b1 b2 hT).mono ?_
    rintro e w' ⟨rfl, h, u⟩
    exact ⟨rfl, _, h, R.gone i (hQ hk) _, fun x hx => foot_gone x hx, upd_p u⟩

set_option maxHeartbeats 2000000 in
theorem ptklink (p : Nat) (S : Sg) (F : Fs) (w : World) (H : Sy w p S) (R : Rel S F) (i : Nat) (hi : i < 17) (hi0 : i ≠ 0) (h1 : i ≠ 1) (hl : 0 ≤ (F.P i).l ∧ (F.P i).l ≤ 1000000) (hc : (F.P i).c.length ≤ 96) (hB : (F.P i).B.length = Fs.need (F.P i).c.length) (hT : ∀ b ∈ (F.P i).B, b < 25)
    (hQ : ¬ (0 < (F.P i).l - 1 ∨ 0 < (F.P i).h) → (F.P i).Q = []) :
    Calls Tryz.prog 134 #[.pointer (some ⟨p, 0, none⟩), .int .i64 (i : Int)] w fun e w' => e = .returned (.tuple #[]) ∧ Into w p S (F.less i) w' := by
  have d := H.l i hi
  rw [(R.P i hi).l] at d
  have f := H.fz (1 + i * 107 + 1)
  have a0 : (0 : Int) ≤ (i : Int) := by omega
  have a1 : (i : Int) < 17 := by omega
  obtain ⟨l, gl⟩ : ∃ l, l = (F.P i).l := ⟨_, rfl⟩
  have hS : Sy (w.setCell ⟨p, 1 + i * 107 + 1, none⟩ (.int .i64 (l - 1))).drew p (S.at_ i ((S.P i).link (l - 1))) := (H.linkTo i hi (l - 1)).hp rfl
  have hR : Rel (S.at_ i ((S.P i).link (l - 1))) (F.lnk i (l - 1)) := R.link i hi _
  have eP : (F.lnk i (l - 1)).P i = { F.P i with l := l - 1 } := Fs.at_self _ _ _
  have eF : (F.lnk i (l - 1)).gone i = F.less i := by rw [gl]; rfl
  have k1 : Hid (Calls Tryz.prog 149 #[.pointer (some ⟨p, 0, none⟩), .int .i64 (i : Int)] (w.setCell ⟨p, 1 + i * 107 + 1, none⟩ (.int .i64 (l - 1))).drew fun e w' => e = .returned (.tuple #[]) ∧ Into w p S (F.less i) w') := by
    refine hid ((psettle p _ (F.lnk i (l - 1)) _ hS hR i hi hi0 (fun e => absurd e h1) (by rw [eP]; exact hc) (by rw [eP]; exact hB) (by rw [eP]; exact hT) (by rw [eP, gl]; exact hQ)).mono ?_)
    rintro e w' ⟨rfl, h⟩
    rw [eF] at h
    have hu : Upd (S.foot p) w (w.setCell ⟨p, 1 + i * 107 + 1, none⟩ (.int .i64 (l - 1))).drew := upd_p ((Upd.setCell (F := (· = p)) w ⟨p, _, none⟩ _ rfl).drewN 1)
    have hf : ∀ x, (S.at_ i ((S.P i).link (l - 1))).foot p x → S.foot p x := fun x hx => foot_at (x := (S.P i).link (l - 1)) rfl x hx
    exact ⟨rfl, Into.trans hf hu h⟩
  rw [← gl] at d hl
  have hl0 := hl.1
  have hl1 := hl.2
  clear H R hS hR eP eF hc hB hT hQ gl hl
  go_enter Tryz.func134, Tryz.ntmps134
  go_wp2_with fail
  go_region
  go_wp2_with fail
  refine k1.out.mono ?_
  rintro e w1 ⟨rfl, h⟩
  have HH := hid h
  clear h k1
  go_wp2_with fail
  go_end0
  exact ⟨rfl, HH.out⟩

end Go.Proofs.YtoknhcjneliboaaGreat
