/- Texts of this seat, merged. -/
import Derived.Test.YtliekndkjjaldaaGreatNMg14
import Derived.Deep.RegionLaw
import Derived.BigRegion
import Derived.Test.YtliekndkjjaldaaGreatNMg10
import Derived.Test.YtliekndkjjaldaaGreatNMg8
import Derived.Test.YtliekndkjjaldaaGreatNMg6

/- The document's Unlink and Rmdir. -/
namespace Go.Proofs.YtliekndkjjaldaaGreat
open Go.RowKit
set_option linter.unusedVariables false
set_option maxRecDepth 20000

theorem Rf.cell1 {w : World} {x g u : Nat} {V : Nat → Value} {F : Fs} (H : Rf w x g u V F) (n : Nat) (hn : n < 17) (y : Fn) (o : Nat) (v : Value) (ho : o < 3) (hy : splice (ndL (F.P n) (V (n * 3)) (V (n * 3 + 1)) (V (n * 3 + 2))) o [v] = ndL y (V (n * 3)) (V (n * 3 + 1)) (V (n * 3 + 2))) (hc : y.c = (F.P n).c) (hb : y.B = (F.P n).B) (hq : y.Q = (F.P n).Q) :
    Rf (w.setCell ⟨g, n * 6 + o, none⟩ v) x g u V (F.at_ n y) := by
  refine H.put (U := fun _ => False) n hn y V (fun _ _ => rfl) (Upd.refl _ _) (fun _ _ h => h.elim) o [v] (by simp; omega) hy ?_ ?_ ?_ (fun i b _ h => .inr h) (fun i j b hi hj hb ei ej => ?_)
  · rw [hc]; exact H.rb n hn
  · rw [hb]; exact H.rB n hn
  · rw [hq]; exact H.rQ n hn
  · exact absurd (H.foot_lt b (.inr (.inr (.inr ⟨i, by omega, ei⟩)))) (by omega)
theorem Rf.lnk {w : World} {x g u : Nat} {V : Nat → Value} {F : Fs} (H : Rf w x g u V F) (n : Nat) (hn : n < 17) (l : Int) : Rf (w.setCell ⟨g, n * 6 + 1, none⟩ (.int .i64 l)) x g u V (F.lnk n l) :=
  H.cell1 n hn { F.P n with l := l } 1 _ (by omega) rfl rfl rfl rfl
theorem Rf.hld {w : World} {x g u : Nat} {V : Nat → Value} {F : Fs} (H : Rf w x g u V F) (n : Nat) (hn : n < 17) (l : Int) : Rf (w.setCell ⟨g, n * 6 + 2, none⟩ (.int .i64 l)) x g u V (F.hld n l) :=
  H.cell1 n hn { F.P n with h := l } 2 _ (by omega) rfl rfl rfl rfl
theorem Rf.cell_to {w : World} {x g u : Nat} {V : Nat → Value} {F' : Fs} {j : Nat} {v : Value} (h : Rf (w.setCell ⟨g, j, none⟩ v) x g u V F') : Rf (w.setCell ⟨g, j, none⟩ v) x g u V F' ∧ Upd (RfFoot x g u V) w (w.setCell ⟨g, j, none⟩ v) ∧ ∀ b, RfFoot x g u V b → RfFoot x g u V b ∨ w.heap.size ≤ b :=
  ⟨h, Upd.setCell (F := RfFoot x g u V) w ⟨g, j, none⟩ v (.inr (.inl rfl)), fun b h => .inl h⟩
theorem RfTo.next {w w1 w2 : World} {x g u : Nat} {V V1 : Nat → Value} {F1 F2 : Fs} (h : Rf w1 x g u V1 F1 ∧ Upd (RfFoot x g u V) w w1 ∧ ∀ b, RfFoot x g u V1 b → RfFoot x g u V b ∨ w.heap.size ≤ b) (k : RfTo w1 x g u V1 F2 w2) : RfTo w x g u V F2 w2 := RfTo.trans h.2.1 h.2.2 k
theorem RfTo.below {w w1 w2 : World} {x g u : Nat} {V : Nat → Value} {F2 : Fs} (hb : Below w.heap.size w w1) (k : RfTo w1 x g u V F2 w2) : RfTo w x g u V F2 w2 := RfTo.trans (Upd.of_below hb) (fun b h => .inl h) k

theorem FOk.B25 {F : Fs} (H : FOk F) (n : Nat) : (∀ b ∈ (F.P n).B, b < 25) ∧ (F.P n).B.length ≤ 1000 := by
  refine ⟨fun b hb => (H.T n b hb).2.1, ?_⟩
  rw [H.B n]
  have := (H.c n).1
  unfold Fs.need
  omega

set_option maxHeartbeats 4000000 in
theorem runlink_any (x g u : Nat) (V : Nat → Value) (F : Fs) (w : World) (H : Rf w x g u V F) (hF : FOk F) (hl : ∀ i, (F.P i).l ≤ 1000000) (t : ByteArray) (hs : t.size ≤ 1048576) :
    Calls Tryz.prog 24 #[.pointer (some ⟨x, 0, none⟩), .string t] w fun e w' => e = .returned (.int .i64 (F.unlink (bl t)).2) ∧ RfTo w x g u V (F.unlink (bl t)).1 w' := by
  obtain ⟨R, gR⟩ : ∃ R, R = F.unlink (bl t) := ⟨_, rfl⟩
  rw [← gR]
  have GR := hid gR
  have k1 := hid (rend_any x g u V F w H hF t hs)
  have HH := hid H
  have HF := hid hF
  have HL := hid hl
  clear H hF hl gR
  go_enter Tryz.func24, Tryz.ntmps24
  go_wp2_with fail
  refine k1.out.mono ?_
  rintro e w1 ⟨⟨v, rfl, hE⟩, hB⟩
  have HB := hid hB
  have H1 := hid (HH.out.grow hB)
  clear k1 hB
  rcases hE with ⟨er, hw, rfl⟩ | ⟨y, s, n, hw, rfl⟩
  · have HR2 : Hid (R = (F, er)) := hid (by rw [GR.out]; unfold Fs.unlink; rw [hw])
    have he : er ≠ 0 := by have := Fs.walk_err hw; omega
    clear hw GR
    go_wp2_with fail
    go_ret
    rw [HR2.out]
    exact ⟨rfl, HH.out.same HB.out⟩
  · have W := HF.out.walk_ok hw
    have HR2 : Hid (R = if n = 0 then (F, 2) else if (F.P n).k = 2 then (F, 21) else if 1 < (F.P n).l ∧ dfc F.d 1 = true then (F.deln (Fs.dirOf y) s, 0) else ((F.deln (Fs.dirOf y) s).less n, 0)) := hid (by rw [GR.out]; unfold Fs.unlink; rw [hw])
    obtain ⟨d, gd⟩ : ∃ d, d = Fs.dirOf y := ⟨_, rfl⟩
    have hd := W.lt
    rw [← gd] at hd
    have k2 := hid (rlook_any x g u V F w1 H1.out d (by omega) (HF.out.len d) (bs s))
    rw [bl_bs, gd, ← W.nn, ← gd] at k2
    rw [← gd] at HR2 ⊢
    have hto := W.to
    clear W hw GR gd
    go_wp2_with fail
    refine k2.out.mono ?_
    rintro e w2 ⟨rfl, hb⟩
    have HB2 := hid (HB.out.trans (hb.mono HB.out.size))
    have H2 := hid (H1.out.grow hb)
    clear k2 hb H1 HB
    by_cases hn : n = 0
    · subst hn
      have HR3 : Hid (R = (F, 2)) := hid (by rw [HR2.out, if_pos rfl])
      clear HR2
      go_wp2_with fail
      go_ret
      rw [HR3.out]
      exact ⟨rfl, HH.out.same HB2.out⟩
    · obtain ⟨n2, n3, n4⟩ := hto hn
      have c0 := H2.out.c0
      have c1 := H2.out.k n n3
      have n0 : (0 : Int) ≤ (n : Int) := by omega
      have n1 : (n : Int) < 17 := by omega
      have nz : ¬ (n : Int) = 0 := by omega
      by_cases hk : (F.P n).k = 2
      · have HR3 : Hid (R = (F, 21)) := hid (by rw [HR2.out, if_neg hn, if_pos hk])
        rw [hk] at c1
        clear HR2
        go_wp2_with fail
        go_ret
        rw [HR3.out]
        exact ⟨rfl, HH.out.same HB2.out⟩
      · obtain ⟨k, gk⟩ : ∃ k, k = (F.P n).k := ⟨_, rfl⟩
        have HR3 : Hid (R = if 1 < (F.P n).l ∧ dfc F.d 1 = true then (F.deln d s, 0) else ((F.deln d s).less n, 0)) := hid (by rw [HR2.out, if_neg hn, if_neg hk])
        rw [← gk] at c1 hk
        have k3 := hid (rdropn_any x g u V F w2 H2.out d (by omega) (HF.out.len d) (bs s))
        rw [bl_bs] at k3
        clear HR2 gk hto n4
        go_wp2_with fail
        refine k3.out.mono ?_
        rintro e w3 ⟨rfl, V1, hT⟩
        have HT := hid hT
        have H3 := hid hT.1
        clear k3 hT c0 c1 H2
        have c0 := H3.out.c0
        have c2 := H3.out.l n n3
        have e1 : ((F.deln d s).P n).l = (F.P n).l := by rw [Fs.deln_P]
        have e2 : ((F.deln d s).P n).B = (F.P n).B := by rw [Fs.deln_P]
        rw [e1] at c2
        have k4 := hid (rhas_any x g u V1 _ w3 H3.out 1)
        rw [show (F.deln d s).d = F.d from rfl] at k4
        obtain ⟨l, gl⟩ : ∃ l, l = (F.P n).l := ⟨_, rfl⟩
        have hl0 := HF.out.l0 n
        have hl1 := HL.out n
        have c3 := H3.out.frz (n * 6 + 1)
        rw [← gl] at c2 hl0 hl1
        have hwr : IntKind.i64.wrap (l - 1) = l - 1 := by rw [IntKind.wrap_i64]; omega
        have H4 := hid (H3.out.lnk n n3 (l - 1))
        have HB5 := HF.out.B25 n
        have e5 : (((F.deln d s).lnk n (l - 1)).P n).B = (F.P n).B := by rw [Fs.lnk_P]; exact e2
        have k5 := hid (rgone_any x g u V1 _ _ H4.out n n3 (fun e => absurd e (by omega)) (by rw [e5]; exact HB5.1) (by rw [e5]; exact HB5.2))
        have k6 := hid (rgone_any x g u V1 _ _ H3.out n n3 (fun e => absurd e (by omega)) (by rw [e2]; exact HB5.1) (by rw [e2]; exact HB5.2))
        have HY : Hid (¬ (1 < l ∧ dfc F.d 1 = true) → R = (((F.deln d s).lnk n (l - 1)).gone n, 0)) := hid (fun h => by
          rw [HR3.out, if_neg (by rw [← gl]; exact h)]
          unfold Fs.less
          rw [e1, ← gl])
        have HZ : Hid (1 < l → dfc F.d 1 = true → R = ((F.deln d s).gone n, 0)) := hid (fun h h2 => by
          rw [HR3.out, if_pos (by rw [← gl]; exact ⟨h, h2⟩)]
          unfold Fs.gone
          rw [if_pos (by rw [e1, ← gl]; exact .inl (by omega))])
        obtain ⟨D, gD⟩ : ∃ D, D = dfc F.d 1 := ⟨_, rfl⟩
        rw [← gD] at k4 HY HZ
        clear e1 e2 e5 HB5 gD gl HR3 H3
        by_cases hl2 : l < 2
        · have HR4 := hid (HY.out (by omega))
          clear HY HZ k4 k6
          go_wp2_with fail
          refine k5.out.mono ?_
          rintro e w5 ⟨rfl, hT5⟩
          have HT5 := hid hT5
          clear k5 hT5
          go_wp2_with fail
          go_ret
          rw [HR4.out]
          exact ⟨rfl, RfTo.below HB2.out (RfTo.next HT.out (RfTo.next H4.out.cell_to HT5.out))⟩
        · cases D with
          | true =>
            have HR4 := hid (HZ.out (by omega) rfl)
            clear HY HZ k5 H4
            go_wp2_with fail
            refine k4.out.mono ?_
            rintro e w4 ⟨rfl, rfl⟩
            clear k4
            go_wp2_with fail
            refine k6.out.mono ?_
            rintro e w5 ⟨rfl, hT5⟩
            have HT5 := hid hT5
            clear k6 hT5
            go_wp2_with fail
            go_ret
            rw [HR4.out]
            exact ⟨rfl, RfTo.below HB2.out (RfTo.next HT.out HT5.out)⟩
          | false =>
            have HR4 := hid (HY.out (by simp))
            clear HY HZ k6
            go_wp2_with fail
            refine k4.out.mono ?_
            rintro e w4 ⟨rfl, rfl⟩
            clear k4
            go_wp2_with fail
            refine k5.out.mono ?_
            rintro e w5 ⟨rfl, hT5⟩
            have HT5 := hid hT5
            clear k5 hT5
            go_wp2_with fail
            go_ret
            rw [HR4.out]
            exact ⟨rfl, RfTo.below HB2.out (RfTo.next HT.out (RfTo.next H4.out.cell_to HT5.out))⟩

set_option maxHeartbeats 4000000 in
theorem rrmdir_any (x g u : Nat) (V : Nat → Value) (F : Fs) (w : World) (H : Rf w x g u V F) (hF : FOk F) (hl : ∀ i, (F.P i).l ≤ 1000000) (t : ByteArray) (hs : t.size ≤ 1048576) :
    Calls Tryz.prog 26 #[.pointer (some ⟨x, 0, none⟩), .string t] w fun e w' => e = .returned (.int .i64 (F.rmdir (bl t)).2) ∧ RfTo w x g u V (F.rmdir (bl t)).1 w' := by
  obtain ⟨R, gR⟩ : ∃ R, R = F.rmdir (bl t) := ⟨_, rfl⟩
  rw [← gR]
  have GR := hid gR
  have k1 := hid (rend_any x g u V F w H hF t hs)
  have HH := hid H
  have HF := hid hF
  have HL := hid hl
  clear H hF hl gR
  go_enter Tryz.func26, Tryz.ntmps26
  go_wp2_with fail
  refine k1.out.mono ?_
  rintro e w1 ⟨⟨v, rfl, hE⟩, hB⟩
  have HB := hid hB
  have H1 := hid (HH.out.grow hB)
  clear k1 hB
  rcases hE with ⟨er, hw, rfl⟩ | ⟨y, s, n, hw, rfl⟩
  · have HR2 : Hid (R = (F, er)) := hid (by rw [GR.out]; unfold Fs.rmdir; rw [hw])
    have he : er ≠ 0 := by have := Fs.walk_err hw; omega
    clear hw GR
    go_wp2_with fail
    go_ret
    rw [HR2.out]
    exact ⟨rfl, HH.out.same HB.out⟩
  · have W := HF.out.walk_ok hw
    have HR2 : Hid (R = if n = 0 then (F, 2) else if (F.P n).k ≠ 2 then (F, 20) else if F.stays n ≠ 0 then (F, F.stays n) else ((F.deln (Fs.dirOf y) s).less n, 0)) := hid (by rw [GR.out]; unfold Fs.rmdir; rw [hw])
    obtain ⟨d, gd⟩ : ∃ d, d = Fs.dirOf y := ⟨_, rfl⟩
    have hd := W.lt
    rw [← gd] at hd
    have k2 := hid (rlook_any x g u V F w1 H1.out d (by omega) (HF.out.len d) (bs s))
    rw [bl_bs, gd, ← W.nn, ← gd] at k2
    rw [← gd] at HR2 ⊢
    have hto := W.to
    clear W hw GR gd
    go_wp2_with fail
    refine k2.out.mono ?_
    rintro e w2 ⟨rfl, hb⟩
    have HB2 := hid (HB.out.trans (hb.mono HB.out.size))
    have H2 := hid (H1.out.grow hb)
    clear k2 hb H1 HB
    by_cases hn : n = 0
    · subst hn
      have HR3 : Hid (R = (F, 2)) := hid (by rw [HR2.out, if_pos rfl])
      clear HR2
      go_wp2_with fail
      go_ret
      rw [HR3.out]
      exact ⟨rfl, HH.out.same HB2.out⟩
    · obtain ⟨n2, n3, n4⟩ := hto hn
      have c0 := H2.out.c0
      have c1 := H2.out.k n n3
      have n0 : (0 : Int) ≤ (n : Int) := by omega
      have n1 : (n : Int) < 17 := by omega
      have nz : ¬ (n : Int) = 0 := by omega
      by_cases hk : (F.P n).k ≠ 2
      · have HR3 : Hid (R = (F, 20)) := hid (by rw [HR2.out, if_neg hn, if_pos hk])
        obtain ⟨k, gk⟩ : ∃ k, k = (F.P n).k := ⟨_, rfl⟩
        rw [← gk] at c1 hk
        clear HR2 gk
        go_wp2_with fail
        go_ret
        rw [HR3.out]
        exact ⟨rfl, HH.out.same HB2.out⟩
      · have HR3 : Hid (R = if F.stays n ≠ 0 then (F, F.stays n) else ((F.deln d s).less n, 0)) := hid (by rw [HR2.out, if_neg hn, if_neg hk])
        have k7 := hid (rempty_any x g u V F w2 H2.out HF.out n n3 )
        obtain ⟨E, gE⟩ : ∃ E, E = F.stays n := ⟨_, rfl⟩
        rw [← gE] at k7 HR3
        rw [Decidable.not_not.1 hk] at c1
        have k3 := hid (rdropn_any x g u V F w2 H2.out d (by omega) (HF.out.len d) (bs s))
        rw [bl_bs] at k3
        clear HR2 hto n4 hk gE
        by_cases hE : E ≠ 0
        · have HR4 : Hid (R = (F, E)) := hid (by rw [HR3.out, if_pos hE])
          clear HR3 k3
          go_wp2_with fail
          refine k7.out.mono ?_
          rintro e w3 ⟨rfl, rfl⟩
          clear k7
          go_wp2_with fail
          go_ret
          rw [HR4.out]
          exact ⟨rfl, HH.out.same HB2.out⟩
        have HR4 : Hid (R = ((F.deln d s).less n, 0)) := hid (by rw [HR3.out, if_neg hE])
        obtain rfl : E = 0 := Decidable.not_not.1 hE
        clear HR3 hE
        go_wp2_with fail
        refine k7.out.mono ?_
        rintro e w3' ⟨rfl, rfl⟩
        clear k7
        go_wp2_with fail
        refine k3.out.mono ?_
        rintro e w3 ⟨rfl, V1, hT⟩
        have HT := hid hT
        have H3 := hid hT.1
        clear k3 hT c0 c1 H2
        have c0 := H3.out.c0
        have c2 := H3.out.l n n3
        have e1 : ((F.deln d s).P n).l = (F.P n).l := by rw [Fs.deln_P]
        have e2 : ((F.deln d s).P n).B = (F.P n).B := by rw [Fs.deln_P]
        rw [e1] at c2
        obtain ⟨l, gl⟩ : ∃ l, l = (F.P n).l := ⟨_, rfl⟩
        have hl0 := HF.out.l0 n
        have hl1 := HL.out n
        have c3 := H3.out.frz (n * 6 + 1)
        rw [← gl] at c2 hl0 hl1
        have hwr : IntKind.i64.wrap (l - 1) = l - 1 := by rw [IntKind.wrap_i64]; omega
        have H4 := hid (H3.out.lnk n n3 (l - 1))
        have HB5 := HF.out.B25 n
        have e5 : (((F.deln d s).lnk n (l - 1)).P n).B = (F.P n).B := by rw [Fs.lnk_P]; exact e2
        have k5 := hid (rgone_any x g u V1 _ _ H4.out n n3 (fun e => absurd e (by omega)) (by rw [e5]; exact HB5.1) (by rw [e5]; exact HB5.2))
        have HR5 : Hid (R = (((F.deln d s).lnk n (l - 1)).gone n, 0)) := hid (by
          rw [HR4.out]
          unfold Fs.less
          rw [e1, ← gl])
        clear e1 e2 e5 HB5 gl HR4 H3
        go_wp2_with fail
        refine k5.out.mono ?_
        rintro e w5 ⟨rfl, hT5⟩
        have HT5 := hid hT5
        clear k5 hT5
        go_wp2_with fail
        go_ret
        rw [HR5.out]
        exact ⟨rfl, RfTo.below HB2.out (RfTo.next HT.out (RfTo.next H4.out.cell_to HT5.out))⟩

end Go.Proofs.YtliekndkjjaldaaGreat

/- The document's Blocks. -/
namespace Go.Proofs.YtliekndkjjaldaaGreat
open Go.RowKit
set_option linter.unusedVariables false
set_option maxRecDepth 20000

theorem infoI3 : (Tryz.prog.info? 3).map (fun i => (i.zero, i.size, i.bytes)) = some (some (.int .i64 0), 1, 8) := by kernel_rfl
def natV (b : Nat) : Value := .int .i64 (b : Int)
theorem range_snoc_yes (p : Nat → Bool) (j : Nat) (h : p j = true) : (List.range (j + 1)).filter p = (List.range j).filter p ++ [j] := by rw [List.range_succ, List.filter_append, List.filter_cons_of_pos (by simpa using h)]; rfl
theorem range_snoc_no (p : Nat → Bool) (j : Nat) (h : p j = false) : (List.range (j + 1)).filter p = (List.range j).filter p := by rw [List.range_succ, List.filter_append, List.filter_cons_of_neg (by simp [h])]; simp

set_option maxHeartbeats 4000000 in
theorem rblocks_any (x g u : Nat) (V : Nat → Value) (F : Fs) (w : World) (H : Rf w x g u V F) :
    Calls Tryz.prog 47 #[.pointer (some ⟨x, 0, none⟩)] w fun e w' => (∃ v, e = .returned v ∧ w'.ownsRow w.heap.size 3 1 v ((List.range 25).filter F.T).length (((List.range 25).filter F.T).map natV)) ∧ Below w.heap.size w w' := by
  obtain ⟨i0, hi0, hz0, hz1, hz2⟩ := info_parts infoI3
  have c1 := H.c1
  have HR := hid H
  clear H
  go_enter Tryz.func47, Tryz.ntmps47
  go_wp2_with fail
  go_loopw [3, 4, 5, 11] (fun v3 v4 v5 v11 wr => ∃ (j k : Nat) (a' : Option Addr) (c' : Nat), j ≤ 25 ∧ k ≤ j ∧ v11 = .int .i64 (j : Int) ∧ v3 = .slice a' k c' ∧ Hid (((List.range j).filter F.T).length = k) ∧ Hid (wr.ownsRow w.heap.size 3 1 (.slice a' k c') k (((List.range j).filter F.T).map natV)) ∧ Hid (Below w.heap.size w wr)) (fun _ _ _ v11 _ => 25 - (intOf v11).toNat)
  case atStart => exact ⟨0, 0, none, 0, by omega, Nat.le_refl _, rfl, rfl, hid rfl, hid (World.ownsRow_nil _ _ _ _), hid (Below.refl _ _)⟩
  case round =>
    obtain ⟨j, k, a', c', hj, hk, rfl, rfl, HK, HO, HB⟩ := hrel
    have HBs := HB.out.size
    by_cases hlt : j < 25
    · have hj2 : (j : Int) < 25 := by omega
      have hj0 : (0 : Int) ≤ (j : Int) := by omega
      have hj3 : j + 1 ≤ 25 := hlt
      have d1 := (HR.out.grow HB.out).t j hlt
      have HY : Hid (F.T j = true → (List.range (j + 1)).filter F.T = (List.range j).filter F.T ++ [j]) := hid (range_snoc_yes F.T j)
      have HN : Hid (F.T j = false → (List.range (j + 1)).filter F.T = (List.range j).filter F.T) := hid (range_snoc_no F.T j)
      generalize F.T j = tj at d1 HY HN
      cases tj with
      | false =>
        have e := HN.out rfl
        rw [← e] at HK HO
        clear HY HN e
        go_wp2_with fail
        go_roundw
        case rel => exact ⟨j + 1, k, a', c', hj3, by omega, by go_num, rfl, HK, HO, HB⟩
        case measure => simp [intOf]; omega
      | true =>
        have HE := hid (HY.out rfl)
        clear HY HN
        generalize (List.range j).filter F.T = acc at HK HO HE
        go_wp2_with (at_builtin; go_must (refine wpList_append_own _ rfl (.tmp 17) (.tmp 19) 41 rfl w.heap.size 3 i0 _ 1 8 Tryz.underlying41 hi0 hz0 hz1 hz2 rfl (by decide) _ k (acc.map natV) rfl (HO.out.alloc _) ⟨_, 0, none⟩ 1 1 [natV j] rfl rfl (cell_one _ _ _) (by simp [Value.oneCell', natV]) (by unfold maxLen; omega) (by omega) (by simp; omega) ?_))
        intro v' w6 hO hG hN
        have hbel : Below w.heap.size w w6 := (HB.out.alloc HBs (.cells #[natV j] 3)).grown hG (by simp; omega) (fun x hx => (HO.out.lt x hx).1)
        obtain ⟨va, vc, rfl⟩ : ∃ va vc, v' = .slice va (k + 1) vc := by
          rcases hO.2 with ⟨h1, h2⟩ | ⟨g, c, cur, rfl, _⟩
          · omega
          · exact ⟨_, c, rfl⟩
        have HK2 : Hid (((List.range (j + 1)).filter F.T).length = k + 1) := hid (by rw [HE.out, List.length_append, HK.out]; rfl)
        have HO2 : Hid (w6.ownsRow w.heap.size 3 1 (.slice va (k + 1) vc) (k + 1) (((List.range (j + 1)).filter F.T).map natV)) := hid (by rw [HE.out, List.map_append]; exact hO)
        have HB2 := hid hbel
        clear hO hG hN hbel HO HB HK HE
        go_wp2_with fail
        go_roundw
        case rel => exact ⟨j + 1, k + 1, va, vc, hj3, by omega, by go_num, rfl, HK2, HO2, HB2⟩
        case measure => simp [intOf]; omega
    · obtain rfl : j = 25 := by omega
      go_wp2_with fail
      go_ret
      refine ⟨⟨_, rfl, ?_⟩, HB.out⟩
      rw [HK.out]
      exact HO.out

end Go.Proofs.YtliekndkjjaldaaGreat

/- append onto an owned row as a step of a region that draws its order. -/
namespace Go.Proofs.YtliekndkjjaldaaGreat
open Go.RowKit
set_option linter.unusedVariables false

theorem alloc1 (w : World) (a : Obj) : Below w.heap.size w (w.alloc a) := (Below.refl _ _).alloc (Nat.le_refl _) _

theorem step_app {P : Program} {ops : Array Oper} {o : Oper} {a : Act} {w : World} {K : Act → World → Prop} {Q : Exit → Act → World → Prop} {E : Prop} (hg : o.guard = none) (d x : Operand)
    (t e : TypeId) (i : TypeInfo) (z : Value) (size bytes : Nat) (hop : o.op = Op.call { callee := Callee.builtin Builtin.append, args := #[d, x], argTypes := #[t, t] })
    (ht : P.underlying t = some (.slice e)) (hi : P.info? e = some i) (hz : i.zero = some z) (hsize : i.size = size) (hby : i.bytes = bytes) (hzs : z.cells.size = size) (hsz : 0 < size)
    (v : Value) (m : Nat) (cs : List Value) (hd : a.eval d = v) (hown : w.ownsRow 0 e size v m cs) (ad : Addr) (q c : Nat) (news : List Value) (hx : a.eval x = .slice (some ad) q c) (hl : news.length = q * size)
    (hnews : ∀ j u, news[j]? = some u → w.cell? (ad.add j) = some u) (h1 : ∀ u ∈ news, u.oneCell' = true) (h63 : m + q ≤ maxLen) (hbytes : (m + q) * bytes ≤ 140737488355328)
    (hK : ∀ v' w', Hid (w'.ownsRow 0 e size v' (m + q) (cs ++ news)) → Hid (Upd (fun x => v.ownBlock = some x) w w') → Hid (v' = .slice none 0 0 ↔ v = .slice none 0 0 ∧ q = 0) → Hid (v'.ownBlock = v.ownBlock ∨ ∀ x, v'.ownBlock = some x → w.heap.size ≤ x) → K (a.put o.dst v') w') :
    if Region.wanted o (yielded ops a.tmps) = true then Oper.wp P o a w K Q else E := by
  obtain ⟨v', w', hr, h2, h3, h4, h5⟩ := run_append_where (P := P) w t o.type e i z size bytes ht hi hz hsize hby hzs hsz v m cs hown ad q c news hl hnews h1 h63 hbytes
  have hw : Region.wanted o (yielded ops a.tmps) = true := by simp [Region.wanted, hg]
  rw [if_pos hw]
  unfold Oper.wp execOp
  simp only [hop, resolve, invoke, builtin, Sem.run_bind, Sem.run_pure, Result.andThen_ok, List.map_toArray, List.map_cons, List.map_nil, hd, hx, hr]
  exact hK v' w' (hid h2) (hid ((Upd.of_grown h3).mono fun x _ hx => hx.symm)) (hid h4) (hid h5)

/-- One number more on a list of numbers. -/
theorem step_nat {ops : Array Oper} {o : Oper} {a : Act} {w : World} {K : Act → World → Prop} {Q : Exit → Act → World → Prop} {E : Prop} (hg : o.guard = none) (d x : Operand)
    (hop : o.op = Op.call { callee := Callee.builtin Builtin.append, args := #[d, x], argTypes := #[41, 41] })
    (v : Value) (m : Nat) (cs : List Value) (hd : a.eval d = v) (hown : w.ownsRow 0 3 1 v m cs) (g : Nat) (z : Value) (hx : a.eval x = .slice (some ⟨g, 0, none⟩) 1 1) (hz : w.cell? ⟨g, 0, none⟩ = some z) (h1 : z.oneCell' = true) (hm : m ≤ 1000000)
    (hK : ∀ av cv w', Hid (w'.ownsRow 0 3 1 (.slice av (m + 1) cv) (m + 1) (cs ++ [z])) → Hid (Upd (fun x => v.ownBlock = some x) w w') → Hid ((Value.slice av (m + 1) cv).ownBlock = v.ownBlock ∨ ∀ x, (Value.slice av (m + 1) cv).ownBlock = some x → w.heap.size ≤ x) → K (a.put o.dst (.slice av (m + 1) cv)) w') :
    if Region.wanted o (yielded ops a.tmps) = true then Oper.wp Tryz.prog o a w K Q else E := by
  obtain ⟨i0, hi0, hz0, hz1, hz2⟩ := info_parts infoI3
  refine step_app hg d x 41 3 i0 _ 1 8 hop Tryz.underlying41 hi0 hz0 hz1 hz2 rfl (by decide) v m cs hd hown ⟨g, 0, none⟩ 1 1 [z] hx rfl ?_ (by simpa using h1) (by unfold maxLen; omega) (by omega) ?_
  · intro j u hj
    cases j with
    | zero =>
      simp only [List.getElem?_cons_zero, Option.some.injEq] at hj
      subst hj
      rw [Addr.add_lit, Nat.zero_add]
      exact hz
    | succ j => simp at hj
  · intro v' w' h2 h3 _ h5
    obtain ⟨av, cv, rfl⟩ : ∃ av cv, v' = .slice av (m + 1) cv := by
      rcases h2.out.2 with ⟨h1, _⟩ | ⟨g, c, cur, rfl, _⟩
      · omega
      · exact ⟨_, c, rfl⟩
    exact hK av cv w' h2 h3 h5

end Go.Proofs.YtliekndkjjaldaaGreat

/- What node, file, Hold, Drop, settle and takeLink do to any system. -/
namespace Go.Proofs.YtliekndkjjaldaaGreat
open Go.RowKit Go.ChangeMaps Go.MapKept
set_option linter.unusedVariables false
set_option maxRecDepth 20000

set_option maxHeartbeats 1000000 in
theorem node_no (p : Nat) (S : Sg) (w : World) (H : Sy w p S) (n : Int) (h : n < 1 ∨ 16 < n ∨ (1 ≤ n ∧ n ≤ 16 ∧ (S.P n.toNat).k = 0)) :
    Calls Tryz.prog 82 #[.pointer (some ⟨p, 0, none⟩), .int .i64 n] w fun e w' => e = .returned (.tuple #[.pointer none, .int .i64 2]) ∧ w' = w := by
  have k0 := hid H.usable
  by_cases h1 : n < 1
  · clear H h
    go_enter Tryz.func82, Tryz.ntmps82
    go_wp2_with fail
    refine k0.out.mono ?_
    rintro e w1 ⟨rfl, rfl⟩
    clear k0
    go_wp2_with fail
    go_ret2
    exact ⟨rfl, rfl⟩
  by_cases h2 : 16 < n
  · clear H h
    go_enter Tryz.func82, Tryz.ntmps82
    go_wp2_with fail
    refine k0.out.mono ?_
    rintro e w1 ⟨rfl, rfl⟩
    clear k0
    go_wp2_with fail
    go_ret2
    exact ⟨rfl, rfl⟩
  obtain ⟨i, rfl⟩ : ∃ i : Nat, n = (i : Int) := ⟨n.toNat, by omega⟩
  have hk : (S.P i).k = 0 := by
    rcases h with h | h | h
    · omega
    · omega
    · exact h.2.2
  have hi : i < 17 := by omega
  have k1 := hid (isthere_any p (1 + i * 107) _ w (H.k i hi))
  rw [show decide ((S.P i).k ≠ 0) = false by simp [hk]] at k1
  have c3 : (0 : Int) ≤ (i : Int) := by omega
  have c4 : (i : Int) < 17 := by omega
  clear H h hk
  go_enter Tryz.func82, Tryz.ntmps82
  go_wp2_with fail
  refine k0.out.mono ?_
  rintro e w1 ⟨rfl, rfl⟩
  clear k0
  go_wp2_with fail
  refine k1.out.mono ?_
  rintro e w1 ⟨rfl, rfl⟩
  clear k1
  go_wp2_with fail
  go_ret2
  exact ⟨rfl, rfl⟩

theorem there_no {S : Sg} {F : Fs} (R : Rel S F) {n : Int} (h : F.there n = false) : n < 1 ∨ 16 < n ∨ (1 ≤ n ∧ n ≤ 16 ∧ (S.P n.toNat).k = 0) := by
  simp only [Fs.there, decide_eq_false_iff_not] at h
  by_cases h1 : n < 1
  · exact .inl h1
  by_cases h2 : 16 < n
  · exact .inr (.inl h2)
  refine .inr (.inr ⟨by omega, by omega, ?_⟩)
  rw [(R.P n.toNat (by omega)).k]
  exact Decidable.not_not.1 (fun q => h ⟨by omega, by omega, q⟩)
theorem there_yes {F : Fs} {n : Int} (h : F.there n = true) : ∃ i : Nat, n = (i : Int) ∧ 1 ≤ i ∧ i < 17 ∧ (F.P i).k ≠ 0 := by
  simp only [Fs.there, decide_eq_true_eq] at h
  exact ⟨n.toNat, by omega, by omega, by omega, h.2.2⟩

set_option maxHeartbeats 1000000 in
theorem file_no (p : Nat) (S : Sg) (F : Fs) (w : World) (H : Sy w p S) (R : Rel S F) (n : Int) (h : F.file n ≠ 0) :
    Calls Tryz.prog 76 #[.pointer (some ⟨p, 0, none⟩), .int .i64 n] w fun e w' => e = .returned (.tuple #[.pointer none, .int .i64 (F.file n)]) ∧ w' = w := by
  by_cases ht : F.there n = false
  · have e : F.file n = 2 := by unfold Fs.file; rw [if_pos ht]
    rw [e]
    have k0 := hid (node_no p S w H n (there_no R ht))
    clear H R h e ht
    go_enter Tryz.func76, Tryz.ntmps76
    go_wp2_with fail
    refine k0.out.mono ?_
    rintro e w1 ⟨rfl, rfl⟩
    clear k0
    go_wp2_with fail
    go_ret2
    exact ⟨rfl, rfl⟩
  · obtain ⟨i, rfl, h1, h2, hk⟩ := there_yes (by simpa using ht : F.there n = true)
    have h3 : (F.P i).k = 2 := by
      unfold Fs.file at h
      rw [if_neg ht] at h
      exact Decidable.not_not.1 (fun q => h (by rw [if_neg]; exact q))
    have e : F.file (i : Int) = 21 := by unfold Fs.file; rw [if_neg ht]; exact if_pos h3
    rw [e]
    have hkk : (S.P i).k = 2 := (R.P i h2).k.trans h3
    have k0 := hid (node_yes p S w H i h1 h2 (by omega))
    have k1 := hid (isdir_any p (1 + i * 107) _ w (H.k i h2))
    rw [show decide ((S.P i).k = 2) = true by simp [hkk]] at k1
    clear H R h e ht hk h3 hkk
    go_enter Tryz.func76, Tryz.ntmps76
    go_wp2_with fail
    refine k0.out.mono ?_
    rintro e w1 ⟨rfl, rfl⟩
    clear k0
    go_wp2_with fail
    refine k1.out.mono ?_
    rintro e w1 ⟨rfl, rfl⟩
    clear k1
    go_wp2_with fail
    go_ret2
    exact ⟨rfl, rfl⟩

set_option maxHeartbeats 1000000 in
theorem phold (p : Nat) (F : Fs) (G : Nat → Prop) (w : World) (H : Pf w p F G) (hF : FOk F) (n : Int) :
    Calls Tryz.prog 39 #[.pointer (some ⟨p, 0, none⟩), .int .i64 n] w fun e w' => e = .returned (.int .i64 (F.hold n).2) ∧ PfTo w p (F.hold n).1 G w' := by
  have HP := H
  obtain ⟨S, HS, R, hG⟩ := H
  by_cases ht : F.there n = false
  · have e : F.hold n = (F, 2) := by unfold Fs.hold; rw [if_pos ht]
    rw [e]
    have k0 := hid (node_no p S w HS n (there_no R ht))
    have HQ := hid (PfTo.same HP (Below.refl _ w))
    clear HS R hG HP e ht
    go_enter Tryz.func39, Tryz.ntmps39
    go_wp2_with fail
    refine k0.out.mono ?_
    rintro e w1 ⟨rfl, rfl⟩
    clear k0
    go_wp2_with fail
    go_ret
    exact ⟨rfl, HQ.out⟩
  obtain ⟨i, rfl, h1, h2, hk⟩ := there_yes (by simpa using ht : F.there n = true)
  have hh := hF.h i
  have eh := (R.P i h2).h
  have hkk : (S.P i).k ≠ 0 := by rw [(R.P i h2).k]; exact hk
  obtain ⟨m, hm⟩ : ∃ m : Nat, (F.P i).h = (m : Int) := ⟨(F.P i).h.toNat, by omega⟩
  by_cases h3 : 1000 ≤ (F.P i).h
  · have e : F.hold (i : Int) = (F, 11) := by unfold Fs.hold; rw [if_neg ht]; exact if_pos h3
    rw [e]
    have hm1 : m = 1000 := by omega
    have k0 := hid (node_yes p S w HS i h1 h2 hkk)
    have c := HS.h i h2
    rw [eh, hm, hm1] at c
    have HQ := hid (PfTo.same HP (Below.refl _ w))
    clear HS R hG HP e ht hk hh eh hkk hm h3
    go_enter Tryz.func39, Tryz.ntmps39
    go_wp2_with fail
    refine k0.out.mono ?_
    rintro e w1 ⟨rfl, rfl⟩
    clear k0
    go_wp2_with fail
    go_ret
    exact ⟨rfl, HQ.out⟩
  · have e : F.hold (i : Int) = (F.hld i ((F.P i).h + 1), 0) := by unfold Fs.hold; rw [if_neg ht]; exact if_neg h3
    rw [e]
    refine (hold_yes p S w HS i h1 h2 hkk m (eh.trans hm) (by omega)).mono ?_
    rintro e w' ⟨rfl, h4, u⟩
    refine ⟨rfl, PfTo.of hG h4 (by rw [hm]; exact R.hold i h2 ((m : Int) + 1)) (fun x hx => ?_) (u.mono (fun x _ hx => .inl hx))⟩
    · left
      rcases hx with hx | ⟨j, hj, hx⟩
      · exact .inl hx
      · refine .inr ⟨j, hj, ?_⟩
        rw [← hx]
        show _ = (updN S.P i _ j).m
        by_cases e : j = i
        · subst e; rw [updN_same]; rfl
        · rw [updN_ne _ _ _ _ e]

theorem foot_at {S : Sg} {p i : Nat} {x : Nd} (hm : x.m = (S.P i).m) (b : Nat) (h : (S.at_ i x).foot p b) : S.foot p b := by
  rcases h with h | ⟨j, hj, h⟩
  · exact .inl h
  · refine .inr ⟨j, hj, ?_⟩
    rw [← h]
    show _ = (updN S.P i x j).m
    by_cases e : j = i
    · subst e; rw [updN_same, hm]
    · rw [updN_ne _ _ _ _ e]
theorem foot_gone {S : Sg} {p i : Nat} {T : Nat → Bool} (b : Nat) (h : ((S.tk T).gone i).foot p b) : S.foot p b := by
  rcases h with h | ⟨j, hj, h⟩
  · exact .inl h
  · refine .inr ⟨j, hj, ?_⟩
    change (updN S.P i noNd j).m = some b at h
    by_cases e : j = i
    · subst e; rw [updN_same] at h; simp [noNd] at h
    · rw [updN_ne _ _ _ _ e] at h; exact h

/-- What a system becomes in its own blocks. -/
def Into (w : World) (p : Nat) (S : Sg) (F : Fs) (w' : World) : Prop := ∃ S', Sy w' p S' ∧ Rel S' F ∧ (∀ x, S'.foot p x → S.foot p x) ∧ Upd (S.foot p) w w'
theorem Into.to {w w' : World} {p : Nat} {S : Sg} {F : Fs} {G : Nat → Prop} (h : Into w p S F w') (h0 : ∀ x, S.foot p x → G x) : PfTo w p F G w' := by
  obtain ⟨S', h1, h2, h3, h4⟩ := h
  exact ⟨⟨S', h1, h2, fun x hx => .inl (h0 x (h3 x hx))⟩, h4.mono (fun x _ hx => h0 x hx)⟩
theorem Into.trans {w w1 w2 : World} {p : Nat} {S S1 : Sg} {F2 : Fs} (hf : ∀ x, S1.foot p x → S.foot p x) (u : Upd (S.foot p) w w1) (k : Into w1 p S1 F2 w2) : Into w p S F2 w2 := by
  obtain ⟨S2, k1, k2, k3, k4⟩ := k
  exact ⟨S2, k1, k2, fun x hx => hf x (k3 x hx), u.trans k4 (fun x _ hx => hf x hx)⟩
theorem upd_p {w w' : World} {p : Nat} {S : Sg} (u : Upd (· = p) w w') : Upd (S.foot p) w w' := u.mono (fun x _ hx => .inl hx)

theorem NdR.bs {x : Nd} {y : Fn} (h : NdR x y) (hB : y.B.length = Fs.need y.c.length) : y.B.length = need x.s ∧ ∀ j, j < need x.s → x.B.getD j 0 = ((y.B.getD j 0 : Nat) : Int) := by
  have e : y.B.length = need x.s := by rw [hB, h.s]; rfl
  exact ⟨e, fun j hj => h.B j (by omega)⟩

/-- A node that nothing keeps goes. -/
theorem psettle (p : Nat) (S : Sg) (F : Fs) (w : World) (H : Sy w p S) (R : Rel S F) (i : Nat) (hi : i < 17) (hi0 : i ≠ 0) (h1 : i = 1 → 0 < (F.P i).l) (hc : (F.P i).c.length ≤ 96) (hB : (F.P i).B.length = Fs.need (F.P i).c.length) (hT : ∀ b ∈ (F.P i).B, b < 25)
    (hQ : ¬ (0 < (F.P i).l ∨ 0 < (F.P i).h) → (F.P i).Q = []) :
    Calls Tryz.prog 84 #[.pointer (some ⟨p, 0, none⟩), .int .i64 (i : Int)] w fun e w' => e = .returned (.tuple #[]) ∧ Into w p S (F.gone i) w' := by
  have r := R.P i hi
  unfold Fs.gone
  by_cases hk : 0 < (F.P i).l ∨ 0 < (F.P i).h
  · rw [if_pos hk]
    refine (settle_keep p S w H i hi (by rw [r.l, r.h]; exact hk)).mono ?_
    rintro e w' ⟨rfl, rfl⟩
    exact ⟨rfl, S, H, R, fun _ h => h, Upd.refl _ _⟩
  · rw [if_neg hk]
    obtain ⟨b1, b2⟩ := r.bs hB
    refine (settle_gone p S w H i hi hi0 (fun e => hk (.inl (h1 e))) (by rw [r.l]; omega) (by rw [r.h]; omega) (by rw [r.s]; exact hc) (F.P i).B b1 b2 hT).mono ?_
    rintro e w' ⟨rfl, h, u⟩
    exact ⟨rfl, _, h, R.gone i (hQ hk) _, fun x hx => foot_gone x hx, upd_p u⟩

set_option maxHeartbeats 2000000 in
theorem ptklink (p : Nat) (S : Sg) (F : Fs) (w : World) (H : Sy w p S) (R : Rel S F) (i : Nat) (hi : i < 17) (hi0 : i ≠ 0) (h1 : i ≠ 1) (hl : 0 ≤ (F.P i).l ∧ (F.P i).l ≤ 1000000) (hc : (F.P i).c.length ≤ 96) (hB : (F.P i).B.length = Fs.need (F.P i).c.length) (hT : ∀ b ∈ (F.P i).B, b < 25)
    (hQ : ¬ (0 < (F.P i).l - 1 ∨ 0 < (F.P i).h) → (F.P i).Q = []) :
    Calls Tryz.prog 66 #[.pointer (some ⟨p, 0, none⟩), .int .i64 (i : Int)] w fun e w' => e = .returned (.tuple #[]) ∧ Into w p S (F.less i) w' := by
  have d := H.l i hi
  rw [(R.P i hi).l] at d
  have f := H.fz (1 + i * 107 + 1)
  have a0 : (0 : Int) ≤ (i : Int) := by omega
  have a1 : (i : Int) < 17 := by omega
  obtain ⟨l, gl⟩ : ∃ l, l = (F.P i).l := ⟨_, rfl⟩
  have hS : Sy (w.setCell ⟨p, 1 + i * 107 + 1, none⟩ (.int .i64 (l - 1))).drew p (S.at_ i ((S.P i).link (l - 1))) := (H.linkTo i hi (l - 1)).hp rfl
  have hR : Rel (S.at_ i ((S.P i).link (l - 1))) (F.lnk i (l - 1)) := R.link i hi _
  have eP : (F.lnk i (l - 1)).P i = { F.P i with l := l - 1 } := Fs.at_self _ _ _
  have eF : (F.lnk i (l - 1)).gone i = F.less i := by rw [gl]; rfl
  have k1 : Hid (Calls Tryz.prog 84 #[.pointer (some ⟨p, 0, none⟩), .int .i64 (i : Int)] (w.setCell ⟨p, 1 + i * 107 + 1, none⟩ (.int .i64 (l - 1))).drew fun e w' => e = .returned (.tuple #[]) ∧ Into w p S (F.less i) w') := by
    refine hid ((psettle p _ (F.lnk i (l - 1)) _ hS hR i hi hi0 (fun e => absurd e h1) (by rw [eP]; exact hc) (by rw [eP]; exact hB) (by rw [eP]; exact hT) (by rw [eP, gl]; exact hQ)).mono ?_)
    rintro e w' ⟨rfl, h⟩
    rw [eF] at h
    have hu : Upd (S.foot p) w (w.setCell ⟨p, 1 + i * 107 + 1, none⟩ (.int .i64 (l - 1))).drew := upd_p ((Upd.setCell (F := (· = p)) w ⟨p, _, none⟩ _ rfl).drewN 1)
    have hf : ∀ x, (S.at_ i ((S.P i).link (l - 1))).foot p x → S.foot p x := fun x hx => foot_at (x := (S.P i).link (l - 1)) rfl x hx
    exact ⟨rfl, Into.trans hf hu h⟩
  rw [← gl] at d hl
  have hl0 := hl.1
  have hl1 := hl.2
  clear H R hS hR eP eF hc hB hT hQ gl hl
  go_enter Tryz.func66, Tryz.ntmps66
  go_wp2_with fail
  go_region
  go_wp2_with fail
  refine k1.out.mono ?_
  rintro e w1 ⟨rfl, h⟩
  have HH := hid h
  clear h k1
  go_wp2_with fail
  go_end0
  exact ⟨rfl, HH.out⟩

end Go.Proofs.YtliekndkjjaldaaGreat

/- What Unlink does to a file that is held. -/
namespace Go.Proofs.YtliekndkjjaldaaGreat
open Go.RowKit Go.ChangeMaps Go.MapKept
set_option linter.unusedVariables false
set_option maxRecDepth 20000

set_option maxHeartbeats 8000000 in
theorem unlink_held (p : Nat) (S : Sg) (t : ByteArray) (w : World) (H : Sy w p S) (hT : Tree S) (hs : t.size ≤ 140737488355328) (y : List Nat) (s : List UInt8) (i : Nat) (hr : wkS S t = .ok (y, s, i)) (hi0 : i ≠ 0) (hk : (S.P i).k = 1) (hl : (S.P i).l = 1) (n : Nat) (hh : (S.P i).h = (n : Int)) (hn : 0 < n) :
    Calls Tryz.prog 23 #[.pointer (some ⟨p, 0, none⟩), .string t] w fun e w' => e = .returned (.int .i64 0) ∧ Sy w' p ((S.drop (y.getLastD 0) s).at_ i ((S.P i).link 0)) ∧ Upd (S.foot p) w w' := by
  have k0 := hid H.usable
  have k1 := hid (tonode_any p S t w H hT hs)
  rw [hr, show toNode (.ok (y, s, i)) = .ok (y, s, i) by simp [toNode, hi0]] at k1
  obtain ⟨d, hd, hd17, hdk, hnd, hsn, hsl⟩ := wkS_ok H hr
  have hi17 : i < 17 := by rw [hnd]; exact H.to d s hd17
  have hdL : y.getLastD 0 = d := by rw [List.getLastD_eq_getLast?, hd]; rfl
  rw [hdL]
  have HS := hid H
  have HD := hid (And.intro hdk (And.intro hnd (And.intro hk (And.intro hl hh))))
  have HY := hid hd
  clear H hr hdk hnd hk hl hh hd hdL
  go_enter Tryz.func23, Tryz.ntmps23
  go_wp2_with fail
  refine k0.out.mono ?_
  rintro e w1 ⟨rfl, rfl⟩
  clear k0
  go_wp2_with fail
  refine k1.out.mono ?_
  rintro e w2 ⟨v, rfl, hb2, hv⟩
  have HB2 := hid hb2
  clear k1 hb2
  obtain ⟨u, rfl, yv, nm, rfl, hnm, hown⟩ := hv
  obtain ⟨gy, cy, rfl, hy0, hgy, hcy, hyc, hcm⟩ := last_own hown HY.out
  have HNM := hid hnm
  have hgb := (hown.lt gy rfl).1
  obtain ⟨W3, g3⟩ : ∃ W3, W3 = w2.alloc (Obj.cells #[.slice (some ⟨gy, 0, none⟩) y.length cy, .string nm, .int .i64 (i : Int)] 91) := ⟨_, rfl⟩
  have hP3 : W3.heap[w2.heap.size]? = some (.cells #[.slice (some ⟨gy, 0, none⟩) y.length cy, .string nm, .int .i64 (i : Int)] 91 (0, 0)) := by rw [g3]; exact heap_alloc_new w2 _
  have hB3 : Below w1.heap.size w1 W3 := by rw [g3]; exact HB2.out.trans ((one_new w2 _).mono HB2.out.size)
  have hZ3 : w2.heap.size < W3.heap.size ∧ gy < W3.heap.size := by rw [g3]; simp; omega
  have hC3 : W3.cell? ⟨gy, y.length - 1, none⟩ = some (.int .i64 (d : Int)) := by rw [g3]; exact ((one_new w2 _).cell (p := ⟨gy, y.length - 1, none⟩) hgy).trans hcy
  have hS3 : Sy W3 p S := HS.out.grow hB3
  obtain ⟨a0, a1, a2, _, _, _⟩ := plc_cells hP3
  have hi1 : (0 : Int) ≤ (i : Int) := by omega
  have hi2 : (i : Int) < 17 := by omega
  have HB3 := hid hB3
  have HZ3 := hid hZ3
  have HC3 := hid hC3
  have HS3 := hid hS3
  have HP3 := hid hP3
  clear hown hcy hnm hgy hS3 hP3 hB3 hZ3 hC3
  go_wp2_with fail
  rw [← g3]
  clear g3
  go_region
  have hS4 : Sy W3.drew p S := HS3.out.hp rfl
  have hpl := HS.out.lt
  have hb1s := HB2.out.size
  have hnmz : nm.size ≤ 6 := by have := bl_len nm; rw [HNM.out] at this; omega
  have k2 : Hid (Calls Tryz.prog 63 #[.pointer (some ⟨p, 1 + i * 107, none⟩)] W3.drew fun e w' => e = .returned (.bool false) ∧ w' = W3.drew) := by
    have := hS4.k i hi17
    rw [HD.out.2.2.1] at this
    exact hid (isdir_any p _ 1 W3.drew this)
  have k3 := hid (tkname_any p S W3.drew hS4 gy y.length cy d nm (i : Int) hy0 HC3.out HZ3.out.2 hyc hcm hd17 HD.out.1 (by rw [HNM.out, ← HD.out.2.1]; exact hi0) (by omega))
  have HP4 : Hid (W3.drew.heap[w2.heap.size]? = some (.cells #[.slice (some ⟨gy, 0, none⟩) y.length cy, .string nm, .int .i64 (i : Int)] 91 (0, 0))) := hid HP3.out
  have HZ4 : Hid (w2.heap.size < W3.drew.heap.size) := hid HZ3.out.1
  obtain ⟨W4, g4⟩ : ∃ W4, W4 = W3.drew := ⟨_, rfl⟩
  have HU4 : Hid (Upd (S.foot p) w1 W4) := by rw [g4]; exact hid ((Upd.of_below HB3.out).drewN 1)
  rw [← g4] at k2 k3 HP4 HZ4 ⊢
  clear a0 a1 a2
  obtain ⟨a0, a1, a2, _, _, _⟩ := plc_cells HP4.out
  clear hS4 g4 HS3 HC3 HP3 HB3
  go_wp2_with fail
  refine k2.out.mono ?_
  rintro e w4 ⟨rfl, rfl⟩
  clear k2
  go_wp2_with fail
  refine k3.out.mono ?_
  rintro e w5 ⟨rfl, h5, u5⟩
  have d1 := h5.l i hi17
  rw [show ((S.drop d (bl nm)).P i).l = 1 from HD.out.2.2.2.1] at d1
  have hne : (S.P d).m ≠ some w2.heap.size := fun e => by
    have := HS.out.foot_lt w2.heap.size (.inr ⟨d, hd17, e⟩)
    omega
  have d2 : w5.cell? ⟨w2.heap.size, 2, none⟩ = some (.int .i64 (i : Int)) := (World.cell?_of_block (a := ⟨w2.heap.size, 2, none⟩) (u5.block w2.heap.size HZ4.out hne)).trans a2
  have k5 := hid (tklink_stay p (S.drop d (bl nm)) w5 h5 i hi17 HD.out.2.2.2.1 n HD.out.2.2.2.2 hn)
  have HU5 : Hid (Upd (S.foot p) w1 w5) := hid (HU4.out.trans u5 (fun x _ hx => .inr ⟨d, hd17, hx⟩))
  clear k3 h5 u5 hne a0 a1 a2
  go_wp2_with fail
  refine k5.out.mono ?_
  rintro e w6 ⟨rfl, h6, u6⟩
  have H6 := hid h6
  have U6 := hid u6
  clear k5 h6 u6
  go_wp2_with fail
  go_ret
  refine ⟨rfl, ?_, HU5.out.trans U6.out (fun x _ hx => .inl hx)⟩
  rw [← HNM.out]
  exact H6.out

end Go.Proofs.YtliekndkjjaldaaGreat
