/- Texts of this seat, merged. -/
import Derived.Test.YtoknhcjneliboaaGreatFMg18
import Derived.Test.YtoknhcjneliboaaGreatFMg16
import Derived.Test.YtoknhcjneliboaaGreatFMg15
import Derived.Deep.RegionLaw
import Derived.BigRegion

/- The document's Rename. (Written by gen_rf18.py.) -/
namespace Go.Proofs.YtoknhcjneliboaaGreat
open Go.RowKit
set_option linter.unusedVariables false
set_option maxRecDepth 20000

theorem rename_a {F : Fs} {l m : List UInt8} {e : Int} (hw : F.walk l = .error e) : F.rename l m = (F, e) := by unfold Fs.rename; rw [hw]
theorem rename_b {F : Fs} {l m : List UInt8} {y : List Nat} {s : List UInt8} {n : Nat} (hw : F.walk l = .ok (y, s, n)) (hn : n = 0) : F.rename l m = (F, 2) := by unfold Fs.rename; rw [hw]; exact if_pos hn
theorem rename_c {F : Fs} {l m : List UInt8} {y : List Nat} {s : List UInt8} {n : Nat} {e : Int} (hw : F.walk l = .ok (y, s, n)) (hn : n ≠ 0) (hw2 : F.walk m = .error e) : F.rename l m = (F, e) := by
  unfold Fs.rename; rw [hw]; dsimp only; rw [if_neg hn, hw2]
theorem rename_d {F : Fs} {l m : List UInt8} {y y2 : List Nat} {s s2 : List UInt8} {n n2 : Nat} (hw : F.walk l = .ok (y, s, n)) (hn : n ≠ 0) (hw2 : F.walk m = .ok (y2, s2, n2)) : F.rename l m =
    if n2 = n then (F, 0) else if n2 ≠ 0 ∧ F.over n n2 ≠ 0 then (F, F.over n n2) else if n ∈ y2 then (F, 22) else
      if n2 = 0 ∧ Fs.dirOf y2 ≠ Fs.dirOf y ∧ 6 ≤ (F.P (Fs.dirOf y2)).Q.length then (F, 28) else
      if n2 ≠ 0 ∧ dfc F.d 4 = false then ((((F.deln (Fs.dirOf y) s).deln (Fs.dirOf y2) s2).addn (Fs.dirOf y2) s2 n).less n2, 0)
      else (((F.deln (Fs.dirOf y) s).deln (Fs.dirOf y2) s2).addn (Fs.dirOf y2) s2 n, 0) := by
  unfold Fs.rename; rw [hw]; dsimp only; rw [if_neg hn, hw2]
theorem rwithin_any (x g u : Nat) (V : Nat → Value) (F : Fs) (w : World) (H : Rf w x g u V F) (hF : FOk F) (dir top : Nat) (hd17 : dir < 17) (ht : top < 17) (hd : (F.P dir).k = 2) :
    Calls Tryz.prog 115 #[.pointer (some ⟨x, 0, none⟩), .int .i64 (dir : Int), .int .i64 (top : Int)] w fun e w' => e = .returned (.bool (inB F dir top)) ∧ Below w.heap.size w w' := by
  obtain ⟨rk, hrk⟩ := hF.tree
  exact rwithin_upto x g u V F hF rk hrk dir hd17 hd (rk top + 1) top (by omega) ht w H
theorem inB_on {F : Fs} (hF : FOk F) {y2 : List Nat} {s2 : List UInt8} {n n2 : Nat} (W2 : Wlk F y2 s2 n2) (hk : (F.P n).k = 2) : inB F (Fs.dirOf y2) n = true ↔ n ∈ y2 := by
  rw [W2.on hF]
  by_cases h : Rch F n (Fs.dirOf y2)
  · rw [inB_yes h]; exact ⟨fun _ => ⟨hk, h⟩, fun _ => rfl⟩
  · rw [inB_no h]; exact ⟨fun q => by simp at q, fun q => absurd q.2 h⟩
theorem on_file {F : Fs} (hF : FOk F) {y2 : List Nat} {s2 : List UInt8} {n n2 : Nat} (W2 : Wlk F y2 s2 n2) (hk : (F.P n).k ≠ 2) : n ∉ y2 := fun h => hk ((W2.on hF n).1 h).1

theorem len2 {F : Fs} (hF : FOk F) (d d2 : Nat) (s s2 : List UInt8) : (((F.deln d s).deln d2 s2).P d2).Q.length ≤ 6 := by
  rw [deln_Q, if_pos rfl]
  refine Nat.le_trans (List.length_filter_le _ _) ?_
  rw [deln_Q]; split
  · exact Nat.le_trans (List.length_filter_le _ _) (hF.len d)
  · exact hF.len d2
theorem rmoved_P (F : Fs) (d d2 : Nat) (s s2 : List UInt8) (n i : Nat) : (((F.deln d s).deln d2 s2).addn d2 s2 n).P i = { F.P i with Q := ((((F.deln d s).deln d2 s2).addn d2 s2 n).P i).Q } := by
  rw [Fs.addn_P]; dsimp only; rw [Fs.deln_P]; dsimp only; rw [Fs.deln_P]

set_option maxHeartbeats 8000000 in
theorem rrename_any (x g u : Nat) (V : Nat → Value) (F : Fs) (w : World) (H : Rf w x g u V F) (hF : FOk F) (hl : ∀ i, (F.P i).l ≤ 1000000) (t t2 : ByteArray) (hs : t.size ≤ 1048576) (hs2 : t2.size ≤ 1048576) :
    Calls Tryz.prog 79 #[.pointer (some ⟨x, 0, none⟩), .string t, .string t2] w fun e w' => e = .returned (.int .i64 (F.rename (bl t) (bl t2)).2) ∧ RfTo w x g u V (F.rename (bl t) (bl t2)).1 w' := by
  obtain ⟨R, gR⟩ : ∃ R, R = F.rename (bl t) (bl t2) := ⟨_, rfl⟩
  rw [← gR]
  have GR := hid gR
  have k1 := hid (rend_any x g u V F w H hF t hs)
  have HH := hid H
  have HF := hid hF
  have HL := hid hl
  clear H hF hl gR
  go_enter Tryz.func79, Tryz.ntmps79
  go_wp2_with fail
  refine k1.out.mono ?_
  rintro e w1 ⟨⟨v, rfl, hE⟩, hB⟩
  have HB := hid hB
  have H1 := hid (HH.out.grow hB)
  clear k1 hB
  rcases hE with ⟨er, hw, rfl⟩ | ⟨y, s, n, hw, rfl⟩
  · have HR2 : Hid (R = (F, er)) := hid (by rw [GR.out]; exact rename_a hw)
    have he : er ≠ 0 := by have := Fs.walk_err hw; omega
    clear hw GR
    go_wp2_with fail
    go_ret
    rw [HR2.out]
    exact ⟨rfl, HH.out.same HB.out⟩
  have HW := hid (HF.out.walk_ok hw)
  have hto := hid HW.out.to
  have HEQ := hid hw
  obtain ⟨d, gd⟩ : ∃ d, d = Fs.dirOf y := ⟨_, rfl⟩
  have hd := HW.out.lt
  rw [← gd] at hd
  have k2 := hid (rlook_any x g u V F w1 H1.out d (by omega) (HF.out.len d) (bs s))
  rw [bl_bs, gd, ← HW.out.nn, ← gd] at k2
  rw [← gd]
  have GD := hid gd
  clear gd hw
  go_wp2_with fail
  refine k2.out.mono ?_
  rintro e w2 ⟨rfl, hb⟩
  have HB2 := hid (HB.out.trans (hb.mono HB.out.size))
  have H2 := hid (H1.out.grow hb)
  clear k2 hb HB H1
  by_cases hn : n = 0
  · have HR2 : Hid (R = (F, 2)) := hid (by rw [GR.out]; exact rename_b HEQ.out hn)
    subst hn
    clear GR
    go_wp2_with fail
    go_ret
    rw [HR2.out]
    exact ⟨rfl, HH.out.same HB2.out⟩
  obtain ⟨n2', n3, n4⟩ := hto.out hn
  have n0 : (0 : Int) ≤ (n : Int) := by omega
  have n1 : (n : Int) < 17 := by omega
  have nz : ¬ (n : Int) = 0 := by omega
  have HNK := hid n4
  have k3 := hid (rend_any x g u V F w2 H2.out HF.out t2 hs2)
  clear hto n4 n2'
  go_wp2_with fail
  refine k3.out.mono ?_
  rintro e w3 ⟨⟨v, rfl, hE⟩, hb⟩
  have HB3 := hid (HB2.out.trans (hb.mono HB2.out.size))
  have H3 := hid (H2.out.grow hb)
  clear k3 hb HB2 H2
  rcases hE with ⟨er, hw, rfl⟩ | ⟨y2, s2, m, hw, rfl⟩
  · have HR2 : Hid (R = (F, er)) := hid (by rw [GR.out]; exact rename_c HEQ.out hn hw)
    have he : er ≠ 0 := by have := Fs.walk_err hw; omega
    clear hw GR
    go_wp2_with fail
    go_ret
    rw [HR2.out]
    exact ⟨rfl, HH.out.same HB3.out⟩
  have HW2 := hid (HF.out.walk_ok hw)
  have HRD := hid (GR.out.trans (rename_d HEQ.out hn hw))
  obtain ⟨d2, gd2⟩ : ∃ d2, d2 = Fs.dirOf y2 := ⟨_, rfl⟩
  have hd2 := HW2.out.lt
  have hd2k := HW2.out.k
  have hto2 := HW2.out.to
  rw [← gd2] at hd2 hd2k
  have k4 := hid (rlook_any x g u V F w3 H3.out d2 (by omega) (HF.out.len d2) (bs s2))
  rw [bl_bs, gd2, ← HW2.out.nn, ← gd2] at k4
  rw [← gd2, ← GD.out] at HRD
  rw [← gd2]
  have HTO2 := hid hto2
  have HD2K := hid hd2k
  have HIN := hid (fun h : (F.P n).k = 2 => inB_on HF.out HW2.out h)
  rw [← gd2] at HIN
  have HON := hid (fun h : (F.P n).k ≠ 2 => on_file HF.out HW2.out h)
  clear gd2 hw hto2 hd2k GR HEQ HW HW2 GD
  go_wp2_with fail
  refine k4.out.mono ?_
  rintro e w4 ⟨rfl, hb⟩
  have HB4 := hid (HB3.out.trans (hb.mono HB3.out.size))
  have H4 := hid (H3.out.grow hb)
  clear k4 hb HB3 H3
  by_cases hmn : m = n
  · have HR2 : Hid (R = (F, 0)) := hid (by rw [HRD.out, if_pos hmn])
    have i1 : (m : Int) = (n : Int) := by omega
    clear HRD hmn HIN HON
    go_wp2_with fail
    go_ret
    rw [HR2.out]
    exact ⟨rfl, HH.out.same HB4.out⟩
  have i1 : ¬ (m : Int) = (n : Int) := by omega
  have HRE : Hid (R = if m ≠ 0 ∧ F.over n m ≠ 0 then (F, F.over n m) else if n ∈ y2 then (F, 22) else if m = 0 ∧ d2 ≠ d ∧ 6 ≤ (F.P d2).Q.length then (F, 28) else
      if m ≠ 0 ∧ dfc F.d 4 = false then ((((F.deln d s).deln d2 s2).addn d2 s2 n).less m, 0) else (((F.deln d s).deln d2 s2).addn d2 s2 n, 0)) := hid (by rw [HRD.out, if_neg hmn])
  have hd17 : d < 17 := hd.2
  have hd217 : d2 < 17 := hd2.2
  have j0 : (0 : Int) ≤ (d2 : Int) := by omega
  have j1 : (d2 : Int) < 17 := by omega
  have HD17 := hid hd17
  have HD217 := hid hd217
  have HN3 := hid n3
  clear HRD hmn hd hd2 hd17 hd217 n3 hn
  by_cases hm : m = 0
  · subst hm
    have HRF : Hid (R = if n ∈ y2 then (F, 22) else if d2 ≠ d ∧ 6 ≤ (F.P d2).Q.length then (F, 28) else (((F.deln d s).deln d2 s2).addn d2 s2 n, 0)) := hid (by
      rw [HRE.out, if_neg (fun q => q.1 rfl)]
      split
      · rfl
      · by_cases q : d2 ≠ d ∧ 6 ≤ (F.P d2).Q.length
        · rw [if_pos ⟨rfl, q⟩, if_pos q]
        · rw [if_neg (fun h => q h.2), if_neg q, if_neg (fun h => h.1 rfl)])
    clear HRE HTO2
    have c0 := H4.out.c0
    have c1 := H4.out.k n HN3.out
    by_cases hk : (F.P n).k = 2
    · have k5 := hid (rwithin_any x g u V F w4 H4.out HF.out d2 n HD217.out HN3.out HD2K.out)
      have HI := hid (HIN.out hk)
      obtain ⟨I, gI⟩ : ∃ I, I = inB F d2 n := ⟨_, rfl⟩
      rw [← gI] at k5 HI
      rw [hk] at c1
      clear HIN HON hk gI
      cases I with
      | true =>
        have HRG : Hid (R = (F, 22)) := hid (by rw [HRF.out, if_pos (HI.out.1 rfl)])
        clear HRF HI
        go_wp2_with fail
        refine k5.out.mono ?_
        rintro e w5 ⟨rfl, hb⟩
        have HB5 := hid (HB4.out.trans (hb.mono HB4.out.size))
        clear k5 hb
        go_wp2_with fail
        go_ret
        rw [HRG.out]
        exact ⟨rfl, HH.out.same HB5.out⟩
      | false =>
        have HRG : Hid (R = if d2 ≠ d ∧ 6 ≤ (F.P d2).Q.length then (F, 28) else (((F.deln d s).deln d2 s2).addn d2 s2 n, 0)) := hid (by rw [HRF.out, if_neg (fun q => by have := HI.out.2 q; simp at this)])
        clear HRF HI
        go_wp2_with fail
        refine k5.out.mono ?_
        rintro e w5 ⟨rfl, hb⟩
        have HB5 := hid (HB4.out.trans (hb.mono HB4.out.size))
        have H5 := hid (H4.out.grow hb)
        clear k5 hb H4 HB4 c0 c1
        have c0 := H5.out.c0
        obtain ⟨qa, qc, eQ, hqc, hqm, _⟩ := own_shp (H5.out.rQ d2 HD217.out)
        have c1 := H5.out.q d2 HD217.out
        rw [eQ] at c1
        obtain ⟨LQ, gLQ⟩ : ∃ LQ, LQ = (F.P d2).Q.length := ⟨_, rfl⟩
        rw [← gLQ] at c1 hqc HRG
        clear eQ gLQ
        by_cases hdd : d2 = d
        · have HRH : Hid (R = (((F.deln d s).deln d2 s2).addn d2 s2 n, 0)) := hid (by rw [HRG.out, if_neg (fun q => q.1 hdd)])
          have i2 : ((d2 : Int) != (d : Int)) = false := by simp [hdd]
          have HDD := hid hdd
          clear HRG hdd
          have k6 := hid (rdropn_any x g u V F w5 H5.out d HD17.out (HF.out.len d) (bs s))
          rw [bl_bs] at k6
          go_wp2_with fail
          refine k6.out.mono ?_
          rintro e w6 ⟨rfl, V1, hT⟩
          have HT6 := hid hT
          have H6 := hid hT.1
          clear k6 hT
          have k7 := hid (rdropn_any x g u V1 _ w6 H6.out d2 HD217.out ((by rw [deln_Q]; split <;> first | exact Nat.le_trans (List.length_filter_le _ _) (HF.out.len d) | exact HF.out.len d2)) (bs s2))
          rw [bl_bs] at k7
          go_wp2_with fail
          refine k7.out.mono ?_
          rintro e w7 ⟨rfl, V2, hT⟩
          have HT7 := hid hT
          have H7 := hid hT.1
          clear k7 hT
          have k8 := hid (radd_any x g u V2 _ w7 H7.out d2 HD217.out (len2 HF.out d d2 s s2) (bs s2) n)
          rw [bl_bs] at k8
          go_wp2_with fail
          refine k8.out.mono ?_
          rintro e w8 ⟨rfl, hT⟩
          have HT8 := hid hT
          clear k8 hT
          go_wp2_with fail
          go_ret
          rw [HRH.out]
          exact ⟨rfl, RfTo.below HB5.out (RfTo.next HT6.out (RfTo.next HT7.out HT8.out))⟩
        · have i2 : ((d2 : Int) != (d : Int)) = true := by simp; omega
          by_cases hq : 6 ≤ LQ
          · have hq2 : (6 : Int) ≤ (LQ : Int) := by omega
            have HRH : Hid (R = (F, 28)) := hid (by rw [HRG.out, if_pos ⟨hdd, hq⟩])
            clear HRG hdd
            go_wp2_with fail
            go_ret
            rw [HRH.out]
            exact ⟨rfl, HH.out.same HB5.out⟩
          · have hq2 : ¬ (6 : Int) ≤ (LQ : Int) := by omega
            have hq3 : decide ((6 : Int) ≤ (LQ : Int)) = false := by simp; omega
            have HRH : Hid (R = (((F.deln d s).deln d2 s2).addn d2 s2 n, 0)) := hid (by rw [HRG.out, if_neg (fun q => hq q.2)])
            clear HRG hdd
            have k6 := hid (rdropn_any x g u V F w5 H5.out d HD17.out (HF.out.len d) (bs s))
            rw [bl_bs] at k6
            go_wp2_with fail
            refine k6.out.mono ?_
            rintro e w6 ⟨rfl, V1, hT⟩
            have HT6 := hid hT
            have H6 := hid hT.1
            clear k6 hT
            have k7 := hid (rdropn_any x g u V1 _ w6 H6.out d2 HD217.out ((by rw [deln_Q]; split <;> first | exact Nat.le_trans (List.length_filter_le _ _) (HF.out.len d) | exact HF.out.len d2)) (bs s2))
            rw [bl_bs] at k7
            go_wp2_with fail
            refine k7.out.mono ?_
            rintro e w7 ⟨rfl, V2, hT⟩
            have HT7 := hid hT
            have H7 := hid hT.1
            clear k7 hT
            have k8 := hid (radd_any x g u V2 _ w7 H7.out d2 HD217.out (len2 HF.out d d2 s s2) (bs s2) n)
            rw [bl_bs] at k8
            go_wp2_with fail
            refine k8.out.mono ?_
            rintro e w8 ⟨rfl, hT⟩
            have HT8 := hid hT
            clear k8 hT
            go_wp2_with fail
            go_ret
            rw [HRH.out]
            exact ⟨rfl, RfTo.below HB5.out (RfTo.next HT6.out (RfTo.next HT7.out HT8.out))⟩
    · obtain ⟨k, gk⟩ : ∃ k, k = (F.P n).k := ⟨_, rfl⟩
      have HRG : Hid (R = if d2 ≠ d ∧ 6 ≤ (F.P d2).Q.length then (F, 28) else (((F.deln d s).deln d2 s2).addn d2 s2 n, 0)) := hid (by rw [HRF.out, if_neg (HON.out hk)])
      have hk2 : (k == 2) = false := by rw [gk]; simpa using hk
      rw [← gk] at c1 hk
      clear HIN HON HRF gk
      have c0 := H4.out.c0
      obtain ⟨qa, qc, eQ, hqc, hqm, _⟩ := own_shp (H4.out.rQ d2 HD217.out)
      have c1 := H4.out.q d2 HD217.out
      rw [eQ] at c1
      obtain ⟨LQ, gLQ⟩ : ∃ LQ, LQ = (F.P d2).Q.length := ⟨_, rfl⟩
      rw [← gLQ] at c1 hqc HRG
      clear eQ gLQ
      by_cases hdd : d2 = d
      · have HRH : Hid (R = (((F.deln d s).deln d2 s2).addn d2 s2 n, 0)) := hid (by rw [HRG.out, if_neg (fun q => q.1 hdd)])
        have i2 : ((d2 : Int) != (d : Int)) = false := by simp [hdd]
        have HDD := hid hdd
        clear HRG hdd
        have k6 := hid (rdropn_any x g u V F w4 H4.out d HD17.out (HF.out.len d) (bs s))
        rw [bl_bs] at k6
        go_wp2_with fail
        refine k6.out.mono ?_
        rintro e w6 ⟨rfl, V1, hT⟩
        have HT6 := hid hT
        have H6 := hid hT.1
        clear k6 hT
        have k7 := hid (rdropn_any x g u V1 _ w6 H6.out d2 HD217.out ((by rw [deln_Q]; split <;> first | exact Nat.le_trans (List.length_filter_le _ _) (HF.out.len d) | exact HF.out.len d2)) (bs s2))
        rw [bl_bs] at k7
        go_wp2_with fail
        refine k7.out.mono ?_
        rintro e w7 ⟨rfl, V2, hT⟩
        have HT7 := hid hT
        have H7 := hid hT.1
        clear k7 hT
        have k8 := hid (radd_any x g u V2 _ w7 H7.out d2 HD217.out (len2 HF.out d d2 s s2) (bs s2) n)
        rw [bl_bs] at k8
        go_wp2_with fail
        refine k8.out.mono ?_
        rintro e w8 ⟨rfl, hT⟩
        have HT8 := hid hT
        clear k8 hT
        go_wp2_with fail
        go_ret
        rw [HRH.out]
        exact ⟨rfl, RfTo.below HB4.out (RfTo.next HT6.out (RfTo.next HT7.out HT8.out))⟩
      · have i2 : ((d2 : Int) != (d : Int)) = true := by simp; omega
        by_cases hq : 6 ≤ LQ
        · have hq2 : (6 : Int) ≤ (LQ : Int) := by omega
          have HRH : Hid (R = (F, 28)) := hid (by rw [HRG.out, if_pos ⟨hdd, hq⟩])
          clear HRG hdd
          go_wp2_with fail
          go_ret
          rw [HRH.out]
          exact ⟨rfl, HH.out.same HB4.out⟩
        · have hq2 : ¬ (6 : Int) ≤ (LQ : Int) := by omega
          have hq3 : decide ((6 : Int) ≤ (LQ : Int)) = false := by simp; omega
          have HRH : Hid (R = (((F.deln d s).deln d2 s2).addn d2 s2 n, 0)) := hid (by rw [HRG.out, if_neg (fun q => hq q.2)])
          clear HRG hdd
          have k6 := hid (rdropn_any x g u V F w4 H4.out d HD17.out (HF.out.len d) (bs s))
          rw [bl_bs] at k6
          go_wp2_with fail
          refine k6.out.mono ?_
          rintro e w6 ⟨rfl, V1, hT⟩
          have HT6 := hid hT
          have H6 := hid hT.1
          clear k6 hT
          have k7 := hid (rdropn_any x g u V1 _ w6 H6.out d2 HD217.out ((by rw [deln_Q]; split <;> first | exact Nat.le_trans (List.length_filter_le _ _) (HF.out.len d) | exact HF.out.len d2)) (bs s2))
          rw [bl_bs] at k7
          go_wp2_with fail
          refine k7.out.mono ?_
          rintro e w7 ⟨rfl, V2, hT⟩
          have HT7 := hid hT
          have H7 := hid hT.1
          clear k7 hT
          have k8 := hid (radd_any x g u V2 _ w7 H7.out d2 HD217.out (len2 HF.out d d2 s s2) (bs s2) n)
          rw [bl_bs] at k8
          go_wp2_with fail
          refine k8.out.mono ?_
          rintro e w8 ⟨rfl, hT⟩
          have HT8 := hid hT
          clear k8 hT
          go_wp2_with fail
          go_ret
          rw [HRH.out]
          exact ⟨rfl, RfTo.below HB4.out (RfTo.next HT6.out (RfTo.next HT7.out HT8.out))⟩
  · have HRE2 : Hid (R = if F.over n m ≠ 0 then (F, F.over n m) else if n ∈ y2 then (F, 22) else if dfc F.d 4 = false then ((((F.deln d s).deln d2 s2).addn d2 s2 n).less m, 0) else (((F.deln d s).deln d2 s2).addn d2 s2 n, 0)) := hid (by
      rw [HRE.out]
      by_cases q : F.over n m ≠ 0
      · rw [if_pos ⟨hm, q⟩, if_pos q]
      · rw [if_neg (fun h => q h.2), if_neg q]
        split
        · rfl
        · rw [if_neg (fun h => hm h.1)]
          by_cases q2 : dfc F.d 4 = false
          · rw [if_pos ⟨hm, q2⟩, if_pos q2]
          · rw [if_neg (fun h => q2 h.2), if_neg q2])
    obtain ⟨m2, m3, m4⟩ := HTO2.out hm
    have mz : ¬ (m : Int) = 0 := by omega
    have mz2 : ((m : Int) != 0) = true := by simp; omega
    have mz3 : ((m : Int) == 0) = false := by simp; omega
    have m0 : (0 : Int) ≤ (m : Int) := by omega
    have m1 : (m : Int) < 17 := by omega
    have k45 : Hid (Calls Tryz.prog 114 #[.pointer (some ⟨x, 0, none⟩), .int .i64 (n : Int), .int .i64 (m : Int)] w4 fun e w' => e = .returned (.int .i64 (F.over n m)) ∧ Below w4.heap.size w4 w') := hid ((rover_any x g u V F w4 H4.out HF.out n m HN3.out m3 HNK.out).mono (by rintro e w' ⟨h1, rfl⟩; exact ⟨h1, (Below.refl _ _).drew⟩))
    obtain ⟨O, gO⟩ : ∃ O, O = F.over n m := ⟨_, rfl⟩
    rw [← gO] at k45 HRE2
    clear HRE HTO2 hm m4 gO
    go_wp2_with fail
    refine k45.out.mono ?_
    rintro e w45 ⟨rfl, hb⟩
    have HB45 := hid (HB4.out.trans (hb.mono HB4.out.size))
    have H45 := hid (H4.out.grow hb)
    clear k45 hb HB4 H4
    by_cases hO : O ≠ 0
    · have HRG : Hid (R = (F, O)) := hid (by rw [HRE2.out, if_pos hO])
      clear HRE2
      go_wp2_with fail
      go_ret
      rw [HRG.out]
      exact ⟨rfl, HH.out.same HB45.out⟩
    obtain rfl : O = 0 := Decidable.not_not.1 hO
    have HRF : Hid (R = if n ∈ y2 then (F, 22) else if dfc F.d 4 = false then ((((F.deln d s).deln d2 s2).addn d2 s2 n).less m, 0) else (((F.deln d s).deln d2 s2).addn d2 s2 n, 0)) := hid (by rw [HRE2.out, if_neg hO])
    clear HRE2 hO
    have c0 := H45.out.c0
    have c1 := H45.out.k n HN3.out
    by_cases hk : (F.P n).k = 2
    · have k5 := hid (rwithin_any x g u V F w45 H45.out HF.out d2 n HD217.out HN3.out HD2K.out)
      have HI := hid (HIN.out hk)
      obtain ⟨I, gI⟩ : ∃ I, I = inB F d2 n := ⟨_, rfl⟩
      rw [← gI] at k5 HI
      rw [hk] at c1
      clear HIN HON hk gI
      cases I with
      | true =>
        have HRG : Hid (R = (F, 22)) := hid (by rw [HRF.out, if_pos (HI.out.1 rfl)])
        clear HRF HI
        go_wp2_with fail
        refine k5.out.mono ?_
        rintro e w5 ⟨rfl, hb⟩
        have HB5 := hid (HB45.out.trans (hb.mono HB45.out.size))
        clear k5 hb
        go_wp2_with fail
        go_ret
        rw [HRG.out]
        exact ⟨rfl, HH.out.same HB5.out⟩
      | false =>
        have HRG : Hid (R = if dfc F.d 4 = false then ((((F.deln d s).deln d2 s2).addn d2 s2 n).less m, 0) else (((F.deln d s).deln d2 s2).addn d2 s2 n, 0)) := hid (by rw [HRF.out, if_neg (fun q => by have := HI.out.2 q; simp at this)])
        clear HRF HI
        go_wp2_with fail
        refine k5.out.mono ?_
        rintro e w5 ⟨rfl, hb⟩
        have HB5 := hid (HB45.out.trans (hb.mono HB45.out.size))
        have H5 := hid (H45.out.grow hb)
        clear k5 hb H45 HB45 c0 c1
        have k6 := hid (rdropn_any x g u V F w5 H5.out d HD17.out (HF.out.len d) (bs s))
        rw [bl_bs] at k6
        go_wp2_with fail
        refine k6.out.mono ?_
        rintro e w6 ⟨rfl, V1, hT⟩
        have HT6 := hid hT
        have H6 := hid hT.1
        clear k6 hT
        have k7 := hid (rdropn_any x g u V1 _ w6 H6.out d2 HD217.out ((by rw [deln_Q]; split <;> first | exact Nat.le_trans (List.length_filter_le _ _) (HF.out.len d) | exact HF.out.len d2)) (bs s2))
        rw [bl_bs] at k7
        go_wp2_with fail
        refine k7.out.mono ?_
        rintro e w7 ⟨rfl, V2, hT⟩
        have HT7 := hid hT
        have H7 := hid hT.1
        clear k7 hT
        have k8 := hid (radd_any x g u V2 _ w7 H7.out d2 HD217.out (len2 HF.out d d2 s s2) (bs s2) n)
        rw [bl_bs] at k8
        go_wp2_with fail
        refine k8.out.mono ?_
        rintro e w8 ⟨rfl, V3, hT⟩
        have HT8 := hid hT
        have H8 := hid hT.1
        clear k8 hT
        have k9 := hid (rhas_any x g u V3 _ w8 H8.out 4)
        rw [show (((F.deln d s).deln d2 s2).addn d2 s2 n).d = F.d from rfl] at k9
        have e3 := rmoved_P F d d2 s s2 n m
        have e1 : ((((F.deln d s).deln d2 s2).addn d2 s2 n).P m).l = (F.P m).l := by rw [e3]
        have e2 : ((((F.deln d s).deln d2 s2).addn d2 s2 n).P m).B = (F.P m).B := by rw [e3]
        have c0 := H8.out.c0
        have c2 := H8.out.l m m3
        rw [e1] at c2
        obtain ⟨l, gl⟩ : ∃ l, l = (F.P m).l := ⟨_, rfl⟩
        have hl0 := HF.out.l0 m
        have hl1 := HL.out m
        have c3 := H8.out.frz (m * 6 + 1)
        rw [← gl] at c2 hl0 hl1
        have hwr : IntKind.i64.wrap (l - 1) = l - 1 := by rw [IntKind.wrap_i64]; omega
        have H9 := hid (H8.out.lnk m m3 (l - 1))
        have HB5 := HF.out.B25 m
        have e5 : (((((F.deln d s).deln d2 s2).addn d2 s2 n).lnk m (l - 1)).P m).B = (F.P m).B := by rw [Fs.lnk_P]; exact e2
        have k10 := hid (rgone_any x g u V3 _ _ H9.out m m3 (fun e => absurd e (by omega)) (by rw [e5]; exact HB5.1) (by rw [e5]; exact HB5.2))
        have HY : Hid (dfc F.d 4 = false → R = (((((F.deln d s).deln d2 s2).addn d2 s2 n).lnk m (l - 1)).gone m, 0)) := hid (fun h => by
          rw [HRG.out, if_pos h]
          unfold Fs.less
          rw [e1, ← gl])
        have HZ : Hid (dfc F.d 4 = true → R = (((F.deln d s).deln d2 s2).addn d2 s2 n, 0)) := hid (fun h => by rw [HRG.out, if_neg (by rw [h]; simp)])
        obtain ⟨D, gD⟩ : ∃ D, D = dfc F.d 4 := ⟨_, rfl⟩
        rw [← gD] at k9 HY HZ
        clear e1 e2 e3 e5 HB5 gD gl HRG H8
        cases D with
        | true =>
          have HRH := hid (HZ.out rfl)
          clear HY HZ k10 H9
          go_wp2_with fail
          refine k9.out.mono ?_
          rintro e w9 ⟨rfl, rfl⟩
          clear k9
          go_wp2_with fail
          go_ret
          rw [HRH.out]
          exact ⟨rfl, RfTo.below HB5.out (RfTo.next HT6.out (RfTo.next HT7.out (RfTo.next HT8.out ⟨V3, HT8.out.1, Upd.refl _ _, fun b h => .inl h⟩)))⟩
        | false =>
          have HRH := hid (HY.out rfl)
          clear HY HZ
          go_wp2_with fail
          refine k9.out.mono ?_
          rintro e w9 ⟨rfl, rfl⟩
          clear k9
          go_wp2_with fail
          refine k10.out.mono ?_
          rintro e w10 ⟨rfl, hT⟩
          have HT10 := hid hT
          clear k10 hT
          go_wp2_with fail
          go_ret
          rw [HRH.out]
          exact ⟨rfl, RfTo.below HB5.out (RfTo.next HT6.out (RfTo.next HT7.out (RfTo.next HT8.out (RfTo.next H9.out.cell_to HT10.out))))⟩
    · obtain ⟨k, gk⟩ : ∃ k, k = (F.P n).k := ⟨_, rfl⟩
      have HRG : Hid (R = if dfc F.d 4 = false then ((((F.deln d s).deln d2 s2).addn d2 s2 n).less m, 0) else (((F.deln d s).deln d2 s2).addn d2 s2 n, 0)) := hid (by rw [HRF.out, if_neg (HON.out hk)])
      have hk2 : (k == 2) = false := by rw [gk]; simpa using hk
      rw [← gk] at c1 hk
      clear HIN HON HRF gk
      have k6 := hid (rdropn_any x g u V F w45 H45.out d HD17.out (HF.out.len d) (bs s))
      rw [bl_bs] at k6
      go_wp2_with fail
      refine k6.out.mono ?_
      rintro e w6 ⟨rfl, V1, hT⟩
      have HT6 := hid hT
      have H6 := hid hT.1
      clear k6 hT
      have k7 := hid (rdropn_any x g u V1 _ w6 H6.out d2 HD217.out ((by rw [deln_Q]; split <;> first | exact Nat.le_trans (List.length_filter_le _ _) (HF.out.len d) | exact HF.out.len d2)) (bs s2))
      rw [bl_bs] at k7
      go_wp2_with fail
      refine k7.out.mono ?_
      rintro e w7 ⟨rfl, V2, hT⟩
      have HT7 := hid hT
      have H7 := hid hT.1
      clear k7 hT
      have k8 := hid (radd_any x g u V2 _ w7 H7.out d2 HD217.out (len2 HF.out d d2 s s2) (bs s2) n)
      rw [bl_bs] at k8
      go_wp2_with fail
      refine k8.out.mono ?_
      rintro e w8 ⟨rfl, V3, hT⟩
      have HT8 := hid hT
      have H8 := hid hT.1
      clear k8 hT
      have k9 := hid (rhas_any x g u V3 _ w8 H8.out 4)
      rw [show (((F.deln d s).deln d2 s2).addn d2 s2 n).d = F.d from rfl] at k9
      have e3 := rmoved_P F d d2 s s2 n m
      have e1 : ((((F.deln d s).deln d2 s2).addn d2 s2 n).P m).l = (F.P m).l := by rw [e3]
      have e2 : ((((F.deln d s).deln d2 s2).addn d2 s2 n).P m).B = (F.P m).B := by rw [e3]
      have c0 := H8.out.c0
      have c2 := H8.out.l m m3
      rw [e1] at c2
      obtain ⟨l, gl⟩ : ∃ l, l = (F.P m).l := ⟨_, rfl⟩
      have hl0 := HF.out.l0 m
      have hl1 := HL.out m
      have c3 := H8.out.frz (m * 6 + 1)
      rw [← gl] at c2 hl0 hl1
      have hwr : IntKind.i64.wrap (l - 1) = l - 1 := by rw [IntKind.wrap_i64]; omega
      have H9 := hid (H8.out.lnk m m3 (l - 1))
      have HB5 := HF.out.B25 m
      have e5 : (((((F.deln d s).deln d2 s2).addn d2 s2 n).lnk m (l - 1)).P m).B = (F.P m).B := by rw [Fs.lnk_P]; exact e2
      have k10 := hid (rgone_any x g u V3 _ _ H9.out m m3 (fun e => absurd e (by omega)) (by rw [e5]; exact HB5.1) (by rw [e5]; exact HB5.2))
      have HY : Hid (dfc F.d 4 = false → R = (((((F.deln d s).deln d2 s2).addn d2 s2 n).lnk m (l - 1)).gone m, 0)) := hid (fun h => by
        rw [HRG.out, if_pos h]
        unfold Fs.less
        rw [e1, ← gl])
      have HZ : Hid (dfc F.d 4 = true → R = (((F.deln d s).deln d2 s2).addn d2 s2 n, 0)) := hid (fun h => by rw [HRG.out, if_neg (by rw [h]; simp)])
      obtain ⟨D, gD⟩ : ∃ D, D = dfc F.d 4 := ⟨_, rfl⟩
      rw [← gD] at k9 HY HZ
      clear e1 e2 e3 e5 HB5 gD gl HRG H8
      cases D with
      | true =>
        have HRH := hid (HZ.out rfl)
        clear HY HZ k10 H9
        go_wp2_with fail
        refine k9.out.mono ?_
        rintro e w9 ⟨rfl, rfl⟩
        clear k9
        go_wp2_with fail
        go_ret
        rw [HRH.out]
        exact ⟨rfl, RfTo.below HB45.out (RfTo.next HT6.out (RfTo.next HT7.out (RfTo.next HT8.out ⟨V3, HT8.out.1, Upd.refl _ _, fun b h => .inl h⟩)))⟩
      | false =>
        have HRH := hid (HY.out rfl)
        clear HY HZ
        go_wp2_with fail
        refine k9.out.mono ?_
        rintro e w9 ⟨rfl, rfl⟩
        clear k9
        go_wp2_with fail
        refine k10.out.mono ?_
        rintro e w10 ⟨rfl, hT⟩
        have HT10 := hid hT
        clear k10 hT
        go_wp2_with fail
        go_ret
        rw [HRH.out]
        exact ⟨rfl, RfTo.below HB45.out (RfTo.next HT6.out (RfTo.next HT7.out (RfTo.next HT8.out (RfTo.next H9.out.cell_to HT10.out))))⟩

end Go.Proofs.YtoknhcjneliboaaGreat

/- The document's Blocks. -/
namespace Go.Proofs.YtoknhcjneliboaaGreat
open Go.RowKit
set_option linter.unusedVariables false
set_option maxRecDepth 20000

theorem infoI3 : (Tryz.prog.info? 3).map (fun i => (i.zero, i.size, i.bytes)) = some (some (.int .i64 0), 1, 8) := by kernel_rfl
def natV (b : Nat) : Value := .int .i64 (b : Int)
theorem range_snoc_yes (p : Nat → Bool) (j : Nat) (h : p j = true) : (List.range (j + 1)).filter p = (List.range j).filter p ++ [j] := by rw [List.range_succ, List.filter_append, List.filter_cons_of_pos (by simpa using h)]; rfl
theorem range_snoc_no (p : Nat → Bool) (j : Nat) (h : p j = false) : (List.range (j + 1)).filter p = (List.range j).filter p := by rw [List.range_succ, List.filter_append, List.filter_cons_of_neg (by simp [h])]; simp

set_option maxHeartbeats 4000000 in
theorem rblocks_any (x g u : Nat) (V : Nat → Value) (F : Fs) (w : World) (H : Rf w x g u V F) :
    Calls Tryz.prog 45 #[.pointer (some ⟨x, 0, none⟩)] w fun e w' => (∃ v, e = .returned v ∧ w'.ownsRow w.heap.size 3 1 v ((List.range 25).filter F.T).length (((List.range 25).filter F.T).map natV)) ∧ Below w.heap.size w w' := by
  obtain ⟨i0, hi0, hz0, hz1, hz2⟩ := info_parts infoI3
  have c1 := H.c1
  have HR := hid H
  clear H
  go_enter Tryz.func45, Tryz.ntmps45
  go_wp2_with fail
  go_loopw [3, 4, 5, 11] (fun v3 v4 v5 v11 wr => ∃ (j k : Nat) (a' : Option Addr) (c' : Nat), j ≤ 25 ∧ k ≤ j ∧ v11 = .int .i64 (j : Int) ∧ v3 = .slice a' k c' ∧ Hid (((List.range j).filter F.T).length = k) ∧ Hid (wr.ownsRow w.heap.size 3 1 (.slice a' k c') k (((List.range j).filter F.T).map natV)) ∧ Hid (Below w.heap.size w wr)) (fun _ _ _ v11 _ => 25 - (intOf v11).toNat)
  case atStart => exact ⟨0, 0, none, 0, by omega, Nat.le_refl _, rfl, rfl, hid rfl, hid (World.ownsRow_nil _ _ _ _), hid (Below.refl _ _)⟩
  case round =>
    obtain ⟨j, k, a', c', hj, hk, rfl, rfl, HK, HO, HB⟩ := hrel
    have HBs := HB.out.size
    by_cases hlt : j < 25
    · have hj2 : (j : Int) < 25 := by omega
      have hj0 : (0 : Int) ≤ (j : Int) := by omega
      have hj3 : j + 1 ≤ 25 := hlt
      have d1 := (HR.out.grow HB.out).t j hlt
      have HY : Hid (F.T j = true → (List.range (j + 1)).filter F.T = (List.range j).filter F.T ++ [j]) := hid (range_snoc_yes F.T j)
      have HN : Hid (F.T j = false → (List.range (j + 1)).filter F.T = (List.range j).filter F.T) := hid (range_snoc_no F.T j)
      generalize F.T j = tj at d1 HY HN
      cases tj with
      | false =>
        have e := HN.out rfl
        rw [← e] at HK HO
        clear HY HN e
        go_wp2_with fail
        go_roundw
        case rel => exact ⟨j + 1, k, a', c', hj3, by omega, by go_num, rfl, HK, HO, HB⟩
        case measure => simp [intOf]; omega
      | true =>
        have HE := hid (HY.out rfl)
        clear HY HN
        generalize (List.range j).filter F.T = acc at HK HO HE
        go_wp2_with (at_builtin; go_must (refine wpList_append_own _ rfl (.tmp 17) (.tmp 19) 44 rfl w.heap.size 3 i0 _ 1 8 Tryz.underlying44 hi0 hz0 hz1 hz2 rfl (by decide) _ k (acc.map natV) rfl (HO.out.alloc _) ⟨_, 0, none⟩ 1 1 [natV j] rfl rfl (cell_one _ _ _) (by simp [Value.oneCell', natV]) (by unfold maxLen; omega) (by omega) (by simp; omega) ?_))
        intro v' w6 hO hG hN
        have hbel : Below w.heap.size w w6 := (HB.out.alloc HBs (.cells #[natV j] 3)).grown hG (by simp; omega) (fun x hx => (HO.out.lt x hx).1)
        obtain ⟨va, vc, rfl⟩ : ∃ va vc, v' = .slice va (k + 1) vc := by
          rcases hO.2 with ⟨h1, h2⟩ | ⟨g, c, cur, rfl, _⟩
          · omega
          · exact ⟨_, c, rfl⟩
        have HK2 : Hid (((List.range (j + 1)).filter F.T).length = k + 1) := hid (by rw [HE.out, List.length_append, HK.out]; rfl)
        have HO2 : Hid (w6.ownsRow w.heap.size 3 1 (.slice va (k + 1) vc) (k + 1) (((List.range (j + 1)).filter F.T).map natV)) := hid (by rw [HE.out, List.map_append]; exact hO)
        have HB2 := hid hbel
        clear hO hG hN hbel HO HB HK HE
        go_wp2_with fail
        go_roundw
        case rel => exact ⟨j + 1, k + 1, va, vc, hj3, by omega, by go_num, rfl, HK2, HO2, HB2⟩
        case measure => simp [intOf]; omega
    · obtain rfl : j = 25 := by omega
      go_wp2_with fail
      go_ret
      refine ⟨⟨_, rfl, ?_⟩, HB.out⟩
      rw [HK.out]
      exact HO.out

end Go.Proofs.YtoknhcjneliboaaGreat

/- append onto an owned row as a step of a region that draws its order. -/
namespace Go.Proofs.YtoknhcjneliboaaGreat
open Go.RowKit
set_option linter.unusedVariables false

theorem alloc1 (w : World) (a : Obj) : Below w.heap.size w (w.alloc a) := (Below.refl _ _).alloc (Nat.le_refl _) _

theorem step_app {P : Program} {ops : Array Oper} {o : Oper} {a : Act} {w : World} {K : Act → World → Prop} {Q : Exit → Act → World → Prop} {E : Prop} (hg : o.guard = none) (d x : Operand)
    (t e : TypeId) (i : TypeInfo) (z : Value) (size bytes : Nat) (hop : o.op = Op.call { callee := Callee.builtin Builtin.append, args := #[d, x], argTypes := #[t, t] })
    (ht : P.underlying t = some (.slice e)) (hi : P.info? e = some i) (hz : i.zero = some z) (hsize : i.size = size) (hby : i.bytes = bytes) (hzs : z.cells.size = size) (hsz : 0 < size)
    (v : Value) (m : Nat) (cs : List Value) (hd : a.eval d = v) (hown : w.ownsRow 0 e size v m cs) (ad : Addr) (q c : Nat) (news : List Value) (hx : a.eval x = .slice (some ad) q c) (hl : news.length = q * size)
    (hnews : ∀ j u, news[j]? = some u → w.cell? (ad.add j) = some u) (h1 : ∀ u ∈ news, u.oneCell' = true) (h63 : m + q ≤ maxLen) (hbytes : (m + q) * bytes ≤ 140737488355328)
    (hK : ∀ v' w', Hid (w'.ownsRow 0 e size v' (m + q) (cs ++ news)) → Hid (Upd (fun x => v.ownBlock = some x) w w') → Hid (v' = .slice none 0 0 ↔ v = .slice none 0 0 ∧ q = 0) → Hid (v'.ownBlock = v.ownBlock ∨ ∀ x, v'.ownBlock = some x → w.heap.size ≤ x) → K (a.put o.dst v') w') :
    if Region.wanted o (yielded ops a.tmps) = true then Oper.wp P o a w K Q else E := by
  obtain ⟨v', w', hr, h2, h3, h4, h5⟩ := run_append_where (P := P) w t o.type e i z size bytes ht hi hz hsize hby hzs hsz v m cs hown ad q c news hl hnews h1 h63 hbytes
  have hw : Region.wanted o (yielded ops a.tmps) = true := by simp [Region.wanted, hg]
  rw [if_pos hw]
  unfold Oper.wp execOp
  simp only [hop, resolve, invoke, builtin, Sem.run_bind, Sem.run_pure, Result.andThen_ok, List.map_toArray, List.map_cons, List.map_nil, hd, hx, hr]
  exact hK v' w' (hid h2) (hid ((Upd.of_grown h3).mono fun x _ hx => hx.symm)) (hid h4) (hid h5)

/-- One number more on a list of numbers. -/
theorem step_nat {ops : Array Oper} {o : Oper} {a : Act} {w : World} {K : Act → World → Prop} {Q : Exit → Act → World → Prop} {E : Prop} (hg : o.guard = none) (d x : Operand)
    (hop : o.op = Op.call { callee := Callee.builtin Builtin.append, args := #[d, x], argTypes := #[44, 44] })
    (v : Value) (m : Nat) (cs : List Value) (hd : a.eval d = v) (hown : w.ownsRow 0 3 1 v m cs) (g : Nat) (z : Value) (hx : a.eval x = .slice (some ⟨g, 0, none⟩) 1 1) (hz : w.cell? ⟨g, 0, none⟩ = some z) (h1 : z.oneCell' = true) (hm : m ≤ 1000000)
    (hK : ∀ av cv w', Hid (w'.ownsRow 0 3 1 (.slice av (m + 1) cv) (m + 1) (cs ++ [z])) → Hid (Upd (fun x => v.ownBlock = some x) w w') → Hid ((Value.slice av (m + 1) cv).ownBlock = v.ownBlock ∨ ∀ x, (Value.slice av (m + 1) cv).ownBlock = some x → w.heap.size ≤ x) → K (a.put o.dst (.slice av (m + 1) cv)) w') :
    if Region.wanted o (yielded ops a.tmps) = true then Oper.wp Tryz.prog o a w K Q else E := by
  obtain ⟨i0, hi0, hz0, hz1, hz2⟩ := info_parts infoI3
  refine step_app hg d x 44 3 i0 _ 1 8 hop Tryz.underlying44 hi0 hz0 hz1 hz2 rfl (by decide) v m cs hd hown ⟨g, 0, none⟩ 1 1 [z] hx rfl ?_ (by simpa using h1) (by unfold maxLen; omega) (by omega) ?_
  · intro j u hj
    cases j with
    | zero =>
      simp only [List.getElem?_cons_zero, Option.some.injEq] at hj
      subst hj
      rw [Addr.add_lit, Nat.zero_add]
      exact hz
    | succ j => simp at hj
  · intro v' w' h2 h3 _ h5
    obtain ⟨av, cv, rfl⟩ : ∃ av cv, v' = .slice av (m + 1) cv := by
      rcases h2.out.2 with ⟨h1, _⟩ | ⟨g, c, cur, rfl, _⟩
      · omega
      · exact ⟨_, c, rfl⟩
    exact hK av cv w' h2 h3 h5

end Go.Proofs.YtoknhcjneliboaaGreat
