/- Texts of this seat, merged. -/
import Derived.Test.YtliekndkjjaldaaGreatNMg15
import Derived.Test.YtliekndkjjaldaaGreatNMg25
import Derived.Test.YtliekndkjjaldaaGreatNMg16
import Derived.Test.YtliekndkjjaldaaGreatNMg13
import Derived.Deep.RegionHeld3
import Derived.Deep.DeepCutAuto
import Derived.Deep.CutBlock

/- The document's Make. -/
namespace Go.Proofs.YtliekndkjjaldaaGreat
open Go.RowKit
set_option linter.unusedVariables false
set_option maxRecDepth 20000

theorem free_from (F : Fs) : ∀ (m a n : Nat), a ≤ n → n ≤ a + m → (∀ i, a ≤ i → i < n → (F.P i).k ≠ 0) → (n < a + m → (F.P n).k = 0) → ((List.range' a m).find? (fun i => decide ((F.P i).k = 0))).getD 0 = if n < a + m then n else 0
  | 0, a, n, h1, h2, _, _ => by rw [if_neg (by omega)]; rfl
  | m + 1, a, n, h1, h2, h3, h4 => by
    rw [List.range'_succ]
    by_cases e : n = a
    · subst e
      rw [List.find?_cons_of_pos (by simpa using h4 (by omega)), if_pos (by omega)]
      rfl
    · rw [List.find?_cons_of_neg (by simpa using h3 a (Nat.le_refl _) (by omega))]
      have := free_from F m (a + 1) n (by omega) (by omega) (fun i hi hn => h3 i (by omega) hn) (fun h => h4 (by omega))
      rw [this]
      by_cases q : n < a + 1 + m
      · rw [if_pos q, if_pos (by omega)]
      · rw [if_neg q, if_neg (by omega)]
theorem free_is (F : Fs) (n : Nat) (h1 : 1 ≤ n) (h2 : n ≤ 17) (h3 : ∀ i, 1 ≤ i → i < n → (F.P i).k ≠ 0) (h4 : n < 17 → (F.P n).k = 0) : F.free = if n < 17 then n else 0 := free_from F 16 1 n h1 h2 h3 h4

theorem builtR2 : Tryz.prog.built 66 [(0, .int .i64 2), (1, .int .i64 1)] = some #[.int .i64 2, .int .i64 1, .int .i64 0, .slice none 0 0, .slice none 0 0, .slice none 0 0] := by kernel_rfl

set_option maxHeartbeats 4000000 in
theorem rmake_1 (x g u : Nat) (V : Nat → Value) (F : Fs) (w : World) (H : Rf w x g u V F) (hF : FOk F) (t : ByteArray) (hs : t.size ≤ 1048576) :
    Calls Tryz.prog 22 #[.pointer (some ⟨x, 0, none⟩), .string t, .int .i64 1] w fun e w' => e = .returned (.tuple #[.int .i64 ((F.make (bl t) 1).2.1 : Int), .int .i64 (F.make (bl t) 1).2.2]) ∧ RfTo w x g u V (F.make (bl t) 1).1 w' := by
  obtain ⟨R, gR⟩ : ∃ R, R = F.make (bl t) 1 := ⟨_, rfl⟩
  rw [← gR]
  have GR : Hid (R = match F.walk (bl t) with
    | .error e => (F, 0, e)
    | .ok (y, s, n) => if n ≠ 0 then (F, 0, 17) else if 6 ≤ (F.P (Fs.dirOf y)).Q.length then (F, 0, 28) else if F.free = 0 then (F, 0, 28) else
      ((F.at_ F.free (Fn.nu 1)).addn (Fs.dirOf y) s F.free, F.free, 0)) := hid (by rw [gR]; unfold Fs.make; rw [if_neg (by decide)]; cases F.walk (bl t) <;> rfl)
  have k1 := hid (rend_any x g u V F w H hF t hs)
  have HH := hid H
  have HF := hid hF
  clear H hF gR
  go_enter Tryz.func22, Tryz.ntmps22
  go_wp2_with fail
  refine k1.out.mono ?_
  rintro e w1 ⟨⟨v, rfl, hE⟩, hB⟩
  have HB := hid hB
  have H1 := hid (HH.out.grow hB)
  clear k1 hB
  rcases hE with ⟨er, hw, rfl⟩ | ⟨y, s, m, hw, rfl⟩
  · have HR2 : Hid (R = (F, 0, er)) := hid (by rw [GR.out, hw])
    have he : er ≠ 0 := by have := Fs.walk_err hw; omega
    clear hw GR
    go_wp2_with fail
    go_ret2
    rw [HR2.out]
    exact ⟨rfl, HH.out.same HB.out⟩
  · have W := HF.out.walk_ok hw
    have HR2 : Hid (R = if m ≠ 0 then (F, 0, 17) else if 6 ≤ (F.P (Fs.dirOf y)).Q.length then (F, 0, 28) else if F.free = 0 then (F, 0, 28) else
      ((F.at_ F.free (Fn.nu 1)).addn (Fs.dirOf y) s F.free, F.free, 0)) := hid (by rw [GR.out, hw])
    obtain ⟨d, gd⟩ : ∃ d, d = Fs.dirOf y := ⟨_, rfl⟩
    have hd := W.lt
    have hdk := W.k
    rw [← gd] at hd hdk
    have k2 := hid (rlook_any x g u V F w1 H1.out d (by omega) (HF.out.len d) (bs s))
    rw [bl_bs, gd, ← W.nn, ← gd] at k2
    rw [← gd] at HR2 ⊢
    clear W hw GR gd
    go_wp2_with fail
    refine k2.out.mono ?_
    rintro e w2 ⟨rfl, hb⟩
    have HB2 := hid (HB.out.trans (hb.mono HB.out.size))
    have H2 := hid (H1.out.grow hb)
    clear k2 hb H1 HB
    by_cases hm : m ≠ 0
    · have HR3 : Hid (R = (F, 0, 17)) := hid (by rw [HR2.out, if_pos hm])
      have mz : ¬ (m : Int) = 0 := by omega
      clear HR2
      go_wp2_with fail
      go_ret2
      rw [HR3.out]
      exact ⟨rfl, HH.out.same HB2.out⟩
    obtain rfl : m = 0 := Decidable.not_not.1 hm
    have HR3 : Hid (R = if 6 ≤ (F.P d).Q.length then (F, 0, 28) else if F.free = 0 then (F, 0, 28) else ((F.at_ F.free (Fn.nu 1)).addn d s F.free, F.free, 0)) := hid (by rw [HR2.out, if_neg hm])
    have c0 := H2.out.c0
    obtain ⟨qa, qc, eQ, hqc, hqm, _⟩ := own_shp (H2.out.rQ d (by omega))
    have c1 := H2.out.q d (by omega)
    rw [eQ] at c1
    have hq6 := HF.out.len d
    obtain ⟨LQ, gLQ⟩ : ∃ LQ, LQ = (F.P d).Q.length := ⟨_, rfl⟩
    rw [← gLQ] at c1 hqc HR3 hq6
    have d0 : (0 : Int) ≤ (d : Int) := by omega
    have d1 : (d : Int) < 17 := by omega
    clear HR2 hm eQ gLQ
    go_wp2_with fail
    go_loopw [11] (fun v11 wr => ∃ j : Nat, 1 ≤ j ∧ j ≤ 17 ∧ v11 = .int .i64 (j : Int) ∧ wr = w2 ∧ Hid (∀ i, 1 ≤ i → i < j → (F.P i).k ≠ 0)) (fun v11 _ => 17 - (intOf v11).toNat)
    case atStart => exact ⟨1, Nat.le_refl _, by omega, rfl, rfl, hid (fun i h1 h2 => by omega)⟩
    case round =>
      obtain ⟨j, j1, j2, rfl, rfl, HJ⟩ := hrel
      by_cases hj : j < 17
      · have j3 : (j : Int) ≤ 16 := by omega
        have j4 : (0 : Int) ≤ (j : Int) := by omega
        have j5 : (j : Int) < 17 := by omega
        have j6 : j + 1 ≤ 17 := hj
        have c2 := H2.out.k j hj
        obtain ⟨k, gk⟩ : ∃ k, k = (F.P j).k := ⟨_, rfl⟩
        rw [← gk] at c2
        by_cases hk : k = 0
        · have HFR : Hid (F.free = j) := hid (by rw [free_is F j j1 j2 HJ.out (fun _ => by rw [← gk]; exact hk), if_pos hj])
          rw [HFR.out] at HR3
          have hkj : (F.P j).k = 0 := by rw [← gk]; exact hk
          subst hk
          have j7 : ¬ (16 : Int) < (j : Int) := by omega
          by_cases hq : 6 ≤ LQ
          · have hq2 : (6 : Int) ≤ (LQ : Int) := by omega
            have HR4 : Hid (R = (F, 0, 28)) := hid (by rw [HR3.out, if_pos hq])
            clear HR3 HFR HJ hkj gk
            go_wp2_with fail
            go_ret2
            rw [HR4.out]
            exact ⟨rfl, HH.out.same HB2.out⟩
          · have hq2 : ¬ (6 : Int) ≤ (LQ : Int) := by omega
            have HR4 : Hid (R = ((F.at_ j (Fn.nu 1)).addn d s j, j, 0)) := hid (by rw [HR3.out, if_neg hq, if_neg (by omega)])
            obtain ⟨N, gN⟩ : ∃ N : List Value, N = [.int .i64 1, .int .i64 1, .int .i64 0, .slice none 0 0, .slice none 0 0, .slice none 0 0] := ⟨_, rfl⟩
            have HN1 : Hid (N.toArray.all (·.oneCell') = true) := by rw [gN]; exact hid (by simp [Value.oneCell'])
            have HSZ : Hid ((Tryz.prog.info? 66).map (·.size) = some N.toArray.size) := by rw [gN]; exact hid csizeR6
            have HBT : Hid (Tryz.prog.built 66 [(0, .int .i64 1), (1, .int .i64 1)] = some N.toArray) := by rw [gN]; exact hid builtR1
            have HTH : Hid (wr.there g (j * 6) N.toArray.size) := by
              obtain ⟨C, h1, h2, _⟩ := H2.out.nds
              rw [gN]
              exact hid (there_of_block h1 (j * 6) 6 (by omega))
            have H4 : Hid (Rf (wr.setCells g (j * 6) N) x g u (noV V j) (F.at_ j (Fn.nu 1))) := hid (by rw [gN]; exact H2.out.node j hj (Fn.nu 1) rfl rfl rfl)
            have HU4 := hid (upd_setCells g N (j * 6) wr)
            have hdj : d ≠ j := fun e => by rw [e, hkj] at hdk; omega
            have k3 := hid (radd_any x g u (noV V j) _ _ H4.out d (by omega) (by rw [show (F.at_ j (Fn.nu 1)).P d = F.P d from if_neg hdj]; exact HF.out.len d) (bs s) j)
            rw [bl_bs] at k3
            have HT : Hid (Rf (wr.setCells g (j * 6) N) x g u (noV V j) (F.at_ j (Fn.nu 1)) ∧ Upd (RfFoot x g u V) w (wr.setCells g (j * 6) N) ∧ ∀ b, RfFoot x g u (noV V j) b → RfFoot x g u V b ∨ w.heap.size ≤ b) := hid ⟨H4.out, (Upd.of_below HB2.out).trans (HU4.out.mono (G := RfFoot x g u V) (fun b _ h => .inr (.inl h))) (fun b _ h => h), fun b hb => .inl (noV_foot hb)⟩
            clear HR3 HFR HJ hkj gk gN H4 HU4 hdj
            go_wp2_with (first
              | (refine wpList_build_is rfl 66 #[(0, .tmp 67), (1, .const (.int .i64 1))] rfl N.toArray (by simpa [Act.eval] using HBT.out) ?_)
              | (refine wpList_store_mid rfl 66 (.tmp 69) (.tmp 68) rfl g (j * 6) N.toArray rfl rfl HTH.out HSZ.out HN1.out ?_))
            refine k3.out.mono ?_
            rintro e w3 ⟨rfl, hT3⟩
            have HT3 := hid hT3
            clear k3 hT3
            go_wp2_with fail
            go_ret2
            rw [HR4.out]
            exact ⟨rfl, RfTo.next HT.out HT3.out⟩
        · have j7 : (k != 0) = true := by simpa using hk
          have HJ2 : Hid (∀ i, 1 ≤ i → i < j + 1 → (F.P i).k ≠ 0) := hid (fun i h1 h2 => by
            by_cases e : i = j
            · subst e; rw [← gk]; exact hk
            · exact HJ.out i h1 (by omega))
          clear HJ gk
          go_wp2_with fail
          go_roundw
          case rel => exact ⟨j + 1, by omega, j6, by go_num, trivial, HJ2⟩
          case measure => simp [intOf]; omega
      · obtain rfl : j = 17 := by omega
        have HFR : Hid (F.free = 0) := hid (by rw [free_is F 17 j1 j2 HJ.out (fun h => absurd h hj), if_neg hj])
        have HR4 : Hid (R = (F, 0, 28)) := hid (by rw [HR3.out, HFR.out]; simp)
        clear HR3 HFR HJ
        go_wp2_with fail
        go_ret2
        rw [HR4.out]
        exact ⟨rfl, HH.out.same HB2.out⟩

set_option maxHeartbeats 4000000 in
theorem rmake_2 (x g u : Nat) (V : Nat → Value) (F : Fs) (w : World) (H : Rf w x g u V F) (hF : FOk F) (t : ByteArray) (hs : t.size ≤ 1048576) :
    Calls Tryz.prog 22 #[.pointer (some ⟨x, 0, none⟩), .string t, .int .i64 2] w fun e w' => e = .returned (.tuple #[.int .i64 ((F.make (bl t) 2).2.1 : Int), .int .i64 (F.make (bl t) 2).2.2]) ∧ RfTo w x g u V (F.make (bl t) 2).1 w' := by
  obtain ⟨R, gR⟩ : ∃ R, R = F.make (bl t) 2 := ⟨_, rfl⟩
  rw [← gR]
  have GR : Hid (R = match F.walk (bl t) with
    | .error e => (F, 0, e)
    | .ok (y, s, n) => if n ≠ 0 then (F, 0, 17) else if 6 ≤ (F.P (Fs.dirOf y)).Q.length then (F, 0, 28) else if F.free = 0 then (F, 0, 28) else
      ((F.at_ F.free (Fn.nu 2)).addn (Fs.dirOf y) s F.free, F.free, 0)) := hid (by rw [gR]; unfold Fs.make; rw [if_neg (by decide)]; cases F.walk (bl t) <;> rfl)
  have k1 := hid (rend_any x g u V F w H hF t hs)
  have HH := hid H
  have HF := hid hF
  clear H hF gR
  go_enter Tryz.func22, Tryz.ntmps22
  go_wp2_with fail
  refine k1.out.mono ?_
  rintro e w1 ⟨⟨v, rfl, hE⟩, hB⟩
  have HB := hid hB
  have H1 := hid (HH.out.grow hB)
  clear k1 hB
  rcases hE with ⟨er, hw, rfl⟩ | ⟨y, s, m, hw, rfl⟩
  · have HR2 : Hid (R = (F, 0, er)) := hid (by rw [GR.out, hw])
    have he : er ≠ 0 := by have := Fs.walk_err hw; omega
    clear hw GR
    go_wp2_with fail
    go_ret2
    rw [HR2.out]
    exact ⟨rfl, HH.out.same HB.out⟩
  · have W := HF.out.walk_ok hw
    have HR2 : Hid (R = if m ≠ 0 then (F, 0, 17) else if 6 ≤ (F.P (Fs.dirOf y)).Q.length then (F, 0, 28) else if F.free = 0 then (F, 0, 28) else
      ((F.at_ F.free (Fn.nu 2)).addn (Fs.dirOf y) s F.free, F.free, 0)) := hid (by rw [GR.out, hw])
    obtain ⟨d, gd⟩ : ∃ d, d = Fs.dirOf y := ⟨_, rfl⟩
    have hd := W.lt
    have hdk := W.k
    rw [← gd] at hd hdk
    have k2 := hid (rlook_any x g u V F w1 H1.out d (by omega) (HF.out.len d) (bs s))
    rw [bl_bs, gd, ← W.nn, ← gd] at k2
    rw [← gd] at HR2 ⊢
    clear W hw GR gd
    go_wp2_with fail
    refine k2.out.mono ?_
    rintro e w2 ⟨rfl, hb⟩
    have HB2 := hid (HB.out.trans (hb.mono HB.out.size))
    have H2 := hid (H1.out.grow hb)
    clear k2 hb H1 HB
    by_cases hm : m ≠ 0
    · have HR3 : Hid (R = (F, 0, 17)) := hid (by rw [HR2.out, if_pos hm])
      have mz : ¬ (m : Int) = 0 := by omega
      clear HR2
      go_wp2_with fail
      go_ret2
      rw [HR3.out]
      exact ⟨rfl, HH.out.same HB2.out⟩
    obtain rfl : m = 0 := Decidable.not_not.1 hm
    have HR3 : Hid (R = if 6 ≤ (F.P d).Q.length then (F, 0, 28) else if F.free = 0 then (F, 0, 28) else ((F.at_ F.free (Fn.nu 2)).addn d s F.free, F.free, 0)) := hid (by rw [HR2.out, if_neg hm])
    have c0 := H2.out.c0
    obtain ⟨qa, qc, eQ, hqc, hqm, _⟩ := own_shp (H2.out.rQ d (by omega))
    have c1 := H2.out.q d (by omega)
    rw [eQ] at c1
    have hq6 := HF.out.len d
    obtain ⟨LQ, gLQ⟩ : ∃ LQ, LQ = (F.P d).Q.length := ⟨_, rfl⟩
    rw [← gLQ] at c1 hqc HR3 hq6
    have d0 : (0 : Int) ≤ (d : Int) := by omega
    have d1 : (d : Int) < 17 := by omega
    clear HR2 hm eQ gLQ
    go_wp2_with fail
    go_loopw [11] (fun v11 wr => ∃ j : Nat, 1 ≤ j ∧ j ≤ 17 ∧ v11 = .int .i64 (j : Int) ∧ wr = w2 ∧ Hid (∀ i, 1 ≤ i → i < j → (F.P i).k ≠ 0)) (fun v11 _ => 17 - (intOf v11).toNat)
    case atStart => exact ⟨1, Nat.le_refl _, by omega, rfl, rfl, hid (fun i h1 h2 => by omega)⟩
    case round =>
      obtain ⟨j, j1, j2, rfl, rfl, HJ⟩ := hrel
      by_cases hj : j < 17
      · have j3 : (j : Int) ≤ 16 := by omega
        have j4 : (0 : Int) ≤ (j : Int) := by omega
        have j5 : (j : Int) < 17 := by omega
        have j6 : j + 1 ≤ 17 := hj
        have c2 := H2.out.k j hj
        obtain ⟨k, gk⟩ : ∃ k, k = (F.P j).k := ⟨_, rfl⟩
        rw [← gk] at c2
        by_cases hk : k = 0
        · have HFR : Hid (F.free = j) := hid (by rw [free_is F j j1 j2 HJ.out (fun _ => by rw [← gk]; exact hk), if_pos hj])
          rw [HFR.out] at HR3
          have hkj : (F.P j).k = 0 := by rw [← gk]; exact hk
          subst hk
          have j7 : ¬ (16 : Int) < (j : Int) := by omega
          by_cases hq : 6 ≤ LQ
          · have hq2 : (6 : Int) ≤ (LQ : Int) := by omega
            have HR4 : Hid (R = (F, 0, 28)) := hid (by rw [HR3.out, if_pos hq])
            clear HR3 HFR HJ hkj gk
            go_wp2_with fail
            go_ret2
            rw [HR4.out]
            exact ⟨rfl, HH.out.same HB2.out⟩
          · have hq2 : ¬ (6 : Int) ≤ (LQ : Int) := by omega
            have HR4 : Hid (R = ((F.at_ j (Fn.nu 2)).addn d s j, j, 0)) := hid (by rw [HR3.out, if_neg hq, if_neg (by omega)])
            obtain ⟨N, gN⟩ : ∃ N : List Value, N = [.int .i64 2, .int .i64 1, .int .i64 0, .slice none 0 0, .slice none 0 0, .slice none 0 0] := ⟨_, rfl⟩
            have HN1 : Hid (N.toArray.all (·.oneCell') = true) := by rw [gN]; exact hid (by simp [Value.oneCell'])
            have HSZ : Hid ((Tryz.prog.info? 66).map (·.size) = some N.toArray.size) := by rw [gN]; exact hid csizeR6
            have HBT : Hid (Tryz.prog.built 66 [(0, .int .i64 2), (1, .int .i64 1)] = some N.toArray) := by rw [gN]; exact hid builtR2
            have HTH : Hid (wr.there g (j * 6) N.toArray.size) := by
              obtain ⟨C, h1, h2, _⟩ := H2.out.nds
              rw [gN]
              exact hid (there_of_block h1 (j * 6) 6 (by omega))
            have H4 : Hid (Rf (wr.setCells g (j * 6) N) x g u (noV V j) (F.at_ j (Fn.nu 2))) := hid (by rw [gN]; exact H2.out.node j hj (Fn.nu 2) rfl rfl rfl)
            have HU4 := hid (upd_setCells g N (j * 6) wr)
            have hdj : d ≠ j := fun e => by rw [e, hkj] at hdk; omega
            have k3 := hid (radd_any x g u (noV V j) _ _ H4.out d (by omega) (by rw [show (F.at_ j (Fn.nu 2)).P d = F.P d from if_neg hdj]; exact HF.out.len d) (bs s) j)
            rw [bl_bs] at k3
            have HT : Hid (Rf (wr.setCells g (j * 6) N) x g u (noV V j) (F.at_ j (Fn.nu 2)) ∧ Upd (RfFoot x g u V) w (wr.setCells g (j * 6) N) ∧ ∀ b, RfFoot x g u (noV V j) b → RfFoot x g u V b ∨ w.heap.size ≤ b) := hid ⟨H4.out, (Upd.of_below HB2.out).trans (HU4.out.mono (G := RfFoot x g u V) (fun b _ h => .inr (.inl h))) (fun b _ h => h), fun b hb => .inl (noV_foot hb)⟩
            clear HR3 HFR HJ hkj gk gN H4 HU4 hdj
            go_wp2_with (first
              | (refine wpList_build_is rfl 66 #[(0, .tmp 67), (1, .const (.int .i64 1))] rfl N.toArray (by simpa [Act.eval] using HBT.out) ?_)
              | (refine wpList_store_mid rfl 66 (.tmp 69) (.tmp 68) rfl g (j * 6) N.toArray rfl rfl HTH.out HSZ.out HN1.out ?_))
            refine k3.out.mono ?_
            rintro e w3 ⟨rfl, hT3⟩
            have HT3 := hid hT3
            clear k3 hT3
            go_wp2_with fail
            go_ret2
            rw [HR4.out]
            exact ⟨rfl, RfTo.next HT.out HT3.out⟩
        · have j7 : (k != 0) = true := by simpa using hk
          have HJ2 : Hid (∀ i, 1 ≤ i → i < j + 1 → (F.P i).k ≠ 0) := hid (fun i h1 h2 => by
            by_cases e : i = j
            · subst e; rw [← gk]; exact hk
            · exact HJ.out i h1 (by omega))
          clear HJ gk
          go_wp2_with fail
          go_roundw
          case rel => exact ⟨j + 1, by omega, j6, by go_num, trivial, HJ2⟩
          case measure => simp [intOf]; omega
      · obtain rfl : j = 17 := by omega
        have HFR : Hid (F.free = 0) := hid (by rw [free_is F 17 j1 j2 HJ.out (fun h => absurd h hj), if_neg hj])
        have HR4 : Hid (R = (F, 0, 28)) := hid (by rw [HR3.out, HFR.out]; simp)
        clear HR3 HFR HJ
        go_wp2_with fail
        go_ret2
        rw [HR4.out]
        exact ⟨rfl, HH.out.same HB2.out⟩

set_option maxHeartbeats 2000000 in
theorem rmake_any (x g u : Nat) (V : Nat → Value) (F : Fs) (w : World) (H : Rf w x g u V F) (hF : FOk F) (t : ByteArray) (hs : t.size ≤ 1048576) (kind : Int) :
    Calls Tryz.prog 22 #[.pointer (some ⟨x, 0, none⟩), .string t, .int .i64 kind] w fun e w' => e = .returned (.tuple #[.int .i64 ((F.make (bl t) kind).2.1 : Int), .int .i64 (F.make (bl t) kind).2.2]) ∧ RfTo w x g u V (F.make (bl t) kind).1 w' := by
  by_cases hkd : kind ≠ 1 ∧ kind ≠ 2
  · rw [show F.make (bl t) kind = (F, 0, 22) from if_pos hkd]
    have HS := hid (H.same (Below.refl w.heap.size w))
    have q1 : (kind != 1) = true := by simpa using hkd.1
    have q2 : (kind != 2) = true := by simpa using hkd.2
    have q5 : (kind != 1 && kind != 2) = true := by rw [q1, q2]; rfl
    obtain ⟨q3, q4⟩ := hkd
    clear H hF
    go_enter Tryz.func22, Tryz.ntmps22
    go_wp2_with fail
    go_ret2
    exact ⟨rfl, HS.out⟩
  · rcases (show kind = 1 ∨ kind = 2 by omega) with rfl | rfl
    · exact rmake_1 x g u V F w H hF t hs
    · exact rmake_2 x g u V F w H hF t hs

end Go.Proofs.YtliekndkjjaldaaGreat

/- What 'does' does: cases 0, 1, 2 (written by gen_do.py). -/
namespace Go.Proofs.YtliekndkjjaldaaGreat
open Go.RowKit Go.ChangeMaps Go.MapKept
set_option linter.unusedVariables false
set_option maxRecDepth 20000

set_option maxHeartbeats 8000000 in
theorem does_0 (pp p x g u B : Nat) (G : Nat → Prop) (V : Nat → Value) (F : Fs) (m : Int) (x0 x1 x2 x3 : Int) (t4 t5 : ByteArray) (ab : Option Addr) (lb cb : Nat) (bz : List Int) (w : World) (H : Pr w B G pp p x g u V F F) (hF : FOk F) (hL : LB F m) (hm : 1 ≤ m ∧ m ≤ 900000)
    (h4 : t4.size ≤ 1048576) (h5 : t5.size ≤ 1048576) (hx2 : x2 ≤ 9223372036854775807) (hx3 : x3 ≤ 9223372036854775807) (hb : Src w ab lb bz) (hbz : ∀ z ∈ bz, 0 ≤ z ∧ z < 256) (hlb : lb ≤ 140737488355328) (hcb : lb ≤ cb) (hcb2 : cb ≤ 9223372036854775807) (hbn : ab = none → lb = 0 ∧ cb = 0) (hbB : 0 < lb → ∀ b o, ab = some ⟨b, o, none⟩ → b < B)
    (hq : wrap64 ((IntKind.u64.wrap x0).tmod 13) = 0) :
    Calls Tryz.prog 8 #[.pointer (some ⟨pp, 0, none⟩), .agg #[.int .i64 x0, .int .i64 x1, .int .i64 x2, .int .i64 x3, .string t4, .string t5, .slice ab lb cb]] w (DoP w B pp p x g u m F) := by
  have hpl := H.lt
  have HB : Hid (B ≤ w.heap.size) := hid (Nat.le_trans H.gp (Nat.le_of_lt hpl))
  have HF := hid hF
  have HL := hid hL
  have HM := hid hm
  have H4 := hid h4
  have H5 := hid h5
  have HX2 := hid hx2
  have HX3 := hid hx3
  have HSB := hid hb
  have HBZ := hid hbz
  have HBB := hid hbB
  have HLC := hid hcb
  have HLL := hid hlb
  have HML : Hid (∀ i, (F.P i).l ≤ 1000000) := hid (fun i => Int.le_trans (hL i) (by omega))
  have HQ := hid hq
  have HP := hid H
  have kc : Hid (∀ wx, Below w.heap.size w wx → Calls Tryz.prog 18 #[.slice ab lb cb] wx fun e w' => ∃ (av : Option Addr) (cv : Nat), e = .returned (.slice av lb cv) ∧ w'.ownsRow wx.heap.size 5 1 (.slice av lb cv) lb (bz.map (Value.int .u8)) ∧ Below wx.heap.size wx w') := hid (fun wx hbx => clone_opt ab lb cb bz wx (hb.below hbx) hlb hbn)
  clear H hF hL hm h4 h5 hx2 hx3 hb hbz hlb hcb hcb2 hbn hbB hq
  go_enter Tryz.func8, Tryz.ntmps8
  go_upto_region 1 with fail
  obtain ⟨W1, gW1⟩ : ∃ W1, W1 = w.alloc (.cells #[.int .i64 x0, .int .i64 x1, .int .i64 x2, .int .i64 x3, .string t4, .string t5, .slice ab lb cb] 32) := ⟨_, rfl⟩
  rw [← gW1]
  have hb1 : Below w.heap.size w W1 := by rw [gW1]; exact (Below.refl _ _).alloc (Nat.le_refl _) _
  have hs1 : w.heap.size < W1.heap.size := by rw [gW1]; simp
  have e0 : W1.cell? ⟨w.heap.size, 0, none⟩ = some (.int .i64 x0) := by rw [gW1]; simp [go_sem]
  have e1 : W1.cell? ⟨w.heap.size, 1, none⟩ = some (.int .i64 x1) := by rw [gW1]; simp [go_sem]
  have e2 : W1.cell? ⟨w.heap.size, 2, none⟩ = some (.int .i64 x2) := by rw [gW1]; simp [go_sem]
  have e3 : W1.cell? ⟨w.heap.size, 3, none⟩ = some (.int .i64 x3) := by rw [gW1]; simp [go_sem]
  have e4 : W1.cell? ⟨w.heap.size, 4, none⟩ = some (.string t4) := by rw [gW1]; simp [go_sem]
  have e5 : W1.cell? ⟨w.heap.size, 5, none⟩ = some (.string t5) := by rw [gW1]; simp [go_sem]
  have e6 : W1.cell? ⟨w.heap.size, 6, none⟩ = some (.slice ab lb cb) := by rw [gW1]; simp [go_sem]
  have HB1 := hid hb1
  clear gW1 hb1
  go_upto_block 0 with (go_at_call 18; refine (kc.out _ HB1.out).mono ?_; rintro e wF ⟨av, cv, rfl, hG, hbF⟩; have f0 := (hbF.cell (p := ⟨w.heap.size, 0, none⟩) hs1).trans e0; have HG := hid hG; have HBF := hid hbF; clear hG hbF)
  rw [HQ.out]
  have hsF : w.heap.size < wF.heap.size := Nat.lt_of_lt_of_le hs1 HBF.out.size
  have f1 := (HBF.out.cell (p := ⟨w.heap.size, 1, none⟩) hs1).trans e1
  have f2 := (HBF.out.cell (p := ⟨w.heap.size, 2, none⟩) hs1).trans e2
  have f3 := (HBF.out.cell (p := ⟨w.heap.size, 3, none⟩) hs1).trans e3
  have f4 := (HBF.out.cell (p := ⟨w.heap.size, 4, none⟩) hs1).trans e4
  have f5 := (HBF.out.cell (p := ⟨w.heap.size, 5, none⟩) hs1).trans e5
  have f6 := (HBF.out.cell (p := ⟨w.heap.size, 6, none⟩) hs1).trans e6
  have HWF : Hid (Below w.heap.size w wF) := hid (HB1.out.trans (HBF.out.mono HB1.out.size))
  obtain ⟨kb, gkb⟩ : ∃ kb, kb = w.heap.size := ⟨_, rfl⟩
  rw [← gkb] at f0 f1 f2 f3 f4 f5 f6 hsF ⊢
  have hS0 : St wF B kb G pp p x g u V F F wF := by
    have h := HP.out.grow HWF.out
    refine ⟨h, Upd.refl _ _, fun b hk hb => ⟨hb, fun e => ?_, fun hG => ?_, fun hR => ?_⟩⟩
    · omega
    · have := HP.out.pf
      have h1 := (HP.out.gG b hG).2.1
      omega
    · have h1 := HP.out.rf.foot_lt b hR
      omega
  have q0 := hS0.c0
  have q1 := hS0.c1
  have HS0 := hid hS0
  have GKB := hid gkb
  have HKB : Hid (kb ≤ kb) := hid (Nat.le_refl _)
  clear e0 e1 e2 e3 e4 e5 e6 kc hS0 gkb
  obtain ⟨R, gR⟩ : ∃ R, R = F.find (bl t4) := ⟨_, rfl⟩
  have HE : Hid (FOk F ∧ LB F (m + 1) ∧ (FSh F → FSh F)) := by exact hid ⟨HF.out, HL.out.mono (by omega), fun s => s⟩
  have KP : Hid (∀ W G V Fd, St wF B kb G pp p x g u V F Fd W → Calls Tryz.prog 19 #[.pointer (some ⟨p, 0, none⟩), .string t4] W fun e w' => e = .returned (.tuple #[.int .i64 (R.1 : Int), .int .i64 R.2]) ∧ ∃ G', St wF B kb G' pp p x g u V F Fd w') := by
    rw [gR]
    exact hid (fun W G V Fd hs => (pfind p F G W hs.pr.pf HF.out t4 (Nat.le_trans H4.out (by omega))).mono (by rintro e w' ⟨he, t⟩; exact ⟨he, _, hs.grow t⟩))
  have KD : Hid (∀ W G V Fp, St wF B kb G pp p x g u V Fp F W → Calls Tryz.prog 20 #[.pointer (some ⟨x, 0, none⟩), .string t4] W fun e w' => e = .returned (.tuple #[.int .i64 (R.1 : Int), .int .i64 R.2]) ∧ ∃ V', St wF B kb G pp p x g u V' Fp F w') := by
    rw [gR]
    exact hid (fun W G V Fp hs => (rfind_any x g u V F W hs.pr.rf HF.out t4 H4.out).mono (by rintro e w' ⟨he, t⟩; exact ⟨he, _, hs.grow t⟩))
  clear gR
  go_wp2_with fail
  go_region_held3 (fun W => W.cell? ⟨pp, 0, none⟩ = some (.pointer (some ⟨p, 0, none⟩)) ∧ W.cell? ⟨pp, 1, none⟩ = some (.pointer (some ⟨x, 0, none⟩)) ∧ W.cell? ⟨kb, 4, none⟩ = some (.string t4)) (first | (refine ⟨?_, ?_, ?_⟩ <;> assumption) | go_keep) (first
    | (go_at_call 19; refine (KP.out _ _ _ _ (by first | exact HS0.out.drew | exact HS0.out)).mono ?_; rintro e w1 ⟨rfl, G1, hS1⟩; have z0 := hS1.c0; have z1 := hS1.c1; have zk4 := hS1.k HKB.out hsF f4; have HS1 := hid hS1; clear hS1)
    | fail)
  go_wp2_with fail
  go_region_held3 (fun W => W.cell? ⟨pp, 0, none⟩ = some (.pointer (some ⟨p, 0, none⟩)) ∧ W.cell? ⟨pp, 1, none⟩ = some (.pointer (some ⟨x, 0, none⟩)) ∧ W.cell? ⟨kb, 4, none⟩ = some (.string t4)) (first | (refine ⟨?_, ?_, ?_⟩ <;> assumption) | go_keep) (first
    | (go_at_call 20; refine (KD.out _ _ _ _ (by first | exact HS1.out.drew | exact HS1.out)).mono ?_; rintro e w2 ⟨rfl, V2, hS2⟩; have y0 := hS2.c0; have y1 := hS2.c1; have yk4 := hS2.k HKB.out hsF f4; have HS2 := hid hS2; clear hS2)
    | fail)
  go_wp2_with fail
  go_ret
  first
  | exact HS2.out.done HWF.out HB.out HE.out
  | exact HS2.out.drew.done HWF.out HB.out HE.out

set_option maxHeartbeats 8000000 in
theorem does_1 (pp p x g u B : Nat) (G : Nat → Prop) (V : Nat → Value) (F : Fs) (m : Int) (x0 x1 x2 x3 : Int) (t4 t5 : ByteArray) (ab : Option Addr) (lb cb : Nat) (bz : List Int) (w : World) (H : Pr w B G pp p x g u V F F) (hF : FOk F) (hL : LB F m) (hm : 1 ≤ m ∧ m ≤ 900000)
    (h4 : t4.size ≤ 1048576) (h5 : t5.size ≤ 1048576) (hx2 : x2 ≤ 9223372036854775807) (hx3 : x3 ≤ 9223372036854775807) (hb : Src w ab lb bz) (hbz : ∀ z ∈ bz, 0 ≤ z ∧ z < 256) (hlb : lb ≤ 140737488355328) (hcb : lb ≤ cb) (hcb2 : cb ≤ 9223372036854775807) (hbn : ab = none → lb = 0 ∧ cb = 0) (hbB : 0 < lb → ∀ b o, ab = some ⟨b, o, none⟩ → b < B)
    (hq : wrap64 ((IntKind.u64.wrap x0).tmod 13) = 1) :
    Calls Tryz.prog 8 #[.pointer (some ⟨pp, 0, none⟩), .agg #[.int .i64 x0, .int .i64 x1, .int .i64 x2, .int .i64 x3, .string t4, .string t5, .slice ab lb cb]] w (DoP w B pp p x g u m F) := by
  have hpl := H.lt
  have HB : Hid (B ≤ w.heap.size) := hid (Nat.le_trans H.gp (Nat.le_of_lt hpl))
  have HF := hid hF
  have HL := hid hL
  have HM := hid hm
  have H4 := hid h4
  have H5 := hid h5
  have HX2 := hid hx2
  have HX3 := hid hx3
  have HSB := hid hb
  have HBZ := hid hbz
  have HBB := hid hbB
  have HLC := hid hcb
  have HLL := hid hlb
  have HML : Hid (∀ i, (F.P i).l ≤ 1000000) := hid (fun i => Int.le_trans (hL i) (by omega))
  have HQ := hid hq
  have HP := hid H
  have kc : Hid (∀ wx, Below w.heap.size w wx → Calls Tryz.prog 18 #[.slice ab lb cb] wx fun e w' => ∃ (av : Option Addr) (cv : Nat), e = .returned (.slice av lb cv) ∧ w'.ownsRow wx.heap.size 5 1 (.slice av lb cv) lb (bz.map (Value.int .u8)) ∧ Below wx.heap.size wx w') := hid (fun wx hbx => clone_opt ab lb cb bz wx (hb.below hbx) hlb hbn)
  clear H hF hL hm h4 h5 hx2 hx3 hb hbz hlb hcb hcb2 hbn hbB hq
  go_enter Tryz.func8, Tryz.ntmps8
  go_upto_region 1 with fail
  obtain ⟨W1, gW1⟩ : ∃ W1, W1 = w.alloc (.cells #[.int .i64 x0, .int .i64 x1, .int .i64 x2, .int .i64 x3, .string t4, .string t5, .slice ab lb cb] 32) := ⟨_, rfl⟩
  rw [← gW1]
  have hb1 : Below w.heap.size w W1 := by rw [gW1]; exact (Below.refl _ _).alloc (Nat.le_refl _) _
  have hs1 : w.heap.size < W1.heap.size := by rw [gW1]; simp
  have e0 : W1.cell? ⟨w.heap.size, 0, none⟩ = some (.int .i64 x0) := by rw [gW1]; simp [go_sem]
  have e1 : W1.cell? ⟨w.heap.size, 1, none⟩ = some (.int .i64 x1) := by rw [gW1]; simp [go_sem]
  have e2 : W1.cell? ⟨w.heap.size, 2, none⟩ = some (.int .i64 x2) := by rw [gW1]; simp [go_sem]
  have e3 : W1.cell? ⟨w.heap.size, 3, none⟩ = some (.int .i64 x3) := by rw [gW1]; simp [go_sem]
  have e4 : W1.cell? ⟨w.heap.size, 4, none⟩ = some (.string t4) := by rw [gW1]; simp [go_sem]
  have e5 : W1.cell? ⟨w.heap.size, 5, none⟩ = some (.string t5) := by rw [gW1]; simp [go_sem]
  have e6 : W1.cell? ⟨w.heap.size, 6, none⟩ = some (.slice ab lb cb) := by rw [gW1]; simp [go_sem]
  have HB1 := hid hb1
  clear gW1 hb1
  go_upto_block 0 with (go_at_call 18; refine (kc.out _ HB1.out).mono ?_; rintro e wF ⟨av, cv, rfl, hG, hbF⟩; have f0 := (hbF.cell (p := ⟨w.heap.size, 0, none⟩) hs1).trans e0; have HG := hid hG; have HBF := hid hbF; clear hG hbF)
  rw [HQ.out]
  have hsF : w.heap.size < wF.heap.size := Nat.lt_of_lt_of_le hs1 HBF.out.size
  have f1 := (HBF.out.cell (p := ⟨w.heap.size, 1, none⟩) hs1).trans e1
  have f2 := (HBF.out.cell (p := ⟨w.heap.size, 2, none⟩) hs1).trans e2
  have f3 := (HBF.out.cell (p := ⟨w.heap.size, 3, none⟩) hs1).trans e3
  have f4 := (HBF.out.cell (p := ⟨w.heap.size, 4, none⟩) hs1).trans e4
  have f5 := (HBF.out.cell (p := ⟨w.heap.size, 5, none⟩) hs1).trans e5
  have f6 := (HBF.out.cell (p := ⟨w.heap.size, 6, none⟩) hs1).trans e6
  have HWF : Hid (Below w.heap.size w wF) := hid (HB1.out.trans (HBF.out.mono HB1.out.size))
  obtain ⟨kb, gkb⟩ : ∃ kb, kb = w.heap.size := ⟨_, rfl⟩
  rw [← gkb] at f0 f1 f2 f3 f4 f5 f6 hsF ⊢
  have hS0 : St wF B kb G pp p x g u V F F wF := by
    have h := HP.out.grow HWF.out
    refine ⟨h, Upd.refl _ _, fun b hk hb => ⟨hb, fun e => ?_, fun hG => ?_, fun hR => ?_⟩⟩
    · omega
    · have := HP.out.pf
      have h1 := (HP.out.gG b hG).2.1
      omega
    · have h1 := HP.out.rf.foot_lt b hR
      omega
  have q0 := hS0.c0
  have q1 := hS0.c1
  have HS0 := hid hS0
  have GKB := hid gkb
  have HKB : Hid (kb ≤ kb) := hid (Nat.le_refl _)
  clear e0 e1 e2 e3 e4 e5 e6 kc hS0 gkb
  obtain ⟨K0, gK0⟩ : ∃ K0, K0 = IntKind.i64.wrap (1 + x1.tmod 3) := ⟨_, rfl⟩
  have GK := hid gK0.symm
  clear gK0
  obtain ⟨R, gR⟩ : ∃ R, R = F.make (bl t4) K0 := ⟨_, rfl⟩
  have HE : Hid (FOk R.1 ∧ LB R.1 (m + 1) ∧ (FSh F → FSh R.1)) := by rw [gR]; exact hid ⟨HF.out.make _ _, (HL.out.make HM.out.1 _ _).mono (by omega), fun s => s.make HF.out _ _⟩
  have KP : Hid (∀ W G V Fd, St wF B kb G pp p x g u V F Fd W → Calls Tryz.prog 21 #[.pointer (some ⟨p, 0, none⟩), .string t4, .int .i64 K0] W fun e w' => e = .returned (.tuple #[.int .i64 (R.2.1 : Int), .int .i64 R.2.2]) ∧ ∃ G', St wF B kb G' pp p x g u V R.1 Fd w') := by
    rw [gR]
    exact hid (fun W G V Fd hs => (pmake p F G W hs.pr.pf HF.out t4 (Nat.le_trans H4.out (by omega)) K0).mono (by rintro e w' ⟨he, t⟩; exact ⟨he, hs.prog t⟩))
  have KD : Hid (∀ W G V Fp, St wF B kb G pp p x g u V Fp F W → Calls Tryz.prog 22 #[.pointer (some ⟨x, 0, none⟩), .string t4, .int .i64 K0] W fun e w' => e = .returned (.tuple #[.int .i64 (R.2.1 : Int), .int .i64 R.2.2]) ∧ ∃ V', St wF B kb G pp p x g u V' Fp R.1 w') := by
    rw [gR]
    exact hid (fun W G V Fp hs => (rmake_any x g u V F W hs.pr.rf HF.out t4 H4.out K0).mono (by rintro e w' ⟨he, t⟩; exact ⟨he, hs.doc t⟩))
  clear gR
  go_wp2_with fail
  go_region_held3 (fun W => W.cell? ⟨pp, 0, none⟩ = some (.pointer (some ⟨p, 0, none⟩)) ∧ W.cell? ⟨pp, 1, none⟩ = some (.pointer (some ⟨x, 0, none⟩)) ∧ W.cell? ⟨kb, 1, none⟩ = some (.int .i64 x1) ∧ W.cell? ⟨kb, 4, none⟩ = some (.string t4)) (first | (refine ⟨?_, ?_, ?_, ?_⟩ <;> assumption) | go_keep) (first
    | (go_at_call 21; rw [GK.out]; refine (KP.out _ _ _ _ (by first | exact HS0.out.drew | exact HS0.out)).mono ?_; rintro e w1 ⟨rfl, G1, hS1⟩; have z0 := hS1.c0; have z1 := hS1.c1; have zk1 := hS1.k HKB.out hsF f1; have zk4 := hS1.k HKB.out hsF f4; have HS1 := hid hS1; clear hS1)
    | fail)
  go_wp2_with fail
  go_region_held3 (fun W => W.cell? ⟨pp, 0, none⟩ = some (.pointer (some ⟨p, 0, none⟩)) ∧ W.cell? ⟨pp, 1, none⟩ = some (.pointer (some ⟨x, 0, none⟩)) ∧ W.cell? ⟨kb, 1, none⟩ = some (.int .i64 x1) ∧ W.cell? ⟨kb, 4, none⟩ = some (.string t4)) (first | (refine ⟨?_, ?_, ?_, ?_⟩ <;> assumption) | go_keep) (first
    | (go_at_call 22; rw [GK.out]; refine (KD.out _ _ _ _ (by first | exact HS1.out.drew | exact HS1.out)).mono ?_; rintro e w2 ⟨rfl, V2, hS2⟩; have y0 := hS2.c0; have y1 := hS2.c1; have yk1 := hS2.k HKB.out hsF f1; have yk4 := hS2.k HKB.out hsF f4; have HS2 := hid hS2; clear hS2)
    | fail)
  go_wp2_with fail
  go_ret
  first
  | exact HS2.out.done HWF.out HB.out HE.out
  | exact HS2.out.drew.done HWF.out HB.out HE.out

set_option maxHeartbeats 8000000 in
theorem does_2 (pp p x g u B : Nat) (G : Nat → Prop) (V : Nat → Value) (F : Fs) (m : Int) (x0 x1 x2 x3 : Int) (t4 t5 : ByteArray) (ab : Option Addr) (lb cb : Nat) (bz : List Int) (w : World) (H : Pr w B G pp p x g u V F F) (hF : FOk F) (hL : LB F m) (hm : 1 ≤ m ∧ m ≤ 900000)
    (h4 : t4.size ≤ 1048576) (h5 : t5.size ≤ 1048576) (hx2 : x2 ≤ 9223372036854775807) (hx3 : x3 ≤ 9223372036854775807) (hb : Src w ab lb bz) (hbz : ∀ z ∈ bz, 0 ≤ z ∧ z < 256) (hlb : lb ≤ 140737488355328) (hcb : lb ≤ cb) (hcb2 : cb ≤ 9223372036854775807) (hbn : ab = none → lb = 0 ∧ cb = 0) (hbB : 0 < lb → ∀ b o, ab = some ⟨b, o, none⟩ → b < B)
    (hq : wrap64 ((IntKind.u64.wrap x0).tmod 13) = 2) :
    Calls Tryz.prog 8 #[.pointer (some ⟨pp, 0, none⟩), .agg #[.int .i64 x0, .int .i64 x1, .int .i64 x2, .int .i64 x3, .string t4, .string t5, .slice ab lb cb]] w (DoP w B pp p x g u m F) := by
  have hpl := H.lt
  have HB : Hid (B ≤ w.heap.size) := hid (Nat.le_trans H.gp (Nat.le_of_lt hpl))
  have HF := hid hF
  have HL := hid hL
  have HM := hid hm
  have H4 := hid h4
  have H5 := hid h5
  have HX2 := hid hx2
  have HX3 := hid hx3
  have HSB := hid hb
  have HBZ := hid hbz
  have HBB := hid hbB
  have HLC := hid hcb
  have HLL := hid hlb
  have HML : Hid (∀ i, (F.P i).l ≤ 1000000) := hid (fun i => Int.le_trans (hL i) (by omega))
  have HQ := hid hq
  have HP := hid H
  have kc : Hid (∀ wx, Below w.heap.size w wx → Calls Tryz.prog 18 #[.slice ab lb cb] wx fun e w' => ∃ (av : Option Addr) (cv : Nat), e = .returned (.slice av lb cv) ∧ w'.ownsRow wx.heap.size 5 1 (.slice av lb cv) lb (bz.map (Value.int .u8)) ∧ Below wx.heap.size wx w') := hid (fun wx hbx => clone_opt ab lb cb bz wx (hb.below hbx) hlb hbn)
  clear H hF hL hm h4 h5 hx2 hx3 hb hbz hlb hcb hcb2 hbn hbB hq
  go_enter Tryz.func8, Tryz.ntmps8
  go_upto_region 1 with fail
  obtain ⟨W1, gW1⟩ : ∃ W1, W1 = w.alloc (.cells #[.int .i64 x0, .int .i64 x1, .int .i64 x2, .int .i64 x3, .string t4, .string t5, .slice ab lb cb] 32) := ⟨_, rfl⟩
  rw [← gW1]
  have hb1 : Below w.heap.size w W1 := by rw [gW1]; exact (Below.refl _ _).alloc (Nat.le_refl _) _
  have hs1 : w.heap.size < W1.heap.size := by rw [gW1]; simp
  have e0 : W1.cell? ⟨w.heap.size, 0, none⟩ = some (.int .i64 x0) := by rw [gW1]; simp [go_sem]
  have e1 : W1.cell? ⟨w.heap.size, 1, none⟩ = some (.int .i64 x1) := by rw [gW1]; simp [go_sem]
  have e2 : W1.cell? ⟨w.heap.size, 2, none⟩ = some (.int .i64 x2) := by rw [gW1]; simp [go_sem]
  have e3 : W1.cell? ⟨w.heap.size, 3, none⟩ = some (.int .i64 x3) := by rw [gW1]; simp [go_sem]
  have e4 : W1.cell? ⟨w.heap.size, 4, none⟩ = some (.string t4) := by rw [gW1]; simp [go_sem]
  have e5 : W1.cell? ⟨w.heap.size, 5, none⟩ = some (.string t5) := by rw [gW1]; simp [go_sem]
  have e6 : W1.cell? ⟨w.heap.size, 6, none⟩ = some (.slice ab lb cb) := by rw [gW1]; simp [go_sem]
  have HB1 := hid hb1
  clear gW1 hb1
  go_upto_block 0 with (go_at_call 18; refine (kc.out _ HB1.out).mono ?_; rintro e wF ⟨av, cv, rfl, hG, hbF⟩; have f0 := (hbF.cell (p := ⟨w.heap.size, 0, none⟩) hs1).trans e0; have HG := hid hG; have HBF := hid hbF; clear hG hbF)
  rw [HQ.out]
  have hsF : w.heap.size < wF.heap.size := Nat.lt_of_lt_of_le hs1 HBF.out.size
  have f1 := (HBF.out.cell (p := ⟨w.heap.size, 1, none⟩) hs1).trans e1
  have f2 := (HBF.out.cell (p := ⟨w.heap.size, 2, none⟩) hs1).trans e2
  have f3 := (HBF.out.cell (p := ⟨w.heap.size, 3, none⟩) hs1).trans e3
  have f4 := (HBF.out.cell (p := ⟨w.heap.size, 4, none⟩) hs1).trans e4
  have f5 := (HBF.out.cell (p := ⟨w.heap.size, 5, none⟩) hs1).trans e5
  have f6 := (HBF.out.cell (p := ⟨w.heap.size, 6, none⟩) hs1).trans e6
  have HWF : Hid (Below w.heap.size w wF) := hid (HB1.out.trans (HBF.out.mono HB1.out.size))
  obtain ⟨kb, gkb⟩ : ∃ kb, kb = w.heap.size := ⟨_, rfl⟩
  rw [← gkb] at f0 f1 f2 f3 f4 f5 f6 hsF ⊢
  have hS0 : St wF B kb G pp p x g u V F F wF := by
    have h := HP.out.grow HWF.out
    refine ⟨h, Upd.refl _ _, fun b hk hb => ⟨hb, fun e => ?_, fun hG => ?_, fun hR => ?_⟩⟩
    · omega
    · have := HP.out.pf
      have h1 := (HP.out.gG b hG).2.1
      omega
    · have h1 := HP.out.rf.foot_lt b hR
      omega
  have q0 := hS0.c0
  have q1 := hS0.c1
  have HS0 := hid hS0
  have GKB := hid gkb
  have HKB : Hid (kb ≤ kb) := hid (Nat.le_refl _)
  clear e0 e1 e2 e3 e4 e5 e6 kc hS0 gkb
  obtain ⟨K0, gK0⟩ : ∃ K0, K0 = IntKind.i64.wrap (1 + x1.tmod 3) := ⟨_, rfl⟩
  have GK := hid gK0.symm
  clear gK0
  obtain ⟨R, gR⟩ : ∃ R, R = F.make (bl t4) K0 := ⟨_, rfl⟩
  have HE : Hid (FOk R.1 ∧ LB R.1 (m + 1) ∧ (FSh F → FSh R.1)) := by rw [gR]; exact hid ⟨HF.out.make _ _, (HL.out.make HM.out.1 _ _).mono (by omega), fun s => s.make HF.out _ _⟩
  have KP : Hid (∀ W G V Fd, St wF B kb G pp p x g u V F Fd W → Calls Tryz.prog 21 #[.pointer (some ⟨p, 0, none⟩), .string t4, .int .i64 K0] W fun e w' => e = .returned (.tuple #[.int .i64 (R.2.1 : Int), .int .i64 R.2.2]) ∧ ∃ G', St wF B kb G' pp p x g u V R.1 Fd w') := by
    rw [gR]
    exact hid (fun W G V Fd hs => (pmake p F G W hs.pr.pf HF.out t4 (Nat.le_trans H4.out (by omega)) K0).mono (by rintro e w' ⟨he, t⟩; exact ⟨he, hs.prog t⟩))
  have KD : Hid (∀ W G V Fp, St wF B kb G pp p x g u V Fp F W → Calls Tryz.prog 22 #[.pointer (some ⟨x, 0, none⟩), .string t4, .int .i64 K0] W fun e w' => e = .returned (.tuple #[.int .i64 (R.2.1 : Int), .int .i64 R.2.2]) ∧ ∃ V', St wF B kb G pp p x g u V' Fp R.1 w') := by
    rw [gR]
    exact hid (fun W G V Fp hs => (rmake_any x g u V F W hs.pr.rf HF.out t4 H4.out K0).mono (by rintro e w' ⟨he, t⟩; exact ⟨he, hs.doc t⟩))
  clear gR
  go_wp2_with fail
  go_region_held3 (fun W => W.cell? ⟨pp, 0, none⟩ = some (.pointer (some ⟨p, 0, none⟩)) ∧ W.cell? ⟨pp, 1, none⟩ = some (.pointer (some ⟨x, 0, none⟩)) ∧ W.cell? ⟨kb, 1, none⟩ = some (.int .i64 x1) ∧ W.cell? ⟨kb, 4, none⟩ = some (.string t4)) (first | (refine ⟨?_, ?_, ?_, ?_⟩ <;> assumption) | go_keep) (first
    | (go_at_call 21; rw [GK.out]; refine (KP.out _ _ _ _ (by first | exact HS0.out.drew | exact HS0.out)).mono ?_; rintro e w1 ⟨rfl, G1, hS1⟩; have z0 := hS1.c0; have z1 := hS1.c1; have zk1 := hS1.k HKB.out hsF f1; have zk4 := hS1.k HKB.out hsF f4; have HS1 := hid hS1; clear hS1)
    | fail)
  go_wp2_with fail
  go_region_held3 (fun W => W.cell? ⟨pp, 0, none⟩ = some (.pointer (some ⟨p, 0, none⟩)) ∧ W.cell? ⟨pp, 1, none⟩ = some (.pointer (some ⟨x, 0, none⟩)) ∧ W.cell? ⟨kb, 1, none⟩ = some (.int .i64 x1) ∧ W.cell? ⟨kb, 4, none⟩ = some (.string t4)) (first | (refine ⟨?_, ?_, ?_, ?_⟩ <;> assumption) | go_keep) (first
    | (go_at_call 22; rw [GK.out]; refine (KD.out _ _ _ _ (by first | exact HS1.out.drew | exact HS1.out)).mono ?_; rintro e w2 ⟨rfl, V2, hS2⟩; have y0 := hS2.c0; have y1 := hS2.c1; have yk1 := hS2.k HKB.out hsF f1; have yk4 := hS2.k HKB.out hsF f4; have HS2 := hid hS2; clear hS2)
    | fail)
  go_wp2_with fail
  go_ret
  first
  | exact HS2.out.done HWF.out HB.out HE.out
  | exact HS2.out.drew.done HWF.out HB.out HE.out

end Go.Proofs.YtliekndkjjaldaaGreat
