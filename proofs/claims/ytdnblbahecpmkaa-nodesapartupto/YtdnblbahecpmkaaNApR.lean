/- The road of NodesApart. -/
import Derived.Test.YtdnblbahecpmkaaRMake
import Derived.Test.YtdnblbahecpmkaaFOne
namespace Go.Proofs.Ytdnblbahecpmkaa
open Go.RowKit Go.ChangeMaps Go.MapKept
set_option linter.unusedVariables false

/-- What a new name comes to, in an empty system and by the document. -/
def Newly (l : List UInt8) : Except Int (List Nat × List UInt8 × Nat) → Prop
  | .error e => endE l = e ∧ e ≠ 0
  | .ok (y, s, n) => endE l = 0 ∧ y = [1] ∧ n = 0 ∧ l = 47 :: s ∧ good s

theorem good_path {t : ByteArray} (hg : (bl t).head? = some 47 ∧ bl t ≠ [47]) : ∃ r, bl t = 47 :: r := by
  cases e : bl t with
  | nil => rw [e] at hg; simp at hg
  | cons c r =>
    rw [e] at hg
    obtain ⟨h1, h2⟩ := hg
    simp at h1
    subst h1
    exact ⟨r, rfl⟩

theorem newly (m : Nat) (t : ByteArray) : Newly (bl t) (toNew (rootG m).L (wkS (rootG m) t)) := by
  by_cases hg : (bl t).head? = some 47 ∧ bl t ≠ [47]
  · obtain ⟨r, hr⟩ := good_path hg
    have e1 : wkS (rootG m) t = wk (fun i => ((rootG m).P i).k) (rootG m).N 1 [] (spl r) := by
      unfold wkS
      rw [if_pos hg, hr]
      rfl
    have e2 : endE (bl t) = splE (spl r) := by
      unfold endE
      rw [if_pos hg, hr]
      rfl
    have K1 : ((rootG m).P 1).k = 2 := rfl
    rw [e1]
    cases hs : spl r with
    | nil => exact absurd hs (spl_ne r)
    | cons s rest =>
      rw [hs] at e2
      by_cases h0 : s = []
      · subst h0
        rw [wk_none (fun i => ((rootG m).P i).k) _ 1 _ _ K1]
        refine ⟨?_, by omega⟩
        rw [e2]
        cases rest <;> simp [splE, nmL]
      · have hl : s.length ≠ 0 := fun q => h0 (List.eq_nil_of_length_eq_zero q)
        by_cases h6 : 6 < s.length
        · rw [wk_long (fun i => ((rootG m).P i).k) _ 1 _ _ _ K1 h0 h6]
          refine ⟨?_, by omega⟩
          rw [e2]
          cases rest <;> simp [splE, nmL, h0, h6]
        · cases rest with
          | nil =>
            rw [wk_last (fun i => ((rootG m).P i).k) _ 1 _ _ K1 h0 h6]
            have hm : (47 : UInt8) ∉ s := mem_spl r s (by rw [hs]; simp)
            have : r = s := spl_inj r s (by rw [hs, spl_good hm])
            refine ⟨?_, rfl, rfl, by rw [hr, this], h0, by omega, hm⟩
            rw [e2]
            simp [splE, nmL, h0, h6]
          | cons q l =>
            rw [wk_on (fun i => ((rootG m).P i).k) _ 1 _ _ _ (List.cons_ne_nil _ _) K1 h0 h6, wk_there (fun i => ((rootG m).P i).k) _ _ _ _ _ (show ((rootG m).P ((rootG m).N 1 s)).k = 0 from rfl)]
            refine ⟨?_, by omega⟩
            rw [e2]
            simp [splE, nmL, h0, h6]
  · have e1 : wkS (rootG m) t = .error 22 := by unfold wkS; rw [if_neg hg]
    rw [e1]
    exact ⟨by unfold endE; rw [if_neg hg], by omega⟩

theorem find_self (m : Nat) (s : List UInt8) (t : ByteArray) (ht : bl t = 47 :: s) (hs : good s) : findS (oneG m s) t = (2, 0) := by
  have h1 : bl t ≠ [47] := by rw [ht]; intro e; simp at e; exact hs.1 e
  have h2 : (oneG m s).N 1 s = 2 := by simp [oneG, Sg.put]
  unfold findS
  rw [if_neg h1, wkS_one _ t s ht hs rfl, h2]
  rfl

theorem find_other (m : Nat) (s : List UInt8) (t o : ByteArray) (ht : bl t = 47 :: s) (hs : good s) (h : (findS (oneG m s) o).1 = 2) : o = t := by
  apply bl_inj
  rw [ht]
  unfold findS at h
  by_cases h1 : bl o = [47]
  · rw [if_pos h1] at h; simp at h
  · rw [if_neg h1] at h
    by_cases hg : (bl o).head? = some 47 ∧ bl o ≠ [47]
    · obtain ⟨r, hr⟩ := good_path hg
      have e1 : wkS (oneG m s) o = wk (fun i => ((oneG m s).P i).k) (oneG m s).N 1 [] (spl r) := by
        unfold wkS
        rw [if_pos hg, hr]
        rfl
      have K1 : ((oneG m s).P 1).k = 2 := rfl
      rw [e1] at h
      cases hq : spl r with
      | nil => exact absurd hq (spl_ne r)
      | cons q rest =>
        rw [hq] at h
        by_cases h0 : q = []
        · subst h0
          rw [wk_none (fun i => ((oneG m s).P i).k) _ 1 _ _ K1] at h
          simp [toNode] at h
        · by_cases h6 : 6 < q.length
          · rw [wk_long (fun i => ((oneG m s).P i).k) _ 1 _ _ _ K1 h0 h6] at h
            simp [toNode] at h
          · have hN : (oneG m s).N 1 q = if q = s then 2 else 0 := by simp [oneG, Sg.put, Sg.file, rootG]
            cases rest with
            | nil =>
              rw [wk_last (fun i => ((oneG m s).P i).k) _ 1 _ _ K1 h0 h6, hN] at h
              by_cases e : q = s
              · rw [hr, spl_inj r s (by rw [hq, e, spl_good hs.2.2])]
              · simp [toNode, e] at h
            | cons y l =>
              rw [wk_on (fun i => ((oneG m s).P i).k) _ 1 _ _ _ (List.cons_ne_nil _ _) K1 h0 h6, hN] at h
              by_cases e : q = s
              · rw [if_pos e, wk_dir (fun i => ((oneG m s).P i).k) _ _ _ _ _ (show ((oneG m s).P 2).k ≠ 0 by show (1 : Int) ≠ 0; omega) (show ((oneG m s).P 2).k ≠ 2 by show (1 : Int) ≠ 2; omega)] at h
                simp [toNode] at h
              · rw [if_neg e, wk_there (fun i => ((oneG m s).P i).k) _ _ _ _ _ (show ((oneG m s).P 0).k = 0 from rfl)] at h
                simp [toNode] at h
    · have e1 : wkS (oneG m s) o = .error 22 := by unfold wkS; rw [if_neg hg]
      rw [e1] at h
      simp [toNode] at h

set_option maxHeartbeats 4000000 in
set_option maxRecDepth 20000 in
theorem apart_road (t o : ByteArray) (w : World) (ht : t.size ≤ 1048576) (ho : o.size ≤ 1048576) :
    Calls Try.prog 4 #[.string t, .string o] w fun e w' => e = .returned (.bool true) ∧ Below w.heap.size w w' := by
  have k1 := hid (nnew w)
  go_enter Try.func4, Try.ntmps4
  go_wp2_with fail
  refine k1.out.mono ?_
  rintro e w1 ⟨rfl, a1, a2, h1, h2⟩
  obtain ⟨p, gp⟩ : ∃ p, p = w.heap.size := ⟨_, rfl⟩
  obtain ⟨m, gm⟩ : ∃ m, m = w.heap.size + 3 := ⟨_, rfl⟩
  rw [← gm, ← gp] at a1
  rw [← gm] at a2
  have hS1 : Sy w1 p (rootG m) := Sy.fresh a1 a2
  have HN := hid (newly m t)
  have k2 := hid (make_file p (rootG m) t w1 hS1 (rootG_tree m) (by omega) 2 (rootG_free m) (by omega))
  obtain ⟨R, gR⟩ : ∃ R, R = toNew (rootG m).L (wkS (rootG m) t) := ⟨_, rfl⟩
  rw [← gR] at HN k2
  have HF : Hid (∀ y, (rootG m).foot p y → w.heap.size ≤ y) := hid (fun y hy => by
    rcases foot_root m p y hy with h | h <;> omega)
  have H1 := hid h1
  rw [← gp]
  clear k1 a1 a2 h1 h2 hS1 gp gm gR
  go_wp2_with fail
  refine k2.out.mono ?_
  intro e w2 hm
  have HM := hid hm
  clear k2 hm
  have k3 := hid (r6new w2)
  cases R with
  | error er =>
    obtain ⟨rfl, hS2, hB2⟩ := HM.out
    obtain ⟨hE, her⟩ := HN.out
    have HB2 := hid hB2
    clear HM HN hS2 hB2
    go_wp2_with fail
    refine k3.out.mono ?_
    rintro e w3 ⟨q, b, rfl, hR, hq, hb, hB3⟩
    have k4 := hid (r6make q b t w3 hR ht)
    rw [hE] at k4
    have HB3 := hid hB3
    clear k3 hR hB3 hE
    go_wp2_with fail
    refine k4.out.mono ?_
    rintro e w4 ⟨⟨n, rfl⟩, u4⟩
    clear k4
    go_wp2_with fail
    go_ret
    have s1 := H1.out.size
    have s2 := HB2.out.size
    have s3 := HB3.out.size
    exact ⟨rfl, ((H1.out.trans (HB2.out.mono s1)).trans (HB3.out.mono (by omega))).trans (u4.below (by omega) (fun x hx => by omega))⟩
  | ok r =>
    obtain ⟨y, s, n⟩ := r
    obtain ⟨rfl, hS2, u2⟩ := HM.out
    obtain ⟨hE, rfl, rfl, hts, hgs⟩ := HN.out
    have hS2' : Sy w2 p (oneG m s) := hS2
    have HS2 := hid hS2'
    have hB2 : Below w.heap.size w1 w2 := u2.below H1.out.size (fun y hy => HF.out y hy)
    have HB2 := hid hB2
    have HTS := hid (And.intro hts hgs)
    clear HM HN hS2 hS2' hB2 u2 hts hgs
    go_wp2_with fail
    refine k3.out.mono ?_
    rintro e w3 ⟨q, b, rfl, hR, hq, hb, hB3⟩
    have k4 := hid (r6make q b t w3 hR ht)
    rw [hE] at k4
    have HB3 := hid hB3
    clear k3 hR hB3 hE
    go_wp2_with fail
    refine k4.out.mono ?_
    rintro e w4 ⟨⟨n, rfl⟩, u4⟩
    clear k4
    have hB4 : Below w2.heap.size w2 w4 := HB3.out.trans (u4.below HB3.out.size (fun x hx => by omega))
    have hT : Tree (oneG m s) := by rw [← oneG_bl]; exact oneG_tree _ _ _ _
    have k5 := hid (find_any p (oneG m s) t w4 (HS2.out.grow hB4) hT (by omega))
    rw [find_self m s t HTS.out.1 HTS.out.2] at k5
    have k6 := hid (fun W (hW : Below w4.heap.size w4 W) => find_any p (oneG m s) o W ((HS2.out.grow hB4).grow hW) hT (by omega))
    have HO := hid (find_other m s t o HTS.out.1 HTS.out.2)
    have HB4 := hid hB4
    obtain ⟨R1, R2, gR⟩ : ∃ R1 R2, findS (oneG m s) o = (R1, R2) := ⟨_, _, rfl⟩
    rw [gR] at k6 HO
    clear hB4 u4 hT gR HB3 hq hb
    go_wp2_with fail
    refine k5.out.mono ?_
    rintro e w5 ⟨rfl, hB5⟩
    have k7 := hid (k6.out w5 hB5)
    have HB5 := hid hB5
    clear k5 k6 hB5
    by_cases hk : R1 = 2
    · obtain rfl := HO.out hk
      subst hk
      clear HO
      go_wp2_with fail
      refine k7.out.mono ?_
      rintro e w6 ⟨rfl, hB6⟩
      have HB6 := hid hB6
      clear k7 hB6
      go_wp2_with fail
      go_ret
      have s1 := H1.out.size
      have s2 := HB2.out.size
      have s4 := HB4.out.size
      have s5 := HB5.out.size
      exact ⟨rfl, (((H1.out.trans HB2.out).trans (HB4.out.mono (by omega))).trans (HB5.out.mono (by omega))).trans (HB6.out.mono (by omega))⟩
    · have hk' : ¬ (R1 : Int) = 2 := by omega
      clear HO hk
      go_wp2_with fail
      refine k7.out.mono ?_
      rintro e w6 ⟨rfl, hB6⟩
      have HB6 := hid hB6
      clear k7 hB6
      go_wp2_with fail
      go_ret
      have s1 := H1.out.size
      have s2 := HB2.out.size
      have s4 := HB4.out.size
      have s5 := HB5.out.size
      exact ⟨rfl, (((H1.out.trans HB2.out).trans (HB4.out.mono (by omega))).trans (HB5.out.mono (by omega))).trans (HB6.out.mono (by omega))⟩

end Go.Proofs.Ytdnblbahecpmkaa
