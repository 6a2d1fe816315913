/- Which executed programs may be: the document's. -/
import Derived.Test.YtpbhcmfbcnihiaaGreatBCan2
namespace Go.Proofs.YtpbhcmfbcnihiaaGreat
open Go.RowKit Num
set_option linter.unusedVariables false
set_option maxRecDepth 20000

set_option maxHeartbeats 1000000 in
theorem maycopy_any (a r s v : Int) (ba : Option Addr) (bn bc i : Nat) (bs : List Int) (w : World) (hb : bs.length = bn) (hi : i ≤ 64) (hbc : bn ≤ 9223372036854775807) :
    Calls Tryz.prog 22 #[.agg #[.int .i64 a, .int .i64 r, .int .i64 s, .int .i64 v, .slice ba bn bc], .int .i64 i] w fun e w' => e = .returned (.bool (cB i ⟨a, r, s, v, bs⟩)) ∧ Below w.heap.size w w' := by
  obtain ⟨R, gR⟩ : ∃ R, R = cB i ⟨a, r, s, v, bs⟩ := ⟨_, rfl⟩
  rw [← gR]
  have HR := hid gR
  clear gR
  by_cases hA : 0 ≤ a ∧ a ≤ 1048576
  · have a1 : ¬ a < 0 := by omega
    have a2 : ¬ 1048576 < a := by omega
    by_cases hr : r = -1
    · subst hr
      have HF := hid (HR.out.trans (cB_laid hA))
      rw [hb] at HF
      clear HR hb
      by_cases hs : s = 0
      · subst hs
        by_cases hv : v = 0
        · subst hv
          by_cases h1 : 1 ≤ bn
          · have h1' : (1 : Int) ≤ (bn : Int) := by omega
            by_cases h2 : bn ≤ 2048
            · have h2' : (bn : Int) ≤ 2048 := by omega
              go_enter Tryz.func22, Tryz.ntmps22
              go_wp2_with fail
              go_ret
              exact ⟨ret_bool (by rw [HF.out]; simp [h1, h2]), below_box _ _⟩
            · have h2' : ¬ (bn : Int) ≤ 2048 := by omega
              go_enter Tryz.func22, Tryz.ntmps22
              go_wp2_with fail
              go_ret
              exact ⟨ret_bool (by rw [HF.out]; simp [h1, h2]), below_box _ _⟩
          · obtain rfl : bn = 0 := by omega
            go_enter Tryz.func22, Tryz.ntmps22
            go_wp2_with fail
            go_ret
            exact ⟨ret_bool (by rw [HF.out]; simp), below_box _ _⟩
        · have b1 : (v == 0) = false := by simp [hv]
          go_enter Tryz.func22, Tryz.ntmps22
          go_wp2_with fail
          go_ret
          exact ⟨ret_bool (by rw [HF.out]; simp [hv]), below_box _ _⟩
      · have b1 : (s == 0) = false := by simp [hs]
        go_enter Tryz.func22, Tryz.ntmps22
        go_wp2_with fail
        go_ret
        exact ⟨ret_bool (by rw [HF.out]; simp [hs]), below_box _ _⟩
    · have HF := hid (HR.out.trans (cB_res hA hr))
      have b0 : (r == -1) = false := by simp [hr]
      obtain ⟨B3, g3⟩ : ∃ B, vB v = B := ⟨_, rfl⟩
      have k4 := hid (fun w => rwhole_is v B3 w g3)
      rw [g3, hb] at HF
      have HB := hid hr
      clear g3 hb hr HR
      by_cases h0 : 0 ≤ r
      · by_cases h1 : r < (i : Int)
        · have d1 : decide (0 ≤ r ∧ r ≤ (i : Int) - 1) = true := decide_eq_true (by omega)
          rw [d1] at HF
          clear d1
          by_cases hz : s = 1 ∨ s = 2 ∨ s = 4 ∨ s = 8
          · have d2 : zB s = true := decide_eq_true hz
            rw [d2] at HF
            clear d2
            by_cases hbn : bn = 0
            · subst hbn
              rcases hz with rfl | rfl | rfl | rfl
              all_goals
                go_enter Tryz.func22, Tryz.ntmps22
                go_wp2_with fail
                refine (k4.out _).mono ?_
                rintro e w4 ⟨rfl, rfl⟩
                go_wp2_with fail
                go_ret
                exact ⟨ret_bool (by rw [HF.out]; simp), below_box _ _⟩
            · have hbn' : ((bn : Int) == 0) = false := by simp [hbn]
              rcases hz with rfl | rfl | rfl | rfl
              all_goals
                go_enter Tryz.func22, Tryz.ntmps22
                go_wp2_with fail
                go_ret
                exact ⟨ret_bool (by rw [HF.out]; simp [hbn]), below_box _ _⟩
          · have d2 : zB s = false := decide_eq_false hz
            rw [d2] at HF
            clear d2
            have z1 : (s == 1) = false := by simp; omega
            have z2 : (s == 2) = false := by simp; omega
            have z3 : (s == 4) = false := by simp; omega
            have z4 : (s == 8) = false := by simp; omega
            clear hz
            go_enter Tryz.func22, Tryz.ntmps22
            go_wp2_with fail
            go_ret
            exact ⟨ret_bool (by rw [HF.out]; simp), below_box _ _⟩
        · have d1 : decide (0 ≤ r ∧ r ≤ (i : Int) - 1) = false := decide_eq_false (by omega)
          rw [d1] at HF
          clear d1
          go_enter Tryz.func22, Tryz.ntmps22
          go_wp2_with fail
          all_goals
            go_ret
            exact ⟨ret_bool (by rw [HF.out]; simp), below_box _ _⟩
      · have d1 : decide (0 ≤ r ∧ r ≤ (i : Int) - 1) = false := decide_eq_false (by omega)
        rw [d1] at HF
        clear d1
        go_enter Tryz.func22, Tryz.ntmps22
        go_wp2_with fail
        all_goals
          go_ret
          exact ⟨ret_bool (by rw [HF.out]; simp), below_box _ _⟩
  · have HF := hid (HR.out.trans (cB_addr hA))
    clear HR hb
    by_cases a1 : a < 0
    · clear hA
      go_enter Tryz.func22, Tryz.ntmps22
      go_wp2_with fail
      go_ret
      exact ⟨ret_bool HF.out.symm, below_box _ _⟩
    · have a2 : 1048576 < a := by omega
      clear hA
      go_enter Tryz.func22, Tryz.ntmps22
      go_wp2_with fail
      go_ret
      exact ⟨ret_bool HF.out.symm, below_box _ _⟩

set_option maxHeartbeats 4000000 in
theorem rcan_any (a : Option Addr) (n c : Nat) (l : List Ex) (N : Nat → Prop) (w : World) (h : Lies 3 ExAt N w a l) (hn : l.length = n) (hm : n ≤ 9223372036854775807) :
    Calls Tryz.prog 10 #[.slice a n c] w fun e w' => e = .returned (.bool (pB l)) ∧ Below w.heap.size w w' := by
  obtain ⟨R, gR⟩ : ∃ R, R = pB l := ⟨_, rfl⟩
  rw [← gR]
  unfold pB at gR
  rw [hn] at gR
  have HR := hid gR
  have HC := hid h
  have HN := hid hn
  clear gR h hn
  by_cases h64 : n ≤ 64
  · have h' : ¬ (64 < (n : Int)) := by omega
    have HRR : Hid (R = pBL 0 l) := hid (by rw [HR.out, decide_eq_true h64]; rfl)
    clear HR
    go_enter Tryz.func10, Tryz.ntmps10
    go_wp2_with fail
    go_loopw [14] (fun k wr => ∃ j : Nat, j ≤ n ∧ k = .int .i64 j ∧ Hid (pBL 0 (l.take j) = true) ∧ Hid (Below w.heap.size w wr)) (fun k _ => n - (intOf k).toNat)
    case atStart => exact ⟨0, Nat.zero_le _, rfl, hid rfl, hid (Below.refl _ _)⟩
    case round =>
      obtain ⟨j, hj, rfl, HG, HB⟩ := hrel
      by_cases hlt : j < n
      · have hjl : j < l.length := by rw [HN.out]; exact hlt
        obtain ⟨b, o, rfl, _, hbl, hcs⟩ := HC.out.keep (fun _ _ _ h => ExAt.keep (Keep.below HB.out) h) (Keep.below HB.out) (by omega)
        obtain ⟨⟨_, _, c0⟩, hl1, hl2⟩ := hcs j hjl
        obtain ⟨ca, cn, cc, c1, e1, m1, m1', L1⟩ := hl1.lies
        obtain ⟨wa, wn, wc, c2, e2, m2, m2', L2⟩ := hl2.lies
        have HM := hid (pBL_more l j hjl HG.out)
        have HS := hid (pBL_stop l j hjl)
        generalize l[j] = C at c0 e1 L1 e2 L2 HM
        obtain ⟨q, cs, ws⟩ := C
        dsimp only at c0 e1 L1 e2 L2
        have hsz := HB.out.size
        by_cases hall : 0 ≤ q ∧ q ≤ 63 ∧ cn ≤ 400 ∧ wn ≤ 6
        · obtain ⟨q0, q1, q2, q3⟩ := hall
          have HXB : Hid (xB j ⟨q, cs, ws⟩ = (cs.all (cB j) && ws.all (wB j))) := hid (by
            simp only [xB, e1, e2, decide_eq_true (And.intro q0 (And.intro q1 (And.intro q2 q3))), Bool.true_and])
          have p0 : ¬ q < 0 := by omega
          have p1 : ¬ 63 < q := by omega
          have p2 : ¬ 400 < (cn : Int) := by omega
          have p3 : ¬ 6 < (wn : Int) := by omega
          have HL1 := hid L1
          have HL2 := hid L2
          have HE1 := hid e1
          have HE2 := hid e2
          clear L1 L2 e1 e2 hl1 hl2 hcs hjl
          go_wp2_with fail
          rename World => wo
          obtain ⟨X, gX⟩ : ∃ X, X = wo.alloc (.cells #[.int .i64 q, .slice ca cn cc, .slice wa wn wc] 48) := ⟨_, rfl⟩
          rw [← gX]
          have hX : Below wo.heap.size wo X := by rw [gX]; exact below_box _ _
          have hXs : wo.heap.size < X.heap.size := by rw [gX]; simp
          have x2 : X.cell? ⟨wo.heap.size, 2, none⟩ = some (.slice wa wn wc) := by rw [gX]; simp
          have HLa := hid (HL1.out.keep (fun _ _ _ h => CpAt.keep (Keep.below hX) h) (Keep.below hX))
          have HLb := hid (HL2.out.keep (fun _ _ _ h => WdAt.keep (Keep.below hX) h) (Keep.below hX))
          have HBX := hid (HB.out.trans (hX.mono HB.out.size))
          clear gX hX HL1 HL2
          go_loopw [42] (fun k wr => ∃ t : Nat, t ≤ cn ∧ k = .int .i64 t ∧ Hid ((cs.take t).all (cB j) = true) ∧ Hid (Below X.heap.size X wr)) (fun k _ => cn - (intOf k).toNat)
          case atStart => exact ⟨0, Nat.zero_le _, rfl, hid rfl, hid (Below.refl _ _)⟩
          case round =>
            obtain ⟨t, ht, rfl, HGt, HBt⟩ := hrel
            by_cases htl : t < cn
            · have htl' : t < cs.length := by rw [HE1.out]; exact htl
              obtain ⟨b', o', rfl, _, hbl', hcs'⟩ := HLa.out.keep (fun _ _ _ h => CpAt.keep (Keep.below HBt.out) h) (Keep.below HBt.out) (by omega)
              obtain ⟨⟨_, _, d0⟩, ⟨_, _, d1⟩, ⟨_, _, d2⟩, ⟨_, _, d3⟩, ⟨_, _, ba, bn, bc, d4, hsrc, _, hbc1, hbc2⟩⟩ := hcs' t htl'
              have HM2 := hid (all_more (cB j) cs t htl' HGt.out)
              have HS2 := hid (all_stop (cB j) cs t htl')
              generalize cs[t] = C at d0 d1 d2 d3 hsrc HM2 HS2
              have k2 := hid (fun w => maycopy_any C.a C.r C.s C.v ba bn bc j C.bs w hsrc.1 (by omega) (by omega))
              have hszt := HBt.out.size
              have HX := hid (HBt.out.alloc HBt.out.size (.cells #[.int .i64 C.a, .int .i64 C.r, .int .i64 C.s, .int .i64 C.v, .slice ba bn bc] 50))
              generalize hB1 : cB j ⟨C.a, C.r, C.s, C.v, C.bs⟩ = B1 at k2
              have HB1 : Hid (cB j C = B1) := hid hB1
              clear hB1 hcs' hsrc htl'
              go_wp2_with fail
              refine (k2.out _).mono ?_
              rintro e w2 ⟨rfl, hb2⟩
              have HX2 := hid (HX.out.trans (hb2.mono HX.out.size))
              clear hb2
              cases B1
              · go_wp2_with fail
                go_ret
                refine ⟨ret_bool ?_, HBX.out.trans (HX2.out.mono HBX.out.size)⟩
                rw [HRR.out, HS.out (HM.out _ (by rw [HXB.out, HS2.out HB1.out]; rfl))]
              · go_wp2_with fail
                go_roundw
                case rel => exact ⟨t + 1, by omega, by go_num, hid (HM2.out HB1.out), HX2⟩
                case measure => simp [intOf]; omega
            · obtain rfl : t = cn := by omega
              have HF : Hid (cs.all (cB j) = true) := hid (by have := HGt.out; rw [← HE1.out, List.take_length] at this; exact this)
              have hz := HBt.out.size
              have y2 := (HBt.out.cell (p := ⟨wo.heap.size, 2, none⟩) hXs).trans x2
              replace HLb := hid (HLb.out.keep (fun _ _ _ h => WdAt.keep (Keep.below HBt.out) h) (Keep.below HBt.out))
              replace HBX := hid (HBX.out.trans (HBt.out.mono HBX.out.size))
              clear HGt HBt HLa x2
              go_wp2_with fail
              rename World => X2
              go_loopw [54] (fun k wr => ∃ u : Nat, u ≤ wn ∧ k = .int .i64 u ∧ Hid ((ws.take u).all (wB j) = true) ∧ Hid (Below X2.heap.size X2 wr)) (fun k _ => wn - (intOf k).toNat)
              case atStart => exact ⟨0, Nat.zero_le _, rfl, hid rfl, hid (Below.refl _ _)⟩
              case round =>
                obtain ⟨u, hu, rfl, HGu, HBu⟩ := hrel
                by_cases hul : u < wn
                · have hul' : u < ws.length := by rw [HE2.out]; exact hul
                  obtain ⟨b', o', rfl, _, hbl', hcs'⟩ := HLb.out.keep (fun _ _ _ h => WdAt.keep (Keep.below HBu.out) h) (Keep.below HBu.out) (by omega)
                  obtain ⟨⟨_, _, d0⟩, ⟨_, _, d1⟩⟩ := hcs' u hul'
                  have HM2 := hid (all_more (wB j) ws u hul' HGu.out)
                  have HS2 := hid (all_stop (wB j) ws u hul')
                  generalize ws[u] = C at d0 d1 HM2 HS2
                  obtain ⟨B2, g2⟩ : ∃ B, vB C.v = B := ⟨_, rfl⟩
                  have k3 := hid (fun w => rwhole_is C.v B2 w g2)
                  have H2 := hid g2
                  have hszu := HBu.out.size
                  have HX := hid (HBu.out.alloc HBu.out.size (.cells #[.int .i64 C.r, .int .i64 C.v] 53))
                  clear g2 hcs' hul'
                  by_cases href : -1 ≤ C.r ∧ C.r ≤ (j : Int) - 1
                  · have r1 : ¬ C.r < -1 := by omega
                    have r2 : ¬ (j : Int) ≤ C.r := by omega
                    have r3 : C.r < (j : Int) := by omega
                    have HV := hid ((wB_val href).trans H2.out)
                    clear href
                    cases B2
                    · go_wp2_with fail
                      refine (k3.out _).mono ?_
                      rintro e w3 ⟨rfl, rfl⟩
                      go_wp2_with fail
                      go_ret
                      refine ⟨ret_bool ?_, HBX.out.trans (HX.out.mono HBX.out.size)⟩
                      rw [HRR.out, HS.out (HM.out _ (by rw [HXB.out, HS2.out HV.out, Bool.and_false]))]
                    · go_wp2_with fail
                      refine (k3.out _).mono ?_
                      rintro e w3 ⟨rfl, rfl⟩
                      go_wp2_with fail
                      go_roundw
                      case rel => exact ⟨u + 1, by omega, by go_num, hid (HM2.out HV.out), HX⟩
                      case measure => simp [intOf]; omega
                  · have HV := hid (wB_ref href)
                    by_cases r1 : C.r < -1
                    · clear href
                      go_wp2_with fail
                      go_ret
                      refine ⟨ret_bool ?_, HBX.out.trans (HX.out.mono HBX.out.size)⟩
                      rw [HRR.out, HS.out (HM.out _ (by rw [HXB.out, HS2.out HV.out, Bool.and_false]))]
                    · have r2 : (j : Int) ≤ C.r := by omega
                      have r3 : ¬ C.r < (j : Int) := by omega
                      clear href
                      go_wp2_with fail
                      go_ret
                      refine ⟨ret_bool ?_, HBX.out.trans (HX.out.mono HBX.out.size)⟩
                      rw [HRR.out, HS.out (HM.out _ (by rw [HXB.out, HS2.out HV.out, Bool.and_false]))]
                · obtain rfl : u = wn := by omega
                  have HFu : Hid (ws.all (wB j) = true) := hid (by have := HGu.out; rw [← HE2.out, List.take_length] at this; exact this)
                  have HBX2 := hid (HBX.out.trans (HBu.out.mono HBX.out.size))
                  go_wp2_with fail
                  go_roundw
                  case rel => exact ⟨j + 1, by omega, by go_num, hid (HM.out _ (by rw [HXB.out, HF.out, HFu.out]; rfl)), HBX2⟩
                  case measure => simp [intOf]; omega
        · have HXB : Hid (xB j ⟨q, cs, ws⟩ = false) := hid (by
            simp only [xB, e1, e2, decide_eq_false hall, Bool.false_and])
          have HX := hid (fun o => HB.out.alloc HB.out.size o)
          have HCn := hid hall
          clear hall L1 L2 e1 e2 hl1 hl2 hcs hjl
          go_wp2_with fail
          all_goals
            first
            | (go_ret
               exact ⟨ret_bool (by rw [HRR.out, HS.out (HM.out _ HXB.out)]), HX.out _⟩)
            | (exfalso
               exact HCn.out ⟨by omega, by omega, by omega, by omega⟩)
      · obtain rfl : j = n := by omega
        go_wp2_with fail
        go_ret
        refine ⟨ret_bool ?_, HB.out⟩
        have := HG.out
        rw [← HN.out, List.take_length] at this
        rw [HRR.out, this]
  · have h' : 64 < (n : Int) := by omega
    have HF : Hid (R = false) := hid (by rw [HR.out, decide_eq_false h64]; rfl)
    clear HR HC
    go_enter Tryz.func10, Tryz.ntmps10
    go_wp2_with fail
    go_ret
    exact ⟨ret_bool HF.out.symm, Below.refl _ _⟩

end Go.Proofs.YtpbhcmfbcnihiaaGreat
