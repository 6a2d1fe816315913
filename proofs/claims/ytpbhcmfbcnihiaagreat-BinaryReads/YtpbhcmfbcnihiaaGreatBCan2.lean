/- Which executed programs may be: the program's. -/
import Derived.Test.YtpbhcmfbcnihiaaGreatBCan1
namespace Go.Proofs.YtpbhcmfbcnihiaaGreat
open Go.RowKit Num
set_option linter.unusedVariables false
set_option maxRecDepth 20000

theorem wB_ref {i : Int} {x : Wd} (h : ¬ (-1 ≤ x.r ∧ x.r ≤ i - 1)) : wB i x = false := by simp only [wB, decide_eq_false h, Bool.false_and]
theorem wB_val {i : Int} {x : Wd} (h : -1 ≤ x.r ∧ x.r ≤ i - 1) : wB i x = vB x.v := by simp only [wB, decide_eq_true h, Bool.true_and]

set_option maxHeartbeats 4000000 in
theorem maybe_any (x : Ex) (ca : Option Addr) (cn cc : Nat) (wa : Option Addr) (wn wc i : Nat) (N : Nat → Prop) (w : World) (hc : Lies 5 CpAt N w ca x.cs) (hcl : x.cs.length = cn) (hcn : cn ≤ 9223372036854775807) (hw : Lies 2 WdAt N w wa x.ws) (hwl : x.ws.length = wn) (hwn : wn ≤ 9223372036854775807) (hi : i ≤ 64) :
    Calls Tryz.prog 21 #[.agg #[.int .i64 x.n, .slice ca cn cc, .slice wa wn wc], .int .i64 i] w fun e w' => e = .returned (.bool (xB i x)) ∧ Below w.heap.size w w' := by
  obtain ⟨R, gR⟩ : ∃ R, R = xB i x := ⟨_, rfl⟩
  rw [← gR]
  unfold xB at gR
  obtain ⟨n, cs, ws⟩ := x
  dsimp only at *
  rw [hcl, hwl] at gR
  obtain ⟨A, gA⟩ : ∃ A, decide (0 ≤ n ∧ n ≤ 63) = A := ⟨_, rfl⟩
  have k1 := hid (fun w => within_is n 0 63 A w gA)
  have HR := hid gR
  have HA := hid gA
  have HC := hid hc
  have HCL := hid hcl
  have HW := hid hw
  have HWL := hid hwl
  clear gR gA hc hcl hw hwl
  by_cases hall : A = true ∧ cn ≤ 400 ∧ wn ≤ 6
  · obtain ⟨rfl, h4, h6⟩ := hall
    have hA := of_decide_eq_true HA.out
    have HRR : Hid (R = (cs.all (cB i) && ws.all (wB i))) := hid (by
      rw [HR.out, decide_eq_true ⟨hA.1, hA.2, h4, h6⟩]
      simp)
    have h4' : ¬ (400 < (cn : Int)) := by omega
    have h6' : ¬ (6 < (wn : Int)) := by omega
    clear HR hA
    go_enter Tryz.func21, Tryz.ntmps21
    go_wp2_with fail
    refine (k1.out _).mono ?_
    rintro e w1 ⟨rfl, rfl⟩
    go_wp2_with fail
    obtain ⟨X, gX⟩ : ∃ X, X = w.alloc (.cells #[.int .i64 n, .slice ca cn cc, .slice wa wn wc] 48) := ⟨_, rfl⟩
    rw [← gX]
    have hX : Below w.heap.size w X := by rw [gX]; exact below_box _ _
    have hXs : w.heap.size < X.heap.size := by rw [gX]; simp
    have x2 : X.cell? ⟨w.heap.size, 2, none⟩ = some (.slice wa wn wc) := by rw [gX]; simp
    replace HC := hid (HC.out.keep (fun _ _ _ h => CpAt.keep (Keep.below hX) h) (Keep.below hX))
    replace HW := hid (HW.out.keep (fun _ _ _ h => WdAt.keep (Keep.below hX) h) (Keep.below hX))
    have HXB := hid hX
    clear gX hX
    go_loopw [28] (fun k wr => ∃ j : Nat, j ≤ cn ∧ k = .int .i64 j ∧ Hid ((cs.take j).all (cB i) = true) ∧ Hid (Below X.heap.size X wr)) (fun k _ => cn - (intOf k).toNat)
    case atStart => exact ⟨0, Nat.zero_le _, rfl, hid rfl, hid (Below.refl _ _)⟩
    case round =>
      obtain ⟨j, hj, rfl, HG, HB⟩ := hrel
      by_cases hlt : j < cn
      · have hjl : j < cs.length := by rw [HCL.out]; exact hlt
        obtain ⟨b, o, rfl, _, hbl, hcs⟩ := HC.out.keep (fun _ _ _ h => CpAt.keep (Keep.below HB.out) h) (Keep.below HB.out) (by omega)
        obtain ⟨⟨_, _, c0⟩, ⟨_, _, c1⟩, ⟨_, _, c2⟩, ⟨_, _, c3⟩, ⟨_, _, ba, bn, bc, c4, hsrc, _, hbc1, hbc2⟩⟩ := hcs j hjl
        have HM := hid (all_more (cB i) cs j hjl HG.out)
        have HS := hid (all_stop (cB i) cs j hjl)
        generalize cs[j] = C at c0 c1 c2 c3 hsrc HM HS
        have k2 := hid (fun w => copymay_any C.a C.r C.s C.v ba bn bc i C.bs w hsrc.1 hi (by omega))
        have hsz := HB.out.size
        have HX := hid (HB.out.alloc HB.out.size (.cells #[.int .i64 C.a, .int .i64 C.r, .int .i64 C.s, .int .i64 C.v, .slice ba bn bc] 50))
        generalize hB1 : cB i ⟨C.a, C.r, C.s, C.v, C.bs⟩ = B1 at k2
        have HB1 : Hid (cB i C = B1) := hid hB1
        clear hB1 hcs hsrc hjl
        go_wp2_with fail
        refine (k2.out _).mono ?_
        rintro e w2 ⟨rfl, hb2⟩
        have HX2 := hid (HX.out.trans (hb2.mono HX.out.size))
        clear hb2
        cases B1
        · go_wp2_with fail
          go_ret
          refine ⟨ret_bool ?_, HXB.out.trans (HX2.out.mono HXB.out.size)⟩
          rw [HRR.out, HS.out HB1.out]
          rfl
        · go_wp2_with fail
          go_roundw
          case rel => exact ⟨j + 1, by omega, by go_num, hid (HM.out HB1.out), HX2⟩
          case measure => simp [intOf]; omega
      · obtain rfl : j = cn := by omega
        have HF : Hid (cs.all (cB i) = true) := hid (by have := HG.out; rw [← HCL.out, List.take_length] at this; exact this)
        have hz := HB.out.size
        have y2 := (HB.out.cell (p := ⟨w.heap.size, 2, none⟩) hXs).trans x2
        replace HW := hid (HW.out.keep (fun _ _ _ h => WdAt.keep (Keep.below HB.out) h) (Keep.below HB.out))
        replace HXB := hid (HXB.out.trans (HB.out.mono HXB.out.size))
        clear HG HB HC x2
        go_wp2_with fail
        rename World => X2
        go_loopw [40] (fun k wr => ∃ t : Nat, t ≤ wn ∧ k = .int .i64 t ∧ Hid ((ws.take t).all (wB i) = true) ∧ Hid (Below X2.heap.size X2 wr)) (fun k _ => wn - (intOf k).toNat)
        case atStart => exact ⟨0, Nat.zero_le _, rfl, hid rfl, hid (Below.refl _ _)⟩
        case round =>
          obtain ⟨t, ht, rfl, HG, HB⟩ := hrel
          by_cases hlt2 : t < wn
          · have hjl : t < ws.length := by rw [HWL.out]; exact hlt2
            obtain ⟨b, o, rfl, _, hbl, hcs⟩ := HW.out.keep (fun _ _ _ h => WdAt.keep (Keep.below HB.out) h) (Keep.below HB.out) (by omega)
            obtain ⟨⟨_, _, c0⟩, ⟨_, _, c1⟩⟩ := hcs t hjl
            have HM := hid (all_more (wB i) ws t hjl HG.out)
            have HS := hid (all_stop (wB i) ws t hjl)
            generalize ws[t] = C at c0 c1 HM HS
            obtain ⟨B1, g1⟩ : ∃ B, decide (-1 ≤ C.r ∧ C.r ≤ (i : Int) - 1) = B := ⟨_, rfl⟩
            obtain ⟨B2, g2⟩ : ∃ B, vB C.v = B := ⟨_, rfl⟩
            have k2 := hid (fun w => within_is C.r (-1) ((i : Int) - 1) B1 w g1)
            have k3 := hid (fun w => isvalue_is C.v B2 w g2)
            have H1 := hid g1
            have H2 := hid g2
            have hsz := HB.out.size
            have HX := hid (HB.out.alloc HB.out.size (.cells #[.int .i64 C.r, .int .i64 C.v] 53))
            clear g1 g2 hcs hjl
            cases B1
            · go_wp2_with fail
              refine (k2.out _).mono ?_
              rintro e w2 ⟨rfl, rfl⟩
              go_wp2_with fail
              go_ret
              refine ⟨ret_bool ?_, HXB.out.trans (HX.out.mono HXB.out.size)⟩
              rw [HRR.out, HS.out (wB_ref (of_decide_eq_false H1.out)), Bool.and_false]
            cases B2
            · go_wp2_with fail
              refine (k2.out _).mono ?_
              rintro e w2 ⟨rfl, rfl⟩
              go_wp2_with fail
              refine (k3.out _).mono ?_
              rintro e w3 ⟨rfl, rfl⟩
              go_wp2_with fail
              go_ret
              refine ⟨ret_bool ?_, HXB.out.trans (HX.out.mono HXB.out.size)⟩
              rw [HRR.out, HS.out ((wB_val (of_decide_eq_true H1.out)).trans H2.out), Bool.and_false]
            · go_wp2_with fail
              refine (k2.out _).mono ?_
              rintro e w2 ⟨rfl, rfl⟩
              go_wp2_with fail
              refine (k3.out _).mono ?_
              rintro e w3 ⟨rfl, rfl⟩
              go_wp2_with fail
              go_roundw
              case rel => exact ⟨t + 1, by omega, by go_num, hid (HM.out ((wB_val (of_decide_eq_true H1.out)).trans H2.out)), HX⟩
              case measure => simp [intOf]; omega
          · obtain rfl : t = wn := by omega
            go_wp2_with fail
            go_ret
            refine ⟨ret_bool ?_, HXB.out.trans (HB.out.mono HXB.out.size)⟩
            have := HG.out
            rw [← HWL.out, List.take_length] at this
            rw [HRR.out, HF.out, this]
            rfl
  · have HF : Hid (R = false) := hid (by
      rw [HR.out, decide_eq_false (fun h => hall ⟨by rw [← HA.out, decide_eq_true ⟨h.1, h.2.1⟩], h.2.2⟩)]
      simp)
    clear HR HC HW HA
    cases A
    · go_enter Tryz.func21, Tryz.ntmps21
      go_wp2_with fail
      refine (k1.out _).mono ?_
      rintro e w1 ⟨rfl, rfl⟩
      go_wp2_with fail
      go_ret
      exact ⟨ret_bool HF.out.symm, below_box _ _⟩
    · by_cases h4 : cn ≤ 400
      · have h4' : ¬ (400 < (cn : Int)) := by omega
        have h6' : 6 < (wn : Int) := by
          have : ¬ wn ≤ 6 := fun h => hall ⟨rfl, h4, h⟩
          omega
        clear hall
        go_enter Tryz.func21, Tryz.ntmps21
        go_wp2_with fail
        refine (k1.out _).mono ?_
        rintro e w1 ⟨rfl, rfl⟩
        go_wp2_with fail
        go_ret
        exact ⟨ret_bool HF.out.symm, below_box _ _⟩
      · have h4' : 400 < (cn : Int) := by omega
        clear hall
        go_enter Tryz.func21, Tryz.ntmps21
        go_wp2_with fail
        refine (k1.out _).mono ?_
        rintro e w1 ⟨rfl, rfl⟩
        go_wp2_with fail
        go_ret
        exact ⟨ret_bool HF.out.symm, below_box _ _⟩

set_option maxHeartbeats 4000000 in
theorem can_any (a : Option Addr) (n c : Nat) (l : List Ex) (N : Nat → Prop) (w : World) (h : Lies 3 ExAt N w a l) (hn : l.length = n) (hm : n ≤ 9223372036854775807) :
    Calls Tryz.prog 9 #[.slice a n c] w fun e w' => e = .returned (.bool (pB l)) ∧ Below w.heap.size w w' := by
  obtain ⟨R, gR⟩ : ∃ R, R = pB l := ⟨_, rfl⟩
  rw [← gR]
  unfold pB at gR
  rw [hn] at gR
  have HR := hid gR
  have HC := hid h
  have HN := hid hn
  clear gR h hn
  by_cases h64 : n ≤ 64
  · have h' : ¬ (64 < (n : Int)) := by omega
    have HRR : Hid (R = pBL 0 l) := hid (by rw [HR.out, decide_eq_true h64]; rfl)
    clear HR
    go_enter Tryz.func9, Tryz.ntmps9
    go_wp2_with fail
    go_loopw [10] (fun k wr => ∃ j : Nat, j ≤ n ∧ k = .int .i64 j ∧ Hid (pBL 0 (l.take j) = true) ∧ Hid (Below w.heap.size w wr)) (fun k _ => n - (intOf k).toNat)
    case atStart => exact ⟨0, Nat.zero_le _, rfl, hid rfl, hid (Below.refl _ _)⟩
    case round =>
      obtain ⟨j, hj, rfl, HG, HB⟩ := hrel
      by_cases hlt : j < n
      · have hjl : j < l.length := by rw [HN.out]; exact hlt
        obtain ⟨b, o, rfl, _, hbl, hcs⟩ := HC.out.keep (fun _ _ _ h => ExAt.keep (Keep.below HB.out) h) (Keep.below HB.out) (by omega)
        obtain ⟨⟨_, _, c0⟩, hl1, hl2⟩ := hcs j hjl
        obtain ⟨ca, cn, cc, c1, e1, m1, m1', L1⟩ := hl1.lies
        obtain ⟨wa, wn, wc, c2, e2, m2, m2', L2⟩ := hl2.lies
        have HM := hid (pBL_more l j hjl HG.out)
        have HS := hid (pBL_stop l j hjl)
        generalize l[j] = C at c0 e1 L1 e2 L2 HM
        have hsz := HB.out.size
        have k2 := hid (fun o' => maybe_any C ca cn cc wa wn wc j N (wr.alloc o') (L1.keep (fun _ _ _ h => CpAt.keep (Keep.below (below_box wr o')) h) (Keep.below (below_box wr o'))) e1 (by omega) (L2.keep (fun _ _ _ h => WdAt.keep (Keep.below (below_box wr o')) h) (Keep.below (below_box wr o'))) e2 (by omega) (by omega))
        have HX := hid (HB.out.alloc HB.out.size (.cells #[.int .i64 C.n, .slice ca cn cc, .slice wa wn wc] 48))
        generalize hB1 : xB j C = B1 at k2 HM
        clear hB1 hcs hjl hl1 hl2 L1 L2
        go_wp2_with fail
        refine (k2.out _).mono ?_
        rintro e w2 ⟨rfl, hb2⟩
        have HX2 := hid (HX.out.trans (hb2.mono HX.out.size))
        clear hb2
        cases B1
        · go_wp2_with fail
          go_ret
          refine ⟨ret_bool ?_, HX2.out⟩
          rw [HRR.out, HS.out (HM.out _ rfl)]
        · go_wp2_with fail
          go_roundw
          case rel => exact ⟨j + 1, by omega, by go_num, hid (HM.out _ rfl), HX2⟩
          case measure => simp [intOf]; omega
      · obtain rfl : j = n := by omega
        go_wp2_with fail
        go_ret
        refine ⟨ret_bool ?_, HB.out⟩
        have := HG.out
        rw [← HN.out, List.take_length] at this
        rw [HRR.out, this]
  · have h' : 64 < (n : Int) := by omega
    have HF : Hid (R = false) := hid (by rw [HR.out, decide_eq_false h64]; rfl)
    clear HR HC
    go_enter Tryz.func9, Tryz.ntmps9
    go_wp2_with fail
    go_ret
    exact ⟨ret_bool HF.out.symm, Below.refl _ _⟩

end Go.Proofs.YtpbhcmfbcnihiaaGreat
