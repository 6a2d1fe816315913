/- Texts of this seat, merged. -/
import Derived.Test.YtbglhmcahnkbfaaGreatHMg43
import Derived.Test.YtbglhmcahnkbfaaGreatHMg40
import Derived.Test.YtbglhmcahnkbfaaGreatHMg45
import Derived.Test.YtbglhmcahnkbfaaGreatHMg42
import Derived.Test.YtbglhmcahnkbfaaGreatHMg25
import Derived.Test.YtbglhmcahnkbfaaGreatHMg31

/- The document's processes: Fork. -/
namespace Go.Proofs.YtbglhmcahnkbfaaGreat
open Go.RowKit Go.ChangeMaps Go.MapKept
set_option linter.unusedVariables false
set_option maxRecDepth 20000

section
variable {w0 w w' : World} {y x L : Nat} {g : Gt} {D : Nat → Prop}
set_option maxHeartbeats 8000000 in
theorem r9fork_any (h : YpTo w0 y x L g D w) (H0 : GOk g) (n : Int) :
    Calls Tryz.prog 27 #[.pointer (some ⟨y, 0, none⟩), .int .i64 n] w fun e w' => e = .returned (.tuple #[.int .i64 (g.fork n).2.1, .int .i64 (g.fork n).2.2]) ∧ YpTo w0 y x L (g.fork n).1 D w' := by
  have H := hid h
  cases hr : g.runs n
  · rw [show g.fork n = (g, 0, 3) by unfold Gt.fork; rw [if_pos hr]]
    have k1 := hid (r9runs_any h.1 n false hr.symm)
    clear h hr H0
    go_enter Tryz.func27, Tryz.ntmps27
    go_wp2_with fail
    refine k1.out.mono ?_
    rintro e w1 ⟨rfl, hw⟩
    subst w1
    go_wp2_with fail
    go_ret2
    exact ⟨rfl, H.out⟩
  have k1 := hid (r9runs_any h.1 n true hr.symm)
  obtain ⟨q, rfl, h1, h4, hs⟩ := qrn_lt hr
  have hE0 : frQ g.Q = 0 → g.fork (q : Int) = (g, 0, 11) := fun e => by
    unfold Gt.fork; rw [if_neg (by rw [hr]; decide), frQ_free, if_pos e]
  obtain ⟨F, gF⟩ : ∃ F, F = (g.Q q).fd := ⟨_, rfl⟩
  have hE1 : ∀ j, 1 ≤ j → frQ g.Q = j → g.fork (q : Int) = (⟨updG g.Q j ⟨1, (q : Int), 0, F⟩, if dfc g.T.F.d 16 = true then g.T else Gt.holdAll g.T F 6⟩, (j : Int), 0) := fun j h1 e => by
    unfold Gt.fork; rw [if_neg (by rw [hr]; decide), frQ_free, e, if_neg (by omega), Int.toNat_natCast, ← gF]
  have HE0 := hid hE0
  have HE1 := hid hE1
  have GF := hid gF
  have HT := hid H0.T
  have b3 : (0 : Int) ≤ q := by omega
  have b4 : (q : Int) < 5 := by omega
  have HS := hid hs
  clear h hr hs hE0 hE1 gF H0
  go_enter Tryz.func27, Tryz.ntmps27
  go_wp2_with fail
  refine k1.out.mono ?_
  rintro e w1 ⟨rfl, hw⟩
  subst w1
  clear k1
  go_wp2_with fail
  go_loopw [6] (fun s wr => ∃ j : Nat, 1 ≤ j ∧ j ≤ 5 ∧ s = .int .i64 (j : Int) ∧ Hid (∀ i, 1 ≤ i → i < j → (g.Q i).st ≠ 0) ∧ Hid (YpTo w0 y x L g D wr)) (fun s _ => 5 - (intOf s).toNat)
  case atStart => exact ⟨1, by omega, by omega, rfl, hid (fun i h1 h2 => by omega), H⟩
  case round =>
    clear H
    obtain ⟨c, c1, c5, rfl, HP, HR⟩ := hrel
    by_cases e5 : c = 5
    · have HE := hid (HE0.out (frQ_none (fun i a b => HP.out i a (by omega))))
      subst e5
      clear HP HE0 HE1
      go_wp2_with fail
      go_ret2
      exact ⟨by rw [HE.out]; rfl, by rw [HE.out]; exact HR.out⟩
    · have hc : c < 5 := by omega
      have a3 : (0 : Int) ≤ c := by omega
      have a4 : (c : Int) < 5 := by omega
      have a5 : (c : Int) ≤ 4 := by omega
      have cl := HR.out.1.cl
      have y2 := HR.out.tl.st c hc
      by_cases hz : (g.Q c).st = 0
      · have HE := hid (HE1.out c c1 (frQ_pre (by omega) HP.out c1 hz))
        have hcq : c ≠ q := fun e => by rw [e, HS.out] at hz; exact absurd hz (by decide)
        have t := HR.out.tl
        have z0 := t.z q (by omega) 0 (by omega)
        have z1 := t.z q (by omega) 1 (by omega)
        have z2 := t.z q (by omega) 2 (by omega)
        have z3 := t.z q (by omega) 3 (by omega)
        have z4 := t.z q (by omega) 4 (by omega)
        have z5 := t.z q (by omega) 5 (by omega)
        have y0 := t.nm c (by omega)
        have y1 := t.pa c (by omega)
        have y3 := t.co c (by omega)
        have y4 := t.z c (by omega) 0 (by omega)
        have y5 := t.z c (by omega) 1 (by omega)
        have y6 := t.z c (by omega) 2 (by omega)
        have y7 := t.z c (by omega) 3 (by omega)
        have y8 := t.z c (by omega) 4 (by omega)
        have y9 := t.z c (by omega) 5 (by omega)
        have v0 := t.fz (c * 10)
        have v1 := t.fz (c * 10 + 1)
        have v2 := t.fz (c * 10 + 2)
        have v3 := t.fz (c * 10 + 3)
        have v4 := t.fz (c * 10 + 4)
        have v5 := t.fz (c * 10 + 5)
        have v6 := t.fz (c * 10 + 6)
        have v7 := t.fz (c * 10 + 7)
        have v8 := t.fz (c * 10 + 8)
        have v9 := t.fz (c * 10 + 9)
        rw [Nat.add_zero] at z0 y4
        rw [← GF.out] at z0 z1 z2 z3 z4 z5
        rw [hz] at y2
        have hnm : nmD c (⟨1, (q : Int), 0, F⟩ : Gp) = (c : Int) := by unfold nmD; rw [if_neg (show ¬ (1 : Int) = 0 by decide)]
        obtain ⟨g1, gg1⟩ : ∃ g1 : Gt, g1 = { g with Q := updG g.Q c ⟨1, (q : Int), 0, F⟩ } := ⟨_, rfl⟩
        have hA : YpTo w0 y x L g1 D (wr.setCells L (c * 10) (gpD c ⟨1, (q : Int), 0, F⟩)).drew := by
          rw [gg1]
          exact (HR.out.put (t.put c (by omega) _) (upd_setCells L _ _ _)).drew
        have hT1 : g1.T = g.T := by rw [gg1]
        have hQ1 : (g1.Q c).fd = F := by rw [gg1]; show (updG g.Q c _ c).fd = _; rw [updG_same]
        have HFin : Hid ((⟨updG g.Q c ⟨1, (q : Int), 0, F⟩, if dfc g.T.F.d 16 = true then g.T else Gt.holdAll g.T F 6⟩ : Gt) = { g1 with T := if dfc g1.T.F.d 16 = true then g1.T else Gt.holdAll g1.T F 6 }) := hid (by rw [gg1])
        rw [HFin.out] at HE
        have HA := hid hA
        have HF1 := hid hQ1
        have HTk : Hid (TOk g1.T) := hid (by rw [hT1]; exact HT.out)
        have HNM := hid hnm
        clear HR HP HE0 HE1 hA hT1 hQ1 gg1 t hz HFin hnm hcq
        generalize nmD c (g.Q c) = s0 at y0
        generalize (g.Q c).pa = s1 at y1
        generalize (g.Q c).co = s3 at y3
        generalize (g.Q c).fd 0 = s4 at y4
        generalize (g.Q c).fd 1 = s5 at y5
        generalize (g.Q c).fd 2 = s6 at y6
        generalize (g.Q c).fd 3 = s7 at y7
        generalize (g.Q c).fd 4 = s8 at y8
        generalize (g.Q c).fd 5 = s9 at y9
        go_wp2_with fail
        go_region
        obtain ⟨W2, g2⟩ : ∃ W2, W2 = ((((((((((wr.setCell ⟨L, c * 10, none⟩ (.int .i64 (c : Int))).setCell ⟨L, c * 10 + 1, none⟩ (.int .i64 (q : Int))).setCell ⟨L, c * 10 + 2, none⟩ (.int .i64 1)).setCell ⟨L, c * 10 + 3, none⟩ (.int .i64 0)).setCell ⟨L, c * 10 + 4, none⟩ (.int .i64 (F 0))).setCell ⟨L, c * 10 + 5, none⟩ (.int .i64 (F 1))).setCell ⟨L, c * 10 + 6, none⟩ (.int .i64 (F 2))).setCell ⟨L, c * 10 + 7, none⟩ (.int .i64 (F 3))).setCell ⟨L, c * 10 + 8, none⟩ (.int .i64 (F 4))).setCell ⟨L, c * 10 + 9, none⟩ (.int .i64 (F 5))).drew := ⟨_, rfl⟩
        have e2 : W2 = (wr.setCells L (c * 10) (gpD c ⟨1, (q : Int), 0, F⟩)).drew := by
          have e3 : gpD c (⟨1, (q : Int), 0, F⟩ : Gp) = [.int .i64 (c : Int), .int .i64 (q : Int), .int .i64 1, .int .i64 0, .int .i64 (F 0), .int .i64 (F 1), .int .i64 (F 2), .int .i64 (F 3), .int .i64 (F 4), .int .i64 (F 5)] := by
            unfold gpD
            rw [HNM.out]
          rw [e3]
          exact g2
        rw [← g2]
        have ha := HA.out
        rw [← e2] at ha
        have HA2 := hid ha
        clear HA ha e2 g2 z0 z1 z2 z3 z4 z5 y0 y1 y2 y3 y4 y5 y6 y7 y8 y9 v0 v1 v2 v3 v4 v5 v6 v7 v8 v9 cl HNM
        have cl := HA2.out.1.cl
        have HRg : Hid (W2.rangeAt L (c * 10 + 4) (fdV F)) := by
          have := HA2.out.tl.fds c (by omega)
          rw [HF1.out] at this
          exact hid this
        obtain ⟨V, gV⟩ : ∃ V, V = fdV F := ⟨_, rfl⟩
        have HSZ : Hid ((Tryz.prog.info? 40).map (·.size) = some V.length) := by rw [gV]; exact hid csizeF6
        have HIX : Hid (∀ j : Nat, j < 6 → ∀ W : World, (Instr.index 40 (.agg V.toArray) (.int .i64 (j : Int))).run Tryz.prog W = .ok (.int .i64 (F j)) W) := by rw [gV]; exact hid (fun j hj W => ixF6 F j hj W)
        rw [← gV] at HRg
        clear gV
        obtain ⟨Tk, gTk⟩ : ∃ Tk : Nat → Ft, Tk = fun k => if dfc g1.T.F.d 16 = true then g1.T else Gt.holdAll g1.T F k := ⟨_, rfl⟩
        have HA3 : Hid (YpTo w0 y x L { g1 with T := Tk 0 } D W2) := hid (by
          have e : Tk 0 = g1.T := by rw [gTk]; show (if _ then _ else _) = _; split <;> rfl
          rw [e]; exact HA2.out)
        have HEn : Hid (g.fork (q : Int) = ({ g1 with T := Tk 6 }, (c : Int), 0)) := hid (by rw [HE.out, gTk])
        have HK0 : Hid (∀ k, F k = 0 ∨ dfc g1.T.F.d 16 = true → Tk (k + 1) = Tk k) := hid (fun k hk => by
          rw [gTk]
          show (if dfc g1.T.F.d 16 = true then g1.T else Gt.holdAll g1.T F (k + 1)) = if dfc g1.T.F.d 16 = true then g1.T else Gt.holdAll g1.T F k
          rcases hk with hk | hk
          · rw [show Gt.holdAll g1.T F (k + 1) = Gt.holdAll g1.T F k from if_pos hk]
          · rw [if_pos hk, if_pos hk])
        have HK1 : Hid (∀ k, F k ≠ 0 → dfc g1.T.F.d 16 = false → Tk (k + 1) = ((Tk k).hold (F k)).1) := hid (fun k hk hd => by
          rw [gTk]
          show (if dfc g1.T.F.d 16 = true then g1.T else Gt.holdAll g1.T F (k + 1)) = ((if dfc g1.T.F.d 16 = true then g1.T else Gt.holdAll g1.T F k).hold (F k)).1
          rw [hd, if_neg (by decide), if_neg (by decide)]
          exact if_neg hk)
        have HKo : Hid (∀ k, TOk (Tk k)) := hid (fun k => by
          rw [gTk]
          show TOk (if dfc g1.T.F.d 16 = true then g1.T else Gt.holdAll g1.T F k)
          split
          · exact HTk.out
          · exact holdAll_ok HTk.out F k)
        have HKd : Hid (∀ k, (Tk k).F.d = g1.T.F.d) := hid (fun k => by
          rw [gTk]
          show (if dfc g1.T.F.d 16 = true then g1.T else Gt.holdAll g1.T F k).F.d = _
          split
          · rfl
          · induction k with
            | zero => rfl
            | succ k ih =>
              show (if F k = 0 then Gt.holdAll g1.T F k else ((Gt.holdAll g1.T F k).hold (F k)).1).F.d = _
              split
              · exact ih
              · rw [fthold_d]; exact ih)
        clear HE HA2 gTk HTk HF1
        go_wp2_with (refine wpList_load_mid rfl 40 (.tmp 49) rfl L (c * 10 + 4) rfl V _ HRg.out Tryz.underlying40 rfl HSZ.out ?_)
        go_loopw [51] (fun s wr => ∃ j : Nat, j ≤ 6 ∧ s = .int .i64 (j : Int) ∧ Hid (YpTo w0 y x L { g1 with T := Tk j } D wr)) (fun s _ => 6 - (intOf s).toNat)
        case atStart => exact ⟨0, by omega, rfl, HA3⟩
        case round =>
          clear HA3 HRg
          obtain ⟨j, hj6, rfl, HR⟩ := hrel
          by_cases e6 : j = 6
          · subst e6
            go_wp2_with fail
            go_ret2
            exact ⟨by rw [HEn.out]; rfl, by rw [HEn.out]; exact HR.out⟩
          · have hj : j < 6 := by omega
            have d3 : (0 : Int) ≤ j := by omega
            have d4 : (j : Int) < 6 := by omega
            have hix := HIX.out j hj
            have cx := HR.out.1.cx
            have cd := HR.out.1.cd
            rw [show ({ g1 with T := Tk j } : Gt).T.F.d = g1.T.F.d from HKd.out j] at cd
            by_cases ez : F j = 0
            · have HR2 : Hid (YpTo w0 y x L { g1 with T := Tk (j + 1) } D _) := hid (by rw [HK0.out j (.inl ez)]; exact HR.out)
              rw [ez] at hix
              clear HR ez cd
              go_wp2_with fail
              go_roundw
              case rel => exact ⟨j + 1, by omega, by go_num, HR2⟩
              case measure => simp [intOf]; omega
            · cases hd : dfc g1.T.F.d 16
              · obtain ⟨hb1, hb2⟩ := ddfc_f hd
                have k4 := hid (HR.out.hold (HKo.out j) (F j))
                have HE2 := hid (HK1.out j ez hd)
                clear HR hd
                generalize F j = v at hix ez k4 HE2
                go_wp2_with fail
                refine k4.out.mono ?_
                rintro e w4 ⟨rfl, h4⟩
                have HR2 : Hid (YpTo w0 y x L { g1 with T := Tk (j + 1) } D w4) := hid (by rw [HE2.out]; exact h4)
                clear h4 k4 HE2
                go_wp2_with fail
                go_roundw
                case rel => exact ⟨j + 1, by omega, by go_num, HR2⟩
                case measure => simp [intOf]; omega
              · obtain ⟨hb1, hb2⟩ := ddfc_t hd
                have HR2 : Hid (YpTo w0 y x L { g1 with T := Tk (j + 1) } D _) := hid (by rw [HK0.out j (.inr hd)]; exact HR.out)
                clear HR hd
                generalize F j = v at hix ez
                go_wp2_with fail
                go_roundw
                case rel => exact ⟨j + 1, by omega, by go_num, HR2⟩
                case measure => simp [intOf]; omega
      · have HP' : Hid (∀ i, 1 ≤ i → i < c + 1 → (g.Q i).st ≠ 0) := hid (fun i a b => by
          by_cases e : i = c
          · rw [e]; exact hz
          · exact HP.out i a (by omega))
        clear HP HE0 HE1
        generalize (g.Q c).st = s at y2 hz
        go_wp2_with fail
        go_roundw
        case rel => exact ⟨c + 1, by omega, by omega, by go_num, HP', HR⟩
        case measure => simp [intOf]; omega
end

end Go.Proofs.YtbglhmcahnkbfaaGreat

/- The document's processes: Wait. -/
namespace Go.Proofs.YtbglhmcahnkbfaaGreat
open Go.RowKit Go.ChangeMaps Go.MapKept
set_option linter.unusedVariables false
set_option maxRecDepth 20000

section
variable {w0 w w' : World} {y x L : Nat} {g : Gt} {D : Nat → Prop}
set_option maxHeartbeats 8000000 in
theorem r9wait_any (h : YpTo w0 y x L g D w) (H0 : GOk g) (n : Int) :
    Calls Tryz.prog 30 #[.pointer (some ⟨y, 0, none⟩), .int .i64 n] w fun e w' => e = .returned (.tuple #[.int .i64 (g.wait n).2.1, .int .i64 (g.wait n).2.2.1, .bool (g.wait n).2.2.2.1, .int .i64 (g.wait n).2.2.2.2]) ∧ YpTo w0 y x L (g.wait n).1 D w' := by
  have H := hid h
  cases hr : g.runs n
  · rw [show g.wait n = (g, 0, 0, false, 3) by unfold Gt.wait; rw [if_pos hr]]
    have k1 := hid (r9runs_any h.1 n false hr.symm)
    clear h hr H0
    go_enter Tryz.func30, Tryz.ntmps30
    go_wp2_with fail
    refine k1.out.mono ?_
    rintro e w1 ⟨rfl, hw⟩
    subst w1
    go_wp2_with fail
    (try simp only [Exit.inBlock, Exit.then])
    refine bodyPost_ret (four_results rfl _ _ _) rfl ?_
    exact ⟨rfl, H.out⟩
  have HRun := hid hr
  have k1 := hid (r9runs_any h.1 n true hr.symm)
  obtain ⟨q, rfl, h1, h4, hs⟩ := qrn_lt hr
  have HOv : Hid (∀ i, g.over (q : Int) i = decide ((g.Q i).st = 2 ∧ (g.Q i).pa = (q : Int))) := hid (fun i => rfl)
  have HCh : Hid (∀ i, g.child (q : Int) i = decide ((g.Q i).st ≠ 0 ∧ (g.Q i).pa = (q : Int))) := hid (fun i => rfl)
  obtain ⟨N, gN⟩ : ∃ N, N = zer10 := ⟨_, rfl⟩
  have HSZ : Hid ((Tryz.prog.info? 42).map (·.size) = some N.toArray.size) := by rw [gN]; exact hid csizePi
  have HBU : Hid (Tryz.prog.built 42 [] = some N.toArray) := by rw [gN]; exact hid builtPi
  have HO1 : Hid (N.toArray.all (·.oneCell') = true) := by rw [gN]; exact hid (by simp [zer10, Value.oneCell'])
  have HT2 : Hid (10 = N.toArray.size) := by rw [gN]; exact hid rfl
  have GN : Hid (∀ j, gpD j noGp = N) := hid (fun j => by rw [gN, gpD_no])
  clear h hr hs H0 gN
  go_enter Tryz.func30, Tryz.ntmps30
  go_wp2_with fail
  refine k1.out.mono ?_
  rintro e w1 ⟨rfl, hw1⟩
  subst w1
  clear k1
  go_wp2_with fail
  go_loopw [8, 9] (fun ch k wr => ∃ (j : Nat) (b : Bool), 1 ≤ j ∧ j ≤ 5 ∧ k = .int .i64 (j : Int) ∧ ch = .bool b ∧ Hid ((∀ i, 1 ≤ i → i < j → g.over (q : Int) i = false) ∧ (b = true ↔ ∃ i, 1 ≤ i ∧ i < j ∧ g.child (q : Int) i = true)) ∧ Hid (YpTo w0 y x L g D wr)) (fun _ k _ => 5 - (intOf k).toNat)
  case atStart => exact ⟨1, false, by omega, by omega, rfl, rfl, hid ⟨fun i h1 h2 => by omega, fun h => absurd h (by decide), fun ⟨i, h1, h2, _⟩ => by omega⟩, H⟩
  case round =>
    clear H
    obtain ⟨j, b, j1, hj5, rfl, rfl, HI, HR⟩ := hrel
    by_cases e5 : j = 5
    · subst e5
      have HW := hid (wait_none HRun.out HI.out.1 HI.out.2)
      cases b
      · have HW : Hid (g.wait (q : Int) = (g, 0, 0, false, 10)) := HW
        clear HI HOv HCh
        go_wp2_with fail
        (try simp only [Exit.inBlock, Exit.then])
        refine bodyPost_ret (four_results rfl _ _ _) rfl ?_
        exact ⟨by rw [HW.out]; rfl, by rw [HW.out]; exact HR.out⟩
      · have HW : Hid (g.wait (q : Int) = (g, 0, 0, true, 0)) := HW
        clear HI HOv HCh
        go_wp2_with fail
        (try simp only [Exit.inBlock, Exit.then])
        refine bodyPost_ret (four_results rfl _ _ _) rfl ?_
        exact ⟨by rw [HW.out]; rfl, by rw [HW.out]; exact HR.out⟩
    · have hj : j < 5 := by omega
      have c3 : (0 : Int) ≤ j := by omega
      have c4 : (j : Int) < 5 := by omega
      have c5 : (j : Int) ≤ 4 := by omega
      have t := HR.out.tl
      have cl := HR.out.1.cl
      have y0 := t.nm j hj
      have y1 := t.pa j hj
      have y2 := t.st j hj
      have y3 := t.co j hj
      have y4 := t.z j hj 0 (by omega)
      have y5 := t.z j hj 1 (by omega)
      have y6 := t.z j hj 2 (by omega)
      have y7 := t.z j hj 3 (by omega)
      have y8 := t.z j hj 4 (by omega)
      have y9 := t.z j hj 5 (by omega)
      rw [Nat.add_zero] at y4
      generalize nmD j (g.Q j) = x0 at y0
      generalize (g.Q j).fd 0 = x4 at y4
      generalize (g.Q j).fd 1 = x5 at y5
      generalize (g.Q j).fd 2 = x6 at y6
      generalize (g.Q j).fd 3 = x7 at y7
      generalize (g.Q j).fd 4 = x8 at y8
      generalize (g.Q j).fd 5 = x9 at y9
      have hov := HOv.out j
      have hch := HCh.out j
      have HI3 : Hid (g.child (q : Int) j = false → ((∀ i, 1 ≤ i → i < j + 1 → g.over (q : Int) i = false) ∧ (b = true ↔ ∃ i, 1 ≤ i ∧ i < j + 1 ∧ g.child (q : Int) i = true))) := by
        refine hid (fun hc => ⟨fun i a c => ?_, fun hb => ?_, fun ⟨i, a, c, d⟩ => ?_⟩)
        · by_cases e : i = j
          · subst e
            rw [hch] at hc
            have hn := of_decide_eq_false hc
            rw [hov]; exact decide_eq_false (fun h => hn ⟨by rw [h.1]; decide, h.2⟩)
          · exact HI.out.1 i a (by omega)
        · obtain ⟨i, a, c, d⟩ := HI.out.2.1 hb
          exact ⟨i, a, by omega, d⟩
        · refine HI.out.2.2 ⟨i, a, ?_, d⟩
          by_cases e : i = j
          · subst e; rw [hc] at d; exact absurd d (by decide)
          · omega
      have HR2 : Hid (∀ v1 v2 v3 : Int, YpTo w0 y x L g D (wr.alloc (.cells #[.int .i64 x0, .int .i64 v1, .int .i64 v2, .int .i64 v3, .int .i64 x4, .int .i64 x5, .int .i64 x6, .int .i64 x7, .int .i64 x8, .int .i64 x9] 42))) := hid (fun _ _ _ => HR.out.grow (one_new wr _))
      by_cases e0 : (g.Q j).st = 0
      · have HI2 := hid (HI3.out (by rw [hch]; exact decide_eq_false (fun h => h.1 e0)))
        rw [e0] at y2
        clear HI HI3 hov hch e0 t HR
        generalize (g.Q j).pa = s1 at y1
        generalize (g.Q j).co = s3 at y3
        have HR3 := hid (HR2.out s1 0 s3)
        clear HR2
        go_wp2_with fail
        go_roundw
        case rel => exact ⟨j + 1, b, by omega, by omega, by go_num, rfl, HI2, HR3⟩
        case measure => simp [intOf]; omega
      · by_cases ep : (g.Q j).pa = (q : Int)
        · rw [ep] at y1
          by_cases e2 : (g.Q j).st = 2
          · have HW := hid (wait_at HRun.out j1 (by omega) HI.out.1 (by rw [hov]; exact decide_eq_true ⟨e2, ep⟩))
            rw [e2] at y2
            obtain ⟨x3, gx3⟩ : ∃ x3, x3 = (g.Q j).co := ⟨_, rfl⟩
            rw [← gx3] at y3 HW
            obtain ⟨WA, gWA⟩ : ∃ WA, WA = wr.alloc (.cells #[.int .i64 x0, .int .i64 (q : Int), .int .i64 2, .int .i64 x3, .int .i64 x4, .int .i64 x5, .int .i64 x6, .int .i64 x7, .int .i64 x8, .int .i64 x9] 42) := ⟨_, rfl⟩
            have hTA : YpTo w0 y x L g D WA := by rw [gWA]; exact HR2.out _ _ _
            have hTH := hTA.tl.th j hj
            have hPUT := hTA.put (hTA.tl.put j hj noGp) (upd_setCells L (gpD j noGp) _ _)
            have hcl := hTA.1.cl
            have hz : WA.cell? ⟨wr.heap.size, 3, none⟩ = some (.int .i64 x3) := by rw [gWA]; simp [go_sem]
            have hLr : L < wr.heap.size := HR.out.tl.lt
            have hsz : wr.heap.size < WA.heap.size := by rw [gWA]; simp
            rw [GN.out] at hPUT
            have hz2 : (WA.setCells L (j * 10) N.toArray.toList).cell? ⟨wr.heap.size, 3, none⟩ = some (.int .i64 x3) := by
              have hu := upd_setCells L N.toArray.toList (j * 10) WA
              exact (World.cell?_of_block (a := ⟨wr.heap.size, 3, none⟩) (hu.block wr.heap.size hsz (by omega))).trans hz
            have hz3 : (WA.setCells L (j * 10) N).cell? ⟨wr.heap.size, 3, none⟩ = some (.int .i64 x3) := hz2
            have HPUT := hid hPUT
            have HTH := hid hTH
            rw [gWA] at hz2 hz3 hcl HTH HPUT
            clear hPUT hTH hTA hz hov hch ep e0 e2 HI HI3 HOv HCh HR HR2 gx3 t gWA
            go_wp2_with (first
              | (refine wpList_build_is rfl 42 #[] rfl N.toArray (by simpa using HBU.out) ?_)
              | (refine wpList_store_mid rfl 42 (.tmp 44) (.tmp 43) rfl L (j * 10) N.toArray rfl rfl (by rw [← HT2.out]; exact HTH.out) HSZ.out HO1.out ?_))
            go_region_held3 (fun wx => wx.cell? ⟨wr.heap.size, 3, none⟩ = some (.int .i64 x3)) (go_keep) (fail)
            go_wp2_with fail
            (try simp only [Exit.inBlock, Exit.then])
            refine bodyPost_ret (four_results rfl _ _ _) rfl ?_
            exact ⟨by rw [HW.out]; rfl, by rw [HW.out]; exact HPUT.out.drew⟩
          · have HI2 : Hid ((∀ i, 1 ≤ i → i < j + 1 → g.over (q : Int) i = false) ∧ (true = true ↔ ∃ i, 1 ≤ i ∧ i < j + 1 ∧ g.child (q : Int) i = true)) := by
              refine hid ⟨fun i a c => ?_, fun _ => ⟨j, j1, by omega, by rw [hch]; exact decide_eq_true ⟨e0, ep⟩⟩, fun _ => rfl⟩
              by_cases e : i = j
              · subst e; rw [hov]; exact decide_eq_false (fun h => e2 h.1)
              · exact HI.out.1 i a (by omega)
            clear HI HI3 hov hch ep t HR
            generalize (g.Q j).st = s2 at y2 e2 e0
            generalize (g.Q j).co = s3 at y3
            have HR3 := hid (HR2.out (q : Int) s2 s3)
            clear HR2
            go_wp2_with fail
            go_roundw
            case rel => exact ⟨j + 1, true, by omega, by omega, by go_num, rfl, HI2, HR3⟩
            case measure => simp [intOf]; omega
        · have HI2 := hid (HI3.out (by rw [hch]; exact decide_eq_false (fun h => ep h.2)))
          clear HI HI3 hov hch t HR
          generalize (g.Q j).st = s2 at y2 e0
          generalize (g.Q j).pa = s1 at y1 ep
          generalize (g.Q j).co = s3 at y3
          have HR3 := hid (HR2.out s1 s2 s3)
          have hb2 : (s1 != (q : Int)) = true := by simp [ep]
          have hb : (s2 == 0 || s1 != (q : Int)) = true := by simp [ep]
          clear HR2
          go_wp2_with fail
          all_goals
            go_roundw
            case rel => exact ⟨j + 1, b, by omega, by omega, by go_num, rfl, HI2, HR3⟩
            case measure => simp [intOf]; omega
end

end Go.Proofs.YtbglhmcahnkbfaaGreat

/- The document's processes: Look, Running, New. -/
namespace Go.Proofs.YtbglhmcahnkbfaaGreat
open Go.RowKit Go.ChangeMaps Go.MapKept
set_option linter.unusedVariables false
set_option maxRecDepth 20000

section
variable {w : World} {y x L : Nat} {g : Gt} {D : Nat → Prop}
end

def noPis : List Value := (madeCells (Value.agg #[.int .i64 0, .int .i64 0, .int .i64 0, .int .i64 0, .int .i64 0, .int .i64 0, .int .i64 0, .int .i64 0, .int .i64 0, .int .i64 0]).cells (10 * 5)).toList
theorem noPis_dls : Dls noPis (fun _ => noGp) := by
  refine ⟨by simp [noPis, size_madeCells], fun i hi j hj => ?_⟩
  rw [gpD_no]
  obtain rfl | rfl | rfl | rfl | rfl : i = 0 ∨ i = 1 ∨ i = 2 ∨ i = 3 ∨ i = 4 := by omega
  all_goals (obtain rfl | rfl | rfl | rfl | rfl | rfl | rfl | rfl | rfl | rfl : j = 0 ∨ j = 1 ∨ j = 2 ∨ j = 3 ∨ j = 4 ∨ j = 5 ∨ j = 6 ∨ j = 7 ∨ j = 8 ∨ j = 9 := by omega)
  all_goals kernel_rfl
def fstPi : List Value := [.int .i64 1, .int .i64 0, .int .i64 1, .int .i64 0, .int .i64 0, .int .i64 0, .int .i64 0, .int .i64 0, .int .i64 0, .int .i64 0]
theorem fstPi_eq : gpD 1 { noGp with st := 1 } = fstPi := by
  have e : nmD 1 ({ noGp with st := 1 } : Gp) = 1 := by unfold nmD; rw [if_neg (show ¬ (1 : Int) = 0 by decide)]; rfl
  unfold gpD
  rw [e]
  rfl
theorem builtFst : Tryz.prog.built 42 [(0, .int .i64 1), (2, .int .i64 1)] = some fstPi.toArray := by kernel_rfl

set_option maxHeartbeats 4000000 in
theorem r9new_any (w : World) (x : Nat) (T : Ft) (Dn : Nat → Prop) (HP : Td w x T Dn) (d : Int) :
    Calls Tryz.prog 25 #[.pointer (some ⟨x, 0, none⟩), .int .i64 d] w fun e w' => ∃ y L, e = .returned (.pointer (some ⟨y, 0, none⟩)) ∧ (T.F.d = d → Yp w' y x L ⟨(newG d).Q, T⟩ (fun b => Dn b ∨ w.heap.size ≤ b)) ∧ Below w.heap.size w w' := by
  obtain ⟨C, gC⟩ : ∃ C, C = noPis := ⟨_, rfl⟩
  have hm' : ∀ W : World, (Instr.makeSlice 32 (.int .i64 5) (.int .i64 5)).run Tryz.prog W = .ok (.slice (some ⟨W.heap.size, 0, none⟩) 5 5) (W.alloc (.cells C.toArray 42)) := by
    rw [gC]
    exact made_zs (P := Tryz.prog) 32 42 5 _ _ _ Tryz.underlying32 infoPI (by omega) (by omega)
  have HC : Hid (Dls C (fun _ => noGp)) := by rw [gC]; exact hid noPis_dls
  obtain ⟨N, gN⟩ : ∃ N, N = fstPi := ⟨_, rfl⟩
  have HSZ : Hid ((Tryz.prog.info? 42).map (·.size) = some N.toArray.size) := by rw [gN]; exact hid csizePi
  have HBU : Hid (Tryz.prog.built 42 [(0, .int .i64 1), (2, .int .i64 1)] = some N.toArray) := by rw [gN]; exact hid builtFst
  have HO1 : Hid (N.toArray.all (·.oneCell') = true) := by rw [gN]; exact hid (by simp [fstPi, Value.oneCell'])
  have HT2 : Hid (10 = N.toArray.size) := by rw [gN]; exact hid rfl
  have GN := hid gN
  have HP := hid HP
  clear gC gN
  obtain ⟨X, gX⟩ : ∃ X, X = (w.alloc (Obj.cells C.toArray 42)).alloc (Obj.cells #[.slice (some ⟨w.heap.size, 0, none⟩) 5 5, .pointer (some ⟨x, 0, none⟩), .int .i64 d] 102) := ⟨_, rfl⟩
  have hb1 := one_new w (Obj.cells C.toArray 42)
  have hb2 : Below w.heap.size w X := by rw [gX]; exact hb1.trans ((one_new _ _).mono hb1.size)
  have hL : X.heap[w.heap.size]? = some (.cells C.toArray 42 (0, 0)) := by
    rw [gX]
    exact ((one_new (w.alloc (Obj.cells C.toArray 42)) _).block w.heap.size (by simp)).trans (heap_alloc_new _ _)
  have hY : X.heap[w.heap.size + 1]? = some (.cells #[.slice (some ⟨w.heap.size, 0, none⟩) 5 5, .pointer (some ⟨x, 0, none⟩), .int .i64 d] 102 (0, 0)) := by
    rw [gX]
    have h := heap_alloc_new (w.alloc (Obj.cells C.toArray 42)) (Obj.cells #[.slice (some ⟨w.heap.size, 0, none⟩) 5 5, .pointer (some ⟨x, 0, none⟩), .int .i64 d] 102)
    rwa [show (w.alloc (Obj.cells C.toArray 42)).heap.size = w.heap.size + 1 by simp] at h
  have hT1 : Tl X w.heap.size (fun _ => noGp) := ⟨C, hL, HC.out⟩
  have HTH := hid (hT1.th 1 (by omega))
  have hT2 := hT1.put 1 (by omega) { noGp with st := 1 }
  rw [fstPi_eq, ← GN.out] at hT2
  have hU := upd_setCells w.heap.size N (1 * 10) X
  have hxl := HP.out.lt
  have HF : Hid ((T.F.d = d → Yp (X.setCells w.heap.size (1 * 10) N) (w.heap.size + 1) x w.heap.size ⟨(newG d).Q, T⟩ (fun b => Dn b ∨ w.heap.size ≤ b)) ∧ Below w.heap.size w (X.setCells w.heap.size (1 * 10) N)) := by
    refine hid ⟨fun ed => ⟨fun b => Dn b ∧ b < w.heap.size, ⟨?_, ?_, ?_, by omega, fun h => by omega, fun h => by omega⟩, .inr (by omega), .inr (Nat.le_refl _), fun b hb => .inl hb.1⟩, hb2.trans (hU.below hb2.size (fun b e => Nat.le_of_eq e.symm))⟩
    · show (_ : Option Obj) = some (Obj.cells #[.slice (some ⟨w.heap.size, 0, none⟩) 5 5, .pointer (some ⟨x, 0, none⟩), .int .i64 T.F.d] 102 (0, 0))
      rw [ed]
      exact hU.heap hY (by omega)
    · show Tl _ _ (newG d).Q
      rw [newG_Q]
      exact hT2
    · show Td _ x T _
      exact ((HP.out.mono (fun b hb hD => ⟨hD, hb⟩)).grow hb2).upd hU (fun b _ hD e => by omega)
  rw [gX] at HTH HF
  clear hb1 hb2 hL hY hT1 hT2 hU hxl gX HC
  go_enter Tryz.func25, Tryz.ntmps25
  go_wp2_with (first
    | (refine wpList_build_is rfl 42 #[(0, .const (.int .i64 1)), (2, .const (.int .i64 1))] rfl N.toArray (by simpa [Act.eval] using HBU.out) ?_)
    | (refine wpList_store_mid rfl 42 (.tmp 18) (.tmp 17) rfl w.heap.size (1 * 10) N.toArray rfl rfl (by rw [← HT2.out]; exact HTH.out) HSZ.out HO1.out ?_))
  go_ret
  exact ⟨_, _, rfl, HF.out⟩

end Go.Proofs.YtbglhmcahnkbfaaGreat

/- Both sides' processes beside each other, as they lie. -/
namespace Go.Proofs.YtbglhmcahnkbfaaGreat
open Go.RowKit Go.ChangeMaps Go.MapKept
set_option linter.unusedVariables false
set_option maxRecDepth 20000

/-- The pair's box; the program's files (which have Tp) in blocks G, the document's (which have Td) in blocks D; all new since B. -/
structure P9 (w : World) (B : Nat) (G D : Nat → Prop) (pp f x t y L : Nat) (TP TD : Gt) : Prop where
  box : w.heap[pp]? = some (.cells (List.toArray [.pointer (some ⟨f, 0, none⟩), .pointer (some ⟨x, 0, none⟩), .pointer (some ⟨t, 0, none⟩), .pointer (some ⟨y, 0, none⟩)]) 38 (0, 0))
  tp : Zp w t f TP G
  td : Yp w y x L TD D
  gG : ∀ b, G b → B ≤ b ∧ b < w.heap.size ∧ b ≠ pp ∧ ¬ D b
  gD : ∀ b, D b → B ≤ b ∧ b < w.heap.size ∧ b ≠ pp
  gp : B ≤ pp

section
variable {w w' : World} {B : Nat} {G D : Nat → Prop} {pp f x t y L : Nat} {TP TD T' : Gt}
theorem P9.lt (h : P9 w B G D pp f x t y L TP TD) : pp < w.heap.size := (Array.getElem?_eq_some_iff.1 h.box).1
theorem P9.c0 (h : P9 w B G D pp f x t y L TP TD) : w.cell? ⟨pp, 0, none⟩ = some (.pointer (some ⟨f, 0, none⟩)) := cell_list h.box rfl
theorem P9.c1 (h : P9 w B G D pp f x t y L TP TD) : w.cell? ⟨pp, 1, none⟩ = some (.pointer (some ⟨x, 0, none⟩)) := cell_list h.box rfl
theorem P9.c2 (h : P9 w B G D pp f x t y L TP TD) : w.cell? ⟨pp, 2, none⟩ = some (.pointer (some ⟨t, 0, none⟩)) := cell_list h.box rfl
theorem P9.c3 (h : P9 w B G D pp f x t y L TP TD) : w.cell? ⟨pp, 3, none⟩ = some (.pointer (some ⟨y, 0, none⟩)) := cell_list h.box rfl
/-- What is neither the pair's, nor either side's. -/
def Ot9 (w : World) (G D : Nat → Prop) (pp b : Nat) : Prop := b < w.heap.size ∧ b ≠ pp ∧ ¬ G b ∧ ¬ D b
/-- Nothing of the pair's turns. -/
theorem P9.upd {U : Nat → Prop} (h : P9 w B G D pp f x t y L TP TD) (q : Upd U w w') (hU : ∀ b, b < w.heap.size → U b → Ot9 w G D pp b) : P9 w' B G D pp f x t y L TP TD :=
  ⟨q.heap h.box (fun e => (hU pp h.lt e).2.1 rfl), h.tp.upd q (fun b hb hG hu => (hU b hb hu).2.2.1 hG), h.td.upd q (fun b hb hD hu => (hU b hb hu).2.2.2 hD), fun b hb => ⟨(h.gG b hb).1, Nat.lt_of_lt_of_le (h.gG b hb).2.1 q.size, (h.gG b hb).2.2⟩, fun b hb => ⟨(h.gD b hb).1, Nat.lt_of_lt_of_le (h.gD b hb).2.1 q.size, (h.gD b hb).2.2⟩, h.gp⟩
theorem P9.grow (h : P9 w B G D pp f x t y L TP TD) (q : Below w.heap.size w w') : P9 w' B G D pp f x t y L TP TD := h.upd (Upd.of_below (F := fun _ => False) q) (fun _ _ h => h.elim)
theorem Ot9.grow {b : Nat} (h : Ot9 w G D pp b) (q : Below w.heap.size w w') : Ot9 w' G D pp b := ⟨Nat.lt_of_lt_of_le h.1 q.size, h.2⟩
/-- The program's call. -/
theorem P9.prog (h : P9 w B G D pp f x t y L TP TD) (k : ZpTo w t f T' G w') : P9 w' B (fun b => (G b ∨ w.heap.size ≤ b) ∧ b < w'.heap.size) D pp f x t y L T' TD ∧ Below B w w' ∧ (∀ b, Ot9 w G D pp b → w'.heap[b]? = w.heap[b]? ∧ Ot9 w' (fun b => (G b ∨ w.heap.size ≤ b) ∧ b < w'.heap.size) D pp b) := by
  obtain ⟨t1, t2, _⟩ := k
  have hB : B ≤ w.heap.size := Nat.le_trans h.gp (Nat.le_of_lt h.lt)
  refine ⟨⟨t2.heap h.box (fun e => (h.gG pp e).2.2.1 rfl), t1.mono (fun b hb hG => ⟨hG, hb⟩), h.td.upd t2 (fun b _ hD hG => (h.gG b hG).2.2.2 hD), fun b hb => ?_, fun b hb => ⟨(h.gD b hb).1, Nat.lt_of_lt_of_le (h.gD b hb).2.1 t2.size, (h.gD b hb).2.2⟩, h.gp⟩, t2.below hB (fun b hb => (h.gG b hb).1), fun b hb => ⟨t2.block b hb.1 hb.2.2.1, Nat.lt_of_lt_of_le hb.1 t2.size, hb.2.1, fun q => ?_, hb.2.2.2⟩⟩
  · rcases hb with ⟨hb | hb, hs⟩
    · exact ⟨(h.gG b hb).1, hs, (h.gG b hb).2.2⟩
    · refine ⟨Nat.le_trans hB hb, hs, fun e => ?_, fun e => ?_⟩
      · have := h.lt; omega
      · have := (h.gD b e).2.1; omega
  · rcases q.1 with q | q
    · exact hb.2.2.1 q
    · have := hb.1; omega
/-- The document's call. -/
theorem P9.doc (h : P9 w B G D pp f x t y L TP TD) (k : YpTo w y x L T' D w') : P9 w' B G (fun b => (D b ∨ w.heap.size ≤ b) ∧ b < w'.heap.size) pp f x t y L TP T' ∧ Below B w w' ∧ (∀ b, Ot9 w G D pp b → w'.heap[b]? = w.heap[b]? ∧ Ot9 w' G (fun b => (D b ∨ w.heap.size ≤ b) ∧ b < w'.heap.size) pp b) := by
  obtain ⟨t1, t2, _⟩ := k
  have hB : B ≤ w.heap.size := Nat.le_trans h.gp (Nat.le_of_lt h.lt)
  refine ⟨⟨t2.heap h.box (fun e => (h.gD pp e).2.2 rfl), h.tp.upd t2 (fun b _ hG hD => (h.gG b hG).2.2.2 hD), t1.mono (fun b hb hD => ⟨hD, hb⟩), fun b hb => ⟨(h.gG b hb).1, Nat.lt_of_lt_of_le (h.gG b hb).2.1 t2.size, (h.gG b hb).2.2.1, fun q => ?_⟩, fun b hb => ?_, h.gp⟩, t2.below hB (fun b hb => (h.gD b hb).1), fun b hb => ⟨t2.block b hb.1 hb.2.2.2, Nat.lt_of_lt_of_le hb.1 t2.size, hb.2.1, hb.2.2.1, fun q => ?_⟩⟩
  · rcases q.1 with q | q
    · exact (h.gG b hb).2.2.2 q
    · have := (h.gG b hb).2.1; omega
  · rcases hb with ⟨hb | hb, hs⟩
    · exact ⟨(h.gD b hb).1, hs, (h.gD b hb).2.2⟩
    · refine ⟨Nat.le_trans hB hb, hs, fun e => ?_⟩
      have := h.lt; omega
  · rcases q.1 with q | q
    · exact hb.2.2.2 q
    · have := hb.1; omega
end


end Go.Proofs.YtbglhmcahnkbfaaGreat

/- Both sides' processes with what else lies beside them, through a call of the law's 'does'. -/
namespace Go.Proofs.YtbglhmcahnkbfaaGreat
open Go.RowKit Go.ChangeMaps Go.MapKept
set_option linter.unusedVariables false
set_option maxRecDepth 20000

/-- wF is a world, blocks kb .. of it are kept; the pair has TP and TD in w, which is behind wF. -/
structure S9 (wF : World) (B kb : Nat) (G D : Nat → Prop) (pp f x t y L : Nat) (TP TD : Gt) (w : World) : Prop where
  pr : P9 w B G D pp f x t y L TP TD
  up : Upd (fun b => B ≤ b ∧ b < kb) wF w
  ot : ∀ b, kb ≤ b → b < wF.heap.size → Ot9 w G D pp b

section
variable {wF w w' : World} {B kb : Nat} {G D : Nat → Prop} {pp f x t y L : Nat} {TP TD T' : Gt}
theorem S9.prog (h : S9 wF B kb G D pp f x t y L TP TD w) (k : ZpTo w t f T' G w') : ∃ G', S9 wF B kb G' D pp f x t y L T' TD w' := by
  obtain ⟨a, b, c⟩ := h.pr.prog k
  exact ⟨_, a, h.up.trans k.2.1 (fun b hb hG => ⟨(h.pr.gG b hG).1, Nat.lt_of_not_le fun hk => (h.ot b hk hb).2.2.1 hG⟩), fun b hk hb => (c b (h.ot b hk hb)).2⟩
theorem S9.doc (h : S9 wF B kb G D pp f x t y L TP TD w) (k : YpTo w y x L T' D w') : ∃ D', S9 wF B kb G D' pp f x t y L TP T' w' ∧ (∀ b, Ot9 w G D pp b → Ot9 w' G D' pp b) ∧ Upd D w w' := by
  obtain ⟨a, b, c⟩ := h.pr.doc k
  exact ⟨_, ⟨a, h.up.trans k.2.1 (fun b hb hG => ⟨(h.pr.gD b hG).1, Nat.lt_of_not_le fun hk => (h.ot b hk hb).2.2.2 hG⟩), fun b hk hb => (c b (h.ot b hk hb)).2⟩, fun b hb => (c b hb).2, k.2.1⟩
theorem S9.doc1 (h : S9 wF B kb G D pp f x t y L TP TD w) (k : YpTo w y x L T' D w') : ∃ D', S9 wF B kb G D' pp f x t y L TP T' w' := by
  obtain ⟨D', a, _⟩ := h.doc k
  exact ⟨D', a⟩
theorem S9.grow (h : S9 wF B kb G D pp f x t y L TP TD w) (q : Below w.heap.size w w') : S9 wF B kb G D pp f x t y L TP TD w' :=
  ⟨h.pr.grow q, h.up.trans (Upd.of_below (F := fun _ => False) q) (fun _ _ h => h.elim), fun b hk hb => (h.ot b hk hb).grow q⟩
theorem S9.drew (h : S9 wF B kb G D pp f x t y L TP TD w) : S9 wF B kb G D pp f x t y L TP TD w.drew := h.grow (Below.refl _ _).drew
theorem S9.c0 (h : S9 wF B kb G D pp f x t y L TP TD w) : w.cell? ⟨pp, 0, none⟩ = some (.pointer (some ⟨f, 0, none⟩)) := h.pr.c0
theorem S9.c2 (h : S9 wF B kb G D pp f x t y L TP TD w) : w.cell? ⟨pp, 2, none⟩ = some (.pointer (some ⟨t, 0, none⟩)) := h.pr.c2
theorem S9.c3 (h : S9 wF B kb G D pp f x t y L TP TD w) : w.cell? ⟨pp, 3, none⟩ = some (.pointer (some ⟨y, 0, none⟩)) := h.pr.c3
theorem S9.c1 (h : S9 wF B kb G D pp f x t y L TP TD w) : w.cell? ⟨pp, 1, none⟩ = some (.pointer (some ⟨x, 0, none⟩)) := h.pr.c1
theorem S9.k (h : S9 wF B kb G D pp f x t y L TP TD w) {b o : Nat} {v : Value} (hk : kb ≤ b) (hb : b < wF.heap.size) (hc : wF.cell? ⟨b, o, none⟩ = some v) : w.cell? ⟨b, o, none⟩ = some v :=
  (World.cell?_of_block (a := ⟨b, o, none⟩) (h.up.block b hb (fun q => absurd q.2 (Nat.not_lt_of_le hk)))).trans hc
end


/-- What is true behind a call. -/
def K3 (g g' : Gt) : Prop := GOk g' ∧ g'.T.F.d = g.T.F.d
theorem empty_d (g : Gt) (q i : Nat) : (g.empty q i).T.F.d = g.T.F.d := by
  unfold Gt.empty
  split
  · rfl
  · exact ftdrop_d _ _
theorem empties_d (g : Gt) (q : Nat) : ∀ n, (g.empties q n).T.F.d = g.T.F.d
  | 0 => rfl
  | n + 1 => (empty_d _ _ _).trans (empties_d g q n)
theorem holdAll_d (T : Ft) (f : Nat → Int) : ∀ n, (Gt.holdAll T f n).F.d = T.F.d
  | 0 => rfl
  | n + 1 => by
    unfold Gt.holdAll
    split
    · exact holdAll_d T f n
    · exact (fthold_d _ _).trans (holdAll_d T f n)
section
variable {g : Gt}
theorem K3.fork (H : GOk g) (n : Int) : K3 g (g.fork n).1 := by
  refine ⟨H.fork n, ?_⟩
  unfold Gt.fork
  split
  · rfl
  split
  · rfl
  · show (if _ then _ else _ : Ft).F.d = _
    split
    · rfl
    · exact holdAll_d _ _ _
theorem ended_T (g : Gt) (p : Nat) (co : Int) : (g.ended p co).T = g.T := rfl
theorem exit_d (g : Gt) (n co : Int) : (g.exit n co).1.T.F.d = g.T.F.d := by
  unfold Gt.exit
  split
  · rfl
  · show (Gt.ended _ _ _).T.F.d = _
    rw [ended_T]
    exact empties_d _ _ _
theorem K3.exit (H : GOk g) (n co : Int) : K3 g (g.exit n co).1 := ⟨H.exit n co, exit_d g n co⟩
theorem K3.kill (H : GOk g) (n t : Int) : K3 g (g.kill n t).1 := by
  refine ⟨H.kill n t, ?_⟩
  unfold Gt.kill
  split
  · rfl
  split
  · rfl
  split
  · rfl
  · exact exit_d _ _ _
theorem K3.wait (H : GOk g) (n : Int) : K3 g (g.wait n).1 := by
  refine ⟨H.wait n, ?_⟩
  unfold Gt.wait
  split
  · rfl
  split
  · rfl
  · split <;> rfl
theorem K3.install (H : GOk g) (n v : Int) : K3 g (g.install n v).1 := by
  refine ⟨H.install n v, ?_⟩
  unfold Gt.install
  split
  · rfl
  split
  · rfl
  split <;> rfl
theorem close_d (g : Gt) (n fd : Int) : (g.close n fd).1.T.F.d = g.T.F.d := by
  unfold Gt.close
  split
  · rfl
  · exact empty_d _ _ _
theorem K3.close (H : GOk g) (n fd : Int) : K3 g (g.close n fd).1 := ⟨H.close n fd, close_d g n fd⟩
theorem K3.dup (H : GOk g) (n fd : Int) : K3 g (g.dup n fd).1 := by
  refine ⟨H.dup n fd, ?_⟩
  unfold Gt.dup
  split
  · rfl
  split
  · rfl
  · exact fthold_d _ _
theorem K3.dup2 (H : GOk g) (n fd t0 : Int) : K3 g (g.dup2 n fd t0).1 := by
  refine ⟨H.dup2 n fd t0, ?_⟩
  unfold Gt.dup2
  split
  · rfl
  split
  · rfl
  split
  · rfl
  · dsimp only
    refine (fthold_d _ _).trans ?_
    split
    · rfl
    · exact empty_d _ _ _
theorem open_d {T : Ft} (H : TOk T) (l : List UInt8) (fl : Int) : (T.open_ l fl).1.F.d = T.F.d := by
  obtain ⟨f1, s1⟩ := Ft.node_ok H.F l fl
  obtain ⟨f2, s2⟩ := Ft.cutF_ok f1 (Ft.node T.F l fl).2.1 fl
  have h : (T.openN l fl).1.d = T.F.d := by
    unfold Ft.openN
    split
    · exact s1.1
    split
    · exact s2.1.trans s1.1
    · exact (hold_d _ _).trans (s2.1.trans s1.1)
  unfold Ft.open_
  split
  · rfl
  split
  · rfl
  split
  · exact h
  · exact h
theorem K3.open_ (H : GOk g) (l : List UInt8) (fl : Int) : K3 g { g with T := (g.T.open_ l fl).1 } := ⟨H.tbl (H.T.open_ l fl), open_d H.T l fl⟩
end

section
variable {w0 w : World} {p f y x L : Nat} {g : Gt} {G D : Nat → Prop}
theorem ZpTo.open_ (h : ZpTo w0 p f g G w) (hT : TOk g.T) (l : ByteArray) (hs : l.size ≤ 140737488355328) (fl : Int) :
    Calls Tryz.prog 16 #[.pointer (some ⟨f, 0, none⟩), .string l, .int .i64 fl] w fun e w' => e = .returned (.tuple #[.int .i64 ((g.T.open_ (bl l) fl).2.1 : Int), .int .i64 (g.T.open_ (bl l) fl).2.2]) ∧ ZpTo w0 p f { g with T := (g.T.open_ (bl l) fl).1 } G w' := by
  obtain ⟨Gn, h1, h3⟩ := h.parts
  refine (tpopen w f g.T Gn h1.tp hT l hs fl).mono ?_
  rintro e w' ⟨rfl, k⟩
  exact ⟨rfl, h.fil h1 h3 k (open_d hT _ _)⟩
end

end Go.Proofs.YtbglhmcahnkbfaaGreat
