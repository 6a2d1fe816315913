/- Texts of this seat, merged. -/
import Derived.Test.YtbglhmcahnkbfaaGreatGMg25
import Derived.Test.YtbglhmcahnkbfaaGreatGMg38
import Derived.Test.YtbglhmcahnkbfaaGreatGMg41
import Derived.Test.YtbglhmcahnkbfaaGreatGMg43
import Derived.Test.YtbglhmcahnkbfaaGreatGMg44
import Derived.Test.YtbglhmcahnkbfaaGreatGMg31

/- The document's processes: Runs, over, lowest, File, Close, Install. -/
namespace Go.Proofs.YtbglhmcahnkbfaaGreat
open Go.RowKit Go.ChangeMaps Go.MapKept
set_option linter.unusedVariables false
set_option maxRecDepth 20000

section
variable {w0 w w' : World} {y x L : Nat} {g : Gt} {D : Nat → Prop}
theorem YpTo.hold (h : YpTo w0 y x L g D w) (hT : TOk g.T) (n : Int) :
    Calls Tryz.prog 71 #[.pointer (some ⟨x, 0, none⟩), .int .i64 n] w fun e w' => e = .returned (.int .i64 (g.T.hold n).2) ∧ YpTo w0 y x L { g with T := (g.T.hold n).1 } D w' := by
  obtain ⟨Gn, h1, h3⟩ := h.parts
  refine (tdhold w x g.T Gn h1.td hT n).mono ?_
  rintro e w' ⟨rfl, k⟩
  exact ⟨rfl, h.fil h1 h3 k (fthold_d _ _)⟩
theorem YpTo.dropf (h : YpTo w0 y x L g D w) (hT : TOk g.T) (n : Int) :
    Calls Tryz.prog 77 #[.pointer (some ⟨x, 0, none⟩), .int .i64 n] w fun e w' => e = .returned (.int .i64 (g.T.drop n).2) ∧ YpTo w0 y x L { g with T := (g.T.drop n).1 } D w' := by
  obtain ⟨Gn, h1, h3⟩ := h.parts
  refine (tddrop w x g.T Gn h1.td hT n).mono ?_
  rintro e w' ⟨rfl, k⟩
  exact ⟨rfl, h.fil h1 h3 k (ftdrop_d _ _)⟩

theorem r9runs_any (h : Yp w y x L g D) (n : Int) (b : Bool) (hb : b = qrn g.Q n) :
    Calls Tryz.prog 70 #[.pointer (some ⟨y, 0, none⟩), .int .i64 n] w fun e w' => e = .returned (.bool b) ∧ w' = w := by
  have cl := h.cl
  have hT := h.tl
  by_cases c1 : n < 1
  · obtain rfl : b = false := by rw [hb]; unfold qrn; rw [decide_eq_false_iff_not]; omega
    clear hb h
    go_enter Tryz.func70, Tryz.ntmps70
    go_wp2
    go_ret
    exact ⟨rfl, rfl⟩
  · by_cases c2 : 4 < n
    · obtain rfl : b = false := by rw [hb]; unfold qrn; rw [decide_eq_false_iff_not]; omega
      clear hb h
      go_enter Tryz.func70, Tryz.ntmps70
      go_wp2
      go_ret
      exact ⟨rfl, rfl⟩
    · obtain ⟨i, rfl⟩ := Int.eq_ofNat_of_zero_le (show 0 ≤ n by omega)
      have hs := hT.st i (by omega)
      obtain ⟨s, gs⟩ : ∃ s, s = (g.Q i).st := ⟨_, rfl⟩
      obtain rfl : b = decide (s = 1) := by rw [hb, gs]; unfold qrn; rw [decide_eq_decide]; exact ⟨fun h => h.2.2, fun h => ⟨by omega, by omega, h⟩⟩
      rw [← gs] at hs
      have c3 : (0 : Int) ≤ i := by omega
      have c4 : (i : Int) < 5 := by omega
      clear hb h gs hT
      go_enter Tryz.func70, Tryz.ntmps70
      go_wp2
      go_ret
      refine ⟨?_, rfl⟩
      by_cases hs1 : s = 1 <;> simp [hs1]

/-- 'over' of a number that is 0 or a process's. -/
theorem r9over_any (h : Yp w y x L g D) (n : Int) (h0 : 0 ≤ n) (h4 : n ≤ 4) (b : Bool) (hb : b = !qrn g.Q n) :
    Calls Tryz.prog 72 #[.pointer (some ⟨y, 0, none⟩), .int .i64 n] w fun e w' => e = .returned (.bool b) ∧ w' = w := by
  have cl := h.cl
  have hT := h.tl
  by_cases c1 : n = 0
  · obtain rfl : b = true := by
      rw [hb]
      have : qrn g.Q n = false := by unfold qrn; rw [decide_eq_false_iff_not]; omega
      rw [this]; rfl
    subst c1
    clear hb h
    go_enter Tryz.func72, Tryz.ntmps72
    go_wp2
    go_ret
    exact ⟨rfl, rfl⟩
  · obtain ⟨i, rfl⟩ := Int.eq_ofNat_of_zero_le h0
    have hs := hT.st i (by omega)
    obtain ⟨s, gs⟩ : ∃ s, s = (g.Q i).st := ⟨_, rfl⟩
    obtain rfl : b = !decide (s = 1) := by
      rw [hb, gs]; unfold qrn
      congr 1
      rw [decide_eq_decide]; exact ⟨fun h => h.2.2, fun h => ⟨by omega, by omega, h⟩⟩
    rw [← gs] at hs
    have c4 : (i : Int) < 5 := by omega
    clear hb h gs hT
    go_enter Tryz.func72, Tryz.ntmps72
    go_wp2
    go_ret
    refine ⟨?_, rfl⟩
    have e0 : ¬ i = 0 := by omega
    by_cases hs1 : s = 1 <;> simp [hs1, e0]

set_option maxHeartbeats 1000000 in
theorem r9lowest_any (h : Yp w y x L g D) (q : Nat) (hq : q < 5) :
    Calls Tryz.prog 76 #[.pointer (some ⟨y, 0, none⟩), .int .i64 (q : Int)] w fun e w' => e = .returned (.int .i64 (lowI (g.Q q).fd)) ∧ w' = w := by
  have cl := h.cl
  have hR := hid (h.tl.fds q hq)
  have c3 : (0 : Int) ≤ q := by omega
  have c4 : (q : Int) < 5 := by omega
  obtain ⟨F, gF⟩ : ∃ F, F = (g.Q q).fd := ⟨_, rfl⟩
  rw [← gF] at hR ⊢
  obtain ⟨V, gV⟩ : ∃ V, V = fdV F := ⟨_, rfl⟩
  have HSZ : Hid ((Tryz.prog.info? 40).map (·.size) = some V.length) := by rw [gV]; exact hid csizeF6
  have HIX : Hid (∀ j : Nat, j < 6 → ∀ W : World, (Instr.index 40 (.agg V.toArray) (.int .i64 (j : Int))).run Tryz.prog W = .ok (.int .i64 (F j)) W) := by rw [gV]; exact hid (fun j hj W => ixF6 F j hj W)
  rw [← gV] at hR
  clear h gF gV
  go_enter Tryz.func76, Tryz.ntmps76
  go_wp2_with (refine wpList_load_mid rfl 40 (.tmp 13) rfl L (q * 10 + 4) rfl V _ hR.out Tryz.underlying40 rfl HSZ.out ?_)
  go_loop [15] (fun s => ∃ j : Nat, j ≤ 6 ∧ s = .int .i64 (j : Int) ∧ Hid (∀ i, i < j → F i ≠ 0)) (fun s => 6 - (intOf s).toNat)
  case atStart => exact ⟨0, by omega, rfl, hid (fun i h => absurd h (Nat.not_lt_zero i))⟩
  case round =>
    obtain ⟨j, h6, rfl, HP⟩ := hrel
    by_cases e6 : j = 6
    · have HE : Hid (lowI F = -1) := hid (by unfold lowI; rw [lowest_no (fun i hi => HP.out i (by omega))])
      subst e6
      clear HP
      go_wp2_with fail
      go_ret
      exact ⟨congrArg (fun k : Int => Ending.returned (.int .i64 k)) HE.out.symm, rfl⟩
    · have hix := HIX.out j (by omega)
      have b3 : (0 : Int) ≤ j := by omega
      have b4 : (j : Int) < 6 := by omega
      by_cases hz : F j = 0
      · have HE : Hid (lowI F = (j : Int)) := hid (by unfold lowI; rw [lowest_at (by omega) HP.out hz])
        rw [hz] at hix
        clear HP hz
        go_wp2_with fail
        go_ret
        exact ⟨congrArg (fun k : Int => Ending.returned (.int .i64 k)) HE.out.symm, rfl⟩
      · have HP' : Hid (∀ i, i < j + 1 → F i ≠ 0) := hid (fun i a => by
          by_cases e : i = j
          · rw [e]; exact hz
          · exact HP.out i (by omega))
        clear HP
        generalize F j = s at hix hz
        go_wp2_with fail
        go_round
        case rel => exact ⟨j + 1, by omega, by go_num, HP'⟩
        case measure => simp [intOf]; omega

set_option maxHeartbeats 1000000 in
theorem r9file_any (h : Yp w y x L g D) (n fd : Int) :
    Calls Tryz.prog 35 #[.pointer (some ⟨y, 0, none⟩), .int .i64 n, .int .i64 fd] w fun e w' => e = .returned (.tuple #[.int .i64 (g.file n fd).1, .int .i64 (g.file n fd).2]) ∧ w' = w := by
  have cl := h.cl
  cases hr : g.runs n
  · rw [show g.file n fd = (0, 3) by unfold Gt.file; rw [if_pos hr]]
    have k1 := hid (r9runs_any h n false hr.symm)
    clear h hr
    go_enter Tryz.func35, Tryz.ntmps35
    go_wp2_with fail
    refine k1.out.mono ?_
    rintro e w1 ⟨rfl, hw⟩
    subst w1
    go_wp2_with fail
    go_ret2
    exact ⟨rfl, rfl⟩
  · have k1 := hid (r9runs_any h n true hr.symm)
    obtain ⟨q, rfl, h1, h4, hs⟩ := qrn_lt hr
    have b3 : (0 : Int) ≤ q := by omega
    have b4 : (q : Int) < 5 := by omega
    by_cases c : 0 ≤ fd ∧ fd < 6
    · obtain ⟨i, rfl⟩ := Int.eq_ofNat_of_zero_le c.1
      have hz := h.tl.z q (by omega) i (by omega)
      obtain ⟨c3, c4⟩ := c
      have n1 : ¬ (i : Int) < 0 := by omega
      have n2 : ¬ 6 ≤ (i : Int) := by omega
      by_cases hv : (g.Q q).fd i = 0
      · rw [show g.file (q : Int) (i : Int) = (0, 9) by unfold Gt.file; rw [if_neg (by rw [hr]; decide), if_pos (by rw [Int.toNat_natCast, Int.toNat_natCast]; exact .inr (.inr hv))]]
        rw [hv] at hz
        clear h hr hs hv
        go_enter Tryz.func35, Tryz.ntmps35
        go_wp2_with fail
        refine k1.out.mono ?_
        rintro e w1 ⟨rfl, hw⟩
        subst w1
        go_wp2_with fail
        go_ret2
        exact ⟨rfl, rfl⟩
      · rw [show g.file (q : Int) (i : Int) = ((g.Q q).fd i, 0) by unfold Gt.file; rw [if_neg (by rw [hr]; decide), if_neg (by rw [Int.toNat_natCast, Int.toNat_natCast]; omega), Int.toNat_natCast, Int.toNat_natCast]]
        generalize (g.Q q).fd i = v at hz hv ⊢
        have hb : (decide ((i : Int) < 0) || decide (6 ≤ (i : Int)) || v == 0) = false := by simp [n1, n2, hv]
        clear h hr hs
        go_enter Tryz.func35, Tryz.ntmps35
        go_wp2_with fail
        refine k1.out.mono ?_
        rintro e w1 ⟨rfl, hw⟩
        subst w1
        go_wp2_with fail
        go_ret2
        exact ⟨rfl, rfl⟩
    · rw [show g.file (q : Int) fd = (0, 9) by unfold Gt.file; rw [if_neg (by rw [hr]; decide), if_pos (by omega)]]
      by_cases c5 : fd < 0
      · clear h hr hs
        go_enter Tryz.func35, Tryz.ntmps35
        go_wp2_with fail
        refine k1.out.mono ?_
        rintro e w1 ⟨rfl, hw⟩
        subst w1
        go_wp2_with fail
        go_ret2
        exact ⟨rfl, rfl⟩
      · have c6 : 6 ≤ fd := by omega
        clear h hr hs
        go_enter Tryz.func35, Tryz.ntmps35
        go_wp2_with fail
        refine k1.out.mono ?_
        rintro e w1 ⟨rfl, hw⟩
        subst w1
        go_wp2_with fail
        go_ret2
        exact ⟨rfl, rfl⟩

set_option maxHeartbeats 1000000 in
theorem r9close_any (h : YpTo w0 y x L g D w) (H0 : GOk g) (n fd : Int) :
    Calls Tryz.prog 36 #[.pointer (some ⟨y, 0, none⟩), .int .i64 n, .int .i64 fd] w fun e w' => e = .returned (.int .i64 (g.close n fd).2) ∧ YpTo w0 y x L (g.close n fd).1 D w' := by
  have k1 := hid (r9file_any h.1 n fd)
  unfold Gt.close
  by_cases c : (g.file n fd).2 = 0
  · rw [if_neg (fun e => e c)]
    obtain ⟨q, i, rfl, rfl, q1, q4, i6, qs, hv, ev⟩ := file_ok H0 c
    rw [Int.toNat_natCast, Int.toNat_natCast]
    rw [c, ev] at k1
    have cl := h.1.cl
    have z := h.tl.z q (by omega) i i6
    have fz := h.tl.fz (q * 10 + 4 + i)
    have HA := hid (h.put (h.tl.fdTo q (by omega) i i6 0) (Upd.setCell (F := (· = L)) w ⟨L, _, none⟩ _ rfl))
    have HT := hid H0.T
    have HE : Hid (g.empty q i = { g.setFd q i 0 with T := (g.T.drop ((g.Q q).fd i)).1 }) := hid (by unfold Gt.empty; rw [if_neg hv])
    rw [HE.out]
    have k2 := hid (HA.out.dropf HT.out ((g.Q q).fd i))
    have cx := HA.out.1.cx
    have b3 : (0 : Int) ≤ q := by omega
    have b4 : (q : Int) < 5 := by omega
    have b5 : (0 : Int) ≤ i := by omega
    have b6 : (i : Int) < 6 := by omega
    clear h H0 qs c HA HE ev
    generalize (g.Q q).fd i = v at k1 k2 z hv ⊢
    go_enter Tryz.func36, Tryz.ntmps36
    go_wp2_with fail
    refine k1.out.mono ?_
    rintro e w1 ⟨rfl, hw⟩
    subst w1
    go_wp2_with fail
    refine k2.out.mono ?_
    rintro e w2 ⟨rfl, h2⟩
    go_wp2_with fail
    go_ret
    exact ⟨rfl, h2⟩
  · rw [if_pos c]
    have he : ¬ (g.file n fd).2 = 0 := c
    have H := hid h
    rw [file_err c] at k1
    clear h H0 c
    generalize (g.file n fd).2 = v at k1 he ⊢
    go_enter Tryz.func36, Tryz.ntmps36
    go_wp2_with fail
    refine k1.out.mono ?_
    rintro e w1 ⟨rfl, hw⟩
    subst w1
    go_wp2_with fail
    go_ret
    exact ⟨rfl, H.out⟩
end

end Go.Proofs.YtbglhmcahnkbfaaGreat

/- The document's processes: Install, Dup, Dup2. -/
namespace Go.Proofs.YtbglhmcahnkbfaaGreat
open Go.RowKit Go.ChangeMaps Go.MapKept
set_option linter.unusedVariables false
set_option maxRecDepth 20000

theorem lowI_some {f : Nat → Int} {i : Nat} (h : Gt.lowest f = some i) : lowI f = (i : Int) := by unfold lowI; rw [h]
theorem lowI_none {f : Nat → Int} (h : Gt.lowest f = none) : lowI f = -1 := by unfold lowI; rw [h]

section
variable {w0 w w' : World} {y x L : Nat} {g : Gt} {D : Nat → Prop}
set_option maxHeartbeats 4000000 in
theorem r9install_any (h : YpTo w0 y x L g D w) (hT : TOk g.T) (n v : Int) :
    Calls Tryz.prog 34 #[.pointer (some ⟨y, 0, none⟩), .int .i64 n, .int .i64 v] w fun e w' => e = .returned (.tuple #[.int .i64 (g.install n v).2.1, .int .i64 (g.install n v).2.2]) ∧ YpTo w0 y x L (g.install n v).1 D w' := by
  have H := hid h
  cases hr : g.runs n
  · rw [show g.install n v = (g, 0, 3) by unfold Gt.install; rw [if_pos hr]]
    have k1 := hid (r9runs_any h.1 n false hr.symm)
    clear h hr hT
    go_enter Tryz.func34, Tryz.ntmps34
    go_wp2_with fail
    refine k1.out.mono ?_
    rintro e w1 ⟨rfl, hw⟩
    subst w1
    go_wp2_with fail
    go_ret2
    exact ⟨rfl, H.out⟩
  have k1 := hid (r9runs_any h.1 n true hr.symm)
  obtain ⟨q, rfl, h1, h4, hs⟩ := qrn_lt hr
  obtain ⟨Dn, y1, y3⟩ := h.parts
  have k2 := hid (tdlook w x g.T Dn y1.td hT)
  have cx := h.1.cx
  have hv := opn_flat g.T.O 11
  have HV := hid hv
  have HH := hid (there_opn hT v)
  have HI : Hid ((g.T.there v = false → g.install (q : Int) v = (g, 0, 9)) ∧ (g.T.there v = true → Gt.lowest (g.Q q).fd = none → g.install (q : Int) v = (g, 0, 24)) ∧ (∀ i, g.T.there v = true → Gt.lowest (g.Q q).fd = some i → g.install (q : Int) v = (g.setFd q i v, (i : Int), 0))) := by
    refine hid ⟨fun a => ?_, fun a b => ?_, fun i a b => ?_⟩
    · unfold Gt.install; rw [if_neg (by rw [hr]; decide), if_pos a]
    · unfold Gt.install; rw [if_neg (by rw [hr]; decide), if_neg (by rw [a]; decide), Int.toNat_natCast, b]
    · unfold Gt.install; rw [if_neg (by rw [hr]; decide), if_neg (by rw [a]; decide), Int.toNat_natCast, b]
  have b3 : (0 : Int) ≤ q := by omega
  have b4 : (q : Int) < 5 := by omega
  clear hv h hr hT hs y1 y3
  go_enter Tryz.func34, Tryz.ntmps34
  go_wp2_with fail
  refine k1.out.mono ?_
  rintro e w1 ⟨rfl, hw⟩
  subst w1
  clear k1
  go_wp2_with fail
  refine k2.out.mono ?_
  rintro e w2 ⟨⟨r, rfl, ho⟩, hb2⟩
  rw [HV.out.1] at ho
  obtain ⟨a, c, rfl, hrw⟩ := Rws.of (L := 6) (f := fun i => oiV i (g.T.O i)) (fun _ => rfl) HV.out.2 ho
  have HRW := hid hrw
  have HN : Hid (oiN g.T.O 11 = (opn g.T.O 11).length ∧ oiN g.T.O 11 ≤ 11) := hid ⟨HV.out.2, oiN_le _ _⟩
  obtain ⟨is, gis⟩ : ∃ is, is = opn g.T.O 11 := ⟨_, rfl⟩
  rw [← gis] at HRW HN HH
  have H2 := hid (H.out.grow hb2)
  clear ho hb2 k2 HV hrw gis H cx
  generalize oiN g.T.O 11 = m at HN ⊢
  have hm := HN.out.1
  have hm11 := HN.out.2
  go_wp2_with fail
  go_loopw [8, 22] (fun t k wr => ∃ (j : Nat) (b : Bool), j ≤ m ∧ k = .int .i64 (j : Int) ∧ t = .bool b ∧ Hid (b = true ↔ ∃ i, ∃ h : i < is.length, i < j ∧ (is[i] : Int) = v) ∧ Hid (Below w2.heap.size w2 wr)) (fun _ k _ => m - (intOf k).toNat)
  case atStart => exact ⟨0, false, by omega, rfl, rfl, hid ⟨fun h => absurd h (by decide), fun ⟨i, _, hi, _⟩ => absurd hi (Nat.not_lt_zero i)⟩, hid (Below.refl _ _)⟩
  case round =>
    obtain ⟨j, b, hj, rfl, rfl, HB, HBl⟩ := hrel
    by_cases e : j = m
    · subst e
      have hbt : g.T.there v = b := by
        have : b = true ↔ g.T.there v = true := by
          rw [HB.out, HH.out]
          exact ⟨fun ⟨i, hi, _, e⟩ => ⟨i, hi, e⟩, fun ⟨i, hi, e⟩ => ⟨i, hi, by omega, e⟩⟩
        cases b
        · exact Bool.eq_false_iff.2 (fun h => absurd (this.2 h) (by decide))
        · exact this.1 rfl
      have HBT := hid hbt
      have H3 := hid (H2.out.grow HBl.out)
      clear hbt HB HBl H2 HRW
      cases b
      · have HI2 : Hid (g.install (q : Int) v = (g, 0, 9)) := hid (HI.out.1 HBT.out)
        clear HI HBT
        go_wp2_with fail
        go_ret2
        exact ⟨by rw [HI2.out]; rfl, by rw [HI2.out]; exact H3.out⟩
      · have k3 := hid (r9lowest_any H3.out.1 q (by omega))
        cases hl : Gt.lowest (g.Q q).fd with
        | none =>
          have HI2 : Hid (g.install (q : Int) v = (g, 0, 24)) := hid (HI.out.2.1 HBT.out hl)
          rw [lowI_none hl] at k3
          clear HI HBT hl
          go_wp2_with fail
          refine k3.out.mono ?_
          rintro e w4 ⟨rfl, hw⟩
          subst w4
          go_wp2_with fail
          go_ret2
          exact ⟨by rw [HI2.out]; rfl, by rw [HI2.out]; exact H3.out⟩
        | some i =>
          have HI2 : Hid (g.install (q : Int) v = (g.setFd q i v, (i : Int), 0)) := hid (HI.out.2.2 i HBT.out hl)
          rw [lowI_some hl] at k3
          have i6 := (lowest_lt hl).1
          have cl := H3.out.1.cl
          have z := H3.out.tl.z q (by omega) i i6
          have fz := H3.out.tl.fz (q * 10 + 4 + i)
          have HA : Hid (YpTo w0 y x L (g.setFd q i v) D (wr.setCell ⟨L, q * 10 + 4 + i, none⟩ (.int .i64 v))) := hid (H3.out.put (H3.out.tl.fdTo q (by omega) i i6 v) (Upd.setCell (F := (· = L)) wr ⟨L, _, none⟩ _ rfl))
          have d1 : (0 : Int) ≤ i := by omega
          have d2 : (i : Int) < 6 := by omega
          clear HI HBT hl H3
          go_wp2_with fail
          refine k3.out.mono ?_
          rintro e w4 ⟨rfl, hw⟩
          subst w4
          go_wp2_with fail
          go_ret2
          exact ⟨by rw [HI2.out]; rfl, by rw [HI2.out]; exact HA.out⟩
    · have hjm : j < m := by omega
      have hji : j < is.length := by omega
      obtain ⟨r, rfl, hqB, hql, hat⟩ := HRW.out (by omega)
      have at' : ∀ k v, k < 6 → (oiV is[j] (g.T.O is[j]))[k]? = some v → wr.cell? ⟨r, j * 6 + k, none⟩ = some v := fun k v hk hv => (HBl.out.cell (p := ⟨r, j * 6 + k, none⟩) hql).trans (hat j hji k hk v hv)
      have c0 : wr.cell? ⟨r, j * 6, none⟩ = some (.int .i64 (is[j] : Int)) := at' 0 _ (by omega) rfl
      have c1 := at' 1 _ (by omega) rfl
      have c2 := at' 2 _ (by omega) rfl
      have c3 := at' 3 _ (by omega) rfl
      have c4 := at' 4 _ (by omega) rfl
      have c5 := at' 5 _ (by omega) rfl
      generalize (g.T.O is[j]).k = y1 at c1
      generalize (g.T.O is[j]).of = y2 at c2
      generalize (g.T.O is[j]).off = y3 at c3
      generalize (g.T.O is[j]).fl = y4 at c4
      generalize (g.T.O is[j]).h = y5 at c5
      have HB2 : Hid ((b || decide ((is[j] : Int) = v)) = true ↔ ∃ i, ∃ h : i < is.length, i < j + 1 ∧ (is[i] : Int) = v) := hid (by
        rw [Bool.or_eq_true, decide_eq_true_eq, HB.out]
        constructor
        · rintro (⟨i, hi, h1, h2⟩ | h)
          · exact ⟨i, hi, by omega, h2⟩
          · exact ⟨j, hji, by omega, h⟩
        · rintro ⟨i, hi, h1, h2⟩
          by_cases e : i = j
          · subst e; exact .inr h2
          · exact .inl ⟨i, hi, by omega, h2⟩)
      have HBl2 : Hid (Below w2.heap.size w2 (wr.alloc (Obj.cells #[.int .i64 ((is[j] : Nat) : Int), .int .i64 y1, .int .i64 y2, .int .i64 y3, .int .i64 y4, .int .i64 y5] 46))) := hid (HBl.out.trans ((one_new wr _).mono HBl.out.size))
      clear at' hat HB HBl e
      generalize ((is[j] : Nat) : Int) = x0 at c0 HB2 HBl2
      cases b
      · have HB2 : Hid (decide (x0 = v) = true ↔ ∃ i, ∃ h : i < is.length, i < j + 1 ∧ (is[i] : Int) = v) := by
          rw [Bool.false_or] at HB2; exact HB2
        go_wp2_with fail
        go_roundw
        case rel => exact ⟨j + 1, decide (x0 = v), by omega, by go_num, by (by_cases e : x0 = v <;> simp [e]), HB2, HBl2⟩
        case measure => simp [intOf]; omega
      · have HB2 : Hid (true = true ↔ ∃ i, ∃ h : i < is.length, i < j + 1 ∧ (is[i] : Int) = v) := by
          rw [Bool.true_or] at HB2; exact HB2
        go_wp2_with fail
        go_roundw
        case rel => exact ⟨j + 1, true, by omega, by go_num, rfl, HB2, HBl2⟩
        case measure => simp [intOf]; omega
end

end Go.Proofs.YtbglhmcahnkbfaaGreat

/- The document's processes: Dup, Dup2. -/
namespace Go.Proofs.YtbglhmcahnkbfaaGreat
open Go.RowKit Go.ChangeMaps Go.MapKept
set_option linter.unusedVariables false
set_option maxRecDepth 20000

section
variable {w0 w w' : World} {y x L : Nat} {g : Gt} {D : Nat → Prop}
set_option maxHeartbeats 2000000 in
theorem r9dup_any (h : YpTo w0 y x L g D w) (H0 : GOk g) (n fd : Int) :
    Calls Tryz.prog 37 #[.pointer (some ⟨y, 0, none⟩), .int .i64 n, .int .i64 fd] w fun e w' => e = .returned (.tuple #[.int .i64 (g.dup n fd).2.1, .int .i64 (g.dup n fd).2.2]) ∧ YpTo w0 y x L (g.dup n fd).1 D w' := by
  have k1 := hid (r9file_any h.1 n fd)
  have H := hid h
  by_cases c : (g.file n fd).2 = 0
  · obtain ⟨q, i, rfl, rfl, q1, q4, i6, qs, hv, ev⟩ := file_ok H0 c
    rw [c, ev] at k1
    have k2 := hid (r9lowest_any h.1 q (by omega))
    have b3 : (0 : Int) ≤ q := by omega
    have b4 : (q : Int) < 5 := by omega
    cases hl : Gt.lowest (g.Q q).fd with
    | none =>
      rw [show g.dup (q : Int) (i : Int) = (g, 0, 24) by unfold Gt.dup; rw [if_neg (fun e => e c), Int.toNat_natCast, hl]]
      rw [lowI_none hl] at k2
      clear h H0 qs c hl hv ev
      generalize (g.Q q).fd i = v at k1
      go_enter Tryz.func37, Tryz.ntmps37
      go_wp2_with fail
      refine k1.out.mono ?_
      rintro e w1 ⟨rfl, hw⟩
      subst w1
      go_wp2_with fail
      refine k2.out.mono ?_
      rintro e w1 ⟨rfl, hw⟩
      subst w1
      go_wp2_with fail
      go_ret2
      exact ⟨rfl, H.out⟩
    | some j =>
      rw [show g.dup (q : Int) (i : Int) = ({ g.setFd q j ((g.Q q).fd i) with T := (g.T.hold ((g.Q q).fd i)).1 }, (j : Int), 0) by unfold Gt.dup; rw [if_neg (fun e => e c), Int.toNat_natCast, hl, ev]]
      rw [lowI_some hl] at k2
      have j6 := (lowest_lt hl).1
      obtain ⟨v, gv⟩ : ∃ v, v = (g.Q q).fd i := ⟨_, rfl⟩
      rw [← gv] at k1 ⊢
      have cl := h.1.cl
      have z := h.tl.z q (by omega) j j6
      have fz := h.tl.fz (q * 10 + 4 + j)
      have hA : YpTo w0 y x L (g.setFd q j v) D (w.setCell ⟨L, q * 10 + 4 + j, none⟩ (.int .i64 v)) := h.put (h.tl.fdTo q (by omega) j j6 v) (Upd.setCell (F := (· = L)) w ⟨L, _, none⟩ _ rfl)
      have cx := hA.1.cx
      have k3 := hid (hA.hold H0.T v)
      have d1 : (0 : Int) ≤ j := by omega
      have d2 : (j : Int) < 6 := by omega
      clear h H0 qs c hl hv ev hA gv H
      go_enter Tryz.func37, Tryz.ntmps37
      go_wp2_with fail
      refine k1.out.mono ?_
      rintro e w1 ⟨rfl, hw⟩
      subst w1
      go_wp2_with fail
      refine k2.out.mono ?_
      rintro e w1 ⟨rfl, hw⟩
      subst w1
      go_wp2_with fail
      refine k3.out.mono ?_
      rintro e w2 ⟨rfl, h2⟩
      go_wp2_with fail
      go_ret2
      exact ⟨rfl, h2⟩
  · rw [show g.dup n fd = (g, 0, (g.file n fd).2) by unfold Gt.dup; rw [if_pos c]]
    have he : ¬ (g.file n fd).2 = 0 := c
    rw [file_err c] at k1
    clear h H0 c
    generalize (g.file n fd).2 = v at k1 he ⊢
    go_enter Tryz.func37, Tryz.ntmps37
    go_wp2_with fail
    refine k1.out.mono ?_
    rintro e w1 ⟨rfl, hw⟩
    subst w1
    go_wp2_with fail
    go_ret2
    exact ⟨rfl, H.out⟩

theorem setFd_twice (g : Gt) (q t : Nat) (v : Int) : ((g.empty q t).setFd q t v).Q = (g.setFd q t v).Q := by
  show updG (g.empty q t).Q q { (g.empty q t).Q q with fd := updFd ((g.empty q t).Q q).fd t v } = updG g.Q q { g.Q q with fd := updFd (g.Q q).fd t v }
  rw [empty_Q, updG_updG, updG_same]
  have e : updFd (updFd (g.Q q).fd t 0) t v = updFd (g.Q q).fd t v := by
    funext j
    unfold updFd
    split <;> rfl
  show updG g.Q q { g.Q q with fd := updFd (updFd (g.Q q).fd t 0) t v } = _
  rw [e]
theorem empty_T (g : Gt) (q t : Nat) : (g.empty q t).T = if (g.Q q).fd t = 0 then g.T else (g.T.drop ((g.Q q).fd t)).1 := by
  unfold Gt.empty
  split <;> rfl
/-- What Dup2 leaves, told as the document does it. -/
theorem dup2_eq {g : Gt} {q i t : Nat} (c : (g.file (q : Int) (i : Int)).2 = 0) (ev : (g.file (q : Int) (i : Int)).1 = (g.Q q).fd i) (ht : t < 6) (ne : t ≠ i) :
    g.dup2 (q : Int) (i : Int) (t : Int) = ({ g.setFd q t ((g.Q q).fd i) with T := ((if dfc g.T.F.d 32 = true ∨ (g.Q q).fd t = 0 then g.T else (g.T.drop ((g.Q q).fd t)).1).hold ((g.Q q).fd i)).1 }, (t : Int), 0) := by
  unfold Gt.dup2
  rw [if_neg (fun e => e c), if_neg (by omega), if_neg (by omega), Int.toNat_natCast, Int.toNat_natCast, ev]
  dsimp only
  by_cases hd : dfc g.T.F.d 32 = true
  · rw [if_pos hd, if_pos (.inl hd)]
  · rw [if_neg hd]
    have e1 : (if dfc g.T.F.d 32 = true ∨ (g.Q q).fd t = 0 then g.T else (g.T.drop ((g.Q q).fd t)).1) = (g.empty q t).T := by
      rw [empty_T]
      by_cases h0 : (g.Q q).fd t = 0
      · rw [if_pos (.inr h0), if_pos h0]
      · rw [if_neg (fun h => h.elim hd h0), if_neg h0]
    rw [e1, setFd_twice]

set_option maxHeartbeats 4000000 in
theorem r9dup2_any (h : YpTo w0 y x L g D w) (H0 : GOk g) (n fd t0 : Int) :
    Calls Tryz.prog 38 #[.pointer (some ⟨y, 0, none⟩), .int .i64 n, .int .i64 fd, .int .i64 t0] w fun e w' => e = .returned (.tuple #[.int .i64 (g.dup2 n fd t0).2.1, .int .i64 (g.dup2 n fd t0).2.2]) ∧ YpTo w0 y x L (g.dup2 n fd t0).1 D w' := by
  have k1 := hid (r9file_any h.1 n fd)
  have H := hid h
  by_cases c : (g.file n fd).2 = 0
  · obtain ⟨q, i, rfl, rfl, q1, q4, i6, qs, hv, ev⟩ := file_ok H0 c
    rw [c, ev] at k1
    have b3 : (0 : Int) ≤ q := by omega
    have b4 : (q : Int) < 5 := by omega
    by_cases ct : 0 ≤ t0 ∧ t0 < 6
    · obtain ⟨t, rfl⟩ := Int.eq_ofNat_of_zero_le ct.1
      have t6 : t < 6 := by omega
      have n1 : ¬ (t : Int) < 0 := by omega
      have n2 : ¬ 6 ≤ (t : Int) := by omega
      have hb0 : (decide ((t : Int) < 0) || decide (6 ≤ (t : Int))) = false := by simp [n1, n2]
      by_cases ei : t = i
      · subst ei
        rw [show g.dup2 (q : Int) (t : Int) (t : Int) = (g, (t : Int), 0) by unfold Gt.dup2; rw [if_neg (fun e => e c), if_neg (by omega), if_pos rfl]]
        clear h H0 qs c hv ev
        generalize (g.Q q).fd t = v at k1
        go_enter Tryz.func38, Tryz.ntmps38
        go_wp2_with fail
        refine k1.out.mono ?_
        rintro e w1 ⟨rfl, hw⟩
        subst w1
        go_wp2_with fail
        go_ret2
        exact ⟨rfl, H.out⟩
      · have HE := hid (dup2_eq c ev t6 ei)
        rw [HE.out]
        clear HE
        obtain ⟨v, gv⟩ : ∃ v, v = (g.Q q).fd i := ⟨_, rfl⟩
        rw [← gv] at k1 ⊢
        have cl := h.1.cl
        have cx := h.1.cx
        have cd := h.1.cd
        have z := h.tl.z q (by omega) t t6
        obtain ⟨u, gu⟩ : ∃ u, u = (g.Q q).fd t := ⟨_, rfl⟩
        rw [← gu] at z ⊢
        have d1 : (0 : Int) ≤ t := by omega
        have d2 : (t : Int) < 6 := by omega
        have ne : ¬ ((t : Int) = (i : Int)) := by omega
        have HT := hid H0.T
        -- the open files behind the drop
        have fin : ∀ T1 : Ft, TOk T1 → ∀ W, YpTo w0 y x L { g with T := T1 } D W → YpTo w0 y x L { ({ g with T := T1 } : Gt) with Q := (g.setFd q t v).Q } D (W.setCell ⟨L, q * 10 + 4 + t, none⟩ (.int .i64 v)) := fun T1 h1 W hW => hW.put (hW.tl.fdTo q (by omega) t t6 v) (Upd.setCell (F := (· = L)) W ⟨L, _, none⟩ _ rfl)
        have FIN := hid fin
        clear h H0 qs c hv ev gv fin
        by_cases hu : u = 0
        · rw [if_pos (.inr hu)]
          rw [hu] at z
          clear gu hu
          have fz := H.out.tl.fz (q * 10 + 4 + t)
          have hA := FIN.out g.T HT.out w H.out
          have cx2 := hA.1.cx
          have k3 := hid (hA.hold HT.out v)
          clear hA H FIN
          go_enter Tryz.func38, Tryz.ntmps38
          go_wp2_with fail
          refine k1.out.mono ?_
          rintro e w1 ⟨rfl, hw⟩
          subst w1
          go_wp2_with fail
          refine k3.out.mono ?_
          rintro e w2 ⟨rfl, h2⟩
          go_wp2_with fail
          go_ret2
          exact ⟨rfl, h2⟩
        cases hd : dfc g.T.F.d 32
        · rw [if_neg (by intro h; rcases h with h | h; exact absurd h (by decide); exact hu h)]
          obtain ⟨hb1, hb2⟩ := ddfc_f hd
          have k2 := hid (H.out.dropf HT.out u)
          have HT2 := hid (HT.out.drop u)
          clear gu H hd
          go_enter Tryz.func38, Tryz.ntmps38
          go_wp2_with fail
          refine k1.out.mono ?_
          rintro e w1 ⟨rfl, hw⟩
          subst w1
          go_wp2_with fail
          refine k2.out.mono ?_
          rintro e w2 ⟨rfl, h2⟩
          have cl' := h2.1.cl
          have fz := h2.tl.fz (q * 10 + 4 + t)
          have z' := h2.tl.z q (by omega) t t6
          have z' : w2.cell? ⟨L, q * 10 + 4 + t, none⟩ = some (.int .i64 ((g.Q q).fd t)) := z'
          have hA := FIN.out (g.T.drop u).1 HT2.out w2 h2
          have cx2 := hA.1.cx
          have k3 := hid (hA.hold HT2.out v)
          clear hA FIN h2 k2 z cl cx cd
          go_wp2_with fail
          refine k3.out.mono ?_
          rintro e w2 ⟨rfl, h2⟩
          go_wp2_with fail
          go_ret2
          exact ⟨rfl, h2⟩
        · rw [if_pos (.inl rfl)]
          obtain ⟨hb1, hb2⟩ := ddfc_t hd
          clear gu hd
          have fz := H.out.tl.fz (q * 10 + 4 + t)
          have hA := FIN.out g.T HT.out w H.out
          have cx2 := hA.1.cx
          have k3 := hid (hA.hold HT.out v)
          clear hA H FIN
          go_enter Tryz.func38, Tryz.ntmps38
          go_wp2_with fail
          refine k1.out.mono ?_
          rintro e w1 ⟨rfl, hw⟩
          subst w1
          go_wp2_with fail
          refine k3.out.mono ?_
          rintro e w2 ⟨rfl, h2⟩
          go_wp2_with fail
          go_ret2
          exact ⟨rfl, h2⟩
    · rw [show g.dup2 (q : Int) (i : Int) t0 = (g, 0, 9) by unfold Gt.dup2; rw [if_neg (fun e => e c), if_pos (by omega)]]
      clear h H0 qs c hv ev
      generalize (g.Q q).fd i = v at k1
      by_cases c5 : t0 < 0
      · have hb0 : (decide (t0 < 0) || decide (6 ≤ t0)) = true := by simp [c5]
        go_enter Tryz.func38, Tryz.ntmps38
        go_wp2_with fail
        refine k1.out.mono ?_
        rintro e w1 ⟨rfl, hw⟩
        subst w1
        go_wp2_with fail
        go_ret2
        exact ⟨rfl, H.out⟩
      · have c6 : 6 ≤ t0 := by omega
        go_enter Tryz.func38, Tryz.ntmps38
        go_wp2_with fail
        refine k1.out.mono ?_
        rintro e w1 ⟨rfl, hw⟩
        subst w1
        go_wp2_with fail
        go_ret2
        exact ⟨rfl, H.out⟩
  · rw [show g.dup2 n fd t0 = (g, 0, (g.file n fd).2) by unfold Gt.dup2; rw [if_pos c]]
    have he : ¬ (g.file n fd).2 = 0 := c
    rw [file_err c] at k1
    clear h H0 c
    generalize (g.file n fd).2 = v at k1 he ⊢
    go_enter Tryz.func38, Tryz.ntmps38
    go_wp2_with fail
    refine k1.out.mono ?_
    rintro e w1 ⟨rfl, hw⟩
    subst w1
    go_wp2_with fail
    go_ret2
    exact ⟨rfl, H.out⟩
end

end Go.Proofs.YtbglhmcahnkbfaaGreat

/- The document's processes: Exit, Kill. -/
namespace Go.Proofs.YtbglhmcahnkbfaaGreat
open Go.RowKit Go.ChangeMaps Go.MapKept
set_option linter.unusedVariables false
set_option maxRecDepth 20000

theorem setFd_same {g : Gt} {q j : Nat} (h : (g.Q q).fd j = 0) : g.setFd q j 0 = g := by
  have e1 : updFd (g.Q q).fd j 0 = (g.Q q).fd := by
    funext i
    unfold updFd
    split
    · rename_i e; rw [e, h]
    · rfl
  have e2 : updG g.Q q { g.Q q with fd := updFd (g.Q q).fd j 0 } = g.Q := by
    rw [e1]
    funext i
    unfold updG
    split
    · rename_i e; rw [e]
    · rfl
  show ({ g with Q := updG g.Q q { g.Q q with fd := updFd (g.Q q).fd j 0 } } : Gt) = g
  rw [e2]
theorem close_empty {g : Gt} {q j : Nat} (h1 : 1 ≤ q) (h4 : q ≤ 4) (hs : (g.Q q).st = 1) (hj : j < 6) : (g.close (q : Int) (j : Int)).1 = g.empty q j := by
  have hr : g.runs (q : Int) = true := by
    unfold Gt.runs
    rw [decide_eq_true_eq, Int.toNat_natCast]
    exact ⟨by omega, by omega, hs⟩
  by_cases h0 : (g.Q q).fd j = 0
  · have e : g.file (q : Int) (j : Int) = (0, 9) := by unfold Gt.file; rw [if_neg (by rw [hr]; decide), if_pos (by rw [Int.toNat_natCast, Int.toNat_natCast]; exact .inr (.inr h0))]
    unfold Gt.close
    rw [e, if_pos (show (9 : Int) ≠ 0 by decide)]
    unfold Gt.empty
    rw [if_pos h0, setFd_same h0]
  · have e : g.file (q : Int) (j : Int) = ((g.Q q).fd j, 0) := by unfold Gt.file; rw [if_neg (by rw [hr]; decide), if_neg (by rw [Int.toNat_natCast, Int.toNat_natCast]; omega), Int.toNat_natCast, Int.toNat_natCast]
    unfold Gt.close
    rw [e, if_neg (fun h => h rfl), Int.toNat_natCast, Int.toNat_natCast]
theorem lvTo_1 {Q : Nat → Gp} (q : Nat) (h0 : Q 0 = noGp) : lvTo Q q 1 = Q := by
  funext n
  unfold lvTo
  split
  · rename_i e
    obtain rfl : n = 0 := by omega
    unfold Gt.leave
    rw [h0, if_neg (fun h => h.1 rfl)]
  · rfl
theorem leave_pa {Q : Nat → Gp} (q n : Nat) (h : 0 ≤ (Q n).pa ∧ (Q n).pa ≤ 4) : 0 ≤ (Gt.leave Q q n).pa ∧ (Gt.leave Q q n).pa ≤ 4 := by
  unfold Gt.leave
  split
  · split
    · exact ⟨Int.le_refl 0, show (0 : Int) ≤ 4 by decide⟩
    · exact ⟨Int.le_refl 0, show (0 : Int) ≤ 4 by decide⟩
  · exact h
def zer10 : List Value := [.int .i64 0, .int .i64 0, .int .i64 0, .int .i64 0, .int .i64 0, .int .i64 0, .int .i64 0, .int .i64 0, .int .i64 0, .int .i64 0]
theorem gpD_no (j : Nat) : gpD j noGp = zer10 := by
  have e : nmD j noGp = 0 := by unfold nmD; rw [if_pos (show noGp.st = 0 from rfl)]
  unfold gpD
  rw [e]
  rfl
theorem builtPi : Tryz.prog.built 42 [] = some zer10.toArray := by kernel_rfl
theorem csizePi : (Tryz.prog.info? 42).map (·.size) = some 10 := by kernel_rfl

section
variable {w0 w w' : World} {y x L : Nat} {g : Gt} {D : Nat → Prop}
set_option maxHeartbeats 8000000 in
theorem r9exit_any (h : YpTo w0 y x L g D w) (H0 : GOk g) (n co : Int) :
    Calls Tryz.prog 28 #[.pointer (some ⟨y, 0, none⟩), .int .i64 n, .int .i64 co] w fun e w' => e = .returned (.int .i64 (g.exit n co).2) ∧ YpTo w0 y x L (g.exit n co).1 D w' := by
  unfold Gt.exit
  have H := hid h
  cases hr : g.runs n
  · rw [if_pos rfl]
    have k1 := hid (r9runs_any h.1 n false hr.symm)
    clear h hr H0
    go_enter Tryz.func28, Tryz.ntmps28
    go_wp2_with fail
    refine k1.out.mono ?_
    rintro e w1 ⟨rfl, hw⟩
    subst w1
    go_wp2_with fail
    go_ret
    exact ⟨rfl, H.out⟩
  rw [if_neg (by decide)]
  have k1 := hid (r9runs_any h.1 n true hr.symm)
  obtain ⟨q, rfl, h1, h4, hs⟩ := qrn_lt hr
  rw [Int.toNat_natCast]
  have HE := hid (H0.empties q hs)
  obtain ⟨N, gN⟩ : ∃ N, N = zer10 := ⟨_, rfl⟩
  have HSZ : Hid ((Tryz.prog.info? 42).map (·.size) = some N.toArray.size) := by rw [gN]; exact hid csizePi
  have HBU : Hid (Tryz.prog.built 42 [] = some N.toArray) := by rw [gN]; exact hid builtPi
  have HO1 : Hid (N.toArray.all (·.oneCell') = true) := by rw [gN]; exact hid (by simp [zer10, Value.oneCell'])
  have HT2 : Hid (10 = N.toArray.size) := by rw [gN]; exact hid rfl
  have GN : Hid (∀ j, gpD j noGp = N) := hid (fun j => by rw [gN, gpD_no])
  have b3 : (0 : Int) ≤ q := by omega
  have b4 : (q : Int) < 5 := by omega
  clear h hr hs gN
  go_enter Tryz.func28, Tryz.ntmps28
  go_wp2_with fail
  refine k1.out.mono ?_
  rintro e w1 ⟨rfl, hw⟩
  subst w1
  clear k1
  go_wp2_with fail
  go_loopw [13] (fun s wr => ∃ j : Nat, j ≤ 6 ∧ s = .int .i64 (j : Int) ∧ Hid (YpTo w0 y x L (g.empties q j) D wr)) (fun s _ => 6 - (intOf s).toNat)
  case atStart => exact ⟨0, by omega, rfl, H⟩
  case round =>
    clear H
    obtain ⟨j, hj6, rfl, HR⟩ := hrel
    by_cases e6 : j = 6
    · subst e6
      obtain ⟨g6, gg6⟩ : ∃ g6, g6 = g.empties q 6 := ⟨_, rfl⟩
      have HG6 : Hid (GOk g6 ∧ (g6.Q q).st = 1) := by rw [gg6]; exact hid ⟨(HE.out 6 (Nat.le_refl _)).1, (HE.out 6 (Nat.le_refl _)).2.1⟩
      rw [← gg6] at HR
      have GG6 := hid gg6
      clear gg6 HE
      have cl := HR.out.1.cl
      have cs := HR.out.tl.st q (by omega)
      have cc := HR.out.tl.co q (by omega)
      have f0 := HR.out.tl.fz (q * 10 + 2)
      have f2 := HR.out.tl.fz (q * 10 + 3)
      obtain ⟨c, gc⟩ : ∃ c, c = co % 256 := ⟨_, rfl⟩
      obtain ⟨Q0, gQ0⟩ : ∃ Q0, Q0 = updG g6.Q q { g6.Q q with st := 2, co := c } := ⟨_, rfl⟩
      obtain ⟨W3, gW3⟩ : ∃ W3, W3 = ((wr.setCell ⟨L, q * 10 + 2, none⟩ (.int .i64 2)).setCell ⟨L, q * 10 + 3, none⟩ (.int .i64 (co % 256))).drew := ⟨_, rfl⟩
      have hA : YpTo w0 y x L { g6 with Q := Q0 } D W3 := by
        have a := HR.out.put (HR.out.tl.stTo q (by omega) 2 (by decide) (by rw [HG6.out.2]; decide)) (Upd.setCell (F := (· = L)) wr ⟨L, _, none⟩ _ rfl)
        have b := a.put (a.tl.coTo q (by omega) c) (Upd.setCell (F := (· = L)) _ ⟨L, _, none⟩ _ rfl)
        have e : updG (updG g6.Q q { g6.Q q with st := 2 }) q { (updG g6.Q q { g6.Q q with st := 2 } q) with co := c } = Q0 := by
          rw [gQ0, updG_updG, updG_same]
        have b' : YpTo w0 y x L { g6 with Q := updG (updG g6.Q q { g6.Q q with st := 2 }) q { (updG g6.Q q { g6.Q q with st := 2 } q) with co := c } } D ((wr.setCell ⟨L, q * 10 + 2, none⟩ (.int .i64 2)).setCell ⟨L, q * 10 + 3, none⟩ (.int .i64 c)) := b
        rw [e, gc] at b'
        rw [gW3]
        exact b'.drew
      have hz0 : ∀ i, (Q0 i).st = 0 → Q0 i = noGp := fun i hi => by
        rw [gQ0] at hi ⊢
        by_cases e : i = q
        · subst e; rw [updG_same] at hi; exact absurd (show (2 : Int) = 0 from hi) (by decide)
        · rw [updG_ne _ _ _ _ e] at hi ⊢; exact HG6.out.1.none i hi
      have ho0 : ∀ i, i = 0 ∨ 5 ≤ i → Q0 i = noGp := fun i hi => by
        rw [gQ0, updG_ne _ _ _ _ (by omega)]; exact HG6.out.1.out i hi
      have hpa0 : 0 ≤ (Q0 q).pa ∧ (Q0 q).pa ≤ 4 := by
        rw [gQ0, updG_same]
        show 0 ≤ (g6.Q q).pa ∧ (g6.Q q).pa ≤ 4
        rcases HG6.out.1.pa q with h | h
        · exact ⟨h.1, h.2.1⟩
        · rw [h]; decide
      have HPA := hid (leave_pa q q hpa0)
      have HZ0 := hid hz0
      have HO0 := hid ho0
      have HA := hid hA
      have HF : Hid (g6.ended q (co % 256) = { g6 with Q := if qrn (Gt.leave Q0 q) (Gt.leave Q0 q q).pa = true then Gt.leave Q0 q else updG (Gt.leave Q0 q) q noGp }) := by
        refine hid ?_
        unfold Gt.ended
        rw [gQ0, gc]
        rfl
      have GW3 := hid gW3
      clear hA hz0 ho0 gQ0 gc HR HG6 hpa0 gW3
      generalize (g6.Q q).st = s at cs
      generalize (g6.Q q).co = s2 at cc
      go_wp2_with fail
      go_region
      rw [← GW3.out]
      generalize ((6 : Nat) : Int) = m6
      clear GW3 cs cc f0 f2 cl
      have HA1 : Hid (YpTo w0 y x L { g6 with Q := lvTo Q0 q 1 } D W3) := hid (by rw [lvTo_1 q (HO0.out 0 (.inl rfl))]; exact HA.out)
      have HL5 := hid (lvTo_all q (fun i hi => HO0.out i (.inr hi)))
      clear HA HO0
      go_wp2_with fail
      go_loopw [8] (fun s wr => ∃ j : Nat, 1 ≤ j ∧ j ≤ 5 ∧ s = .int .i64 (j : Int) ∧ Hid (YpTo w0 y x L { g6 with Q := lvTo Q0 q j } D wr)) (fun s _ => 5 - (intOf s).toNat)
      case atStart => exact ⟨1, by omega, by omega, rfl, HA1⟩
      case round =>
        clear HA1
        obtain ⟨j, hj1, hj5, rfl, HR⟩ := hrel
        rename World => wr
        by_cases e5 : j = 5
        · subst e5
          have HR5 : Hid (YpTo w0 y x L { g6 with Q := Gt.leave Q0 q } D wr) := by rw [HL5.out] at HR; exact HR
          clear HR HL5
          obtain ⟨Q1, gQ1⟩ : ∃ Q1, Q1 = Gt.leave Q0 q := ⟨_, rfl⟩
          rw [← gQ1] at HR5 HF HPA
          have cl := HR5.out.1.cl
          have cp : wr.cell? ⟨L, q * 10 + 1, none⟩ = some (.int .i64 (Q1 q).pa) := HR5.out.tl.pa q (by omega)
          have hpa := HPA.out
          cases hb : qrn Q1 (Q1 q).pa
          · have k3 := hid (r9over_any HR5.out.1 (Q1 q).pa hpa.1 hpa.2 true (by rw [show ({ g6 with Q := Q1 } : Gt).Q = Q1 from rfl, hb]; rfl))
            have hth := HR5.out.tl.th q (by omega)
            have hB : YpTo w0 y x L (g6.ended q (co % 256)) D (wr.setCells L (q * 10) (gpD q noGp)) := by
              rw [HF.out, if_neg (by rw [hb]; decide)]
              exact HR5.out.put (HR5.out.tl.put q (by omega) noGp) (upd_setCells L (gpD q noGp) _ _)
            rw [GN.out, GG6.out] at hB
            have HB := hid hB
            have HTH := hid hth
            clear hB hth hb HF HR5 gQ1 hpa HPA
            generalize (Q1 q).pa = a at cp k3
            go_wp2_with fail
            refine k3.out.mono ?_
            rintro e w3 ⟨rfl, h3⟩
            subst w3
            go_wp2_with (first
              | (refine wpList_build_is rfl 42 #[] rfl N.toArray (by simpa using HBU.out) ?_)
              | (refine wpList_store_mid rfl 42 (.tmp 102) (.tmp 101) rfl L (q * 10) N.toArray rfl rfl (by rw [← HT2.out]; exact HTH.out) HSZ.out HO1.out ?_))
            go_ret
            exact ⟨rfl, HB.out⟩
          · have k3 := hid (r9over_any HR5.out.1 (Q1 q).pa hpa.1 hpa.2 false (by rw [show ({ g6 with Q := Q1 } : Gt).Q = Q1 from rfl, hb]; rfl))
            have hB : YpTo w0 y x L (g6.ended q (co % 256)) D wr := by
              rw [HF.out, if_pos hb]
              exact HR5.out
            rw [GG6.out] at hB
            have HB := hid hB
            clear hB hb HF HR5 gQ1 hpa HPA
            generalize (Q1 q).pa = a at cp k3
            go_wp2_with fail
            refine k3.out.mono ?_
            rintro e w3 ⟨rfl, h3⟩
            subst w3
            go_wp2_with fail
            go_ret
            exact ⟨rfl, HB.out⟩
        · have hj : j < 5 := by omega
          have c3 : (0 : Int) ≤ j := by omega
          have c4 : (j : Int) < 5 := by omega
          have c5 : (j : Int) ≤ 4 := by omega
          have cl := HR.out.1.cl
          have eat : lvTo Q0 q j j = Q0 j := lvTo_at _ _ _
          have cp : wr.cell? ⟨L, j * 10 + 1, none⟩ = some (.int .i64 (Q0 j).pa) := by rw [← eat]; exact HR.out.tl.pa j hj
          have cs : wr.cell? ⟨L, j * 10 + 2, none⟩ = some (.int .i64 (Q0 j).st) := by rw [← eat]; exact HR.out.tl.st j hj
          have fz := HR.out.tl.fz (j * 10 + 1)
          by_cases e0 : (Q0 j).st = 0
          · have HR' : Hid (YpTo w0 y x L { g6 with Q := lvTo Q0 q (j + 1) } D wr) := hid (by
              rw [lvTo_same _ _ _ (by unfold Gt.leave; rw [if_neg (fun h => h.1 e0)])]
              exact HR.out)
            rw [e0] at cs
            clear HR eat e0 HF HPA HL5 HZ0
            generalize (Q0 j).pa = a at cp
            go_wp2_with fail
            go_roundw
            case rel => exact ⟨j + 1, by omega, by omega, by go_num, HR'⟩
            case measure => simp [intOf]; omega
          · by_cases ep : (Q0 j).pa = (q : Int)
            · rw [ep] at cp
              by_cases e2 : (Q0 j).st = 2
              · have hth := HR.out.tl.th j hj
                have hB : YpTo w0 y x L { g6 with Q := lvTo Q0 q (j + 1) } D (wr.setCells L (j * 10) (gpD j noGp)) := by
                  have := HR.out.put (HR.out.tl.put j hj noGp) (upd_setCells L (gpD j noGp) _ _)
                  rw [show updG ({ g6 with Q := lvTo Q0 q j } : Gt).Q j noGp = lvTo Q0 q (j + 1) from lvTo_upd _ _ _ _ (by unfold Gt.leave; rw [if_pos ⟨e0, ep⟩, if_pos e2])] at this
                  exact this
                rw [GN.out] at hB
                rw [e2] at cs
                have HB := hid hB
                have HTH := hid hth
                clear hB hth HR eat ep e0 e2 HF HPA HL5 HZ0
                go_wp2_with (first
                  | (refine wpList_build_is rfl 42 #[] rfl N.toArray (by simpa using HBU.out) ?_)
                  | (refine wpList_store_mid rfl 42 (.tmp 78) (.tmp 77) rfl L (j * 10) N.toArray rfl rfl (by rw [← HT2.out]; exact HTH.out) HSZ.out HO1.out ?_))
                go_roundw
                case rel => exact ⟨j + 1, by omega, by omega, by go_num, HB⟩
                case measure => simp [intOf]; omega
              · have hB : YpTo w0 y x L { g6 with Q := lvTo Q0 q (j + 1) } D (wr.setCell ⟨L, j * 10 + 1, none⟩ (.int .i64 0)) := by
                  have := HR.out.put (HR.out.tl.paTo j hj 0) (Upd.setCell (F := (· = L)) wr ⟨L, _, none⟩ _ rfl)
                  have e3 : ({ ({ g6 with Q := lvTo Q0 q j } : Gt).Q j with pa := 0 } : Gp) = { Q0 j with pa := 0 } := by rw [show ({ g6 with Q := lvTo Q0 q j } : Gt).Q j = Q0 j from eat]
                  rw [e3] at this
                  have this : YpTo w0 y x L { g6 with Q := updG (lvTo Q0 q j) j { Q0 j with pa := 0 } } D (wr.setCell ⟨L, j * 10 + 1, none⟩ (.int .i64 0)) := this
                  rw [lvTo_upd _ _ _ _ (by unfold Gt.leave; rw [if_pos ⟨e0, ep⟩, if_neg e2])] at this
                  exact this
                have HB := hid hB
                clear hB HR eat ep HF HPA HL5 HZ0
                generalize (Q0 j).st = s at cs e2 e0
                go_wp2_with fail
                go_roundw
                case rel => exact ⟨j + 1, by omega, by omega, by go_num, HB⟩
                case measure => simp [intOf]; omega
            · have HR' : Hid (YpTo w0 y x L { g6 with Q := lvTo Q0 q (j + 1) } D wr) := hid (by
                rw [lvTo_same _ _ _ (by unfold Gt.leave; rw [if_neg (fun h => ep h.2)])]
                exact HR.out)
              clear HR eat HF HPA HL5 HZ0
              generalize (Q0 j).pa = a at cp ep
              generalize (Q0 j).st = s at cs e0
              have hb2 : (a != (q : Int)) = true := by simp [ep]
              have hb : (s == 0 || a != (q : Int)) = true := by simp [ep]
              go_wp2_with fail
              all_goals
                go_roundw
                case rel => exact ⟨j + 1, by omega, by omega, by go_num, HR'⟩
                case measure => simp [intOf]; omega
    · have hj : j < 6 := by omega
      have c3 : (0 : Int) ≤ j := by omega
      have c4 : (j : Int) < 6 := by omega
      have k2 := hid (r9close_any HR.out (HE.out j (by omega)).1 (q : Int) (j : Int))
      have HC := hid (close_empty h1 h4 (HE.out j (by omega)).2.1 hj)
      clear HR
      go_wp2_with fail
      refine k2.out.mono ?_
      rintro e2 w2 ⟨rfl, h2⟩
      rw [HC.out] at h2
      have HR2 := hid h2
      clear h2 k2 HC
      go_wp2_with fail
      go_roundw
      case rel => exact ⟨j + 1, by omega, by go_num, HR2⟩
      case measure => simp [intOf]; omega

set_option maxHeartbeats 1000000 in
theorem r9kill_any (h : YpTo w0 y x L g D w) (H0 : GOk g) (n t : Int) :
    Calls Tryz.prog 32 #[.pointer (some ⟨y, 0, none⟩), .int .i64 n, .int .i64 t] w fun e w' => e = .returned (.int .i64 (g.kill n t).2) ∧ YpTo w0 y x L (g.kill n t).1 D w' := by
  unfold Gt.kill
  have k3 := hid (r9exit_any h H0 t 128)
  have H := hid h
  cases hr : g.runs n
  · rw [if_pos rfl]
    have k1 := hid (r9runs_any h.1 n false hr.symm)
    clear h hr H0 k3
    go_enter Tryz.func32, Tryz.ntmps32
    go_wp2_with fail
    refine k1.out.mono ?_
    rintro e w1 ⟨rfl, h⟩
    subst w1
    go_wp2_with fail
    go_ret
    exact ⟨rfl, H.out⟩
  rw [if_neg (by decide)]
  have k1 := hid (r9runs_any h.1 n true hr.symm)
  cases ht : g.runs t
  · rw [if_pos rfl]
    have k2 := hid (r9runs_any h.1 t false ht.symm)
    clear h hr H0 ht k3
    go_enter Tryz.func32, Tryz.ntmps32
    go_wp2_with fail
    refine k1.out.mono ?_
    rintro e w1 ⟨rfl, h⟩
    subst w1
    go_wp2_with fail
    refine k2.out.mono ?_
    rintro e w1 ⟨rfl, h⟩
    subst w1
    go_wp2_with fail
    go_ret
    exact ⟨rfl, H.out⟩
  rw [if_neg (by decide)]
  have k2 := hid (r9runs_any h.1 t true ht.symm)
  clear h hr H0 ht
  by_cases e1 : t = 1
  · by_cases e2 : n = 1
    · rw [if_neg (fun e => e.2 e2)]
      subst e1
      subst e2
      clear H
      go_enter Tryz.func32, Tryz.ntmps32
      go_wp2_with fail
      refine k1.out.mono ?_
      rintro e w1 ⟨rfl, h⟩
      subst w1
      go_wp2_with fail
      refine k2.out.mono ?_
      rintro e w1 ⟨rfl, h⟩
      subst w1
      go_wp2_with fail
      refine k3.out.mono ?_
      rintro e w2 ⟨rfl, h⟩
      go_wp2_with fail
      go_ret
      exact ⟨rfl, h⟩
    · rw [if_pos ⟨e1, e2⟩]
      subst e1
      clear k3
      go_enter Tryz.func32, Tryz.ntmps32
      go_wp2_with fail
      refine k1.out.mono ?_
      rintro e w1 ⟨rfl, h⟩
      subst w1
      go_wp2_with fail
      refine k2.out.mono ?_
      rintro e w1 ⟨rfl, h⟩
      subst w1
      go_wp2_with fail
      go_ret
      exact ⟨rfl, H.out⟩
  · rw [if_neg (fun e => e1 e.1)]
    clear H
    go_enter Tryz.func32, Tryz.ntmps32
    go_wp2_with fail
    refine k1.out.mono ?_
    rintro e w1 ⟨rfl, h⟩
    subst w1
    go_wp2_with fail
    refine k2.out.mono ?_
    rintro e w1 ⟨rfl, h⟩
    subst w1
    go_wp2_with fail
    refine k3.out.mono ?_
    rintro e w2 ⟨rfl, h⟩
    go_wp2_with fail
    go_ret
    exact ⟨rfl, h⟩
end

end Go.Proofs.YtbglhmcahnkbfaaGreat

/- The document's processes: Fork. -/
namespace Go.Proofs.YtbglhmcahnkbfaaGreat
open Go.RowKit Go.ChangeMaps Go.MapKept
set_option linter.unusedVariables false
set_option maxRecDepth 20000

section
variable {w0 w w' : World} {y x L : Nat} {g : Gt} {D : Nat → Prop}
set_option maxHeartbeats 8000000 in
theorem r9fork_any (h : YpTo w0 y x L g D w) (H0 : GOk g) (n : Int) :
    Calls Tryz.prog 27 #[.pointer (some ⟨y, 0, none⟩), .int .i64 n] w fun e w' => e = .returned (.tuple #[.int .i64 (g.fork n).2.1, .int .i64 (g.fork n).2.2]) ∧ YpTo w0 y x L (g.fork n).1 D w' := by
  have H := hid h
  cases hr : g.runs n
  · rw [show g.fork n = (g, 0, 3) by unfold Gt.fork; rw [if_pos hr]]
    have k1 := hid (r9runs_any h.1 n false hr.symm)
    clear h hr H0
    go_enter Tryz.func27, Tryz.ntmps27
    go_wp2_with fail
    refine k1.out.mono ?_
    rintro e w1 ⟨rfl, hw⟩
    subst w1
    go_wp2_with fail
    go_ret2
    exact ⟨rfl, H.out⟩
  have k1 := hid (r9runs_any h.1 n true hr.symm)
  obtain ⟨q, rfl, h1, h4, hs⟩ := qrn_lt hr
  have hE0 : frQ g.Q = 0 → g.fork (q : Int) = (g, 0, 11) := fun e => by
    unfold Gt.fork; rw [if_neg (by rw [hr]; decide), frQ_free, if_pos e]
  obtain ⟨F, gF⟩ : ∃ F, F = (g.Q q).fd := ⟨_, rfl⟩
  have hE1 : ∀ j, 1 ≤ j → frQ g.Q = j → g.fork (q : Int) = (⟨updG g.Q j ⟨1, (q : Int), 0, F⟩, if dfc g.T.F.d 16 = true then g.T else Gt.holdAll g.T F 6⟩, (j : Int), 0) := fun j h1 e => by
    unfold Gt.fork; rw [if_neg (by rw [hr]; decide), frQ_free, e, if_neg (by omega), Int.toNat_natCast, ← gF]
  have HE0 := hid hE0
  have HE1 := hid hE1
  have GF := hid gF
  have HT := hid H0.T
  have b3 : (0 : Int) ≤ q := by omega
  have b4 : (q : Int) < 5 := by omega
  have HS := hid hs
  clear h hr hs hE0 hE1 gF H0
  go_enter Tryz.func27, Tryz.ntmps27
  go_wp2_with fail
  refine k1.out.mono ?_
  rintro e w1 ⟨rfl, hw⟩
  subst w1
  clear k1
  go_wp2_with fail
  go_loopw [6] (fun s wr => ∃ j : Nat, 1 ≤ j ∧ j ≤ 5 ∧ s = .int .i64 (j : Int) ∧ Hid (∀ i, 1 ≤ i → i < j → (g.Q i).st ≠ 0) ∧ Hid (YpTo w0 y x L g D wr)) (fun s _ => 5 - (intOf s).toNat)
  case atStart => exact ⟨1, by omega, by omega, rfl, hid (fun i h1 h2 => by omega), H⟩
  case round =>
    clear H
    obtain ⟨c, c1, c5, rfl, HP, HR⟩ := hrel
    by_cases e5 : c = 5
    · have HE := hid (HE0.out (frQ_none (fun i a b => HP.out i a (by omega))))
      subst e5
      clear HP HE0 HE1
      go_wp2_with fail
      go_ret2
      exact ⟨by rw [HE.out]; rfl, by rw [HE.out]; exact HR.out⟩
    · have hc : c < 5 := by omega
      have a3 : (0 : Int) ≤ c := by omega
      have a4 : (c : Int) < 5 := by omega
      have a5 : (c : Int) ≤ 4 := by omega
      have cl := HR.out.1.cl
      have y2 := HR.out.tl.st c hc
      by_cases hz : (g.Q c).st = 0
      · have HE := hid (HE1.out c c1 (frQ_pre (by omega) HP.out c1 hz))
        have hcq : c ≠ q := fun e => by rw [e, HS.out] at hz; exact absurd hz (by decide)
        have t := HR.out.tl
        have z0 := t.z q (by omega) 0 (by omega)
        have z1 := t.z q (by omega) 1 (by omega)
        have z2 := t.z q (by omega) 2 (by omega)
        have z3 := t.z q (by omega) 3 (by omega)
        have z4 := t.z q (by omega) 4 (by omega)
        have z5 := t.z q (by omega) 5 (by omega)
        have y0 := t.nm c (by omega)
        have y1 := t.pa c (by omega)
        have y3 := t.co c (by omega)
        have y4 := t.z c (by omega) 0 (by omega)
        have y5 := t.z c (by omega) 1 (by omega)
        have y6 := t.z c (by omega) 2 (by omega)
        have y7 := t.z c (by omega) 3 (by omega)
        have y8 := t.z c (by omega) 4 (by omega)
        have y9 := t.z c (by omega) 5 (by omega)
        have v0 := t.fz (c * 10)
        have v1 := t.fz (c * 10 + 1)
        have v2 := t.fz (c * 10 + 2)
        have v3 := t.fz (c * 10 + 3)
        have v4 := t.fz (c * 10 + 4)
        have v5 := t.fz (c * 10 + 5)
        have v6 := t.fz (c * 10 + 6)
        have v7 := t.fz (c * 10 + 7)
        have v8 := t.fz (c * 10 + 8)
        have v9 := t.fz (c * 10 + 9)
        rw [Nat.add_zero] at z0 y4
        rw [← GF.out] at z0 z1 z2 z3 z4 z5
        rw [hz] at y2
        have hnm : nmD c (⟨1, (q : Int), 0, F⟩ : Gp) = (c : Int) := by unfold nmD; rw [if_neg (show ¬ (1 : Int) = 0 by decide)]
        obtain ⟨g1, gg1⟩ : ∃ g1 : Gt, g1 = { g with Q := updG g.Q c ⟨1, (q : Int), 0, F⟩ } := ⟨_, rfl⟩
        have hA : YpTo w0 y x L g1 D (wr.setCells L (c * 10) (gpD c ⟨1, (q : Int), 0, F⟩)).drew := by
          rw [gg1]
          exact (HR.out.put (t.put c (by omega) _) (upd_setCells L _ _ _)).drew
        have hT1 : g1.T = g.T := by rw [gg1]
        have hQ1 : (g1.Q c).fd = F := by rw [gg1]; show (updG g.Q c _ c).fd = _; rw [updG_same]
        have HFin : Hid ((⟨updG g.Q c ⟨1, (q : Int), 0, F⟩, if dfc g.T.F.d 16 = true then g.T else Gt.holdAll g.T F 6⟩ : Gt) = { g1 with T := if dfc g1.T.F.d 16 = true then g1.T else Gt.holdAll g1.T F 6 }) := hid (by rw [gg1])
        rw [HFin.out] at HE
        have HA := hid hA
        have HF1 := hid hQ1
        have HTk : Hid (TOk g1.T) := hid (by rw [hT1]; exact HT.out)
        have HNM := hid hnm
        clear HR HP HE0 HE1 hA hT1 hQ1 gg1 t hz HFin hnm hcq
        generalize nmD c (g.Q c) = s0 at y0
        generalize (g.Q c).pa = s1 at y1
        generalize (g.Q c).co = s3 at y3
        generalize (g.Q c).fd 0 = s4 at y4
        generalize (g.Q c).fd 1 = s5 at y5
        generalize (g.Q c).fd 2 = s6 at y6
        generalize (g.Q c).fd 3 = s7 at y7
        generalize (g.Q c).fd 4 = s8 at y8
        generalize (g.Q c).fd 5 = s9 at y9
        go_wp2_with fail
        go_region
        obtain ⟨W2, g2⟩ : ∃ W2, W2 = ((((((((((wr.setCell ⟨L, c * 10, none⟩ (.int .i64 (c : Int))).setCell ⟨L, c * 10 + 1, none⟩ (.int .i64 (q : Int))).setCell ⟨L, c * 10 + 2, none⟩ (.int .i64 1)).setCell ⟨L, c * 10 + 3, none⟩ (.int .i64 0)).setCell ⟨L, c * 10 + 4, none⟩ (.int .i64 (F 0))).setCell ⟨L, c * 10 + 5, none⟩ (.int .i64 (F 1))).setCell ⟨L, c * 10 + 6, none⟩ (.int .i64 (F 2))).setCell ⟨L, c * 10 + 7, none⟩ (.int .i64 (F 3))).setCell ⟨L, c * 10 + 8, none⟩ (.int .i64 (F 4))).setCell ⟨L, c * 10 + 9, none⟩ (.int .i64 (F 5))).drew := ⟨_, rfl⟩
        have e2 : W2 = (wr.setCells L (c * 10) (gpD c ⟨1, (q : Int), 0, F⟩)).drew := by
          have e3 : gpD c (⟨1, (q : Int), 0, F⟩ : Gp) = [.int .i64 (c : Int), .int .i64 (q : Int), .int .i64 1, .int .i64 0, .int .i64 (F 0), .int .i64 (F 1), .int .i64 (F 2), .int .i64 (F 3), .int .i64 (F 4), .int .i64 (F 5)] := by
            unfold gpD
            rw [HNM.out]
          rw [e3]
          exact g2
        rw [← g2]
        have ha := HA.out
        rw [← e2] at ha
        have HA2 := hid ha
        clear HA ha e2 g2 z0 z1 z2 z3 z4 z5 y0 y1 y2 y3 y4 y5 y6 y7 y8 y9 v0 v1 v2 v3 v4 v5 v6 v7 v8 v9 cl HNM
        have cl := HA2.out.1.cl
        have HRg : Hid (W2.rangeAt L (c * 10 + 4) (fdV F)) := by
          have := HA2.out.tl.fds c (by omega)
          rw [HF1.out] at this
          exact hid this
        obtain ⟨V, gV⟩ : ∃ V, V = fdV F := ⟨_, rfl⟩
        have HSZ : Hid ((Tryz.prog.info? 40).map (·.size) = some V.length) := by rw [gV]; exact hid csizeF6
        have HIX : Hid (∀ j : Nat, j < 6 → ∀ W : World, (Instr.index 40 (.agg V.toArray) (.int .i64 (j : Int))).run Tryz.prog W = .ok (.int .i64 (F j)) W) := by rw [gV]; exact hid (fun j hj W => ixF6 F j hj W)
        rw [← gV] at HRg
        clear gV
        obtain ⟨Tk, gTk⟩ : ∃ Tk : Nat → Ft, Tk = fun k => if dfc g1.T.F.d 16 = true then g1.T else Gt.holdAll g1.T F k := ⟨_, rfl⟩
        have HA3 : Hid (YpTo w0 y x L { g1 with T := Tk 0 } D W2) := hid (by
          have e : Tk 0 = g1.T := by rw [gTk]; show (if _ then _ else _) = _; split <;> rfl
          rw [e]; exact HA2.out)
        have HEn : Hid (g.fork (q : Int) = ({ g1 with T := Tk 6 }, (c : Int), 0)) := hid (by rw [HE.out, gTk])
        have HK0 : Hid (∀ k, F k = 0 ∨ dfc g1.T.F.d 16 = true → Tk (k + 1) = Tk k) := hid (fun k hk => by
          rw [gTk]
          show (if dfc g1.T.F.d 16 = true then g1.T else Gt.holdAll g1.T F (k + 1)) = if dfc g1.T.F.d 16 = true then g1.T else Gt.holdAll g1.T F k
          rcases hk with hk | hk
          · rw [show Gt.holdAll g1.T F (k + 1) = Gt.holdAll g1.T F k from if_pos hk]
          · rw [if_pos hk, if_pos hk])
        have HK1 : Hid (∀ k, F k ≠ 0 → dfc g1.T.F.d 16 = false → Tk (k + 1) = ((Tk k).hold (F k)).1) := hid (fun k hk hd => by
          rw [gTk]
          show (if dfc g1.T.F.d 16 = true then g1.T else Gt.holdAll g1.T F (k + 1)) = ((if dfc g1.T.F.d 16 = true then g1.T else Gt.holdAll g1.T F k).hold (F k)).1
          rw [hd, if_neg (by decide), if_neg (by decide)]
          exact if_neg hk)
        have HKo : Hid (∀ k, TOk (Tk k)) := hid (fun k => by
          rw [gTk]
          show TOk (if dfc g1.T.F.d 16 = true then g1.T else Gt.holdAll g1.T F k)
          split
          · exact HTk.out
          · exact holdAll_ok HTk.out F k)
        have HKd : Hid (∀ k, (Tk k).F.d = g1.T.F.d) := hid (fun k => by
          rw [gTk]
          show (if dfc g1.T.F.d 16 = true then g1.T else Gt.holdAll g1.T F k).F.d = _
          split
          · rfl
          · induction k with
            | zero => rfl
            | succ k ih =>
              show (if F k = 0 then Gt.holdAll g1.T F k else ((Gt.holdAll g1.T F k).hold (F k)).1).F.d = _
              split
              · exact ih
              · rw [fthold_d]; exact ih)
        clear HE HA2 gTk HTk HF1
        go_wp2_with (refine wpList_load_mid rfl 40 (.tmp 49) rfl L (c * 10 + 4) rfl V _ HRg.out Tryz.underlying40 rfl HSZ.out ?_)
        go_loopw [51] (fun s wr => ∃ j : Nat, j ≤ 6 ∧ s = .int .i64 (j : Int) ∧ Hid (YpTo w0 y x L { g1 with T := Tk j } D wr)) (fun s _ => 6 - (intOf s).toNat)
        case atStart => exact ⟨0, by omega, rfl, HA3⟩
        case round =>
          clear HA3 HRg
          obtain ⟨j, hj6, rfl, HR⟩ := hrel
          by_cases e6 : j = 6
          · subst e6
            go_wp2_with fail
            go_ret2
            exact ⟨by rw [HEn.out]; rfl, by rw [HEn.out]; exact HR.out⟩
          · have hj : j < 6 := by omega
            have d3 : (0 : Int) ≤ j := by omega
            have d4 : (j : Int) < 6 := by omega
            have hix := HIX.out j hj
            have cx := HR.out.1.cx
            have cd := HR.out.1.cd
            rw [show ({ g1 with T := Tk j } : Gt).T.F.d = g1.T.F.d from HKd.out j] at cd
            by_cases ez : F j = 0
            · have HR2 : Hid (YpTo w0 y x L { g1 with T := Tk (j + 1) } D _) := hid (by rw [HK0.out j (.inl ez)]; exact HR.out)
              rw [ez] at hix
              clear HR ez cd
              go_wp2_with fail
              go_roundw
              case rel => exact ⟨j + 1, by omega, by go_num, HR2⟩
              case measure => simp [intOf]; omega
            · cases hd : dfc g1.T.F.d 16
              · obtain ⟨hb1, hb2⟩ := ddfc_f hd
                have k4 := hid (HR.out.hold (HKo.out j) (F j))
                have HE2 := hid (HK1.out j ez hd)
                clear HR hd
                generalize F j = v at hix ez k4 HE2
                go_wp2_with fail
                refine k4.out.mono ?_
                rintro e w4 ⟨rfl, h4⟩
                have HR2 : Hid (YpTo w0 y x L { g1 with T := Tk (j + 1) } D w4) := hid (by rw [HE2.out]; exact h4)
                clear h4 k4 HE2
                go_wp2_with fail
                go_roundw
                case rel => exact ⟨j + 1, by omega, by go_num, HR2⟩
                case measure => simp [intOf]; omega
              · obtain ⟨hb1, hb2⟩ := ddfc_t hd
                have HR2 : Hid (YpTo w0 y x L { g1 with T := Tk (j + 1) } D _) := hid (by rw [HK0.out j (.inr hd)]; exact HR.out)
                clear HR hd
                generalize F j = v at hix ez
                go_wp2_with fail
                go_roundw
                case rel => exact ⟨j + 1, by omega, by go_num, HR2⟩
                case measure => simp [intOf]; omega
      · have HP' : Hid (∀ i, 1 ≤ i → i < c + 1 → (g.Q i).st ≠ 0) := hid (fun i a b => by
          by_cases e : i = c
          · rw [e]; exact hz
          · exact HP.out i a (by omega))
        clear HP HE0 HE1
        generalize (g.Q c).st = s at y2 hz
        go_wp2_with fail
        go_roundw
        case rel => exact ⟨c + 1, by omega, by omega, by go_num, HP', HR⟩
        case measure => simp [intOf]; omega
end

end Go.Proofs.YtbglhmcahnkbfaaGreat

/- The document's processes: Wait. -/
namespace Go.Proofs.YtbglhmcahnkbfaaGreat
open Go.RowKit Go.ChangeMaps Go.MapKept
set_option linter.unusedVariables false
set_option maxRecDepth 20000

section
variable {w0 w w' : World} {y x L : Nat} {g : Gt} {D : Nat → Prop}
set_option maxHeartbeats 8000000 in
theorem r9wait_any (h : YpTo w0 y x L g D w) (H0 : GOk g) (n : Int) :
    Calls Tryz.prog 30 #[.pointer (some ⟨y, 0, none⟩), .int .i64 n] w fun e w' => e = .returned (.tuple #[.int .i64 (g.wait n).2.1, .int .i64 (g.wait n).2.2.1, .bool (g.wait n).2.2.2.1, .int .i64 (g.wait n).2.2.2.2]) ∧ YpTo w0 y x L (g.wait n).1 D w' := by
  have H := hid h
  cases hr : g.runs n
  · rw [show g.wait n = (g, 0, 0, false, 3) by unfold Gt.wait; rw [if_pos hr]]
    have k1 := hid (r9runs_any h.1 n false hr.symm)
    clear h hr H0
    go_enter Tryz.func30, Tryz.ntmps30
    go_wp2_with fail
    refine k1.out.mono ?_
    rintro e w1 ⟨rfl, hw⟩
    subst w1
    go_wp2_with fail
    (try simp only [Exit.inBlock, Exit.then])
    refine bodyPost_ret (four_results rfl _ _ _) rfl ?_
    exact ⟨rfl, H.out⟩
  have HRun := hid hr
  have k1 := hid (r9runs_any h.1 n true hr.symm)
  obtain ⟨q, rfl, h1, h4, hs⟩ := qrn_lt hr
  have HOv : Hid (∀ i, g.over (q : Int) i = decide ((g.Q i).st = 2 ∧ (g.Q i).pa = (q : Int))) := hid (fun i => rfl)
  have HCh : Hid (∀ i, g.child (q : Int) i = decide ((g.Q i).st ≠ 0 ∧ (g.Q i).pa = (q : Int))) := hid (fun i => rfl)
  obtain ⟨N, gN⟩ : ∃ N, N = zer10 := ⟨_, rfl⟩
  have HSZ : Hid ((Tryz.prog.info? 42).map (·.size) = some N.toArray.size) := by rw [gN]; exact hid csizePi
  have HBU : Hid (Tryz.prog.built 42 [] = some N.toArray) := by rw [gN]; exact hid builtPi
  have HO1 : Hid (N.toArray.all (·.oneCell') = true) := by rw [gN]; exact hid (by simp [zer10, Value.oneCell'])
  have HT2 : Hid (10 = N.toArray.size) := by rw [gN]; exact hid rfl
  have GN : Hid (∀ j, gpD j noGp = N) := hid (fun j => by rw [gN, gpD_no])
  clear h hr hs H0 gN
  go_enter Tryz.func30, Tryz.ntmps30
  go_wp2_with fail
  refine k1.out.mono ?_
  rintro e w1 ⟨rfl, hw1⟩
  subst w1
  clear k1
  go_wp2_with fail
  go_loopw [8, 9] (fun ch k wr => ∃ (j : Nat) (b : Bool), 1 ≤ j ∧ j ≤ 5 ∧ k = .int .i64 (j : Int) ∧ ch = .bool b ∧ Hid ((∀ i, 1 ≤ i → i < j → g.over (q : Int) i = false) ∧ (b = true ↔ ∃ i, 1 ≤ i ∧ i < j ∧ g.child (q : Int) i = true)) ∧ Hid (YpTo w0 y x L g D wr)) (fun _ k _ => 5 - (intOf k).toNat)
  case atStart => exact ⟨1, false, by omega, by omega, rfl, rfl, hid ⟨fun i h1 h2 => by omega, fun h => absurd h (by decide), fun ⟨i, h1, h2, _⟩ => by omega⟩, H⟩
  case round =>
    clear H
    obtain ⟨j, b, j1, hj5, rfl, rfl, HI, HR⟩ := hrel
    by_cases e5 : j = 5
    · subst e5
      have HW := hid (wait_none HRun.out HI.out.1 HI.out.2)
      cases b
      · have HW : Hid (g.wait (q : Int) = (g, 0, 0, false, 10)) := HW
        clear HI HOv HCh
        go_wp2_with fail
        (try simp only [Exit.inBlock, Exit.then])
        refine bodyPost_ret (four_results rfl _ _ _) rfl ?_
        exact ⟨by rw [HW.out]; rfl, by rw [HW.out]; exact HR.out⟩
      · have HW : Hid (g.wait (q : Int) = (g, 0, 0, true, 0)) := HW
        clear HI HOv HCh
        go_wp2_with fail
        (try simp only [Exit.inBlock, Exit.then])
        refine bodyPost_ret (four_results rfl _ _ _) rfl ?_
        exact ⟨by rw [HW.out]; rfl, by rw [HW.out]; exact HR.out⟩
    · have hj : j < 5 := by omega
      have c3 : (0 : Int) ≤ j := by omega
      have c4 : (j : Int) < 5 := by omega
      have c5 : (j : Int) ≤ 4 := by omega
      have t := HR.out.tl
      have cl := HR.out.1.cl
      have y0 := t.nm j hj
      have y1 := t.pa j hj
      have y2 := t.st j hj
      have y3 := t.co j hj
      have y4 := t.z j hj 0 (by omega)
      have y5 := t.z j hj 1 (by omega)
      have y6 := t.z j hj 2 (by omega)
      have y7 := t.z j hj 3 (by omega)
      have y8 := t.z j hj 4 (by omega)
      have y9 := t.z j hj 5 (by omega)
      rw [Nat.add_zero] at y4
      generalize nmD j (g.Q j) = x0 at y0
      generalize (g.Q j).fd 0 = x4 at y4
      generalize (g.Q j).fd 1 = x5 at y5
      generalize (g.Q j).fd 2 = x6 at y6
      generalize (g.Q j).fd 3 = x7 at y7
      generalize (g.Q j).fd 4 = x8 at y8
      generalize (g.Q j).fd 5 = x9 at y9
      have hov := HOv.out j
      have hch := HCh.out j
      have HI3 : Hid (g.child (q : Int) j = false → ((∀ i, 1 ≤ i → i < j + 1 → g.over (q : Int) i = false) ∧ (b = true ↔ ∃ i, 1 ≤ i ∧ i < j + 1 ∧ g.child (q : Int) i = true))) := by
        refine hid (fun hc => ⟨fun i a c => ?_, fun hb => ?_, fun ⟨i, a, c, d⟩ => ?_⟩)
        · by_cases e : i = j
          · subst e
            rw [hch] at hc
            have hn := of_decide_eq_false hc
            rw [hov]; exact decide_eq_false (fun h => hn ⟨by rw [h.1]; decide, h.2⟩)
          · exact HI.out.1 i a (by omega)
        · obtain ⟨i, a, c, d⟩ := HI.out.2.1 hb
          exact ⟨i, a, by omega, d⟩
        · refine HI.out.2.2 ⟨i, a, ?_, d⟩
          by_cases e : i = j
          · subst e; rw [hc] at d; exact absurd d (by decide)
          · omega
      have HR2 : Hid (∀ v1 v2 v3 : Int, YpTo w0 y x L g D (wr.alloc (.cells #[.int .i64 x0, .int .i64 v1, .int .i64 v2, .int .i64 v3, .int .i64 x4, .int .i64 x5, .int .i64 x6, .int .i64 x7, .int .i64 x8, .int .i64 x9] 42))) := hid (fun _ _ _ => HR.out.grow (one_new wr _))
      by_cases e0 : (g.Q j).st = 0
      · have HI2 := hid (HI3.out (by rw [hch]; exact decide_eq_false (fun h => h.1 e0)))
        rw [e0] at y2
        clear HI HI3 hov hch e0 t HR
        generalize (g.Q j).pa = s1 at y1
        generalize (g.Q j).co = s3 at y3
        have HR3 := hid (HR2.out s1 0 s3)
        clear HR2
        go_wp2_with fail
        go_roundw
        case rel => exact ⟨j + 1, b, by omega, by omega, by go_num, rfl, HI2, HR3⟩
        case measure => simp [intOf]; omega
      · by_cases ep : (g.Q j).pa = (q : Int)
        · rw [ep] at y1
          by_cases e2 : (g.Q j).st = 2
          · have HW := hid (wait_at HRun.out j1 (by omega) HI.out.1 (by rw [hov]; exact decide_eq_true ⟨e2, ep⟩))
            rw [e2] at y2
            obtain ⟨x3, gx3⟩ : ∃ x3, x3 = (g.Q j).co := ⟨_, rfl⟩
            rw [← gx3] at y3 HW
            obtain ⟨WA, gWA⟩ : ∃ WA, WA = wr.alloc (.cells #[.int .i64 x0, .int .i64 (q : Int), .int .i64 2, .int .i64 x3, .int .i64 x4, .int .i64 x5, .int .i64 x6, .int .i64 x7, .int .i64 x8, .int .i64 x9] 42) := ⟨_, rfl⟩
            have hTA : YpTo w0 y x L g D WA := by rw [gWA]; exact HR2.out _ _ _
            have hTH := hTA.tl.th j hj
            have hPUT := hTA.put (hTA.tl.put j hj noGp) (upd_setCells L (gpD j noGp) _ _)
            have hcl := hTA.1.cl
            have hz : WA.cell? ⟨wr.heap.size, 3, none⟩ = some (.int .i64 x3) := by rw [gWA]; simp [go_sem]
            have hLr : L < wr.heap.size := HR.out.tl.lt
            have hsz : wr.heap.size < WA.heap.size := by rw [gWA]; simp
            rw [GN.out] at hPUT
            have hz2 : (WA.setCells L (j * 10) N.toArray.toList).cell? ⟨wr.heap.size, 3, none⟩ = some (.int .i64 x3) := by
              have hu := upd_setCells L N.toArray.toList (j * 10) WA
              exact (World.cell?_of_block (a := ⟨wr.heap.size, 3, none⟩) (hu.block wr.heap.size hsz (by omega))).trans hz
            have hz3 : (WA.setCells L (j * 10) N).cell? ⟨wr.heap.size, 3, none⟩ = some (.int .i64 x3) := hz2
            have HPUT := hid hPUT
            have HTH := hid hTH
            rw [gWA] at hz2 hz3 hcl HTH HPUT
            clear hPUT hTH hTA hz hov hch ep e0 e2 HI HI3 HOv HCh HR HR2 gx3 t gWA
            go_wp2_with (first
              | (refine wpList_build_is rfl 42 #[] rfl N.toArray (by simpa using HBU.out) ?_)
              | (refine wpList_store_mid rfl 42 (.tmp 44) (.tmp 43) rfl L (j * 10) N.toArray rfl rfl (by rw [← HT2.out]; exact HTH.out) HSZ.out HO1.out ?_))
            go_region_held3 (fun wx => wx.cell? ⟨wr.heap.size, 3, none⟩ = some (.int .i64 x3)) (go_keep) (fail)
            go_wp2_with fail
            (try simp only [Exit.inBlock, Exit.then])
            refine bodyPost_ret (four_results rfl _ _ _) rfl ?_
            exact ⟨by rw [HW.out]; rfl, by rw [HW.out]; exact HPUT.out.drew⟩
          · have HI2 : Hid ((∀ i, 1 ≤ i → i < j + 1 → g.over (q : Int) i = false) ∧ (true = true ↔ ∃ i, 1 ≤ i ∧ i < j + 1 ∧ g.child (q : Int) i = true)) := by
              refine hid ⟨fun i a c => ?_, fun _ => ⟨j, j1, by omega, by rw [hch]; exact decide_eq_true ⟨e0, ep⟩⟩, fun _ => rfl⟩
              by_cases e : i = j
              · subst e; rw [hov]; exact decide_eq_false (fun h => e2 h.1)
              · exact HI.out.1 i a (by omega)
            clear HI HI3 hov hch ep t HR
            generalize (g.Q j).st = s2 at y2 e2 e0
            generalize (g.Q j).co = s3 at y3
            have HR3 := hid (HR2.out (q : Int) s2 s3)
            clear HR2
            go_wp2_with fail
            go_roundw
            case rel => exact ⟨j + 1, true, by omega, by omega, by go_num, rfl, HI2, HR3⟩
            case measure => simp [intOf]; omega
        · have HI2 := hid (HI3.out (by rw [hch]; exact decide_eq_false (fun h => ep h.2)))
          clear HI HI3 hov hch t HR
          generalize (g.Q j).st = s2 at y2 e0
          generalize (g.Q j).pa = s1 at y1 ep
          generalize (g.Q j).co = s3 at y3
          have HR3 := hid (HR2.out s1 s2 s3)
          have hb2 : (s1 != (q : Int)) = true := by simp [ep]
          have hb : (s2 == 0 || s1 != (q : Int)) = true := by simp [ep]
          clear HR2
          go_wp2_with fail
          all_goals
            go_roundw
            case rel => exact ⟨j + 1, b, by omega, by omega, by go_num, rfl, HI2, HR3⟩
            case measure => simp [intOf]; omega
end

end Go.Proofs.YtbglhmcahnkbfaaGreat

/- The document's processes: Look, Running, New. -/
namespace Go.Proofs.YtbglhmcahnkbfaaGreat
open Go.RowKit Go.ChangeMaps Go.MapKept
set_option linter.unusedVariables false
set_option maxRecDepth 20000

section
variable {w : World} {y x L : Nat} {g : Gt} {D : Nat → Prop}
set_option maxHeartbeats 8000000 in
theorem r9look_any (h : Yp w y x L g D) :
    Calls Tryz.prog 40 #[.pointer (some ⟨y, 0, none⟩)] w fun e w' => (∃ v, e = .returned v ∧ w'.ownsRow w.heap.size 42 10 v (piN g.Q 5) (piL g.Q 5)) ∧ Below w.heap.size w w' := by
  obtain ⟨i0, hi0, hz0, hz1, hz2⟩ := info_parts infoPI
  have cl := h.cl
  have H := hid h
  clear h
  go_enter Tryz.func40, Tryz.ntmps40
  go_wp2_with fail
  go_loopw [3, 11] (fun v k wr => ∃ (j : Nat) (a : Option Addr) (c : Nat), j ≤ 5 ∧ k = .int .i64 (j : Int) ∧ v = .slice a (piN g.Q j) c ∧ Hid (wr.ownsRow w.heap.size 42 10 (.slice a (piN g.Q j) c) (piN g.Q j) (piL g.Q j)) ∧ Hid (Below w.heap.size w wr)) (fun _ k _ => 5 - (intOf k).toNat)
  case atStart => exact ⟨0, none, 0, by omega, rfl, rfl, hid (World.ownsRow_nil _ _ _ _), hid (Below.refl _ _)⟩
  case round =>
    obtain ⟨j, a, c, hj5, rfl, rfl, HO, HB⟩ := hrel
    by_cases e : j = 5
    · subst e
      go_wp2_with fail
      go_ret
      exact ⟨⟨_, rfl, HO.out⟩, HB.out⟩
    · have hj : j < 5 := by omega
      have hj6 : (j : Int) < 5 := by omega
      have hj0 : (0 : Int) ≤ j := by omega
      have hcl := piN_le g.Q j
      have t := (H.out.grow HB.out).tl
      have y0 := t.nm j hj
      have y1 := t.pa j hj
      have y2 := t.st j hj
      have y3 := t.co j hj
      have y4 := t.z j hj 0 (by omega)
      have y5 := t.z j hj 1 (by omega)
      have y6 := t.z j hj 2 (by omega)
      have y7 := t.z j hj 3 (by omega)
      have y8 := t.z j hj 4 (by omega)
      have y9 := t.z j hj 5 (by omega)
      rw [Nat.add_zero] at y4
      clear t
      by_cases hh : (g.Q j).st = 0
      · have e1 : piL g.Q (j + 1) = piL g.Q j := by rw [piL, if_pos hh]
        have e2 : piN g.Q (j + 1) = piN g.Q j := by rw [piN, if_pos hh]
        rw [hh] at y2
        generalize nmD j (g.Q j) = x0 at y0
        generalize (g.Q j).pa = x1 at y1
        generalize (g.Q j).co = x3 at y3
        generalize (g.Q j).fd 0 = x4 at y4
        generalize (g.Q j).fd 1 = x5 at y5
        generalize (g.Q j).fd 2 = x6 at y6
        generalize (g.Q j).fd 3 = x7 at y7
        generalize (g.Q j).fd 4 = x8 at y8
        generalize (g.Q j).fd 5 = x9 at y9
        have hX := one_new wr (.cells #[.int .i64 x0, .int .i64 x1, .int .i64 0, .int .i64 x3, .int .i64 x4, .int .i64 x5, .int .i64 x6, .int .i64 x7, .int .i64 x8, .int .i64 x9] 42)
        have HB2 := hid (HB.out.trans (hX.mono HB.out.size))
        have HO2 := hid ((Upd.of_below (F := fun _ => False) hX).own HO.out (fun _ _ h => h))
        rw [← e1, ← e2] at HO2
        have E2 := hid e2
        clear hX HO HB e hh e1 e2
        go_wp2_with fail
        go_roundw
        case rel => exact ⟨j + 1, a, c, by omega, by go_num, by rw [E2.out], HO2, HB2⟩
        case measure => simp [intOf]; omega
      · have E1 : Hid (piL g.Q (j + 1) = piL g.Q j ++ piV j (g.Q j)) := hid (by rw [piL, if_neg hh])
        have E2 : Hid (piN g.Q (j + 1) = piN g.Q j + 1) := hid (by rw [piN, if_neg hh])
        have E3 : Hid (piV j (g.Q j) = [.int .i64 (j : Int), .int .i64 (g.Q j).pa, .int .i64 (g.Q j).st, .int .i64 (g.Q j).co, .int .i64 ((g.Q j).fd 0), .int .i64 ((g.Q j).fd 1), .int .i64 ((g.Q j).fd 2), .int .i64 ((g.Q j).fd 3), .int .i64 ((g.Q j).fd 4), .int .i64 ((g.Q j).fd 5)]) := hid rfl
        rw [show nmD j (g.Q j) = (j : Int) by unfold nmD; rw [if_neg hh]] at y0
        generalize (g.Q j).pa = x1 at y1 E3
        generalize (g.Q j).st = x2 at y2 hh E3
        generalize (g.Q j).co = x3 at y3 E3
        generalize (g.Q j).fd 0 = x4 at y4 E3
        generalize (g.Q j).fd 1 = x5 at y5 E3
        generalize (g.Q j).fd 2 = x6 at y6 E3
        generalize (g.Q j).fd 3 = x7 at y7 E3
        generalize (g.Q j).fd 4 = x8 at y8 E3
        generalize (g.Q j).fd 5 = x9 at y9 E3
        rw [E3.out] at E1
        have hX := one_new wr (.cells #[.int .i64 (j : Int), .int .i64 x1, .int .i64 x2, .int .i64 x3, .int .i64 x4, .int .i64 x5, .int .i64 x6, .int .i64 x7, .int .i64 x8, .int .i64 x9] 42)
        have HB2 := hid (HB.out.trans (hX.mono HB.out.size))
        have HO2 := hid ((Upd.of_below (F := fun _ => False) hX).own HO.out (fun _ _ h => h))
        clear hX HO HB e E3
        generalize piN g.Q j = nn at HO2 E2 hcl ⊢
        generalize piL g.Q j = ll at HO2 E1
        go_wp2_with (at_builtin; go_must (refine wpList_append_own _ rfl (.tmp 18) (.tmp 20) 32 rfl w.heap.size 42 i0 _ 10 80 Tryz.underlying32 hi0 hz0 hz1 hz2 rfl (by decide) _ nn ll rfl (HO2.out.alloc _) ⟨_, 0, none⟩ 1 1 [.int .i64 (j : Int), .int .i64 x1, .int .i64 x2, .int .i64 x3, .int .i64 x4, .int .i64 x5, .int .i64 x6, .int .i64 x7, .int .i64 x8, .int .i64 x9] rfl rfl (cells_new _ _ _ _ (by simp)) (by simp [Value.oneCell']) (by unfold maxLen; omega) (by omega) (by have := HB2.out.size; simp at this ⊢; omega) ?_))
        intro v' w6 hO6 hG6 hN6
        obtain ⟨va, vc, rfl, _⟩ := own_shp hO6
        have HB6 : Hid (Below w.heap.size w w6) := hid ((HB2.out.alloc HB2.out.size _).grown hG6 (by have := HB2.out.size; simp at this ⊢; omega) (fun x hx => (HO2.out.lt x hx).1))
        have HO6 : Hid (w6.ownsRow w.heap.size 42 10 (.slice va (nn + 1) vc) (nn + 1) (piL g.Q (j + 1))) := hid (by rw [E1.out]; exact hO6)
        clear hO6 hG6 hN6 HO2 HB2
        go_wp2_with fail
        go_roundw
        case rel => exact ⟨j + 1, va, vc, by omega, by go_num, by rw [E2.out], by rw [E2.out]; exact HO6, HB6⟩
        case measure => simp [intOf]; omega

set_option maxHeartbeats 4000000 in
theorem r9running_any (h : Yp w y x L g D) :
    Calls Tryz.prog 41 #[.pointer (some ⟨y, 0, none⟩)] w fun e w' => (∃ v, e = .returned v ∧ w'.ownsRow w.heap.size 3 1 v (rnL g.Q 5).length ((rnL g.Q 5).map natV)) ∧ Below w.heap.size w w' := by
  obtain ⟨i0, hi0, hz0, hz1, hz2⟩ := info_parts infoI9p
  have cl := h.cl
  have H := hid h
  clear h
  go_enter Tryz.func41, Tryz.ntmps41
  go_wp2_with fail
  go_loopw [3, 10] (fun v k wr => ∃ (j : Nat) (a : Option Addr) (c : Nat), j ≤ 5 ∧ k = .int .i64 (j : Int) ∧ v = .slice a (rnL g.Q j).length c ∧ Hid (wr.ownsRow w.heap.size 3 1 (.slice a (rnL g.Q j).length c) (rnL g.Q j).length ((rnL g.Q j).map natV)) ∧ Hid (Below w.heap.size w wr)) (fun _ k _ => 5 - (intOf k).toNat)
  case atStart => exact ⟨0, none, 0, by omega, rfl, rfl, hid (World.ownsRow_nil _ _ _ _), hid (Below.refl _ _)⟩
  case round =>
    obtain ⟨j, a, c, hj5, rfl, rfl, HO, HB⟩ := hrel
    by_cases e : j = 5
    · subst e
      go_wp2_with fail
      go_ret
      exact ⟨⟨_, rfl, HO.out⟩, HB.out⟩
    · have hj : j < 5 := by omega
      have c3 : (0 : Int) ≤ j := by omega
      have c4 : (j : Int) < 5 := by omega
      have hle := rnL_le g.Q j
      have hT := H.out.grow HB.out
      cases hq : qrn g.Q (j : Int)
      · have HN : Hid (rnL g.Q (j + 1) = rnL g.Q j) := hid (by rw [rnL, if_neg (by rw [hq]; decide)])
        have k2 := hid (r9runs_any hT (j : Int) false hq.symm)
        clear hT hq e
        go_wp2_with fail
        refine k2.out.mono ?_
        rintro e2 w2 ⟨rfl, h2⟩
        subst w2
        go_wp2_with fail
        go_roundw
        case rel => exact ⟨j + 1, a, c, by omega, by go_num, by rw [HN.out], by rw [HN.out]; exact HO, HB⟩
        case measure => simp [intOf]; omega
      · have HN : Hid (rnL g.Q (j + 1) = rnL g.Q j ++ [j]) := hid (by rw [rnL, if_pos hq])
        have k2 := hid (r9runs_any hT (j : Int) true hq.symm)
        clear hT hq e
        obtain ⟨ll, gll⟩ : ∃ ll, ll = rnL g.Q j := ⟨_, rfl⟩
        rw [← gll] at HO HN hle ⊢
        obtain ⟨nn, gnn⟩ : ∃ nn, nn = ll.length := ⟨_, rfl⟩
        rw [← gnn] at HO hle ⊢
        have GNN := hid gnn
        clear gll gnn
        go_wp2_with fail
        refine k2.out.mono ?_
        rintro e2 w2 ⟨rfl, h2⟩
        subst w2
        go_wp2_with (at_builtin; go_must (refine wpList_append_own _ rfl (.tmp 16) (.tmp 18) 48 rfl w.heap.size 3 i0 _ 1 8 Tryz.underlying48 hi0 hz0 hz1 hz2 rfl (by decide) _ nn (ll.map natV) rfl (HO.out.alloc _) ⟨_, 0, none⟩ 1 1 [.int .i64 (j : Int)] rfl rfl (cells_new _ _ _ _ (by simp)) (by simp [Value.oneCell']) (by unfold maxLen; omega) (by omega) (by have := HB.out.size; simp at this ⊢; omega) ?_))
        intro v' w6 hO6 hG6 hN6
        obtain ⟨va, vc, rfl, _⟩ := own_shp hO6
        have HB6 : Hid (Below w.heap.size w w6) := hid ((HB.out.alloc HB.out.size _).grown hG6 (by have := HB.out.size; simp at this ⊢; omega) (fun x hx => (HO.out.lt x hx).1))
        have EL : Hid ((rnL g.Q (j + 1)).length = nn + 1) := hid (by rw [HN.out, List.length_append, GNN.out]; rfl)
        have HO6 : Hid (w6.ownsRow w.heap.size 3 1 (.slice va (nn + 1) vc) (nn + 1) ((rnL g.Q (j + 1)).map natV)) := hid (by rw [HN.out, List.map_append]; exact hO6)
        clear hO6 hG6 hN6 HO HB
        go_wp2_with fail
        go_roundw
        case rel => exact ⟨j + 1, va, vc, by omega, by go_num, by rw [EL.out], by rw [EL.out]; exact HO6, HB6⟩
        case measure => simp [intOf]; omega
end

def noPis : List Value := (madeCells (Value.agg #[.int .i64 0, .int .i64 0, .int .i64 0, .int .i64 0, .int .i64 0, .int .i64 0, .int .i64 0, .int .i64 0, .int .i64 0, .int .i64 0]).cells (10 * 5)).toList
theorem noPis_dls : Dls noPis (fun _ => noGp) := by
  refine ⟨by simp [noPis, size_madeCells], fun i hi j hj => ?_⟩
  rw [gpD_no]
  obtain rfl | rfl | rfl | rfl | rfl : i = 0 ∨ i = 1 ∨ i = 2 ∨ i = 3 ∨ i = 4 := by omega
  all_goals (obtain rfl | rfl | rfl | rfl | rfl | rfl | rfl | rfl | rfl | rfl : j = 0 ∨ j = 1 ∨ j = 2 ∨ j = 3 ∨ j = 4 ∨ j = 5 ∨ j = 6 ∨ j = 7 ∨ j = 8 ∨ j = 9 := by omega)
  all_goals kernel_rfl
def fstPi : List Value := [.int .i64 1, .int .i64 0, .int .i64 1, .int .i64 0, .int .i64 0, .int .i64 0, .int .i64 0, .int .i64 0, .int .i64 0, .int .i64 0]
theorem fstPi_eq : gpD 1 { noGp with st := 1 } = fstPi := by
  have e : nmD 1 ({ noGp with st := 1 } : Gp) = 1 := by unfold nmD; rw [if_neg (show ¬ (1 : Int) = 0 by decide)]; rfl
  unfold gpD
  rw [e]
  rfl
theorem builtFst : Tryz.prog.built 42 [(0, .int .i64 1), (2, .int .i64 1)] = some fstPi.toArray := by kernel_rfl

set_option maxHeartbeats 4000000 in
theorem r9new_any (w : World) (x : Nat) (T : Ft) (Dn : Nat → Prop) (HP : Td w x T Dn) (d : Int) :
    Calls Tryz.prog 25 #[.pointer (some ⟨x, 0, none⟩), .int .i64 d] w fun e w' => ∃ y L, e = .returned (.pointer (some ⟨y, 0, none⟩)) ∧ (T.F.d = d → Yp w' y x L ⟨(newG d).Q, T⟩ (fun b => Dn b ∨ w.heap.size ≤ b)) ∧ Below w.heap.size w w' := by
  obtain ⟨C, gC⟩ : ∃ C, C = noPis := ⟨_, rfl⟩
  have hm' : ∀ W : World, (Instr.makeSlice 32 (.int .i64 5) (.int .i64 5)).run Tryz.prog W = .ok (.slice (some ⟨W.heap.size, 0, none⟩) 5 5) (W.alloc (.cells C.toArray 42)) := by
    rw [gC]
    exact made_zs (P := Tryz.prog) 32 42 5 _ _ _ Tryz.underlying32 infoPI (by omega) (by omega)
  have HC : Hid (Dls C (fun _ => noGp)) := by rw [gC]; exact hid noPis_dls
  obtain ⟨N, gN⟩ : ∃ N, N = fstPi := ⟨_, rfl⟩
  have HSZ : Hid ((Tryz.prog.info? 42).map (·.size) = some N.toArray.size) := by rw [gN]; exact hid csizePi
  have HBU : Hid (Tryz.prog.built 42 [(0, .int .i64 1), (2, .int .i64 1)] = some N.toArray) := by rw [gN]; exact hid builtFst
  have HO1 : Hid (N.toArray.all (·.oneCell') = true) := by rw [gN]; exact hid (by simp [fstPi, Value.oneCell'])
  have HT2 : Hid (10 = N.toArray.size) := by rw [gN]; exact hid rfl
  have GN := hid gN
  have HP := hid HP
  clear gC gN
  obtain ⟨X, gX⟩ : ∃ X, X = (w.alloc (Obj.cells C.toArray 42)).alloc (Obj.cells #[.slice (some ⟨w.heap.size, 0, none⟩) 5 5, .pointer (some ⟨x, 0, none⟩), .int .i64 d] 102) := ⟨_, rfl⟩
  have hb1 := one_new w (Obj.cells C.toArray 42)
  have hb2 : Below w.heap.size w X := by rw [gX]; exact hb1.trans ((one_new _ _).mono hb1.size)
  have hL : X.heap[w.heap.size]? = some (.cells C.toArray 42 (0, 0)) := by
    rw [gX]
    exact ((one_new (w.alloc (Obj.cells C.toArray 42)) _).block w.heap.size (by simp)).trans (heap_alloc_new _ _)
  have hY : X.heap[w.heap.size + 1]? = some (.cells #[.slice (some ⟨w.heap.size, 0, none⟩) 5 5, .pointer (some ⟨x, 0, none⟩), .int .i64 d] 102 (0, 0)) := by
    rw [gX]
    have h := heap_alloc_new (w.alloc (Obj.cells C.toArray 42)) (Obj.cells #[.slice (some ⟨w.heap.size, 0, none⟩) 5 5, .pointer (some ⟨x, 0, none⟩), .int .i64 d] 102)
    rwa [show (w.alloc (Obj.cells C.toArray 42)).heap.size = w.heap.size + 1 by simp] at h
  have hT1 : Tl X w.heap.size (fun _ => noGp) := ⟨C, hL, HC.out⟩
  have HTH := hid (hT1.th 1 (by omega))
  have hT2 := hT1.put 1 (by omega) { noGp with st := 1 }
  rw [fstPi_eq, ← GN.out] at hT2
  have hU := upd_setCells w.heap.size N (1 * 10) X
  have hxl := HP.out.lt
  have HF : Hid ((T.F.d = d → Yp (X.setCells w.heap.size (1 * 10) N) (w.heap.size + 1) x w.heap.size ⟨(newG d).Q, T⟩ (fun b => Dn b ∨ w.heap.size ≤ b)) ∧ Below w.heap.size w (X.setCells w.heap.size (1 * 10) N)) := by
    refine hid ⟨fun ed => ⟨fun b => Dn b ∧ b < w.heap.size, ⟨?_, ?_, ?_, by omega, fun h => by omega, fun h => by omega⟩, .inr (by omega), .inr (Nat.le_refl _), fun b hb => .inl hb.1⟩, hb2.trans (hU.below hb2.size (fun b e => Nat.le_of_eq e.symm))⟩
    · show (_ : Option Obj) = some (Obj.cells #[.slice (some ⟨w.heap.size, 0, none⟩) 5 5, .pointer (some ⟨x, 0, none⟩), .int .i64 T.F.d] 102 (0, 0))
      rw [ed]
      exact hU.heap hY (by omega)
    · show Tl _ _ (newG d).Q
      rw [newG_Q]
      exact hT2
    · show Td _ x T _
      exact ((HP.out.mono (fun b hb hD => ⟨hD, hb⟩)).grow hb2).upd hU (fun b _ hD e => by omega)
  rw [gX] at HTH HF
  clear hb1 hb2 hL hY hT1 hT2 hU hxl gX HC
  go_enter Tryz.func25, Tryz.ntmps25
  go_wp2_with (first
    | (refine wpList_build_is rfl 42 #[(0, .const (.int .i64 1)), (2, .const (.int .i64 1))] rfl N.toArray (by simpa [Act.eval] using HBU.out) ?_)
    | (refine wpList_store_mid rfl 42 (.tmp 18) (.tmp 17) rfl w.heap.size (1 * 10) N.toArray rfl rfl (by rw [← HT2.out]; exact HTH.out) HSZ.out HO1.out ?_))
  go_ret
  exact ⟨_, _, rfl, HF.out⟩

end Go.Proofs.YtbglhmcahnkbfaaGreat

/- Both sides' processes beside each other, as they lie. -/
namespace Go.Proofs.YtbglhmcahnkbfaaGreat
open Go.RowKit Go.ChangeMaps Go.MapKept
set_option linter.unusedVariables false
set_option maxRecDepth 20000

/-- The pair's box; the program's files (which have Tp) in blocks G, the document's (which have Td) in blocks D; all new since B. -/
structure P9 (w : World) (B : Nat) (G D : Nat → Prop) (pp f x t y L : Nat) (TP TD : Gt) : Prop where
  box : w.heap[pp]? = some (.cells (List.toArray [.pointer (some ⟨f, 0, none⟩), .pointer (some ⟨x, 0, none⟩), .pointer (some ⟨t, 0, none⟩), .pointer (some ⟨y, 0, none⟩)]) 38 (0, 0))
  tp : Zp w t f TP G
  td : Yp w y x L TD D
  gG : ∀ b, G b → B ≤ b ∧ b < w.heap.size ∧ b ≠ pp ∧ ¬ D b
  gD : ∀ b, D b → B ≤ b ∧ b < w.heap.size ∧ b ≠ pp
  gp : B ≤ pp

section
variable {w w' : World} {B : Nat} {G D : Nat → Prop} {pp f x t y L : Nat} {TP TD T' : Gt}
theorem P9.lt (h : P9 w B G D pp f x t y L TP TD) : pp < w.heap.size := (Array.getElem?_eq_some_iff.1 h.box).1
theorem P9.c0 (h : P9 w B G D pp f x t y L TP TD) : w.cell? ⟨pp, 0, none⟩ = some (.pointer (some ⟨f, 0, none⟩)) := cell_list h.box rfl
theorem P9.c1 (h : P9 w B G D pp f x t y L TP TD) : w.cell? ⟨pp, 1, none⟩ = some (.pointer (some ⟨x, 0, none⟩)) := cell_list h.box rfl
theorem P9.c2 (h : P9 w B G D pp f x t y L TP TD) : w.cell? ⟨pp, 2, none⟩ = some (.pointer (some ⟨t, 0, none⟩)) := cell_list h.box rfl
theorem P9.c3 (h : P9 w B G D pp f x t y L TP TD) : w.cell? ⟨pp, 3, none⟩ = some (.pointer (some ⟨y, 0, none⟩)) := cell_list h.box rfl
/-- What is neither the pair's, nor either side's. -/
def Ot9 (w : World) (G D : Nat → Prop) (pp b : Nat) : Prop := b < w.heap.size ∧ b ≠ pp ∧ ¬ G b ∧ ¬ D b
/-- Nothing of the pair's turns. -/
theorem P9.upd {U : Nat → Prop} (h : P9 w B G D pp f x t y L TP TD) (q : Upd U w w') (hU : ∀ b, b < w.heap.size → U b → Ot9 w G D pp b) : P9 w' B G D pp f x t y L TP TD :=
  ⟨q.heap h.box (fun e => (hU pp h.lt e).2.1 rfl), h.tp.upd q (fun b hb hG hu => (hU b hb hu).2.2.1 hG), h.td.upd q (fun b hb hD hu => (hU b hb hu).2.2.2 hD), fun b hb => ⟨(h.gG b hb).1, Nat.lt_of_lt_of_le (h.gG b hb).2.1 q.size, (h.gG b hb).2.2⟩, fun b hb => ⟨(h.gD b hb).1, Nat.lt_of_lt_of_le (h.gD b hb).2.1 q.size, (h.gD b hb).2.2⟩, h.gp⟩
theorem P9.grow (h : P9 w B G D pp f x t y L TP TD) (q : Below w.heap.size w w') : P9 w' B G D pp f x t y L TP TD := h.upd (Upd.of_below (F := fun _ => False) q) (fun _ _ h => h.elim)
theorem Ot9.grow {b : Nat} (h : Ot9 w G D pp b) (q : Below w.heap.size w w') : Ot9 w' G D pp b := ⟨Nat.lt_of_lt_of_le h.1 q.size, h.2⟩
/-- The program's call. -/
theorem P9.prog (h : P9 w B G D pp f x t y L TP TD) (k : ZpTo w t f T' G w') : P9 w' B (fun b => (G b ∨ w.heap.size ≤ b) ∧ b < w'.heap.size) D pp f x t y L T' TD ∧ Below B w w' ∧ (∀ b, Ot9 w G D pp b → w'.heap[b]? = w.heap[b]? ∧ Ot9 w' (fun b => (G b ∨ w.heap.size ≤ b) ∧ b < w'.heap.size) D pp b) := by
  obtain ⟨t1, t2, _⟩ := k
  have hB : B ≤ w.heap.size := Nat.le_trans h.gp (Nat.le_of_lt h.lt)
  refine ⟨⟨t2.heap h.box (fun e => (h.gG pp e).2.2.1 rfl), t1.mono (fun b hb hG => ⟨hG, hb⟩), h.td.upd t2 (fun b _ hD hG => (h.gG b hG).2.2.2 hD), fun b hb => ?_, fun b hb => ⟨(h.gD b hb).1, Nat.lt_of_lt_of_le (h.gD b hb).2.1 t2.size, (h.gD b hb).2.2⟩, h.gp⟩, t2.below hB (fun b hb => (h.gG b hb).1), fun b hb => ⟨t2.block b hb.1 hb.2.2.1, Nat.lt_of_lt_of_le hb.1 t2.size, hb.2.1, fun q => ?_, hb.2.2.2⟩⟩
  · rcases hb with ⟨hb | hb, hs⟩
    · exact ⟨(h.gG b hb).1, hs, (h.gG b hb).2.2⟩
    · refine ⟨Nat.le_trans hB hb, hs, fun e => ?_, fun e => ?_⟩
      · have := h.lt; omega
      · have := (h.gD b e).2.1; omega
  · rcases q.1 with q | q
    · exact hb.2.2.1 q
    · have := hb.1; omega
/-- The document's call. -/
theorem P9.doc (h : P9 w B G D pp f x t y L TP TD) (k : YpTo w y x L T' D w') : P9 w' B G (fun b => (D b ∨ w.heap.size ≤ b) ∧ b < w'.heap.size) pp f x t y L TP T' ∧ Below B w w' ∧ (∀ b, Ot9 w G D pp b → w'.heap[b]? = w.heap[b]? ∧ Ot9 w' G (fun b => (D b ∨ w.heap.size ≤ b) ∧ b < w'.heap.size) pp b) := by
  obtain ⟨t1, t2, _⟩ := k
  have hB : B ≤ w.heap.size := Nat.le_trans h.gp (Nat.le_of_lt h.lt)
  refine ⟨⟨t2.heap h.box (fun e => (h.gD pp e).2.2 rfl), h.tp.upd t2 (fun b _ hG hD => (h.gG b hG).2.2.2 hD), t1.mono (fun b hb hD => ⟨hD, hb⟩), fun b hb => ⟨(h.gG b hb).1, Nat.lt_of_lt_of_le (h.gG b hb).2.1 t2.size, (h.gG b hb).2.2.1, fun q => ?_⟩, fun b hb => ?_, h.gp⟩, t2.below hB (fun b hb => (h.gD b hb).1), fun b hb => ⟨t2.block b hb.1 hb.2.2.2, Nat.lt_of_lt_of_le hb.1 t2.size, hb.2.1, hb.2.2.1, fun q => ?_⟩⟩
  · rcases q.1 with q | q
    · exact (h.gG b hb).2.2.2 q
    · have := (h.gG b hb).2.1; omega
  · rcases hb with ⟨hb | hb, hs⟩
    · exact ⟨(h.gD b hb).1, hs, (h.gD b hb).2.2⟩
    · refine ⟨Nat.le_trans hB hb, hs, fun e => ?_⟩
      have := h.lt; omega
  · rcases q.1 with q | q
    · exact hb.2.2.2 q
    · have := hb.1; omega
end


end Go.Proofs.YtbglhmcahnkbfaaGreat
