/- Texts of this seat, merged. -/
import Derived.Test.YtbglhmcahnkbfaaGreatHMg24
import Derived.Test.YtbglhmcahnkbfaaGreatHMg40
import Derived.Test.YtbglhmcahnkbfaaGreatHMg42
import Derived.Test.YtbglhmcahnkbfaaGreatHMg25

/- The document's processes: Runs, over, lowest, File, Close, Install. -/
namespace Go.Proofs.YtbglhmcahnkbfaaGreat
open Go.RowKit Go.ChangeMaps Go.MapKept
set_option linter.unusedVariables false
set_option maxRecDepth 20000

section
variable {w0 w w' : World} {y x L : Nat} {g : Gt} {D : Nat → Prop}
theorem YpTo.hold (h : YpTo w0 y x L g D w) (hT : TOk g.T) (n : Int) :
    Calls Tryz.prog 71 #[.pointer (some ⟨x, 0, none⟩), .int .i64 n] w fun e w' => e = .returned (.int .i64 (g.T.hold n).2) ∧ YpTo w0 y x L { g with T := (g.T.hold n).1 } D w' := by
  obtain ⟨Gn, h1, h3⟩ := h.parts
  refine (tdhold w x g.T Gn h1.td hT n).mono ?_
  rintro e w' ⟨rfl, k⟩
  exact ⟨rfl, h.fil h1 h3 k (fthold_d _ _)⟩
theorem YpTo.dropf (h : YpTo w0 y x L g D w) (hT : TOk g.T) (n : Int) :
    Calls Tryz.prog 77 #[.pointer (some ⟨x, 0, none⟩), .int .i64 n] w fun e w' => e = .returned (.int .i64 (g.T.drop n).2) ∧ YpTo w0 y x L { g with T := (g.T.drop n).1 } D w' := by
  obtain ⟨Gn, h1, h3⟩ := h.parts
  refine (tddrop w x g.T Gn h1.td hT n).mono ?_
  rintro e w' ⟨rfl, k⟩
  exact ⟨rfl, h.fil h1 h3 k (ftdrop_d _ _)⟩

theorem r9runs_any (h : Yp w y x L g D) (n : Int) (b : Bool) (hb : b = qrn g.Q n) :
    Calls Tryz.prog 70 #[.pointer (some ⟨y, 0, none⟩), .int .i64 n] w fun e w' => e = .returned (.bool b) ∧ w' = w := by
  have cl := h.cl
  have hT := h.tl
  by_cases c1 : n < 1
  · obtain rfl : b = false := by rw [hb]; unfold qrn; rw [decide_eq_false_iff_not]; omega
    clear hb h
    go_enter Tryz.func70, Tryz.ntmps70
    go_wp2
    go_ret
    exact ⟨rfl, rfl⟩
  · by_cases c2 : 4 < n
    · obtain rfl : b = false := by rw [hb]; unfold qrn; rw [decide_eq_false_iff_not]; omega
      clear hb h
      go_enter Tryz.func70, Tryz.ntmps70
      go_wp2
      go_ret
      exact ⟨rfl, rfl⟩
    · obtain ⟨i, rfl⟩ := Int.eq_ofNat_of_zero_le (show 0 ≤ n by omega)
      have hs := hT.st i (by omega)
      obtain ⟨s, gs⟩ : ∃ s, s = (g.Q i).st := ⟨_, rfl⟩
      obtain rfl : b = decide (s = 1) := by rw [hb, gs]; unfold qrn; rw [decide_eq_decide]; exact ⟨fun h => h.2.2, fun h => ⟨by omega, by omega, h⟩⟩
      rw [← gs] at hs
      have c3 : (0 : Int) ≤ i := by omega
      have c4 : (i : Int) < 5 := by omega
      clear hb h gs hT
      go_enter Tryz.func70, Tryz.ntmps70
      go_wp2
      go_ret
      refine ⟨?_, rfl⟩
      by_cases hs1 : s = 1 <;> simp [hs1]

/-- 'over' of a number that is 0 or a process's. -/
theorem r9over_any (h : Yp w y x L g D) (n : Int) (h0 : 0 ≤ n) (h4 : n ≤ 4) (b : Bool) (hb : b = !qrn g.Q n) :
    Calls Tryz.prog 72 #[.pointer (some ⟨y, 0, none⟩), .int .i64 n] w fun e w' => e = .returned (.bool b) ∧ w' = w := by
  have cl := h.cl
  have hT := h.tl
  by_cases c1 : n = 0
  · obtain rfl : b = true := by
      rw [hb]
      have : qrn g.Q n = false := by unfold qrn; rw [decide_eq_false_iff_not]; omega
      rw [this]; rfl
    subst c1
    clear hb h
    go_enter Tryz.func72, Tryz.ntmps72
    go_wp2
    go_ret
    exact ⟨rfl, rfl⟩
  · obtain ⟨i, rfl⟩ := Int.eq_ofNat_of_zero_le h0
    have hs := hT.st i (by omega)
    obtain ⟨s, gs⟩ : ∃ s, s = (g.Q i).st := ⟨_, rfl⟩
    obtain rfl : b = !decide (s = 1) := by
      rw [hb, gs]; unfold qrn
      congr 1
      rw [decide_eq_decide]; exact ⟨fun h => h.2.2, fun h => ⟨by omega, by omega, h⟩⟩
    rw [← gs] at hs
    have c4 : (i : Int) < 5 := by omega
    clear hb h gs hT
    go_enter Tryz.func72, Tryz.ntmps72
    go_wp2
    go_ret
    refine ⟨?_, rfl⟩
    have e0 : ¬ i = 0 := by omega
    by_cases hs1 : s = 1 <;> simp [hs1, e0]

set_option maxHeartbeats 1000000 in
theorem r9lowest_any (h : Yp w y x L g D) (q : Nat) (hq : q < 5) :
    Calls Tryz.prog 76 #[.pointer (some ⟨y, 0, none⟩), .int .i64 (q : Int)] w fun e w' => e = .returned (.int .i64 (lowI (g.Q q).fd)) ∧ w' = w := by
  have cl := h.cl
  have hR := hid (h.tl.fds q hq)
  have c3 : (0 : Int) ≤ q := by omega
  have c4 : (q : Int) < 5 := by omega
  obtain ⟨F, gF⟩ : ∃ F, F = (g.Q q).fd := ⟨_, rfl⟩
  rw [← gF] at hR ⊢
  obtain ⟨V, gV⟩ : ∃ V, V = fdV F := ⟨_, rfl⟩
  have HSZ : Hid ((Tryz.prog.info? 40).map (·.size) = some V.length) := by rw [gV]; exact hid csizeF6
  have HIX : Hid (∀ j : Nat, j < 6 → ∀ W : World, (Instr.index 40 (.agg V.toArray) (.int .i64 (j : Int))).run Tryz.prog W = .ok (.int .i64 (F j)) W) := by rw [gV]; exact hid (fun j hj W => ixF6 F j hj W)
  rw [← gV] at hR
  clear h gF gV
  go_enter Tryz.func76, Tryz.ntmps76
  go_wp2_with (refine wpList_load_mid rfl 40 (.tmp 13) rfl L (q * 10 + 4) rfl V _ hR.out Tryz.underlying40 rfl HSZ.out ?_)
  go_loop [15] (fun s => ∃ j : Nat, j ≤ 6 ∧ s = .int .i64 (j : Int) ∧ Hid (∀ i, i < j → F i ≠ 0)) (fun s => 6 - (intOf s).toNat)
  case atStart => exact ⟨0, by omega, rfl, hid (fun i h => absurd h (Nat.not_lt_zero i))⟩
  case round =>
    obtain ⟨j, h6, rfl, HP⟩ := hrel
    by_cases e6 : j = 6
    · have HE : Hid (lowI F = -1) := hid (by unfold lowI; rw [lowest_no (fun i hi => HP.out i (by omega))])
      subst e6
      clear HP
      go_wp2_with fail
      go_ret
      exact ⟨congrArg (fun k : Int => Ending.returned (.int .i64 k)) HE.out.symm, rfl⟩
    · have hix := HIX.out j (by omega)
      have b3 : (0 : Int) ≤ j := by omega
      have b4 : (j : Int) < 6 := by omega
      by_cases hz : F j = 0
      · have HE : Hid (lowI F = (j : Int)) := hid (by unfold lowI; rw [lowest_at (by omega) HP.out hz])
        rw [hz] at hix
        clear HP hz
        go_wp2_with fail
        go_ret
        exact ⟨congrArg (fun k : Int => Ending.returned (.int .i64 k)) HE.out.symm, rfl⟩
      · have HP' : Hid (∀ i, i < j + 1 → F i ≠ 0) := hid (fun i a => by
          by_cases e : i = j
          · rw [e]; exact hz
          · exact HP.out i (by omega))
        clear HP
        generalize F j = s at hix hz
        go_wp2_with fail
        go_round
        case rel => exact ⟨j + 1, by omega, by go_num, HP'⟩
        case measure => simp [intOf]; omega

set_option maxHeartbeats 1000000 in
theorem r9file_any (h : Yp w y x L g D) (n fd : Int) :
    Calls Tryz.prog 35 #[.pointer (some ⟨y, 0, none⟩), .int .i64 n, .int .i64 fd] w fun e w' => e = .returned (.tuple #[.int .i64 (g.file n fd).1, .int .i64 (g.file n fd).2]) ∧ w' = w := by
  have cl := h.cl
  cases hr : g.runs n
  · rw [show g.file n fd = (0, 3) by unfold Gt.file; rw [if_pos hr]]
    have k1 := hid (r9runs_any h n false hr.symm)
    clear h hr
    go_enter Tryz.func35, Tryz.ntmps35
    go_wp2_with fail
    refine k1.out.mono ?_
    rintro e w1 ⟨rfl, hw⟩
    subst w1
    go_wp2_with fail
    go_ret2
    exact ⟨rfl, rfl⟩
  · have k1 := hid (r9runs_any h n true hr.symm)
    obtain ⟨q, rfl, h1, h4, hs⟩ := qrn_lt hr
    have b3 : (0 : Int) ≤ q := by omega
    have b4 : (q : Int) < 5 := by omega
    by_cases c : 0 ≤ fd ∧ fd < 6
    · obtain ⟨i, rfl⟩ := Int.eq_ofNat_of_zero_le c.1
      have hz := h.tl.z q (by omega) i (by omega)
      obtain ⟨c3, c4⟩ := c
      have n1 : ¬ (i : Int) < 0 := by omega
      have n2 : ¬ 6 ≤ (i : Int) := by omega
      by_cases hv : (g.Q q).fd i = 0
      · rw [show g.file (q : Int) (i : Int) = (0, 9) by unfold Gt.file; rw [if_neg (by rw [hr]; decide), if_pos (by rw [Int.toNat_natCast, Int.toNat_natCast]; exact .inr (.inr hv))]]
        rw [hv] at hz
        clear h hr hs hv
        go_enter Tryz.func35, Tryz.ntmps35
        go_wp2_with fail
        refine k1.out.mono ?_
        rintro e w1 ⟨rfl, hw⟩
        subst w1
        go_wp2_with fail
        go_ret2
        exact ⟨rfl, rfl⟩
      · rw [show g.file (q : Int) (i : Int) = ((g.Q q).fd i, 0) by unfold Gt.file; rw [if_neg (by rw [hr]; decide), if_neg (by rw [Int.toNat_natCast, Int.toNat_natCast]; omega), Int.toNat_natCast, Int.toNat_natCast]]
        generalize (g.Q q).fd i = v at hz hv ⊢
        have hb : (decide ((i : Int) < 0) || decide (6 ≤ (i : Int)) || v == 0) = false := by simp [n1, n2, hv]
        clear h hr hs
        go_enter Tryz.func35, Tryz.ntmps35
        go_wp2_with fail
        refine k1.out.mono ?_
        rintro e w1 ⟨rfl, hw⟩
        subst w1
        go_wp2_with fail
        go_ret2
        exact ⟨rfl, rfl⟩
    · rw [show g.file (q : Int) fd = (0, 9) by unfold Gt.file; rw [if_neg (by rw [hr]; decide), if_pos (by omega)]]
      by_cases c5 : fd < 0
      · clear h hr hs
        go_enter Tryz.func35, Tryz.ntmps35
        go_wp2_with fail
        refine k1.out.mono ?_
        rintro e w1 ⟨rfl, hw⟩
        subst w1
        go_wp2_with fail
        go_ret2
        exact ⟨rfl, rfl⟩
      · have c6 : 6 ≤ fd := by omega
        clear h hr hs
        go_enter Tryz.func35, Tryz.ntmps35
        go_wp2_with fail
        refine k1.out.mono ?_
        rintro e w1 ⟨rfl, hw⟩
        subst w1
        go_wp2_with fail
        go_ret2
        exact ⟨rfl, rfl⟩

set_option maxHeartbeats 1000000 in
theorem r9close_any (h : YpTo w0 y x L g D w) (H0 : GOk g) (n fd : Int) :
    Calls Tryz.prog 36 #[.pointer (some ⟨y, 0, none⟩), .int .i64 n, .int .i64 fd] w fun e w' => e = .returned (.int .i64 (g.close n fd).2) ∧ YpTo w0 y x L (g.close n fd).1 D w' := by
  have k1 := hid (r9file_any h.1 n fd)
  unfold Gt.close
  by_cases c : (g.file n fd).2 = 0
  · rw [if_neg (fun e => e c)]
    obtain ⟨q, i, rfl, rfl, q1, q4, i6, qs, hv, ev⟩ := file_ok H0 c
    rw [Int.toNat_natCast, Int.toNat_natCast]
    rw [c, ev] at k1
    have cl := h.1.cl
    have z := h.tl.z q (by omega) i i6
    have fz := h.tl.fz (q * 10 + 4 + i)
    have HA := hid (h.put (h.tl.fdTo q (by omega) i i6 0) (Upd.setCell (F := (· = L)) w ⟨L, _, none⟩ _ rfl))
    have HT := hid H0.T
    have HE : Hid (g.empty q i = { g.setFd q i 0 with T := (g.T.drop ((g.Q q).fd i)).1 }) := hid (by unfold Gt.empty; rw [if_neg hv])
    rw [HE.out]
    have k2 := hid (HA.out.dropf HT.out ((g.Q q).fd i))
    have cx := HA.out.1.cx
    have b3 : (0 : Int) ≤ q := by omega
    have b4 : (q : Int) < 5 := by omega
    have b5 : (0 : Int) ≤ i := by omega
    have b6 : (i : Int) < 6 := by omega
    clear h H0 qs c HA HE ev
    generalize (g.Q q).fd i = v at k1 k2 z hv ⊢
    go_enter Tryz.func36, Tryz.ntmps36
    go_wp2_with fail
    refine k1.out.mono ?_
    rintro e w1 ⟨rfl, hw⟩
    subst w1
    go_wp2_with fail
    refine k2.out.mono ?_
    rintro e w2 ⟨rfl, h2⟩
    go_wp2_with fail
    go_ret
    exact ⟨rfl, h2⟩
  · rw [if_pos c]
    have he : ¬ (g.file n fd).2 = 0 := c
    have H := hid h
    rw [file_err c] at k1
    clear h H0 c
    generalize (g.file n fd).2 = v at k1 he ⊢
    go_enter Tryz.func36, Tryz.ntmps36
    go_wp2_with fail
    refine k1.out.mono ?_
    rintro e w1 ⟨rfl, hw⟩
    subst w1
    go_wp2_with fail
    go_ret
    exact ⟨rfl, H.out⟩
end

end Go.Proofs.YtbglhmcahnkbfaaGreat

/- The document's processes: Install, Dup, Dup2. -/
namespace Go.Proofs.YtbglhmcahnkbfaaGreat
open Go.RowKit Go.ChangeMaps Go.MapKept
set_option linter.unusedVariables false
set_option maxRecDepth 20000

theorem lowI_some {f : Nat → Int} {i : Nat} (h : Gt.lowest f = some i) : lowI f = (i : Int) := by unfold lowI; rw [h]
theorem lowI_none {f : Nat → Int} (h : Gt.lowest f = none) : lowI f = -1 := by unfold lowI; rw [h]

section
variable {w0 w w' : World} {y x L : Nat} {g : Gt} {D : Nat → Prop}
end

end Go.Proofs.YtbglhmcahnkbfaaGreat

/- The document's processes: Dup, Dup2. -/
namespace Go.Proofs.YtbglhmcahnkbfaaGreat
open Go.RowKit Go.ChangeMaps Go.MapKept
set_option linter.unusedVariables false
set_option maxRecDepth 20000

section
variable {w0 w w' : World} {y x L : Nat} {g : Gt} {D : Nat → Prop}
set_option maxHeartbeats 2000000 in
theorem r9dup_any (h : YpTo w0 y x L g D w) (H0 : GOk g) (n fd : Int) :
    Calls Tryz.prog 37 #[.pointer (some ⟨y, 0, none⟩), .int .i64 n, .int .i64 fd] w fun e w' => e = .returned (.tuple #[.int .i64 (g.dup n fd).2.1, .int .i64 (g.dup n fd).2.2]) ∧ YpTo w0 y x L (g.dup n fd).1 D w' := by
  have k1 := hid (r9file_any h.1 n fd)
  have H := hid h
  by_cases c : (g.file n fd).2 = 0
  · obtain ⟨q, i, rfl, rfl, q1, q4, i6, qs, hv, ev⟩ := file_ok H0 c
    rw [c, ev] at k1
    have k2 := hid (r9lowest_any h.1 q (by omega))
    have b3 : (0 : Int) ≤ q := by omega
    have b4 : (q : Int) < 5 := by omega
    cases hl : Gt.lowest (g.Q q).fd with
    | none =>
      rw [show g.dup (q : Int) (i : Int) = (g, 0, 24) by unfold Gt.dup; rw [if_neg (fun e => e c), Int.toNat_natCast, hl]]
      rw [lowI_none hl] at k2
      clear h H0 qs c hl hv ev
      generalize (g.Q q).fd i = v at k1
      go_enter Tryz.func37, Tryz.ntmps37
      go_wp2_with fail
      refine k1.out.mono ?_
      rintro e w1 ⟨rfl, hw⟩
      subst w1
      go_wp2_with fail
      refine k2.out.mono ?_
      rintro e w1 ⟨rfl, hw⟩
      subst w1
      go_wp2_with fail
      go_ret2
      exact ⟨rfl, H.out⟩
    | some j =>
      rw [show g.dup (q : Int) (i : Int) = ({ g.setFd q j ((g.Q q).fd i) with T := (g.T.hold ((g.Q q).fd i)).1 }, (j : Int), 0) by unfold Gt.dup; rw [if_neg (fun e => e c), Int.toNat_natCast, hl, ev]]
      rw [lowI_some hl] at k2
      have j6 := (lowest_lt hl).1
      obtain ⟨v, gv⟩ : ∃ v, v = (g.Q q).fd i := ⟨_, rfl⟩
      rw [← gv] at k1 ⊢
      have cl := h.1.cl
      have z := h.tl.z q (by omega) j j6
      have fz := h.tl.fz (q * 10 + 4 + j)
      have hA : YpTo w0 y x L (g.setFd q j v) D (w.setCell ⟨L, q * 10 + 4 + j, none⟩ (.int .i64 v)) := h.put (h.tl.fdTo q (by omega) j j6 v) (Upd.setCell (F := (· = L)) w ⟨L, _, none⟩ _ rfl)
      have cx := hA.1.cx
      have k3 := hid (hA.hold H0.T v)
      have d1 : (0 : Int) ≤ j := by omega
      have d2 : (j : Int) < 6 := by omega
      clear h H0 qs c hl hv ev hA gv H
      go_enter Tryz.func37, Tryz.ntmps37
      go_wp2_with fail
      refine k1.out.mono ?_
      rintro e w1 ⟨rfl, hw⟩
      subst w1
      go_wp2_with fail
      refine k2.out.mono ?_
      rintro e w1 ⟨rfl, hw⟩
      subst w1
      go_wp2_with fail
      refine k3.out.mono ?_
      rintro e w2 ⟨rfl, h2⟩
      go_wp2_with fail
      go_ret2
      exact ⟨rfl, h2⟩
  · rw [show g.dup n fd = (g, 0, (g.file n fd).2) by unfold Gt.dup; rw [if_pos c]]
    have he : ¬ (g.file n fd).2 = 0 := c
    rw [file_err c] at k1
    clear h H0 c
    generalize (g.file n fd).2 = v at k1 he ⊢
    go_enter Tryz.func37, Tryz.ntmps37
    go_wp2_with fail
    refine k1.out.mono ?_
    rintro e w1 ⟨rfl, hw⟩
    subst w1
    go_wp2_with fail
    go_ret2
    exact ⟨rfl, H.out⟩

theorem setFd_twice (g : Gt) (q t : Nat) (v : Int) : ((g.empty q t).setFd q t v).Q = (g.setFd q t v).Q := by
  show updG (g.empty q t).Q q { (g.empty q t).Q q with fd := updFd ((g.empty q t).Q q).fd t v } = updG g.Q q { g.Q q with fd := updFd (g.Q q).fd t v }
  rw [empty_Q, updG_updG, updG_same]
  have e : updFd (updFd (g.Q q).fd t 0) t v = updFd (g.Q q).fd t v := by
    funext j
    unfold updFd
    split <;> rfl
  show updG g.Q q { g.Q q with fd := updFd (updFd (g.Q q).fd t 0) t v } = _
  rw [e]
theorem empty_T (g : Gt) (q t : Nat) : (g.empty q t).T = if (g.Q q).fd t = 0 then g.T else (g.T.drop ((g.Q q).fd t)).1 := by
  unfold Gt.empty
  split <;> rfl
/-- What Dup2 leaves, told as the document does it. -/
theorem dup2_eq {g : Gt} {q i t : Nat} (c : (g.file (q : Int) (i : Int)).2 = 0) (ev : (g.file (q : Int) (i : Int)).1 = (g.Q q).fd i) (ht : t < 6) (ne : t ≠ i) :
    g.dup2 (q : Int) (i : Int) (t : Int) = ({ g.setFd q t ((g.Q q).fd i) with T := ((if dfc g.T.F.d 32 = true ∨ (g.Q q).fd t = 0 then g.T else (g.T.drop ((g.Q q).fd t)).1).hold ((g.Q q).fd i)).1 }, (t : Int), 0) := by
  unfold Gt.dup2
  rw [if_neg (fun e => e c), if_neg (by omega), if_neg (by omega), Int.toNat_natCast, Int.toNat_natCast, ev]
  dsimp only
  by_cases hd : dfc g.T.F.d 32 = true
  · rw [if_pos hd, if_pos (.inl hd)]
  · rw [if_neg hd]
    have e1 : (if dfc g.T.F.d 32 = true ∨ (g.Q q).fd t = 0 then g.T else (g.T.drop ((g.Q q).fd t)).1) = (g.empty q t).T := by
      rw [empty_T]
      by_cases h0 : (g.Q q).fd t = 0
      · rw [if_pos (.inr h0), if_pos h0]
      · rw [if_neg (fun h => h.elim hd h0), if_neg h0]
    rw [e1, setFd_twice]

set_option maxHeartbeats 4000000 in
theorem r9dup2_any (h : YpTo w0 y x L g D w) (H0 : GOk g) (n fd t0 : Int) :
    Calls Tryz.prog 38 #[.pointer (some ⟨y, 0, none⟩), .int .i64 n, .int .i64 fd, .int .i64 t0] w fun e w' => e = .returned (.tuple #[.int .i64 (g.dup2 n fd t0).2.1, .int .i64 (g.dup2 n fd t0).2.2]) ∧ YpTo w0 y x L (g.dup2 n fd t0).1 D w' := by
  have k1 := hid (r9file_any h.1 n fd)
  have H := hid h
  by_cases c : (g.file n fd).2 = 0
  · obtain ⟨q, i, rfl, rfl, q1, q4, i6, qs, hv, ev⟩ := file_ok H0 c
    rw [c, ev] at k1
    have b3 : (0 : Int) ≤ q := by omega
    have b4 : (q : Int) < 5 := by omega
    by_cases ct : 0 ≤ t0 ∧ t0 < 6
    · obtain ⟨t, rfl⟩ := Int.eq_ofNat_of_zero_le ct.1
      have t6 : t < 6 := by omega
      have n1 : ¬ (t : Int) < 0 := by omega
      have n2 : ¬ 6 ≤ (t : Int) := by omega
      have hb0 : (decide ((t : Int) < 0) || decide (6 ≤ (t : Int))) = false := by simp [n1, n2]
      by_cases ei : t = i
      · subst ei
        rw [show g.dup2 (q : Int) (t : Int) (t : Int) = (g, (t : Int), 0) by unfold Gt.dup2; rw [if_neg (fun e => e c), if_neg (by omega), if_pos rfl]]
        clear h H0 qs c hv ev
        generalize (g.Q q).fd t = v at k1
        go_enter Tryz.func38, Tryz.ntmps38
        go_wp2_with fail
        refine k1.out.mono ?_
        rintro e w1 ⟨rfl, hw⟩
        subst w1
        go_wp2_with fail
        go_ret2
        exact ⟨rfl, H.out⟩
      · have HE := hid (dup2_eq c ev t6 ei)
        rw [HE.out]
        clear HE
        obtain ⟨v, gv⟩ : ∃ v, v = (g.Q q).fd i := ⟨_, rfl⟩
        rw [← gv] at k1 ⊢
        have cl := h.1.cl
        have cx := h.1.cx
        have cd := h.1.cd
        have z := h.tl.z q (by omega) t t6
        obtain ⟨u, gu⟩ : ∃ u, u = (g.Q q).fd t := ⟨_, rfl⟩
        rw [← gu] at z ⊢
        have d1 : (0 : Int) ≤ t := by omega
        have d2 : (t : Int) < 6 := by omega
        have ne : ¬ ((t : Int) = (i : Int)) := by omega
        have HT := hid H0.T
        -- the open files behind the drop
        have fin : ∀ T1 : Ft, TOk T1 → ∀ W, YpTo w0 y x L { g with T := T1 } D W → YpTo w0 y x L { ({ g with T := T1 } : Gt) with Q := (g.setFd q t v).Q } D (W.setCell ⟨L, q * 10 + 4 + t, none⟩ (.int .i64 v)) := fun T1 h1 W hW => hW.put (hW.tl.fdTo q (by omega) t t6 v) (Upd.setCell (F := (· = L)) W ⟨L, _, none⟩ _ rfl)
        have FIN := hid fin
        clear h H0 qs c hv ev gv fin
        by_cases hu : u = 0
        · rw [if_pos (.inr hu)]
          rw [hu] at z
          clear gu hu
          have fz := H.out.tl.fz (q * 10 + 4 + t)
          have hA := FIN.out g.T HT.out w H.out
          have cx2 := hA.1.cx
          have k3 := hid (hA.hold HT.out v)
          clear hA H FIN
          go_enter Tryz.func38, Tryz.ntmps38
          go_wp2_with fail
          refine k1.out.mono ?_
          rintro e w1 ⟨rfl, hw⟩
          subst w1
          go_wp2_with fail
          refine k3.out.mono ?_
          rintro e w2 ⟨rfl, h2⟩
          go_wp2_with fail
          go_ret2
          exact ⟨rfl, h2⟩
        cases hd : dfc g.T.F.d 32
        · rw [if_neg (by intro h; rcases h with h | h; exact absurd h (by decide); exact hu h)]
          obtain ⟨hb1, hb2⟩ := ddfc_f hd
          have k2 := hid (H.out.dropf HT.out u)
          have HT2 := hid (HT.out.drop u)
          clear gu H hd
          go_enter Tryz.func38, Tryz.ntmps38
          go_wp2_with fail
          refine k1.out.mono ?_
          rintro e w1 ⟨rfl, hw⟩
          subst w1
          go_wp2_with fail
          refine k2.out.mono ?_
          rintro e w2 ⟨rfl, h2⟩
          have cl' := h2.1.cl
          have fz := h2.tl.fz (q * 10 + 4 + t)
          have z' := h2.tl.z q (by omega) t t6
          have z' : w2.cell? ⟨L, q * 10 + 4 + t, none⟩ = some (.int .i64 ((g.Q q).fd t)) := z'
          have hA := FIN.out (g.T.drop u).1 HT2.out w2 h2
          have cx2 := hA.1.cx
          have k3 := hid (hA.hold HT2.out v)
          clear hA FIN h2 k2 z cl cx cd
          go_wp2_with fail
          refine k3.out.mono ?_
          rintro e w2 ⟨rfl, h2⟩
          go_wp2_with fail
          go_ret2
          exact ⟨rfl, h2⟩
        · rw [if_pos (.inl rfl)]
          obtain ⟨hb1, hb2⟩ := ddfc_t hd
          clear gu hd
          have fz := H.out.tl.fz (q * 10 + 4 + t)
          have hA := FIN.out g.T HT.out w H.out
          have cx2 := hA.1.cx
          have k3 := hid (hA.hold HT.out v)
          clear hA H FIN
          go_enter Tryz.func38, Tryz.ntmps38
          go_wp2_with fail
          refine k1.out.mono ?_
          rintro e w1 ⟨rfl, hw⟩
          subst w1
          go_wp2_with fail
          refine k3.out.mono ?_
          rintro e w2 ⟨rfl, h2⟩
          go_wp2_with fail
          go_ret2
          exact ⟨rfl, h2⟩
    · rw [show g.dup2 (q : Int) (i : Int) t0 = (g, 0, 9) by unfold Gt.dup2; rw [if_neg (fun e => e c), if_pos (by omega)]]
      clear h H0 qs c hv ev
      generalize (g.Q q).fd i = v at k1
      by_cases c5 : t0 < 0
      · have hb0 : (decide (t0 < 0) || decide (6 ≤ t0)) = true := by simp [c5]
        go_enter Tryz.func38, Tryz.ntmps38
        go_wp2_with fail
        refine k1.out.mono ?_
        rintro e w1 ⟨rfl, hw⟩
        subst w1
        go_wp2_with fail
        go_ret2
        exact ⟨rfl, H.out⟩
      · have c6 : 6 ≤ t0 := by omega
        go_enter Tryz.func38, Tryz.ntmps38
        go_wp2_with fail
        refine k1.out.mono ?_
        rintro e w1 ⟨rfl, hw⟩
        subst w1
        go_wp2_with fail
        go_ret2
        exact ⟨rfl, H.out⟩
  · rw [show g.dup2 n fd t0 = (g, 0, (g.file n fd).2) by unfold Gt.dup2; rw [if_pos c]]
    have he : ¬ (g.file n fd).2 = 0 := c
    rw [file_err c] at k1
    clear h H0 c
    generalize (g.file n fd).2 = v at k1 he ⊢
    go_enter Tryz.func38, Tryz.ntmps38
    go_wp2_with fail
    refine k1.out.mono ?_
    rintro e w1 ⟨rfl, hw⟩
    subst w1
    go_wp2_with fail
    go_ret2
    exact ⟨rfl, H.out⟩
end

end Go.Proofs.YtbglhmcahnkbfaaGreat

/- The document's processes: Exit, Kill. -/
namespace Go.Proofs.YtbglhmcahnkbfaaGreat
open Go.RowKit Go.ChangeMaps Go.MapKept
set_option linter.unusedVariables false
set_option maxRecDepth 20000

theorem setFd_same {g : Gt} {q j : Nat} (h : (g.Q q).fd j = 0) : g.setFd q j 0 = g := by
  have e1 : updFd (g.Q q).fd j 0 = (g.Q q).fd := by
    funext i
    unfold updFd
    split
    · rename_i e; rw [e, h]
    · rfl
  have e2 : updG g.Q q { g.Q q with fd := updFd (g.Q q).fd j 0 } = g.Q := by
    rw [e1]
    funext i
    unfold updG
    split
    · rename_i e; rw [e]
    · rfl
  show ({ g with Q := updG g.Q q { g.Q q with fd := updFd (g.Q q).fd j 0 } } : Gt) = g
  rw [e2]
theorem close_empty {g : Gt} {q j : Nat} (h1 : 1 ≤ q) (h4 : q ≤ 4) (hs : (g.Q q).st = 1) (hj : j < 6) : (g.close (q : Int) (j : Int)).1 = g.empty q j := by
  have hr : g.runs (q : Int) = true := by
    unfold Gt.runs
    rw [decide_eq_true_eq, Int.toNat_natCast]
    exact ⟨by omega, by omega, hs⟩
  by_cases h0 : (g.Q q).fd j = 0
  · have e : g.file (q : Int) (j : Int) = (0, 9) := by unfold Gt.file; rw [if_neg (by rw [hr]; decide), if_pos (by rw [Int.toNat_natCast, Int.toNat_natCast]; exact .inr (.inr h0))]
    unfold Gt.close
    rw [e, if_pos (show (9 : Int) ≠ 0 by decide)]
    unfold Gt.empty
    rw [if_pos h0, setFd_same h0]
  · have e : g.file (q : Int) (j : Int) = ((g.Q q).fd j, 0) := by unfold Gt.file; rw [if_neg (by rw [hr]; decide), if_neg (by rw [Int.toNat_natCast, Int.toNat_natCast]; omega), Int.toNat_natCast, Int.toNat_natCast]
    unfold Gt.close
    rw [e, if_neg (fun h => h rfl), Int.toNat_natCast, Int.toNat_natCast]
theorem lvTo_1 {Q : Nat → Gp} (q : Nat) (h0 : Q 0 = noGp) : lvTo Q q 1 = Q := by
  funext n
  unfold lvTo
  split
  · rename_i e
    obtain rfl : n = 0 := by omega
    unfold Gt.leave
    rw [h0, if_neg (fun h => h.1 rfl)]
  · rfl
theorem leave_pa {Q : Nat → Gp} (q n : Nat) (h : 0 ≤ (Q n).pa ∧ (Q n).pa ≤ 4) : 0 ≤ (Gt.leave Q q n).pa ∧ (Gt.leave Q q n).pa ≤ 4 := by
  unfold Gt.leave
  split
  · split
    · exact ⟨Int.le_refl 0, show (0 : Int) ≤ 4 by decide⟩
    · exact ⟨Int.le_refl 0, show (0 : Int) ≤ 4 by decide⟩
  · exact h
def zer10 : List Value := [.int .i64 0, .int .i64 0, .int .i64 0, .int .i64 0, .int .i64 0, .int .i64 0, .int .i64 0, .int .i64 0, .int .i64 0, .int .i64 0]
theorem gpD_no (j : Nat) : gpD j noGp = zer10 := by
  have e : nmD j noGp = 0 := by unfold nmD; rw [if_pos (show noGp.st = 0 from rfl)]
  unfold gpD
  rw [e]
  rfl
theorem builtPi : Tryz.prog.built 42 [] = some zer10.toArray := by kernel_rfl
theorem csizePi : (Tryz.prog.info? 42).map (·.size) = some 10 := by kernel_rfl

section
variable {w0 w w' : World} {y x L : Nat} {g : Gt} {D : Nat → Prop}
set_option maxHeartbeats 8000000 in
theorem r9exit_any (h : YpTo w0 y x L g D w) (H0 : GOk g) (n co : Int) :
    Calls Tryz.prog 28 #[.pointer (some ⟨y, 0, none⟩), .int .i64 n, .int .i64 co] w fun e w' => e = .returned (.int .i64 (g.exit n co).2) ∧ YpTo w0 y x L (g.exit n co).1 D w' := by
  unfold Gt.exit
  have H := hid h
  cases hr : g.runs n
  · rw [if_pos rfl]
    have k1 := hid (r9runs_any h.1 n false hr.symm)
    clear h hr H0
    go_enter Tryz.func28, Tryz.ntmps28
    go_wp2_with fail
    refine k1.out.mono ?_
    rintro e w1 ⟨rfl, hw⟩
    subst w1
    go_wp2_with fail
    go_ret
    exact ⟨rfl, H.out⟩
  rw [if_neg (by decide)]
  have k1 := hid (r9runs_any h.1 n true hr.symm)
  obtain ⟨q, rfl, h1, h4, hs⟩ := qrn_lt hr
  rw [Int.toNat_natCast]
  have HE := hid (H0.empties q hs)
  obtain ⟨N, gN⟩ : ∃ N, N = zer10 := ⟨_, rfl⟩
  have HSZ : Hid ((Tryz.prog.info? 42).map (·.size) = some N.toArray.size) := by rw [gN]; exact hid csizePi
  have HBU : Hid (Tryz.prog.built 42 [] = some N.toArray) := by rw [gN]; exact hid builtPi
  have HO1 : Hid (N.toArray.all (·.oneCell') = true) := by rw [gN]; exact hid (by simp [zer10, Value.oneCell'])
  have HT2 : Hid (10 = N.toArray.size) := by rw [gN]; exact hid rfl
  have GN : Hid (∀ j, gpD j noGp = N) := hid (fun j => by rw [gN, gpD_no])
  have b3 : (0 : Int) ≤ q := by omega
  have b4 : (q : Int) < 5 := by omega
  clear h hr hs gN
  go_enter Tryz.func28, Tryz.ntmps28
  go_wp2_with fail
  refine k1.out.mono ?_
  rintro e w1 ⟨rfl, hw⟩
  subst w1
  clear k1
  go_wp2_with fail
  go_loopw [13] (fun s wr => ∃ j : Nat, j ≤ 6 ∧ s = .int .i64 (j : Int) ∧ Hid (YpTo w0 y x L (g.empties q j) D wr)) (fun s _ => 6 - (intOf s).toNat)
  case atStart => exact ⟨0, by omega, rfl, H⟩
  case round =>
    clear H
    obtain ⟨j, hj6, rfl, HR⟩ := hrel
    by_cases e6 : j = 6
    · subst e6
      obtain ⟨g6, gg6⟩ : ∃ g6, g6 = g.empties q 6 := ⟨_, rfl⟩
      have HG6 : Hid (GOk g6 ∧ (g6.Q q).st = 1) := by rw [gg6]; exact hid ⟨(HE.out 6 (Nat.le_refl _)).1, (HE.out 6 (Nat.le_refl _)).2.1⟩
      rw [← gg6] at HR
      have GG6 := hid gg6
      clear gg6 HE
      have cl := HR.out.1.cl
      have cs := HR.out.tl.st q (by omega)
      have cc := HR.out.tl.co q (by omega)
      have f0 := HR.out.tl.fz (q * 10 + 2)
      have f2 := HR.out.tl.fz (q * 10 + 3)
      obtain ⟨c, gc⟩ : ∃ c, c = co % 256 := ⟨_, rfl⟩
      obtain ⟨Q0, gQ0⟩ : ∃ Q0, Q0 = updG g6.Q q { g6.Q q with st := 2, co := c } := ⟨_, rfl⟩
      obtain ⟨W3, gW3⟩ : ∃ W3, W3 = ((wr.setCell ⟨L, q * 10 + 2, none⟩ (.int .i64 2)).setCell ⟨L, q * 10 + 3, none⟩ (.int .i64 (co % 256))).drew := ⟨_, rfl⟩
      have hA : YpTo w0 y x L { g6 with Q := Q0 } D W3 := by
        have a := HR.out.put (HR.out.tl.stTo q (by omega) 2 (by decide) (by rw [HG6.out.2]; decide)) (Upd.setCell (F := (· = L)) wr ⟨L, _, none⟩ _ rfl)
        have b := a.put (a.tl.coTo q (by omega) c) (Upd.setCell (F := (· = L)) _ ⟨L, _, none⟩ _ rfl)
        have e : updG (updG g6.Q q { g6.Q q with st := 2 }) q { (updG g6.Q q { g6.Q q with st := 2 } q) with co := c } = Q0 := by
          rw [gQ0, updG_updG, updG_same]
        have b' : YpTo w0 y x L { g6 with Q := updG (updG g6.Q q { g6.Q q with st := 2 }) q { (updG g6.Q q { g6.Q q with st := 2 } q) with co := c } } D ((wr.setCell ⟨L, q * 10 + 2, none⟩ (.int .i64 2)).setCell ⟨L, q * 10 + 3, none⟩ (.int .i64 c)) := b
        rw [e, gc] at b'
        rw [gW3]
        exact b'.drew
      have hz0 : ∀ i, (Q0 i).st = 0 → Q0 i = noGp := fun i hi => by
        rw [gQ0] at hi ⊢
        by_cases e : i = q
        · subst e; rw [updG_same] at hi; exact absurd (show (2 : Int) = 0 from hi) (by decide)
        · rw [updG_ne _ _ _ _ e] at hi ⊢; exact HG6.out.1.none i hi
      have ho0 : ∀ i, i = 0 ∨ 5 ≤ i → Q0 i = noGp := fun i hi => by
        rw [gQ0, updG_ne _ _ _ _ (by omega)]; exact HG6.out.1.out i hi
      have hpa0 : 0 ≤ (Q0 q).pa ∧ (Q0 q).pa ≤ 4 := by
        rw [gQ0, updG_same]
        show 0 ≤ (g6.Q q).pa ∧ (g6.Q q).pa ≤ 4
        rcases HG6.out.1.pa q with h | h
        · exact ⟨h.1, h.2.1⟩
        · rw [h]; decide
      have HPA := hid (leave_pa q q hpa0)
      have HZ0 := hid hz0
      have HO0 := hid ho0
      have HA := hid hA
      have HF : Hid (g6.ended q (co % 256) = { g6 with Q := if qrn (Gt.leave Q0 q) (Gt.leave Q0 q q).pa = true then Gt.leave Q0 q else updG (Gt.leave Q0 q) q noGp }) := by
        refine hid ?_
        unfold Gt.ended
        rw [gQ0, gc]
        rfl
      have GW3 := hid gW3
      clear hA hz0 ho0 gQ0 gc HR HG6 hpa0 gW3
      generalize (g6.Q q).st = s at cs
      generalize (g6.Q q).co = s2 at cc
      go_wp2_with fail
      go_region
      rw [← GW3.out]
      generalize ((6 : Nat) : Int) = m6
      clear GW3 cs cc f0 f2 cl
      have HA1 : Hid (YpTo w0 y x L { g6 with Q := lvTo Q0 q 1 } D W3) := hid (by rw [lvTo_1 q (HO0.out 0 (.inl rfl))]; exact HA.out)
      have HL5 := hid (lvTo_all q (fun i hi => HO0.out i (.inr hi)))
      clear HA HO0
      go_wp2_with fail
      go_loopw [8] (fun s wr => ∃ j : Nat, 1 ≤ j ∧ j ≤ 5 ∧ s = .int .i64 (j : Int) ∧ Hid (YpTo w0 y x L { g6 with Q := lvTo Q0 q j } D wr)) (fun s _ => 5 - (intOf s).toNat)
      case atStart => exact ⟨1, by omega, by omega, rfl, HA1⟩
      case round =>
        clear HA1
        obtain ⟨j, hj1, hj5, rfl, HR⟩ := hrel
        rename World => wr
        by_cases e5 : j = 5
        · subst e5
          have HR5 : Hid (YpTo w0 y x L { g6 with Q := Gt.leave Q0 q } D wr) := by rw [HL5.out] at HR; exact HR
          clear HR HL5
          obtain ⟨Q1, gQ1⟩ : ∃ Q1, Q1 = Gt.leave Q0 q := ⟨_, rfl⟩
          rw [← gQ1] at HR5 HF HPA
          have cl := HR5.out.1.cl
          have cp : wr.cell? ⟨L, q * 10 + 1, none⟩ = some (.int .i64 (Q1 q).pa) := HR5.out.tl.pa q (by omega)
          have hpa := HPA.out
          cases hb : qrn Q1 (Q1 q).pa
          · have k3 := hid (r9over_any HR5.out.1 (Q1 q).pa hpa.1 hpa.2 true (by rw [show ({ g6 with Q := Q1 } : Gt).Q = Q1 from rfl, hb]; rfl))
            have hth := HR5.out.tl.th q (by omega)
            have hB : YpTo w0 y x L (g6.ended q (co % 256)) D (wr.setCells L (q * 10) (gpD q noGp)) := by
              rw [HF.out, if_neg (by rw [hb]; decide)]
              exact HR5.out.put (HR5.out.tl.put q (by omega) noGp) (upd_setCells L (gpD q noGp) _ _)
            rw [GN.out, GG6.out] at hB
            have HB := hid hB
            have HTH := hid hth
            clear hB hth hb HF HR5 gQ1 hpa HPA
            generalize (Q1 q).pa = a at cp k3
            go_wp2_with fail
            refine k3.out.mono ?_
            rintro e w3 ⟨rfl, h3⟩
            subst w3
            go_wp2_with (first
              | (refine wpList_build_is rfl 42 #[] rfl N.toArray (by simpa using HBU.out) ?_)
              | (refine wpList_store_mid rfl 42 (.tmp 102) (.tmp 101) rfl L (q * 10) N.toArray rfl rfl (by rw [← HT2.out]; exact HTH.out) HSZ.out HO1.out ?_))
            go_ret
            exact ⟨rfl, HB.out⟩
          · have k3 := hid (r9over_any HR5.out.1 (Q1 q).pa hpa.1 hpa.2 false (by rw [show ({ g6 with Q := Q1 } : Gt).Q = Q1 from rfl, hb]; rfl))
            have hB : YpTo w0 y x L (g6.ended q (co % 256)) D wr := by
              rw [HF.out, if_pos hb]
              exact HR5.out
            rw [GG6.out] at hB
            have HB := hid hB
            clear hB hb HF HR5 gQ1 hpa HPA
            generalize (Q1 q).pa = a at cp k3
            go_wp2_with fail
            refine k3.out.mono ?_
            rintro e w3 ⟨rfl, h3⟩
            subst w3
            go_wp2_with fail
            go_ret
            exact ⟨rfl, HB.out⟩
        · have hj : j < 5 := by omega
          have c3 : (0 : Int) ≤ j := by omega
          have c4 : (j : Int) < 5 := by omega
          have c5 : (j : Int) ≤ 4 := by omega
          have cl := HR.out.1.cl
          have eat : lvTo Q0 q j j = Q0 j := lvTo_at _ _ _
          have cp : wr.cell? ⟨L, j * 10 + 1, none⟩ = some (.int .i64 (Q0 j).pa) := by rw [← eat]; exact HR.out.tl.pa j hj
          have cs : wr.cell? ⟨L, j * 10 + 2, none⟩ = some (.int .i64 (Q0 j).st) := by rw [← eat]; exact HR.out.tl.st j hj
          have fz := HR.out.tl.fz (j * 10 + 1)
          by_cases e0 : (Q0 j).st = 0
          · have HR' : Hid (YpTo w0 y x L { g6 with Q := lvTo Q0 q (j + 1) } D wr) := hid (by
              rw [lvTo_same _ _ _ (by unfold Gt.leave; rw [if_neg (fun h => h.1 e0)])]
              exact HR.out)
            rw [e0] at cs
            clear HR eat e0 HF HPA HL5 HZ0
            generalize (Q0 j).pa = a at cp
            go_wp2_with fail
            go_roundw
            case rel => exact ⟨j + 1, by omega, by omega, by go_num, HR'⟩
            case measure => simp [intOf]; omega
          · by_cases ep : (Q0 j).pa = (q : Int)
            · rw [ep] at cp
              by_cases e2 : (Q0 j).st = 2
              · have hth := HR.out.tl.th j hj
                have hB : YpTo w0 y x L { g6 with Q := lvTo Q0 q (j + 1) } D (wr.setCells L (j * 10) (gpD j noGp)) := by
                  have := HR.out.put (HR.out.tl.put j hj noGp) (upd_setCells L (gpD j noGp) _ _)
                  rw [show updG ({ g6 with Q := lvTo Q0 q j } : Gt).Q j noGp = lvTo Q0 q (j + 1) from lvTo_upd _ _ _ _ (by unfold Gt.leave; rw [if_pos ⟨e0, ep⟩, if_pos e2])] at this
                  exact this
                rw [GN.out] at hB
                rw [e2] at cs
                have HB := hid hB
                have HTH := hid hth
                clear hB hth HR eat ep e0 e2 HF HPA HL5 HZ0
                go_wp2_with (first
                  | (refine wpList_build_is rfl 42 #[] rfl N.toArray (by simpa using HBU.out) ?_)
                  | (refine wpList_store_mid rfl 42 (.tmp 78) (.tmp 77) rfl L (j * 10) N.toArray rfl rfl (by rw [← HT2.out]; exact HTH.out) HSZ.out HO1.out ?_))
                go_roundw
                case rel => exact ⟨j + 1, by omega, by omega, by go_num, HB⟩
                case measure => simp [intOf]; omega
              · have hB : YpTo w0 y x L { g6 with Q := lvTo Q0 q (j + 1) } D (wr.setCell ⟨L, j * 10 + 1, none⟩ (.int .i64 0)) := by
                  have := HR.out.put (HR.out.tl.paTo j hj 0) (Upd.setCell (F := (· = L)) wr ⟨L, _, none⟩ _ rfl)
                  have e3 : ({ ({ g6 with Q := lvTo Q0 q j } : Gt).Q j with pa := 0 } : Gp) = { Q0 j with pa := 0 } := by rw [show ({ g6 with Q := lvTo Q0 q j } : Gt).Q j = Q0 j from eat]
                  rw [e3] at this
                  have this : YpTo w0 y x L { g6 with Q := updG (lvTo Q0 q j) j { Q0 j with pa := 0 } } D (wr.setCell ⟨L, j * 10 + 1, none⟩ (.int .i64 0)) := this
                  rw [lvTo_upd _ _ _ _ (by unfold Gt.leave; rw [if_pos ⟨e0, ep⟩, if_neg e2])] at this
                  exact this
                have HB := hid hB
                clear hB HR eat ep HF HPA HL5 HZ0
                generalize (Q0 j).st = s at cs e2 e0
                go_wp2_with fail
                go_roundw
                case rel => exact ⟨j + 1, by omega, by omega, by go_num, HB⟩
                case measure => simp [intOf]; omega
            · have HR' : Hid (YpTo w0 y x L { g6 with Q := lvTo Q0 q (j + 1) } D wr) := hid (by
                rw [lvTo_same _ _ _ (by unfold Gt.leave; rw [if_neg (fun h => ep h.2)])]
                exact HR.out)
              clear HR eat HF HPA HL5 HZ0
              generalize (Q0 j).pa = a at cp ep
              generalize (Q0 j).st = s at cs e0
              have hb2 : (a != (q : Int)) = true := by simp [ep]
              have hb : (s == 0 || a != (q : Int)) = true := by simp [ep]
              go_wp2_with fail
              all_goals
                go_roundw
                case rel => exact ⟨j + 1, by omega, by omega, by go_num, HR'⟩
                case measure => simp [intOf]; omega
    · have hj : j < 6 := by omega
      have c3 : (0 : Int) ≤ j := by omega
      have c4 : (j : Int) < 6 := by omega
      have k2 := hid (r9close_any HR.out (HE.out j (by omega)).1 (q : Int) (j : Int))
      have HC := hid (close_empty h1 h4 (HE.out j (by omega)).2.1 hj)
      clear HR
      go_wp2_with fail
      refine k2.out.mono ?_
      rintro e2 w2 ⟨rfl, h2⟩
      rw [HC.out] at h2
      have HR2 := hid h2
      clear h2 k2 HC
      go_wp2_with fail
      go_roundw
      case rel => exact ⟨j + 1, by omega, by go_num, HR2⟩
      case measure => simp [intOf]; omega

set_option maxHeartbeats 1000000 in
theorem r9kill_any (h : YpTo w0 y x L g D w) (H0 : GOk g) (n t : Int) :
    Calls Tryz.prog 32 #[.pointer (some ⟨y, 0, none⟩), .int .i64 n, .int .i64 t] w fun e w' => e = .returned (.int .i64 (g.kill n t).2) ∧ YpTo w0 y x L (g.kill n t).1 D w' := by
  unfold Gt.kill
  have k3 := hid (r9exit_any h H0 t 128)
  have H := hid h
  cases hr : g.runs n
  · rw [if_pos rfl]
    have k1 := hid (r9runs_any h.1 n false hr.symm)
    clear h hr H0 k3
    go_enter Tryz.func32, Tryz.ntmps32
    go_wp2_with fail
    refine k1.out.mono ?_
    rintro e w1 ⟨rfl, h⟩
    subst w1
    go_wp2_with fail
    go_ret
    exact ⟨rfl, H.out⟩
  rw [if_neg (by decide)]
  have k1 := hid (r9runs_any h.1 n true hr.symm)
  cases ht : g.runs t
  · rw [if_pos rfl]
    have k2 := hid (r9runs_any h.1 t false ht.symm)
    clear h hr H0 ht k3
    go_enter Tryz.func32, Tryz.ntmps32
    go_wp2_with fail
    refine k1.out.mono ?_
    rintro e w1 ⟨rfl, h⟩
    subst w1
    go_wp2_with fail
    refine k2.out.mono ?_
    rintro e w1 ⟨rfl, h⟩
    subst w1
    go_wp2_with fail
    go_ret
    exact ⟨rfl, H.out⟩
  rw [if_neg (by decide)]
  have k2 := hid (r9runs_any h.1 t true ht.symm)
  clear h hr H0 ht
  by_cases e1 : t = 1
  · by_cases e2 : n = 1
    · rw [if_neg (fun e => e.2 e2)]
      subst e1
      subst e2
      clear H
      go_enter Tryz.func32, Tryz.ntmps32
      go_wp2_with fail
      refine k1.out.mono ?_
      rintro e w1 ⟨rfl, h⟩
      subst w1
      go_wp2_with fail
      refine k2.out.mono ?_
      rintro e w1 ⟨rfl, h⟩
      subst w1
      go_wp2_with fail
      refine k3.out.mono ?_
      rintro e w2 ⟨rfl, h⟩
      go_wp2_with fail
      go_ret
      exact ⟨rfl, h⟩
    · rw [if_pos ⟨e1, e2⟩]
      subst e1
      clear k3
      go_enter Tryz.func32, Tryz.ntmps32
      go_wp2_with fail
      refine k1.out.mono ?_
      rintro e w1 ⟨rfl, h⟩
      subst w1
      go_wp2_with fail
      refine k2.out.mono ?_
      rintro e w1 ⟨rfl, h⟩
      subst w1
      go_wp2_with fail
      go_ret
      exact ⟨rfl, H.out⟩
  · rw [if_neg (fun e => e1 e.1)]
    clear H
    go_enter Tryz.func32, Tryz.ntmps32
    go_wp2_with fail
    refine k1.out.mono ?_
    rintro e w1 ⟨rfl, h⟩
    subst w1
    go_wp2_with fail
    refine k2.out.mono ?_
    rintro e w1 ⟨rfl, h⟩
    subst w1
    go_wp2_with fail
    refine k3.out.mono ?_
    rintro e w2 ⟨rfl, h⟩
    go_wp2_with fail
    go_ret
    exact ⟨rfl, h⟩
end

end Go.Proofs.YtbglhmcahnkbfaaGreat
