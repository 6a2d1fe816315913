/- Texts of this seat, merged. -/
import Derived.Test.YtbglhmcahnkbfaaGreatHMg24
import Derived.BigQuiet
import Derived.Test.YtbglhmcahnkbfaaGreatHMg10
import Derived.Test.YtbglhmcahnkbfaaGreatHMg27
import Derived.Test.YtbglhmcahnkbfaaGreatHMg26
import Derived.Test.YtbglhmcahnkbfaaGreatHMg6
import Derived.Test.YtbglhmcahnkbfaaGreatHMg1
import Derived.Test.YtbglhmcahnkbfaaGreatHMg11
import Derived.Test.YtbglhmcahnkbfaaGreatHMg23
import Derived.Test.YtbglhmcahnkbfaaGreatHMg22
import Derived.Test.YtbglhmcahnkbfaaGreatHMg33

/- The program's processes: what reads alone (usable, has, runs, process, free, descriptor, File). -/
namespace Go.Proofs.YtbglhmcahnkbfaaGreat
open Go.RowKit Go.ChangeMaps Go.MapKept
set_option linter.unusedVariables false
set_option maxRecDepth 20000

theorem gusable_yes (p f : Nat) (w : World) (h : w.cell? ⟨p, 0, none⟩ = some (.pointer (some ⟨f, 0, none⟩))) :
    Calls Tryz.prog 49 #[.pointer (some ⟨p, 0, none⟩)] w fun e w' => e = .returned (.bool true) ∧ w' = w := by
  go_enter Tryz.func49, Tryz.ntmps49
  go_wp2
  go_ret
  exact ⟨rfl, rfl⟩
theorem ghas_any (w : World) (p : Nat) (d b : Int) (r : Bool) (h : w.cell? ⟨p, 1, none⟩ = some (.int .i64 d)) (hb : dfc d b = r) :
    Calls Tryz.prog 64 #[.pointer (some ⟨p, 0, none⟩), .int .i64 b] w fun e w' => e = .returned (.bool r) ∧ w' = w := by
  have HB : Hid ((bits BinOp.and IntKind.i64 d b != 0) = r) := hid (by rw [← hb]; unfold dfc; cases h : (bits BinOp.and IntKind.i64 d b != 0) <;> simp at h ⊢ <;> exact h)
  clear hb
  go_enter Tryz.func64, Tryz.ntmps64
  go_wp2_with fail
  go_ret
  refine ⟨?_, rfl⟩
  rw [← HB.out]
  rfl

/-- Does a process of this number run? -/
def qrn (Q : Nat → Gp) (n : Int) : Bool := decide (1 ≤ n ∧ n ≤ 4 ∧ (Q n.toNat).st = 1)
theorem qrn_runs (g : Gt) (n : Int) : g.runs n = qrn g.Q n := rfl
theorem qrn_lt {Q : Nat → Gp} {n : Int} (h : qrn Q n = true) : ∃ q : Nat, n = (q : Int) ∧ 1 ≤ q ∧ q ≤ 4 ∧ (Q q).st = 1 := by
  unfold qrn at h
  simp only [decide_eq_true_eq] at h
  exact ⟨n.toNat, by omega, by omega, by omega, h.2.2⟩
theorem gruns_any (p f : Nat) (d : Int) (Q : Nat → Gp) (n : Int) (b : Bool) (w : World) (h : Th w p f d Q) (hb : b = qrn Q n) :
    Calls Tryz.prog 51 #[.pointer (some ⟨p, 0, none⟩), .int .i64 n] w fun e w' => e = .returned (.bool b) ∧ w' = w := by
  by_cases c1 : n < 1
  · obtain rfl : b = false := by rw [hb]; unfold qrn; rw [decide_eq_false_iff_not]; omega
    clear hb h
    go_enter Tryz.func51, Tryz.ntmps51
    go_wp2
    go_ret
    exact ⟨rfl, rfl⟩
  · by_cases c2 : 4 < n
    · obtain rfl : b = false := by rw [hb]; unfold qrn; rw [decide_eq_false_iff_not]; omega
      clear hb h
      go_enter Tryz.func51, Tryz.ntmps51
      go_wp2
      go_ret
      exact ⟨rfl, rfl⟩
    · obtain ⟨i, rfl⟩ := Int.eq_ofNat_of_zero_le (show 0 ≤ n by omega)
      have hs := h.st i (by omega)
      obtain ⟨s, gs⟩ : ∃ s, s = (Q i).st := ⟨_, rfl⟩
      obtain rfl : b = decide (s = 1) := by rw [hb, gs]; unfold qrn; rw [decide_eq_decide]; exact ⟨fun h => h.2.2, fun h => ⟨by omega, by omega, h⟩⟩
      rw [← gs] at hs
      have c3 : (0 : Int) ≤ i := by omega
      have c4 : (i : Int) < 5 := by omega
      clear hb h gs
      go_enter Tryz.func51, Tryz.ntmps51
      go_wp2
      go_ret
      refine ⟨?_, rfl⟩
      by_cases hs1 : s = 1 <;> simp [hs1]

theorem gproc_yes (p f i : Nat) (d : Int) (Q : Nat → Gp) (w : World) (h : Th w p f d Q) (h1 : 1 ≤ i ∧ i ≤ 4) (hr : (Q i).st = 1) :
    Calls Tryz.prog 52 #[.pointer (some ⟨p, 0, none⟩), .int .i64 (i : Int)] w fun e w' => e = .returned (.tuple #[.pointer (some ⟨p, 2 + i * 9, none⟩), .int .i64 0]) ∧ w' = w := by
  have k1 := hid (gusable_yes p f w h.fl)
  have k2 := hid (gruns_any p f d Q i true w h (by symm; unfold qrn; rw [decide_eq_true_eq]; exact ⟨by omega, by omega, hr⟩))
  have c3 : (0 : Int) ≤ i := by omega
  have c4 : (i : Int) < 5 := by omega
  clear h hr
  go_enter Tryz.func52, Tryz.ntmps52
  go_wp2_with fail
  refine k1.out.mono ?_
  rintro e w1 ⟨rfl, rfl⟩
  go_wp2_with fail
  refine k2.out.mono ?_
  rintro e w1 ⟨rfl, rfl⟩
  go_wp2_with fail
  go_ret2
  exact ⟨rfl, rfl⟩
theorem gproc_no (p f : Nat) (d n : Int) (Q : Nat → Gp) (w : World) (h : Th w p f d Q) (hr : qrn Q n = false) :
    Calls Tryz.prog 52 #[.pointer (some ⟨p, 0, none⟩), .int .i64 n] w fun e w' => e = .returned (.tuple #[.pointer none, .int .i64 3]) ∧ w' = w := by
  have k1 := hid (gusable_yes p f w h.fl)
  have k2 := hid (gruns_any p f d Q n false w h hr.symm)
  clear h hr
  go_enter Tryz.func52, Tryz.ntmps52
  go_wp2_with fail
  refine k1.out.mono ?_
  rintro e w1 ⟨rfl, rfl⟩
  go_wp2_with fail
  refine k2.out.mono ?_
  rintro e w1 ⟨rfl, rfl⟩
  go_wp2_with fail
  go_ret2
  exact ⟨rfl, rfl⟩

def frQ (Q : Nat → Gp) : Nat := if (Q 1).st = 0 then 1 else if (Q 2).st = 0 then 2 else if (Q 3).st = 0 then 3 else if (Q 4).st = 0 then 4 else 0
theorem frQ_free (g : Gt) : g.free = frQ g.Q := rfl
theorem frQ_pre {Q : Nat → Gp} {j : Nat} (hj : j ≤ 4) (h : ∀ i, 1 ≤ i → i < j → (Q i).st ≠ 0) (h1 : 1 ≤ j) (h0 : (Q j).st = 0) : frQ Q = j := by
  unfold frQ
  obtain rfl | rfl | rfl | rfl : j = 1 ∨ j = 2 ∨ j = 3 ∨ j = 4 := by omega
  · rw [if_pos h0]
  · rw [if_neg (h 1 (by omega) (by omega)), if_pos h0]
  · rw [if_neg (h 1 (by omega) (by omega)), if_neg (h 2 (by omega) (by omega)), if_pos h0]
  · rw [if_neg (h 1 (by omega) (by omega)), if_neg (h 2 (by omega) (by omega)), if_neg (h 3 (by omega) (by omega)), if_pos h0]
theorem frQ_none {Q : Nat → Gp} (h : ∀ i, 1 ≤ i → i < 5 → (Q i).st ≠ 0) : frQ Q = 0 := by
  unfold frQ
  rw [if_neg (h 1 (by omega) (by omega)), if_neg (h 2 (by omega) (by omega)), if_neg (h 3 (by omega) (by omega)), if_neg (h 4 (by omega) (by omega))]
theorem gfree_any (p f : Nat) (d : Int) (Q : Nat → Gp) (w : World) (h : Th w p f d Q) :
    Calls Tryz.prog 69 #[.pointer (some ⟨p, 0, none⟩)] w fun e w' => e = .returned (.int .i64 (frQ Q : Int)) ∧ w' = w := by
  have H := hid h
  clear h
  go_enter Tryz.func69, Tryz.ntmps69
  go_wp2_with fail
  go_loop [3] (fun s => ∃ j : Nat, 1 ≤ j ∧ j ≤ 5 ∧ s = .int .i64 (j : Int) ∧ Hid (∀ i, 1 ≤ i → i < j → (Q i).st ≠ 0)) (fun s => 5 - (intOf s).toNat)
  case atStart => exact ⟨1, by omega, by omega, rfl, hid (fun i h1 h2 => by omega)⟩
  case round =>
    obtain ⟨j, h1, h5, rfl, HP⟩ := hrel
    by_cases e5 : j = 5
    · have HE := hid (frQ_none (Q := Q) (fun i a b => HP.out i a (by omega)))
      subst e5
      clear HP
      go_wp2_with fail
      go_ret
      exact ⟨by rw [HE.out]; rfl, rfl⟩
    · have hs := H.out.st j (by omega)
      have c3 : (0 : Int) ≤ j := by omega
      have c4 : (j : Int) < 5 := by omega
      have c5 : (j : Int) ≤ 4 := by omega
      by_cases hz : (Q j).st = 0
      · have HE := hid (frQ_pre (Q := Q) (by omega) HP.out h1 hz)
        rw [hz] at hs
        clear HP hz
        go_wp2_with fail
        go_ret
        exact ⟨congrArg (fun k : Nat => Ending.returned (.int .i64 (k : Int))) HE.out.symm, rfl⟩
      · have HP' : Hid (∀ i, 1 ≤ i → i < j + 1 → (Q i).st ≠ 0) := hid (fun i a b => by
          by_cases e : i = j
          · rw [e]; exact hz
          · exact HP.out i a (by omega))
        clear HP
        generalize (Q j).st = s at hs hz
        go_wp2_with fail
        go_round
        case rel => exact ⟨j + 1, by omega, by omega, by go_num, HP'⟩
        case measure => simp [intOf]; omega

theorem gisdesc_any (n : Int) (w : World) : Calls Tryz.prog 63 #[.int .i64 n] w fun e w' => e = .returned (.bool (decide (0 ≤ n ∧ n < 6))) ∧ w' = w := by
  by_cases c1 : n < 0
  · rw [show decide (0 ≤ n ∧ n < 6) = false by rw [decide_eq_false_iff_not]; omega]
    go_enter Tryz.func63, Tryz.ntmps63
    go_wp2
    go_ret
    exact ⟨rfl, rfl⟩
  · by_cases c2 : n < 6
    · rw [show decide (0 ≤ n ∧ n < 6) = true by rw [decide_eq_true_eq]; omega]
      have c3 : (0 : Int) ≤ n := by omega
      go_enter Tryz.func63, Tryz.ntmps63
      go_wp2
      go_ret
      exact ⟨rfl, rfl⟩
    · rw [show decide (0 ≤ n ∧ n < 6) = false by rw [decide_eq_false_iff_not]; omega]
      have c3 : (0 : Int) ≤ n := by omega
      go_enter Tryz.func63, Tryz.ntmps63
      go_wp2
      go_ret
      exact ⟨rfl, rfl⟩

/-- What 'descriptor' hands back. -/
def dsV (p : Nat) (g : Gt) (n fd : Int) : Value :=
  if (g.file n fd).2 ≠ 0 then .tuple #[.pointer none, .int .i64 0, .int .i64 (g.file n fd).2] else .tuple #[.pointer (some ⟨p, 2 + n.toNat * 9, none⟩), .int .i64 (g.file n fd).1, .int .i64 0]
theorem dsV_no {p : Nat} {g : Gt} {n fd : Int} (h : g.runs n = false) : dsV p g n fd = .tuple #[.pointer none, .int .i64 0, .int .i64 3] := by
  have e : g.file n fd = (0, 3) := by unfold Gt.file; rw [if_pos h]
  unfold dsV; rw [e]; rfl
theorem dsV_bad {p : Nat} {g : Gt} {n fd : Int} (h : g.runs n = true) (c : fd < 0 ∨ 6 ≤ fd ∨ (g.Q n.toNat).fd fd.toNat = 0) : dsV p g n fd = .tuple #[.pointer none, .int .i64 0, .int .i64 9] := by
  have e : g.file n fd = (0, 9) := by unfold Gt.file; rw [if_neg (by rw [h]; decide), if_pos c]
  unfold dsV; rw [e]; rfl
theorem dsV_yes {p : Nat} {g : Gt} {n fd : Int} (h : g.runs n = true) (c : ¬ (fd < 0 ∨ 6 ≤ fd ∨ (g.Q n.toNat).fd fd.toNat = 0)) : dsV p g n fd = .tuple #[.pointer (some ⟨p, 2 + n.toNat * 9, none⟩), .int .i64 ((g.Q n.toNat).fd fd.toNat), .int .i64 0] := by
  have e : g.file n fd = ((g.Q n.toNat).fd fd.toNat, 0) := by unfold Gt.file; rw [if_neg (by rw [h]; decide), if_neg c]
  unfold dsV; rw [e]; rfl
set_option maxHeartbeats 1000000 in
theorem gdesc_any (p f : Nat) (g : Gt) (n fd : Int) (w : World) (h : Th w p f g.T.F.d g.Q) :
    Calls Tryz.prog 61 #[.pointer (some ⟨p, 0, none⟩), .int .i64 n, .int .i64 fd] w fun e w' => e = .returned (dsV p g n fd) ∧ Below w.heap.size w w' := by
  cases hr : g.runs n
  · rw [dsV_no hr]
    have k1 := hid (gproc_no p f _ n g.Q w h hr)
    clear h hr
    go_enter Tryz.func61, Tryz.ntmps61
    go_wp2_with fail
    refine k1.out.mono ?_
    rintro e w1 ⟨rfl, rfl⟩
    go_wp2_with fail
    go_ret3
    exact ⟨rfl, Below.refl _ _⟩
  · obtain ⟨q, rfl, h1, h4, hs⟩ := qrn_lt hr
    have k1 := hid (gproc_yes p f q _ g.Q w h ⟨h1, h4⟩ hs)
    have k2 := hid (gisdesc_any fd w)
    by_cases c : 0 ≤ fd ∧ fd < 6
    · obtain ⟨i, rfl⟩ := Int.eq_ofNat_of_zero_le c.1
      have hz := h.z q (by omega) i (by omega)
      have k2 : Hid (Calls Tryz.prog 63 #[.int .i64 (i : Int)] w fun e w' => e = .returned (.bool true) ∧ w' = w) := by rw [decide_eq_true c] at k2; exact k2
      obtain ⟨c3, c4⟩ := c
      by_cases hv : (g.Q q).fd i = 0
      · rw [dsV_bad hr (by rw [Int.toNat_natCast, Int.toNat_natCast]; exact .inr (.inr hv))]
        rw [hv] at hz
        clear h hr hs hv
        go_enter Tryz.func61, Tryz.ntmps61
        go_wp2_with fail
        refine k1.out.mono ?_
        rintro e w1 ⟨rfl, rfl⟩
        go_wp2_with fail
        refine k2.out.mono ?_
        rintro e w1 ⟨rfl, rfl⟩
        go_wp2_with fail
        go_ret3
        exact ⟨rfl, Below.refl _ _⟩
      · rw [dsV_yes hr (by rw [Int.toNat_natCast, Int.toNat_natCast]; omega), Int.toNat_natCast, Int.toNat_natCast]
        generalize (g.Q q).fd i = v at hz hv ⊢
        clear h hr hs
        go_enter Tryz.func61, Tryz.ntmps61
        go_wp2_with fail
        refine k1.out.mono ?_
        rintro e w1 ⟨rfl, rfl⟩
        go_wp2_with fail
        refine k2.out.mono ?_
        rintro e w1 ⟨rfl, rfl⟩
        go_wp2_with fail
        go_quiet (fail)
        go_wp2_with fail
        go_ret3
        exact ⟨rfl, (Below.refl w1.heap.size w1).trans ⟨rfl, rfl, rfl, Nat.le_refl _, fun _ _ => rfl⟩⟩
    · have k2 : Hid (Calls Tryz.prog 63 #[.int .i64 fd] w fun e w' => e = .returned (.bool false) ∧ w' = w) := by rw [decide_eq_false c] at k2; exact k2
      rw [dsV_bad hr (by omega)]
      clear h hr hs
      go_enter Tryz.func61, Tryz.ntmps61
      go_wp2_with fail
      refine k1.out.mono ?_
      rintro e w1 ⟨rfl, rfl⟩
      go_wp2_with fail
      refine k2.out.mono ?_
      rintro e w1 ⟨rfl, rfl⟩
      go_wp2_with fail
      go_ret3
      exact ⟨rfl, Below.refl _ _⟩

theorem file_err {g : Gt} {n fd : Int} (h : (g.file n fd).2 ≠ 0) : (g.file n fd).1 = 0 := by
  unfold Gt.file at h ⊢
  split
  · rfl
  rename_i a
  rw [if_neg a] at h
  split
  · rfl
  rename_i b
  rw [if_neg b] at h
  exact absurd rfl h
theorem gfile_any (p f : Nat) (g : Gt) (n fd : Int) (w : World) (h : Th w p f g.T.F.d g.Q) :
    Calls Tryz.prog 21 #[.pointer (some ⟨p, 0, none⟩), .int .i64 n, .int .i64 fd] w fun e w' => e = .returned (.tuple #[.int .i64 (g.file n fd).1, .int .i64 (g.file n fd).2]) ∧ Below w.heap.size w w' := by
  have k1 := hid (gdesc_any p f g n fd w h)
  clear h
  by_cases c : (g.file n fd).2 = 0
  · have k1 : Hid (Calls Tryz.prog 61 #[.pointer (some ⟨p, 0, none⟩), .int .i64 n, .int .i64 fd] w fun e w' => e = .returned (.tuple #[.pointer (some ⟨p, 2 + n.toNat * 9, none⟩), .int .i64 (g.file n fd).1, .int .i64 0]) ∧ Below w.heap.size w w') := by
      have e : dsV p g n fd = .tuple #[.pointer (some ⟨p, 2 + n.toNat * 9, none⟩), .int .i64 (g.file n fd).1, .int .i64 0] := by unfold dsV; rw [if_neg (fun h => h c)]
      rw [e] at k1; exact k1
    rw [c]
    generalize (g.file n fd).1 = v at k1 ⊢
    clear c
    go_enter Tryz.func21, Tryz.ntmps21
    go_wp2_with fail
    refine k1.out.mono ?_
    rintro e w1 ⟨rfl, h1⟩
    go_wp2_with fail
    go_ret2
    exact ⟨rfl, h1⟩
  · have k1 : Hid (Calls Tryz.prog 61 #[.pointer (some ⟨p, 0, none⟩), .int .i64 n, .int .i64 fd] w fun e w' => e = .returned (.tuple #[.pointer none, .int .i64 0, .int .i64 (g.file n fd).2]) ∧ Below w.heap.size w w') := by
      have e : dsV p g n fd = .tuple #[.pointer none, .int .i64 0, .int .i64 (g.file n fd).2] := by unfold dsV; rw [if_pos c]
      rw [e] at k1; exact k1
    rw [file_err c]
    generalize (g.file n fd).2 = v at k1 ⊢
    clear c
    go_enter Tryz.func21, Tryz.ntmps21
    go_wp2_with fail
    refine k1.out.mono ?_
    rintro e w1 ⟨rfl, h1⟩
    go_wp2_with fail
    go_ret2
    exact ⟨rfl, h1⟩

end Go.Proofs.YtbglhmcahnkbfaaGreat

/- What usable, file, free, has, opened, bodyOf do (program). -/
namespace Go.Proofs.YtbglhmcahnkbfaaGreat
open Go.RowKit Go.ChangeMaps Go.MapKept
set_option linter.unusedVariables false
set_option maxRecDepth 20000

theorem fusable_yes (t s : Nat) (w : World) (h : w.cell? ⟨t, 0, none⟩ = some (.pointer (some ⟨s, 0, none⟩))) :
    Calls Tryz.prog 50 #[.pointer (some ⟨t, 0, none⟩)] w fun e w' => e = .returned (.bool true) ∧ w' = w := by
  go_enter Tryz.func50, Tryz.ntmps50
  go_wp2
  go_ret
  exact ⟨rfl, rfl⟩

/-- What 'file' tells. -/
def fileV (t : Nat) (T : Ft) (n : Int) : Value := if T.there n = true then .tuple #[.pointer (some ⟨t, 2 + n.toNat * 5, none⟩), .int .i64 0] else .tuple #[.pointer none, .int .i64 9]

set_option maxHeartbeats 1000000 in
theorem ffile_any (w : World) (t p q : Nat) (O0 : Nat → Fl) (Gn : Nat → Prop) (T : Ft) (H : Ts w t p q O0 Gn T) (n : Int) :
    Calls Tryz.prog 83 #[.pointer (some ⟨t, 0, none⟩), .int .i64 n] w fun e w' => e = .returned (fileV t T n) ∧ w' = w := by
  have k0 := hid (fusable_yes t p w H.tf.s)
  unfold fileV
  by_cases h1 : n < 1
  · rw [if_neg (by unfold Ft.there; simp; omega)]
    clear H
    go_enter Tryz.func83, Tryz.ntmps83
    go_wp2_with fail
    refine k0.out.mono ?_
    rintro e w1 ⟨rfl, rfl⟩
    clear k0
    go_wp2_with fail
    go_ret2
    exact ⟨rfl, rfl⟩
  by_cases h2 : 10 < n
  · rw [if_neg (by unfold Ft.there; simp; omega)]
    clear H
    go_enter Tryz.func83, Tryz.ntmps83
    go_wp2_with fail
    refine k0.out.mono ?_
    rintro e w1 ⟨rfl, rfl⟩
    clear k0
    go_wp2_with fail
    go_ret2
    exact ⟨rfl, rfl⟩
  obtain ⟨i, rfl⟩ : ∃ i : Nat, n = (i : Int) := ⟨n.toNat, by omega⟩
  have hi : i < 11 := by omega
  have c4 := H.tf.c4 i hi
  rw [H.h0 i hi] at c4
  have c3 : (0 : Int) ≤ (i : Int) := by omega
  have c5 : (i : Int) < 11 := by omega
  by_cases hh : (T.O i).h = 0
  · rw [hh] at c4
    rw [if_neg (by unfold Ft.there; simp [hh])]
    clear H hh
    go_enter Tryz.func83, Tryz.ntmps83
    go_wp2_with fail
    refine k0.out.mono ?_
    rintro e w1 ⟨rfl, rfl⟩
    clear k0
    go_wp2_with fail
    go_ret2
    exact ⟨rfl, rfl⟩
  · rw [if_pos (by unfold Ft.there; simp [hh]; omega), Int.toNat_natCast]
    obtain ⟨m, gm⟩ : ∃ m, m = (T.O i).h := ⟨_, rfl⟩
    rw [← gm] at c4 hh
    have hh' : (m == 0) = false := by simpa using hh
    clear H gm hh
    go_enter Tryz.func83, Tryz.ntmps83
    go_wp2_with fail
    refine k0.out.mono ?_
    rintro e w1 ⟨rfl, rfl⟩
    clear k0
    go_wp2_with fail
    go_ret2
    exact ⟨rfl, rfl⟩

/-- What lies below an open file: a node, or a pipe's end. -/
def bodyV (p q : Nat) (k of : Int) : Value := if k = 3 then .iface 165 (.agg #[.pointer (some ⟨q, 0, none⟩), .int .i64 of, .bool true]) else if k = 2 then .iface 165 (.agg #[.pointer (some ⟨q, 0, none⟩), .int .i64 of, .bool false]) else .iface 167 (.agg #[.pointer (some ⟨p, 0, none⟩), .int .i64 of])

set_option maxHeartbeats 2000000 in
theorem body_any (w : World) (t p q o : Nat) (k of : Int) (cs : w.cell? ⟨t, 0, none⟩ = some (.pointer (some ⟨p, 0, none⟩))) (cp : w.cell? ⟨t, 1, none⟩ = some (.pointer (some ⟨q, 0, none⟩))) (c0 : w.cell? ⟨t, o, none⟩ = some (.int .i64 k)) (c1 : w.cell? ⟨t, o + 1, none⟩ = some (.int .i64 of)) (hk : k = 1 ∨ k = 2 ∨ k = 3) :
    Calls Tryz.prog 84 #[.pointer (some ⟨t, 0, none⟩), .pointer (some ⟨t, o, none⟩)] w fun e w' => e = .returned (bodyV p q k of) ∧ Below w.heap.size w w' := by
  unfold bodyV
  rcases hk with rfl | rfl | rfl
  · go_enter Tryz.func84, Tryz.ntmps84
    go_wp2_with fail
    go_quiet (fail)
    go_wp2_with fail
    go_ret
    exact ⟨rfl, ⟨rfl, rfl, rfl, Nat.le_refl _, fun _ _ => rfl⟩⟩
  · go_enter Tryz.func84, Tryz.ntmps84
    go_wp2_with fail
    go_quiet (fail)
    go_wp2_with fail
    go_ret
    exact ⟨rfl, ⟨rfl, rfl, rfl, Nat.le_refl _, fun _ _ => rfl⟩⟩
  · go_enter Tryz.func84, Tryz.ntmps84
    go_wp2_with fail
    go_quiet (fail)
    go_wp2_with fail
    go_ret
    exact ⟨rfl, ⟨rfl, rfl, rfl, Nat.le_refl _, fun _ _ => rfl⟩⟩

end Go.Proofs.YtbglhmcahnkbfaaGreat

/- Words for calls: rows of bytes, reads, what Stat tells. -/
namespace Go.Proofs.YtbglhmcahnkbfaaGreat
open Go.RowKit Go.ChangeMaps Go.MapKept
set_option linter.unusedVariables false
set_option maxRecDepth 20000

theorem pstat2 (p : Nat) (F : Fs) (G : Nat → Prop) (w : World) (H : Pf w p F G) (hF : FOk F) (n : Int) :
    Calls Tryz.prog 87 #[.pointer (some ⟨p, 0, none⟩), .int .i64 n] w fun e w' => e = .returned (.tuple #[.agg #[.int .i64 (F.stat n).1, .int .i64 (F.stat n).2.1, .int .i64 (F.stat n).2.2.1], .int .i64 (F.stat n).2.2.2]) ∧ Below w.heap.size w w' := by
  have HP := H
  obtain ⟨S, HS, R, hG⟩ := H
  by_cases ht : F.there n = false
  · have e : F.stat n = (0, 0, 0, 2) := by unfold Fs.stat; rw [if_pos ht]
    rw [e]
    refine (stat_no p S w HS n (there_no R ht)).mono ?_
    rintro e w' ⟨rfl, h⟩
    exact ⟨rfl, h⟩
  · obtain ⟨i, rfl, h1, h2, hk⟩ := there_yes (by simpa using ht : F.there n = true)
    have e : F.stat (i : Int) = ((F.P i).k, (F.P i).l, (F.size i : Int), 0) := by unfold Fs.stat; rw [if_neg ht]; rfl
    rw [e]
    have r := R.P i h2
    refine (stat_any p S w i h1 h2 HS (by rw [r.k]; exact hk) (F.size i) ?_).mono ?_
    · rw [r.k, R.L i h2, r.s]
      unfold Fs.size
      by_cases q : (F.P i).k = 2
      · rw [if_pos q, (hF.dir i q).1]; simp
      · rw [if_neg q, hF.file i q]; simp
    · rintro e w' ⟨rfl, h⟩
      rw [r.k, r.l]
      exact ⟨rfl, h⟩


end Go.Proofs.YtbglhmcahnkbfaaGreat

/- What the methods of nodes and of pipes' ends do (program). -/
namespace Go.Proofs.YtbglhmcahnkbfaaGreat
open Go.RowKit Go.ChangeMaps Go.MapKept
set_option linter.unusedVariables false
set_option maxRecDepth 20000

set_option maxHeartbeats 1000000 in
theorem fedrop (w : World) (q : Nat) (of : Int) (wr k : Bool) (P : Nat → Pi.Pp) (H : Pi.Tc w q k P) :
    Calls Tryz.prog 199 #[.agg #[.pointer (some ⟨q, 0, none⟩), .int .i64 of, .bool wr]] w fun e w' => e = .returned (.int .i64 (Pi.dropE P of wr)) ∧ Pi.Tc w' q k (Pi.dropP k P of wr) ∧ Upd (· = q) w w' := by
  have k1 := hid (fun W (hb : Below w.heap.size w W) => Pi.drop_spec q of k wr P W (H.below hb H.lt))
  clear H
  generalize Pi.dropE P of wr = b1 at k1 ⊢
  go_enter Tryz.func199, Tryz.ntmps199
  go_wp2_with fail
  have hb := one_new w (Obj.cells #[.pointer (some ⟨q, 0, none⟩), .int .i64 of, .bool wr] 165)
  refine (k1.out _ hb).mono ?_
  rintro e w1 ⟨rfl, hT, hU⟩
  have HQ := hid (And.intro hT ((Upd.of_below hb).trans hU (fun _ _ h => h)))
  clear hT hU hb k1
  go_wp2_with fail
  go_ret
  exact ⟨rfl, HQ.out.1, HQ.out.2⟩

set_option maxHeartbeats 1000000 in
theorem fndrop (w : World) (p : Nat) (F : Fs) (G : Nat → Prop) (H : Pf w p F G) (hF : FOk F) (of : Int) :
    Calls Tryz.prog 206 #[.agg #[.pointer (some ⟨p, 0, none⟩), .int .i64 of]] w fun e w' => e = .returned (.int .i64 (F.drop of).2) ∧ PfTo w p (F.drop of).1 G w' := by
  have k1 := hid (fun W (hb : Below w.heap.size w W) => pdrop p F G W (H.grow hb) hF of)
  clear H
  generalize (F.drop of).2 = b1 at k1 ⊢
  go_enter Tryz.func206, Tryz.ntmps206
  go_wp2_with fail
  have hb := one_new w (Obj.cells #[.pointer (some ⟨p, 0, none⟩), .int .i64 of] 167)
  refine (k1.out _ hb).mono ?_
  rintro e w1 ⟨rfl, hT⟩
  have HQ := hid (hT.ahead hb)
  clear hT hb k1
  go_wp2_with fail
  go_ret
  exact ⟨rfl, HQ.out⟩

end Go.Proofs.YtbglhmcahnkbfaaGreat

/- slices.Equal of what Look tells; what it tells are numbers. -/
namespace Go.Proofs.YtbglhmcahnkbfaaGreat
open Go.RowKit Go.ChangeMaps Go.MapKept
set_option linter.unusedVariables false
set_option maxRecDepth 20000

end Go.Proofs.YtbglhmcahnkbfaaGreat

/- What Look of open files tells, row by row. -/
namespace Go.Proofs.YtbglhmcahnkbfaaGreat
open Go.RowKit Go.ChangeMaps Go.MapKept
set_option linter.unusedVariables false
set_option maxRecDepth 20000

theorem flat_at (f : Nat → List Value) (L : Nat) (hL : ∀ i, (f i).length = L) : ∀ (is : List Nat) (j : Nat) (hj : j < is.length) (k : Nat), k < L → (is.flatMap f)[j * L + k]? = (f is[j])[k]?
  | i :: r, 0, hj, k, hk => by
    rw [List.flatMap_cons, List.getElem?_append_left (by rw [hL]; omega)]
    simp
  | i :: r, j + 1, hj, k, hk => by
    have e : (j + 1) * L + k = L + (j * L + k) := by rw [Nat.succ_mul]; omega
    rw [List.flatMap_cons, e, List.getElem?_append_right (by rw [hL]; omega), hL, Nat.add_sub_cancel_left]
    have hj' : j < r.length := by simpa using hj
    rw [flat_at f L hL r j hj' k hk]
    simp

/-- The numbers that are open. -/
def opn (O : Nat → Fl) (n : Nat) : List Nat := (List.range n).filter (fun i => decide ((O i).h ≠ 0))
theorem opn_flat (O : Nat → Fl) : ∀ n, oiL O n = (opn O n).flatMap (fun i => oiV i (O i)) ∧ oiN O n = (opn O n).length
  | 0 => ⟨rfl, rfl⟩
  | n + 1 => by
    obtain ⟨a, b⟩ := opn_flat O n
    unfold opn at a b ⊢
    simp only [oiL, oiN, List.range_succ, List.filter_append]
    by_cases h : (O n).h = 0
    · simp [h, a, b]
    · simp [h, a, b]
theorem mem_opn {O : Nat → Fl} {n i : Nat} : i ∈ opn O n ↔ i < n ∧ (O i).h ≠ 0 := by
  unfold opn
  rw [List.mem_filter, List.mem_range]
  simp

/-- Rows as they are read. -/
def Rws (w : World) (B : Nat) (a : Option Addr) (is : List Nat) (L : Nat) (f : Nat → List Value) : Prop :=
  0 < is.length → ∃ q, a = some ⟨q, 0, none⟩ ∧ B ≤ q ∧ q < w.heap.size ∧ ∀ j, ∀ h : j < is.length, ∀ k, k < L → ∀ v, (f is[j])[k]? = some v → w.cell? ⟨q, j * L + k, none⟩ = some v
theorem Rws.of {w : World} {B e n : Nat} {v : Value} {is : List Nat} {L : Nat} {f : Nat → List Value} (hL : ∀ i, (f i).length = L) (hn : n = is.length) (h : w.ownsRow B e L v n (is.flatMap f)) : ∃ a c, v = .slice a n c ∧ Rws w B a is L f := by
  obtain ⟨a, c, rfl, _, _, hc⟩ := own_shp h
  refine ⟨a, c, rfl, fun h0 => ?_⟩
  obtain ⟨q, rfl, hB, hq, hcc⟩ := hc (by omega)
  exact ⟨q, rfl, hB, hq, fun j hj k hk v hv => hcc _ v (by rw [flat_at f L hL is j hj k hk]; exact hv)⟩
theorem Rws.upd {U : Nat → Prop} {w w' : World} {B : Nat} {a : Option Addr} {is : List Nat} {L : Nat} {f : Nat → List Value} (h : Rws w B a is L f) (u : Upd U w w') (hU : ∀ b, B ≤ b → ¬ U b) : Rws w' B a is L f := fun h0 => by
  obtain ⟨q, e, hB, hq, hh⟩ := h h0
  exact ⟨q, e, hB, Nat.lt_of_lt_of_le hq u.size, fun j hj k hk v hv => (World.cell?_of_block (a := ⟨q, _, none⟩) (u.block q hq (hU q hB))).trans (hh j hj k hk v hv)⟩
theorem Rws.below {w w' : World} {B : Nat} {a : Option Addr} {is : List Nat} {L : Nat} {f : Nat → List Value} (h : Rws w B a is L f) (u : Below w.heap.size w w') : Rws w' B a is L f := h.upd (Upd.of_below (F := fun _ => False) u) (fun _ _ h => h)
theorem take_more {α : Type} (l : List α) (i : Nat) (h : i < l.length) : l.take (i + 1) = l.take i ++ [l[i]] := by
  rw [List.take_add_one]
  simp [h]


end Go.Proofs.YtbglhmcahnkbfaaGreat

/- What there, free, node of the document's open files do. -/
namespace Go.Proofs.YtbglhmcahnkbfaaGreat
open Go.RowKit Go.ChangeMaps Go.MapKept
set_option linter.unusedVariables false
set_option maxRecDepth 20000

theorem TOk.k0 {T : Ft} (H : TOk T) (i : Nat) : (T.O i).k = 0 ↔ (T.O i).h = 0 := by
  constructor
  · intro e
    by_cases h : (T.O i).h = 0
    · exact h
    · have := H.k i h; omega
  · intro e
    rw [H.nn i e]; rfl

set_option maxHeartbeats 1000000 in
theorem r8there (w : World) (x g s q : Nat) (Dn Dp : Nat → Prop) (T : Ft) (H : Rs w x g s q Dn Dp T) (hT : TOk T) (n : Int) :
    Calls Tryz.prog 93 #[.pointer (some ⟨x, 0, none⟩), .int .i64 n] w fun e w' => e = .returned (.bool (T.there n)) ∧ w' = w := by
  by_cases h1 : n < 1
  · rw [show T.there n = false by unfold Ft.there; simp; omega]
    have h1' : ¬ (1 : Int) ≤ n := by omega
    clear H
    go_enter Tryz.func93, Tryz.ntmps93
    go_wp2_with fail
    go_ret
    exact ⟨rfl, rfl⟩
  have h1' : (1 : Int) ≤ n := by omega
  by_cases h2 : 10 < n
  · rw [show T.there n = false by unfold Ft.there; simp; omega]
    have h2' : ¬ n ≤ (10 : Int) := by omega
    clear H
    go_enter Tryz.func93, Tryz.ntmps93
    go_wp2_with fail
    go_ret
    exact ⟨rfl, rfl⟩
  have h2' : n ≤ (10 : Int) := by omega
  obtain ⟨i, rfl⟩ : ∃ i : Nat, n = (i : Int) := ⟨n.toNat, by omega⟩
  have hi : i < 11 := by omega
  have c0 := H.gf.c0 i hi
  have cl := H.cl
  have i1 : (0 : Int) ≤ (i : Int) := by omega
  have i2 : (i : Int) < 11 := by omega
  have hk := hT.k0 i
  by_cases hh : (T.O i).h = 0
  · rw [show T.there (i : Int) = false by unfold Ft.there; simp [hh]]
    rw [hk.2 hh] at c0
    clear H hh hk h1 h2
    go_enter Tryz.func93, Tryz.ntmps93
    go_wp2_with fail
    go_ret
    exact ⟨rfl, rfl⟩
  · rw [show T.there (i : Int) = true by unfold Ft.there; simp [hh]; omega]
    have hk' : ¬ (T.O i).k = 0 := fun e => hh (hk.1 e)
    generalize (T.O i).k = k at c0 hk'
    clear H hh hk h1 h2
    go_enter Tryz.func93, Tryz.ntmps93
    go_wp2_with fail
    go_ret
    refine ⟨?_, rfl⟩
    simp [hk']

theorem ddfc_t {g b : Int} (h : dfc g b = true) : (bits BinOp.and IntKind.i64 g b == 0) = false ∧ (bits BinOp.and IntKind.i64 g b != 0) = true := by
  unfold dfc at h
  simp at h
  simp [h]
theorem ddfc_f {g b : Int} (h : dfc g b = false) : (bits BinOp.and IntKind.i64 g b == 0) = true ∧ (bits BinOp.and IntKind.i64 g b != 0) = false := by
  unfold dfc at h
  simp at h
  simp [h]

end Go.Proofs.YtbglhmcahnkbfaaGreat
