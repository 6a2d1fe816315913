/- Which copies may be: the program's and the document's. -/
import Derived.Test.YtpbhcmfbcnihiaaGreatBPure
import Derived.Test.YtpbhcmfbcnihiaaGreatChecked
import Derived.WalkSpells
namespace Go.Proofs.YtpbhcmfbcnihiaaGreat
open Go.RowKit Num
set_option linter.unusedVariables false
set_option maxRecDepth 20000

theorem ret_bool {a b : Bool} (h : a = b) : Ending.returned (.bool a) = .returned (.bool b) := by rw [h]
theorem below_box (w : World) (o : Obj) : Below w.heap.size w (w.alloc o) := (Below.refl _ _).alloc (Nat.le_refl _) o

theorem within_is (n l m : Int) (R : Bool) (w : World) (h : decide (l ≤ n ∧ n ≤ m) = R) :
    Calls Tryz.prog 38 #[.int .i64 n, .int .i64 l, .int .i64 m] w fun e w' => e = .returned (.bool R) ∧ w' = w := by
  have HR := hid h
  clear h
  by_cases h1 : l ≤ n
  · by_cases h2 : n ≤ m
    · go_enter Tryz.func38, Tryz.ntmps38
      go_wp2
      go_ret
      exact ⟨ret_bool (by rw [← HR.out, decide_eq_true ⟨h1, h2⟩]), rfl⟩
    · have h2' : m < n := by omega
      go_enter Tryz.func38, Tryz.ntmps38
      go_wp2
      go_ret
      exact ⟨ret_bool (by rw [← HR.out, decide_eq_false (by omega)]), rfl⟩
  · have h1' : n < l := by omega
    go_enter Tryz.func38, Tryz.ntmps38
    go_wp2
    go_ret
    exact ⟨ret_bool (by rw [← HR.out, decide_eq_false (by omega)]), rfl⟩

theorem isvalue_is (n : Int) (R : Bool) (w : World) (h : vB n = R) :
    Calls Tryz.prog 40 #[.int .i64 n] w fun e w' => e = .returned (.bool R) ∧ w' = w := by
  have k := hid (within_is n (-1152921504606846976) 1152921504606846976 R w h)
  clear h
  go_enter Tryz.func40, Tryz.ntmps40
  go_wp2_with fail
  refine k.out.mono ?_
  rintro e w1 ⟨rfl, rfl⟩
  go_wp2_with fail
  go_ret
  exact ⟨rfl, rfl⟩

theorem issize_is (n : Int) (R : Bool) (w : World) (h : zB n = R) :
    Calls Tryz.prog 64 #[.int .i64 n] w fun e w' => e = .returned (.bool R) ∧ w' = w := by
  have HR := hid h
  clear h
  by_cases h1 : n = 1
  · subst h1
    go_enter Tryz.func64, Tryz.ntmps64
    go_wp2
    go_ret
    exact ⟨ret_bool (by rw [← HR.out]; rfl), rfl⟩
  by_cases h2 : n = 2
  · subst h2
    go_enter Tryz.func64, Tryz.ntmps64
    go_wp2
    go_ret
    exact ⟨ret_bool (by rw [← HR.out]; rfl), rfl⟩
  by_cases h3 : n = 4
  · subst h3
    go_enter Tryz.func64, Tryz.ntmps64
    go_wp2
    go_ret
    exact ⟨ret_bool (by rw [← HR.out]; rfl), rfl⟩
  have b1 : (n == 1) = false := by simp [h1]
  have b2 : (n == 2) = false := by simp [h2]
  have b3 : (n == 4) = false := by simp [h3]
  go_enter Tryz.func64, Tryz.ntmps64
  go_wp2
  go_ret
  exact ⟨ret_bool (by rw [← HR.out]; unfold zB; rw [Bool.eq_iff_iff]; simp [h1, h2, h3]), rfl⟩

theorem rwhole_is (n : Int) (R : Bool) (w : World) (h : vB n = R) :
    Calls Tryz.prog 23 #[.int .i64 n] w fun e w' => e = .returned (.bool R) ∧ w' = w := by
  have HR := hid h
  clear h
  by_cases h1 : -1152921504606846976 ≤ n
  · by_cases h2 : n ≤ 1152921504606846976
    · go_enter Tryz.func23, Tryz.ntmps23
      go_wp2
      go_ret
      exact ⟨ret_bool (by rw [← HR.out]; unfold vB; rw [decide_eq_true ⟨h1, h2⟩]), rfl⟩
    · have h2' : 1152921504606846976 < n := by omega
      go_enter Tryz.func23, Tryz.ntmps23
      go_wp2
      go_ret
      exact ⟨ret_bool (by rw [← HR.out]; unfold vB; rw [decide_eq_false (by omega)]), rfl⟩
  · have h1' : n < -1152921504606846976 := by omega
    go_enter Tryz.func23, Tryz.ntmps23
    go_wp2
    go_ret
    exact ⟨ret_bool (by rw [← HR.out]; unfold vB; rw [decide_eq_false (by omega)]), rfl⟩

/-- What cB comes to, case by case. -/
theorem cB_addr {i : Int} {a r s v : Int} {bs : List Int} (h : ¬ (0 ≤ a ∧ a ≤ 1048576)) : cB i ⟨a, r, s, v, bs⟩ = false := by simp only [cB, decide_eq_false h, Bool.false_and]
theorem cB_laid {i : Int} {a s v : Int} {bs : List Int} (h : 0 ≤ a ∧ a ≤ 1048576) : cB i ⟨a, -1, s, v, bs⟩ = decide (s = 0 ∧ v = 0 ∧ 1 ≤ bs.length ∧ bs.length ≤ 2048) := by simp only [cB, decide_eq_true h, Bool.true_and, if_true]
theorem cB_res {i : Int} {a r s v : Int} {bs : List Int} (h : 0 ≤ a ∧ a ≤ 1048576) (hr : r ≠ -1) : cB i ⟨a, r, s, v, bs⟩ = (decide (0 ≤ r ∧ r ≤ i - 1) && zB s && vB v && decide (bs.length = 0)) := by simp only [cB, decide_eq_true h, Bool.true_and, if_neg hr]

set_option maxHeartbeats 1000000 in
theorem copymay_any (a r s v : Int) (ba : Option Addr) (bn bc i : Nat) (bs : List Int) (w : World) (hb : bs.length = bn) (hi : i ≤ 64) (hbc : bn ≤ 9223372036854775807) :
    Calls Tryz.prog 39 #[.agg #[.int .i64 a, .int .i64 r, .int .i64 s, .int .i64 v, .slice ba bn bc], .int .i64 i] w fun e w' => e = .returned (.bool (cB i ⟨a, r, s, v, bs⟩)) ∧ Below w.heap.size w w' := by
  obtain ⟨R, gR⟩ : ∃ R, R = cB i ⟨a, r, s, v, bs⟩ := ⟨_, rfl⟩
  rw [← gR]
  obtain ⟨A, gA⟩ : ∃ A, decide (0 ≤ a ∧ a ≤ 1048576) = A := ⟨_, rfl⟩
  have k1 := hid (fun w => within_is a 0 1048576 A w gA)
  have HR := hid gR
  have HA := hid gA
  clear gR gA
  cases A
  · have hF := hid (HR.out.trans (cB_addr (of_decide_eq_false HA.out)))
    go_enter Tryz.func39, Tryz.ntmps39
    go_wp2_with fail
    refine (k1.out _).mono ?_
    rintro e w1 ⟨rfl, rfl⟩
    go_wp2_with fail
    go_ret
    exact ⟨ret_bool hF.out.symm, below_box _ _⟩
  · have hA := of_decide_eq_true HA.out
    by_cases hr : r = -1
    · subst hr
      have HF := hid (HR.out.trans (cB_laid hA))
      obtain ⟨B, gB⟩ : ∃ B, decide ((1 : Int) ≤ (bn : Int) ∧ (bn : Int) ≤ 2048) = B := ⟨_, rfl⟩
      have k2 := hid (fun w => within_is bn 1 2048 B w gB)
      have HB := hid gB
      have HL := hid hb
      clear gB hA hb
      by_cases hs : s = 0
      · by_cases hv : v = 0
        · subst hs
          subst hv
          go_enter Tryz.func39, Tryz.ntmps39
          go_wp2_with fail
          refine (k1.out _).mono ?_
          rintro e w1 ⟨rfl, rfl⟩
          go_wp2_with fail
          refine (k2.out _).mono ?_
          rintro e w2 ⟨rfl, rfl⟩
          go_wp2_with fail
          go_ret
          exact ⟨ret_bool (by rw [HF.out, ← HB.out, HL.out, Bool.eq_iff_iff]; simp; omega), below_box _ _⟩
        · subst hs
          have b1 : (v == 0) = false := by simp [hv]
          go_enter Tryz.func39, Tryz.ntmps39
          go_wp2_with fail
          refine (k1.out _).mono ?_
          rintro e w1 ⟨rfl, rfl⟩
          go_wp2_with fail
          go_ret
          exact ⟨ret_bool (by rw [HF.out]; simp [hv]), below_box _ _⟩
      · have b1 : (s == 0) = false := by simp [hs]
        go_enter Tryz.func39, Tryz.ntmps39
        go_wp2_with fail
        refine (k1.out _).mono ?_
        rintro e w1 ⟨rfl, rfl⟩
        go_wp2_with fail
        go_ret
        exact ⟨ret_bool (by rw [HF.out]; simp [hs]), below_box _ _⟩
    · have HF := hid (HR.out.trans (cB_res hA hr))
      have b0 : (r == -1) = false := by simp [hr]
      obtain ⟨B1, g1⟩ : ∃ B, decide ((0 : Int) ≤ r ∧ r ≤ (i : Int) - 1) = B := ⟨_, rfl⟩
      obtain ⟨B2, g2⟩ : ∃ B, zB s = B := ⟨_, rfl⟩
      obtain ⟨B3, g3⟩ : ∃ B, vB v = B := ⟨_, rfl⟩
      have k2 := hid (fun w => within_is r 0 ((i : Int) - 1) B1 w g1)
      have k3 := hid (fun w => issize_is s B2 w g2)
      have k4 := hid (fun w => isvalue_is v B3 w g3)
      rw [g1, g2, g3, hb] at HF
      have HB := hid hr
      clear g1 g2 g3 hA hb hr HR HA
      cases B1
      · go_enter Tryz.func39, Tryz.ntmps39
        go_wp2_with fail
        refine (k1.out _).mono ?_
        rintro e w1 ⟨rfl, rfl⟩
        go_wp2_with fail
        refine (k2.out _).mono ?_
        rintro e w2 ⟨rfl, rfl⟩
        go_wp2_with fail
        go_ret
        exact ⟨ret_bool (by rw [HF.out]; rfl), below_box _ _⟩
      cases B2
      · go_enter Tryz.func39, Tryz.ntmps39
        go_wp2_with fail
        refine (k1.out _).mono ?_
        rintro e w1 ⟨rfl, rfl⟩
        go_wp2_with fail
        refine (k2.out _).mono ?_
        rintro e w2 ⟨rfl, rfl⟩
        go_wp2_with fail
        refine (k3.out _).mono ?_
        rintro e w3 ⟨rfl, rfl⟩
        go_wp2_with fail
        go_ret
        exact ⟨ret_bool (by rw [HF.out]; rfl), below_box _ _⟩
      cases B3
      · go_enter Tryz.func39, Tryz.ntmps39
        go_wp2_with fail
        refine (k1.out _).mono ?_
        rintro e w1 ⟨rfl, rfl⟩
        go_wp2_with fail
        refine (k2.out _).mono ?_
        rintro e w2 ⟨rfl, rfl⟩
        go_wp2_with fail
        refine (k3.out _).mono ?_
        rintro e w3 ⟨rfl, rfl⟩
        go_wp2_with fail
        refine (k4.out _).mono ?_
        rintro e w4 ⟨rfl, rfl⟩
        go_wp2_with fail
        go_ret
        exact ⟨ret_bool (by rw [HF.out]; rfl), below_box _ _⟩
      · go_enter Tryz.func39, Tryz.ntmps39
        go_wp2_with fail
        refine (k1.out _).mono ?_
        rintro e w1 ⟨rfl, rfl⟩
        go_wp2_with fail
        refine (k2.out _).mono ?_
        rintro e w2 ⟨rfl, rfl⟩
        go_wp2_with fail
        refine (k3.out _).mono ?_
        rintro e w3 ⟨rfl, rfl⟩
        go_wp2_with fail
        refine (k4.out _).mono ?_
        rintro e w4 ⟨rfl, rfl⟩
        go_wp2_with fail
        go_ret
        exact ⟨ret_bool (by rw [HF.out, Bool.eq_iff_iff]; simp), below_box _ _⟩

end Go.Proofs.YtpbhcmfbcnihiaaGreat
