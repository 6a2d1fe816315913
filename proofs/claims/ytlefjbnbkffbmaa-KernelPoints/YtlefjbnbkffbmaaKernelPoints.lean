/- The statement KernelPoints: of every number, error and whether a call waits, the point of coverage is the one that the document tells, and tells them apart. Conditions: none. -/
import Derived.Test.YtlefjbnbkffbmaaRows
import Derived.WalkKit
import Derived.WalkSpells
import Derived.WalkLawsBesides
import Derived.Outline
import Derived.IntWalk
import Derived.ProofKit
import Derived.OpenShut
namespace Go.Proofs.Ytlefjbnbkffbmaa.kernelPoints
open Go.ChangeShapes Go.WideShapes Go.ChangeAt Go.RowKit
set_option linter.unusedVariables false      -- a walk need not use every 'w<i>' (that an integer argument fits its kind)

theorem hid {p : Prop} (h : p) : Hid p := h

theorem own : ownKnob Try.prog.godebug = none := by kernel_rfl

def pt (n e : Int) (q : Bool) : Int := if 0 ≤ n ∧ n < 20 ∧ 0 ≤ e ∧ e ≤ 62 then (if q then n * 64 + 63 else n * 64 + e) else 0

theorem iscall (n : Int) (w : World) :
    Calls Try.prog 6 #[.int .i64 n] w fun e w' => e = .returned (.bool (decide (0 ≤ n ∧ n < 20))) ∧ w' = w := by
  by_cases h : 0 ≤ n
  · by_cases h2 : n < 20
    all_goals
      go_enter Try.func6, Try.ntmps6
      go_wp2
      go_ret
      simp [h, h2]
  · go_enter Try.func6, Try.ntmps6
    go_wp2
    go_ret
    simp
    omega

theorem kpoint (n e : Int) (q : Bool) (w : World) :
    Calls Try.prog 4 #[.int .i64 n, .int .i64 e, .bool q] w fun x w' => x = .returned (.int .i64 (pt n e q)) ∧ w' = w := by
  have k := hid (iscall n w)
  by_cases h : 0 ≤ n ∧ n < 20
  · simp only [h, and_self, decide_true] at k
    by_cases h3 : 0 ≤ e
    · by_cases h4 : e ≤ 62
      · cases q
        all_goals
          go_enter Try.func4, Try.ntmps4
          go_wp2_with fail
          refine k.out.mono ?_
          rintro x w1 ⟨rfl, rfl⟩
          go_wp2
          go_ret
          refine ⟨?_, rfl⟩
          simp only [pt, h, h3, h4, and_self, if_true]
          go_num
      · go_enter Try.func4, Try.ntmps4
        go_wp2_with fail
        refine k.out.mono ?_
        rintro x w1 ⟨rfl, rfl⟩
        go_wp2
        go_ret
        have hn : ¬ (0 ≤ n ∧ n < 20 ∧ 0 ≤ e ∧ e ≤ 62) := by omega
        rw [pt, if_neg hn]
        exact ⟨rfl, rfl⟩
    · go_enter Try.func4, Try.ntmps4
      go_wp2_with fail
      refine k.out.mono ?_
      rintro x w1 ⟨rfl, rfl⟩
      go_wp2
      go_ret
      have hn : ¬ (0 ≤ n ∧ n < 20 ∧ 0 ≤ e ∧ e ≤ 62) := by omega
      rw [pt, if_neg hn]
      exact ⟨rfl, rfl⟩
  · simp only [h, decide_false] at k
    go_enter Try.func4, Try.ntmps4
    go_wp2_with fail
    refine k.out.mono ?_
    rintro x w1 ⟨rfl, rfl⟩
    go_wp2
    go_ret
    refine ⟨?_, rfl⟩
    have : ¬ (0 ≤ n ∧ n < 20 ∧ 0 ≤ e ∧ e ≤ 62) := by omega
    simp [pt, this]

theorem rpoint (n e : Int) (q : Bool) (w : World) :
    Calls Try.prog 5 #[.int .i64 n, .int .i64 e, .bool q] w fun x w' => x = .returned (.int .i64 (pt n e q)) ∧ w' = w := by
  by_cases h : 0 ≤ n
  · by_cases h2 : n < 20
    · by_cases h3 : 0 ≤ e
      · by_cases h4 : e ≤ 62
        · cases q
          all_goals
            go_enter Try.func5, Try.ntmps5
            go_wp2
            go_ret
            refine ⟨?_, rfl⟩
            simp only [pt, h, h2, h3, h4, and_self, if_true]
            go_num
        · go_enter Try.func5, Try.ntmps5
          go_wp2
          go_ret
          have hn : ¬ (0 ≤ n ∧ n < 20 ∧ 0 ≤ e ∧ e ≤ 62) := by omega
          rw [pt, if_neg hn]
          exact ⟨rfl, rfl⟩
      · go_enter Try.func5, Try.ntmps5
        go_wp2
        go_ret
        have hn : ¬ (0 ≤ n ∧ n < 20 ∧ 0 ≤ e ∧ e ≤ 62) := by omega
        rw [pt, if_neg hn]
        exact ⟨rfl, rfl⟩
    · go_enter Try.func5, Try.ntmps5
      go_wp2
      go_ret
      have hn : ¬ (0 ≤ n ∧ n < 20 ∧ 0 ≤ e ∧ e ≤ 62) := by omega
      rw [pt, if_neg hn]
      exact ⟨rfl, rfl⟩
  · go_enter Try.func5, Try.ntmps5
    go_wp2
    go_ret
    have hn : ¬ (0 ≤ n ∧ n < 20 ∧ 0 ≤ e ∧ e ≤ 62) := by omega
    rw [pt, if_neg hn]
    exact ⟨rfl, rfl⟩

theorem walk (a0 : Int) (a1 : Int) (a2 : Bool) (w0 : (Lit.int .i64 a0).wf = true) (w1 : (Lit.int .i64 a1).wf = true) (w : World) :
    Calls Try.prog 3 #[.int .i64 a0, .int .i64 a1, .bool a2] w fun e w' => e = .returned (.bool true) ∧ Grown w w' := by
  have k := hid (kpoint a0 a1 a2 w)
  have k2 := hid (rpoint a0 a1 a2 w)
  generalize hp : pt a0 a1 a2 = p at k k2
  have hb : 0 ≤ p ∧ p < 2000 := by
    rw [← hp]; unfold pt; split
    · split <;> omega
    · omega
  by_cases h : 0 ≤ a0
  · by_cases h2 : a0 < 20
    · by_cases h3 : 0 ≤ a1
      · by_cases h4 : a1 ≤ 62
        · cases a2
          all_goals
            simp only [pt, h, h2, h3, h4, and_self, if_true, if_false, Bool.false_eq_true] at hp
            go_enter Try.func3, Try.ntmps3
            go_wp2_with fail
            refine k.out.mono ?_
            rintro x w1 ⟨rfl, rfl⟩
            go_wp2_with fail
            refine k2.out.mono ?_
            rintro x w1 ⟨rfl, rfl⟩
            go_wp2
            go_ret
            refine ⟨?_, Grown.refl _⟩
            first | rfl | (simp; omega)
        · go_enter Try.func3, Try.ntmps3
          go_wp2_with fail
          refine k.out.mono ?_
          rintro x w1 ⟨rfl, rfl⟩
          go_wp2_with fail
          refine k2.out.mono ?_
          rintro x w1 ⟨rfl, rfl⟩
          go_wp2
          go_ret
          exact ⟨rfl, Grown.refl _⟩
      · go_enter Try.func3, Try.ntmps3
        go_wp2_with fail
        refine k.out.mono ?_
        rintro x w1 ⟨rfl, rfl⟩
        go_wp2_with fail
        refine k2.out.mono ?_
        rintro x w1 ⟨rfl, rfl⟩
        go_wp2
        go_ret
        exact ⟨rfl, Grown.refl _⟩
    · go_enter Try.func3, Try.ntmps3
      go_wp2_with fail
      refine k.out.mono ?_
      rintro x w1 ⟨rfl, rfl⟩
      go_wp2_with fail
      refine k2.out.mono ?_
      rintro x w1 ⟨rfl, rfl⟩
      go_wp2
      go_ret
      exact ⟨rfl, Grown.refl _⟩
  · go_enter Try.func3, Try.ntmps3
    go_wp2_with fail
    refine k.out.mono ?_
    rintro x w1 ⟨rfl, rfl⟩
    go_wp2_with fail
    refine k2.out.mono ?_
    rintro x w1 ⟨rfl, rfl⟩
    go_wp2
    go_ret
    exact ⟨rfl, Grown.refl _⟩

set_option maxRecDepth 100000 in
theorem lifted (os : Os) (started : os.Started) (H : Type) (enc : TypeId × Value → H) :
    ReturnsInHanded {} Try.checked os 3 .any (Rows.kernelPointsSpec.pre6 enc Try.prog Try.f3 Rows.kernelPointsRow.domain false) (Rows.kernelPointsSpec.post enc Try.prog Try.f3 false true false false) := by
  refine returnsInHanded_of_change (C := Try.checked) own started (by kernel_rfl) Try.func3
    (ChangeSpec.witness6 (enc := enc) (C := Try.checked) false ⟨#[], #[.int .i64 0, .int .i64 0, .bool false], []⟩ 8 (by kernel_rfl) (by kernel_rfl) (by kernel_rfl) (by kernel_rfl)) ?_
  intro W base args ds gs before hval0 hW hcnd _
  have hval : ∀ (j : Nat) t v, Try.f3.params[j]? = some t → args[j]? = some v → Value.okWide Try.prog W .any base t v := hval0
  have hW' := hW
  obtain ⟨p, q, hA0, hV, rfl, hfz, hnd⟩ := hW
  have hA : DataW.TrodAll enc Try.prog W 0 (fun _ => true) true Try.f3.params.toList args.toList ds p := hA0
  rw [Try.params3] at hA hval
  obtain ⟨v0, vs0, d0, ds0, p0, q0, hargs, rfl, rfl, h0, r0⟩ := trodAll_cons hA
  obtain ⟨v1, vs1, d1, ds1, p1, q1, rfl, rfl, rfl, h1, r1⟩ := trodAll_cons r0
  obtain ⟨v2, vs2, d2, ds2, p2, q2, rfl, rfl, rfl, h2, r2⟩ := trodAll_cons r1
  obtain ⟨rfl, rfl, rfl⟩ := trodAll_nil r2
  obtain rfl : args = #[v0, v1, v2] := by cases args; simp_all
  obtain ⟨rfl, rfl⟩ := trodVars_none hV
  obtain ⟨a0, rfl, rfl, rfl, w0⟩ := open_int Try.underlying3 (hval 0 3 v0 rfl rfl) h0
  obtain ⟨a1, rfl, rfl, rfl, w1⟩ := open_int Try.underlying3 (hval 1 3 v1 rfl rfl) h1
  obtain ⟨a2, rfl, rfl, rfl⟩ := open_bool Try.underlying4 (hval 2 4 v2 rfl rfl) h2
  clear hA0 hval0
  simp only [List.append_nil] at hW'
  refine (walk a0 a1 a2 w0 w1 W).mono fun e W' ⟨he, hg⟩ => ?_
  subst he
  exact ⟨_, rfl, post_of_same (pa := []) (pv := []) hW' (fun _ _ _ => (trodAll_cons_mk (shut_bool Try.underlying4 _) trodAll_mk0)) (fun sp _ => (trodAll_cons_mk (shut_int Try.underlying3 w0) (trodAll_cons_mk (shut_int Try.underlying3 w1) (trodAll_cons_mk (shut_bool Try.underlying4 _) trodAll_mk0)))) (fun _ _ => rfl) rfl
    (hg.frame _) hg.2.1 (ok_one (by kernel_rfl) rfl (okWide_bool_mk Try.underlying4 _))⟩

theorem over : Rows.kernelPointsRow.holds Try.pinned (OpenSpec.ofChange Rows.kernelPointsSpec) :=
  OpenClaim.holds_of_wide 3 Try.f3 rfl rfl rfl rfl rfl rfl rfl ⟨rfl, rfl, rfl, rfl, rfl⟩ rfl rfl rfl rfl rfl (by kernel_rfl) Try.func3 (by kernel_rfl)
    (of_decide_eq_true (by kernel_rfl)) (by unfold Func.isWrapper; first | (rw [if_pos (by decide +kernel)]; kernel_rfl) | (rw [if_neg (by decide +kernel)]; exact ⟨rfl, rfl⟩))
    (fun os started H enc _ => lifted os started H enc)

end Go.Proofs.Ytlefjbnbkffbmaa.kernelPoints
namespace Go.Proofs.Ytlefjbnbkffbmaa

theorem kernelPoints_holds : Rows.KernelPointsSaid := kernelPoints.over
#print axioms kernelPoints_holds
end Go.Proofs.Ytlefjbnbkffbmaa
