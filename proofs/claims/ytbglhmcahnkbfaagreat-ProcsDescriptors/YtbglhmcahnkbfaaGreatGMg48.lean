/- Texts of this seat, merged. -/
import Derived.Test.YtbglhmcahnkbfaaGreatGMg38
import Derived.ChangeKeysEq

/- Equality of six descriptors. -/
namespace Go.Proofs.YtbglhmcahnkbfaaGreat
open Go.RowKit Go.ChangeMaps Go.MapKept
set_option linter.unusedVariables false
set_option maxRecDepth 20000

set_option maxHeartbeats 1000000 in
theorem eq6 (y4 y5 y6 y7 y8 y9 : Int) (W : World) : (Op.equalIn 9999 40 (.agg #[.int .i64 y4, .int .i64 y5, .int .i64 y6, .int .i64 y7, .int .i64 y8, .int .i64 y9]) (.agg #[.int .i64 y4, .int .i64 y5, .int .i64 y6, .int .i64 y7, .int .i64 y8, .int .i64 y9])).run Tryz.prog W = .ok true W := by
  obtain ⟨i, hi, _⟩ := info_parts (P := Tryz.prog) (show (Tryz.prog.info? 3).map (fun i => (i.zero, i.size, i.bytes)) = some (some (.int .i64 0), 1, 8) by kernel_rfl)
  have hc : Tryz.prog.cellsOf 3 = 1 := by kernel_rfl
  have h1 : ∀ (xs : Array Value) (j : Nat) (v : Int) (W : World), xs[j]? = some (.int .i64 v) → (part 3 xs (j * 1)).run Tryz.prog W = .ok (.int .i64 v) W := fun xs j v W h => by
    simp [part, h, go_sem]
  have h2 : ∀ (v : Int) (W : World), (Op.equalIn 9998 3 (.int .i64 v) (.int .i64 v)).run Tryz.prog W = .ok true W := fun v W => by
    unfold Op.equalIn
    simp [run_underlying Tryz.underlying3]
  refine (run_equalIn_array (P := Tryz.prog) W 9998 _ _ Tryz.underlying40 hi).trans ?_
  rw [hc]
  have key : ∀ (xs : Array Value) (is : List Nat), (∀ j ∈ is, ∃ v : Int, xs[j]? = some (.int .i64 v)) → ∀ W, (Op.eqItems 9998 3 1 xs xs is).run Tryz.prog W = .ok true W := by
    intro xs is
    induction is with
    | nil => intro _ W; simp [Op.eqItems]
    | cons j is ih =>
      intro hj W
      obtain ⟨v, hv⟩ := hj j (List.mem_cons_self ..)
      simp only [Op.eqItems, Sem.run_bind, h1 _ _ _ _ hv, Result.andThen_ok, h2]
      exact ih (fun k hk => hj k (List.mem_cons_of_mem _ hk)) W
  refine key _ _ (fun j hj => ?_) W
  have hj6 := List.mem_range.1 hj
  obtain rfl | rfl | rfl | rfl | rfl | rfl : j = 0 ∨ j = 1 ∨ j = 2 ∨ j = 3 ∨ j = 4 ∨ j = 5 := by omega
  all_goals exact ⟨_, rfl⟩
end Go.Proofs.YtbglhmcahnkbfaaGreat
