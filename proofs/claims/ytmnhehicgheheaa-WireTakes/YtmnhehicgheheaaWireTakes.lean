/- WireTakes holds for every slice of bytes and every list of steps, with no condition: step by step a reader takes what stands there, or stays where it was. -/
import Derived.Test.YtmnhehicgheheaaOpen
import Derived.Test.YtmnhehicgheheaaTakes
import Derived.Deep.SlicePairs
namespace Go.Proofs.Ytmnhehicgheheaa.wireTakes
open Go.ChangeShapes Go.WideShapes Go.ChangeAt Go.RowKit Num
set_option linter.unusedVariables false

theorem bytes31 : Try.prog.bytesOf 31 = 16 := by kernel_rfl

/-- A list of steps, opened. -/
theorem open_steps {H : Type} {enc : TypeId × Value → H} {W : World} {al : Option Addr} {ll cl : Nat} {d : DataW H} {p : List MemPlace}
    (h : DataW.Trod enc Try.prog W 0 (fun _ => true) true 23 (.slice al ll cl) d p) :
    ∃ K M : Nat → Int, Steps W al ll K M ∧ (∀ i, i < ll → -9223372036854775808 ≤ K i ∧ K i ≤ 9223372036854775807 ∧ -9223372036854775808 ≤ M i ∧ M i ≤ 9223372036854775807) ∧ ((ll = 0) ∨ ∃ elems spare, d = .slice elems spare ∧ ll ≤ elems.length + spare.length) := by
  have lt : ∀ x ∈ p, x.block < W.heap.size := by obtain ⟨m, hm⟩ := h; exact DataW.trod_lt m _ _ _ hm
  obtain ⟨fuel, hf⟩ := h
  rcases Deep.open_slice_pairs Try.underlying23 Try.underlying31 (by kernel_rfl) rfl rfl (by kernel_rfl) (by kernel_rfl) hf with ⟨hcs, _⟩ | ⟨a, l, c, m, n, V0, V1, D0, D1, P0, P1, hcs, _, hl, hm, hmm, hx, hv⟩
  · simp [Value.cells] at hcs
    obtain ⟨rfl, rfl, rfl⟩ := hcs
    exact ⟨fun _ => 0, fun _ => 0, fun h => absurd h (Nat.lt_irrefl 0), fun i hi => absurd hi (Nat.not_lt_zero i), .inl rfl⟩
  · simp [Value.cells] at hcs
    obtain ⟨rfl, rfl, rfl⟩ := hcs
    simp only [Prod.mk.injEq] at hx
    obtain ⟨rfl, rfl⟩ := hx
    simp only [if_true] at hmm
    have hall : ∀ i, i < ll → ∃ km : Int × Int, W.cell? (a.add (i * 2)) = some (.int .i64 km.1) ∧ W.cell? (a.add (i * 2 + 1)) = some (.int .i64 km.2) ∧ -9223372036854775808 ≤ km.1 ∧ km.1 ≤ 9223372036854775807 ∧ -9223372036854775808 ≤ km.2 ∧ km.2 ≤ 9223372036854775807 := by
      intro i hi
      obtain ⟨c0, c1, t0, t1⟩ := hv i (by omega)
      obtain ⟨k, e0, _, w0⟩ := DataW.trod_int Try.underlying3 t0
      obtain ⟨m', e1, _, w1⟩ := DataW.trod_int Try.underlying3 t1
      simp at e0 e1
      have b0 := bounds_i64 w0
      have b1 := bounds_i64 w1
      exact ⟨(k, m'), by rw [c0, e0], by rw [c1, e1], b0.1, b0.2, b1.1, b1.2⟩
    obtain ⟨F, hF⟩ := Deep.choose_lt hall
    refine ⟨fun i => (F i).1, fun i => (F i).2, fun h0 => ?_, fun i hi => (hF i hi).2.2, .inr ⟨_, _, rfl, by simp⟩⟩
    obtain ⟨b, o, spot⟩ := a
    have hspot : spot = none := by simpa [Addr.add] using World.cell?_spot (hF 0 h0).1
    subst hspot
    refine ⟨b, o, rfl, lt (.cell b o) (List.mem_append.2 (.inl (MemPlace.mem_row.2 ⟨0, by omega, by simp⟩))), fun i hi => ?_⟩
    have := hF i hi
    rw [add_plain, add_plain] at this
    exact ⟨this.1, this.2.1⟩

set_option maxRecDepth 100000 in
theorem lifted (os : Os) (started : os.Started) (H : Type) (enc : TypeId × Value → H) :
    ReturnsInHanded {} Try.checked os 3 .any (Rows.wireTakesSpec.pre6 enc Try.prog Try.f3 Rows.wireTakesRow.domain false) (Rows.wireTakesSpec.post enc Try.prog Try.f3 false true false false) := by
  refine returnsInHanded_of_change_sized (C := Try.checked) own started (by kernel_rfl) Try.func3
    (ChangeSpec.witness6 (enc := enc) (C := Try.checked) false ⟨#[], #[.slice none 0 0, .slice none 0 0], []⟩ 8 (by kernel_rfl) (by kernel_rfl) (by kernel_rfl) (by kernel_rfl)) ?_
  intro W base args ds gs before hval0 hW hcnd hsz0 _
  have hsz : (DataW.weightsEach Try.prog (Try.f3.params.toList ++ Rows.wireTakesSpec.plain.varTypes Try.prog) (ds ++ gs)).all (· ≤ reachBytes) = true := hsz0
  have hval : ∀ (j : Nat) t v, Try.f3.params[j]? = some t → args[j]? = some v → Value.okWide Try.prog W .any base t v := hval0
  have hW' := hW
  obtain ⟨p, q, hA0, hV, rfl, hfz, hnd⟩ := hW
  have hA : DataW.TrodAll enc Try.prog W 0 (fun _ => true) true Try.f3.params.toList args.toList ds p := hA0
  rw [Try.params3] at hA hval hsz
  obtain ⟨v0, vs0, d0, ds0, p0, q0, hargs, rfl, rfl, h0, r0⟩ := trodAll_cons hA
  obtain ⟨v1, vs1, d1, ds1, p1, q1, rfl, rfl, rfl, h1, r1⟩ := trodAll_cons r0
  obtain ⟨rfl, rfl, rfl⟩ := trodAll_nil r1
  obtain rfl : args = #[v0, v1] := by cases args; simp_all
  obtain ⟨rfl, rfl⟩ := trodVars_none hV
  obtain ⟨a0, len0, cap0, rfl⟩ := okWide_slice Try.underlying22 (hval 0 22 v0 rfl rfl)
  obtain ⟨a1, len1, cap1, rfl⟩ := okWide_slice Try.underlying23 (hval 1 23 v1 rfl rfl)
  have k0 := h0
  have k1 := h1
  have lt0 : ∀ x ∈ p0, x.block < W.heap.size := by obtain ⟨m, hm⟩ := k0; exact DataW.trod_lt m _ _ _ hm
  have lt1 : ∀ x ∈ p1, x.block < W.heap.size := by obtain ⟨m, hm⟩ := k1; exact DataW.trod_lt m _ _ _ hm
  obtain ⟨z0, s0, b0, l0, n0, c0⟩ := open_bytes h0
  have r0 := reach_bytes hsz 0 rfl rfl c0
  obtain ⟨K, M, hst, hkm, c1⟩ := open_steps h1
  have r1 : len1 ≤ 140737488355328 := by
    rcases c1 with h | ⟨elems, spare, rfl, h⟩
    · omega
    · have := sized_slice hsz (j := 1) (t := 23) (e := 31) rfl rfl Try.underlying23
      rw [bytes31] at this
      simp only [reachBytes] at this
      omega
  clear hA0 hval0 hsz0
  refine (takes_road a0 len0 cap0 z0 a1 len1 cap1 K M W s0 b0 n0 l0 (by omega) hst r1 hkm).mono fun e W' ⟨he, bel⟩ => ?_
  subst he
  exact ⟨_, rfl, _, _, _, [], _, [], hW', trodAll_mk1 (shut_bool Try.underlying4 _), (trodAll_cons_mk (Below.trod laidOut (by kernel_rfl) (of_decide_eq_true (by kernel_rfl)) k0 bel lt0) (trodAll_cons_mk (Below.trod laidOut (by kernel_rfl) (of_decide_eq_true (by kernel_rfl)) k1 bel lt1) trodAll_mk0)), rfl, bel.frame _, fun h => by cases h⟩

theorem over : Rows.wireTakesRow.holds Try.pinned (OpenSpec.ofChange Rows.wireTakesSpec) :=
  OpenClaim.holds_of_wide 3 Try.f3 rfl rfl rfl rfl rfl rfl rfl ⟨rfl, rfl, rfl, rfl, rfl⟩ rfl rfl rfl rfl rfl (by kernel_rfl) Try.func3 (by kernel_rfl)
    (of_decide_eq_true (by kernel_rfl)) (by unfold Func.isWrapper; first | (rw [if_pos (by decide +kernel)]; kernel_rfl) | (rw [if_neg (by decide +kernel)]; exact ⟨rfl, rfl⟩))
    (fun os started H enc _ => lifted os started H enc)

end Go.Proofs.Ytmnhehicgheheaa.wireTakes
namespace Go.Proofs.Ytmnhehicgheheaa

theorem wireTakes_holds : Rows.WireTakesSaid := wireTakes.over
#print axioms wireTakes_holds
end Go.Proofs.Ytmnhehicgheheaa
