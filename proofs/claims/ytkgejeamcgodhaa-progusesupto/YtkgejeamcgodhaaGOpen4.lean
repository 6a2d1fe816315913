/- Programs that came in, opened: their steps' arguments as they lie, and how many there can be where what came in is not too great. -/
import Derived.Test.YtkgejeamcgodhaaGOpen2
import Derived.Test.YtkgejeamcgodhaaGU4
namespace Go.Proofs.Ytkgejeamcgodhaa
open Go.ChangeShapes Go.WideShapes Go.ChangeAt Go.RowKit
set_option linter.unusedVariables false
set_option maxRecDepth 20000

theorem cellsSt : Try.prog.cellsOf 73 = 2 := by kernel_rfl
theorem bulk_mem {H : Type} {d : DataW H} : ∀ {l : List (DataW H)}, d ∈ l → Rows.uptoBulk d ≤ Rows.uptoBulkAll l
  | x :: l, h => by
    rcases List.mem_cons.1 h with rfl | h
    · simp only [Rows.uptoBulkAll]; omega
    · have := bulk_mem h; simp only [Rows.uptoBulkAll]; omega
theorem bulk_sum {H : Type} : ∀ (L : List (DataW H)) (f : Nat → Nat), (∀ i (h : i < L.length), f i ≤ Rows.uptoBulk L[i]) → ((List.range L.length).map f).sum ≤ Rows.uptoBulkAll L
  | [], _, _ => by simp
  | x :: L, f, h => by
    have h0 := h 0 (by simp)
    have ih := bulk_sum L (fun i => f (i + 1)) (fun i hi => by
      have h1 := h (i + 1) (by simp only [List.length_cons]; omega)
      rw [List.getElem_cons_succ] at h1
      exact h1)
    rw [List.length_cons, List.range_succ_eq_map]
    simp only [List.map_cons, List.map_map, List.sum_cons, Rows.uptoBulkAll, List.getElem_cons_zero] at h0 ih ⊢
    have e : ((List.range L.length).map (f ∘ Nat.succ)).sum = ((List.range L.length).map fun i => f (i + 1)).sum := rfl
    omega

theorem cnt_more {w : World} : ∀ (n : Nat) (A : Ar), Okd n w A → ∀ m, n ≤ m → cntA m A = cntA n A
  | 0, _, h, _, _ => h.elim
  | n + 1, A, ⟨_, _, h3⟩, m, hm => by
    obtain ⟨k, rfl⟩ : ∃ k, m = k + 1 := ⟨m - 1, by omega⟩
    have e : A.ks.map (cntA k) = A.ks.map (cntA n) := by
      apply List.map_congr_left
      intro B hB
      obtain ⟨j, hj, rfl⟩ := List.mem_iff_getElem.1 hB
      obtain ⟨b, o, _, _, hc⟩ := h3 (by omega)
      exact cnt_more n _ (hc j hj).2 k (by omega)
    simp only [cntA, e]

/-- Arguments in a row, within a datum. -/
theorem row_b {H : Type} {enc : TypeId × Value → H} {W : World} (fuel : Nat) (ih : ∀ n, n < fuel → ∀ (cs : List Value) (y : DataW H × List MemPlace), DataW.trod enc Try.prog W 0 (fun _ => true) true n 30 cs = some y → ∃ A : Ar, cs = arC A.h ∧ Okd n W A ∧ cntA n A ≤ Rows.uptoBulk y.1)
    (v : Value) (y : DataW H × List MemPlace) (h : DataW.trod enc Try.prog W 0 (fun _ => true) true fuel 27 [v] = some y) :
    ∃ (ra : Option Addr) (rn rc : Nat) (qs : List Ar), v = .slice ra rn rc ∧ Krow fuel W ra qs ∧ qs.length = rn ∧ rn ≤ rc ∧ rc ≤ 9223372036854775807 ∧ cntL fuel qs ≤ Rows.uptoBulk y.1 := by
  have lt : ∀ x ∈ y.2, x.block < W.heap.size := DataW.trod_lt fuel _ _ _ h
  rcases DataW.trod_slice Try.underlying27 h with ⟨hcs, _⟩ | ⟨a, len, cap, elems, rest, n, hkn, hcs, hx2, hb, hl, hm, hel, hev, _, _⟩
  · simp at hcs
    subst hcs
    exact ⟨none, 0, 0, [], rfl, fun h => absurd h (Nat.lt_irrefl 0), rfl, Nat.le_refl _, by omega, by simp [cntL]⟩
  · simp at hcs
    subst hcs
    rw [cellsA] at hev
    have each : ∀ i, i < len → ∃ B : Ar, ((∀ t, t < 4 → W.cell? (a.add (i * 4 + t)) = (arC B.h)[t]?) ∧ Okd n W B) ∧ ∀ hi : i < elems.length, cntA n B ≤ Rows.uptoBulk elems[i].1 := by
      intro i hi
      have key := hev i hi
      rw [List.getElem?_eq_getElem (by omega)] at key
      obtain ⟨cs', h1, h2⟩ := Option.bind_eq_some_iff.1 key
      obtain ⟨_, hlen', hcell⟩ := World.cells?_some h1
      obtain ⟨B, rfl, hB, hc⟩ := ih n (by omega) cs' _ h2
      refine ⟨B, ⟨fun t ht => ?_, hB⟩, fun _ => hc⟩
      rw [← Deep.add_add, hcell t ht]
    haveI : Inhabited Ar := ⟨.mk ⟨0, 0, none, 0, 0, none, 0, 0, []⟩ []⟩
    obtain ⟨Z, hZ⟩ := Deep.choose_lt (α := Ar) (p := fun i B => ((∀ t, t < 4 → W.cell? (a.add (i * 4 + t)) = (arC B.h)[t]?) ∧ Okd n W B) ∧ ∀ hi : i < elems.length, cntA n B ≤ Rows.uptoBulk elems[i].1) each
    refine ⟨some a, len, cap, (List.range len).map Z, rfl, fun h0 => ?_, by simp, hl, by unfold maxLen at hm; omega, ?_⟩
    · have h0' : 0 < len := by simpa using h0
      obtain ⟨b, off, spot⟩ := a
      have hspot : spot = none := by
        have := (hZ 0 h0').1.1 0 (by omega)
        simp only [arC, List.getElem?_cons_zero] at this
        simpa [Addr.add] using World.cell?_spot this
      subst hspot
      rw [hx2] at lt
      refine ⟨b, off, rfl, lt (.cell b off) (List.mem_append.2 (.inl (MemPlace.mem_row.2 ⟨0, by rw [cellsA]; omega, by simp⟩))), fun j hj => ?_⟩
      have hj' : j < len := by simpa using hj
      obtain ⟨⟨hc, ho⟩, _⟩ := hZ j hj'
      have e : ((List.range len).map Z)[j] = Z j := by simp
      rw [e]
      have f := fun t ht => (hc t ht)
      simp only [add_plain] at f
      refine ⟨⟨?_, ?_, ?_, ?_⟩, Okd.more n _ ho fuel (by omega)⟩
      · simpa [arC] using f 0 (by omega)
      · have := f 1 (by omega)
        simp only [arC, List.getElem?_cons_succ, List.getElem?_cons_zero] at this
        rw [← this]; congr 2
      · have := f 2 (by omega)
        simp only [arC, List.getElem?_cons_succ, List.getElem?_cons_zero] at this
        rw [← this]; congr 2
      · have := f 3 (by omega)
        simp only [arC, List.getElem?_cons_succ, List.getElem?_cons_zero] at this
        rw [← this]; congr 2
    · have hs := bulk_sum (elems.map (·.1)) (fun i => cntA fuel (Z i)) (fun i hi => by
        have hi' : i < elems.length := by simpa using hi
        have h1 := (hZ i (by omega)).2 hi'
        have h2 := cnt_more n _ (hZ i (by omega)).1.2 fuel (by omega)
        simp only [List.getElem_map]
        omega)
      rw [List.length_map, hel] at hs
      rw [hx2]
      simp only [Rows.uptoBulk, cntL, List.map_map]
      have e : ((List.range len).map (cntA fuel ∘ Z)).sum = ((List.range len).map fun i => cntA fuel (Z i)).sum := rfl
      omega

theorem open_arb {H : Type} {enc : TypeId × Value → H} {W : World} : ∀ (fuel : Nat) (cs : List Value) (y : DataW H × List MemPlace), DataW.trod enc Try.prog W 0 (fun _ => true) true fuel 30 cs = some y → ∃ A : Ar, cs = arC A.h ∧ Okd fuel W A ∧ cntA fuel A ≤ Rows.uptoBulk y.1 := by
  intro fuel
  induction fuel using Nat.strongRecOn with
  | ind fuel ih =>
    intro cs y h
    obtain ⟨xs, k, hk, hxy, hlen, hxl, hf⟩ := DataW.trod_struct Try.underlying30 h
    rw [cellsA] at hlen
    match xs, hxl, cs, hlen with
    | [y0, y1, y2, y3], _, [v0, v1, v2, v3], _ =>
      have g0 := hf 0 _ rfl
      have g1 := hf 1 _ rfl
      have g2 := hf 2 _ rfl
      have g3 := hf 3 _ rfl
      simp [cells3, cellsAA, cellsB] at g0 g1 g2 g3
      obtain ⟨x0, r0, _, w0⟩ := DataW.trod_int Try.underlying3 g0
      obtain ⟨x1, r1, _, w1⟩ := DataW.trod_int Try.underlying3 g1
      simp at r0 r1
      obtain ⟨ba, bn, bc, bs, r3, p3, q3, s3⟩ := open_lb g3
      obtain ⟨ra, rn, rc, qs, r2, hK, hl, hm, hb, hc⟩ := row_b k (fun n hn => ih n (by omega)) v2 _ g2
      subst r0; subst r1; subst r3; subst r2
      refine ⟨.mk ⟨x0, x1, ra, rn, rc, ba, bn, bc, bs⟩ qs, rfl, ?_, ?_⟩
      · rw [hk]
        exact ⟨⟨p3, q3, s3, hm, hb⟩, hl, hK⟩
      · rw [hk, hxy]
        simp only [cntA, Ar.ks, Rows.uptoBulk, Rows.uptoBulkAll, List.map_cons, List.map_nil]
        unfold cntL at hc
        omega

/-- A program that came in. -/
theorem open_pg {H : Type} {enc : TypeId × Value → H} {W : World} {base : Nat} {v : Value} {d : DataW H} {p : List MemPlace} (hv : Value.okWide Try.prog W .any base 40 v) (h : DataW.Trod enc Try.prog W 0 (fun _ => true) true 40 v d p) (hB : Rows.uptoBulk d ≤ 1048576) :
    ∃ (a : Option Addr) (n c : Nat), v = .slice a n c ∧ n ≤ 9223372036854775807 ∧ ∀ j, j < n → ∃ d ra rn rc qs, StepAt d W a j ra rn rc qs := by
  obtain ⟨a0, n0, c0, rfl⟩ := okWide_slice Try.underlying40 hv
  have lt : ∀ x ∈ p, x.block < W.heap.size := by obtain ⟨m, hm⟩ := h; exact DataW.trod_lt m _ _ _ hm
  obtain ⟨fuel, hf⟩ := h
  have hf' : DataW.trod enc Try.prog W 0 (fun _ => true) true fuel 40 [.slice a0 n0 c0] = some (d, p) := by simpa [Value.cells] using hf
  rcases Deep.open_slice Try.underlying40 hf' with ⟨hcs, _⟩ | ⟨a, l, c, m, n, D, Pl, hcs, _, hl, hm, hmm, hx, hv'⟩
  · simp at hcs
    obtain ⟨rfl, rfl, rfl⟩ := hcs
    exact ⟨none, 0, 0, rfl, by omega, fun j hj => absurd hj (Nat.not_lt_zero _)⟩
  · simp at hcs
    obtain ⟨rfl, rfl, rfl⟩ := hcs
    simp only [Prod.mk.injEq] at hx
    obtain ⟨rfl, rfl⟩ := hx
    simp only [if_true] at hmm
    rw [cellsSt] at hv'
    refine ⟨some a, n0, c0, rfl, by unfold maxLen at hm; omega, fun j hj => ?_⟩
    obtain ⟨cs', h1, h2⟩ := hv' j (by omega)
    obtain ⟨_, hlen, hcell⟩ := World.cells?_some h1
    obtain ⟨y0, y1, k, hxy, _, g0, g1⟩ := trod_struct2 Try.underlying73 h2
    match cs', hlen with
    | [v0, v1], _ =>
      simp [cells3, cellsAA] at g0 g1
      have e1 := hcell 1 (by omega)
      rw [Deep.add_add] at e1
      obtain ⟨ra, rn, rc, qs, rfl, hK, hl', hm', hb', hc'⟩ := row_b k (fun n hn => open_arb n) v1 _ g1
      have hD : Rows.uptoBulk (D j) ≤ 1048576 := by
        have := bulk_mem (d := D j) (l := (List.range n0).map D) (List.mem_map.2 ⟨j, List.mem_range.2 hj, rfl⟩)
        simp only [Rows.uptoBulk] at hB
        omega
      have hy : Rows.uptoBulk y1.1 ≤ Rows.uptoBulk (D j) := by
        rw [(Prod.mk.inj hxy).1]
        simp only [Rows.uptoBulk, Rows.uptoBulkAll]
        omega
      have e2 : W.cell? (a.add (j * 2 + 1)) = some (.slice ra rn rc) := by simpa using e1
      obtain ⟨cs0, h10, _⟩ := hv' 0 (by omega)
      obtain ⟨_, hlen0, hcell0⟩ := World.cells?_some h10
      have e0 := hcell0 0 (by omega)
      rw [Deep.add_add, List.getElem?_eq_getElem (by omega)] at e0
      obtain ⟨b, off, spot⟩ := a
      have hspot : spot = none := by simpa [Addr.add] using World.cell?_spot e0
      subst hspot
      rw [add_plain] at e2
      exact ⟨k, ra, rn, rc, qs, b, off, rfl, lt (.cell b off) (List.mem_append.2 (.inl (MemPlace.mem_row.2 ⟨0, by rw [cellsSt]; omega, by simp⟩))), by rw [show off + j * 2 + 1 = off + (j * 2 + 1) by omega]; exact e2, hK, hl', hm', hb', by omega⟩

end Go.Proofs.Ytkgejeamcgodhaa
