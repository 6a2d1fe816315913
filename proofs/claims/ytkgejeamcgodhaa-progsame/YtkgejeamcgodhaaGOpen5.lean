/- Programs that came in, opened: their steps as they lie; no list within is longer than a memory. -/
import Derived.Test.YtkgejeamcgodhaaGOpen2
import Derived.Test.YtkgejeamcgodhaaGC7
namespace Go.Proofs.Ytkgejeamcgodhaa
open Go.ChangeShapes Go.WideShapes Go.ChangeAt Go.RowKit
set_option linter.unusedVariables false
set_option maxRecDepth 20000

theorem cellsSt : Try.prog.cellsOf 73 = 2 := by kernel_rfl
theorem bytesAr : Try.prog.bytesOf 30 = 64 := by kernel_rfl
theorem bytesSt : Try.prog.bytesOf 73 = 32 := by kernel_rfl
theorem bytesBy : Try.prog.bytesOf 5 = 1 := by kernel_rfl
theorem weightsAll_mem {H : Type} {P : Program} {e : TypeId} : ∀ {l : List (DataW H)} {d : DataW H} {n : Nat}, d ∈ l → n ∈ d.weights P e → n ∈ DataW.weightsAll P e l
  | d0 :: l, d, n, hd, hn => by
    rw [DataW.weightsAll, List.mem_append]
    rcases List.mem_cons.1 hd with rfl | hd
    · exact .inl hn
    · exact .inr (weightsAll_mem hd hn)
theorem lb_w {H : Type} {enc : TypeId × Value → H} {W : World} {fuel : Nat} {a : Option Addr} {n c : Nat} {y : DataW H × List MemPlace} (h : DataW.trod enc Try.prog W 0 (fun _ => true) true fuel 28 [.slice a n c] = some y) (hw : ∀ k ∈ y.1.weights Try.prog 28, k ≤ reachBytes) : n ≤ 140737488355328 := by
  rcases DataW.trod_slice Try.underlying28 h with ⟨hcs, _⟩ | ⟨a, len, cap, elems, rest, k, hkn, hcs, hx2, hb, hl, hm, hel, hev, _, _⟩
  · simp at hcs
    omega
  · simp at hcs
    obtain ⟨rfl, rfl, rfl⟩ := hcs
    rw [hx2] at hw
    have hr := hw _ (by rw [DataW.weights, Try.underlying28]; exact List.mem_cons_self)
    rw [bytesBy] at hr
    simp at hr
    unfold reachBytes at hr
    omega

theorem few_more {w : World} : ∀ (n : Nat) (A : Ar), Okd n w A → fewA n A → ∀ m, n ≤ m → fewA m A
  | 0, _, h, _, _, _ => h.elim
  | n + 1, A, ⟨_, _, h3⟩, ⟨f1, f2, f3⟩, m, hm => by
    obtain ⟨k, rfl⟩ : ∃ k, m = k + 1 := ⟨m - 1, by omega⟩
    refine ⟨f1, f2, fun B hB => ?_⟩
    have hf := f3 B hB
    obtain ⟨j, hj, rfl⟩ := List.mem_iff_getElem.1 hB
    obtain ⟨b, o, _, _, hc⟩ := h3 (by omega)
    exact few_more n _ (hc j hj).2 hf k (by omega)

/-- Arguments in a row, within a datum. -/
theorem row_w {H : Type} {enc : TypeId × Value → H} {W : World} (fuel : Nat) (ih : ∀ n, n < fuel → ∀ (cs : List Value) (y : DataW H × List MemPlace), DataW.trod enc Try.prog W 0 (fun _ => true) true n 30 cs = some y → (∀ k ∈ y.1.weights Try.prog 30, k ≤ reachBytes) → ∃ A : Ar, cs = arC A.h ∧ Okd n W A ∧ fewA n A)
    (v : Value) (y : DataW H × List MemPlace) (h : DataW.trod enc Try.prog W 0 (fun _ => true) true fuel 27 [v] = some y) (hw : ∀ k ∈ y.1.weights Try.prog 27, k ≤ reachBytes) :
    ∃ (ra : Option Addr) (rn rc : Nat) (qs : List Ar), v = .slice ra rn rc ∧ Krow fuel W ra qs ∧ qs.length = rn ∧ rn ≤ rc ∧ rc ≤ 9223372036854775807 ∧ fewL fuel qs := by
  have lt : ∀ x ∈ y.2, x.block < W.heap.size := DataW.trod_lt fuel _ _ _ h
  rcases DataW.trod_slice Try.underlying27 h with ⟨hcs, _⟩ | ⟨a, len, cap, elems, rest, n, hkn, hcs, hx2, hb, hl, hm, hel, hev, _, _⟩
  · simp at hcs
    subst hcs
    exact ⟨none, 0, 0, [], rfl, fun h => absurd h (Nat.lt_irrefl 0), rfl, Nat.le_refl _, by omega, ⟨by simp, fun B hB => by cases hB⟩⟩
  · simp at hcs
    subst hcs
    rw [cellsA] at hev
    rw [hx2] at hw
    have hr := hw _ (by rw [DataW.weights, Try.underlying27]; exact List.mem_cons_self)
    rw [bytesAr] at hr
    simp at hr
    unfold reachBytes at hr
    have hel2 : ∀ i, ∀ hi : i < elems.length, ∀ k ∈ elems[i].1.weights Try.prog 30, k ≤ reachBytes := fun i hi k hk => hw k (by
      simp only [DataW.weights, Try.underlying27, List.mem_cons, List.mem_append]
      exact .inr (.inl (weightsAll_mem (List.mem_map.2 ⟨elems[i], List.getElem_mem hi, rfl⟩) hk)))
    have each : ∀ i, i < len → ∃ B : Ar, ((∀ t, t < 4 → W.cell? (a.add (i * 4 + t)) = (arC B.h)[t]?) ∧ Okd n W B) ∧ fewA n B := by
      intro i hi
      have key := hev i hi
      rw [List.getElem?_eq_getElem (by omega)] at key
      obtain ⟨cs', h1, h2⟩ := Option.bind_eq_some_iff.1 key
      obtain ⟨_, hlen', hcell⟩ := World.cells?_some h1
      obtain ⟨B, rfl, hB, hc⟩ := ih n (by omega) cs' _ h2 (hel2 i (by omega))
      refine ⟨B, ⟨fun t ht => ?_, hB⟩, hc⟩
      rw [← Deep.add_add, hcell t ht]
    haveI : Inhabited Ar := ⟨.mk ⟨0, 0, none, 0, 0, none, 0, 0, []⟩ []⟩
    obtain ⟨Z, hZ⟩ := Deep.choose_lt (α := Ar) (p := fun i B => ((∀ t, t < 4 → W.cell? (a.add (i * 4 + t)) = (arC B.h)[t]?) ∧ Okd n W B) ∧ fewA n B) each
    refine ⟨some a, len, cap, (List.range len).map Z, rfl, fun h0 => ?_, by simp, hl, by unfold maxLen at hm; omega, ?_⟩
    · have h0' : 0 < len := by simpa using h0
      obtain ⟨b, off, spot⟩ := a
      have hspot : spot = none := by
        have := (hZ 0 h0').1.1 0 (by omega)
        simp only [arC, List.getElem?_cons_zero] at this
        simpa [Addr.add] using World.cell?_spot this
      subst hspot
      rw [hx2] at lt
      refine ⟨b, off, rfl, lt (.cell b off) (List.mem_append.2 (.inl (MemPlace.mem_row.2 ⟨0, by rw [cellsA]; omega, by simp⟩))), fun j hj => ?_⟩
      have hj' : j < len := by simpa using hj
      obtain ⟨⟨hc, ho⟩, _⟩ := hZ j hj'
      have e : ((List.range len).map Z)[j] = Z j := by simp
      rw [e]
      have f := fun t ht => (hc t ht)
      simp only [add_plain] at f
      refine ⟨⟨?_, ?_, ?_, ?_⟩, Okd.more n _ ho fuel (by omega)⟩
      · simpa [arC] using f 0 (by omega)
      · have := f 1 (by omega)
        simp only [arC, List.getElem?_cons_succ, List.getElem?_cons_zero] at this
        rw [← this]; congr 2
      · have := f 2 (by omega)
        simp only [arC, List.getElem?_cons_succ, List.getElem?_cons_zero] at this
        rw [← this]; congr 2
      · have := f 3 (by omega)
        simp only [arC, List.getElem?_cons_succ, List.getElem?_cons_zero] at this
        rw [← this]; congr 2
    · refine ⟨by simp; omega, fun B hB => ?_⟩
      obtain ⟨j, hj, rfl⟩ := List.mem_map.1 hB
      have hj' : j < len := List.mem_range.1 hj
      exact few_more n _ (hZ j hj').1.2 (hZ j hj').2 fuel (by omega)

theorem open_arw {H : Type} {enc : TypeId × Value → H} {W : World} : ∀ (fuel : Nat) (cs : List Value) (y : DataW H × List MemPlace), DataW.trod enc Try.prog W 0 (fun _ => true) true fuel 30 cs = some y → (∀ k ∈ y.1.weights Try.prog 30, k ≤ reachBytes) → ∃ A : Ar, cs = arC A.h ∧ Okd fuel W A ∧ fewA fuel A := by
  intro fuel
  induction fuel using Nat.strongRecOn with
  | ind fuel ih =>
    intro cs y h hw
    obtain ⟨xs, k, hk, hxy, hlen, hxl, hf⟩ := DataW.trod_struct Try.underlying30 h
    rw [cellsA] at hlen
    match xs, hxl, cs, hlen with
    | [y0, y1, y2, y3], _, [v0, v1, v2, v3], _ =>
      have g0 := hf 0 _ rfl
      have g1 := hf 1 _ rfl
      have g2 := hf 2 _ rfl
      have g3 := hf 3 _ rfl
      simp [cells3, cellsAA, cellsB] at g0 g1 g2 g3
      obtain ⟨x0, r0, _, w0⟩ := DataW.trod_int Try.underlying3 g0
      obtain ⟨x1, r1, _, w1⟩ := DataW.trod_int Try.underlying3 g1
      simp at r0 r1
      obtain ⟨ba, bn, bc, bs, r3, p3, q3, s3⟩ := open_lb g3
      rw [hxy] at hw
      have hw2 : ∀ k ∈ y2.1.weights Try.prog 27, k ≤ reachBytes := fun k hk => hw k (by simp [DataW.weights, Try.underlying30, DataW.weightsEach, hk])
      have hw3 : ∀ k ∈ y3.1.weights Try.prog 28, k ≤ reachBytes := fun k hk => hw k (by simp [DataW.weights, Try.underlying30, DataW.weightsEach, hk])
      have hby : bn ≤ 140737488355328 := by subst r3; exact lb_w g3 hw3
      obtain ⟨ra, rn, rc, qs, r2, hK, hl, hm, hb, hc⟩ := row_w k (fun n hn => ih n (by omega)) v2 _ g2 hw2
      subst r0; subst r1; subst r3; subst r2
      refine ⟨.mk ⟨x0, x1, ra, rn, rc, ba, bn, bc, bs⟩ qs, rfl, ?_, ?_⟩
      · rw [hk]
        exact ⟨⟨p3, q3, s3, hm, hb⟩, hl, hK⟩
      · rw [hk]
        exact ⟨by show rn ≤ _; rw [← hl]; exact hc.1, hby, hc.2⟩

/-- A program that came in. -/
theorem open_pgw {H : Type} {enc : TypeId × Value → H} {W : World} {base : Nat} {v : Value} {d : DataW H} {p : List MemPlace} (hv : Value.okWide Try.prog W .any base 40 v) (h : DataW.Trod enc Try.prog W 0 (fun _ => true) true 40 v d p) (hw : ∀ k ∈ d.weights Try.prog 40, k ≤ reachBytes) :
    ∃ (a : Option Addr) (n c e : Nat) (ps : List Stp), v = .slice a n c ∧ n ≤ c ∧ c ≤ 9223372036854775807 ∧ Pgm e W a ps ∧ ps.length = n ∧ n ≤ 4398046511104 ∧ ∀ j, ∀ hj : j < ps.length, fewL e ps[j].qs := by
  obtain ⟨a0, n0, c0, rfl⟩ := okWide_slice Try.underlying40 hv
  have lt : ∀ x ∈ p, x.block < W.heap.size := by obtain ⟨m, hm⟩ := h; exact DataW.trod_lt m _ _ _ hm
  obtain ⟨fuel, hf⟩ := h
  have hf' : DataW.trod enc Try.prog W 0 (fun _ => true) true fuel 40 [.slice a0 n0 c0] = some (d, p) := by simpa [Value.cells] using hf
  rcases Deep.open_slice Try.underlying40 hf' with ⟨hcs, _⟩ | ⟨a, l, c, m, n, D, Pl, hcs, _, hl, hm, hmm, hx, hv'⟩
  · simp at hcs
    obtain ⟨rfl, rfl, rfl⟩ := hcs
    exact ⟨none, 0, 0, 0, [], rfl, Nat.le_refl _, by omega, fun h => absurd h (Nat.lt_irrefl 0), rfl, by omega, fun j hj => absurd hj (by simp)⟩
  · simp at hcs
    obtain ⟨rfl, rfl, rfl⟩ := hcs
    simp only [Prod.mk.injEq] at hx
    obtain ⟨rfl, rfl⟩ := hx
    simp only [if_true] at hmm
    rw [cellsSt] at hv'
    have hn20 : n0 ≤ 4398046511104 := by
      have hr := hw _ (by rw [DataW.weights, Try.underlying40]; exact List.mem_cons_self)
      rw [bytesSt] at hr
      simp at hr
      unfold reachBytes at hr
      omega
    have hDw : ∀ i, i < n0 → ∀ k ∈ (D i).weights Try.prog 73, k ≤ reachBytes := fun i hi k hk => hw k (by
      simp only [DataW.weights, Try.underlying40, List.mem_cons, List.mem_append]
      exact .inr (.inl (weightsAll_mem (List.mem_map.2 ⟨i, List.mem_range.2 hi, rfl⟩) hk)))
    cases n with
    | zero =>
      rcases Nat.eq_zero_or_pos n0 with hz | hp
      · subst hz
        exact ⟨some a, 0, c0, 0, [], rfl, hl, by unfold maxLen at hm; omega, fun h => absurd h (Nat.lt_irrefl 0), rfl, by omega, fun j hj => absurd hj (by simp)⟩
      · obtain ⟨cs', _, h2⟩ := hv' 0 (by omega)
        simp [DataW.trod] at h2
    | succ k =>
      have each : ∀ i, i < n0 → ∃ s : Stp, W.cell? (a.add (i * 2)) = some (.int .i64 s.c) ∧ W.cell? (a.add (i * 2 + 1)) = some (.slice s.ra s.rn s.rc) ∧ StpOk k W s ∧ fewL k s.qs := by
        intro i hi
        obtain ⟨cs', h1, h2⟩ := hv' i (by omega)
        obtain ⟨_, hlen, hcell⟩ := World.cells?_some h1
        obtain ⟨xs, k', hk', hxy, _, hxl, hfx⟩ := DataW.trod_struct Try.underlying73 h2
        obtain rfl : k = k' := by omega
        match xs, hxl, cs', hlen with
        | [y0, y1], _, [v0, v1], _ =>
          have g0 := hfx 0 _ rfl
          have g1 := hfx 1 _ rfl
          simp [cells3, cellsAA] at g0 g1
          have e0 := hcell 0 (by omega)
          have e1 := hcell 1 (by omega)
          rw [Deep.add_add] at e0 e1
          obtain ⟨x0, r0, _, _⟩ := DataW.trod_int Try.underlying3 g0
          simp at r0
          subst r0
          have hDi := hDw i hi
          simp only [Prod.mk.injEq] at hxy
          rw [hxy.1] at hDi
          obtain ⟨ra, rn, rc, qs, rfl, hK, hl', hm', hb', hc'⟩ := row_w k (fun n hn => open_arw n) v1 _ g1 (fun k hk => hDi k (by simp [DataW.weights, Try.underlying73, DataW.weightsEach, hk]))
          exact ⟨⟨x0, ra, rn, rc, qs⟩, by simpa using e0, by simpa using e1, ⟨hK, hl', hm', hb'⟩, hc'⟩
      haveI : Inhabited Stp := ⟨⟨0, none, 0, 0, []⟩⟩
      obtain ⟨Z, hZ⟩ := Deep.choose_lt (α := Stp) (p := fun i s => W.cell? (a.add (i * 2)) = some (.int .i64 s.c) ∧ W.cell? (a.add (i * 2 + 1)) = some (.slice s.ra s.rn s.rc) ∧ StpOk k W s ∧ fewL k s.qs) each
      refine ⟨some a, n0, c0, k, (List.range n0).map Z, rfl, hl, by unfold maxLen at hm; omega, fun h0 => ?_, by simp, hn20, fun j hj => ?_⟩
      · have h0' : 0 < n0 := by simpa using h0
        obtain ⟨b, off, spot⟩ := a
        have hspot : spot = none := by simpa [Addr.add] using World.cell?_spot (hZ 0 h0').1
        subst hspot
        refine ⟨b, off, rfl, lt (.cell b off) (List.mem_append.2 (.inl (MemPlace.mem_row.2 ⟨0, by rw [cellsSt]; omega, by simp⟩))), fun j hj => ?_⟩
        have hj' : j < n0 := by simpa using hj
        obtain ⟨z0, z1, z2, _⟩ := hZ j hj'
        rw [add_plain] at z0 z1
        simp only [List.getElem_map, List.getElem_range]
        exact ⟨z0, by rw [← z1]; congr 2, z2⟩
      · have hj' : j < n0 := by simpa using hj
        simp only [List.getElem_map, List.getElem_range]
        exact (hZ j hj').2.2.2

end Go.Proofs.Ytkgejeamcgodhaa
