/- A table that came in, opened: its types and calls, as they lie. -/
import Derived.Test.YtkgejeamcgodhaaRows
import Derived.Test.YtkgejeamcgodhaaGCan1
import Derived.ProofKit
import Derived.OpenShut
import Derived.ShutString
import Derived.ChangeOld
import Derived.SizedLaws
import Derived.Deep.Slices
import Derived.Deep.Strs
import Derived.ChangeSame
namespace Go.Proofs.Ytkgejeamcgodhaa
open Go.ChangeShapes Go.WideShapes Go.ChangeAt Go.RowKit
set_option linter.unusedVariables false
set_option maxRecDepth 20000

theorem own : ownKnob Try.prog.godebug = none := by kernel_rfl
theorem laidOut : laidOutB Try.prog = true := by kernel_rfl
theorem cells3 : Try.prog.cellsOf 3 = 1 := by kernel_rfl
theorem cells9 : Try.prog.cellsOf 9 = 1 := by kernel_rfl
theorem cellsI : Try.prog.cellsOf 44 = 1 := by kernel_rfl
theorem cellsS : Try.prog.cellsOf 50 = 1 := by kernel_rfl
theorem cellsT : Try.prog.cellsOf 52 = 10 := by kernel_rfl
theorem cellsC : Try.prog.cellsOf 56 = 5 := by kernel_rfl
theorem cellsTT : Try.prog.cellsOf 22 = 1 := by kernel_rfl
theorem cellsCC : Try.prog.cellsOf 23 = 1 := by kernel_rfl

/-- Numbers within a datum. -/
theorem open_li {H : Type} {enc : TypeId × Value → H} {W : World} {fuel : Nat} {v : Value} {y : DataW H × List MemPlace} (h : DataW.trod enc Try.prog W 0 (fun _ => true) true fuel 44 [v] = some y) :
    ∃ (a : Option Addr) (n c : Nat) (l : List Int), v = .slice a n c ∧ Ints W a l ∧ l.length = n ∧ n ≤ c ∧ c ≤ 9223372036854775807 := by
  have lt : ∀ x ∈ y.2, x.block < W.heap.size := DataW.trod_lt fuel _ _ _ h
  rcases Deep.open_slice1 Try.underlying44 cells3 h with ⟨hcs, _⟩ | ⟨a, l, c, m, n, V, D, Pl, hcs, _, hl, hm, hmm, hx, hv⟩
  · simp at hcs
    subst hcs
    exact ⟨none, 0, 0, [], rfl, fun h => absurd h (Nat.lt_irrefl 0), rfl, Nat.le_refl _, by omega⟩
  · simp at hcs
    subst hcs
    subst hx
    simp only [if_true] at hmm
    have each : ∀ i, i < l → ∃ z : Int, W.cell? (a.add i) = some (.int .i64 z) := by
      intro i hi
      obtain ⟨h1, h2⟩ := hv i (by omega)
      obtain ⟨z, r, _, _⟩ := DataW.trod_int Try.underlying3 h2
      simp at r
      exact ⟨z, by rw [h1, r]⟩
    obtain ⟨Z, hZ⟩ := Deep.choose_lt (α := Int) (p := fun i z => W.cell? (a.add i) = some (.int .i64 z)) each
    refine ⟨some a, l, c, (List.range l).map Z, rfl, fun h0 => ?_, by simp, hl, by unfold maxLen at hm; omega⟩
    have h0' : 0 < l := by simpa using h0
    obtain ⟨b, off, spot⟩ := a
    have hspot : spot = none := by simpa [Addr.add] using World.cell?_spot (hZ 0 h0')
    subst hspot
    refine ⟨b, off, rfl, lt (.cell b off) (List.mem_append.2 (.inl (MemPlace.mem_row.2 ⟨0, by omega, by simp⟩))), fun j hj => ?_⟩
    have hj' : j < l := by simpa using hj
    rw [← add_plain, hZ j hj']
    simp [List.getD, hj']

/-- Texts within a datum. -/
theorem open_ls {H : Type} {enc : TypeId × Value → H} {W : World} {fuel : Nat} {v : Value} {y : DataW H × List MemPlace} (h : DataW.trod enc Try.prog W 0 (fun _ => true) true fuel 50 [v] = some y) :
    ∃ (a : Option Addr) (n c : Nat) (l : List ByteArray), v = .slice a n c ∧ Strs W a l ∧ l.length = n ∧ n ≤ c ∧ c ≤ 9223372036854775807 ∧ ∀ t ∈ l, t.size ≤ 9223372036854775807 := by
  have lt : ∀ x ∈ y.2, x.block < W.heap.size := DataW.trod_lt fuel _ _ _ h
  rcases Deep.open_slice1 Try.underlying50 cells9 h with ⟨hcs, _⟩ | ⟨a, l, c, m, n, V, D, Pl, hcs, _, hl, hm, hmm, hx, hv⟩
  · simp at hcs
    subst hcs
    exact ⟨none, 0, 0, [], rfl, fun h => absurd h (Nat.lt_irrefl 0), rfl, Nat.le_refl _, by omega, fun t ht => by cases ht⟩
  · simp at hcs
    subst hcs
    subst hx
    simp only [if_true] at hmm
    have each : ∀ i, i < l → ∃ z : ByteArray, W.cell? (a.add i) = some (.string z) ∧ z.size ≤ 9223372036854775807 := by
      intro i hi
      obtain ⟨h1, h2⟩ := hv i (by omega)
      obtain ⟨z, r, _, q⟩ := DataW.trod_string Try.underlying9 h2
      simp at r
      exact ⟨z, by rw [h1, r], by unfold maxLen at q; omega⟩
    obtain ⟨Z, hZ⟩ := Deep.choose_lt (α := ByteArray) (p := fun i z => W.cell? (a.add i) = some (.string z) ∧ z.size ≤ 9223372036854775807) each
    refine ⟨some a, l, c, (List.range l).map Z, rfl, fun h0 => ?_, by simp, hl, by unfold maxLen at hm; omega, fun t ht => ?_⟩
    · have h0' : 0 < l := by simpa using h0
      obtain ⟨b, off, spot⟩ := a
      have hspot : spot = none := by simpa [Addr.add] using World.cell?_spot (hZ 0 h0').1
      subst hspot
      refine ⟨b, off, rfl, lt (.cell b off) (List.mem_append.2 (.inl (MemPlace.mem_row.2 ⟨0, by omega, by simp⟩))), fun j hj => ?_⟩
      have hj' : j < l := by simpa using hj
      rw [← add_plain, (hZ j hj').1]
      simp [List.getD, hj']
    · obtain ⟨i, hi, rfl⟩ := List.mem_map.1 ht
      exact (hZ i (by simpa using hi)).2

theorem open_tys {H : Type} {enc : TypeId × Value → H} {W : World} {fuel : Nat} {v : Value} {y : DataW H × List MemPlace} (h : DataW.trod enc Try.prog W 0 (fun _ => true) true fuel 22 [v] = some y) :
    ∃ (a : Option Addr) (n c : Nat) (l : List Ty), v = .slice a n c ∧ Tys W a l ∧ l.length = n ∧ n ≤ c ∧ c ≤ 9223372036854775807 := by
  have lt : ∀ x ∈ y.2, x.block < W.heap.size := DataW.trod_lt fuel _ _ _ h
  rcases Deep.open_slice Try.underlying22 h with ⟨hcs, _⟩ | ⟨a, l, c, m, n, D, Pl, hcs, _, hl, hm, hmm, hx, hv⟩
  · simp at hcs
    subst hcs
    exact ⟨none, 0, 0, [], rfl, fun h => absurd h (Nat.lt_irrefl 0), rfl, Nat.le_refl _, by omega⟩
  · simp at hcs
    subst hcs
    subst hx
    simp only [if_true] at hmm
    rw [cellsT] at hv
    have each : ∀ i, i < l → ∃ T : Ty, (W.cell? (a.add (i * 10)) = some (.int .i64 T.k) ∧ W.cell? (a.add (i * 10 + 1)) = some (.int .i64 T.s) ∧ W.cell? (a.add (i * 10 + 2)) = some (.int .i64 T.lo) ∧ W.cell? (a.add (i * 10 + 3)) = some (.int .i64 T.hi) ∧ W.cell? (a.add (i * 10 + 4)) = some (.int .i64 T.d) ∧ W.cell? (a.add (i * 10 + 5)) = some (.string T.o) ∧ W.cell? (a.add (i * 10 + 6)) = some (.slice T.va T.vn T.vc) ∧ W.cell? (a.add (i * 10 + 7)) = some (.slice T.ta T.tn T.tc) ∧ W.cell? (a.add (i * 10 + 8)) = some (.slice T.ea T.en T.ec) ∧ W.cell? (a.add (i * 10 + 9)) = some (.slice T.na T.nn T.nc)) ∧ T.Ok W := by
      intro i hi
      obtain ⟨cs', h1, h2⟩ := hv i (by omega)
      obtain ⟨_, hlen, hcell⟩ := World.cells?_some h1
      obtain ⟨xs, k, hk, hxy, _, hxl, hf⟩ := DataW.trod_struct Try.underlying52 h2
      match xs, hxl, cs', hlen with
      | [y0, y1, y2, y3, y4, y5, y6, y7, y8, y9], _, [v0, v1, v2, v3, v4, v5, v6, v7, v8, v9], _ =>
        have g0 := hf 0 _ rfl
        have g1 := hf 1 _ rfl
        have g2 := hf 2 _ rfl
        have g3 := hf 3 _ rfl
        have g4 := hf 4 _ rfl
        have g5 := hf 5 _ rfl
        have g6 := hf 6 _ rfl
        have g7 := hf 7 _ rfl
        have g8 := hf 8 _ rfl
        have g9 := hf 9 _ rfl
        simp [cells3, cells9, cellsI, cellsS] at g0 g1 g2 g3 g4 g5 g6 g7 g8 g9
        have e0 := hcell 0 (by omega)
        have e1 := hcell 1 (by omega)
        have e2 := hcell 2 (by omega)
        have e3 := hcell 3 (by omega)
        have e4 := hcell 4 (by omega)
        have e5 := hcell 5 (by omega)
        have e6 := hcell 6 (by omega)
        have e7 := hcell 7 (by omega)
        have e8 := hcell 8 (by omega)
        have e9 := hcell 9 (by omega)
        rw [Deep.add_add] at e0 e1 e2 e3 e4 e5 e6 e7 e8 e9
        obtain ⟨x0, r0, _, w0⟩ := DataW.trod_int Try.underlying3 g0
        obtain ⟨x1, r1, _, w1⟩ := DataW.trod_int Try.underlying3 g1
        obtain ⟨x2, r2, _, w2⟩ := DataW.trod_int Try.underlying3 g2
        obtain ⟨x3, r3, _, w3⟩ := DataW.trod_int Try.underlying3 g3
        obtain ⟨x4, r4, _, w4⟩ := DataW.trod_int Try.underlying3 g4
        obtain ⟨x5, r5, _, w5⟩ := DataW.trod_string Try.underlying9 g5
        simp at r0 r1 r2 r3 r4 r5
        obtain ⟨va, vn, vc, vs, r6, p6, q6, s6, t6⟩ := open_li g6
        obtain ⟨ta, tn, tc, ts, r7, p7, q7, s7, t7, u7⟩ := open_ls g7
        obtain ⟨ea, en, ec, es, r8, p8, q8, s8, t8⟩ := open_li g8
        obtain ⟨na, nn, nc, ns, r9, p9, q9, s9, t9, u9⟩ := open_ls g9
        subst r0; subst r1; subst r2; subst r3; subst r4; subst r5; subst r6; subst r7; subst r8; subst r9
        exact ⟨⟨x0, x1, x2, x3, x4, x5, va, vn, vc, vs, ta, tn, tc, ts, ea, en, ec, es, na, nn, nc⟩,
          ⟨by simpa using e0, by simpa using e1, by simpa using e2, by simpa using e3, by simpa using e4, by simpa using e5, by simpa using e6, by simpa using e7, by simpa using e8, by simpa using e9⟩,
          ⟨p6, q6, s6, t6, p7, q7, s7, t7, p8, q8, s8, t8, s9, t9, u7⟩⟩
    haveI : Inhabited Ty := ⟨⟨0, 0, 0, 0, 0, .empty, none, 0, 0, [], none, 0, 0, [], none, 0, 0, [], none, 0, 0⟩⟩
    obtain ⟨Z, hZ⟩ := Deep.choose_lt (α := Ty) (p := fun i T => (W.cell? (a.add (i * 10)) = some (.int .i64 T.k) ∧ W.cell? (a.add (i * 10 + 1)) = some (.int .i64 T.s) ∧ W.cell? (a.add (i * 10 + 2)) = some (.int .i64 T.lo) ∧ W.cell? (a.add (i * 10 + 3)) = some (.int .i64 T.hi) ∧ W.cell? (a.add (i * 10 + 4)) = some (.int .i64 T.d) ∧ W.cell? (a.add (i * 10 + 5)) = some (.string T.o) ∧ W.cell? (a.add (i * 10 + 6)) = some (.slice T.va T.vn T.vc) ∧ W.cell? (a.add (i * 10 + 7)) = some (.slice T.ta T.tn T.tc) ∧ W.cell? (a.add (i * 10 + 8)) = some (.slice T.ea T.en T.ec) ∧ W.cell? (a.add (i * 10 + 9)) = some (.slice T.na T.nn T.nc)) ∧ T.Ok W) each
    refine ⟨some a, l, c, (List.range l).map Z, rfl, fun h0 => ?_, by simp, hl, by unfold maxLen at hm; omega⟩
    have h0' : 0 < l := by simpa using h0
    obtain ⟨b, off, spot⟩ := a
    have hspot : spot = none := by simpa [Addr.add] using World.cell?_spot (hZ 0 h0').1.1
    subst hspot
    refine ⟨b, off, rfl, lt (.cell b off) (List.mem_append.2 (.inl (MemPlace.mem_row.2 ⟨0, by rw [cellsT]; omega, by simp⟩))), fun j hj => ?_⟩
    have hj' : j < l := by simpa using hj
    obtain ⟨⟨c0, c1, c2, c3, c4, c5, c6, c7, c8, c9⟩, ok⟩ := hZ j hj'
    rw [add_plain] at c0 c1 c2 c3 c4 c5 c6 c7 c8 c9
    simp only [List.getElem_map, List.getElem_range]
    exact ⟨⟨c0, c1, c2, c3, c4, c5, c6, c7, c8, c9⟩, ok⟩

theorem open_cls {H : Type} {enc : TypeId × Value → H} {W : World} {fuel : Nat} {v : Value} {y : DataW H × List MemPlace} (h : DataW.trod enc Try.prog W 0 (fun _ => true) true fuel 23 [v] = some y) :
    ∃ (a : Option Addr) (n c : Nat) (l : List Cl), v = .slice a n c ∧ Cls W a l ∧ l.length = n ∧ n ≤ c ∧ c ≤ 9223372036854775807 := by
  have lt : ∀ x ∈ y.2, x.block < W.heap.size := DataW.trod_lt fuel _ _ _ h
  rcases Deep.open_slice Try.underlying23 h with ⟨hcs, _⟩ | ⟨a, l, c, m, n, D, Pl, hcs, _, hl, hm, hmm, hx, hv⟩
  · simp at hcs
    subst hcs
    exact ⟨none, 0, 0, [], rfl, fun h => absurd h (Nat.lt_irrefl 0), rfl, Nat.le_refl _, by omega⟩
  · simp at hcs
    subst hcs
    subst hx
    simp only [if_true] at hmm
    rw [cellsC] at hv
    have each : ∀ i, i < l → ∃ C : Cl, (W.cell? (a.add (i * 5)) = some (.string C.nm) ∧ W.cell? (a.add (i * 5 + 1)) = some (.int .i64 C.no) ∧ W.cell? (a.add (i * 5 + 2)) = some (.slice C.aa C.an C.ac) ∧ W.cell? (a.add (i * 5 + 3)) = some (.slice C.na C.nn C.nc) ∧ W.cell? (a.add (i * 5 + 4)) = some (.string C.rt)) ∧ C.Ok W := by
      intro i hi
      obtain ⟨cs', h1, h2⟩ := hv i (by omega)
      obtain ⟨_, hlen, hcell⟩ := World.cells?_some h1
      obtain ⟨xs, k, hk, hxy, _, hxl, hf⟩ := DataW.trod_struct Try.underlying56 h2
      match xs, hxl, cs', hlen with
      | [y0, y1, y2, y3, y4], _, [v0, v1, v2, v3, v4], _ =>
        have g0 := hf 0 _ rfl
        have g1 := hf 1 _ rfl
        have g2 := hf 2 _ rfl
        have g3 := hf 3 _ rfl
        have g4 := hf 4 _ rfl
        simp [cells3, cells9, cellsI, cellsS] at g0 g1 g2 g3 g4
        have e0 := hcell 0 (by omega)
        have e1 := hcell 1 (by omega)
        have e2 := hcell 2 (by omega)
        have e3 := hcell 3 (by omega)
        have e4 := hcell 4 (by omega)
        rw [Deep.add_add] at e0 e1 e2 e3 e4
        obtain ⟨x0, r0, _, w0⟩ := DataW.trod_string Try.underlying9 g0
        obtain ⟨x1, r1, _, w1⟩ := DataW.trod_int Try.underlying3 g1
        obtain ⟨x4, r4, _, w4⟩ := DataW.trod_string Try.underlying9 g4
        simp at r0 r1 r4
        obtain ⟨va, vn, vc, vs, r2, p6, q6, s6, t6⟩ := open_li g2
        obtain ⟨ta, tn, tc, ts, r3, p7, q7, s7, t7, u7⟩ := open_ls g3
        subst r0; subst r1; subst r2; subst r3; subst r4
        exact ⟨⟨x0, x1, va, vn, vc, vs, ta, tn, tc, x4⟩,
          ⟨by simpa using e0, by simpa using e1, by simpa using e2, by simpa using e3, by simpa using e4⟩, ⟨p6, q6, s6, t6, s7, t7⟩⟩
    haveI : Inhabited Cl := ⟨⟨.empty, 0, none, 0, 0, [], none, 0, 0, .empty⟩⟩
    obtain ⟨Z, hZ⟩ := Deep.choose_lt (α := Cl) (p := fun i C => (W.cell? (a.add (i * 5)) = some (.string C.nm) ∧ W.cell? (a.add (i * 5 + 1)) = some (.int .i64 C.no) ∧ W.cell? (a.add (i * 5 + 2)) = some (.slice C.aa C.an C.ac) ∧ W.cell? (a.add (i * 5 + 3)) = some (.slice C.na C.nn C.nc) ∧ W.cell? (a.add (i * 5 + 4)) = some (.string C.rt)) ∧ C.Ok W) each
    refine ⟨some a, l, c, (List.range l).map Z, rfl, fun h0 => ?_, by simp, hl, by unfold maxLen at hm; omega⟩
    have h0' : 0 < l := by simpa using h0
    obtain ⟨b, off, spot⟩ := a
    have hspot : spot = none := by simpa [Addr.add] using World.cell?_spot (hZ 0 h0').1.1
    subst hspot
    refine ⟨b, off, rfl, lt (.cell b off) (List.mem_append.2 (.inl (MemPlace.mem_row.2 ⟨0, by rw [cellsC]; omega, by simp⟩))), fun j hj => ?_⟩
    have hj' : j < l := by simpa using hj
    obtain ⟨⟨c0, c1, c2, c3, c4⟩, ok⟩ := hZ j hj'
    rw [add_plain] at c0 c1 c2 c3 c4
    simp only [List.getElem_map, List.getElem_range]
    exact ⟨⟨c0, c1, c2, c3, c4⟩, ok⟩

/-- A table that came in. -/
theorem open_table {H : Type} {enc : TypeId × Value → H} {W : World} {base : Nat} {v : Value} {d : DataW H} {p : List MemPlace} (hv : Value.okWide Try.prog W .any base 25 v)
    (h : DataW.Trod enc Try.prog W 0 (fun _ => true) true 25 v d p) :
    ∃ (a : Option Addr) (n c : Nat) (a2 : Option Addr) (m c2 : Nat) (l : List Ty) (q : List Cl), v = .agg #[.slice a n c, .slice a2 m c2] ∧ Tys W a l ∧ l.length = n ∧ Cls W a2 q ∧ q.length = m ∧ n ≤ 9223372036854775807 ∧ m ≤ 9223372036854775807 := by
  obtain ⟨cs, rfl, hsz⟩ := okWide_struct Try.underlying25 hv
  obtain ⟨fuel, hf⟩ := h
  have hc2 : Try.prog.cellsOf 25 = 2 := by kernel_rfl
  rw [hc2] at hsz
  obtain ⟨v0, v1, rfl⟩ : ∃ v0 v1, cs = #[v0, v1] := by
    match cs, hsz with
    | ⟨[v0, v1]⟩, _ => exact ⟨v0, v1, rfl⟩
  obtain ⟨y0, y1, k, _, _, h0, h1⟩ := trod_struct2 Try.underlying25 hf
  simp [Value.cells, cellsTT, cellsCC] at h0 h1
  obtain ⟨a, n, c, l, rfl, p0, q0, s0, t0⟩ := open_tys h0
  obtain ⟨a2, m, c2, q, rfl, p1, q1, s1, t1⟩ := open_cls h1
  exact ⟨a, n, c, a2, m, c2, l, q, rfl, p0, q0, p1, q1, by omega, by omega⟩

end Go.Proofs.Ytkgejeamcgodhaa
