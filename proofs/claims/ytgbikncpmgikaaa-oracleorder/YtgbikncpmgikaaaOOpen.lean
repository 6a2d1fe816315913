/- Lists of numbers, pipes, open files, processes and nodes that came in, opened. (Written by gen_oopen.py.) -/
import Derived.Test.YtgbikncpmgikaaaRows
import Derived.Test.YtgbikncpmgikaaaONode
import Derived.ProofKit
import Derived.OpenShut
import Derived.ShutString
import Derived.ChangeOld
import Derived.SizedLaws
import Derived.Deep.Slices
import Derived.Deep.Strs
import Derived.ChangeSame
namespace Go.Proofs.Ytgbikncpmgikaaa
open Go.ChangeShapes Go.WideShapes Go.ChangeAt Go.RowKit
set_option linter.unusedVariables false
set_option maxRecDepth 20000

theorem own : ownKnob Try.prog.godebug = none := by kernel_rfl
theorem laidOut : laidOutB Try.prog = true := by kernel_rfl
theorem cells3 : Try.prog.cellsOf 3 = 1 := by kernel_rfl
theorem cells9 : Try.prog.cellsOf 9 = 1 := by kernel_rfl
theorem cellsI : Try.prog.cellsOf 23 = 1 := by kernel_rfl
theorem cellsS : Try.prog.cellsOf 45 = 1 := by kernel_rfl
theorem cellsA : Try.prog.cellsOf 32 = 6 := by kernel_rfl
theorem cellsP : Try.prog.cellsOf 54 = 4 := by kernel_rfl
theorem cellsO : Try.prog.cellsOf 30 = 6 := by kernel_rfl
theorem cellsQ : Try.prog.cellsOf 34 = 10 := by kernel_rfl
theorem cellsN : Try.prog.cellsOf 47 = 8 := by kernel_rfl
theorem bytes3 : Try.prog.bytesOf 3 = 8 := by kernel_rfl
theorem bytesP : Try.prog.bytesOf 54 = 32 := by kernel_rfl
theorem bytesO : Try.prog.bytesOf 30 = 48 := by kernel_rfl
theorem bytesQ : Try.prog.bytesOf 34 = 80 := by kernel_rfl
theorem bytesN : Try.prog.bytesOf 47 = 112 := by kernel_rfl

/-- Numbers within a datum. -/
theorem open_li {H : Type} {enc : TypeId × Value → H} {W : World} {fuel : Nat} {v : Value} {y : DataW H × List MemPlace} (h : DataW.trod enc Try.prog W 0 (fun _ => true) true fuel 23 [v] = some y) :
    ∃ (a : Option Addr) (n c : Nat) (l : List Int), v = .slice a n c ∧ IntL W a l ∧ l.length = n ∧ n ≤ 9223372036854775807 := by
  have lt : ∀ x ∈ y.2, x.block < W.heap.size := DataW.trod_lt fuel _ _ _ h
  rcases Deep.open_slice1 Try.underlying23 cells3 h with ⟨hcs, _⟩ | ⟨a, l, c, m, n, V, D, Pl, hcs, _, hl, hm, hmm, hx, hv⟩
  · simp at hcs
    subst hcs
    exact ⟨none, 0, 0, [], rfl, ⟨fun x hx => (by cases hx), fun h => absurd h (Nat.lt_irrefl 0)⟩, rfl, by omega⟩
  · simp at hcs
    subst hcs
    subst hx
    simp only [if_true] at hmm
    have each : ∀ i, i < l → ∃ z : Int, W.cell? (a.add i) = some (.int .i64 z) ∧ W64 z := by
      intro i hi
      obtain ⟨h1, h2⟩ := hv i (by omega)
      obtain ⟨z, r, _, wz⟩ := DataW.trod_int Try.underlying3 h2
      simp at r
      exact ⟨z, by rw [h1, r], W64.of wz⟩
    obtain ⟨Z, hZ⟩ := Deep.choose_lt (α := Int) (p := fun i z => W.cell? (a.add i) = some (.int .i64 z) ∧ W64 z) each
    refine ⟨some a, l, c, (List.range l).map Z, rfl, ⟨fun x hx => ?_, fun h0 => ?_⟩, by simp, by unfold maxLen at hm; omega⟩
    · obtain ⟨i, hi, rfl⟩ := List.mem_map.1 hx
      exact (hZ i (by simpa using hi)).2
    · have h0' : 0 < l := by simpa using h0
      obtain ⟨b, off, spot⟩ := a
      have hspot : spot = none := by simpa [Addr.add] using World.cell?_spot (hZ 0 h0').1
      subst hspot
      refine ⟨b, off, rfl, lt (.cell b off) (List.mem_append.2 (.inl (MemPlace.mem_row.2 ⟨0, by omega, by simp⟩))), fun j hj => ?_⟩
      have hj' : j < l := by simpa using hj
      rw [← add_plain, (hZ j hj').1]
      simp [List.getD, hj']
theorem li_w {H : Type} {enc : TypeId × Value → H} {W : World} {fuel : Nat} {a : Option Addr} {n c : Nat} {y : DataW H × List MemPlace} (h : DataW.trod enc Try.prog W 0 (fun _ => true) true fuel 23 [.slice a n c] = some y) (hw : ∀ k ∈ y.1.weights Try.prog 23, k ≤ reachBytes) : n ≤ 17592186044416 := by
  rcases Deep.open_slice1 Try.underlying23 cells3 h with ⟨hcs, _⟩ | ⟨a', l, c', m, n', V, D, Pl, hcs, _, hl, hm, hmm, hx, hv⟩
  · simp at hcs
    omega
  · simp at hcs
    obtain ⟨rfl, rfl, rfl⟩ := hcs
    subst hx
    have hr := hw _ (by rw [DataW.weights, Try.underlying23]; exact List.mem_cons_self)
    rw [bytes3] at hr
    simp at hr
    unfold reachBytes at hr
    omega
/-- Numbers that came in. -/
theorem open_il {H : Type} {enc : TypeId × Value → H} {W : World} {al : Option Addr} {ll cl : Nat} {d : DataW H} {p : List MemPlace} (h : DataW.Trod enc Try.prog W 0 (fun _ => true) true 23 (.slice al ll cl) d p) (hw : ∀ n ∈ d.weights Try.prog 23, n ≤ reachBytes) :
    ∃ l, IntL W al l ∧ l.length = ll ∧ ll ≤ 17592186044416 := by
  obtain ⟨fuel, hf⟩ := h
  have hf' : DataW.trod enc Try.prog W 0 (fun _ => true) true fuel 23 [.slice al ll cl] = some (d, p) := hf
  obtain ⟨a, n, c, l, e, h1, h2, h3⟩ := open_li hf'
  injection e with e1 e2 e3
  subst e1; subst e2; subst e3
  exact ⟨l, h1, h2, li_w hf' hw⟩
/-- Texts within a datum: only that it is a list. -/
theorem open_ls {H : Type} {enc : TypeId × Value → H} {W : World} {fuel : Nat} {v : Value} {y : DataW H × List MemPlace} (h : DataW.trod enc Try.prog W 0 (fun _ => true) true fuel 45 [v] = some y) :
    ∃ (a : Option Addr) (n c : Nat), v = .slice a n c := by
  rcases Deep.open_slice1 Try.underlying45 cells9 h with ⟨hcs, _⟩ | ⟨a, l, c, m, n, V, D, Pl, hcs, _, hl, hm, hmm, hx, hv⟩
  · simp at hcs
    subst hcs
    exact ⟨none, 0, 0, rfl⟩
  · simp at hcs
    subst hcs
    exact ⟨some a, l, c, rfl⟩

/-- Pipes that came in. -/
theorem open_p {H : Type} {enc : TypeId × Value → H} {W : World} {al : Option Addr} {ll cl : Nat} {d : DataW H} {p : List MemPlace} (h : DataW.Trod enc Try.prog W 0 (fun _ => true) true 24 (.slice al ll cl) d p) (hw : ∀ n ∈ d.weights Try.prog 24, n ≤ reachBytes) :
    ∃ l, Recs W 4 al l ∧ l.length = ll ∧ ll ≤ 4398046511104 := by
  have lt : ∀ x ∈ p, x.block < W.heap.size := by obtain ⟨m, hm⟩ := h; exact DataW.trod_lt m _ _ _ hm
  obtain ⟨fuel, hf⟩ := h
  rcases Deep.open_slice Try.underlying24 hf with ⟨hcs, _⟩ | ⟨a, l, c, m, n, D, Pl, hcs, _, hl, hm, hmm, hx, hv⟩
  · simp [Value.cells] at hcs
    obtain ⟨rfl, rfl, rfl⟩ := hcs
    exact ⟨[], ⟨fun x hx => (by cases hx), fun h => absurd h (Nat.lt_irrefl 0)⟩, rfl, by omega⟩
  · simp [Value.cells] at hcs
    obtain ⟨rfl, rfl, rfl⟩ := hcs
    simp only [Prod.mk.injEq] at hx
    obtain ⟨rfl, rfl⟩ := hx
    simp only [if_true] at hmm
    have hr := hw _ (by rw [DataW.weights, Try.underlying24]; exact List.mem_cons_self)
    rw [bytesP] at hr
    simp at hr
    unfold reachBytes at hr
    rw [cellsP] at hv
    have each : ∀ i, i < ll → ∃ R : Rec, (∀ q, q < 4 → W.cell? (a.add (i * 4 + q)) = some (.int .i64 (R q))) ∧ ∀ q, W64 (R q) := by
      intro i hi
      obtain ⟨cs', h1, h2⟩ := hv i (by omega)
      obtain ⟨_, hlen, hcell⟩ := World.cells?_some h1
      obtain ⟨xs, k, hk, hxy, _, hxl, hf⟩ := DataW.trod_struct Try.underlying54 h2
      match xs, hxl, cs', hlen with
      | [y0, y1, y2, y3], _, [v0, v1, v2, v3], _ =>
        have g0 := hf 0 _ rfl
        have g1 := hf 1 _ rfl
        have g2 := hf 2 _ rfl
        have g3 := hf 3 _ rfl
        simp [cells3] at g0 g1 g2 g3
        have e0 := hcell 0 (by omega)
        have e1 := hcell 1 (by omega)
        have e2 := hcell 2 (by omega)
        have e3 := hcell 3 (by omega)
        rw [Deep.add_add] at e0 e1 e2 e3
        obtain ⟨x0, r0, _, w0⟩ := DataW.trod_int Try.underlying3 g0
        obtain ⟨x1, r1, _, w1⟩ := DataW.trod_int Try.underlying3 g1
        obtain ⟨x2, r2, _, w2⟩ := DataW.trod_int Try.underlying3 g2
        obtain ⟨x3, r3, _, w3⟩ := DataW.trod_int Try.underlying3 g3
        simp at r0 r1 r2 r3
        subst r0; subst r1; subst r2; subst r3
        exact ⟨fun q => match q with | 0 => x0 | 1 => x1 | 2 => x2 | 3 => x3 | _ => 0, fun q hq => match q, hq with | 0, _ => by simpa using e0 | 1, _ => by simpa using e1 | 2, _ => by simpa using e2 | 3, _ => by simpa using e3 | q + 4, hq => absurd hq (by omega), fun q => match q with | 0 => W64.of w0 | 1 => W64.of w1 | 2 => W64.of w2 | 3 => W64.of w3 | q + 4 => ⟨by show (-9223372036854775808 : Int) ≤ 0; omega, by show (0 : Int) ≤ 9223372036854775807; omega⟩⟩
    obtain ⟨Z, hZ⟩ := Deep.choose_lt (α := Rec) (p := fun i R => (∀ q, q < 4 → W.cell? (a.add (i * 4 + q)) = some (.int .i64 (R q))) ∧ ∀ q, W64 (R q)) each
    refine ⟨(List.range ll).map Z, ⟨fun x hx => ?_, fun h0 => ?_⟩, by simp, by omega⟩
    · obtain ⟨i, hi, rfl⟩ := List.mem_map.1 hx
      exact (hZ i (by simpa using hi)).2
    · have h0' : 0 < ll := by simpa using h0
      obtain ⟨b, off, spot⟩ := a
      have hspot : spot = none := by simpa [Addr.add] using World.cell?_spot ((hZ 0 h0').1 0 (by omega))
      subst hspot
      refine ⟨b, off, rfl, lt (.cell b off) (List.mem_append.2 (.inl (MemPlace.mem_row.2 ⟨0, by rw [cellsP]; omega, by simp⟩))), fun j hj q hq => ?_⟩
      have hj' : j < ll := by simpa using hj
      have := (hZ j hj').1 q hq
      rw [add_plain, ← Nat.add_assoc] at this
      rw [this]
      simp [List.getD, hj']

/-- Open files that came in. -/
theorem open_o {H : Type} {enc : TypeId × Value → H} {W : World} {al : Option Addr} {ll cl : Nat} {d : DataW H} {p : List MemPlace} (h : DataW.Trod enc Try.prog W 0 (fun _ => true) true 25 (.slice al ll cl) d p) (hw : ∀ n ∈ d.weights Try.prog 25, n ≤ reachBytes) :
    ∃ l, Recs W 6 al l ∧ l.length = ll ∧ ll ≤ 2932031007402 := by
  have lt : ∀ x ∈ p, x.block < W.heap.size := by obtain ⟨m, hm⟩ := h; exact DataW.trod_lt m _ _ _ hm
  obtain ⟨fuel, hf⟩ := h
  rcases Deep.open_slice Try.underlying25 hf with ⟨hcs, _⟩ | ⟨a, l, c, m, n, D, Pl, hcs, _, hl, hm, hmm, hx, hv⟩
  · simp [Value.cells] at hcs
    obtain ⟨rfl, rfl, rfl⟩ := hcs
    exact ⟨[], ⟨fun x hx => (by cases hx), fun h => absurd h (Nat.lt_irrefl 0)⟩, rfl, by omega⟩
  · simp [Value.cells] at hcs
    obtain ⟨rfl, rfl, rfl⟩ := hcs
    simp only [Prod.mk.injEq] at hx
    obtain ⟨rfl, rfl⟩ := hx
    simp only [if_true] at hmm
    have hr := hw _ (by rw [DataW.weights, Try.underlying25]; exact List.mem_cons_self)
    rw [bytesO] at hr
    simp at hr
    unfold reachBytes at hr
    rw [cellsO] at hv
    have each : ∀ i, i < ll → ∃ R : Rec, (∀ q, q < 6 → W.cell? (a.add (i * 6 + q)) = some (.int .i64 (R q))) ∧ ∀ q, W64 (R q) := by
      intro i hi
      obtain ⟨cs', h1, h2⟩ := hv i (by omega)
      obtain ⟨_, hlen, hcell⟩ := World.cells?_some h1
      obtain ⟨xs, k, hk, hxy, _, hxl, hf⟩ := DataW.trod_struct Try.underlying30 h2
      match xs, hxl, cs', hlen with
      | [y0, y1, y2, y3, y4, y5], _, [v0, v1, v2, v3, v4, v5], _ =>
        have g0 := hf 0 _ rfl
        have g1 := hf 1 _ rfl
        have g2 := hf 2 _ rfl
        have g3 := hf 3 _ rfl
        have g4 := hf 4 _ rfl
        have g5 := hf 5 _ rfl
        simp [cells3] at g0 g1 g2 g3 g4 g5
        have e0 := hcell 0 (by omega)
        have e1 := hcell 1 (by omega)
        have e2 := hcell 2 (by omega)
        have e3 := hcell 3 (by omega)
        have e4 := hcell 4 (by omega)
        have e5 := hcell 5 (by omega)
        rw [Deep.add_add] at e0 e1 e2 e3 e4 e5
        obtain ⟨x0, r0, _, w0⟩ := DataW.trod_int Try.underlying3 g0
        obtain ⟨x1, r1, _, w1⟩ := DataW.trod_int Try.underlying3 g1
        obtain ⟨x2, r2, _, w2⟩ := DataW.trod_int Try.underlying3 g2
        obtain ⟨x3, r3, _, w3⟩ := DataW.trod_int Try.underlying3 g3
        obtain ⟨x4, r4, _, w4⟩ := DataW.trod_int Try.underlying3 g4
        obtain ⟨x5, r5, _, w5⟩ := DataW.trod_int Try.underlying3 g5
        simp at r0 r1 r2 r3 r4 r5
        subst r0; subst r1; subst r2; subst r3; subst r4; subst r5
        exact ⟨fun q => match q with | 0 => x0 | 1 => x1 | 2 => x2 | 3 => x3 | 4 => x4 | 5 => x5 | _ => 0, fun q hq => match q, hq with | 0, _ => by simpa using e0 | 1, _ => by simpa using e1 | 2, _ => by simpa using e2 | 3, _ => by simpa using e3 | 4, _ => by simpa using e4 | 5, _ => by simpa using e5 | q + 6, hq => absurd hq (by omega), fun q => match q with | 0 => W64.of w0 | 1 => W64.of w1 | 2 => W64.of w2 | 3 => W64.of w3 | 4 => W64.of w4 | 5 => W64.of w5 | q + 6 => ⟨by show (-9223372036854775808 : Int) ≤ 0; omega, by show (0 : Int) ≤ 9223372036854775807; omega⟩⟩
    obtain ⟨Z, hZ⟩ := Deep.choose_lt (α := Rec) (p := fun i R => (∀ q, q < 6 → W.cell? (a.add (i * 6 + q)) = some (.int .i64 (R q))) ∧ ∀ q, W64 (R q)) each
    refine ⟨(List.range ll).map Z, ⟨fun x hx => ?_, fun h0 => ?_⟩, by simp, by omega⟩
    · obtain ⟨i, hi, rfl⟩ := List.mem_map.1 hx
      exact (hZ i (by simpa using hi)).2
    · have h0' : 0 < ll := by simpa using h0
      obtain ⟨b, off, spot⟩ := a
      have hspot : spot = none := by simpa [Addr.add] using World.cell?_spot ((hZ 0 h0').1 0 (by omega))
      subst hspot
      refine ⟨b, off, rfl, lt (.cell b off) (List.mem_append.2 (.inl (MemPlace.mem_row.2 ⟨0, by rw [cellsO]; omega, by simp⟩))), fun j hj q hq => ?_⟩
      have hj' : j < ll := by simpa using hj
      have := (hZ j hj').1 q hq
      rw [add_plain, ← Nat.add_assoc] at this
      rw [this]
      simp [List.getD, hj']

/-- Processes that came in. -/
theorem open_q {H : Type} {enc : TypeId × Value → H} {W : World} {al : Option Addr} {ll cl : Nat} {d : DataW H} {p : List MemPlace} (h : DataW.Trod enc Try.prog W 0 (fun _ => true) true 26 (.slice al ll cl) d p) (hw : ∀ n ∈ d.weights Try.prog 26, n ≤ reachBytes) :
    ∃ l, Recs W 10 al l ∧ l.length = ll ∧ ll ≤ 1759218604441 := by
  have lt : ∀ x ∈ p, x.block < W.heap.size := by obtain ⟨m, hm⟩ := h; exact DataW.trod_lt m _ _ _ hm
  obtain ⟨fuel, hf⟩ := h
  rcases Deep.open_slice Try.underlying26 hf with ⟨hcs, _⟩ | ⟨a, l, c, m, n, D, Pl, hcs, _, hl, hm, hmm, hx, hv⟩
  · simp [Value.cells] at hcs
    obtain ⟨rfl, rfl, rfl⟩ := hcs
    exact ⟨[], ⟨fun x hx => (by cases hx), fun h => absurd h (Nat.lt_irrefl 0)⟩, rfl, by omega⟩
  · simp [Value.cells] at hcs
    obtain ⟨rfl, rfl, rfl⟩ := hcs
    simp only [Prod.mk.injEq] at hx
    obtain ⟨rfl, rfl⟩ := hx
    simp only [if_true] at hmm
    have hr := hw _ (by rw [DataW.weights, Try.underlying26]; exact List.mem_cons_self)
    rw [bytesQ] at hr
    simp at hr
    unfold reachBytes at hr
    rw [cellsQ] at hv
    have each : ∀ i, i < ll → ∃ R : Rec, (∀ q, q < 10 → W.cell? (a.add (i * 10 + q)) = some (.int .i64 (R q))) ∧ ∀ q, W64 (R q) := by
      intro i hi
      obtain ⟨cs', h1, h2⟩ := hv i (by omega)
      obtain ⟨_, hlen, hcell⟩ := World.cells?_some h1
      obtain ⟨xs, k, hk, hxy, _, hxl, hf⟩ := DataW.trod_struct Try.underlying34 h2
      match xs, hxl, cs', hlen with
      | [y0, y1, y2, y3, y4], _, [v0, v1, v2, v3, v4, v5, v6, v7, v8, v9], _ =>
        have g0 := hf 0 _ rfl
        have g1 := hf 1 _ rfl
        have g2 := hf 2 _ rfl
        have g3 := hf 3 _ rfl
        have gA := hf 4 _ rfl
        simp [cells3, cellsA] at g0 g1 g2 g3 gA
        obtain ⟨zs, k2, hk2, _, _, hzl, hz⟩ := DataW.trod_array Try.underlying32 gA
        match zs, hzl with
        | [y4, y5, y6, y7, y8, y9], _ =>
        have g4 := hz 0 (by omega)
        have g5 := hz 1 (by omega)
        have g6 := hz 2 (by omega)
        have g7 := hz 3 (by omega)
        have g8 := hz 4 (by omega)
        have g9 := hz 5 (by omega)
        simp [cells3] at g4 g5 g6 g7 g8 g9
        have e0 := hcell 0 (by omega)
        have e1 := hcell 1 (by omega)
        have e2 := hcell 2 (by omega)
        have e3 := hcell 3 (by omega)
        have e4 := hcell 4 (by omega)
        have e5 := hcell 5 (by omega)
        have e6 := hcell 6 (by omega)
        have e7 := hcell 7 (by omega)
        have e8 := hcell 8 (by omega)
        have e9 := hcell 9 (by omega)
        rw [Deep.add_add] at e0 e1 e2 e3 e4 e5 e6 e7 e8 e9
        obtain ⟨x0, r0, _, w0⟩ := DataW.trod_int Try.underlying3 g0
        obtain ⟨x1, r1, _, w1⟩ := DataW.trod_int Try.underlying3 g1
        obtain ⟨x2, r2, _, w2⟩ := DataW.trod_int Try.underlying3 g2
        obtain ⟨x3, r3, _, w3⟩ := DataW.trod_int Try.underlying3 g3
        obtain ⟨x4, r4, _, w4⟩ := DataW.trod_int Try.underlying3 g4
        obtain ⟨x5, r5, _, w5⟩ := DataW.trod_int Try.underlying3 g5
        obtain ⟨x6, r6, _, w6⟩ := DataW.trod_int Try.underlying3 g6
        obtain ⟨x7, r7, _, w7⟩ := DataW.trod_int Try.underlying3 g7
        obtain ⟨x8, r8, _, w8⟩ := DataW.trod_int Try.underlying3 g8
        obtain ⟨x9, r9, _, w9⟩ := DataW.trod_int Try.underlying3 g9
        simp at r0 r1 r2 r3 r4 r5 r6 r7 r8 r9
        subst r0; subst r1; subst r2; subst r3; subst r4; subst r5; subst r6; subst r7; subst r8; subst r9
        exact ⟨fun q => match q with | 0 => x0 | 1 => x1 | 2 => x2 | 3 => x3 | 4 => x4 | 5 => x5 | 6 => x6 | 7 => x7 | 8 => x8 | 9 => x9 | _ => 0, fun q hq => match q, hq with | 0, _ => by simpa using e0 | 1, _ => by simpa using e1 | 2, _ => by simpa using e2 | 3, _ => by simpa using e3 | 4, _ => by simpa using e4 | 5, _ => by simpa using e5 | 6, _ => by simpa using e6 | 7, _ => by simpa using e7 | 8, _ => by simpa using e8 | 9, _ => by simpa using e9 | q + 10, hq => absurd hq (by omega), fun q => match q with | 0 => W64.of w0 | 1 => W64.of w1 | 2 => W64.of w2 | 3 => W64.of w3 | 4 => W64.of w4 | 5 => W64.of w5 | 6 => W64.of w6 | 7 => W64.of w7 | 8 => W64.of w8 | 9 => W64.of w9 | q + 10 => ⟨by show (-9223372036854775808 : Int) ≤ 0; omega, by show (0 : Int) ≤ 9223372036854775807; omega⟩⟩
    obtain ⟨Z, hZ⟩ := Deep.choose_lt (α := Rec) (p := fun i R => (∀ q, q < 10 → W.cell? (a.add (i * 10 + q)) = some (.int .i64 (R q))) ∧ ∀ q, W64 (R q)) each
    refine ⟨(List.range ll).map Z, ⟨fun x hx => ?_, fun h0 => ?_⟩, by simp, by omega⟩
    · obtain ⟨i, hi, rfl⟩ := List.mem_map.1 hx
      exact (hZ i (by simpa using hi)).2
    · have h0' : 0 < ll := by simpa using h0
      obtain ⟨b, off, spot⟩ := a
      have hspot : spot = none := by simpa [Addr.add] using World.cell?_spot ((hZ 0 h0').1 0 (by omega))
      subst hspot
      refine ⟨b, off, rfl, lt (.cell b off) (List.mem_append.2 (.inl (MemPlace.mem_row.2 ⟨0, by rw [cellsQ]; omega, by simp⟩))), fun j hj q hq => ?_⟩
      have hj' : j < ll := by simpa using hj
      have := (hZ j hj').1 q hq
      rw [add_plain, ← Nat.add_assoc] at this
      rw [this]
      simp [List.getD, hj']

/-- Nodes that came in. -/
theorem open_n {H : Type} {enc : TypeId × Value → H} {W : World} {al : Option Addr} {ll cl : Nat} {d : DataW H} {p : List MemPlace} (h : DataW.Trod enc Try.prog W 0 (fun _ => true) true 22 (.slice al ll cl) d p) (hw : ∀ n ∈ d.weights Try.prog 22, n ≤ reachBytes) :
    ∃ l, Nds W al l ∧ l.length = ll ∧ ll ≤ 17592186044416 := by
  have lt : ∀ x ∈ p, x.block < W.heap.size := by obtain ⟨m, hm⟩ := h; exact DataW.trod_lt m _ _ _ hm
  obtain ⟨fuel, hf⟩ := h
  rcases Deep.open_slice Try.underlying22 hf with ⟨hcs, _⟩ | ⟨a, l, c, m, n, D, Pl, hcs, _, hl, hm, hmm, hx, hv⟩
  · simp [Value.cells] at hcs
    obtain ⟨rfl, rfl, rfl⟩ := hcs
    exact ⟨[], ⟨fun x hx => (by cases hx), fun h => absurd h (Nat.lt_irrefl 0)⟩, rfl, by omega⟩
  · simp [Value.cells] at hcs
    obtain ⟨rfl, rfl, rfl⟩ := hcs
    simp only [Prod.mk.injEq] at hx
    obtain ⟨rfl, rfl⟩ := hx
    simp only [if_true] at hmm
    have hr := hw _ (by rw [DataW.weights, Try.underlying22]; exact List.mem_cons_self)
    rw [bytesN] at hr
    simp at hr
    unfold reachBytes at hr
    rw [cellsN] at hv
    have each : ∀ i, i < ll → ∃ R : Nd, (W.cell? (a.add (i * 8)) = some (.int .i64 R.n) ∧ W.cell? (a.add (i * 8 + 1)) = some (.int .i64 R.k) ∧ W.cell? (a.add (i * 8 + 2)) = some (.int .i64 R.l) ∧ W.cell? (a.add (i * 8 + 3)) = some (.int .i64 R.s) ∧ W.cell? (a.add (i * 8 + 4)) = some (.int .i64 R.h) ∧ W.cell? (a.add (i * 8 + 5)) = some (.slice R.ba R.bs.length R.bc) ∧ W.cell? (a.add (i * 8 + 6)) = some (.slice R.na R.nn R.nc) ∧ W.cell? (a.add (i * 8 + 7)) = some (.slice R.oa R.on R.oc)) ∧ R.Ok W := by
      intro i hi
      obtain ⟨cs', h1, h2⟩ := hv i (by omega)
      obtain ⟨_, hlen, hcell⟩ := World.cells?_some h1
      obtain ⟨xs, k, hk, hxy, _, hxl, hf⟩ := DataW.trod_struct Try.underlying47 h2
      match xs, hxl, cs', hlen with
      | [y0, y1, y2, y3, y4, y5, y6, y7], _, [v0, v1, v2, v3, v4, v5, v6, v7], _ =>
        have g0 := hf 0 _ rfl
        have g1 := hf 1 _ rfl
        have g2 := hf 2 _ rfl
        have g3 := hf 3 _ rfl
        have g4 := hf 4 _ rfl
        have g5 := hf 5 _ rfl
        have g6 := hf 6 _ rfl
        have g7 := hf 7 _ rfl
        simp [cells3, cellsI, cellsS] at g0 g1 g2 g3 g4 g5 g6 g7
        have e0 := hcell 0 (by omega)
        have e1 := hcell 1 (by omega)
        have e2 := hcell 2 (by omega)
        have e3 := hcell 3 (by omega)
        have e4 := hcell 4 (by omega)
        have e5 := hcell 5 (by omega)
        have e6 := hcell 6 (by omega)
        have e7 := hcell 7 (by omega)
        rw [Deep.add_add] at e0 e1 e2 e3 e4 e5 e6 e7
        obtain ⟨x0, r0, _, w0⟩ := DataW.trod_int Try.underlying3 g0
        obtain ⟨x1, r1, _, w1⟩ := DataW.trod_int Try.underlying3 g1
        obtain ⟨x2, r2, _, w2⟩ := DataW.trod_int Try.underlying3 g2
        obtain ⟨x3, r3, _, w3⟩ := DataW.trod_int Try.underlying3 g3
        obtain ⟨x4, r4, _, w4⟩ := DataW.trod_int Try.underlying3 g4
        simp at r0 r1 r2 r3 r4
        obtain ⟨ba, bn, bc, bs, r5, p5, q5, s5⟩ := open_li g5
        obtain ⟨na, nn, nc, r6⟩ := open_ls g6
        obtain ⟨oa, on, oc, os, r7, p7, q7, s7⟩ := open_li g7
        subst r0; subst r1; subst r2; subst r3; subst r4; subst r5; subst r6; subst r7
        subst q5
        exact ⟨⟨x0, x1, x2, x3, x4, ba, bs, bc, na, nn, nc, oa, on, oc⟩,
          ⟨by simpa using e0, by simpa using e1, by simpa using e2, by simpa using e3, by simpa using e4, by simpa using e5, by simpa using e6, by simpa using e7⟩,
          ⟨W64.of w0, W64.of w3, p5, s5⟩⟩
    haveI : Inhabited Nd := ⟨nd0⟩
    obtain ⟨Z, hZ⟩ := Deep.choose_lt (α := Nd) (p := fun i R => (W.cell? (a.add (i * 8)) = some (.int .i64 R.n) ∧ W.cell? (a.add (i * 8 + 1)) = some (.int .i64 R.k) ∧ W.cell? (a.add (i * 8 + 2)) = some (.int .i64 R.l) ∧ W.cell? (a.add (i * 8 + 3)) = some (.int .i64 R.s) ∧ W.cell? (a.add (i * 8 + 4)) = some (.int .i64 R.h) ∧ W.cell? (a.add (i * 8 + 5)) = some (.slice R.ba R.bs.length R.bc) ∧ W.cell? (a.add (i * 8 + 6)) = some (.slice R.na R.nn R.nc) ∧ W.cell? (a.add (i * 8 + 7)) = some (.slice R.oa R.on R.oc)) ∧ R.Ok W) each
    refine ⟨(List.range ll).map Z, ⟨fun x hx => ?_, fun h0 => ?_⟩, by simp, by omega⟩
    · obtain ⟨i, hi, rfl⟩ := List.mem_map.1 hx
      exact (hZ i (by simpa using hi)).2
    · have h0' : 0 < ll := by simpa using h0
      obtain ⟨b, off, spot⟩ := a
      have hspot : spot = none := by simpa [Addr.add] using World.cell?_spot (hZ 0 h0').1.1
      subst hspot
      refine ⟨b, off, rfl, lt (.cell b off) (List.mem_append.2 (.inl (MemPlace.mem_row.2 ⟨0, by rw [cellsN]; omega, by simp⟩))), fun j hj => ?_⟩
      have hj' : j < ll := by simpa using hj
      obtain ⟨⟨c0, c1, c2, c3, c4, c5, c6, c7⟩, ok⟩ := hZ j hj'
      rw [add_plain] at c0 c1 c2 c3 c4 c5 c6 c7
      have e : ((List.range ll).map Z).getD j nd0 = Z j := by simp [List.getD, hj']
      rw [e]
      exact ⟨c0, c1, c2, c3, c4, c5, c6, c7⟩

end Go.Proofs.Ytgbikncpmgikaaa
