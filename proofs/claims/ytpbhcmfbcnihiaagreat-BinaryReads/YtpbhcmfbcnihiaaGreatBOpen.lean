/- Executed programs that came in, opened. -/
import Derived.Test.YtpbhcmfbcnihiaaGreatRows
import Derived.Test.YtpbhcmfbcnihiaaGreatBEnc
import Derived.ProofKit
import Derived.OpenShut
import Derived.ShutString
import Derived.ChangeOld
import Derived.SizedLaws
import Derived.Deep.Slices
import Derived.Deep.Strs
import Derived.ChangeSame
namespace Go.Proofs.YtpbhcmfbcnihiaaGreat
open Go.ChangeShapes Go.WideShapes Go.ChangeAt Go.RowKit Num
set_option linter.unusedVariables false
set_option maxRecDepth 20000

theorem own : ownKnob Tryz.prog.godebug = none := by kernel_rfl
theorem laidOut : laidOutB Tryz.prog = true := by kernel_rfl
theorem cells3 : Tryz.prog.cellsOf 3 = 1 := by kernel_rfl
theorem cellsB : Tryz.prog.cellsOf 23 = 1 := by kernel_rfl
theorem cellsW : Tryz.prog.cellsOf 53 = 2 := by kernel_rfl
theorem cellsC : Tryz.prog.cellsOf 50 = 5 := by kernel_rfl
theorem cellsX : Tryz.prog.cellsOf 48 = 3 := by kernel_rfl
theorem cellsWs : Tryz.prog.cellsOf 46 = 1 := by kernel_rfl
theorem cellsCs : Tryz.prog.cellsOf 45 = 1 := by kernel_rfl

/-- Any block. -/
abbrev An : Nat → Prop := fun _ => True

theorem open_lb {H : Type} {enc : TypeId × Value → H} {W : World} {fuel : Nat} {v : Value} {y : DataW H × List MemPlace} (h : DataW.trod enc Tryz.prog W 0 (fun _ => true) true fuel 23 [v] = some y) :
    ∃ (ab : Option Addr) (lb cb : Nat) (zs : List Int), v = .slice ab lb cb ∧ Src W ab lb zs ∧ lb ≤ cb ∧ cb ≤ 9223372036854775807 ∧ Bytes zs := by
  have lt : ∀ x ∈ y.2, x.block < W.heap.size := DataW.trod_lt fuel _ _ _ h
  rcases open_ints Tryz.underlying23 Tryz.underlying5 (by kernel_rfl) h with ⟨hcs, _⟩ | ⟨x, l, c, zs, hcs, _, hl, hm, hz, hx, hcell, hwz⟩
  · simp at hcs
    subst hcs
    exact ⟨none, 0, 0, [], rfl, Src.nil _ _, Nat.le_refl _, by omega, Bytes.nil⟩
  · simp at hcs
    subst hcs
    subst hx
    simp only [if_true] at hz
    refine ⟨some x, l, c, zs.take l, rfl, ⟨by simp; omega, fun h0 => ?_⟩, hl, by unfold maxLen at hm; omega, fun z hz' => ?_⟩
    · obtain ⟨b, off, spot⟩ := x
      have hspot : spot = none := by simpa [Addr.add] using World.cell?_spot (hcell 0 (by omega))
      subst hspot
      refine ⟨b, off, rfl, lt (.cell b off) (MemPlace.mem_row.2 ⟨0, by omega, by simp⟩), fun j hj => ?_⟩
      rw [← add_plain, hcell j (by omega)]
      simp [List.getD, hj]
    · have := bounds_u8 (hwz z (List.mem_of_mem_take hz'))
      omega

theorem open_wds {H : Type} {enc : TypeId × Value → H} {W : World} {fuel : Nat} {v : Value} {y : DataW H × List MemPlace} (h : DataW.trod enc Tryz.prog W 0 (fun _ => true) true fuel 46 [v] = some y) :
    ∃ (a : Option Addr) (n c : Nat) (l : List Wd), v = .slice a n c ∧ Lies 2 WdAt An W a l ∧ l.length = n ∧ n ≤ c ∧ c ≤ 9223372036854775807 := by
  have lt : ∀ x ∈ y.2, x.block < W.heap.size := DataW.trod_lt fuel _ _ _ h
  rcases Deep.open_slice Tryz.underlying46 h with ⟨hcs, _⟩ | ⟨a, l, c, m, n, D, Pl, hcs, _, hl, hm, hmm, hx, hv⟩
  · simp at hcs
    subst hcs
    exact ⟨none, 0, 0, [], rfl, fun h => absurd h (Nat.lt_irrefl 0), rfl, Nat.le_refl _, by omega⟩
  · simp at hcs
    subst hcs
    subst hx
    simp only [if_true] at hmm
    rw [cellsW] at hv
    have each : ∀ i, i < l → ∃ T : Wd, W.cell? (a.add (i * 2)) = some (.int .i64 T.r) ∧ W.cell? (a.add (i * 2 + 1)) = some (.int .i64 T.v) := by
      intro i hi
      obtain ⟨cs', h1, h2⟩ := hv i (by omega)
      obtain ⟨_, hlen, hcell⟩ := World.cells?_some h1
      obtain ⟨xs, k, hk, hxy, _, hxl, hf⟩ := DataW.trod_struct Tryz.underlying53 h2
      match xs, hxl, cs', hlen with
      | [y0, y1], _, [v0, v1], _ =>
        have g0 := hf 0 _ rfl
        have g1 := hf 1 _ rfl
        simp [cells3] at g0 g1
        have e0 := hcell 0 (by omega)
        have e1 := hcell 1 (by omega)
        rw [Deep.add_add] at e0 e1
        obtain ⟨x0, r0, _, w0⟩ := DataW.trod_int Tryz.underlying3 g0
        obtain ⟨x1, r1, _, w1⟩ := DataW.trod_int Tryz.underlying3 g1
        simp at r0 r1
        subst r0; subst r1
        exact ⟨⟨x0, x1⟩, by simpa using e0, by simpa using e1⟩
    haveI : Inhabited Wd := ⟨zW⟩
    obtain ⟨Z, hZ⟩ := Deep.choose_lt (α := Wd) (p := fun i T => W.cell? (a.add (i * 2)) = some (.int .i64 T.r) ∧ W.cell? (a.add (i * 2 + 1)) = some (.int .i64 T.v)) each
    refine ⟨some a, l, c, (List.range l).map Z, rfl, fun h0 => ?_, by simp, hl, by unfold maxLen at hm; omega⟩
    have h0' : 0 < l := by simpa using h0
    obtain ⟨b, off, spot⟩ := a
    have hspot : spot = none := by simpa [Addr.add] using World.cell?_spot (hZ 0 h0').1
    subst hspot
    have hlt := lt (.cell b off) (List.mem_append.2 (.inl (MemPlace.mem_row.2 ⟨0, by rw [cellsW]; omega, by simp⟩)))
    refine ⟨b, off, rfl, trivial, hlt, fun j hj => ?_⟩
    have hj' : j < l := by simpa using hj
    obtain ⟨c0, c1⟩ := hZ j hj'
    rw [add_plain] at c0 c1
    simp only [List.getElem_map, List.getElem_range]
    exact ⟨⟨trivial, hlt, c0⟩, ⟨trivial, hlt, c1⟩⟩

theorem open_cps {H : Type} {enc : TypeId × Value → H} {W : World} {fuel : Nat} {v : Value} {y : DataW H × List MemPlace} (h : DataW.trod enc Tryz.prog W 0 (fun _ => true) true fuel 45 [v] = some y) :
    ∃ (a : Option Addr) (n c : Nat) (l : List Cp), v = .slice a n c ∧ Lies 5 CpAt An W a l ∧ l.length = n ∧ n ≤ c ∧ c ≤ 9223372036854775807 ∧ ∀ x ∈ l, Bytes x.bs := by
  have lt : ∀ x ∈ y.2, x.block < W.heap.size := DataW.trod_lt fuel _ _ _ h
  rcases Deep.open_slice Tryz.underlying45 h with ⟨hcs, _⟩ | ⟨a, l, c, m, n, D, Pl, hcs, _, hl, hm, hmm, hx, hv⟩
  · simp at hcs
    subst hcs
    exact ⟨none, 0, 0, [], rfl, fun h => absurd h (Nat.lt_irrefl 0), rfl, Nat.le_refl _, by omega, fun x hx => by cases hx⟩
  · simp at hcs
    subst hcs
    subst hx
    simp only [if_true] at hmm
    rw [cellsC] at hv
    have each : ∀ i, i < l → ∃ T : Cp, W.cell? (a.add (i * 5)) = some (.int .i64 T.a) ∧ W.cell? (a.add (i * 5 + 1)) = some (.int .i64 T.r) ∧ W.cell? (a.add (i * 5 + 2)) = some (.int .i64 T.s) ∧ W.cell? (a.add (i * 5 + 3)) = some (.int .i64 T.v) ∧ (∃ ab lb cb, W.cell? (a.add (i * 5 + 4)) = some (.slice ab lb cb) ∧ Src W ab lb T.bs ∧ lb ≤ cb ∧ cb ≤ 9223372036854775807) ∧ Bytes T.bs := by
      intro i hi
      obtain ⟨cs', h1, h2⟩ := hv i (by omega)
      obtain ⟨_, hlen, hcell⟩ := World.cells?_some h1
      obtain ⟨xs, k, hk, hxy, _, hxl, hf⟩ := DataW.trod_struct Tryz.underlying50 h2
      match xs, hxl, cs', hlen with
      | [y0, y1, y2, y3, y4], _, [v0, v1, v2, v3, v4], _ =>
        have g0 := hf 0 _ rfl
        have g1 := hf 1 _ rfl
        have g2 := hf 2 _ rfl
        have g3 := hf 3 _ rfl
        have g4 := hf 4 _ rfl
        simp [cells3, cellsB] at g0 g1 g2 g3 g4
        have e0 := hcell 0 (by omega)
        have e1 := hcell 1 (by omega)
        have e2 := hcell 2 (by omega)
        have e3 := hcell 3 (by omega)
        have e4 := hcell 4 (by omega)
        rw [Deep.add_add] at e0 e1 e2 e3 e4
        obtain ⟨x0, r0, _, w0⟩ := DataW.trod_int Tryz.underlying3 g0
        obtain ⟨x1, r1, _, w1⟩ := DataW.trod_int Tryz.underlying3 g1
        obtain ⟨x2, r2, _, w2⟩ := DataW.trod_int Tryz.underlying3 g2
        obtain ⟨x3, r3, _, w3⟩ := DataW.trod_int Tryz.underlying3 g3
        simp at r0 r1 r2 r3
        obtain ⟨ab, lb, cb, zs, r4, p4, q4, s4, t4⟩ := open_lb g4
        subst r0; subst r1; subst r2; subst r3; subst r4
        exact ⟨⟨x0, x1, x2, x3, zs⟩, by simpa using e0, by simpa using e1, by simpa using e2, by simpa using e3, ⟨ab, lb, cb, by simpa using e4, p4, q4, s4⟩, t4⟩
    haveI : Inhabited Cp := ⟨zC⟩
    obtain ⟨Z, hZ⟩ := Deep.choose_lt (α := Cp) (p := fun i T => W.cell? (a.add (i * 5)) = some (.int .i64 T.a) ∧ W.cell? (a.add (i * 5 + 1)) = some (.int .i64 T.r) ∧ W.cell? (a.add (i * 5 + 2)) = some (.int .i64 T.s) ∧ W.cell? (a.add (i * 5 + 3)) = some (.int .i64 T.v) ∧ (∃ ab lb cb, W.cell? (a.add (i * 5 + 4)) = some (.slice ab lb cb) ∧ Src W ab lb T.bs ∧ lb ≤ cb ∧ cb ≤ 9223372036854775807) ∧ Bytes T.bs) each
    refine ⟨some a, l, c, (List.range l).map Z, rfl, fun h0 => ?_, by simp, hl, by unfold maxLen at hm; omega, fun x hx => ?_⟩
    · have h0' : 0 < l := by simpa using h0
      obtain ⟨b, off, spot⟩ := a
      have hspot : spot = none := by simpa [Addr.add] using World.cell?_spot (hZ 0 h0').1
      subst hspot
      have hlt := lt (.cell b off) (List.mem_append.2 (.inl (MemPlace.mem_row.2 ⟨0, by rw [cellsC]; omega, by simp⟩)))
      refine ⟨b, off, rfl, trivial, hlt, fun j hj => ?_⟩
      have hj' : j < l := by simpa using hj
      obtain ⟨c0, c1, c2, c3, ⟨ab, lb, cb, c4, p4, q4, s4⟩, _⟩ := hZ j hj'
      rw [add_plain] at c0 c1 c2 c3 c4
      simp only [List.getElem_map, List.getElem_range]
      exact ⟨⟨trivial, hlt, c0⟩, ⟨trivial, hlt, c1⟩, ⟨trivial, hlt, c2⟩, ⟨trivial, hlt, c3⟩, ⟨trivial, hlt, ab, lb, cb, c4, p4, fun _ _ _ _ => trivial, q4, s4⟩⟩
    · obtain ⟨i, hi, rfl⟩ := List.mem_map.1 hx
      exact (hZ i (by simpa using hi)).2.2.2.2.2

theorem open_exs {H : Type} {enc : TypeId × Value → H} {W : World} {fuel : Nat} {v : Value} {y : DataW H × List MemPlace} (h : DataW.trod enc Tryz.prog W 0 (fun _ => true) true fuel 22 [v] = some y) :
    ∃ (a : Option Addr) (n c : Nat) (l : List Ex), v = .slice a n c ∧ Lies 3 ExAt An W a l ∧ l.length = n ∧ n ≤ c ∧ c ≤ 9223372036854775807 ∧ ByP l := by
  have lt : ∀ x ∈ y.2, x.block < W.heap.size := DataW.trod_lt fuel _ _ _ h
  rcases Deep.open_slice Tryz.underlying22 h with ⟨hcs, _⟩ | ⟨a, l, c, m, n, D, Pl, hcs, _, hl, hm, hmm, hx, hv⟩
  · simp at hcs
    subst hcs
    exact ⟨none, 0, 0, [], rfl, fun h => absurd h (Nat.lt_irrefl 0), rfl, Nat.le_refl _, by omega, fun x hx => by cases hx⟩
  · simp at hcs
    subst hcs
    subst hx
    simp only [if_true] at hmm
    rw [cellsX] at hv
    have each : ∀ i, i < l → ∃ T : Ex, W.cell? (a.add (i * 3)) = some (.int .i64 T.n) ∧ (∃ ab lb cb, W.cell? (a.add (i * 3 + 1)) = some (.slice ab lb cb) ∧ Lies 5 CpAt An W ab T.cs ∧ T.cs.length = lb ∧ lb ≤ cb ∧ cb ≤ 9223372036854775807) ∧ (∃ ab lb cb, W.cell? (a.add (i * 3 + 2)) = some (.slice ab lb cb) ∧ Lies 2 WdAt An W ab T.ws ∧ T.ws.length = lb ∧ lb ≤ cb ∧ cb ≤ 9223372036854775807) ∧ ∀ x ∈ T.cs, Bytes x.bs := by
      intro i hi
      obtain ⟨cs', h1, h2⟩ := hv i (by omega)
      obtain ⟨_, hlen, hcell⟩ := World.cells?_some h1
      obtain ⟨xs, k, hk, hxy, _, hxl, hf⟩ := DataW.trod_struct Tryz.underlying48 h2
      match xs, hxl, cs', hlen with
      | [y0, y1, y2], _, [v0, v1, v2], _ =>
        have g0 := hf 0 _ rfl
        have g1 := hf 1 _ rfl
        have g2 := hf 2 _ rfl
        simp [cells3, cellsCs, cellsWs] at g0 g1 g2
        have e0 := hcell 0 (by omega)
        have e1 := hcell 1 (by omega)
        have e2 := hcell 2 (by omega)
        rw [Deep.add_add] at e0 e1 e2
        obtain ⟨x0, r0, _, w0⟩ := DataW.trod_int Tryz.underlying3 g0
        simp at r0
        obtain ⟨ca, cn, cc, cl, r1, p1, q1, s1, t1, u1⟩ := open_cps g1
        obtain ⟨wa, wn, wc, wl, r2, p2, q2, s2, t2⟩ := open_wds g2
        subst r0; subst r1; subst r2
        exact ⟨⟨x0, cl, wl⟩, by simpa using e0, ⟨ca, cn, cc, by simpa using e1, p1, q1, s1, t1⟩, ⟨wa, wn, wc, by simpa using e2, p2, q2, s2, t2⟩, u1⟩
    haveI : Inhabited Ex := ⟨zX⟩
    obtain ⟨Z, hZ⟩ := Deep.choose_lt (α := Ex) (p := fun i T => W.cell? (a.add (i * 3)) = some (.int .i64 T.n) ∧ (∃ ab lb cb, W.cell? (a.add (i * 3 + 1)) = some (.slice ab lb cb) ∧ Lies 5 CpAt An W ab T.cs ∧ T.cs.length = lb ∧ lb ≤ cb ∧ cb ≤ 9223372036854775807) ∧ (∃ ab lb cb, W.cell? (a.add (i * 3 + 2)) = some (.slice ab lb cb) ∧ Lies 2 WdAt An W ab T.ws ∧ T.ws.length = lb ∧ lb ≤ cb ∧ cb ≤ 9223372036854775807) ∧ ∀ x ∈ T.cs, Bytes x.bs) each
    refine ⟨some a, l, c, (List.range l).map Z, rfl, fun h0 => ?_, by simp, hl, by unfold maxLen at hm; omega, fun x hx => ?_⟩
    · have h0' : 0 < l := by simpa using h0
      obtain ⟨b, off, spot⟩ := a
      have hspot : spot = none := by simpa [Addr.add] using World.cell?_spot (hZ 0 h0').1
      subst hspot
      have hlt := lt (.cell b off) (List.mem_append.2 (.inl (MemPlace.mem_row.2 ⟨0, by rw [cellsX]; omega, by simp⟩)))
      refine ⟨b, off, rfl, trivial, hlt, fun j hj => ?_⟩
      have hj' : j < l := by simpa using hj
      obtain ⟨c0, ⟨ca, cn, cc, c1, p1, q1, s1, t1⟩, ⟨wa, wn, wc, c2, p2, q2, s2, t2⟩, _⟩ := hZ j hj'
      rw [add_plain] at c0 c1 c2
      simp only [List.getElem_map, List.getElem_range]
      exact ⟨⟨trivial, hlt, c0⟩, ⟨trivial, hlt, ca, cn, cc, c1, q1, s1, t1, fun h => p1 (by omega)⟩, ⟨trivial, hlt, wa, wn, wc, c2, q2, s2, t2, fun h => p2 (by omega)⟩⟩
    · obtain ⟨i, hi, rfl⟩ := List.mem_map.1 hx
      exact (hZ i (by simpa using hi)).2.2.2

end Go.Proofs.YtpbhcmfbcnihiaaGreat
