/- The corpus and what it stands on, merged. -/
import Derived.Test.YtbgommpdmnbplaaGreatDoorRows
import Derived.Test.YtbgommpdmnbplaaGreatDoorCoA20
import Derived.ProofKit
import Derived.OpenShut
import Derived.ShutString
import Derived.ChangeOld
import Derived.SizedLaws
import Derived.Deep.Slices

/- The law's list of calls, opened. -/
namespace Go.Proofs.YtbgommpdmnbplaaGreatDoor
open Go.ChangeShapes Go.WideShapes Go.ChangeAt Go.RowKit Co
set_option linter.unusedVariables false

theorem own : ownKnob Tryz.prog.godebug = none := by kernel_rfl
theorem laidOut : laidOutB Tryz.prog = true := by kernel_rfl
theorem cells3 : Tryz.prog.cellsOf 3 = 1 := by kernel_rfl
theorem cells9 : Tryz.prog.cellsOf 9 = 1 := by kernel_rfl
theorem cellsI : Tryz.prog.cellsOf 35 = 1 := by kernel_rfl
theorem cellsEnt : Tryz.prog.cellsOf 37 = 5 := by kernel_rfl
theorem cellsDo : Tryz.prog.cellsOf 39 = 6 := by kernel_rfl

theorem open_il {H : Type} {enc : TypeId × Value → H} {W : World} {fuel : Nat} {v : Value} {y : DataW H × List MemPlace} (h : DataW.trod enc Tryz.prog W 0 (fun _ => true) true fuel 35 [v] = some y) :
    ∃ (a : Option Addr) (c : Nat) (zs : List Int), v = .slice a zs.length c ∧ Il W [] a zs.length c zs := by
  have lt : ∀ x ∈ y.2, x.block < W.heap.size := DataW.trod_lt _ _ _ _ h
  rcases open_ints Tryz.underlying35 Tryz.underlying3 (by kernel_rfl) h with ⟨hcs, _⟩ | ⟨x, l, c, zs, hcs, _, hl, hm, hz, hx, hcell, hwz⟩
  · simp at hcs
    exact ⟨none, 0, [], hcs, il_nil _ _⟩
  · simp at hcs
    simp only [if_true] at hz
    have hlen : (zs.take l).length = l := by simp; omega
    refine ⟨some x, c, zs.take l, by rw [hlen]; exact hcs, ⟨⟨rfl, fun h0 => ?_, fun h => (by cases h)⟩, by omega, by unfold maxLen at hm; omega, fun _ _ _ _ hx => by simp at hx⟩⟩
    rw [hlen] at h0 ⊢
    obtain ⟨b, off, spot⟩ := x
    have hspot : spot = none := by simpa [Addr.add] using World.cell?_spot (hcell 0 (by omega))
    subst hspot
    refine ⟨b, off, rfl, ?_, fun j hj => ?_⟩
    · have hy : y.2 = _ := congrArg Prod.snd hx
      exact lt (.cell b off) (by rw [hy]; exact MemPlace.mem_row.2 ⟨0, by omega, by simp⟩)
    · rw [← add_plain, hcell j (by omega)]
      simp [List.getD, hj]

set_option maxRecDepth 20000 in
theorem open_do {H : Type} {enc : TypeId × Value → H} {W : World} {fuel : Nat} {cs : List Value} {y : DataW H × List MemPlace} (h2 : DataW.trod enc Tryz.prog W 0 (fun _ => true) true fuel 39 cs = some y) (hlen : cs.length = 6) :
    ∃ (op : Int) (e : Ety) (pa : Option Addr) (pc : Nat) (qa : Option Addr) (qc : Nat), cs = [.int .i64 op, .string e.k, .string e.g, .slice pa e.p.length pc, .int .i64 e.f, .slice qa e.q.length qc] ∧ Il W [] pa e.p.length pc e.p ∧ Il W [] qa e.q.length qc e.q := by
  obtain ⟨xs, k, hk, hxy, _, hxl, hf⟩ := DataW.trod_struct Tryz.underlying39 h2
  match xs, hxl, cs, hlen with
  | [y0, y1], _, [v0, v1, v2, v3, v4, v5], _ =>
    have g0 := hf 0 _ rfl
    have g1 := hf 1 _ rfl
    simp [cells3, cellsEnt] at g0 g1
    obtain ⟨x0, r0, _, _⟩ := DataW.trod_int Tryz.underlying3 g0
    simp at r0
    obtain ⟨zs, k2, hk2, hzy, _, hzl, hz⟩ := DataW.trod_struct Tryz.underlying37 g1
    match zs, hzl with
    | [z0, z1, z2, z3, z4], _ =>
      have e0 := hz 0 _ rfl
      have e1 := hz 1 _ rfl
      have e2 := hz 2 _ rfl
      have e3 := hz 3 _ rfl
      have e4 := hz 4 _ rfl
      simp [cells3, cells9, cellsI] at e0 e1 e2 e3 e4
      obtain ⟨s0, q0, _, _⟩ := DataW.trod_string Tryz.underlying9 e0
      obtain ⟨s1, q1, _, _⟩ := DataW.trod_string Tryz.underlying9 e1
      obtain ⟨pa, pc, ps, q2, hp⟩ := open_il e2
      obtain ⟨x3, q3, _, _⟩ := DataW.trod_int Tryz.underlying3 e3
      obtain ⟨qa, qc, qs, q4, hq⟩ := open_il e4
      simp at q0 q1 q3
      subst r0
      subst q0
      subst q1
      subst q2
      subst q3
      subst q4
      exact ⟨x0, ⟨s0, s1, ps, x3, qs⟩, pa, pc, qa, qc, rfl, hp, hq⟩

set_option maxRecDepth 20000 in
theorem open_dol {H : Type} {enc : TypeId × Value → H} {W : World} {al : Option Addr} {ll cl : Nat} {d : DataW H} {p : List MemPlace}
    (h : DataW.Trod enc Tryz.prog W 0 (fun _ => true) true 23 (.slice al ll cl) d p) :
    Dol W al ll ∧ ll ≤ cl ∧ cl ≤ 9223372036854775807 := by
  have lt : ∀ x ∈ p, x.block < W.heap.size := by obtain ⟨m, hm⟩ := h; exact DataW.trod_lt m _ _ _ hm
  obtain ⟨fuel, hf⟩ := h
  rcases Deep.open_slice Tryz.underlying23 hf with ⟨hcs, _⟩ | ⟨a, l, c, m, n, D, Pl, hcs, _, hl, hm, hmm, hx, hv⟩
  · simp [Value.cells] at hcs
    obtain ⟨rfl, rfl, rfl⟩ := hcs
    exact ⟨fun h => absurd h (Nat.lt_irrefl 0), Nat.le_refl _, by omega⟩
  · simp [Value.cells] at hcs
    obtain ⟨rfl, rfl, rfl⟩ := hcs
    simp only [Prod.mk.injEq] at hx
    obtain ⟨rfl, rfl⟩ := hx
    simp only [if_true] at hmm
    have each : ∀ i, i < ll → ∃ (op : Int) (e : Ety) (pa : Option Addr) (pc : Nat) (qa : Option Addr) (qc : Nat), W.cell? (a.add (i * 6)) = some (.int .i64 op) ∧ W.cell? (a.add (i * 6 + 1)) = some (.string e.k) ∧ W.cell? (a.add (i * 6 + 2)) = some (.string e.g) ∧ W.cell? (a.add (i * 6 + 3)) = some (.slice pa e.p.length pc) ∧ W.cell? (a.add (i * 6 + 4)) = some (.int .i64 e.f) ∧ W.cell? (a.add (i * 6 + 5)) = some (.slice qa e.q.length qc) ∧ Il W [] pa e.p.length pc e.p ∧ Il W [] qa e.q.length qc e.q := by
      intro i hi
      obtain ⟨cs', h1, h2⟩ := hv i (by omega)
      rw [cellsDo] at h1
      obtain ⟨_, hlen, hcell⟩ := World.cells?_some h1
      obtain ⟨op, e, pa, pc, qa, qc, rfl, hp, hq⟩ := open_do h2 hlen
      have e0 := hcell 0 (by omega)
      have e1 := hcell 1 (by omega)
      have e2 := hcell 2 (by omega)
      have e3 := hcell 3 (by omega)
      have e4 := hcell 4 (by omega)
      have e5 := hcell 5 (by omega)
      rw [Deep.add_add] at e0 e1 e2 e3 e4 e5
      exact ⟨op, e, pa, pc, qa, qc, by simpa using e0, by simpa using e1, by simpa using e2, by simpa using e3, by simpa using e4, by simpa using e5, hp, hq⟩
    refine ⟨fun h0 => ?_, hl, by unfold maxLen at hm; omega⟩
    obtain ⟨b, o, spot⟩ := a
    have hspot : spot = none := by
      obtain ⟨x0, _, _, _, _, _, h1, _⟩ := each 0 h0
      simpa [Addr.add] using World.cell?_spot h1
    subst hspot
    have hlt := lt (.cell b o) (List.mem_append.2 (.inl (MemPlace.mem_row.2 ⟨0, by rw [cellsDo]; omega, by simp⟩)))
    refine ⟨b, o, rfl, hlt, fun i hi => ?_⟩
    obtain ⟨op, e, pa, pc, qa, qc, h0, h1, h2, h3, h4, h5, hr⟩ := each i hi
    rw [add_plain] at h0 h1 h2 h3 h4 h5
    exact ⟨op, e, pa, pc, qa, qc, h0, h1, h2, h3, h4, h5, hr⟩
end Go.Proofs.YtbgommpdmnbplaaGreatDoor
