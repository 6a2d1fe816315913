/- Texts of this seat, merged. -/
import Derived.Test.YtbglhmcahnkbfaaGreatRows
import Derived.Test.YtbglhmcahnkbfaaGreatHMg1
import Derived.Test.YtbglhmcahnkbfaaGreatHMg3
import Derived.Deep.Slices
import Derived.ChangeSame

/- A list of calls of processes, as it lies, and opened. -/
namespace Go.Proofs.YtbglhmcahnkbfaaGreat
open Go.ChangeShapes Go.WideShapes Go.ChangeAt Go.RowKit Lend
set_option linter.unusedVariables false

/-- Calls as they lie, four numbers each. -/
def Dos9 (w : World) (al : Option Addr) (ll : Nat) : Prop :=
  0 < ll → ∃ b o, al = some ⟨b, o, none⟩ ∧ b < w.heap.size ∧ ∀ i, i < ll → ∃ x0 x1 x2 x3 : Int, w.cell? ⟨b, o + i * 4, none⟩ = some (.int .i64 x0) ∧ w.cell? ⟨b, o + i * 4 + 1, none⟩ = some (.int .i64 x1) ∧ w.cell? ⟨b, o + i * 4 + 2, none⟩ = some (.int .i64 x2) ∧ w.cell? ⟨b, o + i * 4 + 3, none⟩ = some (.int .i64 x3)

theorem cellsDo9 : Tryz.prog.cellsOf 26 = 4 := by kernel_rfl

set_option maxRecDepth 20000 in
theorem open_dos9 {H : Type} {enc : TypeId × Value → H} {W : World} {al : Option Addr} {ll cl : Nat} {d : DataW H} {p : List MemPlace}
    (h : DataW.Trod enc Tryz.prog W 0 (fun _ => true) true 22 (.slice al ll cl) d p) :
    Dos9 W al ll ∧ ll ≤ cl ∧ cl ≤ 9223372036854775807 := by
  have lt : ∀ x ∈ p, x.block < W.heap.size := by obtain ⟨m, hm⟩ := h; exact DataW.trod_lt m _ _ _ hm
  obtain ⟨fuel, hf⟩ := h
  rcases Deep.open_slice Tryz.underlying22 hf with ⟨hcs, _⟩ | ⟨a, l, c, m, n, D, Pl, hcs, _, hl, hm, hmm, hx, hv⟩
  · simp [Value.cells] at hcs
    obtain ⟨rfl, rfl, rfl⟩ := hcs
    exact ⟨fun h => absurd h (Nat.lt_irrefl 0), Nat.le_refl _, by omega⟩
  · simp [Value.cells] at hcs
    obtain ⟨rfl, rfl, rfl⟩ := hcs
    simp only [Prod.mk.injEq] at hx
    obtain ⟨rfl, rfl⟩ := hx
    simp only [if_true] at hmm
    have each : ∀ i, i < ll → ∃ x0 x1 x2 x3 : Int, W.cell? (a.add (i * 4)) = some (.int .i64 x0) ∧ W.cell? (a.add (i * 4 + 1)) = some (.int .i64 x1) ∧ W.cell? (a.add (i * 4 + 2)) = some (.int .i64 x2) ∧ W.cell? (a.add (i * 4 + 3)) = some (.int .i64 x3) := by
      intro i hi
      obtain ⟨cs', h1, h2⟩ := hv i (by omega)
      rw [cellsDo9] at h1
      obtain ⟨_, hlen, hcell⟩ := World.cells?_some h1
      obtain ⟨xs, k, hk, hxy, _, hxl, hf⟩ := DataW.trod_struct Tryz.underlying26 h2
      match xs, hxl, cs', hlen with
      | [y0, y1, y2, y3], _, [v0, v1, v2, v3], _ =>
        have g0 := hf 0 _ rfl
        have g1 := hf 1 _ rfl
        have g2 := hf 2 _ rfl
        have g3 := hf 3 _ rfl
        have c3 : Tryz.prog.cellsOf 3 = 1 := by kernel_rfl
        simp [c3] at g0 g1 g2 g3
        have e0 := hcell 0 (by omega)
        have e1 := hcell 1 (by omega)
        have e2 := hcell 2 (by omega)
        have e3 := hcell 3 (by omega)
        rw [Deep.add_add] at e0 e1 e2 e3
        obtain ⟨x0, r0, _, w0⟩ := DataW.trod_int Tryz.underlying3 g0
        obtain ⟨x1, r1, _, w1⟩ := DataW.trod_int Tryz.underlying3 g1
        obtain ⟨x2, r2, _, w2⟩ := DataW.trod_int Tryz.underlying3 g2
        obtain ⟨x3, r3, _, w3⟩ := DataW.trod_int Tryz.underlying3 g3
        simp at r0 r1 r2 r3
        subst r0; subst r1; subst r2; subst r3
        exact ⟨x0, x1, x2, x3, by simpa using e0, by simpa using e1, by simpa using e2, by simpa using e3⟩
    refine ⟨fun h0 => ?_, hl, by unfold maxLen at hm; omega⟩
    obtain ⟨b, o, spot⟩ := a
    have hspot : spot = none := by
      obtain ⟨x0, _, _, _, h1, _⟩ := each 0 h0
      simpa [Addr.add] using World.cell?_spot h1
    subst hspot
    have hlt := lt (.cell b o) (List.mem_append.2 (.inl (MemPlace.mem_row.2 ⟨0, by rw [cellsDo9]; omega, by simp⟩)))
    refine ⟨b, o, rfl, hlt, fun i hi => ?_⟩
    obtain ⟨x0, x1, x2, x3, h0, h1, h2, h3⟩ := each i hi
    rw [add_plain] at h0 h1 h2 h3
    exact ⟨x0, x1, x2, x3, h0, h1, h2, h3⟩

end Go.Proofs.YtbglhmcahnkbfaaGreat
