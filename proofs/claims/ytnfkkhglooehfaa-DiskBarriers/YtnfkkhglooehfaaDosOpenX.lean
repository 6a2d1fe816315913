/- A list of a disk's calls, opened. -/
import Derived.Test.YtnfkkhglooehfaaRows
import Derived.Test.YtnfkkhglooehfaaDPlayedX
import Derived.ProofKit
import Derived.OpenShut
import Derived.ShutString
import Derived.ChangeOld
import Derived.SizedLaws
import Derived.Deep.Slices
import Derived.ChangeSame
namespace Go.Proofs.Ytnfkkhglooehfaa
open Go.ChangeShapes Go.WideShapes Go.ChangeAt Go.RowKit
set_option linter.unusedVariables false

theorem own : ownKnob Try.prog.godebug = none := by kernel_rfl
theorem laidOut : laidOutB Try.prog = true := by kernel_rfl
theorem bytesDo : Try.prog.bytesOf 38 = 80 := by kernel_rfl
theorem cellsDo : Try.prog.cellsOf 38 = 6 := by kernel_rfl

/-- Bytes within a datum. -/
theorem open_inner {H : Type} {enc : TypeId × Value → H} {W : World} {fuel : Nat} {v : Value} {y : DataW H × List MemPlace} (h : DataW.trod enc Try.prog W 0 (fun _ => true) true fuel 35 [v] = some y) :
    ∃ (ab : Option Addr) (lb cb : Nat) (zs : List Int), v = .slice ab lb cb ∧ Src W ab lb zs ∧ lb ≤ cb ∧ cb ≤ 9223372036854775807 ∧ (ab = none → lb = 0 ∧ cb = 0) := by
  have lt : ∀ x ∈ y.2, x.block < W.heap.size := DataW.trod_lt fuel _ _ _ h
  rcases open_ints Try.underlying35 Try.underlying5 (by kernel_rfl) h with ⟨hcs, _⟩ | ⟨x, l, c, zs, hcs, _, hl, hm, hz, hx, hcell, hwz⟩
  · simp at hcs
    subst hcs
    exact ⟨none, 0, 0, [], rfl, Src.nil _ _, Nat.le_refl _, by omega, fun _ => ⟨rfl, rfl⟩⟩
  · simp at hcs
    subst hcs
    subst hx
    simp only [if_true] at hz
    refine ⟨some x, l, c, zs.take l, rfl, ⟨by simp; omega, fun h0 => ?_⟩, hl, by unfold maxLen at hm; omega, fun h => by cases h⟩
    obtain ⟨b, off, spot⟩ := x
    have hspot : spot = none := by simpa [Addr.add] using World.cell?_spot (hcell 0 (by omega))
    subst hspot
    refine ⟨b, off, rfl, lt (.cell b off) (MemPlace.mem_row.2 ⟨0, by omega, by simp⟩), fun j hj => ?_⟩
    rw [← add_plain, hcell j (by omega)]
    simp [List.getD, hj]

set_option maxRecDepth 20000 in
theorem open_dos {H : Type} {enc : TypeId × Value → H} {W : World} {al : Option Addr} {ll cl : Nat} {d : DataW H} {p : List MemPlace}
    (h : DataW.Trod enc Try.prog W 0 (fun _ => true) true 22 (.slice al ll cl) d p) :
    Dos W al ll ∧ ll ≤ cl ∧ cl ≤ 9223372036854775807 ∧ ((ll = 0) ∨ ∃ elems spare, d = .slice elems spare ∧ ll ≤ elems.length + spare.length) := by
  have lt : ∀ x ∈ p, x.block < W.heap.size := by obtain ⟨m, hm⟩ := h; exact DataW.trod_lt m _ _ _ hm
  obtain ⟨fuel, hf⟩ := h
  rcases Deep.open_slice Try.underlying22 hf with ⟨hcs, _⟩ | ⟨a, l, c, m, n, D, Pl, hcs, _, hl, hm, hmm, hx, hv⟩
  · simp [Value.cells] at hcs
    obtain ⟨rfl, rfl, rfl⟩ := hcs
    exact ⟨fun h => absurd h (Nat.lt_irrefl 0), Nat.le_refl _, by omega, .inl rfl⟩
  · simp [Value.cells] at hcs
    obtain ⟨rfl, rfl, rfl⟩ := hcs
    simp only [Prod.mk.injEq] at hx
    obtain ⟨rfl, rfl⟩ := hx
    simp only [if_true] at hmm
    have each : ∀ i, i < ll → ∃ (x0 x1 x2 x3 : Int) (ab kb : Option Addr) (lb cb nk ck : Nat) (zs : List Int), W.cell? (a.add (i * 6)) = some (.int .i64 x0) ∧ W.cell? (a.add (i * 6 + 1)) = some (.int .i64 x1) ∧ W.cell? (a.add (i * 6 + 2)) = some (.int .i64 x2) ∧ W.cell? (a.add (i * 6 + 3)) = some (.int .i64 x3) ∧
        W.cell? (a.add (i * 6 + 4)) = some (.slice ab lb cb) ∧ W.cell? (a.add (i * 6 + 5)) = some (.slice kb nk ck) ∧
        (-9223372036854775808 ≤ x0 ∧ x0 ≤ 9223372036854775807) ∧ (-9223372036854775808 ≤ x1 ∧ x1 ≤ 9223372036854775807) ∧ Src W ab lb zs ∧ lb ≤ cb ∧ cb ≤ 9223372036854775807 ∧ (ab = none → lb = 0 ∧ cb = 0) := by
      intro i hi
      obtain ⟨cs', h1, h2⟩ := hv i (by omega)
      rw [cellsDo] at h1
      obtain ⟨_, hlen, hcell⟩ := World.cells?_some h1
      obtain ⟨xs, k, hk, hxy, _, hxl, hf⟩ := DataW.trod_struct Try.underlying38 h2
      match xs, hxl, cs', hlen with
      | [y0, y1, y2, y3, y4, y5], _, [v0, v1, v2, v3, v4, v5], _ =>
        have g0 := hf 0 _ rfl
        have g1 := hf 1 _ rfl
        have g2 := hf 2 _ rfl
        have g3 := hf 3 _ rfl
        have g4 := hf 4 _ rfl
        have g5 := hf 5 _ rfl
        have c3 : Try.prog.cellsOf 3 = 1 := by kernel_rfl
        have cb : Try.prog.cellsOf 35 = 1 := by kernel_rfl
        have ck : Try.prog.cellsOf 36 = 1 := by kernel_rfl
        simp [c3, cb, ck] at g0 g1 g2 g3 g4 g5
        have e0 := hcell 0 (by omega)
        have e1 := hcell 1 (by omega)
        have e2 := hcell 2 (by omega)
        have e3 := hcell 3 (by omega)
        have e4 := hcell 4 (by omega)
        have e5 := hcell 5 (by omega)
        rw [Deep.add_add] at e0 e1 e2 e3 e4 e5
        obtain ⟨x0, r0, _, w0⟩ := DataW.trod_int Try.underlying3 g0
        obtain ⟨x1, r1, _, w1⟩ := DataW.trod_int Try.underlying3 g1
        obtain ⟨x2, r2, _, w2⟩ := DataW.trod_int Try.underlying3 g2
        obtain ⟨x3, r3, _, w3⟩ := DataW.trod_int Try.underlying3 g3
        simp at r0 r1 r2 r3
        obtain ⟨ab, lb, cb', zs, r4, hs, hl1, hl2, hl3⟩ := open_inner g4
        obtain ⟨kb, nk, ck', r5⟩ : ∃ kb nk ck', v5 = .slice kb nk ck' := by
          rcases DataW.trod_slice Try.underlying36 g5 with ⟨h, _⟩ | ⟨a5, l5, c5, _, _, _, _, h, _⟩
          · simp at h; exact ⟨_, _, _, h⟩
          · simp at h; exact ⟨_, _, _, h⟩
        subst r0; subst r1; subst r2; subst r3; subst r4; subst r5
        have b0 := bounds_i64 w0
        have b1 := bounds_i64 w1
        exact ⟨x0, x1, x2, x3, ab, kb, lb, cb', nk, ck', zs, by simpa using e0, by simpa using e1, by simpa using e2, by simpa using e3, by simpa using e4, by simpa using e5, b0, b1, hs, hl1, hl2, hl3⟩
    refine ⟨fun h0 => ?_, hl, by unfold maxLen at hm; omega, .inr ⟨_, _, rfl, by simp⟩⟩
    obtain ⟨b, o, spot⟩ := a
    have hspot : spot = none := by
      obtain ⟨x0, _, _, _, _, _, _, _, _, _, _, h1, _⟩ := each 0 h0
      simpa [Addr.add] using World.cell?_spot h1
    subst hspot
    refine ⟨b, o, rfl, lt (.cell b o) (List.mem_append.2 (.inl (MemPlace.mem_row.2 ⟨0, by rw [cellsDo]; omega, by simp⟩))), fun i hi => ?_⟩
    obtain ⟨x0, x1, x2, x3, ab, kb, lb, cb, nk, ck, zs, h0, h1, h2, h3, h4, h5, rest⟩ := each i hi
    rw [add_plain] at h0 h1 h2 h3 h4 h5
    exact ⟨x0, x1, x2, x3, ab, kb, lb, cb, nk, ck, zs, h0, h1, h2, h3, h4, h5, rest⟩

end Go.Proofs.Ytnfkkhglooehfaa
