/- An argument that came in, opened: its kids, and theirs. -/
import Derived.Test.YtkgejeamcgodhaaGOpen
import Derived.Test.YtkgejeamcgodhaaGArg
namespace Go.Proofs.Ytkgejeamcgodhaa
open Go.ChangeShapes Go.WideShapes Go.ChangeAt Go.RowKit
set_option linter.unusedVariables false
set_option maxRecDepth 20000

theorem Okd.more {w : World} : ∀ (d : Nat) (A : Ar), Okd d w A → ∀ d', d ≤ d' → Okd d' w A
  | 0, _, h, _, _ => h.elim
  | d + 1, A, ⟨h1, h2, h3⟩, d', hd => by
    obtain ⟨e, rfl⟩ : ∃ e, d' = e + 1 := ⟨d' - 1, by omega⟩
    refine ⟨h1, h2, fun h0 => ?_⟩
    obtain ⟨b, o, e1, hl, hc⟩ := h3 h0
    exact ⟨b, o, e1, hl, fun j hj => ⟨(hc j hj).1, Okd.more d _ (hc j hj).2 e (by omega)⟩⟩

theorem cellsA : Try.prog.cellsOf 30 = 4 := by kernel_rfl
theorem cellsAA : Try.prog.cellsOf 27 = 1 := by kernel_rfl
theorem cellsB : Try.prog.cellsOf 28 = 1 := by kernel_rfl

/-- Bytes within a datum. -/
theorem open_lb {H : Type} {enc : TypeId × Value → H} {W : World} {fuel : Nat} {v : Value} {y : DataW H × List MemPlace} (h : DataW.trod enc Try.prog W 0 (fun _ => true) true fuel 28 [v] = some y) :
    ∃ (ab : Option Addr) (lb cb : Nat) (zs : List Int), v = .slice ab lb cb ∧ Src W ab lb zs ∧ lb ≤ cb ∧ cb ≤ 9223372036854775807 := by
  have lt : ∀ x ∈ y.2, x.block < W.heap.size := DataW.trod_lt fuel _ _ _ h
  rcases open_ints Try.underlying28 Try.underlying5 (by kernel_rfl) h with ⟨hcs, _⟩ | ⟨x, l, c, zs, hcs, _, hl, hm, hz, hx, hcell, hwz⟩
  · simp at hcs
    subst hcs
    exact ⟨none, 0, 0, [], rfl, Src.nil _ _, Nat.le_refl _, by omega⟩
  · simp at hcs
    subst hcs
    subst hx
    simp only [if_true] at hz
    refine ⟨some x, l, c, zs.take l, rfl, ⟨by simp; omega, fun h0 => ?_⟩, hl, by unfold maxLen at hm; omega⟩
    obtain ⟨b, off, spot⟩ := x
    have hspot : spot = none := by simpa [Addr.add] using World.cell?_spot (hcell 0 (by omega))
    subst hspot
    refine ⟨b, off, rfl, lt (.cell b off) (MemPlace.mem_row.2 ⟨0, by omega, by simp⟩), fun j hj => ?_⟩
    rw [← add_plain, hcell j (by omega)]
    simp [List.getD, hj]

/-- The cells of an argument. -/
def arC (h : Hd) : List Value := [.int .i64 h.k, .int .i64 h.v, .slice h.ka h.kn h.kc, .slice h.ba h.bn h.bc]

theorem open_ar {H : Type} {enc : TypeId × Value → H} {W : World} : ∀ (fuel : Nat) (cs : List Value) (y : DataW H × List MemPlace), DataW.trod enc Try.prog W 0 (fun _ => true) true fuel 30 cs = some y → ∃ A : Ar, cs = arC A.h ∧ Okd fuel W A := by
  intro fuel
  induction fuel using Nat.strongRecOn with
  | ind fuel ih =>
    intro cs y h
    obtain ⟨xs, k, hk, hxy, hlen, hxl, hf⟩ := DataW.trod_struct Try.underlying30 h
    rw [cellsA] at hlen
    match xs, hxl, cs, hlen with
    | [y0, y1, y2, y3], _, [v0, v1, v2, v3], _ =>
      have g0 := hf 0 _ rfl
      have g1 := hf 1 _ rfl
      have g2 := hf 2 _ rfl
      have g3 := hf 3 _ rfl
      simp [cells3, cellsAA, cellsB] at g0 g1 g2 g3
      obtain ⟨x0, r0, _, w0⟩ := DataW.trod_int Try.underlying3 g0
      obtain ⟨x1, r1, _, w1⟩ := DataW.trod_int Try.underlying3 g1
      simp at r0 r1
      obtain ⟨ba, bn, bc, bs, r3, p3, q3, s3⟩ := open_lb g3
      have lt : ∀ x ∈ y2.2, x.block < W.heap.size := DataW.trod_lt k _ _ _ g2
      subst r0; subst r1; subst r3
      rcases DataW.trod_slice Try.underlying27 g2 with ⟨hcs, _⟩ | ⟨a, len, cap, elems, rest, n, hkn, hcs, hx2, hb, hl, hm, hel, hev, _, _⟩
      · simp at hcs
        subst hcs
        refine ⟨.mk ⟨x0, x1, none, 0, 0, ba, bn, bc, bs⟩ [], rfl, ?_⟩
        rw [hk]
        exact ⟨⟨p3, q3, s3, Nat.le_refl _, by show 0 ≤ _; omega⟩, rfl, fun h => absurd h (Nat.lt_irrefl 0)⟩
      · simp at hcs
        subst hcs
        rw [cellsA] at hev
        have each : ∀ i, i < len → ∃ B : Ar, (∀ t, t < 4 → W.cell? (a.add (i * 4 + t)) = (arC B.h)[t]?) ∧ Okd n W B := by
          intro i hi
          have key := hev i hi
          rw [List.getElem?_eq_getElem (by omega)] at key
          obtain ⟨cs', h1, h2⟩ := Option.bind_eq_some_iff.1 key
          obtain ⟨_, hlen', hcell⟩ := World.cells?_some h1
          obtain ⟨B, rfl, hB⟩ := ih n (by omega) cs' _ h2
          refine ⟨B, fun t ht => ?_, hB⟩
          rw [← Deep.add_add, hcell t ht]
        haveI : Inhabited Ar := ⟨.mk ⟨0, 0, none, 0, 0, none, 0, 0, []⟩ []⟩
        obtain ⟨Z, hZ⟩ := Deep.choose_lt (α := Ar) (p := fun i B => (∀ t, t < 4 → W.cell? (a.add (i * 4 + t)) = (arC B.h)[t]?) ∧ Okd n W B) each
        refine ⟨.mk ⟨x0, x1, some a, len, cap, ba, bn, bc, bs⟩ ((List.range len).map Z), rfl, ?_⟩
        rw [hk]
        refine ⟨⟨p3, q3, s3, hl, by show cap ≤ _; unfold maxLen at hm; omega⟩, by simp [Ar.ks, Ar.h], fun h0 => ?_⟩
        have h0' : 0 < len := by simpa [Ar.ks] using h0
        obtain ⟨b, off, spot⟩ := a
        have hspot : spot = none := by
          have := (hZ 0 h0').1 0 (by omega)
          simp only [arC, List.getElem?_cons_zero] at this
          simpa [Addr.add] using World.cell?_spot this
        subst hspot
        rw [hx2] at lt
        refine ⟨b, off, rfl, lt (.cell b off) (List.mem_append.2 (.inl (MemPlace.mem_row.2 ⟨0, by rw [cellsA]; omega, by simp⟩))), fun j hj => ?_⟩
        have hj' : j < len := by simpa [Ar.ks] using hj
        obtain ⟨hc, ho⟩ := hZ j hj'
        have e : (Ar.mk ⟨x0, x1, some ⟨b, off, none⟩, len, cap, ba, bn, bc, bs⟩ ((List.range len).map Z)).ks[j] = Z j := by simp [Ar.ks]
        rw [e]
        have f := fun t ht => (hc t ht)
        simp only [add_plain] at f
        refine ⟨⟨?_, ?_, ?_, ?_⟩, Okd.more n _ ho k (by omega)⟩
        · simpa [arC] using f 0 (by omega)
        · have := f 1 (by omega)
          simp only [arC, List.getElem?_cons_succ, List.getElem?_cons_zero] at this
          rw [← this]; congr 2
        · have := f 2 (by omega)
          simp only [arC, List.getElem?_cons_succ, List.getElem?_cons_zero] at this
          rw [← this]; congr 2
        · have := f 3 (by omega)
          simp only [arC, List.getElem?_cons_succ, List.getElem?_cons_zero] at this
          rw [← this]; congr 2

end Go.Proofs.Ytkgejeamcgodhaa
