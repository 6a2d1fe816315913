/- Programs that came in, opened: the calls of their steps, and how many there can be where what came in is not too great. -/
import Derived.Test.YtmieoihjgckfhaaWOpenB
import Derived.Test.YtmieoihjgckfhaaWWeigh2
namespace Go.Proofs.Ytmieoihjgckfhaa
open Go.ChangeShapes Go.WideShapes Go.ChangeAt Go.RowKit
set_option linter.unusedVariables false
set_option maxRecDepth 20000

theorem cellsSt : Try.prog.cellsOf 80 = 2 := by kernel_rfl
theorem cellsAs : Try.prog.cellsOf 78 = 1 := by kernel_rfl
theorem cellsPg : Try.prog.cellsOf 70 = 1 := by kernel_rfl

/-- Steps within a datum. -/
theorem open_sts {H : Type} {enc : TypeId × Value → H} {W : World} {fuel : Nat} {v : Value} {y : DataW H × List MemPlace} (h : DataW.trod enc Try.prog W 0 (fun _ => true) true fuel 70 [v] = some y) :
    ∃ (a : Option Addr) (n c : Nat) (ks : List Int), v = .slice a n c ∧ Sts W a n ks ∧ n ≤ Rows.uptoBulk y.1 := by
  have lt : ∀ x ∈ y.2, x.block < W.heap.size := DataW.trod_lt fuel _ _ _ h
  rcases Deep.open_slice Try.underlying70 h with ⟨hcs, _⟩ | ⟨a, l, c, m, n, D, Pl, hcs, _, hl, hm, hmm, hx, hv⟩
  · simp at hcs
    subst hcs
    exact ⟨none, 0, 0, [], rfl, ⟨rfl, fun h => absurd h (Nat.lt_irrefl 0)⟩, Nat.zero_le _⟩
  · simp at hcs
    subst hcs
    subst hx
    simp only [if_true] at hmm
    rw [cellsSt] at hv
    have each : ∀ i, i < l → ∃ z : Int, W.cell? (a.add (i * 2)) = some (.int .i64 z) ∧ ∃ x y z', W.cell? (a.add (i * 2 + 1)) = some (.slice x y z') := by
      intro i hi
      obtain ⟨cs', h1, h2⟩ := hv i (by omega)
      obtain ⟨_, hlen, hcell⟩ := World.cells?_some h1
      obtain ⟨y0, y1, k, hxy, _, g0, g1⟩ := trod_struct2 Try.underlying80 h2
      match cs', hlen with
      | [v0, v1], _ =>
        simp [cells3, cellsAs] at g0 g1
        have e0 := hcell 0 (by omega)
        have e1 := hcell 1 (by omega)
        rw [Deep.add_add] at e0 e1
        obtain ⟨x0, r0, _, _⟩ := DataW.trod_int Try.underlying3 g0
        simp at r0
        subst r0
        refine ⟨x0, by simpa using e0, ?_⟩
        rcases DataW.trod_slice Try.underlying78 g1 with ⟨q, _⟩ | ⟨a', len, cap, elems, rest, n', _, q, _⟩
        · simp at q
          subst q
          exact ⟨none, 0, 0, by simpa using e1⟩
        · simp at q
          subst q
          exact ⟨some a', len, cap, by simpa using e1⟩
    obtain ⟨Z, hZ⟩ := Deep.choose_lt (α := Int) (p := fun i z => W.cell? (a.add (i * 2)) = some (.int .i64 z) ∧ ∃ x y z', W.cell? (a.add (i * 2 + 1)) = some (.slice x y z')) each
    refine ⟨some a, l, c, (List.range l).map Z, rfl, ⟨by simp, fun h0 => ?_⟩, by simpa using slice_le ((List.range l).map D) _⟩
    obtain ⟨b, off, spot⟩ := a
    have hspot : spot = none := by simpa [Addr.add] using World.cell?_spot (hZ 0 h0).1
    subst hspot
    refine ⟨b, off, rfl, lt (.cell b off) (List.mem_append.2 (.inl (MemPlace.mem_row.2 ⟨0, by rw [cellsSt]; omega, by simp⟩))), fun j hj => ?_⟩
    obtain ⟨z1, x, y, z, z2⟩ := hZ j hj
    rw [add_plain] at z1 z2
    exact ⟨by rw [z1]; simp [List.getD, hj], x, y, z, by rw [← z2]; congr 2⟩

/-- Programs that came in. -/
theorem open_prs {H : Type} {enc : TypeId × Value → H} {W : World} {a : Option Addr} {n c : Nat} {d : DataW H} {p : List MemPlace} (h : DataW.Trod enc Try.prog W 0 (fun _ => true) true 35 (.slice a n c) d p) :
    ∃ P : List (List Int), Prs W a n P ∧ n ≤ Rows.uptoBulk d ∧ ∀ q ∈ P, q.length ≤ Rows.uptoBulk d := by
  obtain ⟨fuel, hf⟩ := h
  have lt : ∀ x ∈ p, x.block < W.heap.size := DataW.trod_lt fuel _ _ _ hf
  rcases Deep.open_slice1 Try.underlying35 cellsPg hf with ⟨hcs, _⟩ | ⟨ad, l, cp, m, k, V, D, Pl, hcs, _, hl, hm, hmm, hx, hv⟩
  · simp [Value.cells] at hcs
    obtain ⟨rfl, rfl, rfl⟩ := hcs
    exact ⟨[], ⟨rfl, fun h => absurd h (Nat.lt_irrefl 0)⟩, Nat.zero_le _, fun q h => by cases h⟩
  · simp [Value.cells] at hcs
    obtain ⟨rfl, rfl, rfl⟩ := hcs
    simp only [Prod.mk.injEq] at hx
    obtain ⟨rfl, rfl⟩ := hx
    simp only [if_true] at hmm
    have each : ∀ i, i < n → ∃ ks : List Int, ∃ sa sn sc, W.cell? (ad.add i) = some (.slice sa sn sc) ∧ Sts W sa sn ks ∧ sn ≤ Rows.uptoBulk (D i) := by
      intro i hi
      obtain ⟨h1, h2⟩ := hv i (by omega)
      obtain ⟨sa, sn, sc, ks, r, hs, hb⟩ := open_sts h2
      exact ⟨ks, sa, sn, sc, by rw [h1, r], hs, hb⟩
    obtain ⟨Z, hZ⟩ := Deep.choose_lt (α := List Int) (p := fun i ks => ∃ sa sn sc, W.cell? (ad.add i) = some (.slice sa sn sc) ∧ Sts W sa sn ks ∧ sn ≤ Rows.uptoBulk (D i)) each
    refine ⟨(List.range n).map Z, ⟨by simp, fun h0 => ?_⟩, by simpa using slice_le ((List.range n).map D) _, fun q hq => ?_⟩
    · obtain ⟨b, off, spot⟩ := ad
      have hspot : spot = none := by
        obtain ⟨_, _, _, z1, _⟩ := hZ 0 h0
        simpa [Addr.add] using World.cell?_spot z1
      subst hspot
      refine ⟨b, off, rfl, lt (.cell b off) (List.mem_append.2 (.inl (MemPlace.mem_row.2 ⟨0, by omega, by simp⟩))), fun j hj => ?_⟩
      obtain ⟨sa, sn, sc, z1, z2, _⟩ := hZ j hj
      rw [add_plain] at z1
      refine ⟨sa, sn, sc, z1, ?_⟩
      have : ((List.range n).map Z).getD j [] = Z j := by simp [List.getD, hj]
      rw [this]; exact z2
    · obtain ⟨i, hi, rfl⟩ := List.mem_map.1 hq
      have hi' : i < n := by simpa using hi
      obtain ⟨sa, sn, sc, _, z2, z3⟩ := hZ i hi'
      rw [z2.1]
      exact Nat.le_trans z3 (in_slice (List.mem_map.2 ⟨i, hi, rfl⟩))

end Go.Proofs.Ytmieoihjgckfhaa
