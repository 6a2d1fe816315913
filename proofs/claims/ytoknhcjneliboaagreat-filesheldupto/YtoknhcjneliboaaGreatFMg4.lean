/- Texts of this seat, merged. -/
import Derived.Test.YtoknhcjneliboaaGreatRows
import Derived.Test.YtoknhcjneliboaaGreatFMg1
import Derived.Test.YtoknhcjneliboaaGreatFMg3
import Derived.Deep.Slices
import Derived.ChangeSame

/- A list of calls of a file system, opened: with paths that are short. -/
namespace Go.Proofs.YtoknhcjneliboaaGreat
open Go.ChangeShapes Go.WideShapes Go.ChangeAt Go.RowKit Lend
set_option linter.unusedVariables false

theorem cellsDo : Tryz.prog.cellsOf 32 = 7 := by kernel_rfl

theorem one_bulk {H : Type} (d : DataW H) : 1 ≤ Rows.uptoBulk d := by
  cases d with
  | lit x => cases x <;> simp [Rows.uptoBulk]
  | _ => simp [Rows.uptoBulk]
theorem len_bulk {H : Type} : ∀ l : List (DataW H), l.length ≤ Rows.uptoBulkAll l
  | [] => Nat.zero_le _
  | d :: l => by
    rw [Rows.uptoBulkAll, List.length_cons]
    have := one_bulk d
    have := len_bulk l
    omega

theorem bulk_mem {H : Type} {d : DataW H} : ∀ {l : List (DataW H)}, d ∈ l → Rows.uptoBulk d ≤ Rows.uptoBulkAll l
  | d0 :: l, h => by
    rw [Rows.uptoBulkAll]
    rcases List.mem_cons.1 h with rfl | h
    · omega
    · have := bulk_mem h; omega

/-- Bytes within a datum. -/
theorem open_inner {H : Type} {enc : TypeId × Value → H} {W : World} {fuel : Nat} {v : Value} {y : DataW H × List MemPlace} (h : DataW.trod enc Tryz.prog W 0 (fun _ => true) true fuel 30 [v] = some y) (hbk : Rows.uptoBulk y.1 ≤ 1048576) :
    ∃ (ab : Option Addr) (lb cb : Nat) (zs : List Int), v = .slice ab lb cb ∧ Src W ab lb zs ∧ Bytes zs ∧ lb ≤ cb ∧ lb ≤ 140737488355328 ∧ (ab = none → lb = 0 ∧ cb = 0) ∧ cb ≤ 9223372036854775807 := by
  have lt : ∀ x ∈ y.2, x.block < W.heap.size := DataW.trod_lt fuel _ _ _ h
  rcases open_ints Tryz.underlying30 Tryz.underlying5 (by kernel_rfl) h with ⟨hcs, _⟩ | ⟨x, l, c, zs, hcs, _, hl, hm, hz, hx, hcell, hwz⟩
  · simp at hcs
    subst hcs
    exact ⟨none, 0, 0, [], rfl, Src.nil _ _, Bytes.nil, Nat.le_refl _, by omega, fun _ => ⟨rfl, rfl⟩, by omega⟩
  · simp at hcs
    subst hcs
    subst hx
    simp only [if_true] at hz
    simp only [Rows.uptoBulk] at hbk
    have q1 := len_bulk (H := H) (lits .u8 (zs.take l))
    have q2 : (lits .u8 (zs.take l) : List (DataW H)).length = (zs.take l).length := by simp [lits]
    rw [List.length_take] at q2
    refine ⟨some x, l, c, zs.take l, rfl, ⟨by simp; omega, fun h0 => ?_⟩, fun z hz' => ?_, hl, by omega, fun h => (by cases h), by unfold maxLen at hm; omega⟩
    · obtain ⟨b, off, spot⟩ := x
      have hspot : spot = none := by simpa [Addr.add] using World.cell?_spot (hcell 0 (by omega))
      subst hspot
      refine ⟨b, off, rfl, lt (.cell b off) (MemPlace.mem_row.2 ⟨0, by omega, by simp⟩), fun j hj => ?_⟩
      rw [← add_plain, hcell j (by omega)]
      simp [List.getD, hj]
    · have := bounds_u8 (hwz z (List.mem_of_mem_take hz'))
      omega

set_option maxRecDepth 20000 in
theorem open_dos {H : Type} {enc : TypeId × Value → H} {W : World} {al : Option Addr} {ll cl : Nat} {d : DataW H} {p : List MemPlace}
    (h : DataW.Trod enc Tryz.prog W 0 (fun _ => true) true 22 (.slice al ll cl) d p) (hbk : Rows.uptoBulk d ≤ 1048576) :
    DosS W al ll ∧ ll ≤ cl ∧ cl ≤ 9223372036854775807 := by
  have lt : ∀ x ∈ p, x.block < W.heap.size := by obtain ⟨m, hm⟩ := h; exact DataW.trod_lt m _ _ _ hm
  obtain ⟨fuel, hf⟩ := h
  rcases Deep.open_slice Tryz.underlying22 hf with ⟨hcs, _⟩ | ⟨a, l, c, m, n, D, Pl, hcs, _, hl, hm, hmm, hx, hv⟩
  · simp [Value.cells] at hcs
    obtain ⟨rfl, rfl, rfl⟩ := hcs
    exact ⟨fun h => absurd h (Nat.lt_irrefl 0), Nat.le_refl _, by omega⟩
  · simp [Value.cells] at hcs
    obtain ⟨rfl, rfl, rfl⟩ := hcs
    simp only [Prod.mk.injEq] at hx
    obtain ⟨rfl, rfl⟩ := hx
    simp only [if_true] at hmm
    have hB : ∀ i, i < ll → Rows.uptoBulk (D i) ≤ 1048576 := fun i hi => by
      have h1 := bulk_mem (List.mem_map.2 ⟨i, List.mem_range.2 hi, rfl⟩ : D i ∈ List.map D (List.range ll))
      simp only [Rows.uptoBulk] at hbk
      omega
    have each : ∀ i, i < ll → ∃ (x0 x1 x2 x3 : Int) (t4 t5 : ByteArray) (ab : Option Addr) (lb cb : Nat) (zs : List Int), W.cell? (a.add (i * 7)) = some (.int .i64 x0) ∧ W.cell? (a.add (i * 7 + 1)) = some (.int .i64 x1) ∧ W.cell? (a.add (i * 7 + 2)) = some (.int .i64 x2) ∧ W.cell? (a.add (i * 7 + 3)) = some (.int .i64 x3) ∧ W.cell? (a.add (i * 7 + 4)) = some (.string t4) ∧ W.cell? (a.add (i * 7 + 5)) = some (.string t5) ∧
        W.cell? (a.add (i * 7 + 6)) = some (.slice ab lb cb) ∧
        (-9223372036854775808 ≤ x0 ∧ x0 ≤ 9223372036854775807) ∧ (-9223372036854775808 ≤ x2 ∧ x2 ≤ 9223372036854775807) ∧ (-9223372036854775808 ≤ x3 ∧ x3 ≤ 9223372036854775807) ∧ Src W ab lb zs ∧ Bytes zs ∧ lb ≤ cb ∧ lb ≤ 140737488355328 ∧ (ab = none → lb = 0 ∧ cb = 0) ∧ t4.size ≤ 1048576 ∧ t5.size ≤ 1048576 ∧ cb ≤ 9223372036854775807 := by
      intro i hi
      obtain ⟨cs', h1, h2⟩ := hv i (by omega)
      rw [cellsDo] at h1
      obtain ⟨_, hlen, hcell⟩ := World.cells?_some h1
      have hBi := hB i hi
      obtain ⟨xs, k, hk, hxy, _, hxl, hf⟩ := DataW.trod_struct Tryz.underlying32 h2
      match xs, hxl, cs', hlen with
      | [y0, y1, y2, y3, y4, y5, y6], _, [v0, v1, v2, v3, v4, v5, v6], _ =>
        have g0 := hf 0 _ rfl
        have g1 := hf 1 _ rfl
        have g2 := hf 2 _ rfl
        have g3 := hf 3 _ rfl
        have g4 := hf 4 _ rfl
        have g5 := hf 5 _ rfl
        have g6 := hf 6 _ rfl
        have c3 : Tryz.prog.cellsOf 3 = 1 := by kernel_rfl
        have c9 : Tryz.prog.cellsOf 9 = 1 := by kernel_rfl
        have cb : Tryz.prog.cellsOf 30 = 1 := by kernel_rfl
        simp [c3, c9, cb] at g0 g1 g2 g3 g4 g5 g6
        have e0 := hcell 0 (by omega)
        have e1 := hcell 1 (by omega)
        have e2 := hcell 2 (by omega)
        have e3 := hcell 3 (by omega)
        have e4 := hcell 4 (by omega)
        have e5 := hcell 5 (by omega)
        have e6 := hcell 6 (by omega)
        rw [Deep.add_add] at e0 e1 e2 e3 e4 e5 e6
        obtain ⟨x0, r0, _, w0⟩ := DataW.trod_int Tryz.underlying3 g0
        obtain ⟨x1, r1, _, w1⟩ := DataW.trod_int Tryz.underlying3 g1
        obtain ⟨x2, r2, _, w2⟩ := DataW.trod_int Tryz.underlying3 g2
        obtain ⟨x3, r3, _, w3⟩ := DataW.trod_int Tryz.underlying3 g3
        obtain ⟨t4, r4, q4⟩ := DataW.trod_string Tryz.underlying9 g4
        obtain ⟨t5, r5, q5⟩ := DataW.trod_string Tryz.underlying9 g5
        simp at r0 r1 r2 r3 r4 r5
        simp only [Prod.mk.injEq] at hxy
        rw [hxy.1] at hBi
        rw [q4.1, q5.1] at hBi
        simp only [List.map_cons, List.map_nil, Rows.uptoBulk, Rows.uptoBulkAll] at hBi
        have s4 : t4.data.toList.length = t4.size := by simp
        have s5 : t5.data.toList.length = t5.size := by simp
        obtain ⟨ab, lb, cb', zs, r6, hs, hby, hl1, hl2, hl3, hl4⟩ := open_inner g6 (by omega)
        subst r0; subst r1; subst r2; subst r3; subst r4; subst r5; subst r6
        exact ⟨x0, x1, x2, x3, t4, t5, ab, lb, cb', zs, by simpa using e0, by simpa using e1, by simpa using e2, by simpa using e3, by simpa using e4, by simpa using e5, by simpa using e6, bounds_i64 w0, bounds_i64 w2, bounds_i64 w3, hs, hby, hl1, hl2, hl3, by omega, by omega, hl4⟩
    refine ⟨fun h0 => ?_, hl, by unfold maxLen at hm; omega⟩
    obtain ⟨b, o, spot⟩ := a
    have hspot : spot = none := by
      obtain ⟨x0, _, _, _, _, _, _, _, _, _, h1, _⟩ := each 0 h0
      simpa [Addr.add] using World.cell?_spot h1
    subst hspot
    have hlt := lt (.cell b o) (List.mem_append.2 (.inl (MemPlace.mem_row.2 ⟨0, by rw [cellsDo]; omega, by simp⟩)))
    refine ⟨b, o, rfl, hlt, fun i hi => ?_⟩
    obtain ⟨x0, x1, x2, x3, t4, t5, ab, lb, cb, zs, h0, h1, h2, h3, h4, h5, h6, b0, b2, b3, hs, hby, hl1, hl2, hl3, hs4, hs5, hl4⟩ := each i hi
    rw [add_plain] at h0 h1 h2 h3 h4 h5 h6
    exact ⟨x0, x1, x2, x3, t4, t5, ab, lb, cb, zs, ⟨h0, h1, h2, h3, h4, h5, h6, b0, b2, b3, hs, hl1, hlt, hl2, hl3⟩, hs4, hs5, fun z hz => by have := hby z hz; omega, hl4⟩

end Go.Proofs.YtoknhcjneliboaaGreat
