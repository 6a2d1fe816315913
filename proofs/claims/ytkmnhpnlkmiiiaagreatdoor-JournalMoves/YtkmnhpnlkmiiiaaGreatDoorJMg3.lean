/- The journal, merged. -/
import Derived.Test.YtkmnhpnlkmiiiaaGreatDoorRows
import Derived.Test.YtkmnhpnlkmiiiaaGreatDoorDImg
import Derived.Test.YtkmnhpnlkmiiiaaGreatDoorDec
import Derived.ProofKit
import Derived.OpenShut
import Derived.ShutString
import Derived.ChangeOld
import Derived.SizedLaws
import Derived.Deep.Slices
import Derived.ChangeSame
import Derived.Test.YtkmnhpnlkmiiiaaGreatDoorJMg2

/- An image that came in, opened: its bytes, too. -/
namespace Go.Proofs.YtkmnhpnlkmiiiaaGreatDoor
open Go.ChangeShapes Go.WideShapes Go.ChangeAt Go.RowKit Num
set_option linter.unusedVariables false

theorem own : ownKnob Tryz.prog.godebug = none := by kernel_rfl
theorem laidOut : laidOutB Tryz.prog = true := by kernel_rfl
theorem bytes5 : Tryz.prog.bytesOf 5 = 1 := by kernel_rfl

theorem jopen_inner {H : Type} {enc : TypeId × Value → H} {W : World} {fuel : Nat} {v : Value} {y : DataW H × List MemPlace} (h : DataW.trod enc Tryz.prog W 0 (fun _ => true) true fuel 29 [v] = some y) (hw : ∀ n ∈ y.1.weights Tryz.prog 29, n ≤ reachBytes) :
    ∃ (ab : Option Addr) (lb cb : Nat) (zs : List Int), v = .slice ab lb cb ∧ Src W ab lb zs ∧ lb ≤ 140737488355328 ∧ lb ≤ cb ∧ cb ≤ 9223372036854775807 ∧ (ab = none → lb = 0 ∧ cb = 0) ∧ Bytes zs := by
  have lt : ∀ x ∈ y.2, x.block < W.heap.size := DataW.trod_lt fuel _ _ _ h
  rcases open_ints Tryz.underlying29 Tryz.underlying5 (by kernel_rfl) h with ⟨hcs, _⟩ | ⟨x, l, c, zs, hcs, _, hl, hm, hz, hx, hcell, hwz⟩
  · simp at hcs
    subst hcs
    exact ⟨none, 0, 0, [], rfl, Src.nil _ _, by omega, Nat.le_refl _, by omega, fun _ => ⟨rfl, rfl⟩, Bytes.nil⟩
  · simp at hcs
    subst hcs
    subst hx
    simp only [if_true] at hz
    have hr := hw (((lits .u8 (zs.take l) : List (DataW H)).length + (lits .u8 (zs.drop l) : List (DataW H)).length) * Tryz.prog.bytesOf 5) (by
      rw [DataW.weights, Tryz.underlying29]; exact List.mem_cons_self)
    have hr2 : (lits .u8 (zs.take l) : List (DataW H)).length + (lits .u8 (zs.drop l) : List (DataW H)).length = zs.length := by simp [lits]; omega
    rw [bytes5, hr2] at hr
    unfold reachBytes at hr
    refine ⟨some x, l, c, zs.take l, rfl, ⟨by simp; omega, fun h0 => ?_⟩, by omega, hl, by unfold maxLen at hm; omega, (fun h => by cases h), fun z hz' => ?_⟩
    · obtain ⟨b, off, spot⟩ := x
      have hspot : spot = none := by simpa [Addr.add] using World.cell?_spot (hcell 0 (by omega))
      subst hspot
      refine ⟨b, off, rfl, lt (.cell b off) (MemPlace.mem_row.2 ⟨0, by omega, by simp⟩), fun j hj => ?_⟩
      rw [← add_plain, hcell j (by omega)]
      simp [List.getD, hj]
    · have := bounds_u8 (hwz z (List.mem_of_mem_take hz'))
      omega

theorem weightsAll_mem {H : Type} {P : Program} {e : TypeId} : ∀ {l : List (DataW H)} {d : DataW H} {n : Nat}, d ∈ l → n ∈ d.weights P e → n ∈ DataW.weightsAll P e l
  | d0 :: l, d, n, hd, hn => by
    rw [DataW.weightsAll, List.mem_append]
    rcases List.mem_cons.1 hd with rfl | hd
    · exact .inl hn
    · exact .inr (weightsAll_mem hd hn)

theorem bytesTB : Tryz.prog.bytesOf 29 = 24 := by kernel_rfl
theorem cellsTB : Tryz.prog.cellsOf 29 = 1 := by kernel_rfl

set_option maxRecDepth 20000 in
theorem open_bss {H : Type} {enc : TypeId × Value → H} {W : World} {al : Option Addr} {ll cl : Nat} {d : DataW H} {p : List MemPlace}
    (h : DataW.Trod enc Tryz.prog W 0 (fun _ => true) true 22 (.slice al ll cl) d p) (hw : ∀ n ∈ d.weights Tryz.prog 22, n ≤ reachBytes) :
    ∃ L : List (List Int), Img W al L ∧ L.length = ll ∧ ll ≤ cl ∧ cl ≤ 9223372036854775807 ∧ ll * 24 ≤ 140737488351232 ∧ ∀ l ∈ L, Bytes l := by
  have lt : ∀ x ∈ p, x.block < W.heap.size := by obtain ⟨m, hm⟩ := h; exact DataW.trod_lt m _ _ _ hm
  obtain ⟨fuel, hf⟩ := h
  rcases Deep.open_slice Tryz.underlying22 hf with ⟨hcs, _⟩ | ⟨a, l, c, m, n, D, Pl, hcs, _, hl, hm, hmm, hx, hv⟩
  · simp [Value.cells] at hcs
    obtain ⟨rfl, rfl, rfl⟩ := hcs
    exact ⟨[], fun h => absurd h (by simp), rfl, Nat.le_refl _, by omega, by omega, fun l hl => by simp at hl⟩
  · simp [Value.cells] at hcs
    obtain ⟨rfl, rfl, rfl⟩ := hcs
    simp only [Prod.mk.injEq] at hx
    obtain ⟨rfl, rfl⟩ := hx
    simp only [if_true] at hmm
    have hll : ll * 24 ≤ 140737488351232 := by
      have hr := hw _ (by rw [DataW.weights, Tryz.underlying22]; exact List.mem_cons_self)
      rw [bytesTB] at hr
      unfold reachBytes at hr
      simp at hr
      omega
    have hD : ∀ i, i < ll → ∀ n ∈ (D i).weights Tryz.prog 29, n ≤ reachBytes := fun i hi n hn => hw n (by
      simp only [DataW.weights, Tryz.underlying22, List.mem_cons, List.mem_append]
      exact .inr (.inl (weightsAll_mem (List.mem_map.2 ⟨i, List.mem_range.2 hi, rfl⟩) hn)))
    have each : ∀ i, i < ll → ∃ (ab : Option Addr) (lb cb : Nat) (bz : List Int), W.cell? (a.add i) = some (.slice ab lb cb) ∧ Src W ab lb bz ∧ lb ≤ 140737488355328 ∧ lb ≤ cb ∧ cb ≤ 9223372036854775807 ∧ (ab = none → lb = 0 ∧ cb = 0) ∧ Bytes bz := by
      intro i hi
      obtain ⟨cs', h1, h2⟩ := hv i (by omega)
      rw [cellsTB] at h1
      obtain ⟨_, hlen, hcell⟩ := World.cells?_some h1
      match cs', hlen with
      | [v0], _ =>
        have e0 := hcell 0 (by omega)
        rw [Deep.add_add] at e0
        obtain ⟨ab, lb, cb, bz, r0, q1, q2, q3, q4, q5, q6⟩ := jopen_inner h2 (fun n hn => hD i hi n hn)
        subst r0
        exact ⟨ab, lb, cb, bz, by simpa using e0, q1, q2, q3, q4, q5, q6⟩
    have hex : ∃ L : List (List Int), L.length = ll ∧ ∀ j, ∀ h : j < L.length, ∃ ab cb, W.cell? (a.add j) = some (.slice ab L[j].length cb) ∧ Src W ab L[j].length L[j] ∧ L[j].length ≤ 140737488355328 ∧ L[j].length ≤ cb ∧ cb ≤ 9223372036854775807 ∧ (ab = none → L[j].length = 0 ∧ cb = 0) ∧ Bytes L[j] := by
      refine ⟨(List.range ll).map (fun i => if h : i < ll then (each i h).choose_spec.choose_spec.choose_spec.choose else []), by simp, fun j hj => ?_⟩
      have hj' : j < ll := by simpa using hj
      have hs := (each j hj').choose_spec.choose_spec.choose_spec.choose_spec
      have e : ((List.range ll).map (fun i => if h : i < ll then (each i h).choose_spec.choose_spec.choose_spec.choose else []))[j] = (each j hj').choose_spec.choose_spec.choose_spec.choose := by simp [hj']
      have hlen := hs.2.1.1
      rw [e]
      rw [hlen]
      exact ⟨_, _, hs⟩
    obtain ⟨L, hL, hLj⟩ := hex
    refine ⟨L, fun h0 => ?_, hL, hl, by unfold maxLen at hm; omega, hll, fun l hl' => by
      obtain ⟨j, hj, rfl⟩ := List.getElem_of_mem hl'
      obtain ⟨_, _, _, _, _, _, _, _, hb⟩ := hLj j hj
      exact hb⟩
    obtain ⟨b, o, spot⟩ := a
    have hspot : spot = none := by
      obtain ⟨_, _, h1, _⟩ := hLj 0 h0
      simpa [Addr.add] using World.cell?_spot h1
    subst hspot
    refine ⟨b, o, rfl, lt (.cell b o) (List.mem_append.2 (.inl (MemPlace.mem_row.2 ⟨0, by rw [cellsTB]; omega, by simp⟩))), fun j hj => ?_⟩
    obtain ⟨ab, cb, h1, h2, h3, h4, h5, h6, _⟩ := hLj j hj
    rw [add_plain] at h1
    exact ⟨_, h1, ab, cb, rfl, h2, fun _ b o _ hx => (by simp at hx), h4, h5, h6, h3⟩

end Go.Proofs.YtkmnhpnlkmiiiaaGreatDoor

/- A list of the journal's steps, opened. -/
namespace Go.Proofs.YtkmnhpnlkmiiiaaGreatDoor
open Go.ChangeShapes Go.WideShapes Go.ChangeAt Go.RowKit Num
set_option linter.unusedVariables false

theorem cellsJDo : Tryz.prog.cellsOf 70 = 3 := by kernel_rfl
theorem cellsTI : Tryz.prog.cellsOf 22 = 1 := by kernel_rfl

set_option maxRecDepth 20000 in
theorem open_jdos {H : Type} {enc : TypeId × Value → H} {W : World} {al : Option Addr} {ll cl : Nat} {d : DataW H} {p : List MemPlace}
    (h : DataW.Trod enc Tryz.prog W 0 (fun _ => true) true 23 (.slice al ll cl) d p) (hw : ∀ n ∈ d.weights Tryz.prog 23, n ≤ reachBytes) :
    Dos3 W al ll ∧ ll ≤ cl ∧ cl ≤ 9223372036854775807 := by
  have lt : ∀ x ∈ p, x.block < W.heap.size := by obtain ⟨m, hm⟩ := h; exact DataW.trod_lt m _ _ _ hm
  obtain ⟨fuel, hf⟩ := h
  rcases Deep.open_slice Tryz.underlying23 hf with ⟨hcs, _⟩ | ⟨a, l, c, m, n, D, Pl, hcs, _, hl, hm, hmm, hx, hv⟩
  · simp [Value.cells] at hcs
    obtain ⟨rfl, rfl, rfl⟩ := hcs
    exact ⟨fun h => absurd h (Nat.lt_irrefl 0), Nat.le_refl _, by omega⟩
  · simp [Value.cells] at hcs
    obtain ⟨rfl, rfl, rfl⟩ := hcs
    simp only [Prod.mk.injEq] at hx
    obtain ⟨rfl, rfl⟩ := hx
    simp only [if_true] at hmm
    have hD : ∀ i, i < ll → ∀ n ∈ (D i).weights Tryz.prog 70, n ≤ reachBytes := fun i hi n hn => hw n (by
      simp only [DataW.weights, Tryz.underlying23, List.mem_cons, List.mem_append]
      exact .inr (.inl (weightsAll_mem (List.mem_map.2 ⟨i, List.mem_range.2 hi, rfl⟩) hn)))
    have each : ∀ i, i < ll → ∃ (op : Int) (u : Value) (zs : List Int) (la : Option Addr) (lc : Nat) (L : List (List Int)), W.cell? (a.add (i * 3)) = some (.int .i64 op) ∧ W.cell? (a.add (i * 3 + 1)) = some u ∧ W.cell? (a.add (i * 3 + 2)) = some (.slice la L.length lc) ∧ Bg W [] u zs ∧ Bytes zs ∧ Img W la L ∧ L.length ≤ lc ∧ lc ≤ 9223372036854775807 ∧ L.length * 24 ≤ 140737488351232 ∧ (∀ l ∈ L, Bytes l) := by
      intro i hi
      obtain ⟨cs', h1, h2⟩ := hv i (by omega)
      rw [cellsJDo] at h1
      obtain ⟨_, hlen, hcell⟩ := World.cells?_some h1
      have hDi := hD i hi
      obtain ⟨xs, k, hk, hxy, _, hxl, hf⟩ := DataW.trod_struct Tryz.underlying70 h2
      match xs, hxl, cs', hlen with
      | [y0, y1, y2], _, [v0, v1, v2], _ =>
        have g0 := hf 0 _ rfl
        have g1 := hf 1 _ rfl
        have g2 := hf 2 _ rfl
        have c3 : Tryz.prog.cellsOf 3 = 1 := by kernel_rfl
        simp [c3, cellsTB, cellsTI] at g0 g1 g2
        have e0 := hcell 0 (by omega)
        have e1 := hcell 1 (by omega)
        have e2 := hcell 2 (by omega)
        rw [Deep.add_add] at e0 e1 e2
        obtain ⟨x0, r0, _, w0⟩ := DataW.trod_int Tryz.underlying3 g0
        simp at r0
        simp only [Prod.mk.injEq] at hxy
        rw [hxy.1] at hDi
        obtain ⟨ab, lb, cb, zs, r1, q1, q2, q3, q4, q5, q6⟩ := jopen_inner g1 (fun n hn => hDi n (by
          simp [DataW.weights, Tryz.underlying70, DataW.weightsEach]
          exact .inr (.inl hn)))
        have hv2 : ∃ la ln lc, v2 = .slice la ln lc := by
          rcases Deep.open_slice Tryz.underlying22 g2 with ⟨h, _⟩ | ⟨a, l, c, _, _, _, _, h, _⟩
          · simp at h; exact ⟨_, _, _, h⟩
          · simp at h; exact ⟨_, _, _, h⟩
        obtain ⟨la, ln, lc, rfl⟩ := hv2
        obtain ⟨L, s0, n0, l0, m0, rr0, b0⟩ := open_bss (d := y2.1) (p := y2.2) ⟨k, by simpa [Value.cells] using g2⟩ (fun n hn => hDi n (by
          simp [DataW.weights, Tryz.underlying70, DataW.weightsEach]
          exact .inr (.inr hn)))
        subst r0
        subst r1
        subst n0
        have hzl := q1.1
        subst hzl
        exact ⟨x0, .slice ab zs.length cb, zs, la, lc, L, by simpa using e0, by simpa using e1, by simpa using e2, ⟨ab, cb, rfl, q1, fun _ b o _ hx => (by simp at hx), q3, q4, q5, q2⟩, q6, s0, l0, m0, rr0, b0⟩
    refine ⟨fun h0 => ?_, hl, by unfold maxLen at hm; omega⟩
    obtain ⟨b, o, spot⟩ := a
    have hspot : spot = none := by
      obtain ⟨x0, _, _, _, _, _, h1, _⟩ := each 0 h0
      simpa [Addr.add] using World.cell?_spot h1
    subst hspot
    have hlt := lt (.cell b o) (List.mem_append.2 (.inl (MemPlace.mem_row.2 ⟨0, by rw [cellsJDo]; omega, by simp⟩)))
    refine ⟨b, o, rfl, hlt, fun i hi => ?_⟩
    obtain ⟨x0, u, zs, la, lc, L, h0, h1, h2, hr⟩ := each i hi
    rw [add_plain] at h0 h1 h2
    exact ⟨x0, u, zs, la, lc, L, h0, h1, h2, hr⟩

end Go.Proofs.YtkmnhpnlkmiiiaaGreatDoor
