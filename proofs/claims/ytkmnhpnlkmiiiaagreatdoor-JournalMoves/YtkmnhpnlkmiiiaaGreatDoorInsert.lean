/- What slices.Insert does with one write, for every row of writes that is owned: the row with it at its place; nothing turns but that row's block. -/
import Derived.Test.YtkmnhpnlkmiiiaaGreatDoorSearch
import Derived.Test.YtkmnhpnlkmiiiaaGreatDoorAbs
import Derived.Lib.Overlaps
import Derived.Lib.AppendZerosOnto
import Derived.Lib.AppendZeros
import Derived.Deep.RegionLaw
import Derived.Laws.IdiomCopy
namespace Go.Proofs.YtkmnhpnlkmiiiaaGreatDoor
open Go.RowKit
set_option linter.unusedVariables false

theorem Tryz.infoSE : (Tryz.prog.info? 108).map (fun i => (i.zero, i.size, i.bytes)) = some (some (.agg #[.int .i64 0, .slice none 0 0]), 2, 32) := by kernel_rfl

/-- What Insert leaves. -/
def Inserted (w : World) (v : Value) (n k : Nat) (xs : List Value) (a b : Value) (e : Ending) (w' : World) : Prop :=
  ∃ v', e = .returned v' ∧ w'.ownsRow 0 108 2 v' (n + 1) (xs.take (k * 2) ++ ([a, b] ++ xs.drop (k * 2))) ∧ Upd (fun x => v.ownBlock = some x) w w' ∧ (v'.ownBlock = v.ownBlock ∨ ∀ x, v'.ownBlock = some x → w.heap.size ≤ x) ∧ (∃ x, v'.ownBlock = some x)

theorem heap_cells {w : World} {g : Nat} {cur : Array Value} {t : TypeId} (h : w.heap[g]? = some (.cells cur t (0, 0))) (j : Nat) (v : Value) (hj : cur.toList[j]? = some v) : w.cell? ⟨g, j, none⟩ = some v := by
  rw [cell_of_row w g j cur t (0, 0) h]
  simpa using hj

set_option maxHeartbeats 1000000 in
set_option maxRecDepth 20000 in
theorem insert_end (v : Value) (n : Nat) (xs : List Value) (vb : Nat) (t : TypeId) (a b : Value) (w : World) (hown : w.ownsRow 0 108 2 v n xs) (hn : n ≤ 4096) (hv : w.heap[vb]? = some (.cells #[a, b] t (0, 0))) (ha : a.oneCell' = true) (hb : b.oneCell' = true) :
    Calls Tryz.prog 99 #[v, .int .i64 n, .slice (some ⟨vb, 0, none⟩) 1 1] w (Inserted w v n n xs a b) := by
  obtain ⟨i0, hi, hz0, hz1, hz2⟩ := info_parts Tryz.infoSE
  have HX : Hid (xs.take (n * 2) ++ ([a, b] ++ xs.drop (n * 2)) = xs ++ [a, b]) := by
    show _ = _
    rw [List.take_of_length_le (by rw [hown.1]; exact Nat.le_refl _), List.drop_of_length_le (by rw [hown.1]; exact Nat.le_refl _)]
    rfl
  have HN : Hid (∀ j u, [a, b][j]? = some u → w.cell? ((⟨vb, 0, none⟩ : Addr).add j) = some u) := fun j u hj => by
    rw [Addr.add_lit, Nat.zero_add]
    exact heap_cells hv j u hj
  have H1 : Hid (∀ u ∈ [a, b], u.oneCell' = true) := by
    intro u hu
    simp at hu
    rcases hu with rfl | rfl
    · exact ha
    · exact hb
  have HO := hid hown
  have HH := hid hown.lt
  have hv2 : (∃ c, v = .slice none n c ∧ n = 0) ∨ ∃ g c, v = .slice (some ⟨g, 0, none⟩) n c ∧ n ≤ c ∧ c ≤ 9223372036854775807 := by
    rcases hown.2 with ⟨rfl, rfl⟩ | ⟨g, c, cur, rfl, _, _, h1, h2, _⟩
    · exact .inl ⟨0, rfl, rfl⟩
    · exact .inr ⟨g, c, rfl, h1, by unfold maxLen at h2; omega⟩
  clear hown
  rcases hv2 with ⟨c, rfl, rfl⟩ | ⟨g, c, rfl, h1, h2⟩
  · go_enter Tryz.func99, Tryz.ntmps99
    go_wp2_with (at_builtin; go_must (refine wpList_append_where rfl _ _ 80 rfl 108 i0 _ 2 32 Tryz.underlying80 hi hz0 hz1 hz2 rfl (by decide) _ 0 xs rfl HO.out ⟨vb, 0, none⟩ 1 1 [a, b] rfl rfl HN.out H1.out (by unfold maxLen; omega) (by omega) ?_))
    intro v' w1 hO hU hnil hW
    go_wp2_with fail
    go_ret
    refine ⟨v', rfl, by rw [HX.out]; exact hO.out, hU, hW.out, ?_⟩
    rcases hO.out.2 with ⟨_, h0⟩ | ⟨g, cap, cur, rfl, _, hh, _⟩
    · omega
    · exact ⟨g, rfl⟩
  · go_enter Tryz.func99, Tryz.ntmps99
    go_wp2_with (at_builtin; go_must (refine wpList_append_where rfl _ _ 80 rfl 108 i0 _ 2 32 Tryz.underlying80 hi hz0 hz1 hz2 rfl (by decide) _ n xs rfl HO.out ⟨vb, 0, none⟩ 1 1 [a, b] rfl rfl HN.out H1.out (by unfold maxLen; omega) (by omega) ?_))
    all_goals
      intro v' w1 hO hU hnil hW
      go_wp2_with fail
      go_ret
      refine ⟨v', rfl, by rw [HX.out]; exact hO.out, hU, hW.out, ?_⟩
      rcases hO.out.2 with ⟨_, h0⟩ | ⟨g, cap, cur, rfl, _, hh, _⟩
      · omega
      · exact ⟨g, rfl⟩

/-- 'copy' as one step of a region that draws its order. -/
theorem step_copy2 {P : Program} {ops : Array Oper} {o : Oper} {a : Act} {w : World} {K : Act → World → Prop} {Q : Exit → Act → World → Prop} {E : Prop}
    (hg : o.guard = none) (d x : Operand) (dT sT : TypeId) (hop : o.op = Op.call { callee := Callee.builtin Builtin.copy, args := #[d, x], argTypes := #[dT, sT] })
    (v u : Value) (hd : a.eval d = v) (hx : a.eval x = u) {v' : Value} {w' : World} (hr : (Builtin.copy_ #[dT, sT] o.type #[v, u]).run P w = .ok v' w') (hK : K (a.put o.dst v') w') :
    if Region.wanted o (yielded ops a.tmps) = true then Oper.wp P o a w K Q else E := by
  have hw : Region.wanted o (yielded ops a.tmps) = true := by simp [Region.wanted, hg]
  rw [if_pos hw]
  unfold Oper.wp
  simp [execOp, hop, resolve, invoke, builtin, hd, hx, hr, Result.andThen]
  exact hK

theorem wpList_copy_is {P : Program} (w : World) {ops : Array Oper} {rest : List Oper} {o : Oper} {a : Act} {Q : Exit → Act → World → Prop} (hgd : o.guard = none) (d s : Operand) (t t' : TypeId)
    (ho : o.op = .call { callee := .builtin .copy, args := #[d, s], argTypes := #[t, t'] }) (v u : Value) (hd : a.eval d = v) (hs : a.eval s = u) {v' : Value} {w' : World}
    (hr : (Builtin.copy_ #[t, t'] o.type #[v, u]).run P w = .ok v' w') (h : wpList P ops Q rest (a.put o.dst v') w') : wpList P ops Q (o :: rest) a w := by
  refine wpList_plain hgd fun K hK => ?_
  unfold Oper.wp execOp
  simp only [ho, resolve, invoke, builtin, Sem.run_bind, Sem.run_pure, Result.andThen_ok, List.map_toArray, List.map_cons, List.map_nil, hd, hs, hr]
  exact hK _ _ h

theorem Tryz.zSE : ∀ w, (Go.sizeOf 108).run Tryz.prog w = .ok 2 w := by
  intro w
  obtain ⟨i0, hi, hz0, hz1, hz2⟩ := info_parts Tryz.infoSE
  simp [Go.sizeOf, typeInfo, hi, hz1]

theorem splice_take {α : Type} (L X cs : List α) (m k : Nat) (a : List α) (hX : L.take m = X) (hXl : X.length = m) (hk : k + a.length ≤ m + a.length) (hcs : cs = X.drop k) (hL : m + a.length ≤ L.length) (hkm : k ≤ m) :
    (splice (splice L (k + a.length) cs) k a).take (m + a.length) = X.take k ++ (a ++ X.drop k) := by
  subst hX
  subst hcs
  apply List.ext_getElem?
  intro j
  simp only [splice, List.getElem?_take, List.getElem?_append, List.length_take, List.getElem?_drop, List.length_append, List.length_drop]
  grind

set_option maxHeartbeats 1000000 in
set_option maxRecDepth 20000 in
theorem insert_room (g c n k : Nat) (xs : List Value) (vb : Nat) (t : TypeId) (a b : Value) (w : World) (hown : w.ownsRow 0 108 2 (.slice (some ⟨g, 0, none⟩) n c) n xs) (hn : n ≤ 4096) (hk : k < n) (hroom : n + 1 ≤ c) (hv : w.heap[vb]? = some (.cells #[a, b] t (0, 0))) (hvb : vb ≠ g) (ha : a.oneCell' = true) (hb : b.oneCell' = true) (h1 : ∀ u ∈ xs, u.oneCell' = true) :
    Calls Tryz.prog 99 #[.slice (some ⟨g, 0, none⟩) n c, .int .i64 k, .slice (some ⟨vb, 0, none⟩) 1 1] w (Inserted w (.slice (some ⟨g, 0, none⟩) n c) n k xs a b) := by
  obtain ⟨cur, hg, hcm, hcs, htake⟩ : ∃ cur, w.heap[g]? = some (.cells cur 108 (0, 0)) ∧ c ≤ maxLen ∧ cur.size = c * 2 ∧ cur.toList.take (n * 2) = xs := by
    rcases hown.2 with ⟨h, _⟩ | ⟨g', c', cur, h, _, hg, _, hcm, hcs, htake⟩
    · cases h
    · injection h with e1 e2 e3
      injection e1 with e1
      injection e1 with e1
      subst e1; subst e3
      exact ⟨cur, hg, hcm, hcs, htake⟩
  have hxl := hown.1
  have hc63 : c ≤ 9223372036854775807 := by unfold maxLen at hcm; omega
  have hsz : (Tryz.prog.info? 108).map (·.size) = some 2 := by
    obtain ⟨i0, hi0, h0, h1, h2⟩ := info_parts Tryz.infoSE
    rw [hi0]; simp [h1]
  have hov : ∀ lb cb, (callFunc 104 #[.slice (some ⟨vb, 0, none⟩) 1 1, .slice (some ⟨g, (k + 1) * 2, none⟩) lb cb]).run Tryz.prog w = .ok (.value (.bool false)) w := fun lb cb => by
    rw [run_callFunc_extern Tryz.func104 (by kernel_rfl) (by kernel_rfl) (by kernel_rfl) (e := Extern.SlicesOverlaps.overlaps #[80, 80] #[4]) (by kernel_rfl),
      Lib.run_overlaps_apart w 80 4 108 Tryz.underlying80 2 Tryz.zSE ⟨vb, 0, none⟩ ⟨g, (k + 1) * 2, none⟩ 1 1 lb cb hvb t 108 2 (c * 2) (by simp [World.shape?, hv]) (by simp [World.shape?, hg, hcs]) (by omega) (by simp [World.frozen?, hv]) (by simp [World.frozen?, hv])]
    rfl
  have hdl : (xs.drop (k * 2)).length = (n - k) * 2 := by rw [List.length_drop, hxl]; omega
  have hcurl : cur.toList.length = c * 2 := by rw [Array.length_toList, hcs]
  obtain ⟨L1, hL1⟩ : ∃ L1, L1 = splice cur.toList ((k + 1) * 2) (xs.drop (k * 2)) := ⟨_, rfl⟩
  have hL1l : L1.length = c * 2 := by rw [hL1, length_splice _ _ _ (by omega), hcurl]
  have hcp1 : ∀ ty dc sc, (Builtin.copy_ #[80, 80] ty #[.slice (some ⟨g, (k + 1) * 2, none⟩) (n - k) dc, .slice (some ⟨g, k * 2, none⟩) (n + 1 - k) sc]).run Tryz.prog w.drew = .ok (goInt ((n - k : Nat) : Int)) (w.drew.setRow g L1.toArray) := fun ty dc sc => by
    rw [run_copy_row2 w.drew 80 80 ty 108 2 g ((k + 1) * 2) (n - k) dc ⟨g, k * 2, none⟩ (n + 1 - k) sc (n - k) cur 108 (xs.drop (k * 2)) Tryz.underlying80 hsz hg (by simp only [Nat.min_def]; split <;> omega) hdl ?_ (by rw [hdl, hcs]; omega) (fun u hu => h1 u (List.mem_of_mem_drop hu))]
    · rw [hL1]; simp [splice]
    · intro j u hj
      rw [Addr.add_lit]
      refine heap_cells (w := w.drew) hg _ u ?_
      rw [List.getElem?_drop, ← htake, List.getElem?_take] at hj
      split at hj
      · exact hj
      · cases hj
  have hcp2 : ∀ (W : World), W.heap = (w.setRow g L1.toArray).heap → ∀ ty dc, (Builtin.copy_ #[80, 80] ty #[.slice (some ⟨g, k * 2, none⟩) (n + 1 - k) dc, .slice (some ⟨vb, 0, none⟩) 1 1]).run Tryz.prog W = .ok (goInt 1) (W.setRow g (splice L1 (k * 2) [a, b]).toArray) := fun W hW ty dc => by
    have hWg : W.heap[g]? = some (.cells L1.toArray 108 (0, 0)) := by rw [hW]; exact setRow_heap w g cur _ _ _ hg
    have hWv : W.heap[vb]? = some (.cells #[a, b] t (0, 0)) := by rw [hW, setRow_other w g vb _ hvb]; exact hv
    rw [run_copy_row2 W 80 80 ty 108 2 g (k * 2) (n + 1 - k) dc ⟨vb, 0, none⟩ 1 1 1 L1.toArray 108 [a, b] Tryz.underlying80 hsz hWg (by simp only [Nat.min_def]; split <;> omega) rfl ?_ (by simp [hL1l]; omega) ?_]
    · simp [splice]
    · intro j u hj
      rw [Addr.add_lit, Nat.zero_add]
      exact heap_cells hWv j u hj
    · intro u hu
      simp at hu
      rcases hu with rfl | rfl
      · exact ha
      · exact hb
  have hrow : (splice L1 (k * 2) [a, b]).take ((n + 1) * 2) = xs.take (k * 2) ++ ([a, b] ++ xs.drop (k * 2)) := by
    have := splice_take cur.toList xs (xs.drop (k * 2)) (n * 2) (k * 2) [a, b] htake hxl (by simp; omega) rfl (by simp [hcs]; omega) (by omega)
    rw [hL1, show (k + 1) * 2 = k * 2 + [a, b].length by simp; omega, show (n + 1) * 2 = n * 2 + [a, b].length by simp; omega]
    exact this
  have hfin : ∀ (W : World), W.heap = (w.setRow g L1.toArray).heap → W.os = w.os → W.tape = w.tape → W.output = w.output → Inserted w (.slice (some ⟨g, 0, none⟩) n c) n k xs a b (.returned (.slice (some ⟨g, 0, none⟩) (n + 1) c)) (W.setRow g (splice L1 (k * 2) [a, b]).toArray) := by
    intro W hW h1 h2 h3
    have hWg : W.heap[g]? = some (.cells L1.toArray 108 (0, 0)) := by rw [hW]; exact setRow_heap w g cur _ _ _ hg
    refine ⟨_, rfl, ⟨?_, .inr ⟨g, c, _, rfl, Nat.zero_le _, setRow_heap W g _ _ _ _ hWg, hroom, hcm, ?_, by simpa using hrow⟩⟩, ⟨h1, h2, h3, by rw [setRow_size, hW]; simp, ?_⟩, .inl rfl, ⟨g, rfl⟩⟩
    · rw [← hrow, List.length_take, length_splice _ _ _ (by simp [hL1l]; omega), hL1l]; omega
    · simp [length_splice _ _ [a, b] (show k * 2 + [a, b].length ≤ L1.length by simp [hL1l]; omega), hL1l]
    · intro x hx hne
      simp [Value.ownBlock] at hne
      rw [setRow_other W g x _ (fun e => hne e.symm), hW, setRow_other w g x _ (fun e => hne e.symm)]
  have HF := hid hfin
  have hb2 : ¬ (c = k + 1) := by omega
  have hb4 : ¬ (c = k) := by omega
  have hw1 : IntKind.i64.wrap ((k : Int) + 1) = (k : Int) + 1 := by rw [IntKind.wrap_i64]; omega
  have hb1 : (0 : Int) ≤ (k : Int) + 1 := by omega
  have hin : k ≤ n := by omega
  have htn : ((k : Int) + 1).toNat = k + 1 := by omega
  have hb3 : (k : Int) ≤ (n : Int) + 1 := by omega
  clear hown hL1 hrow hfin htake hcurl hdl
  go_enter Tryz.func99, Tryz.ntmps99
  go_wp2_with (simp only [hov])
  go_region_law (refine step_copy2 rfl _ _ 80 80 rfl _ _ (by simp [Act.eval, Act.put]) (by simp [Act.eval, Act.put]) (hcp1 _ _ _) ?_)
  have c2 := hcp2 (w.drew.setRow g L1.toArray) rfl 3 (c - k)
  go_wp2_with fail
  go_ret
  exact HF.out _ rfl rfl rfl rfl

theorem splice_grow {α : Type} (Z X : List α) (k m : Nat) (a : List α) (hX : X.length = m) (hk : k ≤ m) (hZ : X.take k ++ Z.drop k = Z) (hl : m + a.length ≤ Z.length) :
    (splice (splice Z k a) (k + a.length) (X.drop k)).take (m + a.length) = X.take k ++ (a ++ X.drop k) := by
  have hZk : ∀ j, j < k → Z[j]? = X[j]? := by
    intro j hj
    rw [← hZ, List.getElem?_append_left (by simp; omega), List.getElem?_take, if_pos hj]
  apply List.ext_getElem?
  intro j
  simp only [splice, List.getElem?_take, List.getElem?_append, List.length_take, List.getElem?_drop, List.length_append, List.length_drop]
  have := hZk j
  grind

set_option maxHeartbeats 1000000 in
set_option maxRecDepth 20000 in
theorem insert_grow (g c n k : Nat) (xs : List Value) (vb : Nat) (t : TypeId) (a b : Value) (w : World) (hown : w.ownsRow 0 108 2 (.slice (some ⟨g, 0, none⟩) n c) n xs) (hn : n ≤ 4096) (hk : k < n) (hroom : c < n + 1) (hv : w.heap[vb]? = some (.cells #[a, b] t (0, 0))) (ha : a.oneCell' = true) (hb : b.oneCell' = true) (h1 : ∀ u ∈ xs, u.oneCell' = true) :
    Calls Tryz.prog 99 #[.slice (some ⟨g, 0, none⟩) n c, .int .i64 k, .slice (some ⟨vb, 0, none⟩) 1 1] w (Inserted w (.slice (some ⟨g, 0, none⟩) n c) n k xs a b) := by
  obtain ⟨cur, hg, hnc, hcs, htake⟩ : ∃ cur, w.heap[g]? = some (.cells cur 108 (0, 0)) ∧ n ≤ c ∧ cur.size = c * 2 ∧ cur.toList.take (n * 2) = xs := by
    rcases hown.2 with ⟨h, _⟩ | ⟨g', c', cur, h, _, hg, hnc, hcm, hcs, htake⟩
    · cases h
    · injection h with e1 e2 e3
      injection e1 with e1
      injection e1 with e1
      subst e1; subst e3
      exact ⟨cur, hg, hnc, hcs, htake⟩
  have hxl := hown.1
  obtain ⟨i0, hi0, hz0, hzs, hzb⟩ := info_parts Tryz.infoSE
  have hsz : (Tryz.prog.info? 108).map (·.size) = some 2 := by rw [hi0]; simp [hzs]
  have hgl : g < w.heap.size := (Array.getElem?_eq_some_iff.1 hg).1
  have hvl : vb < w.heap.size := (Array.getElem?_eq_some_iff.1 hv).1
  have hsrc : ∀ j u, xs[j]? = some u → w.cell? ⟨g, j, none⟩ = some u := fun j u hj => by
    refine heap_cells hg j u ?_
    rw [← htake, List.getElem?_take] at hj
    split at hj
    · exact hj
    · cases hj
  have hkk : (n : Int) + 1 - (k : Int) = ((n + 1 - k : Nat) : Int) := by omega
  have hik : k + (n + 1 - k) = n + 1 := by omega
  have hold : (Builtin.firstCells i0.size k (.slice (some ⟨g, 0, none⟩) k c)).run Tryz.prog w.drew = .ok (xs.take (k * 2)).toArray w.drew := by
    rw [hzs]
    exact run_firstCells_some w.drew 2 k ⟨g, 0, none⟩ k c (xs.take (k * 2)) (by rw [List.length_take, hxl]; omega) (fun j v hj => by
      rw [Addr.add_lit, Nat.zero_add]
      rw [List.getElem?_take] at hj
      split at hj
      · exact hsrc j v hj
      · cases hj)
  obtain ⟨G, hG⟩ : ∃ G, G = grownCap w (n + 1) c 108 := ⟨_, rfl⟩
  have hGn : n + 1 ≤ G := by rw [hG]; exact grownCap_ge w _ _ _
  have hGm : G ≤ maxLen := by rw [hG]; exact grownCap_le_maxLen w _ _ _ (by unfold maxLen; omega)
  have hG63 : G ≤ 9223372036854775807 := by unfold maxLen at hGm; omega
  obtain ⟨ROW, hROW⟩ : ∃ ROW : List Value, ROW = ((xs.take (k * 2)).toArray ++ Builtin.zeroCells (Value.agg #[.int .i64 0, .slice none 0 0]).cells (n + 1 - k) ++ Builtin.zeroCells (Value.agg #[.int .i64 0, .slice none 0 0]).cells (G - (n + 1))).toList := ⟨_, rfl⟩
  have hrz : ∀ ty, (Builtin.append_ #[80, 3] ty #[.slice (some ⟨g, 0, none⟩) k c, .int .i64 ((n : Int) + 1 - (k : Int))]).run Tryz.prog w = .ok (.slice (some ⟨w.heap.size, 0, none⟩) (n + 1) G) (w.drew.alloc (.cells ROW.toArray 108)) := fun ty => by
    have h := Lib.run_append_grow_zeros w 80 3 ty 108 i0 _ .i64 .i64 Tryz.underlying80 Tryz.underlying3 hi0 hz0 (some ⟨g, 0, none⟩) k c (xs.take (k * 2)) hold (n + 1 - k) (by omega) (by omega) (by omega) (by omega) (by rw [hzb]; omega) (by rw [hzb, hik]; exact growslice_fits hroom (by omega))
    rw [hik] at h
    rw [hkk, hROW, hG, Array.toArray_toList]
    exact h
  have hROWl : ROW.length = G * 2 := by
    rw [hROW, Array.length_toList]
    simp only [Array.size_append, List.size_toArray, List.length_take, size_zeroCells, hxl]
    simp [Value.cells]
    omega
  have hROWk : xs.take (k * 2) ++ ROW.drop (k * 2) = ROW := by
    have : ROW.take (k * 2) = xs.take (k * 2) := by
      rw [hROW]
      simp only [Array.toList_append, List.append_assoc]
      rw [List.take_append_of_le_length (by rw [List.length_take, hxl]; omega), List.take_of_length_le (by rw [List.length_take]; omega)]
    rw [← this]
    exact List.take_append_drop _ _
  obtain ⟨R1, hR1⟩ : ∃ R1, R1 = splice ROW (k * 2) [a, b] := ⟨_, rfl⟩
  have hR1l : R1.length = G * 2 := by rw [hR1, length_splice _ _ _ (by simp [hROWl]; omega), hROWl]
  obtain ⟨R2, hR2⟩ : ∃ R2, R2 = splice R1 ((k + 1) * 2) (xs.drop (k * 2)) := ⟨_, rfl⟩
  have hdl : (xs.drop (k * 2)).length = (n - k) * 2 := by rw [List.length_drop, hxl]; omega
  have hR2l : R2.length = G * 2 := by rw [hR2, length_splice _ _ _ (by rw [hdl, hR1l]; omega), hR1l]
  have hrow : R2.take ((n + 1) * 2) = xs.take (k * 2) ++ ([a, b] ++ xs.drop (k * 2)) := by
    have := splice_grow ROW xs (k * 2) (n * 2) [a, b] hxl (by omega) hROWk (by simp [hROWl]; omega)
    rw [hR2, hR1, show (k + 1) * 2 = k * 2 + [a, b].length by simp; omega, show (n + 1) * 2 = n * 2 + [a, b].length by simp; omega]
    exact this
  have hcpA : ∀ (W : World), W.heap = (w.alloc (.cells ROW.toArray 108)).heap → ∀ ty dc, (Builtin.copy_ #[80, 80] ty #[.slice (some ⟨w.heap.size, k * 2, none⟩) (n + 1 - k) dc, .slice (some ⟨vb, 0, none⟩) 1 1]).run Tryz.prog W = .ok (goInt 1) (W.setRow w.heap.size R1.toArray) := fun W hW ty dc => by
    have hWg : W.heap[w.heap.size]? = some (.cells ROW.toArray 108 (0, 0)) := by rw [hW]; exact heap_alloc_new w _
    have hWv : W.heap[vb]? = some (.cells #[a, b] t (0, 0)) := by rw [hW, Below.heap_alloc w _ vb hvl]; exact hv
    rw [run_copy_row2 W 80 80 ty 108 2 w.heap.size (k * 2) (n + 1 - k) dc ⟨vb, 0, none⟩ 1 1 1 ROW.toArray 108 [a, b] Tryz.underlying80 hsz hWg (by simp only [Nat.min_def]; split <;> omega) rfl ?_ (by simp [hROWl]; omega) ?_]
    · rw [hR1]; simp [splice]
    · intro j u hj
      rw [Addr.add_lit, Nat.zero_add]
      exact heap_cells hWv j u hj
    · intro u hu
      simp at hu
      rcases hu with rfl | rfl
      · exact ha
      · exact hb
  have hcpB : ∀ (W : World), W.heap = ((w.alloc (.cells ROW.toArray 108)).setRow w.heap.size R1.toArray).heap → ∀ ty dc sc, (Builtin.copy_ #[80, 80] ty #[.slice (some ⟨w.heap.size, (k + 1) * 2, none⟩) (n - k) dc, .slice (some ⟨g, k * 2, none⟩) (n - k) sc]).run Tryz.prog W = .ok (goInt ((n - k : Nat) : Int)) (W.setRow w.heap.size R2.toArray) := fun W hW ty dc sc => by
    have hWg : W.heap[w.heap.size]? = some (.cells R1.toArray 108 (0, 0)) := by rw [hW]; exact setRow_heap _ _ _ _ _ _ (heap_alloc_new w _)
    have hWo : W.heap[g]? = w.heap[g]? := by rw [hW, setRow_other _ _ g _ (by omega), Below.heap_alloc w _ g hgl]
    rw [run_copy_row2 W 80 80 ty 108 2 w.heap.size ((k + 1) * 2) (n - k) dc ⟨g, k * 2, none⟩ (n - k) sc (n - k) R1.toArray 108 (xs.drop (k * 2)) Tryz.underlying80 hsz hWg (by simp) hdl ?_ (by rw [hdl]; simp [hR1l]; omega) (fun u hu => h1 u (List.mem_of_mem_drop hu))]
    · rw [hR2]; simp [splice]
    · intro j u hj
      rw [Addr.add_lit]
      rw [World.cell?_of_block (w := w) (a := ⟨g, k * 2 + j, none⟩) hWo]
      exact hsrc _ u (by rwa [List.getElem?_drop] at hj)
  have hfin : ∀ (W : World), W.heap = ((w.alloc (.cells ROW.toArray 108)).setRow w.heap.size R1.toArray).heap → W.os = w.os → W.tape = w.tape → W.output = w.output → Inserted w (.slice (some ⟨g, 0, none⟩) n c) n k xs a b (.returned (.slice (some ⟨w.heap.size, 0, none⟩) (n + 1) G)) (W.setRow w.heap.size R2.toArray) := by
    intro W hW h1 h2 h3
    have hWg : W.heap[w.heap.size]? = some (.cells R1.toArray 108 (0, 0)) := by rw [hW]; exact setRow_heap _ _ _ _ _ _ (heap_alloc_new w _)
    refine ⟨_, rfl, ⟨?_, .inr ⟨w.heap.size, G, _, rfl, Nat.zero_le _, setRow_heap W _ _ _ _ _ hWg, hGn, hGm, by simp [hR2l], by simpa using hrow⟩⟩, ⟨h1, h2, h3, by rw [setRow_size, hW, setRow_size]; simp, ?_⟩, .inr ?_, ⟨_, rfl⟩⟩
    · rw [← hrow, List.length_take, hR2l]; omega
    · intro x hx _
      rw [setRow_other W _ x _ (by omega), hW, setRow_other _ _ x _ (by omega), Below.heap_alloc w _ x hx]
    · intro x hx
      simp [Value.ownBlock] at hx
      omega
  have HF := hid hfin
  have hGk : ¬ (G = k) := by omega
  have hGk1 : ¬ (G = k + 1) := by omega
  have hck : ¬ (c = k) := by omega
  have hz2 : ¬ ((k : Int) = (n : Int)) := by omega
  have hz3 : (c : Int) < (n : Int) + 1 := by omega
  have hw1 : IntKind.i64.wrap ((k : Int) + 1) = (k : Int) + 1 := by rw [IntKind.wrap_i64]; omega
  have hb1 : (0 : Int) ≤ (k : Int) + 1 := by omega
  have hin : k ≤ n := by omega
  have htn : ((k : Int) + 1).toNat = k + 1 := by omega
  have hb3 : (k : Int) ≤ (n : Int) := by omega
  clear hown hfin hrow hR2l hR1l hROWk hROWl hold hkk hik htake hdl hROW hG hR1 hR2 hsrc h1
  go_enter Tryz.func99, Tryz.ntmps99
  have cA := hcpA ((w.alloc (.cells ROW.toArray 108)).drew) rfl 3 (G - k)
  go_wp2_with (at_builtin; refine Lib.wpList_append_run _ rfl _ _ _ _ rfl _ _ rfl rfl _ _ (hrz _) ?_)
  have cB := hcpB ((w.alloc (Obj.cells ROW.toArray 108)).drew.setRow w.heap.size R1.toArray).drew rfl 3 (G - (k + 1)) (c - k)
  go_region_law (refine step_copy2 rfl _ _ 80 80 rfl (.slice (some ⟨w.heap.size, (k + 1) * 2, none⟩) (n - k) (G - (k + 1))) (.slice (some ⟨g, k * 2, none⟩) (n - k) (c - k)) (by simp [Act.eval, Act.put]) (by simp [Act.eval, Act.put]) cB ?_)
  go_wp2_with fail
  go_ret
  exact HF.out _ rfl rfl rfl rfl

/-- slices.Insert with one write. -/
theorem insert_any (v : Value) (n k : Nat) (xs : List Value) (vb : Nat) (t : TypeId) (a b : Value) (w : World) (hown : w.ownsRow 0 108 2 v n xs) (hn : n ≤ 4096) (hk : k ≤ n) (hv : w.heap[vb]? = some (.cells #[a, b] t (0, 0))) (hvb : v.ownBlock ≠ some vb) (ha : a.oneCell' = true) (hb : b.oneCell' = true) (h1 : ∀ u ∈ xs, u.oneCell' = true) :
    Calls Tryz.prog 99 #[v, .int .i64 k, .slice (some ⟨vb, 0, none⟩) 1 1] w (Inserted w v n k xs a b) := by
  rcases (show k = n ∨ k < n by omega) with rfl | hlt
  · exact insert_end v k xs vb t a b w hown hn hv ha hb
  · rcases hown.2 with ⟨rfl, rfl⟩ | ⟨g, c, cur, rfl, _⟩
    · omega
    · rcases Nat.lt_or_ge c (n + 1) with h | h
      · exact insert_grow g c n k xs vb t a b w hown hn hlt h hv ha hb h1
      · exact insert_room g c n k xs vb t a b w hown hn hlt h hv (by simpa [Value.ownBlock, eq_comm] using hvb) ha hb h1

end Go.Proofs.YtkmnhpnlkmiiiaaGreatDoor
