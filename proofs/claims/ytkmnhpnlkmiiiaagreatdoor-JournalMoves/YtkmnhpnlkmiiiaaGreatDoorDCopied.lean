/- What slices.Clone of writes and disk.copied do: epochs in memory of their own. -/
import Derived.Test.YtkmnhpnlkmiiiaaGreatDoorDWrite
namespace Go.Proofs.YtkmnhpnlkmiiiaaGreatDoor
open Go.RowKit
set_option linter.unusedVariables false

set_option maxHeartbeats 1000000 in
set_option maxRecDepth 20000 in
theorem sentclone_any (v : Value) (n : Nat) (xs : List Value) (w : World) (hown : w.ownsRow 0 108 2 v n xs) (hn : n ≤ 4096) (h1 : ∀ u ∈ xs, u.oneCell' = true) :
    Calls Tryz.prog 70 #[v] w fun e w' => ∃ v', e = .returned v' ∧ w'.ownsRow 0 108 2 v' n xs ∧ (∀ x, v'.ownBlock = some x → w.heap.size ≤ x) ∧ Below w.heap.size w w' := by
  obtain ⟨i0, hi, hz0, hz1, hz2⟩ := info_parts Tryz.infoSE
  rcases hown.2 with ⟨rfl, rfl⟩ | ⟨g, c, cur, rfl, _, hg, hnc, hcm, hcs, htake⟩
  · have hq := Lib.run_eql_slice_nil (P := Tryz.prog) w 80 108 none 0 0 0 0 Tryz.underlying80
    simp only [Option.isNone_none] at hq
    have HO := hid hown
    clear hown
    go_enter Tryz.func70, Tryz.ntmps70
    go_wp2
    go_ret
    exact ⟨_, rfl, HO.out, fun x hx => by simp [Value.ownBlock] at hx, Below.refl _ _⟩
  · have hb0 : Below w.heap.size w (w.alloc (.cells #[] 108)) := (Below.refl _ _).alloc (Nat.le_refl _) _
    have HL : Hid (xs.length = n * 2) := hown.1
    have H1 := hid h1
    have HN : Hid (∀ j u, xs[j]? = some u → (w.alloc (.cells #[] 108)).cell? ((⟨g, 0, none⟩ : Addr).add j) = some u) := by
      intro j u hj
      rw [Addr.add_lit, Nat.zero_add, hb0.cell (p := ⟨g, j, none⟩) (hown.lt g rfl).2]
      refine heap_cells hg j u ?_
      rw [← htake, List.getElem?_take] at hj
      split at hj
      · exact hj
      · cases hj
    have HO : Hid ((w.alloc (.cells #[] 108)).ownsRow w.heap.size 108 2 (.slice (some ⟨w.heap.size, 0, none⟩) 0 0) 0 []) := World.ownsRow_made w #[] 0 (Nat.le_refl _) (by unfold maxLen; omega) rfl
    have HB := hid hb0
    have hc63 : c ≤ 9223372036854775807 := by unfold maxLen at hcm; omega
    have hq := Lib.run_eql_slice_nil (P := Tryz.prog) w 80 108 (some ⟨g, 0, none⟩) n c 0 0 Tryz.underlying80
    simp only [Option.isNone_some] at hq
    clear hown hb0 h1 hg htake
    go_enter Tryz.func70, Tryz.ntmps70
    go_wp2_with (at_builtin; go_must (refine wpList_append_own _ rfl (.tmp 5) (.tmp 6) 80 rfl w.heap.size 108 i0 _ 2 32 Tryz.underlying80 hi hz0 hz1 hz2 rfl (by decide) (.slice (some ⟨w.heap.size, 0, none⟩) 0 0) 0 [] rfl HO.out ⟨g, 0, none⟩ n c xs rfl HL.out HN.out H1.out (by unfold maxLen; omega) (by omega) (by simp) ?_))
    intro v' w1 hown hgrow hnil
    have hb1 := HB.out.grown hgrow (by simp) (by intro q hq; simp [Value.ownBlock] at hq; omega)
    have HW := hid hown
    clear hown hgrow hnil
    go_wp2_with fail
    go_ret
    have h := HW.out
    exact ⟨_, rfl, own_base h (Nat.zero_le _), fun x hx => (h.lt x hx).1, hb1⟩

/-- The inner loop: so many writes of an epoch have bytes of their own. -/
structure Half (w2 wr : World) (vi : Value) (es T : List Snt) (j : Nat) : Prop where
  len : T.length = j
  row : wr.ownsRow 0 108 2 vi es.length (sentCells (T ++ es.drop j))
  ok : ∀ s ∈ T, s.ok wr
  ab : T.map Snt.ab = (es.take j).map Snt.ab
  nodup : (T.map Snt.blk).Nodup
  new : ∀ x ∈ T.map Snt.blk, w2.heap.size ≤ x
  upd : Upd (fun x => vi.ownBlock = some x) w2 wr

theorem sentCells_set (A B : List Snt) (s : Snt) (b cap : Nat) : (sentCells (A ++ s :: B)).set (A.length * 2 + 1) (.slice (some ⟨b, 0, none⟩) 128 cap) = sentCells ((A ++ [{ s with blk := b, cap := cap }]) ++ B) := by
  have h1 : sentCells (A ++ s :: B) = sentCells A ++ (.int .i64 s.sec :: s.val :: sentCells B) := by simp [sentCells]
  have h2 : sentCells ((A ++ [{ s with blk := b, cap := cap }]) ++ B) = sentCells A ++ (.int .i64 s.sec :: .slice (some ⟨b, 0, none⟩) 128 cap :: sentCells B) := by simp [sentCells, Snt.val]
  rw [h1, h2, List.set_append, if_neg (by rw [sentCells_len]; omega), sentCells_len]
  rw [show A.length * 2 + 1 - A.length * 2 = 1 by omega]
  rfl

theorem Half.step {w2 wr w3 : World} {vi : Value} {es T : List Snt} {j gi ci gb cb : Nat} (h : Half w2 wr vi es T j) (hj : j < es.length) (hvi : vi = .slice (some ⟨gi, 0, none⟩) es.length ci) (hb : Below wr.heap.size wr w3) (hgi : gi < w2.heap.size)
    (hgb : wr.heap.size ≤ gb) (hown : w3.ownsRow 0 5 1 (.slice (some ⟨gb, 0, none⟩) 128 cb) 128 (es[j].bs.map (Value.int .u8))) (hbl : es[j].bs.length = 128) :
    Half w2 (w3.setCell ⟨gi, j * 2 + 1, none⟩ (.slice (some ⟨gb, 0, none⟩) 128 cb)) vi es (T ++ [{ es[j] with blk := gb, cap := cb }]) (j + 1) := by
  have hrow3 := own_below h.row hb
  rw [hvi] at hrow3
  have hst := hrow3.stored (j * 2 + 1) (.slice (some ⟨gb, 0, none⟩) 128 cb)
  have hd : es.drop j = es[j] :: es.drop (j + 1) := (List.drop_eq_getElem_cons hj)
  have hset : (sentCells (T ++ es.drop j)).set (j * 2 + 1) (.slice (some ⟨gb, 0, none⟩) 128 cb) = sentCells ((T ++ [{ es[j] with blk := gb, cap := cb }]) ++ es.drop (j + 1)) := by
    have h9 := sentCells_set T (es.drop (j + 1)) es[j] gb cb
    rw [h.len] at h9
    rw [hd]
    exact h9
  have hU : Upd (· = gi) w3 (w3.setCell ⟨gi, j * 2 + 1, none⟩ (.slice (some ⟨gb, 0, none⟩) 128 cb)) := Upd.setCell w3 _ _ rfl
  have hsz := h.upd.size
  refine ⟨by simp [h.len], ?_, fun s hs => ?_, ?_, ?_, ?_, ?_⟩
  · rw [hvi, ← hset]; exact hst.1
  · rcases List.mem_append.1 hs with hs | hs
    · have hlt := (h.ok s hs).lt
      have hne : s.blk ≠ gi := by
        intro e
        have h1 := h.new s.blk (List.mem_map.2 ⟨s, hs, rfl⟩)
        omega
      refine (h.ok s hs).frame ((hU.block _ (Nat.lt_of_lt_of_le hlt hb.size) hne).trans (hb.block _ hlt))
    · simp at hs
      subst hs
      refine ⟨hbl, hU.own hown (fun x hx e => ?_)⟩
      simp [Value.ownBlock, Snt.val] at hx
      omega
  · rw [List.map_append, h.ab, List.take_succ_eq_append_getElem hj, List.map_append]
    rfl
  · rw [List.map_append, List.nodup_append]
    refine ⟨h.nodup, by simp, fun a ha b hb' e => ?_⟩
    simp at hb'
    obtain ⟨s, hs, rfl⟩ := List.mem_map.1 ha
    have := (h.ok s hs).lt
    omega
  · intro x hx
    rw [List.map_append] at hx
    rcases List.mem_append.1 hx with hx | hx
    · exact h.new x hx
    · simp at hx; omega
  · refine (h.upd.trans (Upd.of_below hb) (fun _ _ h => h)).trans hU (fun x _ hx => ?_)
    rw [hvi]; simp [Value.ownBlock, hx]

/-- The outer loop: so many epochs are copied. -/
structure Part (w wr : World) (g0 m N i : Nat) (eps E : List Ep) : Prop where
  len : E.length = i
  row : wr.ownsRow 0 80 1 (.slice (some ⟨g0, 0, none⟩) m m) m (E.map Ep.v ++ List.replicate (m - i) (.slice none 0 0))
  ok : ∀ e ∈ E, e.ok wr N
  ab : E.map Ep.ab = (eps.take i).map Ep.ab
  nodup : (g0 :: E.flatMap Ep.foot).Nodup
  new : ∀ x ∈ E.flatMap Ep.foot, w.heap.size ≤ x
  below : Below w.heap.size w wr

theorem Part.lt {w wr : World} {g0 m N i : Nat} {eps E : List Ep} (h : Part w wr g0 m N i eps E) : ∀ x ∈ g0 :: E.flatMap Ep.foot, x < wr.heap.size := by
  intro x hx
  rcases List.mem_cons.1 hx with rfl | hx
  · exact (h.row.lt x rfl).2
  · obtain ⟨e, he, hx⟩ := List.mem_flatMap.1 hx
    exact (h.ok e he).lt x hx

theorem Part.step {w wr w1 w2 w3 : World} {g0 m N i : Nat} {eps E : List Ep} {vi : Value} {es T : List Snt} (h : Part w wr g0 m N i eps E) (hi : i < m) (hie : i < eps.length) (hes : eps[i].es = es) (hrise : Rise N (es.map Snt.sec))
    (hb1 : Below wr.heap.size wr w1) (hw2 : w2 = w1.setCell ⟨g0, i, none⟩ vi) (hvi : ∀ x, vi.ownBlock = some x → wr.heap.size ≤ x) (hH : Half w2 w3 vi es T es.length) (hvl : ∀ x, vi.ownBlock = some x → x < w2.heap.size) (hg0 : w.heap.size ≤ g0) :
    Part w w3 g0 m N (i + 1) eps (E ++ [⟨vi, T⟩]) := by
  have hlt := h.lt
  have hrow1 := own_below h.row hb1
  have hst := hrow1.stored i vi
  rw [← hw2] at hst
  have hsz1 := hb1.size
  have hs12 : w2.heap.size = w1.heap.size := by rw [hw2]; simp
  have hg0l := hlt g0 (by simp)
  have hT := hH.row
  rw [List.drop_length, List.append_nil] at hT
  have hTl : T.length = es.length := hH.len
  have hUold : ∀ x, x < wr.heap.size → x ≠ g0 → w3.heap[x]? = wr.heap[x]? := by
    intro x hx hne
    rw [hH.upd.block x (by omega) (fun hv => by have := hvi x hv; omega), hw2, heap_setCell_other _ _ _ _ hne, hb1.block x hx]
  have hfT : ∀ x ∈ (⟨vi, T⟩ : Ep).foot, wr.heap.size ≤ x := by
    intro x hx
    simp only [Ep.foot, List.mem_append] at hx
    rcases hx with hx | hx
    · exact hvi x (by simpa [vb] using hx)
    · have := hH.new x hx; omega
  have hset : (E.map Ep.v ++ List.replicate (m - i) (Value.slice none 0 0)).set i vi = (E ++ [(⟨vi, T⟩ : Ep)]).map Ep.v ++ List.replicate (m - (i + 1)) (Value.slice none 0 0) := by
    rw [List.set_append, if_neg (by simp [h.len]), show i - (E.map Ep.v).length = 0 by simp [h.len], show m - i = (m - (i + 1)) + 1 by omega, List.replicate_succ]
    simp
  refine ⟨by simp [h.len], ?_, fun e he => ?_, ?_, ?_, ?_, ?_⟩
  · rw [← hset]
    exact hH.upd.own hst.1 (fun x hx hv => by simp [Value.ownBlock] at hx; have := hvi x hv; omega)
  · rcases List.mem_append.1 he with he | he
    · refine (h.ok e he).frame fun x hx => ?_
      have hxm : x ∈ E.flatMap Ep.foot := List.mem_flatMap.2 ⟨e, he, hx⟩
      exact hUold x ((h.ok e he).lt x hx) (fun e0 => (List.nodup_cons.1 h.nodup).1 (e0 ▸ hxm))
    · simp at he
      subst he
      refine ⟨by rw [show (⟨vi, T⟩ : Ep).es.length = es.length from hTl]; exact hT, hH.ok, ?_⟩
      have hab : T.map Snt.sec = es.map Snt.sec := by
        have h5 := congrArg (List.map Prod.fst) hH.ab
        rw [List.take_length] at h5
        simpa [Snt.ab, Function.comp_def] using h5
      show Rise N (T.map Snt.sec)
      rw [hab]
      exact hrise
  · rw [List.map_append, h.ab, List.take_succ_eq_append_getElem hie, List.map_append]
    congr 1
    have h5 := hH.ab
    rw [List.take_length] at h5
    simp [Ep.ab, h5, hes]
  · rw [List.flatMap_append]
    rw [← List.cons_append, List.nodup_append]
    refine ⟨h.nodup, ?_, fun a ha b hb e => ?_⟩
    · simp only [List.flatMap_cons, List.flatMap_nil, List.append_nil, Ep.foot, List.nodup_append]
      refine ⟨by simp only [vb]; cases vi.ownBlock <;> simp, hH.nodup, fun a ha b hb e => ?_⟩
      have h1 := hvl a (by simpa [vb] using ha)
      have h2 := hH.new b hb
      omega
    · have h1 := hlt a ha
      have h2 := hfT b (by simpa using hb)
      omega
  · intro x hx
    rw [List.flatMap_append] at hx
    rcases List.mem_append.1 hx with hx | hx
    · exact h.new x hx
    · have := hfT x (by simpa using hx)
      have := h.below.size
      omega
  · have hbw : Below w.heap.size w w1 := h.below.trans (hb1.mono h.below.size)
    have hb2 : Below w.heap.size w w2 := by rw [hw2]; exact hbw.setCell hg0 vi
    exact hb2.trans (hH.upd.below hb2.size (fun x hx => by have := hvi x hx; have := h.below.size; omega))

end Go.Proofs.YtkmnhpnlkmiiiaaGreatDoor
