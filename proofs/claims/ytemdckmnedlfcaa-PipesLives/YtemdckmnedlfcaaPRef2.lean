/- What the document's New, Hold, Drop do. -/
import Derived.Test.YtemdckmnedlfcaaPRef
namespace Go.Proofs.Ytemdckmnedlfcaa
open Go.RowKit Lend
set_option linter.unusedVariables false

theorem Try.info67 : (Try.prog.info? 67).map (fun i => (i.zero, i.size, i.bytes)) = some (some (.agg #[.bool false, .int .i64 0, .int .i64 0, .slice none 0 0]), 4, 48) := by kernel_rfl

theorem made67 : (madeCells (Value.agg #[.bool false, .int .i64 0, .int .i64 0, .slice none 0 0]).cells (5 * 4)).toList = (List.replicate 5 [Value.bool false, .int .i64 0, .int .i64 0, .slice none 0 0]).flatten := by kernel_rfl

set_option maxHeartbeats 1000000 in
theorem rnew_any (d : Int) (w : World) (B : Nat) (hB : B ≤ w.heap.size) :
    Calls Try.prog 9 #[.int .i64 d] w fun e w' => ∃ q g, e = .returned (.pointer (some ⟨q, 0, none⟩)) ∧ Rt B w' q g d (fun _ => (none, 0)) noPipes ∧ Below w.heap.size w w' := by
  obtain ⟨i0, hi0, hz0, hz1, hz2⟩ := info_parts Try.info67
  go_enter Try.func9, Try.ntmps9
  go_wp2_with (at_make; go_must (refine wpList_make_lc _ rfl _ _ 62 rfl 67 i0 _ 4 Try.underlying62 hi0 hz0 hz1 .i64 .i64 5 5 5 5 rfl rfl rfl rfl (Nat.le_refl _) (by rw [hz2]; decide) (by unfold maxLen; decide) ?_))
  go_ret
  obtain ⟨M, gM⟩ : ∃ M, M = madeCells (Value.agg #[.bool false, .int .i64 0, .int .i64 0, .slice none 0 0]).cells (5 * 4) := ⟨_, rfl⟩
  have hl : M.toList = (List.replicate 5 [Value.bool false, .int .i64 0, .int .i64 0, .slice none 0 0]).flatten := by rw [gM]; exact made67
  obtain ⟨W1, gW⟩ : ∃ W1, W1 = w.alloc (.cells M 67) := ⟨_, rfl⟩
  have hz : W1.heap.size = w.heap.size + 1 := by rw [gW]; simp
  have hb1 : Below w.heap.size w W1 := by rw [gW]; exact (Below.refl _ _).alloc (Nat.le_refl _) _
  have hg1 : W1.heap[w.heap.size]? = some (.cells M 67 (0, 0)) := by rw [gW]; exact heap_alloc_new w _
  obtain ⟨W2, gW2⟩ : ∃ W2, W2 = W1.alloc (.cells #[.slice (some ⟨w.heap.size, 0, none⟩) 5 5, .int .i64 d] 64) := ⟨_, rfl⟩
  have hb2 : Below W1.heap.size W1 W2 := by rw [gW2]; exact (Below.refl _ _).alloc (Nat.le_refl _) _
  have hg2 : W2.heap[w.heap.size + 1]? = some (.cells #[.slice (some ⟨w.heap.size, 0, none⟩) 5 5, .int .i64 d] 64 (0, 0)) := by
    have := heap_alloc_new W1 (.cells #[.slice (some ⟨w.heap.size, 0, none⟩) 5 5, .int .i64 d] 64)
    rw [hz] at this; rw [gW2]; exact this
  have hg3 : W2.heap[w.heap.size]? = some (.cells M.toList.toArray 67 (0, 0)) := by rw [hb2.block _ (by omega), hg1]
  have key : Rt B W2 (w.heap.size + 1) w.heap.size d (fun _ => (none, 0)) noPipes := by
    refine ⟨hg2, ⟨M.toList, hg3, by rw [hl]; rfl, ?_⟩, fun i hi => World.ownsRow_nil _ _ _ _, fun i hi => rfl, by omega, hB⟩
    rw [hl]
    intro i hi
    obtain rfl | rfl | rfl | rfl | rfl : i = 0 ∨ i = 1 ∨ i = 2 ∨ i = 3 ∨ i = 4 := by omega
    all_goals exact ⟨rfl, rfl, rfl, rfl⟩
  have fin : Below w.heap.size w W2 := hb1.trans (hb2.mono (by omega))
  rw [gW2, gW, gM] at key fin
  exact ⟨w.heap.size + 1, w.heap.size, by simp, key, fin⟩

set_option maxHeartbeats 1000000 in
set_option maxRecDepth 20000 in
theorem rhold_any (B q g : Nat) (n d : Int) (b : Bool) (A : Nat → Option Addr × Nat) (R : Nat → Pp) (w : World) (h : Rt B w q g d A R) (hm : ∀ i, i < 5 → (R i).r ≤ 1000 ∧ (R i).w ≤ 1000) :
    Calls Try.prog 20 #[.pointer (some ⟨q, 0, none⟩), .int .i64 n, .bool b] w fun e w' => e = .returned (.int .i64 (holdE R n b)) ∧ (∃ A', Rt B w' q g d A' (holdP R n b)) ∧ Upd (· = g) w w' := by
  have k1 := hid (rthere_any B q g n d A R w h)
  have H := hid h
  have e1 := h.cellL
  cases hn : has R n
  · have hE : holdE R n b = 9 := by simp [holdE, hn]
    have hP : holdP R n b = R := by simp [holdP, hn]
    rw [hE, hP]
    rw [hn] at k1
    clear hE hP hn h
    go_enter Try.func20, Try.ntmps20
    go_wp2_with fail
    refine k1.out.mono ?_
    rintro e w1 ⟨rfl, rfl⟩
    go_wp2_with fail
    go_ret
    exact ⟨rfl, ⟨_, H.out⟩, Upd.refl _ _⟩
  · rw [hn] at k1
    obtain ⟨i, rfl, h1, h4, hi⟩ := has_some hn
    have hmi := hm i (by omega)
    have e2 := h.cell1 i (by omega)
    have e3 := h.cell2 i (by omega)
    have ef := h.frozen
    have c3 : (0 : Int) ≤ i := by omega
    have c5 : (i : Int) < 5 := by omega
    have hth : ∀ m, ((R i).setEnds b (m + 1)).there = true := by intro m; unfold Pp.there Pp.setEnds; cases b <;> simp
    have HH : Hid (∀ m, clr ((R i).setEnds b (m + 1)) = (R i).setEnds b (m + 1)) := hid (fun m => clr_yes (hth m))
    have hE : holdE R (i : Int) b = if (R i).ends b = 1000 then 11 else 0 := by simp [holdE, hn]
    have hP : holdP R (i : Int) b = if (R i).ends b = 1000 then R else updP R i ((R i).setEnds b ((R i).ends b + 1)) := by simp [holdP, hn]
    rw [hE, hP]
    cases b
    · have HN : Hid (Rt B (w.setCell ⟨g, i * 4 + 1, none⟩ (.int .i64 ((R i).r + 1 : Nat))) q g d (updA A i (A i)) (updP R i ((R i).setEnds false ((R i).r + 1)))) :=
        hid (h.put1 i (by omega) _ (A i) (HH.out _) 1 _ (by exact h.own i (by omega)) (by omega) (by rw [hth, hi]) (by simp [Pp.setEnds]) (by simp [Pp.setEnds]) (by simp [Pp.setEnds]) (by omega))
      simp only [Pp.ends, Bool.false_eq_true, if_false]
      obtain ⟨r, gr⟩ : ∃ r, r = (R i).r := ⟨_, rfl⟩
      rw [← gr] at e2 HN hmi ⊢
      clear hE hP hn h hth hm gr HH
      by_cases c : r = 1000
      · rw [if_pos c, if_pos c]
        subst c
        go_enter Try.func20, Try.ntmps20
        go_wp2_with fail
        refine k1.out.mono ?_
        rintro e w1 ⟨rfl, rfl⟩
        go_wp2_with fail
        go_ret
        exact ⟨rfl, ⟨_, H.out⟩, Upd.refl _ _⟩
      · rw [if_neg c, if_neg c]
        have c1 : ¬ (1000 : Int) ≤ r := by omega
        have ef1 := ef (i * 4 + 1)
        clear ef c
        go_enter Try.func20, Try.ntmps20
        go_wp2_with fail
        refine k1.out.mono ?_
        rintro e w1 ⟨rfl, rfl⟩
        go_wp2_with fail
        go_ret
        exact ⟨rfl, ⟨updA A i (A i), HN.out⟩, Upd.setCell _ _ _ rfl⟩
    · have HN : Hid (Rt B (w.setCell ⟨g, i * 4 + 2, none⟩ (.int .i64 ((R i).w + 1 : Nat))) q g d (updA A i (A i)) (updP R i ((R i).setEnds true ((R i).w + 1)))) :=
        hid (h.put1 i (by omega) _ (A i) (HH.out _) 2 _ (by exact h.own i (by omega)) (by omega) (by rw [hth, hi]) (by simp [Pp.setEnds]) (by simp [Pp.setEnds]) (by simp [Pp.setEnds]) (by omega))
      simp only [Pp.ends, if_true]
      obtain ⟨r, gr⟩ : ∃ r, r = (R i).w := ⟨_, rfl⟩
      rw [← gr] at e3 HN hmi ⊢
      clear hE hP hn h hth hm gr HH
      by_cases c : r = 1000
      · rw [if_pos c, if_pos c]
        subst c
        go_enter Try.func20, Try.ntmps20
        go_wp2_with fail
        refine k1.out.mono ?_
        rintro e w1 ⟨rfl, rfl⟩
        go_wp2_with fail
        go_ret
        exact ⟨rfl, ⟨_, H.out⟩, Upd.refl _ _⟩
      · rw [if_neg c, if_neg c]
        have c1 : ¬ (1000 : Int) ≤ r := by omega
        have ef1 := ef (i * 4 + 2)
        clear ef c
        go_enter Try.func20, Try.ntmps20
        go_wp2_with fail
        refine k1.out.mono ?_
        rintro e w1 ⟨rfl, rfl⟩
        go_wp2_with fail
        go_ret
        exact ⟨rfl, ⟨updA A i (A i), HN.out⟩, Upd.setCell _ _ _ rfl⟩

section
variable {B : Nat} {w w' : World} {q g : Nat} {d : Int} {A : Nat → Option Addr × Nat} {R : Nat → Pp}
/-- A pipe goes: all four cells are stored anew, behind one of them. -/
theorem Rt.gone (h : Rt B w q g d A R) (i : Nat) (hi : i < 5) (o : Nat) (v : Value) (ho : o < 4) :
    Rt B ((w.setCell ⟨g, i * 4 + o, none⟩ v).drew.setCells g (i * 4) [.bool false, .int .i64 0, .int .i64 0, .slice none 0 0]) q g d (updA A i (none, 0)) (updP R i ⟨0, 0, []⟩) ∧
      (w.setCell ⟨g, i * 4 + o, none⟩ v).drew.there g (i * 4) 4 ∧ Upd (· = g) w ((w.setCell ⟨g, i * 4 + o, none⟩ v).drew.setCells g (i * 4) [.bool false, .int .i64 0, .int .i64 0, .slice none 0 0]) := by
  obtain ⟨C, hb, hcl, hc⟩ := h.row
  have hs : (w.setCell ⟨g, i * 4 + o, none⟩ v).drew.heap[g]? = some (.cells (C.set (i * 4 + o) v).toArray 67 (0, 0)) := by
    have := heap_setCell_same w g (i * 4 + o) C.toArray 67 v hb
    show (w.setCell ⟨g, i * 4 + o, none⟩ v).heap[g]? = _
    rw [this]; simp
  have hl : i * 4 + [Value.bool false, .int .i64 0, .int .i64 0, .slice none 0 0].length ≤ (C.set (i * 4 + o) v).length := by simp [hcl]; omega
  have hin := fun j (hj : j < 4) => getElem?_splice_in (C.set (i * 4 + o) v) [Value.bool false, .int .i64 0, .int .i64 0, .slice none 0 0] (i * 4) j hl hj
  have hu : Upd (· = g) w ((w.setCell ⟨g, i * 4 + o, none⟩ v).drew.setCells g (i * 4) [.bool false, .int .i64 0, .int .i64 0, .slice none 0 0]) :=
    ((Upd.setCell (F := (· = g)) w ⟨g, i * 4 + o, none⟩ v rfl).drewN 1).trans (upd_setCells g _ _ _) (fun _ _ h => h)
  refine ⟨h.put i hi ⟨0, 0, []⟩ (none, 0) rfl hu _ (heap_setCells g 67 _ _ _ _ hs hl) (by rw [length_splice _ _ _ hl]; simp [hcl]) ?_ (hin 0 (by omega)) (hin 1 (by omega)) (hin 2 (by omega)) (hin 3 (by omega)) (World.ownsRow_nil _ _ _ _), there_of_block hs (i * 4) 4 (by simp [hcl]; omega), hu⟩
  intro C2 hb2 _ j hj
  rw [hb] at hb2
  have e : C = C2 := by injection hb2 with e; injection e with e; simpa using e
  rw [← e, getElem?_splice_out _ _ _ _ hl (by simpa using hj), List.getElem?_set_ne (by omega)]
/-- The other cells behind a store of one. -/
theorem Rt.after (h : Rt B w q g d A R) (o o' : Nat) (v : Value) (ho' : o' < 20) : (w.setCell ⟨g, o, none⟩ v).cell? ⟨g, o', none⟩ = if o' = o then some v else w.cell? ⟨g, o', none⟩ := by
  obtain ⟨C, hb, hcl, hc⟩ := h.row
  have hs := heap_setCell_same w g o C.toArray 67 v hb
  rw [cell_of_row _ g o' _ 67 (0, 0) hs, cell_of_row _ g o' _ 67 (0, 0) hb]
  by_cases e : o' = o
  · subst e; simp [hcl, ho']
  · simp [e, Ne.symm e]
end

set_option maxHeartbeats 2000000 in
set_option maxRecDepth 20000 in
theorem rdrop_any (B q g : Nat) (n d : Int) (b : Bool) (A : Nat → Option Addr × Nat) (R : Nat → Pp) (w : World) (h : Rt B w q g d A R) (hm : ∀ i, i < 5 → (R i).r ≤ 1000 ∧ (R i).w ≤ 1000) :
    Calls Try.prog 22 #[.pointer (some ⟨q, 0, none⟩), .int .i64 n, .bool b] w fun e w' => e = .returned (.int .i64 (dropE R n b)) ∧ (∃ A', Rt B w' q g d A' (dropP (bit8 d) R n b)) ∧ Upd (· = g) w w' := by
  have k1 := hid (rthere_any B q g n d A R w h)
  have H := hid h
  have e1 := h.cellL
  have eD := h.cellD
  cases hn : has R n
  · have hE : dropE R n b = 9 := by simp [dropE, hn]
    have hP : dropP (bit8 d) R n b = R := by simp [dropP, hn]
    rw [hE, hP]
    rw [hn] at k1
    clear hE hP hn h
    go_enter Try.func22, Try.ntmps22
    go_wp2_with fail
    refine k1.out.mono ?_
    rintro e w1 ⟨rfl, rfl⟩
    go_wp2_with fail
    go_ret
    exact ⟨rfl, ⟨_, H.out⟩, Upd.refl _ _⟩
  · rw [hn] at k1
    obtain ⟨i, rfl, h1, h4, hi⟩ := has_some hn
    have hmi := hm i (by omega)
    have e2 := h.cell1 i (by omega)
    have e3 := h.cell2 i (by omega)
    have c3 : (0 : Int) ≤ i := by omega
    have c5 : (i : Int) < 5 := by omega
    have hE : dropE R (i : Int) b = if (R i).ends b = 0 then 22 else 0 := by simp [dropE, hn]
    have hP : dropP (bit8 d) R (i : Int) b = if (R i).ends b = 0 then R else if b && bit8 d then R else updP R i (clr ((R i).setEnds b ((R i).ends b - 1))) := by simp [dropP, hn]
    rw [hE, hP]
    cases b
    · simp only [Pp.ends, Bool.false_eq_true, if_false]
      obtain ⟨u, gu⟩ : ∃ u, u = (R i).r := ⟨_, rfl⟩
      rcases Nat.eq_zero_or_pos u with u0 | u0
      · have ux : (R i).r = 0 := by omega
        rw [if_pos ux, if_pos ux]
        rw [ux] at e2
        clear hE hP hn h hm gu ux u0
        go_enter Try.func22, Try.ntmps22
        go_wp2_with fail
        refine k1.out.mono ?_
        rintro e w1 ⟨rfl, rfl⟩
        go_wp2_with fail
        go_ret
        exact ⟨rfl, ⟨_, H.out⟩, Upd.refl _ _⟩
      · have ux : ¬ (R i).r = 0 := by omega
        rw [if_neg ux, if_neg ux]
        obtain ⟨v, gv⟩ : ∃ v, v + 1 = u := ⟨u - 1, by omega⟩
        have gx : (R i).r = v + 1 := by omega
        rw [gx]
        rw [gx] at e2 hmi
        simp only [Nat.add_sub_cancel]
        have ef := h.frozen (i * 4 + 1)
        obtain ⟨r, gr⟩ : ∃ r, r = (R i).w := ⟨_, rfl⟩
        rw [← gr] at e3 hmi
        have z1 : ∀ x, (w.setCell ⟨g, i * 4 + 1, none⟩ x).cell? ⟨g, i * 4 + 1, none⟩ = some x := fun x => by rw [h.after _ _ _ (by omega), if_pos rfl]
        have z2 : ∀ x, (w.setCell ⟨g, i * 4 + 1, none⟩ x).cell? ⟨g, i * 4 + 2, none⟩ = some (.int .i64 r) := fun x => by rw [h.after _ _ _ (by omega), if_neg (by omega)]; exact e3
        have c1 : ¬ ((v : Int) + 1 = 0) := by omega
        simp only [Bool.false_and, Bool.false_eq_true, if_false]
        by_cases cg : r = 0 ∧ v = 0
        · obtain ⟨rfl, rfl⟩ := cg
          have hcl : clr ((R i).setEnds false 0) = ⟨0, 0, []⟩ := by simp [clr, Pp.there, Pp.setEnds, ← gr]
          rw [hcl]
          obtain ⟨hg1, hg2, hg3⟩ := h.gone i (by omega) 1 (.int .i64 ((0 : Nat) : Int)) (by omega)
          have HG1 := hid hg1
          have HG2 := hid hg2
          have HG3 := hid hg3
          have y1 := z1 (.int .i64 ((0 : Nat) : Int))
          have y2 := z2 (.int .i64 ((0 : Nat) : Int))
          simp only [Int.natCast_zero] at y1 y2 HG1 HG2 HG3 e2 e3
          clear hE hP hn h hm gu ux u0 gv gx gr hcl hg1 hg2 hg3 z1 z2 c1 hmi
          go_enter Try.func22, Try.ntmps22
          go_wp2_with fail
          refine k1.out.mono ?_
          rintro e w1 ⟨rfl, rfl⟩
          go_wp2_with fail
          go_region_held3 (fun wx => wx.cell? ⟨g, i * 4 + 1, none⟩ = some (.int .i64 0) ∧ wx.cell? ⟨g, i * 4 + 2, none⟩ = some (.int .i64 0)) (go_keep) (fail)
          go_wp2_with (refine wpList_store_mid rfl 67 (.tmp 73) (.tmp 72) rfl g (i * 4) #[.bool false, .int .i64 0, .int .i64 0, .slice none 0 0] rfl rfl HG2.out csize67 (by simp [Value.oneCell']) ?_)
          go_ret
          exact ⟨rfl, ⟨_, HG1.out⟩, HG3.out⟩
        · have hth : ((R i).setEnds false v).there = true := by simp [Pp.there, Pp.setEnds, ← gr]; omega
          rw [clr_yes hth]
          have HN : Hid (Rt B (w.setCell ⟨g, i * 4 + 1, none⟩ (.int .i64 (v : Int))) q g d (updA A i (A i)) (updP R i ((R i).setEnds false v))) :=
            hid (h.put1 i (by omega) _ (A i) (clr_yes hth) 1 _ (by exact h.own i (by omega)) (by omega) (by rw [hth, hi]) (by simp [Pp.setEnds]) (by simp [Pp.setEnds]) (by simp [Pp.setEnds]) (by omega))
          have y1 := z1 (.int .i64 (v : Int))
          have y2 := z2 (.int .i64 (v : Int))
          have cs : (IntKind.i64.wrap ((v : Int) + (r : Int)) == 0) = false := by
            rw [show IntKind.i64.wrap ((v : Int) + (r : Int)) = (v : Int) + (r : Int) by rw [IntKind.wrap_i64]; omega]
            exact beq_eq_false_iff_ne.2 (by omega)
          clear hE hP hn h hm gu ux u0 gv gx gr z1 z2 cg hth
          go_enter Try.func22, Try.ntmps22
          go_wp2_with fail
          refine k1.out.mono ?_
          rintro e w1 ⟨rfl, rfl⟩
          go_wp2_with fail
          go_region_held3 (fun wx => wx.cell? ⟨g, i * 4 + 1, none⟩ = some (.int .i64 (v : Int)) ∧ wx.cell? ⟨g, i * 4 + 2, none⟩ = some (.int .i64 (r : Int))) (go_keep) (fail)
          go_wp2_with fail
          go_ret
          exact ⟨rfl, ⟨updA A i (A i), HN.out.hp rfl⟩, (Upd.setCell (F := (· = g)) _ ⟨g, i * 4 + 1, none⟩ _ rfl).drewN 1⟩
    · simp only [Pp.ends, if_true]
      obtain ⟨u, gu⟩ : ∃ u, u = (R i).w := ⟨_, rfl⟩
      rcases Nat.eq_zero_or_pos u with u0 | u0
      · have ux : (R i).w = 0 := by omega
        rw [if_pos ux, if_pos ux]
        rw [ux] at e3
        clear hE hP hn h hm gu ux u0
        go_enter Try.func22, Try.ntmps22
        go_wp2_with fail
        refine k1.out.mono ?_
        rintro e w1 ⟨rfl, rfl⟩
        go_wp2_with fail
        go_ret
        exact ⟨rfl, ⟨_, H.out⟩, Upd.refl _ _⟩
      · have ux : ¬ (R i).w = 0 := by omega
        rw [if_neg ux, if_neg ux]
        obtain ⟨v, gv⟩ : ∃ v, v + 1 = u := ⟨u - 1, by omega⟩
        have gx : (R i).w = v + 1 := by omega
        rw [gx]
        rw [gx] at e3 hmi
        simp only [Nat.add_sub_cancel]
        have ef := h.frozen (i * 4 + 2)
        obtain ⟨r, gr⟩ : ∃ r, r = (R i).r := ⟨_, rfl⟩
        rw [← gr] at e2 hmi
        have z1 : ∀ x, (w.setCell ⟨g, i * 4 + 2, none⟩ x).cell? ⟨g, i * 4 + 2, none⟩ = some x := fun x => by rw [h.after _ _ _ (by omega), if_pos rfl]
        have z2 : ∀ x, (w.setCell ⟨g, i * 4 + 2, none⟩ x).cell? ⟨g, i * 4 + 1, none⟩ = some (.int .i64 r) := fun x => by rw [h.after _ _ _ (by omega), if_neg (by omega)]; exact e2
        have c1 : ¬ ((v : Int) + 1 = 0) := by omega
        cases hk : bit8 d
        · simp only [Bool.and_false, Bool.false_eq_true, if_false]
          have hk' : (bits .and .i64 d 8 != 0) = false := hk
          have hk2 : bits .and .i64 d 8 = 0 := by simpa using hk'
          clear hk hk'
          by_cases cg : r = 0 ∧ v = 0
          · obtain ⟨rfl, rfl⟩ := cg
            have hcl : clr ((R i).setEnds true 0) = ⟨0, 0, []⟩ := by simp [clr, Pp.there, Pp.setEnds, ← gr]
            rw [hcl]
            obtain ⟨hg1, hg2, hg3⟩ := h.gone i (by omega) 2 (.int .i64 ((0 : Nat) : Int)) (by omega)
            have HG1 := hid hg1
            have HG2 := hid hg2
            have HG3 := hid hg3
            have y1 := z1 (.int .i64 ((0 : Nat) : Int))
            have y2 := z2 (.int .i64 ((0 : Nat) : Int))
            simp only [Int.natCast_zero] at y1 y2 HG1 HG2 HG3 e2 e3
            clear hE hP hn h hm gu ux u0 gv gx gr hcl hg1 hg2 hg3 z1 z2 c1 hmi
            go_enter Try.func22, Try.ntmps22
            go_wp2_with fail
            refine k1.out.mono ?_
            rintro e w1 ⟨rfl, rfl⟩
            go_wp2_with fail
            go_region_held3 (fun wx => wx.cell? ⟨g, i * 4 + 1, none⟩ = some (.int .i64 0) ∧ wx.cell? ⟨g, i * 4 + 2, none⟩ = some (.int .i64 0)) (go_keep) (fail)
            go_wp2_with (refine wpList_store_mid rfl 67 (.tmp 73) (.tmp 72) rfl g (i * 4) #[.bool false, .int .i64 0, .int .i64 0, .slice none 0 0] rfl rfl HG2.out csize67 (by simp [Value.oneCell']) ?_)
            go_ret
            exact ⟨rfl, ⟨_, HG1.out⟩, HG3.out⟩
          · have hth : ((R i).setEnds true v).there = true := by simp [Pp.there, Pp.setEnds, ← gr]; omega
            rw [clr_yes hth]
            have HN : Hid (Rt B (w.setCell ⟨g, i * 4 + 2, none⟩ (.int .i64 (v : Int))) q g d (updA A i (A i)) (updP R i ((R i).setEnds true v))) :=
              hid (h.put1 i (by omega) _ (A i) (clr_yes hth) 2 _ (by exact h.own i (by omega)) (by omega) (by rw [hth, hi]) (by simp [Pp.setEnds]) (by simp [Pp.setEnds]) (by simp [Pp.setEnds]) (by omega))
            have y1 := z1 (.int .i64 (v : Int))
            have y2 := z2 (.int .i64 (v : Int))
            have cs : (IntKind.i64.wrap ((r : Int) + (v : Int)) == 0) = false := by
              rw [show IntKind.i64.wrap ((r : Int) + (v : Int)) = (r : Int) + (v : Int) by rw [IntKind.wrap_i64]; omega]
              exact beq_eq_false_iff_ne.2 (by omega)
            clear hE hP hn h hm gu ux u0 gv gx gr z1 z2 cg hth
            go_enter Try.func22, Try.ntmps22
            go_wp2_with fail
            refine k1.out.mono ?_
            rintro e w1 ⟨rfl, rfl⟩
            go_wp2_with fail
            go_region_held3 (fun wx => wx.cell? ⟨g, i * 4 + 2, none⟩ = some (.int .i64 (v : Int)) ∧ wx.cell? ⟨g, i * 4 + 1, none⟩ = some (.int .i64 (r : Int))) (go_keep) (fail)
            go_wp2_with fail
            go_ret
            exact ⟨rfl, ⟨updA A i (A i), HN.out.hp rfl⟩, (Upd.setCell (F := (· = g)) _ ⟨g, i * 4 + 2, none⟩ _ rfl).drewN 1⟩
        · simp only [Bool.and_true, if_true]
          have hk' : (bits .and .i64 d 8 != 0) = true := hk
          have hk2 : ¬ bits .and .i64 d 8 = 0 := by simpa using hk'
          clear hE hP hn h hm gu ux u0 gv gx gr z1 z2 hk hk'
          go_enter Try.func22, Try.ntmps22
          go_wp2_with fail
          refine k1.out.mono ?_
          rintro e w1 ⟨rfl, rfl⟩
          go_wp2_with fail
          go_ret
          exact ⟨rfl, ⟨_, H.out⟩, Upd.refl _ _⟩

end Go.Proofs.Ytemdckmnedlfcaa
