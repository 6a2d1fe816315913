/- Texts of this seat, merged. -/
import Derived.Test.YtoknhcjneliboaaGreatFMg38
import Derived.Test.YtoknhcjneliboaaGreatFMg41
import Derived.Test.YtoknhcjneliboaaGreatFMg24
import Derived.Test.YtoknhcjneliboaaGreatFMg26
import Derived.Test.YtoknhcjneliboaaGreatFMg34

/- What Stat, Nodes, Blocks, Pipes, New do (program). -/
namespace Go.Proofs.YtoknhcjneliboaaGreat
open Go.RowKit Go.ChangeMaps Go.MapKept
set_option linter.unusedVariables false
set_option maxRecDepth 20000

set_option maxHeartbeats 2000000 in
theorem tpstat (w : World) (t : Nat) (T : Ft) (G : Nat → Prop) (HP : Tp w t T G) (hT : TOk T) (l : ByteArray) (hs : l.size ≤ 140737488355328) :
    Calls Tryz.prog 37 #[.pointer (some ⟨t, 0, none⟩), .string l] w fun e w' => e = .returned (.tuple #[.agg #[.int .i64 (T.stat (bl l)).1, .int .i64 (T.stat (bl l)).2.1, .int .i64 (T.stat (bl l)).2.2.1], .int .i64 (T.stat (bl l)).2.2.2]) ∧ Below w.heap.size w w' := by
  obtain ⟨p, q, O0, Gn, H, hG⟩ := HP
  obtain ⟨W, gW⟩ : ∃ W, W = w.alloc (Obj.cells #[.int .i64 0, .int .i64 0, .int .i64 0] 87) := ⟨_, rfl⟩
  have hB : Below w.heap.size w W := by rw [gW]; exact one_new _ _
  have hN : W.heap[w.heap.size]? = some (.cells #[.int .i64 0, .int .i64 0, .int .i64 0] 87 (0, 0)) := by rw [gW]; exact heap_alloc_new _ _
  have hZ : w.heap.size < W.heap.size := by rw [gW]; simp
  have k1 := hid (ffind_any W t p q O0 Gn T (H.grow hB) hT l hs)
  have HC := hid (fun X (hX : Below w.heap.size w X) => (H.grow hX).tf.s)
  have k2 := hid (fun X (hX : Below w.heap.size w X) (m : Int) => pstat2 p T.F Gn X (H.grow hX).pf hT.F m)
  have HB := hid hB
  have HN := hid (And.intro hN hZ)
  unfold Ft.stat
  clear H hT hG hB hN hZ
  generalize T.F.find (bl l) = r at k1 ⊢
  obtain ⟨m, E⟩ := r
  dsimp only at k1 ⊢
  by_cases hE : E = 0
  · subst hE
    rw [if_neg (by simp)]
    have k2 := hid (fun X hX => k2.out X hX (m : Int))
    generalize T.F.stat m = s at k2 ⊢
    obtain ⟨s1, s2, s3, s4⟩ := s
    dsimp only at k2 ⊢
    go_enter Tryz.func37, Tryz.ntmps37
    go_wp2_with fail
    rw [← gW]
    refine k1.out.mono ?_
    rintro e w1 ⟨rfl, hb⟩
    have hw1 := HB.out.trans (hb.mono HB.out.size)
    have K2 := hid (k2.out w1 hw1)
    have cs1 := HC.out w1 hw1
    have n1 := (hb.block _ HN.out.2).trans HN.out.1
    have HB1 := hid hw1
    have HN1 := hid n1
    have HL1 : Hid (w.heap.size < w1.heap.size) := hid (Nat.lt_of_lt_of_le HN.out.2 hb.size)
    clear k1 k2 hb HC hw1 n1 gW
    go_wp2_with fail
    refine K2.out.mono ?_
    rintro e w2 ⟨rfl, hb2⟩
    have h2 := (hb2.block _ HL1.out).trans HN1.out
    have r0 : w2.cell? ⟨w.heap.size, 0, none⟩ = some (.int .i64 0) := by rw [cell_of_row w2 _ 0 _ _ _ h2]; rfl
    have r1 : w2.cell? ⟨w.heap.size, 1, none⟩ = some (.int .i64 0) := by rw [cell_of_row w2 _ 1 _ _ _ h2]; rfl
    have r2 : w2.cell? ⟨w.heap.size, 2, none⟩ = some (.int .i64 0) := by rw [cell_of_row w2 _ 2 _ _ _ h2]; rfl
    have f0 : ∀ j, w2.frozen? ⟨w.heap.size, j, none⟩ = false := fun j => by simp [World.frozen?, h2]
    have f1 := f0 0
    have f2 := f0 1
    have f3 := f0 2
    have HB2 := hid (HB1.out.trans (hb2.mono HB1.out.size))
    have HN2 := hid h2
    clear K2 h2 f0 hb2 cs1
    go_wp2_with fail
    have q3 : (((w2.setCell ⟨w.heap.size, 0, none⟩ (.int .i64 s1)).setCell ⟨w.heap.size, 1, none⟩ (.int .i64 s2)).setCell ⟨w.heap.size, 2, none⟩ (.int .i64 s3)).heap[w.heap.size]? = some (.cells (List.toArray [.int .i64 s1, .int .i64 s2, .int .i64 s3]) 87 (0, 0)) := by
      have g1 := heap_setCell_same w2 w.heap.size 0 _ _ (.int .i64 s1) HN2.out
      have g2 := heap_setCell_same _ w.heap.size 1 _ _ (.int .i64 s2) g1
      have g3 := heap_setCell_same _ w.heap.size 2 _ _ (.int .i64 s3) g2
      exact g3
    refine bodyPost_ret (cell_result2 rfl _ _ w.heap.size 0 rfl [.int .i64 s1, .int .i64 s2, .int .i64 s3] _ (rangeAt_block q3) Tryz.underlying87 rfl csizeInfo) rfl ?_
    exact ⟨rfl, ((HB2.out.setCell (Nat.le_refl _) _).setCell (Nat.le_refl _) _).setCell (Nat.le_refl _) _⟩
  · rw [if_pos hE]
    dsimp only
    have hne : (E == 0) = false := by simpa using hE
    clear k2 HC
    go_enter Tryz.func37, Tryz.ntmps37
    go_wp2_with fail
    rw [← gW]
    refine k1.out.mono ?_
    rintro e w2 ⟨rfl, hb⟩
    have h2 := (hb.block _ HN.out.2).trans HN.out.1
    have r0 : w2.cell? ⟨w.heap.size, 0, none⟩ = some (.int .i64 0) := by rw [cell_of_row w2 _ 0 _ _ _ h2]; rfl
    have r1 : w2.cell? ⟨w.heap.size, 1, none⟩ = some (.int .i64 0) := by rw [cell_of_row w2 _ 1 _ _ _ h2]; rfl
    have r2 : w2.cell? ⟨w.heap.size, 2, none⟩ = some (.int .i64 0) := by rw [cell_of_row w2 _ 2 _ _ _ h2]; rfl
    have f0 : ∀ j, w2.frozen? ⟨w.heap.size, j, none⟩ = false := fun j => by simp [World.frozen?, h2]
    have f1 := f0 0
    have f2 := f0 1
    have f3 := f0 2
    have HB2 := hid (HB.out.trans (hb.mono HB.out.size))
    have HN2 := hid h2
    clear k1 h2 f0 hb gW
    go_wp2_with (refine wpList_build_is rfl 87 #[] rfl _ (by simpa [Act.eval] using builtInfo0) ?_)
    have q3 : (((w2.setCell ⟨w.heap.size, 0, none⟩ (.int .i64 0)).setCell ⟨w.heap.size, 1, none⟩ (.int .i64 0)).setCell ⟨w.heap.size, 2, none⟩ (.int .i64 0)).heap[w.heap.size]? = some (.cells (List.toArray [.int .i64 0, .int .i64 0, .int .i64 0]) 87 (0, 0)) := by
      have g1 := heap_setCell_same w2 w.heap.size 0 _ _ (.int .i64 0) HN2.out
      have g2 := heap_setCell_same _ w.heap.size 1 _ _ (.int .i64 0) g1
      have g3 := heap_setCell_same _ w.heap.size 2 _ _ (.int .i64 0) g2
      exact g3
    refine bodyPost_ret (cell_result2 rfl _ _ w.heap.size 0 rfl [.int .i64 0, .int .i64 0, .int .i64 0] _ (rangeAt_block q3) Tryz.underlying87 rfl csizeInfo) rfl ?_
    exact ⟨rfl, ((HB2.out.setCell (Nat.le_refl _) _).setCell (Nat.le_refl _) _).setCell (Nat.le_refl _) _⟩

/-- A call that hands on what a call below tells. -/
theorem tpnodes (w : World) (t : Nat) (T : Ft) (G : Nat → Prop) (HP : Tp w t T G) (hF : FOk T.F) :
    Calls Tryz.prog 10 #[.pointer (some ⟨t, 0, none⟩)] w (LooksP w T.F) := by
  obtain ⟨p, q, O0, Gn, H, hG⟩ := HP
  have k0 := hid (fusable_yes t p w H.tf.s)
  have k1 := hid (plooks_any p T.F Gn w H.pf hF)
  have cs := H.tf.s
  clear H hG hF
  go_enter Tryz.func10, Tryz.ntmps10
  go_wp2_with fail
  refine k0.out.mono ?_
  rintro e w1 ⟨rfl, rfl⟩
  clear k0
  go_wp2_with fail
  refine k1.out.mono ?_
  rintro e w2 ⟨⟨v, cs, rfl, h1⟩, h2⟩
  have HQ := hid (And.intro h1 h2)
  clear k1 h1 h2
  go_wp2_with fail
  go_ret
  exact ⟨⟨v, cs, rfl, HQ.out.1⟩, HQ.out.2⟩

theorem tpblocks (w : World) (t : Nat) (T : Ft) (G : Nat → Prop) (HP : Tp w t T G) :
    Calls Tryz.prog 44 #[.pointer (some ⟨t, 0, none⟩)] w fun e w' => (∃ v, e = .returned v ∧ w'.ownsRow w.heap.size 3 1 v ((List.range 25).filter T.F.T).length (((List.range 25).filter T.F.T).map natV)) ∧ Below w.heap.size w w' := by
  obtain ⟨p, q, O0, Gn, H, hG⟩ := HP
  have k0 := hid (fusable_yes t p w H.tf.s)
  have k1 := hid (pblocks_any p T.F Gn w H.pf)
  have cs := H.tf.s
  clear H hG
  generalize (List.range 25).filter T.F.T = L at k1 ⊢
  go_enter Tryz.func44, Tryz.ntmps44
  go_wp2_with fail
  refine k0.out.mono ?_
  rintro e w1 ⟨rfl, rfl⟩
  clear k0
  go_wp2_with fail
  refine k1.out.mono ?_
  rintro e w2 ⟨⟨v, rfl, h1⟩, h2⟩
  have HQ := hid (And.intro h1 h2)
  clear k1 h1 h2
  go_wp2_with fail
  go_ret
  exact ⟨⟨v, rfl, HQ.out.1⟩, HQ.out.2⟩

theorem tppipes (w : World) (t : Nat) (T : Ft) (G : Nat → Prop) (HP : Tp w t T G) :
    Calls Tryz.prog 11 #[.pointer (some ⟨t, 0, none⟩)] w fun e w' => ∃ v, e = .returned v ∧ w'.ownsRow w.heap.size 51 4 v (Pi.countP T.P 5) (Pi.looks T.P 5) ∧ Below w.heap.size w w' := by
  obtain ⟨p, q, O0, Gn, H, hG⟩ := HP
  have k0 := hid (fusable_yes t p w H.tf.s)
  have k1 := hid (Pi.look_spec q T.kp T.P w H.tc)
  have cs := H.tf.p
  clear H hG
  generalize Pi.countP T.P 5 = n at k1 ⊢
  generalize Pi.looks T.P 5 = L at k1 ⊢
  go_enter Tryz.func11, Tryz.ntmps11
  go_wp2_with fail
  refine k0.out.mono ?_
  rintro e w1 ⟨rfl, rfl⟩
  clear k0
  go_wp2_with fail
  refine k1.out.mono ?_
  rintro e w2 ⟨v, rfl, h1, h2⟩
  have HQ := hid (And.intro h1 h2)
  clear k1 h1 h2
  go_wp2_with fail
  go_ret
  exact ⟨v, rfl, HQ.out.1, HQ.out.2⟩

def tabZ (p q : Nat) : List Value := .pointer (some ⟨p, 0, none⟩) :: .pointer (some ⟨q, 0, none⟩) :: List.replicate 55 (.int .i64 0)
theorem builtTab (p q : Nat) : Tryz.prog.built 61 [(0, .pointer (some ⟨p, 0, none⟩)), (1, .pointer (some ⟨q, 0, none⟩))] = some (tabZ p q).toArray :=
  congrFun (congrFun (show (fun (p q : Nat) => Tryz.prog.built 61 [(0, .pointer (some ⟨p, 0, none⟩)), (1, .pointer (some ⟨q, 0, none⟩))]) = (fun p q => some (tabZ p q).toArray) by kernel_rfl) p) q
theorem tabZ_fls (p q : Nat) : Fls (tabZ p q) p q (fun _ => noFl) := by
  refine ⟨by simp [tabZ], rfl, rfl, fun i hi j hj => ?_⟩
  have e : (flC noFl)[j]? = some (.int .i64 0) := by
    obtain rfl | rfl | rfl | rfl | rfl : j = 0 ∨ j = 1 ∨ j = 2 ∨ j = 3 ∨ j = 4 := by omega
    all_goals rfl
  show _ = (flC noFl)[j]?
  rw [e]
  unfold tabZ
  rw [show 2 + i * 5 + j = (i * 5 + j) + 1 + 1 by omega, List.getElem?_cons_succ, List.getElem?_cons_succ, List.getElem?_replicate, if_pos (by omega)]

end Go.Proofs.YtoknhcjneliboaaGreat

/- What Look, New do (program). -/
namespace Go.Proofs.YtoknhcjneliboaaGreat
open Go.RowKit Go.ChangeMaps Go.MapKept
set_option linter.unusedVariables false
set_option maxRecDepth 20000

def fL (F : Nat → Fl) : List Value := flC (F 0) ++ flC (F 1) ++ flC (F 2) ++ flC (F 3) ++ flC (F 4) ++ flC (F 5) ++ flC (F 6) ++ flC (F 7) ++ flC (F 8) ++ flC (F 9) ++ flC (F 10)
theorem fL_len (F : Nat → Fl) : (fL F).length = 55 := rfl
set_option maxHeartbeats 4000000 in
theorem fL_at (F : Nat → Fl) (i : Nat) (hi : i < 11) (k : Nat) (hk : k < 5) : (fL F)[i * 5 + k]? = (flC (F i))[k]? := by
  obtain rfl | rfl | rfl | rfl | rfl | rfl | rfl | rfl | rfl | rfl | rfl : i = 0 ∨ i = 1 ∨ i = 2 ∨ i = 3 ∨ i = 4 ∨ i = 5 ∨ i = 6 ∨ i = 7 ∨ i = 8 ∨ i = 9 ∨ i = 10 := by omega
  all_goals (obtain rfl | rfl | rfl | rfl | rfl : k = 0 ∨ k = 1 ∨ k = 2 ∨ k = 3 ∨ k = 4 := by omega)
  all_goals rfl
theorem ixFl0 : (fun (F : Nat → Fl) (W : World) => (Instr.index 59 (.agg (fL F).toArray) (.int .i64 0)).run Tryz.prog W) = (fun (F : Nat → Fl) (W : World) => .ok (.agg (flC (F 0)).toArray) W) := by kernel_rfl
theorem ixFl1 : (fun (F : Nat → Fl) (W : World) => (Instr.index 59 (.agg (fL F).toArray) (.int .i64 1)).run Tryz.prog W) = (fun (F : Nat → Fl) (W : World) => .ok (.agg (flC (F 1)).toArray) W) := by kernel_rfl
theorem ixFl2 : (fun (F : Nat → Fl) (W : World) => (Instr.index 59 (.agg (fL F).toArray) (.int .i64 2)).run Tryz.prog W) = (fun (F : Nat → Fl) (W : World) => .ok (.agg (flC (F 2)).toArray) W) := by kernel_rfl
theorem ixFl3 : (fun (F : Nat → Fl) (W : World) => (Instr.index 59 (.agg (fL F).toArray) (.int .i64 3)).run Tryz.prog W) = (fun (F : Nat → Fl) (W : World) => .ok (.agg (flC (F 3)).toArray) W) := by kernel_rfl
theorem ixFl4 : (fun (F : Nat → Fl) (W : World) => (Instr.index 59 (.agg (fL F).toArray) (.int .i64 4)).run Tryz.prog W) = (fun (F : Nat → Fl) (W : World) => .ok (.agg (flC (F 4)).toArray) W) := by kernel_rfl
theorem ixFl5 : (fun (F : Nat → Fl) (W : World) => (Instr.index 59 (.agg (fL F).toArray) (.int .i64 5)).run Tryz.prog W) = (fun (F : Nat → Fl) (W : World) => .ok (.agg (flC (F 5)).toArray) W) := by kernel_rfl
theorem ixFl6 : (fun (F : Nat → Fl) (W : World) => (Instr.index 59 (.agg (fL F).toArray) (.int .i64 6)).run Tryz.prog W) = (fun (F : Nat → Fl) (W : World) => .ok (.agg (flC (F 6)).toArray) W) := by kernel_rfl
theorem ixFl7 : (fun (F : Nat → Fl) (W : World) => (Instr.index 59 (.agg (fL F).toArray) (.int .i64 7)).run Tryz.prog W) = (fun (F : Nat → Fl) (W : World) => .ok (.agg (flC (F 7)).toArray) W) := by kernel_rfl
theorem ixFl8 : (fun (F : Nat → Fl) (W : World) => (Instr.index 59 (.agg (fL F).toArray) (.int .i64 8)).run Tryz.prog W) = (fun (F : Nat → Fl) (W : World) => .ok (.agg (flC (F 8)).toArray) W) := by kernel_rfl
theorem ixFl9 : (fun (F : Nat → Fl) (W : World) => (Instr.index 59 (.agg (fL F).toArray) (.int .i64 9)).run Tryz.prog W) = (fun (F : Nat → Fl) (W : World) => .ok (.agg (flC (F 9)).toArray) W) := by kernel_rfl
theorem ixFl10 : (fun (F : Nat → Fl) (W : World) => (Instr.index 59 (.agg (fL F).toArray) (.int .i64 10)).run Tryz.prog W) = (fun (F : Nat → Fl) (W : World) => .ok (.agg (flC (F 10)).toArray) W) := by kernel_rfl
theorem ixFl (F : Nat → Fl) (j : Nat) (hj : j < 11) (W : World) : (Instr.index 59 (.agg (fL F).toArray) (.int .i64 (j : Int))).run Tryz.prog W = .ok (.agg #[.int .i64 (F j).k, .int .i64 (F j).of, .int .i64 (F j).off, .int .i64 (F j).fl, .int .i64 (F j).h]) W := by
  obtain rfl | rfl | rfl | rfl | rfl | rfl | rfl | rfl | rfl | rfl | rfl : j = 0 ∨ j = 1 ∨ j = 2 ∨ j = 3 ∨ j = 4 ∨ j = 5 ∨ j = 6 ∨ j = 7 ∨ j = 8 ∨ j = 9 ∨ j = 10 := by omega
  · exact congrFun (congrFun ixFl0 F) W
  · exact congrFun (congrFun ixFl1 F) W
  · exact congrFun (congrFun ixFl2 F) W
  · exact congrFun (congrFun ixFl3 F) W
  · exact congrFun (congrFun ixFl4 F) W
  · exact congrFun (congrFun ixFl5 F) W
  · exact congrFun (congrFun ixFl6 F) W
  · exact congrFun (congrFun ixFl7 F) W
  · exact congrFun (congrFun ixFl8 F) W
  · exact congrFun (congrFun ixFl9 F) W
  · exact congrFun (congrFun ixFl10 F) W

theorem Tf.range {w : World} {t p q : Nat} {F : Nat → Fl} (h : Tf w t p q F) : w.rangeAt t 2 (fL F) := fun j v hv => by
  obtain ⟨C, hb, hc⟩ := h
  have hj : j < 55 := by
    rcases Nat.lt_or_ge j 55 with q | q
    · exact q
    · rw [List.getElem?_eq_none (by rw [fL_len]; exact q)] at hv; simp at hv
  have e : j = j / 5 * 5 + j % 5 := by omega
  rw [e, fL_at F (j / 5) (by omega) (j % 5) (by omega), ← hc.at_ (j / 5) (by omega) (j % 5) (by omega)] at hv
  rw [show 2 + j = 2 + j / 5 * 5 + j % 5 by omega]
  exact cell_list hb hv
theorem csizeFls : (Tryz.prog.info? 59).map (·.size) = some 55 := by kernel_rfl


set_option maxHeartbeats 4000000 in
theorem tplook (w : World) (t : Nat) (T : Ft) (G : Nat → Prop) (HP : Tp w t T G) (hT : TOk T) :
    Calls Tryz.prog 9 #[.pointer (some ⟨t, 0, none⟩)] w fun e w' => (∃ v, e = .returned v ∧ w'.ownsRow w.heap.size 40 6 v (oiN T.O 11) (oiL T.O 11)) ∧ Below w.heap.size w w' := by
  obtain ⟨p, q, O0, Gn, H, hG⟩ := HP
  have hcg := oiL_congr (O := O0) (O' := T.O) 11 (fun i hi => ⟨H.h0 i hi, fun h => H.at i hi (by rw [← H.h0 i hi]; exact h)⟩)
  rw [← hcg.1, ← hcg.2]
  have hh0 : ∀ i, i < 11 → 0 ≤ (O0 i).h := fun i hi => by rw [H.h0 i hi]; exact (hT.h i).1
  obtain ⟨i0, hi0, hz0, hz1, hz2⟩ := info_parts infoOI
  have k1 := hid (fusable_yes t p w H.tf.s)
  have hR := hid H.tf.range
  obtain ⟨L, gL⟩ : ∃ L, L = fL O0 := ⟨_, rfl⟩
  have HS : Hid ((Tryz.prog.info? 59).map (·.size) = some L.length) := by rw [csizeFls, gL, fL_len]; exact hid rfl
  have HIX : Hid (∀ j : Nat, j < 11 → ∀ W : World, (Instr.index 59 (.agg L.toArray) (.int .i64 (j : Int))).run Tryz.prog W = .ok (.agg #[.int .i64 (O0 j).k, .int .i64 (O0 j).of, .int .i64 (O0 j).off, .int .i64 (O0 j).fl, .int .i64 (O0 j).h]) W) := by
    rw [gL]; exact hid (fun j hj W => ixFl O0 j hj W)
  rw [← gL] at hR
  have HH0 := hid hh0
  clear H gL hG hT hcg hh0
  go_enter Tryz.func9, Tryz.ntmps9
  go_wp2_with fail
  refine k1.out.mono ?_
  rintro e w1 ⟨rfl, rfl⟩
  clear k1
  go_wp2_with (refine wpList_load_mid rfl 59 (.tmp 11) rfl t 2 rfl L _ hR.out Tryz.underlying59 rfl HS.out ?_)
  go_loopw [3, 13] (fun v k wr => ∃ (j : Nat) (a : Option Addr) (c : Nat), j ≤ 11 ∧ k = .int .i64 (j : Int) ∧ v = .slice a (oiN O0 j) c ∧ Hid (wr.ownsRow w1.heap.size 40 6 (.slice a (oiN O0 j) c) (oiN O0 j) (oiL O0 j)) ∧ Hid (Below w1.heap.size w1 wr)) (fun _ k _ => 11 - (intOf k).toNat)
  case atStart => exact ⟨0, none, 0, by omega, rfl, rfl, hid (World.ownsRow_nil _ _ _ _), hid (Below.refl _ _)⟩
  case round =>
    obtain ⟨j, a, c, hj5, rfl, rfl, HO, HB⟩ := hrel
    by_cases e : j = 11
    · subst e
      go_wp2_with fail
      go_ret
      exact ⟨⟨_, rfl, HO.out⟩, HB.out⟩
    · have hj : j < 11 := by omega
      have hix := HIX.out j hj
      have hj6 : (j : Int) < 11 := by omega
      have h0 := HH0.out j hj
      have hcl := oiN_le O0 j
      have HN : Hid ((O0 j).h = 0 → oiL O0 (j + 1) = oiL O0 j ∧ oiN O0 (j + 1) = oiN O0 j) := hid (fun e => ⟨by rw [oiL, if_pos e], by rw [oiN, if_pos e]⟩)
      have HY : Hid ((O0 j).h ≠ 0 → oiL O0 (j + 1) = oiL O0 j ++ oiV j (O0 j) ∧ oiN O0 (j + 1) = oiN O0 j + 1) := hid (fun e => ⟨by rw [oiL, if_neg e], by rw [oiN, if_neg e]⟩)
      have hX := (Below.refl wr.heap.size wr).alloc (Nat.le_refl _) (.cells #[.int .i64 (O0 j).k, .int .i64 (O0 j).of, .int .i64 (O0 j).off, .int .i64 (O0 j).fl, .int .i64 (O0 j).h] 58)
      have HB2 : Hid (Below w1.heap.size w1 (wr.alloc (.cells #[.int .i64 (O0 j).k, .int .i64 (O0 j).of, .int .i64 (O0 j).off, .int .i64 (O0 j).fl, .int .i64 (O0 j).h] 58))) := hid (HB.out.trans (hX.mono HB.out.size))
      have HO2 : Hid ((wr.alloc (.cells #[.int .i64 (O0 j).k, .int .i64 (O0 j).of, .int .i64 (O0 j).off, .int .i64 (O0 j).fl, .int .i64 (O0 j).h] 58)).ownsRow w1.heap.size 40 6 (.slice a (oiN O0 j) c) (oiN O0 j) (oiL O0 j)) := hid ((Upd.of_below (F := fun _ => False) hX).own HO.out (fun _ _ h => h))
      clear hX HO HB e
      by_cases hh : (O0 j).h = 0
      · obtain ⟨e1, e2⟩ := HN.out hh
        have HO3 := HO2
        rw [← e1, ← e2] at HO3
        have hpos : ¬ (0 : Int) < (O0 j).h := by omega
        have E2 := hid e2
        clear HN HY e1 e2 hh
        go_wp2_with fail
        go_roundw
        case rel => exact ⟨j + 1, a, c, by omega, by go_num, by rw [E2.out], HO3, HB2⟩
        case measure => simp [intOf]; omega
      · obtain ⟨e1, e2⟩ := HY.out hh
        have E1 := hid e1
        have E2 := hid e2
        have hpos : (0 : Int) < (O0 j).h := by omega
        have E3 : Hid (oiV j (O0 j) = [.int .i64 (j : Int), .int .i64 (O0 j).k, .int .i64 (O0 j).of, .int .i64 (O0 j).off, .int .i64 (O0 j).fl, .int .i64 (O0 j).h]) := hid rfl
        clear HN HY e1 e2 hh
        generalize (O0 j).k = fk at hix HB2 HO2 E3
        generalize (O0 j).of = fo at hix HB2 HO2 E3
        generalize (O0 j).off = ff at hix HB2 HO2 E3
        generalize (O0 j).fl = fg at hix HB2 HO2 E3
        generalize (O0 j).h = fh at hix HB2 HO2 hpos h0 E3
        rw [E3.out] at E1
        generalize oiN O0 j = nn at HO2 E2 hcl ⊢
        generalize oiL O0 j = ll at HO2 E1
        go_wp2_with (at_builtin; go_must (refine wpList_append_own _ rfl (.tmp 20) (.tmp 33) 37 rfl w1.heap.size 40 i0 _ 6 48 Tryz.underlying37 hi0 hz0 hz1 hz2 rfl (by decide) _ nn ll rfl (HO2.out.alloc _) ⟨_, 0, none⟩ 1 1 [.int .i64 (j : Int), .int .i64 fk, .int .i64 fo, .int .i64 ff, .int .i64 fg, .int .i64 fh] rfl rfl (cells_new _ _ _ _ (by simp)) (by simp [Value.oneCell']) (by unfold maxLen; omega) (by omega) (by have := HB2.out.size; simp at this ⊢; omega) ?_))
        intro v' w6 hO6 hG6 hN6
        obtain ⟨va, vc, rfl, _⟩ := own_shp hO6
        have HB6 : Hid (Below w1.heap.size w1 w6) := hid ((HB2.out.alloc HB2.out.size _).grown hG6 (by have := HB2.out.size; simp at this ⊢; omega) (fun x hx => (HO2.out.lt x hx).1))
        have HO6 : Hid (w6.ownsRow w1.heap.size 40 6 (.slice va (nn + 1) vc) (nn + 1) (oiL O0 (j + 1))) := hid (by rw [E1.out]; exact hO6)
        clear hO6 hG6 hN6 HO2 HB2
        go_wp2_with fail
        go_roundw
        case rel => exact ⟨j + 1, va, vc, by omega, by go_num, by rw [E2.out], by rw [E2.out]; exact HO6, HB6⟩
        case measure => simp [intOf]; omega

set_option maxHeartbeats 2000000 in
theorem tpnew (w : World) (d : Int) : Calls Tryz.prog 5 #[.int .i64 d] w fun e w' => ∃ t, e = .returned (.pointer (some ⟨t, 0, none⟩)) ∧ Tp w' t (newT d) (fun b => w.heap.size ≤ b) ∧ Below w.heap.size w w' := by
  have k1 := hid (npnew_any w d)
  have k2 := hid (fun W => Pi.pnew_any d W)
  go_enter Tryz.func5, Tryz.ntmps5
  go_wp2_with fail
  refine k1.out.mono ?_
  rintro e w1 ⟨p, rfl, h1, hb1⟩
  have H1 := hid h1
  have HB1 := hid hb1
  clear h1 hb1 k1
  go_wp2_with fail
  refine (k2.out w1).mono ?_
  rintro e w2 ⟨rfl, h2, hb2, hz2⟩
  have H2 := hid h2
  have HB2 := hid hb2
  have HZ2 := hid hz2
  clear h2 hb2 hz2 k2
  obtain ⟨Z, gZ⟩ : ∃ Z, Z = tabZ p w1.heap.size := ⟨_, rfl⟩
  have HT : Hid (Tryz.prog.built 61 [(0, .pointer (some ⟨p, 0, none⟩)), (1, .pointer (some ⟨w1.heap.size, 0, none⟩))] = some Z.toArray) := by rw [gZ]; exact hid (builtTab _ _)
  have GZ := hid gZ
  clear gZ
  go_wp2_with (refine wpList_build_is rfl 61 #[(0, .tmp 4), (1, .tmp 6)] rfl Z.toArray (by simpa [Act.eval] using HT.out) ?_)
  go_ret
  have b3 : Below w2.heap.size w2 (w2.alloc (Obj.cells Z.toArray 61)) := one_new _ _
  have s1 := HB1.out.size
  have s2 := HZ2.out
  have hp := H1.out.lt
  refine ⟨w2.heap.size, rfl, ⟨p, w1.heap.size, fun _ => noFl, fun b => w.heap.size ≤ b ∧ b < w1.heap.size, ⟨⟨Z, heap_alloc_new _ _, by rw [GZ.out]; exact tabZ_fls _ _⟩, fun i hi => ?_, ((H1.out.mono (fun x hx h => ⟨h, hx⟩)).grow HB2.out).grow b3, ?_, by omega, fun h => by omega, fun h => by omega⟩, fun b hb => ?_⟩, (HB1.out.trans (HB2.out.mono s1)).trans (b3.mono (by omega))⟩
  · show noFl = clF noFl
    unfold clF
    split <;> rfl
  · have ht : Pi.Tb (w2.alloc (Obj.cells Z.toArray 61)) w1.heap.size (Pi.bit8 d) Pi.noPipes := H2.out.below b3 H2.out.lt
    exact ⟨⟨_, ht, fun i hi => rfl⟩, fun i hi => ⟨Nat.zero_le _, Nat.zero_le _⟩⟩
  · rcases hb with rfl | rfl | hb
    · omega
    · exact s1
    · exact hb.1

end Go.Proofs.YtoknhcjneliboaaGreat
