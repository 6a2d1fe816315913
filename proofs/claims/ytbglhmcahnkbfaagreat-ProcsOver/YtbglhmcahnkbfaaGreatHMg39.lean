/- Texts of this seat, merged. -/
import Derived.Test.YtbglhmcahnkbfaaGreatHMg34
import Derived.Test.YtbglhmcahnkbfaaGreatHMg38
import Derived.Test.YtbglhmcahnkbfaaGreatHMg11
import Derived.Test.YtbglhmcahnkbfaaGreatHMg27
import Derived.Test.YtbglhmcahnkbfaaGreatHMg33
import Derived.Test.YtbglhmcahnkbfaaGreatHMg32
import Derived.Test.YtbglhmcahnkbfaaGreatHMg25

/- What Stat, Nodes, Blocks, Pipes, New do (program). -/
namespace Go.Proofs.YtbglhmcahnkbfaaGreat
open Go.RowKit Go.ChangeMaps Go.MapKept
set_option linter.unusedVariables false
set_option maxRecDepth 20000

def tabZ (p q : Nat) : List Value := .pointer (some ⟨p, 0, none⟩) :: .pointer (some ⟨q, 0, none⟩) :: List.replicate 55 (.int .i64 0)
theorem builtTab (p q : Nat) : Tryz.prog.built 89 [(0, .pointer (some ⟨p, 0, none⟩)), (1, .pointer (some ⟨q, 0, none⟩))] = some (tabZ p q).toArray :=
  congrFun (congrFun (show (fun (p q : Nat) => Tryz.prog.built 89 [(0, .pointer (some ⟨p, 0, none⟩)), (1, .pointer (some ⟨q, 0, none⟩))]) = (fun p q => some (tabZ p q).toArray) by kernel_rfl) p) q
theorem tabZ_fls (p q : Nat) : Fls (tabZ p q) p q (fun _ => noFl) := by
  refine ⟨by simp [tabZ], rfl, rfl, fun i hi j hj => ?_⟩
  have e : (flC noFl)[j]? = some (.int .i64 0) := by
    obtain rfl | rfl | rfl | rfl | rfl : j = 0 ∨ j = 1 ∨ j = 2 ∨ j = 3 ∨ j = 4 := by omega
    all_goals rfl
  show _ = (flC noFl)[j]?
  rw [e]
  unfold tabZ
  rw [show 2 + i * 5 + j = (i * 5 + j) + 1 + 1 by omega, List.getElem?_cons_succ, List.getElem?_cons_succ, List.getElem?_replicate, if_pos (by omega)]

end Go.Proofs.YtbglhmcahnkbfaaGreat

/- What Look, New do (program). -/
namespace Go.Proofs.YtbglhmcahnkbfaaGreat
open Go.RowKit Go.ChangeMaps Go.MapKept
set_option linter.unusedVariables false
set_option maxRecDepth 20000

def fL (F : Nat → Fl) : List Value := flC (F 0) ++ flC (F 1) ++ flC (F 2) ++ flC (F 3) ++ flC (F 4) ++ flC (F 5) ++ flC (F 6) ++ flC (F 7) ++ flC (F 8) ++ flC (F 9) ++ flC (F 10)
theorem fL_len (F : Nat → Fl) : (fL F).length = 55 := rfl
set_option maxHeartbeats 4000000 in
theorem fL_at (F : Nat → Fl) (i : Nat) (hi : i < 11) (k : Nat) (hk : k < 5) : (fL F)[i * 5 + k]? = (flC (F i))[k]? := by
  obtain rfl | rfl | rfl | rfl | rfl | rfl | rfl | rfl | rfl | rfl | rfl : i = 0 ∨ i = 1 ∨ i = 2 ∨ i = 3 ∨ i = 4 ∨ i = 5 ∨ i = 6 ∨ i = 7 ∨ i = 8 ∨ i = 9 ∨ i = 10 := by omega
  all_goals (obtain rfl | rfl | rfl | rfl | rfl : k = 0 ∨ k = 1 ∨ k = 2 ∨ k = 3 ∨ k = 4 := by omega)
  all_goals rfl
theorem ixFl0 : (fun (F : Nat → Fl) (W : World) => (Instr.index 87 (.agg (fL F).toArray) (.int .i64 0)).run Tryz.prog W) = (fun (F : Nat → Fl) (W : World) => .ok (.agg (flC (F 0)).toArray) W) := by kernel_rfl
theorem ixFl1 : (fun (F : Nat → Fl) (W : World) => (Instr.index 87 (.agg (fL F).toArray) (.int .i64 1)).run Tryz.prog W) = (fun (F : Nat → Fl) (W : World) => .ok (.agg (flC (F 1)).toArray) W) := by kernel_rfl
theorem ixFl2 : (fun (F : Nat → Fl) (W : World) => (Instr.index 87 (.agg (fL F).toArray) (.int .i64 2)).run Tryz.prog W) = (fun (F : Nat → Fl) (W : World) => .ok (.agg (flC (F 2)).toArray) W) := by kernel_rfl
theorem ixFl3 : (fun (F : Nat → Fl) (W : World) => (Instr.index 87 (.agg (fL F).toArray) (.int .i64 3)).run Tryz.prog W) = (fun (F : Nat → Fl) (W : World) => .ok (.agg (flC (F 3)).toArray) W) := by kernel_rfl
theorem ixFl4 : (fun (F : Nat → Fl) (W : World) => (Instr.index 87 (.agg (fL F).toArray) (.int .i64 4)).run Tryz.prog W) = (fun (F : Nat → Fl) (W : World) => .ok (.agg (flC (F 4)).toArray) W) := by kernel_rfl
theorem ixFl5 : (fun (F : Nat → Fl) (W : World) => (Instr.index 87 (.agg (fL F).toArray) (.int .i64 5)).run Tryz.prog W) = (fun (F : Nat → Fl) (W : World) => .ok (.agg (flC (F 5)).toArray) W) := by kernel_rfl
theorem ixFl6 : (fun (F : Nat → Fl) (W : World) => (Instr.index 87 (.agg (fL F).toArray) (.int .i64 6)).run Tryz.prog W) = (fun (F : Nat → Fl) (W : World) => .ok (.agg (flC (F 6)).toArray) W) := by kernel_rfl
theorem ixFl7 : (fun (F : Nat → Fl) (W : World) => (Instr.index 87 (.agg (fL F).toArray) (.int .i64 7)).run Tryz.prog W) = (fun (F : Nat → Fl) (W : World) => .ok (.agg (flC (F 7)).toArray) W) := by kernel_rfl
theorem ixFl8 : (fun (F : Nat → Fl) (W : World) => (Instr.index 87 (.agg (fL F).toArray) (.int .i64 8)).run Tryz.prog W) = (fun (F : Nat → Fl) (W : World) => .ok (.agg (flC (F 8)).toArray) W) := by kernel_rfl
theorem ixFl9 : (fun (F : Nat → Fl) (W : World) => (Instr.index 87 (.agg (fL F).toArray) (.int .i64 9)).run Tryz.prog W) = (fun (F : Nat → Fl) (W : World) => .ok (.agg (flC (F 9)).toArray) W) := by kernel_rfl
theorem ixFl10 : (fun (F : Nat → Fl) (W : World) => (Instr.index 87 (.agg (fL F).toArray) (.int .i64 10)).run Tryz.prog W) = (fun (F : Nat → Fl) (W : World) => .ok (.agg (flC (F 10)).toArray) W) := by kernel_rfl
theorem ixFl (F : Nat → Fl) (j : Nat) (hj : j < 11) (W : World) : (Instr.index 87 (.agg (fL F).toArray) (.int .i64 (j : Int))).run Tryz.prog W = .ok (.agg #[.int .i64 (F j).k, .int .i64 (F j).of, .int .i64 (F j).off, .int .i64 (F j).fl, .int .i64 (F j).h]) W := by
  obtain rfl | rfl | rfl | rfl | rfl | rfl | rfl | rfl | rfl | rfl | rfl : j = 0 ∨ j = 1 ∨ j = 2 ∨ j = 3 ∨ j = 4 ∨ j = 5 ∨ j = 6 ∨ j = 7 ∨ j = 8 ∨ j = 9 ∨ j = 10 := by omega
  · exact congrFun (congrFun ixFl0 F) W
  · exact congrFun (congrFun ixFl1 F) W
  · exact congrFun (congrFun ixFl2 F) W
  · exact congrFun (congrFun ixFl3 F) W
  · exact congrFun (congrFun ixFl4 F) W
  · exact congrFun (congrFun ixFl5 F) W
  · exact congrFun (congrFun ixFl6 F) W
  · exact congrFun (congrFun ixFl7 F) W
  · exact congrFun (congrFun ixFl8 F) W
  · exact congrFun (congrFun ixFl9 F) W
  · exact congrFun (congrFun ixFl10 F) W

theorem Tf.range {w : World} {t p q : Nat} {F : Nat → Fl} (h : Tf w t p q F) : w.rangeAt t 2 (fL F) := fun j v hv => by
  obtain ⟨C, hb, hc⟩ := h
  have hj : j < 55 := by
    rcases Nat.lt_or_ge j 55 with q | q
    · exact q
    · rw [List.getElem?_eq_none (by rw [fL_len]; exact q)] at hv; simp at hv
  have e : j = j / 5 * 5 + j % 5 := by omega
  rw [e, fL_at F (j / 5) (by omega) (j % 5) (by omega), ← hc.at_ (j / 5) (by omega) (j % 5) (by omega)] at hv
  rw [show 2 + j = 2 + j / 5 * 5 + j % 5 by omega]
  exact cell_list hb hv
theorem csizeFls : (Tryz.prog.info? 87).map (·.size) = some 55 := by kernel_rfl


set_option maxHeartbeats 4000000 in
theorem tplook (w : World) (t : Nat) (T : Ft) (G : Nat → Prop) (HP : Tp w t T G) (hT : TOk T) :
    Calls Tryz.prog 12 #[.pointer (some ⟨t, 0, none⟩)] w fun e w' => (∃ v, e = .returned v ∧ w'.ownsRow w.heap.size 46 6 v (oiN T.O 11) (oiL T.O 11)) ∧ Below w.heap.size w w' := by
  obtain ⟨p, q, O0, Gn, H, hG⟩ := HP
  have hcg := oiL_congr (O := O0) (O' := T.O) 11 (fun i hi => ⟨H.h0 i hi, fun h => H.at i hi (by rw [← H.h0 i hi]; exact h)⟩)
  rw [← hcg.1, ← hcg.2]
  have hh0 : ∀ i, i < 11 → 0 ≤ (O0 i).h := fun i hi => by rw [H.h0 i hi]; exact (hT.h i).1
  obtain ⟨i0, hi0, hz0, hz1, hz2⟩ := info_parts infoOI
  have k1 := hid (fusable_yes t p w H.tf.s)
  have hR := hid H.tf.range
  obtain ⟨L, gL⟩ : ∃ L, L = fL O0 := ⟨_, rfl⟩
  have HS : Hid ((Tryz.prog.info? 87).map (·.size) = some L.length) := by rw [csizeFls, gL, fL_len]; exact hid rfl
  have HIX : Hid (∀ j : Nat, j < 11 → ∀ W : World, (Instr.index 87 (.agg L.toArray) (.int .i64 (j : Int))).run Tryz.prog W = .ok (.agg #[.int .i64 (O0 j).k, .int .i64 (O0 j).of, .int .i64 (O0 j).off, .int .i64 (O0 j).fl, .int .i64 (O0 j).h]) W) := by
    rw [gL]; exact hid (fun j hj W => ixFl O0 j hj W)
  rw [← gL] at hR
  have HH0 := hid hh0
  clear H gL hG hT hcg hh0
  go_enter Tryz.func12, Tryz.ntmps12
  go_wp2_with fail
  refine k1.out.mono ?_
  rintro e w1 ⟨rfl, rfl⟩
  clear k1
  go_wp2_with (refine wpList_load_mid rfl 87 (.tmp 11) rfl t 2 rfl L _ hR.out Tryz.underlying87 rfl HS.out ?_)
  go_loopw [3, 13] (fun v k wr => ∃ (j : Nat) (a : Option Addr) (c : Nat), j ≤ 11 ∧ k = .int .i64 (j : Int) ∧ v = .slice a (oiN O0 j) c ∧ Hid (wr.ownsRow w1.heap.size 46 6 (.slice a (oiN O0 j) c) (oiN O0 j) (oiL O0 j)) ∧ Hid (Below w1.heap.size w1 wr)) (fun _ k _ => 11 - (intOf k).toNat)
  case atStart => exact ⟨0, none, 0, by omega, rfl, rfl, hid (World.ownsRow_nil _ _ _ _), hid (Below.refl _ _)⟩
  case round =>
    obtain ⟨j, a, c, hj5, rfl, rfl, HO, HB⟩ := hrel
    by_cases e : j = 11
    · subst e
      go_wp2_with fail
      go_ret
      exact ⟨⟨_, rfl, HO.out⟩, HB.out⟩
    · have hj : j < 11 := by omega
      have hix := HIX.out j hj
      have hj6 : (j : Int) < 11 := by omega
      have h0 := HH0.out j hj
      have hcl := oiN_le O0 j
      have HN : Hid ((O0 j).h = 0 → oiL O0 (j + 1) = oiL O0 j ∧ oiN O0 (j + 1) = oiN O0 j) := hid (fun e => ⟨by rw [oiL, if_pos e], by rw [oiN, if_pos e]⟩)
      have HY : Hid ((O0 j).h ≠ 0 → oiL O0 (j + 1) = oiL O0 j ++ oiV j (O0 j) ∧ oiN O0 (j + 1) = oiN O0 j + 1) := hid (fun e => ⟨by rw [oiL, if_neg e], by rw [oiN, if_neg e]⟩)
      have hX := (Below.refl wr.heap.size wr).alloc (Nat.le_refl _) (.cells #[.int .i64 (O0 j).k, .int .i64 (O0 j).of, .int .i64 (O0 j).off, .int .i64 (O0 j).fl, .int .i64 (O0 j).h] 86)
      have HB2 : Hid (Below w1.heap.size w1 (wr.alloc (.cells #[.int .i64 (O0 j).k, .int .i64 (O0 j).of, .int .i64 (O0 j).off, .int .i64 (O0 j).fl, .int .i64 (O0 j).h] 86))) := hid (HB.out.trans (hX.mono HB.out.size))
      have HO2 : Hid ((wr.alloc (.cells #[.int .i64 (O0 j).k, .int .i64 (O0 j).of, .int .i64 (O0 j).off, .int .i64 (O0 j).fl, .int .i64 (O0 j).h] 86)).ownsRow w1.heap.size 46 6 (.slice a (oiN O0 j) c) (oiN O0 j) (oiL O0 j)) := hid ((Upd.of_below (F := fun _ => False) hX).own HO.out (fun _ _ h => h))
      clear hX HO HB e
      by_cases hh : (O0 j).h = 0
      · obtain ⟨e1, e2⟩ := HN.out hh
        have HO3 := HO2
        rw [← e1, ← e2] at HO3
        have hpos : ¬ (0 : Int) < (O0 j).h := by omega
        have E2 := hid e2
        clear HN HY e1 e2 hh
        go_wp2_with fail
        go_roundw
        case rel => exact ⟨j + 1, a, c, by omega, by go_num, by rw [E2.out], HO3, HB2⟩
        case measure => simp [intOf]; omega
      · obtain ⟨e1, e2⟩ := HY.out hh
        have E1 := hid e1
        have E2 := hid e2
        have hpos : (0 : Int) < (O0 j).h := by omega
        have E3 : Hid (oiV j (O0 j) = [.int .i64 (j : Int), .int .i64 (O0 j).k, .int .i64 (O0 j).of, .int .i64 (O0 j).off, .int .i64 (O0 j).fl, .int .i64 (O0 j).h]) := hid rfl
        clear HN HY e1 e2 hh
        generalize (O0 j).k = fk at hix HB2 HO2 E3
        generalize (O0 j).of = fo at hix HB2 HO2 E3
        generalize (O0 j).off = ff at hix HB2 HO2 E3
        generalize (O0 j).fl = fg at hix HB2 HO2 E3
        generalize (O0 j).h = fh at hix HB2 HO2 hpos h0 E3
        rw [E3.out] at E1
        generalize oiN O0 j = nn at HO2 E2 hcl ⊢
        generalize oiL O0 j = ll at HO2 E1
        go_wp2_with (at_builtin; go_must (refine wpList_append_own _ rfl (.tmp 20) (.tmp 33) 43 rfl w1.heap.size 46 i0 _ 6 48 Tryz.underlying43 hi0 hz0 hz1 hz2 rfl (by decide) _ nn ll rfl (HO2.out.alloc _) ⟨_, 0, none⟩ 1 1 [.int .i64 (j : Int), .int .i64 fk, .int .i64 fo, .int .i64 ff, .int .i64 fg, .int .i64 fh] rfl rfl (cells_new _ _ _ _ (by simp)) (by simp [Value.oneCell']) (by unfold maxLen; omega) (by omega) (by have := HB2.out.size; simp at this ⊢; omega) ?_))
        intro v' w6 hO6 hG6 hN6
        obtain ⟨va, vc, rfl, _⟩ := own_shp hO6
        have HB6 : Hid (Below w1.heap.size w1 w6) := hid ((HB2.out.alloc HB2.out.size _).grown hG6 (by have := HB2.out.size; simp at this ⊢; omega) (fun x hx => (HO2.out.lt x hx).1))
        have HO6 : Hid (w6.ownsRow w1.heap.size 46 6 (.slice va (nn + 1) vc) (nn + 1) (oiL O0 (j + 1))) := hid (by rw [E1.out]; exact hO6)
        clear hO6 hG6 hN6 HO2 HB2
        go_wp2_with fail
        go_roundw
        case rel => exact ⟨j + 1, va, vc, by omega, by go_num, by rw [E2.out], by rw [E2.out]; exact HO6, HB6⟩
        case measure => simp [intOf]; omega

set_option maxHeartbeats 2000000 in
theorem tpnew (w : World) (d : Int) : Calls Tryz.prog 22 #[.int .i64 d] w fun e w' => ∃ t, e = .returned (.pointer (some ⟨t, 0, none⟩)) ∧ Tp w' t (newT d) (fun b => w.heap.size ≤ b) ∧ Below w.heap.size w w' := by
  have k1 := hid (npnew_any w d)
  have k2 := hid (fun W => Pi.pnew_any d W)
  go_enter Tryz.func22, Tryz.ntmps22
  go_wp2_with fail
  refine k1.out.mono ?_
  rintro e w1 ⟨p, rfl, h1, hb1⟩
  have H1 := hid h1
  have HB1 := hid hb1
  clear h1 hb1 k1
  go_wp2_with fail
  refine (k2.out w1).mono ?_
  rintro e w2 ⟨rfl, h2, hb2, hz2⟩
  have H2 := hid h2
  have HB2 := hid hb2
  have HZ2 := hid hz2
  clear h2 hb2 hz2 k2
  obtain ⟨Z, gZ⟩ : ∃ Z, Z = tabZ p w1.heap.size := ⟨_, rfl⟩
  have HT : Hid (Tryz.prog.built 89 [(0, .pointer (some ⟨p, 0, none⟩)), (1, .pointer (some ⟨w1.heap.size, 0, none⟩))] = some Z.toArray) := by rw [gZ]; exact hid (builtTab _ _)
  have GZ := hid gZ
  clear gZ
  go_wp2_with (refine wpList_build_is rfl 89 #[(0, .tmp 4), (1, .tmp 6)] rfl Z.toArray (by simpa [Act.eval] using HT.out) ?_)
  go_ret
  have b3 : Below w2.heap.size w2 (w2.alloc (Obj.cells Z.toArray 89)) := one_new _ _
  have s1 := HB1.out.size
  have s2 := HZ2.out
  have hp := H1.out.lt
  refine ⟨w2.heap.size, rfl, ⟨p, w1.heap.size, fun _ => noFl, fun b => w.heap.size ≤ b ∧ b < w1.heap.size, ⟨⟨Z, heap_alloc_new _ _, by rw [GZ.out]; exact tabZ_fls _ _⟩, fun i hi => ?_, ((H1.out.mono (fun x hx h => ⟨h, hx⟩)).grow HB2.out).grow b3, ?_, by omega, fun h => by omega, fun h => by omega⟩, fun b hb => ?_⟩, (HB1.out.trans (HB2.out.mono s1)).trans (b3.mono (by omega))⟩
  · show noFl = clF noFl
    unfold clF
    split <;> rfl
  · have ht : Pi.Tb (w2.alloc (Obj.cells Z.toArray 89)) w1.heap.size (Pi.bit8 d) Pi.noPipes := H2.out.below b3 H2.out.lt
    exact ⟨⟨_, ht, fun i hi => rfl⟩, fun i hi => ⟨Nat.zero_le _, Nat.zero_le _⟩⟩
  · rcases hb with rfl | rfl | hb
    · omega
    · exact s1
    · exact hb.1

end Go.Proofs.YtbglhmcahnkbfaaGreat

/- The program's processes: isOpen, Install, Close, Dup, Dup2. -/
namespace Go.Proofs.YtbglhmcahnkbfaaGreat
open Go.RowKit Go.ChangeMaps Go.MapKept
set_option linter.unusedVariables false
set_option maxRecDepth 20000

theorem there_opn {T : Ft} (hT : TOk T) (n : Int) : T.there n = true ↔ ∃ j, ∃ h : j < (opn T.O 11).length, ((opn T.O 11)[j] : Int) = n := by
  constructor
  · intro h
    obtain ⟨i, rfl, h1, h2, h3⟩ := Ft.there_lt h
    obtain ⟨j, hj, e⟩ := List.mem_iff_getElem.1 (mem_opn.2 ⟨h2, h3⟩)
    exact ⟨j, hj, by rw [e]⟩
  · rintro ⟨j, hj, rfl⟩
    obtain ⟨a, b⟩ := mem_opn.1 (List.getElem_mem hj)
    have h0 : (opn T.O 11)[j] ≠ 0 := fun e => by
      rw [e, hT.out 0 (.inl rfl)] at b
      exact b rfl
    unfold Ft.there
    rw [decide_eq_true_eq, Int.toNat_natCast]
    exact ⟨by omega, by omega, b⟩

theorem gisopenf_any (cb : Nat) (n x0 x1 x2 x3 x4 x5 : Int) (w : World) (hc : w.cell? ⟨cb, 0, none⟩ = some (.int .i64 n)) :
    Calls Tryz.prog 91 #[.agg #[.int .i64 x0, .int .i64 x1, .int .i64 x2, .int .i64 x3, .int .i64 x4, .int .i64 x5], .pointer (some ⟨cb, 0, none⟩)] w fun e w' => e = .returned (.bool (decide (x0 = n))) ∧ Below w.heap.size w w' := by
  have hl := World.block_lt_of_cell? _ _ hc
  have hb := one_new w (Obj.cells #[.int .i64 x0, .int .i64 x1, .int .i64 x2, .int .i64 x3, .int .i64 x4, .int .i64 x5] 46)
  have h2 := (hb.cell (p := ⟨cb, 0, none⟩) hl).trans hc
  have HB := hid hb
  clear hb
  go_enter Tryz.func91, Tryz.ntmps91
  go_wp2_with fail
  go_ret
  refine ⟨?_, HB.out⟩
  by_cases e : x0 = n <;> simp [e]

set_option maxHeartbeats 2000000 in
theorem gindexf_any (a : Option Addr) (B L c cb : Nat) (is : List Nat) (O : Nat → Fl) (n : Int) (w : World) (h : Rws w B a is 6 (fun i => oiV i (O i))) (hL : L = is.length ∧ L ≤ 11) (hc : w.cell? ⟨cb, 0, none⟩ = some (.int .i64 n)) :
    Calls Tryz.prog 114 #[.slice a L c, .func (.func 91) #[] #[.pointer (some ⟨cb, 0, none⟩)]] w fun e w' => (∃ r : Int, e = .returned (.int .i64 r) ∧ (0 ≤ r ↔ ∃ j, ∃ h : j < is.length, (is[j] : Int) = n)) ∧ Below w.heap.size w w' := by
  have H := hid h
  have HL := hid hL
  have HC := hid hc
  have hcl := World.block_lt_of_cell? _ _ hc
  have hL11 := hL.2
  clear h hL hc
  go_enter Tryz.func114, Tryz.ntmps114
  go_wp2_with fail
  go_loopw [8] (fun s wr => ∃ j : Nat, j ≤ L ∧ s = .int .i64 (j : Int) ∧ Hid (∀ i, ∀ h : i < is.length, i < j → (is[i] : Int) ≠ n) ∧ Hid (Below w.heap.size w wr)) (fun s _ => L - (intOf s).toNat)
  case atStart => exact ⟨0, by omega, rfl, hid (fun i _ h => absurd h (Nat.not_lt_zero i)), hid (Below.refl _ _)⟩
  case round =>
    obtain ⟨j, hj, rfl, HP, HB⟩ := hrel
    by_cases e : j = L
    · subst e
      have HE : Hid (∃ r : Int, r = -1 ∧ (0 ≤ r ↔ ∃ j, ∃ h : j < is.length, (is[j] : Int) = n)) := hid ⟨-1, rfl, fun h => absurd h (by decide), fun ⟨i, hi, e⟩ => absurd e (HP.out i hi (by rw [HL.out.1]; exact hi))⟩
      clear HP
      go_wp2_with fail
      go_ret
      refine ⟨?_, HB.out⟩
      obtain ⟨r, rfl, hr⟩ := HE.out
      exact ⟨_, rfl, hr⟩
    · have hjL : j < L := by omega
      have hji : j < is.length := by have := HL.out.1; omega
      obtain ⟨q, rfl, hqB, hql, hat⟩ := H.out (by omega)
      have at' : ∀ k v, k < 6 → (oiV is[j] (O is[j]))[k]? = some v → wr.cell? ⟨q, j * 6 + k, none⟩ = some v := fun k v hk hv => (HB.out.cell (p := ⟨q, j * 6 + k, none⟩) hql).trans (hat j hji k hk v hv)
      have c0 : wr.cell? ⟨q, j * 6, none⟩ = some (.int .i64 (is[j] : Int)) := at' 0 _ (by omega) rfl
      have c1 := at' 1 _ (by omega) rfl
      have c2 := at' 2 _ (by omega) rfl
      have c3 := at' 3 _ (by omega) rfl
      have c4 := at' 4 _ (by omega) rfl
      have c5 := at' 5 _ (by omega) rfl
      have cc := (HB.out.cell (p := ⟨cb, 0, none⟩) hcl).trans HC.out
      generalize (O is[j]).k = y1 at c1
      generalize (O is[j]).of = y2 at c2
      generalize (O is[j]).off = y3 at c3
      generalize (O is[j]).fl = y4 at c4
      generalize (O is[j]).h = y5 at c5
      have HP1 : Hid ((is[j] : Int) ≠ n → ∀ i, ∀ h : i < is.length, i < j + 1 → (is[i] : Int) ≠ n) := hid (fun hne i hi hlt => by
        by_cases e : i = j
        · subst e; exact hne
        · exact HP.out i hi (by omega))
      have HP2 : Hid ((is[j] : Int) = n → (0 ≤ (j : Int) ↔ ∃ j, ∃ h : j < is.length, (is[j] : Int) = n)) := hid (fun e => ⟨fun _ => ⟨j, hji, e⟩, fun _ => by omega⟩)
      clear hat at' HP
      generalize ((is[j] : Nat) : Int) = x0 at c0 HP1 HP2
      have kf := hid (gisopenf_any cb n x0 y1 y2 y3 y4 y5 wr cc)
      clear cc
      by_cases hx : x0 = n
      · have hr := HP2.out hx
        have HR := hid hr
        have kf : Hid (Calls Tryz.prog 91 #[.agg #[.int .i64 x0, .int .i64 y1, .int .i64 y2, .int .i64 y3, .int .i64 y4, .int .i64 y5], .pointer (some ⟨cb, 0, none⟩)] wr fun e w' => e = .returned (.bool true) ∧ Below wr.heap.size wr w') := by rw [decide_eq_true hx] at kf; exact kf
        clear hr HP1 HP2 hx
        go_wp2_with (first | (go_at_call 91; refine kf.out.mono ?_; rintro r w2 ⟨rfl, h2⟩))
        go_ret
        exact ⟨⟨_, rfl, HR.out⟩, HB.out.trans (h2.mono HB.out.size)⟩
      · have HP' := hid (HP1.out hx)
        have kf : Hid (Calls Tryz.prog 91 #[.agg #[.int .i64 x0, .int .i64 y1, .int .i64 y2, .int .i64 y3, .int .i64 y4, .int .i64 y5], .pointer (some ⟨cb, 0, none⟩)] wr fun e w' => e = .returned (.bool false) ∧ Below wr.heap.size wr w') := by rw [decide_eq_false hx] at kf; exact kf
        clear HP1 HP2 hx
        go_wp2_with (first | (go_at_call 91; refine kf.out.mono ?_; rintro r w2 ⟨rfl, h2⟩))
        go_roundw
        case rel => exact ⟨j + 1, by omega, by go_num, HP', hid (HB.out.trans (h2.mono HB.out.size))⟩
        case measure => simp [intOf]; omega

theorem gcontf_any (a : Option Addr) (B L c cb : Nat) (is : List Nat) (O : Nat → Fl) (n : Int) (b : Bool) (w : World) (h : Rws w B a is 6 (fun i => oiV i (O i))) (hL : L = is.length ∧ L ≤ 11) (hc : w.cell? ⟨cb, 0, none⟩ = some (.int .i64 n)) (hb : b = true ↔ ∃ j, ∃ h : j < is.length, (is[j] : Int) = n) :
    Calls Tryz.prog 90 #[.slice a L c, .func (.func 91) #[] #[.pointer (some ⟨cb, 0, none⟩)]] w fun e w' => e = .returned (.bool b) ∧ Below w.heap.size w w' := by
  have k1 := hid (gindexf_any a B L c cb is O n w h hL hc)
  have HB := hid hb
  clear h hL hc hb
  go_enter Tryz.func90, Tryz.ntmps90
  go_wp2_with fail
  refine k1.out.mono ?_
  rintro e w1 ⟨⟨r, rfl, hr⟩, h1⟩
  have e : b = decide (0 ≤ r) := by
    by_cases hp : 0 ≤ r
    · rw [decide_eq_true hp]; exact HB.out.2 (hr.1 hp)
    · rw [decide_eq_false hp]
      cases b
      · rfl
      · exact absurd (hr.2 (HB.out.1 rfl)) hp
  subst e
  clear hr k1 HB
  go_wp2_with fail
  go_ret
  exact ⟨rfl, h1⟩

section
variable {w0 w : World} {p f : Nat} {g : Gt} {G : Nat → Prop}
theorem gisopen_any (h : ZpTo w0 p f g G w) (hT : TOk g.T) (n : Int) :
    Calls Tryz.prog 59 #[.pointer (some ⟨p, 0, none⟩), .int .i64 n] w fun e w' => e = .returned (.bool (g.T.there n)) ∧ Below w.heap.size w w' := by
  obtain ⟨Gn, h1, h3⟩ := h.parts
  have hb := one_new w (Obj.cells #[.int .i64 n] 3)
  have h1' : Zs (w.alloc (.cells #[.int .i64 n] 3)) p f Gn g := ⟨h1.th.upd (Upd.of_below (F := fun _ => False) hb) (fun h => h), h1.tp.grow hb, h1.np⟩
  have fl := h1'.th.fl
  have k1 := hid (tplook _ f g.T Gn h1'.tp hT)
  have hc : (w.alloc (.cells #[.int .i64 n] 3)).cell? ⟨w.heap.size, 0, none⟩ = some (.int .i64 n) := by simp [go_sem]
  have hs : w.heap.size < (w.alloc (.cells #[.int .i64 n] 3)).heap.size := by simp
  have hv := opn_flat g.T.O 11
  have HB := hid hb
  have HV := hid hv
  have HH := hid (there_opn hT n)
  have HC := hid hc
  have HS := hid hs
  clear hb h h1 h1' hT hc hv hs h3
  go_enter Tryz.func59, Tryz.ntmps59
  go_wp2_with fail
  refine k1.out.mono ?_
  rintro e w2 ⟨⟨v, rfl, ho⟩, hb2⟩
  rw [HV.out.1] at ho
  obtain ⟨a, c, rfl, hr⟩ := Rws.of (L := 6) (f := fun i => oiV i (g.T.O i)) (fun _ => rfl) HV.out.2 ho
  have hc2 := (hb2.cell (p := ⟨w.heap.size, 0, none⟩) HS.out).trans HC.out
  have k2 := hid (gcontf_any a _ (oiN g.T.O 11) c w.heap.size (opn g.T.O 11) g.T.O n (g.T.there n) w2 hr ⟨HV.out.2, oiN_le _ _⟩ hc2 HH.out)
  have HB2 := hid (HB.out.trans (hb2.mono HB.out.size))
  clear hr hc2 ho hb2 HH HV k1
  generalize oiN g.T.O 11 = on at k2 ⊢
  go_wp2_with fail
  refine k2.out.mono ?_
  rintro e w3 ⟨rfl, h3⟩
  go_wp2_with fail
  go_ret
  exact ⟨rfl, HB2.out.trans (h3.mono HB2.out.size)⟩
end

end Go.Proofs.YtbglhmcahnkbfaaGreat

/- The program's processes: Install, Close, Dup, Dup2. -/
namespace Go.Proofs.YtbglhmcahnkbfaaGreat
open Go.RowKit Go.ChangeMaps Go.MapKept
set_option linter.unusedVariables false
set_option maxRecDepth 20000

section
variable {w0 w : World} {p f : Nat} {g : Gt} {G : Nat → Prop}
theorem ginstall_any (h : ZpTo w0 p f g G w) (hT : TOk g.T) (n v : Int) :
    Calls Tryz.prog 17 #[.pointer (some ⟨p, 0, none⟩), .int .i64 n, .int .i64 v] w fun e w' => e = .returned (.tuple #[.int .i64 (g.install n v).2.1, .int .i64 (g.install n v).2.2]) ∧ ZpTo w0 p f (g.install n v).1 G w' := by
  unfold Gt.install
  cases hr : g.runs n
  · rw [if_pos rfl]
    have k1 := hid (gproc_no p f _ n g.Q w h.tab hr)
    have H := hid h
    clear h hr hT
    go_enter Tryz.func17, Tryz.ntmps17
    go_wp2_with fail
    refine k1.out.mono ?_
    rintro e w1 ⟨rfl, rfl⟩
    go_wp2_with fail
    go_ret2
    exact ⟨rfl, H.out⟩
  rw [if_neg (by decide)]
  obtain ⟨q, rfl, h1, h4, hs⟩ := qrn_lt hr
  have k1 := hid (gproc_yes p f q _ g.Q w h.tab ⟨h1, h4⟩ hs)
  have k2 := hid (gisopen_any h hT v)
  rw [Int.toNat_natCast]
  cases ht : g.T.there v
  · rw [if_pos rfl]
    rw [ht] at k2
    have H := hid h
    clear h hr hT hs ht
    go_enter Tryz.func17, Tryz.ntmps17
    go_wp2_with fail
    refine k1.out.mono ?_
    rintro e w1 ⟨rfl, rfl⟩
    go_wp2_with fail
    refine k2.out.mono ?_
    rintro e w2 ⟨rfl, h2⟩
    go_wp2_with fail
    go_ret2
    exact ⟨rfl, H.out.grow h2⟩
  rw [if_neg (by decide)]
  rw [ht] at k2
  cases hl : Gt.lowest (g.Q q).fd with
  | none =>
    have k3 := hid (fun W (hb : Below w.heap.size w W) => gput_no (h.grow hb) q (by omega) v hl)
    clear h hr hT hs ht hl
    go_enter Tryz.func17, Tryz.ntmps17
    go_wp2_with fail
    refine k1.out.mono ?_
    rintro e w1 ⟨rfl, rfl⟩
    go_wp2_with fail
    refine k2.out.mono ?_
    rintro e w2 ⟨rfl, h2⟩
    have k4 := hid (k3.out _ h2)
    clear h2 k3
    go_wp2_with fail
    refine k4.out.mono ?_
    rintro e w3 ⟨rfl, h3⟩
    go_wp2_with fail
    go_ret2
    exact ⟨rfl, h3⟩
  | some i =>
    have k3 := hid (fun W (hb : Below w.heap.size w W) => gput_yes (h.grow hb) q (by omega) v i hl)
    clear h hr hT hs ht hl
    go_enter Tryz.func17, Tryz.ntmps17
    go_wp2_with fail
    refine k1.out.mono ?_
    rintro e w1 ⟨rfl, rfl⟩
    go_wp2_with fail
    refine k2.out.mono ?_
    rintro e w2 ⟨rfl, h2⟩
    have k4 := hid (k3.out _ h2)
    clear h2 k3
    go_wp2_with fail
    refine k4.out.mono ?_
    rintro e w3 ⟨rfl, h3⟩
    go_wp2_with fail
    go_ret2
    exact ⟨rfl, h3⟩

theorem dsV_err {p : Nat} {g : Gt} {n fd : Int} (h : (g.file n fd).2 ≠ 0) : dsV p g n fd = .tuple #[.pointer none, .int .i64 0, .int .i64 (g.file n fd).2] := by unfold dsV; rw [if_pos h]
theorem dsV_ok {p : Nat} {g : Gt} {n fd : Int} (h : (g.file n fd).2 = 0) : dsV p g n fd = .tuple #[.pointer (some ⟨p, 2 + n.toNat * 9, none⟩), .int .i64 (g.file n fd).1, .int .i64 0] := by unfold dsV; rw [if_neg (fun e => e h)]
theorem gclose_any (h : ZpTo w0 p f g G w) (H0 : GOk g) (n fd : Int) :
    Calls Tryz.prog 20 #[.pointer (some ⟨p, 0, none⟩), .int .i64 n, .int .i64 fd] w fun e w' => e = .returned (.int .i64 (g.close n fd).2) ∧ ZpTo w0 p f (g.close n fd).1 G w' := by
  have k1 := hid (gdesc_any p f g n fd w h.tab)
  unfold Gt.close
  by_cases c : (g.file n fd).2 = 0
  · rw [if_neg (fun e => e c)]
    rw [dsV_ok c] at k1
    obtain ⟨q, i, rfl, rfl, q1, q4, i6, qs, _, _⟩ := file_ok H0 c
    rw [Int.toNat_natCast] at k1
    rw [Int.toNat_natCast, Int.toNat_natCast]
    have k2 := hid (fun W (hb : Below w.heap.size w W) => gempty_any (h.grow hb) H0.T q (by omega) i i6)
    clear h H0 qs c
    generalize (g.file (q : Int) (i : Int)).1 = v at k1
    go_enter Tryz.func20, Tryz.ntmps20
    go_wp2_with fail
    refine k1.out.mono ?_
    rintro e w1 ⟨rfl, h1⟩
    have k3 := hid (k2.out _ h1)
    clear h1 k2
    go_wp2_with fail
    refine k3.out.mono ?_
    rintro e w2 ⟨rfl, h2⟩
    go_wp2_with fail
    go_ret
    exact ⟨rfl, h2⟩
  · rw [if_pos c]
    rw [dsV_err c] at k1
    have he : ¬ (g.file n fd).2 = 0 := c
    have H := hid h
    clear h H0 c
    generalize (g.file n fd).2 = v at k1 he ⊢
    go_enter Tryz.func20, Tryz.ntmps20
    go_wp2_with fail
    refine k1.out.mono ?_
    rintro e w1 ⟨rfl, h1⟩
    go_wp2_with fail
    go_ret
    exact ⟨rfl, H.out.grow h1⟩

set_option maxHeartbeats 1000000 in
theorem gdup_any (h : ZpTo w0 p f g G w) (H0 : GOk g) (n fd : Int) :
    Calls Tryz.prog 18 #[.pointer (some ⟨p, 0, none⟩), .int .i64 n, .int .i64 fd] w fun e w' => e = .returned (.tuple #[.int .i64 (g.dup n fd).2.1, .int .i64 (g.dup n fd).2.2]) ∧ ZpTo w0 p f (g.dup n fd).1 G w' := by
  have k1 := hid (gdesc_any p f g n fd w h.tab)
  unfold Gt.dup
  by_cases c : (g.file n fd).2 = 0
  · rw [if_neg (fun e => e c)]
    rw [dsV_ok c] at k1
    obtain ⟨q, i, rfl, rfl, q1, q4, i6, qs, _, ev⟩ := file_ok H0 c
    rw [Int.toNat_natCast] at k1
    rw [Int.toNat_natCast]
    generalize (g.file (q : Int) (i : Int)).1 = v at k1 ev ⊢
    cases hl : Gt.lowest (g.Q q).fd with
    | none =>
      have k2 := hid (fun W (hb : Below w.heap.size w W) => gput_no (h.grow hb) q (by omega) v hl)
      clear h H0 qs c hl ev
      go_enter Tryz.func18, Tryz.ntmps18
      go_wp2_with fail
      refine k1.out.mono ?_
      rintro e w1 ⟨rfl, h1⟩
      have k3 := hid (k2.out _ h1)
      clear h1 k2
      go_wp2_with fail
      refine k3.out.mono ?_
      rintro e w2 ⟨rfl, h2⟩
      go_wp2_with fail
      go_ret2
      exact ⟨rfl, h2⟩
    | some j =>
      have k2 := hid (fun W (hb : Below w.heap.size w W) => gput_yes (h.grow hb) q (by omega) v j hl)
      have HT := hid H0.T
      clear h H0 qs c hl ev
      go_enter Tryz.func18, Tryz.ntmps18
      go_wp2_with fail
      refine k1.out.mono ?_
      rintro e w1 ⟨rfl, h1⟩
      have k3 := hid (k2.out _ h1)
      clear h1 k2
      go_wp2_with fail
      refine k3.out.mono ?_
      rintro e w2 ⟨rfl, h2⟩
      have fl := h2.tab.fl
      have k4 := hid (h2.hold HT.out v)
      clear h2 k3
      go_wp2_with fail
      refine k4.out.mono ?_
      rintro e w3 ⟨rfl, h3⟩
      go_wp2_with fail
      go_ret2
      exact ⟨rfl, h3⟩
  · rw [if_pos c]
    rw [dsV_err c] at k1
    have he : ¬ (g.file n fd).2 = 0 := c
    have H := hid h
    clear h H0 c
    generalize (g.file n fd).2 = v at k1 he ⊢
    go_enter Tryz.func18, Tryz.ntmps18
    go_wp2_with fail
    refine k1.out.mono ?_
    rintro e w1 ⟨rfl, h1⟩
    go_wp2_with fail
    go_ret2
    exact ⟨rfl, H.out.grow h1⟩

set_option maxHeartbeats 2000000 in
theorem gdup2_any (h : ZpTo w0 p f g G w) (H0 : GOk g) (n fd t0 : Int) :
    Calls Tryz.prog 19 #[.pointer (some ⟨p, 0, none⟩), .int .i64 n, .int .i64 fd, .int .i64 t0] w fun e w' => e = .returned (.tuple #[.int .i64 (g.dup2 n fd t0).2.1, .int .i64 (g.dup2 n fd t0).2.2]) ∧ ZpTo w0 p f (g.dup2 n fd t0).1 G w' := by
  have k1 := hid (gdesc_any p f g n fd w h.tab)
  unfold Gt.dup2
  by_cases c : (g.file n fd).2 = 0
  · rw [if_neg (fun e => e c)]
    rw [dsV_ok c] at k1
    obtain ⟨q, i, rfl, rfl, q1, q4, i6, qs, _, ev⟩ := file_ok H0 c
    rw [Int.toNat_natCast] at k1
    rw [Int.toNat_natCast]
    generalize (g.file (q : Int) (i : Int)).1 = v at k1 ev ⊢
    have k2 := hid (fun W => gisdesc_any t0 W)
    by_cases ct : 0 ≤ t0 ∧ t0 < 6
    · rw [if_neg (by omega)]
      have k2 : Hid (∀ W, Calls Tryz.prog 63 #[.int .i64 t0] W fun e w' => e = .returned (.bool true) ∧ w' = W) := by rw [decide_eq_true ct] at k2; exact k2
      by_cases ei : t0 = (i : Int)
      · rw [if_pos ei]
        subst ei
        have H := hid h
        clear h H0 qs c ev
        go_enter Tryz.func19, Tryz.ntmps19
        go_wp2_with fail
        refine k1.out.mono ?_
        rintro e w1 ⟨rfl, h1⟩
        have H1 := hid (H.out.grow h1)
        clear h1 H
        go_wp2_with fail
        refine (k2.out _).mono ?_
        rintro e w2 ⟨rfl, rfl⟩
        go_wp2_with fail
        go_ret2
        exact ⟨rfl, H1.out⟩
      · rw [if_neg ei]
        obtain ⟨t, rfl⟩ := Int.eq_ofNat_of_zero_le ct.1
        have ht : t < 6 := by omega
        rw [Int.toNat_natCast]
        cases hd : dfc g.T.F.d 32
        · rw [if_neg (by decide)]
          have HD := hid hd
          have HT := hid H0.T
          have HT2 := hid (H0.empty q t qs ht).T
          have H := hid h
          clear h H0 qs c ev hd
          have ei' : ¬ ((t : Int) = (i : Int)) := ei
          have c3 := ct.1
          have c4 := ct.2
          go_enter Tryz.func19, Tryz.ntmps19
          go_wp2_with fail
          refine k1.out.mono ?_
          rintro e w1 ⟨rfl, h1⟩
          have H1 := hid (H.out.grow h1)
          clear h1 H
          go_wp2_with fail
          refine (k2.out _).mono ?_
          rintro e w2 ⟨rfl, h2⟩
          subst w2
          have k5 := hid (ghas_any w1 p _ 32 false H1.out.tab.df HD.out)
          go_wp2_with fail
          refine k5.out.mono ?_
          rintro e w2 ⟨rfl, h2⟩
          subst w2
          have k6 := hid (gempty_any H1.out HT.out q (by omega) t ht)
          clear k5 H1
          go_wp2_with fail
          refine k6.out.mono ?_
          rintro e w3 ⟨rfl, h3⟩
          have z := h3.tab.z q (by omega) t ht
          have fz := h3.tab.fz (2 + q * 9 + 3 + t)
          have H4 : Hid (ZpTo w0 p f ((g.empty q t).setFd q t v) G (w3.setCell ⟨p, 2 + q * 9 + 3 + t, none⟩ (.int .i64 v))) := hid (h3.put (h3.tab.fdTo q (by omega) t ht v) (Upd.setCell (F := (· = p)) w3 ⟨p, _, none⟩ _ rfl))
          have fl := H4.out.tab.fl
          have k7 := hid (H4.out.hold HT2.out v)
          clear h3 k6 H4
          go_wp2_with fail
          refine k7.out.mono ?_
          rintro e w4 ⟨rfl, h4⟩
          go_wp2_with fail
          go_ret2
          exact ⟨rfl, h4⟩
        · rw [if_pos rfl]
          have HD := hid hd
          have HT := hid H0.T
          have H := hid h
          clear h H0 qs c ev hd
          have ei' : ¬ ((t : Int) = (i : Int)) := ei
          have c3 := ct.1
          have c4 := ct.2
          go_enter Tryz.func19, Tryz.ntmps19
          go_wp2_with fail
          refine k1.out.mono ?_
          rintro e w1 ⟨rfl, h1⟩
          have h3 := H.out.grow h1
          have H1 := hid h3
          have z := h3.tab.z q (by omega) t ht
          have fz := h3.tab.fz (2 + q * 9 + 3 + t)
          clear h1 H h3
          go_wp2_with fail
          refine (k2.out _).mono ?_
          rintro e w2 ⟨rfl, h2⟩
          subst w2
          have k5 := hid (ghas_any w1 p _ 32 true H1.out.tab.df HD.out)
          go_wp2_with fail
          refine k5.out.mono ?_
          rintro e w2 ⟨rfl, h2⟩
          subst w2
          have H4 : Hid (ZpTo w0 p f (g.setFd q t v) G (w1.setCell ⟨p, 2 + q * 9 + 3 + t, none⟩ (.int .i64 v))) := hid (H1.out.put (H1.out.tab.fdTo q (by omega) t ht v) (Upd.setCell (F := (· = p)) w1 ⟨p, _, none⟩ _ rfl))
          have fl := H4.out.tab.fl
          have k7 := hid (H4.out.hold HT.out v)
          clear k5 H4 H1
          go_wp2_with fail
          refine k7.out.mono ?_
          rintro e w4 ⟨rfl, h4⟩
          go_wp2_with fail
          go_ret2
          exact ⟨rfl, h4⟩
    · rw [if_pos (by omega)]
      have k2 : Hid (∀ W, Calls Tryz.prog 63 #[.int .i64 t0] W fun e w' => e = .returned (.bool false) ∧ w' = W) := by rw [decide_eq_false ct] at k2; exact k2
      have H := hid h
      clear h H0 qs c ev
      go_enter Tryz.func19, Tryz.ntmps19
      go_wp2_with fail
      refine k1.out.mono ?_
      rintro e w1 ⟨rfl, h1⟩
      have H1 := hid (H.out.grow h1)
      clear h1 H
      go_wp2_with fail
      refine (k2.out _).mono ?_
      rintro e w2 ⟨rfl, rfl⟩
      go_wp2_with fail
      go_ret2
      exact ⟨rfl, H1.out⟩
  · rw [if_pos c]
    rw [dsV_err c] at k1
    have he : ¬ (g.file n fd).2 = 0 := c
    have H := hid h
    clear h H0 c
    generalize (g.file n fd).2 = v at k1 he ⊢
    go_enter Tryz.func19, Tryz.ntmps19
    go_wp2_with fail
    refine k1.out.mono ?_
    rintro e w1 ⟨rfl, h1⟩
    go_wp2_with fail
    go_ret2
    exact ⟨rfl, H.out.grow h1⟩
end

end Go.Proofs.YtbglhmcahnkbfaaGreat

/- The program's processes: leave, Exit, Kill. -/
namespace Go.Proofs.YtbglhmcahnkbfaaGreat
open Go.RowKit Go.ChangeMaps Go.MapKept
set_option linter.unusedVariables false
set_option maxRecDepth 20000

theorem and255 (n : Int) : bits .and .i64 n 255 = n % 256 := by
  have h255 : (BitVec.ofInt 64 255).toNat = 2 ^ 8 - 1 := by decide
  have hk : (BitVec.ofInt 64 n &&& BitVec.ofInt 64 255).toNat = (n % ((2 ^ 64 : Nat) : Int)).toNat % 2 ^ 8 := by
    rw [BitVec.toNat_and, BitVec.toNat_ofInt, h255, Nat.and_two_pow_sub_one_eq_mod]
  have hw : bits .and .i64 n 255 = IntKind.i64.wrap ((BitVec.ofInt 64 n &&& BitVec.ofInt 64 255).toNat : Nat) := rfl
  rw [hw, hk, IntKind.wrap_i64]
  omega

theorem builtGp : Tryz.prog.built 79 [] = some (gpC noGp).toArray := by kernel_rfl
theorem csizeGp : (Tryz.prog.info? 79).map (·.size) = some 9 := by kernel_rfl

/-- The children of the numbers below are left. -/
def lvTo (Q : Nat → Gp) (q j : Nat) : Nat → Gp := fun n => if n < j then Gt.leave Q q n else Q n
theorem lvTo_0 (Q : Nat → Gp) (q : Nat) : lvTo Q q 0 = Q := by funext n; unfold lvTo; rw [if_neg (Nat.not_lt_zero n)]
theorem lvTo_at (Q : Nat → Gp) (q j : Nat) : lvTo Q q j j = Q j := by unfold lvTo; rw [if_neg (Nat.lt_irrefl j)]
theorem lvTo_all {Q : Nat → Gp} (q : Nat) (ho : ∀ i, 5 ≤ i → Q i = noGp) : lvTo Q q 5 = Gt.leave Q q := by
  funext n
  unfold lvTo
  split
  · rfl
  · unfold Gt.leave
    rw [ho n (by omega), if_neg (fun h => h.1 rfl)]
theorem lvTo_upd (Q : Nat → Gp) (q j : Nat) (x : Gp) (hx : Gt.leave Q q j = x) : updG (lvTo Q q j) j x = lvTo Q q (j + 1) := by
  funext n
  unfold updG lvTo
  by_cases e : n = j
  · subst e; rw [if_pos rfl, if_pos (by omega), hx]
  · rw [if_neg e]
    by_cases l : n < j
    · rw [if_pos l, if_pos (by omega)]
    · rw [if_neg l, if_neg (by omega)]
theorem lvTo_same (Q : Nat → Gp) (q j : Nat) (hx : Gt.leave Q q j = Q j) : lvTo Q q (j + 1) = lvTo Q q j := by
  rw [← lvTo_upd Q q j _ rfl, hx]
  funext n
  unfold updG
  split
  · rename_i e; rw [e, lvTo_at]
  · rfl
theorem updG_updG (Q : Nat → Gp) (i : Nat) (x y : Gp) : updG (updG Q i x) i y = updG Q i y := by
  funext j; unfold updG; split <;> rfl

section
variable {w0 w : World} {p f : Nat} {g : Gt} {G : Nat → Prop}
set_option maxHeartbeats 2000000 in
theorem gleave_any (h : ZpTo w0 p f g G w) (q : Nat) (hq : 1 ≤ q) (hz : ∀ i, (g.Q i).st = 0 → g.Q i = noGp) (ho : ∀ i, 5 ≤ i → g.Q i = noGp) :
    Calls Tryz.prog 54 #[.pointer (some ⟨p, 0, none⟩), .int .i64 (q : Int)] w fun e w' => e = .returned (.tuple #[]) ∧ ZpTo w0 p f { g with Q := Gt.leave g.Q q } G w' := by
  have HN : Hid (∀ j, (g.Q j).pa = (q : Int) → (g.Q j).st ≠ 0) := hid (fun j hj hs => by
    rw [hz j hs] at hj
    have : (0 : Int) = (q : Int) := hj
    omega)
  rw [← lvTo_all q ho]
  have H : Hid (ZpTo w0 p f { g with Q := lvTo g.Q q 0 } G w) := hid (by rw [lvTo_0]; exact h)
  obtain ⟨N, gN⟩ : ∃ N, N = gpC noGp := ⟨_, rfl⟩
  have HSZ : Hid ((Tryz.prog.info? 79).map (·.size) = some N.toArray.size) := by rw [gN]; exact hid csizeGp
  have HBU : Hid (Tryz.prog.built 79 [] = some N.toArray) := by rw [gN]; exact hid builtGp
  have H1 : Hid (N.toArray.all (·.oneCell') = true) := by rw [gN]; exact hid (by simp [gpC, Value.oneCell'])
  have HT2 : Hid (9 = N.toArray.size) := by rw [gN]; exact hid rfl
  have GN := hid gN
  clear h hz ho gN
  go_enter Tryz.func54, Tryz.ntmps54
  go_wp2_with fail
  go_loopw [6] (fun s wr => ∃ j : Nat, j ≤ 5 ∧ s = .int .i64 (j : Int) ∧ Hid (ZpTo w0 p f { g with Q := lvTo g.Q q j } G wr)) (fun s _ => 5 - (intOf s).toNat)
  case atStart => exact ⟨0, by omega, rfl, H⟩
  case round =>
    clear H
    obtain ⟨j, hj5, rfl, HR⟩ := hrel
    by_cases e5 : j = 5
    · subst e5
      go_wp2_with fail
      go_end0
      exact ⟨rfl, HR.out⟩
    · have hj : j < 5 := by omega
      have c3 : (0 : Int) ≤ j := by omega
      have c4 : (j : Int) < 5 := by omega
      have fz := HR.out.tab.fz (2 + j * 9 + 1)
      have eat : lvTo g.Q q j j = g.Q j := lvTo_at _ _ _
      have cp : wr.cell? ⟨p, 2 + j * 9 + 1, none⟩ = some (.int .i64 (g.Q j).pa) := by rw [← eat]; exact HR.out.tab.pa j hj
      have cs : wr.cell? ⟨p, 2 + j * 9, none⟩ = some (.int .i64 (g.Q j).st) := by rw [← eat]; exact HR.out.tab.st j hj
      have HN' := hid (HN.out j)
      by_cases ep : (g.Q j).pa = (q : Int)
      · have hs0 := HN'.out ep
        have hA : ZpTo w0 p f { g with Q := updG (lvTo g.Q q j) j { g.Q j with pa := 0 } } G (wr.setCell ⟨p, 2 + j * 9 + 1, none⟩ (.int .i64 0)) := by
          have := HR.out.put (HR.out.tab.paTo j hj 0) (Upd.setCell (F := (· = p)) wr ⟨p, _, none⟩ _ rfl)
          have e2 : ({ ({ g with Q := lvTo g.Q q j } : Gt).Q j with pa := 0 } : Gp) = { g.Q j with pa := 0 } := by rw [show ({ g with Q := lvTo g.Q q j } : Gt).Q j = g.Q j from eat]
          rw [e2] at this
          exact this
        rw [ep] at cp
        by_cases e2 : (g.Q j).st = 2
        · have hth := hA.tab.th j hj
          have hB : ZpTo w0 p f { g with Q := lvTo g.Q q (j + 1) } G ((wr.setCell ⟨p, 2 + j * 9 + 1, none⟩ (.int .i64 0)).setCells p (2 + j * 9) (gpC noGp)) := by
            have := hA.put (hA.tab.put j hj noGp) (upd_setCells p (gpC noGp) _ _)
            rw [show updG ({ g with Q := updG (lvTo g.Q q j) j { g.Q j with pa := 0 } } : Gt).Q j noGp = lvTo g.Q q (j + 1) from (updG_updG _ _ _ _).trans (lvTo_upd _ _ _ _ (by unfold Gt.leave; rw [if_pos ⟨hs0, ep⟩, if_pos e2]))] at this
            exact this
          rw [← GN.out] at hB
          rw [e2] at cs
          have HB := hid hB
          have HTH := hid hth
          clear hB hth hA HR eat hs0 ep e2 HN'
          go_wp2_with (first
            | (refine wpList_build_is rfl 79 #[] rfl N.toArray (by simpa using HBU.out) ?_)
            | (refine wpList_store_mid rfl 79 (.tmp 30) (.tmp 29) rfl p (2 + j * 9) N.toArray rfl rfl (by rw [← HT2.out]; exact HTH.out) HSZ.out H1.out ?_))
          go_roundw
          case rel => exact ⟨j + 1, by omega, by go_num, HB⟩
          case measure => simp [intOf]; omega
        · have hB : ZpTo w0 p f { g with Q := lvTo g.Q q (j + 1) } G (wr.setCell ⟨p, 2 + j * 9 + 1, none⟩ (.int .i64 0)) := by
            rw [lvTo_upd _ _ _ _ (by unfold Gt.leave; rw [if_pos ⟨hs0, ep⟩, if_neg e2])] at hA
            exact hA
          have HB := hid hB
          clear hB hA HR eat hs0 ep HN'
          generalize (g.Q j).st = s at cs e2
          go_wp2_with fail
          go_roundw
          case rel => exact ⟨j + 1, by omega, by go_num, HB⟩
          case measure => simp [intOf]; omega
      · have HR' : Hid (ZpTo w0 p f { g with Q := lvTo g.Q q (j + 1) } G wr) := hid (by
          rw [lvTo_same _ _ _ (by unfold Gt.leave; rw [if_neg (fun h => ep h.2)])]
          exact HR.out)
        clear HR eat HN' cs
        generalize (g.Q j).pa = a at cp ep
        go_wp2_with fail
        go_roundw
        case rel => exact ⟨j + 1, by omega, by go_num, HR'⟩
        case measure => simp [intOf]; omega
end

end Go.Proofs.YtbglhmcahnkbfaaGreat
