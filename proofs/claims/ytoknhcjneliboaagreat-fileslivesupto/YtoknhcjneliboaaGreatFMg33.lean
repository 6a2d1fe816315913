/- Texts of this seat, merged. -/
import Derived.Test.YtoknhcjneliboaaGreatFMg32
import Derived.Test.YtoknhcjneliboaaGreatFMg23
import Derived.Test.YtoknhcjneliboaaGreatFMg31
import Derived.Test.YtoknhcjneliboaaGreatFMg1
import Derived.Test.YtoknhcjneliboaaGreatFMg14
import Derived.Test.YtoknhcjneliboaaGreatFMg22
import Derived.BigQuiet
import Derived.Test.YtoknhcjneliboaaGreatFMg28

/- What Look, New do (program). -/
namespace Go.Proofs.YtoknhcjneliboaaGreat
open Go.RowKit Go.ChangeMaps Go.MapKept
set_option linter.unusedVariables false
set_option maxRecDepth 20000

def fL (F : Nat → Fl) : List Value := flC (F 0) ++ flC (F 1) ++ flC (F 2) ++ flC (F 3) ++ flC (F 4) ++ flC (F 5) ++ flC (F 6) ++ flC (F 7) ++ flC (F 8) ++ flC (F 9) ++ flC (F 10)
theorem fL_len (F : Nat → Fl) : (fL F).length = 55 := rfl
set_option maxHeartbeats 4000000 in
theorem fL_at (F : Nat → Fl) (i : Nat) (hi : i < 11) (k : Nat) (hk : k < 5) : (fL F)[i * 5 + k]? = (flC (F i))[k]? := by
  obtain rfl | rfl | rfl | rfl | rfl | rfl | rfl | rfl | rfl | rfl | rfl : i = 0 ∨ i = 1 ∨ i = 2 ∨ i = 3 ∨ i = 4 ∨ i = 5 ∨ i = 6 ∨ i = 7 ∨ i = 8 ∨ i = 9 ∨ i = 10 := by omega
  all_goals (obtain rfl | rfl | rfl | rfl | rfl : k = 0 ∨ k = 1 ∨ k = 2 ∨ k = 3 ∨ k = 4 := by omega)
  all_goals rfl
theorem ixFl0 : (fun (F : Nat → Fl) (W : World) => (Instr.index 59 (.agg (fL F).toArray) (.int .i64 0)).run Tryz.prog W) = (fun (F : Nat → Fl) (W : World) => .ok (.agg (flC (F 0)).toArray) W) := by kernel_rfl
theorem ixFl1 : (fun (F : Nat → Fl) (W : World) => (Instr.index 59 (.agg (fL F).toArray) (.int .i64 1)).run Tryz.prog W) = (fun (F : Nat → Fl) (W : World) => .ok (.agg (flC (F 1)).toArray) W) := by kernel_rfl
theorem ixFl2 : (fun (F : Nat → Fl) (W : World) => (Instr.index 59 (.agg (fL F).toArray) (.int .i64 2)).run Tryz.prog W) = (fun (F : Nat → Fl) (W : World) => .ok (.agg (flC (F 2)).toArray) W) := by kernel_rfl
theorem ixFl3 : (fun (F : Nat → Fl) (W : World) => (Instr.index 59 (.agg (fL F).toArray) (.int .i64 3)).run Tryz.prog W) = (fun (F : Nat → Fl) (W : World) => .ok (.agg (flC (F 3)).toArray) W) := by kernel_rfl
theorem ixFl4 : (fun (F : Nat → Fl) (W : World) => (Instr.index 59 (.agg (fL F).toArray) (.int .i64 4)).run Tryz.prog W) = (fun (F : Nat → Fl) (W : World) => .ok (.agg (flC (F 4)).toArray) W) := by kernel_rfl
theorem ixFl5 : (fun (F : Nat → Fl) (W : World) => (Instr.index 59 (.agg (fL F).toArray) (.int .i64 5)).run Tryz.prog W) = (fun (F : Nat → Fl) (W : World) => .ok (.agg (flC (F 5)).toArray) W) := by kernel_rfl
theorem ixFl6 : (fun (F : Nat → Fl) (W : World) => (Instr.index 59 (.agg (fL F).toArray) (.int .i64 6)).run Tryz.prog W) = (fun (F : Nat → Fl) (W : World) => .ok (.agg (flC (F 6)).toArray) W) := by kernel_rfl
theorem ixFl7 : (fun (F : Nat → Fl) (W : World) => (Instr.index 59 (.agg (fL F).toArray) (.int .i64 7)).run Tryz.prog W) = (fun (F : Nat → Fl) (W : World) => .ok (.agg (flC (F 7)).toArray) W) := by kernel_rfl
theorem ixFl8 : (fun (F : Nat → Fl) (W : World) => (Instr.index 59 (.agg (fL F).toArray) (.int .i64 8)).run Tryz.prog W) = (fun (F : Nat → Fl) (W : World) => .ok (.agg (flC (F 8)).toArray) W) := by kernel_rfl
theorem ixFl9 : (fun (F : Nat → Fl) (W : World) => (Instr.index 59 (.agg (fL F).toArray) (.int .i64 9)).run Tryz.prog W) = (fun (F : Nat → Fl) (W : World) => .ok (.agg (flC (F 9)).toArray) W) := by kernel_rfl
theorem ixFl10 : (fun (F : Nat → Fl) (W : World) => (Instr.index 59 (.agg (fL F).toArray) (.int .i64 10)).run Tryz.prog W) = (fun (F : Nat → Fl) (W : World) => .ok (.agg (flC (F 10)).toArray) W) := by kernel_rfl
theorem ixFl (F : Nat → Fl) (j : Nat) (hj : j < 11) (W : World) : (Instr.index 59 (.agg (fL F).toArray) (.int .i64 (j : Int))).run Tryz.prog W = .ok (.agg #[.int .i64 (F j).k, .int .i64 (F j).of, .int .i64 (F j).off, .int .i64 (F j).fl, .int .i64 (F j).h]) W := by
  obtain rfl | rfl | rfl | rfl | rfl | rfl | rfl | rfl | rfl | rfl | rfl : j = 0 ∨ j = 1 ∨ j = 2 ∨ j = 3 ∨ j = 4 ∨ j = 5 ∨ j = 6 ∨ j = 7 ∨ j = 8 ∨ j = 9 ∨ j = 10 := by omega
  · exact congrFun (congrFun ixFl0 F) W
  · exact congrFun (congrFun ixFl1 F) W
  · exact congrFun (congrFun ixFl2 F) W
  · exact congrFun (congrFun ixFl3 F) W
  · exact congrFun (congrFun ixFl4 F) W
  · exact congrFun (congrFun ixFl5 F) W
  · exact congrFun (congrFun ixFl6 F) W
  · exact congrFun (congrFun ixFl7 F) W
  · exact congrFun (congrFun ixFl8 F) W
  · exact congrFun (congrFun ixFl9 F) W
  · exact congrFun (congrFun ixFl10 F) W

theorem Tf.range {w : World} {t p q : Nat} {F : Nat → Fl} (h : Tf w t p q F) : w.rangeAt t 2 (fL F) := fun j v hv => by
  obtain ⟨C, hb, hc⟩ := h
  have hj : j < 55 := by
    rcases Nat.lt_or_ge j 55 with q | q
    · exact q
    · rw [List.getElem?_eq_none (by rw [fL_len]; exact q)] at hv; simp at hv
  have e : j = j / 5 * 5 + j % 5 := by omega
  rw [e, fL_at F (j / 5) (by omega) (j % 5) (by omega), ← hc.at_ (j / 5) (by omega) (j % 5) (by omega)] at hv
  rw [show 2 + j = 2 + j / 5 * 5 + j % 5 by omega]
  exact cell_list hb hv
theorem csizeFls : (Tryz.prog.info? 59).map (·.size) = some 55 := by kernel_rfl


set_option maxHeartbeats 4000000 in
theorem tplook (w : World) (t : Nat) (T : Ft) (G : Nat → Prop) (HP : Tp w t T G) (hT : TOk T) :
    Calls Tryz.prog 9 #[.pointer (some ⟨t, 0, none⟩)] w fun e w' => (∃ v, e = .returned v ∧ w'.ownsRow w.heap.size 40 6 v (oiN T.O 11) (oiL T.O 11)) ∧ Below w.heap.size w w' := by
  obtain ⟨p, q, O0, Gn, H, hG⟩ := HP
  have hcg := oiL_congr (O := O0) (O' := T.O) 11 (fun i hi => ⟨H.h0 i hi, fun h => H.at i hi (by rw [← H.h0 i hi]; exact h)⟩)
  rw [← hcg.1, ← hcg.2]
  have hh0 : ∀ i, i < 11 → 0 ≤ (O0 i).h := fun i hi => by rw [H.h0 i hi]; exact (hT.h i).1
  obtain ⟨i0, hi0, hz0, hz1, hz2⟩ := info_parts infoOI
  have k1 := hid (fusable_yes t p w H.tf.s)
  have hR := hid H.tf.range
  obtain ⟨L, gL⟩ : ∃ L, L = fL O0 := ⟨_, rfl⟩
  have HS : Hid ((Tryz.prog.info? 59).map (·.size) = some L.length) := by rw [csizeFls, gL, fL_len]; exact hid rfl
  have HIX : Hid (∀ j : Nat, j < 11 → ∀ W : World, (Instr.index 59 (.agg L.toArray) (.int .i64 (j : Int))).run Tryz.prog W = .ok (.agg #[.int .i64 (O0 j).k, .int .i64 (O0 j).of, .int .i64 (O0 j).off, .int .i64 (O0 j).fl, .int .i64 (O0 j).h]) W) := by
    rw [gL]; exact hid (fun j hj W => ixFl O0 j hj W)
  rw [← gL] at hR
  have HH0 := hid hh0
  clear H gL hG hT hcg hh0
  go_enter Tryz.func9, Tryz.ntmps9
  go_wp2_with fail
  refine k1.out.mono ?_
  rintro e w1 ⟨rfl, rfl⟩
  clear k1
  go_wp2_with (refine wpList_load_mid rfl 59 (.tmp 11) rfl t 2 rfl L _ hR.out Tryz.underlying59 rfl HS.out ?_)
  go_loopw [3, 13] (fun v k wr => ∃ (j : Nat) (a : Option Addr) (c : Nat), j ≤ 11 ∧ k = .int .i64 (j : Int) ∧ v = .slice a (oiN O0 j) c ∧ Hid (wr.ownsRow w1.heap.size 40 6 (.slice a (oiN O0 j) c) (oiN O0 j) (oiL O0 j)) ∧ Hid (Below w1.heap.size w1 wr)) (fun _ k _ => 11 - (intOf k).toNat)
  case atStart => exact ⟨0, none, 0, by omega, rfl, rfl, hid (World.ownsRow_nil _ _ _ _), hid (Below.refl _ _)⟩
  case round =>
    obtain ⟨j, a, c, hj5, rfl, rfl, HO, HB⟩ := hrel
    by_cases e : j = 11
    · subst e
      go_wp2_with fail
      go_ret
      exact ⟨⟨_, rfl, HO.out⟩, HB.out⟩
    · have hj : j < 11 := by omega
      have hix := HIX.out j hj
      have hj6 : (j : Int) < 11 := by omega
      have h0 := HH0.out j hj
      have hcl := oiN_le O0 j
      have HN : Hid ((O0 j).h = 0 → oiL O0 (j + 1) = oiL O0 j ∧ oiN O0 (j + 1) = oiN O0 j) := hid (fun e => ⟨by rw [oiL, if_pos e], by rw [oiN, if_pos e]⟩)
      have HY : Hid ((O0 j).h ≠ 0 → oiL O0 (j + 1) = oiL O0 j ++ oiV j (O0 j) ∧ oiN O0 (j + 1) = oiN O0 j + 1) := hid (fun e => ⟨by rw [oiL, if_neg e], by rw [oiN, if_neg e]⟩)
      have hX := (Below.refl wr.heap.size wr).alloc (Nat.le_refl _) (.cells #[.int .i64 (O0 j).k, .int .i64 (O0 j).of, .int .i64 (O0 j).off, .int .i64 (O0 j).fl, .int .i64 (O0 j).h] 58)
      have HB2 : Hid (Below w1.heap.size w1 (wr.alloc (.cells #[.int .i64 (O0 j).k, .int .i64 (O0 j).of, .int .i64 (O0 j).off, .int .i64 (O0 j).fl, .int .i64 (O0 j).h] 58))) := hid (HB.out.trans (hX.mono HB.out.size))
      have HO2 : Hid ((wr.alloc (.cells #[.int .i64 (O0 j).k, .int .i64 (O0 j).of, .int .i64 (O0 j).off, .int .i64 (O0 j).fl, .int .i64 (O0 j).h] 58)).ownsRow w1.heap.size 40 6 (.slice a (oiN O0 j) c) (oiN O0 j) (oiL O0 j)) := hid ((Upd.of_below (F := fun _ => False) hX).own HO.out (fun _ _ h => h))
      clear hX HO HB e
      by_cases hh : (O0 j).h = 0
      · obtain ⟨e1, e2⟩ := HN.out hh
        have HO3 := HO2
        rw [← e1, ← e2] at HO3
        have hpos : ¬ (0 : Int) < (O0 j).h := by omega
        have E2 := hid e2
        clear HN HY e1 e2 hh
        go_wp2_with fail
        go_roundw
        case rel => exact ⟨j + 1, a, c, by omega, by go_num, by rw [E2.out], HO3, HB2⟩
        case measure => simp [intOf]; omega
      · obtain ⟨e1, e2⟩ := HY.out hh
        have E1 := hid e1
        have E2 := hid e2
        have hpos : (0 : Int) < (O0 j).h := by omega
        have E3 : Hid (oiV j (O0 j) = [.int .i64 (j : Int), .int .i64 (O0 j).k, .int .i64 (O0 j).of, .int .i64 (O0 j).off, .int .i64 (O0 j).fl, .int .i64 (O0 j).h]) := hid rfl
        clear HN HY e1 e2 hh
        generalize (O0 j).k = fk at hix HB2 HO2 E3
        generalize (O0 j).of = fo at hix HB2 HO2 E3
        generalize (O0 j).off = ff at hix HB2 HO2 E3
        generalize (O0 j).fl = fg at hix HB2 HO2 E3
        generalize (O0 j).h = fh at hix HB2 HO2 hpos h0 E3
        rw [E3.out] at E1
        generalize oiN O0 j = nn at HO2 E2 hcl ⊢
        generalize oiL O0 j = ll at HO2 E1
        go_wp2_with (at_builtin; go_must (refine wpList_append_own _ rfl (.tmp 20) (.tmp 33) 37 rfl w1.heap.size 40 i0 _ 6 48 Tryz.underlying37 hi0 hz0 hz1 hz2 rfl (by decide) _ nn ll rfl (HO2.out.alloc _) ⟨_, 0, none⟩ 1 1 [.int .i64 (j : Int), .int .i64 fk, .int .i64 fo, .int .i64 ff, .int .i64 fg, .int .i64 fh] rfl rfl (cells_new _ _ _ _ (by simp)) (by simp [Value.oneCell']) (by unfold maxLen; omega) (by omega) (by have := HB2.out.size; simp at this ⊢; omega) ?_))
        intro v' w6 hO6 hG6 hN6
        obtain ⟨va, vc, rfl, _⟩ := own_shp hO6
        have HB6 : Hid (Below w1.heap.size w1 w6) := hid ((HB2.out.alloc HB2.out.size _).grown hG6 (by have := HB2.out.size; simp at this ⊢; omega) (fun x hx => (HO2.out.lt x hx).1))
        have HO6 : Hid (w6.ownsRow w1.heap.size 40 6 (.slice va (nn + 1) vc) (nn + 1) (oiL O0 (j + 1))) := hid (by rw [E1.out]; exact hO6)
        clear hO6 hG6 hN6 HO2 HB2
        go_wp2_with fail
        go_roundw
        case rel => exact ⟨j + 1, va, vc, by omega, by go_num, by rw [E2.out], by rw [E2.out]; exact HO6, HB6⟩
        case measure => simp [intOf]; omega

set_option maxHeartbeats 2000000 in
theorem tpnew (w : World) (d : Int) : Calls Tryz.prog 5 #[.int .i64 d] w fun e w' => ∃ t, e = .returned (.pointer (some ⟨t, 0, none⟩)) ∧ Tp w' t (newT d) (fun b => w.heap.size ≤ b) ∧ Below w.heap.size w w' := by
  have k1 := hid (npnew_any w d)
  have k2 := hid (fun W => Pi.pnew_any d W)
  go_enter Tryz.func5, Tryz.ntmps5
  go_wp2_with fail
  refine k1.out.mono ?_
  rintro e w1 ⟨p, rfl, h1, hb1⟩
  have H1 := hid h1
  have HB1 := hid hb1
  clear h1 hb1 k1
  go_wp2_with fail
  refine (k2.out w1).mono ?_
  rintro e w2 ⟨rfl, h2, hb2, hz2⟩
  have H2 := hid h2
  have HB2 := hid hb2
  have HZ2 := hid hz2
  clear h2 hb2 hz2 k2
  obtain ⟨Z, gZ⟩ : ∃ Z, Z = tabZ p w1.heap.size := ⟨_, rfl⟩
  have HT : Hid (Tryz.prog.built 61 [(0, .pointer (some ⟨p, 0, none⟩)), (1, .pointer (some ⟨w1.heap.size, 0, none⟩))] = some Z.toArray) := by rw [gZ]; exact hid (builtTab _ _)
  have GZ := hid gZ
  clear gZ
  go_wp2_with (refine wpList_build_is rfl 61 #[(0, .tmp 4), (1, .tmp 6)] rfl Z.toArray (by simpa [Act.eval] using HT.out) ?_)
  go_ret
  have b3 : Below w2.heap.size w2 (w2.alloc (Obj.cells Z.toArray 61)) := one_new _ _
  have s1 := HB1.out.size
  have s2 := HZ2.out
  have hp := H1.out.lt
  refine ⟨w2.heap.size, rfl, ⟨p, w1.heap.size, fun _ => noFl, fun b => w.heap.size ≤ b ∧ b < w1.heap.size, ⟨⟨Z, heap_alloc_new _ _, by rw [GZ.out]; exact tabZ_fls _ _⟩, fun i hi => ?_, ((H1.out.mono (fun x hx h => ⟨h, hx⟩)).grow HB2.out).grow b3, ?_, by omega, fun h => by omega, fun h => by omega⟩, fun b hb => ?_⟩, (HB1.out.trans (HB2.out.mono s1)).trans (b3.mono (by omega))⟩
  · show noFl = clF noFl
    unfold clF
    split <;> rfl
  · have ht : Pi.Tb (w2.alloc (Obj.cells Z.toArray 61)) w1.heap.size (Pi.bit8 d) Pi.noPipes := H2.out.below b3 H2.out.lt
    exact ⟨⟨_, ht, fun i hi => rfl⟩, fun i hi => ⟨Nat.zero_le _, Nat.zero_le _⟩⟩
  · rcases hb with rfl | rfl | hb
    · omega
    · exact s1
    · exact hb.1

end Go.Proofs.YtoknhcjneliboaaGreat

/- slices.Equal of what Look tells; what it tells are numbers. -/
namespace Go.Proofs.YtoknhcjneliboaaGreat
open Go.RowKit Go.ChangeMaps Go.MapKept
set_option linter.unusedVariables false
set_option maxRecDepth 20000

theorem oiL_len (O : Nat → Fl) : ∀ n, (oiL O n).length = oiN O n * 6
  | 0 => rfl
  | n + 1 => by
    have := oiL_len O n
    simp only [oiL, oiN]; split
    · exact this
    · rw [List.length_append, this]; simp [oiV]; omega
theorem oiL_int (O : Nat → Fl) : ∀ n j, j < (oiL O n).length → ∃ y : Int, (oiL O n)[j]? = some (.int .i64 y)
  | 0, j, h => by simp [oiL] at h
  | n + 1, j, h => by
    have ih := oiL_int O n j
    simp only [oiL] at h ⊢
    split at h
    · rename_i ht
      rw [if_pos ht]; exact ih h
    · rename_i ht
      rw [if_neg ht]
      rcases Nat.lt_or_ge j (oiL O n).length with h1 | h1
      · rw [List.getElem?_append_left h1]; exact ih h1
      · rw [List.getElem?_append_right h1]
        rw [List.length_append] at h
        simp only [oiV, List.length_cons, List.length_nil] at h ⊢
        obtain hj | hj | hj | hj | hj | hj : j - (oiL O n).length = 0 ∨ j - (oiL O n).length = 1 ∨ j - (oiL O n).length = 2 ∨ j - (oiL O n).length = 3 ∨ j - (oiL O n).length = 4 ∨ j - (oiL O n).length = 5 := by omega
        all_goals (rw [hj]; exact ⟨_, rfl⟩)

set_option maxHeartbeats 2000000 in
theorem oequal_yes (v1 v2 : Value) (B n : Nat) (xs : List Value) (w : World) (h1 : w.ownsRow B 40 6 v1 n xs) (h2 : w.ownsRow B 40 6 v2 n xs) (hx : ∀ j, j < xs.length → ∃ y : Int, xs[j]? = some (.int .i64 y)) (hn : n ≤ 11) :
    Calls Tryz.prog 39 #[v1, v2] w fun e w' => e = .returned (.bool true) ∧ Below w.heap.size w w' := by
  have hl : xs.length = n * 6 := h1.1
  have shape : ∀ v, w.ownsRow B 40 6 v n xs → ∃ a c, v = .slice a n c ∧ (0 < n → ∃ g, a = some ⟨g, 0, none⟩ ∧ ∀ j x, j < n * 6 → xs[j]? = some x → w.cell? ⟨g, j, none⟩ = some x) := by
    intro v h
    rcases h.2 with ⟨rfl, rfl⟩ | ⟨g, cap, cur, rfl, _⟩
    · exact ⟨none, 0, rfl, fun h => absurd h (Nat.lt_irrefl 0)⟩
    · exact ⟨_, cap, rfl, fun _ => ⟨g, rfl, fun j x hj hx => by rw [h.cellAt j hj]; exact hx⟩⟩
  obtain ⟨a1, c1, rfl, s1⟩ := shape v1 h1
  obtain ⟨a2, c2, rfl, s2⟩ := shape v2 h2
  have S1 := hid s1
  have S2 := hid s2
  have HX := hid hx
  have HL := hid hl
  clear s1 s2 hx h1 h2 shape hl
  go_enter Tryz.func39, Tryz.ntmps39
  go_wp2_with fail
  go_loopw [13] (fun s wr => ∃ j : Nat, j ≤ n ∧ s = .int .i64 j ∧ Hid (wr.heap = w.heap ∧ Upd (fun _ => False) w wr)) (fun s _ => n - (intOf s).toNat)
  case atStart => exact ⟨0, Nat.zero_le _, rfl, hid ⟨rfl, Upd.refl _ _⟩⟩
  case round =>
    obtain ⟨j, hj, rfl, HH⟩ := hrel
    by_cases h : j < n
    · obtain ⟨g1, rfl, k1⟩ := S1.out (by omega)
      obtain ⟨g2, rfl, k2⟩ := S2.out (by omega)
      have hl := HL.out
      obtain ⟨y0, x0⟩ := HX.out (j * 6) (by omega)
      obtain ⟨y1, x1⟩ := HX.out (j * 6 + 1) (by omega)
      obtain ⟨y2, x2⟩ := HX.out (j * 6 + 2) (by omega)
      obtain ⟨y3, x3⟩ := HX.out (j * 6 + 3) (by omega)
      obtain ⟨y4, x4⟩ := HX.out (j * 6 + 4) (by omega)
      obtain ⟨y5, x5⟩ := HX.out (j * 6 + 5) (by omega)
      have cv : ∀ g o v, w.cell? ⟨g, o, none⟩ = some v → wr.cell? ⟨g, o, none⟩ = some v := fun g o v hv => by
        rw [← hv]; exact World.cell?_of_block (a := ⟨g, o, none⟩) (by rw [HH.out.1])
      have p0 := cv _ _ _ (k1 _ _ (by omega) x0)
      have p1 := cv _ _ _ (k1 _ _ (by omega) x1)
      have p2 := cv _ _ _ (k1 _ _ (by omega) x2)
      have p3 := cv _ _ _ (k1 _ _ (by omega) x3)
      have p4 := cv _ _ _ (k1 _ _ (by omega) x4)
      have p5 := cv _ _ _ (k1 _ _ (by omega) x5)
      have q0 := cv _ _ _ (k2 _ _ (by omega) x0)
      have q1 := cv _ _ _ (k2 _ _ (by omega) x1)
      have q2 := cv _ _ _ (k2 _ _ (by omega) x2)
      have q3 := cv _ _ _ (k2 _ _ (by omega) x3)
      have q4 := cv _ _ _ (k2 _ _ (by omega) x4)
      have q5 := cv _ _ _ (k2 _ _ (by omega) x5)
      clear cv k1 k2 x0 x1 x2 x3 x4 x5 hl S1 S2
      go_wp2_with fail
      go_region_held3 (fun wx => wx.cell? ⟨g1, j * 6, none⟩ = some (.int .i64 y0) ∧ wx.cell? ⟨g1, j * 6 + 1, none⟩ = some (.int .i64 y1) ∧ wx.cell? ⟨g1, j * 6 + 2, none⟩ = some (.int .i64 y2) ∧ wx.cell? ⟨g1, j * 6 + 3, none⟩ = some (.int .i64 y3) ∧ wx.cell? ⟨g1, j * 6 + 4, none⟩ = some (.int .i64 y4) ∧ wx.cell? ⟨g1, j * 6 + 5, none⟩ = some (.int .i64 y5) ∧ wx.cell? ⟨g2, j * 6, none⟩ = some (.int .i64 y0) ∧ wx.cell? ⟨g2, j * 6 + 1, none⟩ = some (.int .i64 y1) ∧ wx.cell? ⟨g2, j * 6 + 2, none⟩ = some (.int .i64 y2) ∧ wx.cell? ⟨g2, j * 6 + 3, none⟩ = some (.int .i64 y3) ∧ wx.cell? ⟨g2, j * 6 + 4, none⟩ = some (.int .i64 y4) ∧ wx.cell? ⟨g2, j * 6 + 5, none⟩ = some (.int .i64 y5)) (go_keep) (fail)
      go_wp2_with fail
      go_roundw
      case rel => exact ⟨j + 1, by omega, by go_num, hid ⟨HH.out.1, HH.out.2.drewN 1⟩⟩
      case measure => simp [intOf]; omega
    · obtain rfl : j = n := by omega
      go_wp2_with fail
      go_ret
      exact ⟨rfl, HH.out.2.below (Nat.le_refl _) (fun _ h => h.elim)⟩


end Go.Proofs.YtoknhcjneliboaaGreat

/- Two looks of the same file system compare as such. -/
namespace Go.Proofs.YtoknhcjneliboaaGreat
open Go.RowKit
set_option linter.unusedVariables false
set_option maxRecDepth 20000

/-- So many values that are read. -/
def Rdv (w : World) (a : Option Addr) (n : Nat) (xs : List Value) : Prop := xs.length = n ∧ (0 < n → ∃ q o, a = some ⟨q, o, none⟩ ∧ q < w.heap.size ∧ ∀ j, ∀ h : j < xs.length, w.cell? ⟨q, o + j, none⟩ = some xs[j])
theorem Rdv.below {w w' : World} {a : Option Addr} {n : Nat} {xs : List Value} (h : Rdv w a n xs) (hb : Below w.heap.size w w') : Rdv w' a n xs :=
  ⟨h.1, fun hn => by
    obtain ⟨q, o, e, hq, hc⟩ := h.2 hn
    exact ⟨q, o, e, Nat.lt_of_lt_of_le hq hb.size, fun j hj => (hb.cell (p := ⟨q, o + j, none⟩) hq).trans (hc j hj)⟩⟩
theorem Rdv.of {w : World} {B e n c : Nat} {a : Option Addr} {xs : List Value} (h : w.ownsRow B e 1 (.slice a n c) n xs) : Rdv w a n xs := by
  refine ⟨by have := h.1; omega, fun hn => ?_⟩
  obtain ⟨a', c', e', _, _, hc⟩ := own_shp h
  injection e' with e1 _ _
  subst e1
  obtain ⟨q, rfl, _, hq, hcc⟩ := hc hn
  exact ⟨q, 0, rfl, hq, fun j hj => by rw [Nat.zero_add]; exact hcc j _ (List.getElem?_eq_getElem hj)⟩

set_option maxHeartbeats 1000000 in
theorem ieq_yes (a b : Option Addr) (n ca cb : Nat) (hn : n ≤ 1000000) (zs : List Int) (w : World) (ha : Rdv w a n (zs.map (Value.int .i64))) (hb : Rdv w b n (zs.map (Value.int .i64))) :
    Calls Tryz.prog 43 #[.slice a n ca, .slice b n cb] w fun e w' => e = .returned (.bool true) ∧ Below w.heap.size w w' := by
  have HA := hid ha
  have HB := hid hb
  clear ha hb
  go_enter Tryz.func43, Tryz.ntmps43
  go_wp2_with fail
  go_loopw [13] (fun v13 wr => ∃ j : Nat, j ≤ n ∧ v13 = .int .i64 (j : Int) ∧ Hid (Below w.heap.size w wr)) (fun v13 _ => n - (intOf v13).toNat)
  case atStart => exact ⟨0, Nat.zero_le _, rfl, hid (Below.refl _ _)⟩
  case round =>
    obtain ⟨j, hj, rfl, HW⟩ := hrel
    by_cases hlt : j < n
    · have hj2 : (j : Int) < (n : Int) := by omega
      have hj0 : (0 : Int) ≤ (j : Int) := by omega
      have hj3 : j + 1 ≤ n := hlt
      have hA := HA.out.below HW.out
      have hB := HB.out.below HW.out
      obtain ⟨q, o, rfl, hq, hcq⟩ := hA.2 (by omega)
      obtain ⟨r, t, rfl, hr, hcr⟩ := hB.2 (by omega)
      have hz : j < (zs.map (Value.int .i64)).length := by rw [hA.1]; exact hlt
      have d1 := hcq j hz
      have d2 := hcr j hz
      rw [List.getElem_map] at d1 d2
      generalize zs[j]'(by rw [List.length_map] at hz; exact hz) = z at d1 d2
      clear hA hB hcq hcr hz hlt
      go_wp2_with fail
      go_quiet (fail)
      go_wp2_with fail
      go_roundw
      case rel => exact ⟨j + 1, hj3, by go_num, hid (below_drewN HW.out _)⟩
      case measure => simp [intOf]; omega
    · have hj2 : ¬ (j : Int) < (n : Int) := by omega
      go_wp2_with fail
      go_ret
      exact ⟨rfl, HW.out⟩

set_option maxHeartbeats 1000000 in
theorem seq_yes (a b : Option Addr) (n ca cb : Nat) (hn : n ≤ 1000000) (ts : List ByteArray) (w : World) (ha : Rdv w a n (ts.map Value.string)) (hb : Rdv w b n (ts.map Value.string)) :
    Calls Tryz.prog 86 #[.slice a n ca, .slice b n cb] w fun e w' => e = .returned (.bool true) ∧ Below w.heap.size w w' := by
  have HA := hid ha
  have HB := hid hb
  clear ha hb
  go_enter Tryz.func86, Tryz.ntmps86
  go_wp2_with fail
  go_loopw [13] (fun v13 wr => ∃ j : Nat, j ≤ n ∧ v13 = .int .i64 (j : Int) ∧ Hid (Below w.heap.size w wr)) (fun v13 _ => n - (intOf v13).toNat)
  case atStart => exact ⟨0, Nat.zero_le _, rfl, hid (Below.refl _ _)⟩
  case round =>
    obtain ⟨j, hj, rfl, HW⟩ := hrel
    by_cases hlt : j < n
    · have hj2 : (j : Int) < (n : Int) := by omega
      have hj0 : (0 : Int) ≤ (j : Int) := by omega
      have hj3 : j + 1 ≤ n := hlt
      have hA := HA.out.below HW.out
      have hB := HB.out.below HW.out
      obtain ⟨q, o, rfl, hq, hcq⟩ := hA.2 (by omega)
      obtain ⟨r, t, rfl, hr, hcr⟩ := hB.2 (by omega)
      have hz : j < (ts.map Value.string).length := by rw [hA.1]; exact hlt
      have d1 := hcq j hz
      have d2 := hcr j hz
      rw [List.getElem_map] at d1 d2
      generalize ts[j]'(by rw [List.length_map] at hz; exact hz) = z at d1 d2
      have hzz : (!(z.toList == z.toList)) = false := by simp
      clear hA hB hcq hcr hz hlt
      go_wp2_with fail
      go_quiet (fail)
      go_wp2_with fail
      go_roundw
      case rel => exact ⟨j + 1, hj3, by go_num, hid (below_drewN HW.out _)⟩
      case measure => simp [intOf]; omega
    · have hj2 : ¬ (j : Int) < (n : Int) := by omega
      go_wp2_with fail
      go_ret
      exact ⟨rfl, HW.out⟩

set_option maxHeartbeats 4000000 in
/-- One node as it is read, told twice. -/
theorem same1_yes (i : Nat) (y : Fn) (c d : List Value) (w : World) (G G' : Nat → Prop) (hc : LkN w G i y c) (hd : LkN w G' i y d) (hB6 : y.B.length ≤ 6) (hQ6 : y.Q.length ≤ 6) :
    Calls Tryz.prog 85 #[.agg c.toArray, .agg d.toArray] w fun e w' => e = .returned (.bool true) ∧ Below w.heap.size w w' := by
  obtain ⟨vB, vN, vM, rfl, h1, h2, h3, _⟩ := hc
  obtain ⟨uB, uN, uM, rfl, g1, g2, g3, _⟩ := hd
  obtain ⟨ba, bc, rfl, _⟩ := own_shp h1
  obtain ⟨na, nc, rfl, _⟩ := own_shp h2
  obtain ⟨ma, mc, rfl, _⟩ := own_shp h3
  obtain ⟨ba', bc', rfl, _⟩ := own_shp g1
  obtain ⟨na', nc', rfl, _⟩ := own_shp g2
  obtain ⟨ma', mc', rfl, _⟩ := own_shp g3
  have e1 : y.B.map natV = (y.B.map fun b : Nat => (b : Int)).map (Value.int .i64) := by rw [List.map_map]; rfl
  have e3 : y.Q.map ndV = (y.Q.map fun x => (x.2 : Int)).map (Value.int .i64) := by rw [List.map_map]; rfl
  have e2 : y.Q.map nmV = (y.Q.map fun x => bs x.1).map Value.string := by rw [List.map_map]; rfl
  have H1 := hid (Rdv.of h1)
  have H2 := hid (Rdv.of h2)
  have H3 := hid (Rdv.of h3)
  have G1 := hid (Rdv.of g1)
  have G2 := hid (Rdv.of g2)
  have G3 := hid (Rdv.of g3)
  rw [e1] at H1 G1
  rw [e2] at H2 G2
  rw [e3] at H3 G3
  unfold lkC
  generalize y.k = k
  generalize y.l = l
  generalize y.h = hh
  generalize (y.c.length : Int) + (y.Q.length : Int) = s
  obtain ⟨LB, gLB⟩ : ∃ LB, LB = y.B.length := ⟨_, rfl⟩
  obtain ⟨LQ, gLQ⟩ : ∃ LQ, LQ = y.Q.length := ⟨_, rfl⟩
  rw [← gLB, ← gLQ]
  rw [← gLB] at H1 G1
  rw [← gLQ] at H2 G2 H3 G3
  have K1 : Hid (∀ W, Below w.heap.size w W → Calls Tryz.prog 43 #[.slice ba LB bc, .slice ba' LB bc'] W fun e w' => e = .returned (.bool true) ∧ Below W.heap.size W w') := hid (fun W hb => ieq_yes ba ba' LB bc bc' (by omega) _ W (H1.out.below hb) (G1.out.below hb))
  have K2 : Hid (∀ W, Below w.heap.size w W → Calls Tryz.prog 86 #[.slice na LQ nc, .slice na' LQ nc'] W fun e w' => e = .returned (.bool true) ∧ Below W.heap.size W w') := hid (fun W hb => seq_yes na na' LQ nc nc' (by omega) _ W (H2.out.below hb) (G2.out.below hb))
  have K3 : Hid (∀ W, Below w.heap.size w W → Calls Tryz.prog 43 #[.slice ma LQ mc, .slice ma' LQ mc'] W fun e w' => e = .returned (.bool true) ∧ Below W.heap.size W w') := hid (fun W hb => ieq_yes ma ma' LQ mc mc' (by omega) _ W (H3.out.below hb) (G3.out.below hb))
  clear h1 h2 h3 g1 g2 g3 e1 e2 e3 H1 H2 H3 G1 G2 G3 gLB gLQ
  go_enter Tryz.func85, Tryz.ntmps85
  go_wp2_with fail
  obtain ⟨W0, gW0⟩ : ∃ W0, W0 = (w.alloc (.cells (List.toArray [.int .i64 (i : Int), .int .i64 k, .int .i64 l, .int .i64 s, .int .i64 hh, .slice ba LB bc, .slice na LQ nc, .slice ma LQ mc]) 47)).alloc (.cells (List.toArray [.int .i64 (i : Int), .int .i64 k, .int .i64 l, .int .i64 s, .int .i64 hh, .slice ba' LB bc', .slice na' LQ nc', .slice ma' LQ mc']) 47) := ⟨_, rfl⟩
  have hb0 : Below w.heap.size w W0 := by rw [gW0]; exact (alloc1 _ _).trans ((alloc1 _ _).mono (by simp))
  have hx : W0.heap[w.heap.size]? = some (.cells (List.toArray [.int .i64 (i : Int), .int .i64 k, .int .i64 l, .int .i64 s, .int .i64 hh, .slice ba LB bc, .slice na LQ nc, .slice ma LQ mc]) 47 (0, 0)) := by rw [gW0]; exact (Below.heap_alloc _ _ _ (by simp)).trans (heap_alloc_new w _)
  have hy : W0.heap[w.heap.size + 1]? = some (.cells (List.toArray [.int .i64 (i : Int), .int .i64 k, .int .i64 l, .int .i64 s, .int .i64 hh, .slice ba' LB bc', .slice na' LQ nc', .slice ma' LQ mc']) 47 (0, 0)) := by
    rw [gW0]
    have := heap_alloc_new (w.alloc (.cells (List.toArray [.int .i64 (i : Int), .int .i64 k, .int .i64 l, .int .i64 s, .int .i64 hh, .slice ba LB bc, .slice na LQ nc, .slice ma LQ mc]) 47)) (.cells (List.toArray [.int .i64 (i : Int), .int .i64 k, .int .i64 l, .int .i64 s, .int .i64 hh, .slice ba' LB bc', .slice na' LQ nc', .slice ma' LQ mc']) 47)
    rwa [show (w.alloc (.cells (List.toArray [.int .i64 (i : Int), .int .i64 k, .int .i64 l, .int .i64 s, .int .i64 hh, .slice ba LB bc, .slice na LQ nc, .slice ma LQ mc]) 47)).heap.size = w.heap.size + 1 by simp] at this
  have hs0 : W0.heap.size = w.heap.size + 2 := by rw [gW0]; simp
  have HX : Hid (∀ W, Below W0.heap.size W0 W → W.cell? ⟨w.heap.size, 6, none⟩ = some (.slice na LQ nc) ∧ W.cell? ⟨w.heap.size, 7, none⟩ = some (.slice ma LQ mc) ∧ W.cell? ⟨w.heap.size + 1, 6, none⟩ = some (.slice na' LQ nc') ∧ W.cell? ⟨w.heap.size + 1, 7, none⟩ = some (.slice ma' LQ mc')) := hid (fun W hb => by
    have h1 := (hb.block w.heap.size (by omega)).trans hx
    have h2 := (hb.block (w.heap.size + 1) (by omega)).trans hy
    exact ⟨cell_list h1 rfl, cell_list h1 rfl, cell_list h2 rfl, cell_list h2 rfl⟩)
  have HB0 := hid hb0
  have GW0 := hid gW0
  clear gW0 hb0 hx hy hs0
  rw [← GW0.out]
  refine (K1.out W0 HB0.out).mono ?_
  rintro e w1 ⟨rfl, hb1⟩
  obtain ⟨z1, z2, z3, z4⟩ := HX.out w1 hb1
  have HB1 := hid hb1
  clear hb1
  go_wp2_with fail
  refine (K2.out w1 (HB0.out.trans (HB1.out.mono HB0.out.size))).mono ?_
  rintro e w2 ⟨rfl, hb2⟩
  have hb2' := HB1.out.trans (hb2.mono HB1.out.size)
  have HB2 := hid hb2'
  clear z1 z2 z3 z4 hb2 hb2'
  obtain ⟨z1, z2, z3, z4⟩ := HX.out w2 HB2.out
  go_wp2_with fail
  refine (K3.out w2 (HB0.out.trans (HB2.out.mono HB0.out.size))).mono ?_
  rintro e w3 ⟨rfl, hb3⟩
  have hb3' := HB0.out.trans ((HB2.out.trans (hb3.mono HB2.out.size)).mono HB0.out.size)
  have HB3 := hid hb3'
  clear z1 z2 z3 z4 hb3 hb3'
  go_wp2_with fail
  go_ret
  exact ⟨rfl, HB3.out⟩

/-- A list of cells at a place. -/
theorem LkL.get {w : World} {G : Nat → Prop} {F : Fs} : ∀ {is : List Nat} {cs : List Value} (h : LkL w G F is cs) (j : Nat) (hj : j < is.length), ∃ c, LkN w G is[j] (F.P is[j]) c ∧ c.length = 8 ∧ ∀ t, t < 8 → cs[j * 8 + t]? = c[t]?
  | [], cs, h, j, hj => by simp at hj
  | i :: r, cs, ⟨c, d, e, h1, h2⟩, j, hj => by
    have hcl : c.length = 8 := by obtain ⟨_, _, _, ec, _⟩ := h1; rw [ec]; rfl
    cases j with
    | zero => exact ⟨c, h1, hcl, fun t ht => by rw [e, Nat.zero_mul, Nat.zero_add, List.getElem?_append_left (by omega)]⟩
    | succ j =>
      obtain ⟨c', h3, h4, h5⟩ := LkL.get h2 j (by simpa using hj)
      refine ⟨c', h3, h4, fun t ht => ?_⟩
      rw [e, List.getElem?_append_right (by rw [hcl]; omega), hcl, show (j + 1) * 8 + t - 8 = j * 8 + t by omega]
      exact h5 t ht

set_option maxHeartbeats 4000000 in
theorem eqf_yes (F : Fs) (hF : FOk F) (is : List Nat) (n : Nat) (hn : is.length = n) (hn2 : n ≤ 17) (a b : Option Addr) (ca cb : Nat) (cs ds : List Value) (w : World) (G G' : Nat → Prop)
    (ha : w.ownsRow 0 47 8 (.slice a n ca) n cs) (hb : w.ownsRow 0 47 8 (.slice b n cb) n ds) (hc : LkL w G F is cs) (hd : LkL w G' F is ds) :
    Calls Tryz.prog 84 #[.slice a n ca, .slice b n cb, .func (.func 85) #[] #[]] w fun e w' => e = .returned (.bool true) ∧ Below w.heap.size w w' := by
  have HC : Hid (∀ j, j < n → ∃ q r, a = some ⟨q, 0, none⟩ ∧ b = some ⟨r, 0, none⟩ ∧ q < w.heap.size ∧ r < w.heap.size ∧ ∃ (i : Nat) (y : Fn) (a1 : Option Addr) (c1 : Nat) (a2 : Option Addr) (c2 : Nat) (a3 : Option Addr) (c3 : Nat) (b1 : Option Addr) (d1 : Nat) (b2 : Option Addr) (d2 : Nat) (b3 : Option Addr) (d3 : Nat), y.B.length ≤ 6 ∧ y.Q.length ≤ 6 ∧ LkN w G i y (lkC i y (.slice a1 y.B.length c1) (.slice a2 y.Q.length c2) (.slice a3 y.Q.length c3)) ∧ LkN w G' i y (lkC i y (.slice b1 y.B.length d1) (.slice b2 y.Q.length d2) (.slice b3 y.Q.length d3)) ∧ (∀ t x, t < 8 → (lkC i y (.slice a1 y.B.length c1) (.slice a2 y.Q.length c2) (.slice a3 y.Q.length c3))[t]? = some x → w.cell? ⟨q, j * 8 + t, none⟩ = some x) ∧ (∀ t x, t < 8 → (lkC i y (.slice b1 y.B.length d1) (.slice b2 y.Q.length d2) (.slice b3 y.Q.length d3))[t]? = some x → w.cell? ⟨r, j * 8 + t, none⟩ = some x)) := hid (fun j hj => by
    obtain ⟨a', c', e, _, _, h1⟩ := own_shp ha
    injection e with e1 _ _
    subst e1
    obtain ⟨q, rfl, _, hq, hqc⟩ := h1 (by omega)
    obtain ⟨b', d', e', _, _, h2⟩ := own_shp hb
    injection e' with e1 _ _
    subst e1
    obtain ⟨r, rfl, _, hr, hrc⟩ := h2 (by omega)
    obtain ⟨c, h3, h4, h5⟩ := hc.get j (by omega)
    obtain ⟨d, h6, h7, h8⟩ := hd.get j (by omega)
    have hB6 : (F.P is[j]).B.length ≤ 6 := by have h9 := (hF.c is[j]).1; rw [hF.B]; unfold Fs.need; omega
    have hQ6 := hF.len is[j]
    have k3 := h3
    have k6 := h6
    obtain ⟨va, vb, vc, ec, g1, g2, g3, _⟩ := k3
    obtain ⟨vd, ve, vf, ed, g4, g5, g6, _⟩ := k6
    obtain ⟨a1, c1, rfl, _⟩ := own_shp g1
    obtain ⟨a2, c2, rfl, _⟩ := own_shp g2
    obtain ⟨a3, c3, rfl, _⟩ := own_shp g3
    obtain ⟨b1, d1, rfl, _⟩ := own_shp g4
    obtain ⟨b2, d2, rfl, _⟩ := own_shp g5
    obtain ⟨b3, d3, rfl, _⟩ := own_shp g6
    rw [ec] at h3 h5
    rw [ed] at h6 h8
    exact ⟨q, r, rfl, rfl, hq, hr, is[j], F.P is[j], a1, c1, a2, c2, a3, c3, b1, d1, b2, d2, b3, d3, hB6, hQ6, h3, h6, fun t x ht hx => hqc _ _ ((h5 t ht).trans hx), fun t x ht hx => hrc _ _ ((h8 t ht).trans hx)⟩)
  clear ha hb hc hd hF hn
  go_enter Tryz.func84, Tryz.ntmps84
  go_wp2_with fail
  go_loopw [17] (fun v17 wr => ∃ j : Nat, j ≤ n ∧ v17 = .int .i64 (j : Int) ∧ Hid (Below w.heap.size w wr)) (fun v17 _ => n - (intOf v17).toNat)
  case atStart => exact ⟨0, Nat.zero_le _, rfl, hid (Below.refl _ _)⟩
  case round =>
    obtain ⟨j, hj, rfl, HW⟩ := hrel
    by_cases hlt : j < n
    · have hj2 : (j : Int) < (n : Int) := by omega
      have hj0 : (0 : Int) ≤ (j : Int) := by omega
      have hj3 : j + 1 ≤ n := hlt
      obtain ⟨q, r, rfl, rfl, hq, hr, i, y, a1, c1, a2, c2, a3, c3, b1, d1, b2, d2, b3, d3, hB6, hQ6, h3, h6, hcq, hcr⟩ := HC.out j hlt
      have hs := HW.out.size
      have z0 := (HW.out.cell (p := ⟨q, j * 8 + 0, none⟩) hq).trans (hcq 0 _ (by omega) rfl)
      have x0 := (HW.out.cell (p := ⟨r, j * 8 + 0, none⟩) hr).trans (hcr 0 _ (by omega) rfl)
      have z1 := (HW.out.cell (p := ⟨q, j * 8 + 1, none⟩) hq).trans (hcq 1 _ (by omega) rfl)
      have x1 := (HW.out.cell (p := ⟨r, j * 8 + 1, none⟩) hr).trans (hcr 1 _ (by omega) rfl)
      have z2 := (HW.out.cell (p := ⟨q, j * 8 + 2, none⟩) hq).trans (hcq 2 _ (by omega) rfl)
      have x2 := (HW.out.cell (p := ⟨r, j * 8 + 2, none⟩) hr).trans (hcr 2 _ (by omega) rfl)
      have z3 := (HW.out.cell (p := ⟨q, j * 8 + 3, none⟩) hq).trans (hcq 3 _ (by omega) rfl)
      have x3 := (HW.out.cell (p := ⟨r, j * 8 + 3, none⟩) hr).trans (hcr 3 _ (by omega) rfl)
      have z4 := (HW.out.cell (p := ⟨q, j * 8 + 4, none⟩) hq).trans (hcq 4 _ (by omega) rfl)
      have x4 := (HW.out.cell (p := ⟨r, j * 8 + 4, none⟩) hr).trans (hcr 4 _ (by omega) rfl)
      have z5 := (HW.out.cell (p := ⟨q, j * 8 + 5, none⟩) hq).trans (hcq 5 _ (by omega) rfl)
      have x5 := (HW.out.cell (p := ⟨r, j * 8 + 5, none⟩) hr).trans (hcr 5 _ (by omega) rfl)
      have z6 := (HW.out.cell (p := ⟨q, j * 8 + 6, none⟩) hq).trans (hcq 6 _ (by omega) rfl)
      have x6 := (HW.out.cell (p := ⟨r, j * 8 + 6, none⟩) hr).trans (hcr 6 _ (by omega) rfl)
      have z7 := (HW.out.cell (p := ⟨q, j * 8 + 7, none⟩) hq).trans (hcq 7 _ (by omega) rfl)
      have x7 := (HW.out.cell (p := ⟨r, j * 8 + 7, none⟩) hr).trans (hcr 7 _ (by omega) rfl)
      rw [Nat.add_zero] at z0 x0
      have KS : Hid (∀ W, Below w.heap.size w W → Calls Tryz.prog 85 #[.agg (lkC i y (.slice a1 y.B.length c1) (.slice a2 y.Q.length c2) (.slice a3 y.Q.length c3)).toArray, .agg (lkC i y (.slice b1 y.B.length d1) (.slice b2 y.Q.length d2) (.slice b3 y.Q.length d3)).toArray] W fun e w' => e = .returned (.bool true) ∧ Below W.heap.size W w') := hid (fun W hb => same1_yes i y _ _ W G G' (h3.upd (Upd.of_below (F := fun _ => False) hb) (fun _ _ _ h => h) (fun _ _ h => h)) (h6.upd (Upd.of_below (F := fun _ => False) hb) (fun _ _ _ h => h) (fun _ _ h => h)) hB6 hQ6)
      unfold lkC at KS
      generalize y.k = k at KS z1 x1
      generalize y.l = l at KS z2 x2
      generalize (y.c.length : Int) + (y.Q.length : Int) = s at KS z3 x3
      generalize y.h = hh at KS z4 x4
      generalize y.B.length = LB at KS z5 x5
      generalize y.Q.length = LQ at KS z6 x6 z7 x7
      have hb2 : Below w.heap.size w ((wr.alloc (.cells (List.toArray [.int .i64 (i : Int), .int .i64 k, .int .i64 l, .int .i64 s, .int .i64 hh, .slice a1 LB c1, .slice a2 LQ c2, .slice a3 LQ c3]) 47)).alloc (.cells (List.toArray [.int .i64 (i : Int), .int .i64 k, .int .i64 l, .int .i64 s, .int .i64 hh, .slice b1 LB d1, .slice b2 LQ d2, .slice b3 LQ d3]) 47)) := HW.out.trans (((alloc1 _ _).trans ((alloc1 _ _).mono (by simp))).mono hs)
      have HB2 := hid hb2
      have k1 := hid (KS.out _ hb2)
      have q1 : q < wr.heap.size := Nat.lt_of_lt_of_le hq hs
      have r1 : r < wr.heap.size := Nat.lt_of_lt_of_le hr hs
      have q2 : q < wr.heap.size + 1 := by omega
      have r2 : r < wr.heap.size + 1 := by omega
      clear hb2 KS h3 h6 hcq hcr hB6 hQ6 hs hq hr hlt
      go_wp2_with fail
      refine k1.out.mono ?_
      rintro e w3 ⟨rfl, hb3⟩
      have HB3 := hid (HB2.out.trans (hb3.mono HB2.out.size))
      clear k1 hb3
      go_wp2_with fail
      go_roundw
      case rel => exact ⟨j + 1, hj3, by go_num, HB3⟩
      case measure => simp [intOf]; omega
    · have hj2 : ¬ (j : Int) < (n : Int) := by omega
      go_wp2_with fail
      go_ret
      exact ⟨rfl, HW.out⟩


theorem samenodes_yes (F : Fs) (hF : FOk F) (is : List Nat) (n : Nat) (hn : is.length = n) (hn2 : n ≤ 17) (a b : Option Addr) (ca cb : Nat) (cs ds : List Value) (w : World) (G G' : Nat → Prop)
    (ha : w.ownsRow 0 47 8 (.slice a n ca) n cs) (hb : w.ownsRow 0 47 8 (.slice b n cb) n ds) (hc : LkL w G F is cs) (hd : LkL w G' F is ds) :
    Calls Tryz.prog 41 #[.slice a n ca, .slice b n cb] w fun e w' => e = .returned (.bool true) ∧ Below w.heap.size w w' := by
  have k1 := hid (eqf_yes F hF is n hn hn2 a b ca cb cs ds w G G' ha hb hc hd)
  clear ha hb hc hd hF hn
  go_enter Tryz.func41, Tryz.ntmps41
  go_wp2_with fail
  refine k1.out.mono ?_
  rintro e w1 ⟨rfl, hb⟩
  have HB := hid hb
  clear k1 hb
  go_wp2_with fail
  go_ret
  exact ⟨rfl, HB.out⟩

end Go.Proofs.YtoknhcjneliboaaGreat

/- Both tables of open files beside each other, as they lie. -/
namespace Go.Proofs.YtoknhcjneliboaaGreat
open Go.RowKit Go.ChangeMaps Go.MapKept
set_option linter.unusedVariables false
set_option maxRecDepth 20000

/-- The pair's box; the program's files (which have Tp) in blocks G, the document's (which have Td) in blocks D; all new since B. -/
structure Pt (w : World) (B : Nat) (G D : Nat → Prop) (pp t x : Nat) (TP TD : Ft) : Prop where
  box : w.heap[pp]? = some (.cells (List.toArray [.pointer (some ⟨t, 0, none⟩), .pointer (some ⟨x, 0, none⟩)]) 29 (0, 0))
  tp : Tp w t TP G
  td : Td w x TD D
  gG : ∀ b, G b → B ≤ b ∧ b < w.heap.size ∧ b ≠ pp ∧ ¬ D b
  gD : ∀ b, D b → B ≤ b ∧ b < w.heap.size ∧ b ≠ pp
  gp : B ≤ pp

section
variable {w w' : World} {B : Nat} {G D : Nat → Prop} {pp t x : Nat} {TP TD T' : Ft}
theorem Pt.lt (h : Pt w B G D pp t x TP TD) : pp < w.heap.size := (Array.getElem?_eq_some_iff.1 h.box).1
theorem Pt.c0 (h : Pt w B G D pp t x TP TD) : w.cell? ⟨pp, 0, none⟩ = some (.pointer (some ⟨t, 0, none⟩)) := cell_list h.box rfl
theorem Pt.c1 (h : Pt w B G D pp t x TP TD) : w.cell? ⟨pp, 1, none⟩ = some (.pointer (some ⟨x, 0, none⟩)) := cell_list h.box rfl
/-- What is neither the pair's, nor either side's. -/
def Oty (w : World) (G D : Nat → Prop) (pp b : Nat) : Prop := b < w.heap.size ∧ b ≠ pp ∧ ¬ G b ∧ ¬ D b
/-- Nothing of the pair's turns. -/
theorem Pt.upd {U : Nat → Prop} (h : Pt w B G D pp t x TP TD) (q : Upd U w w') (hU : ∀ b, b < w.heap.size → U b → Oty w G D pp b) : Pt w' B G D pp t x TP TD :=
  ⟨q.heap h.box (fun e => (hU pp h.lt e).2.1 rfl), h.tp.upd q (fun b hb hG hu => (hU b hb hu).2.2.1 hG), h.td.upd q (fun b hb hD hu => (hU b hb hu).2.2.2 hD), fun b hb => ⟨(h.gG b hb).1, Nat.lt_of_lt_of_le (h.gG b hb).2.1 q.size, (h.gG b hb).2.2⟩, fun b hb => ⟨(h.gD b hb).1, Nat.lt_of_lt_of_le (h.gD b hb).2.1 q.size, (h.gD b hb).2.2⟩, h.gp⟩
theorem Pt.grow (h : Pt w B G D pp t x TP TD) (q : Below w.heap.size w w') : Pt w' B G D pp t x TP TD := h.upd (Upd.of_below (F := fun _ => False) q) (fun _ _ h => h.elim)
theorem Oty.grow {b : Nat} (h : Oty w G D pp b) (q : Below w.heap.size w w') : Oty w' G D pp b := ⟨Nat.lt_of_lt_of_le h.1 q.size, h.2⟩
/-- The program's call. -/
theorem Pt.prog (h : Pt w B G D pp t x TP TD) (k : TpTo w t T' G w') : Pt w' B (fun b => (G b ∨ w.heap.size ≤ b) ∧ b < w'.heap.size) D pp t x T' TD ∧ Below B w w' ∧ (∀ b, Oty w G D pp b → w'.heap[b]? = w.heap[b]? ∧ Oty w' (fun b => (G b ∨ w.heap.size ≤ b) ∧ b < w'.heap.size) D pp b) := by
  obtain ⟨t1, t2⟩ := k
  have hB : B ≤ w.heap.size := Nat.le_trans h.gp (Nat.le_of_lt h.lt)
  refine ⟨⟨t2.heap h.box (fun e => (h.gG pp e).2.2.1 rfl), t1.mono (fun b hb hG => ⟨hG, hb⟩), h.td.upd t2 (fun b _ hD hG => (h.gG b hG).2.2.2 hD), fun b hb => ?_, fun b hb => ⟨(h.gD b hb).1, Nat.lt_of_lt_of_le (h.gD b hb).2.1 t2.size, (h.gD b hb).2.2⟩, h.gp⟩, t2.below hB (fun b hb => (h.gG b hb).1), fun b hb => ⟨t2.block b hb.1 hb.2.2.1, Nat.lt_of_lt_of_le hb.1 t2.size, hb.2.1, fun q => ?_, hb.2.2.2⟩⟩
  · rcases hb with ⟨hb | hb, hs⟩
    · exact ⟨(h.gG b hb).1, hs, (h.gG b hb).2.2⟩
    · refine ⟨Nat.le_trans hB hb, hs, fun e => ?_, fun e => ?_⟩
      · have := h.lt; omega
      · have := (h.gD b e).2.1; omega
  · rcases q.1 with q | q
    · exact hb.2.2.1 q
    · have := hb.1; omega
/-- The document's call. -/
theorem Pt.doc (h : Pt w B G D pp t x TP TD) (k : TdTo w x T' D w') : Pt w' B G (fun b => (D b ∨ w.heap.size ≤ b) ∧ b < w'.heap.size) pp t x TP T' ∧ Below B w w' ∧ (∀ b, Oty w G D pp b → w'.heap[b]? = w.heap[b]? ∧ Oty w' G (fun b => (D b ∨ w.heap.size ≤ b) ∧ b < w'.heap.size) pp b) := by
  obtain ⟨t1, t2⟩ := k
  have hB : B ≤ w.heap.size := Nat.le_trans h.gp (Nat.le_of_lt h.lt)
  refine ⟨⟨t2.heap h.box (fun e => (h.gD pp e).2.2 rfl), h.tp.upd t2 (fun b _ hG hD => (h.gG b hG).2.2.2 hD), t1.mono (fun b hb hD => ⟨hD, hb⟩), fun b hb => ⟨(h.gG b hb).1, Nat.lt_of_lt_of_le (h.gG b hb).2.1 t2.size, (h.gG b hb).2.2.1, fun q => ?_⟩, fun b hb => ?_, h.gp⟩, t2.below hB (fun b hb => (h.gD b hb).1), fun b hb => ⟨t2.block b hb.1 hb.2.2.2, Nat.lt_of_lt_of_le hb.1 t2.size, hb.2.1, hb.2.2.1, fun q => ?_⟩⟩
  · rcases q.1 with q | q
    · exact (h.gG b hb).2.2.2 q
    · have := (h.gG b hb).2.1; omega
  · rcases hb with ⟨hb | hb, hs⟩
    · exact ⟨(h.gD b hb).1, hs, (h.gD b hb).2.2⟩
    · refine ⟨Nat.le_trans hB hb, hs, fun e => ?_⟩
      have := h.lt; omega
  · rcases q.1 with q | q
    · exact hb.2.2.2 q
    · have := hb.1; omega
end

set_option maxHeartbeats 16000000 in
/-- Both have the same. -/
theorem same_yes8 (w : World) (B : Nat) (G D : Nat → Prop) (pp t x : Nat) (T : Ft) (H : Pt w B G D pp t x T T) (hT : TOk T) :
    Calls Tryz.prog 8 #[.pointer (some ⟨pp, 0, none⟩)] w fun e w' => e = .returned (.bool true) ∧ Below w.heap.size w w' := by
  have HH := hid (fun (W : World) (hb : Below w.heap.size w W) => H.grow hb)
  have c0 := H.c0
  have c1 := H.c1
  obtain ⟨g, s, q, Dn, Dp, hR, hDD⟩ := H.td
  have d1 := hR.cs
  have d2 := hR.cq
  have HR := hid (fun (W : World) (hb : Below w.heap.size w W) => hR.grow hb)
  have HT := hid hT
  have HF := hid hT.F
  obtain ⟨n0, gn0⟩ : ∃ n0, n0 = oiN T.O 11 := ⟨_, rfl⟩
  obtain ⟨l0, gl0⟩ : ∃ l0, l0 = oiL T.O 11 := ⟨_, rfl⟩
  have hn0 : n0 ≤ 11 := by rw [gn0]; exact oiN_le _ _
  have hi0 : Hid (∀ j, j < l0.length → ∃ y : Int, l0[j]? = some (.int .i64 y)) := by rw [gl0]; exact hid (oiL_int T.O 11)
  have A1 : Hid (∀ W, Below w.heap.size w W → Calls Tryz.prog 9 #[.pointer (some ⟨t, 0, none⟩)] W fun e w' => ∃ v, e = .returned v ∧ Hid (w'.ownsRow 0 40 6 v n0 l0) ∧ Hid (Below W.heap.size W w')) := by
    rw [gn0, gl0]
    refine hid (fun W hb => (tplook W t T G (HH.out W hb).tp HT.out).mono ?_)
    rintro e w' ⟨⟨v, rfl, h1⟩, h3⟩
    exact ⟨v, rfl, hid (own_base h1 (Nat.zero_le _)), hid h3⟩
  have A2 : Hid (∀ W, Below w.heap.size w W → Calls Tryz.prog 40 #[.pointer (some ⟨x, 0, none⟩)] W fun e w' => ∃ v, e = .returned v ∧ Hid (w'.ownsRow 0 40 6 v n0 l0) ∧ Hid (Below W.heap.size W w')) := by
    rw [gn0, gl0]
    refine hid (fun W hb => (tdlook W x T D (HH.out W hb).td HT.out).mono ?_)
    rintro e w' ⟨⟨v, rfl, h1⟩, h3⟩
    exact ⟨v, rfl, hid (own_base h1 (Nat.zero_le _)), hid h3⟩
  have A3 : Hid (∀ W v1 v2, W.ownsRow 0 40 6 v1 n0 l0 → W.ownsRow 0 40 6 v2 n0 l0 → Calls Tryz.prog 39 #[v1, v2] W fun e w' => e = .returned (.bool true) ∧ Hid (Below W.heap.size W w')) := by
    refine hid (fun W v1 v2 h1 h2 => (oequal_yes v1 v2 0 n0 l0 W h1 h2 hi0.out hn0).mono ?_)
    rintro e w' ⟨rfl, h⟩
    exact ⟨rfl, hid h⟩
  clear gn0 gl0
  obtain ⟨n, gn⟩ : ∃ n, n = (thr T.F 17).length := ⟨_, rfl⟩
  have hn17 : n ≤ 17 := by rw [gn]; exact thr_len T.F 17
  have B1 : Hid (∀ W, Below w.heap.size w W → Calls Tryz.prog 10 #[.pointer (some ⟨t, 0, none⟩)] W fun e w' => ∃ a c cs, e = .returned (.slice a n c) ∧ Hid (w'.ownsRow 0 47 8 (.slice a n c) n cs ∧ LkL w' (fun b => W.heap.size ≤ b) T.F (thr T.F 17) cs) ∧ Hid (Below W.heap.size W w')) := by
    rw [gn]
    refine hid (fun W hb => (tpnodes W t T G (HH.out W hb).tp HF.out).mono ?_)
    rintro e w' ⟨⟨v, cs, rfl, h1, h2⟩, h3⟩
    obtain ⟨a, c, rfl, _⟩ := own_shp h1
    exact ⟨a, c, cs, rfl, hid ⟨h1, h2⟩, hid h3⟩
  have B2 : Hid (∀ W, Below w.heap.size w W → Calls Tryz.prog 42 #[.pointer (some ⟨s, 0, none⟩)] W fun e w' => ∃ a c cs, e = .returned (.slice a n c) ∧ Hid (w'.ownsRow 0 47 8 (.slice a n c) n cs ∧ LkL w' (fun b => W.heap.size ≤ b) T.F (thr T.F 17) cs) ∧ Hid (Below W.heap.size W w')) := by
    rw [gn]
    refine hid (fun W hb => ((HR.out W hb).looks HF.out).mono ?_)
    rintro e w' ⟨⟨v, cs, rfl, h1, h2⟩, h3⟩
    obtain ⟨a, c, rfl, _⟩ := own_shp h1
    exact ⟨a, c, cs, rfl, hid ⟨h1, h2⟩, hid h3⟩
  have B3 : Hid (∀ (W : World) W1 W2 a1 c1 cs1 a2 c2 cs2, W.ownsRow 0 47 8 (.slice a1 n c1) n cs1 → LkL W (fun b => W1 ≤ b) T.F (thr T.F 17) cs1 → W.ownsRow 0 47 8 (.slice a2 n c2) n cs2 → LkL W (fun b => W2 ≤ b) T.F (thr T.F 17) cs2 → Calls Tryz.prog 41 #[.slice a1 n c1, .slice a2 n c2] W fun e w' => e = .returned (.bool true) ∧ Hid (Below W.heap.size W w')) := by
    refine hid (fun W W1 W2 a1 c1 cs1 a2 c2 cs2 h1 h2 h3 h4 => (samenodes_yes T.F HF.out (thr T.F 17) n gn.symm hn17 a1 a2 c1 c2 cs1 cs2 W _ _ h1 h3 h2 h4).mono ?_)
    rintro e w' ⟨rfl, h⟩
    exact ⟨rfl, hid h⟩
  obtain ⟨BL, gBL⟩ : ∃ BL, BL = (List.range 25).filter T.F.T := ⟨_, rfl⟩
  obtain ⟨m, gm⟩ : ∃ m, m = BL.length := ⟨_, rfl⟩
  have hm : m ≤ 25 := by
    rw [gm, gBL]
    have := List.length_filter_le T.F.T (List.range 25)
    rw [List.length_range] at this
    exact this
  have e1 : BL.map natV = (BL.map fun b : Nat => (b : Int)).map (Value.int .i64) := by rw [List.map_map]; rfl
  obtain ⟨zs, gz⟩ : ∃ zs, zs = (BL.map fun b : Nat => (b : Int)) := ⟨_, rfl⟩
  rw [← gz] at e1
  have C1 : Hid (∀ W, Below w.heap.size w W → Calls Tryz.prog 44 #[.pointer (some ⟨t, 0, none⟩)] W fun e w' => ∃ a c, e = .returned (.slice a m c) ∧ Hid (Rdv w' a m (zs.map (Value.int .i64))) ∧ Hid (Below W.heap.size W w')) := by
    refine hid (fun W hb => (tpblocks W t T G (HH.out W hb).tp).mono ?_)
    rintro e w' ⟨⟨v, rfl, h1⟩, h3⟩
    rw [← gBL, ← gm, e1] at h1
    obtain ⟨a, c, rfl, _⟩ := own_shp h1
    exact ⟨a, c, rfl, hid (Rdv.of h1), hid h3⟩
  have C2 : Hid (∀ W, Below w.heap.size w W → Calls Tryz.prog 45 #[.pointer (some ⟨s, 0, none⟩)] W fun e w' => ∃ a c, e = .returned (.slice a m c) ∧ Hid (Rdv w' a m (zs.map (Value.int .i64))) ∧ Hid (Below W.heap.size W w')) := by
    refine hid (fun W hb => ((HR.out W hb).blocks).mono ?_)
    rintro e w' ⟨⟨v, rfl, h1⟩, h3⟩
    rw [← gBL, ← gm, e1] at h1
    obtain ⟨a, c, rfl, _⟩ := own_shp h1
    exact ⟨a, c, rfl, hid (Rdv.of h1), hid h3⟩
  have C3 : Hid (∀ W a1 c1 a2 c2, Rdv W a1 m (zs.map (Value.int .i64)) → Rdv W a2 m (zs.map (Value.int .i64)) → Calls Tryz.prog 43 #[.slice a1 m c1, .slice a2 m c2] W fun e w' => e = .returned (.bool true) ∧ Hid (Below W.heap.size W w')) := by
    refine hid (fun W a1 c1 a2 c2 h1 h2 => (ieq_yes a1 a2 m c1 c2 (by omega) zs W h1 h2).mono ?_)
    rintro e w' ⟨rfl, h⟩
    exact ⟨rfl, hid h⟩
  clear gBL gm e1 gz
  have E1 : Hid (∀ W, Below w.heap.size w W → Calls Tryz.prog 11 #[.pointer (some ⟨t, 0, none⟩)] W fun e w' => ∃ v, e = .returned v ∧ Hid (w'.ownsRow 0 51 4 v (Pi.countP T.P 5) (Pi.looks T.P 5)) ∧ Hid (Below W.heap.size W w')) := by
    refine hid (fun W hb => (tppipes W t T G (HH.out W hb).tp).mono ?_)
    rintro e w' ⟨v, rfl, h1, h3⟩
    exact ⟨v, rfl, hid (own_base h1 (Nat.zero_le _)), hid h3⟩
  have E2 : Hid (∀ W, Below w.heap.size w W → Calls Tryz.prog 47 #[.pointer (some ⟨q, 0, none⟩)] W fun e w' => ∃ v, e = .returned v ∧ Hid (w'.ownsRow 0 51 4 v (Pi.countP T.P 5) (Pi.looks T.P 5)) ∧ Hid (Below W.heap.size W w')) := by
    refine hid (fun W hb => ((HR.out W hb).plook).mono ?_)
    rintro e w' ⟨v, rfl, h1, h3⟩
    exact ⟨v, rfl, hid (own_base h1 (Nat.zero_le _)), hid h3⟩
  have E3 : Hid (∀ W v1 v2, W.ownsRow 0 51 4 v1 (Pi.countP T.P 5) (Pi.looks T.P 5) → W.ownsRow 0 51 4 v2 (Pi.countP T.P 5) (Pi.looks T.P 5) → Calls Tryz.prog 46 #[v1, v2] W fun e w' => e = .returned (.bool true) ∧ Hid (Below W.heap.size W w')) := by
    refine hid (fun W v1 v2 h1 h2 => (Pi.sequal_yes v1 v2 0 _ _ W h1 h2 (Pi.looks_int _ 5) (Pi.countP_le _ 5)).mono ?_)
    rintro e w' ⟨rfl, _, h⟩
    exact ⟨rfl, hid (h.below (Nat.le_refl _) (fun _ h => h.elim))⟩
  have HS : Hid (∀ W, Below w.heap.size w W → W.cell? ⟨pp, 0, none⟩ = some (.pointer (some ⟨t, 0, none⟩)) ∧ W.cell? ⟨pp, 1, none⟩ = some (.pointer (some ⟨x, 0, none⟩)) ∧ W.cell? ⟨x, 1, none⟩ = some (.pointer (some ⟨s, 0, none⟩)) ∧ W.cell? ⟨x, 2, none⟩ = some (.pointer (some ⟨q, 0, none⟩))) := hid (fun W hb => ⟨(HH.out W hb).c0, (HH.out W hb).c1, (HR.out W hb).cs, (HR.out W hb).cq⟩)
  generalize thr T.F 17 = th at B1 B2 B3
  generalize Pi.countP T.P 5 = np at E1 E2 E3
  generalize Pi.looks T.P 5 = lp at E1 E2 E3
  generalize T.F = F at B1 B2 B3
  clear H hT hR hDD gn hi0 hn0 hm hn17 HT HF HH HR
  go_enter Tryz.func8, Tryz.ntmps8
  go_wp2_with fail
  go_region_held3 (fun W => W.cell? ⟨pp, 0, none⟩ = some (.pointer (some ⟨t, 0, none⟩)) ∧ W.cell? ⟨pp, 1, none⟩ = some (.pointer (some ⟨x, 0, none⟩)) ∧ W.cell? ⟨x, 1, none⟩ = some (.pointer (some ⟨s, 0, none⟩)) ∧ W.cell? ⟨x, 2, none⟩ = some (.pointer (some ⟨q, 0, none⟩))) (first | (refine ⟨?_, ?_, ?_, ?_⟩ <;> assumption) | exact HS.out _ (Below.refl _ _).drew | go_keep) (first
    | (go_at_call 9; refine (A1.out _ (Below.refl _ _).drew).mono ?_; rintro e w1 ⟨v1, rfl, HO1, hb1⟩; have HB1 : Hid (Below w.heap.size w w1) := hid ((Below.refl _ _).drew.trans hb1.out); obtain ⟨y0, y1, y2, y3⟩ := HS.out w1 HB1.out; clear hb1)
    | (go_at_call 40; refine (A2.out _ HB1.out).mono ?_; rintro e w2 ⟨v2, rfl, HO2, hb2⟩; have HB2 : Hid (Below w.heap.size w w2) := hid (HB1.out.trans (hb2.out.mono HB1.out.size)); have HO1' := hid ((Upd.of_below (F := fun _ => False) hb2.out).own HO1.out (fun _ _ h => h)); obtain ⟨x0, x1, x2, x3⟩ := HS.out w2 HB2.out; clear hb2 HO1)
    | (go_at_call 39; refine (A3.out w2 _ _ HO1'.out HO2.out).mono ?_; rintro e w3 ⟨rfl, hb3⟩; have HB3 : Hid (Below w.heap.size w w3) := hid (HB2.out.trans (hb3.out.mono HB2.out.size)); obtain ⟨u0, u1, u2, u3⟩ := HS.out w3 HB3.out; clear hb3 HO1' HO2)
    | (go_at_call 10; refine (B1.out _ HB3.out).mono ?_; rintro e w4 ⟨a4, c4, cs4, rfl, HO4, hb4⟩; have HB4 : Hid (Below w.heap.size w w4) := hid (HB3.out.trans (hb4.out.mono HB3.out.size)); obtain ⟨v0, v1, v2, v3⟩ := HS.out w4 HB4.out; clear hb4)
    | (go_at_call 42; refine (B2.out _ HB4.out).mono ?_; rintro e w5 ⟨a5, c5, cs5, rfl, HO5, hb5⟩; have HB5 : Hid (Below w.heap.size w w5) := hid (HB4.out.trans (hb5.out.mono HB4.out.size)); have HO4' := hid (And.intro ((Upd.of_below (F := fun _ => False) hb5.out).own HO4.out.1 (fun _ _ h => h)) (LkL.upd (Upd.of_below (F := fun _ => False) hb5.out) (fun _ _ _ h => h) (fun _ _ h => h) HO4.out.2)); obtain ⟨t0, t1, t2, t3⟩ := HS.out w5 HB5.out; clear hb5 HO4)
    | (go_at_call 41; refine (B3.out w5 _ _ _ _ _ _ _ _ HO4'.out.1 HO4'.out.2 HO5.out.1 HO5.out.2).mono ?_; rintro e w6 ⟨rfl, hb6⟩; have HB6 : Hid (Below w.heap.size w w6) := hid (HB5.out.trans (hb6.out.mono HB5.out.size)); obtain ⟨s0, s1, s2, s3⟩ := HS.out w6 HB6.out; clear hb6 HO4' HO5)
    | (go_at_call 44; refine (C1.out _ HB6.out).mono ?_; rintro e w7 ⟨a7, c7, rfl, HO7, hb7⟩; have HB7 : Hid (Below w.heap.size w w7) := hid (HB6.out.trans (hb7.out.mono HB6.out.size)); obtain ⟨r0, r1, r2, r3⟩ := HS.out w7 HB7.out; clear hb7)
    | (go_at_call 45; refine (C2.out _ HB7.out).mono ?_; rintro e w8 ⟨a8, c8, rfl, HO8, hb8⟩; have HB8 : Hid (Below w.heap.size w w8) := hid (HB7.out.trans (hb8.out.mono HB7.out.size)); have HO7' := hid (HO7.out.below hb8.out); obtain ⟨q0, q1, q2, q3⟩ := HS.out w8 HB8.out; clear hb8 HO7)
    | (go_at_call 43; refine (C3.out w8 _ _ _ _ HO7'.out HO8.out).mono ?_; rintro e w9 ⟨rfl, hb9⟩; have HB9 : Hid (Below w.heap.size w w9) := hid (HB8.out.trans (hb9.out.mono HB8.out.size)); obtain ⟨p0, p1, p2, p3⟩ := HS.out w9 HB9.out; clear hb9 HO7' HO8)
    | (go_at_call 11; refine (E1.out _ HB9.out).mono ?_; rintro e wa ⟨va, rfl, HOa, hba⟩; have HBa : Hid (Below w.heap.size w wa) := hid (HB9.out.trans (hba.out.mono HB9.out.size)); obtain ⟨o0, o1, o2, o3⟩ := HS.out wa HBa.out; clear hba)
    | (go_at_call 47; refine (E2.out _ HBa.out).mono ?_; rintro e wb ⟨vb, rfl, HOb, hbb⟩; have HBb : Hid (Below w.heap.size w wb) := hid (HBa.out.trans (hbb.out.mono HBa.out.size)); have HOa' := hid ((Upd.of_below (F := fun _ => False) hbb.out).own HOa.out (fun _ _ h => h)); obtain ⟨m0, m1, m2, m3⟩ := HS.out wb HBb.out; clear hbb HOa)
    | (go_at_call 46; refine (E3.out wb _ _ HOa'.out HOb.out).mono ?_; rintro e wc ⟨rfl, hbc⟩; have HBc : Hid (Below w.heap.size w wc) := hid (HBb.out.trans (hbc.out.mono HBb.out.size)); obtain ⟨l0, l1, l2, l3⟩ := HS.out wc HBc.out; clear hbc)
    | fail)
  all_goals
    go_wp2_with fail
    go_ret
    exact ⟨rfl, HBc.out⟩

end Go.Proofs.YtoknhcjneliboaaGreat
