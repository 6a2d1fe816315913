/- Texts of this seat, merged. -/
import Derived.Test.YtoknhcjneliboaaGreatFMg7
import Derived.Test.YtoknhcjneliboaaGreatFMg8
import Derived.Test.YtoknhcjneliboaaGreatFMg1
import Derived.Test.YtoknhcjneliboaaGreatFMg2
import Derived.Test.YtoknhcjneliboaaGreatFMg3
import Derived.Test.YtoknhcjneliboaaGreatFMg5

/- What takeName does: a directory's name names nothing more. -/
namespace Go.Proofs.YtoknhcjneliboaaGreat
open Go.RowKit Go.ChangeMaps Go.MapKept
set_option linter.unusedVariables false
set_option maxRecDepth 20000

/-- A name less. -/
def Sg.drop (S : Sg) (d : Nat) (s : List UInt8) : Sg := { S with L := fun i => if i = d then S.L d - 1 else S.L i, N := fun i => if i = d then (fun x => if x = s then 0 else S.N d x) else S.N i }

theorem owns_exact {w : World} {b n : Nat} {D : DataW Unit} (h : w.ownsMap Tryz.prog 9 (plainElem Tryz.prog 3) b n D) : w.ownsMap Tryz.prog 9 (plainElem Tryz.prog 3) b (Maps.size D) D := by
  obtain ⟨es, clock, hb, F, hn, rfl⟩ := h
  refine ⟨es, clock, hb, F, ?_, rfl⟩
  show es.size ≤ ((es.toList.map _).foldr DataW.insert []).length
  rw [length_read]
  exact Nat.le_refl _

theorem Sy.drop {w w' : World} {p : Nat} {S : Sg} (h : Sy w p S) (d : Nat) (hd : d < 17) (b : Nat) (hb : (S.P d).m = some b) (s : List UInt8) (hs : S.N d s ≠ 0) (D : DataW Unit)
    (h1 : w.ownsMap Tryz.prog 9 (plainElem Tryz.prog 3) b (S.L d) D) (h2 : Maps.size D = S.L d) (h3 : ∀ s, D.atKey (.string s) (.lit (.int .i64 0)) = .lit (.int .i64 (S.N d s : Int))) (h4 : ∀ s, Maps.has D (.string s) = decide (S.N d s ≠ 0))
    (h5 : w'.ownsMap Tryz.prog 9 (plainElem Tryz.prog 3) b (S.L d) (D.del (.string s))) (u : Upd (· = b) w w') : Sy w' p (S.drop d s) := by
  have hbp : b ≠ p := fun e => h.np d hd (e ▸ hb)
  have hT : Maps.Tidy D := h1.tidy (Go.Maps.string_keyed Tryz.underlying9)
  have hM : Maps.IsMap D := hT.isMap
  have hz : Maps.size (D.del (.string s)) = S.L d - 1 := by
    have := Maps.size_del (k := .string s) hT
    rw [h4, h2] at this
    simp [hs] at this
    omega
  obtain ⟨C, hC, hSl⟩ := h.blk
  refine ⟨⟨C, u.heap hC (fun e => hbp e.symm), hSl⟩, fun i hi => ?_, fun i x hi => ?_, fun i hi => ?_, h.ap, h.np, h.dir, h.root, h.zero⟩
  · by_cases e : i = d
    · subst e
      show Nms w' (S.P i).m _ _
      rw [hb]
      simp only [Sg.drop, if_true]
      refine ⟨_, hz ▸ owns_exact h5, hz, fun x => ?_, fun x => ?_⟩
      · by_cases ex : x = s
        · subst ex; rw [Maps.atKey_del_same]; simp
        · rw [Maps.atKey_del_other (by intro q; injection q with q; exact ex q), h3]; simp [ex]
      · by_cases ex : x = s
        · subst ex; rw [Maps.has_del_same]; simp
        · rw [Maps.has_del_other (by intro q; injection q with q; exact ex q), h4]; simp [ex]
    · show Nms w' (S.P i).m (if i = d then _ else S.L i) (if i = d then _ else S.N i)
      rw [if_neg e, if_neg e]
      refine (h.nms i hi).block (fun c hc => u.block c (h.foot_lt c (.inr ⟨i, hi, hc⟩)) (fun q => e ?_))
      exact h.ap i d c hi hd hc (q ▸ hb)
  · show (if i = d then (fun x => if x = s then 0 else S.N d x) else S.N i) x < 17
    split
    · dsimp only
      split
      · omega
      · exact h.to d x hd
    · exact h.to i x hi
  · show (if i = d then S.L d - 1 else S.L i) ≤ 6
    split
    · have := h.le d hd; omega
    · exact h.le i hi

theorem upd_turned {w w' : World} {b : Nat} (h : w.mapTurned w' b) : Upd (· = b) w w' := by
  obtain ⟨es, clock, es', clock', hb, rfl⟩ := h
  refine ⟨rfl, rfl, rfl, by simp [setBlock], fun k hk hn => ?_⟩
  simp only [setBlock]
  rw [Array.getElem?_setIfInBounds_ne (fun e => hn e.symm)]

set_option maxHeartbeats 4000000 in
theorem tkname_any (p : Nat) (S : Sg) (w : World) (H : Sy w p S) (gy ny cy d : Nat) (nm : ByteArray) (m : Int) (hny : 0 < ny) (hcy : w.cell? ⟨gy, ny - 1, none⟩ = some (.int .i64 (d : Int))) (hgy : gy < w.heap.size) (hyc : ny ≤ cy) (hcm : cy ≤ 9223372036854775807)
    (hd : d < 17) (hk : (S.P d).k = 2) (hs : S.N d (bl nm) ≠ 0) (hsz : nm.size ≤ 140737488355328) :
    Calls Tryz.prog 132 #[.pointer (some ⟨p, 0, none⟩), .agg #[.slice (some ⟨gy, 0, none⟩) ny cy, .string nm, .int .i64 m]] w fun e w' => e = .returned (.tuple #[]) ∧ Sy w' p (S.drop d (bl nm)) ∧ Upd (fun x => (S.P d).m = some x) w w' := by
  obtain ⟨b, hb⟩ := Option.isSome_iff_exists.1 (H.dir d hd hk)
  obtain ⟨W1, g1⟩ : ∃ W1, W1 = w.alloc (Obj.cells #[.slice (some ⟨gy, 0, none⟩) ny cy, .string nm, .int .i64 m] 184) := ⟨_, rfl⟩
  have hB1 : Below w.heap.size w W1 := by rw [g1]; exact one_new _ _
  have hZ1 : w.heap.size < W1.heap.size := by rw [g1]; simp
  have hS1 : Sy W1 p S := H.grow hB1
  have hP1 : W1.heap[w.heap.size]? = some (.cells #[.slice (some ⟨gy, 0, none⟩) ny cy, .string nm, .int .i64 m] 184 (0, 0)) := by rw [g1]; exact heap_alloc_new _ _
  obtain ⟨a0, a1, a2, _, _, _⟩ := plc_cells hP1
  have kd : Hid (Calls Tryz.prog 146 #[.agg #[.slice (some ⟨gy, 0, none⟩) ny cy, .string nm, .int .i64 m]] W1.drew fun e w' => e = .returned (.int .i64 (d : Int)) ∧ Hid (Below W1.heap.size W1 w')) := by
    refine hid ((dir_any W1.drew gy ny cy d nm m hny ((hB1.cell (p := ⟨gy, ny - 1, none⟩) hgy).trans hcy) (Nat.lt_of_lt_of_le hgy hB1.size) hyc hcm).mono ?_)
    rintro e w' ⟨rfl, h⟩
    exact ⟨rfl, hid ((Below.refl _ W1).drew.trans h)⟩
  have ku : Hid (∀ W ty, Hid (Below W1.heap.size W1 W) → ∃ W', (Builtin.delete_ #[97, 9] ty #[.map (some b), .string nm]).run Tryz.prog W = .ok (.tuple #[]) W' ∧ Hid (Sy W' p (S.drop d (bl nm)) ∧ Upd (fun x => (S.P d).m = some x) w W' ∧ (∀ a : Addr, a.block < W.heap.size → a.block ≠ b → W'.cell? a = W.cell? a))) := by
    refine hid (fun W ty hW => ?_)
    have hS := hS1.grow hW.out
    have hnm := hS.nms d hd
    rw [hb] at hnm
    obtain ⟨D, h1, h2, h3, h4⟩ := hnm
    have hkey : keyOf Tryz.prog 9 (.string nm) = some (.string nm.data.toList) := Go.WideMaps.keyOf_string_mk Tryz.underlying9 (by simp only [maxLen]; omega)
    obtain ⟨W', hr, h5, h6⟩ := h1.drop (t := 97) (Go.Maps.string_keyed Tryz.underlying9) Tryz.underlying97 hkey ty
    have u : Upd (· = b) W W' := upd_turned h6
    refine ⟨W', hr, hid ⟨hS.drop d hd b hb (bl nm) hs D h1 h2 h3 h4 h5 u, ?_, fun a ha hab => World.cell?_of_block (u.block a.block ha hab)⟩⟩
    have ub : Upd (fun x => (S.P d).m = some x) w W := Upd.of_below (hB1.trans (hW.out.mono hB1.size))
    exact ub.trans u (fun x _ hx => by subst hx; exact hb)
  have hm : ∀ W, Hid (Below W1.heap.size W1 W) → W.cell? ⟨p, 1 + d * 107 + 106, none⟩ = some (.map (some b)) := fun W hW => by
    rw [← hb]; exact (hS1.grow hW.out).m d hd
  have hd0 : (0 : Int) ≤ (d : Int) := by omega
  have hd1 : (d : Int) < 17 := by omega
  have HM := hid hm
  have HX : Hid ((∀ W, Hid (Below W1.heap.size W1 W) → w.heap.size < W.heap.size ∧ p < W.heap.size) ∧ w.heap.size ≠ b ∧ p ≠ b) := by
    refine hid ⟨fun W hW => ⟨Nat.lt_of_lt_of_le hZ1 hW.out.size, (hS1.grow hW.out).lt⟩, fun e => ?_, fun e => H.np d hd (e ▸ hb)⟩
    have := H.foot_lt b (.inr ⟨d, hd, hb⟩)
    omega
  have HZ1 := hid hZ1
  have hm0 := hm W1 (hid (Below.refl _ _))
  clear H hb hS1 hP1 hcy hgy hs hB1 hk hm
  go_enter Tryz.func132, Tryz.ntmps132
  go_wp2_with fail
  rw [← g1]
  clear g1
  go_region_held3 (fun W => W.cell? ⟨w.heap.size, 0, none⟩ = some (.slice (some ⟨gy, 0, none⟩) ny cy) ∧ W.cell? ⟨w.heap.size, 1, none⟩ = some (.string nm) ∧ W.cell? ⟨w.heap.size, 2, none⟩ = some (.int .i64 m) ∧ W.cell? ⟨p, 1 + d * 107 + 106, none⟩ = some (.map (some b))) (go_keep) ((go_at_call 146; refine kd.out.mono ?_; rintro e w4 ⟨rfl, hb4⟩; have x0 := (hb4.out.cell (p := ⟨w.heap.size, 0, none⟩) HZ1.out).trans a0; have x1 := (hb4.out.cell (p := ⟨w.heap.size, 1, none⟩) HZ1.out).trans a1; have x2 := (hb4.out.cell (p := ⟨w.heap.size, 2, none⟩) HZ1.out).trans a2; have x3 := HM.out w4 hb4; obtain ⟨w6, hup, H6⟩ := ku.out w4 0 hb4; have z0 := (H6.out.2.2 ⟨w.heap.size, 0, none⟩ (HX.out.1 w4 hb4).1 HX.out.2.1).trans x0; have z1 := (H6.out.2.2 ⟨w.heap.size, 1, none⟩ (HX.out.1 w4 hb4).1 HX.out.2.1).trans x1; have z2 := (H6.out.2.2 ⟨w.heap.size, 2, none⟩ (HX.out.1 w4 hb4).1 HX.out.2.1).trans x2; have z3 := (H6.out.2.2 ⟨p, 1 + d * 107 + 106, none⟩ (HX.out.1 w4 hb4).2 HX.out.2.2).trans x3))
  go_wp2_with fail
  go_end0
  exact ⟨rfl, H6.out.1, H6.out.2.1⟩

end Go.Proofs.YtoknhcjneliboaaGreat

/- What settle, takeLink and Drop do to a file. -/
namespace Go.Proofs.YtoknhcjneliboaaGreat
open Go.RowKit Go.ChangeMaps Go.MapKept
set_option linter.unusedVariables false
set_option maxRecDepth 20000

/-- A number without a node. -/
def Sg.gone (S : Sg) (f : Nat) : Sg := { S with P := updN S.P f noNd, L := fun i => if i = f then 0 else S.L i, N := fun i => if i = f then (fun _ => 0) else S.N i }

theorem Sy.gone {w : World} {p : Nat} {S : Sg} (h : Sy w p S) (f : Nat) (h1 : f < 17) (h2 : f ≠ 0) (hf1 : f ≠ 1) : Sy (w.setCells p (1 + f * 107) (nodeC 0 0 (.map none))) p (S.gone f) := by
  obtain ⟨C, hb, hc⟩ := h.blk
  have hl := hc.len
  have hln := nodeC_len 0 0 (.map none)
  have hs : 1 + f * 107 + (nodeC 0 0 (.map none)).length ≤ C.length := by rw [hl, hln]; omega
  have u := upd_setCells p (nodeC 0 0 (.map none)) (1 + f * 107) w
  refine ⟨⟨_, heap_setCells p 103 (nodeC 0 0 (.map none)) _ w C hb hs, hc.put f h1 noNd noNd_ok (by rw [length_splice _ _ _ hs, hl]) (fun j hj => getElem?_splice_out _ _ _ _ hs (by rw [hln]; omega)) (fun j hj => by rw [ndC_no]; exact getElem?_splice_in C _ (1 + f * 107) j hs (by rw [hln]; exact hj))⟩, ?_, ?_, ?_, ?_, ?_, ?_, ?_, ?_⟩
  · intro i hi
    by_cases e : i = f
    · subst e
      show Nms _ (updN S.P i noNd i).m (if i = i then 0 else S.L i) (if i = i then (fun _ => 0) else S.N i)
      rw [updN_same, if_pos rfl, if_pos rfl]
      exact ⟨rfl, fun _ => rfl⟩
    · show Nms _ (updN S.P f noNd i).m (if i = f then 0 else S.L i) (if i = f then (fun _ => 0) else S.N i)
      rw [updN_ne _ _ _ _ e, if_neg e, if_neg e]
      exact (h.nms i hi).block (fun c hc => u.block c (h.foot_lt c (.inr ⟨i, hi, hc⟩)) (fun q => h.np i hi (q ▸ hc)))
  · intro i s hi
    show (if i = f then (fun _ => 0) else S.N i) s < 17
    split
    · show 0 < 17
      omega
    · exact h.to i s hi
  · intro i hi
    show (if i = f then 0 else S.L i) ≤ 6
    split
    · omega
    · exact h.le i hi
  · intro i j b hi hj q1 q2
    change (updN S.P f noNd i).m = some b at q1
    change (updN S.P f noNd j).m = some b at q2
    by_cases e : i = f
    · subst e; rw [updN_same] at q1; simp [noNd] at q1
    · by_cases e' : j = f
      · subst e'; rw [updN_same] at q2; simp [noNd] at q2
      · rw [updN_ne _ _ _ _ e] at q1
        rw [updN_ne _ _ _ _ e'] at q2
        exact h.ap i j b hi hj q1 q2
  · intro i hi
    show (updN S.P f noNd i).m ≠ some p
    by_cases e : i = f
    · subst e; rw [updN_same]; simp [noNd]
    · rw [updN_ne _ _ _ _ e]; exact h.np i hi
  · intro i hi q
    change (updN S.P f noNd i).k = 2 at q
    show (updN S.P f noNd i).m.isSome = true
    by_cases e : i = f
    · subst e; rw [updN_same] at q; simp [noNd] at q
    · rw [updN_ne _ _ _ _ e] at q ⊢; exact h.dir i hi q
  · show (updN S.P f noNd 1).k = 2
    rw [updN_ne _ _ _ _ (fun e => hf1 e.symm)]; exact h.root
  · show (updN S.P f noNd 0).k = 0
    rw [updN_ne _ _ _ _ (fun e => h2 e.symm)]; exact h.zero

theorem builtNode0 : Tryz.prog.built 99 [] = some (nodeC 0 0 (.map none)).toArray := by kernel_rfl

set_option maxHeartbeats 1000000 in
theorem fblocks_any (p : Nat) (S : Sg) (w : World) (H : Sy w p S) (i : Nat) (hi : i < 17) (s : Nat) (hs : (S.P i).s = s) (h96 : s ≤ 96) :
    Calls Tryz.prog 125 #[.pointer (some ⟨p, 1 + i * 107, none⟩)] w fun e w' => e = .returned (.slice (some ⟨p, 1 + i * 107 + 100, none⟩) ((s + 15) / 16) 6) ∧ w' = w.drew := by
  have c := H.s i hi
  rw [hs] at c
  have k0 := hid (fun W => needed_any s (by omega) W)
  obtain ⟨q, gq⟩ : ∃ q, q = (s + 15) / 16 := ⟨_, rfl⟩
  have hq : q ≤ 6 := by omega
  rw [← gq] at k0 ⊢
  have hq' : (q : Int) ≤ 6 := by omega
  clear H hs gq
  go_enter Tryz.func125, Tryz.ntmps125
  go_wp2_with fail
  go_region_held3 (fun W => W.cell? ⟨p, 1 + i * 107 + 3, none⟩ = some (.int .i64 (s : Int))) (go_keep) ((go_at_call 140; refine (k0.out _).mono ?_; rintro e w' ⟨rfl, rfl⟩))
  all_goals go_wp2_with fail
  all_goals go_ret
  all_goals exact ⟨rfl, rfl⟩

set_option maxHeartbeats 1000000 in
theorem settle_stay (p : Nat) (S : Sg) (w : World) (H : Sy w p S) (i : Nat) (hi : i < 17) (hl : (S.P i).l = 0) (n : Nat) (hh : (S.P i).h = (n : Int)) (hn : 0 < n) :
    Calls Tryz.prog 149 #[.pointer (some ⟨p, 0, none⟩), .int .i64 (i : Int)] w fun e w' => e = .returned (.tuple #[]) ∧ w' = w := by
  have c := H.h i hi
  rw [hh] at c
  have d := H.l i hi
  rw [hl] at d
  have hi0 : (0 : Int) ≤ (i : Int) := by omega
  have hi1 : (i : Int) < 17 := by omega
  have hn' : (0 : Int) < (n : Int) := by omega
  clear H hl hh
  go_enter Tryz.func149, Tryz.ntmps149
  go_wp2_with fail
  (try simp only [Exit.inBlock, Exit.then])
  refine bodyPost_ret (results_none rfl _ _ _) rfl ?_
  exact ⟨rfl, rfl⟩

set_option maxHeartbeats 4000000 in
theorem settle_go (p : Nat) (S : Sg) (w : World) (i : Nat) (hi : i < 17) (hi0 : i ≠ 0) (hi1 : i ≠ 1) (x : Nd) (T : Nat → Bool) (H : Sy w p (S.bl i x T)) (hd : S.d = 0) (hl : x.l = 0) (hh : x.h = 0) (hs : x.s ≤ 96) (hB : Bok x T (need x.s)) :
    Calls Tryz.prog 149 #[.pointer (some ⟨p, 0, none⟩), .int .i64 (i : Int)] w fun e w' => e = .returned (.tuple #[]) ∧ (∃ T', Sy w' p ((S.bl i x T').gone i) ∧ cnt T' 25 = 0) ∧ Upd (· = p) w w' := by
  have hP : (S.bl i x T).P i = x := updN_same _ _ _
  have c := H.h i hi
  rw [hP, hh] at c
  have d := H.l i hi
  rw [hP, hl] at d
  have a0 : (0 : Int) ≤ (i : Int) := by omega
  have a1 : (i : Int) < 17 := by omega
  have k1 := hid (fblocks_any p (S.bl i x T) w H i hi x.s (by rw [hP]) hs)
  have k2 := hid (release_any p S w.drew i hi x T (H.hp rfl) hd 0 (need x.s) 6 (1 + i * 107 + 100) (fun _ => by omega) (by unfold need; omega) (by unfold need; omega) (Nat.le_refl _) (by simpa using hB))
  rw [show (x.s + 15) / 16 = need x.s from rfl] at k1
  obtain ⟨q, gq⟩ : ∃ q, q = need x.s := ⟨_, rfl⟩
  rw [← gq] at k1 k2
  clear H hd hl hh hs hB hP gq
  go_enter Tryz.func149, Tryz.ntmps149
  go_wp2_with fail
  refine k1.out.mono ?_
  rintro e w1 ⟨rfl, rfl⟩
  clear k1
  go_wp2_with fail
  refine k2.out.mono ?_
  rintro e w2 ⟨rfl, ⟨T', hS, hB⟩, u⟩
  clear k2 c d
  obtain ⟨N, gN⟩ : ∃ N, N = nodeC 0 0 (.map none) := ⟨_, rfl⟩
  have HBT : Hid (Tryz.prog.built 99 [] = some N.toArray) := by rw [gN]; exact hid builtNode0
  have HLN : Hid (N.length = 107) := by rw [gN]; exact hid (nodeC_len _ _ _)
  have H1 : Hid (N.toArray.all (·.oneCell') = true) := by rw [gN]; exact hid (nodeC_one _ _ _)
  have HSZ : Hid ((Tryz.prog.info? 99).map (·.size) = some N.toArray.size) := by rw [List.size_toArray, HLN.out]; exact hid csizeNode
  have HTH : Hid (w2.there p (1 + i * 107) N.toArray.size) := by
    obtain ⟨C, hb, hc⟩ := hS.blk
    rw [List.size_toArray, HLN.out]
    exact hid (there_of_block hb _ _ (by rw [hc.len]; omega))
  have HQ : Hid ((∃ T', Sy (w2.setCells p (1 + i * 107) N) p ((S.bl i x T').gone i) ∧ cnt T' 25 = 0) ∧ Upd (· = p) w (w2.setCells p (1 + i * 107) N)) := by
    rw [gN]
    exact hid ⟨⟨T', hS.gone i hi hi0 hi1, hB.n⟩, (((Upd.refl (· = p) w).drewN 1).trans u (fun _ _ h => h)).trans (upd_setCells p _ _ w2) (fun x _ h => h)⟩
  clear gN hS hB u
  go_wp2_with (first
    | (refine wpList_build_is rfl 99 #[] rfl N.toArray (by simpa [Act.eval] using HBT.out) ?_)
    | (refine wpList_store_mid rfl 99 (.tmp 28) (.tmp 27) rfl p (1 + i * 107) N.toArray rfl rfl HTH.out HSZ.out H1.out ?_))
  go_end0
  exact ⟨rfl, HQ.out⟩

end Go.Proofs.YtoknhcjneliboaaGreat

/- What takeLink, Unlink and Drop do to a file that is alone in its system. -/
namespace Go.Proofs.YtoknhcjneliboaaGreat
open Go.RowKit Go.ChangeMaps Go.MapKept
set_option linter.unusedVariables false
set_option maxRecDepth 20000

def Nd.link (x : Nd) (l : Int) : Nd := { x with l := l }
theorem ndC_link (x : Nd) (l : Int) : ndC (x.link l) = (ndC x).set 1 (.int .i64 l) := by simp [ndC, Nd.link]
theorem Sy.linkTo {w : World} {p : Nat} {S : Sg} (h : Sy w p S) (i : Nat) (hi : i < 17) (s : Int) : Sy (w.setCell ⟨p, 1 + i * 107 + 1, none⟩ (.int .i64 s)) p (S.at_ i ((S.P i).link s)) :=
  h.set i hi ((S.P i).link s) ⟨(h.ok i hi).b, (h.ok i hi).B⟩ rfl rfl 1 (by omega) _ rfl (fun j hj e => ndC_set0 _ 1 (by omega) _ _ (ndC_link _ _) j e)

set_option maxHeartbeats 2000000 in
theorem tklink_stay (p : Nat) (S : Sg) (w : World) (H : Sy w p S) (i : Nat) (hi : i < 17) (hl : (S.P i).l = 1) (n : Nat) (hh : (S.P i).h = (n : Int)) (hn : 0 < n) :
    Calls Tryz.prog 134 #[.pointer (some ⟨p, 0, none⟩), .int .i64 (i : Int)] w fun e w' => e = .returned (.tuple #[]) ∧ Sy w' p (S.at_ i ((S.P i).link 0)) ∧ Upd (· = p) w w' := by
  have d := H.l i hi
  rw [hl] at d
  have f := H.fz (1 + i * 107 + 1)
  have hi0 : (0 : Int) ≤ (i : Int) := by omega
  have hi1 : (i : Int) < 17 := by omega
  have hS : Sy (w.setCell ⟨p, 1 + i * 107 + 1, none⟩ (.int .i64 0)).drew p (S.at_ i ((S.P i).link 0)) := (H.linkTo i hi 0).hp rfl
  have k1 : Hid (Calls Tryz.prog 149 #[.pointer (some ⟨p, 0, none⟩), .int .i64 (i : Int)] (w.setCell ⟨p, 1 + i * 107 + 1, none⟩ (.int .i64 0)).drew fun e w' => e = .returned (.tuple #[]) ∧ w' = (w.setCell ⟨p, 1 + i * 107 + 1, none⟩ (.int .i64 0)).drew) :=
    hid (settle_stay p _ _ hS i hi (by rw [Sg.at_same]; rfl) n (by rw [Sg.at_same]; exact hh) hn)
  have HQ : Hid (Sy (w.setCell ⟨p, 1 + i * 107 + 1, none⟩ (.int .i64 0)).drew p (S.at_ i ((S.P i).link 0)) ∧ Upd (· = p) w (w.setCell ⟨p, 1 + i * 107 + 1, none⟩ (.int .i64 0)).drew) := hid ⟨hS, (Upd.setCell (F := (· = p)) w ⟨p, _, none⟩ _ rfl).drewN 1⟩
  clear H hl hh hS
  go_enter Tryz.func134, Tryz.ntmps134
  go_wp2_with fail
  go_region
  go_wp2_with fail
  refine k1.out.mono ?_
  rintro e w1 ⟨rfl, rfl⟩
  go_wp2_with fail
  go_end0
  exact ⟨rfl, HQ.out⟩

set_option maxHeartbeats 2000000 in
theorem drop_last (p : Nat) (S : Sg) (w : World) (i : Nat) (h1 : 2 ≤ i) (hi : i < 17) (x : Nd) (T : Nat → Bool) (H : Sy w p (S.bl i x T)) (hd : S.d = 0) (hk : x.k ≠ 0) (hl : x.l = 0) (hh : x.h = 1) (hs : x.s ≤ 96) (hB : Bok x T (need x.s)) :
    Calls Tryz.prog 217 #[.pointer (some ⟨p, 0, none⟩), .int .i64 (i : Int)] w fun e w' => e = .returned (.int .i64 0) ∧ (∃ T', Sy w' p ((S.bl i (x.hold 0) T').gone i) ∧ cnt T' 25 = 0) ∧ Upd (· = p) w w' := by
  have hP : (S.bl i x T).P i = x := updN_same _ _ _
  have k0 := hid (node_yes p (S.bl i x T) w H i (by omega) hi (by rw [hP]; exact hk))
  have c := H.h i hi
  rw [hP, hh] at c
  have f := H.fz (1 + i * 107 + 2)
  obtain ⟨W, gW⟩ : ∃ W, W = w.setCell ⟨p, 1 + i * 107 + 2, none⟩ (.int .i64 0) := ⟨_, rfl⟩
  have hS : Sy W p (S.bl i (x.hold 0) T) := by
    have := H.holdTo i hi 0
    rw [hP] at this
    rw [gW]
    have e : (S.bl i x T).at_ i (x.hold 0) = S.bl i (x.hold 0) T := by
      unfold Sg.bl Sg.at_ updN
      congr 1
      funext j
      by_cases e : j = i <;> simp [e]
    rw [e] at this
    exact this
  have k1 := hid (settle_go p S W i hi (by omega) (by omega) (x.hold 0) T hS hd hl rfl hs ⟨hB.in_, hB.ne, hB.n⟩)
  have HU : Hid (Upd (· = p) w W) := by rw [gW]; exact hid (Upd.setCell (F := (· = p)) w ⟨p, _, none⟩ _ rfl)
  clear H hd hk hl hh hs hB hP hS
  go_enter Tryz.func217, Tryz.ntmps217
  go_wp2_with fail
  refine k0.out.mono ?_
  rintro e w1 ⟨rfl, rfl⟩
  clear k0
  go_wp2_with fail
  rw [← gW]
  refine k1.out.mono ?_
  rintro e w2 ⟨rfl, hT, u⟩
  have HT := hid hT
  clear k1 hT gW c f
  go_wp2_with fail
  go_ret
  exact ⟨rfl, HT.out, HU.out.trans u (fun _ _ h => h)⟩

end Go.Proofs.YtoknhcjneliboaaGreat

/- What has, release, settle and takeLink do to any system. -/
namespace Go.Proofs.YtoknhcjneliboaaGreat
open Go.RowKit Go.ChangeMaps Go.MapKept
set_option linter.unusedVariables false
set_option maxRecDepth 20000

theorem dfc_eq (d b : Int) : (bits .and .i64 d b == 0) = !dfc d b := by rw [Bool.eq_iff_iff]; simp [dfc]
theorem dfc_ne (d b : Int) : (bits .and .i64 d b != 0) = dfc d b := by rw [Bool.eq_iff_iff]; simp [dfc, bne]

set_option maxHeartbeats 1000000 in
theorem has_any (p : Nat) (S : Sg) (w : World) (H : Sy w p S) (b : Int) : Calls Tryz.prog 133 #[.pointer (some ⟨p, 0, none⟩), .int .i64 b] w fun e w' => e = .returned (.bool (dfc S.d b)) ∧ w' = w := by
  have c := H.df
  have h := dfc_ne S.d b
  obtain ⟨R, gR⟩ : ∃ R, R = dfc S.d b := ⟨_, rfl⟩
  rw [← gR] at h ⊢
  clear H gR
  go_enter Tryz.func133, Tryz.ntmps133
  go_wp2_with fail
  go_ret
  exact ⟨rfl, rfl⟩

/-- Marks that are let go. -/
def relT (d : Int) (bs : List Nat) (T : Nat → Bool) : Nat → Bool := if dfc d 2 = true then T else fun b => if b ∈ bs then false else T b
def Sg.tk (S : Sg) (T : Nat → Bool) : Sg := { S with T := T }

set_option maxHeartbeats 4000000 in
theorem release_gen (p : Nat) (S : Sg) (w : World) (H : Sy w p S) (i : Nat) (hi : i < 17) (q n c o : Nat) (ho : 0 < n → o = 1 + i * 107 + (100 + q)) (hq : q + n ≤ 6) (hn : n ≤ c) (hc : c ≤ 6) (bs : List Nat) (hl : bs.length = n)
    (hb : ∀ j, j < n → (S.P i).B.getD (q + j) 0 = ((bs.getD j 0 : Nat) : Int)) (hlt : ∀ b ∈ bs, b < 25) :
    Calls Tryz.prog 139 #[.pointer (some ⟨p, 0, none⟩), .slice (some ⟨p, o, none⟩) n c] w fun e w' => e = .returned (.tuple #[]) ∧ Sy w' p (S.tk (relT S.d bs S.T)) ∧ Upd (· = p) w w' := by
  have k0 := hid (has_any p S w H 2)
  by_cases hd : dfc S.d 2 = true
  · rw [hd] at k0
    have e : S.tk (relT S.d bs S.T) = S := by unfold relT Sg.tk; rw [if_pos hd]
    rw [e]
    have HS := hid H
    clear H hd e hb hlt ho
    go_enter Tryz.func139, Tryz.ntmps139
    go_wp2_with fail
    refine k0.out.mono ?_
    rintro e w1 ⟨rfl, rfl⟩
    clear k0
    go_wp2_with fail
    (try simp only [Exit.inBlock, Exit.then])
    refine bodyPost_ret (results_none rfl _ _ _) rfl ?_
    exact ⟨rfl, HS.out, Upd.refl _ _⟩
  · rw [show dfc S.d 2 = false by simpa using hd] at k0
    have e : relT S.d bs S.T = fun b => if b ∈ bs then false else S.T b := by unfold relT; rw [if_neg hd]
    rw [e]
    have H0 : Hid (∃ T', Sy w p (S.tk T') ∧ (∀ b, T' b = if b ∈ bs.take 0 then false else S.T b) ∧ Upd (· = p) w w) := hid ⟨S.T, H, fun b => by simp, Upd.refl _ _⟩
    have HOO := hid ho
    have HBB := hid hb
    have HLT := hid (And.intro hl hlt)
    clear H hd e ho hb hlt hl
    go_enter Tryz.func139, Tryz.ntmps139
    go_wp2_with fail
    refine k0.out.mono ?_
    rintro e w1 ⟨rfl, rfl⟩
    clear k0
    go_wp2_with fail
    go_loopw [5, 10] (fun v5 v10 wr => ∃ k : Nat, k ≤ n ∧ v10 = .int .i64 (k : Int) ∧ Hid (∃ T', Sy wr p (S.tk T') ∧ (∀ b, T' b = if b ∈ bs.take k then false else S.T b) ∧ Upd (· = p) w1 wr)) (fun _ v10 _ => n - (intOf v10).toNat)
    case atStart => exact ⟨0, by omega, rfl, H0⟩
    case round =>
      clear H0
      obtain ⟨k, hkn, rfl, HQ⟩ := hrel
      by_cases e : k = n
      · subst e
        go_wp2_with fail
        go_end0
        obtain ⟨T', h1, h2, h3⟩ := HQ.out
        have e : T' = fun b => if b ∈ bs then false else S.T b := by
          funext b
          rw [h2, List.take_of_length_le (by have := HLT.out.1; omega)]
        rw [← e]
        exact ⟨rfl, h1, h3⟩
      · have hk : k < n := by omega
        have hk2 : (k : Int) < (n : Int) := by omega
        have hk0 : (0 : Int) ≤ (k : Int) := by omega
        obtain ⟨T', h1, h2, h3⟩ := HQ.out
        obtain ⟨b, gb⟩ : ∃ b, b = bs.getD k 0 := ⟨_, rfl⟩
        have hkl : k < bs.length := by have := HLT.out.1; omega
        have hget : bs[k] = b := by rw [gb, List.getD_eq_getElem?_getD, List.getElem?_eq_getElem hkl]; rfl
        have e3 : b < 25 := HLT.out.2 b (by rw [← hget]; exact List.getElem_mem _)
        have hcell := h1.B i hi (q + k) (by omega)
        have hB1 := HBB.out k hk
        rw [← gb] at hB1
        rw [show ((S.tk T').P i).B.getD (q + k) 0 = (b : Int) from hB1, show 1 + i * 107 + (100 + (q + k)) = o + k by have := HOO.out (by omega); omega] at hcell
        have ht := h1.t b e3
        have hf := h1.fz (1820 + b)
        have b0 : (0 : Int) ≤ (b : Int) := by omega
        have b1 : (b : Int) < 25 := by omega
        have hm := h1.mark b e3 false
        have HQ4 : Hid (∃ T', Sy (wr.setCell ⟨p, 1820 + b, none⟩ (.bool false)) p (S.tk T') ∧ (∀ b, T' b = if b ∈ bs.take (k + 1) then false else S.T b) ∧ Upd (· = p) w1 (wr.setCell ⟨p, 1820 + b, none⟩ (.bool false))) := by
          refine hid ⟨updT T' b false, hm, fun x => ?_, h3.trans (Upd.setCell (F := (· = p)) wr ⟨p, _, none⟩ _ rfl) (fun _ _ h => h)⟩
          rw [List.take_succ_eq_append_getElem hkl, hget]
          by_cases ex : x = b
          · subst ex; rw [updT_same]; simp
          · rw [updT_ne _ _ _ _ ex, h2]; simp [ex]
        clear h1 h2 h3 hm HQ e hB1 gb hget hkl
        go_wp2_with fail
        go_roundw
        case rel => exact ⟨k + 1, by omega, by go_num, HQ4⟩
        case measure => simp [intOf]; omega

set_option maxHeartbeats 1000000 in
theorem settle_keep (p : Nat) (S : Sg) (w : World) (H : Sy w p S) (i : Nat) (hi : i < 17) (hh : 0 < (S.P i).l ∨ 0 < (S.P i).h) :
    Calls Tryz.prog 149 #[.pointer (some ⟨p, 0, none⟩), .int .i64 (i : Int)] w fun e w' => e = .returned (.tuple #[]) ∧ w' = w := by
  have c := H.h i hi
  have d := H.l i hi
  obtain ⟨l, gl⟩ : ∃ l, l = (S.P i).l := ⟨_, rfl⟩
  obtain ⟨h, gh⟩ : ∃ h, h = (S.P i).h := ⟨_, rfl⟩
  rw [← gl] at hh d
  rw [← gh] at hh c
  have hi0 : (0 : Int) ≤ (i : Int) := by omega
  have hi1 : (i : Int) < 17 := by omega
  clear H gl gh
  by_cases q : 0 < l
  · clear hh
    go_enter Tryz.func149, Tryz.ntmps149
    go_wp2_with fail
    (try simp only [Exit.inBlock, Exit.then])
    refine bodyPost_ret (results_none rfl _ _ _) rfl ?_
    exact ⟨rfl, rfl⟩
  · have q2 : 0 < h := by omega
    clear hh
    go_enter Tryz.func149, Tryz.ntmps149
    go_wp2_with fail
    (try simp only [Exit.inBlock, Exit.then])
    refine bodyPost_ret (results_none rfl _ _ _) rfl ?_
    exact ⟨rfl, rfl⟩

set_option maxHeartbeats 4000000 in
theorem settle_gone (p : Nat) (S : Sg) (w : World) (H : Sy w p S) (i : Nat) (hi : i < 17) (hi0 : i ≠ 0) (hi1 : i ≠ 1) (hl : ¬ 0 < (S.P i).l) (hh : ¬ 0 < (S.P i).h) (hs : (S.P i).s ≤ 96) (bs : List Nat) (hbl : bs.length = need (S.P i).s)
    (hb : ∀ j, j < need (S.P i).s → (S.P i).B.getD j 0 = ((bs.getD j 0 : Nat) : Int)) (hlt : ∀ b ∈ bs, b < 25) :
    Calls Tryz.prog 149 #[.pointer (some ⟨p, 0, none⟩), .int .i64 (i : Int)] w fun e w' => e = .returned (.tuple #[]) ∧ Sy w' p ((S.tk (relT S.d bs S.T)).gone i) ∧ Upd (· = p) w w' := by
  have c := H.h i hi
  have d := H.l i hi
  have a0 : (0 : Int) ≤ (i : Int) := by omega
  have a1 : (i : Int) < 17 := by omega
  have k1 := hid (fblocks_any p S w H i hi _ rfl hs)
  rw [show ((S.P i).s + 15) / 16 = need (S.P i).s from rfl] at k1
  have k2 := hid (release_gen p S w.drew (H.hp rfl) i hi 0 (need (S.P i).s) 6 (1 + i * 107 + 100) (fun _ => by omega) (by unfold need; omega) (by unfold need; omega) (Nat.le_refl _) bs hbl (fun j hj => by rw [Nat.zero_add]; exact hb j hj) hlt)
  obtain ⟨q, gq⟩ : ∃ q, q = need (S.P i).s := ⟨_, rfl⟩
  obtain ⟨l, gl⟩ : ∃ l, l = (S.P i).l := ⟨_, rfl⟩
  obtain ⟨h, gh⟩ : ∃ h, h = (S.P i).h := ⟨_, rfl⟩
  rw [← gl] at hl d
  rw [← gh] at hh c
  rw [← gq] at k1 k2
  clear H hs gq gl gh hb hlt hbl
  go_enter Tryz.func149, Tryz.ntmps149
  go_wp2_with fail
  refine k1.out.mono ?_
  rintro e w1 ⟨rfl, rfl⟩
  clear k1
  go_wp2_with fail
  refine k2.out.mono ?_
  rintro e w2 ⟨rfl, hS, u⟩
  clear k2 c d
  obtain ⟨N, gN⟩ : ∃ N, N = nodeC 0 0 (.map none) := ⟨_, rfl⟩
  have HBT : Hid (Tryz.prog.built 99 [] = some N.toArray) := by rw [gN]; exact hid builtNode0
  have HLN : Hid (N.length = 107) := by rw [gN]; exact hid (nodeC_len _ _ _)
  have H1 : Hid (N.toArray.all (·.oneCell') = true) := by rw [gN]; exact hid (nodeC_one _ _ _)
  have HSZ : Hid ((Tryz.prog.info? 99).map (·.size) = some N.toArray.size) := by rw [List.size_toArray, HLN.out]; exact hid csizeNode
  have HTH : Hid (w2.there p (1 + i * 107) N.toArray.size) := by
    obtain ⟨C, hb, hc⟩ := hS.blk
    rw [List.size_toArray, HLN.out]
    exact hid (there_of_block hb _ _ (by rw [hc.len]; omega))
  have HQ : Hid (Sy (w2.setCells p (1 + i * 107) N) p ((S.tk (relT S.d bs S.T)).gone i) ∧ Upd (· = p) w (w2.setCells p (1 + i * 107) N)) := by
    rw [gN]
    exact hid ⟨hS.gone i hi hi0 hi1, (((Upd.refl (· = p) w).drewN 1).trans u (fun _ _ h => h)).trans (upd_setCells p _ _ w2) (fun x _ h => h)⟩
  clear gN hS u
  go_wp2_with (first
    | (refine wpList_build_is rfl 99 #[] rfl N.toArray (by simpa [Act.eval] using HBT.out) ?_)
    | (refine wpList_store_mid rfl 99 (.tmp 28) (.tmp 27) rfl p (1 + i * 107) N.toArray rfl rfl HTH.out HSZ.out H1.out ?_))
  go_end0
  exact ⟨rfl, HQ.out⟩

end Go.Proofs.YtoknhcjneliboaaGreat

/- What a file holds: bytes of its row, noughts behind them. -/
namespace Go.Proofs.YtoknhcjneliboaaGreat
open Go.RowKit Go.ChangeMaps Go.MapKept
set_option linter.unusedVariables false
set_option maxRecDepth 20000

/-- What a file holds; behind its size there are noughts. -/
def ct (x : Nd) : List Int := x.b.take x.s
def Zok (x : Nd) : Prop := ∀ j, x.s ≤ j → x.b.getD j 0 = 0

theorem ext_getD {l m : List Int} (hl : l.length = m.length) (h : ∀ j, j < l.length → l.getD j 0 = m.getD j 0) : l = m := by
  apply List.ext_getElem hl
  intro j h1 h2
  have := h j h1
  rw [List.getD_eq_getElem?_getD, List.getD_eq_getElem?_getD, List.getElem?_eq_getElem h1, List.getElem?_eq_getElem h2] at this
  exact this
theorem getD_take (l : List Int) (n j : Nat) (h : j < n) : (l.take n).getD j 0 = l.getD j 0 := by
  rw [List.getD_eq_getElem?_getD, List.getElem?_take_of_lt h, List.getD_eq_getElem?_getD]
theorem getD_zeros (n j : Nat) : (List.replicate n (0 : Int)).getD j 0 = 0 := by
  rw [List.getD_eq_getElem?_getD, List.getElem?_replicate]
  split <;> rfl
theorem getD_app (l : List Int) (n j : Nat) : (l ++ List.replicate n (0 : Int)).getD j 0 = if j < l.length then l.getD j 0 else 0 := by
  rw [List.getD_eq_getElem?_getD]
  split
  · rename_i h
    rw [List.getElem?_append_left h, List.getD_eq_getElem?_getD]
  · rename_i h
    rw [List.getElem?_append_right (by omega), ← List.getD_eq_getElem?_getD]
    exact getD_zeros _ _
theorem getD_over (l : List Int) (j : Nat) (h : l.length ≤ j) : l.getD j 0 = 0 := by
  rw [List.getD_eq_getElem?_getD, List.getElem?_eq_none h]; rfl
theorem ct_len {x : Nd} (hb : x.b.length = 96) (hs : x.s ≤ 96) : (ct x).length = x.s := by simp [ct, hb]; omega

/-- A file of another size. -/
theorem ct_grow {x x' : Nd} (hb : x.b.length = 96) (hs : x.s ≤ 96) (hz : Zok x) (z : Nat) (h1 : x.s ≤ z) (h2 : z ≤ 96) (e1 : x'.s = z) (e2 : x'.b = x.b) : ct x' = (ct x ++ List.replicate (z - x.s) 0).take z ∧ Zok x' := by
  have hl := ct_len hb hs
  refine ⟨ext_getD ?_ (fun j hj => ?_), fun j hj => by rw [e2]; exact hz j (by omega)⟩
  · simp [ct, e1, e2, hb] ; omega
  · have hj' : j < z := by simp [ct, e1, e2, hb] at hj; omega
    unfold ct at hl ⊢
    rw [e1, e2, getD_take _ _ _ hj', getD_take _ _ _ hj', getD_app, hl]
    by_cases q : j < x.s
    · rw [if_pos q, getD_take _ _ _ q]
    · rw [if_neg q]; exact hz j (by omega)
theorem ct_cut {x x' : Nd} (hb : x.b.length = 96) (hs : x.s ≤ 96) (z : Nat) (h1 : z < x.s) (e1 : x'.s = z) (e2 : x'.b = splice x.b z (List.replicate (96 - z) 0)) : ct x' = (ct x ++ List.replicate (z - x.s) 0).take z ∧ Zok x' := by
  have hl := ct_len hb hs
  have hfit : z + (List.replicate (96 - z) (0 : Int)).length ≤ x.b.length := by simp [hb]; omega
  have hsl : (splice x.b z (List.replicate (96 - z) 0)).length = 96 := by rw [length_splice _ _ _ hfit, hb]
  refine ⟨ext_getD ?_ (fun j hj => ?_), fun j hj => ?_⟩
  · unfold ct at hl ⊢
    rw [e1, e2, List.length_take, hsl, List.length_take, List.length_append, hl]
    simp
    omega
  · have hj' : j < z := by unfold ct at hj; rw [e1, List.length_take] at hj; omega
    unfold ct at hl ⊢
    rw [e1, e2, getD_take _ _ _ hj', getD_take _ _ _ hj', getD_app, hl, if_pos (by omega), getD_take _ _ _ (by omega), getD_splice_out _ _ _ _ hfit (by omega)]
  · rw [e1] at hj
    rw [e2]
    by_cases q : j < 96
    · obtain ⟨k, rfl⟩ : ∃ k, j = z + k := ⟨j - z, by omega⟩
      rw [getD_splice_in _ _ _ _ hfit (by simp; omega)]
      exact getD_zeros _ _
    · exact getD_over _ _ (by omega)
end Go.Proofs.YtoknhcjneliboaaGreat

/- The program's system beside the one without memory. -/
namespace Go.Proofs.YtoknhcjneliboaaGreat
open Go.RowKit Go.ChangeMaps Go.MapKept
set_option linter.unusedVariables false
set_option maxRecDepth 20000

structure NdR (x : Nd) (y : Fn) : Prop where
  k : x.k = y.k
  l : x.l = y.l
  h : x.h = y.h
  s : x.s = y.c.length
  b : x.b.take x.s = y.c
  z : ∀ j, x.s ≤ j → x.b.getD j 0 = 0
  B : ∀ j, j < y.B.length → x.B.getD j 0 = ((y.B.getD j 0 : Nat) : Int)

structure Rel (S : Sg) (F : Fs) : Prop where
  d : S.d = F.d
  T : S.T = F.T
  P : ∀ i, i < 17 → NdR (S.P i) (F.P i)
  L : ∀ i, i < 17 → S.L i = (F.P i).Q.length
  N : ∀ i, i < 17 → ∀ s, S.N i s = lk (F.P i).Q s

theorem NdR.no : NdR noNd Fn.no := ⟨rfl, rfl, rfl, rfl, by simp [noNd, Fn.no], fun j _ => getD_zeros 96 j, fun j hj => by simp [Fn.no] at hj⟩
theorem NdR.nu (k : Int) (m : Option Nat) : NdR (newNd k m) (Fn.nu k) := ⟨rfl, rfl, rfl, rfl, by simp [newNd, Fn.nu], fun j _ => getD_zeros 96 j, fun j hj => by simp [Fn.nu] at hj⟩

theorem Rel.root (m : Nat) (d : Int) : Rel { rootG m with d := d } (rootF d) := by
  refine ⟨rfl, rfl, fun i _ => ?_, fun i _ => ?_, fun i _ s => ?_⟩
  · show NdR (if i = 1 then newNd 2 (some m) else noNd) (if i = 1 then Fn.nu 2 else Fn.no)
    split
    · exact NdR.nu 2 _
    · exact NdR.no
  · show 0 = (if i = 1 then Fn.nu 2 else Fn.no).Q.length
    split <;> rfl
  · show 0 = lk (if i = 1 then Fn.nu 2 else Fn.no).Q s
    split <;> rfl

theorem wk_congr (K K' : Nat → Int) (N N' : Nat → List UInt8 → Nat) (hK : ∀ i, i < 17 → K i = K' i) (hN : ∀ i, i < 17 → ∀ s, N i s = N' i s) (h17 : ∀ i, i < 17 → ∀ s, N i s < 17) :
    ∀ (l : List (List UInt8)) (n : Nat) (y : List Nat), n < 17 → wk K N n y l = wk K' N' n y l
  | [], n, y, _ => rfl
  | q :: r, n, y, hn => by
    cases r with
    | nil => simp only [wk, hK n hn, hN n hn]
    | cons z t =>
      have := wk_congr K K' N N' hK hN h17 (z :: t) (N n q) (y ++ [n]) (h17 n hn q)
      simp only [wk, hK n hn] at this ⊢
      rw [this, hN n hn]

theorem Rel.walk {w : World} {p : Nat} {S : Sg} {F : Fs} (H : Sy w p S) (R : Rel S F) (t : ByteArray) : wkS S t = F.walk (bl t) := by
  unfold wkS Fs.walk
  split
  · rw [wk_congr (fun i => (S.P i).k) F.K S.N F.N (fun i hi => (R.P i hi).k) (fun i hi s => R.N i hi s) (fun i hi s => H.to i s hi) _ 1 [] (by omega)]
  · rfl

theorem countP_lt {p q : Nat → Bool} (hpq : ∀ i, p i = true → q i = true) (x : Nat) (hx : q x = true) (hn : p x = false) : ∀ l : List Nat, x ∈ l → l.countP p < l.countP q
  | [], h => by simp at h
  | y :: r, h => by
    have hle : r.countP p ≤ r.countP q := List.countP_mono_left (fun i _ => hpq i)
    rw [List.countP_cons, List.countP_cons]
    rcases List.mem_cons.1 h with e | h
    · subst e
      rw [hx, hn]; simp; omega
    · have := countP_lt hpq x hx hn r h
      have h2 : (if p y = true then 1 else 0) ≤ (if q y = true then 1 else 0 : Nat) := by
        by_cases e : p y = true
        · rw [if_pos e, if_pos (hpq y e)]; exact Nat.le_refl _
        · rw [if_neg e]; omega
      omega

/-- A system that calls made leads nowhere back. -/
theorem Rel.tree {S : Sg} {F : Fs} (R : Rel S F) (H : FOk F) : Tree S := by
  obtain ⟨rk, hr⟩ := H.tree
  refine ⟨fun i => (List.range 17).countP (fun j => decide (rk j < rk i)), ?_, fun i s hi hn => ?_⟩
  · have h1 := countP_lt (p := fun j => decide (rk j < rk 1)) (q := fun _ => true) (fun _ _ => rfl) 1 rfl (by simp) (List.range 17) (by simp)
    have h2 := List.countP_le_length (p := fun _ => true) (l := List.range 17)
    simp only [List.length_range] at h2
    exact Nat.le_of_lt_succ (Nat.lt_of_lt_of_le h1 h2)
  · rw [R.N i hi] at hn ⊢
    have hm := lk_mem hn
    have h1 := hr i _ hm
    obtain ⟨_, h17, _⟩ := H.nm i _ hm
    dsimp only at h1 h17
    exact countP_lt (fun j hj => by simp at hj ⊢; omega) _ (by simpa using h1) (by simp) _ (by simpa using h17)

/-- Where a name is taken out, or put in; where a count turns. -/
theorem Rel.drop {S : Sg} {F : Fs} (R : Rel S F) (H : FOk F) (dr : Nat) (s : List UInt8) (hs : lk (F.P dr).Q s ≠ 0) : Rel (S.drop dr s) (F.deln dr s) := by
  refine ⟨R.d, R.T, fun i hi => ?_, fun i hi => ?_, fun i hi x => ?_⟩
  · have := R.P i hi
    rw [Fs.deln_P]
    exact ⟨this.k, this.l, this.h, this.s, this.b, this.z, this.B⟩
  · show (if i = dr then S.L dr - 1 else S.L i) = _
    rw [deln_Q]
    split
    · rename_i e; subst e
      have := len_del (H.srt i) hs
      rw [R.L i hi]; omega
    · exact R.L i hi
  · show (if i = dr then (fun x => if x = s then 0 else S.N dr x) else S.N i) x = _
    rw [deln_Q]
    split
    · rename_i e; subst e
      dsimp only
      rw [lk_del, R.N i hi]
    · exact R.N i hi x
theorem Rel.put {S : Sg} {F : Fs} (R : Rel S F) (H : FOk F) (dr : Nat) (s : List UInt8) (n : Nat) (hs : lk (F.P dr).Q s = 0) : Rel (S.put dr s n) (F.addn dr s n) := by
  refine ⟨R.d, R.T, fun i hi => ?_, fun i hi => ?_, fun i hi x => ?_⟩
  · have := R.P i hi
    rw [Fs.addn_P]
    exact ⟨this.k, this.l, this.h, this.s, this.b, this.z, this.B⟩
  · show (if i = dr then S.L dr + 1 else S.L i) = _
    rw [Fs.addn_P]
    dsimp only
    split
    · rename_i e; subst e
      rw [len_ins, R.L i hi]
    · exact R.L i hi
  · show (if i = dr then (fun x => if x = s then n else S.N dr x) else S.N i) x = _
    rw [Fs.addn_P]
    dsimp only
    split
    · rename_i e; subst e
      dsimp only
      rw [lk_ins (H.nk i hs), R.N i hi]
    · exact R.N i hi x
theorem Rel.at_ {S : Sg} {F : Fs} (R : Rel S F) (i : Nat) (x : Nd) (y : Fn) (h : NdR x y) (hQ : y.Q = (F.P i).Q) : Rel (S.at_ i x) (F.at_ i y) := by
  refine ⟨R.d, R.T, fun j hj => ?_, fun j hj => ?_, fun j hj s => ?_⟩
  · show NdR (updN S.P i x j) _
    rw [Fs.at_P]
    by_cases e : j = i
    · subst e; rw [updN_same, if_pos rfl]; exact h
    · rw [updN_ne _ _ _ _ e, if_neg e]; exact R.P j hj
  · rw [Fs.at_f Fn.Q F i y hQ]; exact R.L j hj
  · rw [Fs.at_f Fn.Q F i y hQ]; exact R.N j hj s
theorem Rel.link {S : Sg} {F : Fs} (R : Rel S F) (i : Nat) (hi : i < 17) (l : Int) : Rel (S.at_ i ((S.P i).link l)) (F.lnk i l) := by
  have := R.P i hi
  exact R.at_ i _ _ ⟨this.k, rfl, this.h, this.s, this.b, this.z, this.B⟩ rfl
theorem Rel.hold {S : Sg} {F : Fs} (R : Rel S F) (i : Nat) (hi : i < 17) (l : Int) : Rel (S.at_ i ((S.P i).hold l)) (F.hld i l) := by
  have := R.P i hi
  exact R.at_ i _ _ ⟨this.k, this.l, rfl, this.s, this.b, this.z, this.B⟩ rfl
theorem Rel.gone {S : Sg} {F : Fs} (R : Rel S F) (i : Nat) (hQ : (F.P i).Q = []) (bs : List Nat) : Rel ((S.tk (relT S.d bs S.T)).gone i) ((F.relB bs).at_ i Fn.no) := by
  refine ⟨by show S.d = (F.relB bs).d; rw [relB_d]; exact R.d, ?_, fun j hj => ?_, fun j hj => ?_, fun j hj s => ?_⟩
  · show relT S.d bs S.T = (F.relB bs).T
    unfold relT Fs.relB
    rw [R.d, R.T]
    split <;> rfl
  · show NdR (updN S.P i noNd j) _
    rw [Fs.at_P, relB_P]
    by_cases e : j = i
    · subst e; rw [updN_same, if_pos rfl]; exact NdR.no
    · rw [updN_ne _ _ _ _ e, if_neg e]; exact R.P j hj
  · show (if j = i then 0 else S.L j) = _
    rw [Fs.at_P, relB_P]
    split
    · rfl
    · exact R.L j hj
  · show (if j = i then (fun _ => 0) else S.N j) s = _
    rw [Fs.at_P, relB_P]
    split
    · rfl
    · exact R.N j hj s

/-- The program's system, in blocks G at most. -/
def Pf (w : World) (p : Nat) (F : Fs) (G : Nat → Prop) : Prop := ∃ S, Sy w p S ∧ Rel S F ∧ ∀ x, S.foot p x → G x
theorem Pf.mono {w : World} {p : Nat} {F : Fs} {G G' : Nat → Prop} (h : Pf w p F G) (k : ∀ x, x < w.heap.size → G x → G' x) : Pf w p F G' := by
  obtain ⟨S, h1, h2, h3⟩ := h
  exact ⟨S, h1, h2, fun x hx => k x (h1.foot_lt x hx) (h3 x hx)⟩
theorem Pf.upd {w w' : World} {p : Nat} {F : Fs} {G U : Nat → Prop} (h : Pf w p F G) (u : Upd U w w') (k : ∀ x, x < w.heap.size → G x → ¬ U x) : Pf w' p F G := by
  obtain ⟨S, h1, h2, h3⟩ := h
  exact ⟨S, h1.upd u (fun x hx => k x (h1.foot_lt x hx) (h3 x hx)), h2, h3⟩
theorem Pf.grow {w w' : World} {p : Nat} {F : Fs} {G : Nat → Prop} (h : Pf w p F G) (u : Below w.heap.size w w') : Pf w' p F G := by
  obtain ⟨S, h1, h2, h3⟩ := h
  exact ⟨S, h1.grow u, h2, h3⟩
theorem Pf.hp {w w' : World} {p : Nat} {F : Fs} {G : Nat → Prop} (h : Pf w p F G) (e : w'.heap = w.heap) : Pf w' p F G := by
  obtain ⟨S, h1, h2, h3⟩ := h
  exact ⟨S, h1.hp e, h2, h3⟩
theorem Pf.lt {w : World} {p : Nat} {F : Fs} {G : Nat → Prop} (h : Pf w p F G) : p < w.heap.size := by
  obtain ⟨S, h1, h2, h3⟩ := h
  exact h1.lt
/-- What a call leaves. -/
def PfTo (w : World) (p : Nat) (F : Fs) (G : Nat → Prop) (w' : World) : Prop := Pf w' p F (fun x => G x ∨ w.heap.size ≤ x) ∧ Upd G w w'
theorem PfTo.same {w w' : World} {p : Nat} {F : Fs} {G : Nat → Prop} (h : Pf w p F G) (u : Below w.heap.size w w') : PfTo w p F G w' := ⟨(h.grow u).mono (fun _ _ h => .inl h), Upd.of_below u⟩
theorem PfTo.of {w w' : World} {p : Nat} {S S0 : Sg} {F : Fs} {G : Nat → Prop} (h0 : ∀ x, S0.foot p x → G x) (h : Sy w' p S) (r : Rel S F) (hf : ∀ x, S.foot p x → S0.foot p x ∨ w.heap.size ≤ x) (u : Upd (S0.foot p) w w') : PfTo w p F G w' :=
  ⟨⟨S, h, r, fun x hx => (hf x hx).elim (fun q => .inl (h0 x q)) .inr⟩, u.mono (fun x _ hx => h0 x hx)⟩

end Go.Proofs.YtoknhcjneliboaaGreat

/- The program's open files as they lie: one block of 57 cells (the file system, the pipes, 11 files of five cells). -/
namespace Go.Proofs.YtoknhcjneliboaaGreat
open Go.RowKit Go.ChangeMaps Go.MapKept
set_option linter.unusedVariables false
set_option maxRecDepth 20000

/-- An open file: its kind, of what, its offset, flags, who holds it. -/
structure Fl where
  k : Int
  of : Int
  off : Int
  fl : Int
  h : Int
def noFl : Fl := ⟨0, 0, 0, 0, 0⟩
def flC (x : Fl) : List Value := [.int .i64 x.k, .int .i64 x.of, .int .i64 x.off, .int .i64 x.fl, .int .i64 x.h]

structure Fls (C : List Value) (p q : Nat) (F : Nat → Fl) : Prop where
  len : C.length = 57
  sy : C[0]? = some (.pointer (some ⟨p, 0, none⟩))
  pi : C[1]? = some (.pointer (some ⟨q, 0, none⟩))
  at_ : ∀ i, i < 11 → ∀ j, j < 5 → C[2 + i * 5 + j]? = (flC (F i))[j]?

def Tf (w : World) (t p q : Nat) (F : Nat → Fl) : Prop := ∃ C, w.heap[t]? = some (.cells (List.toArray C) 61 (0, 0)) ∧ Fls C p q F

theorem Tf.lt {w : World} {t p q : Nat} {F : Nat → Fl} (h : Tf w t p q F) : t < w.heap.size := by
  obtain ⟨C, h, _⟩ := h; exact (Array.getElem?_eq_some_iff.1 h).1
theorem Tf.upd {G : Nat → Prop} {w w' : World} {t p q : Nat} {F : Nat → Fl} (h : Tf w t p q F) (u : Upd G w w') (hG : ¬ G t) : Tf w' t p q F := by
  obtain ⟨C, h, hc⟩ := h; exact ⟨C, u.heap h hG, hc⟩
theorem Tf.grow {w w' : World} {t p q : Nat} {F : Nat → Fl} (h : Tf w t p q F) (u : Below w.heap.size w w') : Tf w' t p q F := h.upd (Upd.of_below (F := fun _ => False) u) (fun h => h)
theorem Tf.s {w : World} {t p q : Nat} {F : Nat → Fl} (h : Tf w t p q F) : w.cell? ⟨t, 0, none⟩ = some (.pointer (some ⟨p, 0, none⟩)) := by
  obtain ⟨C, h, hc⟩ := h; exact cell_list h hc.sy
theorem Tf.p {w : World} {t p q : Nat} {F : Nat → Fl} (h : Tf w t p q F) : w.cell? ⟨t, 1, none⟩ = some (.pointer (some ⟨q, 0, none⟩)) := by
  obtain ⟨C, h, hc⟩ := h; exact cell_list h hc.pi
theorem Tf.c0 {w : World} {t p q : Nat} {F : Nat → Fl} (h : Tf w t p q F) (i : Nat) (hi : i < 11) : w.cell? ⟨t, 2 + i * 5, none⟩ = some (.int .i64 (F i).k) := by
  obtain ⟨C, h, hc⟩ := h; exact cell_list h (hc.at_ i hi 0 (by omega))
theorem Tf.c1 {w : World} {t p q : Nat} {F : Nat → Fl} (h : Tf w t p q F) (i : Nat) (hi : i < 11) : w.cell? ⟨t, 2 + i * 5 + 1, none⟩ = some (.int .i64 (F i).of) := by
  obtain ⟨C, h, hc⟩ := h; exact cell_list h (hc.at_ i hi 1 (by omega))
theorem Tf.c2 {w : World} {t p q : Nat} {F : Nat → Fl} (h : Tf w t p q F) (i : Nat) (hi : i < 11) : w.cell? ⟨t, 2 + i * 5 + 2, none⟩ = some (.int .i64 (F i).off) := by
  obtain ⟨C, h, hc⟩ := h; exact cell_list h (hc.at_ i hi 2 (by omega))
theorem Tf.c3 {w : World} {t p q : Nat} {F : Nat → Fl} (h : Tf w t p q F) (i : Nat) (hi : i < 11) : w.cell? ⟨t, 2 + i * 5 + 3, none⟩ = some (.int .i64 (F i).fl) := by
  obtain ⟨C, h, hc⟩ := h; exact cell_list h (hc.at_ i hi 3 (by omega))
theorem Tf.c4 {w : World} {t p q : Nat} {F : Nat → Fl} (h : Tf w t p q F) (i : Nat) (hi : i < 11) : w.cell? ⟨t, 2 + i * 5 + 4, none⟩ = some (.int .i64 (F i).h) := by
  obtain ⟨C, h, hc⟩ := h; exact cell_list h (hc.at_ i hi 4 (by omega))
theorem Tf.fz {w : World} {t p q : Nat} {F : Nat → Fl} (h : Tf w t p q F) (j : Nat) : w.frozen? ⟨t, j, none⟩ = false := by
  obtain ⟨C, h, hc⟩ := h; simp [World.frozen?, h]
theorem Tf.th {w : World} {t p q : Nat} {F : Nat → Fl} (h : Tf w t p q F) (i : Nat) (hi : i < 11) : w.there t (2 + i * 5) 5 := by
  obtain ⟨C, h, hc⟩ := h; exact there_of_block h _ _ (by rw [hc.len]; omega)

def updF (F : Nat → Fl) (i : Nat) (x : Fl) : Nat → Fl := fun j => if j = i then x else F j
theorem updF_same (F : Nat → Fl) (i : Nat) (x : Fl) : updF F i x i = x := by simp [updF]
theorem updF_ne (F : Nat → Fl) (i j : Nat) (x : Fl) (h : j ≠ i) : updF F i x j = F j := by simp [updF, h]

theorem Fls.put {C C' : List Value} {p q : Nat} {F : Nat → Fl} (h : Fls C p q F) (i : Nat) (hi : i < 11) (x : Fl) (hl : C'.length = 57)
    (out : ∀ j, j < 2 + i * 5 ∨ 2 + i * 5 + 5 ≤ j → C'[j]? = C[j]?) (inn : ∀ j, j < 5 → C'[2 + i * 5 + j]? = (flC x)[j]?) : Fls C' p q (updF F i x) := by
  refine ⟨hl, by rw [out 0 (by omega)]; exact h.sy, by rw [out 1 (by omega)]; exact h.pi, ?_⟩
  intro k hk j hj
  by_cases e : k = i
  · subst e; rw [updF_same]; exact inn j hj
  · rw [updF_ne _ _ _ _ e, out _ (by omega)]; exact h.at_ k hk j hj
theorem Tf.put {w : World} {t p q : Nat} {F : Nat → Fl} (h : Tf w t p q F) (i : Nat) (hi : i < 11) (x : Fl) : Tf (w.setCells t (2 + i * 5) (flC x)) t p q (updF F i x) := by
  obtain ⟨C, hb, hc⟩ := h
  have hl := hc.len
  have hs : 2 + i * 5 + (flC x).length ≤ C.length := by rw [hl]; simp [flC]; omega
  exact ⟨_, heap_setCells t 61 (flC x) _ w C hb hs, hc.put i hi x (by rw [length_splice _ _ _ hs, hl]) (fun j hj => getElem?_splice_out _ _ _ _ hs (by simpa [flC] using hj)) (fun j hj => getElem?_splice_in C (flC x) (2 + i * 5) j hs hj)⟩
theorem Tf.offTo {w : World} {t p q : Nat} {F : Nat → Fl} (h : Tf w t p q F) (i : Nat) (hi : i < 11) (v : Int) : Tf (w.setCell ⟨t, 2 + i * 5 + 2, none⟩ (.int .i64 v)) t p q (updF F i { F i with off := v }) := by
  obtain ⟨C, hb, hc⟩ := h
  have hl := hc.len
  refine ⟨C.set (2 + i * 5 + 2) (.int .i64 v), by rw [heap_setCell_same w t _ C.toArray _ _ hb]; simp, hc.put i hi _ (by simp [hl]) (fun j hj => by rw [List.getElem?_set_ne (by omega)]) (fun j hj => ?_)⟩
  by_cases e : j = 2
  · subst e; rw [List.getElem?_set_self (by omega)]; rfl
  · rw [List.getElem?_set_ne (by omega), hc.at_ i hi j hj]
    obtain rfl | rfl | rfl | rfl : j = 0 ∨ j = 1 ∨ j = 3 ∨ j = 4 := by omega
    all_goals rfl

theorem Tf.heldTo {w : World} {t p q : Nat} {F : Nat → Fl} (h : Tf w t p q F) (i : Nat) (hi : i < 11) (v : Int) : Tf (w.setCell ⟨t, 2 + i * 5 + 4, none⟩ (.int .i64 v)) t p q (updF F i { F i with h := v }) := by
  obtain ⟨C, hb, hc⟩ := h
  have hl := hc.len
  refine ⟨C.set (2 + i * 5 + 4) (.int .i64 v), by rw [heap_setCell_same w t _ C.toArray _ _ hb]; simp, hc.put i hi _ (by simp [hl]) (fun j hj => by rw [List.getElem?_set_ne (by omega)]) (fun j hj => ?_)⟩
  by_cases e : j = 4
  · subst e; rw [List.getElem?_set_self (by omega)]; rfl
  · rw [List.getElem?_set_ne (by omega), hc.at_ i hi j hj]
    obtain rfl | rfl | rfl | rfl : j = 0 ∨ j = 1 ∨ j = 2 ∨ j = 3 := by omega
    all_goals rfl

/-- The numbers from 1 up to one that no open file has. -/
def ofL (F : Nat → Fl) : Nat → List Nat
  | 0 => []
  | n + 1 => ofL F n ++ if 1 ≤ n ∧ (F n).h = 0 then [n] else []
theorem ofL_le (F : Nat → Fl) : ∀ n, (ofL F n).length ≤ n
  | 0 => Nat.le_refl _
  | n + 1 => by
    have := ofL_le F n
    unfold ofL
    split <;> simp <;> omega

end Go.Proofs.YtoknhcjneliboaaGreat

/- Open files without memory: what each call of them comes to. -/
namespace Go.Proofs.YtoknhcjneliboaaGreat
set_option linter.unusedVariables false

/-- Whether flags have other bits than the six. -/
def dfcN (g : Int) : Bool := decide (bits .andNot .i64 g 63 ≠ 0)

/-- A file system, pipes, open files by their numbers. -/
structure Ft where
  F : Fs
  P : Nat → Pi.Pp
  O : Nat → Fl

namespace Ft
/-- A pipe's writer that is closed is not counted off. -/
def kp (T : Ft) : Bool := Pi.bit8 T.F.d
def there (T : Ft) (n : Int) : Bool := decide (1 ≤ n ∧ n ≤ 10 ∧ (T.O n.toNat).h ≠ 0)
def has (T : Ft) (n : Int) (b : Int) : Bool := T.there n && dfc (T.O n.toNat).fl b
def at_ (T : Ft) (n : Nat) (x : Fl) : Ft := { T with O := updF T.O n x }

/-- The node that is opened. -/
def node (F : Fs) (l : List UInt8) (g : Int) : Fs × Nat × Int :=
  if dfc g 8 = false then (F, F.find l) else if (F.find l).2 = 2 then F.make l 1 else if (F.find l).2 = 0 ∧ dfc g 16 = true then (F, 0, 17) else (F, F.find l)
/-- What becomes of it, ahead of its being held. -/
def cutF (F : Fs) (n : Nat) (g : Int) : Fs × Int :=
  if dfc g 2 = false then (F, 0) else if (F.P n).k = 2 then (F, 21) else if dfc g 32 = false then (F, 0) else F.resize n 0
def openN (T : Ft) (l : List UInt8) (g : Int) : Fs × Nat × Int :=
  if (node T.F l g).2.2 ≠ 0 then node T.F l g else
  if (cutF (node T.F l g).1 (node T.F l g).2.1 g).2 ≠ 0 then ((cutF (node T.F l g).1 (node T.F l g).2.1 g).1, 0, (cutF (node T.F l g).1 (node T.F l g).2.1 g).2) else
  (((cutF (node T.F l g).1 (node T.F l g).2.1 g).1.hold (node T.F l g).2.1).1, (node T.F l g).2.1, ((cutF (node T.F l g).1 (node T.F l g).2.1 g).1.hold (node T.F l g).2.1).2)
/-- Whether flags can be. -/
def flagsOk (g : Int) : Bool := !dfcN g && dfc g 3
def open_ (T : Ft) (l : List UInt8) (g : Int) : Ft × Nat × Int :=
  if flagsOk g = false then (T, 0, 22) else if ofL T.O 11 = [] then (T, 0, 23) else
  if (T.openN l g).2.2 ≠ 0 then ({ T with F := (T.openN l g).1 }, 0, (T.openN l g).2.2) else
  ({ T with F := (T.openN l g).1, O := updF T.O ((ofL T.O 11).headD 0) ⟨1, (T.openN l g).2.1, 0, g, 1⟩ }, (ofL T.O 11).headD 0, 0)

def pipe (T : Ft) : Ft × Nat × Nat × Int := match ofL T.O 11 with
  | a :: b :: _ => if Pi.makeE T.P ≠ 0 then (T, 0, 0, Pi.makeE T.P) else
    ({ T with P := Pi.makeP T.P, O := updF (updF T.O a ⟨2, Pi.lowest T.P, 0, 1, 1⟩) b ⟨3, Pi.lowest T.P, 0, 2, 1⟩ }, a, b, 0)
  | _ => (T, 0, 0, 23)

def read (T : Ft) (n c : Int) : Ft × List Int × Bool × Int :=
  if T.has n 1 = false then (T, [], false, 9) else
  if (T.O n.toNat).k ≠ 1 then ({ T with P := Pi.readP T.P (T.O n.toNat).of c }, Pi.readL T.P (T.O n.toNat).of c, Pi.readW T.P (T.O n.toNat).of c, Pi.readE T.P (T.O n.toNat).of c) else
  (T.at_ n.toNat { T.O n.toNat with off := (T.O n.toNat).off + ((T.F.read (T.O n.toNat).of (T.O n.toNat).off c).1.length : Int) }, (T.F.read (T.O n.toNat).of (T.O n.toNat).off c).1, false, (T.F.read (T.O n.toNat).of (T.O n.toNat).off c).2)

/-- Where a write begins. -/
def from_ (T : Ft) (x : Fl) : Int := if dfc x.fl 4 = true then (T.F.size x.of.toNat : Int) else x.off
def write (T : Ft) (n : Int) (b : List Int) : Ft × Int × Bool × Int :=
  if T.has n 2 = false then (T, 0, false, 9) else
  if (T.O n.toNat).k ≠ 1 then ({ T with P := Pi.writeP T.P (T.O n.toNat).of b }, (Pi.writeN T.P (T.O n.toNat).of b.length : Int), Pi.writeW T.P (T.O n.toNat).of b.length, Pi.writeE T.P (T.O n.toNat).of) else
  if (T.F.write (T.O n.toNat).of (T.from_ (T.O n.toNat)) b).2.2 ≠ 0 then (T, 0, false, (T.F.write (T.O n.toNat).of (T.from_ (T.O n.toNat)) b).2.2) else
  ({ T with F := (T.F.write (T.O n.toNat).of (T.from_ (T.O n.toNat)) b).1, O := updF T.O n.toNat { T.O n.toNat with off := T.from_ (T.O n.toNat) + (T.F.write (T.O n.toNat).of (T.from_ (T.O n.toNat)) b).2.1 } }, (T.F.write (T.O n.toNat).of (T.from_ (T.O n.toNat)) b).2.1, false, 0)

def base (T : Ft) (x : Fl) (wh : Int) : Int := if wh = 1 then x.off else if wh = 2 then (T.F.size x.of.toNat : Int) else 0
def seek (T : Ft) (n off wh : Int) : Ft × Int × Int :=
  if T.there n = false then (T, 0, 9) else if (T.O n.toNat).k ≠ 1 then (T, 0, 29) else
  if wh < 0 ∨ 2 < wh ∨ off < -1048576 ∨ 1048576 < off ∨ T.base (T.O n.toNat) wh + off < 0 ∨ 1048576 < T.base (T.O n.toNat) wh + off then (T, 0, 22) else
  (T.at_ n.toNat { T.O n.toNat with off := T.base (T.O n.toNat) wh + off }, T.base (T.O n.toNat) wh + off, 0)

def hold (T : Ft) (n : Int) : Ft × Int :=
  if T.there n = false then (T, 9) else if 1000 ≤ (T.O n.toNat).h then (T, 11) else (T.at_ n.toNat { T.O n.toNat with h := (T.O n.toNat).h + 1 }, 0)
def drop (T : Ft) (n : Int) : Ft × Int :=
  if T.there n = false then (T, 9) else if 1 < (T.O n.toNat).h then (T.at_ n.toNat { T.O n.toNat with h := (T.O n.toNat).h - 1 }, 0) else
  if (T.O n.toNat).k = 1 then ({ T with F := (T.F.drop (T.O n.toNat).of).1, O := updF T.O n.toNat noFl }, 0) else
  ({ T with P := Pi.dropP T.kp T.P (T.O n.toNat).of (decide ((T.O n.toNat).k = 3)), O := updF T.O n.toNat noFl }, 0)

def nameF (F : Fs) (call : Int) (l m : List UInt8) : Fs × Int :=
  if call = 7 then F.unlink l else if call = 8 then ((F.make l 2).1, (F.make l 2).2.2) else if call = 9 then F.rmdir l else if call = 10 then F.link l m else if call = 11 then F.rename l m else (F, 22)
def name (T : Ft) (call : Int) (l m : List UInt8) : Ft × Int := ({ T with F := (nameF T.F call l m).1 }, (nameF T.F call l m).2)
def stat (T : Ft) (l : List UInt8) : Int × Int × Int × Int := if (T.F.find l).2 ≠ 0 then (0, 0, 0, (T.F.find l).2) else T.F.stat (T.F.find l).1
def trunc (T : Ft) (l : List UInt8) (z : Int) : Ft × Int := if (T.F.find l).2 ≠ 0 then (T, (T.F.find l).2) else ({ T with F := (T.F.resize (T.F.find l).1 z).1 }, (T.F.resize (T.F.find l).1 z).2)
end Ft

/-- No open files. -/
def newT (d : Int) : Ft := ⟨rootF d, Pi.noPipes, fun _ => noFl⟩

/-- How many open files of a kind are of a number. -/
def cF (O : Nat → Fl) (k : Int) (n : Nat) : Nat := (List.range 11).countP (fun i => decide ((O i).h ≠ 0 ∧ (O i).k = k ∧ (O i).of = (n : Int)))

/-- What is true of open files that calls have made. -/
structure TOk (T : Ft) : Prop where
  F : FOk T.F
  out : ∀ i, i = 0 ∨ 11 ≤ i → T.O i = noFl
  nn : ∀ i, (T.O i).h = 0 → T.O i = noFl
  h : ∀ i, 0 ≤ (T.O i).h ∧ (T.O i).h ≤ 1000
  k : ∀ i, (T.O i).h ≠ 0 → (T.O i).k = 1 ∨ (T.O i).k = 2 ∨ (T.O i).k = 3
  off : ∀ i, 0 ≤ (T.O i).off ∧ (T.O i).off ≤ 1048576
  of : ∀ i, ∃ m : Nat, (T.O i).of = (m : Int)
  hc : ∀ n : Nat, (T.F.P n).h = (cF T.O 1 n : Int)
  r : ∀ n, (T.P n).r = cF T.O 2 n
  w : ∀ n, cF T.O 3 n ≤ (T.P n).w
  ws : T.kp = false → ∀ n, (T.P n).w = cF T.O 3 n
  pq : ∀ n, (T.P n).q.length ≤ 8 ∧ (T.P n).w ≤ 1 ∧ Pi.clr (T.P n) = T.P n
  po : ∀ n, n = 0 ∨ 5 ≤ n → T.P n = ⟨0, 0, []⟩

end Go.Proofs.YtoknhcjneliboaaGreat
