/- Texts of this seat, merged. -/
import Derived.Test.YtliekndkjjaldaaGreatNMg5
import Derived.Test.YtliekndkjjaldaaGreatNMg7
import Derived.Test.YtliekndkjjaldaaGreatNMg2

/- What takeName does: a directory's name names nothing more. -/
namespace Go.Proofs.YtliekndkjjaldaaGreat
open Go.RowKit Go.ChangeMaps Go.MapKept
set_option linter.unusedVariables false
set_option maxRecDepth 20000

/-- A name less. -/
def Sg.drop (S : Sg) (d : Nat) (s : List UInt8) : Sg := { S with L := fun i => if i = d then S.L d - 1 else S.L i, N := fun i => if i = d then (fun x => if x = s then 0 else S.N d x) else S.N i }

theorem owns_exact {w : World} {b n : Nat} {D : DataW Unit} (h : w.ownsMap Tryz.prog 9 (plainElem Tryz.prog 3) b n D) : w.ownsMap Tryz.prog 9 (plainElem Tryz.prog 3) b (Maps.size D) D := by
  obtain ⟨es, clock, hb, F, hn, rfl⟩ := h
  refine ⟨es, clock, hb, F, ?_, rfl⟩
  show es.size ≤ ((es.toList.map _).foldr DataW.insert []).length
  rw [length_read]
  exact Nat.le_refl _

theorem Sy.drop {w w' : World} {p : Nat} {S : Sg} (h : Sy w p S) (d : Nat) (hd : d < 17) (b : Nat) (hb : (S.P d).m = some b) (s : List UInt8) (hs : S.N d s ≠ 0) (D : DataW Unit)
    (h1 : w.ownsMap Tryz.prog 9 (plainElem Tryz.prog 3) b (S.L d) D) (h2 : Maps.size D = S.L d) (h3 : ∀ s, D.atKey (.string s) (.lit (.int .i64 0)) = .lit (.int .i64 (S.N d s : Int))) (h4 : ∀ s, Maps.has D (.string s) = decide (S.N d s ≠ 0))
    (h5 : w'.ownsMap Tryz.prog 9 (plainElem Tryz.prog 3) b (S.L d) (D.del (.string s))) (u : Upd (· = b) w w') : Sy w' p (S.drop d s) := by
  have hbp : b ≠ p := fun e => h.np d hd (e ▸ hb)
  have hT : Maps.Tidy D := h1.tidy (Go.Maps.string_keyed Tryz.underlying9)
  have hM : Maps.IsMap D := hT.isMap
  have hz : Maps.size (D.del (.string s)) = S.L d - 1 := by
    have := Maps.size_del (k := .string s) hT
    rw [h4, h2] at this
    simp [hs] at this
    omega
  obtain ⟨C, hC, hSl⟩ := h.blk
  refine ⟨⟨C, u.heap hC (fun e => hbp e.symm), hSl⟩, fun i hi => ?_, fun i x hi => ?_, fun i hi => ?_, h.ap, h.np, h.dir, h.root, h.zero⟩
  · by_cases e : i = d
    · subst e
      show Nms w' (S.P i).m _ _
      rw [hb]
      simp only [Sg.drop, if_true]
      refine ⟨_, hz ▸ owns_exact h5, hz, fun x => ?_, fun x => ?_⟩
      · by_cases ex : x = s
        · subst ex; rw [Maps.atKey_del_same]; simp
        · rw [Maps.atKey_del_other (by intro q; injection q with q; exact ex q), h3]; simp [ex]
      · by_cases ex : x = s
        · subst ex; rw [Maps.has_del_same]; simp
        · rw [Maps.has_del_other (by intro q; injection q with q; exact ex q), h4]; simp [ex]
    · show Nms w' (S.P i).m (if i = d then _ else S.L i) (if i = d then _ else S.N i)
      rw [if_neg e, if_neg e]
      refine (h.nms i hi).block (fun c hc => u.block c (h.foot_lt c (.inr ⟨i, hi, hc⟩)) (fun q => e ?_))
      exact h.ap i d c hi hd hc (q ▸ hb)
  · show (if i = d then (fun x => if x = s then 0 else S.N d x) else S.N i) x < 17
    split
    · dsimp only
      split
      · omega
      · exact h.to d x hd
    · exact h.to i x hi
  · show (if i = d then S.L d - 1 else S.L i) ≤ 6
    split
    · have := h.le d hd; omega
    · exact h.le i hi

theorem upd_turned {w w' : World} {b : Nat} (h : w.mapTurned w' b) : Upd (· = b) w w' := by
  obtain ⟨es, clock, es', clock', hb, rfl⟩ := h
  refine ⟨rfl, rfl, rfl, by simp [setBlock], fun k hk hn => ?_⟩
  simp only [setBlock]
  rw [Array.getElem?_setIfInBounds_ne (fun e => hn e.symm)]

set_option maxHeartbeats 4000000 in
theorem tkname_any (p : Nat) (S : Sg) (w : World) (H : Sy w p S) (gy ny cy d : Nat) (nm : ByteArray) (m : Int) (hny : 0 < ny) (hcy : w.cell? ⟨gy, ny - 1, none⟩ = some (.int .i64 (d : Int))) (hgy : gy < w.heap.size) (hyc : ny ≤ cy) (hcm : cy ≤ 9223372036854775807)
    (hd : d < 17) (hk : (S.P d).k = 2) (hs : S.N d (bl nm) ≠ 0) (hsz : nm.size ≤ 140737488355328) :
    Calls Tryz.prog 64 #[.pointer (some ⟨p, 0, none⟩), .agg #[.slice (some ⟨gy, 0, none⟩) ny cy, .string nm, .int .i64 m]] w fun e w' => e = .returned (.tuple #[]) ∧ Sy w' p (S.drop d (bl nm)) ∧ Upd (fun x => (S.P d).m = some x) w w' := by
  obtain ⟨b, hb⟩ := Option.isSome_iff_exists.1 (H.dir d hd hk)
  obtain ⟨W1, g1⟩ : ∃ W1, W1 = w.alloc (Obj.cells #[.slice (some ⟨gy, 0, none⟩) ny cy, .string nm, .int .i64 m] 91) := ⟨_, rfl⟩
  have hB1 : Below w.heap.size w W1 := by rw [g1]; exact one_new _ _
  have hZ1 : w.heap.size < W1.heap.size := by rw [g1]; simp
  have hS1 : Sy W1 p S := H.grow hB1
  have hP1 : W1.heap[w.heap.size]? = some (.cells #[.slice (some ⟨gy, 0, none⟩) ny cy, .string nm, .int .i64 m] 91 (0, 0)) := by rw [g1]; exact heap_alloc_new _ _
  obtain ⟨a0, a1, a2, _, _, _⟩ := plc_cells hP1
  have kd : Hid (Calls Tryz.prog 104 #[.agg #[.slice (some ⟨gy, 0, none⟩) ny cy, .string nm, .int .i64 m]] W1.drew fun e w' => e = .returned (.int .i64 (d : Int)) ∧ Hid (Below W1.heap.size W1 w')) := by
    refine hid ((dir_any W1.drew gy ny cy d nm m hny ((hB1.cell (p := ⟨gy, ny - 1, none⟩) hgy).trans hcy) (Nat.lt_of_lt_of_le hgy hB1.size) hyc hcm).mono ?_)
    rintro e w' ⟨rfl, h⟩
    exact ⟨rfl, hid ((Below.refl _ W1).drew.trans h)⟩
  have ku : Hid (∀ W ty, Hid (Below W1.heap.size W1 W) → ∃ W', (Builtin.delete_ #[52, 9] ty #[.map (some b), .string nm]).run Tryz.prog W = .ok (.tuple #[]) W' ∧ Hid (Sy W' p (S.drop d (bl nm)) ∧ Upd (fun x => (S.P d).m = some x) w W' ∧ (∀ a : Addr, a.block < W.heap.size → a.block ≠ b → W'.cell? a = W.cell? a))) := by
    refine hid (fun W ty hW => ?_)
    have hS := hS1.grow hW.out
    have hnm := hS.nms d hd
    rw [hb] at hnm
    obtain ⟨D, h1, h2, h3, h4⟩ := hnm
    have hkey : keyOf Tryz.prog 9 (.string nm) = some (.string nm.data.toList) := Go.WideMaps.keyOf_string_mk Tryz.underlying9 (by simp only [maxLen]; omega)
    obtain ⟨W', hr, h5, h6⟩ := h1.drop (t := 52) (Go.Maps.string_keyed Tryz.underlying9) Tryz.underlying52 hkey ty
    have u : Upd (· = b) W W' := upd_turned h6
    refine ⟨W', hr, hid ⟨hS.drop d hd b hb (bl nm) hs D h1 h2 h3 h4 h5 u, ?_, fun a ha hab => World.cell?_of_block (u.block a.block ha hab)⟩⟩
    have ub : Upd (fun x => (S.P d).m = some x) w W := Upd.of_below (hB1.trans (hW.out.mono hB1.size))
    exact ub.trans u (fun x _ hx => by subst hx; exact hb)
  have hm : ∀ W, Hid (Below W1.heap.size W1 W) → W.cell? ⟨p, 1 + d * 107 + 106, none⟩ = some (.map (some b)) := fun W hW => by
    rw [← hb]; exact (hS1.grow hW.out).m d hd
  have hd0 : (0 : Int) ≤ (d : Int) := by omega
  have hd1 : (d : Int) < 17 := by omega
  have HM := hid hm
  have HX : Hid ((∀ W, Hid (Below W1.heap.size W1 W) → w.heap.size < W.heap.size ∧ p < W.heap.size) ∧ w.heap.size ≠ b ∧ p ≠ b) := by
    refine hid ⟨fun W hW => ⟨Nat.lt_of_lt_of_le hZ1 hW.out.size, (hS1.grow hW.out).lt⟩, fun e => ?_, fun e => H.np d hd (e ▸ hb)⟩
    have := H.foot_lt b (.inr ⟨d, hd, hb⟩)
    omega
  have HZ1 := hid hZ1
  have hm0 := hm W1 (hid (Below.refl _ _))
  clear H hb hS1 hP1 hcy hgy hs hB1 hk hm
  go_enter Tryz.func64, Tryz.ntmps64
  go_wp2_with fail
  rw [← g1]
  clear g1
  go_region_held3 (fun W => W.cell? ⟨w.heap.size, 0, none⟩ = some (.slice (some ⟨gy, 0, none⟩) ny cy) ∧ W.cell? ⟨w.heap.size, 1, none⟩ = some (.string nm) ∧ W.cell? ⟨w.heap.size, 2, none⟩ = some (.int .i64 m) ∧ W.cell? ⟨p, 1 + d * 107 + 106, none⟩ = some (.map (some b))) (go_keep) ((go_at_call 104; refine kd.out.mono ?_; rintro e w4 ⟨rfl, hb4⟩; have x0 := (hb4.out.cell (p := ⟨w.heap.size, 0, none⟩) HZ1.out).trans a0; have x1 := (hb4.out.cell (p := ⟨w.heap.size, 1, none⟩) HZ1.out).trans a1; have x2 := (hb4.out.cell (p := ⟨w.heap.size, 2, none⟩) HZ1.out).trans a2; have x3 := HM.out w4 hb4; obtain ⟨w6, hup, H6⟩ := ku.out w4 0 hb4; have z0 := (H6.out.2.2 ⟨w.heap.size, 0, none⟩ (HX.out.1 w4 hb4).1 HX.out.2.1).trans x0; have z1 := (H6.out.2.2 ⟨w.heap.size, 1, none⟩ (HX.out.1 w4 hb4).1 HX.out.2.1).trans x1; have z2 := (H6.out.2.2 ⟨w.heap.size, 2, none⟩ (HX.out.1 w4 hb4).1 HX.out.2.1).trans x2; have z3 := (H6.out.2.2 ⟨p, 1 + d * 107 + 106, none⟩ (HX.out.1 w4 hb4).2 HX.out.2.2).trans x3))
  go_wp2_with fail
  go_end0
  exact ⟨rfl, H6.out.1, H6.out.2.1⟩

end Go.Proofs.YtliekndkjjaldaaGreat

/- What settle, takeLink and Drop do to a file. -/
namespace Go.Proofs.YtliekndkjjaldaaGreat
open Go.RowKit Go.ChangeMaps Go.MapKept
set_option linter.unusedVariables false
set_option maxRecDepth 20000

/-- A number without a node. -/
def Sg.gone (S : Sg) (f : Nat) : Sg := { S with P := updN S.P f noNd, L := fun i => if i = f then 0 else S.L i, N := fun i => if i = f then (fun _ => 0) else S.N i }

theorem Sy.gone {w : World} {p : Nat} {S : Sg} (h : Sy w p S) (f : Nat) (h1 : f < 17) (h2 : f ≠ 0) (hf1 : f ≠ 1) : Sy (w.setCells p (1 + f * 107) (nodeC 0 0 (.map none))) p (S.gone f) := by
  obtain ⟨C, hb, hc⟩ := h.blk
  have hl := hc.len
  have hln := nodeC_len 0 0 (.map none)
  have hs : 1 + f * 107 + (nodeC 0 0 (.map none)).length ≤ C.length := by rw [hl, hln]; omega
  have u := upd_setCells p (nodeC 0 0 (.map none)) (1 + f * 107) w
  refine ⟨⟨_, heap_setCells p 58 (nodeC 0 0 (.map none)) _ w C hb hs, hc.put f h1 noNd noNd_ok (by rw [length_splice _ _ _ hs, hl]) (fun j hj => getElem?_splice_out _ _ _ _ hs (by rw [hln]; omega)) (fun j hj => by rw [ndC_no]; exact getElem?_splice_in C _ (1 + f * 107) j hs (by rw [hln]; exact hj))⟩, ?_, ?_, ?_, ?_, ?_, ?_, ?_, ?_⟩
  · intro i hi
    by_cases e : i = f
    · subst e
      show Nms _ (updN S.P i noNd i).m (if i = i then 0 else S.L i) (if i = i then (fun _ => 0) else S.N i)
      rw [updN_same, if_pos rfl, if_pos rfl]
      exact ⟨rfl, fun _ => rfl⟩
    · show Nms _ (updN S.P f noNd i).m (if i = f then 0 else S.L i) (if i = f then (fun _ => 0) else S.N i)
      rw [updN_ne _ _ _ _ e, if_neg e, if_neg e]
      exact (h.nms i hi).block (fun c hc => u.block c (h.foot_lt c (.inr ⟨i, hi, hc⟩)) (fun q => h.np i hi (q ▸ hc)))
  · intro i s hi
    show (if i = f then (fun _ => 0) else S.N i) s < 17
    split
    · show 0 < 17
      omega
    · exact h.to i s hi
  · intro i hi
    show (if i = f then 0 else S.L i) ≤ 6
    split
    · omega
    · exact h.le i hi
  · intro i j b hi hj q1 q2
    change (updN S.P f noNd i).m = some b at q1
    change (updN S.P f noNd j).m = some b at q2
    by_cases e : i = f
    · subst e; rw [updN_same] at q1; simp [noNd] at q1
    · by_cases e' : j = f
      · subst e'; rw [updN_same] at q2; simp [noNd] at q2
      · rw [updN_ne _ _ _ _ e] at q1
        rw [updN_ne _ _ _ _ e'] at q2
        exact h.ap i j b hi hj q1 q2
  · intro i hi
    show (updN S.P f noNd i).m ≠ some p
    by_cases e : i = f
    · subst e; rw [updN_same]; simp [noNd]
    · rw [updN_ne _ _ _ _ e]; exact h.np i hi
  · intro i hi q
    change (updN S.P f noNd i).k = 2 at q
    show (updN S.P f noNd i).m.isSome = true
    by_cases e : i = f
    · subst e; rw [updN_same] at q; simp [noNd] at q
    · rw [updN_ne _ _ _ _ e] at q ⊢; exact h.dir i hi q
  · show (updN S.P f noNd 1).k = 2
    rw [updN_ne _ _ _ _ (fun e => hf1 e.symm)]; exact h.root
  · show (updN S.P f noNd 0).k = 0
    rw [updN_ne _ _ _ _ (fun e => h2 e.symm)]; exact h.zero

theorem builtNode0 : Tryz.prog.built 54 [] = some (nodeC 0 0 (.map none)).toArray := by kernel_rfl

set_option maxHeartbeats 1000000 in
theorem fblocks_any (p : Nat) (S : Sg) (w : World) (H : Sy w p S) (i : Nat) (hi : i < 17) (s : Nat) (hs : (S.P i).s = s) (h96 : s ≤ 96) :
    Calls Tryz.prog 89 #[.pointer (some ⟨p, 1 + i * 107, none⟩)] w fun e w' => e = .returned (.slice (some ⟨p, 1 + i * 107 + 100, none⟩) ((s + 15) / 16) 6) ∧ w' = w.drew := by
  have c := H.s i hi
  rw [hs] at c
  have k0 := hid (fun W => needed_any s (by omega) W)
  obtain ⟨q, gq⟩ : ∃ q, q = (s + 15) / 16 := ⟨_, rfl⟩
  have hq : q ≤ 6 := by omega
  rw [← gq] at k0 ⊢
  have hq' : (q : Int) ≤ 6 := by omega
  clear H hs gq
  go_enter Tryz.func89, Tryz.ntmps89
  go_wp2_with fail
  go_region_held3 (fun W => W.cell? ⟨p, 1 + i * 107 + 3, none⟩ = some (.int .i64 (s : Int))) (go_keep) ((go_at_call 111; refine (k0.out _).mono ?_; rintro e w' ⟨rfl, rfl⟩))
  all_goals go_wp2_with fail
  all_goals go_ret
  all_goals exact ⟨rfl, rfl⟩

set_option maxHeartbeats 1000000 in
theorem settle_stay (p : Nat) (S : Sg) (w : World) (H : Sy w p S) (i : Nat) (hi : i < 17) (hl : (S.P i).l = 0) (n : Nat) (hh : (S.P i).h = (n : Int)) (hn : 0 < n) :
    Calls Tryz.prog 84 #[.pointer (some ⟨p, 0, none⟩), .int .i64 (i : Int)] w fun e w' => e = .returned (.tuple #[]) ∧ w' = w := by
  have c := H.h i hi
  rw [hh] at c
  have d := H.l i hi
  rw [hl] at d
  have hi0 : (0 : Int) ≤ (i : Int) := by omega
  have hi1 : (i : Int) < 17 := by omega
  have hn' : (0 : Int) < (n : Int) := by omega
  clear H hl hh
  go_enter Tryz.func84, Tryz.ntmps84
  go_wp2_with fail
  (try simp only [Exit.inBlock, Exit.then])
  refine bodyPost_ret (results_none rfl _ _ _) rfl ?_
  exact ⟨rfl, rfl⟩

set_option maxHeartbeats 4000000 in
theorem settle_go (p : Nat) (S : Sg) (w : World) (i : Nat) (hi : i < 17) (hi0 : i ≠ 0) (hi1 : i ≠ 1) (x : Nd) (T : Nat → Bool) (H : Sy w p (S.bl i x T)) (hd : S.d = 0) (hl : x.l = 0) (hh : x.h = 0) (hs : x.s ≤ 96) (hB : Bok x T (need x.s)) :
    Calls Tryz.prog 84 #[.pointer (some ⟨p, 0, none⟩), .int .i64 (i : Int)] w fun e w' => e = .returned (.tuple #[]) ∧ (∃ T', Sy w' p ((S.bl i x T').gone i) ∧ cnt T' 25 = 0) ∧ Upd (· = p) w w' := by
  have hP : (S.bl i x T).P i = x := updN_same _ _ _
  have c := H.h i hi
  rw [hP, hh] at c
  have d := H.l i hi
  rw [hP, hl] at d
  have a0 : (0 : Int) ≤ (i : Int) := by omega
  have a1 : (i : Int) < 17 := by omega
  have k1 := hid (fblocks_any p (S.bl i x T) w H i hi x.s (by rw [hP]) hs)
  have k2 := hid (release_any p S w.drew i hi x T (H.hp rfl) hd 0 (need x.s) 6 (1 + i * 107 + 100) (fun _ => by omega) (by unfold need; omega) (by unfold need; omega) (Nat.le_refl _) (by simpa using hB))
  rw [show (x.s + 15) / 16 = need x.s from rfl] at k1
  obtain ⟨q, gq⟩ : ∃ q, q = need x.s := ⟨_, rfl⟩
  rw [← gq] at k1 k2
  clear H hd hl hh hs hB hP gq
  go_enter Tryz.func84, Tryz.ntmps84
  go_wp2_with fail
  refine k1.out.mono ?_
  rintro e w1 ⟨rfl, rfl⟩
  clear k1
  go_wp2_with fail
  refine k2.out.mono ?_
  rintro e w2 ⟨rfl, ⟨T', hS, hB⟩, u⟩
  clear k2 c d
  obtain ⟨N, gN⟩ : ∃ N, N = nodeC 0 0 (.map none) := ⟨_, rfl⟩
  have HBT : Hid (Tryz.prog.built 54 [] = some N.toArray) := by rw [gN]; exact hid builtNode0
  have HLN : Hid (N.length = 107) := by rw [gN]; exact hid (nodeC_len _ _ _)
  have H1 : Hid (N.toArray.all (·.oneCell') = true) := by rw [gN]; exact hid (nodeC_one _ _ _)
  have HSZ : Hid ((Tryz.prog.info? 54).map (·.size) = some N.toArray.size) := by rw [List.size_toArray, HLN.out]; exact hid csizeNode
  have HTH : Hid (w2.there p (1 + i * 107) N.toArray.size) := by
    obtain ⟨C, hb, hc⟩ := hS.blk
    rw [List.size_toArray, HLN.out]
    exact hid (there_of_block hb _ _ (by rw [hc.len]; omega))
  have HQ : Hid ((∃ T', Sy (w2.setCells p (1 + i * 107) N) p ((S.bl i x T').gone i) ∧ cnt T' 25 = 0) ∧ Upd (· = p) w (w2.setCells p (1 + i * 107) N)) := by
    rw [gN]
    exact hid ⟨⟨T', hS.gone i hi hi0 hi1, hB.n⟩, (((Upd.refl (· = p) w).drewN 1).trans u (fun _ _ h => h)).trans (upd_setCells p _ _ w2) (fun x _ h => h)⟩
  clear gN hS hB u
  go_wp2_with (first
    | (refine wpList_build_is rfl 54 #[] rfl N.toArray (by simpa [Act.eval] using HBT.out) ?_)
    | (refine wpList_store_mid rfl 54 (.tmp 28) (.tmp 27) rfl p (1 + i * 107) N.toArray rfl rfl HTH.out HSZ.out H1.out ?_))
  go_end0
  exact ⟨rfl, HQ.out⟩

end Go.Proofs.YtliekndkjjaldaaGreat

/- What takeLink, Unlink and Drop do to a file that is alone in its system. -/
namespace Go.Proofs.YtliekndkjjaldaaGreat
open Go.RowKit Go.ChangeMaps Go.MapKept
set_option linter.unusedVariables false
set_option maxRecDepth 20000

def Nd.link (x : Nd) (l : Int) : Nd := { x with l := l }
theorem ndC_link (x : Nd) (l : Int) : ndC (x.link l) = (ndC x).set 1 (.int .i64 l) := by simp [ndC, Nd.link]
theorem Sy.linkTo {w : World} {p : Nat} {S : Sg} (h : Sy w p S) (i : Nat) (hi : i < 17) (s : Int) : Sy (w.setCell ⟨p, 1 + i * 107 + 1, none⟩ (.int .i64 s)) p (S.at_ i ((S.P i).link s)) :=
  h.set i hi ((S.P i).link s) ⟨(h.ok i hi).b, (h.ok i hi).B⟩ rfl rfl 1 (by omega) _ rfl (fun j hj e => ndC_set0 _ 1 (by omega) _ _ (ndC_link _ _) j e)

set_option maxHeartbeats 2000000 in
theorem tklink_stay (p : Nat) (S : Sg) (w : World) (H : Sy w p S) (i : Nat) (hi : i < 17) (hl : (S.P i).l = 1) (n : Nat) (hh : (S.P i).h = (n : Int)) (hn : 0 < n) :
    Calls Tryz.prog 66 #[.pointer (some ⟨p, 0, none⟩), .int .i64 (i : Int)] w fun e w' => e = .returned (.tuple #[]) ∧ Sy w' p (S.at_ i ((S.P i).link 0)) ∧ Upd (· = p) w w' := by
  have d := H.l i hi
  rw [hl] at d
  have f := H.fz (1 + i * 107 + 1)
  have hi0 : (0 : Int) ≤ (i : Int) := by omega
  have hi1 : (i : Int) < 17 := by omega
  have hS : Sy (w.setCell ⟨p, 1 + i * 107 + 1, none⟩ (.int .i64 0)).drew p (S.at_ i ((S.P i).link 0)) := (H.linkTo i hi 0).hp rfl
  have k1 : Hid (Calls Tryz.prog 84 #[.pointer (some ⟨p, 0, none⟩), .int .i64 (i : Int)] (w.setCell ⟨p, 1 + i * 107 + 1, none⟩ (.int .i64 0)).drew fun e w' => e = .returned (.tuple #[]) ∧ w' = (w.setCell ⟨p, 1 + i * 107 + 1, none⟩ (.int .i64 0)).drew) :=
    hid (settle_stay p _ _ hS i hi (by rw [Sg.at_same]; rfl) n (by rw [Sg.at_same]; exact hh) hn)
  have HQ : Hid (Sy (w.setCell ⟨p, 1 + i * 107 + 1, none⟩ (.int .i64 0)).drew p (S.at_ i ((S.P i).link 0)) ∧ Upd (· = p) w (w.setCell ⟨p, 1 + i * 107 + 1, none⟩ (.int .i64 0)).drew) := hid ⟨hS, (Upd.setCell (F := (· = p)) w ⟨p, _, none⟩ _ rfl).drewN 1⟩
  clear H hl hh hS
  go_enter Tryz.func66, Tryz.ntmps66
  go_wp2_with fail
  go_region
  go_wp2_with fail
  refine k1.out.mono ?_
  rintro e w1 ⟨rfl, rfl⟩
  go_wp2_with fail
  go_end0
  exact ⟨rfl, HQ.out⟩

set_option maxHeartbeats 2000000 in
theorem drop_last (p : Nat) (S : Sg) (w : World) (i : Nat) (h1 : 2 ≤ i) (hi : i < 17) (x : Nd) (T : Nat → Bool) (H : Sy w p (S.bl i x T)) (hd : S.d = 0) (hk : x.k ≠ 0) (hl : x.l = 0) (hh : x.h = 1) (hs : x.s ≤ 96) (hB : Bok x T (need x.s)) :
    Calls Tryz.prog 41 #[.pointer (some ⟨p, 0, none⟩), .int .i64 (i : Int)] w fun e w' => e = .returned (.int .i64 0) ∧ (∃ T', Sy w' p ((S.bl i (x.hold 0) T').gone i) ∧ cnt T' 25 = 0) ∧ Upd (· = p) w w' := by
  have hP : (S.bl i x T).P i = x := updN_same _ _ _
  have k0 := hid (node_yes p (S.bl i x T) w H i (by omega) hi (by rw [hP]; exact hk))
  have c := H.h i hi
  rw [hP, hh] at c
  have f := H.fz (1 + i * 107 + 2)
  obtain ⟨W, gW⟩ : ∃ W, W = w.setCell ⟨p, 1 + i * 107 + 2, none⟩ (.int .i64 0) := ⟨_, rfl⟩
  have hS : Sy W p (S.bl i (x.hold 0) T) := by
    have := H.holdTo i hi 0
    rw [hP] at this
    rw [gW]
    have e : (S.bl i x T).at_ i (x.hold 0) = S.bl i (x.hold 0) T := by
      unfold Sg.bl Sg.at_ updN
      congr 1
      funext j
      by_cases e : j = i <;> simp [e]
    rw [e] at this
    exact this
  have k1 := hid (settle_go p S W i hi (by omega) (by omega) (x.hold 0) T hS hd hl rfl hs ⟨hB.in_, hB.ne, hB.n⟩)
  have HU : Hid (Upd (· = p) w W) := by rw [gW]; exact hid (Upd.setCell (F := (· = p)) w ⟨p, _, none⟩ _ rfl)
  clear H hd hk hl hh hs hB hP hS
  go_enter Tryz.func41, Tryz.ntmps41
  go_wp2_with fail
  refine k0.out.mono ?_
  rintro e w1 ⟨rfl, rfl⟩
  clear k0
  go_wp2_with fail
  rw [← gW]
  refine k1.out.mono ?_
  rintro e w2 ⟨rfl, hT, u⟩
  have HT := hid hT
  clear k1 hT gW c f
  go_wp2_with fail
  go_ret
  exact ⟨rfl, HT.out, HU.out.trans u (fun _ _ h => h)⟩

end Go.Proofs.YtliekndkjjaldaaGreat

/- A file system without memory: what each call of it comes to. -/
namespace Go.Proofs.YtliekndkjjaldaaGreat
open Go.RowKit
set_option linter.unusedVariables false

/-- A file or a directory: its kind, links, who holds it, its bytes, its blocks, its names in order. -/
structure Fn where
  k : Int
  l : Int
  h : Int
  c : List Int
  B : List Nat
  Q : List (List UInt8 × Nat)
def Fn.no : Fn := ⟨0, 0, 0, [], [], []⟩
def Fn.nu (k : Int) : Fn := ⟨k, 1, 0, [], [], []⟩

/-- Its defects, its nodes by their numbers, which blocks are allocated. -/
structure Fs where
  d : Int
  P : Nat → Fn
  T : Nat → Bool

/-- What a list of names says of a name; with one more; without one. -/
def lk : List (List UInt8 × Nat) → List UInt8 → Nat
  | [], _ => 0
  | x :: r, s => if x.1 = s then x.2 else lk r s
def gtB (a b : List UInt8) : Bool := !(Op.bytesLess a b || a == b)
def ins (s : List UInt8) (n : Nat) : List (List UInt8 × Nat) → List (List UInt8 × Nat)
  | [] => [(s, n)]
  | x :: r => if gtB x.1 s = true then (s, n) :: x :: r else x :: ins s n r
def del (s : List UInt8) (Q : List (List UInt8 × Nat)) : List (List UInt8 × Nat) := Q.filter (fun x => decide (x.1 ≠ s))

/-- Whether a defect is there. -/
def dfc (d b : Int) : Bool := decide (bits .and .i64 d b ≠ 0)

namespace Fs
def at_ (F : Fs) (i : Nat) (x : Fn) : Fs := { F with P := fun j => if j = i then x else F.P j }
def nq (F : Fs) (i : Nat) (Q : List (List UInt8 × Nat)) : Fs := F.at_ i { F.P i with Q := Q }
def addn (F : Fs) (i : Nat) (s : List UInt8) (n : Nat) : Fs := F.nq i (ins s n (F.P i).Q)
def deln (F : Fs) (i : Nat) (s : List UInt8) : Fs := F.nq i (del s (F.P i).Q)
def lnk (F : Fs) (i : Nat) (l : Int) : Fs := F.at_ i { F.P i with l := l }
def hld (F : Fs) (i : Nat) (h : Int) : Fs := F.at_ i { F.P i with h := h }
def relB (F : Fs) (B : List Nat) : Fs := if dfc F.d 2 = true then F else { F with T := fun b => if b ∈ B then false else F.T b }
/-- A node goes that nothing keeps. -/
def gone (F : Fs) (n : Nat) : Fs := if 0 < (F.P n).l ∨ 0 < (F.P n).h then F else (F.relB (F.P n).B).at_ n Fn.no
/-- A link less. -/
def less (F : Fs) (n : Nat) : Fs := (F.lnk n ((F.P n).l - 1)).gone n

def dirOf (y : List Nat) : Nat := y.getLastD 0
def K (F : Fs) (i : Nat) : Int := (F.P i).k
def N (F : Fs) (i : Nat) (s : List UInt8) : Nat := lk (F.P i).Q s
def walk (F : Fs) (l : List UInt8) : Except Int (List Nat × List UInt8 × Nat) := if l.head? = some 47 ∧ l ≠ [47] then wk F.K F.N 1 [] (spl (l.drop 1)) else .error 22
def find (F : Fs) (l : List UInt8) : Nat × Int := if l = [47] then (1, 0) else match F.walk l with
  | .error e => (0, e)
  | .ok (_, _, n) => if n = 0 then (0, 2) else (n, 0)

/-- The lowest number of 1 to 16 that no node has; 0: there is none. -/
def free (F : Fs) : Nat := ((List.range' 1 16).find? (fun i => decide ((F.P i).k = 0))).getD 0

def make (F : Fs) (l : List UInt8) (kind : Int) : Fs × Nat × Int :=
  if kind ≠ 1 ∧ kind ≠ 2 then (F, 0, 22) else match F.walk l with
  | .error e => (F, 0, e)
  | .ok (y, s, n) => if n ≠ 0 then (F, 0, 17) else if 6 ≤ (F.P (dirOf y)).Q.length then (F, 0, 28) else if F.free = 0 then (F, 0, 28) else
    ((F.at_ F.free (Fn.nu kind)).addn (dirOf y) s F.free, F.free, 0)

def unlink (F : Fs) (l : List UInt8) : Fs × Int := match F.walk l with
  | .error e => (F, e)
  | .ok (y, s, n) => if n = 0 then (F, 2) else if (F.P n).k = 2 then (F, 21) else if 1 < (F.P n).l ∧ dfc F.d 1 = true then (F.deln (dirOf y) s, 0) else ((F.deln (dirOf y) s).less n, 0)

/-- What keeps a directory from being taken away. -/
def stays (F : Fs) (n : Nat) : Int := if 0 < (F.P n).Q.length then 39 else if 0 < (F.P n).h then 22 else 0

def rmdir (F : Fs) (l : List UInt8) : Fs × Int := match F.walk l with
  | .error e => (F, e)
  | .ok (y, s, n) => if n = 0 then (F, 2) else if (F.P n).k ≠ 2 then (F, 20) else if F.stays n ≠ 0 then (F, F.stays n) else ((F.deln (dirOf y) s).less n, 0)

def link (F : Fs) (l m : List UInt8) : Fs × Int :=
  if (F.find l).2 ≠ 0 then (F, (F.find l).2) else if (F.P (F.find l).1).k = 2 then (F, 1) else match F.walk m with
  | .error e => (F, e)
  | .ok (y, s, n) => if n ≠ 0 then (F, 17) else if 6 ≤ (F.P (dirOf y)).Q.length then (F, 28) else
    ((F.lnk (F.find l).1 ((F.P (F.find l).1).l + 1)).addn (dirOf y) s (F.find l).1, 0)

/-- What keeps a node from taking another one's name. -/
def over (F : Fs) (n m : Nat) : Int := if (F.P m).k = 2 then (if (F.P n).k = 2 then F.stays m else 21) else if (F.P n).k = 2 then 20 else 0

def rename (F : Fs) (l m : List UInt8) : Fs × Int := match F.walk l with
  | .error e => (F, e)
  | .ok (y, s, n) => if n = 0 then (F, 2) else match F.walk m with
    | .error e => (F, e)
    | .ok (y2, s2, n2) => if n2 = n then (F, 0) else if n2 ≠ 0 ∧ F.over n n2 ≠ 0 then (F, F.over n n2) else if n ∈ y2 then (F, 22) else
      if n2 = 0 ∧ dirOf y2 ≠ dirOf y ∧ 6 ≤ (F.P (dirOf y2)).Q.length then (F, 28) else
      if n2 ≠ 0 ∧ dfc F.d 4 = false then ((((F.deln (dirOf y) s).deln (dirOf y2) s2).addn (dirOf y2) s2 n).less n2, 0)
      else (((F.deln (dirOf y) s).deln (dirOf y2) s2).addn (dirOf y2) s2 n, 0)

def there (F : Fs) (n : Int) : Bool := decide (1 ≤ n ∧ n ≤ 16 ∧ (F.P n.toNat).k ≠ 0)
def size (F : Fs) (n : Nat) : Nat := (F.P n).c.length + (F.P n).Q.length
/-- The error of a number that must be a file's. -/
def file (F : Fs) (n : Int) : Int := if F.there n = false then 2 else if (F.P n.toNat).k = 2 then 21 else 0

def stat (F : Fs) (n : Int) : Int × Int × Int × Int := if F.there n = false then (0, 0, 0, 2) else ((F.P n.toNat).k, (F.P n.toNat).l, (F.size n.toNat : Int), 0)
def hold (F : Fs) (n : Int) : Fs × Int := if F.there n = false then (F, 2) else if 1000 ≤ (F.P n.toNat).h then (F, 11) else (F.hld n.toNat ((F.P n.toNat).h + 1), 0)
def drop (F : Fs) (n : Int) : Fs × Int := if F.there n = false then (F, 2) else if (F.P n.toNat).h = 0 then (F, 22) else ((F.hld n.toNat ((F.P n.toNat).h - 1)).gone n.toNat, 0)

def read (F : Fs) (n off cnt : Int) : List Int × Int := if F.file n ≠ 0 then ([], F.file n) else if off < 0 ∨ cnt < 0 then ([], 22) else (((F.P n.toNat).c.drop off.toNat).take cnt.toNat, 0)

/-- How many blocks so many bytes need; the free ones. -/
def need (s : Nat) : Nat := (s + 15) / 16
def frees (F : Fs) : List Nat := (List.range' 1 24).filter (fun b => !F.T b)
/-- Whether a file can have so many bytes; with blocks for them. -/
def fits (F : Fs) (n : Nat) (s : Nat) : Bool := decide (need s - (F.P n).B.length ≤ F.frees.length)
def grow (F : Fs) (n : Nat) (s : Nat) : Fs :=
  { F.at_ n { F.P n with B := (F.P n).B ++ F.frees.take (need s - (F.P n).B.length) } with T := fun b => if b ∈ F.frees.take (need s - (F.P n).B.length) then true else F.T b }
def ct (F : Fs) (n : Nat) (c : List Int) : Fs := F.at_ n { F.P n with c := c }
/-- Bytes over others, from a place on. -/
def lay (c : List Int) (off : Nat) (b : List Int) : List Int := (c ++ List.replicate (off + b.length - c.length) 0).take off ++ b ++ c.drop (off + b.length)

def write (F : Fs) (n off : Int) (b : List Int) : Fs × Int × Int :=
  if F.file n ≠ 0 then (F, 0, F.file n) else if off < 0 then (F, 0, 22) else if b = [] then (F, 0, 0) else if 96 < off + (b.length : Int) then (F, 0, 27) else
  if F.fits n.toNat (max (F.P n.toNat).c.length (off.toNat + b.length)) = false then (F, 0, 28) else
  ((F.grow n.toNat (max (F.P n.toNat).c.length (off.toNat + b.length))).ct n.toNat (lay (F.P n.toNat).c off.toNat b), (b.length : Int), 0)

def resize (F : Fs) (n z : Int) : Fs × Int :=
  if F.file n ≠ 0 then (F, F.file n) else if z < 0 then (F, 22) else if 96 < z then (F, 27) else
  if z.toNat < (F.P n.toNat).c.length then (((F.relB ((F.P n.toNat).B.drop (need z.toNat))).at_ n.toNat { F.P n.toNat with c := (F.P n.toNat).c.take z.toNat, B := (F.P n.toNat).B.take (need z.toNat) }), 0) else
  if F.fits n.toNat z.toNat = false then (F, 28) else
  ((F.grow n.toNat z.toNat).ct n.toNat ((F.P n.toNat).c ++ List.replicate (z.toNat - (F.P n.toNat).c.length) 0), 0)
end Fs

/-- The root alone. -/
def rootF (d : Int) : Fs := ⟨d, fun i => if i = 1 then Fn.nu 2 else Fn.no, fun _ => false⟩

end Go.Proofs.YtliekndkjjaldaaGreat

/- What has, release, settle and takeLink do to any system. -/
namespace Go.Proofs.YtliekndkjjaldaaGreat
open Go.RowKit Go.ChangeMaps Go.MapKept
set_option linter.unusedVariables false
set_option maxRecDepth 20000

theorem dfc_eq (d b : Int) : (bits .and .i64 d b == 0) = !dfc d b := by rw [Bool.eq_iff_iff]; simp [dfc]
theorem dfc_ne (d b : Int) : (bits .and .i64 d b != 0) = dfc d b := by rw [Bool.eq_iff_iff]; simp [dfc, bne]

set_option maxHeartbeats 1000000 in
theorem has_any (p : Nat) (S : Sg) (w : World) (H : Sy w p S) (b : Int) : Calls Tryz.prog 65 #[.pointer (some ⟨p, 0, none⟩), .int .i64 b] w fun e w' => e = .returned (.bool (dfc S.d b)) ∧ w' = w := by
  have c := H.df
  have h := dfc_ne S.d b
  obtain ⟨R, gR⟩ : ∃ R, R = dfc S.d b := ⟨_, rfl⟩
  rw [← gR] at h ⊢
  clear H gR
  go_enter Tryz.func65, Tryz.ntmps65
  go_wp2_with fail
  go_ret
  exact ⟨rfl, rfl⟩

/-- Marks that are let go. -/
def relT (d : Int) (bs : List Nat) (T : Nat → Bool) : Nat → Bool := if dfc d 2 = true then T else fun b => if b ∈ bs then false else T b
def Sg.tk (S : Sg) (T : Nat → Bool) : Sg := { S with T := T }

set_option maxHeartbeats 4000000 in
theorem release_gen (p : Nat) (S : Sg) (w : World) (H : Sy w p S) (i : Nat) (hi : i < 17) (q n c o : Nat) (ho : 0 < n → o = 1 + i * 107 + (100 + q)) (hq : q + n ≤ 6) (hn : n ≤ c) (hc : c ≤ 6) (bs : List Nat) (hl : bs.length = n)
    (hb : ∀ j, j < n → (S.P i).B.getD (q + j) 0 = ((bs.getD j 0 : Nat) : Int)) (hlt : ∀ b ∈ bs, b < 25) :
    Calls Tryz.prog 114 #[.pointer (some ⟨p, 0, none⟩), .slice (some ⟨p, o, none⟩) n c] w fun e w' => e = .returned (.tuple #[]) ∧ Sy w' p (S.tk (relT S.d bs S.T)) ∧ Upd (· = p) w w' := by
  have k0 := hid (has_any p S w H 2)
  by_cases hd : dfc S.d 2 = true
  · rw [hd] at k0
    have e : S.tk (relT S.d bs S.T) = S := by unfold relT Sg.tk; rw [if_pos hd]
    rw [e]
    have HS := hid H
    clear H hd e hb hlt ho
    go_enter Tryz.func114, Tryz.ntmps114
    go_wp2_with fail
    refine k0.out.mono ?_
    rintro e w1 ⟨rfl, rfl⟩
    clear k0
    go_wp2_with fail
    (try simp only [Exit.inBlock, Exit.then])
    refine bodyPost_ret (results_none rfl _ _ _) rfl ?_
    exact ⟨rfl, HS.out, Upd.refl _ _⟩
  · rw [show dfc S.d 2 = false by simpa using hd] at k0
    have e : relT S.d bs S.T = fun b => if b ∈ bs then false else S.T b := by unfold relT; rw [if_neg hd]
    rw [e]
    have H0 : Hid (∃ T', Sy w p (S.tk T') ∧ (∀ b, T' b = if b ∈ bs.take 0 then false else S.T b) ∧ Upd (· = p) w w) := hid ⟨S.T, H, fun b => by simp, Upd.refl _ _⟩
    have HOO := hid ho
    have HBB := hid hb
    have HLT := hid (And.intro hl hlt)
    clear H hd e ho hb hlt hl
    go_enter Tryz.func114, Tryz.ntmps114
    go_wp2_with fail
    refine k0.out.mono ?_
    rintro e w1 ⟨rfl, rfl⟩
    clear k0
    go_wp2_with fail
    go_loopw [5, 10] (fun v5 v10 wr => ∃ k : Nat, k ≤ n ∧ v10 = .int .i64 (k : Int) ∧ Hid (∃ T', Sy wr p (S.tk T') ∧ (∀ b, T' b = if b ∈ bs.take k then false else S.T b) ∧ Upd (· = p) w1 wr)) (fun _ v10 _ => n - (intOf v10).toNat)
    case atStart => exact ⟨0, by omega, rfl, H0⟩
    case round =>
      clear H0
      obtain ⟨k, hkn, rfl, HQ⟩ := hrel
      by_cases e : k = n
      · subst e
        go_wp2_with fail
        go_end0
        obtain ⟨T', h1, h2, h3⟩ := HQ.out
        have e : T' = fun b => if b ∈ bs then false else S.T b := by
          funext b
          rw [h2, List.take_of_length_le (by have := HLT.out.1; omega)]
        rw [← e]
        exact ⟨rfl, h1, h3⟩
      · have hk : k < n := by omega
        have hk2 : (k : Int) < (n : Int) := by omega
        have hk0 : (0 : Int) ≤ (k : Int) := by omega
        obtain ⟨T', h1, h2, h3⟩ := HQ.out
        obtain ⟨b, gb⟩ : ∃ b, b = bs.getD k 0 := ⟨_, rfl⟩
        have hkl : k < bs.length := by have := HLT.out.1; omega
        have hget : bs[k] = b := by rw [gb, List.getD_eq_getElem?_getD, List.getElem?_eq_getElem hkl]; rfl
        have e3 : b < 25 := HLT.out.2 b (by rw [← hget]; exact List.getElem_mem _)
        have hcell := h1.B i hi (q + k) (by omega)
        have hB1 := HBB.out k hk
        rw [← gb] at hB1
        rw [show ((S.tk T').P i).B.getD (q + k) 0 = (b : Int) from hB1, show 1 + i * 107 + (100 + (q + k)) = o + k by have := HOO.out (by omega); omega] at hcell
        have ht := h1.t b e3
        have hf := h1.fz (1820 + b)
        have b0 : (0 : Int) ≤ (b : Int) := by omega
        have b1 : (b : Int) < 25 := by omega
        have hm := h1.mark b e3 false
        have HQ4 : Hid (∃ T', Sy (wr.setCell ⟨p, 1820 + b, none⟩ (.bool false)) p (S.tk T') ∧ (∀ b, T' b = if b ∈ bs.take (k + 1) then false else S.T b) ∧ Upd (· = p) w1 (wr.setCell ⟨p, 1820 + b, none⟩ (.bool false))) := by
          refine hid ⟨updT T' b false, hm, fun x => ?_, h3.trans (Upd.setCell (F := (· = p)) wr ⟨p, _, none⟩ _ rfl) (fun _ _ h => h)⟩
          rw [List.take_succ_eq_append_getElem hkl, hget]
          by_cases ex : x = b
          · subst ex; rw [updT_same]; simp
          · rw [updT_ne _ _ _ _ ex, h2]; simp [ex]
        clear h1 h2 h3 hm HQ e hB1 gb hget hkl
        go_wp2_with fail
        go_roundw
        case rel => exact ⟨k + 1, by omega, by go_num, HQ4⟩
        case measure => simp [intOf]; omega

set_option maxHeartbeats 1000000 in
theorem settle_keep (p : Nat) (S : Sg) (w : World) (H : Sy w p S) (i : Nat) (hi : i < 17) (hh : 0 < (S.P i).l ∨ 0 < (S.P i).h) :
    Calls Tryz.prog 84 #[.pointer (some ⟨p, 0, none⟩), .int .i64 (i : Int)] w fun e w' => e = .returned (.tuple #[]) ∧ w' = w := by
  have c := H.h i hi
  have d := H.l i hi
  obtain ⟨l, gl⟩ : ∃ l, l = (S.P i).l := ⟨_, rfl⟩
  obtain ⟨h, gh⟩ : ∃ h, h = (S.P i).h := ⟨_, rfl⟩
  rw [← gl] at hh d
  rw [← gh] at hh c
  have hi0 : (0 : Int) ≤ (i : Int) := by omega
  have hi1 : (i : Int) < 17 := by omega
  clear H gl gh
  by_cases q : 0 < l
  · clear hh
    go_enter Tryz.func84, Tryz.ntmps84
    go_wp2_with fail
    (try simp only [Exit.inBlock, Exit.then])
    refine bodyPost_ret (results_none rfl _ _ _) rfl ?_
    exact ⟨rfl, rfl⟩
  · have q2 : 0 < h := by omega
    clear hh
    go_enter Tryz.func84, Tryz.ntmps84
    go_wp2_with fail
    (try simp only [Exit.inBlock, Exit.then])
    refine bodyPost_ret (results_none rfl _ _ _) rfl ?_
    exact ⟨rfl, rfl⟩

set_option maxHeartbeats 4000000 in
theorem settle_gone (p : Nat) (S : Sg) (w : World) (H : Sy w p S) (i : Nat) (hi : i < 17) (hi0 : i ≠ 0) (hi1 : i ≠ 1) (hl : ¬ 0 < (S.P i).l) (hh : ¬ 0 < (S.P i).h) (hs : (S.P i).s ≤ 96) (bs : List Nat) (hbl : bs.length = need (S.P i).s)
    (hb : ∀ j, j < need (S.P i).s → (S.P i).B.getD j 0 = ((bs.getD j 0 : Nat) : Int)) (hlt : ∀ b ∈ bs, b < 25) :
    Calls Tryz.prog 84 #[.pointer (some ⟨p, 0, none⟩), .int .i64 (i : Int)] w fun e w' => e = .returned (.tuple #[]) ∧ Sy w' p ((S.tk (relT S.d bs S.T)).gone i) ∧ Upd (· = p) w w' := by
  have c := H.h i hi
  have d := H.l i hi
  have a0 : (0 : Int) ≤ (i : Int) := by omega
  have a1 : (i : Int) < 17 := by omega
  have k1 := hid (fblocks_any p S w H i hi _ rfl hs)
  rw [show ((S.P i).s + 15) / 16 = need (S.P i).s from rfl] at k1
  have k2 := hid (release_gen p S w.drew (H.hp rfl) i hi 0 (need (S.P i).s) 6 (1 + i * 107 + 100) (fun _ => by omega) (by unfold need; omega) (by unfold need; omega) (Nat.le_refl _) bs hbl (fun j hj => by rw [Nat.zero_add]; exact hb j hj) hlt)
  obtain ⟨q, gq⟩ : ∃ q, q = need (S.P i).s := ⟨_, rfl⟩
  obtain ⟨l, gl⟩ : ∃ l, l = (S.P i).l := ⟨_, rfl⟩
  obtain ⟨h, gh⟩ : ∃ h, h = (S.P i).h := ⟨_, rfl⟩
  rw [← gl] at hl d
  rw [← gh] at hh c
  rw [← gq] at k1 k2
  clear H hs gq gl gh hb hlt hbl
  go_enter Tryz.func84, Tryz.ntmps84
  go_wp2_with fail
  refine k1.out.mono ?_
  rintro e w1 ⟨rfl, rfl⟩
  clear k1
  go_wp2_with fail
  refine k2.out.mono ?_
  rintro e w2 ⟨rfl, hS, u⟩
  clear k2 c d
  obtain ⟨N, gN⟩ : ∃ N, N = nodeC 0 0 (.map none) := ⟨_, rfl⟩
  have HBT : Hid (Tryz.prog.built 54 [] = some N.toArray) := by rw [gN]; exact hid builtNode0
  have HLN : Hid (N.length = 107) := by rw [gN]; exact hid (nodeC_len _ _ _)
  have H1 : Hid (N.toArray.all (·.oneCell') = true) := by rw [gN]; exact hid (nodeC_one _ _ _)
  have HSZ : Hid ((Tryz.prog.info? 54).map (·.size) = some N.toArray.size) := by rw [List.size_toArray, HLN.out]; exact hid csizeNode
  have HTH : Hid (w2.there p (1 + i * 107) N.toArray.size) := by
    obtain ⟨C, hb, hc⟩ := hS.blk
    rw [List.size_toArray, HLN.out]
    exact hid (there_of_block hb _ _ (by rw [hc.len]; omega))
  have HQ : Hid (Sy (w2.setCells p (1 + i * 107) N) p ((S.tk (relT S.d bs S.T)).gone i) ∧ Upd (· = p) w (w2.setCells p (1 + i * 107) N)) := by
    rw [gN]
    exact hid ⟨hS.gone i hi hi0 hi1, (((Upd.refl (· = p) w).drewN 1).trans u (fun _ _ h => h)).trans (upd_setCells p _ _ w2) (fun x _ h => h)⟩
  clear gN hS u
  go_wp2_with (first
    | (refine wpList_build_is rfl 54 #[] rfl N.toArray (by simpa [Act.eval] using HBT.out) ?_)
    | (refine wpList_store_mid rfl 54 (.tmp 28) (.tmp 27) rfl p (1 + i * 107) N.toArray rfl rfl HTH.out HSZ.out H1.out ?_))
  go_end0
  exact ⟨rfl, HQ.out⟩

end Go.Proofs.YtliekndkjjaldaaGreat

/- What a file holds: bytes of its row, noughts behind them. -/
namespace Go.Proofs.YtliekndkjjaldaaGreat
open Go.RowKit Go.ChangeMaps Go.MapKept
set_option linter.unusedVariables false
set_option maxRecDepth 20000

/-- What a file holds; behind its size there are noughts. -/
def ct (x : Nd) : List Int := x.b.take x.s
def Zok (x : Nd) : Prop := ∀ j, x.s ≤ j → x.b.getD j 0 = 0

theorem ext_getD {l m : List Int} (hl : l.length = m.length) (h : ∀ j, j < l.length → l.getD j 0 = m.getD j 0) : l = m := by
  apply List.ext_getElem hl
  intro j h1 h2
  have := h j h1
  rw [List.getD_eq_getElem?_getD, List.getD_eq_getElem?_getD, List.getElem?_eq_getElem h1, List.getElem?_eq_getElem h2] at this
  exact this
theorem getD_take (l : List Int) (n j : Nat) (h : j < n) : (l.take n).getD j 0 = l.getD j 0 := by
  rw [List.getD_eq_getElem?_getD, List.getElem?_take_of_lt h, List.getD_eq_getElem?_getD]
theorem getD_zeros (n j : Nat) : (List.replicate n (0 : Int)).getD j 0 = 0 := by
  rw [List.getD_eq_getElem?_getD, List.getElem?_replicate]
  split <;> rfl
theorem getD_app (l : List Int) (n j : Nat) : (l ++ List.replicate n (0 : Int)).getD j 0 = if j < l.length then l.getD j 0 else 0 := by
  rw [List.getD_eq_getElem?_getD]
  split
  · rename_i h
    rw [List.getElem?_append_left h, List.getD_eq_getElem?_getD]
  · rename_i h
    rw [List.getElem?_append_right (by omega), ← List.getD_eq_getElem?_getD]
    exact getD_zeros _ _
theorem getD_over (l : List Int) (j : Nat) (h : l.length ≤ j) : l.getD j 0 = 0 := by
  rw [List.getD_eq_getElem?_getD, List.getElem?_eq_none h]; rfl
theorem ct_len {x : Nd} (hb : x.b.length = 96) (hs : x.s ≤ 96) : (ct x).length = x.s := by simp [ct, hb]; omega

/-- A file of another size. -/
theorem ct_grow {x x' : Nd} (hb : x.b.length = 96) (hs : x.s ≤ 96) (hz : Zok x) (z : Nat) (h1 : x.s ≤ z) (h2 : z ≤ 96) (e1 : x'.s = z) (e2 : x'.b = x.b) : ct x' = (ct x ++ List.replicate (z - x.s) 0).take z ∧ Zok x' := by
  have hl := ct_len hb hs
  refine ⟨ext_getD ?_ (fun j hj => ?_), fun j hj => by rw [e2]; exact hz j (by omega)⟩
  · simp [ct, e1, e2, hb] ; omega
  · have hj' : j < z := by simp [ct, e1, e2, hb] at hj; omega
    unfold ct at hl ⊢
    rw [e1, e2, getD_take _ _ _ hj', getD_take _ _ _ hj', getD_app, hl]
    by_cases q : j < x.s
    · rw [if_pos q, getD_take _ _ _ q]
    · rw [if_neg q]; exact hz j (by omega)
theorem ct_cut {x x' : Nd} (hb : x.b.length = 96) (hs : x.s ≤ 96) (z : Nat) (h1 : z < x.s) (e1 : x'.s = z) (e2 : x'.b = splice x.b z (List.replicate (96 - z) 0)) : ct x' = (ct x ++ List.replicate (z - x.s) 0).take z ∧ Zok x' := by
  have hl := ct_len hb hs
  have hfit : z + (List.replicate (96 - z) (0 : Int)).length ≤ x.b.length := by simp [hb]; omega
  have hsl : (splice x.b z (List.replicate (96 - z) 0)).length = 96 := by rw [length_splice _ _ _ hfit, hb]
  refine ⟨ext_getD ?_ (fun j hj => ?_), fun j hj => ?_⟩
  · unfold ct at hl ⊢
    rw [e1, e2, List.length_take, hsl, List.length_take, List.length_append, hl]
    simp
    omega
  · have hj' : j < z := by unfold ct at hj; rw [e1, List.length_take] at hj; omega
    unfold ct at hl ⊢
    rw [e1, e2, getD_take _ _ _ hj', getD_take _ _ _ hj', getD_app, hl, if_pos (by omega), getD_take _ _ _ (by omega), getD_splice_out _ _ _ _ hfit (by omega)]
  · rw [e1] at hj
    rw [e2]
    by_cases q : j < 96
    · obtain ⟨k, rfl⟩ : ∃ k, j = z + k := ⟨j - z, by omega⟩
      rw [getD_splice_in _ _ _ _ hfit (by simp; omega)]
      exact getD_zeros _ _
    · exact getD_over _ _ (by omega)
end Go.Proofs.YtliekndkjjaldaaGreat
