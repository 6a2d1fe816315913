/- What settle, takeLink and Drop do to a file. -/
import Derived.Test.YtdnblbahecpmkaaGreatNCut
import Derived.Test.YtdnblbahecpmkaaGreatNTkName
namespace Go.Proofs.YtdnblbahecpmkaaGreat
open Go.RowKit Go.ChangeMaps Go.MapKept
set_option linter.unusedVariables false
set_option maxRecDepth 20000

/-- A number without a node. -/
def Sg.gone (S : Sg) (f : Nat) : Sg := { S with P := updN S.P f noNd, L := fun i => if i = f then 0 else S.L i, N := fun i => if i = f then (fun _ => 0) else S.N i }

theorem Sy.gone {w : World} {p : Nat} {S : Sg} (h : Sy w p S) (f : Nat) (h1 : f < 17) (h2 : f ≠ 0) (hf1 : f ≠ 1) : Sy (w.setCells p (1 + f * 107) (nodeC 0 0 (.map none))) p (S.gone f) := by
  obtain ⟨C, hb, hc⟩ := h.blk
  have hl := hc.len
  have hln := nodeC_len 0 0 (.map none)
  have hs : 1 + f * 107 + (nodeC 0 0 (.map none)).length ≤ C.length := by rw [hl, hln]; omega
  have u := upd_setCells p (nodeC 0 0 (.map none)) (1 + f * 107) w
  refine ⟨⟨_, heap_setCells p 94 (nodeC 0 0 (.map none)) _ w C hb hs, hc.put f h1 noNd noNd_ok (by rw [length_splice _ _ _ hs, hl]) (fun j hj => getElem?_splice_out _ _ _ _ hs (by rw [hln]; omega)) (fun j hj => by rw [ndC_no]; exact getElem?_splice_in C _ (1 + f * 107) j hs (by rw [hln]; exact hj))⟩, ?_, ?_, ?_, ?_, ?_, ?_, ?_, ?_⟩
  · intro i hi
    by_cases e : i = f
    · subst e
      show Nms _ (updN S.P i noNd i).m (if i = i then 0 else S.L i) (if i = i then (fun _ => 0) else S.N i)
      rw [updN_same, if_pos rfl, if_pos rfl]
      exact ⟨rfl, fun _ => rfl⟩
    · show Nms _ (updN S.P f noNd i).m (if i = f then 0 else S.L i) (if i = f then (fun _ => 0) else S.N i)
      rw [updN_ne _ _ _ _ e, if_neg e, if_neg e]
      exact (h.nms i hi).block (fun c hc => u.block c (h.foot_lt c (.inr ⟨i, hi, hc⟩)) (fun q => h.np i hi (q ▸ hc)))
  · intro i s hi
    show (if i = f then (fun _ => 0) else S.N i) s < 17
    split
    · show 0 < 17
      omega
    · exact h.to i s hi
  · intro i hi
    show (if i = f then 0 else S.L i) ≤ 6
    split
    · omega
    · exact h.le i hi
  · intro i j b hi hj q1 q2
    change (updN S.P f noNd i).m = some b at q1
    change (updN S.P f noNd j).m = some b at q2
    by_cases e : i = f
    · subst e; rw [updN_same] at q1; simp [noNd] at q1
    · by_cases e' : j = f
      · subst e'; rw [updN_same] at q2; simp [noNd] at q2
      · rw [updN_ne _ _ _ _ e] at q1
        rw [updN_ne _ _ _ _ e'] at q2
        exact h.ap i j b hi hj q1 q2
  · intro i hi
    show (updN S.P f noNd i).m ≠ some p
    by_cases e : i = f
    · subst e; rw [updN_same]; simp [noNd]
    · rw [updN_ne _ _ _ _ e]; exact h.np i hi
  · intro i hi q
    change (updN S.P f noNd i).k = 2 at q
    show (updN S.P f noNd i).m.isSome = true
    by_cases e : i = f
    · subst e; rw [updN_same] at q; simp [noNd] at q
    · rw [updN_ne _ _ _ _ e] at q ⊢; exact h.dir i hi q
  · show (updN S.P f noNd 1).k = 2
    rw [updN_ne _ _ _ _ (fun e => hf1 e.symm)]; exact h.root
  · show (updN S.P f noNd 0).k = 0
    rw [updN_ne _ _ _ _ (fun e => h2 e.symm)]; exact h.zero

theorem builtNode0 : Tryz.prog.built 90 [] = some (nodeC 0 0 (.map none)).toArray := by kernel_rfl

set_option maxHeartbeats 1000000 in
theorem fblocks_any (p : Nat) (S : Sg) (w : World) (H : Sy w p S) (i : Nat) (hi : i < 17) (s : Nat) (hs : (S.P i).s = s) (h96 : s ≤ 96) :
    Calls Tryz.prog 72 #[.pointer (some ⟨p, 1 + i * 107, none⟩)] w fun e w' => e = .returned (.slice (some ⟨p, 1 + i * 107 + 100, none⟩) ((s + 15) / 16) 6) ∧ w' = w.drew := by
  have c := H.s i hi
  rw [hs] at c
  have k0 := hid (fun W => needed_any s (by omega) W)
  obtain ⟨q, gq⟩ : ∃ q, q = (s + 15) / 16 := ⟨_, rfl⟩
  have hq : q ≤ 6 := by omega
  rw [← gq] at k0 ⊢
  have hq' : (q : Int) ≤ 6 := by omega
  clear H hs gq
  go_enter Tryz.func72, Tryz.ntmps72
  go_wp2_with fail
  go_region_held3 (fun W => W.cell? ⟨p, 1 + i * 107 + 3, none⟩ = some (.int .i64 (s : Int))) (go_keep) ((go_at_call 76; refine (k0.out _).mono ?_; rintro e w' ⟨rfl, rfl⟩))
  all_goals go_wp2_with fail
  all_goals go_ret
  all_goals exact ⟨rfl, rfl⟩

set_option maxHeartbeats 1000000 in
theorem settle_stay (p : Nat) (S : Sg) (w : World) (H : Sy w p S) (i : Nat) (hi : i < 17) (hl : (S.P i).l = 0) (n : Nat) (hh : (S.P i).h = (n : Int)) (hn : 0 < n) :
    Calls Tryz.prog 82 #[.pointer (some ⟨p, 0, none⟩), .int .i64 (i : Int)] w fun e w' => e = .returned (.tuple #[]) ∧ w' = w := by
  have c := H.h i hi
  rw [hh] at c
  have d := H.l i hi
  rw [hl] at d
  have hi0 : (0 : Int) ≤ (i : Int) := by omega
  have hi1 : (i : Int) < 17 := by omega
  have hn' : (0 : Int) < (n : Int) := by omega
  clear H hl hh
  go_enter Tryz.func82, Tryz.ntmps82
  go_wp2_with fail
  (try simp only [Exit.inBlock, Exit.then])
  refine bodyPost_ret (results_none rfl _ _ _) rfl ?_
  exact ⟨rfl, rfl⟩

set_option maxHeartbeats 4000000 in
theorem settle_go (p : Nat) (S : Sg) (w : World) (i : Nat) (hi : i < 17) (hi0 : i ≠ 0) (hi1 : i ≠ 1) (x : Nd) (T : Nat → Bool) (H : Sy w p (S.bl i x T)) (hd : S.d = 0) (hl : x.l = 0) (hh : x.h = 0) (hs : x.s ≤ 96) (hB : Bok x T (need x.s)) :
    Calls Tryz.prog 82 #[.pointer (some ⟨p, 0, none⟩), .int .i64 (i : Int)] w fun e w' => e = .returned (.tuple #[]) ∧ (∃ T', Sy w' p ((S.bl i x T').gone i) ∧ cnt T' 25 = 0) ∧ Upd (· = p) w w' := by
  have hP : (S.bl i x T).P i = x := updN_same _ _ _
  have c := H.h i hi
  rw [hP, hh] at c
  have d := H.l i hi
  rw [hP, hl] at d
  have a0 : (0 : Int) ≤ (i : Int) := by omega
  have a1 : (i : Int) < 17 := by omega
  have k1 := hid (fblocks_any p (S.bl i x T) w H i hi x.s (by rw [hP]) hs)
  have k2 := hid (release_any p S w.drew i hi x T (H.hp rfl) hd 0 (need x.s) 6 (1 + i * 107 + 100) (fun _ => by omega) (by unfold need; omega) (by unfold need; omega) (Nat.le_refl _) (by simpa using hB))
  rw [show (x.s + 15) / 16 = need x.s from rfl] at k1
  obtain ⟨q, gq⟩ : ∃ q, q = need x.s := ⟨_, rfl⟩
  rw [← gq] at k1 k2
  clear H hd hl hh hs hB hP gq
  go_enter Tryz.func82, Tryz.ntmps82
  go_wp2_with fail
  refine k1.out.mono ?_
  rintro e w1 ⟨rfl, rfl⟩
  clear k1
  go_wp2_with fail
  refine k2.out.mono ?_
  rintro e w2 ⟨rfl, ⟨T', hS, hB⟩, u⟩
  clear k2 c d
  obtain ⟨N, gN⟩ : ∃ N, N = nodeC 0 0 (.map none) := ⟨_, rfl⟩
  have HBT : Hid (Tryz.prog.built 90 [] = some N.toArray) := by rw [gN]; exact hid builtNode0
  have HLN : Hid (N.length = 107) := by rw [gN]; exact hid (nodeC_len _ _ _)
  have H1 : Hid (N.toArray.all (·.oneCell') = true) := by rw [gN]; exact hid (nodeC_one _ _ _)
  have HSZ : Hid ((Tryz.prog.info? 90).map (·.size) = some N.toArray.size) := by rw [List.size_toArray, HLN.out]; exact hid csizeNode
  have HTH : Hid (w2.there p (1 + i * 107) N.toArray.size) := by
    obtain ⟨C, hb, hc⟩ := hS.blk
    rw [List.size_toArray, HLN.out]
    exact hid (there_of_block hb _ _ (by rw [hc.len]; omega))
  have HQ : Hid ((∃ T', Sy (w2.setCells p (1 + i * 107) N) p ((S.bl i x T').gone i) ∧ cnt T' 25 = 0) ∧ Upd (· = p) w (w2.setCells p (1 + i * 107) N)) := by
    rw [gN]
    exact hid ⟨⟨T', hS.gone i hi hi0 hi1, hB.n⟩, (((Upd.refl (· = p) w).drewN 1).trans u (fun _ _ h => h)).trans (upd_setCells p _ _ w2) (fun x _ h => h)⟩
  clear gN hS hB u
  go_wp2_with (first
    | (refine wpList_build_is rfl 90 #[] rfl N.toArray (by simpa [Act.eval] using HBT.out) ?_)
    | (refine wpList_store_mid rfl 90 (.tmp 28) (.tmp 27) rfl p (1 + i * 107) N.toArray rfl rfl HTH.out HSZ.out H1.out ?_))
  go_end0
  exact ⟨rfl, HQ.out⟩

end Go.Proofs.YtdnblbahecpmkaaGreat
