/- Texts of this seat, merged. -/
import Derived.Test.YtbglhmcahnkbfaaGreatHMg21
import Derived.Lib.SliceRun
import Derived.Test.YtbglhmcahnkbfaaGreatHMg19
import Derived.Test.YtbglhmcahnkbfaaGreatHMg1
import Derived.Test.YtbglhmcahnkbfaaGreatHMg5

/- What has, release and cut do to a file that is alone in its system. -/
namespace Go.Proofs.YtbglhmcahnkbfaaGreat
open Go.RowKit Go.ChangeMaps Go.MapKept
set_option linter.unusedVariables false
set_option maxRecDepth 20000

end Go.Proofs.YtbglhmcahnkbfaaGreat

/- What settle, takeLink and Drop do to a file. -/
namespace Go.Proofs.YtbglhmcahnkbfaaGreat
open Go.RowKit Go.ChangeMaps Go.MapKept
set_option linter.unusedVariables false
set_option maxRecDepth 20000

/-- A number without a node. -/
def Sg.gone (S : Sg) (f : Nat) : Sg := { S with P := updN S.P f noNd, L := fun i => if i = f then 0 else S.L i, N := fun i => if i = f then (fun _ => 0) else S.N i }

theorem Sy.gone {w : World} {p : Nat} {S : Sg} (h : Sy w p S) (f : Nat) (h1 : f < 17) (h2 : f ≠ 0) (hf1 : f ≠ 1) : Sy (w.setCells p (1 + f * 107) (nodeC 0 0 (.map none))) p (S.gone f) := by
  obtain ⟨C, hb, hc⟩ := h.blk
  have hl := hc.len
  have hln := nodeC_len 0 0 (.map none)
  have hs : 1 + f * 107 + (nodeC 0 0 (.map none)).length ≤ C.length := by rw [hl, hln]; omega
  have u := upd_setCells p (nodeC 0 0 (.map none)) (1 + f * 107) w
  refine ⟨⟨_, heap_setCells p 150 (nodeC 0 0 (.map none)) _ w C hb hs, hc.put f h1 noNd noNd_ok (by rw [length_splice _ _ _ hs, hl]) (fun j hj => getElem?_splice_out _ _ _ _ hs (by rw [hln]; omega)) (fun j hj => by rw [ndC_no]; exact getElem?_splice_in C _ (1 + f * 107) j hs (by rw [hln]; exact hj))⟩, ?_, ?_, ?_, ?_, ?_, ?_, ?_, ?_⟩
  · intro i hi
    by_cases e : i = f
    · subst e
      show Nms _ (updN S.P i noNd i).m (if i = i then 0 else S.L i) (if i = i then (fun _ => 0) else S.N i)
      rw [updN_same, if_pos rfl, if_pos rfl]
      exact ⟨rfl, fun _ => rfl⟩
    · show Nms _ (updN S.P f noNd i).m (if i = f then 0 else S.L i) (if i = f then (fun _ => 0) else S.N i)
      rw [updN_ne _ _ _ _ e, if_neg e, if_neg e]
      exact (h.nms i hi).block (fun c hc => u.block c (h.foot_lt c (.inr ⟨i, hi, hc⟩)) (fun q => h.np i hi (q ▸ hc)))
  · intro i s hi
    show (if i = f then (fun _ => 0) else S.N i) s < 17
    split
    · show 0 < 17
      omega
    · exact h.to i s hi
  · intro i hi
    show (if i = f then 0 else S.L i) ≤ 6
    split
    · omega
    · exact h.le i hi
  · intro i j b hi hj q1 q2
    change (updN S.P f noNd i).m = some b at q1
    change (updN S.P f noNd j).m = some b at q2
    by_cases e : i = f
    · subst e; rw [updN_same] at q1; simp [noNd] at q1
    · by_cases e' : j = f
      · subst e'; rw [updN_same] at q2; simp [noNd] at q2
      · rw [updN_ne _ _ _ _ e] at q1
        rw [updN_ne _ _ _ _ e'] at q2
        exact h.ap i j b hi hj q1 q2
  · intro i hi
    show (updN S.P f noNd i).m ≠ some p
    by_cases e : i = f
    · subst e; rw [updN_same]; simp [noNd]
    · rw [updN_ne _ _ _ _ e]; exact h.np i hi
  · intro i hi q
    change (updN S.P f noNd i).k = 2 at q
    show (updN S.P f noNd i).m.isSome = true
    by_cases e : i = f
    · subst e; rw [updN_same] at q; simp [noNd] at q
    · rw [updN_ne _ _ _ _ e] at q ⊢; exact h.dir i hi q
  · show (updN S.P f noNd 1).k = 2
    rw [updN_ne _ _ _ _ (fun e => hf1 e.symm)]; exact h.root
  · show (updN S.P f noNd 0).k = 0
    rw [updN_ne _ _ _ _ (fun e => h2 e.symm)]; exact h.zero

theorem builtNode0 : Tryz.prog.built 144 [] = some (nodeC 0 0 (.map none)).toArray := by kernel_rfl

set_option maxHeartbeats 1000000 in
theorem fblocks_any (p : Nat) (S : Sg) (w : World) (H : Sy w p S) (i : Nat) (hi : i < 17) (s : Nat) (hs : (S.P i).s = s) (h96 : s ≤ 96) :
    Calls Tryz.prog 127 #[.pointer (some ⟨p, 1 + i * 107, none⟩)] w fun e w' => e = .returned (.slice (some ⟨p, 1 + i * 107 + 100, none⟩) ((s + 15) / 16) 6) ∧ w' = w.drew := by
  have c := H.s i hi
  rw [hs] at c
  have k0 := hid (fun W => needed_any s (by omega) W)
  obtain ⟨q, gq⟩ : ∃ q, q = (s + 15) / 16 := ⟨_, rfl⟩
  have hq : q ≤ 6 := by omega
  rw [← gq] at k0 ⊢
  have hq' : (q : Int) ≤ 6 := by omega
  clear H hs gq
  go_enter Tryz.func127, Tryz.ntmps127
  go_wp2_with fail
  go_region_held3 (fun W => W.cell? ⟨p, 1 + i * 107 + 3, none⟩ = some (.int .i64 (s : Int))) (go_keep) ((go_at_call 135; refine (k0.out _).mono ?_; rintro e w' ⟨rfl, rfl⟩))
  all_goals go_wp2_with fail
  all_goals go_ret
  all_goals exact ⟨rfl, rfl⟩

end Go.Proofs.YtbglhmcahnkbfaaGreat

/- What takeLink, Unlink and Drop do to a file that is alone in its system. -/
namespace Go.Proofs.YtbglhmcahnkbfaaGreat
open Go.RowKit Go.ChangeMaps Go.MapKept
set_option linter.unusedVariables false
set_option maxRecDepth 20000

end Go.Proofs.YtbglhmcahnkbfaaGreat

/- What has, release, settle and takeLink do to any system. -/
namespace Go.Proofs.YtbglhmcahnkbfaaGreat
open Go.RowKit Go.ChangeMaps Go.MapKept
set_option linter.unusedVariables false
set_option maxRecDepth 20000

theorem dfc_ne (d b : Int) : (bits .and .i64 d b != 0) = dfc d b := by rw [Bool.eq_iff_iff]; simp [dfc, bne]

set_option maxHeartbeats 1000000 in
theorem has_any (p : Nat) (S : Sg) (w : World) (H : Sy w p S) (b : Int) : Calls Tryz.prog 150 #[.pointer (some ⟨p, 0, none⟩), .int .i64 b] w fun e w' => e = .returned (.bool (dfc S.d b)) ∧ w' = w := by
  have c := H.df
  have h := dfc_ne S.d b
  obtain ⟨R, gR⟩ : ∃ R, R = dfc S.d b := ⟨_, rfl⟩
  rw [← gR] at h ⊢
  clear H gR
  go_enter Tryz.func150, Tryz.ntmps150
  go_wp2_with fail
  go_ret
  exact ⟨rfl, rfl⟩

/-- Marks that are let go. -/
def relT (d : Int) (bs : List Nat) (T : Nat → Bool) : Nat → Bool := if dfc d 2 = true then T else fun b => if b ∈ bs then false else T b
def Sg.tk (S : Sg) (T : Nat → Bool) : Sg := { S with T := T }

set_option maxHeartbeats 4000000 in
theorem release_gen (p : Nat) (S : Sg) (w : World) (H : Sy w p S) (i : Nat) (hi : i < 17) (q n c o : Nat) (ho : 0 < n → o = 1 + i * 107 + (100 + q)) (hq : q + n ≤ 6) (hn : n ≤ c) (hc : c ≤ 6) (bs : List Nat) (hl : bs.length = n)
    (hb : ∀ j, j < n → (S.P i).B.getD (q + j) 0 = ((bs.getD j 0 : Nat) : Int)) (hlt : ∀ b ∈ bs, b < 25) :
    Calls Tryz.prog 134 #[.pointer (some ⟨p, 0, none⟩), .slice (some ⟨p, o, none⟩) n c] w fun e w' => e = .returned (.tuple #[]) ∧ Sy w' p (S.tk (relT S.d bs S.T)) ∧ Upd (· = p) w w' := by
  have k0 := hid (has_any p S w H 2)
  by_cases hd : dfc S.d 2 = true
  · rw [hd] at k0
    have e : S.tk (relT S.d bs S.T) = S := by unfold relT Sg.tk; rw [if_pos hd]
    rw [e]
    have HS := hid H
    clear H hd e hb hlt ho
    go_enter Tryz.func134, Tryz.ntmps134
    go_wp2_with fail
    refine k0.out.mono ?_
    rintro e w1 ⟨rfl, rfl⟩
    clear k0
    go_wp2_with fail
    (try simp only [Exit.inBlock, Exit.then])
    refine bodyPost_ret (results_none rfl _ _ _) rfl ?_
    exact ⟨rfl, HS.out, Upd.refl _ _⟩
  · rw [show dfc S.d 2 = false by simpa using hd] at k0
    have e : relT S.d bs S.T = fun b => if b ∈ bs then false else S.T b := by unfold relT; rw [if_neg hd]
    rw [e]
    have H0 : Hid (∃ T', Sy w p (S.tk T') ∧ (∀ b, T' b = if b ∈ bs.take 0 then false else S.T b) ∧ Upd (· = p) w w) := hid ⟨S.T, H, fun b => by simp, Upd.refl _ _⟩
    have HOO := hid ho
    have HBB := hid hb
    have HLT := hid (And.intro hl hlt)
    clear H hd e ho hb hlt hl
    go_enter Tryz.func134, Tryz.ntmps134
    go_wp2_with fail
    refine k0.out.mono ?_
    rintro e w1 ⟨rfl, rfl⟩
    clear k0
    go_wp2_with fail
    go_loopw [5, 10] (fun v5 v10 wr => ∃ k : Nat, k ≤ n ∧ v10 = .int .i64 (k : Int) ∧ Hid (∃ T', Sy wr p (S.tk T') ∧ (∀ b, T' b = if b ∈ bs.take k then false else S.T b) ∧ Upd (· = p) w1 wr)) (fun _ v10 _ => n - (intOf v10).toNat)
    case atStart => exact ⟨0, by omega, rfl, H0⟩
    case round =>
      clear H0
      obtain ⟨k, hkn, rfl, HQ⟩ := hrel
      by_cases e : k = n
      · subst e
        go_wp2_with fail
        go_end0
        obtain ⟨T', h1, h2, h3⟩ := HQ.out
        have e : T' = fun b => if b ∈ bs then false else S.T b := by
          funext b
          rw [h2, List.take_of_length_le (by have := HLT.out.1; omega)]
        rw [← e]
        exact ⟨rfl, h1, h3⟩
      · have hk : k < n := by omega
        have hk2 : (k : Int) < (n : Int) := by omega
        have hk0 : (0 : Int) ≤ (k : Int) := by omega
        obtain ⟨T', h1, h2, h3⟩ := HQ.out
        obtain ⟨b, gb⟩ : ∃ b, b = bs.getD k 0 := ⟨_, rfl⟩
        have hkl : k < bs.length := by have := HLT.out.1; omega
        have hget : bs[k] = b := by rw [gb, List.getD_eq_getElem?_getD, List.getElem?_eq_getElem hkl]; rfl
        have e3 : b < 25 := HLT.out.2 b (by rw [← hget]; exact List.getElem_mem _)
        have hcell := h1.B i hi (q + k) (by omega)
        have hB1 := HBB.out k hk
        rw [← gb] at hB1
        rw [show ((S.tk T').P i).B.getD (q + k) 0 = (b : Int) from hB1, show 1 + i * 107 + (100 + (q + k)) = o + k by have := HOO.out (by omega); omega] at hcell
        have ht := h1.t b e3
        have hf := h1.fz (1820 + b)
        have b0 : (0 : Int) ≤ (b : Int) := by omega
        have b1 : (b : Int) < 25 := by omega
        have hm := h1.mark b e3 false
        have HQ4 : Hid (∃ T', Sy (wr.setCell ⟨p, 1820 + b, none⟩ (.bool false)) p (S.tk T') ∧ (∀ b, T' b = if b ∈ bs.take (k + 1) then false else S.T b) ∧ Upd (· = p) w1 (wr.setCell ⟨p, 1820 + b, none⟩ (.bool false))) := by
          refine hid ⟨updT T' b false, hm, fun x => ?_, h3.trans (Upd.setCell (F := (· = p)) wr ⟨p, _, none⟩ _ rfl) (fun _ _ h => h)⟩
          rw [List.take_succ_eq_append_getElem hkl, hget]
          by_cases ex : x = b
          · subst ex; rw [updT_same]; simp
          · rw [updT_ne _ _ _ _ ex, h2]; simp [ex]
        clear h1 h2 h3 hm HQ e hB1 gb hget hkl
        go_wp2_with fail
        go_roundw
        case rel => exact ⟨k + 1, by omega, by go_num, HQ4⟩
        case measure => simp [intOf]; omega

set_option maxHeartbeats 1000000 in
theorem settle_keep (p : Nat) (S : Sg) (w : World) (H : Sy w p S) (i : Nat) (hi : i < 17) (hh : 0 < (S.P i).l ∨ 0 < (S.P i).h) :
    Calls Tryz.prog 211 #[.pointer (some ⟨p, 0, none⟩), .int .i64 (i : Int)] w fun e w' => e = .returned (.tuple #[]) ∧ w' = w := by
  have c := H.h i hi
  have d := H.l i hi
  obtain ⟨l, gl⟩ : ∃ l, l = (S.P i).l := ⟨_, rfl⟩
  obtain ⟨h, gh⟩ : ∃ h, h = (S.P i).h := ⟨_, rfl⟩
  rw [← gl] at hh d
  rw [← gh] at hh c
  have hi0 : (0 : Int) ≤ (i : Int) := by omega
  have hi1 : (i : Int) < 17 := by omega
  clear H gl gh
  by_cases q : 0 < l
  · clear hh
    go_enter Tryz.func211, Tryz.ntmps211
    go_wp2_with fail
    (try simp only [Exit.inBlock, Exit.then])
    refine bodyPost_ret (results_none rfl _ _ _) rfl ?_
    exact ⟨rfl, rfl⟩
  · have q2 : 0 < h := by omega
    clear hh
    go_enter Tryz.func211, Tryz.ntmps211
    go_wp2_with fail
    (try simp only [Exit.inBlock, Exit.then])
    refine bodyPost_ret (results_none rfl _ _ _) rfl ?_
    exact ⟨rfl, rfl⟩

set_option maxHeartbeats 4000000 in
theorem settle_gone (p : Nat) (S : Sg) (w : World) (H : Sy w p S) (i : Nat) (hi : i < 17) (hi0 : i ≠ 0) (hi1 : i ≠ 1) (hl : ¬ 0 < (S.P i).l) (hh : ¬ 0 < (S.P i).h) (hs : (S.P i).s ≤ 96) (bs : List Nat) (hbl : bs.length = need (S.P i).s)
    (hb : ∀ j, j < need (S.P i).s → (S.P i).B.getD j 0 = ((bs.getD j 0 : Nat) : Int)) (hlt : ∀ b ∈ bs, b < 25) :
    Calls Tryz.prog 211 #[.pointer (some ⟨p, 0, none⟩), .int .i64 (i : Int)] w fun e w' => e = .returned (.tuple #[]) ∧ Sy w' p ((S.tk (relT S.d bs S.T)).gone i) ∧ Upd (· = p) w w' := by
  have c := H.h i hi
  have d := H.l i hi
  have a0 : (0 : Int) ≤ (i : Int) := by omega
  have a1 : (i : Int) < 17 := by omega
  have k1 := hid (fblocks_any p S w H i hi _ rfl hs)
  rw [show ((S.P i).s + 15) / 16 = need (S.P i).s from rfl] at k1
  have k2 := hid (release_gen p S w.drew (H.hp rfl) i hi 0 (need (S.P i).s) 6 (1 + i * 107 + 100) (fun _ => by omega) (by unfold need; omega) (by unfold need; omega) (Nat.le_refl _) bs hbl (fun j hj => by rw [Nat.zero_add]; exact hb j hj) hlt)
  obtain ⟨q, gq⟩ : ∃ q, q = need (S.P i).s := ⟨_, rfl⟩
  obtain ⟨l, gl⟩ : ∃ l, l = (S.P i).l := ⟨_, rfl⟩
  obtain ⟨h, gh⟩ : ∃ h, h = (S.P i).h := ⟨_, rfl⟩
  rw [← gl] at hl d
  rw [← gh] at hh c
  rw [← gq] at k1 k2
  clear H hs gq gl gh hb hlt hbl
  go_enter Tryz.func211, Tryz.ntmps211
  go_wp2_with fail
  refine k1.out.mono ?_
  rintro e w1 ⟨rfl, rfl⟩
  clear k1
  go_wp2_with fail
  refine k2.out.mono ?_
  rintro e w2 ⟨rfl, hS, u⟩
  clear k2 c d
  obtain ⟨N, gN⟩ : ∃ N, N = nodeC 0 0 (.map none) := ⟨_, rfl⟩
  have HBT : Hid (Tryz.prog.built 144 [] = some N.toArray) := by rw [gN]; exact hid builtNode0
  have HLN : Hid (N.length = 107) := by rw [gN]; exact hid (nodeC_len _ _ _)
  have H1 : Hid (N.toArray.all (·.oneCell') = true) := by rw [gN]; exact hid (nodeC_one _ _ _)
  have HSZ : Hid ((Tryz.prog.info? 144).map (·.size) = some N.toArray.size) := by rw [List.size_toArray, HLN.out]; exact hid csizeNode
  have HTH : Hid (w2.there p (1 + i * 107) N.toArray.size) := by
    obtain ⟨C, hb, hc⟩ := hS.blk
    rw [List.size_toArray, HLN.out]
    exact hid (there_of_block hb _ _ (by rw [hc.len]; omega))
  have HQ : Hid (Sy (w2.setCells p (1 + i * 107) N) p ((S.tk (relT S.d bs S.T)).gone i) ∧ Upd (· = p) w (w2.setCells p (1 + i * 107) N)) := by
    rw [gN]
    exact hid ⟨hS.gone i hi hi0 hi1, (((Upd.refl (· = p) w).drewN 1).trans u (fun _ _ h => h)).trans (upd_setCells p _ _ w2) (fun x _ h => h)⟩
  clear gN hS u
  go_wp2_with (first
    | (refine wpList_build_is rfl 144 #[] rfl N.toArray (by simpa [Act.eval] using HBT.out) ?_)
    | (refine wpList_store_mid rfl 144 (.tmp 28) (.tmp 27) rfl p (1 + i * 107) N.toArray rfl rfl HTH.out HSZ.out H1.out ?_))
  go_end0
  exact ⟨rfl, HQ.out⟩

end Go.Proofs.YtbglhmcahnkbfaaGreat

/- What a file holds: bytes of its row, noughts behind them. -/
namespace Go.Proofs.YtbglhmcahnkbfaaGreat
open Go.RowKit Go.ChangeMaps Go.MapKept
set_option linter.unusedVariables false
set_option maxRecDepth 20000

/-- What a file holds; behind its size there are noughts. -/
def ct (x : Nd) : List Int := x.b.take x.s
theorem ext_getD {l m : List Int} (hl : l.length = m.length) (h : ∀ j, j < l.length → l.getD j 0 = m.getD j 0) : l = m := by
  apply List.ext_getElem hl
  intro j h1 h2
  have := h j h1
  rw [List.getD_eq_getElem?_getD, List.getD_eq_getElem?_getD, List.getElem?_eq_getElem h1, List.getElem?_eq_getElem h2] at this
  exact this
theorem getD_take (l : List Int) (n j : Nat) (h : j < n) : (l.take n).getD j 0 = l.getD j 0 := by
  rw [List.getD_eq_getElem?_getD, List.getElem?_take_of_lt h, List.getD_eq_getElem?_getD]
theorem getD_zeros (n j : Nat) : (List.replicate n (0 : Int)).getD j 0 = 0 := by
  rw [List.getD_eq_getElem?_getD, List.getElem?_replicate]
  split <;> rfl
theorem getD_app (l : List Int) (n j : Nat) : (l ++ List.replicate n (0 : Int)).getD j 0 = if j < l.length then l.getD j 0 else 0 := by
  rw [List.getD_eq_getElem?_getD]
  split
  · rename_i h
    rw [List.getElem?_append_left h, List.getD_eq_getElem?_getD]
  · rename_i h
    rw [List.getElem?_append_right (by omega), ← List.getD_eq_getElem?_getD]
    exact getD_zeros _ _
theorem getD_over (l : List Int) (j : Nat) (h : l.length ≤ j) : l.getD j 0 = 0 := by
  rw [List.getD_eq_getElem?_getD, List.getElem?_eq_none h]; rfl
end Go.Proofs.YtbglhmcahnkbfaaGreat

/- The program's system beside the one without memory. -/
namespace Go.Proofs.YtbglhmcahnkbfaaGreat
open Go.RowKit Go.ChangeMaps Go.MapKept
set_option linter.unusedVariables false
set_option maxRecDepth 20000

structure NdR (x : Nd) (y : Fn) : Prop where
  k : x.k = y.k
  l : x.l = y.l
  h : x.h = y.h
  s : x.s = y.c.length
  b : x.b.take x.s = y.c
  z : ∀ j, x.s ≤ j → x.b.getD j 0 = 0
  B : ∀ j, j < y.B.length → x.B.getD j 0 = ((y.B.getD j 0 : Nat) : Int)

structure Rel (S : Sg) (F : Fs) : Prop where
  d : S.d = F.d
  T : S.T = F.T
  P : ∀ i, i < 17 → NdR (S.P i) (F.P i)
  L : ∀ i, i < 17 → S.L i = (F.P i).Q.length
  N : ∀ i, i < 17 → ∀ s, S.N i s = lk (F.P i).Q s

theorem NdR.no : NdR noNd Fn.no := ⟨rfl, rfl, rfl, rfl, by simp [noNd, Fn.no], fun j _ => getD_zeros 96 j, fun j hj => by simp [Fn.no] at hj⟩
theorem NdR.nu (k : Int) (m : Option Nat) : NdR (newNd k m) (Fn.nu k) := ⟨rfl, rfl, rfl, rfl, by simp [newNd, Fn.nu], fun j _ => getD_zeros 96 j, fun j hj => by simp [Fn.nu] at hj⟩

theorem Rel.root (m : Nat) (d : Int) : Rel { rootG m with d := d } (rootF d) := by
  refine ⟨rfl, rfl, fun i _ => ?_, fun i _ => ?_, fun i _ s => ?_⟩
  · show NdR (if i = 1 then newNd 2 (some m) else noNd) (if i = 1 then Fn.nu 2 else Fn.no)
    split
    · exact NdR.nu 2 _
    · exact NdR.no
  · show 0 = (if i = 1 then Fn.nu 2 else Fn.no).Q.length
    split <;> rfl
  · show 0 = lk (if i = 1 then Fn.nu 2 else Fn.no).Q s
    split <;> rfl

theorem wk_congr (K K' : Nat → Int) (N N' : Nat → List UInt8 → Nat) (hK : ∀ i, i < 17 → K i = K' i) (hN : ∀ i, i < 17 → ∀ s, N i s = N' i s) (h17 : ∀ i, i < 17 → ∀ s, N i s < 17) :
    ∀ (l : List (List UInt8)) (n : Nat) (y : List Nat), n < 17 → wk K N n y l = wk K' N' n y l
  | [], n, y, _ => rfl
  | q :: r, n, y, hn => by
    cases r with
    | nil => simp only [wk, hK n hn, hN n hn]
    | cons z t =>
      have := wk_congr K K' N N' hK hN h17 (z :: t) (N n q) (y ++ [n]) (h17 n hn q)
      simp only [wk, hK n hn] at this ⊢
      rw [this, hN n hn]

theorem Rel.walk {w : World} {p : Nat} {S : Sg} {F : Fs} (H : Sy w p S) (R : Rel S F) (t : ByteArray) : wkS S t = F.walk (bl t) := by
  unfold wkS Fs.walk
  split
  · rw [wk_congr (fun i => (S.P i).k) F.K S.N F.N (fun i hi => (R.P i hi).k) (fun i hi s => R.N i hi s) (fun i hi s => H.to i s hi) _ 1 [] (by omega)]
  · rfl

theorem countP_lt {p q : Nat → Bool} (hpq : ∀ i, p i = true → q i = true) (x : Nat) (hx : q x = true) (hn : p x = false) : ∀ l : List Nat, x ∈ l → l.countP p < l.countP q
  | [], h => by simp at h
  | y :: r, h => by
    have hle : r.countP p ≤ r.countP q := List.countP_mono_left (fun i _ => hpq i)
    rw [List.countP_cons, List.countP_cons]
    rcases List.mem_cons.1 h with e | h
    · subst e
      rw [hx, hn]; simp; omega
    · have := countP_lt hpq x hx hn r h
      have h2 : (if p y = true then 1 else 0) ≤ (if q y = true then 1 else 0 : Nat) := by
        by_cases e : p y = true
        · rw [if_pos e, if_pos (hpq y e)]; exact Nat.le_refl _
        · rw [if_neg e]; omega
      omega

/-- A system that calls made leads nowhere back. -/
theorem Rel.tree {S : Sg} {F : Fs} (R : Rel S F) (H : FOk F) : Tree S := by
  obtain ⟨rk, hr⟩ := H.tree
  refine ⟨fun i => (List.range 17).countP (fun j => decide (rk j < rk i)), ?_, fun i s hi hn => ?_⟩
  · have h1 := countP_lt (p := fun j => decide (rk j < rk 1)) (q := fun _ => true) (fun _ _ => rfl) 1 rfl (by simp) (List.range 17) (by simp)
    have h2 := List.countP_le_length (p := fun _ => true) (l := List.range 17)
    simp only [List.length_range] at h2
    exact Nat.le_of_lt_succ (Nat.lt_of_lt_of_le h1 h2)
  · rw [R.N i hi] at hn ⊢
    have hm := lk_mem hn
    have h1 := hr i _ hm
    obtain ⟨_, h17, _⟩ := H.nm i _ hm
    dsimp only at h1 h17
    exact countP_lt (fun j hj => by simp at hj ⊢; omega) _ (by simpa using h1) (by simp) _ (by simpa using h17)

theorem Rel.put {S : Sg} {F : Fs} (R : Rel S F) (H : FOk F) (dr : Nat) (s : List UInt8) (n : Nat) (hs : lk (F.P dr).Q s = 0) : Rel (S.put dr s n) (F.addn dr s n) := by
  refine ⟨R.d, R.T, fun i hi => ?_, fun i hi => ?_, fun i hi x => ?_⟩
  · have := R.P i hi
    rw [Fs.addn_P]
    exact ⟨this.k, this.l, this.h, this.s, this.b, this.z, this.B⟩
  · show (if i = dr then S.L dr + 1 else S.L i) = _
    rw [Fs.addn_P]
    dsimp only
    split
    · rename_i e; subst e
      rw [len_ins, R.L i hi]
    · exact R.L i hi
  · show (if i = dr then (fun x => if x = s then n else S.N dr x) else S.N i) x = _
    rw [Fs.addn_P]
    dsimp only
    split
    · rename_i e; subst e
      dsimp only
      rw [lk_ins (H.nk i hs), R.N i hi]
    · exact R.N i hi x
theorem Rel.at_ {S : Sg} {F : Fs} (R : Rel S F) (i : Nat) (x : Nd) (y : Fn) (h : NdR x y) (hQ : y.Q = (F.P i).Q) : Rel (S.at_ i x) (F.at_ i y) := by
  refine ⟨R.d, R.T, fun j hj => ?_, fun j hj => ?_, fun j hj s => ?_⟩
  · show NdR (updN S.P i x j) _
    rw [Fs.at_P]
    by_cases e : j = i
    · subst e; rw [updN_same, if_pos rfl]; exact h
    · rw [updN_ne _ _ _ _ e, if_neg e]; exact R.P j hj
  · rw [Fs.at_f Fn.Q F i y hQ]; exact R.L j hj
  · rw [Fs.at_f Fn.Q F i y hQ]; exact R.N j hj s
theorem Rel.hold {S : Sg} {F : Fs} (R : Rel S F) (i : Nat) (hi : i < 17) (l : Int) : Rel (S.at_ i ((S.P i).hold l)) (F.hld i l) := by
  have := R.P i hi
  exact R.at_ i _ _ ⟨this.k, this.l, rfl, this.s, this.b, this.z, this.B⟩ rfl
theorem Rel.gone {S : Sg} {F : Fs} (R : Rel S F) (i : Nat) (hQ : (F.P i).Q = []) (bs : List Nat) : Rel ((S.tk (relT S.d bs S.T)).gone i) ((F.relB bs).at_ i Fn.no) := by
  refine ⟨by show S.d = (F.relB bs).d; rw [relB_d]; exact R.d, ?_, fun j hj => ?_, fun j hj => ?_, fun j hj s => ?_⟩
  · show relT S.d bs S.T = (F.relB bs).T
    unfold relT Fs.relB
    rw [R.d, R.T]
    split <;> rfl
  · show NdR (updN S.P i noNd j) _
    rw [Fs.at_P, relB_P]
    by_cases e : j = i
    · subst e; rw [updN_same, if_pos rfl]; exact NdR.no
    · rw [updN_ne _ _ _ _ e, if_neg e]; exact R.P j hj
  · show (if j = i then 0 else S.L j) = _
    rw [Fs.at_P, relB_P]
    split
    · rfl
    · exact R.L j hj
  · show (if j = i then (fun _ => 0) else S.N j) s = _
    rw [Fs.at_P, relB_P]
    split
    · rfl
    · exact R.N j hj s

/-- The program's system, in blocks G at most. -/
def Pf (w : World) (p : Nat) (F : Fs) (G : Nat → Prop) : Prop := ∃ S, Sy w p S ∧ Rel S F ∧ ∀ x, S.foot p x → G x
theorem Pf.mono {w : World} {p : Nat} {F : Fs} {G G' : Nat → Prop} (h : Pf w p F G) (k : ∀ x, x < w.heap.size → G x → G' x) : Pf w p F G' := by
  obtain ⟨S, h1, h2, h3⟩ := h
  exact ⟨S, h1, h2, fun x hx => k x (h1.foot_lt x hx) (h3 x hx)⟩
theorem Pf.upd {w w' : World} {p : Nat} {F : Fs} {G U : Nat → Prop} (h : Pf w p F G) (u : Upd U w w') (k : ∀ x, x < w.heap.size → G x → ¬ U x) : Pf w' p F G := by
  obtain ⟨S, h1, h2, h3⟩ := h
  exact ⟨S, h1.upd u (fun x hx => k x (h1.foot_lt x hx) (h3 x hx)), h2, h3⟩
theorem Pf.grow {w w' : World} {p : Nat} {F : Fs} {G : Nat → Prop} (h : Pf w p F G) (u : Below w.heap.size w w') : Pf w' p F G := by
  obtain ⟨S, h1, h2, h3⟩ := h
  exact ⟨S, h1.grow u, h2, h3⟩
theorem Pf.hp {w w' : World} {p : Nat} {F : Fs} {G : Nat → Prop} (h : Pf w p F G) (e : w'.heap = w.heap) : Pf w' p F G := by
  obtain ⟨S, h1, h2, h3⟩ := h
  exact ⟨S, h1.hp e, h2, h3⟩
theorem Pf.lt {w : World} {p : Nat} {F : Fs} {G : Nat → Prop} (h : Pf w p F G) : p < w.heap.size := by
  obtain ⟨S, h1, h2, h3⟩ := h
  exact h1.lt
/-- What a call leaves. -/
def PfTo (w : World) (p : Nat) (F : Fs) (G : Nat → Prop) (w' : World) : Prop := Pf w' p F (fun x => G x ∨ w.heap.size ≤ x) ∧ Upd G w w'
theorem PfTo.same {w w' : World} {p : Nat} {F : Fs} {G : Nat → Prop} (h : Pf w p F G) (u : Below w.heap.size w w') : PfTo w p F G w' := ⟨(h.grow u).mono (fun _ _ h => .inl h), Upd.of_below u⟩
theorem PfTo.of {w w' : World} {p : Nat} {S S0 : Sg} {F : Fs} {G : Nat → Prop} (h0 : ∀ x, S0.foot p x → G x) (h : Sy w' p S) (r : Rel S F) (hf : ∀ x, S.foot p x → S0.foot p x ∨ w.heap.size ≤ x) (u : Upd (S0.foot p) w w') : PfTo w p F G w' :=
  ⟨⟨S, h, r, fun x hx => (hf x hx).elim (fun q => .inl (h0 x q)) .inr⟩, u.mono (fun x _ hx => h0 x hx)⟩

end Go.Proofs.YtbglhmcahnkbfaaGreat

/- The program's open files as they lie: one block of 57 cells (the file system, the pipes, 11 files of five cells). -/
namespace Go.Proofs.YtbglhmcahnkbfaaGreat
open Go.RowKit Go.ChangeMaps Go.MapKept
set_option linter.unusedVariables false
set_option maxRecDepth 20000

/-- An open file: its kind, of what, its offset, flags, who holds it. -/
structure Fl where
  k : Int
  of : Int
  off : Int
  fl : Int
  h : Int
def noFl : Fl := ⟨0, 0, 0, 0, 0⟩
def flC (x : Fl) : List Value := [.int .i64 x.k, .int .i64 x.of, .int .i64 x.off, .int .i64 x.fl, .int .i64 x.h]

structure Fls (C : List Value) (p q : Nat) (F : Nat → Fl) : Prop where
  len : C.length = 57
  sy : C[0]? = some (.pointer (some ⟨p, 0, none⟩))
  pi : C[1]? = some (.pointer (some ⟨q, 0, none⟩))
  at_ : ∀ i, i < 11 → ∀ j, j < 5 → C[2 + i * 5 + j]? = (flC (F i))[j]?

def Tf (w : World) (t p q : Nat) (F : Nat → Fl) : Prop := ∃ C, w.heap[t]? = some (.cells (List.toArray C) 89 (0, 0)) ∧ Fls C p q F

theorem Tf.lt {w : World} {t p q : Nat} {F : Nat → Fl} (h : Tf w t p q F) : t < w.heap.size := by
  obtain ⟨C, h, _⟩ := h; exact (Array.getElem?_eq_some_iff.1 h).1
theorem Tf.upd {G : Nat → Prop} {w w' : World} {t p q : Nat} {F : Nat → Fl} (h : Tf w t p q F) (u : Upd G w w') (hG : ¬ G t) : Tf w' t p q F := by
  obtain ⟨C, h, hc⟩ := h; exact ⟨C, u.heap h hG, hc⟩
theorem Tf.grow {w w' : World} {t p q : Nat} {F : Nat → Fl} (h : Tf w t p q F) (u : Below w.heap.size w w') : Tf w' t p q F := h.upd (Upd.of_below (F := fun _ => False) u) (fun h => h)
theorem Tf.s {w : World} {t p q : Nat} {F : Nat → Fl} (h : Tf w t p q F) : w.cell? ⟨t, 0, none⟩ = some (.pointer (some ⟨p, 0, none⟩)) := by
  obtain ⟨C, h, hc⟩ := h; exact cell_list h hc.sy
theorem Tf.p {w : World} {t p q : Nat} {F : Nat → Fl} (h : Tf w t p q F) : w.cell? ⟨t, 1, none⟩ = some (.pointer (some ⟨q, 0, none⟩)) := by
  obtain ⟨C, h, hc⟩ := h; exact cell_list h hc.pi
theorem Tf.c0 {w : World} {t p q : Nat} {F : Nat → Fl} (h : Tf w t p q F) (i : Nat) (hi : i < 11) : w.cell? ⟨t, 2 + i * 5, none⟩ = some (.int .i64 (F i).k) := by
  obtain ⟨C, h, hc⟩ := h; exact cell_list h (hc.at_ i hi 0 (by omega))
theorem Tf.c1 {w : World} {t p q : Nat} {F : Nat → Fl} (h : Tf w t p q F) (i : Nat) (hi : i < 11) : w.cell? ⟨t, 2 + i * 5 + 1, none⟩ = some (.int .i64 (F i).of) := by
  obtain ⟨C, h, hc⟩ := h; exact cell_list h (hc.at_ i hi 1 (by omega))
theorem Tf.c2 {w : World} {t p q : Nat} {F : Nat → Fl} (h : Tf w t p q F) (i : Nat) (hi : i < 11) : w.cell? ⟨t, 2 + i * 5 + 2, none⟩ = some (.int .i64 (F i).off) := by
  obtain ⟨C, h, hc⟩ := h; exact cell_list h (hc.at_ i hi 2 (by omega))
theorem Tf.c3 {w : World} {t p q : Nat} {F : Nat → Fl} (h : Tf w t p q F) (i : Nat) (hi : i < 11) : w.cell? ⟨t, 2 + i * 5 + 3, none⟩ = some (.int .i64 (F i).fl) := by
  obtain ⟨C, h, hc⟩ := h; exact cell_list h (hc.at_ i hi 3 (by omega))
theorem Tf.c4 {w : World} {t p q : Nat} {F : Nat → Fl} (h : Tf w t p q F) (i : Nat) (hi : i < 11) : w.cell? ⟨t, 2 + i * 5 + 4, none⟩ = some (.int .i64 (F i).h) := by
  obtain ⟨C, h, hc⟩ := h; exact cell_list h (hc.at_ i hi 4 (by omega))
theorem Tf.fz {w : World} {t p q : Nat} {F : Nat → Fl} (h : Tf w t p q F) (j : Nat) : w.frozen? ⟨t, j, none⟩ = false := by
  obtain ⟨C, h, hc⟩ := h; simp [World.frozen?, h]
def updF (F : Nat → Fl) (i : Nat) (x : Fl) : Nat → Fl := fun j => if j = i then x else F j
theorem updF_same (F : Nat → Fl) (i : Nat) (x : Fl) : updF F i x i = x := by simp [updF]
theorem updF_ne (F : Nat → Fl) (i j : Nat) (x : Fl) (h : j ≠ i) : updF F i x j = F j := by simp [updF, h]

theorem Fls.put {C C' : List Value} {p q : Nat} {F : Nat → Fl} (h : Fls C p q F) (i : Nat) (hi : i < 11) (x : Fl) (hl : C'.length = 57)
    (out : ∀ j, j < 2 + i * 5 ∨ 2 + i * 5 + 5 ≤ j → C'[j]? = C[j]?) (inn : ∀ j, j < 5 → C'[2 + i * 5 + j]? = (flC x)[j]?) : Fls C' p q (updF F i x) := by
  refine ⟨hl, by rw [out 0 (by omega)]; exact h.sy, by rw [out 1 (by omega)]; exact h.pi, ?_⟩
  intro k hk j hj
  by_cases e : k = i
  · subst e; rw [updF_same]; exact inn j hj
  · rw [updF_ne _ _ _ _ e, out _ (by omega)]; exact h.at_ k hk j hj
theorem Tf.put {w : World} {t p q : Nat} {F : Nat → Fl} (h : Tf w t p q F) (i : Nat) (hi : i < 11) (x : Fl) : Tf (w.setCells t (2 + i * 5) (flC x)) t p q (updF F i x) := by
  obtain ⟨C, hb, hc⟩ := h
  have hl := hc.len
  have hs : 2 + i * 5 + (flC x).length ≤ C.length := by rw [hl]; simp [flC]; omega
  exact ⟨_, heap_setCells t 89 (flC x) _ w C hb hs, hc.put i hi x (by rw [length_splice _ _ _ hs, hl]) (fun j hj => getElem?_splice_out _ _ _ _ hs (by simpa [flC] using hj)) (fun j hj => getElem?_splice_in C (flC x) (2 + i * 5) j hs hj)⟩
theorem Tf.heldTo {w : World} {t p q : Nat} {F : Nat → Fl} (h : Tf w t p q F) (i : Nat) (hi : i < 11) (v : Int) : Tf (w.setCell ⟨t, 2 + i * 5 + 4, none⟩ (.int .i64 v)) t p q (updF F i { F i with h := v }) := by
  obtain ⟨C, hb, hc⟩ := h
  have hl := hc.len
  refine ⟨C.set (2 + i * 5 + 4) (.int .i64 v), by rw [heap_setCell_same w t _ C.toArray _ _ hb]; simp, hc.put i hi _ (by simp [hl]) (fun j hj => by rw [List.getElem?_set_ne (by omega)]) (fun j hj => ?_)⟩
  by_cases e : j = 4
  · subst e; rw [List.getElem?_set_self (by omega)]; rfl
  · rw [List.getElem?_set_ne (by omega), hc.at_ i hi j hj]
    obtain rfl | rfl | rfl | rfl : j = 0 ∨ j = 1 ∨ j = 2 ∨ j = 3 := by omega
    all_goals rfl

/-- The numbers from 1 up to one that no open file has. -/
def ofL (F : Nat → Fl) : Nat → List Nat
  | 0 => []
  | n + 1 => ofL F n ++ if 1 ≤ n ∧ (F n).h = 0 then [n] else []
theorem ofL_le (F : Nat → Fl) : ∀ n, (ofL F n).length ≤ n
  | 0 => Nat.le_refl _
  | n + 1 => by
    have := ofL_le F n
    unfold ofL
    split <;> simp <;> omega

end Go.Proofs.YtbglhmcahnkbfaaGreat

/- The document's file system as it lies; what has, there, file, named, look, empty and over tell. -/
namespace Go.Proofs.YtbglhmcahnkbfaaGreat
open Go.RowKit
set_option linter.unusedVariables false
set_option maxRecDepth 20000

theorem own_shp {w : World} {B e size n : Nat} {v : Value} {xs : List Value} (h : w.ownsRow B e size v n xs) : ∃ a c, v = .slice a n c ∧ n ≤ c ∧ c ≤ 9223372036854775807 ∧ (0 < n → ∃ q, a = some ⟨q, 0, none⟩ ∧ B ≤ q ∧ q < w.heap.size ∧ ∀ j x, xs[j]? = some x → w.cell? ⟨q, j, none⟩ = some x) := by
  obtain ⟨h1, h2⟩ := h
  rcases h2 with ⟨rfl, h2⟩ | ⟨g, c, cur, rfl, hb, hg, hnc, hcm, hcs, htake⟩
  · subst h2
    exact ⟨none, 0, rfl, Nat.le_refl _, by omega, fun h => absurd h (Nat.lt_irrefl 0)⟩
  · refine ⟨_, c, rfl, hnc, by simpa [maxLen] using hcm, fun _ => ⟨g, rfl, hb, (Array.getElem?_eq_some_iff.1 hg).1, fun j x hx => ?_⟩⟩
    have hj : j < n * size := by
      rw [← h1]
      exact (List.getElem?_eq_some_iff.1 hx).1
    have hh : w.ownsRow B e size (.slice (some ⟨g, 0, none⟩) n c) n xs := ⟨h1, .inr ⟨g, c, cur, rfl, hb, hg, hnc, hcm, hcs, htake⟩⟩
    rw [hh.cellAt j (by omega)]
    exact hx

/-- A text of bytes; names as cells. -/
def bs (l : List UInt8) : ByteArray := ⟨l.toArray⟩
def nmC : List (List UInt8 × Nat) → List Value
  | [] => []
  | x :: r => .string (bs x.1) :: .int .i64 (x.2 : Int) :: nmC r
/-- The document's system as it lies: its block, its nodes', its marks', and the three rows of each node. -/
structure Rf (w : World) (x g u : Nat) (V : Nat → Value) (F : Fs) : Prop where
  at0 : w.heap[x]? = some (.cells (List.toArray [.slice (some ⟨g, 0, none⟩) 17 17, .slice (some ⟨u, 0, none⟩) 25 25, .int .i64 F.d]) 119 (0, 0))
  nds : ∃ C : List Value, w.heap[g]? = some (.cells C.toArray 122 (0, 0)) ∧ C.length = 102 ∧ ∀ i, i < 17 → C[i * 6]? = some (.int .i64 (F.P i).k) ∧ C[i * 6 + 1]? = some (.int .i64 (F.P i).l) ∧ C[i * 6 + 2]? = some (.int .i64 (F.P i).h) ∧ C[i * 6 + 3]? = some (V (i * 3)) ∧ C[i * 6 + 4]? = some (V (i * 3 + 1)) ∧ C[i * 6 + 5]? = some (V (i * 3 + 2))
  use : ∃ D : List Value, w.heap[u]? = some (.cells D.toArray 4 (0, 0)) ∧ D.length = 25 ∧ ∀ b, b < 25 → D[b]? = some (.bool (F.T b))
  rb : ∀ i, i < 17 → w.ownsRow 0 5 1 (V (i * 3)) (F.P i).c.length ((F.P i).c.map (Value.int .u8))
  rB : ∀ i, i < 17 → w.ownsRow 0 3 1 (V (i * 3 + 1)) (F.P i).B.length ((F.P i).B.map fun (b : Nat) => Value.int .i64 (b : Int))
  rQ : ∀ i, i < 17 → w.ownsRow 0 124 2 (V (i * 3 + 2)) (F.P i).Q.length (nmC (F.P i).Q)
  ap : ∀ i j b, i < 51 → j < 51 → (V i).ownBlock = some b → (V j).ownBlock = some b → i = j
  ng : ∀ i b, i < 51 → (V i).ownBlock = some b → b ≠ x ∧ b ≠ g ∧ b ≠ u
  ne : x ≠ g ∧ x ≠ u ∧ g ≠ u
def RfFoot (x g u : Nat) (V : Nat → Value) (b : Nat) : Prop := b = x ∨ b = g ∨ b = u ∨ ∃ i, i < 51 ∧ (V i).ownBlock = some b

theorem Rf.c0 {w : World} {x g u : Nat} {V : Nat → Value} {F : Fs} (h : Rf w x g u V F) : w.cell? ⟨x, 0, none⟩ = some (.slice (some ⟨g, 0, none⟩) 17 17) := cell_list h.at0 rfl
theorem Rf.c1 {w : World} {x g u : Nat} {V : Nat → Value} {F : Fs} (h : Rf w x g u V F) : w.cell? ⟨x, 1, none⟩ = some (.slice (some ⟨u, 0, none⟩) 25 25) := cell_list h.at0 rfl
theorem Rf.c2 {w : World} {x g u : Nat} {V : Nat → Value} {F : Fs} (h : Rf w x g u V F) : w.cell? ⟨x, 2, none⟩ = some (.int .i64 F.d) := cell_list h.at0 rfl
theorem Rf.k {w : World} {x g u : Nat} {V : Nat → Value} {F : Fs} (h : Rf w x g u V F) (i : Nat) (hi : i < 17) : w.cell? ⟨g, i * 6, none⟩ = some (.int .i64 (F.P i).k) := by
  obtain ⟨C, h1, h2, h3⟩ := h.nds; exact cell_list h1 (h3 i hi).1
theorem Rf.l {w : World} {x g u : Nat} {V : Nat → Value} {F : Fs} (h : Rf w x g u V F) (i : Nat) (hi : i < 17) : w.cell? ⟨g, i * 6 + 1, none⟩ = some (.int .i64 (F.P i).l) := by
  obtain ⟨C, h1, h2, h3⟩ := h.nds; exact cell_list h1 (h3 i hi).2.1
theorem Rf.h {w : World} {x g u : Nat} {V : Nat → Value} {F : Fs} (h : Rf w x g u V F) (i : Nat) (hi : i < 17) : w.cell? ⟨g, i * 6 + 2, none⟩ = some (.int .i64 (F.P i).h) := by
  obtain ⟨C, h1, h2, h3⟩ := h.nds; exact cell_list h1 (h3 i hi).2.2.1
theorem Rf.B {w : World} {x g u : Nat} {V : Nat → Value} {F : Fs} (h : Rf w x g u V F) (i : Nat) (hi : i < 17) : w.cell? ⟨g, i * 6 + 4, none⟩ = some (V (i * 3 + 1)) := by
  obtain ⟨C, h1, h2, h3⟩ := h.nds; exact cell_list h1 (h3 i hi).2.2.2.2.1
theorem Rf.t {w : World} {x g u : Nat} {V : Nat → Value} {F : Fs} (h : Rf w x g u V F) (b : Nat) (hb : b < 25) : w.cell? ⟨u, b, none⟩ = some (.bool (F.T b)) := by
  obtain ⟨D, h1, h2, h3⟩ := h.use; exact cell_list h1 (h3 b hb)
theorem Rf.foot_lt {w : World} {x g u : Nat} {V : Nat → Value} {F : Fs} (h : Rf w x g u V F) (b : Nat) (hb : RfFoot x g u V b) : b < w.heap.size := by
  rcases hb with rfl | rfl | rfl | ⟨i, hi, hb⟩
  · exact (Array.getElem?_eq_some_iff.1 h.at0).1
  · obtain ⟨C, h1, _⟩ := h.nds; exact (Array.getElem?_eq_some_iff.1 h1).1
  · obtain ⟨D, h1, _⟩ := h.use; exact (Array.getElem?_eq_some_iff.1 h1).1
  · obtain ⟨j, hj, e⟩ : ∃ j, j < 17 ∧ (i = j * 3 ∨ i = j * 3 + 1 ∨ i = j * 3 + 2) := ⟨i / 3, by omega, by omega⟩
    rcases e with rfl | rfl | rfl
    · exact ((h.rb j hj).lt b hb).2
    · exact ((h.rB j hj).lt b hb).2
    · exact ((h.rQ j hj).lt b hb).2
theorem Rf.upd {U : Nat → Prop} {w w' : World} {x g u : Nat} {V : Nat → Value} {F : Fs} (h : Rf w x g u V F) (q : Upd U w w') (hU : ∀ b, RfFoot x g u V b → ¬ U b) : Rf w' x g u V F := by
  obtain ⟨C, h1, h2⟩ := h.nds
  obtain ⟨D, h3, h4⟩ := h.use
  exact ⟨q.heap h.at0 (hU x (.inl rfl)), ⟨C, q.heap h1 (hU g (.inr (.inl rfl))), h2⟩, ⟨D, q.heap h3 (hU u (.inr (.inr (.inl rfl)))), h4⟩,
    fun i hi => q.own (h.rb i hi) (fun k hk => hU k (.inr (.inr (.inr ⟨_, by omega, hk⟩)))), fun i hi => q.own (h.rB i hi) (fun k hk => hU k (.inr (.inr (.inr ⟨_, by omega, hk⟩)))), fun i hi => q.own (h.rQ i hi) (fun k hk => hU k (.inr (.inr (.inr ⟨_, by omega, hk⟩)))), h.ap, h.ng, h.ne⟩
theorem Rf.grow {w w' : World} {x g u : Nat} {V : Nat → Value} {F : Fs} (h : Rf w x g u V F) (q : Below w.heap.size w w') : Rf w' x g u V F := h.upd (Upd.of_below (F := fun _ => False) q) (fun _ _ h => h)

set_option maxHeartbeats 1000000 in
theorem rhas_any (x g u : Nat) (V : Nat → Value) (F : Fs) (w : World) (H : Rf w x g u V F) (b : Int) : Calls Tryz.prog 143 #[.pointer (some ⟨x, 0, none⟩), .int .i64 b] w fun e w' => e = .returned (.bool (dfc F.d b)) ∧ w' = w := by
  have c := H.c2
  have h := dfc_ne F.d b
  obtain ⟨R, gR⟩ : ∃ R, R = dfc F.d b := ⟨_, rfl⟩
  rw [← gR] at h ⊢
  clear H gR
  go_enter Tryz.func143, Tryz.ntmps143
  go_wp2_with fail
  go_ret
  exact ⟨rfl, rfl⟩

end Go.Proofs.YtbglhmcahnkbfaaGreat

/- What the document's there, file, empty and over tell. -/
namespace Go.Proofs.YtbglhmcahnkbfaaGreat
open Go.RowKit
set_option linter.unusedVariables false
set_option maxRecDepth 20000

theorem there_is {F : Fs} {n : Int} (h : F.there n = true) : ∃ i : Nat, n = (i : Int) ∧ 1 ≤ i ∧ i < 17 ∧ (F.P i).k ≠ 0 := by
  simp only [Fs.there, decide_eq_true_eq] at h
  exact ⟨n.toNat, by omega, by omega, by omega, h.2.2⟩

set_option maxHeartbeats 2000000 in
theorem rthere_any (x g u : Nat) (V : Nat → Value) (F : Fs) (w : World) (H : Rf w x g u V F) (n : Int) :
    Calls Tryz.prog 117 #[.pointer (some ⟨x, 0, none⟩), .int .i64 n] w fun e w' => e = .returned (.bool (F.there n)) ∧ w' = w := by
  have c0 := H.c0
  by_cases h1 : n < 1
  · have e : F.there n = false := by simp only [Fs.there, decide_eq_false_iff_not]; omega
    rw [e]
    have h2 : ¬ 1 ≤ n := by omega
    clear H e
    go_enter Tryz.func117, Tryz.ntmps117
    go_wp2_with fail
    go_ret
    exact ⟨rfl, rfl⟩
  by_cases h2 : 16 < n
  · have e : F.there n = false := by simp only [Fs.there, decide_eq_false_iff_not]; omega
    rw [e]
    have h3 : 1 ≤ n := by omega
    have h4 : ¬ n ≤ 16 := by omega
    clear H e
    go_enter Tryz.func117, Tryz.ntmps117
    go_wp2_with fail
    go_ret
    exact ⟨rfl, rfl⟩
  obtain ⟨i, rfl⟩ : ∃ i : Nat, n = (i : Int) := ⟨n.toNat, by omega⟩
  have h3 : (1 : Int) ≤ (i : Int) := by omega
  have h4 : (i : Int) ≤ 16 := by omega
  have h5 : (0 : Int) ≤ (i : Int) := by omega
  have h6 : (i : Int) < 17 := by omega
  have c1 := H.k i (by omega)
  have e : F.there (i : Int) = ((F.P i).k != 0) := by
    rw [Bool.eq_iff_iff]
    simp only [Fs.there, decide_eq_true_eq, bne_iff_ne, ne_eq]
    exact ⟨fun h => h.2.2, fun h => ⟨h3, h4, h⟩⟩
  rw [e]
  obtain ⟨k, gk⟩ : ∃ k, k = (F.P i).k := ⟨_, rfl⟩
  rw [← gk] at c1 ⊢
  clear H gk h1 h2 e
  by_cases h0 : k = 0
  · subst h0
    go_enter Tryz.func117, Tryz.ntmps117
    go_wp2_with fail
    go_ret
    exact ⟨rfl, rfl⟩
  · have h7 : (k != 0) = true := by simpa using h0
    have h8 : (k == 0) = false := by simpa using h0
    rw [h7]
    go_enter Tryz.func117, Tryz.ntmps117
    go_wp2_with fail
    go_ret
    exact ⟨rfl, rfl⟩

end Go.Proofs.YtbglhmcahnkbfaaGreat

/- What the document's walk, Find and end come to. -/
namespace Go.Proofs.YtbglhmcahnkbfaaGreat
open Go.RowKit
set_option linter.unusedVariables false
set_option maxRecDepth 20000

end Go.Proofs.YtbglhmcahnkbfaaGreat

/- What the document's Find and end tell. -/
namespace Go.Proofs.YtbglhmcahnkbfaaGreat
open Go.RowKit
set_option linter.unusedVariables false
set_option maxRecDepth 20000

end Go.Proofs.YtbglhmcahnkbfaaGreat

/- The document's system with another node; its drop and add of a name. -/
namespace Go.Proofs.YtbglhmcahnkbfaaGreat
open Go.RowKit
set_option linter.unusedVariables false
set_option maxRecDepth 20000

/-- A node's cells. -/
def ndL (y : Fn) (a b c : Value) : List Value := [.int .i64 y.k, .int .i64 y.l, .int .i64 y.h, a, b, c]

/-- Another node at a number: its cells from o on are stored anew, of its rows each is what it was or new. -/
theorem Rf.put {U : Nat → Prop} {w w6 : World} {x g u : Nat} {V : Nat → Value} {F : Fs} (H : Rf w x g u V F) (n : Nat) (hn : n < 17) (y : Fn) (V' : Nat → Value) (hV : ∀ i, i / 3 ≠ n → V' i = V i)
    (hU : Upd U w w6) (hUx : ∀ b, RfFoot x g u V b → U b → ∃ i, i / 3 = n ∧ (V i).ownBlock = some b)
    (o : Nat) (vs : List Value) (ho : o + vs.length ≤ 6) (hvs : splice (ndL (F.P n) (V (n * 3)) (V (n * 3 + 1)) (V (n * 3 + 2))) o vs = ndL y (V' (n * 3)) (V' (n * 3 + 1)) (V' (n * 3 + 2)))
    (r0 : w6.ownsRow 0 5 1 (V' (n * 3)) y.c.length (y.c.map (Value.int .u8))) (r1 : w6.ownsRow 0 3 1 (V' (n * 3 + 1)) y.B.length (y.B.map fun (b : Nat) => Value.int .i64 (b : Int))) (r2 : w6.ownsRow 0 124 2 (V' (n * 3 + 2)) y.Q.length (nmC y.Q))
    (own : ∀ i b, i / 3 = n → (V' i).ownBlock = some b → w.heap.size ≤ b ∨ (V i).ownBlock = some b)
    (apart : ∀ i j b, i / 3 = n → j / 3 = n → w.heap.size ≤ b → (V' i).ownBlock = some b → (V' j).ownBlock = some b → i = j) :
    Rf (w6.setCells g (n * 6 + o) vs) x g u V' (F.at_ n y) := by
  obtain ⟨C, h1, h2, h3⟩ := H.nds
  obtain ⟨D, h4, h5, h6⟩ := H.use
  have hUn : ∀ b, RfFoot x g u V b → (∀ i, i / 3 = n → (V i).ownBlock ≠ some b) → ¬ U b := fun b hb h hu => by
    obtain ⟨i, hi, e⟩ := hUx b hb hu
    exact h i hi e
  have ng3 : ∀ i b, i / 3 = n → (V i).ownBlock = some b → b ≠ x ∧ b ≠ g ∧ b ≠ u := fun i b hi e => H.ng i b (by omega) e
  have hx6 := hU.heap H.at0 (hUn x (.inl rfl) (fun i hi e => (ng3 i x hi e).1 rfl))
  have hg6 := hU.heap h1 (hUn g (.inr (.inl rfl)) (fun i hi e => (ng3 i g hi e).2.1 rfl))
  have hu6 := hU.heap h4 (hUn u (.inr (.inr (.inl rfl))) (fun i hi e => (ng3 i u hi e).2.2 rfl))
  have hs := upd_setCells g vs (n * 6 + o) w6
  have hg7 := heap_setCells g 122 vs (n * 6 + o) w6 C hg6 (by omega)
  have hgl : g < w.heap.size := (Array.getElem?_eq_some_iff.1 h1).1
  have hxl : x < w.heap.size := (Array.getElem?_eq_some_iff.1 H.at0).1
  have hul : u < w.heap.size := (Array.getElem?_eq_some_iff.1 h4).1
  have old : ∀ i b, i < 51 → (V i).ownBlock = some b → b < w.heap.size := fun i b hi e => H.foot_lt b (.inr (.inr (.inr ⟨i, hi, e⟩)))
  have ng' : ∀ i b, i < 51 → (V' i).ownBlock = some b → b ≠ x ∧ b ≠ g ∧ b ≠ u := fun i b hi e => by
    by_cases hin : i / 3 = n
    · rcases own i b hin e with q | q
      · exact ⟨by omega, by omega, by omega⟩
      · exact H.ng i b hi q
    · rw [hV i hin] at e
      exact H.ng i b hi e
  have other : ∀ i, i < 51 → i / 3 ≠ n → ∀ b, (V i).ownBlock = some b → ¬ U b := fun i hi hin b e => hUn b (.inr (.inr (.inr ⟨i, hi, e⟩))) (fun j hj ej => hin (by rw [H.ap i j b hi (by omega) e ej]; exact hj))
  have e0 : ∀ i, i ≠ n → (F.at_ n y).P i = F.P i := fun i hi => if_neg hi
  have e1 : (F.at_ n y).P n = y := if_pos rfl
  refine ⟨hs.heap hx6 (fun e => H.ne.1 e), ⟨_, hg7, by rw [length_splice _ _ _ (by omega)]; exact h2, ?_⟩, ⟨D, hs.heap hu6 (fun e => H.ne.2.2 e.symm), h5, h6⟩, ?_, ?_, ?_, ?_, ng', H.ne⟩
  · intro i hi
    by_cases hin : i = n
    · subst hin
      rw [e1]
      have key : ∀ k, k < 6 → (splice C (i * 6 + o) vs)[i * 6 + k]? = (ndL y (V' (i * 3)) (V' (i * 3 + 1)) (V' (i * 3 + 2)))[k]? := by
        intro k hk
        rw [← hvs]
        by_cases hk2 : o ≤ k ∧ k < o + vs.length
        · rw [show i * 6 + k = i * 6 + o + (k - o) by omega, getElem?_splice_in _ _ _ _ (by omega) (by omega)]
          have := getElem?_splice_in (ndL (F.P i) (V (i * 3)) (V (i * 3 + 1)) (V (i * 3 + 2))) vs o (k - o) (by simpa [ndL] using ho) (by omega)
          rw [show o + (k - o) = k by omega] at this
          exact this.symm
        · rw [getElem?_splice_out _ _ _ _ (by omega) (by omega), getElem?_splice_out _ _ _ _ (by simpa [ndL] using ho) (by omega)]
          obtain ⟨q0, q1, q2, q3, q4, q5⟩ := h3 i hi
          rcases (show k = 0 ∨ k = 1 ∨ k = 2 ∨ k = 3 ∨ k = 4 ∨ k = 5 by omega) with rfl | rfl | rfl | rfl | rfl | rfl
          · exact q0
          · exact q1
          · exact q2
          · exact q3
          · exact q4
          · exact q5
      exact ⟨key 0 (by omega), key 1 (by omega), key 2 (by omega), key 3 (by omega), key 4 (by omega), key 5 (by omega)⟩
    · rw [e0 i hin, hV (i * 3) (by omega), hV (i * 3 + 1) (by omega), hV (i * 3 + 2) (by omega)]
      have key : ∀ k, k < 6 → (splice C (n * 6 + o) vs)[i * 6 + k]? = C[i * 6 + k]? := fun k hk => getElem?_splice_out _ _ _ _ (by omega) (by omega)
      have k0 := key 0 (by omega)
      rw [Nat.add_zero] at k0
      rw [k0, key 1 (by omega), key 2 (by omega), key 3 (by omega), key 4 (by omega), key 5 (by omega)]
      exact h3 i hi
  · intro i hi
    have hg' : ∀ b, (V' (i * 3)).ownBlock = some b → ¬ b = g := fun b e => (ng' _ b (by omega) e).2.1
    by_cases hin : i = n
    · subst hin; rw [e1]; exact hs.own r0 hg'
    · rw [e0 i hin]
      rw [hV _ (by omega)] at hg' ⊢
      exact hs.own (hU.own (H.rb i hi) (other _ (by omega) (by omega))) hg'
  · intro i hi
    have hg' : ∀ b, (V' (i * 3 + 1)).ownBlock = some b → ¬ b = g := fun b e => (ng' _ b (by omega) e).2.1
    by_cases hin : i = n
    · subst hin; rw [e1]; exact hs.own r1 hg'
    · rw [e0 i hin]
      rw [hV _ (by omega)] at hg' ⊢
      exact hs.own (hU.own (H.rB i hi) (other _ (by omega) (by omega))) hg'
  · intro i hi
    have hg' : ∀ b, (V' (i * 3 + 2)).ownBlock = some b → ¬ b = g := fun b e => (ng' _ b (by omega) e).2.1
    by_cases hin : i = n
    · subst hin; rw [e1]; exact hs.own r2 hg'
    · rw [e0 i hin]
      rw [hV _ (by omega)] at hg' ⊢
      exact hs.own (hU.own (H.rQ i hi) (other _ (by omega) (by omega))) hg'
  · intro i j b hi hj ei ej
    by_cases hin : i / 3 = n
    · by_cases hjn : j / 3 = n
      · rcases own i b hin ei with q | q
        · exact apart i j b hin hjn q ei ej
        · rcases own j b hjn ej with q' | q'
          · exact absurd (old i b hi q) (by omega)
          · exact H.ap i j b hi hj q q'
      · rw [hV j hjn] at ej
        rcases own i b hin ei with q | q
        · exact absurd (old j b hj ej) (by omega)
        · exact H.ap i j b hi hj q ej
    · rw [hV i hin] at ei
      by_cases hjn : j / 3 = n
      · rcases own j b hjn ej with q | q
        · exact absurd (old i b hi ei) (by omega)
        · exact H.ap i j b hi hj ei q
      · rw [hV j hjn] at ej
        exact H.ap i j b hi hj ei ej

end Go.Proofs.YtbglhmcahnkbfaaGreat

/- The document's drop of a name. -/
namespace Go.Proofs.YtbglhmcahnkbfaaGreat
open Go.RowKit
set_option linter.unusedVariables false
set_option maxRecDepth 20000

/-- The document's system afterwards: what it owns is what it owned, or new. -/
def RfTo (w : World) (x g u : Nat) (V : Nat → Value) (F' : Fs) (w' : World) : Prop := ∃ V', Rf w' x g u V' F' ∧ Upd (RfFoot x g u V) w w' ∧ ∀ b, RfFoot x g u V' b → RfFoot x g u V b ∨ w.heap.size ≤ b
theorem Rf.same {w w' : World} {x g u : Nat} {V : Nat → Value} {F : Fs} (H : Rf w x g u V F) (hb : Below w.heap.size w w') : RfTo w x g u V F w' := ⟨V, H.grow hb, Upd.of_below hb, fun b h => .inl h⟩
theorem RfTo.trans {w w1 w2 : World} {x g u : Nat} {V V1 : Nat → Value} {F2 : Fs} (hU : Upd (RfFoot x g u V) w w1) (hV : ∀ b, RfFoot x g u V1 b → RfFoot x g u V b ∨ w.heap.size ≤ b) (h : RfTo w1 x g u V1 F2 w2) : RfTo w x g u V F2 w2 := by
  obtain ⟨V2, h1, h2, h3⟩ := h
  refine ⟨V2, h1, hU.trans h2 (fun b hb h => ?_), fun b h => ?_⟩
  · rcases hV b h with q | q
    · exact q
    · omega
  · rcases h3 b h with q | q
    · exact hV b q
    · exact .inr (Nat.le_trans hU.size q)

theorem Rf.frz {w : World} {x g u : Nat} {V : Nat → Value} {F : Fs} (H : Rf w x g u V F) (j : Nat) : w.frozen? ⟨g, j, none⟩ = false := by
  obtain ⟨C, h1, _⟩ := H.nds
  simp [World.frozen?, h1]
end Go.Proofs.YtbglhmcahnkbfaaGreat
