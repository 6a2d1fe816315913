/- Texts of this seat, merged. -/
import Derived.Test.YtbglhmcahnkbfaaGreatGMg31
import Derived.Deep.DeepCutAuto

/- The document's Look. (Written by gen_rf21.py.) -/
namespace Go.Proofs.YtbglhmcahnkbfaaGreat
open Go.RowKit
set_option linter.unusedVariables false
set_option maxRecDepth 20000

/-- A node is begun: its box holds what is known, and its blocks. -/
theorem LkS.box_ {w : World} {B p i : Nat} {y : Fn} {vB : Value} {N8 : List Value} (hz : w.heap[p]? = some (.cells N8.toArray 113 (0, 0))) (hN : N8 = lkC i y vB (.slice none 0 0) (.slice none 0 0)) (hr : w.ownsRow 0 3 1 vB y.B.length (y.B.map natV)) (hp : B ≤ p) (hn : ∀ c, vB.ownBlock = some c → B ≤ c ∧ c ≠ p) :
    LkS w B p i y 0 0 vB (.slice none 0 0) (.slice none 0 0) := by
  rw [hN] at hz
  exact ⟨hz, hr, World.ownsRow_nil _ _ _ _, World.ownsRow_nil _ _ _ _, hp, hn, fun c hc => by simp [Value.ownBlock] at hc, fun c hc => by simp [Value.ownBlock] at hc, fun c hc e => by simp [Value.ownBlock] at e, fun c hc e => by simp [Value.ownBlock] at e, fun c hc => by simp [Value.ownBlock] at hc⟩
theorem LkS.start {w : World} {B p i : Nat} {y : Fn} {vB : Value} {N8 : List Value} {Z : List Value} (hz : w.heap[p]? = some (.cells Z.toArray 113 (0, 0))) (hZ : Z.length = 8) (hN : N8 = lkC i y vB (.slice none 0 0) (.slice none 0 0)) (hr : w.ownsRow 0 3 1 vB y.B.length (y.B.map natV)) (hp : B ≤ p) (hn : ∀ c, vB.ownBlock = some c → B ≤ c ∧ c ≠ p) :
    LkS (w.setCells p 0 N8) B p i y 0 0 vB (.slice none 0 0) (.slice none 0 0) := by
  have u := upd_setCells p N8 0 w
  have hb := heap_setCells p 113 N8 0 w Z hz (by rw [hN, hZ]; simp [lkC])
  rw [splice_all _ _ (by rw [hN, hZ]; rfl), hN] at hb
  rw [hN] at u ⊢
  exact ⟨hb, u.own hr (fun c hc => (hn c hc).2), World.ownsRow_nil _ _ _ _, World.ownsRow_nil _ _ _ _, hp, hn, fun c hc => by simp [Value.ownBlock] at hc, fun c hc => by simp [Value.ownBlock] at hc, fun c hc e => by simp [Value.ownBlock] at e, fun c hc e => by simp [Value.ownBlock] at e, fun c hc => by simp [Value.ownBlock] at hc⟩

set_option maxHeartbeats 8000000 in
theorem rlooks_any (x g u : Nat) (V : Nat → Value) (F : Fs) (w : World) (H : Rf w x g u V F) (hF : FOk F) :
    Calls Tryz.prog 46 #[.pointer (some ⟨x, 0, none⟩)] w (LooksP w F) := by
  obtain ⟨PP, gPP⟩ : ∃ PP, PP = LooksP w F := ⟨_, rfl⟩
  have GPP := hid gPP
  rw [← gPP]
  clear gPP
  obtain ⟨i0, hi0, hz0, hz1, hz2⟩ := info_parts infoNd
  obtain ⟨i9, hi9, hs0, hs1, hs2⟩ := info_parts infoStr
  obtain ⟨i3, hi3, ht0, ht1, ht2⟩ := info_parts infoI3
  have c0 := H.c0
  have HR := hid H
  have HF := hid hF
  clear H hF
  go_enter Tryz.func46, Tryz.ntmps46
  go_wp2_with fail
  go_loopw [3, 14] (fun v3 v14 wr => ∃ (j n : Nat) (a' : Option Addr) (c' : Nat) (cs : List Value), j ≤ 17 ∧ n ≤ j ∧ v14 = .int .i64 (j : Int) ∧ v3 = .slice a' n c' ∧ Hid ((thr F j).length = n) ∧ Hid (wr.ownsRow 0 113 8 (.slice a' n c') n cs) ∧ Hid (∀ b, (Value.slice a' n c').ownBlock = some b → w.heap.size ≤ b) ∧ Hid (LkL wr (fun b => w.heap.size ≤ b ∧ (Value.slice a' n c').ownBlock ≠ some b) F (thr F j) cs) ∧ Hid (Below w.heap.size w wr)) (fun _ v14 _ => 17 - (intOf v14).toNat)
  case atStart => exact ⟨0, 0, none, 0, [], Nat.zero_le _, Nat.le_refl _, rfl, rfl, hid rfl, hid (World.ownsRow_nil _ _ _ _), hid (fun b hb => by simp [Value.ownBlock] at hb), hid rfl, hid (Below.refl _ _)⟩
  case round =>
    obtain ⟨j, n, a', c', cs, hj, hn, rfl, rfl, HK, HO, HNW, HLK, HB⟩ := hrel
    have HBs := HB.out.size
    by_cases hlt : j < 17
    · have hj2 : (j : Int) < 17 := by omega
      have hj0 : (0 : Int) ≤ (j : Int) := by omega
      have hj3 : j + 1 ≤ 17 := hlt
      have HRr := hid (HR.out.grow HB.out)
      have d0 := HRr.out.k j hlt
      have d1 := HRr.out.l j hlt
      have d2 := HRr.out.h j hlt
      have d3 := HRr.out.b j hlt
      have d4 := HRr.out.B j hlt
      have d5 := HRr.out.q j hlt
      have hr2 := HRr.out.rB j hlt
      have hr3 := HRr.out.rQ j hlt
      obtain ⟨a1, b1, e1, p1, m1, _⟩ := own_shp (HRr.out.rb j hlt)
      obtain ⟨a2, b2, e2, p2, m2, q2⟩ := own_shp hr2
      obtain ⟨a3, b3, e3, p3, m3, q3⟩ := own_shp hr3
      rw [e1] at d3
      rw [e2] at d4 hr2
      rw [e3] at d5
      have hnil : Hid (a2 = none → b2 = 0) := hid (fun q => by
        subst q
        rcases hr2.2 with ⟨e, _⟩ | ⟨_, _, _, e, _⟩
        · injection e
        · injection e with e1; cases e1)
      have hq6 := HF.out.len j
      have hc6 := (HF.out.c j).1
      have hB6 : (F.P j).B.length ≤ 6 := by rw [HF.out.B j]; unfold Fs.need; omega
      have HQC := hid q3
      have HBC := hid q2
      have hkk := HF.out.k j
      have HY : Hid ((F.P j).k ≠ 0 → thr F (j + 1) = thr F j ++ [j]) := hid thr_yes
      have HN : Hid ((F.P j).k = 0 → thr F (j + 1) = thr F j) := hid thr_no
      obtain ⟨y, gy⟩ : ∃ y, y = F.P j := ⟨_, rfl⟩
      rw [← gy] at d0 d1 d2 d3 d4 d5 p1 p2 p3 HQC HBC hq6 hc6 hB6 hkk HY HN
      have GY := hid gy
      obtain ⟨L1, gL1⟩ : ∃ L1, L1 = y.c.length := ⟨_, rfl⟩
      obtain ⟨L2, gL2⟩ : ∃ L2, L2 = y.B.length := ⟨_, rfl⟩
      obtain ⟨L3, gL3⟩ : ∃ L3, L3 = y.Q.length := ⟨_, rfl⟩
      obtain ⟨k, gk⟩ : ∃ k, k = y.k := ⟨_, rfl⟩
      obtain ⟨l, gl⟩ : ∃ l, l = y.l := ⟨_, rfl⟩
      obtain ⟨hh, ghh⟩ : ∃ hh, hh = y.h := ⟨_, rfl⟩
      rw [← gL1] at d3 p1 hc6
      rw [← gL2] at d4 p2 hB6 HBC
      rw [← gL3] at d5 p3 hq6 HQC
      rw [← gk] at d0 HY HN
      rw [← gl] at d1
      rw [← ghh] at d2
      have GG := hid (And.intro gL1 (And.intro gL2 (And.intro gL3 (And.intro gk (And.intro gl ghh)))))
      have hwa : IntKind.i64.wrap ((L1 : Int) + (L3 : Int)) = (L1 : Int) + (L3 : Int) := by rw [IntKind.wrap_i64]; omega
      clear q2 q3 hr2 hr3 e1 e2 e3 gy gL1 gL2 gL3 gk gl ghh hkk
      by_cases hk : k = 0
      · have e := HN.out hk
        rw [← e] at HK HLK
        subst hk
        clear HY HN e HQC HBC
        go_wp2_with fail
        go_roundw
        case rel => exact ⟨j + 1, n, a', c', cs, hj3, by omega, by go_num, rfl, HK, hid (HO.out.alloc _), HNW, hid (LkL.upd (Upd.of_below (F := fun _ => False) (alloc1 _ _)) (fun _ _ _ h => h) (fun _ _ h => h) HLK.out), hid (HB.out.alloc HBs _)⟩
        case measure => simp [intOf]; omega
      · have hk2 : (k == 0) = false := by simpa using hk
        have HE := hid (HY.out hk)
        clear HY HN
        obtain ⟨w5, gw5⟩ : ∃ w5, w5 = wr.alloc (.cells #[.int .i64 k, .int .i64 l, .int .i64 hh, .slice a1 L1 b1, .slice a2 L2 b2, .slice a3 L3 b3] 122) := ⟨_, rfl⟩
        have hb5 : Below wr.heap.size wr w5 := by rw [gw5]; exact alloc1 _ _
        have hs5 : w5.heap.size = wr.heap.size + 1 := by rw [gw5]; simp
        have hx5 : w5.heap[wr.heap.size]? = some (.cells #[.int .i64 k, .int .i64 l, .int .i64 hh, .slice a1 L1 b1, .slice a2 L2 b2, .slice a3 L3 b3] 122 (0, 0)) := by rw [gw5]; exact heap_alloc_new _ _
        have GW5 := hid gw5
        have HB5 := hid hb5
        obtain ⟨q5, gq5⟩ : ∃ q5, q5 = wr.heap.size := ⟨_, rfl⟩
        rw [← gq5] at hx5
        have hq5 : q5 < w5.heap.size := by rw [hs5, gq5]; omega
        have GQ5 := hid gq5
        have HX5 := hid hx5
        have HSS : Hid (∀ W : World, Below w5.heap.size w5 W → W.cell? ⟨q5, 0, none⟩ = some (.int .i64 k) ∧ W.cell? ⟨q5, 1, none⟩ = some (.int .i64 l) ∧ W.cell? ⟨q5, 2, none⟩ = some (.int .i64 hh) ∧ W.cell? ⟨q5, 3, none⟩ = some (.slice a1 L1 b1) ∧ W.cell? ⟨q5, 4, none⟩ = some (.slice a2 L2 b2) ∧ W.cell? ⟨q5, 5, none⟩ = some (.slice a3 L3 b3)) := hid (fun W hb => by
          have hx := (hb.block q5 hq5).trans HX5.out
          exact ⟨cell_list hx rfl, cell_list hx rfl, cell_list hx rfl, cell_list hx rfl, cell_list hx rfl, cell_list hx rfl⟩)
        have hs5' := hid hs5
        clear gw5 hb5 hs5 hx5 gq5
        go_upto_region 6 with fail
        rw [← GW5.out, ← GQ5.out]
        clear d0 d1 d2 d3 d4 d5
        obtain ⟨d0, d1, d2, d3, d4, d5⟩ := HSS.out w5 (Below.refl _ _)
        obtain ⟨BB, gBB⟩ : ∃ BB, BB = y.B := ⟨_, rfl⟩
        have hBl : BB.length = L2 := by rw [gBB]; exact GG.out.2.1.symm
        have HSN : Hid (SrcN w5 a2 L2 BB) := hid ⟨hBl, fun h0 => by
          obtain ⟨q, e, _, hq, hc⟩ := HBC.out h0
          refine ⟨q, 0, e, Nat.lt_of_lt_of_le hq HB5.out.size, fun t ht => ?_⟩
          rw [Nat.zero_add]
          refine (HB5.out.cell (p := ⟨q, t, none⟩) hq).trans (hc t _ ?_)
          rw [List.getElem?_map, ← gBB, List.getElem?_eq_getElem ht]
          rfl⟩
        have HBBe : Hid (BB = y.B) := hid gBB
        clear gBB
        go_cut [6] (fun v6 wx => ∃ p6 vB, v6 = .pointer (some ⟨p6, 0, none⟩) ∧ Hid (LkS wx w5.heap.size p6 j y 0 0 vB (.slice none 0 0) (.slice none 0 0)) ∧ Hid (Below w5.heap.size w5 wx))
        case first =>
          have HOA : Hid ((w5.alloc (.cells #[] 3)).drew.ownsRow w5.heap.size 3 1 (.slice (some ⟨w5.heap.size, 0, none⟩) 0 0) 0 []) := hid (own_empty w5 3)
          have HBA : Hid (Below w5.heap.size w5 (w5.alloc (.cells #[] 3)).drew) := hid (alloc1 _ _).drew
          have hbb : Below w5.heap.size w5 ((w5.alloc (.cells #[] 3)).alloc (.cells #[.int .i64 0, .int .i64 0, .int .i64 0, .int .i64 0, .int .i64 0, .slice none 0 0, .slice none 0 0, .slice none 0 0] 113)) := (alloc1 _ _).trans ((alloc1 _ _).mono (by simp))
          have hbc : Below w5.heap.size w5 ((w5.alloc (.cells #[.int .i64 0, .int .i64 0, .int .i64 0, .int .i64 0, .int .i64 0, .slice none 0 0, .slice none 0 0, .slice none 0 0] 113)).alloc (.cells #[] 3)) := (alloc1 _ _).trans ((alloc1 _ _).mono (by simp))
          have HOB : Hid (((w5.alloc (.cells #[] 3)).alloc (.cells #[.int .i64 0, .int .i64 0, .int .i64 0, .int .i64 0, .int .i64 0, .slice none 0 0, .slice none 0 0, .slice none 0 0] 113)).drew.ownsRow w5.heap.size 3 1 (.slice (some ⟨w5.heap.size, 0, none⟩) 0 0) 0 []) := hid ((own_empty w5 3).alloc _)
          have HBB : Hid (Below w5.heap.size w5 ((w5.alloc (.cells #[] 3)).alloc (.cells #[.int .i64 0, .int .i64 0, .int .i64 0, .int .i64 0, .int .i64 0, .slice none 0 0, .slice none 0 0, .slice none 0 0] 113)).drew) := hid hbb.drew
          have HZB : Hid (((w5.alloc (.cells #[] 3)).alloc (.cells #[.int .i64 0, .int .i64 0, .int .i64 0, .int .i64 0, .int .i64 0, .slice none 0 0, .slice none 0 0, .slice none 0 0] 113)).heap[w5.heap.size + 1]? = some (.cells (List.toArray [.int .i64 0, .int .i64 0, .int .i64 0, .int .i64 0, .int .i64 0, .slice none 0 0, .slice none 0 0, .slice none 0 0]) 113 (0, 0))) := hid (by
            have := heap_alloc_new (w5.alloc (.cells #[] 3)) (.cells #[.int .i64 0, .int .i64 0, .int .i64 0, .int .i64 0, .int .i64 0, .slice none 0 0, .slice none 0 0, .slice none 0 0] 113)
            rwa [show (w5.alloc (.cells #[] 3)).heap.size = w5.heap.size + 1 by simp] at this)
          have HOC : Hid (((w5.alloc (.cells #[.int .i64 0, .int .i64 0, .int .i64 0, .int .i64 0, .int .i64 0, .slice none 0 0, .slice none 0 0, .slice none 0 0] 113)).alloc (.cells #[] 3)).drew.ownsRow w5.heap.size 3 1 (.slice (some ⟨w5.heap.size + 1, 0, none⟩) 0 0) 0 []) := hid (by
            have := own_empty (w5.alloc (.cells #[.int .i64 0, .int .i64 0, .int .i64 0, .int .i64 0, .int .i64 0, .slice none 0 0, .slice none 0 0, .slice none 0 0] 113)) 3
            rw [show (w5.alloc (.cells #[.int .i64 0, .int .i64 0, .int .i64 0, .int .i64 0, .int .i64 0, .slice none 0 0, .slice none 0 0, .slice none 0 0] 113)).heap.size = w5.heap.size + 1 by simp] at this
            exact own_mono this (by omega))
          have HBC2 : Hid (Below w5.heap.size w5 ((w5.alloc (.cells #[.int .i64 0, .int .i64 0, .int .i64 0, .int .i64 0, .int .i64 0, .slice none 0 0, .slice none 0 0, .slice none 0 0] 113)).alloc (.cells #[] 3)).drew) := hid hbc.drew
          have HZC : Hid (((w5.alloc (.cells #[.int .i64 0, .int .i64 0, .int .i64 0, .int .i64 0, .int .i64 0, .slice none 0 0, .slice none 0 0, .slice none 0 0] 113)).alloc (.cells #[] 3)).heap[w5.heap.size]? = some (.cells (List.toArray [.int .i64 0, .int .i64 0, .int .i64 0, .int .i64 0, .int .i64 0, .slice none 0 0, .slice none 0 0, .slice none 0 0]) 113 (0, 0))) := hid ((Below.heap_alloc _ _ _ (by simp)).trans (heap_alloc_new w5 (.cells #[.int .i64 0, .int .i64 0, .int .i64 0, .int .i64 0, .int .i64 0, .slice none 0 0, .slice none 0 0, .slice none 0 0] 113)))
          clear hbb hbc
          refine wp_region_held_drew (S := (fun W : World => W.cell? ⟨q5, 0, none⟩ = some (.int .i64 k) ∧ W.cell? ⟨q5, 1, none⟩ = some (.int .i64 l) ∧ W.cell? ⟨q5, 2, none⟩ = some (.int .i64 hh) ∧ W.cell? ⟨q5, 3, none⟩ = some (.slice a1 L1 b1) ∧ W.cell? ⟨q5, 4, none⟩ = some (.slice a2 L2 b2) ∧ W.cell? ⟨q5, 5, none⟩ = some (.slice a3 L3 b3))) (by kernel_rfl) ?_ (fun hHeld => ?_)
          · (try dsimp only); exact HSS.out _ (Below.refl _ _).drew
          refine wpAnyH_take (i := 0) (v := ?_) rfl (by kernel_rfl) (by kernel_rfl) (by kernel_rfl) (fun _ _ _ h => h) (Or.inl ⟨by rfl, ?_⟩) (by assumption) ?_
          rotate_left 1
          · intro w hSw
            (try dsimp only at hSw)
            go_simp
            try with_reducible rfl
          (try simp only [Act.put, List.getElem_toArray, List.getElem_cons_zero, List.setIfInBounds_toArray, List.set_cons_zero, List.set_cons_succ])
          refine wpAnyH_take (i := 1) (v := ?_) rfl (by kernel_rfl) (by kernel_rfl) (by kernel_rfl) (fun _ _ _ h => h) (Or.inl ⟨by rfl, ?_⟩) (by assumption) ?_
          rotate_left 1
          · intro w hSw
            (try dsimp only at hSw)
            go_simp
            try with_reducible rfl
          (try simp only [Act.put, List.getElem_toArray, List.getElem_cons_succ, List.getElem_cons_zero, List.setIfInBounds_toArray, List.set_cons_zero, List.set_cons_succ])
          refine wpAnyH_take (i := 2) (v := ?_) rfl (by kernel_rfl) (by kernel_rfl) (by kernel_rfl) (fun _ _ _ h => h) (Or.inl ⟨by rfl, ?_⟩) (by assumption) ?_
          rotate_left 1
          · intro w hSw
            (try dsimp only at hSw)
            go_simp
            try with_reducible rfl
          (try simp only [Act.put, List.getElem_toArray, List.getElem_cons_succ, List.getElem_cons_zero, List.setIfInBounds_toArray, List.set_cons_zero, List.set_cons_succ])
          refine wpAnyH_take (i := 3) (v := ?_) rfl (by kernel_rfl) (by kernel_rfl) (by kernel_rfl) (fun _ _ _ h => h) (Or.inl ⟨by rfl, ?_⟩) (by assumption) ?_
          rotate_left 1
          · intro w hSw
            (try dsimp only at hSw)
            go_simp
            try with_reducible rfl
          (try simp only [Act.put, List.getElem_toArray, List.getElem_cons_succ, List.getElem_cons_zero, List.setIfInBounds_toArray, List.set_cons_zero, List.set_cons_succ])
          refine wpAnyH_take (i := 4) (v := ?_) rfl (by kernel_rfl) (by kernel_rfl) (by kernel_rfl) (fun _ _ _ h => h) (Or.inl ⟨by rfl, ?_⟩) (by assumption) ?_
          rotate_left 1
          · intro w hSw
            (try dsimp only at hSw)
            go_simp
            try with_reducible rfl
          (try simp only [Act.put, List.getElem_toArray, List.getElem_cons_succ, List.getElem_cons_zero, List.setIfInBounds_toArray, List.set_cons_zero, List.set_cons_succ])
          refine wpAnyH_take (i := 5) (v := ?_) rfl (by kernel_rfl) (by kernel_rfl) (by kernel_rfl) (fun _ _ _ h => h) (Or.inl ⟨by rfl, ?_⟩) (by assumption) ?_
          rotate_left 1
          · intro w hSw
            (try dsimp only at hSw)
            go_simp
            try with_reducible rfl
          (try simp only [Act.put, List.getElem_toArray, List.getElem_cons_succ, List.getElem_cons_zero, List.setIfInBounds_toArray, List.set_cons_zero, List.set_cons_succ])
          refine wpAnyH_take (i := 6) (v := ?_) rfl (by kernel_rfl) (by kernel_rfl) (by kernel_rfl) (fun _ _ _ h => h) (Or.inl ⟨by rfl, ?_⟩) (by assumption) ?_
          rotate_left 1
          · intro w hSw
            (try dsimp only at hSw)
            go_simp
            try with_reducible rfl
          (try simp only [Act.put, List.getElem_toArray, List.getElem_cons_succ, List.getElem_cons_zero, List.setIfInBounds_toArray, List.set_cons_zero, List.set_cons_succ])
          refine wpAnyH_take (i := 7) (v := ?_) rfl (by kernel_rfl) (by kernel_rfl) (by kernel_rfl) (fun _ _ _ h => h) (Or.inl ⟨by rfl, ?_⟩) (by assumption) ?_
          rotate_left 1
          · intro w hSw
            (try dsimp only at hSw)
            go_simp
            try with_reducible rfl
          (try simp only [Act.put, List.getElem_toArray, List.getElem_cons_succ, List.getElem_cons_zero, List.setIfInBounds_toArray, List.set_cons_zero, List.set_cons_succ])
          refine wpAnyH_take (i := 8) (v := ?_) rfl (by kernel_rfl) (by kernel_rfl) (by kernel_rfl) (fun _ _ _ h => h) (Or.inl ⟨by rfl, ?_⟩) (by assumption) ?_
          rotate_left 1
          · intro w hSw
            (try dsimp only at hSw)
            go_simp
            try with_reducible rfl
          (try simp only [Act.put, List.getElem_toArray, List.getElem_cons_succ, List.getElem_cons_zero, List.setIfInBounds_toArray, List.set_cons_zero, List.set_cons_succ])
          refine wpAnyH_take (i := 9) (v := ?_) rfl (by kernel_rfl) (by kernel_rfl) (by kernel_rfl) (fun _ _ _ h => h) (Or.inl ⟨by rfl, ?_⟩) (by assumption) ?_
          rotate_left 1
          · intro w hSw
            (try dsimp only at hSw)
            go_simp
            try with_reducible rfl
          (try simp only [Act.put, List.getElem_toArray, List.getElem_cons_succ, List.getElem_cons_zero, List.setIfInBounds_toArray, List.set_cons_zero, List.set_cons_succ])
          refine wpAnyH_take (i := 10) (v := ?_) rfl (by kernel_rfl) (by kernel_rfl) (by kernel_rfl) (fun _ _ _ h => h) (Or.inl ⟨by rfl, ?_⟩) (by assumption) ?_
          rotate_left 1
          · intro w hSw
            (try dsimp only at hSw)
            go_simp
            try with_reducible rfl
          (try simp only [Act.put, List.getElem_toArray, List.getElem_cons_succ, List.getElem_cons_zero, List.setIfInBounds_toArray, List.set_cons_zero, List.set_cons_succ])
          refine wpAnyH_take (i := 11) (v := ?_) rfl (by kernel_rfl) (by kernel_rfl) (by kernel_rfl) (fun _ _ _ h => h) (Or.inl ⟨by rfl, ?_⟩) (by assumption) ?_
          rotate_left 1
          · intro w hSw
            (try dsimp only at hSw)
            go_simp
            try with_reducible rfl
          (try simp only [Act.put, List.getElem_toArray, List.getElem_cons_succ, List.getElem_cons_zero, List.setIfInBounds_toArray, List.set_cons_zero, List.set_cons_succ])
          refine wpAnyH_take (i := 12) (v := ?_) rfl (by kernel_rfl) (by kernel_rfl) (by kernel_rfl) (fun _ _ _ h => h) (Or.inl ⟨by rfl, ?_⟩) (by assumption) ?_
          rotate_left 1
          · intro w hSw
            (try dsimp only at hSw)
            go_simp
            try with_reducible rfl
          (try simp only [Act.put, List.getElem_toArray, List.getElem_cons_succ, List.getElem_cons_zero, List.setIfInBounds_toArray, List.set_cons_zero, List.set_cons_succ])
          refine wpAnyH_take (i := 13) (v := ?_) rfl (by kernel_rfl) (by kernel_rfl) (by kernel_rfl) (fun _ _ _ h => h) (Or.inl ⟨by rfl, ?_⟩) (by assumption) ?_
          rotate_left 1
          · intro w hSw
            (try dsimp only at hSw)
            go_simp
            try with_reducible rfl
          (try simp only [Act.put, List.getElem_toArray, List.getElem_cons_succ, List.getElem_cons_zero, List.setIfInBounds_toArray, List.set_cons_zero, List.set_cons_succ])
          refine wpAnyH_take (i := 15) (v := ?_) rfl (by kernel_rfl) (by kernel_rfl) (by kernel_rfl) (fun _ _ _ h => h) (Or.inl ⟨by rfl, ?_⟩) (by assumption) ?_
          rotate_left 1
          · intro w hSw
            (try dsimp only at hSw)
            go_simp
            try with_reducible rfl
          (try simp only [Act.put, List.getElem_toArray, List.getElem_cons_succ, List.getElem_cons_zero, List.setIfInBounds_toArray, List.set_cons_zero, List.set_cons_succ])
          refine wpAnyH_take (i := 16) (v := ?_) rfl (by kernel_rfl) (by kernel_rfl) (by kernel_rfl) (fun _ _ _ h => h) (Or.inl ⟨by rfl, ?_⟩) (by assumption) ?_
          rotate_left 1
          · intro w hSw
            (try dsimp only at hSw)
            go_simp
            try with_reducible rfl
          (try simp only [Act.put, List.getElem_toArray, List.getElem_cons_succ, List.getElem_cons_zero, List.setIfInBounds_toArray, List.set_cons_zero, List.set_cons_succ])
          refine wpAnyH_ready (rs := [14, 19]) (by kernel_rfl) (by simp) ?_
          refine AllReadyH.cons rfl (fun K hK => ?_) (AllReadyH.cons rfl (fun K hK => ?_) (AllReadyH.nil))
          · go_simp
            refine hK.out _ _ ?_ (fun hHeld => ?_)
            · exact HSS.out _ HBA.out
            clear hK K
            (try simp only [Act.put, List.getElem_toArray, List.getElem_cons_succ, List.getElem_cons_zero, List.setIfInBounds_toArray, List.set_cons_zero, List.set_cons_succ])
            refine wpAnyH_ready (rs := [17, 19]) (by kernel_rfl) (by simp) ?_
            refine AllReadyH.cons rfl (fun K hK => ?_) (AllReadyH.cons rfl (fun K hK => ?_) (AllReadyH.nil))
            · refine step_ints2 (by rfl) _ _ (by rfl) w5.heap.size _ (by first | (simp [Act.eval]; done) | (simp [Act.eval]; rfl)) HOA.out HBA.out.size a2 L2 b2 BB (by first | (simp [Act.eval]; done) | (simp [Act.eval]; rfl)) (HSN.out.below HBA.out) hnil.out (by omega) ?_
              intro vb9 vc9 w9 HO9 HB9 HU9 HW9
              have HB10 : Hid (Below w5.heap.size w5 w9) := hid (HBA.out.trans HB9.out)
              refine hK.out _ _ ?_ (fun hHeld => ?_)
              · exact HSS.out _ HB10.out
              clear hK K
              (try simp only [Act.put, List.getElem_toArray, List.getElem_cons_succ, List.getElem_cons_zero, List.setIfInBounds_toArray, List.set_cons_zero, List.set_cons_succ])
              refine wpAnyH_take (i := 18) (v := ?_) rfl (by kernel_rfl) (by kernel_rfl) (by kernel_rfl) (fun _ _ _ h => h) (Or.inl ⟨by rfl, ?_⟩) (by assumption) ?_
              rotate_left 1
              · intro w hSw
                (try dsimp only at hSw)
                go_simp
                try with_reducible rfl
              (try simp only [Act.put, List.getElem_toArray, List.getElem_cons_succ, List.getElem_cons_zero, List.setIfInBounds_toArray, List.set_cons_zero, List.set_cons_succ])
              refine wpAnyH_ready (rs := [19]) (by kernel_rfl) (by simp) ?_
              refine AllReadyH.cons rfl (fun K hK => ?_) (AllReadyH.nil)
              go_simp
              refine hK.out _ _ ?_ (fun hHeld => ?_)
              · exact HSS.out _ (HB10.out.trans ((alloc1 _ _).mono HB10.out.size))
              clear hK K
              (try simp only [Act.put, List.getElem_toArray, List.getElem_cons_succ, List.getElem_cons_zero, List.setIfInBounds_toArray, List.set_cons_zero, List.set_cons_succ])
              refine wpAnyH_ready (rs := [20]) (by kernel_rfl) (by simp) ?_
              refine AllReadyH.cons rfl (fun K hK => ?_) (AllReadyH.nil)
              go_simp
              have HBF : Hid (Below w5.heap.size w5 (w9.alloc (.cells (List.toArray [.int .i64 (j : Int), .int .i64 k, .int .i64 l, .int .i64 ((L1 : Int) + (L3 : Int)), .int .i64 hh, .slice vb9 L2 vc9, .slice none 0 0, .slice none 0 0]) 113))) := hid (HB10.out.trans ((alloc1 w9 _).mono HB10.out.size))
              refine hK.out _ _ ?_ (fun hHeld => ?_)
              · exact HSS.out _ HBF.out
              clear hK K
              (try simp only [Act.put, List.getElem_toArray, List.getElem_cons_succ, List.getElem_cons_zero, List.setIfInBounds_toArray, List.set_cons_zero, List.set_cons_succ])
              refine wpAnyH_done (by kernel_rfl) ?_ _
              clear hHeld
              go_wp2_with fail
              go_meet
              case rel => exact ⟨_, .slice vb9 L2 vc9, rfl, hid (LkS.box_ (heap_alloc_new w9 _) (by obtain ⟨g1, g2, g3, g4, g5, g6⟩ := GG.out; rw [g1, g3, g4, g5, g6]; rfl) (by have h := own_mono (HO9.out.alloc (.cells (List.toArray [.int .i64 (j : Int), .int .i64 k, .int .i64 l, .int .i64 ((L1 : Int) + (L3 : Int)), .int .i64 hh, .slice vb9 L2 vc9, .slice none 0 0, .slice none 0 0]) 113)) (Nat.zero_le _); rw [HBBe.out] at h; rw [← GG.out.2.1]; exact h) HB10.out.size (fun c hc => ⟨(HO9.out.lt c hc).1, fun e => by have := (HO9.out.lt c hc).2; omega⟩)), HBF⟩
            · go_simp
              refine hK.out _ _ ?_ (fun hHeld => ?_)
              · exact HSS.out _ HBB.out
              clear hK K
              (try simp only [Act.put, List.getElem_toArray, List.getElem_cons_succ, List.getElem_cons_zero, List.setIfInBounds_toArray, List.set_cons_zero, List.set_cons_succ])
              refine wpAnyH_ready (rs := [17]) (by kernel_rfl) (by simp) ?_
              refine AllReadyH.cons rfl (fun K hK => ?_) (AllReadyH.nil)
              have hz9 := HZB.out
              refine step_ints2 (by rfl) _ _ (by rfl) w5.heap.size _ (by first | (simp [Act.eval]; done) | (simp [Act.eval]; rfl)) HOB.out HBB.out.size a2 L2 b2 BB (by first | (simp [Act.eval]; done) | (simp [Act.eval]; rfl)) (HSN.out.below HBB.out) hnil.out (by omega) ?_
              intro vb9 vc9 w9 HO9 HB9 HU9 HW9
              have HB10 : Hid (Below w5.heap.size w5 w9) := hid (HBB.out.trans HB9.out)
              refine hK.out _ _ ?_ (fun hHeld => ?_)
              · exact HSS.out _ HB10.out
              clear hK K
              (try simp only [Act.put, List.getElem_toArray, List.getElem_cons_succ, List.getElem_cons_zero, List.setIfInBounds_toArray, List.set_cons_zero, List.set_cons_succ])
              have hz9' := HU9.out.heap hz9 (fun e => by simp [Value.ownBlock] at e)
              refine wpAnyH_take (i := 18) (v := ?_) rfl (by kernel_rfl) (by kernel_rfl) (by kernel_rfl) (fun _ _ _ h => h) (Or.inl ⟨by rfl, ?_⟩) (by assumption) ?_
              rotate_left 1
              · intro w hSw
                (try dsimp only at hSw)
                go_simp
                try with_reducible rfl
              (try simp only [Act.put, List.getElem_toArray, List.getElem_cons_succ, List.getElem_cons_zero, List.setIfInBounds_toArray, List.set_cons_zero, List.set_cons_succ])
              refine wpAnyH_ready (rs := [20]) (by kernel_rfl) (by simp) ?_
              refine AllReadyH.cons rfl (fun K hK => ?_) (AllReadyH.nil)
              have z0 := cell_list hz9' (j := 0) rfl
              have y0 : w9.frozen? ⟨w5.heap.size + 1, 0, none⟩ = false := by simp [World.frozen?, hz9']
              have z1 := cell_list hz9' (j := 1) rfl
              have y1 : w9.frozen? ⟨w5.heap.size + 1, 1, none⟩ = false := by simp [World.frozen?, hz9']
              have z2 := cell_list hz9' (j := 2) rfl
              have y2 : w9.frozen? ⟨w5.heap.size + 1, 2, none⟩ = false := by simp [World.frozen?, hz9']
              have z3 := cell_list hz9' (j := 3) rfl
              have y3 : w9.frozen? ⟨w5.heap.size + 1, 3, none⟩ = false := by simp [World.frozen?, hz9']
              have z4 := cell_list hz9' (j := 4) rfl
              have y4 : w9.frozen? ⟨w5.heap.size + 1, 4, none⟩ = false := by simp [World.frozen?, hz9']
              have z5 := cell_list hz9' (j := 5) rfl
              have y5 : w9.frozen? ⟨w5.heap.size + 1, 5, none⟩ = false := by simp [World.frozen?, hz9']
              have z6 := cell_list hz9' (j := 6) rfl
              have y6 : w9.frozen? ⟨w5.heap.size + 1, 6, none⟩ = false := by simp [World.frozen?, hz9']
              have z7 := cell_list hz9' (j := 7) rfl
              have y7 : w9.frozen? ⟨w5.heap.size + 1, 7, none⟩ = false := by simp [World.frozen?, hz9']
              have HBX : Hid (LkS (w9.setCells (w5.heap.size + 1) 0 [.int .i64 (j : Int), .int .i64 k, .int .i64 l, .int .i64 ((L1 : Int) + (L3 : Int)), .int .i64 hh, .slice vb9 L2 vc9, .slice none 0 0, .slice none 0 0]) w5.heap.size (w5.heap.size + 1) j y 0 0 (.slice vb9 L2 vc9) (.slice none 0 0) (.slice none 0 0)) := hid (LkS.start hz9' rfl (by obtain ⟨g1, g2, g3, g4, g5, g6⟩ := GG.out; rw [g1, g3, g4, g5, g6]; rfl) (by have h := own_mono HO9.out (Nat.zero_le _); rw [HBBe.out] at h; rw [← GG.out.2.1]; exact h) (by omega) (fun c hc => ⟨(HO9.out.lt c hc).1, fun e => by have h := HW9.out; subst e; exact h.elim (fun q => by rw [q] at hc; simp [Value.ownBlock] at hc) (fun q => by have hq := q _ hc; first | (simp at hq; done) | (simp at hq; omega))⟩))
              have HBF : Hid (Below w5.heap.size w5 (w9.setCells (w5.heap.size + 1) 0 [.int .i64 (j : Int), .int .i64 k, .int .i64 l, .int .i64 ((L1 : Int) + (L3 : Int)), .int .i64 hh, .slice vb9 L2 vc9, .slice none 0 0, .slice none 0 0])) := hid (HB10.out.trans ((upd_setCells (w5.heap.size + 1) _ 0 w9).below HB10.out.size (fun c hc => by rw [hc]; omega)))
              clear hz9' hz9
              go_simp
              refine hK.out _ _ ?_ (fun hHeld => ?_)
              · exact HSS.out _ HBF.out
              clear hK K
              (try simp only [Act.put, List.getElem_toArray, List.getElem_cons_succ, List.getElem_cons_zero, List.setIfInBounds_toArray, List.set_cons_zero, List.set_cons_succ])
              clear z0 z1 z2 z3 z4 z5 z6 z7 y0 y1 y2 y3 y4 y5 y6 y7
              refine wpAnyH_done (by kernel_rfl) ?_ _
              clear hHeld
              go_wp2_with fail
              go_meet
              case rel => exact ⟨_, .slice vb9 L2 vc9, rfl, HBX, HBF⟩
          · go_simp
            refine hK.out _ _ ?_ (fun hHeld => ?_)
            · exact HSS.out _ (alloc1 _ _).drew
            clear hK K
            (try simp only [Act.put, List.getElem_toArray, List.getElem_cons_succ, List.getElem_cons_zero, List.setIfInBounds_toArray, List.set_cons_zero, List.set_cons_succ])
            refine wpAnyH_ready (rs := [14]) (by kernel_rfl) (by simp) ?_
            refine AllReadyH.cons rfl (fun K hK => ?_) (AllReadyH.nil)
            go_simp
            refine hK.out _ _ ?_ (fun hHeld => ?_)
            · exact HSS.out _ HBC2.out
            clear hK K
            (try simp only [Act.put, List.getElem_toArray, List.getElem_cons_succ, List.getElem_cons_zero, List.setIfInBounds_toArray, List.set_cons_zero, List.set_cons_succ])
            refine wpAnyH_ready (rs := [17]) (by kernel_rfl) (by simp) ?_
            refine AllReadyH.cons rfl (fun K hK => ?_) (AllReadyH.nil)
            have hz9 := HZC.out
            refine step_ints2 (by rfl) _ _ (by rfl) w5.heap.size _ (by first | (simp [Act.eval]; done) | (simp [Act.eval]; rfl)) HOC.out HBC2.out.size a2 L2 b2 BB (by first | (simp [Act.eval]; done) | (simp [Act.eval]; rfl)) (HSN.out.below HBC2.out) hnil.out (by omega) ?_
            intro vb9 vc9 w9 HO9 HB9 HU9 HW9
            have HB10 : Hid (Below w5.heap.size w5 w9) := hid (HBC2.out.trans HB9.out)
            refine hK.out _ _ ?_ (fun hHeld => ?_)
            · exact HSS.out _ HB10.out
            clear hK K
            (try simp only [Act.put, List.getElem_toArray, List.getElem_cons_succ, List.getElem_cons_zero, List.setIfInBounds_toArray, List.set_cons_zero, List.set_cons_succ])
            have hz9' := HU9.out.heap hz9 (fun e => by simp [Value.ownBlock] at e)
            refine wpAnyH_take (i := 18) (v := ?_) rfl (by kernel_rfl) (by kernel_rfl) (by kernel_rfl) (fun _ _ _ h => h) (Or.inl ⟨by rfl, ?_⟩) (by assumption) ?_
            rotate_left 1
            · intro w hSw
              (try dsimp only at hSw)
              go_simp
              try with_reducible rfl
            (try simp only [Act.put, List.getElem_toArray, List.getElem_cons_succ, List.getElem_cons_zero, List.setIfInBounds_toArray, List.set_cons_zero, List.set_cons_succ])
            refine wpAnyH_ready (rs := [20]) (by kernel_rfl) (by simp) ?_
            refine AllReadyH.cons rfl (fun K hK => ?_) (AllReadyH.nil)
            have z0 := cell_list hz9' (j := 0) rfl
            have y0 : w9.frozen? ⟨w5.heap.size, 0, none⟩ = false := by simp [World.frozen?, hz9']
            have z1 := cell_list hz9' (j := 1) rfl
            have y1 : w9.frozen? ⟨w5.heap.size, 1, none⟩ = false := by simp [World.frozen?, hz9']
            have z2 := cell_list hz9' (j := 2) rfl
            have y2 : w9.frozen? ⟨w5.heap.size, 2, none⟩ = false := by simp [World.frozen?, hz9']
            have z3 := cell_list hz9' (j := 3) rfl
            have y3 : w9.frozen? ⟨w5.heap.size, 3, none⟩ = false := by simp [World.frozen?, hz9']
            have z4 := cell_list hz9' (j := 4) rfl
            have y4 : w9.frozen? ⟨w5.heap.size, 4, none⟩ = false := by simp [World.frozen?, hz9']
            have z5 := cell_list hz9' (j := 5) rfl
            have y5 : w9.frozen? ⟨w5.heap.size, 5, none⟩ = false := by simp [World.frozen?, hz9']
            have z6 := cell_list hz9' (j := 6) rfl
            have y6 : w9.frozen? ⟨w5.heap.size, 6, none⟩ = false := by simp [World.frozen?, hz9']
            have z7 := cell_list hz9' (j := 7) rfl
            have y7 : w9.frozen? ⟨w5.heap.size, 7, none⟩ = false := by simp [World.frozen?, hz9']
            have HBX : Hid (LkS (w9.setCells (w5.heap.size) 0 [.int .i64 (j : Int), .int .i64 k, .int .i64 l, .int .i64 ((L1 : Int) + (L3 : Int)), .int .i64 hh, .slice vb9 L2 vc9, .slice none 0 0, .slice none 0 0]) w5.heap.size (w5.heap.size) j y 0 0 (.slice vb9 L2 vc9) (.slice none 0 0) (.slice none 0 0)) := hid (LkS.start hz9' rfl (by obtain ⟨g1, g2, g3, g4, g5, g6⟩ := GG.out; rw [g1, g3, g4, g5, g6]; rfl) (by have h := own_mono HO9.out (Nat.zero_le _); rw [HBBe.out] at h; rw [← GG.out.2.1]; exact h) (by omega) (fun c hc => ⟨(HO9.out.lt c hc).1, fun e => by have h := HW9.out; subst e; exact h.elim (fun q => by rw [q] at hc; simp [Value.ownBlock] at hc) (fun q => by have hq := q _ hc; first | (simp at hq; done) | (simp at hq; omega))⟩))
            have HBF : Hid (Below w5.heap.size w5 (w9.setCells (w5.heap.size) 0 [.int .i64 (j : Int), .int .i64 k, .int .i64 l, .int .i64 ((L1 : Int) + (L3 : Int)), .int .i64 hh, .slice vb9 L2 vc9, .slice none 0 0, .slice none 0 0])) := hid (HB10.out.trans ((upd_setCells (w5.heap.size) _ 0 w9).below HB10.out.size (fun c hc => by rw [hc]; omega)))
            clear hz9' hz9
            go_simp
            refine hK.out _ _ ?_ (fun hHeld => ?_)
            · exact HSS.out _ HBF.out
            clear hK K
            (try simp only [Act.put, List.getElem_toArray, List.getElem_cons_succ, List.getElem_cons_zero, List.setIfInBounds_toArray, List.set_cons_zero, List.set_cons_succ])
            clear z0 z1 z2 z3 z4 z5 z6 z7 y0 y1 y2 y3 y4 y5 y6 y7
            refine wpAnyH_done (by kernel_rfl) ?_ _
            clear hHeld
            go_wp2_with fail
            go_meet
            case rel => exact ⟨_, .slice vb9 L2 vc9, rfl, HBX, HBF⟩
        case rest =>
          obtain ⟨p6, vB, rfl, HLS, HBc⟩ := hcut
          obtain ⟨w6, gw6⟩ : ∃ w6, w6 = wc := ⟨_, rfl⟩
          rw [← gw6] at HLS HBc ⊢
          clear gw6 d0 d1 d2 d3 d4 d5 HSN HBC
          obtain ⟨_, _, _, _, _, d5⟩ := HSS.out w6 HBc.out
          go_wp2_with fail
          go_loopw [44] (fun v44 wx => ∃ (t : Nat) (vN vM : Value), t ≤ L3 ∧ v44 = .int .i64 (t : Int) ∧ Hid (LkS wx w5.heap.size p6 j y t t vB vN vM) ∧ Hid (Below w5.heap.size w5 wx)) (fun v44 _ => L3 - (intOf v44).toNat)
          case atStart => exact ⟨0, _, _, Nat.zero_le _, rfl, HLS, HBc⟩
          case round =>
            rename World => wx
            clear d5 HLS HBc
            obtain ⟨t, vN, vM, ht, rfl, HS, HBt⟩ := hrel
            by_cases htl : t < L3
            · have t2 : (t : Int) < (L3 : Int) := by omega
              have t0 : (0 : Int) ≤ (t : Int) := by omega
              have t3 : t + 1 ≤ L3 := htl
              have t100 : t ≤ 6 := by omega
              have htQ : t < y.Q.length := by rw [← GG.out.2.2.1]; exact htl
              obtain ⟨q, rfl, _, hqs, hcc⟩ := HQC.out (by omega)
              obtain ⟨y1, y2⟩ := nmC_at y.Q t htQ
              have hbwx : Below wr.heap.size wr wx := HB5.out.trans (HBt.out.mono HB5.out.size)
              have b1' := (hbwx.cell (p := ⟨q, t * 2, none⟩) hqs).trans (hcc _ _ y1)
              have b2' := (hbwx.cell (p := ⟨q, t * 2 + 1, none⟩) hqs).trans (hcc _ _ y2)
              have HTK : Hid ((y.Q.take (t + 1)).map nmV = (y.Q.take t).map nmV ++ [.string (bs y.Q[t].1)] ∧ (y.Q.take (t + 1)).map ndV = (y.Q.take t).map ndV ++ [.int .i64 (y.Q[t].2 : Int)]) := hid (by
                rw [← List.take_append_getElem htQ, List.map_append, List.map_append]
                exact ⟨rfl, rfl⟩)
              generalize bs y.Q[t].1 = sj at b1' HTK
              generalize y.Q[t].2 = mj at b2' HTK
              obtain ⟨na, nc, en, hnc, hncm, _⟩ := own_shp HS.out.rN
              obtain ⟨ma, mc, em, hmc, hmcm, _⟩ := own_shp HS.out.rM
              rw [en, em] at HS
              have hq8 : ∃ q8, q8 = wx.heap.size := ⟨_, rfl⟩
              clear hcc y1 y2 htQ en em hbwx
              obtain ⟨q8, gq8⟩ := hq8
              have GQ8 := hid gq8
              obtain ⟨wa, gwa⟩ : ∃ wa, wa = wx.alloc (.cells #[.string sj, .int .i64 (mj : Int)] 124) := ⟨_, rfl⟩
              have hba : Below wx.heap.size wx wa := by rw [gwa]; exact alloc1 _ _
              have hxa : wa.heap[q8]? = some (.cells (List.toArray [.string sj, .int .i64 (mj : Int)]) 124 (0, 0)) := by rw [gwa, gq8]; exact heap_alloc_new _ _
              have hsa : wa.heap.size = q8 + 1 := by rw [gwa, gq8]; simp
              have GWA := hid gwa
              have HSa := hid (HS.out.grow hba)
              have HBa : Hid (Below w5.heap.size w5 wa) := hid (HBt.out.trans (hba.mono HBt.out.size))
              have HXA := hid hxa
              have HSA := hid hsa
              have hp8 : Hid (p6 < q8) := hid (by rw [gq8]; exact HS.out.lt)
              clear gq8 gwa hba hxa hsa
              go_upto_region 10 with fail
              rw [← GWA.out, ← GQ8.out]
              have z6 := cell_list HSa.out.box (j := 6) rfl
              have e0 := cell_list HXA.out (j := 0) rfl
              have l6 : p6 < wa.heap.size := HSa.out.lt
              have l8 : q8 < wa.heap.size := by have := HSA.out; omega
              clear b1' b2'
              go_wp2_with (at_builtin; go_must (refine wpList_append_where rfl (.tmp 49) (.tmp 52) 111 rfl 9 i9 _ 1 16 Tryz.underlying111 hi9 hs0 hs1 hs2 rfl (by decide) (.slice na t nc) t _ rfl (HSa.out.rN.alloc _) ⟨_, 0, none⟩ 1 1 [.string sj] rfl rfl (cell_one _ _ _) (by simp [Value.oneCell']) (by unfold maxLen; omega) (by omega) ?_))
              intro v7 w7 hO hU _ hW
              obtain ⟨va, vc, rfl⟩ : ∃ va vc, v7 = .slice va (t + 1) vc := by
                rcases hO.out.2 with ⟨h1, _⟩ | ⟨g, c, cur, rfl, _⟩
                · omega
                · exact ⟨_, c, rfl⟩
              have HS7 := hid (HSa.out.name (alloc1 wa (.cells #[.string sj] 9)) (by rw [HTK.out.1, List.map_take]; exact hO.out) hU (hW.out.imp (fun q => q) (fun q b hb => by have := q b hb; simpa using this)))
              have hbx7 : w7.heap[p6]? = some _ := hU.heap ((Below.heap_alloc wa (.cells #[.string sj] 9) p6 l6).trans HSa.out.box) (fun e => (HSa.out.nN p6 e).2 rfl)
              have hx7 : w7.heap[q8]? = some _ := hU.heap ((Below.heap_alloc wa (.cells #[.string sj] 9) q8 l8).trans HXA.out) (fun e => by have := (HS.out.rN.lt q8 e).2; have := GQ8.out; omega)
              have hb7 : Below w5.heap.size w5 w7 := HBa.out.trans (((alloc1 wa (.cells #[.string sj] 9)).mono HBa.out.size).trans (hU.below (by have := HBa.out.size; simp; omega) (fun c hc => (HSa.out.nN c hc).1)))
              have z6' := cell_list hbx7 (j := 6) rfl
              have y6' : w7.frozen? ⟨p6, 6, none⟩ = false := by simp [World.frozen?, hbx7]
              have HX7 := hid hx7
              have HB7 := hid hb7
              clear hO hU hW hbx7 hx7 hb7 z6 e0 l6 l8
              go_upto_region 11 with fail
              obtain ⟨w8, gw8⟩ : ∃ w8, w8 = w7.setCell ⟨p6, 6, none⟩ (.slice va (t + 1) vc) := ⟨_, rfl⟩
              have HX8 : Hid (w8.heap[q8]? = some (.cells (List.toArray [.string sj, .int .i64 (mj : Int)]) 124 (0, 0))) := hid (by rw [gw8]; exact (Upd.setCell (F := (· = p6)) w7 ⟨p6, 6, none⟩ _ rfl).heap HX7.out (fun e => by have := hp8.out; omega))
              have HB8 : Hid (Below w5.heap.size w5 w8) := hid (by rw [gw8]; exact HB7.out.trans ((Upd.setCell (F := (· = p6)) w7 ⟨p6, 6, none⟩ _ rfl).below HB7.out.size (fun c hc => by rw [hc]; exact HSa.out.np)))
              rw [← gw8] at HS7 ⊢
              clear gw8 z6' y6' HX7 HB7
              have z7 := cell_list HS7.out.box (j := 7) rfl
              have e1 := cell_list HX8.out (j := 1) rfl
              have l6 : p6 < w8.heap.size := HS7.out.lt
              have l8 : q8 < w8.heap.size := (Array.getElem?_eq_some_iff.1 HX8.out).1
              go_wp2_with (at_builtin; go_must (refine wpList_append_where rfl (.tmp 56) (.tmp 59) 48 rfl 3 i3 _ 1 8 Tryz.underlying48 hi3 ht0 ht1 ht2 rfl (by decide) (.slice ma t mc) t _ rfl (HS7.out.rM.alloc _) ⟨_, 0, none⟩ 1 1 [.int .i64 (mj : Int)] rfl rfl (cell_one _ _ _) (by simp [Value.oneCell']) (by unfold maxLen; omega) (by omega) ?_))
              intro v9 w9 hO hU _ hW
              obtain ⟨vd, ve, rfl⟩ : ∃ va vc, v9 = .slice va (t + 1) vc := by
                rcases hO.out.2 with ⟨h1, _⟩ | ⟨g, c, cur, rfl, _⟩
                · omega
                · exact ⟨_, c, rfl⟩
              have HS9 := hid (HS7.out.node (alloc1 w8 (.cells #[.int .i64 (mj : Int)] 3)) (by rw [HTK.out.2, List.map_take]; exact hO.out) hU (hW.out.imp (fun q => q) (fun q b hb => by have := q b hb; simpa using this)))
              have hbx9 : w9.heap[p6]? = some _ := hU.heap ((Below.heap_alloc w8 (.cells #[.int .i64 (mj : Int)] 3) p6 l6).trans HS7.out.box) (fun e => (HS7.out.nM p6 e).2 rfl)
              have hb9 : Below w5.heap.size w5 w9 := HB8.out.trans (((alloc1 w8 (.cells #[.int .i64 (mj : Int)] 3)).mono HB8.out.size).trans (hU.below (by have := HB8.out.size; simp; omega) (fun c hc => (HS7.out.nM c hc).1)))
              have HB9 : Hid (Below w5.heap.size w5 (w9.setCell ⟨p6, 7, none⟩ (.slice vd (t + 1) ve))) := hid (hb9.trans ((Upd.setCell (F := (· = p6)) w9 ⟨p6, 7, none⟩ _ rfl).below hb9.size (fun c hc => by rw [hc]; exact HS7.out.np)))
              have z7' := cell_list hbx9 (j := 7) rfl
              have y7' : w9.frozen? ⟨p6, 7, none⟩ = false := by simp [World.frozen?, hbx9]
              clear hO hU hW hbx9 hb9 z7 e1 l6 l8 HS7
              go_wp2_with fail
              go_roundw
              case rel => exact ⟨t + 1, _, _, t3, by go_num, HS9, HB9⟩
              case measure => simp [intOf]; omega
            · have t2 : ¬ (t : Int) < (L3 : Int) := by omega
              have hbx := HS.out.box
              have HD := hid (HS.out.done (by rw [← GG.out.2.2.1]; omega))
              obtain ⟨na, nc, en, _⟩ := own_shp HS.out.rN
              obtain ⟨ma, mc, em, _⟩ := own_shp HS.out.rM
              obtain ⟨ba, bc, eb, _⟩ := own_shp HS.out.rB
              have e8 : lkC j y vB vN vM = [.int .i64 (j : Int), .int .i64 k, .int .i64 l, .int .i64 ((L1 : Int) + (L3 : Int)), .int .i64 hh, .slice ba L2 bc, .slice na t nc, .slice ma t mc] := by
                obtain ⟨g1, g2, g3, g4, g5, g6⟩ := GG.out
                rw [en, em, eb, g1, g2, g3, g4, g5, g6]; rfl
              rw [e8] at hbx HD
              have z0 := cell_list hbx (j := 0) rfl
              have z1 := cell_list hbx (j := 1) rfl
              have z2 := cell_list hbx (j := 2) rfl
              have z3 := cell_list hbx (j := 3) rfl
              have z4 := cell_list hbx (j := 4) rfl
              have z5 := cell_list hbx (j := 5) rfl
              have z6 := cell_list hbx (j := 6) rfl
              have z7 := cell_list hbx (j := 7) rfl
              have HBx : Hid (Below wr.heap.size wr wx) := hid (HB5.out.trans (HBt.out.mono HB5.out.size))
              clear hbx en em eb e8 HS
              go_wp2_with (at_builtin; go_must (refine wpList_append_where rfl (.tmp 63) (.tmp 65) 69 rfl 113 i0 _ 8 112 Tryz.underlying69 hi0 hz0 hz1 hz2 rfl (by decide) (.slice a' n c') n _ rfl ((Upd.of_below (F := fun _ => False) (HBx.out.trans ((alloc1 wx _).mono HBx.out.size))).own HO.out (fun _ _ h => h)) ⟨_, 0, none⟩ 1 1 [.int .i64 (j : Int), .int .i64 k, .int .i64 l, .int .i64 ((L1 : Int) + (L3 : Int)), .int .i64 hh, .slice ba L2 bc, .slice na t nc, .slice ma t mc] rfl rfl (by intro a u hj; rw [Addr.add_lit, Nat.zero_add, cell_of_row _ _ a _ 113 (0, 0) (by exact heap_alloc_new _ _)]; simpa using hj) (by simp [Value.oneCell']) (by unfold maxLen; omega) (by omega) ?_))
              intro v7 w7 hO hU _ hW
              obtain ⟨va, vc, rfl⟩ : ∃ va vc, v7 = .slice va (n + 1) vc := by
                rcases hO.out.2 with ⟨h1, _⟩ | ⟨g, c, cur, rfl, _⟩
                · omega
                · exact ⟨_, c, rfl⟩
              have hbW := HBx.out.trans ((alloc1 wx (.cells #[.int .i64 (j : Int), .int .i64 k, .int .i64 l, .int .i64 ((L1 : Int) + (L3 : Int)), .int .i64 hh, .slice ba L2 bc, .slice na t nc, .slice ma t mc] 113)).mono HBx.out.size)
              have HM : Hid (LkL w7 (fun b => w.heap.size ≤ b ∧ (Value.slice va (n + 1) vc).ownBlock ≠ some b) F (thr F (j + 1)) (cs ++ [.int .i64 (j : Int), .int .i64 k, .int .i64 l, .int .i64 ((L1 : Int) + (L3 : Int)), .int .i64 hh, .slice ba L2 bc, .slice na t nc, .slice ma t mc])) := hid (by
                rw [HE.out]
                refine LkL.more HLK.out (by rw [HK.out]; exact HO.out) hbW ?_ HBs hU (hW.out.imp (fun q => q) (fun q b hb => by have := q b hb; simpa using this))
                rw [← GY.out]
                exact HD.out.upd (Upd.of_below (F := fun _ => False) (alloc1 wx _)) (fun _ _ _ h => h) (fun b _ hb => Nat.le_trans HB5.out.size hb))
              have HK2 : Hid ((thr F (j + 1)).length = n + 1) := hid (by rw [HE.out, List.length_append, HK.out]; rfl)
              have HNW2 : Hid (∀ b, (Value.slice va (n + 1) vc).ownBlock = some b → w.heap.size ≤ b) := hid (fun b hb => by
                rcases hW.out with q | q
                · rw [q] at hb; exact HNW.out b hb
                · have h1 := q b hb
                  have h2 := HBx.out.size
                  omega)
              have HB9 : Hid (Below w.heap.size w w7) := hid (HB.out.trans ((hbW.mono HBs).trans (hU.below (Nat.le_trans HBs hbW.size) (fun c hc => HNW.out c hc))))
              clear hU hW hbW z0 z1 z2 z3 z4 z5 z6 z7 HLK HO HNW
              go_wp2_with fail
              go_roundw
              case rel => exact ⟨j + 1, n + 1, va, vc, _, hj3, by omega, by go_num, rfl, HK2, hO, HNW2, HM, HB9⟩
              case measure => simp [intOf]; omega
    · have hj2 : ¬ (j : Int) < 17 := by omega
      obtain rfl : j = 17 := by omega
      go_wp2_with fail
      rw [GPP.out]
      refine ⟨⟨_, cs, rfl, ?_, ?_⟩, HB.out⟩
      · rw [HK.out]; exact HO.out
      · exact LkL.upd (Upd.refl (fun _ => False) _) (fun _ _ _ h => h) (fun _ _ h => h.1) HLK.out

end Go.Proofs.YtbglhmcahnkbfaaGreat
