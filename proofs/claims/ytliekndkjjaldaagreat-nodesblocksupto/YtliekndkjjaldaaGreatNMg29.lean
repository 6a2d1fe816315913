/- Texts of this seat, merged. -/
import Derived.Test.YtliekndkjjaldaaGreatNMg28
import Derived.Deep.RegionLaw

/- What mayRename tells. -/
namespace Go.Proofs.YtliekndkjjaldaaGreat
open Go.RowKit Go.ChangeMaps Go.MapKept
set_option linter.unusedVariables false
set_option maxRecDepth 20000

set_option maxHeartbeats 4000000 in
theorem mayren_any (p : Nat) (S : Sg) (F : Fs) (w : World) (H : Sy w p S) (R : Rel S F) (hF : FOk F) (g n c : Nat) (y : List Nat) (nm : ByteArray) (i : Nat) (g2 n2 c2 : Nat) (y2 : List Nat) (nm2 : ByteArray) (m : Nat)
    (W1 : Wy w g n c y) (W2 : Wy w g2 n2 c2 y2) (hi : i < 17) (hm : m < 17) (hd2 : Fs.dirOf y2 < 17) :
    Calls Tryz.prog 73 #[.pointer (some ⟨p, 0, none⟩), .agg #[.slice (some ⟨g, 0, none⟩) n c, .string nm, .int .i64 (i : Int)], .agg #[.slice (some ⟨g2, 0, none⟩) n2 c2, .string nm2, .int .i64 (m : Int)]] w fun e w' => e = .returned (.int .i64 (F.mayR y i y2 m)) ∧ Below w.heap.size w w' := by
  obtain ⟨X, gX⟩ : ∃ X, X = F.mayR y i y2 m := ⟨_, rfl⟩
  rw [← gX]
  unfold Fs.mayR at gX
  obtain ⟨WB, gB⟩ : ∃ WB, WB = (w.alloc (Obj.cells #[.slice (some ⟨g, 0, none⟩) n c, .string nm, .int .i64 (i : Int)] 91)).alloc (Obj.cells #[.slice (some ⟨g2, 0, none⟩) n2 c2, .string nm2, .int .i64 (m : Int)] 91) := ⟨_, rfl⟩
  have hB : Below w.heap.size w WB := by rw [gB]; exact two_boxes _ _
  have hs : WB.heap.size = w.heap.size + 1 + 1 := by rw [gB]; simp
  have hb2 : WB.heap[w.heap.size + 1]? = some (.cells #[.slice (some ⟨g2, 0, none⟩) n2 c2, .string nm2, .int .i64 (m : Int)] 91 (0, 0)) := by
    rw [gB]
    have := heap_alloc_new (w.alloc (Obj.cells #[.slice (some ⟨g, 0, none⟩) n c, .string nm, .int .i64 (i : Int)] 91)) (Obj.cells #[.slice (some ⟨g2, 0, none⟩) n2 c2, .string nm2, .int .i64 (m : Int)] 91)
    rw [show (w.alloc (Obj.cells #[.slice (some ⟨g, 0, none⟩) n c, .string nm, .int .i64 (i : Int)] 91)).heap.size = w.heap.size + 1 by simp] at this
    exact this
  have hb1 : WB.heap[w.heap.size]? = some (.cells #[.slice (some ⟨g, 0, none⟩) n c, .string nm, .int .i64 (i : Int)] 91 (0, 0)) := by
    rw [gB]; exact plc_behind (heap_alloc_new w _) _
  obtain ⟨a0, a1, a2, _, _, _⟩ := plc_cells hb1
  obtain ⟨b0, b1, b2, _, _, _⟩ := plc_cells hb2
  have hS := H.grow hB
  have V1 := W1.grow hB
  have V2 := W2.grow hB
  have kr : Hid (∀ W, W.heap = WB.heap → Calls Tryz.prog 109 #[.pointer (some ⟨p, 1 + i * 107, none⟩), .pointer (some ⟨p, 1 + m * 107, none⟩)] W fun e w' => e = .returned (.int .i64 (F.over i m)) ∧ w' = W) :=
    hid (fun W hW => mayrep_any p S F W (hS.hp hW) R hF i m hi hm)
  have kc : Hid (∀ W, W.heap = WB.heap → Calls Tryz.prog 110 #[.slice (some ⟨g2, 0, none⟩) n2 c2, .int .i64 (i : Int)] W fun e w' => e = .returned (.bool (decide (i ∈ y2))) ∧ w' = W) :=
    hid (fun W hW => ncont_any g2 n2 c2 y2 i W (fun j hj => (World.cell?_of_block (a := ⟨g2, j, none⟩) (show W.heap[g2]? = WB.heap[g2]? by rw [hW])).trans (V2.at_ j hj)) V2.len (by have := V2.cap; have := V2.max; omega))
  have kd1 : Hid (∀ W, Hid (Below WB.heap.size WB W) → Calls Tryz.prog 104 #[.agg #[.slice (some ⟨g, 0, none⟩) n c, .string nm, .int .i64 (i : Int)]] W fun e w' => e = .returned (.int .i64 ((Fs.dirOf y : Nat) : Int)) ∧ Hid (Below WB.heap.size WB w')) := by
    refine hid (fun W hW => ((V1.grow hW.out).dir nm i).mono ?_)
    rintro e w' ⟨rfl, h⟩
    exact ⟨rfl, hid (hW.out.trans (h.mono hW.out.size))⟩
  have kd2 : Hid (∀ W, Hid (Below WB.heap.size WB W) → Calls Tryz.prog 104 #[.agg #[.slice (some ⟨g2, 0, none⟩) n2 c2, .string nm2, .int .i64 (m : Int)]] W fun e w' => e = .returned (.int .i64 ((Fs.dirOf y2 : Nat) : Int)) ∧ Hid (Below WB.heap.size WB w')) := by
    refine hid (fun W hW => ((V2.grow hW.out).dir nm2 m).mono ?_)
    rintro e w' ⟨rfl, h⟩
    exact ⟨rfl, hid (hW.out.trans (h.mono hW.out.size))⟩
  have kf : Hid (∀ W, Hid (Below WB.heap.size WB W) → Calls Tryz.prog 105 #[.pointer (some ⟨p, 1 + Fs.dirOf y2 * 107, none⟩)] W fun e w' => e = .returned (.bool (decide (6 ≤ (F.P (Fs.dirOf y2)).Q.length))) ∧ w' = W) := by
    refine hid (fun W hW => ?_)
    have hS' := hS.grow hW.out
    have := isfull_any p (1 + Fs.dirOf y2 * 107) _ _ _ W (hS'.m _ hd2) (hS'.nms _ hd2)
    rw [R.L _ hd2] at this
    exact this
  obtain ⟨d, gd⟩ : ∃ d, d = Fs.dirOf y := ⟨_, rfl⟩
  obtain ⟨d2, gd2⟩ : ∃ d2, d2 = Fs.dirOf y2 := ⟨_, rfl⟩
  obtain ⟨L, gL⟩ : ∃ L, L = (F.P (Fs.dirOf y2)).Q.length := ⟨_, rfl⟩
  obtain ⟨E, gE⟩ : ∃ E, E = F.over i m := ⟨_, rfl⟩
  rw [← gL] at kf gX
  rw [← gd] at kd1 gX
  rw [← gd2] at kd2 kf gX hd2
  rw [← gE] at kr gX
  have KX : Hid (∀ W, Hid (Below WB.heap.size WB W) → W.cell? ⟨w.heap.size, 0, none⟩ = some (.slice (some ⟨g, 0, none⟩) n c) ∧ W.cell? ⟨w.heap.size, 1, none⟩ = some (.string nm) ∧ W.cell? ⟨w.heap.size, 2, none⟩ = some (.int .i64 (i : Int)) ∧ W.cell? ⟨w.heap.size + 1, 0, none⟩ = some (.slice (some ⟨g2, 0, none⟩) n2 c2) ∧ W.cell? ⟨w.heap.size + 1, 1, none⟩ = some (.string nm2) ∧ W.cell? ⟨w.heap.size + 1, 2, none⟩ = some (.int .i64 (m : Int))) := by
    refine hid (fun W hW => ?_)
    have e : ∀ k j, k < WB.heap.size → W.cell? ⟨k, j, none⟩ = WB.cell? ⟨k, j, none⟩ := fun k j hk => hW.out.cell (p := ⟨k, j, none⟩) hk
    rw [e _ _ (by omega), e _ _ (by omega), e _ _ (by omega), e _ _ (by omega), e _ _ (by omega), e _ _ (by omega)]
    exact ⟨a0, a1, a2, b0, b1, b2⟩
  have i0 : (0 : Int) ≤ (i : Int) := by omega
  have i1 : (i : Int) < 17 := by omega
  have m0 : (0 : Int) ≤ (m : Int) := by omega
  have m1 : (m : Int) < 17 := by omega
  have HB := hid hB
  have HZ : Hid (w.heap.size < WB.heap.size ∧ w.heap.size + 1 < WB.heap.size) := hid (by omega)
  have HGX := hid gX
  clear H R hF W1 W2 hS V1 V2 hb1 hb2 hB hs gX gd gd2 gL gE
  by_cases hm0 : m = 0
  · have e0 : ¬ m ≠ 0 := by omega
    have z0 : (m : Int) = 0 := by omega
    by_cases hc : i ∈ y2
    · have HX : Hid (X = 22) := by
        have := HGX.out
        rw [if_neg (fun q => e0 q.1), if_pos hc] at this
        exact hid this
      rw [show decide (i ∈ y2) = true by simp [hc]] at kc
      subst hm0
      change WB = (w.alloc (Obj.cells #[.slice (some ⟨g, 0, none⟩) n c, .string nm, .int .i64 (i : Int)] 91)).alloc (Obj.cells #[.slice (some ⟨g2, 0, none⟩) n2 c2, .string nm2, .int .i64 0] 91) at gB
      change WB.cell? ⟨w.heap.size + 1, 2, none⟩ = some (.int .i64 0) at b2
      change Hid (∀ W, Hid (Below WB.heap.size WB W) → W.cell? ⟨w.heap.size, 0, none⟩ = some (.slice (some ⟨g, 0, none⟩) n c) ∧ W.cell? ⟨w.heap.size, 1, none⟩ = some (.string nm) ∧ W.cell? ⟨w.heap.size, 2, none⟩ = some (.int .i64 (i : Int)) ∧ W.cell? ⟨w.heap.size + 1, 0, none⟩ = some (.slice (some ⟨g2, 0, none⟩) n2 c2) ∧ W.cell? ⟨w.heap.size + 1, 1, none⟩ = some (.string nm2) ∧ W.cell? ⟨w.heap.size + 1, 2, none⟩ = some (.int .i64 0)) at KX
      change Hid (∀ W, Hid (Below WB.heap.size WB W) → Calls Tryz.prog 104 #[.agg #[.slice (some ⟨g2, 0, none⟩) n2 c2, .string nm2, .int .i64 0]] W fun e w' => e = .returned (.int .i64 (d2 : Int)) ∧ Hid (Below WB.heap.size WB w')) at kd2
      clear HGX hc e0 kr kd1 kd2 kf z0 m0 m1
      go_enter Tryz.func73, Tryz.ntmps73
      go_wp2_with fail
      rw [← gB]
      clear gB
      refine (kc.out _ rfl).mono ?_
      rintro e w1 ⟨rfl, rfl⟩
      go_wp2_with fail
      go_ret
      rw [HX.out]
      exact ⟨rfl, HB.out⟩
    · rw [show decide (i ∈ y2) = false by simp [hc]] at kc
      have HGX2 : Hid (X = if d2 ≠ d ∧ 6 ≤ L then 28 else 0) := by
        have := HGX.out
        rw [if_neg (fun q => e0 q.1), if_neg hc] at this
        rw [this]
        exact hid (by simp [hm0])
      subst hm0
      change WB = (w.alloc (Obj.cells #[.slice (some ⟨g, 0, none⟩) n c, .string nm, .int .i64 (i : Int)] 91)).alloc (Obj.cells #[.slice (some ⟨g2, 0, none⟩) n2 c2, .string nm2, .int .i64 0] 91) at gB
      change WB.cell? ⟨w.heap.size + 1, 2, none⟩ = some (.int .i64 0) at b2
      change Hid (∀ W, Hid (Below WB.heap.size WB W) → W.cell? ⟨w.heap.size, 0, none⟩ = some (.slice (some ⟨g, 0, none⟩) n c) ∧ W.cell? ⟨w.heap.size, 1, none⟩ = some (.string nm) ∧ W.cell? ⟨w.heap.size, 2, none⟩ = some (.int .i64 (i : Int)) ∧ W.cell? ⟨w.heap.size + 1, 0, none⟩ = some (.slice (some ⟨g2, 0, none⟩) n2 c2) ∧ W.cell? ⟨w.heap.size + 1, 1, none⟩ = some (.string nm2) ∧ W.cell? ⟨w.heap.size + 1, 2, none⟩ = some (.int .i64 0)) at KX
      change Hid (∀ W, Hid (Below WB.heap.size WB W) → Calls Tryz.prog 104 #[.agg #[.slice (some ⟨g2, 0, none⟩) n2 c2, .string nm2, .int .i64 0]] W fun e w' => e = .returned (.int .i64 (d2 : Int)) ∧ Hid (Below WB.heap.size WB w')) at kd2
      have d20 : (0 : Int) ≤ (d2 : Int) := by omega
      have d21 : (d2 : Int) < 17 := by omega
      clear HGX hc e0 kr z0 m0 m1
      by_cases hdd : d2 = d
      · have HX : Hid (X = 0) := by rw [HGX2.out]; exact hid (by simp [hdd])
        subst hdd
        clear HGX2 kf
        go_enter Tryz.func73, Tryz.ntmps73
        go_wp2_with fail
        rw [← gB]
        clear gB
        refine (kc.out _ rfl).mono ?_
        rintro e w1 ⟨rfl, rfl⟩
        clear kc
        go_wp2_with fail
        -- MANUAL
        refine wp_region_held_drew (S := (fun W => W.cell? ⟨w.heap.size, 0, none⟩ = some (.slice (some ⟨g, 0, none⟩) n c) ∧ W.cell? ⟨w.heap.size, 1, none⟩ = some (.string nm) ∧ W.cell? ⟨w.heap.size, 2, none⟩ = some (.int .i64 (i : Int)) ∧ W.cell? ⟨w.heap.size + 1, 0, none⟩ = some (.slice (some ⟨g2, 0, none⟩) n2 c2) ∧ W.cell? ⟨w.heap.size + 1, 1, none⟩ = some (.string nm2) ∧ W.cell? ⟨w.heap.size + 1, 2, none⟩ = some (.int .i64 0))) (by kernel_rfl) ?_ (fun hHeld => ?_)
        · (try dsimp only); go_keep
        refine wpAnyH_take (i := 0) (v := ?_) rfl (by kernel_rfl) (by kernel_rfl) (by kernel_rfl) (fun _ _ _ h => h) (Or.inl ⟨by rfl, ?_⟩) (by assumption) ?_
        rotate_left 1
        · intro w hSw
          (try dsimp only at hSw)
          go_simp
          try with_reducible rfl
        (try simp only [Act.put, List.getElem_toArray, List.getElem_cons_zero, List.setIfInBounds_toArray, List.set_cons_zero, List.set_cons_succ])
        refine wpAnyH_take (i := 1) (v := ?_) rfl (by kernel_rfl) (by kernel_rfl) (by kernel_rfl) (fun _ _ _ h => h) (Or.inl ⟨by rfl, ?_⟩) (by assumption) ?_
        rotate_left 1
        · intro w hSw
          (try dsimp only at hSw)
          go_simp
          try with_reducible rfl
        (try simp only [Act.put, List.getElem_toArray, List.getElem_cons_succ, List.getElem_cons_zero, List.setIfInBounds_toArray, List.set_cons_zero, List.set_cons_succ])
        refine wpAnyH_take (i := 2) (v := ?_) rfl (by kernel_rfl) (by kernel_rfl) (by kernel_rfl) (fun _ _ _ h => h) (Or.inl ⟨by rfl, ?_⟩) (by assumption) ?_
        rotate_left 1
        · intro w hSw
          (try dsimp only at hSw)
          go_simp
          try with_reducible rfl
        (try simp only [Act.put, List.getElem_toArray, List.getElem_cons_succ, List.getElem_cons_zero, List.setIfInBounds_toArray, List.set_cons_zero, List.set_cons_succ])
        refine wpAnyH_take (i := 3) (v := ?_) rfl (by kernel_rfl) (by kernel_rfl) (by kernel_rfl) (fun _ _ _ h => h) (Or.inl ⟨by rfl, ?_⟩) (by assumption) ?_
        rotate_left 1
        · intro w hSw
          (try dsimp only at hSw)
          go_simp
          try with_reducible rfl
        (try simp only [Act.put, List.getElem_toArray, List.getElem_cons_succ, List.getElem_cons_zero, List.setIfInBounds_toArray, List.set_cons_zero, List.set_cons_succ])
        refine wpAnyH_take (i := 4) (v := ?_) rfl (by kernel_rfl) (by kernel_rfl) (by kernel_rfl) (fun _ _ _ h => h) (Or.inl ⟨by rfl, ?_⟩) (by assumption) ?_
        rotate_left 1
        · intro w hSw
          (try dsimp only at hSw)
          go_simp
          try with_reducible rfl
        (try simp only [Act.put, List.getElem_toArray, List.getElem_cons_succ, List.getElem_cons_zero, List.setIfInBounds_toArray, List.set_cons_zero, List.set_cons_succ])
        refine wpAnyH_take (i := 6) (v := ?_) rfl (by kernel_rfl) (by kernel_rfl) (by kernel_rfl) (fun _ _ _ h => h) (Or.inl ⟨by rfl, ?_⟩) (by assumption) ?_
        rotate_left 1
        · intro w hSw
          (try dsimp only at hSw)
          go_simp
          try with_reducible rfl
        (try simp only [Act.put, List.getElem_toArray, List.getElem_cons_succ, List.getElem_cons_zero, List.setIfInBounds_toArray, List.set_cons_zero, List.set_cons_succ])
        refine wpAnyH_ready (rs := [5]) (by kernel_rfl) (by simp) ?_
        refine AllReadyH.cons rfl (fun K hK => ?_) AllReadyH.nil
        go_simp
        go_at_call 104
        refine (kd2.out _ (hid ((Below.refl _ _).drew))).mono ?_
        rintro e w4 ⟨rfl, hw4⟩
        obtain ⟨x0, x1, x2, x3, x4, x5⟩ := KX.out w4 hw4
        (try go_wp2_with fail)
        refine hK.out _ _ ?_ (fun hHeld => ?_)
        · (try dsimp only); exact ⟨x0, x1, x2, x3, x4, x5⟩
        clear hK K
        (try simp only [Act.put, List.getElem_toArray, List.getElem_cons_succ, List.getElem_cons_zero, List.setIfInBounds_toArray, List.set_cons_zero, List.set_cons_succ])
        refine wpAnyH_ready (rs := [7]) (by kernel_rfl) (by simp) ?_
        refine AllReadyH.cons rfl (fun K hK => ?_) AllReadyH.nil
        go_simp
        go_at_call 104
        refine (kd1.out _ hw4).mono ?_
        rintro e w5 ⟨rfl, hw5⟩
        obtain ⟨x0, x1, x2, x3, x4, x5⟩ := KX.out w5 hw5
        (try go_wp2_with fail)
        refine hK.out _ _ ?_ (fun hHeld => ?_)
        · (try dsimp only); exact ⟨x0, x1, x2, x3, x4, x5⟩
        clear hK K
        (try simp only [Act.put, List.getElem_toArray, List.getElem_cons_succ, List.getElem_cons_zero, List.setIfInBounds_toArray, List.set_cons_zero, List.set_cons_succ])
        refine wpAnyH_take (i := 8) (v := ?_) rfl (by kernel_rfl) (by kernel_rfl) (by kernel_rfl) (fun _ _ _ h => h) (Or.inl ⟨by rfl, ?_⟩) (by assumption) ?_
        rotate_left 1
        · intro w hSw
          (try dsimp only at hSw)
          go_simp
          try with_reducible rfl
        (try simp only [Act.put, List.getElem_toArray, List.getElem_cons_succ, List.getElem_cons_zero, List.setIfInBounds_toArray, List.set_cons_zero, List.set_cons_succ])
        refine wpAnyH_take (i := 9) (v := ?_) rfl (by kernel_rfl) (by kernel_rfl) (by kernel_rfl) (fun _ _ _ h => h) (Or.inl ⟨by rfl, ?_⟩) (by assumption) ?_
        rotate_left 1
        · intro w hSw
          (try dsimp only at hSw)
          go_simp
          try with_reducible rfl
        (try simp only [Act.put, List.getElem_toArray, List.getElem_cons_succ, List.getElem_cons_zero, List.setIfInBounds_toArray, List.set_cons_zero, List.set_cons_succ])
        refine wpAnyH_take (i := 10) (v := ?_) rfl (by kernel_rfl) (by kernel_rfl) (by kernel_rfl) (fun _ _ _ h => h) (Or.inl ⟨by rfl, ?_⟩) (by assumption) ?_
        rotate_left 1
        · intro w hSw
          (try dsimp only at hSw)
          go_simp
          try with_reducible rfl
        (try simp only [Act.put, List.getElem_toArray, List.getElem_cons_succ, List.getElem_cons_zero, List.setIfInBounds_toArray, List.set_cons_zero, List.set_cons_succ])
        refine wpAnyH_take (i := 11) (v := undef) rfl (by kernel_rfl) (by kernel_rfl) (by kernel_rfl) (fun _ _ _ h => h) (Or.inr ⟨by rfl, rfl⟩) (by assumption) ?_
        (try simp only [Act.put, List.getElem_toArray, List.getElem_cons_succ, List.getElem_cons_zero, List.setIfInBounds_toArray, List.set_cons_zero, List.set_cons_succ])
        refine wpAnyH_take (i := 14) (v := undef) rfl (by kernel_rfl) (by kernel_rfl) (by kernel_rfl) (fun _ _ _ h => h) (Or.inr ⟨by rfl, rfl⟩) (by assumption) ?_
        (try simp only [Act.put, List.getElem_toArray, List.getElem_cons_succ, List.getElem_cons_zero, List.setIfInBounds_toArray, List.set_cons_zero, List.set_cons_succ])
        refine wpAnyH_take (i := 15) (v := undef) rfl (by kernel_rfl) (by kernel_rfl) (by kernel_rfl) (fun _ _ _ h => h) (Or.inr ⟨by rfl, rfl⟩) (by assumption) ?_
        (try simp only [Act.put, List.getElem_toArray, List.getElem_cons_succ, List.getElem_cons_zero, List.setIfInBounds_toArray, List.set_cons_zero, List.set_cons_succ])
        refine wpAnyH_take (i := 12) (v := undef) rfl (by kernel_rfl) (by kernel_rfl) (by kernel_rfl) (fun _ _ _ h => h) (Or.inr ⟨by rfl, rfl⟩) (by assumption) ?_
        (try simp only [Act.put, List.getElem_toArray, List.getElem_cons_succ, List.getElem_cons_zero, List.setIfInBounds_toArray, List.set_cons_zero, List.set_cons_succ])
        refine wpAnyH_take (i := 13) (v := undef) rfl (by kernel_rfl) (by kernel_rfl) (by kernel_rfl) (fun _ _ _ h => h) (Or.inr ⟨by rfl, rfl⟩) (by assumption) ?_
        (try simp only [Act.put, List.getElem_toArray, List.getElem_cons_succ, List.getElem_cons_zero, List.setIfInBounds_toArray, List.set_cons_zero, List.set_cons_succ])
        refine wpAnyH_take (i := 16) (v := undef) rfl (by kernel_rfl) (by kernel_rfl) (by kernel_rfl) (fun _ _ _ h => h) (Or.inr ⟨by rfl, rfl⟩) (by assumption) ?_
        (try simp only [Act.put, List.getElem_toArray, List.getElem_cons_succ, List.getElem_cons_zero, List.setIfInBounds_toArray, List.set_cons_zero, List.set_cons_succ])
        refine wpAnyH_take (i := 17) (v := undef) rfl (by kernel_rfl) (by kernel_rfl) (by kernel_rfl) (fun _ _ _ h => h) (Or.inr ⟨by rfl, rfl⟩) (by assumption) ?_
        (try simp only [Act.put, List.getElem_toArray, List.getElem_cons_succ, List.getElem_cons_zero, List.setIfInBounds_toArray, List.set_cons_zero, List.set_cons_succ])
        refine wpAnyH_take (i := 18) (v := ?_) rfl (by kernel_rfl) (by kernel_rfl) (by kernel_rfl) (fun _ _ _ h => h) (Or.inl ⟨by rfl, ?_⟩) (by assumption) ?_
        rotate_left 1
        · intro w hSw
          (try dsimp only at hSw)
          go_simp
          try with_reducible rfl
        (try simp only [Act.put, List.getElem_toArray, List.getElem_cons_succ, List.getElem_cons_zero, List.setIfInBounds_toArray, List.set_cons_zero, List.set_cons_succ])
        refine wpAnyH_done (by kernel_rfl) ?_ _
        clear x0 x1 x2 x3 x4 x5 kd1 kd2 KX a0 a1 a2 b0 b1 b2
        go_wp2_with fail
        go_ret
        rw [HX.out]
        exact ⟨rfl, HB.out.trans (hw5.out.mono HB.out.size)⟩
      · by_cases hL : 6 ≤ L
        · have hdd1 : ¬ (d2 : Int) = (d : Int) := by omega
          have hdd2 : ((d2 : Int) == (d : Int)) = false := by simpa using hdd1
          have hdd3 : ((d2 : Int) != (d : Int)) = true := by simpa using hdd1
          rw [show decide (6 ≤ L) = true by simp [hL]] at kf
          have HX : Hid (X = 28) := by rw [HGX2.out]; exact hid (by simp [hdd, hL])
          clear HGX2 hdd hL
          go_enter Tryz.func73, Tryz.ntmps73
          go_wp2_with fail
          rw [← gB]
          clear gB
          refine (kc.out _ rfl).mono ?_
          rintro e w1 ⟨rfl, rfl⟩
          clear kc
          go_wp2_with fail
          go_region_held3 (fun W => W.cell? ⟨w.heap.size, 0, none⟩ = some (.slice (some ⟨g, 0, none⟩) n c) ∧ W.cell? ⟨w.heap.size, 1, none⟩ = some (.string nm) ∧ W.cell? ⟨w.heap.size, 2, none⟩ = some (.int .i64 (i : Int)) ∧ W.cell? ⟨w.heap.size + 1, 0, none⟩ = some (.slice (some ⟨g2, 0, none⟩) n2 c2) ∧ W.cell? ⟨w.heap.size + 1, 1, none⟩ = some (.string nm2) ∧ W.cell? ⟨w.heap.size + 1, 2, none⟩ = some (.int .i64 0)) (go_keep) (first | (go_at_call 104; first | (with_reducible show Calls _ _ #[Value.agg #[Value.slice (some ⟨g, 0, none⟩) n c, _, _]] _ _; refine (kd1.out _ (by first | assumption | exact hid ((Below.refl _ _).drew))).mono ?_; rintro e w4 ⟨rfl, hb4⟩; obtain ⟨x0, x1, x2, x3, x4, x5⟩ := KX.out w4 hb4) | (with_reducible show Calls _ _ #[Value.agg #[Value.slice (some ⟨g2, 0, none⟩) n2 c2, _, _]] _ _; refine (kd2.out _ (by first | assumption | exact hid ((Below.refl _ _).drew))).mono ?_; rintro e w4 ⟨rfl, hb4⟩; obtain ⟨x0, x1, x2, x3, x4, x5⟩ := KX.out w4 hb4)) | (go_at_call 105; refine (kf.out _ (by assumption)).mono ?_; rintro e w6 ⟨rfl, rfl⟩))
          clear kd1 kd2 KX a0 a1 a2 b0 b1 b2
          all_goals go_wp2_with fail
          all_goals go_ret
          all_goals (rw [HX.out]; exact ⟨rfl, HB.out.trans ((by assumption : Hid (Below w1.heap.size w1 _)).out.mono HB.out.size)⟩)
        · have hdd1 : ¬ (d2 : Int) = (d : Int) := by omega
          have hdd2 : ((d2 : Int) == (d : Int)) = false := by simpa using hdd1
          have hdd3 : ((d2 : Int) != (d : Int)) = true := by simpa using hdd1
          rw [show decide (6 ≤ L) = false by simp [hL]] at kf
          have HX : Hid (X = 0) := by rw [HGX2.out]; exact hid (by simp [hdd, hL])
          clear HGX2 hdd hL
          go_enter Tryz.func73, Tryz.ntmps73
          go_wp2_with fail
          rw [← gB]
          clear gB
          refine (kc.out _ rfl).mono ?_
          rintro e w1 ⟨rfl, rfl⟩
          clear kc
          go_wp2_with fail
          go_region_held3 (fun W => W.cell? ⟨w.heap.size, 0, none⟩ = some (.slice (some ⟨g, 0, none⟩) n c) ∧ W.cell? ⟨w.heap.size, 1, none⟩ = some (.string nm) ∧ W.cell? ⟨w.heap.size, 2, none⟩ = some (.int .i64 (i : Int)) ∧ W.cell? ⟨w.heap.size + 1, 0, none⟩ = some (.slice (some ⟨g2, 0, none⟩) n2 c2) ∧ W.cell? ⟨w.heap.size + 1, 1, none⟩ = some (.string nm2) ∧ W.cell? ⟨w.heap.size + 1, 2, none⟩ = some (.int .i64 0)) (go_keep) (first | (go_at_call 104; first | (with_reducible show Calls _ _ #[Value.agg #[Value.slice (some ⟨g, 0, none⟩) n c, _, _]] _ _; refine (kd1.out _ (by first | assumption | exact hid ((Below.refl _ _).drew))).mono ?_; rintro e w4 ⟨rfl, hb4⟩; obtain ⟨x0, x1, x2, x3, x4, x5⟩ := KX.out w4 hb4) | (with_reducible show Calls _ _ #[Value.agg #[Value.slice (some ⟨g2, 0, none⟩) n2 c2, _, _]] _ _; refine (kd2.out _ (by first | assumption | exact hid ((Below.refl _ _).drew))).mono ?_; rintro e w4 ⟨rfl, hb4⟩; obtain ⟨x0, x1, x2, x3, x4, x5⟩ := KX.out w4 hb4)) | (go_at_call 105; refine (kf.out _ (by assumption)).mono ?_; rintro e w6 ⟨rfl, rfl⟩))
          clear kd1 kd2 KX a0 a1 a2 b0 b1 b2
          all_goals go_wp2_with fail
          all_goals go_ret
          all_goals (rw [HX.out]; exact ⟨rfl, HB.out.trans ((by assumption : Hid (Below w1.heap.size w1 _)).out.mono HB.out.size)⟩)
  · have z0 : ¬ (m : Int) = 0 := by omega
    have z1 : ((m : Int) == 0) = false := by simpa using hm0
    clear kd1 kd2 kf
    by_cases hE : E = 0
    case neg =>
      have HX : Hid (X = E) := by
        have := HGX.out
        rw [if_pos ⟨hm0, hE⟩] at this
        exact hid this
      clear HGX hm0 kc
      go_enter Tryz.func73, Tryz.ntmps73
      go_wp2_with fail
      rw [← gB]
      clear gB
      go_region_held3 (fun W => W.cell? ⟨w.heap.size, 0, none⟩ = some (.slice (some ⟨g, 0, none⟩) n c) ∧ W.cell? ⟨w.heap.size, 1, none⟩ = some (.string nm) ∧ W.cell? ⟨w.heap.size, 2, none⟩ = some (.int .i64 (i : Int)) ∧ W.cell? ⟨w.heap.size + 1, 0, none⟩ = some (.slice (some ⟨g2, 0, none⟩) n2 c2) ∧ W.cell? ⟨w.heap.size + 1, 1, none⟩ = some (.string nm2) ∧ W.cell? ⟨w.heap.size + 1, 2, none⟩ = some (.int .i64 (m : Int))) (go_keep) (first | (go_at_call 109; refine (kr.out _ (by rfl)).mono ?_; rintro e w4 ⟨rfl, rfl⟩))
      clear kr KX a0 a1 a2 b0 b1 b2
      all_goals go_wp2_with fail
      all_goals go_ret
      all_goals (rw [HX.out]; exact ⟨rfl, HB.out.drew⟩)
    subst hE
    by_cases hc : i ∈ y2
    · have HX : Hid (X = 22) := by
        have := HGX.out
        rw [if_neg (fun q => q.2 rfl), if_pos hc] at this
        exact hid this
      rw [show decide (i ∈ y2) = true by simp [hc]] at kc
      clear HGX hm0 hc
      go_enter Tryz.func73, Tryz.ntmps73
      go_wp2_with fail
      rw [← gB]
      clear gB
      go_region_held3 (fun W => W.cell? ⟨w.heap.size, 0, none⟩ = some (.slice (some ⟨g, 0, none⟩) n c) ∧ W.cell? ⟨w.heap.size, 1, none⟩ = some (.string nm) ∧ W.cell? ⟨w.heap.size, 2, none⟩ = some (.int .i64 (i : Int)) ∧ W.cell? ⟨w.heap.size + 1, 0, none⟩ = some (.slice (some ⟨g2, 0, none⟩) n2 c2) ∧ W.cell? ⟨w.heap.size + 1, 1, none⟩ = some (.string nm2) ∧ W.cell? ⟨w.heap.size + 1, 2, none⟩ = some (.int .i64 (m : Int))) (go_keep) (first | (go_at_call 109; refine (kr.out _ (by rfl)).mono ?_; rintro e w4 ⟨rfl, rfl⟩))
      clear kr KX
      go_wp2_with fail
      refine (kc.out WB.drew rfl).mono ?_
      rintro e w5 ⟨rfl, rfl⟩
      clear kc a0 a1 a2 b0 b1 b2
      go_wp2_with fail
      go_ret
      rw [HX.out]
      exact ⟨rfl, HB.out.drew⟩
    · have HX : Hid (X = 0) := by
        have := HGX.out
        rw [if_neg (fun q => q.2 rfl), if_neg hc, if_neg (fun q => hm0 q.1)] at this
        exact hid this
      rw [show decide (i ∈ y2) = false by simp [hc]] at kc
      clear HGX hm0 hc
      go_enter Tryz.func73, Tryz.ntmps73
      go_wp2_with fail
      rw [← gB]
      clear gB
      go_region_held3 (fun W => W.cell? ⟨w.heap.size, 0, none⟩ = some (.slice (some ⟨g, 0, none⟩) n c) ∧ W.cell? ⟨w.heap.size, 1, none⟩ = some (.string nm) ∧ W.cell? ⟨w.heap.size, 2, none⟩ = some (.int .i64 (i : Int)) ∧ W.cell? ⟨w.heap.size + 1, 0, none⟩ = some (.slice (some ⟨g2, 0, none⟩) n2 c2) ∧ W.cell? ⟨w.heap.size + 1, 1, none⟩ = some (.string nm2) ∧ W.cell? ⟨w.heap.size + 1, 2, none⟩ = some (.int .i64 (m : Int))) (go_keep) (first | (go_at_call 109; refine (kr.out _ (by rfl)).mono ?_; rintro e w4 ⟨rfl, rfl⟩))
      clear kr KX
      go_wp2_with fail
      refine (kc.out WB.drew rfl).mono ?_
      rintro e w5 ⟨rfl, rfl⟩
      clear kc
      go_wp2_with fail
      refine wp_region_held_drew (S := (fun W => W.cell? ⟨w.heap.size, 0, none⟩ = some (.slice (some ⟨g, 0, none⟩) n c) ∧ W.cell? ⟨w.heap.size, 1, none⟩ = some (.string nm) ∧ W.cell? ⟨w.heap.size, 2, none⟩ = some (.int .i64 (i : Int)) ∧ W.cell? ⟨w.heap.size + 1, 0, none⟩ = some (.slice (some ⟨g2, 0, none⟩) n2 c2) ∧ W.cell? ⟨w.heap.size + 1, 1, none⟩ = some (.string nm2) ∧ W.cell? ⟨w.heap.size + 1, 2, none⟩ = some (.int .i64 (m : Int)))) (by kernel_rfl) ?_ (fun hHeld => ?_)
      · (try dsimp only); go_keep
      refine wpAnyH_take (i := 0) (v := ?_) rfl (by kernel_rfl) (by kernel_rfl) (by kernel_rfl) (fun _ _ _ h => h) (Or.inl ⟨by rfl, ?_⟩) (by assumption) ?_
      rotate_left 1
      · intro w hSw
        (try dsimp only at hSw)
        go_simp
        try with_reducible rfl
      (try simp only [Act.put, List.getElem_toArray, List.getElem_cons_zero, List.setIfInBounds_toArray, List.set_cons_zero, List.set_cons_succ])
      refine wpAnyH_take (i := 1) (v := ?_) rfl (by kernel_rfl) (by kernel_rfl) (by kernel_rfl) (fun _ _ _ h => h) (Or.inl ⟨by rfl, ?_⟩) (by assumption) ?_
      rotate_left 1
      · intro w hSw
        (try dsimp only at hSw)
        go_simp
        try with_reducible rfl
      (try simp only [Act.put, List.getElem_toArray, List.getElem_cons_succ, List.getElem_cons_zero, List.setIfInBounds_toArray, List.set_cons_zero, List.set_cons_succ])
      refine wpAnyH_take (i := 2) (v := ?_) rfl (by kernel_rfl) (by kernel_rfl) (by kernel_rfl) (fun _ _ _ h => h) (Or.inl ⟨by rfl, ?_⟩) (by assumption) ?_
      rotate_left 1
      · intro w hSw
        (try dsimp only at hSw)
        go_simp
        try with_reducible rfl
      (try simp only [Act.put, List.getElem_toArray, List.getElem_cons_succ, List.getElem_cons_zero, List.setIfInBounds_toArray, List.set_cons_zero, List.set_cons_succ])
      refine wpAnyH_take (i := 3) (v := ?_) rfl (by kernel_rfl) (by kernel_rfl) (by kernel_rfl) (fun _ _ _ h => h) (Or.inl ⟨by rfl, ?_⟩) (by assumption) ?_
      rotate_left 1
      · intro w hSw
        (try dsimp only at hSw)
        go_simp
        try with_reducible rfl
      (try simp only [Act.put, List.getElem_toArray, List.getElem_cons_succ, List.getElem_cons_zero, List.setIfInBounds_toArray, List.set_cons_zero, List.set_cons_succ])
      refine wpAnyH_take (i := 4) (v := undef) rfl (by kernel_rfl) (by kernel_rfl) (by kernel_rfl) (fun _ _ _ h => h) (Or.inr ⟨by rfl, rfl⟩) (by assumption) ?_
      (try simp only [Act.put, List.getElem_toArray, List.getElem_cons_succ, List.getElem_cons_zero, List.setIfInBounds_toArray, List.set_cons_zero, List.set_cons_succ])
      refine wpAnyH_take (i := 6) (v := undef) rfl (by kernel_rfl) (by kernel_rfl) (by kernel_rfl) (fun _ _ _ h => h) (Or.inr ⟨by rfl, rfl⟩) (by assumption) ?_
      (try simp only [Act.put, List.getElem_toArray, List.getElem_cons_succ, List.getElem_cons_zero, List.setIfInBounds_toArray, List.set_cons_zero, List.set_cons_succ])
      refine wpAnyH_take (i := 5) (v := undef) rfl (by kernel_rfl) (by kernel_rfl) (by kernel_rfl) (fun _ _ _ h => h) (Or.inr ⟨by rfl, rfl⟩) (by assumption) ?_
      (try simp only [Act.put, List.getElem_toArray, List.getElem_cons_succ, List.getElem_cons_zero, List.setIfInBounds_toArray, List.set_cons_zero, List.set_cons_succ])
      refine wpAnyH_take (i := 7) (v := undef) rfl (by kernel_rfl) (by kernel_rfl) (by kernel_rfl) (fun _ _ _ h => h) (Or.inr ⟨by rfl, rfl⟩) (by assumption) ?_
      (try simp only [Act.put, List.getElem_toArray, List.getElem_cons_succ, List.getElem_cons_zero, List.setIfInBounds_toArray, List.set_cons_zero, List.set_cons_succ])
      refine wpAnyH_take (i := 8) (v := undef) rfl (by kernel_rfl) (by kernel_rfl) (by kernel_rfl) (fun _ _ _ h => h) (Or.inr ⟨by rfl, rfl⟩) (by assumption) ?_
      (try simp only [Act.put, List.getElem_toArray, List.getElem_cons_succ, List.getElem_cons_zero, List.setIfInBounds_toArray, List.set_cons_zero, List.set_cons_succ])
      refine wpAnyH_take (i := 9) (v := ?_) rfl (by kernel_rfl) (by kernel_rfl) (by kernel_rfl) (fun _ _ _ h => h) (Or.inl ⟨by rfl, ?_⟩) (by assumption) ?_
      rotate_left 1
      · intro w hSw
        (try dsimp only at hSw)
        go_simp
        try with_reducible rfl
      (try simp only [Act.put, List.getElem_toArray, List.getElem_cons_succ, List.getElem_cons_zero, List.setIfInBounds_toArray, List.set_cons_zero, List.set_cons_succ])
      refine wpAnyH_take (i := 10) (v := ?_) rfl (by kernel_rfl) (by kernel_rfl) (by kernel_rfl) (fun _ _ _ h => h) (Or.inl ⟨by rfl, ?_⟩) (by assumption) ?_
      rotate_left 1
      · intro w hSw
        (try dsimp only at hSw)
        go_simp
        try with_reducible rfl
      (try simp only [Act.put, List.getElem_toArray, List.getElem_cons_succ, List.getElem_cons_zero, List.setIfInBounds_toArray, List.set_cons_zero, List.set_cons_succ])
      refine wpAnyH_take (i := 11) (v := undef) rfl (by kernel_rfl) (by kernel_rfl) (by kernel_rfl) (fun _ _ _ h => h) (Or.inr ⟨by rfl, rfl⟩) (by assumption) ?_
      (try simp only [Act.put, List.getElem_toArray, List.getElem_cons_succ, List.getElem_cons_zero, List.setIfInBounds_toArray, List.set_cons_zero, List.set_cons_succ])
      refine wpAnyH_take (i := 14) (v := undef) rfl (by kernel_rfl) (by kernel_rfl) (by kernel_rfl) (fun _ _ _ h => h) (Or.inr ⟨by rfl, rfl⟩) (by assumption) ?_
      (try simp only [Act.put, List.getElem_toArray, List.getElem_cons_succ, List.getElem_cons_zero, List.setIfInBounds_toArray, List.set_cons_zero, List.set_cons_succ])
      refine wpAnyH_take (i := 15) (v := undef) rfl (by kernel_rfl) (by kernel_rfl) (by kernel_rfl) (fun _ _ _ h => h) (Or.inr ⟨by rfl, rfl⟩) (by assumption) ?_
      (try simp only [Act.put, List.getElem_toArray, List.getElem_cons_succ, List.getElem_cons_zero, List.setIfInBounds_toArray, List.set_cons_zero, List.set_cons_succ])
      refine wpAnyH_take (i := 12) (v := undef) rfl (by kernel_rfl) (by kernel_rfl) (by kernel_rfl) (fun _ _ _ h => h) (Or.inr ⟨by rfl, rfl⟩) (by assumption) ?_
      (try simp only [Act.put, List.getElem_toArray, List.getElem_cons_succ, List.getElem_cons_zero, List.setIfInBounds_toArray, List.set_cons_zero, List.set_cons_succ])
      refine wpAnyH_take (i := 13) (v := undef) rfl (by kernel_rfl) (by kernel_rfl) (by kernel_rfl) (fun _ _ _ h => h) (Or.inr ⟨by rfl, rfl⟩) (by assumption) ?_
      (try simp only [Act.put, List.getElem_toArray, List.getElem_cons_succ, List.getElem_cons_zero, List.setIfInBounds_toArray, List.set_cons_zero, List.set_cons_succ])
      refine wpAnyH_take (i := 16) (v := undef) rfl (by kernel_rfl) (by kernel_rfl) (by kernel_rfl) (fun _ _ _ h => h) (Or.inr ⟨by rfl, rfl⟩) (by assumption) ?_
      (try simp only [Act.put, List.getElem_toArray, List.getElem_cons_succ, List.getElem_cons_zero, List.setIfInBounds_toArray, List.set_cons_zero, List.set_cons_succ])
      refine wpAnyH_take (i := 17) (v := undef) rfl (by kernel_rfl) (by kernel_rfl) (by kernel_rfl) (fun _ _ _ h => h) (Or.inr ⟨by rfl, rfl⟩) (by assumption) ?_
      (try simp only [Act.put, List.getElem_toArray, List.getElem_cons_succ, List.getElem_cons_zero, List.setIfInBounds_toArray, List.set_cons_zero, List.set_cons_succ])
      refine wpAnyH_take (i := 18) (v := ?_) rfl (by kernel_rfl) (by kernel_rfl) (by kernel_rfl) (fun _ _ _ h => h) (Or.inl ⟨by rfl, ?_⟩) (by assumption) ?_
      rotate_left 1
      · intro w hSw
        (try dsimp only at hSw)
        go_simp
        try with_reducible rfl
      (try simp only [Act.put, List.getElem_toArray, List.getElem_cons_succ, List.getElem_cons_zero, List.setIfInBounds_toArray, List.set_cons_zero, List.set_cons_succ])
      refine wpAnyH_done (by kernel_rfl) ?_ _
      clear a0 a1 a2 b0 b1 b2
      go_wp2_with fail
      go_ret
      rw [HX.out]
      exact ⟨rfl, HB.out.drew.drew⟩

end Go.Proofs.YtliekndkjjaldaaGreat
