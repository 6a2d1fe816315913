/- Texts of this seat, merged. -/
import Derived.Test.YtoknhcjneliboaaGreatFMg34
import Derived.Deep.RegionLaw
import Derived.Test.YtoknhcjneliboaaGreatFMg25
import Derived.Test.YtoknhcjneliboaaGreatFMg20

/- What mayRename tells. -/
namespace Go.Proofs.YtoknhcjneliboaaGreat
open Go.RowKit Go.ChangeMaps Go.MapKept
set_option linter.unusedVariables false
set_option maxRecDepth 20000

set_option maxHeartbeats 4000000 in
theorem mayren_any (p : Nat) (S : Sg) (F : Fs) (w : World) (H : Sy w p S) (R : Rel S F) (hF : FOk F) (g n c : Nat) (y : List Nat) (nm : ByteArray) (i : Nat) (g2 n2 c2 : Nat) (y2 : List Nat) (nm2 : ByteArray) (m : Nat)
    (W1 : Wy w g n c y) (W2 : Wy w g2 n2 c2 y2) (hi : i < 17) (hm : m < 17) (hd2 : Fs.dirOf y2 < 17) :
    Calls Tryz.prog 137 #[.pointer (some ⟨p, 0, none⟩), .agg #[.slice (some ⟨g, 0, none⟩) n c, .string nm, .int .i64 (i : Int)], .agg #[.slice (some ⟨g2, 0, none⟩) n2 c2, .string nm2, .int .i64 (m : Int)]] w fun e w' => e = .returned (.int .i64 (F.mayR y i y2 m)) ∧ Below w.heap.size w w' := by
  obtain ⟨X, gX⟩ : ∃ X, X = F.mayR y i y2 m := ⟨_, rfl⟩
  rw [← gX]
  unfold Fs.mayR at gX
  obtain ⟨WB, gB⟩ : ∃ WB, WB = (w.alloc (Obj.cells #[.slice (some ⟨g, 0, none⟩) n c, .string nm, .int .i64 (i : Int)] 184)).alloc (Obj.cells #[.slice (some ⟨g2, 0, none⟩) n2 c2, .string nm2, .int .i64 (m : Int)] 184) := ⟨_, rfl⟩
  have hB : Below w.heap.size w WB := by rw [gB]; exact two_boxes _ _
  have hs : WB.heap.size = w.heap.size + 1 + 1 := by rw [gB]; simp
  have hb2 : WB.heap[w.heap.size + 1]? = some (.cells #[.slice (some ⟨g2, 0, none⟩) n2 c2, .string nm2, .int .i64 (m : Int)] 184 (0, 0)) := by
    rw [gB]
    have := heap_alloc_new (w.alloc (Obj.cells #[.slice (some ⟨g, 0, none⟩) n c, .string nm, .int .i64 (i : Int)] 184)) (Obj.cells #[.slice (some ⟨g2, 0, none⟩) n2 c2, .string nm2, .int .i64 (m : Int)] 184)
    rw [show (w.alloc (Obj.cells #[.slice (some ⟨g, 0, none⟩) n c, .string nm, .int .i64 (i : Int)] 184)).heap.size = w.heap.size + 1 by simp] at this
    exact this
  have hb1 : WB.heap[w.heap.size]? = some (.cells #[.slice (some ⟨g, 0, none⟩) n c, .string nm, .int .i64 (i : Int)] 184 (0, 0)) := by
    rw [gB]; exact plc_behind (heap_alloc_new w _) _
  obtain ⟨a0, a1, a2, _, _, _⟩ := plc_cells hb1
  obtain ⟨b0, b1, b2, _, _, _⟩ := plc_cells hb2
  have hS := H.grow hB
  have V1 := W1.grow hB
  have V2 := W2.grow hB
  have kr : Hid (∀ W, W.heap = WB.heap → Calls Tryz.prog 152 #[.pointer (some ⟨p, 1 + i * 107, none⟩), .pointer (some ⟨p, 1 + m * 107, none⟩)] W fun e w' => e = .returned (.int .i64 (F.over i m)) ∧ w' = W) :=
    hid (fun W hW => mayrep_any p S F W (hS.hp hW) R hF i m hi hm)
  have kc : Hid (∀ W, W.heap = WB.heap → Calls Tryz.prog 153 #[.slice (some ⟨g2, 0, none⟩) n2 c2, .int .i64 (i : Int)] W fun e w' => e = .returned (.bool (decide (i ∈ y2))) ∧ w' = W) :=
    hid (fun W hW => ncont_any g2 n2 c2 y2 i W (fun j hj => (World.cell?_of_block (a := ⟨g2, j, none⟩) (show W.heap[g2]? = WB.heap[g2]? by rw [hW])).trans (V2.at_ j hj)) V2.len (by have := V2.cap; have := V2.max; omega))
  have kd1 : Hid (∀ W, Hid (Below WB.heap.size WB W) → Calls Tryz.prog 146 #[.agg #[.slice (some ⟨g, 0, none⟩) n c, .string nm, .int .i64 (i : Int)]] W fun e w' => e = .returned (.int .i64 ((Fs.dirOf y : Nat) : Int)) ∧ Hid (Below WB.heap.size WB w')) := by
    refine hid (fun W hW => ((V1.grow hW.out).dir nm i).mono ?_)
    rintro e w' ⟨rfl, h⟩
    exact ⟨rfl, hid (hW.out.trans (h.mono hW.out.size))⟩
  have kd2 : Hid (∀ W, Hid (Below WB.heap.size WB W) → Calls Tryz.prog 146 #[.agg #[.slice (some ⟨g2, 0, none⟩) n2 c2, .string nm2, .int .i64 (m : Int)]] W fun e w' => e = .returned (.int .i64 ((Fs.dirOf y2 : Nat) : Int)) ∧ Hid (Below WB.heap.size WB w')) := by
    refine hid (fun W hW => ((V2.grow hW.out).dir nm2 m).mono ?_)
    rintro e w' ⟨rfl, h⟩
    exact ⟨rfl, hid (hW.out.trans (h.mono hW.out.size))⟩
  have kf : Hid (∀ W, Hid (Below WB.heap.size WB W) → Calls Tryz.prog 147 #[.pointer (some ⟨p, 1 + Fs.dirOf y2 * 107, none⟩)] W fun e w' => e = .returned (.bool (decide (6 ≤ (F.P (Fs.dirOf y2)).Q.length))) ∧ w' = W) := by
    refine hid (fun W hW => ?_)
    have hS' := hS.grow hW.out
    have := isfull_any p (1 + Fs.dirOf y2 * 107) _ _ _ W (hS'.m _ hd2) (hS'.nms _ hd2)
    rw [R.L _ hd2] at this
    exact this
  obtain ⟨d, gd⟩ : ∃ d, d = Fs.dirOf y := ⟨_, rfl⟩
  obtain ⟨d2, gd2⟩ : ∃ d2, d2 = Fs.dirOf y2 := ⟨_, rfl⟩
  obtain ⟨L, gL⟩ : ∃ L, L = (F.P (Fs.dirOf y2)).Q.length := ⟨_, rfl⟩
  obtain ⟨E, gE⟩ : ∃ E, E = F.over i m := ⟨_, rfl⟩
  rw [← gL] at kf gX
  rw [← gd] at kd1 gX
  rw [← gd2] at kd2 kf gX hd2
  rw [← gE] at kr gX
  have KX : Hid (∀ W, Hid (Below WB.heap.size WB W) → W.cell? ⟨w.heap.size, 0, none⟩ = some (.slice (some ⟨g, 0, none⟩) n c) ∧ W.cell? ⟨w.heap.size, 1, none⟩ = some (.string nm) ∧ W.cell? ⟨w.heap.size, 2, none⟩ = some (.int .i64 (i : Int)) ∧ W.cell? ⟨w.heap.size + 1, 0, none⟩ = some (.slice (some ⟨g2, 0, none⟩) n2 c2) ∧ W.cell? ⟨w.heap.size + 1, 1, none⟩ = some (.string nm2) ∧ W.cell? ⟨w.heap.size + 1, 2, none⟩ = some (.int .i64 (m : Int))) := by
    refine hid (fun W hW => ?_)
    have e : ∀ k j, k < WB.heap.size → W.cell? ⟨k, j, none⟩ = WB.cell? ⟨k, j, none⟩ := fun k j hk => hW.out.cell (p := ⟨k, j, none⟩) hk
    rw [e _ _ (by omega), e _ _ (by omega), e _ _ (by omega), e _ _ (by omega), e _ _ (by omega), e _ _ (by omega)]
    exact ⟨a0, a1, a2, b0, b1, b2⟩
  have i0 : (0 : Int) ≤ (i : Int) := by omega
  have i1 : (i : Int) < 17 := by omega
  have m0 : (0 : Int) ≤ (m : Int) := by omega
  have m1 : (m : Int) < 17 := by omega
  have HB := hid hB
  have HZ : Hid (w.heap.size < WB.heap.size ∧ w.heap.size + 1 < WB.heap.size) := hid (by omega)
  have HGX := hid gX
  clear H R hF W1 W2 hS V1 V2 hb1 hb2 hB hs gX gd gd2 gL gE
  by_cases hm0 : m = 0
  · have e0 : ¬ m ≠ 0 := by omega
    have z0 : (m : Int) = 0 := by omega
    by_cases hc : i ∈ y2
    · have HX : Hid (X = 22) := by
        have := HGX.out
        rw [if_neg (fun q => e0 q.1), if_pos hc] at this
        exact hid this
      rw [show decide (i ∈ y2) = true by simp [hc]] at kc
      subst hm0
      change WB = (w.alloc (Obj.cells #[.slice (some ⟨g, 0, none⟩) n c, .string nm, .int .i64 (i : Int)] 184)).alloc (Obj.cells #[.slice (some ⟨g2, 0, none⟩) n2 c2, .string nm2, .int .i64 0] 184) at gB
      change WB.cell? ⟨w.heap.size + 1, 2, none⟩ = some (.int .i64 0) at b2
      change Hid (∀ W, Hid (Below WB.heap.size WB W) → W.cell? ⟨w.heap.size, 0, none⟩ = some (.slice (some ⟨g, 0, none⟩) n c) ∧ W.cell? ⟨w.heap.size, 1, none⟩ = some (.string nm) ∧ W.cell? ⟨w.heap.size, 2, none⟩ = some (.int .i64 (i : Int)) ∧ W.cell? ⟨w.heap.size + 1, 0, none⟩ = some (.slice (some ⟨g2, 0, none⟩) n2 c2) ∧ W.cell? ⟨w.heap.size + 1, 1, none⟩ = some (.string nm2) ∧ W.cell? ⟨w.heap.size + 1, 2, none⟩ = some (.int .i64 0)) at KX
      change Hid (∀ W, Hid (Below WB.heap.size WB W) → Calls Tryz.prog 146 #[.agg #[.slice (some ⟨g2, 0, none⟩) n2 c2, .string nm2, .int .i64 0]] W fun e w' => e = .returned (.int .i64 (d2 : Int)) ∧ Hid (Below WB.heap.size WB w')) at kd2
      clear HGX hc e0 kr kd1 kd2 kf z0 m0 m1
      go_enter Tryz.func137, Tryz.ntmps137
      go_wp2_with fail
      rw [← gB]
      clear gB
      refine (kc.out _ rfl).mono ?_
      rintro e w1 ⟨rfl, rfl⟩
      go_wp2_with fail
      go_ret
      rw [HX.out]
      exact ⟨rfl, HB.out⟩
    · rw [show decide (i ∈ y2) = false by simp [hc]] at kc
      have HGX2 : Hid (X = if d2 ≠ d ∧ 6 ≤ L then 28 else 0) := by
        have := HGX.out
        rw [if_neg (fun q => e0 q.1), if_neg hc] at this
        rw [this]
        exact hid (by simp [hm0])
      subst hm0
      change WB = (w.alloc (Obj.cells #[.slice (some ⟨g, 0, none⟩) n c, .string nm, .int .i64 (i : Int)] 184)).alloc (Obj.cells #[.slice (some ⟨g2, 0, none⟩) n2 c2, .string nm2, .int .i64 0] 184) at gB
      change WB.cell? ⟨w.heap.size + 1, 2, none⟩ = some (.int .i64 0) at b2
      change Hid (∀ W, Hid (Below WB.heap.size WB W) → W.cell? ⟨w.heap.size, 0, none⟩ = some (.slice (some ⟨g, 0, none⟩) n c) ∧ W.cell? ⟨w.heap.size, 1, none⟩ = some (.string nm) ∧ W.cell? ⟨w.heap.size, 2, none⟩ = some (.int .i64 (i : Int)) ∧ W.cell? ⟨w.heap.size + 1, 0, none⟩ = some (.slice (some ⟨g2, 0, none⟩) n2 c2) ∧ W.cell? ⟨w.heap.size + 1, 1, none⟩ = some (.string nm2) ∧ W.cell? ⟨w.heap.size + 1, 2, none⟩ = some (.int .i64 0)) at KX
      change Hid (∀ W, Hid (Below WB.heap.size WB W) → Calls Tryz.prog 146 #[.agg #[.slice (some ⟨g2, 0, none⟩) n2 c2, .string nm2, .int .i64 0]] W fun e w' => e = .returned (.int .i64 (d2 : Int)) ∧ Hid (Below WB.heap.size WB w')) at kd2
      have d20 : (0 : Int) ≤ (d2 : Int) := by omega
      have d21 : (d2 : Int) < 17 := by omega
      clear HGX hc e0 kr z0 m0 m1
      by_cases hdd : d2 = d
      · have HX : Hid (X = 0) := by rw [HGX2.out]; exact hid (by simp [hdd])
        subst hdd
        clear HGX2 kf
        go_enter Tryz.func137, Tryz.ntmps137
        go_wp2_with fail
        rw [← gB]
        clear gB
        refine (kc.out _ rfl).mono ?_
        rintro e w1 ⟨rfl, rfl⟩
        clear kc
        go_wp2_with fail
        -- MANUAL
        refine wp_region_held_drew (S := (fun W => W.cell? ⟨w.heap.size, 0, none⟩ = some (.slice (some ⟨g, 0, none⟩) n c) ∧ W.cell? ⟨w.heap.size, 1, none⟩ = some (.string nm) ∧ W.cell? ⟨w.heap.size, 2, none⟩ = some (.int .i64 (i : Int)) ∧ W.cell? ⟨w.heap.size + 1, 0, none⟩ = some (.slice (some ⟨g2, 0, none⟩) n2 c2) ∧ W.cell? ⟨w.heap.size + 1, 1, none⟩ = some (.string nm2) ∧ W.cell? ⟨w.heap.size + 1, 2, none⟩ = some (.int .i64 0))) (by kernel_rfl) ?_ (fun hHeld => ?_)
        · (try dsimp only); go_keep
        refine wpAnyH_take (i := 0) (v := ?_) rfl (by kernel_rfl) (by kernel_rfl) (by kernel_rfl) (fun _ _ _ h => h) (Or.inl ⟨by rfl, ?_⟩) (by assumption) ?_
        rotate_left 1
        · intro w hSw
          (try dsimp only at hSw)
          go_simp
          try with_reducible rfl
        (try simp only [Act.put, List.getElem_toArray, List.getElem_cons_zero, List.setIfInBounds_toArray, List.set_cons_zero, List.set_cons_succ])
        refine wpAnyH_take (i := 1) (v := ?_) rfl (by kernel_rfl) (by kernel_rfl) (by kernel_rfl) (fun _ _ _ h => h) (Or.inl ⟨by rfl, ?_⟩) (by assumption) ?_
        rotate_left 1
        · intro w hSw
          (try dsimp only at hSw)
          go_simp
          try with_reducible rfl
        (try simp only [Act.put, List.getElem_toArray, List.getElem_cons_succ, List.getElem_cons_zero, List.setIfInBounds_toArray, List.set_cons_zero, List.set_cons_succ])
        refine wpAnyH_take (i := 2) (v := ?_) rfl (by kernel_rfl) (by kernel_rfl) (by kernel_rfl) (fun _ _ _ h => h) (Or.inl ⟨by rfl, ?_⟩) (by assumption) ?_
        rotate_left 1
        · intro w hSw
          (try dsimp only at hSw)
          go_simp
          try with_reducible rfl
        (try simp only [Act.put, List.getElem_toArray, List.getElem_cons_succ, List.getElem_cons_zero, List.setIfInBounds_toArray, List.set_cons_zero, List.set_cons_succ])
        refine wpAnyH_take (i := 3) (v := ?_) rfl (by kernel_rfl) (by kernel_rfl) (by kernel_rfl) (fun _ _ _ h => h) (Or.inl ⟨by rfl, ?_⟩) (by assumption) ?_
        rotate_left 1
        · intro w hSw
          (try dsimp only at hSw)
          go_simp
          try with_reducible rfl
        (try simp only [Act.put, List.getElem_toArray, List.getElem_cons_succ, List.getElem_cons_zero, List.setIfInBounds_toArray, List.set_cons_zero, List.set_cons_succ])
        refine wpAnyH_take (i := 4) (v := ?_) rfl (by kernel_rfl) (by kernel_rfl) (by kernel_rfl) (fun _ _ _ h => h) (Or.inl ⟨by rfl, ?_⟩) (by assumption) ?_
        rotate_left 1
        · intro w hSw
          (try dsimp only at hSw)
          go_simp
          try with_reducible rfl
        (try simp only [Act.put, List.getElem_toArray, List.getElem_cons_succ, List.getElem_cons_zero, List.setIfInBounds_toArray, List.set_cons_zero, List.set_cons_succ])
        refine wpAnyH_take (i := 6) (v := ?_) rfl (by kernel_rfl) (by kernel_rfl) (by kernel_rfl) (fun _ _ _ h => h) (Or.inl ⟨by rfl, ?_⟩) (by assumption) ?_
        rotate_left 1
        · intro w hSw
          (try dsimp only at hSw)
          go_simp
          try with_reducible rfl
        (try simp only [Act.put, List.getElem_toArray, List.getElem_cons_succ, List.getElem_cons_zero, List.setIfInBounds_toArray, List.set_cons_zero, List.set_cons_succ])
        refine wpAnyH_ready (rs := [5]) (by kernel_rfl) (by simp) ?_
        refine AllReadyH.cons rfl (fun K hK => ?_) AllReadyH.nil
        go_simp
        go_at_call 146
        refine (kd2.out _ (hid ((Below.refl _ _).drew))).mono ?_
        rintro e w4 ⟨rfl, hw4⟩
        obtain ⟨x0, x1, x2, x3, x4, x5⟩ := KX.out w4 hw4
        (try go_wp2_with fail)
        refine hK.out _ _ ?_ (fun hHeld => ?_)
        · (try dsimp only); exact ⟨x0, x1, x2, x3, x4, x5⟩
        clear hK K
        (try simp only [Act.put, List.getElem_toArray, List.getElem_cons_succ, List.getElem_cons_zero, List.setIfInBounds_toArray, List.set_cons_zero, List.set_cons_succ])
        refine wpAnyH_ready (rs := [7]) (by kernel_rfl) (by simp) ?_
        refine AllReadyH.cons rfl (fun K hK => ?_) AllReadyH.nil
        go_simp
        go_at_call 146
        refine (kd1.out _ hw4).mono ?_
        rintro e w5 ⟨rfl, hw5⟩
        obtain ⟨x0, x1, x2, x3, x4, x5⟩ := KX.out w5 hw5
        (try go_wp2_with fail)
        refine hK.out _ _ ?_ (fun hHeld => ?_)
        · (try dsimp only); exact ⟨x0, x1, x2, x3, x4, x5⟩
        clear hK K
        (try simp only [Act.put, List.getElem_toArray, List.getElem_cons_succ, List.getElem_cons_zero, List.setIfInBounds_toArray, List.set_cons_zero, List.set_cons_succ])
        refine wpAnyH_take (i := 8) (v := ?_) rfl (by kernel_rfl) (by kernel_rfl) (by kernel_rfl) (fun _ _ _ h => h) (Or.inl ⟨by rfl, ?_⟩) (by assumption) ?_
        rotate_left 1
        · intro w hSw
          (try dsimp only at hSw)
          go_simp
          try with_reducible rfl
        (try simp only [Act.put, List.getElem_toArray, List.getElem_cons_succ, List.getElem_cons_zero, List.setIfInBounds_toArray, List.set_cons_zero, List.set_cons_succ])
        refine wpAnyH_take (i := 9) (v := ?_) rfl (by kernel_rfl) (by kernel_rfl) (by kernel_rfl) (fun _ _ _ h => h) (Or.inl ⟨by rfl, ?_⟩) (by assumption) ?_
        rotate_left 1
        · intro w hSw
          (try dsimp only at hSw)
          go_simp
          try with_reducible rfl
        (try simp only [Act.put, List.getElem_toArray, List.getElem_cons_succ, List.getElem_cons_zero, List.setIfInBounds_toArray, List.set_cons_zero, List.set_cons_succ])
        refine wpAnyH_take (i := 10) (v := ?_) rfl (by kernel_rfl) (by kernel_rfl) (by kernel_rfl) (fun _ _ _ h => h) (Or.inl ⟨by rfl, ?_⟩) (by assumption) ?_
        rotate_left 1
        · intro w hSw
          (try dsimp only at hSw)
          go_simp
          try with_reducible rfl
        (try simp only [Act.put, List.getElem_toArray, List.getElem_cons_succ, List.getElem_cons_zero, List.setIfInBounds_toArray, List.set_cons_zero, List.set_cons_succ])
        refine wpAnyH_take (i := 11) (v := undef) rfl (by kernel_rfl) (by kernel_rfl) (by kernel_rfl) (fun _ _ _ h => h) (Or.inr ⟨by rfl, rfl⟩) (by assumption) ?_
        (try simp only [Act.put, List.getElem_toArray, List.getElem_cons_succ, List.getElem_cons_zero, List.setIfInBounds_toArray, List.set_cons_zero, List.set_cons_succ])
        refine wpAnyH_take (i := 14) (v := undef) rfl (by kernel_rfl) (by kernel_rfl) (by kernel_rfl) (fun _ _ _ h => h) (Or.inr ⟨by rfl, rfl⟩) (by assumption) ?_
        (try simp only [Act.put, List.getElem_toArray, List.getElem_cons_succ, List.getElem_cons_zero, List.setIfInBounds_toArray, List.set_cons_zero, List.set_cons_succ])
        refine wpAnyH_take (i := 15) (v := undef) rfl (by kernel_rfl) (by kernel_rfl) (by kernel_rfl) (fun _ _ _ h => h) (Or.inr ⟨by rfl, rfl⟩) (by assumption) ?_
        (try simp only [Act.put, List.getElem_toArray, List.getElem_cons_succ, List.getElem_cons_zero, List.setIfInBounds_toArray, List.set_cons_zero, List.set_cons_succ])
        refine wpAnyH_take (i := 12) (v := undef) rfl (by kernel_rfl) (by kernel_rfl) (by kernel_rfl) (fun _ _ _ h => h) (Or.inr ⟨by rfl, rfl⟩) (by assumption) ?_
        (try simp only [Act.put, List.getElem_toArray, List.getElem_cons_succ, List.getElem_cons_zero, List.setIfInBounds_toArray, List.set_cons_zero, List.set_cons_succ])
        refine wpAnyH_take (i := 13) (v := undef) rfl (by kernel_rfl) (by kernel_rfl) (by kernel_rfl) (fun _ _ _ h => h) (Or.inr ⟨by rfl, rfl⟩) (by assumption) ?_
        (try simp only [Act.put, List.getElem_toArray, List.getElem_cons_succ, List.getElem_cons_zero, List.setIfInBounds_toArray, List.set_cons_zero, List.set_cons_succ])
        refine wpAnyH_take (i := 16) (v := undef) rfl (by kernel_rfl) (by kernel_rfl) (by kernel_rfl) (fun _ _ _ h => h) (Or.inr ⟨by rfl, rfl⟩) (by assumption) ?_
        (try simp only [Act.put, List.getElem_toArray, List.getElem_cons_succ, List.getElem_cons_zero, List.setIfInBounds_toArray, List.set_cons_zero, List.set_cons_succ])
        refine wpAnyH_take (i := 17) (v := undef) rfl (by kernel_rfl) (by kernel_rfl) (by kernel_rfl) (fun _ _ _ h => h) (Or.inr ⟨by rfl, rfl⟩) (by assumption) ?_
        (try simp only [Act.put, List.getElem_toArray, List.getElem_cons_succ, List.getElem_cons_zero, List.setIfInBounds_toArray, List.set_cons_zero, List.set_cons_succ])
        refine wpAnyH_take (i := 18) (v := ?_) rfl (by kernel_rfl) (by kernel_rfl) (by kernel_rfl) (fun _ _ _ h => h) (Or.inl ⟨by rfl, ?_⟩) (by assumption) ?_
        rotate_left 1
        · intro w hSw
          (try dsimp only at hSw)
          go_simp
          try with_reducible rfl
        (try simp only [Act.put, List.getElem_toArray, List.getElem_cons_succ, List.getElem_cons_zero, List.setIfInBounds_toArray, List.set_cons_zero, List.set_cons_succ])
        refine wpAnyH_done (by kernel_rfl) ?_ _
        clear x0 x1 x2 x3 x4 x5 kd1 kd2 KX a0 a1 a2 b0 b1 b2
        go_wp2_with fail
        go_ret
        rw [HX.out]
        exact ⟨rfl, HB.out.trans (hw5.out.mono HB.out.size)⟩
      · by_cases hL : 6 ≤ L
        · have hdd1 : ¬ (d2 : Int) = (d : Int) := by omega
          have hdd2 : ((d2 : Int) == (d : Int)) = false := by simpa using hdd1
          have hdd3 : ((d2 : Int) != (d : Int)) = true := by simpa using hdd1
          rw [show decide (6 ≤ L) = true by simp [hL]] at kf
          have HX : Hid (X = 28) := by rw [HGX2.out]; exact hid (by simp [hdd, hL])
          clear HGX2 hdd hL
          go_enter Tryz.func137, Tryz.ntmps137
          go_wp2_with fail
          rw [← gB]
          clear gB
          refine (kc.out _ rfl).mono ?_
          rintro e w1 ⟨rfl, rfl⟩
          clear kc
          go_wp2_with fail
          go_region_held3 (fun W => W.cell? ⟨w.heap.size, 0, none⟩ = some (.slice (some ⟨g, 0, none⟩) n c) ∧ W.cell? ⟨w.heap.size, 1, none⟩ = some (.string nm) ∧ W.cell? ⟨w.heap.size, 2, none⟩ = some (.int .i64 (i : Int)) ∧ W.cell? ⟨w.heap.size + 1, 0, none⟩ = some (.slice (some ⟨g2, 0, none⟩) n2 c2) ∧ W.cell? ⟨w.heap.size + 1, 1, none⟩ = some (.string nm2) ∧ W.cell? ⟨w.heap.size + 1, 2, none⟩ = some (.int .i64 0)) (go_keep) (first | (go_at_call 146; first | (with_reducible show Calls _ _ #[Value.agg #[Value.slice (some ⟨g, 0, none⟩) n c, _, _]] _ _; refine (kd1.out _ (by first | assumption | exact hid ((Below.refl _ _).drew))).mono ?_; rintro e w4 ⟨rfl, hb4⟩; obtain ⟨x0, x1, x2, x3, x4, x5⟩ := KX.out w4 hb4) | (with_reducible show Calls _ _ #[Value.agg #[Value.slice (some ⟨g2, 0, none⟩) n2 c2, _, _]] _ _; refine (kd2.out _ (by first | assumption | exact hid ((Below.refl _ _).drew))).mono ?_; rintro e w4 ⟨rfl, hb4⟩; obtain ⟨x0, x1, x2, x3, x4, x5⟩ := KX.out w4 hb4)) | (go_at_call 147; refine (kf.out _ (by assumption)).mono ?_; rintro e w6 ⟨rfl, rfl⟩))
          clear kd1 kd2 KX a0 a1 a2 b0 b1 b2
          all_goals go_wp2_with fail
          all_goals go_ret
          all_goals (rw [HX.out]; exact ⟨rfl, HB.out.trans ((by assumption : Hid (Below w1.heap.size w1 _)).out.mono HB.out.size)⟩)
        · have hdd1 : ¬ (d2 : Int) = (d : Int) := by omega
          have hdd2 : ((d2 : Int) == (d : Int)) = false := by simpa using hdd1
          have hdd3 : ((d2 : Int) != (d : Int)) = true := by simpa using hdd1
          rw [show decide (6 ≤ L) = false by simp [hL]] at kf
          have HX : Hid (X = 0) := by rw [HGX2.out]; exact hid (by simp [hdd, hL])
          clear HGX2 hdd hL
          go_enter Tryz.func137, Tryz.ntmps137
          go_wp2_with fail
          rw [← gB]
          clear gB
          refine (kc.out _ rfl).mono ?_
          rintro e w1 ⟨rfl, rfl⟩
          clear kc
          go_wp2_with fail
          go_region_held3 (fun W => W.cell? ⟨w.heap.size, 0, none⟩ = some (.slice (some ⟨g, 0, none⟩) n c) ∧ W.cell? ⟨w.heap.size, 1, none⟩ = some (.string nm) ∧ W.cell? ⟨w.heap.size, 2, none⟩ = some (.int .i64 (i : Int)) ∧ W.cell? ⟨w.heap.size + 1, 0, none⟩ = some (.slice (some ⟨g2, 0, none⟩) n2 c2) ∧ W.cell? ⟨w.heap.size + 1, 1, none⟩ = some (.string nm2) ∧ W.cell? ⟨w.heap.size + 1, 2, none⟩ = some (.int .i64 0)) (go_keep) (first | (go_at_call 146; first | (with_reducible show Calls _ _ #[Value.agg #[Value.slice (some ⟨g, 0, none⟩) n c, _, _]] _ _; refine (kd1.out _ (by first | assumption | exact hid ((Below.refl _ _).drew))).mono ?_; rintro e w4 ⟨rfl, hb4⟩; obtain ⟨x0, x1, x2, x3, x4, x5⟩ := KX.out w4 hb4) | (with_reducible show Calls _ _ #[Value.agg #[Value.slice (some ⟨g2, 0, none⟩) n2 c2, _, _]] _ _; refine (kd2.out _ (by first | assumption | exact hid ((Below.refl _ _).drew))).mono ?_; rintro e w4 ⟨rfl, hb4⟩; obtain ⟨x0, x1, x2, x3, x4, x5⟩ := KX.out w4 hb4)) | (go_at_call 147; refine (kf.out _ (by assumption)).mono ?_; rintro e w6 ⟨rfl, rfl⟩))
          clear kd1 kd2 KX a0 a1 a2 b0 b1 b2
          all_goals go_wp2_with fail
          all_goals go_ret
          all_goals (rw [HX.out]; exact ⟨rfl, HB.out.trans ((by assumption : Hid (Below w1.heap.size w1 _)).out.mono HB.out.size)⟩)
  · have z0 : ¬ (m : Int) = 0 := by omega
    have z1 : ((m : Int) == 0) = false := by simpa using hm0
    clear kd1 kd2 kf
    by_cases hE : E = 0
    case neg =>
      have HX : Hid (X = E) := by
        have := HGX.out
        rw [if_pos ⟨hm0, hE⟩] at this
        exact hid this
      clear HGX hm0 kc
      go_enter Tryz.func137, Tryz.ntmps137
      go_wp2_with fail
      rw [← gB]
      clear gB
      go_region_held3 (fun W => W.cell? ⟨w.heap.size, 0, none⟩ = some (.slice (some ⟨g, 0, none⟩) n c) ∧ W.cell? ⟨w.heap.size, 1, none⟩ = some (.string nm) ∧ W.cell? ⟨w.heap.size, 2, none⟩ = some (.int .i64 (i : Int)) ∧ W.cell? ⟨w.heap.size + 1, 0, none⟩ = some (.slice (some ⟨g2, 0, none⟩) n2 c2) ∧ W.cell? ⟨w.heap.size + 1, 1, none⟩ = some (.string nm2) ∧ W.cell? ⟨w.heap.size + 1, 2, none⟩ = some (.int .i64 (m : Int))) (go_keep) (first | (go_at_call 152; refine (kr.out _ (by rfl)).mono ?_; rintro e w4 ⟨rfl, rfl⟩))
      clear kr KX a0 a1 a2 b0 b1 b2
      all_goals go_wp2_with fail
      all_goals go_ret
      all_goals (rw [HX.out]; exact ⟨rfl, HB.out.drew⟩)
    subst hE
    by_cases hc : i ∈ y2
    · have HX : Hid (X = 22) := by
        have := HGX.out
        rw [if_neg (fun q => q.2 rfl), if_pos hc] at this
        exact hid this
      rw [show decide (i ∈ y2) = true by simp [hc]] at kc
      clear HGX hm0 hc
      go_enter Tryz.func137, Tryz.ntmps137
      go_wp2_with fail
      rw [← gB]
      clear gB
      go_region_held3 (fun W => W.cell? ⟨w.heap.size, 0, none⟩ = some (.slice (some ⟨g, 0, none⟩) n c) ∧ W.cell? ⟨w.heap.size, 1, none⟩ = some (.string nm) ∧ W.cell? ⟨w.heap.size, 2, none⟩ = some (.int .i64 (i : Int)) ∧ W.cell? ⟨w.heap.size + 1, 0, none⟩ = some (.slice (some ⟨g2, 0, none⟩) n2 c2) ∧ W.cell? ⟨w.heap.size + 1, 1, none⟩ = some (.string nm2) ∧ W.cell? ⟨w.heap.size + 1, 2, none⟩ = some (.int .i64 (m : Int))) (go_keep) (first | (go_at_call 152; refine (kr.out _ (by rfl)).mono ?_; rintro e w4 ⟨rfl, rfl⟩))
      clear kr KX
      go_wp2_with fail
      refine (kc.out WB.drew rfl).mono ?_
      rintro e w5 ⟨rfl, rfl⟩
      clear kc a0 a1 a2 b0 b1 b2
      go_wp2_with fail
      go_ret
      rw [HX.out]
      exact ⟨rfl, HB.out.drew⟩
    · have HX : Hid (X = 0) := by
        have := HGX.out
        rw [if_neg (fun q => q.2 rfl), if_neg hc, if_neg (fun q => hm0 q.1)] at this
        exact hid this
      rw [show decide (i ∈ y2) = false by simp [hc]] at kc
      clear HGX hm0 hc
      go_enter Tryz.func137, Tryz.ntmps137
      go_wp2_with fail
      rw [← gB]
      clear gB
      go_region_held3 (fun W => W.cell? ⟨w.heap.size, 0, none⟩ = some (.slice (some ⟨g, 0, none⟩) n c) ∧ W.cell? ⟨w.heap.size, 1, none⟩ = some (.string nm) ∧ W.cell? ⟨w.heap.size, 2, none⟩ = some (.int .i64 (i : Int)) ∧ W.cell? ⟨w.heap.size + 1, 0, none⟩ = some (.slice (some ⟨g2, 0, none⟩) n2 c2) ∧ W.cell? ⟨w.heap.size + 1, 1, none⟩ = some (.string nm2) ∧ W.cell? ⟨w.heap.size + 1, 2, none⟩ = some (.int .i64 (m : Int))) (go_keep) (first | (go_at_call 152; refine (kr.out _ (by rfl)).mono ?_; rintro e w4 ⟨rfl, rfl⟩))
      clear kr KX
      go_wp2_with fail
      refine (kc.out WB.drew rfl).mono ?_
      rintro e w5 ⟨rfl, rfl⟩
      clear kc
      go_wp2_with fail
      refine wp_region_held_drew (S := (fun W => W.cell? ⟨w.heap.size, 0, none⟩ = some (.slice (some ⟨g, 0, none⟩) n c) ∧ W.cell? ⟨w.heap.size, 1, none⟩ = some (.string nm) ∧ W.cell? ⟨w.heap.size, 2, none⟩ = some (.int .i64 (i : Int)) ∧ W.cell? ⟨w.heap.size + 1, 0, none⟩ = some (.slice (some ⟨g2, 0, none⟩) n2 c2) ∧ W.cell? ⟨w.heap.size + 1, 1, none⟩ = some (.string nm2) ∧ W.cell? ⟨w.heap.size + 1, 2, none⟩ = some (.int .i64 (m : Int)))) (by kernel_rfl) ?_ (fun hHeld => ?_)
      · (try dsimp only); go_keep
      refine wpAnyH_take (i := 0) (v := ?_) rfl (by kernel_rfl) (by kernel_rfl) (by kernel_rfl) (fun _ _ _ h => h) (Or.inl ⟨by rfl, ?_⟩) (by assumption) ?_
      rotate_left 1
      · intro w hSw
        (try dsimp only at hSw)
        go_simp
        try with_reducible rfl
      (try simp only [Act.put, List.getElem_toArray, List.getElem_cons_zero, List.setIfInBounds_toArray, List.set_cons_zero, List.set_cons_succ])
      refine wpAnyH_take (i := 1) (v := ?_) rfl (by kernel_rfl) (by kernel_rfl) (by kernel_rfl) (fun _ _ _ h => h) (Or.inl ⟨by rfl, ?_⟩) (by assumption) ?_
      rotate_left 1
      · intro w hSw
        (try dsimp only at hSw)
        go_simp
        try with_reducible rfl
      (try simp only [Act.put, List.getElem_toArray, List.getElem_cons_succ, List.getElem_cons_zero, List.setIfInBounds_toArray, List.set_cons_zero, List.set_cons_succ])
      refine wpAnyH_take (i := 2) (v := ?_) rfl (by kernel_rfl) (by kernel_rfl) (by kernel_rfl) (fun _ _ _ h => h) (Or.inl ⟨by rfl, ?_⟩) (by assumption) ?_
      rotate_left 1
      · intro w hSw
        (try dsimp only at hSw)
        go_simp
        try with_reducible rfl
      (try simp only [Act.put, List.getElem_toArray, List.getElem_cons_succ, List.getElem_cons_zero, List.setIfInBounds_toArray, List.set_cons_zero, List.set_cons_succ])
      refine wpAnyH_take (i := 3) (v := ?_) rfl (by kernel_rfl) (by kernel_rfl) (by kernel_rfl) (fun _ _ _ h => h) (Or.inl ⟨by rfl, ?_⟩) (by assumption) ?_
      rotate_left 1
      · intro w hSw
        (try dsimp only at hSw)
        go_simp
        try with_reducible rfl
      (try simp only [Act.put, List.getElem_toArray, List.getElem_cons_succ, List.getElem_cons_zero, List.setIfInBounds_toArray, List.set_cons_zero, List.set_cons_succ])
      refine wpAnyH_take (i := 4) (v := undef) rfl (by kernel_rfl) (by kernel_rfl) (by kernel_rfl) (fun _ _ _ h => h) (Or.inr ⟨by rfl, rfl⟩) (by assumption) ?_
      (try simp only [Act.put, List.getElem_toArray, List.getElem_cons_succ, List.getElem_cons_zero, List.setIfInBounds_toArray, List.set_cons_zero, List.set_cons_succ])
      refine wpAnyH_take (i := 6) (v := undef) rfl (by kernel_rfl) (by kernel_rfl) (by kernel_rfl) (fun _ _ _ h => h) (Or.inr ⟨by rfl, rfl⟩) (by assumption) ?_
      (try simp only [Act.put, List.getElem_toArray, List.getElem_cons_succ, List.getElem_cons_zero, List.setIfInBounds_toArray, List.set_cons_zero, List.set_cons_succ])
      refine wpAnyH_take (i := 5) (v := undef) rfl (by kernel_rfl) (by kernel_rfl) (by kernel_rfl) (fun _ _ _ h => h) (Or.inr ⟨by rfl, rfl⟩) (by assumption) ?_
      (try simp only [Act.put, List.getElem_toArray, List.getElem_cons_succ, List.getElem_cons_zero, List.setIfInBounds_toArray, List.set_cons_zero, List.set_cons_succ])
      refine wpAnyH_take (i := 7) (v := undef) rfl (by kernel_rfl) (by kernel_rfl) (by kernel_rfl) (fun _ _ _ h => h) (Or.inr ⟨by rfl, rfl⟩) (by assumption) ?_
      (try simp only [Act.put, List.getElem_toArray, List.getElem_cons_succ, List.getElem_cons_zero, List.setIfInBounds_toArray, List.set_cons_zero, List.set_cons_succ])
      refine wpAnyH_take (i := 8) (v := undef) rfl (by kernel_rfl) (by kernel_rfl) (by kernel_rfl) (fun _ _ _ h => h) (Or.inr ⟨by rfl, rfl⟩) (by assumption) ?_
      (try simp only [Act.put, List.getElem_toArray, List.getElem_cons_succ, List.getElem_cons_zero, List.setIfInBounds_toArray, List.set_cons_zero, List.set_cons_succ])
      refine wpAnyH_take (i := 9) (v := ?_) rfl (by kernel_rfl) (by kernel_rfl) (by kernel_rfl) (fun _ _ _ h => h) (Or.inl ⟨by rfl, ?_⟩) (by assumption) ?_
      rotate_left 1
      · intro w hSw
        (try dsimp only at hSw)
        go_simp
        try with_reducible rfl
      (try simp only [Act.put, List.getElem_toArray, List.getElem_cons_succ, List.getElem_cons_zero, List.setIfInBounds_toArray, List.set_cons_zero, List.set_cons_succ])
      refine wpAnyH_take (i := 10) (v := ?_) rfl (by kernel_rfl) (by kernel_rfl) (by kernel_rfl) (fun _ _ _ h => h) (Or.inl ⟨by rfl, ?_⟩) (by assumption) ?_
      rotate_left 1
      · intro w hSw
        (try dsimp only at hSw)
        go_simp
        try with_reducible rfl
      (try simp only [Act.put, List.getElem_toArray, List.getElem_cons_succ, List.getElem_cons_zero, List.setIfInBounds_toArray, List.set_cons_zero, List.set_cons_succ])
      refine wpAnyH_take (i := 11) (v := undef) rfl (by kernel_rfl) (by kernel_rfl) (by kernel_rfl) (fun _ _ _ h => h) (Or.inr ⟨by rfl, rfl⟩) (by assumption) ?_
      (try simp only [Act.put, List.getElem_toArray, List.getElem_cons_succ, List.getElem_cons_zero, List.setIfInBounds_toArray, List.set_cons_zero, List.set_cons_succ])
      refine wpAnyH_take (i := 14) (v := undef) rfl (by kernel_rfl) (by kernel_rfl) (by kernel_rfl) (fun _ _ _ h => h) (Or.inr ⟨by rfl, rfl⟩) (by assumption) ?_
      (try simp only [Act.put, List.getElem_toArray, List.getElem_cons_succ, List.getElem_cons_zero, List.setIfInBounds_toArray, List.set_cons_zero, List.set_cons_succ])
      refine wpAnyH_take (i := 15) (v := undef) rfl (by kernel_rfl) (by kernel_rfl) (by kernel_rfl) (fun _ _ _ h => h) (Or.inr ⟨by rfl, rfl⟩) (by assumption) ?_
      (try simp only [Act.put, List.getElem_toArray, List.getElem_cons_succ, List.getElem_cons_zero, List.setIfInBounds_toArray, List.set_cons_zero, List.set_cons_succ])
      refine wpAnyH_take (i := 12) (v := undef) rfl (by kernel_rfl) (by kernel_rfl) (by kernel_rfl) (fun _ _ _ h => h) (Or.inr ⟨by rfl, rfl⟩) (by assumption) ?_
      (try simp only [Act.put, List.getElem_toArray, List.getElem_cons_succ, List.getElem_cons_zero, List.setIfInBounds_toArray, List.set_cons_zero, List.set_cons_succ])
      refine wpAnyH_take (i := 13) (v := undef) rfl (by kernel_rfl) (by kernel_rfl) (by kernel_rfl) (fun _ _ _ h => h) (Or.inr ⟨by rfl, rfl⟩) (by assumption) ?_
      (try simp only [Act.put, List.getElem_toArray, List.getElem_cons_succ, List.getElem_cons_zero, List.setIfInBounds_toArray, List.set_cons_zero, List.set_cons_succ])
      refine wpAnyH_take (i := 16) (v := undef) rfl (by kernel_rfl) (by kernel_rfl) (by kernel_rfl) (fun _ _ _ h => h) (Or.inr ⟨by rfl, rfl⟩) (by assumption) ?_
      (try simp only [Act.put, List.getElem_toArray, List.getElem_cons_succ, List.getElem_cons_zero, List.setIfInBounds_toArray, List.set_cons_zero, List.set_cons_succ])
      refine wpAnyH_take (i := 17) (v := undef) rfl (by kernel_rfl) (by kernel_rfl) (by kernel_rfl) (fun _ _ _ h => h) (Or.inr ⟨by rfl, rfl⟩) (by assumption) ?_
      (try simp only [Act.put, List.getElem_toArray, List.getElem_cons_succ, List.getElem_cons_zero, List.setIfInBounds_toArray, List.set_cons_zero, List.set_cons_succ])
      refine wpAnyH_take (i := 18) (v := ?_) rfl (by kernel_rfl) (by kernel_rfl) (by kernel_rfl) (fun _ _ _ h => h) (Or.inl ⟨by rfl, ?_⟩) (by assumption) ?_
      rotate_left 1
      · intro w hSw
        (try dsimp only at hSw)
        go_simp
        try with_reducible rfl
      (try simp only [Act.put, List.getElem_toArray, List.getElem_cons_succ, List.getElem_cons_zero, List.setIfInBounds_toArray, List.set_cons_zero, List.set_cons_succ])
      refine wpAnyH_done (by kernel_rfl) ?_ _
      clear a0 a1 a2 b0 b1 b2
      go_wp2_with fail
      go_ret
      rw [HX.out]
      exact ⟨rfl, HB.out.drew.drew⟩

end Go.Proofs.YtoknhcjneliboaaGreat

/- What Rename does to any system. -/
namespace Go.Proofs.YtoknhcjneliboaaGreat
open Go.RowKit Go.ChangeMaps Go.MapKept
set_option linter.unusedVariables false
set_option maxRecDepth 20000

/-- A name that names another node. -/
theorem Rel.rep {S : Sg} {F : Fs} (R : Rel S F) (H : FOk F) (dr : Nat) (s : List UInt8) (n : Nat) (hs : lk (F.P dr).Q s ≠ 0) : Rel (S.rep dr s n) ((F.deln dr s).addn dr s n) := by
  have eQ : ((F.deln dr s).P dr).Q = del s (F.P dr).Q := by rw [deln_Q, if_pos rfl]
  refine ⟨R.d, R.T, fun i hi => ?_, fun i hi => ?_, fun i hi x => ?_⟩
  · have := R.P i hi
    rw [Fs.addn_P, Fs.deln_P]
    exact ⟨this.k, this.l, this.h, this.s, this.b, this.z, this.B⟩
  · show S.L i = _
    rw [Fs.addn_P]
    dsimp only
    split
    · rename_i e; subst e
      rw [len_ins, eQ, len_del (H.srt i) hs]
      exact R.L i hi
    · rename_i e
      rw [deln_Q, if_neg e]; exact R.L i hi
  · show (if i = dr then (fun x => if x = s then n else S.N dr x) else S.N i) x = _
    rw [Fs.addn_P]
    dsimp only
    split
    · rename_i e; subst e
      dsimp only
      rw [eQ, lk_ins (fun x hx => (mem_del.1 hx).2), lk_del, R.N i hi]
      split <;> rfl
    · rename_i e
      rw [deln_Q, if_neg e]; exact R.N i hi x

theorem Wy.of {w : World} {B n c g : Nat} {y : List Nat} (h : w.ownsRow B 3 1 (.slice (some ⟨g, 0, none⟩) n c) n (y.map fun (i : Nat) => Value.int .i64 (i : Int))) (hl : y.length = n) (hp : 0 < n) : Wy w g n c y := by
  obtain ⟨h1, h2⟩ := h
  rcases h2 with ⟨_, h2⟩ | ⟨g', c', cur, e, hb, hg, hnc, hcm, hcs, htake⟩
  · omega
  · injection e with e1 e2 e3
    injection e1 with e1
    injection e1 with e1 _
    subst e1
    subst e3
    refine ⟨fun j hj => ?_, hl, hp, (Array.getElem?_eq_some_iff.1 hg).1, hnc, by simpa [maxLen] using hcm⟩
    have hh : w.ownsRow B 3 1 (.slice (some ⟨g, 0, none⟩) n c) n (y.map fun (i : Nat) => Value.int .i64 (i : Int)) := ⟨h1, .inr ⟨g, c, cur, rfl, hb, hg, hnc, hcm, hcs, htake⟩⟩
    rw [hh.cellAt j (by omega), List.getElem?_map, List.getElem?_eq_getElem (by omega), List.getD_eq_getElem?_getD, List.getElem?_eq_getElem (by omega)]
    rfl

theorem moved_Q {F : Fs} {y y2 : List Nat} {s s2 : List UInt8} {n n2 : Nat} (W2 : Wlk F y2 s2 n2) (h4 : n2 ≠ 0) (q1 : (F.P n2).Q = []) : ((((F.deln (Fs.dirOf y) s).deln (Fs.dirOf y2) s2).addn (Fs.dirOf y2) s2 n).P n2).Q = [] := by
  have hne : n2 ≠ Fs.dirOf y2 := fun e => by
    have := lk_mem (Q := (F.P (Fs.dirOf y2)).Q) (s := s2) (by rw [← W2.nn]; exact h4)
    rw [← e, q1] at this; simp at this
  unfold Fs.addn Fs.nq
  rw [Fs.at_ne _ _ _ _ hne]
  refine List.eq_nil_iff_forall_not_mem.2 (fun x hx => ?_)
  have := deln_sub F _ _ n2 x (deln_sub (F.deln (Fs.dirOf y) s) _ _ n2 x hx)
  rw [q1] at this; simp at this
theorem moved_P {F : Fs} (a : Nat) (s : List UInt8) (b : Nat) (s2 : List UInt8) (n i : Nat) : ((((F.deln a s).deln b s2).addn b s2 n).P i) = { F.P i with Q := ((((F.deln a s).deln b s2).addn b s2 n).P i).Q } := by
  rw [Fs.addn_P, Fs.deln_P, Fs.deln_P]

/-- What a rename comes to, behind both walks. -/
def Fs.ren (F : Fs) (y : List Nat) (s : List UInt8) (n : Nat) (y2 : List Nat) (s2 : List UInt8) (n2 : Nat) : Fs × Int :=
  if n2 = n then (F, 0) else if F.mayR y n y2 n2 ≠ 0 then (F, F.mayR y n y2 n2) else
    if n2 ≠ 0 ∧ dfc F.d 4 = false then ((((F.deln (dirOf y) s).deln (dirOf y2) s2).addn (dirOf y2) s2 n).less n2, 0)
    else (((F.deln (dirOf y) s).deln (dirOf y2) s2).addn (dirOf y2) s2 n, 0)
theorem rename_eq (F : Fs) (l m : List UInt8) : F.rename l m = match toNode (F.walk l) with
    | .error e => (F, e)
    | .ok (y, s, n) => match F.walk m with
      | .error e => (F, e)
      | .ok (y2, s2, n2) => F.ren y s n y2 s2 n2 := by
  unfold Fs.rename
  cases F.walk l with
  | error e => rfl
  | ok q =>
    obtain ⟨y, s, n⟩ := q
    dsimp only [toNode]
    by_cases h0 : n = 0
    · rw [if_pos h0, if_pos h0]
    · rw [if_neg h0, if_neg h0]
      dsimp only
      cases F.walk m with
      | error e => rfl
      | ok q =>
        obtain ⟨y2, s2, n2⟩ := q
        dsimp only [Fs.ren]
        by_cases h1 : n2 = n
        · rw [if_pos h1, if_pos h1]
        rw [if_neg h1, if_neg h1]
        by_cases h2 : n2 ≠ 0 ∧ F.over n n2 ≠ 0
        · have hm : F.mayR y n y2 n2 = F.over n n2 := by unfold Fs.mayR; rw [if_pos h2]
          rw [if_pos h2, if_pos (by rw [hm]; exact h2.2), hm]
        rw [if_neg h2]
        by_cases h3 : n ∈ y2
        · have hm : F.mayR y n y2 n2 = 22 := by unfold Fs.mayR; rw [if_neg h2, if_pos h3]
          rw [if_pos h3, if_pos (by omega), hm]
        rw [if_neg h3]
        by_cases h4 : n2 = 0 ∧ Fs.dirOf y2 ≠ Fs.dirOf y ∧ 6 ≤ (F.P (Fs.dirOf y2)).Q.length
        · have hm : F.mayR y n y2 n2 = 28 := by unfold Fs.mayR; rw [if_neg h2, if_neg h3, if_pos h4]
          rw [if_pos h4, if_pos (by omega), hm]
        · have hm : F.mayR y n y2 n2 = 0 := by unfold Fs.mayR; rw [if_neg h2, if_neg h3, if_neg h4]
          rw [if_neg h4, if_neg (show ¬ F.mayR y n y2 n2 ≠ 0 by omega)]
theorem mayR_zero {F : Fs} {y y2 : List Nat} {n n2 : Nat} (h : F.mayR y n y2 n2 = 0) : (n2 ≠ 0 → F.over n n2 = 0) ∧ n ∉ y2 ∧ ¬ (n2 = 0 ∧ Fs.dirOf y2 ≠ Fs.dirOf y ∧ 6 ≤ (F.P (Fs.dirOf y2)).Q.length) := by
  unfold Fs.mayR at h
  split at h
  · rename_i q; exact absurd h q.2
  rename_i q
  split at h
  · omega
  rename_i q2
  split at h
  · omega
  rename_i q3
  exact ⟨fun h0 => Decidable.not_not.1 (fun q4 => q ⟨h0, q4⟩), q2, q3⟩

end Go.Proofs.YtoknhcjneliboaaGreat

/- What Rename does to any system. -/
namespace Go.Proofs.YtoknhcjneliboaaGreat
open Go.RowKit Go.ChangeMaps Go.MapKept
set_option linter.unusedVariables false
set_option maxRecDepth 20000

/-- A place boxed behind a walk. -/
theorem box_plc (w2 : World) (gy ny cy : Nat) (nm : ByteArray) (i : Nat) (y : List Nat) (B : Nat) (hown : w2.ownsRow B 3 1 (.slice (some ⟨gy, 0, none⟩) ny cy) ny (y.map fun (i : Nat) => Value.int .i64 (i : Int))) (hl : y.length = ny) (hp : 0 < ny) :
    (w2.alloc (Obj.cells #[.slice (some ⟨gy, 0, none⟩) ny cy, .string nm, .int .i64 (i : Int)] 184)).heap[w2.heap.size]? = some (.cells #[.slice (some ⟨gy, 0, none⟩) ny cy, .string nm, .int .i64 (i : Int)] 184 (0, 0)) ∧
    Wy (w2.alloc (Obj.cells #[.slice (some ⟨gy, 0, none⟩) ny cy, .string nm, .int .i64 (i : Int)] 184)) gy ny cy y :=
  ⟨heap_alloc_new w2 _, (Wy.of hown hl hp).grow (one_new _ _)⟩
theorem walk_fs (p : Nat) (S : Sg) (F : Fs) (t : ByteArray) (w : World) (H : Sy w p S) (R : Rel S F) (hF : FOk F) (hs : t.size ≤ 140737488355328) :
    Calls Tryz.prog 136 #[.pointer (some ⟨p, 0, none⟩), .string t] w fun e w' => ∃ v, e = .returned v ∧ Below w.heap.size w w' ∧ Walked w' w.heap.size (F.walk (bl t)) v := by
  obtain ⟨rk, h1, h2⟩ := R.tree hF
  have := walk_any p S t w H rk h1 h2 hs
  rw [R.walk H t] at this
  exact this

set_option maxHeartbeats 8000000 in
theorem pren_err (p : Nat) (F : Fs) (G : Nat → Prop) (w : World) (H : Pf w p F G) (hF : FOk F) (t t2 : ByteArray) (hs : t.size ≤ 140737488355328) (hs2 : t2.size ≤ 140737488355328) (er : Int) (he : toNode (F.walk (bl t)) = .error er) :
    Calls Tryz.prog 107 #[.pointer (some ⟨p, 0, none⟩), .string t, .string t2] w fun e w' => e = .returned (.int .i64 er) ∧ PfTo w p F G w' := by
  have HP := H
  obtain ⟨S, HS, R, hG⟩ := H
  have k0 := hid HS.usable
  have k1 := hid (tonode_any p S t w HS (R.tree hF) hs)
  rw [toNode_fs HS R, he] at k1
  have her : ¬ er = 0 := by
    cases hw : F.walk (bl t) with
    | error a => rw [hw] at he; have := Fs.walk_err hw; simp [toNode] at he; omega
    | ok q =>
      obtain ⟨y, s, n⟩ := q
      rw [hw] at he
      simp only [toNode] at he
      split at he
      · simp at he; omega
      · simp at he
  have HPP := hid HP
  clear HS R hG HP he
  go_enter Tryz.func107, Tryz.ntmps107
  go_wp2_with fail
  refine k0.out.mono ?_
  rintro e w1 ⟨rfl, rfl⟩
  clear k0
  go_wp2_with fail
  refine k1.out.mono ?_
  rintro e w2 ⟨v, rfl, hb2, hv⟩
  have HB2 := hid hb2
  clear k1 hb2
  obtain rfl : v = _ := hv
  go_wp2_with fail
  go_ret
  exact ⟨rfl, PfTo.same HPP.out (HB2.out.trans ((one_new w2 _).mono HB2.out.size))⟩

set_option maxHeartbeats 8000000 in
theorem pren_err2 (p : Nat) (F : Fs) (G : Nat → Prop) (w : World) (H : Pf w p F G) (hF : FOk F) (t t2 : ByteArray) (hs : t.size ≤ 140737488355328) (hs2 : t2.size ≤ 140737488355328) (y : List Nat) (s : List UInt8) (i : Nat) (hw : F.walk (bl t) = .ok (y, s, i)) (hi0 : i ≠ 0) (er : Int) (he : F.walk (bl t2) = .error er) :
    Calls Tryz.prog 107 #[.pointer (some ⟨p, 0, none⟩), .string t, .string t2] w fun e w' => e = .returned (.int .i64 er) ∧ PfTo w p F G w' := by
  have her : ¬ er = 0 := by have := Fs.walk_err he; omega
  have HE := hid he
  clear he
  have HPf := H
  obtain ⟨S, HS0, R, hG⟩ := H
  have W := hF.walk_ok hw
  obtain ⟨i1, hi17, hik⟩ := W.to hi0
  have k0 := hid HS0.usable
  have k1 := hid (tonode_any p S t w HS0 (R.tree hF) hs)
  rw [toNode_fs HS0 R, hw, show toNode (.ok (y, s, i)) = .ok (y, s, i) from if_neg hi0] at k1
  have HS := hid HS0
  have HY := hid W.last
  have HR := hid R
  have HG := hid hG
  have HW := hid W
  have HF := hid hF
  have HPP := hid HPf
  have hii0 : (0 : Int) ≤ (i : Int) := by omega
  have hii1 : (i : Int) < 17 := by omega
  clear HS0 HPf R hG W hF hw
  go_enter Tryz.func107, Tryz.ntmps107
  go_wp2_with fail
  refine k0.out.mono ?_
  rintro e w1 ⟨rfl, rfl⟩
  clear k0
  go_wp2_with fail
  refine k1.out.mono ?_
  rintro e w2 ⟨v, rfl, hb2, hv⟩
  have HB2 := hid hb2
  clear k1 hb2
  obtain ⟨u, rfl, yv, nm, rfl, hnm, hown⟩ := hv
  obtain ⟨gy, cy, rfl, hy0, hgy, hcy, hyc, hcm⟩ := last_own hown HY.out
  obtain ⟨hP3, hW3⟩ := box_plc w2 gy y.length cy nm i y _ hown rfl hy0
  have HNM := hid hnm
  obtain ⟨W3, g3⟩ : ∃ W3, W3 = w2.alloc (Obj.cells #[.slice (some ⟨gy, 0, none⟩) y.length cy, .string nm, .int .i64 (i : Int)] 184) := ⟨_, rfl⟩
  rw [← g3] at hP3 hW3
  have hB3 : Below w1.heap.size w1 W3 := by rw [g3]; exact HB2.out.trans ((one_new w2 _).mono HB2.out.size)
  have hZ3 : w2.heap.size < W3.heap.size := by rw [g3]; simp
  obtain ⟨P1, gP1⟩ : ∃ P1, P1 = w2.heap.size := ⟨_, rfl⟩
  rw [← gP1] at hP3 hZ3
  obtain ⟨a0, a1, a2, _, _, _⟩ := plc_cells hP3
  have HW3 := hid hW3
  have HP3 := hid hP3
  have HB3 := hid hB3
  have HZ3 := hid hZ3
  have k2 := hid (walk_fs p S F t2 W3 (HS.out.grow hB3) HR.out HF.out hs2)
  clear hown hcy hnm hgy hP3 hB3 hZ3 hW3 hyc hcm
  go_wp2_with fail
  rw [← gP1, ← g3]
  have GP1 := hid gP1
  clear g3 gP1
  refine k2.out.mono ?_
  rintro e w4 ⟨v, rfl, hb4, hv⟩
  rw [HE.out] at hv
  have HB4 := hid (HB3.out.trans (hb4.mono HB3.out.size))
  have hP4 := (hb4.block _ HZ3.out).trans HP3.out
  have HZ4 : Hid (P1 < w4.heap.size) := hid (Nat.lt_of_lt_of_le HZ3.out hb4.size)
  have HW4 := hid (HW3.out.grow hb4)
  clear k2 hb4 a0 a1 a2 HP3 HW3 HZ3
  obtain rfl : v = _ := hv
  obtain ⟨c0, c1, c2, _, _, _⟩ := plc_cells hP4
  go_wp2_with fail
  go_ret
  exact ⟨rfl, PfTo.same HPP.out (HB4.out.trans ((one_new w4 _).mono HB4.out.size))⟩

end Go.Proofs.YtoknhcjneliboaaGreat

/- What Rename does to any system. -/
namespace Go.Proofs.YtoknhcjneliboaaGreat
open Go.RowKit Go.ChangeMaps Go.MapKept
set_option linter.unusedVariables false
set_option maxRecDepth 20000


set_option maxHeartbeats 8000000 in
theorem pren_same (p : Nat) (F : Fs) (G : Nat → Prop) (w : World) (H : Pf w p F G) (hF : FOk F) (t t2 : ByteArray) (hs : t.size ≤ 140737488355328) (hs2 : t2.size ≤ 140737488355328) (y : List Nat) (s : List UInt8) (i : Nat) (hw : F.walk (bl t) = .ok (y, s, i)) (hi0 : i ≠ 0) (y2 : List Nat) (s2 : List UInt8) (m : Nat) (hw2 : F.walk (bl t2) = .ok (y2, s2, m)) (hmi : m = i) :
    Calls Tryz.prog 107 #[.pointer (some ⟨p, 0, none⟩), .string t, .string t2] w fun e w' => e = .returned (.int .i64 0) ∧ PfTo w p F G w' := by
  subst hmi
  have HW2 := hid (hF.walk_ok hw2)
  have HY2 := hid (hF.walk_ok hw2).last
  have hm17 : m < 17 := by
    by_cases h0 : m = 0
    · omega
    · exact ((hF.walk_ok hw2).to h0).2.1
  have HE := hid hw2
  clear hw2
  have HPf := H
  obtain ⟨S, HS0, R, hG⟩ := H
  have W := hF.walk_ok hw
  obtain ⟨i1, hi17, hik⟩ := W.to hi0
  have k0 := hid HS0.usable
  have k1 := hid (tonode_any p S t w HS0 (R.tree hF) hs)
  rw [toNode_fs HS0 R, hw, show toNode (.ok (y, s, m)) = .ok (y, s, m) from if_neg hi0] at k1
  have HS := hid HS0
  have HY := hid W.last
  have HR := hid R
  have HG := hid hG
  have HW := hid W
  have HF := hid hF
  have HPP := hid HPf
  have hii0 : (0 : Int) ≤ (m : Int) := by omega
  have hii1 : (m : Int) < 17 := by omega
  clear HS0 HPf R hG W hF hw
  go_enter Tryz.func107, Tryz.ntmps107
  go_wp2_with fail
  refine k0.out.mono ?_
  rintro e w1 ⟨rfl, rfl⟩
  clear k0
  go_wp2_with fail
  refine k1.out.mono ?_
  rintro e w2 ⟨v, rfl, hb2, hv⟩
  have HB2 := hid hb2
  clear k1 hb2
  obtain ⟨u, rfl, yv, nm, rfl, hnm, hown⟩ := hv
  obtain ⟨gy, cy, rfl, hy0, hgy, hcy, hyc, hcm⟩ := last_own hown HY.out
  obtain ⟨hP3, hW3⟩ := box_plc w2 gy y.length cy nm m y _ hown rfl hy0
  have HNM := hid hnm
  obtain ⟨W3, g3⟩ : ∃ W3, W3 = w2.alloc (Obj.cells #[.slice (some ⟨gy, 0, none⟩) y.length cy, .string nm, .int .i64 (m : Int)] 184) := ⟨_, rfl⟩
  rw [← g3] at hP3 hW3
  have hB3 : Below w1.heap.size w1 W3 := by rw [g3]; exact HB2.out.trans ((one_new w2 _).mono HB2.out.size)
  have hZ3 : w2.heap.size < W3.heap.size := by rw [g3]; simp
  obtain ⟨P1, gP1⟩ : ∃ P1, P1 = w2.heap.size := ⟨_, rfl⟩
  rw [← gP1] at hP3 hZ3
  obtain ⟨a0, a1, a2, _, _, _⟩ := plc_cells hP3
  have HW3 := hid hW3
  have HP3 := hid hP3
  have HB3 := hid hB3
  have HZ3 := hid hZ3
  have k2 := hid (walk_fs p S F t2 W3 (HS.out.grow hB3) HR.out HF.out hs2)
  clear hown hcy hnm hgy hP3 hB3 hZ3 hW3 hyc hcm
  go_wp2_with fail
  rw [← gP1, ← g3]
  have GP1 := hid gP1
  clear g3 gP1
  refine k2.out.mono ?_
  rintro e w4 ⟨v, rfl, hb4, hv⟩
  rw [HE.out] at hv
  have HB4 := hid (HB3.out.trans (hb4.mono HB3.out.size))
  have hP4 := (hb4.block _ HZ3.out).trans HP3.out
  have HZ4 : Hid (P1 < w4.heap.size) := hid (Nat.lt_of_lt_of_le HZ3.out hb4.size)
  have HW4 := hid (HW3.out.grow hb4)
  clear k2 hb4 a0 a1 a2 HP3 HW3 HZ3
  obtain ⟨u, rfl, yv2, nm2, rfl, hnm2, hown2⟩ := hv
  obtain ⟨gz, cz, rfl, hz0, hgz, hcz, hzc, hzm⟩ := last_own hown2 HY2.out
  obtain ⟨hP5, hW5⟩ := box_plc w4 gz y2.length cz nm2 m y2 _ hown2 rfl hz0
  have HNM2 := hid hnm2
  obtain ⟨W5, g5⟩ : ∃ W5, W5 = w4.alloc (Obj.cells #[.slice (some ⟨gz, 0, none⟩) y2.length cz, .string nm2, .int .i64 (m : Int)] 184) := ⟨_, rfl⟩
  have hb5 : Below w4.heap.size w4 W5 := by rw [g5]; exact one_new w4 _
  have hZ5 : w4.heap.size < W5.heap.size := by rw [g5]; simp
  rw [← g5] at hP5 hW5
  obtain ⟨P2, gP2⟩ : ∃ P2, P2 = w4.heap.size := ⟨_, rfl⟩
  rw [← gP2] at hP5 hZ5
  have hP6 := (hb5.block _ HZ4.out).trans hP4
  have HGZ : Hid (w1.heap.size ≤ gz) := hid (by have := (hown2.lt gz rfl).1; have := HB3.out.size; omega)
  have HNP : Hid (P1 ≠ P2) := hid (by have := HZ4.out; omega)
  have HB5 := hid (HB4.out.trans (hb5.mono HB4.out.size))
  have HZ5 : Hid (P2 < W5.heap.size ∧ P1 < W5.heap.size) := hid ⟨hZ5, by have := HZ4.out; omega⟩
  have HV1 := hid (HW4.out.grow hb5)
  have HV2 := hid hW5
  have HP5 := hid hP5
  have HP6 := hid hP6
  obtain ⟨a0, a1, a2, _, _, _⟩ := plc_cells hP6
  obtain ⟨b0, b1, b2, _, _, _⟩ := plc_cells hP5
  have HS5 := hid (HS.out.grow HB5.out)
  obtain ⟨c0, c1, c2, _, _, _⟩ := plc_cells hP4
  have hz4 := HZ4.out
  have hz5 : P1 ≠ w4.heap.size := by omega
  clear hown2 hcz hnm2 hgz hP5 hZ5 hW5 hP4 hP6 hb5 hzc hzm
  go_wp2_with fail
  rw [← g5]
  clear c0 c1 c2 hz4 hz5
  have GP2 := hid gP2
  clear g5 gP2
  go_ret
  exact ⟨rfl, PfTo.same HPP.out HB5.out⟩

end Go.Proofs.YtoknhcjneliboaaGreat

/- What Rename does to any system. -/
namespace Go.Proofs.YtoknhcjneliboaaGreat
open Go.RowKit Go.ChangeMaps Go.MapKept
set_option linter.unusedVariables false
set_option maxRecDepth 20000


set_option maxHeartbeats 8000000 in
theorem pren_may (p : Nat) (F : Fs) (G : Nat → Prop) (w : World) (H : Pf w p F G) (hF : FOk F) (t t2 : ByteArray) (hs : t.size ≤ 140737488355328) (hs2 : t2.size ≤ 140737488355328) (y : List Nat) (s : List UInt8) (i : Nat) (hw : F.walk (bl t) = .ok (y, s, i)) (hi0 : i ≠ 0) (y2 : List Nat) (s2 : List UInt8) (m : Nat) (hw2 : F.walk (bl t2) = .ok (y2, s2, m)) (hmi : m ≠ i) (hE : F.mayR y i y2 m ≠ 0) :
    Calls Tryz.prog 107 #[.pointer (some ⟨p, 0, none⟩), .string t, .string t2] w fun e w' => e = .returned (.int .i64 (F.mayR y i y2 m)) ∧ PfTo w p F G w' := by
  have HW2 := hid (hF.walk_ok hw2)
  have HY2 := hid (hF.walk_ok hw2).last
  have hm17 : m < 17 := by
    by_cases h0 : m = 0
    · omega
    · exact ((hF.walk_ok hw2).to h0).2.1
  have HE := hid hw2
  clear hw2
  have HPf := H
  obtain ⟨S, HS0, R, hG⟩ := H
  have W := hF.walk_ok hw
  obtain ⟨i1, hi17, hik⟩ := W.to hi0
  have k0 := hid HS0.usable
  have k1 := hid (tonode_any p S t w HS0 (R.tree hF) hs)
  rw [toNode_fs HS0 R, hw, show toNode (.ok (y, s, i)) = .ok (y, s, i) from if_neg hi0] at k1
  have HS := hid HS0
  have HY := hid W.last
  have HR := hid R
  have HG := hid hG
  have HW := hid W
  have HF := hid hF
  have HPP := hid HPf
  have hii0 : (0 : Int) ≤ (i : Int) := by omega
  have hii1 : (i : Int) < 17 := by omega
  clear HS0 HPf R hG W hF hw
  obtain ⟨E, gE⟩ : ∃ E, E = F.mayR y i y2 m := ⟨_, rfl⟩
  rw [← gE] at hE ⊢
  have GE := hid gE
  have hmi2 : ((m : Int) == (i : Int)) = false := by simp; omega
  have hmi3 : ¬ (m : Int) = (i : Int) := by omega
  clear gE
  go_enter Tryz.func107, Tryz.ntmps107
  go_wp2_with fail
  refine k0.out.mono ?_
  rintro e w1 ⟨rfl, rfl⟩
  clear k0
  go_wp2_with fail
  refine k1.out.mono ?_
  rintro e w2 ⟨v, rfl, hb2, hv⟩
  have HB2 := hid hb2
  clear k1 hb2
  obtain ⟨u, rfl, yv, nm, rfl, hnm, hown⟩ := hv
  obtain ⟨gy, cy, rfl, hy0, hgy, hcy, hyc, hcm⟩ := last_own hown HY.out
  obtain ⟨hP3, hW3⟩ := box_plc w2 gy y.length cy nm i y _ hown rfl hy0
  have HNM := hid hnm
  obtain ⟨W3, g3⟩ : ∃ W3, W3 = w2.alloc (Obj.cells #[.slice (some ⟨gy, 0, none⟩) y.length cy, .string nm, .int .i64 (i : Int)] 184) := ⟨_, rfl⟩
  rw [← g3] at hP3 hW3
  have hB3 : Below w1.heap.size w1 W3 := by rw [g3]; exact HB2.out.trans ((one_new w2 _).mono HB2.out.size)
  have hZ3 : w2.heap.size < W3.heap.size := by rw [g3]; simp
  obtain ⟨P1, gP1⟩ : ∃ P1, P1 = w2.heap.size := ⟨_, rfl⟩
  rw [← gP1] at hP3 hZ3
  obtain ⟨a0, a1, a2, _, _, _⟩ := plc_cells hP3
  have HW3 := hid hW3
  have HP3 := hid hP3
  have HB3 := hid hB3
  have HZ3 := hid hZ3
  have k2 := hid (walk_fs p S F t2 W3 (HS.out.grow hB3) HR.out HF.out hs2)
  clear hown hcy hnm hgy hP3 hB3 hZ3 hW3 hyc hcm
  go_wp2_with fail
  rw [← gP1, ← g3]
  have GP1 := hid gP1
  clear g3 gP1
  refine k2.out.mono ?_
  rintro e w4 ⟨v, rfl, hb4, hv⟩
  rw [HE.out] at hv
  have HB4 := hid (HB3.out.trans (hb4.mono HB3.out.size))
  have hP4 := (hb4.block _ HZ3.out).trans HP3.out
  have HZ4 : Hid (P1 < w4.heap.size) := hid (Nat.lt_of_lt_of_le HZ3.out hb4.size)
  have HW4 := hid (HW3.out.grow hb4)
  clear k2 hb4 a0 a1 a2 HP3 HW3 HZ3
  obtain ⟨u, rfl, yv2, nm2, rfl, hnm2, hown2⟩ := hv
  obtain ⟨gz, cz, rfl, hz0, hgz, hcz, hzc, hzm⟩ := last_own hown2 HY2.out
  obtain ⟨hP5, hW5⟩ := box_plc w4 gz y2.length cz nm2 m y2 _ hown2 rfl hz0
  have HNM2 := hid hnm2
  obtain ⟨W5, g5⟩ : ∃ W5, W5 = w4.alloc (Obj.cells #[.slice (some ⟨gz, 0, none⟩) y2.length cz, .string nm2, .int .i64 (m : Int)] 184) := ⟨_, rfl⟩
  have hb5 : Below w4.heap.size w4 W5 := by rw [g5]; exact one_new w4 _
  have hZ5 : w4.heap.size < W5.heap.size := by rw [g5]; simp
  rw [← g5] at hP5 hW5
  obtain ⟨P2, gP2⟩ : ∃ P2, P2 = w4.heap.size := ⟨_, rfl⟩
  rw [← gP2] at hP5 hZ5
  have hP6 := (hb5.block _ HZ4.out).trans hP4
  have HGZ : Hid (w1.heap.size ≤ gz) := hid (by have := (hown2.lt gz rfl).1; have := HB3.out.size; omega)
  have HNP : Hid (P1 ≠ P2) := hid (by have := HZ4.out; omega)
  have HB5 := hid (HB4.out.trans (hb5.mono HB4.out.size))
  have HZ5 : Hid (P2 < W5.heap.size ∧ P1 < W5.heap.size) := hid ⟨hZ5, by have := HZ4.out; omega⟩
  have HV1 := hid (HW4.out.grow hb5)
  have HV2 := hid hW5
  have HP5 := hid hP5
  have HP6 := hid hP6
  obtain ⟨a0, a1, a2, _, _, _⟩ := plc_cells hP6
  obtain ⟨b0, b1, b2, _, _, _⟩ := plc_cells hP5
  have HS5 := hid (HS.out.grow HB5.out)
  obtain ⟨c0, c1, c2, _, _, _⟩ := plc_cells hP4
  have hz4 := HZ4.out
  have hz5 : P1 ≠ w4.heap.size := by omega
  clear hown2 hcz hnm2 hgz hP5 hZ5 hW5 hP4 hP6 hb5 hzc hzm
  go_wp2_with fail
  rw [← gP2, ← g5]
  clear c0 c1 c2 hz4 hz5
  have GP2 := hid gP2
  clear g5 gP2
  have km := hid (mayren_any p S F W5 HS5.out HR.out HF.out gy y.length cy y nm i gz y2.length cz y2 nm2 m HV1.out HV2.out hi17 hm17 HW2.out.lt.2)
  rw [← GE.out] at km
  go_wp2_with fail
  refine km.out.mono ?_
  rintro e w6 ⟨rfl, hb6⟩
  have HB6 := hid (HB5.out.trans (hb6.mono HB5.out.size))
  clear km hb6
  go_wp2_with fail
  go_ret
  exact ⟨rfl, PfTo.same HPP.out HB6.out⟩

end Go.Proofs.YtoknhcjneliboaaGreat

/- What Rename does to any system. -/
namespace Go.Proofs.YtoknhcjneliboaaGreat
open Go.RowKit Go.ChangeMaps Go.MapKept
set_option linter.unusedVariables false
set_option maxRecDepth 20000


set_option maxHeartbeats 8000000 in
theorem pren_main (p : Nat) (F : Fs) (G : Nat → Prop) (w : World) (H : Pf w p F G) (hF : FOk F) (t t2 : ByteArray) (hs : t.size ≤ 140737488355328) (hs2 : t2.size ≤ 140737488355328) (y : List Nat) (s : List UInt8) (i : Nat) (hw : F.walk (bl t) = .ok (y, s, i)) (hi0 : i ≠ 0) (y2 : List Nat) (s2 : List UInt8) (m : Nat) (hw2 : F.walk (bl t2) = .ok (y2, s2, m)) (hmi : m ≠ i) (hE : F.mayR y i y2 m = 0) (hlm : ∀ i, (F.P i).l ≤ 1000000) (X : Fs) (hX : X = if m ≠ 0 ∧ dfc F.d 4 = false then (((F.deln (Fs.dirOf y) s).deln (Fs.dirOf y2) s2).addn (Fs.dirOf y2) s2 i).less m else ((F.deln (Fs.dirOf y) s).deln (Fs.dirOf y2) s2).addn (Fs.dirOf y2) s2 i) :
    Calls Tryz.prog 107 #[.pointer (some ⟨p, 0, none⟩), .string t, .string t2] w fun e w' => e = .returned (.int .i64 0) ∧ PfTo w p X G w' := by
  have HW2 := hid (hF.walk_ok hw2)
  have HY2 := hid (hF.walk_ok hw2).last
  have hm17 : m < 17 := by
    by_cases h0 : m = 0
    · omega
    · exact ((hF.walk_ok hw2).to h0).2.1
  have HE := hid hw2
  clear hw2
  have HPf := H
  obtain ⟨S, HS0, R, hG⟩ := H
  have W := hF.walk_ok hw
  obtain ⟨i1, hi17, hik⟩ := W.to hi0
  have k0 := hid HS0.usable
  have k1 := hid (tonode_any p S t w HS0 (R.tree hF) hs)
  rw [toNode_fs HS0 R, hw, show toNode (.ok (y, s, i)) = .ok (y, s, i) from if_neg hi0] at k1
  have HS := hid HS0
  have HY := hid W.last
  have HR := hid R
  have HG := hid hG
  have HW := hid W
  have HF := hid hF
  have HPP := hid HPf
  have hii0 : (0 : Int) ≤ (i : Int) := by omega
  have hii1 : (i : Int) < 17 := by omega
  clear HS0 HPf R hG W hF hw
  have HXX := hid hX
  have HE0 := hid hE
  have hmi2 : ((m : Int) == (i : Int)) = false := by simp; omega
  have hmi3 : ¬ (m : Int) = (i : Int) := by omega
  have hlmm := hlm m
  clear hX hlm
  go_enter Tryz.func107, Tryz.ntmps107
  go_wp2_with fail
  refine k0.out.mono ?_
  rintro e w1 ⟨rfl, rfl⟩
  clear k0
  go_wp2_with fail
  refine k1.out.mono ?_
  rintro e w2 ⟨v, rfl, hb2, hv⟩
  have HB2 := hid hb2
  clear k1 hb2
  obtain ⟨u, rfl, yv, nm, rfl, hnm, hown⟩ := hv
  obtain ⟨gy, cy, rfl, hy0, hgy, hcy, hyc, hcm⟩ := last_own hown HY.out
  obtain ⟨hP3, hW3⟩ := box_plc w2 gy y.length cy nm i y _ hown rfl hy0
  have HNM := hid hnm
  obtain ⟨W3, g3⟩ : ∃ W3, W3 = w2.alloc (Obj.cells #[.slice (some ⟨gy, 0, none⟩) y.length cy, .string nm, .int .i64 (i : Int)] 184) := ⟨_, rfl⟩
  rw [← g3] at hP3 hW3
  have hB3 : Below w1.heap.size w1 W3 := by rw [g3]; exact HB2.out.trans ((one_new w2 _).mono HB2.out.size)
  have hZ3 : w2.heap.size < W3.heap.size := by rw [g3]; simp
  obtain ⟨P1, gP1⟩ : ∃ P1, P1 = w2.heap.size := ⟨_, rfl⟩
  rw [← gP1] at hP3 hZ3
  obtain ⟨a0, a1, a2, _, _, _⟩ := plc_cells hP3
  have HW3 := hid hW3
  have HP3 := hid hP3
  have HB3 := hid hB3
  have HZ3 := hid hZ3
  have k2 := hid (walk_fs p S F t2 W3 (HS.out.grow hB3) HR.out HF.out hs2)
  clear hown hcy hnm hgy hP3 hB3 hZ3 hW3 hyc hcm
  go_wp2_with fail
  rw [← gP1, ← g3]
  have GP1 := hid gP1
  clear g3 gP1
  refine k2.out.mono ?_
  rintro e w4 ⟨v, rfl, hb4, hv⟩
  rw [HE.out] at hv
  have HB4 := hid (HB3.out.trans (hb4.mono HB3.out.size))
  have hP4 := (hb4.block _ HZ3.out).trans HP3.out
  have HZ4 : Hid (P1 < w4.heap.size) := hid (Nat.lt_of_lt_of_le HZ3.out hb4.size)
  have HW4 := hid (HW3.out.grow hb4)
  clear k2 hb4 a0 a1 a2 HP3 HW3 HZ3
  obtain ⟨u, rfl, yv2, nm2, rfl, hnm2, hown2⟩ := hv
  obtain ⟨gz, cz, rfl, hz0, hgz, hcz, hzc, hzm⟩ := last_own hown2 HY2.out
  obtain ⟨hP5, hW5⟩ := box_plc w4 gz y2.length cz nm2 m y2 _ hown2 rfl hz0
  have HNM2 := hid hnm2
  obtain ⟨W5, g5⟩ : ∃ W5, W5 = w4.alloc (Obj.cells #[.slice (some ⟨gz, 0, none⟩) y2.length cz, .string nm2, .int .i64 (m : Int)] 184) := ⟨_, rfl⟩
  have hb5 : Below w4.heap.size w4 W5 := by rw [g5]; exact one_new w4 _
  have hZ5 : w4.heap.size < W5.heap.size := by rw [g5]; simp
  rw [← g5] at hP5 hW5
  obtain ⟨P2, gP2⟩ : ∃ P2, P2 = w4.heap.size := ⟨_, rfl⟩
  rw [← gP2] at hP5 hZ5
  have hP6 := (hb5.block _ HZ4.out).trans hP4
  have HGZ : Hid (w1.heap.size ≤ gz) := hid (by have := (hown2.lt gz rfl).1; have := HB3.out.size; omega)
  have HNP : Hid (P1 ≠ P2) := hid (by have := HZ4.out; omega)
  have HB5 := hid (HB4.out.trans (hb5.mono HB4.out.size))
  have HZ5 : Hid (P2 < W5.heap.size ∧ P1 < W5.heap.size) := hid ⟨hZ5, by have := HZ4.out; omega⟩
  have HV1 := hid (HW4.out.grow hb5)
  have HV2 := hid hW5
  have HP5 := hid hP5
  have HP6 := hid hP6
  obtain ⟨a0, a1, a2, _, _, _⟩ := plc_cells hP6
  obtain ⟨b0, b1, b2, _, _, _⟩ := plc_cells hP5
  have HS5 := hid (HS.out.grow HB5.out)
  obtain ⟨c0, c1, c2, _, _, _⟩ := plc_cells hP4
  have hz4 := HZ4.out
  have hz5 : P1 ≠ w4.heap.size := by omega
  clear hown2 hcz hnm2 hgz hP5 hZ5 hW5 hP4 hP6 hb5 hzc hzm
  go_wp2_with fail
  rw [← gP2, ← g5]
  clear c0 c1 c2 hz4 hz5
  have GP2 := hid gP2
  clear g5 gP2
  have km := hid (mayren_any p S F W5 HS5.out HR.out HF.out gy y.length cy y nm i gz y2.length cz y2 nm2 m HV1.out HV2.out hi17 hm17 HW2.out.lt.2)
  rw [HE0.out] at km
  go_wp2_with fail
  refine km.out.mono ?_
  rintro e w6 ⟨rfl, hb6⟩
  have HB6 := hid (HB5.out.trans (hb6.mono HB5.out.size))
  have hq1 := (hb6.block _ HZ5.out.2).trans HP6.out
  have hq2 := (hb6.block _ HZ5.out.1).trans HP5.out
  have HZ6 : Hid (P2 < w6.heap.size ∧ P1 < w6.heap.size) := hid ⟨Nat.lt_of_lt_of_le HZ5.out.1 hb6.size, Nat.lt_of_lt_of_le HZ5.out.2 hb6.size⟩
  have HV3 := hid (HV1.out.grow hb6)
  have HV4 := hid (HV2.out.grow hb6)
  have HS6 := hid (HS.out.grow HB6.out)
  clear a0 a1 a2 b0 b1 b2 km hb6 HP5 HP6 HS5 HV1 HV2
  obtain ⟨a0, a1, a2, _, _, _⟩ := plc_cells hq1
  obtain ⟨b0, b1, b2, _, _, _⟩ := plc_cells hq2
  obtain ⟨hd17, hdk, hnd⟩ := HW.out.sg HR.out
  obtain ⟨he17, hek, hne⟩ := HW2.out.sg HR.out
  have hnmz : nm.size ≤ 6 := by have := bl_len nm; rw [HNM.out] at this; have := HW.out.len; omega
  have hnmz2 : nm2.size ≤ 6 := by have := bl_len nm2; rw [HNM2.out] at this; have := HW2.out.len; omega
  have k3 := hid (tkname_any p S w6 HS6.out gy y.length cy (Fs.dirOf y) nm (i : Int) HV3.out.pos HV3.out.last HV3.out.lt HV3.out.cap HV3.out.max hd17 hdk (by rw [HNM.out, ← hnd]; exact hi0) (by omega))
  have HQ6 := hid (And.intro hq1 hq2)
  have HEK := hid (And.intro he17 hek)
  clear hq1 hq2 hnd hne hdk hek
  go_wp2_with fail
  refine k3.out.mono ?_
  rintro e w7 ⟨rfl, h7, u7⟩
  have hR7 : Rel (S.drop (Fs.dirOf y) (bl nm)) (F.deln (Fs.dirOf y) s) := by
    rw [HNM.out]
    exact HR.out.drop HF.out _ _ (by rw [← HW.out.nn]; exact hi0)
  have hF7 : FOk (F.deln (Fs.dirOf y) s) := HF.out.deln _ _ HW.out.k
  have hno : ∀ dd, dd < 17 → ∀ x, w1.heap.size ≤ x → ¬ (S.P dd).m = some x := fun dd hdd x hx e => by
    have := HS.out.foot_lt x (.inr ⟨dd, hdd, e⟩)
    omega
  have hP1w : w1.heap.size ≤ P1 := by have := HB2.out.size; have := GP1.out; omega
  have hP2w : w1.heap.size ≤ P2 := by have := HZ4.out; have := GP2.out; omega
  have hq1 := (u7.block P1 HZ6.out.2 (hno _ hd17 P1 hP1w)).trans HQ6.out.1
  have hq2 := (u7.block P2 HZ6.out.1 (hno _ hd17 P2 hP2w)).trans HQ6.out.2
  clear a0 a1 a2 b0 b1 b2 k3
  obtain ⟨a0, a1, a2, _, _, _⟩ := plc_cells hq1
  obtain ⟨b0, b1, b2, _, _, _⟩ := plc_cells hq2
  have hF3 := (HF.out.moved HW.out HW2.out hi0 hmi (mayR_zero HE0.out).2.1 (mayR_zero HE0.out).2.2)
  obtain ⟨F3, gF3⟩ : ∃ F3, F3 = ((F.deln (Fs.dirOf y) s).deln (Fs.dirOf y2) s2).addn (Fs.dirOf y2) s2 i := ⟨_, rfl⟩
  rw [← gF3] at hF3
  have hlast7 : w7.cell? ⟨gz, y2.length - 1, none⟩ = some (.int .i64 ((Fs.dirOf y2 : Nat) : Int)) :=
    (World.cell?_of_block (a := ⟨gz, y2.length - 1, none⟩) (u7.block gz HV4.out.lt (hno _ hd17 gz HGZ.out))).trans HV4.out.last
  have hgz7 : gz < w7.heap.size := Nat.lt_of_lt_of_le HV4.out.lt u7.size
  have h4 : ∃ S2, Hid (Calls Tryz.prog 131 #[.pointer (some ⟨p, 0, none⟩), .agg #[.slice (some ⟨gz, 0, none⟩) y2.length cz, .string nm2, .int .i64 (m : Int)], .int .i64 (i : Int)] w7 fun e w' => e = .returned (.tuple #[]) ∧ Sy w' p S2 ∧ Upd (fun x => (S.P (Fs.dirOf y2)).m = some x) w7 w') ∧ Rel S2 F3 ∧ (∀ x, S2.foot p x → S.foot p x) := by
    by_cases hz : lk ((F.deln (Fs.dirOf y) s).P (Fs.dirOf y2)).Q s2 = 0
    · have e0 : (F.deln (Fs.dirOf y) s).deln (Fs.dirOf y2) s2 = F.deln (Fs.dirOf y) s := deln_none hF7 _ _ hz
      have hlen : ((F.deln (Fs.dirOf y) s).P (Fs.dirOf y2)).Q.length < 6 := by
        have := hF3.1.len (Fs.dirOf y2)
        rw [gF3, e0, Fs.addn_P] at this
        dsimp only at this
        rw [if_pos rfl, len_ins] at this
        omega
      refine ⟨(S.drop (Fs.dirOf y) (bl nm)).put (Fs.dirOf y2) (bl nm2) i, hid (give_any p _ w7 h7 gz y2.length cz (Fs.dirOf y2) nm2 (m : Int) i HV4.out.pos hlast7 hgz7 HV4.out.cap HV4.out.max he17 HEK.out.2 (by rw [hR7.N _ he17, HNM2.out]; exact hz) (by rw [hR7.L _ he17]; exact hlen) hi17 hi0 (by omega)), ?_, fun x hx => hx⟩
      rw [gF3, e0, HNM2.out]
      exact hR7.put hF7 _ _ _ hz
    · refine ⟨(S.drop (Fs.dirOf y) (bl nm)).rep (Fs.dirOf y2) (bl nm2) i, hid (give_over p _ w7 h7 gz y2.length cz (Fs.dirOf y2) nm2 (m : Int) i HV4.out.pos hlast7 hgz7 HV4.out.cap HV4.out.max he17 HEK.out.2 (by rw [hR7.N _ he17, HNM2.out]; exact hz) hi17 hi0 (by omega)), ?_, fun x hx => hx⟩
      rw [gF3, HNM2.out]
      exact hR7.rep hF7 _ _ _ hz
  obtain ⟨S2, k4, hR8, hf8⟩ := h4
  have HQ7 := hid (And.intro hq1 hq2)
  have HZ7 : Hid (P2 < w7.heap.size ∧ P1 < w7.heap.size) := hid ⟨Nat.lt_of_lt_of_le HZ6.out.1 u7.size, Nat.lt_of_lt_of_le HZ6.out.2 u7.size⟩
  have HU7 : Hid (Upd (S.foot p) w1 w7) := hid ((Upd.of_below HB6.out).trans u7 (fun x _ hx => .inr ⟨_, hd17, hx⟩))
  have HNO := hid hno
  have HR8 := hid hR8
  have HF3 := hid hF3
  have GF3 := hid gF3
  clear hq1 hq2 hlast7 hgz7 hR7 hF7 h7 u7 hno hR8 hF3 gF3
  go_wp2_with fail
  refine k4.out.mono ?_
  rintro e w8 ⟨rfl, h8, u8⟩
  have hq1 := (u8.block P1 HZ7.out.2 (HNO.out _ he17 P1 hP1w)).trans HQ7.out.1
  have hq2 := (u8.block P2 HZ7.out.1 (HNO.out _ he17 P2 hP2w)).trans HQ7.out.2
  clear a0 a1 a2 b0 b1 b2 k4
  obtain ⟨a0, a1, a2, _, _, _⟩ := plc_cells hq1
  obtain ⟨b0, b1, b2, _, _, _⟩ := plc_cells hq2
  have HU8 : Hid (Upd (S.foot p) w1 w8) := hid (HU7.out.trans u8 (fun x _ hx => .inr ⟨_, he17, hx⟩))
  have k5 := hid (has_any p S2 w8 h8 4)
  rw [HR8.out.d, show F3.d = F.d by rw [GF3.out]; rfl] at k5
  have H8 := hid h8
  clear u8 hq1 hq2 hP1w hP2w
  by_cases hm0 : m = 0
  · have HX : Hid (X = F3) := by rw [HXX.out, if_neg (fun q => q.1 hm0), GF3.out]; exact hid rfl
    subst hm0
    clear k5 h8
    change w8.cell? ⟨P2, 2, none⟩ = some (.int .i64 0) at b2
    go_wp2_with fail
    go_ret
    rw [HX.out]
    exact ⟨rfl, Into.to ⟨S2, H8.out, HR8.out, hf8, HU8.out⟩ HG.out⟩
  · have hm1 : ¬ (m : Int) = 0 := by omega
    have hm2 : ((m : Int) == 0) = false := by simpa using hm0
    have hm3 : ((m : Int) != 0) = true := by simpa using hm0
    obtain ⟨q1, q2⟩ := HF.out.over_ok ((mayR_zero HE0.out).1 hm0)
    obtain ⟨t1, t17, tk⟩ := HW2.out.to hm0
    have eP : F3.P m = { F.P m with Q := (F3.P m).Q } := by rw [GF3.out]; exact moved_P _ _ _ _ _ _
    have eQ : (F3.P m).Q = [] := by rw [GF3.out]; exact moved_Q HW2.out hm0 q1
    have hl0 := HF.out.l0 m
    have k6 := hid (ptklink p S2 F3 w8 h8 HR8.out m t17 hm0 (by omega) (by rw [eP]; exact ⟨hl0, hlmm⟩) (by rw [eP]; exact (HF.out.stl m).c) (by rw [eP]; exact (HF.out.stl m).B) (by rw [eP]; exact (HF.out.stl m).T) (fun _ => eQ))
    clear q1 q2 t1 tk eP eQ hl0 h8
    cases hdf : dfc F.d 4 with
    | true =>
      rw [hdf] at k5
      have HX : Hid (X = F3) := by rw [HXX.out, if_neg (by rw [hdf]; simp), GF3.out]; exact hid rfl
      clear k6 hdf
      go_wp2_with fail
      refine k5.out.mono ?_
      rintro e w9 ⟨rfl, rfl⟩
      clear k5
      go_wp2_with fail
      go_ret
      rw [HX.out]
      exact ⟨rfl, Into.to ⟨S2, H8.out, HR8.out, hf8, HU8.out⟩ HG.out⟩
    | false =>
      rw [hdf] at k5
      have HX : Hid (X = F3.less m) := by rw [HXX.out, if_pos ⟨hm0, hdf⟩, GF3.out]; exact hid rfl
      clear hdf
      go_wp2_with fail
      refine k5.out.mono ?_
      rintro e w9 ⟨rfl, rfl⟩
      clear k5
      go_wp2_with fail
      refine k6.out.mono ?_
      rintro e w10 ⟨rfl, h10⟩
      have H10 := hid h10
      clear k6 h10
      go_wp2_with fail
      go_ret
      rw [HX.out]
      exact ⟨rfl, Into.to (Into.trans hf8 HU8.out H10.out) HG.out⟩

theorem prename (p : Nat) (F : Fs) (G : Nat → Prop) (w : World) (H : Pf w p F G) (hF : FOk F) (t t2 : ByteArray) (hs : t.size ≤ 140737488355328) (hs2 : t2.size ≤ 140737488355328) (hlm : ∀ i, (F.P i).l ≤ 1000000) :
    Calls Tryz.prog 107 #[.pointer (some ⟨p, 0, none⟩), .string t, .string t2] w fun e w' => e = .returned (.int .i64 (F.rename (bl t) (bl t2)).2) ∧ PfTo w p (F.rename (bl t) (bl t2)).1 G w' := by
  have er := rename_eq F (bl t) (bl t2)
  cases he : toNode (F.walk (bl t)) with
  | error a =>
    rw [he] at er
    rw [er]
    exact pren_err p F G w H hF t t2 hs hs2 a he
  | ok q =>
    obtain ⟨y, s, i⟩ := q
    rw [he] at er
    obtain ⟨hw, hi0⟩ := toNode_ok he
    cases hw2 : F.walk (bl t2) with
    | error a =>
      rw [hw2] at er
      rw [er]
      exact pren_err2 p F G w H hF t t2 hs hs2 y s i hw hi0 a hw2
    | ok q =>
      obtain ⟨y2, s2, m⟩ := q
      rw [hw2] at er
      rw [er]
      dsimp only [Fs.ren]
      by_cases hmi : m = i
      · rw [if_pos hmi]
        exact pren_same p F G w H hF t t2 hs hs2 y s i hw hi0 y2 s2 m hw2 hmi
      rw [if_neg hmi]
      by_cases hE : F.mayR y i y2 m ≠ 0
      · rw [if_pos hE]
        exact pren_may p F G w H hF t t2 hs hs2 y s i hw hi0 y2 s2 m hw2 hmi hE
      rw [if_neg hE]
      have := pren_main p F G w H hF t t2 hs hs2 y s i hw hi0 y2 s2 m hw2 hmi (Decidable.not_not.1 hE) hlm _ rfl
      by_cases hc : m ≠ 0 ∧ dfc F.d 4 = false
      · rw [if_pos hc] at this ⊢; exact this
      · rw [if_neg hc] at this ⊢; exact this

end Go.Proofs.YtoknhcjneliboaaGreat
