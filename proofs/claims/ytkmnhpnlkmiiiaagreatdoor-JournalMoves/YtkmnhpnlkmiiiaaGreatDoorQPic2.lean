/- What dredgerplain.Image (a copy of sectors) and SameImage (of two that are the same) do. -/
import Derived.Test.YtkmnhpnlkmiiiaaGreatDoorQPic
namespace Go.Proofs.YtkmnhpnlkmiiiaaGreatDoor
open Go.RowKit
set_option linter.unusedVariables false

theorem grew_refl (w : World) (F : List Nat) : Grew' w F F := fun _ h => .inl h

/-- Entries of a row that is made. -/
def Ent (w : World) (M : List Nat) (v : Value) (i : Nat) (f : Nat → List Int) : Prop := ∃ vs, w.ownsRow 0 29 1 v i vs ∧ ∀ j, j < i → ∃ u, vs[j]? = some u ∧ Byt w (vb v ++ M) u (f j)

set_option maxHeartbeats 1000000 in
set_option maxRecDepth 20000 in
theorem pimage_any (v : Value) (n : Nat) (f : Nat → List Int) (M0 M : List Nat) (w : World) (hp : Pic w M0 v n f) (hn : n ≤ 2048) (hM : ∀ x ∈ M, x < w.heap.size) :
    Calls Tryz.prog 22 #[v] w fun e w' => ∃ v', e = .returned v' ∧ Pic w' (vb v' ++ M) v' n f ∧ (∀ x, v'.ownBlock = some x → w.heap.size ≤ x) ∧ Below w.heap.size w w' := by
  obtain ⟨i0, hi0, hz0, hz1, hz2⟩ := info_parts Tryz.infoTB
  obtain ⟨vs, hrow, hent⟩ := hp
  obtain ⟨ae, c, rfl, hc1, hc2⟩ := own_shape hrow
  have HROW := hid hrow
  have HENT := hid hent
  have HM := hid hM
  clear hrow hent hM
  go_enter Tryz.func22, Tryz.ntmps22
  go_wp2_with fail
  go_loopw [3, 8] (fun vo k wr => ∃ i : Nat, k = .int .i64 i ∧ i ≤ n ∧ Hid (Ent wr M vo i f) ∧ Hid (∀ x, vo.ownBlock = some x → w.heap.size ≤ x) ∧ Below w.heap.size w wr) (fun _ k _ => n - (intOf k).toNat)
  case atStart => exact ⟨0, rfl, Nat.zero_le _, ⟨[], World.ownsRow_nil _ _ _ _, fun j hj => absurd hj (Nat.not_lt_zero j)⟩, (fun x hx => by simp [Value.ownBlock] at hx), Below.refl _ _⟩
  case round =>
    obtain ⟨i, rfl, hi, HE, HV, hbr⟩ := hrel
    obtain ⟨vo, hvo⟩ : ∃ vo, vo = u3 := ⟨_, rfl⟩
    rw [← hvo] at HE HV ⊢
    clear hvo
    by_cases hlt : i < n
    · obtain ⟨u, hu, a, cc, rfl, hs, hm⟩ := HENT.out i hlt
      obtain ⟨g, rfl⟩ : ∃ g, ae = some ⟨g, 0, none⟩ := by
        rcases HROW.out.2 with ⟨_, h⟩ | ⟨g, c, cur, h, _⟩
        · omega
        · injection h with h1 h2 h3; exact ⟨g, h1⟩
      have hc : wr.cell? ⟨g, i, none⟩ = some (.slice (some a) 128 cc) := by
        rw [(own_below HROW.out hbr).cellAt _ (by omega)]
        exact hu
      have kc := hid (clone_any a 128 cc (f i) wr (hs.below hbr) (by omega))
      clear hu hs
      go_wp2_with fail
      refine kc.out.mono ?_
      rintro r w2 ⟨gb, cb, rfl, hown, hb2⟩
      have HO := hid hown
      have HB2 := hid hb2
      clear hown hb2 hc
      obtain ⟨us, huo, hue⟩ := HE.out
      have huo2 := own_below huo HB2.out
      have HUO := hid huo2
      have HUE := hid hue
      clear huo huo2 hue
      have hsz := hbr.size
      have hsz2 := HB2.out.size
      have hgb := HO.out.lt gb rfl
      go_wp2_with (at_builtin; go_must (refine wpList_append_where rfl _ _ 22 rfl 29 i0 _ 1 24 Tryz.underlying22 hi0 hz0 hz1 hz2 rfl (by decide) vo i us rfl (HUO.out.alloc _) ⟨_, 0, none⟩ 1 1 [.slice (some ⟨gb, 0, none⟩) 128 cb] rfl rfl (by intro j u hj; rw [Addr.add_lit]; refine heap_cells (heap_alloc_new _ _) _ u ?_; simpa using hj) (by simp [Value.oneCell']) (by unfold maxLen; omega) (by omega) ?_))
      intro v' w3 hO3 hU3 hN3 hW3
      have hbw3 : Below w.heap.size w w3 := by
        refine (hbr.trans (HB2.out.mono hsz)).trans ((((Below.refl w2.heap.size w2).alloc (Nat.le_refl _) _).mono (by omega)).trans (hU3.below (by simp; omega) (fun x hx => HV.out x hx)))
      have hent' : Ent w3 M v' (i + 1) f := by
        refine ⟨_, hO3.out, fun j hj => ?_⟩
        have hgr : Grew' (w2.alloc (.cells #[.slice (some ⟨gb, 0, none⟩) 128 cb] 29)) (vb vo ++ M) (vb v' ++ M) := by
          intro x hx
          rcases List.mem_append.1 hx with h | h
          · have hx' : v'.ownBlock = some x := by simpa [vb] using h
            rcases hW3.out with h' | h'
            · exact .inl (List.mem_append.2 (.inl (by simp [vb, ← h', hx'])))
            · exact .inr (by have := h' x hx'; simpa using this)
          · exact .inl (List.mem_append.2 (.inr h))
        have hU3' : Upd (· ∈ vb vo ++ M) (w2.alloc (.cells #[.slice (some ⟨gb, 0, none⟩) 128 cb] 29)) w3 := hU3.mono (fun x _ hx => List.mem_append.2 (.inl (by simp [vb, hx])))
        rcases (show j < i ∨ j = i by omega) with hj' | rfl
        · obtain ⟨u, h1, h2⟩ := HUE.out j hj'
          refine ⟨u, by rw [List.getElem?_append_left (List.getElem?_eq_some_iff.1 h1).1]; exact h1, ?_⟩
          exact ((h2.upd (Upd.of_below HB2.out) (grew_refl _ _)).upd (Upd.alloc _ w2 _) (grew_refl _ _)).upd hU3' hgr
        · have hul : us.length = j := by have := HUO.out.1; omega
          refine ⟨.slice (some ⟨gb, 0, none⟩) 128 cb, by rw [← hul]; simp, ?_⟩
          have hb : Byt (w2.alloc (.cells #[.slice (some ⟨gb, 0, none⟩) 128 cb] 29)) (vb vo ++ M) (.slice (some ⟨gb, 0, none⟩) 128 cb) (f j) := by
            refine ⟨⟨gb, 0, none⟩, cb, rfl, (Src.own HO.out).below ((Below.refl _ _).alloc (Nat.le_refl _) _), fun hx => ?_, own_cap HO.out⟩
            rcases List.mem_append.1 hx with h | h
            · have := own_lt HE.out.choose_spec.1 h
              simp at this
              omega
            · have := HM.out _ h
              simp at this
              omega
          exact hb.upd hU3' hgr
      have hv' : ∀ x, v'.ownBlock = some x → w.heap.size ≤ x := by
        intro x hx
        rcases hW3.out with h' | h'
        · exact HV.out x (h' ▸ hx)
        · have := h' x hx; omega
      have HE3 := hid hent'
      have HV3 := hid hv'
      clear hent' hv' hU3
      go_wp2_with fail
      go_roundw
      case rel => exact ⟨i + 1, by go_num, by omega, HE3.out, HV3.out, hbw3⟩
      case measure => simp [intOf]; omega
    · obtain rfl : i = n := by omega
      go_wp2_with fail
      go_ret
      exact ⟨vo, rfl, HE.out, HV.out, hbr⟩

set_option maxHeartbeats 1000000 in
set_option maxRecDepth 20000 in
theorem eqf_yes (v1 v2 : Value) (n : Nat) (f g : Nat → List Int) (M1 M2 : List Nat) (w : World) (h1 : Pic w M1 v1 n f) (h2 : Pic w M2 v2 n g) (hn : n ≤ 2048) (hfg : ∀ j, j < n → f j = g j) :
    Calls Tryz.prog 11 #[v1, v2, .func (.func 12) #[] #[]] w fun e w' => e = .returned (.bool true) ∧ w' = w := by
  obtain ⟨vs, hrow, hent⟩ := h1
  obtain ⟨ae, c, rfl, hc1, hc2⟩ := own_shape hrow
  obtain ⟨us, hrow2, hent2⟩ := h2
  obtain ⟨be, c', rfl, hc3, hc4⟩ := own_shape hrow2
  have HROW := hid hrow
  have HENT := hid hent
  have HROW2 := hid hrow2
  have HENT2 := hid hent2
  have HF := hid hfg
  clear hrow hent hrow2 hent2 hfg
  go_enter Tryz.func11, Tryz.ntmps11
  go_wp2_with fail
  go_loop [17] (fun k => ∃ i : Nat, k = .int .i64 i ∧ i ≤ n) (fun k => n - (intOf k).toNat)
  case atStart => exact ⟨0, rfl, Nat.zero_le _⟩
  case round =>
    obtain ⟨i, rfl, hi⟩ := hrel
    by_cases hlt : i < n
    · obtain ⟨u, hu, a, cc, rfl, hs, hm⟩ := HENT.out i hlt
      obtain ⟨u2, hu2, a2, cc2, rfl, hs2, hm2⟩ := HENT2.out i hlt
      obtain ⟨g1, rfl⟩ : ∃ g, ae = some ⟨g, 0, none⟩ := by
        rcases HROW.out.2 with ⟨_, h⟩ | ⟨g, c, cur, h, _⟩
        · omega
        · injection h with h1 h2 h3; exact ⟨g, h1⟩
      obtain ⟨g2, rfl⟩ : ∃ g, be = some ⟨g, 0, none⟩ := by
        rcases HROW2.out.2 with ⟨_, h⟩ | ⟨g, c, cur, h, _⟩
        · omega
        · injection h with h1 h2 h3; exact ⟨g, h1⟩
      have e1 : w.cell? ⟨g1, i, none⟩ = some (.slice (some a) 128 cc) := by rw [HROW.out.cellAt _ (by omega)]; exact hu
      have e2 : w.cell? ⟨g2, i, none⟩ = some (.slice (some a2) 128 cc2) := by rw [HROW2.out.cellAt _ (by omega)]; exact hu2
      rw [← HF.out i hlt] at hs2
      have ke := hid (equal_yes (some a) (some a2) 128 cc 128 cc2 (f i) w hs hs2)
      clear hu hu2 hs hs2
      go_wp2_with fail
      refine ke.out.mono ?_
      rintro r w2 ⟨rfl, h⟩
      subst w2
      go_wp2_with fail
      go_round
      case rel => exact ⟨i + 1, by go_num, by omega⟩
      case measure => simp [intOf]; omega
    · obtain rfl : i = n := by omega
      go_wp2_with fail
      go_ret
      exact ⟨rfl, rfl⟩

theorem same_yes (v1 v2 : Value) (n : Nat) (f g : Nat → List Int) (M1 M2 : List Nat) (w : World) (h1 : Pic w M1 v1 n f) (h2 : Pic w M2 v2 n g) (hn : n ≤ 2048) (hfg : ∀ j, j < n → f j = g j) :
    Calls Tryz.prog 23 #[v1, v2] w fun e w' => e = .returned (.bool true) ∧ w' = w := by
  have k := hid (eqf_yes v1 v2 n f g M1 M2 w h1 h2 hn hfg)
  obtain ⟨_, hr1, _⟩ := h1
  obtain ⟨_, hr2, _⟩ := h2
  obtain ⟨ae, c, rfl, _, _⟩ := own_shape hr1
  obtain ⟨be, c', rfl, _, _⟩ := own_shape hr2
  clear hr1 hr2
  go_enter Tryz.func23, Tryz.ntmps23
  go_wp2_with fail
  refine k.out.mono ?_
  rintro r w2 ⟨rfl, h⟩
  subst w2
  go_wp2_with fail
  go_ret
  exact ⟨rfl, rfl⟩

end Go.Proofs.YtkmnhpnlkmiiiaaGreatDoor
