/- What the document's New of a disk does. -/
import Derived.Test.YtcophmafkpbdaaaR2old
import Derived.Deep.RegionHeld3
import Derived.Deep.RegionLaw
namespace Go.Proofs.Ytcophmafkpbdaaa
open Go.RowKit
set_option linter.unusedVariables false

theorem step_append_is {P : Program} {ops : Array Oper} {o : Oper} {a : Act} {w : World} {K : Act → World → Prop} {Q : Exit → Act → World → Prop} {E : Prop}
    (hg : o.guard = none) (d x : Operand) (dT sT : TypeId) (hop : o.op = Op.call { callee := Callee.builtin Builtin.append, args := #[d, x], argTypes := #[dT, sT] })
    (v u : Value) (hd : a.eval d = v) (hx : a.eval x = u) {v' : Value} {w' : World} (hr : (Builtin.append_ #[dT, sT] o.type #[v, u]).run P w = .ok v' w') (hK : K (a.put o.dst v') w') :
    if Region.wanted o (yielded ops a.tmps) = true then Oper.wp P o a w K Q else E := by
  have hw : Region.wanted o (yielded ops a.tmps) = true := by simp [Region.wanted, hg]
  rw [if_pos hw]
  unfold Oper.wp execOp
  simp only [hop, resolve, invoke, builtin, Sem.run_bind, Sem.run_pure, Result.andThen_ok, List.map_toArray, List.map_cons, List.map_nil, hd, hx, hr]
  exact hK

theorem Ent.snoc {w w' : World} {M : List Nat} {v v' u : Value} {i : Nat} {f : Nat → List Int} {us : List Value} (hrow : w.ownsRow 0 35 1 v i us) (hent : ∀ j, j < i → ∃ u, us[j]? = some u ∧ Byt w (vb v ++ M) u (f j)) (hown : w'.ownsRow 0 35 1 v' (i + 1) (us ++ [u]))
    (hU : Upd (fun x => v.ownBlock = some x) w w') (hW : v'.ownBlock = v.ownBlock ∨ ∀ x, v'.ownBlock = some x → w.heap.size ≤ x) (hb : Byt w (vb v ++ M) u (f i)) : Ent w' M v' (i + 1) f := by
  have hgr : Grew' w (vb v ++ M) (vb v' ++ M) := by
    intro x hx
    rcases List.mem_append.1 hx with h | h
    · have hx' : v'.ownBlock = some x := by simpa [vb] using h
      rcases hW with h' | h'
      · exact .inl (List.mem_append.2 (.inl (by simp [vb, ← h', hx'])))
      · exact .inr (h' x hx')
    · exact .inl (List.mem_append.2 (.inr h))
  have hU' : Upd (· ∈ vb v ++ M) w w' := hU.mono (fun x _ hx => List.mem_append.2 (.inl (by simp [vb, hx])))
  have hul : us.length = i := by have := hrow.1; omega
  refine ⟨_, hown, fun j hj => ?_⟩
  rcases (show j < i ∨ j = i by omega) with hj' | rfl
  · obtain ⟨y, h1, h2⟩ := hent j hj'
    exact ⟨y, by rw [List.getElem?_append_left (List.getElem?_eq_some_iff.1 h1).1]; exact h1, h2.upd hU' hgr⟩
  · exact ⟨u, by rw [← hul]; simp, hb.upd hU' hgr⟩

theorem Ent.put {w w' : World} {M : List Nat} {v : Value} {i q : Nat} {f : Nat → List Int} (h : Ent w M v i f) (u : Upd (fun k => k = q) w w') (hq : q ∈ M) (hv : ∀ x, v.ownBlock = some x → x ≠ q) : Ent w' M v i f := by
  obtain ⟨us, h1, h2⟩ := h
  refine ⟨us, u.own h1 (fun k hk => hv k hk), fun j hj => ?_⟩
  obtain ⟨y, e1, e2⟩ := h2 j hj
  exact ⟨y, e1, e2.upd (u.mono (fun k _ e => by subst e; exact List.mem_append.2 (.inr hq))) (grew_refl _ _)⟩

/-- A sector of noughts. -/
def nought : List Int := List.replicate 128 0
theorem nought_at (i : Nat) (hi : i < 128) : ((nought.map (Value.int .u8)).toArray.toList)[0 + i]? = some (.int .u8 (nought.getD i 0)) := by
  rw [Nat.zero_add, List.toList_toArray, List.getElem?_map, nought, List.getD_eq_getElem?_getD, List.getElem?_replicate, if_pos hi]
  rfl
theorem made_eq : madeCells (Value.int .u8 0).cells (Int.toNat 128 * 1) = (nought.map (Value.int .u8)).toArray := by kernel_rfl
theorem made128 (W : World) : (Instr.makeSlice 35 (.int .i64 128) (.int .i64 128)).run Try.prog W = .ok (.slice (some ⟨W.heap.size, 0, none⟩) 128 128) (W.alloc (.cells (nought.map (Value.int .u8)).toArray 5)) := by
  obtain ⟨i, hi0, hz0, hz1, hz2⟩ := info_parts (show (Try.prog.info? 5).map (fun i => (i.zero, i.size, i.bytes)) = some (some (.int .u8 0), 1, 1) by kernel_rfl)
  have := run_make (P := Try.prog) W 35 5 i (.int .u8 0) Try.underlying35 hi0 hz0 .i64 .i64 128 128 (by omega) (by omega) (by rw [hz2]; omega) (by omega)
  rw [this, hz1, made_eq]
  rfl

set_option maxHeartbeats 4000000 in
set_option maxRecDepth 20000 in
theorem rnew_rk (n : Nat) (M : List Nat) (w : World) (h1 : 1 ≤ n) (h2 : n ≤ 2048) (hM : ∀ y ∈ M, y < w.heap.size) :
    Calls Try.prog 8 #[.int .i64 (n : Int)] w fun e w' => e = .returned (.tuple #[.pointer (some ⟨w.heap.size, 0, none⟩), .int .i64 0]) ∧
      ∃ x : Rk, x.ok w' w.heap.size (x.foot w.heap.size ++ M) ∧ x.n = n ∧ x.f = (fun _ => nought) ∧ x.E = [] ∧ x.sl = false ∧ (∀ k ∈ x.foot w.heap.size, w.heap.size ≤ k ∧ k < w'.heap.size) ∧ Below w.heap.size w w' := by
  obtain ⟨i0, hi0, hz0, hz1, hz2⟩ := info_parts Try.infoTB
  obtain ⟨Z, gZ⟩ : ∃ Z : List Value, Z = nought.map (Value.int .u8) := ⟨_, rfl⟩
  have hmk : ∀ W : World, (Instr.makeSlice 35 (.int .i64 128) (.int .i64 128)).run Try.prog W = .ok (.slice (some ⟨W.heap.size, 0, none⟩) 128 128) (W.alloc (.cells Z.toArray 5)) := by rw [gZ]; exact made128
  have c1 : ¬ (n : Int) < 1 := by omega
  have c2 : ¬ 2048 < (n : Int) := by omega
  have GZ := hid gZ
  have HM := hid hM
  clear gZ hM
  go_enter Try.func8, Try.ntmps8
  go_wp2_with fail
  go_loopw [14] (fun k wr => ∃ (j : Nat) (v : Value), k = .int .i64 j ∧ j ≤ n ∧ Hid (wr.heap[w.heap.size]? = some (.cells #[v, .slice none 0 0, .bool false] 65 (0, 0))) ∧ Hid (Ent wr (w.heap.size :: M) v j (fun _ => nought)) ∧ Hid (∀ x, v.ownBlock = some x → w.heap.size + 1 ≤ x) ∧ Hid (Below w.heap.size w wr)) (fun k _ => n - (intOf k).toNat)
  case atStart => exact ⟨0, .slice none 0 0, rfl, Nat.zero_le _, hid (heap_alloc_new w _), hid ⟨[], World.ownsRow_nil _ _ _ _, fun j hj => absurd hj (Nat.not_lt_zero j)⟩, hid (fun x hx => by simp [Value.ownBlock] at hx), hid (one_alloc w _)⟩
  case round =>
    obtain ⟨j, v, rfl, hj, HC, HE, HV, HB⟩ := hrel
    by_cases hlt : j < n
    · obtain ⟨us, huo, hue⟩ := HE.out
      obtain ⟨av, cv, rfl, hv1, hv2⟩ := own_shape huo
      have q0 : wr.cell? ⟨w.heap.size, 0, none⟩ = some (.slice av j cv) := heap_cells HC.out _ _ rfl
      have g0 : wr.frozen? ⟨w.heap.size, 0, none⟩ = false := by simp [World.frozen?, HC.out]
      have hws : w.heap.size < wr.heap.size := (Array.getElem?_eq_some_iff.1 HC.out).1
      have hb2 := two_allocs wr (.cells Z.toArray 5) (.cells #[.slice (some ⟨wr.heap.size, 0, none⟩) 128 128] 35)
      obtain ⟨v', wz, hrz, hoz, hgz, _, hwz⟩ := run_append_where (P := Try.prog) ((wr.alloc (.cells Z.toArray 5)).alloc (.cells #[.slice (some ⟨wr.heap.size, 0, none⟩) 128 128] 35)).drew 42 42 35 i0 _ 1 24 Try.underlying42 hi0 hz0 hz1 hz2 rfl (by decide) (.slice av j cv) j us (by
          have := (huo.alloc (.cells Z.toArray 5)).alloc (.cells #[.slice (some ⟨wr.heap.size, 0, none⟩) 128 128] 35)
          exact this) ⟨wr.heap.size + 1, 0, none⟩ 1 1 [.slice (some ⟨wr.heap.size, 0, none⟩) 128 128] rfl (by intro a u ha; rw [Addr.add_lit]; refine heap_cells (heap_second wr _ _) _ u ?_; simpa using ha) (by simp [Value.oneCell']) (by unfold maxLen; omega) (by omega)
      obtain ⟨av', cv', rfl, hv3, hv4⟩ := own_shape hoz
      have hne : ∀ x, (Value.slice av j cv).ownBlock = some x → x ≠ w.heap.size := fun x hx e => by have := HV.out x hx; omega
      have hug := Upd.of_grown hgz
      have hlz : w.heap.size < ((wr.alloc (.cells Z.toArray 5)).alloc (.cells #[.slice (some ⟨wr.heap.size, 0, none⟩) 128 128] 35)).drew.heap.size := Nat.lt_of_lt_of_le hws hb2.size
      have hbz := hug.block w.heap.size hlz (fun e => hne _ e.symm rfl)
      have z0 : wz.cell? ⟨w.heap.size, 0, none⟩ = some (.slice av j cv) := (World.cell?_of_block (a := ⟨w.heap.size, 0, none⟩) hbz).trans ((hb2.cell (p := ⟨w.heap.size, 0, none⟩) hws).trans q0)
      have z1 : wz.frozen? ⟨w.heap.size, 0, none⟩ = false := (World.frozen?_of_block (a := ⟨w.heap.size, 0, none⟩) hbz).trans ((hb2.frozen (p := ⟨w.heap.size, 0, none⟩) hws).trans g0)
      have hcz : wz.heap[w.heap.size]? = some (.cells #[.slice av j cv, .slice none 0 0, .bool false] 65 (0, 0)) := hbz.trans ((hb2.block w.heap.size hws).trans HC.out)
      have hc6 := heap_setCell_same wz w.heap.size 0 _ _ (.slice av' (j + 1) cv') hcz
      have hdr : Below wr.heap.size wr ((wr.alloc (.cells Z.toArray 5)).alloc (.cells #[.slice (some ⟨wr.heap.size, 0, none⟩) 128 128] 35)).drew := hb2.drew
      have hsrc : Src ((wr.alloc (.cells Z.toArray 5)).alloc (.cells #[.slice (some ⟨wr.heap.size, 0, none⟩) 128 128] 35)).drew (some ⟨wr.heap.size, 0, none⟩) 128 nought := by
        refine ⟨by simp [nought], fun _ => ⟨wr.heap.size, 0, rfl, Nat.lt_of_lt_of_le (Nat.lt_succ_self _) (by simp), fun i hi => ?_⟩⟩
        have hblk : ((wr.alloc (.cells Z.toArray 5)).alloc (.cells #[.slice (some ⟨wr.heap.size, 0, none⟩) 128 128] 35)).heap[wr.heap.size]? = some (.cells Z.toArray 5 (0, 0)) := ((one_alloc (wr.alloc (.cells Z.toArray 5)) _).block wr.heap.size (by simp)).trans (heap_alloc_new wr _)
        refine heap_cells (show ((wr.alloc (.cells Z.toArray 5)).alloc (.cells #[.slice (some ⟨wr.heap.size, 0, none⟩) 128 128] 35)).drew.heap[wr.heap.size]? = _ from hblk) _ _ ?_
        rw [GZ.out]
        exact nought_at i hi
      have hent6 : Ent (wz.setCell ⟨w.heap.size, 0, none⟩ (.slice av' (j + 1) cv')) (w.heap.size :: M) (.slice av' (j + 1) cv') (j + 1) (fun _ => nought) := by
        have hv6 : ∀ x, (Value.slice av' (j + 1) cv').ownBlock = some x → x ≠ w.heap.size := fun x hx e => by
          rcases hwz with h | h
          · exact hne x (by rw [← h]; exact hx) e
          · have h3 := h x hx
            have h4 := hdr.size
            omega
        refine (Ent.snoc (own_below huo hdr) (fun i hi => ?_) hoz (hug.mono (fun x _ hx => hx.symm)) hwz ⟨⟨wr.heap.size, 0, none⟩, 128, rfl, hsrc, fun hx => ?_, by omega, by omega⟩).put (Upd.setCell _ _ _ rfl) (by simp) hv6
        · obtain ⟨y, e1, e2⟩ := hue i hi
          exact ⟨y, e1, e2.upd (Upd.of_below hdr) (grew_refl _ _)⟩
        · rcases List.mem_append.1 hx with h | h
          · exact Nat.lt_irrefl _ (own_lt huo h)
          · rcases List.mem_cons.1 h with h | h
            · simp at h; omega
            · have := HM.out _ h; simp at this; omega
      have hv7 : ∀ x, (Value.slice av' (j + 1) cv').ownBlock = some x → w.heap.size + 1 ≤ x := fun x hx => by
        rcases hwz with h | h
        · exact HV.out x (by rw [← h]; exact hx)
        · have h3 := h x hx
          have h4 := hdr.size
          omega
      have hb7 : Below w.heap.size w (wz.setCell ⟨w.heap.size, 0, none⟩ (.slice av' (j + 1) cv')) := by
        have hs := HB.out.size
        refine ((HB.out.trans (hdr.mono hs)).trans (hug.below (Nat.le_trans hs hdr.size) (fun x hx => ?_))).trans ((Upd.setCell (F := fun k => k = w.heap.size) wz ⟨w.heap.size, 0, none⟩ _ rfl).below (Nat.le_trans hs (Nat.le_trans hdr.size hug.size)) (fun x hx => by omega))
        have := HV.out x hx.symm
        omega
      have HC6 : Hid ((wz.setCell ⟨w.heap.size, 0, none⟩ (.slice av' (j + 1) cv')).heap[w.heap.size]? = some (.cells #[.slice av' (j + 1) cv', .slice none 0 0, .bool false] 65 (0, 0))) := hid (hc6.trans rfl)
      have HE6 := hid hent6
      have HV7 := hid hv7
      have HB7 := hid hb7
      clear hbz hlz hug hne hcz hc6 hdr hsrc hent6 hv7 hb7
      have HRZ := hid hrz
      have HOZ := hid hoz
      have HGZ := hid hgz
      have HWZ := hid hwz
      clear hoz hgz hwz
      go_wp2_with fail
      go_region_law (refine step_append_is (by rfl) _ _ 42 42 (by rfl) _ _ (by simp [Act.eval]) (by simp [Act.eval]) hrz ?_)
      all_goals go_wp2_with fail
      all_goals
        go_roundw
        case rel => exact ⟨j + 1, _, by go_num, by omega, HC6, HE6, HV7, HB7⟩
        case measure => simp [intOf]; omega
    · obtain rfl : j = n := by omega
      go_wp2_with fail
      go_ret2
      obtain ⟨us, huo, hue⟩ := HE.out
      obtain ⟨av, cv, rfl, hv1, hv2⟩ := own_shape huo
      obtain ⟨g, rfl⟩ : ∃ g, av = some ⟨g, 0, none⟩ := by
        rcases huo.2 with ⟨_, h⟩ | ⟨g, c, cur, h, _⟩
        · omega
        · injection h with h1 h2 h3; exact ⟨g, h1⟩
      have hg1 := HV.out g rfl
      have hg2 := (huo.lt g rfl).2
      have hws : w.heap.size < wr.heap.size := (Array.getElem?_eq_some_iff.1 HC.out).1
      refine ⟨rfl, ⟨j, g, cv, fun _ => nought, none, 0, [], [], false⟩, ⟨HC.out, ⟨us, huo, fun i hi => ?_⟩, h1, h2, ⟨rfl, Nat.le_refl _, show 0 ≤ 9223372036854775807 by omega, fun h => absurd h (Nat.lt_irrefl 0)⟩, fun i hi => absurd hi (Nat.not_lt_zero i), fun k hk => List.mem_append.2 (.inl hk), ?_, fun e he => absurd he (by simp)⟩, rfl, rfl, rfl, rfl, fun k hk => ?_, HB.out⟩
      · obtain ⟨y, e1, e2⟩ := hue i hi
        exact ⟨y, e1, e2.weaken (fun x hx => by simp [Rk.foot, eb, vb, Value.ownBlock] at hx ⊢; rcases hx with h | h | h <;> simp [h])⟩
      · simp [Rk.foot, eb]; omega
      · simp [Rk.foot, eb] at hk; omega

end Go.Proofs.Ytcophmafkpbdaaa
