/- The road of DrawNoughts: whatever list, numbers and count came in, it returns true, and what was there stays. -/
import Derived.Test.YtmieoihjgckfhaaWDraw
import Derived.Test.YtmieoihjgckfhaaWZeros
namespace Go.Proofs.Ytmieoihjgckfhaa
open Go.RowKit
set_option maxRecDepth 20000
set_option linter.unusedVariables false

/-- What is drawn of a list, and of it with noughts behind: the same; at each step either as many were taken of both, or the first one is at its end and the other one at a nought. -/
def Par (l : List Int) (k u v : Nat) : Prop := u ≤ v ∧ (u = v ∨ u = l.length) ∧ v ≤ l.length + k

theorem par_nx (l : List Int) (k u v : Nat) (n : Int) (h : Par l k u v) (hu : u ≤ l.length) : nx n l u = nx n (l ++ List.replicate k 0) v := by
  obtain ⟨h1, h2, h3⟩ := h
  have hl : (l ++ List.replicate k (0 : Int)).length = l.length + k := by simp
  unfold nx
  by_cases hn : n < 1
  · simp [hn]
  · by_cases hul : u = l.length
    · rw [if_pos (.inr hul), hl]
      by_cases hv : v = l.length + k
      · rw [if_pos (.inr hv)]
      · rw [if_neg (by omega)]
        have : (l ++ List.replicate k (0 : Int)).getD v 0 = 0 := by
          rw [List.getD_eq_getElem?_getD, List.getElem?_append_right (by omega), List.getElem?_replicate]
          split <;> rfl
        rw [this]; rfl
    · obtain rfl : u = v := by omega
      rw [if_neg (by omega), hl, if_neg (by omega)]
      congr 2
      rw [List.getD_eq_getElem?_getD, List.getD_eq_getElem?_getD, List.getElem?_append_left (by omega)]

theorem par_nu (l : List Int) (k u v : Nat) (n : Int) (h : Par l k u v) (hu : u ≤ l.length) : Par l k (nu n l u) (nu n (l ++ List.replicate k 0) v) := by
  obtain ⟨h1, h2, h3⟩ := h
  have hl : (l ++ List.replicate k (0 : Int)).length = l.length + k := by simp
  unfold nu Par
  rw [hl]
  by_cases hn : n < 1
  · simp only [hn, true_or, if_true]; omega
  · by_cases hul : u = l.length
    · rw [if_pos (.inr hul)]
      by_cases hv : v = l.length + k
      · rw [if_pos (.inr hv)]; omega
      · rw [if_neg (by omega)]; omega
    · rw [if_neg (by omega), if_neg (by omega)]; omega

/-- 'append' by what it comes to. -/
theorem wpList_append_run {P : Program} {w : World} {ops : Array Oper} {rest : List Oper} {o : Oper} {a : Act} {Q : Exit → Act → World → Prop} (hgd : o.guard = none) (d x : Operand) (dT sT : TypeId)
    (hop : o.op = Op.call { callee := Callee.builtin Builtin.append, args := #[d, x], argTypes := #[dT, sT] }) (v u : Value) (hd : a.eval d = v) (hx : a.eval x = u) {v' : Value} {w' : World} (hr : (Builtin.append_ #[dT, sT] o.type #[v, u]).run P w = .ok v' w')
    (hK : wpList P ops Q rest (a.put o.dst v') w') : wpList P ops Q (o :: rest) a w := by
  refine wpList_plain hgd fun K hK' => ?_
  unfold Oper.wp execOp
  simp only [hop, resolve, invoke, builtin, Sem.run_bind, Sem.run_pure, Result.andThen_ok, List.map_toArray, List.map_cons, List.map_nil, hd, hx, hr]
  exact hK' _ _ hK

/-- A new block of one number is a list of it. -/
theorem one_ilst (w : World) (z : Int) : Ilst (w.alloc (.cells #[.int .i64 z] 3)) (some ⟨w.heap.size, 0, none⟩) 1 1 [z] :=
  ⟨rfl, fun _ => ⟨w.heap.size, 0, rfl, by simp, fun j hj => by
    obtain rfl : j = 0 := by omega
    rw [Nat.zero_add, cell_of_row _ _ 0 _ 3 (0, 0) (heap_alloc_new w _)]; rfl⟩, fun h => by cases h⟩

set_option maxHeartbeats 8000000 in
theorem noughts_road (a : Option Addr) (n c : Nat) (l : List Int) (b : Option Addr) (m d : Nat) (ks : List Int) (t : Int) (w : World) (h : Ilst w a n c l) (q : Ilst w b m d ks) (hk : ∀ z ∈ ks, z ≤ 9223372036854775807) (hn : n ≤ 17592186044366) (hm : m ≤ 17592186044416) :
    Calls Try.prog 7 #[.slice a n c, .slice b m d, .int .i64 t] w fun e w' => e = .returned (.bool true) ∧ Below w.heap.size w w' := by
  obtain ⟨i0, hi0, hz0, hz1, hz2⟩ := info_parts infoInt
  have k1 := hid (dnew a n c l w h (by omega))
  have HA := hid h
  have HQ := hid q
  obtain rfl := h.size
  obtain rfl := q.size
  clear h q
  go_enter Try.func7, Try.ntmps7
  go_wp2_with fail
  refine k1.out.mono ?_
  rintro e w1 ⟨p1, rfl, hD, hb⟩
  have HD1 := hid hD
  have HB1 := hid hb
  have k2 := hid (iclone a l.length c l w1 (HA.out.below hb) (by omega))
  have q1 := hD.lt
  have q2 := hD.base
  clear k1 HA hD hb
  go_wp2_with fail
  refine k2.out.mono ?_
  rintro e w2 ⟨v, rfl, ho, hb⟩
  have HD2 := hid (HD1.out.below hb)
  have HB2 := hid (HB1.out.trans (hb.mono HB1.out.size))
  have HO2 := hid ho
  have s12 := hb.size
  clear k2 HD1 HB1 ho hb
  obtain ⟨k, gk, hk50⟩ : ∃ k : Nat, wrap64 ((IntKind.u64.wrap t).tmod 50) = (k : Int) ∧ k < 50 := by
    rw [IntKind.wrap_u64, Int.tmod_eq_emod_of_nonneg (by omega), wrap_in (by omega) (by omega)]
    exact ⟨(t % 18446744073709551616 % 50).toNat, by omega, by omega⟩
  obtain ⟨v3, w3, hr3, ho3, hu3⟩ := run_append_zerosI w2 22 3 22 .i64 i0 Try.underlying22 Try.underlying3 hi0 hz0 hz1 hz2 w1.heap.size v l.length _ HO2.out s12 k (by omega) (wrap64 ((IntKind.u64.wrap t).tmod 50)) gk
  go_wp2_with (at_builtin; go_must (refine wpList_append_run rfl (.tmp 14) (.tmp 18) 22 3 rfl v (.int .i64 (wrap64 ((IntKind.u64.wrap t).tmod 50))) rfl rfl hr3 ?_))
  have hE : l.map (Value.int .i64) ++ List.replicate k (Value.int .i64 0) = (l ++ List.replicate k 0).map (Value.int .i64) := by simp
  have hEl : l.length + k = (l ++ List.replicate k (0 : Int)).length := by simp
  rw [hE, hEl] at ho3
  obtain ⟨L2, gL2⟩ : ∃ L2, L2 = l ++ List.replicate k (0 : Int) := ⟨_, rfl⟩
  have PX : Hid (∀ u v n, Par l k u v → u ≤ l.length → nx n l u = nx n L2 v ∧ Par l k (nu n l u) (nu n L2 v)) := by
    rw [gL2]; exact hid fun u v n h hu => ⟨par_nx l k u v n h hu, par_nu l k u v n h hu⟩
  rw [← gL2] at ho3 hEl
  clear hE gL2
  obtain ⟨a3, c3, rfl, _, hnil, hI⟩ := own_il ho3
  have HF3 : Hid (∀ x, w1.heap.size > x → ¬ v.ownBlock = some x) := hid fun x hx e => by have := (HO2.out.lt x e).1; omega
  have HD3 := hid (HD2.out.upd hu3 (fun x h1 h2 e => HF3.out x (by omega) e.symm))
  have HB3 := hid (HB2.out.trans (hu3.below (B := w.heap.size) HB2.out.size (fun x hx => by have := (HO2.out.lt x hx.symm).1; have := HB2.out.size; have := HD2.out.lt; omega)))
  have k4 := hid (dnew a3 L2.length c3 L2 w3 (hI.ilst hnil) (by omega))
  have s23 := hu3.size
  have sD3 := HD3.out.lt
  clear HD2 HB2 HO2 HF3 hI hu3 ho3 hr3 hi0 hz0 hz1 hz2
  go_wp2_with fail
  refine k4.out.mono ?_
  rintro e w4 ⟨p2, rfl, hE, hb⟩
  have HD4 := hid (HD3.out.below hb)
  have HE4 := hid hE
  have HB4 := hid (HB3.out.trans (hb.mono HB3.out.size))
  have q3 := hE.base
  have q4 := HB3.out.size
  clear k4 HD3 HB3 hE hb
  generalize (wrap64 ((IntKind.u64.wrap t).tmod 50)) = tt
  go_wp2_with fail
  go_loopw [23] (fun x wr => ∃ (j u v : Nat), j ≤ ks.length ∧ x = .int .i64 j ∧ Hid (Dw wr w.heap.size p1 l u) ∧ Hid (Dw wr w3.heap.size p2 L2 v) ∧ Hid (Par l k u v) ∧ Hid (Below w.heap.size w wr)) (fun x _ => ks.length - (intOf x).toNat)
  case atStart => exact ⟨0, 0, 0, by omega, rfl, HD4, HE4, hid ⟨by omega, .inl rfl, by omega⟩, HB4⟩
  case round =>
    clear HD4 HE4 HB4
    obtain ⟨j, u, v, hj, rfl, HD, HE, HP, HB⟩ := hrel
    rename World => wr
    by_cases hjl : j < ks.length
    · obtain ⟨b0, o0, rfl, hbl, hc⟩ := (HQ.out.below HB.out).cells (by omega)
      have hcj := hc j hjl
      have hz : ks.getD j 0 ≤ 9223372036854775807 := by
        rw [List.getD_eq_getElem?_getD, List.getElem?_eq_getElem hjl]; exact hk _ (List.getElem_mem hjl)
      generalize ks.getD j 0 = z at hcj hz
      have k4 := hid (next_any wr w.heap.size p1 l u z HD.out hz)
      clear hc hbl
      go_wp2_with fail
      refine k4.out.mono ?_
      rintro e w5 ⟨rfl, hD, hU⟩
      have HE5 := hid (HE.out.upd hU (fun x h1 h2 => by omega))
      have HD5 := hid hD
      have HB5 := hid (HB.out.trans (hU.below HB.out.size (fun x hx => by omega)))
      have k5 := hid (next_any w5 w3.heap.size p2 L2 v z HE5.out hz)
      obtain ⟨hX, hP⟩ := PX.out u v z HP.out HD.out.le
      have HP5 := hid hP
      rw [← hX] at k5
      generalize nx z l u = X at k5 ⊢
      generalize nu z l u = u' at HD5 HP5
      generalize nu z L2 v = v' at k5 HP5
      clear HD HE HB HP k4 hD hU hX hP
      go_wp2_with fail
      refine k5.out.mono ?_
      rintro e w6 ⟨rfl, hE, hU⟩
      have HD6 := hid (HD5.out.upd hU (fun x h1 h2 => by omega))
      have HE6 := hid hE
      have HB6 := hid (HB5.out.trans (hU.below HB5.out.size (fun x hx => by omega)))
      clear k5 HD5 HE5 HB5 hE hU
      go_wp2_with fail
      go_roundw
      case rel => exact ⟨j + 1, u', v', by omega, by go_num, HD6, HE6, HP5, HB6⟩
      case measure => simp [intOf]; omega
    · obtain rfl : j = ks.length := by omega
      have k6 := hid (used_any wr w.heap.size p1 l u HD.out)
      have k7 := hid (used_any wr w3.heap.size p2 L2 v HE.out)
      have hle : u ≤ v := HP.out.1
      clear HE HD HP
      go_wp2_with fail
      refine k6.out.mono ?_
      rintro e w6 ⟨rfl, rfl⟩
      clear k6
      go_wp2_with fail
      refine k7.out.mono ?_
      rintro e w6 ⟨rfl, rfl⟩
      have hb7 : Below w6.heap.size w6 (w6.alloc (.cells #[.int .i64 7] 3)) := (Below.refl _ _).alloc (Nat.le_refl _) _
      have k8 := hid (dnew (some ⟨w6.heap.size, 0, none⟩) 1 1 [7] _ (one_ilst w6 7) (by omega))
      have HB7 := hid (HB.out.trans (hb7.mono HB.out.size))
      clear k7 hb7 HB
      go_wp2_with fail
      refine k8.out.mono ?_
      rintro e w8 ⟨p8, rfl, hD, hb⟩
      have HB8 := hid (HB7.out.trans (hb.mono HB7.out.size))
      have k9 := hid (next_any w8 _ p8 [7] 0 5 hD (by omega))
      have h9 := hD.base
      have h10 := HB7.out.size
      rw [show nx 5 [7] 0 = 2 by decide] at k9
      clear k8 hD hb HB7
      go_wp2_with fail
      refine k9.out.mono ?_
      rintro e w9 ⟨rfl, _, hU⟩
      have HB9 := hid (HB8.out.trans (hU.below HB8.out.size (fun x hx => by omega)))
      clear k9 hU HB8
      go_wp2_with fail
      go_ret
      exact ⟨by simp, HB9.out⟩

end Go.Proofs.Ytmieoihjgckfhaa
