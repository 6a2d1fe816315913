/- What journal's leftovers does. -/
import Derived.Test.YtkmnhpnlkmiiiaaGreatDoorJGrp
import Derived.Laws.AppendOwnNone
namespace Go.Proofs.YtkmnhpnlkmiiiaaGreatDoor
open Go.RowKit Num Jr
set_option linter.unusedVariables false
set_option maxRecDepth 20000

theorem jstep_append_is {P : Program} {ops : Array Oper} {o : Oper} {a : Act} {w : World} {K : Act → World → Prop} {Q : Exit → Act → World → Prop} {E : Prop}
    (hg : o.guard = none) (d x : Operand) (dT sT : TypeId) (hop : o.op = Op.call { callee := Callee.builtin Builtin.append, args := #[d, x], argTypes := #[dT, sT] })
    (v u : Value) (hd : a.eval d = v) (hx : a.eval x = u) {v' : Value} {w' : World} (hr : (Builtin.append_ #[dT, sT] o.type #[v, u]).run P w = .ok v' w') (hK : K (a.put o.dst v') w') :
    if Region.wanted o (yielded ops a.tmps) = true then Oper.wp P o a w K Q else E := by
  have hw : Region.wanted o (yielded ops a.tmps) = true := by simp [Region.wanted, hg]
  rw [if_pos hw]
  unfold Oper.wp execOp
  simp only [hop, resolve, invoke, builtin, Sem.run_bind, Sem.run_pure, Result.andThen_ok, List.map_toArray, List.map_cons, List.map_nil, hd, hx, hr]
  exact hK

/-- Numbers behind numbers. -/
theorem run_append_nums (w : World) (ty : TypeId) (B B' n1 n2 : Nat) (v1 v2 : Value) (l1 l2 : List Nat) (h1 : w.ownsRow B 3 1 v1 n1 (nums l1)) (h2 : w.ownsRow B' 3 1 v2 n2 (nums l2)) (hn : n1 + n2 ≤ 100000) (hB : B ≤ w.heap.size) :
    ∃ v' w', (Builtin.append_ #[51, 51] ty #[v1, v2]).run Tryz.prog w = .ok v' w' ∧ w'.ownsRow B 3 1 v' (n1 + n2) (nums (l1 ++ l2)) ∧ Upd (fun x => v1.ownBlock = some x) w w' := by
  obtain ⟨i0, hi0, hz0, hz1, hz2⟩ := info_parts Tryz.jinfo3
  have hl2 : (nums l2).length = n2 := by have := h2.1; omega
  rcases h2.2 with ⟨rfl, rfl⟩ | ⟨g, c, cur, rfl, _⟩
  · have : l2 = [] := List.eq_nil_of_length_eq_zero (by rw [← nums_len]; exact hl2)
    subst this
    refine ⟨v1, w, run_append_owned_none (P := Tryz.prog) w B 51 ty 3 i0 1 Tryz.underlying51 hi0 v1 n1 _ h1, by simpa using h1, Upd.refl _ _⟩
  · obtain ⟨v', w', hr, k2, k3, _⟩ := run_append_own (P := Tryz.prog) w B 51 ty 3 i0 (.int .i64 0) 1 8 Tryz.underlying51 hi0 hz0 hz1 hz2 rfl (by decide) v1 n1 _ h1 ⟨g, 0, none⟩ n2 c (nums l2) (by omega) (fun j u hj => by
      have hjl := (List.getElem?_eq_some_iff.1 hj).1
      rw [Addr.add_lit, Nat.zero_add, h2.cellAt j (by omega)]; exact hj) (fun u hu => by simp only [nums, List.mem_map] at hu; obtain ⟨k, _, rfl⟩ := hu; rfl) (by unfold maxLen; omega) (by omega) hB
    refine ⟨v', w', hr, ?_, (Upd.of_grown k3).mono fun x _ hx => hx.symm⟩
    simpa [nums] using k2

/-- The sectors that belong to nothing. -/
def leftL (gen first size used f0 f1 : Nat) : List Nat := (if (if (gen + 1) % 2 = 0 then f0 else f1) = 0 then [(gen + 1) % 2] else []) ++ List.range' (first + used) (size - used)

set_option maxHeartbeats 4000000 in
theorem leftovers_any (jp p gen first size groups used cnt f0 f1 : Nat) (wv : Value) (w : World) (hj : Jc w jp p gen first size groups used wv cnt) (hs : size ≤ 2048) (hf : first ≤ 4096) (hu : used ≤ size) (hg : gen ≤ 4294967296) :
    Calls Tryz.prog 69 #[.pointer (some ⟨jp, 0, none⟩), .agg #[.int .i64 f0, .int .i64 f1]] w fun e w' => ∃ v, e = .returned v ∧
      w'.ownsRow w.heap.size 3 1 v (leftL gen first size used f0 f1).length (nums (leftL gen first size used f0 f1)) ∧ Below w.heap.size w w' := by
  obtain ⟨i0, hi0, hz0, hz1, hz2⟩ := info_parts Tryz.jinfo3
  have hjl : jp < w.heap.size := (Array.getElem?_eq_some_iff.1 hj).1
  obtain ⟨W0, g0⟩ : ∃ W0, W0 = w.alloc (.cells #[.int .i64 f0, .int .i64 f1] 117) := ⟨_, rfl⟩
  have hb0 : Below w.heap.size w W0 := by rw [g0]; exact (Below.refl _ _).alloc (Nat.le_refl _) _
  have hs0 : W0.heap.size = w.heap.size + 1 := by rw [g0]; simp
  have hbx : W0.heap[w.heap.size]? = some (.cells #[.int .i64 f0, .int .i64 f1] 117 (0, 0)) := by rw [g0]; exact heap_alloc_new _ _
  have hL : leftL gen first size used f0 f1 = (if (if (gen + 1) % 2 = 0 then f0 else f1) = 0 then [(gen + 1) % 2] else []) ++ List.range' (first + used) (size - used) := rfl
  have kh := hid (fun wx => headof_any (gen + 1) wx (by omega))
  obtain ⟨q, gq⟩ : ∃ q, q = w.heap.size := ⟨_, rfl⟩
  have cF : W0.cell? ⟨q, (gen + 1) % 2, none⟩ = some (.int .i64 ((if (gen + 1) % 2 = 0 then f0 else f1 : Nat) : Int)) := by
    rw [gq]
    rcases (show (gen + 1) % 2 = 0 ∨ (gen + 1) % 2 = 1 by omega) with h | h
    · rw [h]; exact heap_cells hbx 0 _ rfl
    · rw [h]; exact heap_cells hbx 1 _ rfl
  have ho2 : (gen + 1) % 2 < 2 := by omega
  obtain ⟨F, gF⟩ : ∃ F, F = if (gen + 1) % 2 = 0 then f0 else f1 := ⟨_, rfl⟩
  obtain ⟨o2, go2⟩ : ∃ o2, o2 = (gen + 1) % 2 := ⟨_, rfl⟩
  rw [← gF, ← go2] at hL cF
  rw [← go2] at ho2
  rw [← go2] at kh
  obtain ⟨LL, gLL⟩ : ∃ LL, LL = leftL gen first size used f0 f1 := ⟨_, rfl⟩
  rw [← gLL] at hL
  rw [← gLL]
  have j0 : Jc W0 jp p gen first size groups used wv cnt := (hb0.block jp hjl).trans hj
  have d1 : W0.cell? ⟨jp, 1, none⟩ = some (.int .i64 gen) := heap_cells j0 1 _ rfl
  have d2 : W0.cell? ⟨jp, 2, none⟩ = some (.int .i64 first) := heap_cells j0 2 _ rfl
  have d3 : W0.cell? ⟨jp, 3, none⟩ = some (.int .i64 size) := heap_cells j0 3 _ rfl
  have d5 : W0.cell? ⟨jp, 5, none⟩ = some (.int .i64 used) := heap_cells j0 5 _ rfl
  have kb := hid (fun wx => behind_any gen first size used wx hs hf (by omega))
  have G0 := hid g0
  have GQ := hid gq
  have HLL := hid hL
  have HB0 := hid hb0
  have o20 : (0 : Int) ≤ (o2 : Int) := by omega
  have o22 : (o2 : Int) < 2 := by omega
  have eg : ((gen + 1 : Nat) : Int) = (gen : Int) + 1 := by omega
  rw [eg] at kh
  have hwl : w.heap.size ≤ W0.heap.size := by omega
  clear g0 hL gLL j0 hj hbx gq go2 gF hb0 hs0 eg
  go_enter Tryz.func69, Tryz.ntmps69
  go_upto_region 2 with fail
  rw [← G0.out, ← GQ.out]
  by_cases h0 : F = 0
  · subst h0
    rw [if_pos rfl] at HLL
    go_upto_region 5 with (first | (go_at_call 82; refine (kh.out _).mono ?_; rintro r w1 ⟨rfl, h⟩; subst w1) | (at_builtin; go_must (refine wpList_append_own _ rfl _ _ 51 rfl w.heap.size 3 i0 _ 1 8 Tryz.underlying51 hi0 hz0 hz1 hz2 rfl (by decide) (.slice none 0 0) 0 [] rfl (World.ownsRow_nil _ _ _ _) ⟨_, 0, none⟩ 1 1 [.int .i64 (o2 : Int)] rfl rfl (cell_one_new _ _ _) (by simp [Value.oneCell']) (by unfold maxLen; omega) (by omega) (by simp; omega) ?_; intro v2 WS hO2 hG2 hN2)))
    have HBS : Hid (Below w.heap.size w WS) := hid ((HB0.out.alloc HB0.out.size _).trans ((Upd.of_grown hG2).below (by have := HB0.out.size; simp; omega) (fun x hx => by cases hx)))
    have hO2' : WS.ownsRow w.heap.size 3 1 v2 1 (nums [o2]) := by simpa [nums] using hO2
    have HVS : Hid (∀ x, v2.ownBlock = some x → w.heap.size ≤ x ∧ x < WS.heap.size) := hid (fun x hx => hO2'.lt x hx)
    have HOS := hid hO2'
    have dd : ∀ o, WS.cell? ⟨jp, o, none⟩ = W0.cell? ⟨jp, o, none⟩ := fun o => (HBS.out.cell (p := ⟨jp, o, none⟩) hjl).trans (HB0.out.cell (p := ⟨jp, o, none⟩) hjl).symm
    have D1 := (dd 1).trans d1
    have D2 := (dd 2).trans d2
    have D3 := (dd 3).trans d3
    have D5 := (dd 5).trans d5
    have HAP : Hid (∀ (w4 : World) (v4 : Value), w4.ownsRow WS.heap.size 3 1 v4 (size - used) (nums (List.range' (first + used) (size - used))) → Below WS.heap.size WS w4 → ∃ v' w', (Builtin.append_ #[51, 51] 51 #[v2, v4]).run Tryz.prog w4 = .ok v' w' ∧ w'.ownsRow w.heap.size 3 1 v' ([o2] ++ List.range' (first + used) (size - used)).length (nums ([o2] ++ List.range' (first + used) (size - used))) ∧ Upd (fun x => v2.ownBlock = some x) w4 w') := hid (fun w4 v4 h1 h2 => by
      obtain ⟨v', w', hr, k1, k2⟩ := run_append_nums w4 51 w.heap.size WS.heap.size 1 (size - used) v2 v4 [o2] _ (own_below HOS.out h2) h1 (by omega) (Nat.le_trans HBS.out.size h2.size)
      exact ⟨v', w', hr, by rw [List.length_append, List.length_range']; exact k1, k2⟩)
    clear hO2 hG2 hN2 hO2' dd d1 d2 d3 d5 cF
    go_region_held3 (fun wx => wx.cell? ⟨jp, 1, none⟩ = some (.int .i64 gen) ∧ wx.cell? ⟨jp, 2, none⟩ = some (.int .i64 first) ∧ wx.cell? ⟨jp, 3, none⟩ = some (.int .i64 size) ∧ wx.cell? ⟨jp, 5, none⟩ = some (.int .i64 used)) (go_keep) (first | (go_at_call 62; refine (kb.out _).mono ?_; rintro r w4 ⟨v4, rfl, ho4, hb4⟩; have hb4' : Below WS.heap.size WS w4 := (below_drewN (Below.refl WS.heap.size WS) 1).trans hb4; obtain ⟨v6, w6, hr6, ho6, hu6⟩ := HAP.out w4 v4 (by exact ho4) hb4'; have HB6 : Hid (Below w.heap.size w w6) := hid ((HBS.out.trans (hb4'.mono HBS.out.size)).trans (hu6.below (Nat.le_trans HBS.out.size hb4'.size) (fun x hx => (HVS.out x hx).1))); have y4 : ∀ b o, b < w.heap.size → w4.cell? ⟨b, o, none⟩ = WS.cell? ⟨b, o, none⟩ := (fun b o hb => hb4'.cell (p := ⟨b, o, none⟩) (Nat.lt_of_lt_of_le hb HBS.out.size)); have y6 : ∀ b o, b < w.heap.size → w6.cell? ⟨b, o, none⟩ = WS.cell? ⟨b, o, none⟩ := (fun b o hb => ((HB6.out.cell (p := ⟨b, o, none⟩) hb).trans (HBS.out.cell (p := ⟨b, o, none⟩) hb).symm)); have HO6 := hid ho6; clear ho4 hb4 hb4' ho6 hu6) | (refine jstep_append_is rfl _ _ 51 51 rfl _ _ (by simp [Act.eval]) (by simp [Act.eval]) hr6 ?_))
    go_wp2_with fail
    go_ret
    exact ⟨v6, rfl, by rw [HLL.out]; exact HO6.out, HB6.out⟩
  · have h0v : ¬ (F : Int) = 0 := by omega
    rw [if_neg h0, List.nil_append] at HLL
    obtain ⟨WS, gWS⟩ : ∃ WS, WS = W0 := ⟨_, rfl⟩
    subst gWS
    have HBS : Hid (Below w.heap.size w WS) := HB0
    have HVS : Hid (∀ x, (Value.slice none 0 0).ownBlock = some x → w.heap.size ≤ x ∧ x < WS.heap.size) := hid (fun x hx => by simp [Value.ownBlock] at hx)
    have HAP : Hid (∀ (w4 : World) (v4 : Value), w4.ownsRow WS.heap.size 3 1 v4 (size - used) (nums (List.range' (first + used) (size - used))) → Below WS.heap.size WS w4 → ∃ v' w', (Builtin.append_ #[51, 51] 51 #[.slice none 0 0, v4]).run Tryz.prog w4 = .ok v' w' ∧ w'.ownsRow w.heap.size 3 1 v' (List.range' (first + used) (size - used)).length (nums (List.range' (first + used) (size - used))) ∧ Upd (fun x => (Value.slice none 0 0).ownBlock = some x) w4 w') := hid (fun w4 v4 h1 h2 => by
      obtain ⟨v', w', hr, k1, k2⟩ := run_append_nums w4 51 w.heap.size WS.heap.size 0 (size - used) (.slice none 0 0) v4 [] _ (World.ownsRow_nil _ _ _ _) h1 (by omega) (Nat.le_trans HBS.out.size h2.size)
      exact ⟨v', w', hr, by rw [List.length_range']; simpa using k1, k2⟩)
    go_upto_region 5 with (first | (go_at_call 82; refine (kh.out _).mono ?_; rintro r w1 ⟨rfl, h⟩; subst w1))
    go_region_held3 (fun wx => wx.cell? ⟨jp, 1, none⟩ = some (.int .i64 gen) ∧ wx.cell? ⟨jp, 2, none⟩ = some (.int .i64 first) ∧ wx.cell? ⟨jp, 3, none⟩ = some (.int .i64 size) ∧ wx.cell? ⟨jp, 5, none⟩ = some (.int .i64 used)) (go_keep) (first | (go_at_call 62; refine (kb.out _).mono ?_; rintro r w4 ⟨v4, rfl, ho4, hb4⟩; have hb4' : Below WS.heap.size WS w4 := (below_drewN (Below.refl WS.heap.size WS) 1).trans hb4; obtain ⟨v6, w6, hr6, ho6, hu6⟩ := HAP.out w4 v4 (by exact ho4) hb4'; have HB6 : Hid (Below w.heap.size w w6) := hid ((HBS.out.trans (hb4'.mono HBS.out.size)).trans (hu6.below (Nat.le_trans HBS.out.size hb4'.size) (fun x hx => (HVS.out x hx).1))); have y4 : ∀ b o, b < w.heap.size → w4.cell? ⟨b, o, none⟩ = WS.cell? ⟨b, o, none⟩ := (fun b o hb => hb4'.cell (p := ⟨b, o, none⟩) (Nat.lt_of_lt_of_le hb HBS.out.size)); have y6 : ∀ b o, b < w.heap.size → w6.cell? ⟨b, o, none⟩ = WS.cell? ⟨b, o, none⟩ := (fun b o hb => ((HB6.out.cell (p := ⟨b, o, none⟩) hb).trans (HBS.out.cell (p := ⟨b, o, none⟩) hb).symm)); have HO6 := hid ho6; clear ho4 hb4 hb4' ho6 hu6) | (refine jstep_append_is rfl _ _ 51 51 rfl _ _ (by simp [Act.eval]) (by simp [Act.eval]) hr6 ?_))
    go_wp2_with fail
    go_ret
    exact ⟨v6, rfl, by rw [HLL.out]; exact HO6.out, HB6.out⟩

end Go.Proofs.YtkmnhpnlkmiiiaaGreatDoor
