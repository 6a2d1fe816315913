/- The corpus and what it stands on, merged. -/
import Derived.Test.YtbgommpdmnbplaaGreatDoorCoA6

/- What journal's start does. -/
namespace Go.Proofs.YtbgommpdmnbplaaGreatDoor
open Go.RowKit Num Jr
set_option linter.unusedVariables false
set_option maxRecDepth 20000

/-- A step of a journal and its disk. -/
structure Jmove (d : Dk) (w : World) (d' : Dk) (w' : World) (jp p n : Nat) (S' : Nat → List Int) : Prop where
  jd : Jd d' w' p n S'
  rest : d'.rest
  upd : Upd (fun x => x = jp ∨ x ∈ d.foot p) w w'
  grew : Grew w (d.foot p) (d'.foot p)

theorem step_append_nums {ops : Array Oper} {o : Oper} {a : Act} {w : World} {K : Act → World → Prop} {Q : Exit → Act → World → Prop} {E : Prop}
    (hg : o.guard = none) (d x : Operand) (hop : o.op = Op.call { callee := Callee.builtin Builtin.append, args := #[d, x], argTypes := #[35, 35] })
    (v u : Value) (hd : a.eval d = v) (hx : a.eval x = u) (B B' n1 n2 : Nat) (l1 l2 : List Nat) (h1 : w.ownsRow B 3 1 v n1 (nums l1)) (h2 : w.ownsRow B' 3 1 u n2 (nums l2)) (hn : n1 + n2 ≤ 100000) (hB : B ≤ w.heap.size)
    (hK : ∀ v' w', Hid (w'.ownsRow B 3 1 v' (n1 + n2) (nums (l1 ++ l2))) → Hid (Upd (fun x => v.ownBlock = some x) w w') → K (a.put o.dst v') w') :
    if Region.wanted o (yielded ops a.tmps) = true then Oper.wp Tryz.prog o a w K Q else E := by
  obtain ⟨v', w', hr, k1, k2⟩ := run_append_nums w o.type B B' n1 n2 v u l1 l2 h1 h2 hn hB
  exact jstep_append_is hg d x 35 35 hop v u hd hx hr (hK v' w' k1 k2)

theorem Jc.area {w : World} {jp p gen first size groups used cnt : Nat} {wv : Value} (h : Jc w jp p gen first size groups used wv cnt) (a b c : Nat) : Jc (w.setCells jp 1 [.int .i64 a, .int .i64 b, .int .i64 c]) jp p a b c groups used wv cnt := by
  unfold Jc
  rw [heap_setCells jp 138 _ 1 w [.pointer (some ⟨p, 0, none⟩), .int .i64 gen, .int .i64 first, .int .i64 size, .int .i64 groups, .int .i64 used, wv, .int .i64 cnt] h (by simp)]
  simp [splice]

theorem made_one (W : World) (B k : Nat) (hB : B ≤ W.heap.size) : (W.alloc (.cells #[.int .i64 (k : Int)] 3)).ownsRow B 3 1 (.slice (some ⟨W.heap.size, 0, none⟩) 1 1) 1 (nums [k]) := by
  refine ⟨rfl, .inr ⟨W.heap.size, 1, #[.int .i64 (k : Int)], rfl, hB, heap_alloc_new W _, Nat.le_refl _, by unfold maxLen; omega, rfl, rfl⟩⟩

set_option maxHeartbeats 4000000 in
theorem start_any (d : Dk) (jp p n gen0 first0 size0 cnt : Nat) (wv : Value) (S : Nat → List Int) (w : World) (hj : Jc w jp p gen0 first0 size0 0 0 wv cnt) (J : Jd d w p n S) (hr : d.rest) (hjf : jp ∉ d.foot p) (hT : Tab w) (hjT : 1 ≠ jp) (hdT : 1 ∉ d.foot p) (hn4 : 4 ≤ n) :
    Calls Tryz.prog 135 #[.pointer (some ⟨jp, 0, none⟩)] w fun e w' => e = .returned .nilIface ∧ ∃ d', Jmove d w d' w' jp p n (upS (wipeS S (0 :: List.range' (firstOf 1 n) ((n - 2) / 2))) 1 (headB 1)) ∧ Jc w' jp p 1 (firstOf 1 n) ((n - 2) / 2) 0 0 wv cnt := by
  have hn2 : n ≤ 2048 := by rw [← J.dn]; exact J.ok.n2
  have hjl : jp < w.heap.size := (Array.getElem?_eq_some_iff.1 hj).1
  have ks := hid (fun (wx : World) (hb : Below w.heap.size w wx) => dsectors d p wx (J.below hb).ok)
  rw [J.dn] at ks
  have ka := hid (areaof_any 1 n w (by omega) (by omega) hn2)
  have hfs : firstOf 1 n + (n - 2) / 2 ≤ n := by unfold firstOf; omega
  have hf0 : firstOf 1 n ≤ 2048 := by omega
  obtain ⟨first, gfirst⟩ : ∃ first, first = firstOf 1 n := ⟨_, rfl⟩
  obtain ⟨size, gsize⟩ : ∃ size, size = (n - 2) / 2 := ⟨_, rfl⟩
  rw [← gfirst, ← gsize] at ka hfs
  rw [← gfirst, ← gsize]
  rw [← gfirst] at hf0
  have d0 : w.cell? ⟨jp, 0, none⟩ = some (.pointer (some ⟨p, 0, none⟩)) := heap_cells hj 0 _ rfl
  have HJ := hid J
  have HR := hid hr
  have HT := hid hT
  have HJC := hid hj
  have HJF := hid hjf
  have HJT := hid hjT
  have HDT := hid hdT
  clear J hr hT hj hjf hjT hdT gfirst gsize
  go_enter Tryz.func135, Tryz.ntmps135
  go_upto_region 2 with (first | (go_at_call 74; refine (ks.out _ (Below.refl _ _)).mono ?_; rintro r w1 ⟨rfl, h⟩; subst w1) | (go_at_call 136; refine ka.out.mono ?_; rintro r w2 ⟨rfl, hb2⟩; have HB2 := hid hb2; have hJ2 : Jc w2 jp p gen0 first0 size0 0 0 wv cnt := (hb2.block jp hjl).trans HJC.out; have HTH := hid (there_of_block (C := [.pointer (some ⟨p, 0, none⟩), .int .i64 gen0, .int .i64 first0, .int .i64 size0, .int .i64 ((0 : Nat) : Int), .int .i64 ((0 : Nat) : Int), wv, .int .i64 cnt]) hJ2 1 3 (by simp)); obtain ⟨W3, g3⟩ : ∃ W3, w2.setCells jp 1 [.int .i64 ((1 : Nat) : Int), .int .i64 first, .int .i64 size] = W3 := ⟨_, rfl⟩; have HJ3 : Hid (Jc W3 jp p 1 first size 0 0 wv cnt) := hid (by rw [← g3]; exact hJ2.area 1 first size); have HU3 : Hid (Upd (· = jp) w W3) := hid (by rw [← g3]; exact (Upd.of_below (F := (· = jp)) hb2).trans (upd_setCells jp _ 1 w2) (fun _ _ h => h)); have G3 := hid g3; clear g3 hJ2 hb2) | (refine jstore_as rfl 136 (.tmp 13) (.tmp 11) rfl jp 1 #[.int .i64 ((1 : Nat) : Int), .int .i64 first, .int .i64 size] rfl rfl HTH.out asize (by simp [Value.oneCell']) W3 G3.out ?_))
  have c0 : W3.cell? ⟨jp, 0, none⟩ = some (.pointer (some ⟨p, 0, none⟩)) := heap_cells HJ3.out 0 _ rfl
  have c1 : W3.cell? ⟨jp, 1, none⟩ = some (.int .i64 1) := heap_cells HJ3.out 1 _ rfl
  have c2 : W3.cell? ⟨jp, 2, none⟩ = some (.int .i64 first) := heap_cells HJ3.out 2 _ rfl
  have c3 : W3.cell? ⟨jp, 3, none⟩ = some (.int .i64 size) := heap_cells HJ3.out 3 _ rfl
  have J3 : Jd d W3 p n S := HJ.out.upd HU3.out (fun k hk e => HJF.out (e ▸ hk))
  have hj3 : jp < W3.heap.size := Nat.lt_of_lt_of_le hjl HU3.out.size
  have kh := hid (fun wx => headof_any 0 wx (by omega))
  have kb : Hid (∀ wx, Calls Tryz.prog 186 #[.agg #[.int .i64 1, .int .i64 first, .int .i64 size], .int .i64 0] wx fun e w' => ∃ v, e = .returned v ∧ w'.ownsRow wx.heap.size 3 1 v size (nums (List.range' first size)) ∧ Below wx.heap.size wx w') := hid (fun wx => behind_any 1 first size 0 wx (by omega) (by omega) (by omega))
  have kw : Hid (∀ (wx : World) (v6 : Value), Below W3.heap.size W3 wx → wx.ownsRow W3.heap.size 3 1 v6 (1 + size) (nums ([0] ++ List.range' first size)) → Calls Tryz.prog 138 #[.agg #[.pointer (some ⟨p, 0, none⟩)], v6] wx fun e w' => e = .returned .nilIface ∧ ∃ d', Jstep d wx d' w' p n (wipeS S (0 :: List.range' first size)) ∧ d'.rest) := hid (fun wx v6 hb ho => wipe_any d p n S v6 (0 :: List.range' first size) wx (J3.below hb) HR.out (own_base (by rw [List.length_cons, List.length_range', Nat.add_comm]; exact ho) (Nat.zero_le _)) (fun k hk hx => by have h1 := (ho.lt k hk).1; have h2 := J3.ok.lt k hx; omega) (fun i hi => by
    simp only [List.mem_cons, List.mem_range'_1] at hi
    omega))
  have HJ3d := hid J3
  have HD0 : Hid (Below W3.heap.size W3 W3.drew) := hid (below_drewN (Below.refl _ _) 1)
  have HDA : Hid (∀ ob, Below W3.heap.size W3 (W3.alloc ob).drew) := hid (fun ob => below_drewN ((Below.refl _ _).alloc (Nat.le_refl _) _) 1)
  clear ks ka d0 J3
  simp only [Act.put]
  go_cut [3] (fun v3 wx => v3 = .nilIface ∧ ∃ (w6 : World) (d6 : Dk), Hid (Below W3.heap.size W3 w6) ∧ Hid (Jstep d w6 d6 wx p n (wipeS S (0 :: List.range' first size)) ∧ d6.rest))
  case first =>
    go_region_law (first
      | (go_simp; go_at_call 184; refine (kh.out _).mono ?_; rintro r wh ⟨rfl, h⟩; subst wh)
      | (go_simp; go_at_call 186; refine (kb.out _).mono ?_; rintro r w4 ⟨v4, rfl, ho4, hb4⟩; have HB4 : Hid (Below W3.heap.size W3 w4) := (by first | exact hid (HD0.out.trans hb4) | exact hid ((HDA.out _).trans (hb4.mono (by simp)))); have HO4 : Hid (w4.ownsRow W3.heap.size 3 1 v4 size (nums (List.range' first size))) := (by first | exact hid ho4 | exact hid (own_base ho4 (by simp))); have hj4 : jp < w4.heap.size := Nat.lt_of_lt_of_le hj3 HB4.out.size; have y4 : ∀ o, w4.cell? ⟨jp, o, none⟩ = W3.cell? ⟨jp, o, none⟩ := (fun o => HB4.out.cell (p := ⟨jp, o, none⟩) hj3); have x0 := (y4 0).trans c0; have x1 := (y4 1).trans c1; have x2 := (y4 2).trans c2; have x3 := (y4 3).trans c3; first | (have HM : Hid (w4.ownsRow W3.heap.size 3 1 (.slice (some ⟨W3.heap.size, 0, none⟩) 1 1) 1 (nums [0])) := hid (own_below (w := (W3.alloc (.cells #[.int .i64 ((0 : Nat) : Int)] 3)).drew) (made_one W3 W3.heap.size 0 (Nat.le_refl _)) hb4)) | (have HM : Hid True := hid trivial); clear ho4 hb4 y4)
      | (refine step_append_nums (by rfl) _ _ (by rfl) _ _ (by simp [Act.eval]; rfl) (by simp [Act.eval]; rfl) W3.heap.size W3.heap.size 1 size [0] (List.range' first size) (by first | exact HM.out | exact made_one w4 W3.heap.size 0 HB4.out.size) (by first | exact HO4.out | exact HO4.out.alloc _) (by omega) (by first | exact HB4.out.size | exact Nat.le_trans HB4.out.size (by simp)) ?_; intro v6 w6 HO6 HU6; have HB6 : Hid (Below W3.heap.size W3 w6) := (by first | exact hid (HB4.out.trans (HU6.out.below HB4.out.size (fun x hx => (HM.out.lt x hx).1))) | exact hid ((HB4.out.alloc HB4.out.size _).trans (HU6.out.below (Nat.le_trans HB4.out.size (by simp)) (fun x hx => ((made_one w4 W3.heap.size 0 HB4.out.size).lt x hx).1)))); have z0 : w6.cell? ⟨jp, 0, none⟩ = some (.pointer (some ⟨p, 0, none⟩)) := (HB6.out.cell (p := ⟨jp, 0, none⟩) hj3).trans c0; have z1 : w6.cell? ⟨jp, 1, none⟩ = some (.int .i64 1) := (HB6.out.cell (p := ⟨jp, 1, none⟩) hj3).trans c1; have z2 : w6.cell? ⟨jp, 2, none⟩ = some (.int .i64 first) := (HB6.out.cell (p := ⟨jp, 2, none⟩) hj3).trans c2; have z3 : w6.cell? ⟨jp, 3, none⟩ = some (.int .i64 size) := (HB6.out.cell (p := ⟨jp, 3, none⟩) hj3).trans c3)
      | (go_simp; go_at_call 138; refine (kw.out _ _ HB6.out HO6.out).mono ?_; rintro r w7 ⟨rfl, d7, hs7, hr7⟩; have HS7 := hid (And.intro hs7 hr7); clear hs7 hr7))
    all_goals
      go_wp2_with fail
      go_meet
      case rel => exact ⟨rfl, w6, d7, HB6, HS7⟩
  case rest =>
    obtain ⟨rfl, w6, d6, HB6, HS6⟩ := hcut
    have J7 : Jd d6 wc p n (wipeS S (0 :: List.range' first size)) := HS6.out.1.jd
    have hjc : Jc wc jp p 1 first size 0 0 wv cnt := (HS6.out.1.heap (Nat.lt_of_lt_of_le hj3 HB6.out.size) HJF.out).trans ((HB6.out.block jp hj3).trans HJ3.out)
    have hU7 : Upd (fun x => x = jp ∨ x ∈ d.foot p) w wc := ((HU3.out.mono (fun x _ h => .inl h)).trans (Upd.of_below (F := fun x => x = jp ∨ x ∈ d.foot p) HB6.out) (fun _ _ h => h)).trans HS6.out.1.upd (fun _ _ h => .inr h)
    have hG7 : Grew w (d.foot p) (d6.foot p) := fun x hx => by
      rcases HS6.out.1.grew x hx with h | h
      · exact .inl h
      · exact .inr (Nat.le_trans HU3.out.size (Nat.le_trans HB6.out.size h))
    have hT7 : Tab wc := HT.out.upd hU7 (fun h => by
      rcases h with h | h
      · exact HJT.out h
      · exact HDT.out h)
    have k0 : wc.cell? ⟨jp, 0, none⟩ = some (.pointer (some ⟨p, 0, none⟩)) := heap_cells hjc 0 _ rfl
    have kd := hid (whead_any d6 p n 1 _ wc J7 (by omega) (by omega) hT7)
    have hjf7 : jp ∉ d6.foot p := fun hx => by
      rcases hG7 jp hx with h | h
      · exact HJF.out h
      · omega
    have HJC7 := hid hjc
    have HU7 := hid hU7
    have HG7 := hid hG7
    have HF7 := hid hjf7
    have hjl7 : jp < wc.heap.size := (Array.getElem?_eq_some_iff.1 hjc).1
    clear J7 hjc hU7 hG7 hT7 hjf7 c0 c1 c2 c3
    go_wp2_with (first | (go_at_call 187; refine kd.out.mono ?_; rintro r w8 ⟨rfl, d8, hs8, hr8⟩; have HS8 := hid hs8; have HR8 := hid hr8; clear hs8 hr8))
    go_ret
    refine ⟨rfl, d8, ⟨HS8.out.jd, HR8.out, ?_, ?_⟩, (HS8.out.heap hjl7 HF7.out).trans HJC7.out⟩
    · refine HU7.out.trans HS8.out.upd (fun x hx h => ?_)
      rcases HG7.out x h with h | h
      · exact .inr h
      · omega
    · exact HG7.out.comp HU7.out.size HS8.out.grew

end Go.Proofs.YtbgommpdmnbplaaGreatDoor
