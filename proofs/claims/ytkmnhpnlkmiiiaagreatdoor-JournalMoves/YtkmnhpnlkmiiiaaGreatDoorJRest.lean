/- What journal's restore does. -/
import Derived.Test.YtkmnhpnlkmiiiaaGreatDoorJStart
import Derived.Test.YtkmnhpnlkmiiiaaGreatDoorJOpenS
namespace Go.Proofs.YtkmnhpnlkmiiiaaGreatDoor
open Go.RowKit Num Jr
set_option linter.unusedVariables false
set_option maxRecDepth 20000

/-- Records, in memory from B on, below m. -/
def RcsT (w : World) (B m : Nat) (v : Value) (L : List (List Int)) : Prop := ∃ us, w.ownsRow B 29 1 v L.length us ∧ (∀ k, v.ownBlock = some k → k < m) ∧ ∀ j, ∀ h : j < L.length, ∃ u, us[j]? = some u ∧ ∃ b c, u = .slice (some ⟨b, 0, none⟩) L[j].length c ∧ Src w (some ⟨b, 0, none⟩) L[j].length L[j] ∧ B ≤ b ∧ b < m ∧ b < w.heap.size ∧ L[j].length ≤ c ∧ c ≤ 9223372036854775807

theorem Rcs.top {w : World} {B : Nat} {v : Value} {L : List (List Int)} (h : Rcs w B v L) : RcsT w B w.heap.size v L := by
  obtain ⟨us, ho, hj⟩ := h
  refine ⟨us, ho, fun k hk => (ho.lt k hk).2, fun j hjl => ?_⟩
  obtain ⟨u, h1, b, c, e, h2, h3, h4, _, h6⟩ := hj j hjl
  exact ⟨u, h1, b, c, e, h2, h3, h4, h4, h6⟩

theorem RcsT.upd {w w' : World} {B m : Nat} {v : Value} {L : List (List Int)} {F : Nat → Prop} (h : RcsT w B m v L) (hu : Upd F w w') (hF : ∀ b, F b → b < B ∨ m ≤ b) : RcsT w' B m v L := by
  obtain ⟨us, ho, hm, hj⟩ := h
  refine ⟨us, hu.own ho (fun k hk hf => ?_), hm, fun j hjl => ?_⟩
  · have h1 := ho.lt k hk
    have h2 := hm k hk
    rcases hF k hf with h | h <;> omega
  · obtain ⟨u, h1, b, c, e, h2, h3, h4, h5, h6⟩ := hj j hjl
    refine ⟨u, h1, b, c, e, hu.src h2 (fun b' o' e' hb => ?_), h3, h4, Nat.lt_of_lt_of_le h5 hu.size, h6⟩
    simp only [Option.some.injEq, Addr.mk.injEq] at e'
    obtain ⟨rfl, _⟩ := e'
    rcases hF _ hb with h | h <;> omega

theorem RcsT.base {w : World} {B B' m : Nat} {v : Value} {L : List (List Int)} (h : RcsT w B' m v L) (hB : B ≤ B') : RcsT w B m v L := by
  obtain ⟨us, ho, hm, hj⟩ := h
  refine ⟨us, own_base ho hB, hm, fun j hjl => ?_⟩
  obtain ⟨u, h1, b, c, e, h2, h3, h4⟩ := hj j hjl
  exact ⟨u, h1, b, c, e, h2, Nat.le_trans hB h3, h4⟩

theorem RcsT.nil (w : World) (B m : Nat) : RcsT w B m (.slice none 0 0) [] := ⟨[], World.ownsRow_nil _ _ _ _, fun k hk => by simp [Value.ownBlock] at hk, fun j hj => absurd hj (by simp)⟩

theorem Jmove.front {d d1 : Dk} {w w0 w1 : World} {jp p n : Nat} {S1 : Nat → List Int} (hb : Below w.heap.size w w0) (h : Jmove d w0 d1 w1 jp p n S1) : Jmove d w d1 w1 jp p n S1 :=
  ⟨h.jd, h.rest, (Upd.of_below (F := fun x => x = jp ∨ x ∈ d.foot p) hb).trans h.upd (fun _ _ h => h), fun x hx => by
    rcases h.grew x hx with h | h
    · exact .inl h
    · exact .inr (Nat.le_trans hb.size h)⟩

/-- What restore leaves. -/
def RestP (d : Dk) (w : World) (jp p n cnt : Nat) (wv : Value) (S : Nat → List Int) (e : Ending) (w' : World) : Prop :=
  ∃ (v : Value) (d' : Dk) (m : Nat), e = .returned (.tuple #[v, .nilIface]) ∧ Jmove d w d' w' jp p n (openS n S) ∧ Jc w' jp p (openGen S) (firstOf (openGen S) n) (szOf n) (opened n S).2.1 (opened n S).2.2 wv cnt ∧ RcsT w' w.heap.size m v (opened n S).1 ∧ (∀ x ∈ d'.foot p, x < w.heap.size ∨ m ≤ x)

theorem found_set0 {w : World} {q : Nat} {a b : Int} (h : w.heap[q]? = some (.cells #[.int .i64 a, .int .i64 b] 117 (0, 0))) (x : Int) : (w.setCell ⟨q, 0, none⟩ (.int .i64 x)).heap[q]? = some (.cells #[.int .i64 x, .int .i64 b] 117 (0, 0)) := by
  rw [heap_setCell_same w q 0 _ _ _ h]; rfl
theorem found_set1 {w : World} {q : Nat} {a b : Int} (h : w.heap[q]? = some (.cells #[.int .i64 a, .int .i64 b] 117 (0, 0))) (x : Int) : (w.setCell ⟨q, 1, none⟩ (.int .i64 x)).heap[q]? = some (.cells #[.int .i64 a, .int .i64 x] 117 (0, 0)) := by
  rw [heap_setCell_same w q 1 _ _ _ h]; rfl

set_option maxHeartbeats 4000000 in
theorem restore_any (d : Dk) (jp p n cnt : Nat) (wv : Value) (S : Nat → List Int) (w : World) (hj : Jc w jp p 0 0 0 0 0 wv cnt) (J : Jd d w p n S) (hr : d.rest) (hjf : jp ∉ d.foot p) (hT : Tab w) (hjT : 1 ≠ jp) (hdT : 1 ∉ d.foot p) (hn4 : 4 ≤ n) :
    Calls Tryz.prog 52 #[.pointer (some ⟨jp, 0, none⟩)] w (RestP d w jp p n cnt wv S) := by
  have hn2 : n ≤ 2048 := by rw [← J.dn]; exact J.ok.n2
  have hjl : jp < w.heap.size := (Array.getElem?_eq_some_iff.1 hj).1
  have hTl : 1 < w.heap.size := World.block_lt_of_cell? _ _ (hT 0 (by omega))
  have kr := hid (fun (wx : World) (hb : Below w.heap.size w wx) (i : Nat) (hi : i < 2) => jread_any d p n i S wx (J.below hb) (by omega))
  obtain ⟨h0, gh0⟩ : ∃ h0, h0 = rightH (S 0) 0 := ⟨_, rfl⟩
  obtain ⟨h1, gh1⟩ : ∃ h1, h1 = rightH (S 1) 1 := ⟨_, rfl⟩
  have kq0 := hid (fun (wx : World) (hb : Below w.heap.size w wx) (b cap : Nat) (hs : Src wx (some ⟨b, 0, none⟩) 128 (S 0)) (hc : 128 ≤ cap) (hc2 : cap ≤ 9223372036854775807) => righthead_any b 0 cap 0 (S 0) wx hs (J.byt 0) (hT.below hb hTl) hc hc2 (by omega))
  have kq1 := hid (fun (wx : World) (hb : Below w.heap.size w wx) (b cap : Nat) (hs : Src wx (some ⟨b, 0, none⟩) 128 (S 1)) (hc : 128 ≤ cap) (hc2 : cap ≤ 9223372036854775807) => righthead_any b 0 cap 1 (S 1) wx hs (J.byt 1) (hT.below hb hTl) hc hc2 (by omega))
  rw [← gh0] at kq0
  rw [← gh1] at kq1
  have HJ := hid J
  have HR := hid hr
  have HT := hid hT
  have HJC := hid hj
  have HJF := hid hjf
  have HJT := hid hjT
  have HDT := hid hdT
  have GH0 := hid gh0
  have GH1 := hid gh1
  obtain ⟨W0, g0⟩ : ∃ W0, W0 = w.alloc (.cells #[.int .i64 0, .int .i64 0] 117) := ⟨_, rfl⟩
  have hb0 : Below w.heap.size w W0 := by rw [g0]; exact (Below.refl _ _).alloc (Nat.le_refl _) _
  have hbx0 : W0.heap[w.heap.size]? = some (.cells #[.int .i64 0, .int .i64 0] 117 (0, 0)) := by rw [g0]; exact heap_alloc_new _ _
  obtain ⟨q, gq⟩ : ∃ q, q = w.heap.size := ⟨_, rfl⟩
  rw [← gq] at hbx0
  have G0 := hid g0
  have GQ := hid gq
  have HB0 := hid hb0
  have HX0 := hid hbx0
  clear J hr hT hj hjf hjT hdT gh0 gh1 g0 gq hb0 hbx0
  go_enter Tryz.func52, Tryz.ntmps52
  go_upto_region 2 with fail
  rw [← G0.out, ← GQ.out]
  go_wp2_with fail
  go_loopw [11] (fun k wr => ∃ i : Nat, k = .int .i64 i ∧ i ≤ 2 ∧ Hid (wr.heap[q]? = some (.cells #[.int .i64 ((if 0 < i then h0 else 0 : Nat) : Int), .int .i64 ((if 1 < i then h1 else 0 : Nat) : Int)] 117 (0, 0))) ∧ Hid (Below w.heap.size w wr)) (fun k _ => 2 - (intOf k).toNat)
  case atStart => exact ⟨0, rfl, by omega, HX0, HB0⟩
  case round =>
    obtain ⟨i, rfl, hi2, HX, HB⟩ := hrel
    have d0 : wr.cell? ⟨jp, 0, none⟩ = some (.pointer (some ⟨p, 0, none⟩)) := (HB.out.cell (p := ⟨jp, 0, none⟩) hjl).trans (heap_cells HJC.out 0 _ rfl)
    rcases (show i = 0 ∨ i = 1 ∨ i = 2 by omega) with rfl | rfl | rfl
    · have hk := hid (kr.out wr HB.out 0 (by omega))
      go_wp2_with (first | (go_at_call 51; refine hk.out.mono ?_; rintro r w2 ⟨g2, c2, rfl, ho2, hb2⟩; have HBw : Hid (Below w.heap.size w w2) := hid (HB.out.trans (hb2.mono HB.out.size)); have hcap := own_cap ho2; have kz := hid (kq0.out w2 HBw.out g2 c2 (Src.own ho2) hcap.1 hcap.2); have HX2 : Hid (w2.heap[q]? = some (.cells #[.int .i64 0, .int .i64 0] 117 (0, 0))) := hid ((hb2.block q (Array.getElem?_eq_some_iff.1 HX.out).1).trans HX.out); clear ho2 hb2) | (go_at_call 66; refine kz.out.mono ?_; rintro r w3 ⟨rfl, hb3⟩; have HB3 : Hid (Below w.heap.size w w3) := hid (HBw.out.trans (hb3.mono HBw.out.size)); have hx3 : w3.heap[q]? = some (.cells #[.int .i64 0, .int .i64 0] 117 (0, 0)) := (hb3.block q (Array.getElem?_eq_some_iff.1 HX2.out).1).trans HX2.out; have e3 : w3.cell? ⟨q, 0, none⟩ = some (.int .i64 0) := heap_cells hx3 0 _ rfl; have f3 : w3.frozen? ⟨q, 0, none⟩ = false := frozen_of_row w3 q 0 _ _ hx3; have HX3 := hid hx3; clear hb3 hx3))
      have HF : Hid (Below w.heap.size w (w3.setCell ⟨q, 0, none⟩ (.int .i64 h0))) := hid (HB3.out.setCell (p := ⟨q, 0, none⟩) (by have := GQ.out; show w.heap.size ≤ q; omega) _)
      refine ⟨⟨1, rfl, by omega, hid (found_set0 HX3.out h0), HF⟩, by simp [intOf]⟩
    · have hk := hid (kr.out wr HB.out 1 (by omega))
      go_wp2_with (first | (go_at_call 51; refine hk.out.mono ?_; rintro r w2 ⟨g2, c2, rfl, ho2, hb2⟩; have HBw : Hid (Below w.heap.size w w2) := hid (HB.out.trans (hb2.mono HB.out.size)); have hcap := own_cap ho2; have kz := hid (kq1.out w2 HBw.out g2 c2 (Src.own ho2) hcap.1 hcap.2); have HX2 : Hid (w2.heap[q]? = some (.cells #[.int .i64 h0, .int .i64 0] 117 (0, 0))) := hid ((hb2.block q (Array.getElem?_eq_some_iff.1 HX.out).1).trans HX.out); clear ho2 hb2) | (go_at_call 66; refine kz.out.mono ?_; rintro r w3 ⟨rfl, hb3⟩; have HB3 : Hid (Below w.heap.size w w3) := hid (HBw.out.trans (hb3.mono HBw.out.size)); have hx3 : w3.heap[q]? = some (.cells #[.int .i64 h0, .int .i64 0] 117 (0, 0)) := (hb3.block q (Array.getElem?_eq_some_iff.1 HX2.out).1).trans HX2.out; have e3 : w3.cell? ⟨q, 1, none⟩ = some (.int .i64 0) := heap_cells hx3 1 _ rfl; have f3 : w3.frozen? ⟨q, 1, none⟩ = false := frozen_of_row w3 q 1 _ _ hx3; have HX3 := hid hx3; clear hb3 hx3))
      have HF : Hid (Below w.heap.size w (w3.setCell ⟨q, 1, none⟩ (.int .i64 h1))) := hid (HB3.out.setCell (p := ⟨q, 1, none⟩) (by have := GQ.out; show w.heap.size ≤ q; omega) _)
      refine ⟨⟨2, rfl, by omega, hid (found_set1 HX3.out h1), HF⟩, by simp [intOf]⟩
    · have hx : wr.heap[q]? = some (.cells #[.int .i64 h0, .int .i64 h1] 117 (0, 0)) := HX.out
      have x0 : wr.cell? ⟨q, 0, none⟩ = some (.int .i64 h0) := heap_cells hx 0 _ rfl
      have x1 : wr.cell? ⟨q, 1, none⟩ = some (.int .i64 h1) := heap_cells hx 1 _ rfl
      obtain ⟨N, gN⟩ : ∃ N, N = max h0 h1 := ⟨_, rfl⟩
      have hN : newest S = N := by rw [gN, GH0.out, GH1.out]; rfl
      have hcase : ((h0 : Int) < (h1 : Int) ∧ N = h1) ∨ (¬ (h0 : Int) < (h1 : Int) ∧ N = h0) := by rw [gN]; omega
      have HNW := hid hN
      have HXX := hid hx
      have HCS := hid hcase
      have hql : q < wr.heap.size := (Array.getElem?_eq_some_iff.1 hx).1
      clear hN hx gN HX hcase
      go_upto_region 10 with fail
      go_cut [8] (fun v8 wx => v8 = .int .i64 N ∧ wx = wr)
      case first =>
        rcases HCS.out with ⟨hlt, rfl⟩ | ⟨hlt, rfl⟩
        · go_wp2_with fail
          go_meet
          case rel => exact ⟨by first | rfl | (congr 1; omega), rfl⟩
        · go_wp2_with fail
          all_goals
            go_meet
            case rel => exact ⟨by first | rfl | (congr 1; omega), rfl⟩
      case rest =>
        obtain ⟨rfl, rfl⟩ := hcut
        by_cases hz : N = 0
        · subst hz
          have hjw : Jc wc jp p 0 0 0 0 0 wv cnt := (HB.out.block jp hjl).trans HJC.out
          have ks := hid (start_any d jp p n 0 0 0 cnt wv S wc hjw (HJ.out.below HB.out) HR.out HJF.out (HT.out.below HB.out hTl) HJT.out HDT.out hn4)
          have e1 : openS n S = upS (wipeS S (0 :: List.range' (firstOf 1 n) ((n - 2) / 2))) 1 (headB 1) := by unfold openS; rw [if_pos HNW.out]; rfl
          have e2 : openGen S = 1 := by unfold openGen; rw [if_pos HNW.out]
          have e3 : opened n S = ([], 0, 0) := by unfold opened; rw [if_pos HNW.out]
          have HE := hid (And.intro e1 (And.intro e2 e3))
          clear hjw e1 e2 e3
          go_wp2_with (first | (go_at_call 67; refine ks.out.mono ?_; rintro r w5 ⟨rfl, d5, hm5, hj5⟩; have HM5 := hid hm5; have HJ5 := hid hj5; clear hm5 hj5))
          go_ret2
          obtain ⟨e1, e2, e3⟩ := HE.out
          refine ⟨.slice none 0 0, d5, w.heap.size, rfl, ?_, ?_, ?_, fun x _ => by omega⟩
          · rw [e1]; exact HM5.out.front HB.out
          · rw [e2, e3]; exact HJ5.out
          · rw [e3]; exact RcsT.nil _ _ _
        · have hzv : ¬ (N : Int) = 0 := by omega
          have hN1 := (newest_mod S (by rw [HNW.out]; exact hz)).1
          rw [HNW.out] at hN1
          have e1 : openS n S = wipeS S (leftL N (firstOf N n) (szOf n) (opened n S).2.2 h0 h1) := by unfold openS; rw [if_neg (by rw [HNW.out]; exact hz), HNW.out, GH0.out, GH1.out]
          have e2 : openGen S = N := by unfold openGen; rw [if_neg (by rw [HNW.out]; exact hz), HNW.out]
          have e3 : opened n S = grps S (firstOf N n) N (szOf n) := by unfold opened; rw [if_neg (by rw [HNW.out]; exact hz), HNW.out]
          have hfs : firstOf N n + szOf n ≤ n := by
            unfold firstOf szOf
            have : N % 2 * ((n - 2) / 2) ≤ 1 * ((n - 2) / 2) := Nat.mul_le_mul_right _ (by omega)
            omega
          have hsz : szOf n = (n - 2) / 2 := rfl
          have ksec := hid (fun (wx : World) (hb : Below w.heap.size w wx) => dsectors d p wx (HJ.out.below hb).ok)
          rw [HJ.out.dn] at ksec
          have ka := hid (fun wx => areaof_any N n wx (by omega) (by omega) hn2)
          rw [← hsz] at ka
          obtain ⟨G, gG⟩ : ∃ G, G = opened n S := ⟨_, rfl⟩
          rw [← gG] at e1 e3
          obtain ⟨size, gsize⟩ : ∃ size, size = szOf n := ⟨_, rfl⟩
          obtain ⟨first, gfirst⟩ : ∃ first, first = firstOf N n := ⟨_, rfl⟩
          rw [← gsize, ← gfirst] at e1 e3 hfs ka
          have HE := hid (And.intro e1 (And.intro e2 e3))
          have GG := hid gG
          have GSZ := hid gsize
          have GF := hid gfirst
          clear e1 e2 e3 gG gsize gfirst hsz
          go_upto_region 14 with (first | (go_at_call 42; refine (ksec.out _ HB.out).mono ?_; rintro r w1 ⟨rfl, h⟩; subst w1) | (go_at_call 60; refine (ka.out _).mono ?_; rintro r w2 ⟨rfl, hb2⟩; have HB2 : Hid (Below w.heap.size w w2) := hid (HB.out.trans (hb2.mono HB.out.size)); have hJ2 : Jc w2 jp p 0 0 0 0 0 wv cnt := (HB2.out.block jp hjl).trans HJC.out; have HX2 : Hid (w2.heap[q]? = some (.cells #[.int .i64 h0, .int .i64 h1] 117 (0, 0))) := hid ((hb2.block q hql).trans HXX.out); have HTH := hid (there_of_block (C := [.pointer (some ⟨p, 0, none⟩), .int .i64 ((0 : Nat) : Int), .int .i64 ((0 : Nat) : Int), .int .i64 ((0 : Nat) : Int), .int .i64 ((0 : Nat) : Int), .int .i64 ((0 : Nat) : Int), wv, .int .i64 cnt]) hJ2 1 3 (by simp)); obtain ⟨W3, g3⟩ : ∃ W3, w2.setCells jp 1 [.int .i64 N, .int .i64 first, .int .i64 size] = W3 := ⟨_, rfl⟩; have HJ3 : Hid (Jc W3 jp p N first size 0 0 wv cnt) := hid (by rw [← g3]; exact hJ2.area N first size); have HU3 : Hid (Upd (· = jp) w W3) := hid (by rw [← g3]; exact (Upd.of_below (F := (· = jp)) HB2.out).trans (upd_setCells jp _ 1 w2) (fun _ _ h => h)); have HX3 : Hid (W3.heap[q]? = some (.cells #[.int .i64 h0, .int .i64 h1] 117 (0, 0))) := hid (by rw [← g3]; exact (upd_setCells jp _ 1 w2).heap HX2.out (by have := GQ.out; omega)); have G3 := hid g3; clear g3 hJ2 hb2) | (refine jstore_as rfl 57 (.tmp 51) (.tmp 49) rfl jp 1 #[.int .i64 N, .int .i64 first, .int .i64 size] rfl rfl HTH.out asize (by simp [Value.oneCell']) W3 G3.out ?_))
          have J3 : Jd d W3 p n S := HJ.out.upd HU3.out (fun k hk e => HJF.out (e ▸ hk))
          have hT3 : Tab W3 := HT.out.upd HU3.out HJT.out
          have kg := hid (readgroups_any d jp p n N first size cnt wv S W3 HJ3.out J3 HJF.out hT3 HJT.out hfs (by omega))
          have hw3 : w.heap.size ≤ W3.heap.size := HU3.out.size
          rw [← HE.out.2.2] at kg
          have hq3 : q < W3.heap.size := (Array.getElem?_eq_some_iff.1 HX3.out).1
          clear J3 hT3 ksec ka x0 x1 d0
          simp only [Act.put]
          go_upto_region 17 with (first | (go_at_call 68; refine kg.out.mono ?_; rintro r w5 ⟨v5, rfl, hC5, hJ5, hu5, hU5⟩; have HC5 := hid hC5; have HJ5 := hid hJ5; have HU5 := hid hU5; clear hC5 hJ5 hU5))
          have J5 : Jd d w5 p n S := HJ.out.upd (HU3.out.trans HU5.out (fun _ _ h => h)) (fun k hk e => HJF.out (e ▸ hk))
          have hx5 : w5.heap[q]? = some (.cells #[.int .i64 h0, .int .i64 h1] 117 (0, 0)) := HU5.out.heap HX3.out (by have := GQ.out; omega)
          have y0 : w5.cell? ⟨q, 0, none⟩ = some (.int .i64 h0) := heap_cells hx5 0 _ rfl
          have y1 : w5.cell? ⟨q, 1, none⟩ = some (.int .i64 h1) := heap_cells hx5 1 _ rfl
          have y2 : w5.cell? ⟨jp, 0, none⟩ = some (.pointer (some ⟨p, 0, none⟩)) := heap_cells HJ5.out 0 _ rfl
          have hw5 : W3.heap.size ≤ w5.heap.size := HU5.out.size
          have hq5 : q < w5.heap.size := Nat.lt_of_lt_of_le hq3 hw5
          have hj5 : jp < w5.heap.size := Nat.lt_of_lt_of_le hjl (Nat.le_trans hw3 hw5)
          have hqf : q ∉ d.foot p := fun hx => by have := HJ.out.ok.lt q hx; have := GQ.out; omega
          obtain ⟨LL, gLL⟩ : ∃ LL, LL = leftL N first size G.2.2 h0 h1 := ⟨_, rfl⟩
          have kl := hid (leftovers_any jp p N first size G.2.1 G.2.2 cnt h0 h1 wv w5.drew HJ5.out (by omega) (by omega) hu5 (by omega))
          rw [← gLL] at kl
          have hLL : ∀ i ∈ LL, i < n := fun i hi => by
            rw [gLL] at hi
            unfold leftL at hi
            rw [List.mem_append, List.mem_range'_1] at hi
            rcases hi with hi | hi
            · generalize (if (N + 1) % 2 = 0 then h0 else h1) = F at hi
              split at hi
              · simp at hi; omega
              · simp at hi
            · omega
          have kw : Hid (∀ (wx : World) (v6 : Value), Below w5.heap.size w5 wx → wx.ownsRow w5.heap.size 3 1 v6 LL.length (nums LL) → Calls Tryz.prog 61 #[.agg #[.pointer (some ⟨p, 0, none⟩)], v6] wx fun e w' => e = .returned .nilIface ∧ ∃ d', Jstep d wx d' w' p n (wipeS S LL) ∧ d'.rest) := hid (fun wx v6 hb ho => wipe_any d p n S v6 LL wx (J5.below hb) HR.out (own_base ho (Nat.zero_le _)) (fun k hk hx => by have h1 := (ho.lt k hk).1; have h2 := J5.ok.lt k hx; omega) hLL)
          have GLL := hid gLL
          have HJ5d := hid J5
          have HX5 := hid hx5
          have HQF := hid hqf
          have HD5 : Hid (Below w5.heap.size w5 w5.drew) := hid (below_drewN (Below.refl _ _) 1)
          clear gLL hLL J5 hx5 hqf kg
          go_region_held3 (fun wx => wx.cell? ⟨jp, 0, none⟩ = some (.pointer (some ⟨p, 0, none⟩)) ∧ wx.cell? ⟨q, 0, none⟩ = some (.int .i64 h0) ∧ wx.cell? ⟨q, 1, none⟩ = some (.int .i64 h1)) (go_keep) (first | (go_at_call 69; refine kl.out.mono ?_; rintro r w6 ⟨v6, rfl, ho6, hb6⟩; have HB6 : Hid (Below w5.heap.size w5 w6) := hid (HD5.out.trans hb6); have HO6 : Hid (w6.ownsRow w5.heap.size 3 1 v6 LL.length (nums LL)) := hid ho6; have z : ∀ b o, b < w5.heap.size → w6.cell? ⟨b, o, none⟩ = w5.cell? ⟨b, o, none⟩ := (fun b o hb => HB6.out.cell (p := ⟨b, o, none⟩) hb); clear ho6 hb6) | (go_at_call 61; refine (kw.out _ _ HB6.out HO6.out).mono ?_; rintro r w7 ⟨rfl, d7, hs7, hr7⟩; have HS7 := hid hs7; have HR7 := hid hr7; have z7 : w7.cell? ⟨jp, 0, none⟩ = some (.pointer (some ⟨p, 0, none⟩)) := (World.cell?_of_block (a := ⟨jp, 0, none⟩) (hs7.heap (Nat.lt_of_lt_of_le hj5 HB6.out.size) HJF.out)).trans ((z jp 0 hj5).trans y2); have z8 : w7.cell? ⟨q, 0, none⟩ = some (.int .i64 h0) := (World.cell?_of_block (a := ⟨q, 0, none⟩) (hs7.heap (Nat.lt_of_lt_of_le hq5 HB6.out.size) HQF.out)).trans ((z q 0 hq5).trans y0); have z9 : w7.cell? ⟨q, 1, none⟩ = some (.int .i64 h1) := (World.cell?_of_block (a := ⟨q, 1, none⟩) (hs7.heap (Nat.lt_of_lt_of_le hq5 HB6.out.size) HQF.out)).trans ((z q 1 hq5).trans y1); clear hs7 hr7))
          go_wp2_with fail
          go_ret2
          have hU5' : Upd (· = jp) w w5 := HU3.out.trans HU5.out (fun _ _ h => h)
          have hB6 := HB6.out
          have hs7 := HS7.out
          obtain ⟨e1, e2, e3⟩ := HE.out
          refine ⟨v5, d7, w5.heap.size, rfl, ⟨?_, HR7.out, ?_, ?_⟩, ?_, ?_, ?_⟩
          · rw [e1, ← GLL.out]; exact hs7.jd
          · exact ((hU5'.mono (fun _ _ h => .inl h)).trans (Upd.of_below (F := fun x => x = jp ∨ x ∈ d.foot p) hB6) (fun _ _ h => h)).trans hs7.upd (fun _ _ h => .inr h)
          · intro x hx
            rcases hs7.grew x hx with h | h
            · exact .inl h
            · exact .inr (by have := hB6.size; omega)
          · rw [e2, ← GF.out, ← GSZ.out, ← GG.out]
            exact (hs7.heap (Nat.lt_of_lt_of_le hj5 hB6.size) HJF.out).trans ((hB6.block jp hj5).trans HJ5.out)
          · rw [← GG.out]
            have hc := HC5.out.top.base hw3
            refine (hc.upd (Upd.of_below (F := fun _ => False) hB6) (fun _ h => h.elim)).upd hs7.upd (fun b hb => .inl (HJ.out.ok.lt b hb))
          · intro x hx
            rcases hs7.grew x hx with h | h
            · exact .inl (HJ.out.ok.lt x h)
            · exact .inr (Nat.le_trans hB6.size h)

end Go.Proofs.YtkmnhpnlkmiiiaaGreatDoor
