/- The corpus and what it stands on, merged. -/
import Derived.Test.YtbgommpdmnbplaaGreatDoorCoA10
import Derived.Test.YtbgommpdmnbplaaGreatDoorCoA6
import Derived.Test.YtbgommpdmnbplaaGreatDoorCoA2
import Derived.Test.YtbgommpdmnbplaaGreatDoorCoA9
import Derived.OwnWalk

/- What journal's restore does. -/
namespace Go.Proofs.YtbgommpdmnbplaaGreatDoor
open Go.RowKit Num Jr
set_option linter.unusedVariables false
set_option maxRecDepth 20000

/-- Records, in memory from B on, below m. -/
def RcsT (w : World) (B m : Nat) (v : Value) (L : List (List Int)) : Prop := ∃ us, w.ownsRow B 81 1 v L.length us ∧ (∀ k, v.ownBlock = some k → k < m) ∧ ∀ j, ∀ h : j < L.length, ∃ u, us[j]? = some u ∧ ∃ b c, u = .slice (some ⟨b, 0, none⟩) L[j].length c ∧ Src w (some ⟨b, 0, none⟩) L[j].length L[j] ∧ B ≤ b ∧ b < m ∧ b < w.heap.size ∧ L[j].length ≤ c ∧ c ≤ 9223372036854775807

theorem Rcs.top {w : World} {B : Nat} {v : Value} {L : List (List Int)} (h : Rcs w B v L) : RcsT w B w.heap.size v L := by
  obtain ⟨us, ho, hj⟩ := h
  refine ⟨us, ho, fun k hk => (ho.lt k hk).2, fun j hjl => ?_⟩
  obtain ⟨u, h1, b, c, e, h2, h3, h4, _, h6⟩ := hj j hjl
  exact ⟨u, h1, b, c, e, h2, h3, h4, h4, h6⟩

theorem RcsT.upd {w w' : World} {B m : Nat} {v : Value} {L : List (List Int)} {F : Nat → Prop} (h : RcsT w B m v L) (hu : Upd F w w') (hF : ∀ b, F b → b < B ∨ m ≤ b) : RcsT w' B m v L := by
  obtain ⟨us, ho, hm, hj⟩ := h
  refine ⟨us, hu.own ho (fun k hk hf => ?_), hm, fun j hjl => ?_⟩
  · have h1 := ho.lt k hk
    have h2 := hm k hk
    rcases hF k hf with h | h <;> omega
  · obtain ⟨u, h1, b, c, e, h2, h3, h4, h5, h6⟩ := hj j hjl
    refine ⟨u, h1, b, c, e, hu.src h2 (fun b' o' e' hb => ?_), h3, h4, Nat.lt_of_lt_of_le h5 hu.size, h6⟩
    simp only [Option.some.injEq, Addr.mk.injEq] at e'
    obtain ⟨rfl, _⟩ := e'
    rcases hF _ hb with h | h <;> omega

theorem RcsT.base {w : World} {B B' m : Nat} {v : Value} {L : List (List Int)} (h : RcsT w B' m v L) (hB : B ≤ B') : RcsT w B m v L := by
  obtain ⟨us, ho, hm, hj⟩ := h
  refine ⟨us, own_base ho hB, hm, fun j hjl => ?_⟩
  obtain ⟨u, h1, b, c, e, h2, h3, h4⟩ := hj j hjl
  exact ⟨u, h1, b, c, e, h2, Nat.le_trans hB h3, h4⟩

theorem RcsT.nil (w : World) (B m : Nat) : RcsT w B m (.slice none 0 0) [] := ⟨[], World.ownsRow_nil _ _ _ _, fun k hk => by simp [Value.ownBlock] at hk, fun j hj => absurd hj (by simp)⟩

theorem Jmove.front {d d1 : Dk} {w w0 w1 : World} {jp p n : Nat} {S1 : Nat → List Int} (hb : Below w.heap.size w w0) (h : Jmove d w0 d1 w1 jp p n S1) : Jmove d w d1 w1 jp p n S1 :=
  ⟨h.jd, h.rest, (Upd.of_below (F := fun x => x = jp ∨ x ∈ d.foot p) hb).trans h.upd (fun _ _ h => h), fun x hx => by
    rcases h.grew x hx with h | h
    · exact .inl h
    · exact .inr (Nat.le_trans hb.size h)⟩

/-- What restore leaves. -/
def RestP (d : Dk) (w : World) (jp p n cnt : Nat) (wv : Value) (S : Nat → List Int) (e : Ending) (w' : World) : Prop :=
  ∃ (v : Value) (d' : Dk) (m : Nat), e = .returned (.tuple #[v, .nilIface]) ∧ Jmove d w d' w' jp p n (openS n S) ∧ Jc w' jp p (openGen S) (firstOf (openGen S) n) (szOf n) (opened n S).2.1 (opened n S).2.2 wv cnt ∧ RcsT w' w.heap.size m v (opened n S).1 ∧ (∀ x ∈ d'.foot p, x < w.heap.size ∨ m ≤ x)

theorem found_set0 {w : World} {q : Nat} {a b : Int} (h : w.heap[q]? = some (.cells #[.int .i64 a, .int .i64 b] 200 (0, 0))) (x : Int) : (w.setCell ⟨q, 0, none⟩ (.int .i64 x)).heap[q]? = some (.cells #[.int .i64 x, .int .i64 b] 200 (0, 0)) := by
  rw [heap_setCell_same w q 0 _ _ _ h]; rfl
theorem found_set1 {w : World} {q : Nat} {a b : Int} (h : w.heap[q]? = some (.cells #[.int .i64 a, .int .i64 b] 200 (0, 0))) (x : Int) : (w.setCell ⟨q, 1, none⟩ (.int .i64 x)).heap[q]? = some (.cells #[.int .i64 a, .int .i64 x] 200 (0, 0)) := by
  rw [heap_setCell_same w q 1 _ _ _ h]; rfl

set_option maxHeartbeats 4000000 in
theorem restore_any (d : Dk) (jp p n cnt : Nat) (wv : Value) (S : Nat → List Int) (w : World) (hj : Jc w jp p 0 0 0 0 0 wv cnt) (J : Jd d w p n S) (hr : d.rest) (hjf : jp ∉ d.foot p) (hT : Tab w) (hjT : 1 ≠ jp) (hdT : 1 ∉ d.foot p) (hn4 : 4 ≤ n) :
    Calls Tryz.prog 91 #[.pointer (some ⟨jp, 0, none⟩)] w (RestP d w jp p n cnt wv S) := by
  have hn2 : n ≤ 2048 := by rw [← J.dn]; exact J.ok.n2
  have hjl : jp < w.heap.size := (Array.getElem?_eq_some_iff.1 hj).1
  have hTl : 1 < w.heap.size := World.block_lt_of_cell? _ _ (hT 0 (by omega))
  have kr := hid (fun (wx : World) (hb : Below w.heap.size w wx) (i : Nat) (hi : i < 2) => jread_any d p n i S wx (J.below hb) (by omega))
  obtain ⟨h0, gh0⟩ : ∃ h0, h0 = rightH (S 0) 0 := ⟨_, rfl⟩
  obtain ⟨h1, gh1⟩ : ∃ h1, h1 = rightH (S 1) 1 := ⟨_, rfl⟩
  have kq0 := hid (fun (wx : World) (hb : Below w.heap.size w wx) (b cap : Nat) (hs : Src wx (some ⟨b, 0, none⟩) 128 (S 0)) (hc : 128 ≤ cap) (hc2 : cap ≤ 9223372036854775807) => righthead_any b 0 cap 0 (S 0) wx hs (J.byt 0) (hT.below hb hTl) hc hc2 (by omega))
  have kq1 := hid (fun (wx : World) (hb : Below w.heap.size w wx) (b cap : Nat) (hs : Src wx (some ⟨b, 0, none⟩) 128 (S 1)) (hc : 128 ≤ cap) (hc2 : cap ≤ 9223372036854775807) => righthead_any b 0 cap 1 (S 1) wx hs (J.byt 1) (hT.below hb hTl) hc hc2 (by omega))
  rw [← gh0] at kq0
  rw [← gh1] at kq1
  have HJ := hid J
  have HR := hid hr
  have HT := hid hT
  have HJC := hid hj
  have HJF := hid hjf
  have HJT := hid hjT
  have HDT := hid hdT
  have GH0 := hid gh0
  have GH1 := hid gh1
  obtain ⟨W0, g0⟩ : ∃ W0, W0 = w.alloc (.cells #[.int .i64 0, .int .i64 0] 200) := ⟨_, rfl⟩
  have hb0 : Below w.heap.size w W0 := by rw [g0]; exact (Below.refl _ _).alloc (Nat.le_refl _) _
  have hbx0 : W0.heap[w.heap.size]? = some (.cells #[.int .i64 0, .int .i64 0] 200 (0, 0)) := by rw [g0]; exact heap_alloc_new _ _
  obtain ⟨q, gq⟩ : ∃ q, q = w.heap.size := ⟨_, rfl⟩
  rw [← gq] at hbx0
  have G0 := hid g0
  have GQ := hid gq
  have HB0 := hid hb0
  have HX0 := hid hbx0
  clear J hr hT hj hjf hjT hdT gh0 gh1 g0 gq hb0 hbx0
  go_enter Tryz.func91, Tryz.ntmps91
  go_upto_region 2 with fail
  rw [← G0.out, ← GQ.out]
  go_wp2_with fail
  go_loopw [11] (fun k wr => ∃ i : Nat, k = .int .i64 i ∧ i ≤ 2 ∧ Hid (wr.heap[q]? = some (.cells #[.int .i64 ((if 0 < i then h0 else 0 : Nat) : Int), .int .i64 ((if 1 < i then h1 else 0 : Nat) : Int)] 200 (0, 0))) ∧ Hid (Below w.heap.size w wr)) (fun k _ => 2 - (intOf k).toNat)
  case atStart => exact ⟨0, rfl, by omega, HX0, HB0⟩
  case round =>
    obtain ⟨i, rfl, hi2, HX, HB⟩ := hrel
    have d0 : wr.cell? ⟨jp, 0, none⟩ = some (.pointer (some ⟨p, 0, none⟩)) := (HB.out.cell (p := ⟨jp, 0, none⟩) hjl).trans (heap_cells HJC.out 0 _ rfl)
    rcases (show i = 0 ∨ i = 1 ∨ i = 2 by omega) with rfl | rfl | rfl
    · have hk := hid (kr.out wr HB.out 0 (by omega))
      go_wp2_with (first | (go_at_call 89; refine hk.out.mono ?_; rintro r w2 ⟨g2, c2, rfl, ho2, hb2⟩; have HBw : Hid (Below w.heap.size w w2) := hid (HB.out.trans (hb2.mono HB.out.size)); have hcap := own_cap ho2; have kz := hid (kq0.out w2 HBw.out g2 c2 (Src.own ho2) hcap.1 hcap.2); have HX2 : Hid (w2.heap[q]? = some (.cells #[.int .i64 0, .int .i64 0] 200 (0, 0))) := hid ((hb2.block q (Array.getElem?_eq_some_iff.1 HX.out).1).trans HX.out); clear ho2 hb2) | (go_at_call 134; refine kz.out.mono ?_; rintro r w3 ⟨rfl, hb3⟩; have HB3 : Hid (Below w.heap.size w w3) := hid (HBw.out.trans (hb3.mono HBw.out.size)); have hx3 : w3.heap[q]? = some (.cells #[.int .i64 0, .int .i64 0] 200 (0, 0)) := (hb3.block q (Array.getElem?_eq_some_iff.1 HX2.out).1).trans HX2.out; have e3 : w3.cell? ⟨q, 0, none⟩ = some (.int .i64 0) := heap_cells hx3 0 _ rfl; have f3 : w3.frozen? ⟨q, 0, none⟩ = false := frozen_of_row w3 q 0 _ _ hx3; have HX3 := hid hx3; clear hb3 hx3))
      have HF : Hid (Below w.heap.size w (w3.setCell ⟨q, 0, none⟩ (.int .i64 h0))) := hid (HB3.out.setCell (p := ⟨q, 0, none⟩) (by have := GQ.out; show w.heap.size ≤ q; omega) _)
      refine ⟨⟨1, rfl, by omega, hid (found_set0 HX3.out h0), HF⟩, by simp [intOf]⟩
    · have hk := hid (kr.out wr HB.out 1 (by omega))
      go_wp2_with (first | (go_at_call 89; refine hk.out.mono ?_; rintro r w2 ⟨g2, c2, rfl, ho2, hb2⟩; have HBw : Hid (Below w.heap.size w w2) := hid (HB.out.trans (hb2.mono HB.out.size)); have hcap := own_cap ho2; have kz := hid (kq1.out w2 HBw.out g2 c2 (Src.own ho2) hcap.1 hcap.2); have HX2 : Hid (w2.heap[q]? = some (.cells #[.int .i64 h0, .int .i64 0] 200 (0, 0))) := hid ((hb2.block q (Array.getElem?_eq_some_iff.1 HX.out).1).trans HX.out); clear ho2 hb2) | (go_at_call 134; refine kz.out.mono ?_; rintro r w3 ⟨rfl, hb3⟩; have HB3 : Hid (Below w.heap.size w w3) := hid (HBw.out.trans (hb3.mono HBw.out.size)); have hx3 : w3.heap[q]? = some (.cells #[.int .i64 h0, .int .i64 0] 200 (0, 0)) := (hb3.block q (Array.getElem?_eq_some_iff.1 HX2.out).1).trans HX2.out; have e3 : w3.cell? ⟨q, 1, none⟩ = some (.int .i64 0) := heap_cells hx3 1 _ rfl; have f3 : w3.frozen? ⟨q, 1, none⟩ = false := frozen_of_row w3 q 1 _ _ hx3; have HX3 := hid hx3; clear hb3 hx3))
      have HF : Hid (Below w.heap.size w (w3.setCell ⟨q, 1, none⟩ (.int .i64 h1))) := hid (HB3.out.setCell (p := ⟨q, 1, none⟩) (by have := GQ.out; show w.heap.size ≤ q; omega) _)
      refine ⟨⟨2, rfl, by omega, hid (found_set1 HX3.out h1), HF⟩, by simp [intOf]⟩
    · have hx : wr.heap[q]? = some (.cells #[.int .i64 h0, .int .i64 h1] 200 (0, 0)) := HX.out
      have x0 : wr.cell? ⟨q, 0, none⟩ = some (.int .i64 h0) := heap_cells hx 0 _ rfl
      have x1 : wr.cell? ⟨q, 1, none⟩ = some (.int .i64 h1) := heap_cells hx 1 _ rfl
      obtain ⟨N, gN⟩ : ∃ N, N = max h0 h1 := ⟨_, rfl⟩
      have hN : newest S = N := by rw [gN, GH0.out, GH1.out]; rfl
      have hcase : ((h0 : Int) < (h1 : Int) ∧ N = h1) ∨ (¬ (h0 : Int) < (h1 : Int) ∧ N = h0) := by rw [gN]; omega
      have HNW := hid hN
      have HXX := hid hx
      have HCS := hid hcase
      have hql : q < wr.heap.size := (Array.getElem?_eq_some_iff.1 hx).1
      clear hN hx gN HX hcase
      go_upto_region 10 with fail
      go_cut [8] (fun v8 wx => v8 = .int .i64 N ∧ wx = wr)
      case first =>
        rcases HCS.out with ⟨hlt, rfl⟩ | ⟨hlt, rfl⟩
        · go_wp2_with fail
          go_meet
          case rel => exact ⟨by first | rfl | (congr 1; omega), rfl⟩
        · go_wp2_with fail
          all_goals
            go_meet
            case rel => exact ⟨by first | rfl | (congr 1; omega), rfl⟩
      case rest =>
        obtain ⟨rfl, rfl⟩ := hcut
        by_cases hz : N = 0
        · subst hz
          have hjw : Jc wc jp p 0 0 0 0 0 wv cnt := (HB.out.block jp hjl).trans HJC.out
          have ks := hid (start_any d jp p n 0 0 0 cnt wv S wc hjw (HJ.out.below HB.out) HR.out HJF.out (HT.out.below HB.out hTl) HJT.out HDT.out hn4)
          have e1 : openS n S = upS (wipeS S (0 :: List.range' (firstOf 1 n) ((n - 2) / 2))) 1 (headB 1) := by unfold openS; rw [if_pos HNW.out]; rfl
          have e2 : openGen S = 1 := by unfold openGen; rw [if_pos HNW.out]
          have e3 : opened n S = ([], 0, 0) := by unfold opened; rw [if_pos HNW.out]
          have HE := hid (And.intro e1 (And.intro e2 e3))
          clear hjw e1 e2 e3
          go_wp2_with (first | (go_at_call 135; refine ks.out.mono ?_; rintro r w5 ⟨rfl, d5, hm5, hj5⟩; have HM5 := hid hm5; have HJ5 := hid hj5; clear hm5 hj5))
          go_ret2
          obtain ⟨e1, e2, e3⟩ := HE.out
          refine ⟨.slice none 0 0, d5, w.heap.size, rfl, ?_, ?_, ?_, fun x _ => by omega⟩
          · rw [e1]; exact HM5.out.front HB.out
          · rw [e2, e3]; exact HJ5.out
          · rw [e3]; exact RcsT.nil _ _ _
        · have hzv : ¬ (N : Int) = 0 := by omega
          have hN1 := (newest_mod S (by rw [HNW.out]; exact hz)).1
          rw [HNW.out] at hN1
          have e1 : openS n S = wipeS S (leftL N (firstOf N n) (szOf n) (opened n S).2.2 h0 h1) := by unfold openS; rw [if_neg (by rw [HNW.out]; exact hz), HNW.out, GH0.out, GH1.out]
          have e2 : openGen S = N := by unfold openGen; rw [if_neg (by rw [HNW.out]; exact hz), HNW.out]
          have e3 : opened n S = grps S (firstOf N n) N (szOf n) := by unfold opened; rw [if_neg (by rw [HNW.out]; exact hz), HNW.out]
          have hfs : firstOf N n + szOf n ≤ n := by
            unfold firstOf szOf
            have : N % 2 * ((n - 2) / 2) ≤ 1 * ((n - 2) / 2) := Nat.mul_le_mul_right _ (by omega)
            omega
          have hsz : szOf n = (n - 2) / 2 := rfl
          have ksec := hid (fun (wx : World) (hb : Below w.heap.size w wx) => dsectors d p wx (HJ.out.below hb).ok)
          rw [HJ.out.dn] at ksec
          have ka := hid (fun wx => areaof_any N n wx (by omega) (by omega) hn2)
          rw [← hsz] at ka
          obtain ⟨G, gG⟩ : ∃ G, G = opened n S := ⟨_, rfl⟩
          rw [← gG] at e1 e3
          obtain ⟨size, gsize⟩ : ∃ size, size = szOf n := ⟨_, rfl⟩
          obtain ⟨first, gfirst⟩ : ∃ first, first = firstOf N n := ⟨_, rfl⟩
          rw [← gsize, ← gfirst] at e1 e3 hfs ka
          have HE := hid (And.intro e1 (And.intro e2 e3))
          have GG := hid gG
          have GSZ := hid gsize
          have GF := hid gfirst
          clear e1 e2 e3 gG gsize gfirst hsz
          go_upto_region 14 with (first | (go_at_call 74; refine (ksec.out _ HB.out).mono ?_; rintro r w1 ⟨rfl, h⟩; subst w1) | (go_at_call 136; refine (ka.out _).mono ?_; rintro r w2 ⟨rfl, hb2⟩; have HB2 : Hid (Below w.heap.size w w2) := hid (HB.out.trans (hb2.mono HB.out.size)); have hJ2 : Jc w2 jp p 0 0 0 0 0 wv cnt := (HB2.out.block jp hjl).trans HJC.out; have HX2 : Hid (w2.heap[q]? = some (.cells #[.int .i64 h0, .int .i64 h1] 200 (0, 0))) := hid ((hb2.block q hql).trans HXX.out); have HTH := hid (there_of_block (C := [.pointer (some ⟨p, 0, none⟩), .int .i64 ((0 : Nat) : Int), .int .i64 ((0 : Nat) : Int), .int .i64 ((0 : Nat) : Int), .int .i64 ((0 : Nat) : Int), .int .i64 ((0 : Nat) : Int), wv, .int .i64 cnt]) hJ2 1 3 (by simp)); obtain ⟨W3, g3⟩ : ∃ W3, w2.setCells jp 1 [.int .i64 N, .int .i64 first, .int .i64 size] = W3 := ⟨_, rfl⟩; have HJ3 : Hid (Jc W3 jp p N first size 0 0 wv cnt) := hid (by rw [← g3]; exact hJ2.area N first size); have HU3 : Hid (Upd (· = jp) w W3) := hid (by rw [← g3]; exact (Upd.of_below (F := (· = jp)) HB2.out).trans (upd_setCells jp _ 1 w2) (fun _ _ h => h)); have HX3 : Hid (W3.heap[q]? = some (.cells #[.int .i64 h0, .int .i64 h1] 200 (0, 0))) := hid (by rw [← g3]; exact (upd_setCells jp _ 1 w2).heap HX2.out (by have := GQ.out; omega)); have G3 := hid g3; clear g3 hJ2 hb2) | (refine jstore_as rfl 136 (.tmp 51) (.tmp 49) rfl jp 1 #[.int .i64 N, .int .i64 first, .int .i64 size] rfl rfl HTH.out asize (by simp [Value.oneCell']) W3 G3.out ?_))
          have J3 : Jd d W3 p n S := HJ.out.upd HU3.out (fun k hk e => HJF.out (e ▸ hk))
          have hT3 : Tab W3 := HT.out.upd HU3.out HJT.out
          have kg := hid (readgroups_any d jp p n N first size cnt wv S W3 HJ3.out J3 HJF.out hT3 HJT.out hfs (by omega))
          have hw3 : w.heap.size ≤ W3.heap.size := HU3.out.size
          rw [← HE.out.2.2] at kg
          have hq3 : q < W3.heap.size := (Array.getElem?_eq_some_iff.1 HX3.out).1
          clear J3 hT3 ksec ka x0 x1 d0
          simp only [Act.put]
          go_upto_region 17 with (first | (go_at_call 137; refine kg.out.mono ?_; rintro r w5 ⟨v5, rfl, hC5, hJ5, hu5, hU5⟩; have HC5 := hid hC5; have HJ5 := hid hJ5; have HU5 := hid hU5; clear hC5 hJ5 hU5))
          have J5 : Jd d w5 p n S := HJ.out.upd (HU3.out.trans HU5.out (fun _ _ h => h)) (fun k hk e => HJF.out (e ▸ hk))
          have hx5 : w5.heap[q]? = some (.cells #[.int .i64 h0, .int .i64 h1] 200 (0, 0)) := HU5.out.heap HX3.out (by have := GQ.out; omega)
          have y0 : w5.cell? ⟨q, 0, none⟩ = some (.int .i64 h0) := heap_cells hx5 0 _ rfl
          have y1 : w5.cell? ⟨q, 1, none⟩ = some (.int .i64 h1) := heap_cells hx5 1 _ rfl
          have y2 : w5.cell? ⟨jp, 0, none⟩ = some (.pointer (some ⟨p, 0, none⟩)) := heap_cells HJ5.out 0 _ rfl
          have hw5 : W3.heap.size ≤ w5.heap.size := HU5.out.size
          have hq5 : q < w5.heap.size := Nat.lt_of_lt_of_le hq3 hw5
          have hj5 : jp < w5.heap.size := Nat.lt_of_lt_of_le hjl (Nat.le_trans hw3 hw5)
          have hqf : q ∉ d.foot p := fun hx => by have := HJ.out.ok.lt q hx; have := GQ.out; omega
          obtain ⟨LL, gLL⟩ : ∃ LL, LL = leftL N first size G.2.2 h0 h1 := ⟨_, rfl⟩
          have kl := hid (leftovers_any jp p N first size G.2.1 G.2.2 cnt h0 h1 wv w5.drew HJ5.out (by omega) (by omega) hu5 (by omega))
          rw [← gLL] at kl
          have hLL : ∀ i ∈ LL, i < n := fun i hi => by
            rw [gLL] at hi
            unfold leftL at hi
            rw [List.mem_append, List.mem_range'_1] at hi
            rcases hi with hi | hi
            · generalize (if (N + 1) % 2 = 0 then h0 else h1) = F at hi
              split at hi
              · simp at hi; omega
              · simp at hi
            · omega
          have kw : Hid (∀ (wx : World) (v6 : Value), Below w5.heap.size w5 wx → wx.ownsRow w5.heap.size 3 1 v6 LL.length (nums LL) → Calls Tryz.prog 138 #[.agg #[.pointer (some ⟨p, 0, none⟩)], v6] wx fun e w' => e = .returned .nilIface ∧ ∃ d', Jstep d wx d' w' p n (wipeS S LL) ∧ d'.rest) := hid (fun wx v6 hb ho => wipe_any d p n S v6 LL wx (J5.below hb) HR.out (own_base ho (Nat.zero_le _)) (fun k hk hx => by have h1 := (ho.lt k hk).1; have h2 := J5.ok.lt k hx; omega) hLL)
          have GLL := hid gLL
          have HJ5d := hid J5
          have HX5 := hid hx5
          have HQF := hid hqf
          have HD5 : Hid (Below w5.heap.size w5 w5.drew) := hid (below_drewN (Below.refl _ _) 1)
          clear gLL hLL J5 hx5 hqf kg
          go_region_held3 (fun wx => wx.cell? ⟨jp, 0, none⟩ = some (.pointer (some ⟨p, 0, none⟩)) ∧ wx.cell? ⟨q, 0, none⟩ = some (.int .i64 h0) ∧ wx.cell? ⟨q, 1, none⟩ = some (.int .i64 h1)) (go_keep) (first | (go_at_call 139; refine kl.out.mono ?_; rintro r w6 ⟨v6, rfl, ho6, hb6⟩; have HB6 : Hid (Below w5.heap.size w5 w6) := hid (HD5.out.trans hb6); have HO6 : Hid (w6.ownsRow w5.heap.size 3 1 v6 LL.length (nums LL)) := hid ho6; have z : ∀ b o, b < w5.heap.size → w6.cell? ⟨b, o, none⟩ = w5.cell? ⟨b, o, none⟩ := (fun b o hb => HB6.out.cell (p := ⟨b, o, none⟩) hb); clear ho6 hb6) | (go_at_call 138; refine (kw.out _ _ HB6.out HO6.out).mono ?_; rintro r w7 ⟨rfl, d7, hs7, hr7⟩; have HS7 := hid hs7; have HR7 := hid hr7; have z7 : w7.cell? ⟨jp, 0, none⟩ = some (.pointer (some ⟨p, 0, none⟩)) := (World.cell?_of_block (a := ⟨jp, 0, none⟩) (hs7.heap (Nat.lt_of_lt_of_le hj5 HB6.out.size) HJF.out)).trans ((z jp 0 hj5).trans y2); have z8 : w7.cell? ⟨q, 0, none⟩ = some (.int .i64 h0) := (World.cell?_of_block (a := ⟨q, 0, none⟩) (hs7.heap (Nat.lt_of_lt_of_le hq5 HB6.out.size) HQF.out)).trans ((z q 0 hq5).trans y0); have z9 : w7.cell? ⟨q, 1, none⟩ = some (.int .i64 h1) := (World.cell?_of_block (a := ⟨q, 1, none⟩) (hs7.heap (Nat.lt_of_lt_of_le hq5 HB6.out.size) HQF.out)).trans ((z q 1 hq5).trans y1); clear hs7 hr7))
          go_wp2_with fail
          go_ret2
          have hU5' : Upd (· = jp) w w5 := HU3.out.trans HU5.out (fun _ _ h => h)
          have hB6 := HB6.out
          have hs7 := HS7.out
          obtain ⟨e1, e2, e3⟩ := HE.out
          refine ⟨v5, d7, w5.heap.size, rfl, ⟨?_, HR7.out, ?_, ?_⟩, ?_, ?_, ?_⟩
          · rw [e1, ← GLL.out]; exact hs7.jd
          · exact ((hU5'.mono (fun _ _ h => .inl h)).trans (Upd.of_below (F := fun x => x = jp ∨ x ∈ d.foot p) hB6) (fun _ _ h => h)).trans hs7.upd (fun _ _ h => .inr h)
          · intro x hx
            rcases hs7.grew x hx with h | h
            · exact .inl h
            · exact .inr (by have := hB6.size; omega)
          · rw [e2, ← GF.out, ← GSZ.out, ← GG.out]
            exact (hs7.heap (Nat.lt_of_lt_of_le hj5 hB6.size) HJF.out).trans ((hB6.block jp hj5).trans HJ5.out)
          · rw [← GG.out]
            have hc := HC5.out.top.base hw3
            refine (hc.upd (Upd.of_below (F := fun _ => False) hB6) (fun _ h => h.elim)).upd hs7.upd (fun b hb => .inl (HJ.out.ok.lt b hb))
          · intro x hx
            rcases hs7.grew x hx with h | h
            · exact .inl (HJ.out.ok.lt x h)
            · exact .inr (Nat.le_trans hB6.size h)

end Go.Proofs.YtbgommpdmnbplaaGreatDoor

/- What slices.Clone of writes and disk.copied do: epochs in memory of their own. -/
namespace Go.Proofs.YtbgommpdmnbplaaGreatDoor
open Go.RowKit
set_option linter.unusedVariables false

set_option maxHeartbeats 1000000 in
set_option maxRecDepth 20000 in
theorem sentclone_any (v : Value) (n : Nat) (xs : List Value) (w : World) (hown : w.ownsRow 0 120 2 v n xs) (hn : n ≤ 4096) (h1 : ∀ u ∈ xs, u.oneCell' = true) :
    Calls Tryz.prog 126 #[v] w fun e w' => ∃ v', e = .returned v' ∧ w'.ownsRow 0 120 2 v' n xs ∧ (∀ x, v'.ownBlock = some x → w.heap.size ≤ x) ∧ Below w.heap.size w w' := by
  obtain ⟨i0, hi, hz0, hz1, hz2⟩ := info_parts Tryz.infoSE
  rcases hown.2 with ⟨rfl, rfl⟩ | ⟨g, c, cur, rfl, _, hg, hnc, hcm, hcs, htake⟩
  · have hq := Lib.run_eql_slice_nil (P := Tryz.prog) w 110 120 none 0 0 0 0 Tryz.underlying110
    simp only [Option.isNone_none] at hq
    have HO := hid hown
    clear hown
    go_enter Tryz.func126, Tryz.ntmps126
    go_wp2
    go_ret
    exact ⟨_, rfl, HO.out, fun x hx => by simp [Value.ownBlock] at hx, Below.refl _ _⟩
  · have hb0 : Below w.heap.size w (w.alloc (.cells #[] 120)) := (Below.refl _ _).alloc (Nat.le_refl _) _
    have HL : Hid (xs.length = n * 2) := hown.1
    have H1 := hid h1
    have HN : Hid (∀ j u, xs[j]? = some u → (w.alloc (.cells #[] 120)).cell? ((⟨g, 0, none⟩ : Addr).add j) = some u) := by
      intro j u hj
      rw [Addr.add_lit, Nat.zero_add, hb0.cell (p := ⟨g, j, none⟩) (hown.lt g rfl).2]
      refine heap_cells hg j u ?_
      rw [← htake, List.getElem?_take] at hj
      split at hj
      · exact hj
      · cases hj
    have HO : Hid ((w.alloc (.cells #[] 120)).ownsRow w.heap.size 120 2 (.slice (some ⟨w.heap.size, 0, none⟩) 0 0) 0 []) := World.ownsRow_made w #[] 0 (Nat.le_refl _) (by unfold maxLen; omega) rfl
    have HB := hid hb0
    have hc63 : c ≤ 9223372036854775807 := by unfold maxLen at hcm; omega
    have hq := Lib.run_eql_slice_nil (P := Tryz.prog) w 110 120 (some ⟨g, 0, none⟩) n c 0 0 Tryz.underlying110
    simp only [Option.isNone_some] at hq
    clear hown hb0 h1 hg htake
    go_enter Tryz.func126, Tryz.ntmps126
    go_wp2_with (at_builtin; go_must (refine wpList_append_own _ rfl (.tmp 5) (.tmp 6) 110 rfl w.heap.size 120 i0 _ 2 32 Tryz.underlying110 hi hz0 hz1 hz2 rfl (by decide) (.slice (some ⟨w.heap.size, 0, none⟩) 0 0) 0 [] rfl HO.out ⟨g, 0, none⟩ n c xs rfl HL.out HN.out H1.out (by unfold maxLen; omega) (by omega) (by simp) ?_))
    intro v' w1 hown hgrow hnil
    have hb1 := HB.out.grown hgrow (by simp) (by intro q hq; simp [Value.ownBlock] at hq; omega)
    have HW := hid hown
    clear hown hgrow hnil
    go_wp2_with fail
    go_ret
    have h := HW.out
    exact ⟨_, rfl, own_base h (Nat.zero_le _), fun x hx => (h.lt x hx).1, hb1⟩

/-- The inner loop: so many writes of an epoch have bytes of their own. -/
structure Half (w2 wr : World) (vi : Value) (es T : List Snt) (j : Nat) : Prop where
  len : T.length = j
  row : wr.ownsRow 0 120 2 vi es.length (sentCells (T ++ es.drop j))
  ok : ∀ s ∈ T, s.ok wr
  ab : T.map Snt.ab = (es.take j).map Snt.ab
  nodup : (T.map Snt.blk).Nodup
  new : ∀ x ∈ T.map Snt.blk, w2.heap.size ≤ x
  upd : Upd (fun x => vi.ownBlock = some x) w2 wr

theorem sentCells_set (A B : List Snt) (s : Snt) (b cap : Nat) : (sentCells (A ++ s :: B)).set (A.length * 2 + 1) (.slice (some ⟨b, 0, none⟩) 128 cap) = sentCells ((A ++ [{ s with blk := b, cap := cap }]) ++ B) := by
  have h1 : sentCells (A ++ s :: B) = sentCells A ++ (.int .i64 s.sec :: s.val :: sentCells B) := by simp [sentCells]
  have h2 : sentCells ((A ++ [{ s with blk := b, cap := cap }]) ++ B) = sentCells A ++ (.int .i64 s.sec :: .slice (some ⟨b, 0, none⟩) 128 cap :: sentCells B) := by simp [sentCells, Snt.val]
  rw [h1, h2, List.set_append, if_neg (by rw [sentCells_len]; omega), sentCells_len]
  rw [show A.length * 2 + 1 - A.length * 2 = 1 by omega]
  rfl

theorem Half.step {w2 wr w3 : World} {vi : Value} {es T : List Snt} {j gi ci gb cb : Nat} (h : Half w2 wr vi es T j) (hj : j < es.length) (hvi : vi = .slice (some ⟨gi, 0, none⟩) es.length ci) (hb : Below wr.heap.size wr w3) (hgi : gi < w2.heap.size)
    (hgb : wr.heap.size ≤ gb) (hown : w3.ownsRow 0 5 1 (.slice (some ⟨gb, 0, none⟩) 128 cb) 128 (es[j].bs.map (Value.int .u8))) (hbl : es[j].bs.length = 128) :
    Half w2 (w3.setCell ⟨gi, j * 2 + 1, none⟩ (.slice (some ⟨gb, 0, none⟩) 128 cb)) vi es (T ++ [{ es[j] with blk := gb, cap := cb }]) (j + 1) := by
  have hrow3 := own_below h.row hb
  rw [hvi] at hrow3
  have hst := hrow3.stored (j * 2 + 1) (.slice (some ⟨gb, 0, none⟩) 128 cb)
  have hd : es.drop j = es[j] :: es.drop (j + 1) := (List.drop_eq_getElem_cons hj)
  have hset : (sentCells (T ++ es.drop j)).set (j * 2 + 1) (.slice (some ⟨gb, 0, none⟩) 128 cb) = sentCells ((T ++ [{ es[j] with blk := gb, cap := cb }]) ++ es.drop (j + 1)) := by
    have h9 := sentCells_set T (es.drop (j + 1)) es[j] gb cb
    rw [h.len] at h9
    rw [hd]
    exact h9
  have hU : Upd (· = gi) w3 (w3.setCell ⟨gi, j * 2 + 1, none⟩ (.slice (some ⟨gb, 0, none⟩) 128 cb)) := Upd.setCell w3 _ _ rfl
  have hsz := h.upd.size
  refine ⟨by simp [h.len], ?_, fun s hs => ?_, ?_, ?_, ?_, ?_⟩
  · rw [hvi, ← hset]; exact hst.1
  · rcases List.mem_append.1 hs with hs | hs
    · have hlt := (h.ok s hs).lt
      have hne : s.blk ≠ gi := by
        intro e
        have h1 := h.new s.blk (List.mem_map.2 ⟨s, hs, rfl⟩)
        omega
      refine (h.ok s hs).frame ((hU.block _ (Nat.lt_of_lt_of_le hlt hb.size) hne).trans (hb.block _ hlt))
    · simp at hs
      subst hs
      refine ⟨hbl, hU.own hown (fun x hx e => ?_)⟩
      simp [Value.ownBlock, Snt.val] at hx
      omega
  · rw [List.map_append, h.ab, List.take_succ_eq_append_getElem hj, List.map_append]
    rfl
  · rw [List.map_append, List.nodup_append]
    refine ⟨h.nodup, by simp, fun a ha b hb' e => ?_⟩
    simp at hb'
    obtain ⟨s, hs, rfl⟩ := List.mem_map.1 ha
    have := (h.ok s hs).lt
    omega
  · intro x hx
    rw [List.map_append] at hx
    rcases List.mem_append.1 hx with hx | hx
    · exact h.new x hx
    · simp at hx; omega
  · refine (h.upd.trans (Upd.of_below hb) (fun _ _ h => h)).trans hU (fun x _ hx => ?_)
    rw [hvi]; simp [Value.ownBlock, hx]

/-- The outer loop: so many epochs are copied. -/
structure Part (w wr : World) (g0 m N i : Nat) (eps E : List Ep) : Prop where
  len : E.length = i
  row : wr.ownsRow 0 110 1 (.slice (some ⟨g0, 0, none⟩) m m) m (E.map Ep.v ++ List.replicate (m - i) (.slice none 0 0))
  ok : ∀ e ∈ E, e.ok wr N
  ab : E.map Ep.ab = (eps.take i).map Ep.ab
  nodup : (g0 :: E.flatMap Ep.foot).Nodup
  new : ∀ x ∈ E.flatMap Ep.foot, w.heap.size ≤ x
  below : Below w.heap.size w wr

theorem Part.lt {w wr : World} {g0 m N i : Nat} {eps E : List Ep} (h : Part w wr g0 m N i eps E) : ∀ x ∈ g0 :: E.flatMap Ep.foot, x < wr.heap.size := by
  intro x hx
  rcases List.mem_cons.1 hx with rfl | hx
  · exact (h.row.lt x rfl).2
  · obtain ⟨e, he, hx⟩ := List.mem_flatMap.1 hx
    exact (h.ok e he).lt x hx

theorem Part.step {w wr w1 w2 w3 : World} {g0 m N i : Nat} {eps E : List Ep} {vi : Value} {es T : List Snt} (h : Part w wr g0 m N i eps E) (hi : i < m) (hie : i < eps.length) (hes : eps[i].es = es) (hrise : Rise N (es.map Snt.sec))
    (hb1 : Below wr.heap.size wr w1) (hw2 : w2 = w1.setCell ⟨g0, i, none⟩ vi) (hvi : ∀ x, vi.ownBlock = some x → wr.heap.size ≤ x) (hH : Half w2 w3 vi es T es.length) (hvl : ∀ x, vi.ownBlock = some x → x < w2.heap.size) (hg0 : w.heap.size ≤ g0) :
    Part w w3 g0 m N (i + 1) eps (E ++ [⟨vi, T⟩]) := by
  have hlt := h.lt
  have hrow1 := own_below h.row hb1
  have hst := hrow1.stored i vi
  rw [← hw2] at hst
  have hsz1 := hb1.size
  have hs12 : w2.heap.size = w1.heap.size := by rw [hw2]; simp
  have hg0l := hlt g0 (by simp)
  have hT := hH.row
  rw [List.drop_length, List.append_nil] at hT
  have hTl : T.length = es.length := hH.len
  have hUold : ∀ x, x < wr.heap.size → x ≠ g0 → w3.heap[x]? = wr.heap[x]? := by
    intro x hx hne
    rw [hH.upd.block x (by omega) (fun hv => by have := hvi x hv; omega), hw2, heap_setCell_other _ _ _ _ hne, hb1.block x hx]
  have hfT : ∀ x ∈ (⟨vi, T⟩ : Ep).foot, wr.heap.size ≤ x := by
    intro x hx
    simp only [Ep.foot, List.mem_append] at hx
    rcases hx with hx | hx
    · exact hvi x (by simpa [vb] using hx)
    · have := hH.new x hx; omega
  have hset : (E.map Ep.v ++ List.replicate (m - i) (Value.slice none 0 0)).set i vi = (E ++ [(⟨vi, T⟩ : Ep)]).map Ep.v ++ List.replicate (m - (i + 1)) (Value.slice none 0 0) := by
    rw [List.set_append, if_neg (by simp [h.len]), show i - (E.map Ep.v).length = 0 by simp [h.len], show m - i = (m - (i + 1)) + 1 by omega, List.replicate_succ]
    simp
  refine ⟨by simp [h.len], ?_, fun e he => ?_, ?_, ?_, ?_, ?_⟩
  · rw [← hset]
    exact hH.upd.own hst.1 (fun x hx hv => by simp [Value.ownBlock] at hx; have := hvi x hv; omega)
  · rcases List.mem_append.1 he with he | he
    · refine (h.ok e he).frame fun x hx => ?_
      have hxm : x ∈ E.flatMap Ep.foot := List.mem_flatMap.2 ⟨e, he, hx⟩
      exact hUold x ((h.ok e he).lt x hx) (fun e0 => (List.nodup_cons.1 h.nodup).1 (e0 ▸ hxm))
    · simp at he
      subst he
      refine ⟨by rw [show (⟨vi, T⟩ : Ep).es.length = es.length from hTl]; exact hT, hH.ok, ?_⟩
      have hab : T.map Snt.sec = es.map Snt.sec := by
        have h5 := congrArg (List.map Prod.fst) hH.ab
        rw [List.take_length] at h5
        simpa [Snt.ab, Function.comp_def] using h5
      show Rise N (T.map Snt.sec)
      rw [hab]
      exact hrise
  · rw [List.map_append, h.ab, List.take_succ_eq_append_getElem hie, List.map_append]
    congr 1
    have h5 := hH.ab
    rw [List.take_length] at h5
    simp [Ep.ab, h5, hes]
  · rw [List.flatMap_append]
    rw [← List.cons_append, List.nodup_append]
    refine ⟨h.nodup, ?_, fun a ha b hb e => ?_⟩
    · simp only [List.flatMap_cons, List.flatMap_nil, List.append_nil, Ep.foot, List.nodup_append]
      refine ⟨by simp only [vb]; cases vi.ownBlock <;> simp, hH.nodup, fun a ha b hb e => ?_⟩
      have h1 := hvl a (by simpa [vb] using ha)
      have h2 := hH.new b hb
      omega
    · have h1 := hlt a ha
      have h2 := hfT b (by simpa using hb)
      omega
  · intro x hx
    rw [List.flatMap_append] at hx
    rcases List.mem_append.1 hx with hx | hx
    · exact h.new x hx
    · have := hfT x (by simpa using hx)
      have := h.below.size
      omega
  · have hbw : Below w.heap.size w w1 := h.below.trans (hb1.mono h.below.size)
    have hb2 : Below w.heap.size w w2 := by rw [hw2]; exact hbw.setCell hg0 vi
    exact hb2.trans (hH.upd.below hb2.size (fun x hx => by have := hvi x hx; have := h.below.size; omega))

end Go.Proofs.YtbgommpdmnbplaaGreatDoor

/- What disk.copied does: the walk. -/
namespace Go.Proofs.YtbgommpdmnbplaaGreatDoor
open Go.RowKit
set_option linter.unusedVariables false

theorem cell_alloc_old (w : World) (ob : Obj) (a : Addr) (h : a.block < w.heap.size) : (w.alloc ob).cell? a = w.cell? a := World.cell?_of_block (Below.heap_alloc w ob a.block h)

set_option maxHeartbeats 2000000 in
set_option maxRecDepth 20000 in
theorem copied_any (v : Value) (eps : List Ep) (N : Nat) (w : World) (hrow : w.ownsRow 0 110 1 v eps.length (eps.map Ep.v)) (hok : ∀ e ∈ eps, e.ok w N) (hN : N ≤ 2048) (hsz : eps.length ≤ 5000000000000) :
    Calls Tryz.prog 86 #[v] w fun r w' => ∃ E, r = .returned (.slice (some ⟨w.heap.size, 0, none⟩) eps.length eps.length) ∧ Part w w' w.heap.size eps.length N eps.length eps E := by
  obtain ⟨i0, hi0, hz0, hz1, hz2⟩ := info_parts Tryz.infoSL
  obtain ⟨ae, c, rfl, hc1, hc2⟩ := own_shape hrow
  obtain ⟨m, hm⟩ : ∃ m, m = eps.length := ⟨_, rfl⟩
  rw [← hm] at hrow hc1 hsz ⊢
  have HROW := hid hrow
  have HOK := hid hok
  have HM := hid hm
  clear hrow hok hm
  have hmx : m ≤ maxLen := by unfold maxLen; omega
  have hby : i0.bytes * m ≤ 281474976710656 := by rw [hz2]; omega
  go_enter Tryz.func86, Tryz.ntmps86
  go_wp2_with (at_make; go_must (refine wpList_make_lc _ rfl _ _ 82 rfl 110 i0 (.slice none 0 0) 1 Tryz.underlying82 hi0 hz0 hz1 _ _ _ _ m m rfl rfl rfl rfl (Nat.le_refl _) hby hmx ?_))
  have hw0 : Part w (w.alloc (.cells (madeCells #[Value.slice none 0 0] m) 110)) w.heap.size m N 0 eps [] := by
    refine ⟨rfl, ⟨by simp, .inr ⟨w.heap.size, m, _, rfl, Nat.zero_le _, heap_alloc_new w _, Nat.le_refl _, hmx, by simp [size_madeCells], ?_⟩⟩, fun e he => by simp at he, rfl, by simp, fun x hx => by simp at hx, (Below.refl _ _).alloc (Nat.le_refl _) _⟩
    rw [toList_madeCells_one]
    simp
  have HW := hid hw0
  clear hw0
  go_loopw [13] (fun k wr => ∃ (i : Nat) (E : List Ep), k = .int .i64 i ∧ i ≤ m ∧ Hid (Part w wr w.heap.size m N i eps E)) (fun k _ => m - (intOf k).toNat)
  case atStart => exact ⟨0, [], rfl, Nat.zero_le _, HW.out⟩
  case round =>
    obtain ⟨i, E, rfl, hi, HP⟩ := hrel
    obtain ⟨wo, hwo⟩ : ∃ wo, wo = wr := ⟨_, rfl⟩
    subst hwo
    by_cases hlt : i < m
    · have hie : i < eps.length := by have := HM.out; omega
      obtain ⟨e, he⟩ : ∃ e, e = eps[i] := ⟨_, rfl⟩
      have hem : e ∈ eps := by rw [he]; exact List.getElem_mem hie
      have hbw := HP.out.below
      have heok : e.ok wo N := (HOK.out e hem).frame fun x hx => hbw.block x ((HOK.out e hem).lt x hx)
      obtain ⟨ae2, ce2, hev, hev1, hev2⟩ := own_shape heok.row
      have hel := rise_len heok.rise
      obtain ⟨ge, rfl⟩ : ∃ ge, ae = some ⟨ge, 0, none⟩ := by
        rcases HROW.out.2 with ⟨_, h⟩ | ⟨g, c, cur, h, _⟩
        · omega
        · injection h with h1 h2 h3; exact ⟨g, h1⟩
      have hc : wo.cell? ⟨ge, i, none⟩ = some (.slice ae2 e.es.length ce2) := by
        rw [(own_below HROW.out hbw).cellAt _ (by omega), ← hev, he]
        simp [hie]
      have hcg : wo.cell? ⟨w.heap.size, i, none⟩ = some (.slice none 0 0) := by
        rw [HP.out.row.cellAt _ (by omega), List.getElem?_append_right (by simp [HP.out.len]), show i - (E.map Ep.v).length = 0 by simp [HP.out.len]]
        rw [List.getElem?_replicate]
        simp
        omega
      have hfg := HP.out.row.frozenAt i
      have kc := hid (sentclone_any e.v e.es.length (sentCells e.es) wo heok.row (by omega) (sentCells_one _))
      rw [hev] at kc
      have hrw := (HOK.out e hem).row
      rw [hev] at hrw
      have HS := hid (sents_of hrw rfl)
      have HEO := hid (HOK.out e hem)
      have HE := hid he
      clear hrw heok hem he hev
      obtain ⟨n, hn⟩ : ∃ n, n = e.es.length := ⟨_, rfl⟩
      rw [← hn] at hc hev1 hel kc HS
      have HN := hid hn
      clear hn
      have hg0l := HP.out.lt w.heap.size (by simp)
      go_wp2_with fail
      refine kc.out.mono ?_
      rintro r w1 ⟨vi, rfl, hvo, hvn, hb1⟩
      obtain ⟨ai, ci, rfl, hci1, hci2⟩ := own_shape hvo
      have dg : w1.cell? ⟨w.heap.size, i, none⟩ = some (.slice none 0 0) := (hb1.cell (p := ⟨w.heap.size, i, none⟩) hg0l).trans hcg
      have fg : w1.frozen? ⟨w.heap.size, i, none⟩ = false := (hb1.frozen (p := ⟨w.heap.size, i, none⟩) hg0l).trans hfg
      have HVO := hid hvo
      have HVN := hid hvn
      have hsz1 := hb1.size
      clear hvo hvn hc hcg hfg kc
      go_wp2_with fail
      obtain ⟨w2, gw2⟩ : ∃ w2, w2 = w1.setCell ⟨w.heap.size, i, none⟩ (.slice ai n ci) := ⟨_, rfl⟩
      rw [← gw2]
      have hs12 : w2.heap.size = w1.heap.size := by rw [gw2]; simp
      have hvi2 : ∀ x, (Value.slice ai n ci).ownBlock = some x → x ≠ w.heap.size := fun x hx e0 => by have := HVN.out x hx; omega
      have hU12 : Upd (· = w.heap.size) w1 w2 := by rw [gw2]; exact Upd.setCell w1 _ _ rfl
      have hcell2 : w2.cell? ⟨w.heap.size, i, none⟩ = some (.slice ai n ci) := by
        have h0 := ((own_below HP.out.row hb1).stored i (.slice ai n ci)).1
        rw [← gw2] at h0
        rw [h0.cellAt _ (by omega), List.getElem?_set]
        simp [HP.out.len]
        omega
      have hH0 : Half w2 w2 (.slice ai n ci) e.es [] 0 := by
        refine ⟨rfl, ?_, fun s hs => by simp at hs, rfl, by simp, fun x hx => by simp at hx, Upd.refl _ _⟩
        rw [List.drop_zero, List.nil_append, ← HN.out]
        exact hU12.own HVO.out hvi2
      have HH0 := hid hH0
      have HGW2 := hid gw2
      clear hH0 gw2 dg fg
      go_loopw [25] (fun k wr => ∃ (j : Nat) (T : List Snt), k = .int .i64 j ∧ j ≤ n ∧ Hid (Half w2 wr (.slice ai n ci) e.es T j)) (fun k _ => n - (intOf k).toNat)
      case atStart => exact ⟨0, [], rfl, Nat.zero_le _, HH0.out⟩
      case round =>
        obtain ⟨j, T, rfl, hj, HH⟩ := hrel
        by_cases hjl : j < n
        · have hje : j < e.es.length := by have := HN.out; omega
          obtain ⟨gi, rfl⟩ : ∃ gi, ai = some ⟨gi, 0, none⟩ := by
            rcases HVO.out.2 with ⟨_, h⟩ | ⟨g, c, cur, h, _⟩
            · have := HN.out; omega
            · injection h with h1 h2 h3; exact ⟨g, h1⟩
          have hgi : wo.heap.size ≤ gi := HVN.out gi rfl
          have hgil : gi < w2.heap.size := by have := (HVO.out.lt gi rfl).2; omega
          have hupd := HH.out.upd
          have hszr := hupd.size
          have hwsz := hbw.size
          have hbwr : Below w.heap.size w wr := by
            have h1 : Below w.heap.size w w2 := by
              rw [HGW2.out]
              exact (hbw.trans (hb1.mono hwsz)).setCell (Nat.le_refl _) _
            exact h1.trans (hupd.below h1.size (fun x hx => by have := HVN.out x hx; omega))
          obtain ⟨b, o, rfl, hbl, hcs⟩ := HS.out.below hbwr (by omega)
          obtain ⟨c0, c1⟩ := hcs j hjl
          rw [valAt_eq _ _ hje] at c1
          simp only [Snt.val] at c1
          obtain ⟨hl128, hso⟩ := HEO.out.es e.es[j] (List.getElem_mem hje)
          have hg0 : w.heap.size < w2.heap.size := by omega
          have hng : ¬ (Value.slice (some ⟨gi, 0, none⟩) n ci).ownBlock = some w.heap.size := fun h => by simp [Value.ownBlock] at h; omega
          have cg : wr.cell? ⟨w.heap.size, i, none⟩ = some (.slice (some ⟨gi, 0, none⟩) n ci) := (World.cell?_of_block (w := w2) (a := ⟨w.heap.size, i, none⟩) (hupd.block _ hg0 hng)).trans hcell2
          have hrowr := HH.out.row
          rw [← HN.out] at hrowr
          have hTl : (sentCells (T ++ e.es.drop j)).length = n * 2 := hrowr.1
          obtain ⟨u9, hu9⟩ : ∃ u, (sentCells (T ++ e.es.drop j))[j * 2 + 1]? = some u := ⟨_, List.getElem?_eq_getElem (by omega)⟩
          have cs9 : wr.cell? ⟨gi, j * 2 + 1, none⟩ = some u9 := by rw [hrowr.cellAt _ (by omega)]; exact hu9
          have fs9 := hrowr.frozenAt (j * 2 + 1)
          have hsrc := (Src.own hso).below hbwr
          have HSRC := hid hsrc
          have hgir : gi < wr.heap.size := by omega
          clear hcs hso hrowr hTl hu9 hsrc
          go_wp2_with fail
          obtain ⟨W4, gW4⟩ : ∃ W4, W4 = wr.alloc (.cells #[.int .i64 (secAt e.es j), .slice (some ⟨e.es[j].blk, 0, none⟩) 128 e.es[j].cap] 120) := ⟨_, rfl⟩
          rw [← gW4]
          have hb4 : Below wr.heap.size wr W4 := by rw [gW4]; exact (Below.refl _ _).alloc (Nat.le_refl _) _
          have p1 : W4.cell? ⟨w.heap.size, i, none⟩ = some (.slice (some ⟨gi, 0, none⟩) n ci) := (hb4.cell (p := ⟨w.heap.size, i, none⟩) (by show w.heap.size < _; omega)).trans cg
          have p2 : W4.cell? ⟨wr.heap.size, 1, none⟩ = some (.slice (some ⟨e.es[j].blk, 0, none⟩) 128 e.es[j].cap) := by rw [gW4]; simp [go_sem]
          have hs4 : W4.heap.size = wr.heap.size + 1 := by rw [gW4]; simp
          have kb := hid (sclone_any ⟨e.es[j].blk, 0, none⟩ 128 e.es[j].cap e.es[j].bs W4.drew (HSRC.out.below hb4.drew) (by omega))
          have hne1 : w.heap.size ≠ gi := by omega
          have hne2 : wr.heap.size ≠ gi := by omega
          have b1 : (0 : Int) ≤ (i : Int) := by omega
          have b2 : (i : Int) < (m : Int) := by omega
          have b3 : (0 : Int) ≤ (j : Int) := by omega
          have b4 : (j : Int) < (n : Int) := by omega
          clear gW4 c0 c1 cg
          go_region_held3 (fun wx => wx.cell? ⟨w.heap.size, i, none⟩ = some (.slice (some ⟨gi, 0, none⟩) n ci) ∧ wx.cell? ⟨wr.heap.size, 1, none⟩ = some (.slice (some ⟨e.es[j].blk, 0, none⟩) 128 e.es[j].cap)) (first | go_keep | (refine ⟨(cell_setCell_block _ _ _ _ _ hne1).trans ?_, (cell_setCell_block _ _ _ _ _ hne2).trans ?_⟩ <;> go_keep)) (first | (go_at_call 80; refine kb.out.mono ?_; rintro r w5 ⟨gb, cb, rfl, hown5, hb5⟩; have HO5 := hid hown5; have s1 : w5.cell? ⟨w.heap.size, i, none⟩ = some (.slice (some ⟨gi, 0, none⟩) n ci) := (hb5.cell (p := ⟨w.heap.size, i, none⟩) (by show w.heap.size < W4.heap.size; omega)).trans p1; have s2 : w5.cell? ⟨wr.heap.size, 1, none⟩ = some (.slice (some ⟨e.es[j].blk, 0, none⟩) 128 e.es[j].cap) := (hb5.cell (p := ⟨wr.heap.size, 1, none⟩) (by show wr.heap.size < W4.heap.size; omega)).trans p2; have s3 : w5.cell? ⟨gi, j * 2 + 1, none⟩ = some u9 := (hb5.cell (p := ⟨gi, j * 2 + 1, none⟩) (by show gi < W4.heap.size; omega)).trans ((hb4.cell (p := ⟨gi, j * 2 + 1, none⟩) hgir).trans cs9); have s4 : w5.frozen? ⟨gi, j * 2 + 1, none⟩ = false := (hb5.frozen (p := ⟨gi, j * 2 + 1, none⟩) (by show gi < W4.heap.size; omega)).trans ((hb4.frozen (p := ⟨gi, j * 2 + 1, none⟩) hgir).trans fs9); have HB5 := hid hb5; clear hown5 hb5))
          go_wp2_with fail
          go_roundw
          case rel =>
            have hb45 : Below wr.heap.size wr w5 := hb4.trans ((show Below W4.heap.size W4 w5 from ⟨HB5.out.os, HB5.out.tape, HB5.out.output, HB5.out.size, HB5.out.block⟩).mono (by omega))
            have hgbl := HO5.out.lt gb rfl
            refine ⟨j + 1, T ++ [{ e.es[j] with blk := gb, cap := cb }], by go_num, by omega, ?_⟩
            have hst := HH.out.step (w3 := w5) (gi := gi) (ci := ci) (gb := gb) (cb := cb) hje (by rw [HN.out]) hb45 hgil (by have h6 := hgbl.1; simp at h6; omega) (own_base HO5.out (Nat.zero_le _)) hl128
            exact hst
          case measure => simp [intOf]; omega
        · obtain rfl : j = n := by omega
          go_wp2_with fail
          go_roundw
          case rel =>
            have hHn := HH.out
            have hnn := HN.out
            have hrise := HEO.out.rise
            refine ⟨i + 1, E ++ [⟨.slice ai j ci, T⟩], by go_num, by omega, ?_⟩
            refine HP.out.step (w1 := w1) (w2 := w2) (es := e.es) hlt hie (by rw [← HE.out]) hrise hb1 HGW2.out HVN.out (by rw [← hnn]; exact hHn) (fun x hx => ?_) (Nat.le_refl _)
            have := (HVO.out.lt x hx).2
            omega
          case measure => simp [intOf]; omega
    · obtain rfl : i = m := by omega
      go_wp2_with fail
      go_ret
      exact ⟨E, rfl, HP.out⟩

end Go.Proofs.YtbgommpdmnbplaaGreatDoor

/- What journal.Open, Used, Generation do, and disk.Epochs of a disk at rest. -/
namespace Go.Proofs.YtbgommpdmnbplaaGreatDoor
open Go.RowKit Num Jr
set_option linter.unusedVariables false
set_option maxRecDepth 20000

/-- Epochs: a copy of what is not durable. -/
theorem epochs_any (d : Dk) (p : Nat) (w : World) (hok : d.ok w p) (hsz : d.eps.length ≤ 5000000000000) :
    Calls Tryz.prog 77 #[.pointer (some ⟨p, 0, none⟩)] w fun r w' => ∃ E, r = .returned (.slice (some ⟨w.heap.size, 0, none⟩) d.eps.length d.eps.length) ∧ Part w w' w.heap.size d.eps.length d.n d.eps.length d.eps E := by
  have k1 := hid (dusable d p w hok)
  obtain ⟨ae, ce, hve, hce1, hce2⟩ := own_shape hok.row
  obtain ⟨c0, c1, c2, c3⟩ := hok.cell
  have k2 := hid (copied_any d.ve d.eps d.n w hok.row hok.eps hok.n2 hsz)
  rw [hve] at c2 k2
  clear hok hve c0 c1 c3
  obtain ⟨m, hm⟩ : ∃ m, m = d.eps.length := ⟨_, rfl⟩
  rw [← hm] at c2 k2 hce1 hsz ⊢
  clear hm
  go_enter Tryz.func77, Tryz.ntmps77
  go_wp2_with fail
  refine k1.out.mono ?_
  rintro r w1 ⟨rfl, h⟩
  subst w1
  go_wp2_with fail
  refine k2.out.mono ?_
  rintro r w1 ⟨E, rfl, hP⟩
  have HP := hid hP
  clear hP
  go_wp2_with fail
  go_ret
  exact ⟨E, rfl, HP.out⟩

set_option maxHeartbeats 1000000 in
set_option maxRecDepth 20000 in
theorem img_eqf (a1 a2 : Option Addr) (n c1 c2 : Nat) (L : List (List Int)) (w : World) (h1 : Img w a1 L) (h2 : Img w a2 L) (hn : L.length = n) (k1 : n ≤ c1) (k2 : c1 ≤ 9223372036854775807) (k3 : n ≤ c2) (k4 : c2 ≤ 9223372036854775807) :
    Calls Tryz.prog 82 #[.slice a1 n c1, .slice a2 n c2, .func (.func 83) #[] #[]] w fun e w' => e = .returned (.bool true) ∧ w' = w := by
  have H1 := hid h1
  have H2 := hid h2
  have HN := hid hn
  clear h1 h2 hn
  go_enter Tryz.func82, Tryz.ntmps82
  go_wp2_with fail
  go_loop [17] (fun k => ∃ i : Nat, k = .int .i64 i ∧ i ≤ n) (fun k => n - (intOf k).toNat)
  case atStart => exact ⟨0, rfl, Nat.zero_le _⟩
  case round =>
    obtain ⟨i, rfl, hi⟩ := hrel
    by_cases hlt : i < n
    · have hil : i < L.length := by rw [HN.out]; exact hlt
      obtain ⟨b1, o1, e1, hb1, hc1⟩ := H1.out (by omega)
      obtain ⟨b2, o2, e2, hb2, hc2⟩ := H2.out (by omega)
      subst e1
      subst e2
      obtain ⟨u, hu, a, cc, eu, hs, _⟩ := hc1 i hil
      obtain ⟨u2, hu2, a', cc2, eu2, hs2, _⟩ := hc2 i hil
      subst eu
      subst eu2
      have ke := hid (equal_yes a a' L[i].length cc L[i].length cc2 L[i] w hs hs2)
      obtain ⟨m, gm⟩ : ∃ m, m = L[i].length := ⟨_, rfl⟩
      rw [← gm] at hu hu2 ke
      clear hc1 hc2 hs hs2 gm
      go_wp2_with fail
      refine ke.out.mono ?_
      rintro r w2 ⟨rfl, h⟩
      subst w2
      go_wp2_with fail
      go_round
      case rel => exact ⟨i + 1, by go_num, by omega⟩
      case measure => simp [intOf]; omega
    · obtain rfl : i = n := by omega
      go_wp2_with fail
      go_ret
      exact ⟨rfl, rfl⟩


theorem jepochs (d : Dk) (p n : Nat) (S : Nat → List Int) (w : World) (h : Jd d w p n S) (hr : d.rest) : Calls Tryz.prog 77 #[.pointer (some ⟨p, 0, none⟩)] w fun e w' => ∃ a c, e = .returned (.slice a 0 c) ∧ Below w.heap.size w w' := by
  refine (epochs_any d p w h.ok (by rw [hr.1]; simp)).mono ?_
  rintro e w' ⟨E, rfl, hP⟩
  rw [hr.1]
  exact ⟨_, _, rfl, hP.below⟩

theorem jusable (jp p gen first size groups used cnt : Nat) (wv : Value) (w : World) (h : Jc w jp p gen first size groups used wv cnt) : Calls Tryz.prog 200 #[.pointer (some ⟨jp, 0, none⟩)] w fun e w' => e = .returned (.bool true) ∧ w' = w := by
  have c0 : w.cell? ⟨jp, 0, none⟩ = some (.pointer (some ⟨p, 0, none⟩)) := heap_cells h 0 _ rfl
  clear h
  go_enter Tryz.func200, Tryz.ntmps200
  go_wp2_with fail
  go_ret
  exact ⟨rfl, rfl⟩

theorem RcsT.img {w : World} {B m : Nat} {v : Value} {L : List (List Int)} (h : RcsT w B m v L) (hl : ∀ l ∈ L, l.length ≤ 140737488355328) : ∃ a c, v = .slice a L.length c ∧ L.length ≤ c ∧ c ≤ 9223372036854775807 ∧ Img w a L := by
  obtain ⟨us, ho, hm, hj⟩ := h
  obtain ⟨a, c, rfl, h1, h2⟩ := own_shape ho
  refine ⟨a, c, rfl, h1, h2, fun h0 => ?_⟩
  obtain ⟨g, rfl⟩ : ∃ g, a = some ⟨g, 0, none⟩ := by
    rcases ho.2 with ⟨_, h⟩ | ⟨g, c, cur, h, _⟩
    · omega
    · injection h with h1 h2 h3; exact ⟨g, h1⟩
  refine ⟨g, 0, rfl, (ho.lt g rfl).2, fun j hjl => ?_⟩
  obtain ⟨u, h3, b, c', e, h4, h5, h6, h7, h8, h9⟩ := hj j hjl
  exact ⟨u, by rw [Nat.zero_add, ho.cellAt _ (by omega)]; exact h3, some ⟨b, 0, none⟩, c', e, h4, fun _ b' o' _ hx => (by simp at hx), h8, h9, (fun h => by cases h), hl _ (List.getElem_mem hjl)⟩

/-- What Open leaves of a disk of four sectors and more. -/
def OpenP (d : Dk) (w : World) (p n : Nat) (S : Nat → List Int) (e : Ending) (w' : World) : Prop :=
  ∃ (jp : Nat) (v : Value) (d' : Dk) (m : Nat), e = .returned (.tuple #[.pointer (some ⟨jp, 0, none⟩), v, .int .i64 0]) ∧ w.heap.size ≤ jp ∧ jp ∉ d'.foot p ∧ Jstep d w d' w' p n (openS n S) ∧ d'.rest ∧ Jc w' jp p (openGen S) (firstOf (openGen S) n) (szOf n) (opened n S).2.1 (opened n S).2.2 (.slice none 0 0) 0 ∧ RcsT w' w.heap.size m v (opened n S).1 ∧ (∀ x ∈ d'.foot p, x < w.heap.size ∨ m ≤ x)

set_option maxHeartbeats 2000000 in
theorem jopen_any (d : Dk) (p n : Nat) (S : Nat → List Int) (w : World) (J : Jd d w p n S) (hr : d.rest) (hT : Tab w) (hdT : 1 ∉ d.foot p) (hn4 : 4 ≤ n) :
    Calls Tryz.prog 39 #[.pointer (some ⟨p, 0, none⟩)] w (OpenP d w p n S) := by
  have hTl : 1 < w.heap.size := World.block_lt_of_cell? _ _ (hT 0 (by omega))
  obtain ⟨W0, g0⟩ : ∃ W0, W0 = w.alloc (.cells #[.pointer (some ⟨p, 0, none⟩), .int .i64 0, .int .i64 0, .int .i64 0, .int .i64 0, .int .i64 0, .slice none 0 0, .int .i64 0] 138) := ⟨_, rfl⟩
  have hb0 : Below w.heap.size w W0 := by rw [g0]; exact (Below.refl _ _).alloc (Nat.le_refl _) _
  have hs0 : W0.heap.size = w.heap.size + 1 := by rw [g0]; simp
  obtain ⟨jp, gjp⟩ : ∃ jp, jp = w.heap.size := ⟨_, rfl⟩
  have hj0 : Jc W0 jp p 0 0 0 0 0 (.slice none 0 0) 0 := by unfold Jc; rw [gjp, g0]; exact heap_alloc_new _ _
  have hjf : jp ∉ d.foot p := fun hx => by have := J.ok.lt jp hx; omega
  have d0 : W0.cell? ⟨jp, 0, none⟩ = some (.pointer (some ⟨p, 0, none⟩)) := heap_cells hj0 0 _ rfl
  have kr := hid (jread_any d p n 0 S W0 (J.below hb0) (by omega))
  have ks := hid (fun (wx : World) (hb : Below w.heap.size w wx) => dsectors d p wx (J.below hb).ok)
  rw [J.dn] at ks
  have ke := hid (fun (wx : World) (hb : Below w.heap.size w wx) (hj : Jc wx jp p 0 0 0 0 0 (.slice none 0 0) 0) => restore_any d jp p n 0 (.slice none 0 0) S wx hj (J.below hb) hr hjf (hT.below hb hTl) (by omega) hdT hn4)
  have hnv : ¬ (n : Int) < 4 := by omega
  have G0 := hid g0
  have GJ := hid gjp
  have HB0 := hid hb0
  have HJ0 := hid hj0
  have HJ := hid J
  have HS0 := hid hs0
  clear g0 gjp hb0 hj0 hs0 J hr hT hjf
  go_enter Tryz.func39, Tryz.ntmps39
  go_upto_region 2 with fail
  rw [← G0.out, ← GJ.out]
  go_wp2_with (first | (go_at_call 89; refine kr.out.mono ?_; rintro r w1 ⟨g1, c1, rfl, ho1, hb1⟩; have HB1 : Hid (Below w.heap.size w w1) := hid (HB0.out.trans (hb1.mono HB0.out.size)); have HJ1 : Hid (Jc w1 jp p 0 0 0 0 0 (.slice none 0 0) 0) := hid ((hb1.block jp (Array.getElem?_eq_some_iff.1 HJ0.out).1).trans HJ0.out); have hw1 : W0.heap.size ≤ w1.heap.size := hb1.size; clear ho1 hb1) | (go_at_call 74; refine (ks.out _ HB1.out).mono ?_; rintro r w2 ⟨rfl, h⟩; subst w2) | (go_at_call 91; refine (ke.out _ HB1.out HJ1.out).mono ?_; rintro r w3 ⟨v3, d3, m3, rfl, hm3, hj3, hc3, hf3⟩; have HM3 := hid hm3; have HJ3 := hid hj3; have HC3 := hid hc3; have HF3 := hid hf3; clear hm3 hj3 hc3 hf3))
  go_ret3
  have hj := GJ.out
  have hs := HS0.out
  have hw := HB1.out.size
  refine ⟨jp, v3, d3, m3, rfl, by omega, fun hx => ?_, ⟨HM3.out.jd, ?_, ?_⟩, HM3.out.rest, HJ3.out, HC3.out.base hw, fun x hx => ?_⟩
  · rcases HM3.out.grew jp hx with h | h
    · have := HJ.out.ok.lt jp h; omega
    · omega
  · exact ⟨HM3.out.upd.os.trans HB1.out.os, HM3.out.upd.tape.trans HB1.out.tape, HM3.out.upd.output.trans HB1.out.output, Nat.le_trans hw HM3.out.upd.size, fun k hk hn => (HM3.out.upd.block k (by omega) (fun h => by
      rcases h with h | h
      · omega
      · exact hn h)).trans (HB1.out.block k hk)⟩
  · intro x hx
    rcases HM3.out.grew x hx with h | h
    · exact .inl h
    · exact .inr (Nat.le_trans hw h)
  · rcases HM3.out.grew x hx with h | h
    · exact .inl (HJ.out.ok.lt x h)
    · rcases HF3.out x hx with h' | h'
      · omega
      · exact .inr h'

/-- Open of fewer sectors. -/
theorem jopen_few (d : Dk) (p n : Nat) (S : Nat → List Int) (w : World) (J : Jd d w p n S) (hn1 : 1 ≤ n) (hn4 : n < 4) :
    Calls Tryz.prog 39 #[.pointer (some ⟨p, 0, none⟩)] w fun e w' => e = .returned (.tuple #[.pointer none, .slice none 0 0, .int .i64 1]) ∧ Below w.heap.size w w' := by
  obtain ⟨W0, g0⟩ : ∃ W0, W0 = w.alloc (.cells #[.pointer (some ⟨p, 0, none⟩), .int .i64 0, .int .i64 0, .int .i64 0, .int .i64 0, .int .i64 0, .slice none 0 0, .int .i64 0] 138) := ⟨_, rfl⟩
  have hb0 : Below w.heap.size w W0 := by rw [g0]; exact (Below.refl _ _).alloc (Nat.le_refl _) _
  obtain ⟨jp, gjp⟩ : ∃ jp, jp = w.heap.size := ⟨_, rfl⟩
  have hj0 : Jc W0 jp p 0 0 0 0 0 (.slice none 0 0) 0 := by unfold Jc; rw [gjp, g0]; exact heap_alloc_new _ _
  have d0 : W0.cell? ⟨jp, 0, none⟩ = some (.pointer (some ⟨p, 0, none⟩)) := heap_cells hj0 0 _ rfl
  have kr := hid (jread_any d p n 0 S W0 (J.below hb0) (by omega))
  have ks := hid (fun (wx : World) (hb : Below w.heap.size w wx) => dsectors d p wx (J.below hb).ok)
  rw [J.dn] at ks
  have hnv : (n : Int) < 4 := by omega
  have G0 := hid g0
  have GJ := hid gjp
  have HB0 := hid hb0
  clear g0 gjp hb0 hj0 J
  go_enter Tryz.func39, Tryz.ntmps39
  go_upto_region 2 with fail
  rw [← G0.out, ← GJ.out]
  go_wp2_with (first | (go_at_call 89; refine kr.out.mono ?_; rintro r w1 ⟨g1, c1, rfl, ho1, hb1⟩; have HB1 : Hid (Below w.heap.size w w1) := hid (HB0.out.trans (hb1.mono HB0.out.size)); clear ho1 hb1) | (go_at_call 74; refine (ks.out _ HB1.out).mono ?_; rintro r w2 ⟨rfl, h⟩; subst w2))
  go_ret3
  exact ⟨rfl, HB1.out⟩

end Go.Proofs.YtbgommpdmnbplaaGreatDoor

/- A journal as it stands, with records that wait; what Append does. -/
namespace Go.Proofs.YtbgommpdmnbplaaGreatDoor
open Go.RowKit Num Jr
set_option linter.unusedVariables false
set_option maxRecDepth 20000

/-- The blocks of a journal and its disk. -/
def Jf (d : Dk) (p jp : Nat) (wv : Value) : List Nat := jp :: (vb wv ++ d.foot p)

structure Js (d : Dk) (w : World) (jp p n : Nat) (S : Nat → List Int) (gen groups used : Nat) (done waits : List (List Int)) (wv : Value) : Prop where
  jd : Jd d w p n S
  rest : d.rest
  jc : Jc w jp p gen (firstOf gen n) (szOf n) groups used wv waits.length
  ji : JI n S gen done groups used
  wait : w.ownsRow 0 5 1 wv (loadOf waits).length ((loadOf waits).map (Value.int .u8))
  wok : ∀ r ∈ waits, RecOk r
  room : needN (loadOf waits).length ≤ szOf n - used
  jf : jp ∉ d.foot p
  wf : ∀ k, wv.ownBlock = some k → k ∉ d.foot p ∧ k ≠ jp

theorem Js.lt {d : Dk} {w : World} {jp p n gen groups used : Nat} {S : Nat → List Int} {done waits : List (List Int)} {wv : Value} (h : Js d w jp p n S gen groups used done waits wv) : ∀ k ∈ Jf d p jp wv, k < w.heap.size := by
  intro k hk
  simp only [Jf, List.mem_cons, List.mem_append] at hk
  rcases hk with rfl | hk | hk
  · exact (Array.getElem?_eq_some_iff.1 h.jc).1
  · exact own_lt h.wait hk
  · exact h.jd.ok.lt k hk

theorem Js.upd {d : Dk} {w w' : World} {jp p n gen groups used : Nat} {S : Nat → List Int} {done waits : List (List Int)} {wv : Value} {F : Nat → Prop} (h : Js d w jp p n S gen groups used done waits wv) (u : Upd F w w') (hF : ∀ k ∈ Jf d p jp wv, ¬ F k) : Js d w' jp p n S gen groups used done waits wv := by
  have h1 : ¬ F jp := hF jp (by simp [Jf])
  exact ⟨h.jd.upd u (fun k hk => hF k (by simp [Jf, hk])), h.rest, u.heap h.jc h1, h.ji, u.own h.wait (fun k hk => hF k (by simp [Jf, vb, hk])), h.wok, h.room, h.jf, h.wf⟩
theorem Js.below {d : Dk} {w w' : World} {jp p n gen groups used : Nat} {S : Nat → List Int} {done waits : List (List Int)} {wv : Value} (h : Js d w jp p n S gen groups used done waits wv) (u : Below w.heap.size w w') : Js d w' jp p n S gen groups used done waits wv := h.upd (Upd.of_below (F := fun _ => False) u) (fun _ _ h => h)

theorem Jc.wait {w : World} {jp p gen first size groups used cnt : Nat} {wv : Value} (h : Jc w jp p gen first size groups used wv cnt) (wv' : Value) (c' : Nat) : Jc ((w.setCell ⟨jp, 6, none⟩ wv').setCell ⟨jp, 7, none⟩ (.int .i64 c')) jp p gen first size groups used wv' c' := by
  unfold Jc
  rw [heap_setCell_same _ jp 7 _ _ _ (heap_setCell_same w jp 6 _ _ _ h)]
  rfl

theorem jroom (jp p gen first size groups used cnt : Nat) (wv : Value) (w : World) (h : Jc w jp p gen first size groups used wv cnt) (hu : used ≤ size) (hs : size ≤ 4096) : Calls Tryz.prog 203 #[.pointer (some ⟨jp, 0, none⟩)] w fun e w' => e = .returned (.int .i64 ((size - used : Nat) : Int)) ∧ w' = w.drew := by
  have k := hid (jusable jp p gen first size groups used cnt wv w h)
  have c3 : w.cell? ⟨jp, 3, none⟩ = some (.int .i64 size) := heap_cells h 3 _ rfl
  have c5 : w.cell? ⟨jp, 5, none⟩ = some (.int .i64 used) := heap_cells h 5 _ rfl
  clear h
  go_enter Tryz.func203, Tryz.ntmps203
  go_wp2_with (first | (go_at_call 200; refine k.out.mono ?_; rintro r w1 ⟨rfl, h⟩; subst w1))
  go_region
  go_wp2_with fail
  go_ret
  have es : (size : Int) - (used : Int) = ((size - used : Nat) : Int) := by omega
  refine ⟨?_, rfl⟩
  show Ending.returned (.int .i64 ((size : Int) - (used : Int))) = _
  rw [es]

/-- What Append leaves. -/
def AppP (d : Dk) (w : World) (jp p n : Nat) (S : Nat → List Int) (gen groups used : Nat) (done waits : List (List Int)) (wv : Value) (zs : List Int) (e : Ending) (w' : World) : Prop :=
  ∃ (code : Nat) (wv' : Value), e = .returned (.int .i64 code) ∧ Js d w' jp p n S gen groups used done (if code = 0 then waits ++ [zs] else waits) wv' ∧ (code = 0 → RecOk zs) ∧ Upd (· ∈ Jf d p jp wv) w w' ∧ Grew' w (Jf d p jp wv) (Jf d p jp wv')

set_option maxHeartbeats 4000000 in
theorem append_any (d : Dk) (jp p n gen groups used : Nat) (S : Nat → List Int) (done waits : List (List Int)) (wv : Value) (a0 : Option Addr) (len cap : Nat) (zs : List Int) (w : World) (h : Js d w jp p n S gen groups used done waits wv) (hb : Bg w [] (.slice a0 len cap) zs) (hz : Bytes zs) :
    Calls Tryz.prog 158 #[.pointer (some ⟨jp, 0, none⟩), .slice a0 len cap] w (AppP d w jp p n S gen groups used done waits wv zs) := by
  obtain ⟨i0, hi0, hz0, hz1, hz2⟩ := info_parts Tryz.jinfo5
  obtain ⟨a', c', e', hs, hr2⟩ := hb
  injection e' with e1 e2 e3
  subst e1
  subst e2
  subst e3
  have hn2 : n ≤ 2048 := by rw [← h.jd.dn]; exact h.jd.ok.n2
  have hsz : szOf n ≤ 1024 := by unfold szOf; omega
  have huse := h.ji.use
  have hjl : jp < w.heap.size := (Array.getElem?_eq_some_iff.1 h.jc).1
  obtain ⟨len, glen⟩ : ∃ len, len = zs.length := ⟨_, rfl⟩
  rw [← glen] at hs hr2
  rw [← glen]
  have kU := hid (jusable jp p _ _ _ _ _ _ _ w h.jc)
  obtain ⟨W0, g0⟩ : ∃ W0, W0 = w.alloc (.cells #[.slice a0 len cap] 81) := ⟨_, rfl⟩
  have hb0 : Below w.heap.size w W0 := by rw [g0]; exact (Below.refl _ _).alloc (Nat.le_refl _) _
  have h0 := h.below hb0
  have hs0 := hs.below hb0
  have him : Img W0 (some ⟨w.heap.size, 0, none⟩) [zs] := fun _ => by
    refine ⟨w.heap.size, 0, rfl, by rw [g0]; simp, fun j hj => ?_⟩
    have : j = 0 := by simpa using hj
    subst this
    have hbg : Bg W0 [] (.slice a0 len cap) zs := ⟨a0, cap, by rw [glen], by rw [← glen]; exact hs0, fun _ b o _ hx => (by simp at hx), by rw [← glen]; exact hr2.2.1, hr2.2.2.1, by rw [← glen]; exact hr2.2.2.2.1, by rw [← glen]; exact hr2.2.2.2.2⟩
    refine ⟨.slice a0 len cap, ?_, hbg⟩
    rw [g0]
    exact heap_cells (heap_alloc_new w (.cells #[.slice a0 len cap] 81)) 0 _ rfl
  have kR := hid (refused_any (some ⟨w.heap.size, 0, none⟩) 1 1 [zs] W0 him rfl (by omega) (by omega))
  have HC0 := hid (fun hc : refC [zs] = 0 => refC_zero hc zs (by simp))
  obtain ⟨C, gC⟩ : ∃ C, C = refC [zs] := ⟨_, rfl⟩
  rw [← gC] at kR HC0
  have HH := hid h
  have HH0 := hid h0
  have HS0 := hid hs0
  have HZ := hid hz
  have G0 := hid g0
  have HB0 := hid hb0
  have GL := hid glen
  clear h h0 hs hs0 hz g0 hb0 glen him gC hr2
  go_enter Tryz.func158, Tryz.ntmps158
  by_cases hC : C = 0
  · subst hC
    have hzl := HC0.out rfl
    rw [← GL.out] at hzl
    have kT := hid (astext_any a0 len cap zs W0 HS0.out HZ.out hzl.2)
    go_upto_region 7 with (first | (go_at_call 200; refine kU.out.mono ?_; rintro r w1 ⟨rfl, h⟩; subst w1) | (go_at_call 201; rw [← G0.out]; refine kR.out.mono ?_; rintro r w1 ⟨rfl, h⟩; subst w1) | (go_at_call 202; refine kT.out.mono ?_; rintro r w2 ⟨tc, rfl, ho2, hb2⟩; have HO2 := hid ho2; have HB2 := hid hb2; clear ho2 hb2))
    obtain ⟨aw, cw, gwv, hw1, hw2⟩ := own_shape HH.out.wait
    have hJ2 : Js d w2 jp p n S gen groups used done waits wv := HH0.out.below HB2.out
    have hroomN := HH.out.room
    obtain ⟨ln, gln⟩ : ∃ ln, ln = (loadOf waits).length := ⟨_, rfl⟩
    obtain ⟨tl, gtl⟩ : ∃ tl, tl = (txtB zs).length := ⟨_, rfl⟩
    rw [← gln] at gwv hw1 hroomN
    rw [← gtl] at HO2
    rw [← gtl]
    have htl : tl ≤ 2009 := by
      have hl := GL.out
      rw [gtl, txtB, List.length_append, length_enc]
      have := cnt_8 zs.length (by omega)
      omega
    have hlnb : ln ≤ 102400 := by unfold needN at hroomN; omega
    have hjc2 := hJ2.jc
    rw [gwv] at hjc2
    have c6 : w2.cell? ⟨jp, 6, none⟩ = some (.slice aw ln cw) := heap_cells hjc2 6 _ rfl
    have kn := hid (fun wx => need_any (ln + tl) wx (by omega))
    have en : (ln + tl + 99) / 100 = needN (ln + tl) := rfl
    rw [en] at kn
    have kr := hid (jroom jp p _ _ _ _ _ _ _ w2 hJ2.jc huse (by omega))
    have e1 : (ln : Int) + (tl : Int) = ((ln + tl : Nat) : Int) := by omega
    obtain ⟨lt, glt⟩ : ∃ lt, lt = ln + tl := ⟨_, rfl⟩
    rw [← glt] at kn e1
    obtain ⟨NN, gNN⟩ : ∃ NN, NN = needN lt := ⟨_, rfl⟩
    obtain ⟨RR, gRR⟩ : ∃ RR, RR = szOf n - used := ⟨_, rfl⟩
    rw [← gNN] at kn
    rw [← gRR] at kr
    have HJ2 := hid hJ2
    have GW := hid gwv
    have GLN := hid gln
    have GTL := hid gtl
    have GLT := hid glt
    have GNN := hid gNN
    have GRR := hid gRR
    have hB02 : Below w.heap.size w w2 := HB0.out.trans (HB2.out.mono HB0.out.size)
    have HB02 := hid hB02
    clear hJ2 gwv gln gtl glt gNN gRR en hB02 kU kR kT hjc2
    by_cases hfull : RR < NN
    · have hfv : (RR : Int) < (NN : Int) := by omega
      go_wp2_with (first | (go_at_call 190; refine (kn.out _).mono ?_; rintro r wn ⟨rfl, h⟩; subst wn) | (go_at_call 203; refine kr.out.mono ?_; rintro r wn ⟨rfl, h⟩; subst wn))
      go_ret
      exact ⟨4, wv, rfl, HJ2.out.below (below_drewN (Below.refl _ _) 1), fun h => absurd h (by omega), Upd.of_below (below_drewN HB02.out 1), fun _ h => .inl h⟩
    · have hfv : ¬ (RR : Int) < (NN : Int) := by omega
      go_upto_region 9 with (first | (go_at_call 190; refine (kn.out _).mono ?_; rintro r wn ⟨rfl, h⟩; subst wn) | (go_at_call 203; refine kr.out.mono ?_; rintro r wn ⟨rfl, h⟩; subst wn))
      have HJ3 : Hid (Js d w2.drew jp p n S gen groups used done waits wv) := hid (HJ2.out.below (below_drewN (Below.refl _ _) 1))
      have HWT : Hid (w2.drew.ownsRow 0 5 1 (.slice aw ln cw) ln ((loadOf waits).map (Value.int .u8))) := hid (by have := HJ3.out.wait; rw [← GLN.out, GW.out] at this; exact this)
      have HTX : Hid (Src w2.drew (some ⟨W0.heap.size, 0, none⟩) tl (txtB zs)) := hid (Src.own HO2.out)
      go_upto_region 10 with (at_builtin; go_must (refine wpList_append_where rfl _ _ 81 rfl 5 i0 _ 1 1 Tryz.underlying81 hi0 hz0 hz1 hz2 rfl (by decide) (.slice aw ln cw) ln _ rfl HWT.out ⟨W0.heap.size, 0, none⟩ tl tc ((txtB zs).map (Value.int .u8)) rfl (by rw [List.length_map, Nat.mul_one, GTL.out]) (src_cells HTX.out) (u8_one _) (by unfold maxLen; omega) (by omega) ?_; intro wv' w4 hO4 hU4 hN4 hW4; have HO4 := hO4; have HW4 := hW4; have hU4' : Upd (fun x => wv.ownBlock = some x) w2.drew w4 := (by rw [GW.out]; exact hU4); have hjw : wv.ownBlock ≠ some jp := (fun h => (HJ3.out.wf jp h).2 rfl); have hJ4 := hU4'.heap HJ3.out.jc hjw; have f6 : w4.frozen? ⟨jp, 6, none⟩ = false := frozen_of_row w4 jp 6 _ _ hJ4; have e6 : w4.cell? ⟨jp, 6, none⟩ = some wv := heap_cells hJ4 6 _ rfl; have HU4 := hid hU4'; have HJ4 := hid hJ4; obtain ⟨aw', cw', gwv', _, _⟩ := own_shape hO4.out; subst gwv'; clear hO4 hU4 hN4 hW4 hU4' hJ4))
      obtain ⟨m, gm⟩ : ∃ m, m = waits.length := ⟨_, rfl⟩
      have e7 : w4.cell? ⟨jp, 7, none⟩ = some (.int .i64 m) := by rw [gm]; exact heap_cells HJ4.out 7 _ rfl
      have f7 : w4.frozen? ⟨jp, 7, none⟩ = false := frozen_of_row w4 jp 7 _ _ HJ4.out
      have hmb : m ≤ ln := by
        have h1 : ∀ L : List (List Int), L.length ≤ (loadOf L).length := fun L => by
          induction L with
          | nil => simp
          | cons a r ih =>
            have := enc_pos a.length
            simp only [loadOf, List.map_cons, List.flatten_cons, txtB, List.length_append, List.length_cons] at ih ⊢
            omega
        rw [gm, GLN.out]; exact h1 waits
      have hfin : AppP d w jp p n S gen groups used done waits wv zs (.returned (.int .i64 0)) ((w4.setCell ⟨jp, 6, none⟩ (.slice aw' (ln + tl) cw')).setCell ⟨jp, 7, none⟩ (.int .i64 ((m : Int) + 1))) := by
        obtain ⟨W6, gW6⟩ : ∃ W6, W6 = (w4.setCell ⟨jp, 6, none⟩ (.slice aw' (ln + tl) cw')).setCell ⟨jp, 7, none⟩ (.int .i64 ((m : Int) + 1)) := ⟨_, rfl⟩
        rw [← gW6]
        have hU6 : Upd (· = jp) w4 W6 := by
          rw [gW6]
          exact (Upd.setCell (F := (· = jp)) w4 ⟨jp, 6, none⟩ _ rfl).trans (Upd.setCell (F := (· = jp)) _ ⟨jp, 7, none⟩ _ rfl) (fun _ _ h => h)
        have hJ6 : Jc W6 jp p gen (firstOf gen n) (szOf n) groups used (.slice aw' (ln + tl) cw') (waits ++ [zs]).length := by
          have := (show Jc w4 jp p gen (firstOf gen n) (szOf n) groups used wv waits.length from HJ4.out).wait (.slice aw' (ln + tl) cw') (waits.length + 1)
          rw [gW6, gm, List.length_append, List.length_singleton]
          exact this
        have hw2s := HB02.out.size
        have hwo : ∀ k, (Value.slice aw' (ln + tl) cw').ownBlock = some k → wv.ownBlock = some k ∨ w2.heap.size ≤ k := fun k hk => by
          rcases HW4.out with h | h
          · left; rw [GW.out, ← h]; exact hk
          · exact .inr (h k hk)
        have hwf : ∀ k, (Value.slice aw' (ln + tl) cw').ownBlock = some k → k ∉ d.foot p ∧ k ≠ jp := fun k hk => by
          rcases hwo k hk with h | h
          · exact HJ3.out.wf k h
          · refine ⟨fun hx => ?_, fun e => ?_⟩
            · have := HH.out.jd.ok.lt k hx; omega
            · omega
        have hd4 : Jd d W6 p n S := (HJ3.out.jd.upd HU4.out (fun k hk e => (HJ3.out.wf k e).1 hk)).upd hU6 (fun k hk e => HJ3.out.jf (e ▸ hk))
        have hl6 : loadOf (waits ++ [zs]) = loadOf waits ++ txtB zs := by rw [loadOf_append]; simp [loadOf]
        have hlen6 : (loadOf (waits ++ [zs])).length = ln + tl := by rw [hl6, List.length_append, ← GLN.out, ← GTL.out]
        refine ⟨0, .slice aw' (ln + tl) cw', rfl, ?_, fun _ => ⟨by rw [← GL.out]; exact hzl.1, by rw [← GL.out]; exact hzl.2, HZ.out⟩, ?_, ?_⟩
        · rw [if_pos rfl]
          refine ⟨hd4, HJ3.out.rest, hJ6, HJ3.out.ji, ?_, ?_, ?_, HJ3.out.jf, hwf⟩
          · rw [hlen6, hl6, List.map_append]
            exact hU6.own HO4.out (fun k hk e => (hwf k hk).2 e)
          · intro r hr
            rcases List.mem_append.1 hr with h | h
            · exact HJ3.out.wok r h
            · simp at h; subst h; exact ⟨by rw [← GL.out]; exact hzl.1, by rw [← GL.out]; exact hzl.2, HZ.out⟩
          · rw [hlen6, ← GLT.out, ← GNN.out, ← GRR.out]; omega
        · refine (((Upd.of_below (F := (· ∈ Jf d p jp wv)) (below_drewN HB02.out 1)).trans HU4.out (fun x _ h => ?_)).trans hU6 (fun x _ h => ?_))
          · have h' : wv.ownBlock = some x := h
            simp [Jf, vb, h']
          · have h' : x = jp := h
            simp [Jf, h']
        · intro x hx
          simp only [Jf, List.mem_cons, List.mem_append] at hx ⊢
          rcases hx with h | h | h
          · exact .inl (.inl h)
          · rcases hwo x (by simpa [vb] using h) with h' | h'
            · exact .inl (.inr (.inl (by simp [vb, h'])))
            · exact .inr (by omega)
          · exact .inl (.inr (.inr h))
      have HFIN := hid hfin
      clear hfin gm
      go_wp2_with fail
      go_ret
      exact HFIN.out
  · have hCv : ¬ (C : Int) = 0 := by omega
    go_wp2_with (first | (go_at_call 200; refine kU.out.mono ?_; rintro r w1 ⟨rfl, h⟩; subst w1) | (go_at_call 201; rw [← G0.out]; refine kR.out.mono ?_; rintro r w1 ⟨rfl, h⟩; subst w1))
    go_ret
    exact ⟨C, wv, rfl, by rw [if_neg hC]; exact HH0.out, fun h => absurd h hC, Upd.of_below HB0.out, fun _ h => .inl h⟩

end Go.Proofs.YtbgommpdmnbplaaGreatDoor
