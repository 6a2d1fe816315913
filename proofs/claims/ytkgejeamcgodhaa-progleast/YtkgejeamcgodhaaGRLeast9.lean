/- The least argument of a type: the document's least (kind 9). Written by gen_rl3.py. -/
import Derived.Test.YtkgejeamcgodhaaGRLeast1
import Derived.Deep.RegionLaw
namespace Go.Proofs.Ytkgejeamcgodhaa
open Go.RowKit
set_option linter.unusedVariables false
set_option maxRecDepth 20000

set_option maxHeartbeats 8000000 in
theorem rleast_9 (a : Option Addr) (m c : Nat) (a2 : Option Addr) (m2 c2 : Nat) (l : List Ty) (n : Nat) (ih : ∀ t, t < n → RLeastAt a m c a2 m2 c2 l t) (hm : l.length = m) (hmb : m ≤ 9223372036854775807) (w : World) (hT : Tys w a l) (hn : n < l.length) (T : Ty) (hl : l[n] = T) (hk : T.k = 9) (he1 : 1 ≤ T.en) (hah : ahead n T.es = true) :
    Calls Try.prog 38 #[.agg #[.slice a m c, .slice a2 m2 c2], .int .i64 n] w fun e w' => ∃ A : Ar, e = .returned (.agg #[.int .i64 A.h.k, .int .i64 A.h.v, .slice A.h.ka A.h.kn A.h.kc, .slice A.h.ba A.h.bn A.h.bc]) ∧ Oka (w.heap.size ≤ ·) (n + 1) w' A ∧ Lst l (n + 1) n A ∧ Below w.heap.size w w' := by
  have HT := hid hT
  obtain ⟨tb, to', rfl, htb, hts⟩ := hT (by omega)
  have HTA := hid (hl ▸ (hts n hn).1)
  have HTO := hid (hl ▸ (hts n hn).2)
  have HLn : Hid (l[n]? = some T) := hid (by rw [List.getElem?_eq_getElem hn, hl])
  have hnm : (n : Int) < (m : Int) := by omega
  obtain ⟨X, gX⟩ : ∃ X, (((w.alloc (.cells #[.slice (some ⟨tb, to', none⟩) m c, .slice a2 m2 c2] 25)).alloc (.cells #[.int .i64 0, .int .i64 0, .slice none 0 0, .slice none 0 0] 30)).alloc (.cells #[.int .i64 0, .int .i64 0, .int .i64 0, .int .i64 0, .int .i64 0, .string ⟨#[]⟩, .slice none 0 0, .slice none 0 0, .slice none 0 0, .slice none 0 0] 52)).setCells (w.heap.size + 1 + 1) 0 (tyC T) = X := ⟨_, rfl⟩
  have HX : Hid (Hed w X (some ⟨tb, to', none⟩) m c a2 m2 c2 T) := hid (by rw [← gX]; exact hed_of w _ m c a2 m2 c2 T)
  have HYT : Hid (((w.alloc (.cells #[.slice (some ⟨tb, to', none⟩) m c, .slice a2 m2 c2] 25)).alloc (.cells #[.int .i64 0, .int .i64 0, .slice none 0 0, .slice none 0 0] 30)).rangeAt tb (to' + n * 10) (tyC T)) := hid (HTA.out.below (below_box2 w _ _) htb).range
  have HTH : Hid ((((w.alloc (.cells #[.slice (some ⟨tb, to', none⟩) m c, .slice a2 m2 c2] 25)).alloc (.cells #[.int .i64 0, .int .i64 0, .slice none 0 0, .slice none 0 0] 30)).alloc (.cells #[.int .i64 0, .int .i64 0, .int .i64 0, .int .i64 0, .int .i64 0, .string ⟨#[]⟩, .slice none 0 0, .slice none 0 0, .slice none 0 0, .slice none 0 0] 52)).there (w.heap.size + 1 + 1) 0 10) := hid (there_of_block (t := 52) (C := [Value.int .i64 0, .int .i64 0, .int .i64 0, .int .i64 0, .int .i64 0, .string ⟨#[]⟩, .slice none 0 0, .slice none 0 0, .slice none 0 0, .slice none 0 0]) (heap3 w _ _ _).2.2 0 10 (by simp))
  have HO1 : Hid ((tyC T).toArray.all (·.oneCell') = true) := hid (by simp [tyC, Value.oneCell'])
  have HL10 : Hid ((tyC T).length = 10) := hid rfl
  have q : ∀ u v, (tyC T)[u]? = some v → X.cell? ⟨w.heap.size + 1 + 1, u, none⟩ = some v := fun u v hv => by
    rw [cell_of_row X _ u _ _ _ HX.out.b2]; simpa using hv
  have q0 : X.cell? ⟨w.heap.size + 1 + 1, 0, none⟩ = some (.int .i64 T.k) := q 0 _ rfl
  have x0 := HX.out.b0
  have y0 : X.cell? ⟨w.heap.size, 0, none⟩ = some (.slice (some ⟨tb, to', none⟩) m c) := cell_of_row _ _ 0 _ _ _ x0
  have y1 : X.cell? ⟨w.heap.size, 1, none⟩ = some (.slice a2 m2 c2) := cell_of_row _ _ 1 _ _ _ x0
  obtain ⟨C, hC, x1⟩ := HX.out.b1
  have HC := hid hC
  have HX1 := hid x1
  have HYX : Hid (X.rangeAt (w.heap.size + 1 + 1) 0 (tyC T)) := hid (rangeAt_block HX.out.b2)
  obtain ⟨kd, hkd⟩ : ∃ kd, kd = rkindI T ⟨0, 0, none, 0, 0, none, 0, 0, []⟩ := ⟨_, rfl⟩
  have k0 : Hid (Calls Try.prog 65 #[.agg (tyC T).toArray, .agg #[.int .i64 0, .int .i64 0, .slice none 0 0, .slice none 0 0]] X fun e w' => e = .returned (.int .i64 kd) ∧ Below X.heap.size X w') := hid (hkd ▸ rkind_any T ⟨0, 0, none, 0, 0, none, 0, 0, []⟩ X)
  have HKD := hid hkd
  clear hkd
  rw [hk] at q0
  have IH := hid ih
  have HAH := hid hah
  clear ih hah
  clear x0 x1 hC q
  generalize hTC : tyC T = TC at *
  have HTC := hid hTC
  have GX := hid gX
  have HTS := hid hts
  have HL := hid hl
  clear hTC gX hts hl hT
  have hst1 := (run_cells_mid (P := Try.prog) _ (w.heap.size + 1 + 1) 0 TC (by rw [HL10.out]; exact HTH.out) HO1.out).trans (congrArg _ GX.out)
  go_enter Try.func38, Try.ntmps38
  go_wp2_with (first
    | (refine wpList_load_mid rfl 52 (.tmp 13) rfl tb (to' + n * 10) rfl TC _ HYT.out Try.underlying52 rfl (by rw [HL10.out]; exact csizeT) ?_)
    | (refine wpList_load_mid rfl 52 (.tmp 5) rfl (w.heap.size + 1 + 1) 0 rfl TC _ HYX.out Try.underlying52 rfl (by rw [HL10.out]; exact csizeT) ?_))
  refine k0.out.mono ?_
  rintro e w1 ⟨rfl, hb1⟩
  have hs1 : w.heap.size + 1 + 1 < w1.heap.size := by have := hb1.size; have := HX.out.s; omega
  have v0 : w1.heap[w.heap.size]? = some (.cells #[.slice (some ⟨tb, to', none⟩) m c, .slice a2 m2 c2] 25 (0, 0)) := (hb1.block _ (by rw [HX.out.s]; omega)).trans HX.out.b0
  have v1 : w1.heap[w.heap.size + 1]? = some (.cells C.toArray 30 (0, 0)) := (hb1.block _ (by rw [HX.out.s]; omega)).trans HX1.out
  have v2 : w1.heap[w.heap.size + 1 + 1]? = some (.cells (tyC T).toArray 52 (0, 0)) := (hb1.block _ (by rw [HX.out.s]; omega)).trans HX.out.b2
  have HB1 : Hid (Below w.heap.size w w1) := hid (HX.out.B.trans (hb1.mono HX.out.B.size))
  obtain ⟨Y, gY⟩ : ∃ Y, Y = w1.alloc (.cells #[.int .i64 kd, .int .i64 0, .slice none 0 0, .slice none 0 0] 30) := ⟨_, rfl⟩
  have bY : Below w1.heap.size w1 Y := by rw [gY]; exact below_box _ _
  have HYs : Hid (Y.heap.size = w1.heap.size + 1) := hid (by rw [gY]; simp)
  have V0 := hid ((bY.block _ (by omega)).trans v0)
  have V1 := hid ((bY.block _ (by omega)).trans v1)
  have V2 := hid ((bY.block _ (by omega)).trans v2)
  have VP : Hid (Y.heap[w1.heap.size]? = some (.cells #[.int .i64 kd, .int .i64 0, .slice none 0 0, .slice none 0 0] 30 (0, 0))) := hid (by rw [gY]; exact heap_alloc_new _ _)
  have HBY : Hid (Below w.heap.size w Y) := hid (HB1.out.trans (bY.mono HB1.out.size))
  have r : ∀ u v, (tyC T)[u]? = some v → w1.cell? ⟨w.heap.size + 1 + 1, u, none⟩ = some v := fun u v hv => by
    rw [cell_of_row w1 _ u _ _ _ v2]; simpa using hv
  have r0 : w1.cell? ⟨w.heap.size + 1 + 1, 0, none⟩ = some (.int .i64 T.k) := r 0 _ rfl
  rw [hk] at r0
  have r8 : w1.cell? ⟨w.heap.size + 1 + 1, 8, none⟩ = some (.slice T.ea T.en T.ec) := r 8 _ rfl
  have GY := hid gY
  clear hb1 v0 v1 v2 r bY gY k0
  go_wp2_with fail
  rw [← GY.out]
  obtain ⟨i0, hi0, hz0, hz1, hz2⟩ := info_parts infoA
  have HEL := hid HTO.out.el
  obtain ⟨eb, eo, hea, hel, hec⟩ := HTO.out.es (by rw [HEL.out]; omega)
  have HEA := hid hea
  have HKTp : Hid (∀ t : Nat, T.es.getD 0 0 = (t : Int) → kdT T = List.replicate 1 (t : Int)) := hid (fun t ht => by
    have h1 : 0 < T.es.length := by rw [HEL.out]; omega
    rw [List.getD_eq_getElem?_getD, List.getElem?_eq_getElem h1] at ht
    have h2 : T.es.take 1 = [T.es[0]] := by rw [List.take_add_one, List.take_zero, List.getElem?_eq_getElem h1]; rfl
    simp only [kdT, hk]
    simp only [Option.getD_some] at ht
    simp [h2, ht])
  have hx0 := ahead_at HAH.out 0 (by rw [HEL.out]; omega)
  obtain ⟨t, ht⟩ : ∃ t : Nat, T.es.getD 0 0 = (t : Int) := ⟨(T.es.getD 0 0).toNat, by omega⟩
  obtain ⟨PS, gPS⟩ : ∃ PS, PS = List.replicate 1 (t : Int) := ⟨_, rfl⟩
  have HPL : Hid (PS.length = 1) := hid (by rw [gPS]; simp)
  have HPT : Hid (∀ i, i < 1 → PS.getD i 0 = (t : Int)) := hid (fun i hi => by rw [gPS]; simp [List.getD, hi])
  have htn : t + 1 ≤ n := by omega
  have HKT := hid (HKTp.out t ht)
  have HE0 := hid (hec 0 (by rw [HEL.out]; omega))
  have HT0 := hid ht
  have HPS := hid gPS
  have hen0 : (0 : Int) < (T.en : Int) := by omega
  have hen1 : 0 < T.en := by omega
  clear ht hx0 gPS
  have HS := hid (Rp.start (N := n) (l := l) (ps := PS) (p := w1.heap.size) VP.out)
  clear hec r0 r8 hea
  go_loopw [58] (fun k wr => ∃ (i : Nat) (qs : List Ar) (kv : Value), i ≤ 1 ∧ k = .int .i64 i ∧ Hid (Rp Y wr w1.heap.size n kd 0 (.slice none 0 0) l PS i qs kv)) (fun k _ => 1 - (intOf k).toNat)
  case atStart => exact ⟨0, [], _, Nat.zero_le _, rfl, HS⟩
  case round =>
    obtain ⟨i, qs, kv, hi, rfl, HP⟩ := hrel
    have hYs := HYs.out
    have W0 := HP.out.upd.heap V0.out (show ¬ w.heap.size = w1.heap.size by omega)
    have W1 := HP.out.upd.heap V1.out (show ¬ w.heap.size + 1 = w1.heap.size by omega)
    have W2 := HP.out.upd.heap V2.out (show ¬ w.heap.size + 1 + 1 = w1.heap.size by omega)
    have HBr : Hid (Below w.heap.size w wr) := hid (HBY.out.trans (HP.out.upd.below HBY.out.size (fun x hx => by omega)))
    have b0 : wr.cell? ⟨w.heap.size, 0, none⟩ = some (.slice (some ⟨tb, to', none⟩) m c) := cell_of_row _ _ 0 _ _ _ W0
    have b1 : wr.cell? ⟨w.heap.size, 1, none⟩ = some (.slice a2 m2 c2) := cell_of_row _ _ 1 _ _ _ W0
    have r : ∀ u v, (tyC T)[u]? = some v → wr.cell? ⟨w.heap.size + 1 + 1, u, none⟩ = some v := fun u v hv => by
      rw [cell_of_row wr _ u _ _ _ W2]; simpa using hv
    have r0 : wr.cell? ⟨w.heap.size + 1 + 1, 0, none⟩ = some (.int .i64 9) := by rw [← hk]; exact r 0 _ rfl
    have r8 : wr.cell? ⟨w.heap.size + 1 + 1, 8, none⟩ = some (.slice (some ⟨eb, eo, none⟩) T.en T.ec) := by rw [← HEA.out]; exact r 8 _ rfl
    have p0 : wr.cell? ⟨w1.heap.size, 0, none⟩ = some (.int .i64 kd) := cell_of_row _ _ 0 _ _ _ HP.out.blk
    have p1 : wr.cell? ⟨w1.heap.size, 1, none⟩ = some (.int .i64 0) := cell_of_row _ _ 1 _ _ _ HP.out.blk
    have p2 : wr.cell? ⟨w1.heap.size, 2, none⟩ = some kv := cell_of_row _ _ 2 _ _ _ HP.out.blk
    have p3 : wr.cell? ⟨w1.heap.size, 3, none⟩ = some (.slice none 0 0) := cell_of_row _ _ 3 _ _ _ HP.out.blk
    have HW0 := hid W0
    have HW1 := hid W1
    have hwr : Y.heap.size ≤ wr.heap.size := HP.out.upd.size
    clear r W0 W1 W2
    by_cases hlt : i < 1
    · have hil : i < PS.length := by rw [HPL.out]; exact hlt
      have hci : wr.cell? ⟨eb, eo, none⟩ = some (.int .i64 t) := (HBr.out.cell (p := ⟨eb, eo, none⟩) hel).trans (by rw [← HT0.out]; exact HE0.out)
      have HTt := hid (HPT.out i hlt)
      have k1 : Hid (∀ Z, Below w.heap.size w Z → Calls Try.prog 38 #[.agg #[.slice (some ⟨tb, to', none⟩) m c, .slice a2 m2 c2], .int .i64 t] Z fun e w' => ∃ A : Ar, e = .returned (.agg #[.int .i64 A.h.k, .int .i64 A.h.v, .slice A.h.ka A.h.kn A.h.kc, .slice A.h.ba A.h.bn A.h.bc]) ∧ Oka (Z.heap.size ≤ ·) (t + 1) w' A ∧ Lst l (t + 1) t A ∧ Below Z.heap.size Z w') := hid fun Z hZ => IH.out t (by omega) Z (HT.out.below hZ) (by omega)
      have hne : ¬ ((T.en : Int) = 0) := by omega
      have hli : (i : Int) < (1 : Int) := by omega
      go_wp2_with fail
      have hk0 : wr.cell? ⟨w.heap.size, 0, none⟩ = some (.slice (some ⟨tb, to', none⟩) m c) ∧ wr.cell? ⟨w.heap.size, 1, none⟩ = some (.slice a2 m2 c2) ∧ wr.cell? ⟨w.heap.size + 1 + 1, 8, none⟩ = some (.slice (some ⟨eb, eo, none⟩) T.en T.ec) ∧ wr.cell? ⟨eb, eo, none⟩ = some (.int .i64 t) := ⟨b0, b1, r8, hci⟩
      have hn1 : w.heap.size ≠ w1.heap.size := by omega
      have hn2 : w.heap.size + 1 + 1 ≠ w1.heap.size := by omega
      have hn3 : eb ≠ w1.heap.size := by omega
      have HOW := hid HP.out.own
      have hlow : ∀ x, x < Y.heap.size → some x ≠ kv.ownBlock := fun x hx e => by have := (own_lt HOW.out e.symm).1; omega
      have HLOW := hid hlow
      have helY : eb < Y.heap.size := by omega
      clear hlow
      go_region_law (first
        | (go_simp; go_at_call 38; refine (k1.out _ (below_hp HBr.out (by rfl) (by rfl) (by rfl) (by rfl))).mono ?_; rintro e w2 ⟨A, rfl, hA, hL, hb2⟩; have HB2 : Hid (Below wr.heap.size wr w2) := hid ((below_hp (Below.refl _ wr) (by rfl) (by rfl) (by rfl) (by rfl)).trans hb2); have hk2 : w2.cell? ⟨w.heap.size, 0, none⟩ = some (.slice (some ⟨tb, to', none⟩) m c) ∧ w2.cell? ⟨w.heap.size, 1, none⟩ = some (.slice a2 m2 c2) ∧ w2.cell? ⟨w.heap.size + 1 + 1, 8, none⟩ = some (.slice (some ⟨eb, eo, none⟩) T.en T.ec) ∧ w2.cell? ⟨eb, eo, none⟩ = some (.int .i64 t) := ⟨(HB2.out.cell (by show w.heap.size < _; omega)).trans b0, (HB2.out.cell (by show w.heap.size < _; omega)).trans b1, (HB2.out.cell (by show w.heap.size + 1 + 1 < _; omega)).trans r8, (HB2.out.cell (by show eb < _; omega)).trans hci⟩; have pw2 : w2.cell? ⟨w1.heap.size, 2, none⟩ = some kv := (HB2.out.cell (by show w1.heap.size < _; omega)).trans p2; have HA := hid hA; have HL := hid hL; have hs2 : wr.heap.size ≤ w2.heap.size := HB2.out.size; have HO2 : Hid (∀ o, (w2.alloc o).ownsRow Y.heap.size 30 4 kv i (rowC qs)) := hid (fun o => own_below HOW.out (HB2.out.trans ((below_box w2 o).mono HB2.out.size))); have hpl : w1.heap.size < w2.heap.size := (by omega); have y1 := hk2.1; have y2 := hk2.2.1; have y3 := hk2.2.2.1; have y4 := hk2.2.2.2; clear hA hL hb2)
        | (refine step_append_lies _ (by rfl) _ _ 27 (by rfl) Y.heap.size 30 i0 _ 4 64 Try.underlying27 hi0 hz0 hz1 hz2 rfl (by decide) kv i (rowC qs) (by rfl) (HO2.out _) ⟨w2.heap.size, 0, none⟩ 1 1 (arC A.h) (by rfl) rfl (World.news_of_block (heap_alloc_new w2 _)) (by simp [arC, Value.oneCell']) (by decide) (by unfold maxLen; omega) (by omega) (by simp; omega) (w2.heap.size + 1) (by simp) ?_; intro g cap w3 hown3 hgrow hat hlt3; have far : ∀ b o, b < Y.heap.size → w3.cell? ⟨b, o, none⟩ = w2.cell? ⟨b, o, none⟩ := (fun b o hb => (hgrow.cell_far ⟨b, o, none⟩ (by simp; omega) (HLOW.out b hb)).trans ((below_box w2 _).cell (p := ⟨b, o, none⟩) (by show b < _; omega))); have hk3 : w3.cell? ⟨w.heap.size, 0, none⟩ = some (.slice (some ⟨tb, to', none⟩) m c) ∧ w3.cell? ⟨w.heap.size, 1, none⟩ = some (.slice a2 m2 c2) ∧ w3.cell? ⟨w.heap.size + 1 + 1, 8, none⟩ = some (.slice (some ⟨eb, eo, none⟩) T.en T.ec) ∧ w3.cell? ⟨eb, eo, none⟩ = some (.int .i64 t) := ⟨(far _ _ (by omega)).trans hk2.1, (far _ _ (by omega)).trans hk2.2.1, (far _ _ (by omega)).trans hk2.2.2.1, (far _ _ (by omega)).trans hk2.2.2.2⟩; have pw3 : w3.cell? ⟨w1.heap.size, 2, none⟩ = some kv := (far _ _ (by omega)).trans pw2; have bp : w3.heap[w1.heap.size]? = some (.cells #[.int .i64 kd, .int .i64 0, kv, .slice none 0 0] 30 (0, 0)) := ((hgrow.block _ (by simp; omega) (HLOW.out _ (by omega))).trans ((below_box w2 _).block _ (by omega))).trans ((HB2.out.block _ (by omega)).trans HP.out.blk); have fz3 : w3.frozen? ⟨w1.heap.size, 2, none⟩ = false := (by simp [World.frozen?, bp]); have HO3 := hid hown3; have HG3 := hid hgrow; have HAT := hid hat; have HLT := hid hlt3; clear bp far hown3 hgrow hat hlt3))
      all_goals
        have HN := hid (HP.out.step (show w1.heap.size < Y.heap.size by omega) hil HB2.out (Oka.more _ _ HA.out n htn) (by rw [HTt.out]; exact Lst.more _ _ _ HL.out n htn) _ HO3.out HG3.out HAT.out HLT.out)
        clear fz3 hk0 hk2 hk3
        go_wp2_with fail
        go_roundw
        case rel => exact ⟨i + 1, qs ++ [A], _, by omega, by go_num, HN⟩
        case measure => simp [intOf]; omega
    · obtain rfl : i = 1 := by omega
      rcases HP.out.own.2 with ⟨_, h0⟩ | ⟨g, cap, cur, hkv, _⟩
      · omega
      · subst hkv
        have hF := Oka.mono (Q := (w.heap.size + 1 + 1 ≤ ·)) (fun x _ hx => by omega) _ _ (HP.out.fin kd 0)
        obtain ⟨W, gW⟩ : ∃ W, wr.setCells (w.heap.size + 1) 0 (arC ⟨kd, 0, some ⟨g, 0, none⟩, 1, cap, none, 0, 0, []⟩) = W := ⟨_, rfl⟩
        have HE := hid (rleast_end HBr.out HW1.out HC.out hF)
        simp only [Ar.h, gW] at HE
        have GW := hid gW
        have HLS : Hid (Lst l (n + 1) n (.mk ⟨kd, 0, some ⟨g, 0, none⟩, 1, cap, none, 0, 0, []⟩ qs)) := hid ⟨T, HLn.out, by rw [HKD.out]; simp [lstH, rkindI, hk, Ar.h], by have := HP.out.all; rw [← HPL.out, List.take_length, HPS.out] at this; rw [HKT.out]; exact this⟩
        clear gW hF
        go_wp2_with (refine wpList_store_as rfl 30 (.tmp 4) (.tmp 82) rfl (w.heap.size + 1) 0 (arC ⟨kd, 0, some ⟨g, 0, none⟩, 1, cap, none, 0, 0, []⟩).toArray rfl rfl (there_of_block HW1.out 0 4 (by rw [HC.out]; decide)) csizeA (by simp [arC, Value.oneCell']) W GW.out ?_)
        refine bodyPost_ret (cell_result rfl _ _ (w.heap.size + 1) 0 rfl (arC ⟨kd, 0, some ⟨g, 0, none⟩, 1, cap, none, 0, 0, []⟩) _ HE.out.1 Try.underlying30 rfl csizeA) rfl ?_
        exact ⟨.mk ⟨kd, 0, some ⟨g, 0, none⟩, 1, cap, none, 0, 0, []⟩ qs, rfl, HE.out.2.1, HLS.out, HE.out.2.2⟩
end Go.Proofs.Ytkgejeamcgodhaa
