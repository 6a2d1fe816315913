/- What the document's Write does where the last epoch is open: the walk. -/
import Derived.Test.YtcophmafkpbdaaaR2old
namespace Go.Proofs.Ytcophmafkpbdaaa
open Go.RowKit
set_option linter.unusedVariables false

set_option maxHeartbeats 8000000 in
set_option maxRecDepth 20000 in
theorem rwrite_old (x : Rk) (q i cap l : Nat) (a0 : Addr) (M : List Nat) (bs : List Int) (es : List (Nat × List Int)) (w : World) (h : x.ok w q M) (hM : ∀ y ∈ M, y < w.heap.size) (hi : i < x.n) (hb : Byt w M (.slice (some a0) 128 cap) bs) (hsl : x.sl = false) (hl : x.E.length = l + 1) (hes : x.E[l]? = some es)
    (hr : ∀ (a b : Nat) (hab : a < b) (h : b < es.length), (es[a]'(by omega)).1 < es[b].1) (hlen : es.length ≤ 2048) :
    Calls Try.prog 29 #[.pointer (some ⟨q, 0, none⟩), .int .i64 (i : Int), .slice (some a0) 128 cap] w fun e w' => e = .returned (.int .i64 0) ∧
      ∃ (y : Rk), y.ok w' q M ∧ y.n = x.n ∧ y.gB = x.gB ∧ y.f = x.f ∧ y.E = x.E.set l (putE i bs es) ∧ y.sl = false ∧ Upd (· ∈ x.foot q) w w' ∧ y.aE = x.aE := by
  obtain ⟨j0, hj0, hy0, hy1, hy2⟩ := info_parts Try.infoSE
  obtain ⟨c0, c1, c2⟩ := h.cell
  have f2 := h.frozen 2
  have kt := hid (rthere_yes q i x.n _ _ w c0 hi)
  have hqM : q ∈ M := h.inM q (by simp [Rk.foot])
  have hql : q < w.heap.size := hM q hqM
  rw [hsl] at c2
  rw [hl] at c1
  obtain ⟨W1, gW1⟩ : ∃ W1, W1 = w.setCell ⟨q, 2, none⟩ (.bool false) := ⟨_, rfl⟩
  have hU1 : Upd (fun k => k = q) w W1 := by rw [gW1]; exact Upd.setCell _ _ _ rfl
  have hok1 : x.ok W1 q M := by
    have hc := heap_setCell_same w q 2 _ _ (.bool false) h.cells
    have ht := h.turn (aE := x.aE) (cE := x.cE) (vs := x.vs) (E := x.E) (sl := false) hU1 (by rw [gW1]; exact hc.trans rfl) h.er (.inl rfl) h.eps h.secs
    have e : ({ x with aE := x.aE, cE := x.cE, vs := x.vs, E := x.E, sl := false } : Rk) = x := by cases x; simp at hsl; subst hsl; rfl
    rw [e] at ht; exact ht
  have hlE : l < x.E.length := by omega
  have hget : x.E[l] = es := (List.getElem?_eq_some_iff.1 hes).2
  obtain ⟨b, o, a, c, eA, hbl, cAw, hc1, hc2, hwrm0⟩ := h.at l hlE
  rw [hget] at cAw hc1 hwrm0
  have hqb : q ≠ b := fun e => by
    have hnd := h.nodup
    simp only [Rk.foot, List.nodup_cons, List.mem_cons, not_or] at hnd
    exact hnd.1.2 (by rw [eA, e]; simp [eb])
  have cA : W1.cell? ⟨b, o + l, none⟩ = some (.slice a es.length c) := (World.cell?_of_block (a := ⟨b, o + l, none⟩) (hU1.block b hbl (fun e => hqb e.symm))).trans cAw
  have hwrm : Wrm W1 M a es := hwrm0.upd (hU1.mono (fun k _ e => e ▸ hqM)) (grew_refl _ _)
  have dA : W1.cell? ⟨q, 1, none⟩ = some (.slice (some ⟨b, o, none⟩) (l + 1) x.cE) := by have := hok1.cell.2.1; rw [hl, eA] at this; exact this
  have hEl : l + 1 ≤ x.cE := by have := hok1.er.2.1; omega
  have hEl2 := hok1.er.2.2.1
  have hqW : q < W1.heap.size := Nat.lt_of_lt_of_le hql hU1.size
  have hbW : b < W1.heap.size := Nat.lt_of_lt_of_le hbl hU1.size
  have fA : W1.frozen? ⟨b, o + l, none⟩ = false := by
    obtain ⟨q1, q2, q3, q4⟩ := hok1.er
    obtain ⟨b', o', e, _, _, q6⟩ := q4 (by omega)
    rw [eA] at e
    injection e with e
    injection e with e1 e2
    subst e1
    subst e2
    exact (q6 l (by omega)).2
  have HSL := hid hsl
  obtain ⟨cE, gcE⟩ : ∃ cE, cE = x.cE := ⟨_, rfl⟩
  obtain ⟨n, gn⟩ : ∃ n, n = es.length := ⟨_, rfl⟩
  rw [← gcE] at dA hEl hEl2 c1
  rw [← gn] at cA cAw hc1 hlen
  have HM1 : Hid (∀ y ∈ M, y < W1.heap.size) := hid (fun y hy => Nat.lt_of_lt_of_le (hM y hy) hU1.size)
  have HB1 : Hid (Byt W1 M (.slice (some a0) 128 cap) bs) := hid (hb.upd (hU1.mono (fun k _ e => e ▸ hqM)) (grew_refl _ _))
  have HOK1 := hid hok1
  have HU1 := hid hU1
  have HW := hid hwrm
  have HR := hid hr
  have GN := hid gn
  have GL := hid hl
  have GE := hid hget
  have EA := hid eA
  have GW := hid gW1
  rw [eA] at c1
  clear h hM hb hes hr gn hl hget eA gcE hok1 hU1 hwrm hwrm0 gW1 hsl hqM c0
  have hl0 : ((l : Int) + 1 == 0) = false := by simp; omega
  go_enter Try.func29, Try.ntmps29
  go_wp2_with fail
  refine kt.out.mono ?_
  rintro e w9 ⟨rfl, rfl⟩
  clear kt
  go_wp2_with fail
  rw [← GW.out]
  clear cAw c1 c2 f2 hl0
  go_loopw [8, 9, 59] (fun v p k wr => ∃ (j : Nat) (L : List (Nat × Value × List Int)), k = .int .i64 j ∧ j ≤ n ∧ p = .bool (puts i (es.take j)) ∧ Hid (Acc W1 wr M v L) ∧ Hid (lab L = racc i bs (es.take j)) ∧ Hid (L.length ≤ 2 * j)) (fun _ _ k _ => n - (intOf k).toNat)
  case atStart => exact ⟨0, [], rfl, Nat.zero_le _, rfl, hid ⟨Lst.nil _ _, fun x hx => by simp [Value.ownBlock] at hx, Below.refl _ _⟩, hid rfl, hid (by simp)⟩
  case round =>
    obtain ⟨j, L, rfl, hj, rfl, HA, HL, HN⟩ := hrel
    obtain ⟨vo, hvo⟩ : ∃ vo, vo = u8 := ⟨_, rfl⟩
    rw [← hvo] at HA ⊢
    clear hvo
    by_cases hlt : j < n
    · have hjl : j < es.length := by rw [← GN.out]; exact hlt
      obtain ⟨b2, o2, rfl, hl2, hnm, hcc⟩ := HW.out (by omega)
      obtain ⟨r0, u, r1, hbu⟩ := hcc j hjl
      have p0 := (HA.out.bel.cell (p := ⟨b2, o2 + j * 2, none⟩) hl2).trans r0
      have p1 := (HA.out.bel.cell (p := ⟨b2, o2 + j * 2 + 1, none⟩) hl2).trans r1
      have htk : es.take (j + 1) = es.take j ++ [es[j]] := List.take_succ_eq_append_getElem hjl
      obtain ⟨S, gS⟩ : ∃ S : Nat, S = es[j].1 := ⟨_, rfl⟩
      obtain ⟨zs, gz⟩ : ∃ zs, zs = es[j].2 := ⟨_, rfl⟩
      rw [← gS] at p0
      rw [← gz] at hbu
      have HBU := hid hbu
      obtain ⟨ab, cb, rfl, _, _⟩ := hbu
      have hjn : (j : Int) < (n : Int) := by omega
      have hj0' : (0 : Int) ≤ j := by omega
      have HTK := hid htk
      have GS := hid gS
      have GZ := hid gz
      clear htk r0 r1 hcc hnm
      cases hp : puts i (es.take j)
      · have HP := hid hp
        rcases Nat.lt_trichotomy S i with hS | hS | hS
        · have hS1 : ¬ (i : Int) ≤ (S : Int) := by omega
          have hS2 : ((S : Int) == (i : Int)) = false := by simp; omega
          have hS3 : (S : Int) < (i : Int) := by omega
          have hrac := racc_low i bs (es.take j) es[j] hp (by rw [← gS]; exact hS)
          have HRC := hid hrac
          clear hp gS gz hrac
          go_wp2_with (at_builtin; go_must (refine wpList_append_acc rfl _ _ 55 rfl j0 _ Try.underlying55 hj0 hy0 hy1 hy2 rfl W1 vo L M rfl (HA.out.below (two_allocs wr _ _)) HM1.out ⟨_, 0, none⟩ 1 rfl S (.slice (some ab) 128 cb) zs (by rw [Addr.add_lit]; exact heap_cells (heap_second _ _ _) _ _ rfl) (by rw [Addr.add_lit]; exact heap_cells (heap_second _ _ _) _ _ rfl) rfl (byt_old HBU.out HA.out.new (HA.out.below (two_allocs wr _ _)).bel) (by have := HN.out; omega) ?_))
          intro v5 w5 HA5 _
          have HL5 : Hid (lab (L ++ [(S, Value.slice (some ab) 128 cb, zs)]) = racc i bs (es.take (j + 1))) := hid (by rw [lab_snoc, HL.out, HTK.out, (HRC.out).1, GS.out, GZ.out])
          have HP5 : Hid (puts i (es.take (j + 1)) = false) := hid (by rw [HTK.out]; exact (HRC.out).2)
          clear HP
          go_wp2_with fail
          go_roundw
          case rel => exact ⟨j + 1, _, by go_num, by omega, by rw [HP5.out], HA5, HL5, hid (by have := HN.out; simp; omega)⟩
          case measure => simp [intOf]; omega
        · have hS' : i = S := hS.symm
          subst hS'
          have hrac := racc_at i bs (es.take j) es[j] hp gS.symm
          have HRC := hid hrac
          clear hp gz hrac gS
          have k4 := hid (own_any a0 128 cap bs (wr.alloc (.cells #[.int .i64 (i : Int), .slice (some ab) 128 cb] 57)) (by
            obtain ⟨a9, c9, e9, hs9, _⟩ := HB1.out
            injection e9 with e9
            injection e9 with e9
            rw [e9]; exact hs9.below (HA.out.below (one_alloc wr _)).bel) (by omega))
          go_wp2_with fail
          refine k4.out.mono ?_
          rintro r w3 ⟨gb, cg, rfl, hown, hb3⟩
          have HOWN := hid hown
          have HB3 := hid hb3
          have HA3 := hid ((HA.out.below (one_alloc wr (.cells #[.int .i64 (i : Int), .slice (some ab) 128 cb] 57))).below hb3)
          have hgb := HOWN.out.lt gb rfl
          have HV := hid (HA.out.below (one_alloc wr (.cells #[.int .i64 (i : Int), .slice (some ab) 128 cb] 57))).lt
          clear hown hb3 k4
          go_wp2_with (at_builtin; go_must (refine wpList_append_acc rfl _ _ 55 rfl j0 _ Try.underlying55 hj0 hy0 hy1 hy2 rfl W1 vo L M rfl (HA3.out.below (one_alloc w3 _)) HM1.out ⟨_, 0, none⟩ 1 rfl i (.slice (some ⟨gb, 0, none⟩) 128 cg) bs (by rw [Addr.add_lit]; exact heap_cells (heap_alloc_new _ _) _ _ rfl) (by rw [Addr.add_lit]; exact heap_cells (heap_alloc_new _ _) _ _ rfl) rfl (byt_new (w := wr.alloc (.cells #[.int .i64 (i : Int), .slice (some ab) 128 cb] 57)) ((Src.own HOWN.out).below (one_alloc w3 _)) (own_cap HOWN.out) hgb.1 (fun y hy => Nat.lt_of_lt_of_le (HM1.out y hy) (HA.out.below (one_alloc wr _)).bel.size) HV.out) (by have := HN.out; omega) ?_))
          intro v5 w5 HA5 hU5
          have HL5 : Hid (lab (L ++ [(i, Value.slice (some ⟨gb, 0, none⟩) 128 cg, bs)]) = racc i bs (es.take (j + 1))) := hid (by rw [lab_snoc, HL.out, HTK.out, HRC.out.1])
          have HP5 : Hid (puts i (es.take (j + 1)) = true) := hid (by rw [HTK.out]; exact HRC.out.2)
          have t0 : w5.cell? ⟨wr.heap.size, 0, none⟩ = some (.int .i64 (i : Int)) := by
            refine (World.cell?_of_block (a := ⟨wr.heap.size, 0, none⟩) (hU5.block wr.heap.size (by have := HB3.out.size; simp at this ⊢; omega) (fun e => Nat.lt_irrefl _ (HA.out.lt _ e)))).trans ?_
            exact ((one_alloc w3 _).cell (p := ⟨wr.heap.size, 0, none⟩) (by have := HB3.out.size; simp at this; show wr.heap.size < w3.heap.size; omega)).trans ((HB3.out.cell (p := ⟨wr.heap.size, 0, none⟩) (by simp)).trans (heap_cells (heap_alloc_new _ _) _ _ rfl))
          clear HP hU5 HV hgb
          go_wp2_with fail
          go_roundw
          case rel => exact ⟨j + 1, _, by go_num, by omega, by rw [HP5.out], HA5, HL5, hid (by have := HN.out; simp; omega)⟩
          case measure => simp [intOf]; omega
        · have hS1 : (i : Int) ≤ (S : Int) := by omega
          have hS3 : (i : Int) < (S : Int) := by omega
          have hrac := racc_above i bs (es.take j) es[j] hp (by rw [← gS]; exact hS)
          have HRC := hid hrac
          clear hp gS gz hrac hS
          have k4 := hid (own_any a0 128 cap bs (wr.alloc (.cells #[.int .i64 (S : Int), .slice (some ab) 128 cb] 57)) (by
            obtain ⟨a9, c9, e9, hs9, _⟩ := HB1.out
            injection e9 with e9
            injection e9 with e9
            rw [e9]; exact hs9.below (HA.out.below (one_alloc wr _)).bel) (by omega))
          go_wp2_with fail
          refine k4.out.mono ?_
          rintro r w3 ⟨gb, cg, rfl, hown, hb3⟩
          have HOWN := hid hown
          have HB3 := hid hb3
          have HA3 := hid ((HA.out.below (one_alloc wr (.cells #[.int .i64 (S : Int), .slice (some ab) 128 cb] 57))).below hb3)
          have hgb := HOWN.out.lt gb rfl
          have HV := hid (HA.out.below (one_alloc wr (.cells #[.int .i64 (S : Int), .slice (some ab) 128 cb] 57))).lt
          clear hown hb3 k4
          go_wp2_with (at_builtin; go_must (refine wpList_append_acc rfl _ _ 55 rfl j0 _ Try.underlying55 hj0 hy0 hy1 hy2 rfl W1 vo L M rfl (HA3.out.below (one_alloc w3 _)) HM1.out ⟨_, 0, none⟩ 1 rfl i (.slice (some ⟨gb, 0, none⟩) 128 cg) bs (by rw [Addr.add_lit]; exact heap_cells (heap_alloc_new _ _) _ _ rfl) (by rw [Addr.add_lit]; exact heap_cells (heap_alloc_new _ _) _ _ rfl) rfl (byt_new (w := wr.alloc (.cells #[.int .i64 (S : Int), .slice (some ab) 128 cb] 57)) ((Src.own HOWN.out).below (one_alloc w3 _)) (own_cap HOWN.out) hgb.1 (fun y hy => Nat.lt_of_lt_of_le (HM1.out y hy) (HA.out.below (one_alloc wr _)).bel.size) HV.out) (by have := HN.out; omega) ?_))
          intro v5 w5 HA5 hU5
          have hblk : w5.heap[wr.heap.size]? = (wr.alloc (.cells #[.int .i64 (S : Int), .slice (some ab) 128 cb] 57)).heap[wr.heap.size]? := by
            refine (hU5.block wr.heap.size (by have := HB3.out.size; simp at this ⊢; omega) (fun e => Nat.lt_irrefl _ (HA.out.lt _ e))).trans ?_
            exact ((one_alloc w3 _).block wr.heap.size (by have := HB3.out.size; simp at this; omega)).trans (HB3.out.block wr.heap.size (by simp))
          have t0 : w5.cell? ⟨wr.heap.size, 0, none⟩ = some (.int .i64 (S : Int)) := (World.cell?_of_block (a := ⟨wr.heap.size, 0, none⟩) hblk).trans (heap_cells (heap_alloc_new _ _) _ _ rfl)
          have t1 : w5.cell? ⟨wr.heap.size, 1, none⟩ = some (.slice (some ab) 128 cb) := (World.cell?_of_block (a := ⟨wr.heap.size, 1, none⟩) hblk).trans (heap_cells (heap_alloc_new _ _) _ _ rfl)
          clear HP hU5 HV hgb hblk
          go_wp2_with (at_builtin; go_must (refine wpList_append_acc rfl _ _ 55 rfl j0 _ Try.underlying55 hj0 hy0 hy1 hy2 rfl W1 v5 (L ++ [(i, Value.slice (some ⟨gb, 0, none⟩) 128 cg, bs)]) M rfl (HA5.out.below (one_alloc w5 _)) HM1.out ⟨_, 0, none⟩ 1 rfl S (.slice (some ab) 128 cb) zs (by rw [Addr.add_lit]; exact heap_cells (heap_alloc_new _ _) _ _ rfl) (by rw [Addr.add_lit]; exact heap_cells (heap_alloc_new _ _) _ _ rfl) rfl (byt_old HBU.out HA5.out.new (HA5.out.below (one_alloc w5 _)).bel) (by have := HN.out; simp; omega) ?_))
          intro v6 w6 HA6 _
          have HL6 : Hid (lab (L ++ [(i, Value.slice (some ⟨gb, 0, none⟩) 128 cg, bs), (S, Value.slice (some ab) 128 cb, zs)]) = racc i bs (es.take (j + 1))) := hid (by rw [show L ++ [(i, Value.slice (some ⟨gb, 0, none⟩) 128 cg, bs), (S, Value.slice (some ab) 128 cb, zs)] = L ++ [(i, Value.slice (some ⟨gb, 0, none⟩) 128 cg, bs)] ++ [(S, Value.slice (some ab) 128 cb, zs)] by simp, lab_snoc, lab_snoc, HL.out, HTK.out, HRC.out.1, GS.out, GZ.out])
          have HP6 : Hid (puts i (es.take (j + 1)) = true) := hid (by rw [HTK.out]; exact HRC.out.2)
          go_wp2_with fail
          go_roundw
          case rel => exact ⟨j + 1, L ++ [(i, Value.slice (some ⟨gb, 0, none⟩) 128 cg, bs), (S, Value.slice (some ab) 128 cb, zs)], by go_num, by omega, by rw [HP6.out], HA6, HL6, hid (by have := HN.out; simp; omega)⟩
          case measure => simp [intOf]; omega
      · have HP := hid hp
        have hS := puts_ne HR.out hjl hp
        rw [← gS] at hS
        have hS1 : (i : Int) ≤ (S : Int) := by omega
        have hS3 : (i : Int) < (S : Int) := by omega
        have hrac := racc_high i bs (es.take j) es[j] hp
        have HRC := hid hrac
        clear hp gS gz hrac hS
        go_wp2_with (at_builtin; go_must (refine wpList_append_acc rfl _ _ 55 rfl j0 _ Try.underlying55 hj0 hy0 hy1 hy2 rfl W1 vo L M rfl (HA.out.below (two_allocs wr _ _)) HM1.out ⟨_, 0, none⟩ 1 rfl S (.slice (some ab) 128 cb) zs (by rw [Addr.add_lit]; exact heap_cells (heap_second _ _ _) _ _ rfl) (by rw [Addr.add_lit]; exact heap_cells (heap_second _ _ _) _ _ rfl) rfl (byt_old HBU.out HA.out.new (HA.out.below (two_allocs wr _ _)).bel) (by have := HN.out; omega) ?_))
        intro v5 w5 HA5 _
        have HL5 : Hid (lab (L ++ [(S, Value.slice (some ab) 128 cb, zs)]) = racc i bs (es.take (j + 1))) := hid (by rw [lab_snoc, HL.out, HTK.out, (HRC.out).1, GS.out, GZ.out])
        have HP5 : Hid (puts i (es.take (j + 1)) = true) := hid (by rw [HTK.out]; exact (HRC.out).2)
        clear HP
        go_wp2_with fail
        go_roundw
        case rel => exact ⟨j + 1, _, by go_num, by omega, by rw [HP5.out], HA5, HL5, hid (by have := HN.out; simp; omega)⟩
        case measure => simp [intOf]; omega
    · have hjn : j = n := by omega
      subst hjn
      have htk : es.take j = es := List.take_of_length_le (by rw [GN.out]; exact Nat.le_refl _)
      have hEnd := racc_end i bs es
      cases hp : puts i (es.take j)
      · rw [htk] at hp
        rw [hp] at hEnd
        have HEND : Hid (putE i bs es = lab L ++ [(i, bs)]) := hid (by rw [hEnd, HL.out, htk]; rfl)
        have k4 := hid (own_any a0 128 cap bs wr (by
          obtain ⟨a9, c9, e9, hs9, _⟩ := HB1.out
          injection e9 with e9
          injection e9 with e9
          rw [e9]; exact hs9.below HA.out.bel) (by omega))
        clear hp hEnd htk
        go_wp2_with fail
        refine k4.out.mono ?_
        rintro r w3 ⟨gb, cg, rfl, hown, hb3⟩
        have HOWN := hid hown
        have HA3 := hid (HA.out.below hb3)
        have hgb := HOWN.out.lt gb rfl
        clear hown hb3 k4
        go_wp2_with (at_builtin; go_must (refine wpList_append_acc rfl _ _ 55 rfl j0 _ Try.underlying55 hj0 hy0 hy1 hy2 rfl W1 vo L M rfl (HA3.out.below (one_alloc w3 _)) HM1.out ⟨_, 0, none⟩ 1 rfl i (.slice (some ⟨gb, 0, none⟩) 128 cg) bs (by rw [Addr.add_lit]; exact heap_cells (heap_alloc_new _ _) _ _ rfl) (by rw [Addr.add_lit]; exact heap_cells (heap_alloc_new _ _) _ _ rfl) rfl (byt_new (w := wr) ((Src.own HOWN.out).below (one_alloc w3 _)) (own_cap HOWN.out) hgb.1 (fun y hy => Nat.lt_of_lt_of_le (HM1.out y hy) HA.out.bel.size) HA.out.lt) (by have := HN.out; omega) ?_))
        intro v5 w5 HA5 _
        obtain ⟨a5, c5, rfl, _, _⟩ := own_shape HA5.out.lst.own
        have d1 := (HA5.out.bel.cell (p := ⟨q, 1, none⟩) hqW).trans dA
        have d2 := (HA5.out.bel.cell (p := ⟨b, o + l, none⟩) hbW).trans cA
        have d3 := (HA5.out.bel.frozen (p := ⟨b, o + l, none⟩) hbW).trans fA
        have hf := HOK1.out.close HU1.out HA5.out hlE GE.out EA.out (by rw [lab_snoc, HEND.out]) hi HSL.out
        rw [show (L ++ [(i, Value.slice (some (⟨gb, 0, none⟩ : Addr)) 128 cg, bs)]).length = L.length + 1 by simp] at hf
        have HF := hid hf
        clear hgb hf
        go_wp2_with fail
        go_ret
        exact ⟨rfl, HF.out⟩
      · rw [htk] at hp
        rw [hp] at hEnd
        have HEND : Hid (lab L = putE i bs es) := hid (by rw [hEnd, HL.out, htk]; rfl)
        obtain ⟨a5, c5, rfl, _, _⟩ := own_shape HA.out.lst.own
        have d1 := (HA.out.bel.cell (p := ⟨q, 1, none⟩) hqW).trans dA
        have d2 := (HA.out.bel.cell (p := ⟨b, o + l, none⟩) hbW).trans cA
        have d3 := (HA.out.bel.frozen (p := ⟨b, o + l, none⟩) hbW).trans fA
        have HF := hid (HOK1.out.close HU1.out HA.out hlE GE.out EA.out HEND.out hi HSL.out)
        clear hp hEnd htk
        go_wp2_with fail
        go_ret
        exact ⟨rfl, HF.out⟩

end Go.Proofs.Ytcophmafkpbdaaa
