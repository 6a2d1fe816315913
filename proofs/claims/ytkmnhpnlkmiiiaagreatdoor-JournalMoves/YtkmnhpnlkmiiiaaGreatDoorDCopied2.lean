/- What disk.copied does: the walk. -/
import Derived.Test.YtkmnhpnlkmiiiaaGreatDoorDCopied
namespace Go.Proofs.YtkmnhpnlkmiiiaaGreatDoor
open Go.RowKit
set_option linter.unusedVariables false

theorem cell_alloc_old (w : World) (ob : Obj) (a : Addr) (h : a.block < w.heap.size) : (w.alloc ob).cell? a = w.cell? a := World.cell?_of_block (Below.heap_alloc w ob a.block h)

set_option maxHeartbeats 2000000 in
set_option maxRecDepth 20000 in
theorem copied_any (v : Value) (eps : List Ep) (N : Nat) (w : World) (hrow : w.ownsRow 0 80 1 v eps.length (eps.map Ep.v)) (hok : ∀ e ∈ eps, e.ok w N) (hN : N ≤ 2048) (hsz : eps.length ≤ 5000000000000) :
    Calls Tryz.prog 53 #[v] w fun r w' => ∃ E, r = .returned (.slice (some ⟨w.heap.size, 0, none⟩) eps.length eps.length) ∧ Part w w' w.heap.size eps.length N eps.length eps E := by
  obtain ⟨i0, hi0, hz0, hz1, hz2⟩ := info_parts Tryz.infoSL
  obtain ⟨ae, c, rfl, hc1, hc2⟩ := own_shape hrow
  obtain ⟨m, hm⟩ : ∃ m, m = eps.length := ⟨_, rfl⟩
  rw [← hm] at hrow hc1 hsz ⊢
  have HROW := hid hrow
  have HOK := hid hok
  have HM := hid hm
  clear hrow hok hm
  have hmx : m ≤ maxLen := by unfold maxLen; omega
  have hby : i0.bytes * m ≤ 281474976710656 := by rw [hz2]; omega
  go_enter Tryz.func53, Tryz.ntmps53
  go_wp2_with (at_make; go_must (refine wpList_make_lc _ rfl _ _ 62 rfl 80 i0 (.slice none 0 0) 1 Tryz.underlying62 hi0 hz0 hz1 _ _ _ _ m m rfl rfl rfl rfl (Nat.le_refl _) hby hmx ?_))
  have hw0 : Part w (w.alloc (.cells (madeCells #[Value.slice none 0 0] m) 80)) w.heap.size m N 0 eps [] := by
    refine ⟨rfl, ⟨by simp, .inr ⟨w.heap.size, m, _, rfl, Nat.zero_le _, heap_alloc_new w _, Nat.le_refl _, hmx, by simp [size_madeCells], ?_⟩⟩, fun e he => by simp at he, rfl, by simp, fun x hx => by simp at hx, (Below.refl _ _).alloc (Nat.le_refl _) _⟩
    rw [toList_madeCells_one]
    simp
  have HW := hid hw0
  clear hw0
  go_loopw [13] (fun k wr => ∃ (i : Nat) (E : List Ep), k = .int .i64 i ∧ i ≤ m ∧ Hid (Part w wr w.heap.size m N i eps E)) (fun k _ => m - (intOf k).toNat)
  case atStart => exact ⟨0, [], rfl, Nat.zero_le _, HW.out⟩
  case round =>
    obtain ⟨i, E, rfl, hi, HP⟩ := hrel
    obtain ⟨wo, hwo⟩ : ∃ wo, wo = wr := ⟨_, rfl⟩
    subst hwo
    by_cases hlt : i < m
    · have hie : i < eps.length := by have := HM.out; omega
      obtain ⟨e, he⟩ : ∃ e, e = eps[i] := ⟨_, rfl⟩
      have hem : e ∈ eps := by rw [he]; exact List.getElem_mem hie
      have hbw := HP.out.below
      have heok : e.ok wo N := (HOK.out e hem).frame fun x hx => hbw.block x ((HOK.out e hem).lt x hx)
      obtain ⟨ae2, ce2, hev, hev1, hev2⟩ := own_shape heok.row
      have hel := rise_len heok.rise
      obtain ⟨ge, rfl⟩ : ∃ ge, ae = some ⟨ge, 0, none⟩ := by
        rcases HROW.out.2 with ⟨_, h⟩ | ⟨g, c, cur, h, _⟩
        · omega
        · injection h with h1 h2 h3; exact ⟨g, h1⟩
      have hc : wo.cell? ⟨ge, i, none⟩ = some (.slice ae2 e.es.length ce2) := by
        rw [(own_below HROW.out hbw).cellAt _ (by omega), ← hev, he]
        simp [hie]
      have hcg : wo.cell? ⟨w.heap.size, i, none⟩ = some (.slice none 0 0) := by
        rw [HP.out.row.cellAt _ (by omega), List.getElem?_append_right (by simp [HP.out.len]), show i - (E.map Ep.v).length = 0 by simp [HP.out.len]]
        rw [List.getElem?_replicate]
        simp
        omega
      have hfg := HP.out.row.frozenAt i
      have kc := hid (sentclone_any e.v e.es.length (sentCells e.es) wo heok.row (by omega) (sentCells_one _))
      rw [hev] at kc
      have hrw := (HOK.out e hem).row
      rw [hev] at hrw
      have HS := hid (sents_of hrw rfl)
      have HEO := hid (HOK.out e hem)
      have HE := hid he
      clear hrw heok hem he hev
      obtain ⟨n, hn⟩ : ∃ n, n = e.es.length := ⟨_, rfl⟩
      rw [← hn] at hc hev1 hel kc HS
      have HN := hid hn
      clear hn
      have hg0l := HP.out.lt w.heap.size (by simp)
      go_wp2_with fail
      refine kc.out.mono ?_
      rintro r w1 ⟨vi, rfl, hvo, hvn, hb1⟩
      obtain ⟨ai, ci, rfl, hci1, hci2⟩ := own_shape hvo
      have dg : w1.cell? ⟨w.heap.size, i, none⟩ = some (.slice none 0 0) := (hb1.cell (p := ⟨w.heap.size, i, none⟩) hg0l).trans hcg
      have fg : w1.frozen? ⟨w.heap.size, i, none⟩ = false := (hb1.frozen (p := ⟨w.heap.size, i, none⟩) hg0l).trans hfg
      have HVO := hid hvo
      have HVN := hid hvn
      have hsz1 := hb1.size
      clear hvo hvn hc hcg hfg kc
      go_wp2_with fail
      obtain ⟨w2, gw2⟩ : ∃ w2, w2 = w1.setCell ⟨w.heap.size, i, none⟩ (.slice ai n ci) := ⟨_, rfl⟩
      rw [← gw2]
      have hs12 : w2.heap.size = w1.heap.size := by rw [gw2]; simp
      have hvi2 : ∀ x, (Value.slice ai n ci).ownBlock = some x → x ≠ w.heap.size := fun x hx e0 => by have := HVN.out x hx; omega
      have hU12 : Upd (· = w.heap.size) w1 w2 := by rw [gw2]; exact Upd.setCell w1 _ _ rfl
      have hcell2 : w2.cell? ⟨w.heap.size, i, none⟩ = some (.slice ai n ci) := by
        have h0 := ((own_below HP.out.row hb1).stored i (.slice ai n ci)).1
        rw [← gw2] at h0
        rw [h0.cellAt _ (by omega), List.getElem?_set]
        simp [HP.out.len]
        omega
      have hH0 : Half w2 w2 (.slice ai n ci) e.es [] 0 := by
        refine ⟨rfl, ?_, fun s hs => by simp at hs, rfl, by simp, fun x hx => by simp at hx, Upd.refl _ _⟩
        rw [List.drop_zero, List.nil_append, ← HN.out]
        exact hU12.own HVO.out hvi2
      have HH0 := hid hH0
      have HGW2 := hid gw2
      clear hH0 gw2 dg fg
      go_loopw [25] (fun k wr => ∃ (j : Nat) (T : List Snt), k = .int .i64 j ∧ j ≤ n ∧ Hid (Half w2 wr (.slice ai n ci) e.es T j)) (fun k _ => n - (intOf k).toNat)
      case atStart => exact ⟨0, [], rfl, Nat.zero_le _, HH0.out⟩
      case round =>
        obtain ⟨j, T, rfl, hj, HH⟩ := hrel
        by_cases hjl : j < n
        · have hje : j < e.es.length := by have := HN.out; omega
          obtain ⟨gi, rfl⟩ : ∃ gi, ai = some ⟨gi, 0, none⟩ := by
            rcases HVO.out.2 with ⟨_, h⟩ | ⟨g, c, cur, h, _⟩
            · have := HN.out; omega
            · injection h with h1 h2 h3; exact ⟨g, h1⟩
          have hgi : wo.heap.size ≤ gi := HVN.out gi rfl
          have hgil : gi < w2.heap.size := by have := (HVO.out.lt gi rfl).2; omega
          have hupd := HH.out.upd
          have hszr := hupd.size
          have hwsz := hbw.size
          have hbwr : Below w.heap.size w wr := by
            have h1 : Below w.heap.size w w2 := by
              rw [HGW2.out]
              exact (hbw.trans (hb1.mono hwsz)).setCell (Nat.le_refl _) _
            exact h1.trans (hupd.below h1.size (fun x hx => by have := HVN.out x hx; omega))
          obtain ⟨b, o, rfl, hbl, hcs⟩ := HS.out.below hbwr (by omega)
          obtain ⟨c0, c1⟩ := hcs j hjl
          rw [valAt_eq _ _ hje] at c1
          simp only [Snt.val] at c1
          obtain ⟨hl128, hso⟩ := HEO.out.es e.es[j] (List.getElem_mem hje)
          have hg0 : w.heap.size < w2.heap.size := by omega
          have hng : ¬ (Value.slice (some ⟨gi, 0, none⟩) n ci).ownBlock = some w.heap.size := fun h => by simp [Value.ownBlock] at h; omega
          have cg : wr.cell? ⟨w.heap.size, i, none⟩ = some (.slice (some ⟨gi, 0, none⟩) n ci) := (World.cell?_of_block (w := w2) (a := ⟨w.heap.size, i, none⟩) (hupd.block _ hg0 hng)).trans hcell2
          have hrowr := HH.out.row
          rw [← HN.out] at hrowr
          have hTl : (sentCells (T ++ e.es.drop j)).length = n * 2 := hrowr.1
          obtain ⟨u9, hu9⟩ : ∃ u, (sentCells (T ++ e.es.drop j))[j * 2 + 1]? = some u := ⟨_, List.getElem?_eq_getElem (by omega)⟩
          have cs9 : wr.cell? ⟨gi, j * 2 + 1, none⟩ = some u9 := by rw [hrowr.cellAt _ (by omega)]; exact hu9
          have fs9 := hrowr.frozenAt (j * 2 + 1)
          have hsrc := (Src.own hso).below hbwr
          have HSRC := hid hsrc
          have hgir : gi < wr.heap.size := by omega
          clear hcs hso hrowr hTl hu9 hsrc
          go_wp2_with fail
          obtain ⟨W4, gW4⟩ : ∃ W4, W4 = wr.alloc (.cells #[.int .i64 (secAt e.es j), .slice (some ⟨e.es[j].blk, 0, none⟩) 128 e.es[j].cap] 108) := ⟨_, rfl⟩
          rw [← gW4]
          have hb4 : Below wr.heap.size wr W4 := by rw [gW4]; exact (Below.refl _ _).alloc (Nat.le_refl _) _
          have p1 : W4.cell? ⟨w.heap.size, i, none⟩ = some (.slice (some ⟨gi, 0, none⟩) n ci) := (hb4.cell (p := ⟨w.heap.size, i, none⟩) (by show w.heap.size < _; omega)).trans cg
          have p2 : W4.cell? ⟨wr.heap.size, 1, none⟩ = some (.slice (some ⟨e.es[j].blk, 0, none⟩) 128 e.es[j].cap) := by rw [gW4]; simp [go_sem]
          have hs4 : W4.heap.size = wr.heap.size + 1 := by rw [gW4]; simp
          have kb := hid (sclone_any ⟨e.es[j].blk, 0, none⟩ 128 e.es[j].cap e.es[j].bs W4.drew (HSRC.out.below hb4.drew) (by omega))
          have hne1 : w.heap.size ≠ gi := by omega
          have hne2 : wr.heap.size ≠ gi := by omega
          have b1 : (0 : Int) ≤ (i : Int) := by omega
          have b2 : (i : Int) < (m : Int) := by omega
          have b3 : (0 : Int) ≤ (j : Int) := by omega
          have b4 : (j : Int) < (n : Int) := by omega
          clear gW4 c0 c1 cg
          go_region_held3 (fun wx => wx.cell? ⟨w.heap.size, i, none⟩ = some (.slice (some ⟨gi, 0, none⟩) n ci) ∧ wx.cell? ⟨wr.heap.size, 1, none⟩ = some (.slice (some ⟨e.es[j].blk, 0, none⟩) 128 e.es[j].cap)) (first | go_keep | (refine ⟨(cell_setCell_block _ _ _ _ _ hne1).trans ?_, (cell_setCell_block _ _ _ _ _ hne2).trans ?_⟩ <;> go_keep)) (first | (go_at_call 41; refine kb.out.mono ?_; rintro r w5 ⟨gb, cb, rfl, hown5, hb5⟩; have HO5 := hid hown5; have s1 : w5.cell? ⟨w.heap.size, i, none⟩ = some (.slice (some ⟨gi, 0, none⟩) n ci) := (hb5.cell (p := ⟨w.heap.size, i, none⟩) (by show w.heap.size < W4.heap.size; omega)).trans p1; have s2 : w5.cell? ⟨wr.heap.size, 1, none⟩ = some (.slice (some ⟨e.es[j].blk, 0, none⟩) 128 e.es[j].cap) := (hb5.cell (p := ⟨wr.heap.size, 1, none⟩) (by show wr.heap.size < W4.heap.size; omega)).trans p2; have s3 : w5.cell? ⟨gi, j * 2 + 1, none⟩ = some u9 := (hb5.cell (p := ⟨gi, j * 2 + 1, none⟩) (by show gi < W4.heap.size; omega)).trans ((hb4.cell (p := ⟨gi, j * 2 + 1, none⟩) hgir).trans cs9); have s4 : w5.frozen? ⟨gi, j * 2 + 1, none⟩ = false := (hb5.frozen (p := ⟨gi, j * 2 + 1, none⟩) (by show gi < W4.heap.size; omega)).trans ((hb4.frozen (p := ⟨gi, j * 2 + 1, none⟩) hgir).trans fs9); have HB5 := hid hb5; clear hown5 hb5))
          go_wp2_with fail
          go_roundw
          case rel =>
            have hb45 : Below wr.heap.size wr w5 := hb4.trans ((show Below W4.heap.size W4 w5 from ⟨HB5.out.os, HB5.out.tape, HB5.out.output, HB5.out.size, HB5.out.block⟩).mono (by omega))
            have hgbl := HO5.out.lt gb rfl
            refine ⟨j + 1, T ++ [{ e.es[j] with blk := gb, cap := cb }], by go_num, by omega, ?_⟩
            have hst := HH.out.step (w3 := w5) (gi := gi) (ci := ci) (gb := gb) (cb := cb) hje (by rw [HN.out]) hb45 hgil (by have h6 := hgbl.1; simp at h6; omega) (own_base HO5.out (Nat.zero_le _)) hl128
            exact hst
          case measure => simp [intOf]; omega
        · obtain rfl : j = n := by omega
          go_wp2_with fail
          go_roundw
          case rel =>
            have hHn := HH.out
            have hnn := HN.out
            have hrise := HEO.out.rise
            refine ⟨i + 1, E ++ [⟨.slice ai j ci, T⟩], by go_num, by omega, ?_⟩
            refine HP.out.step (w1 := w1) (w2 := w2) (es := e.es) hlt hie (by rw [← HE.out]) hrise hb1 HGW2.out HVN.out (by rw [← hnn]; exact hHn) (fun x hx => ?_) (Nat.le_refl _)
            have := (HVO.out.lt x hx).2
            omega
          case measure => simp [intOf]; omega
    · obtain rfl : i = m := by omega
      go_wp2_with fail
      go_ret
      exact ⟨E, rfl, HP.out⟩

end Go.Proofs.YtkmnhpnlkmiiiaaGreatDoor
