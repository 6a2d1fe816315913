/- What disk.settle, Flush and Barrier do. -/
import Derived.Test.YtkmnhpnlkmiiiaaGreatDoorDLand
namespace Go.Proofs.YtkmnhpnlkmiiiaaGreatDoor
open Go.RowKit
set_option linter.unusedVariables false

def Snt.cut (s : Snt) : Cut := ⟨s.sec, ⟨s.blk, 0, none⟩, 128, s.cap, s.bs⟩

theorem cut_ab (es : List Snt) : (es.map Snt.cut).map Cut.ab = es.map Snt.ab := by simp [Snt.cut, Cut.ab, Snt.ab]

theorem Ep.ok.cuts {e : Ep} {w : World} {N gd : Nat} {ae : Option Addr} {c : Nat} (h : e.ok w N) (hv : e.v = .slice ae e.es.length c) (hc1 : e.es.length ≤ c) (hc2 : c ≤ 9223372036854775807) (hg : gd ∉ e.foot) : Cuts w gd N ae c (e.es.map Snt.cut) := by
  have hrow := h.row
  rw [hv] at hrow
  refine ⟨by simpa using hc1, hc2, fun h0 => ?_, fun s hs => ?_⟩
  · obtain ⟨b, o, rfl, hlt, hc⟩ := sents_of hrow rfl (by simpa using h0)
    refine ⟨b, o, rfl, fun hb => hg ?_, hlt, fun j hj => ?_⟩
    · subst hb
      simp only [Ep.foot, List.mem_append]
      exact .inl (by rw [hv]; simp [vb, Value.ownBlock])
    · have hj' : j < e.es.length := by simpa using hj
      have := hc j hj'
      rw [secAt_eq _ _ hj', valAt_eq _ _ hj'] at this
      simpa [Snt.cut, Snt.val] using this
  · obtain ⟨t, ht, rfl⟩ := List.mem_map.1 hs
    obtain ⟨h1, h2⟩ := h.es t ht
    refine ⟨h.rise.2 _ (List.mem_map.2 ⟨t, ht, rfl⟩), Nat.le_refl _, Src.own h2, fun hb => hg ?_⟩
    simp only [Ep.foot, List.mem_append, List.mem_map]
    exact .inr ⟨t, ht, hb⟩

def landAll (L : List Int) (eps : List (List (Nat × List Int))) : List Int := eps.foldl landL L

theorem landAll_snoc (L : List Int) (eps : List (List (Nat × List Int))) (e : List (Nat × List Int)) : landAll L (eps ++ [e]) = landL (landAll L eps) e := by simp [landAll]

/-- What settle leaves. -/
def Settled (w : World) (d : Dk) (p : Nat) (D : List Int) (w' : World) : Prop :=
  ({ d with dur := D, wr := D, ve := .slice none 0 0, eps := [], opn := false } : Dk).ok w' p ∧ Upd (· ∈ d.foot p) w w'

theorem Dk.ok.settled {d : Dk} {w w6 w7 : World} {p : Nat} {D : List Int} {cur : List Value} (hok : d.ok w p) (hU6 : Upd (· = d.gd) w w6) (hD : Dur w6 d.gd d.n d.cd D) (hcur : w6.heap[d.gw]? = some (.cells cur.toArray 5 (0, 0))) (hgw : d.gw ≠ d.gd)
    (h7 : w7 = ((w6.drew.setRow d.gw (splice cur 0 (D.map (Value.int .u8))).toArray).setCell ⟨p, 2, none⟩ (.slice none 0 0)).setCell ⟨p, 3, none⟩ (.bool false)) : Settled w d p D w7 := by
  have hnd := hok.nodup
  simp only [Dk.foot, List.nodup_cons, List.mem_cons, List.mem_append, not_or] at hnd
  have hpgd : p ≠ d.gd := hnd.1.1
  have hpgw : p ≠ d.gw := hnd.1.2.1
  have hwr6 : w6.ownsRow 0 5 1 (.slice (some ⟨d.gw, 0, none⟩) (d.n * 128) d.cw) (d.n * 128) (d.wr.map (Value.int .u8)) := hU6.own hok.wr (fun k hk => by simp [Value.ownBlock] at hk; subst hk; exact hgw)
  obtain ⟨cur', hcur', k1, k2, k3, k4⟩ := own_heap hwr6
  have : cur' = cur := by
    rw [hcur] at hcur'
    injection hcur' with e
    injection e with e
    simpa using e.symm
  subst this
  have hDl : D.length = d.n * 128 := by have := hD.1; simpa using this
  have hU7 : Upd (fun x => x = p ∨ x = d.gw) w6 w7 := by
    subst h7
    refine Upd.trans (F := fun x => x = p ∨ x = d.gw) (G := (· = p)) (Upd.trans (F := fun x => x = p ∨ x = d.gw) (G := (· = p)) (b := w6.drew.setRow d.gw (splice cur' 0 (D.map (Value.int .u8))).toArray) ?_ (Upd.setCell _ _ _ rfl) (fun _ _ h => .inl h)) (Upd.setCell _ _ _ rfl) (fun _ _ h => .inl h)
    exact ⟨rfl, rfl, rfl, by simp, fun k _ hk => setRow_other w6.drew d.gw k _ (fun e => hk (.inr e))⟩
  have hp6 := hU6.heap hok.cells hpgd
  refine ⟨⟨?_, ?_, ?_, World.ownsRow_nil _ _ _ _, fun e he => by simp at he, ?_, hok.n1, hok.n2, fun h => by simp at h⟩, ?_⟩
  · subst h7
    have h0 : (w6.drew.setRow d.gw (splice cur' 0 (D.map (Value.int .u8))).toArray).heap[p]? = some (.cells #[.slice (some ⟨d.gd, 0, none⟩) (d.n * 128) d.cd, .slice (some ⟨d.gw, 0, none⟩) (d.n * 128) d.cw, d.ve, .bool d.opn] 64 (0, 0)) := (setRow_other w6.drew d.gw p _ hpgw).trans hp6
    have h1 := heap_setCell_same _ p 2 _ _ (.slice none 0 0) h0
    have h2 := heap_setCell_same _ p 3 _ _ (.bool false) h1
    rw [h2]
    rfl
  · exact hU7.own hD (fun k hk => by
      simp [Value.ownBlock] at hk; subst hk
      rintro (h | h)
      · exact hpgd h.symm
      · exact hgw h.symm)
  · refine ⟨by simp [hDl], .inr ⟨d.gw, d.cw, (splice cur' 0 (D.map (Value.int .u8))).toArray, rfl, Nat.zero_le _, ?_, k1, k2, ?_, ?_⟩⟩
    · subst h7
      rw [heap_setCell_other _ _ _ _ (fun e => hpgw e.symm), heap_setCell_other _ _ _ _ (fun e => hpgw e.symm)]
      exact setRow_heap w6.drew _ _ _ _ _ hcur
    · rw [List.size_toArray, length_splice _ _ _ (by simp [hDl]; omega), k3]
    · simp only [splice, List.take_zero, List.nil_append]
      rw [List.take_append_of_le_length (by simp [hDl]), List.take_of_length_le (by simp [hDl])]
  · simp [Dk.foot, vb, Value.ownBlock]
    exact ⟨⟨hpgd, hpgw⟩, fun e => hgw e.symm⟩
  · refine Upd.trans (F := (· ∈ d.foot p)) (hU6.mono (fun x _ hx => by simp [Dk.foot, hx])) hU7 (fun x _ hx => ?_)
    rcases hx with rfl | rfl <;> simp [Dk.foot]

set_option maxHeartbeats 1000000 in
set_option maxRecDepth 20000 in
theorem settle_any (d : Dk) (p k c' : Nat) (ae pa : Option Addr) (pc ce : Nat) (cs : List Cut) (w : World) (hok : d.ok w p) (hve : d.ve = .slice ae d.eps.length ce) (hk : k ≤ d.eps.length) (hc1 : k ≤ c') (hc2 : c' ≤ 9223372036854775807) (hcs : Cuts w d.gd d.n pa pc cs) (hcl : cs.length ≤ 4096) :
    Calls Tryz.prog 39 #[.pointer (some ⟨p, 0, none⟩), .slice ae k c', .slice pa cs.length pc] w fun e w' => e = .returned (.tuple #[]) ∧ Settled w d p (landL (landAll d.dur (d.ab.take k)) (cs.map Cut.ab)) w' := by
  have hnd := hok.nodup
  simp only [Dk.foot, List.nodup_cons, List.mem_cons, List.mem_append, not_or] at hnd
  have hpgd : p ≠ d.gd := hnd.1.1
  have hgw : d.gw ≠ d.gd := fun e => hnd.2.1.1 e.symm
  have hged : d.gd ∉ vb d.ve := hnd.2.1.2.1
  have hepd : ∀ e ∈ d.eps, d.gd ∉ e.foot := fun e he hx => hnd.2.1.2.2 (List.mem_flatMap.2 ⟨e, he, hx⟩)
  have hplt := hok.lt p (by simp [Dk.foot])
  obtain ⟨c0, c1, c2, c3⟩ := hok.cell
  have HK := hid hok
  have HCS := hid hcs
  have HEP := hid hepd
  have HVE := hid hve
  have hn2 := hok.n2
  clear hok hcs hepd hve hnd c2 c3
  go_enter Tryz.func39, Tryz.ntmps39
  go_wp2_with fail
  go_loopw [10] (fun kk wr => ∃ i : Nat, kk = .int .i64 i ∧ i ≤ k ∧ Hid (Dur wr d.gd d.n d.cd (landAll d.dur (d.ab.take i))) ∧ Upd (· = d.gd) w wr) (fun kk _ => k - (intOf kk).toNat)
  case atStart => exact ⟨0, rfl, Nat.zero_le _, HK.out.dur, Upd.refl _ _⟩
  case round =>
    obtain ⟨i, rfl, hi, HR, hur⟩ := hrel
    have u0 : wr.cell? ⟨p, 0, none⟩ = some (.slice (some ⟨d.gd, 0, none⟩) (d.n * 128) d.cd) := (World.cell?_of_block (w := w) (a := ⟨p, 0, none⟩) (hur.block p hplt hpgd)).trans c0
    have u1 : wr.cell? ⟨p, 1, none⟩ = some (.slice (some ⟨d.gw, 0, none⟩) (d.n * 128) d.cw) := (World.cell?_of_block (w := w) (a := ⟨p, 1, none⟩) (hur.block p hplt hpgd)).trans c1
    by_cases hlt : i < k
    · have hil : i < d.eps.length := by omega
      obtain ⟨e, he⟩ : ∃ e, e = d.eps[i] := ⟨_, rfl⟩
      have hem : e ∈ d.eps := by rw [he]; exact List.getElem_mem hil
      have heok : e.ok wr d.n := (HK.out.eps e hem).frame fun x hx => hur.block x ((HK.out.eps e hem).lt x hx) (fun h => HEP.out e hem (h ▸ hx))
      obtain ⟨ae2, ce2, hev, hev1, hev2⟩ := own_shape heok.row
      have hel := rise_len heok.rise
      obtain ⟨ge, rfl⟩ : ∃ ge, ae = some ⟨ge, 0, none⟩ := by
        rcases HK.out.row.2 with ⟨_, h⟩ | ⟨g, c, cur, h, _⟩
        · omega
        · rw [HVE.out] at h; injection h with h1 h2 h3; exact ⟨g, h1⟩
      have hrow := hur.own HK.out.row (fun x hx h => hged (by simp [vb, hx, ← h]))
      rw [HVE.out] at hrow
      have hc : wr.cell? ⟨ge, i, none⟩ = some (.slice ae2 e.es.length ce2) := by
        rw [hrow.cellAt _ (by omega), ← hev, he]
        simp [hil]
      have kl := hid (land_any p d.gd d.n d.cd _ ae2 ce2 (e.es.map Snt.cut) wr u0 hpgd hn2 HR.out (heok.cuts hev hev1 hev2 (HEP.out e hem)) (by simp; omega))
      rw [List.length_map, cut_ab] at kl
      have HE := hid he
      have HEM := hid hem
      have HEO := hid heok
      clear hrow he hem heok hev
      go_wp2_with fail
      refine kl.out.mono ?_
      rintro r w2 ⟨rfl, hd2, hu2⟩
      have HD2 := hid hd2
      clear hd2
      go_wp2_with fail
      go_roundw
      case rel =>
        refine ⟨i + 1, by go_num, by omega, ?_, hur.trans hu2 (fun _ _ h => h)⟩
        have h2 : d.ab.take (i + 1) = d.ab.take i ++ [e.ab] := by
          rw [List.take_succ_eq_append_getElem (by simpa [Dk.ab] using hil)]
          simp [Dk.ab, HE.out]
        show Dur _ _ _ _ _
        rw [h2, landAll_snoc]
        exact HD2.out
      case measure => simp [intOf]; omega
    · obtain rfl : i = k := by omega
      have kl := hid (land_any p d.gd d.n d.cd _ pa pc cs wr u0 hpgd hn2 HR.out (HCS.out.upd hur) hcl)
      go_wp2_with fail
      refine kl.out.mono ?_
      rintro r w2 ⟨rfl, hd2, hu2⟩
      have hU2 : Upd (· = d.gd) w w2 := hur.trans hu2 (fun _ _ h => h)
      have HD2 := hid hd2
      have q0 : w2.cell? ⟨p, 0, none⟩ = some (.slice (some ⟨d.gd, 0, none⟩) (d.n * 128) d.cd) := (World.cell?_of_block (w := w) (a := ⟨p, 0, none⟩) (hU2.block p hplt hpgd)).trans c0
      have q1 : w2.cell? ⟨p, 1, none⟩ = some (.slice (some ⟨d.gw, 0, none⟩) (d.n * 128) d.cw) := (World.cell?_of_block (w := w) (a := ⟨p, 1, none⟩) (hU2.block p hplt hpgd)).trans c1
      have hgwlt := HK.out.lt d.gw (by simp [Dk.foot])
      obtain ⟨cur, hcur, k1, k2, k3, k4⟩ := own_heap (hU2.own HK.out.wr (fun x hx => by simp [Value.ownBlock] at hx; subst hx; exact hgw))
      obtain ⟨D, hDD⟩ : ∃ D, D = landL (landAll d.dur (d.ab.take i)) (cs.map Cut.ab) := ⟨_, rfl⟩
      rw [← hDD] at HD2
      have HDD := hid hDD
      have hDl : D.length = d.n * 128 := by have := HD2.out.1; simpa using this
      have crun := run_copy_row2 (P := Tryz.prog) w2.drew 29 29 3 5 1 d.gw 0 (d.n * 128) d.cw ⟨d.gd, 0, none⟩ (d.n * 128) d.cd (d.n * 128) cur.toArray 5 (D.map (Value.int .u8)) Tryz.underlying29 Tryz.psz5 hcur (by simp) (by simp [hDl]) (src_cells (show Src w2.drew _ _ _ from Src.own (w := w2) HD2.out)) (by simp [hDl]; omega) (u8_one _)
      obtain ⟨R, hR⟩ : ∃ R, R = splice cur 0 (D.map (Value.int .u8)) := ⟨_, rfl⟩
      rw [show (cur.toArray.toList.take 0 ++ D.map (Value.int .u8) ++ cur.toArray.toList.drop (0 + (D.map (Value.int .u8)).length)) = R by rw [hR]; simp [splice]] at crun
      have hset := HK.out.settled hU2 HD2.out hcur hgw rfl
      rw [← hR] at hset
      have HSET := hid hset
      have hp2 := hU2.heap HK.out.cells hpgd
      have hpgw : p ≠ d.gw := by
        have hnd := HK.out.nodup
        simp only [Dk.foot, List.nodup_cons, List.mem_cons, List.mem_append, not_or] at hnd
        exact hnd.1.2.1
      obtain ⟨W3, gW3⟩ : ∃ W3, W3 = w2.drew.setRow d.gw R.toArray := ⟨_, rfl⟩
      have hp3 : W3.heap[p]? = some (.cells #[.slice (some ⟨d.gd, 0, none⟩) (d.n * 128) d.cd, .slice (some ⟨d.gw, 0, none⟩) (d.n * 128) d.cw, d.ve, .bool d.opn] 64 (0, 0)) := by rw [gW3]; exact (setRow_other w2.drew d.gw p _ hpgw).trans hp2
      have r2 : W3.cell? ⟨p, 2, none⟩ = some d.ve := by rw [cell_of_row W3 p 2 _ _ _ hp3]; rfl
      have r3 : W3.cell? ⟨p, 3, none⟩ = some (.bool d.opn) := by rw [cell_of_row W3 p 3 _ _ _ hp3]; rfl
      have r4 : W3.frozen? ⟨p, 2, none⟩ = false := frozen_of_row W3 p 2 _ _ hp3
      have r5 : W3.frozen? ⟨p, 3, none⟩ = false := frozen_of_row W3 p 3 _ _ hp3
      rw [← gW3] at crun HSET
      rw [HVE.out] at r2
      have q6 : W3.cell? ⟨p, 0, none⟩ = some (.slice (some ⟨d.gd, 0, none⟩) (d.n * 128) d.cd) := by rw [cell_of_row W3 p 0 _ _ _ hp3]; rfl
      have q7 : W3.cell? ⟨p, 1, none⟩ = some (.slice (some ⟨d.gw, 0, none⟩) (d.n * 128) d.cw) := by rw [cell_of_row W3 p 1 _ _ _ hp3]; rfl
      clear gW3 hp2 hp3 hR hcur k4 hset hDD hd2 u0 u1 c0 c1 kl
      go_wp2_with fail
      go_region_held3 (fun wx => wx.cell? ⟨p, 0, none⟩ = some (.slice (some ⟨d.gd, 0, none⟩) (d.n * 128) d.cd) ∧ wx.cell? ⟨p, 1, none⟩ = some (.slice (some ⟨d.gw, 0, none⟩) (d.n * 128) d.cw)) (go_keep) (fail)
      go_wp2_with fail
      go_end0
      have hs := HSET.out
      rw [HDD.out] at hs
      exact ⟨rfl, hs⟩

/-- What Flush does. -/
theorem flush_any (d : Dk) (p : Nat) (w : World) (hok : d.ok w p) :
    Calls Tryz.prog 74 #[.pointer (some ⟨p, 0, none⟩)] w fun e w' => e = .returned (.int .i64 0) ∧ Settled w d p (landAll d.dur d.ab) w' := by
  obtain ⟨ae, ce, hve, hce1, hce2⟩ := own_shape hok.row
  have k1 := hid (dusable d p w hok)
  have k2 := hid (settle_any d p d.eps.length ce ae none 0 ce [] w hok hve (Nat.le_refl _) hce1 hce2 ⟨Nat.le_refl _, by omega, fun h => by simp at h, fun s hs => by simp at hs⟩ (by simp))
  rw [show d.ab.take d.eps.length = d.ab by rw [List.take_of_length_le]; simp [Dk.ab]] at k2
  obtain ⟨c0, c1, c2, c3⟩ := hok.cell
  rw [hve] at c2
  clear hok hve
  go_enter Tryz.func74, Tryz.ntmps74
  go_wp2_with fail
  refine k1.out.mono ?_
  rintro r w1 ⟨rfl, h⟩
  subst w1
  go_wp2_with fail
  refine k2.out.mono ?_
  rintro r w1 ⟨rfl, h⟩
  have H := hid h
  clear h
  go_wp2_with fail
  go_ret
  exact ⟨rfl, H.out⟩

end Go.Proofs.YtkmnhpnlkmiiiaaGreatDoor
