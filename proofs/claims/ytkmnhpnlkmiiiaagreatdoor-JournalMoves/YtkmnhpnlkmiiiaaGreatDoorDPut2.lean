/- What disk.put does, for every epoch: the walk. -/
import Derived.Test.YtkmnhpnlkmiiiaaGreatDoorDPut
namespace Go.Proofs.YtkmnhpnlkmiiiaaGreatDoor
open Go.RowKit
set_option linter.unusedVariables false

theorem Tryz.pinfo5 : (Tryz.prog.info? 5).map (fun i => (i.zero, i.size, i.bytes)) = some (some (.int .u8 0), 1, 1) := by kernel_rfl
theorem Tryz.psz5 : (Tryz.prog.info? 5).map (·.size) = some 1 := by
  obtain ⟨i0, hi0, h0, h1, h2⟩ := info_parts Tryz.pinfo5
  rw [hi0]; simp [h1]

theorem u8_one (bs : List Int) : ∀ u ∈ bs.map (Value.int .u8), u.oneCell' = true := ints_oneCell _ _

/-- A row that is known whole, of one that is owned. -/
theorem own_heap {w : World} {B e size n g cap : Nat} {xs : List Value} (h : w.ownsRow B e size (.slice (some ⟨g, 0, none⟩) n cap) n xs) : ∃ cur : List Value, w.heap[g]? = some (.cells cur.toArray e (0, 0)) ∧ n ≤ cap ∧ cap ≤ maxLen ∧ cur.length = cap * size ∧ cur.take (n * size) = xs := by
  rcases h.2 with ⟨h', _⟩ | ⟨g', c', cur, h', _, hg, h1, h2, h3, h4⟩
  · cases h'
  · injection h' with e1 e2 e3
    injection e1 with e1
    injection e1 with e1
    subst e1; subst e3
    exact ⟨cur.toList, by simpa using hg, h1, h2, by simpa using h3, h4⟩

theorem src_cells {w : World} {ab : Addr} {n : Nat} {bs : List Int} (h : Src w (some ab) n bs) : ∀ j u, (bs.map (Value.int .u8))[j]? = some u → w.cell? (ab.add j) = some u := by
  intro j u hj
  have hjl : j < bs.length := by have := (List.getElem?_eq_some_iff.1 hj).1; simpa using this
  have hl := h.1
  obtain ⟨b, o, e, hlt, hc⟩ := h.2 (by omega)
  obtain rfl := Option.some.inj e
  rw [Addr.add_lit, hc j (by omega), ← hj]
  simp [List.getD, List.getElem?_eq_getElem hjl]

set_option maxHeartbeats 1000000 in
set_option maxRecDepth 20000 in
theorem dput_any (e : Ep) (n i : Nat) (ab : Addr) (cb : Nat) (bs : List Int) (w : World) (he : e.ok w n) (hnd : e.foot.Nodup) (hn : n ≤ 2048) (hi : i < n) (hs : Src w (some ab) 128 bs) (hab : ab.block ∉ e.foot) :
    Calls Tryz.prog 90 #[e.v, .int .i64 i, .slice (some ab) 128 cb] w (Put w e n i bs) := by
  obtain ⟨ae, c, hv, hc1, hc2⟩ := own_shape he.row
  have hlen := rise_len he.rise
  have hrow := he.row
  rw [hv] at hrow
  have kf := hid (find_any ae e.es.length c (secAt e.es) (valAt e.es) i w (sents_of hrow rfl) (rise_sec he.rise) (by omega))
  have HS := hid (sents_of hrow rfl)
  have HE := hid he
  have HD := hid hnd
  have HR := hid hs
  have HA := hid hab
  have HV := hid hv
  rw [hv]
  clear hrow he hnd hs hab hv
  go_enter Tryz.func90, Tryz.ntmps90
  go_wp2_with fail
  refine kf.out.mono ?_
  rintro r w1 ⟨k, f, rfl, h1, h2, h3, h4, hb⟩
  have H2 := hid h2
  have H3 := hid h3
  have H4 := hid h4
  clear h2 h3 h4
  cases f
  · have hb1 := HR.out.below hb
    have kc := hid (sclone_any ab 128 cb bs w1 hb1 (by omega))
    clear hb1
    go_wp2_with fail
    refine kc.out.mono ?_
    rintro r w2 ⟨gb, cc, rfl, hown, hb2⟩
    have hB2 : Below w.heap.size w w2 := hb.trans (hb2.mono hb.size)
    have HO := hid hown
    have HB := hid hB2
    clear hown hB2 hb2
    go_wp2_with fail
    have hB3 : Below w.heap.size w (w2.alloc (.cells #[.int .i64 i, .slice (some ⟨gb, 0, none⟩) 128 cc] 108)) := HB.out.alloc HB.out.size _
    have hrow3 := own_below HE.out.row hB3
    rw [HV.out] at hrow3
    have hgl := HO.out.lt gb rfl
    have hbs := hb.size
    refine (insert_any _ e.es.length k (sentCells e.es) w2.heap.size 108 (.int .i64 i) (.slice (some ⟨gb, 0, none⟩) 128 cc) _ hrow3 (by omega) h1 (heap_alloc_new w2 _) (fun hx => ?_) rfl rfl (sentCells_one _)).mono ?_
    · have := HE.out.row.lt w2.heap.size (by rw [HV.out]; exact hx)
      have := HB.out.size
      omega
    rintro r w4 ⟨v', rfl, hrow4, hU4, hv4, _⟩
    have HW := hid hrow4
    have HU := hid hU4
    have HV4 := hid hv4
    have HB3 := hid hB3
    clear hrow4 hU4 hv4 hB3 hrow3
    go_wp2_with fail
    go_ret
    have hU := HU.out
    rw [← HV.out] at hU
    have hv := HV4.out
    rw [← HV.out] at hv
    refine put_new HE.out HD.out hi h1 H2.out ?_ HR.out.1 HB3.out (by omega) (by simp; omega) (own_base (own_below HO.out ((Below.refl _ _).alloc (Nat.le_refl _) _)) (Nat.zero_le _)) hU HW.out hv
    intro j hj hjl
    have := H3.out j hj hjl
    rcases Nat.lt_or_ge k j with hkj | hkj
    · have h5 := rise_sec HE.out.rise k j hkj hjl
      have h6 := H3.out k (Nat.le_refl _) (by omega)
      omega
    · obtain rfl : j = k := by omega
      have h7 : ¬ (j < e.es.length ∧ secAt e.es j = i) := fun h => by have := H4.out.2 h; cases this
      have h8 : secAt e.es j ≠ i := fun h => h7 ⟨hjl, h⟩
      omega
  · obtain ⟨hk, hki⟩ := H4.out.1 rfl
    obtain ⟨b, o, rfl, hlt, hc⟩ := HS.out.below hb (by omega)
    obtain ⟨c0, c1⟩ := hc k hk
    clear hc
    rw [valAt_eq _ _ hk] at c1
    simp only [Snt.val] at c1
    have hmem : e.es[k] ∈ e.es := List.getElem_mem hk
    obtain ⟨hbl, hso⟩ := HE.out.es _ hmem
    obtain ⟨cur, hg, hcap, _, hcl, _⟩ := own_heap (show w1.ownsRow 0 5 1 (.slice (some ⟨e.es[k].blk, 0, none⟩) 128 e.es[k].cap) 128 _ from own_below hso hb)
    obtain ⟨R, hR⟩ : ∃ R, R = splice cur 0 (bs.map (Value.int .u8)) := ⟨_, rfl⟩
    have hl := HR.out.1
    have crun := run_copy_row2 (P := Tryz.prog) w1 29 29 3 5 1 e.es[k].blk 0 128 e.es[k].cap ab 128 cb 128 cur.toArray 5 (bs.map (Value.int .u8)) Tryz.underlying29 Tryz.psz5 hg (by decide) (by simp [hl]) (src_cells (HR.out.below hb)) (by simp [hl]; omega) (u8_one bs)
    rw [show (cur.toArray.toList.take 0 ++ bs.map (Value.int .u8) ++ cur.toArray.toList.drop (0 + (bs.map (Value.int .u8)).length)) = R by rw [hR]; simp [splice]] at crun
    have hRl : R.length = e.es[k].cap := by rw [hR, length_splice _ _ _ (by simp [hl]; omega)]; omega
    have hRt : R.take (128 * 1) = bs.map (Value.int .u8) := by
      rw [hR]
      simp only [splice, List.take_zero, List.nil_append]
      rw [List.take_append_of_le_length (by simp [hl]), List.take_of_length_le (by simp [hl])]
    have hfin : (w1.setRow e.es[k].blk R.toArray).ownsRow 0 5 1 e.es[k].val 128 (bs.map (Value.int .u8)) :=
      ⟨by simp [hl], .inr ⟨e.es[k].blk, e.es[k].cap, R.toArray, rfl, Nat.zero_le _, setRow_heap w1 _ _ _ _ _ hg, hcap, by assumption, by simp [hRl], by simpa using hRt⟩⟩
    have HF := hid hfin
    clear hso hg hfin hRt hRl hR
    go_wp2_with fail
    go_ret
    have hki' : e.es[k].sec = i := by rw [secAt_eq _ _ hk] at hki; omega
    have hp := put_set (w' := w1.setRow e.es[k].blk R.toArray) HE.out HD.out hk hki' H2.out hl ((Upd.of_below hb).trans (Upd.setRow (F := (· = e.es[k].blk)) w1 _ _ rfl) (fun x _ hx => hx)) HF.out
    rw [HV.out] at hp
    exact hp

end Go.Proofs.YtkmnhpnlkmiiiaaGreatDoor
