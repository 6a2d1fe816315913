/- The codecs of texts, and of the end: what their Read reads. -/
import Derived.Test.YtpbhcmfbcnihiaaGreatBRd1
namespace Go.Proofs.YtpbhcmfbcnihiaaGreat
open Go.RowKit Num
set_option linter.unusedVariables false
set_option maxRecDepth 20000

theorem bytesWorld_below (w : World) (s : ByteArray) : Below w.heap.size w (Lib.bytesWorld w 5 s) :=
  ⟨rfl, rfl, rfl, by rw [Lib.bytesWorld_size]; omega, fun k hk => Lib.bytesWorld_at_old w 5 s k hk⟩
theorem bytesWorld_src (w : World) (s : ByteArray) : Src (Lib.bytesWorld w 5 s) (some ⟨w.heap.size, 0, none⟩) s.size (str s) :=
  ⟨str_len s, fun _ => ⟨w.heap.size, 0, rfl, by rw [Lib.bytesWorld_size]; omega, fun j hj => by
    rw [Nat.zero_add, Lib.bytesWorld_cell w 5 s j hj]
    have : j < s.data.toList.length := by simpa using hj
    simp [str, List.getD, List.getElem?_eq_getElem this]⟩⟩
theorem txt_bytes {zs : List Int} (h : Bytes zs) (m : Int) : Bytes (txt zs m).1 := by
  unfold txt
  split
  · exact Bytes.nil
  · split
    · exact Bytes.nil
    · split
      · exact Bytes.nil
      · exact (h.drop _).take _
theorem txt_len (zs : List Int) (m : Int) : (txt zs m).1.length ≤ zs.length := by
  unfold txt
  split
  · simp
  · split
    · simp
    · split
      · simp
      · simp; omega

set_option maxHeartbeats 4000000 in
theorem text_rd (m : Int) (B q : Nat) (wc : World) (hqB : B ≤ q) (hq : wc.cell? ⟨q, 0, none⟩ = some (.int .i64 m)) (hql : q < wc.heap.size) : Rd B wc 1 IsB (rT m) 108 #[.pointer (some ⟨q, 0, none⟩)] := by
  refine ⟨fun args w => by kernel_rfl, fun W N p g len at_ zs b o C t x hW hR hz hbB hbp hbg hC hl hI hN hNp hNb => ?_⟩
  show Calls Tryz.prog 108 #[.pointer (some ⟨p, 0, none⟩), .pointer (some ⟨b, o, none⟩), .pointer (some ⟨q, 0, none⟩)] W _
  have hs := hW.size
  have hmid := hR.mid
  have c1 := (hW.atc 0 hql (by omega)).trans hq
  have ku := hid (rtext_any wc.heap.size p g len at_ zs m W hR hz)
  have hbl : b < W.heap.size := (Array.getElem?_eq_some_iff.1 hC).1
  have hTb := txt_bytes (hz.drop at_) m
  have hTl := txt_len (zs.drop at_) m
  have hcap := hR.cap
  rw [List.length_drop, hR.len] at hTl
  unfold rT
  generalize txt (zs.drop at_) m = D at ku hTb hTl ⊢
  obtain ⟨T, k, e⟩ := D
  simp only at ku hTb hTl ⊢
  have hS := str_of hTb
  have hSl : (strOfNums T).size = T.length := by rw [← str_len, hS]
  obtain ⟨S, gS⟩ : ∃ S, S = strOfNums T := ⟨_, rfl⟩
  rw [← gS] at ku hS hSl
  obtain ⟨a0, n0, k0, hI0, _⟩ := hI
  have hC0 := at_block hC _ (first_of hI0)
  have HC := hid hC
  have HR := hid hR
  have HL : Hid (o < C.length) := hid hl
  have HN := hid hN
  have HS := hid hS
  have hSz : S.size ≤ maxLen := by unfold maxLen; omega
  have HSl := hid hSl
  clear hI0 hR hC hN hNp hNb hW hz hTb hTl gS hS hSl
  by_cases he : e = 0
  · subst he
    have kw := hid (wrap_ok ⟨#[119, 105, 114, 101, 46, 84, 101, 120, 116]⟩)
    simp only [if_true]
    go_enter Tryz.func108, Tryz.ntmps108
    go_wp2_with fail
    refine ku.out.mono ?_
    rintro e w1 ⟨rfl, hR1, hO1⟩
    have hs1 := hO1.size
    have hcv := Lib.run_convert_string_bytes (P := Tryz.prog) w1 9 23 5 S Tryz.underlying9 Tryz.underlying23 Tryz.underlying5
    obtain ⟨CC, gC⟩ : ∃ CC, CC = grownCap w1 S.size 0 5 := ⟨_, rfl⟩
    obtain ⟨WB, gB⟩ : ∃ WB, WB = Lib.bytesWorld w1 5 S := ⟨_, rfl⟩
    rw [← gB, ← gC] at hcv
    have hWB : Below w1.heap.size w1 WB := by rw [gB]; exact bytesWorld_below w1 S
    have hSB : Src WB (some ⟨w1.heap.size, 0, none⟩) S.size (str S) := by rw [gB]; exact bytesWorld_src w1 S
    have hc1 : S.size ≤ CC := by rw [gC]; exact grownCap_ge _ _ _ _
    have hc2 : CC ≤ 9223372036854775807 := by have := grownCap_le_maxLen w1 S.size 0 5 hSz; rw [gC]; unfold maxLen at this; omega
    have hb1 : b < w1.heap.size := by rw [hs1]; exact hbl
    have hC1 : WB.heap[b]? = some (.cells C.toArray t (0, 0)) := (hWB.block b hb1).trans ((hO1.block b hbp).trans HC.out)
    have e1 : WB.cell? ⟨b, o, none⟩ = some (.slice a0 n0 k0) := ((hWB.cell (p := ⟨b, o, none⟩) hb1).trans (World.cell?_of_block (a := ⟨b, o, none⟩) (hO1.block b hbp))).trans hC0
    have f1 : WB.frozen? ⟨b, o, none⟩ = false := frozen_of_row WB b o _ _ hC1
    have hRB : Rdr WB wc.heap.size p g len (at_ + k) zs := ⟨(hWB.block p (Array.getElem?_eq_some_iff.1 hR1.own).1).trans hR1.own, hR1.src.below hWB, hR1.lo, hR1.mid, hR1.ne, hR1.fit, hR1.cap, Nat.lt_of_lt_of_le hR1.gl hWB.size⟩
    have HC2 := hid (one_stored hC1 HL.out (.slice (some ⟨w1.heap.size, 0, none⟩) S.size CC))
    have HR2 := hid (hRB.only (Only.setCell (p := b) o (.slice (some ⟨w1.heap.size, 0, none⟩) S.size CC)) (Ne.symm hbp) (Ne.symm hbg))
    have HU : Hid (Upd (fun k => k = p ∨ k = b) W (WB.setCell ⟨b, o, none⟩ (.slice (some ⟨w1.heap.size, 0, none⟩) S.size CC))) := hid (((show Upd (fun k => k = p ∨ k = b) W w1 from ⟨hO1.os, hO1.tape, hO1.output, Nat.le_of_eq hO1.size.symm, fun k _ hk => hO1.block k (fun h => hk (.inl h))⟩).trans (Upd.of_below (F := fun k => k = p ∨ k = b) hWB) (fun _ _ h => h)).trans (Upd.setCell (F := fun k => k = p ∨ k = b) WB ⟨b, o, none⟩ _ (.inr rfl)) (fun _ _ h => h))
    have HIs : Hid (IsB N (WB.setCell ⟨b, o, none⟩ (.slice (some ⟨w1.heap.size, 0, none⟩) S.size CC)) [.slice (some ⟨w1.heap.size, 0, none⟩) S.size CC] T) := hid ⟨_, _, _, rfl, by rw [← HS.out]; exact (Upd.setCell (F := (· = b)) WB ⟨b, o, none⟩ _ rfl).src hSB (fun b' o' e' hb' => by cases e'; omega), fun b' o' _ e' => by cases e'; exact HN.out _ (by omega), hc1, hc2⟩
    clear hR1 hO1 hC1 gC gB hWB hSB hRB hs1
    go_wp2_with fail
    refine (kw.out _).mono ?_
    rintro e w3 ⟨rfl, rfl⟩
    go_wp2_with fail
    go_ret
    exact ⟨HU.out, rfl, HR2.out, _, rfl, HC2.out, HIs.out⟩
  · have kw := hid (wrap_err ⟨#[119, 105, 114, 101, 46, 84, 101, 120, 116]⟩ e he)
    simp only [if_neg he]
    go_enter Tryz.func108, Tryz.ntmps108
    go_wp2_with fail
    refine ku.out.mono ?_
    rintro e w1 ⟨rfl, hR1, hO1⟩
    have hs1 := hO1.size
    have hcv := Lib.run_convert_string_bytes (P := Tryz.prog) w1 9 23 5 S Tryz.underlying9 Tryz.underlying23 Tryz.underlying5
    obtain ⟨CC, gC⟩ : ∃ CC, CC = grownCap w1 S.size 0 5 := ⟨_, rfl⟩
    obtain ⟨WB, gB⟩ : ∃ WB, WB = Lib.bytesWorld w1 5 S := ⟨_, rfl⟩
    rw [← gB, ← gC] at hcv
    have hWB : Below w1.heap.size w1 WB := by rw [gB]; exact bytesWorld_below w1 S
    have hb1 : b < w1.heap.size := by rw [hs1]; exact hbl
    have hC1 : WB.heap[b]? = some (.cells C.toArray t (0, 0)) := (hWB.block b hb1).trans ((hO1.block b hbp).trans HC.out)
    have e1 : WB.cell? ⟨b, o, none⟩ = some (.slice a0 n0 k0) := ((hWB.cell (p := ⟨b, o, none⟩) hb1).trans (World.cell?_of_block (a := ⟨b, o, none⟩) (hO1.block b hbp))).trans hC0
    have f1 : WB.frozen? ⟨b, o, none⟩ = false := frozen_of_row WB b o _ _ hC1
    have HU : Hid (Upd (fun k => k = p ∨ k = b) W (WB.setCell ⟨b, o, none⟩ (.slice (some ⟨w1.heap.size, 0, none⟩) S.size CC))) := hid (((show Upd (fun k => k = p ∨ k = b) W w1 from ⟨hO1.os, hO1.tape, hO1.output, Nat.le_of_eq hO1.size.symm, fun k _ hk => hO1.block k (fun h => hk (.inl h))⟩).trans (Upd.of_below (F := fun k => k = p ∨ k = b) hWB) (fun _ _ h => h)).trans (Upd.setCell (F := fun k => k = p ∨ k = b) WB ⟨b, o, none⟩ _ (.inr rfl)) (fun _ _ h => h))
    clear hR1 hO1 hC1 gC gB hWB hs1
    go_wp2_with fail
    refine (kw.out _).mono ?_
    rintro e w3 ⟨⟨t', u', rfl⟩, rfl⟩
    go_wp2_with fail
    go_ret
    exact ⟨HU.out, t', u', rfl⟩

theorem rend_any (B p g len at_ : Nat) (zs : List Int) (w : World) (h : Rdr w B p g len at_ zs) :
    Calls Tryz.prog 63 #[.pointer (some ⟨p, 0, none⟩)] w fun e w' => e = .returned (.int .i64 (if (zs.drop at_).length = 0 then 0 else 13 : Nat)) ∧ ∃ n, w' = w.drewN n := by
  have k1 := hid (usable_any p w h.c2)
  have k2 := hid (left_any B p g len at_ zs w h)
  have hle : (zs.drop at_).length = len - at_ := by rw [List.length_drop, h.len]
  rw [hle]
  clear h hle
  by_cases h0 : len - at_ = 0
  · rw [if_pos h0]
    rw [h0] at k2
    go_enter Tryz.func63, Tryz.ntmps63
    go_wp2_with fail
    refine k1.out.mono ?_
    rintro e w1 ⟨rfl, rfl⟩
    go_wp2_with fail
    refine k2.out.mono ?_
    rintro e w2 ⟨rfl, n, rfl⟩
    go_wp2_with fail
    go_ret
    exact ⟨rfl, n, rfl⟩
  · rw [if_neg h0]
    obtain ⟨q, hq⟩ : ∃ q, len - at_ = q := ⟨_, rfl⟩
    rw [hq] at k2 h0
    have h1 : (0 : Int) < (q : Int) := by omega
    clear hq
    go_enter Tryz.func63, Tryz.ntmps63
    go_wp2_with fail
    refine k1.out.mono ?_
    rintro e w1 ⟨rfl, rfl⟩
    go_wp2_with fail
    refine k2.out.mono ?_
    rintro e w2 ⟨rfl, n, rfl⟩
    go_wp2_with fail
    go_ret
    exact ⟨rfl, n, rfl⟩

theorem splice_same (C : List Value) (o n : Nat) (h : o + n ≤ C.length) : splice C o ((C.drop o).take n) = C := by
  unfold splice
  rw [List.length_take, List.length_drop, show min n (C.length - o) = n by omega, ← List.drop_drop, List.take_append_drop, List.take_append_drop]

set_option maxHeartbeats 4000000 in
theorem end_rd {α : Type} (B : Nat) (wc : World) (sz : Nat) (Is : (Nat → Prop) → World → List Value → α → Prop) (hk : ∀ N W W' cs x, Keep N N W W' → Is N W cs x → Is N W' cs x) : Rd B wc sz Is rE 61 #[] := by
  refine ⟨fun args w => by kernel_rfl, fun W N p g len at_ zs b o C t x hW hR hz hbB hbp hbg hC hl hI hN hNp hNb => ?_⟩
  show Calls Tryz.prog 61 #[.pointer (some ⟨p, 0, none⟩), .pointer (some ⟨b, o, none⟩)] W _
  have k1 := hid (rend_any wc.heap.size p g len at_ zs W hR)
  unfold rE
  generalize (zs.drop at_).length = q at k1 ⊢
  have HR := hid hR
  have HC := hid hC
  have HI := hid hI
  have HK := hid hk
  have HL := hid hl
  clear hR hC hI hk hN hNp hNb hW hz
  by_cases hq : q = 0
  · subst hq
    have kw := hid (wrap_ok ⟨#[119, 105, 114, 101, 46, 69, 110, 100]⟩)
    simp only [if_true] at k1 ⊢
    go_enter Tryz.func61, Tryz.ntmps61
    go_wp2_with fail
    refine k1.out.mono ?_
    rintro e w1 ⟨rfl, n, rfl⟩
    go_wp2_with fail
    refine (kw.out _).mono ?_
    rintro e w3 ⟨rfl, rfl⟩
    go_wp2_with fail
    go_ret
    refine ⟨(Upd.refl _ _).drewN n, rfl, HR.out.drewN n, (C.drop o).take sz, by simp; have := HL.out; omega, ?_, HK.out _ _ _ _ _ (Keep.below (below_drewN (Below.refl _ _) n)) HI.out⟩
    rw [splice_same C o sz HL.out]
    exact HC.out
  · have kw := hid (wrap_err ⟨#[119, 105, 114, 101, 46, 69, 110, 100]⟩ 13 (by omega))
    simp only [if_neg hq] at k1 ⊢
    go_enter Tryz.func61, Tryz.ntmps61
    go_wp2_with fail
    refine k1.out.mono ?_
    rintro e w1 ⟨rfl, n, rfl⟩
    go_wp2_with fail
    refine (kw.out _).mono ?_
    rintro e w3 ⟨⟨t', u', rfl⟩, rfl⟩
    go_wp2_with fail
    go_ret
    exact ⟨(Upd.refl _ _).drewN n, t', u', rfl⟩

end Go.Proofs.YtpbhcmfbcnihiaaGreat
