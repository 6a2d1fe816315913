/- The corpus and what it stands on, merged. -/
import Derived.Test.YtbgommpdmnbplaaGreatDoorCoA19
import Derived.Test.YtbgommpdmnbplaaGreatDoorCoA22
import Derived.Test.YtbgommpdmnbplaaGreatDoorCoA12

/- What Delete does. -/
namespace Go.Proofs.YtbgommpdmnbplaaGreatDoor
open Go.RowKit Co Num Jr
set_option linter.unusedVariables false
set_option maxRecDepth 20000

/-- What find tells of a key that is not there. -/
def FindN (w : World) (r : Ending) (w' : World) : Prop := ∃ code : Nat, code ≠ 0 ∧ r = .returned (.tuple #[zeroE, .int .i64 code]) ∧ Below w.heap.size w w'

set_option maxHeartbeats 4000000 in
theorem find_none (N : List Nat) (cp jp m : Nat) (K : List (List UInt8)) (F : Sta) (s : ByteArray) (w : World) (hc : w.heap[cp]? = some (.cells #[.pointer (some ⟨jp, 0, none⟩), .map (some m)] 77 (0, 0))) (hm : Em w N m K F) (hF : F (kb s) = none ∨ isKey s = false) : Calls Tryz.prog 59 #[.pointer (some ⟨cp, 0, none⟩), .string s] w (FindN w) := by
  obtain ⟨W, gW⟩ : ∃ W, W = w.alloc (.cells #[.string ⟨#[]⟩, .string ⟨#[]⟩, .slice none 0 0, .int .i64 0, .slice none 0 0] 37) := ⟨_, rfl⟩
  have hbW : Below w.heap.size w W := by rw [gW]; exact (Below.refl _ _).alloc (Nat.le_refl _) _
  have hcl : cp < w.heap.size := (Array.getElem?_eq_some_iff.1 hc).1
  have hcW : W.heap[cp]? = some (.cells #[.pointer (some ⟨jp, 0, none⟩), .map (some m)] 77 (0, 0)) := (hbW.block cp hcl).trans hc
  have hW : W.heap[w.heap.size]? = some (.cells #[.string ⟨#[]⟩, .string ⟨#[]⟩, .slice none 0 0, .int .i64 0, .slice none 0 0] 37 (0, 0)) := by rw [gW]; exact heap_alloc_new _ _
  have k1 := hid (cusable cp jp m W hcW)
  have k2 := hid (fun wx => iskey_any s wx)
  have c1 : W.cell? ⟨cp, 1, none⟩ = some (.map (some m)) := heap_cells hcW 1 _ rfl
  have HH := hid (fun h : isKey s = true => em_look_in hm hbW s (by have := isKey_size h; unfold maxLen; omega))
  obtain ⟨b, gb⟩ : ∃ b, b = isKey s := ⟨_, rfl⟩
  rw [← gb] at k2 hF
  have GB := hid gb
  have GW := hid gW
  have HBW := hid hbW
  have HW := hid hW
  have hwl : w.heap.size < W.heap.size := (Array.getElem?_eq_some_iff.1 hW).1
  have HTH := hid (there_of_block (C := [.string ⟨#[]⟩, .string ⟨#[]⟩, .slice none 0 0, .int .i64 0, .slice none 0 0]) hW 0 5 (by simp))
  have HFF := hid hF
  clear gW hW hbW hc hcl hcW hm gb hF
  cases b with
  | false =>
    go_enter Tryz.func59, Tryz.ntmps59
    go_upto_region 1 with fail
    rw [← GW.out]
    go_wp2_with (first | (go_at_call 44; refine k1.out.mono ?_; rintro r wx ⟨rfl, h⟩; subst wx) | (go_at_call 45; refine (k2.out _).mono ?_; rintro r wx ⟨rfl, h⟩; subst wx) | (refine wpList_store_mid rfl 37 (.tmp 4) (.tmp 15) rfl w.heap.size 0 #[.string ⟨#[]⟩, .string ⟨#[]⟩, .slice none 0 0, .int .i64 0, .slice none 0 0] rfl rfl HTH.out esize (by simp [Value.oneCell']) ?_))
    have hZ := set_row (cs := [.string ⟨#[]⟩, .string ⟨#[]⟩, .slice none 0 0, .int .i64 0, .slice none 0 0]) HW.out rfl
    refine bodyPost_ret (cell_tmp_result rfl _ _ w.heap.size 0 rfl [.string ⟨#[]⟩, .string ⟨#[]⟩, .slice none 0 0, .int .i64 0, .slice none 0 0] _ (rangeAt_block hZ) Tryz.underlying37 rfl esize) rfl ?_
    have hU := upd_setCells w.heap.size [.string ⟨#[]⟩, .string ⟨#[]⟩, .slice none 0 0, .int .i64 0, .slice none 0 0] 0 W
    exact ⟨40, by decide, rfl, HBW.out.trans (hU.below HBW.out.size (fun x h => by rw [h]; exact Nat.le_refl _))⟩
  | true =>
    rcases HH.out GB.out.symm with ⟨hF', hr⟩ | ⟨e, v, hF', _⟩
    · unfold zeroE at hr
      go_enter Tryz.func59, Tryz.ntmps59
      go_upto_region 1 with fail
      rw [← GW.out]
      go_upto_region 6 with (first | (go_at_call 44; refine k1.out.mono ?_; rintro r wx ⟨rfl, h⟩; subst wx) | (go_at_call 45; refine (k2.out _).mono ?_; rintro r wx ⟨rfl, h⟩; subst wx))
      obtain ⟨X, gX⟩ : ∃ X, X = W.alloc (.cells #[.string ⟨#[]⟩, .string ⟨#[]⟩, .slice none 0 0, .int .i64 0, .slice none 0 0] 37) := ⟨_, rfl⟩
      have hbX : Below W.heap.size W X := by rw [gX]; exact (Below.refl _ _).alloc (Nat.le_refl _) _
      rw [← gX]
      have hX1 := (hbX.block w.heap.size hwl).trans HW.out
      have HTX := hid (there_of_block (C := [.string ⟨#[]⟩, .string ⟨#[]⟩, .slice none 0 0, .int .i64 0, .slice none 0 0]) hX1 0 5 (by simp))
      have HX1 := hid hX1
      have HBX := hid hbX
      clear gX hX1 hbX
      go_wp2_with (refine wpList_store_mid rfl 37 (.tmp 4) (.tmp 27) rfl w.heap.size 0 #[.string ⟨#[]⟩, .string ⟨#[]⟩, .slice none 0 0, .int .i64 0, .slice none 0 0] rfl rfl HTX.out esize (by simp [Value.oneCell']) ?_)
      have hZ := set_row (cs := [.string ⟨#[]⟩, .string ⟨#[]⟩, .slice none 0 0, .int .i64 0, .slice none 0 0]) HX1.out rfl
      refine bodyPost_ret (cell_tmp_result rfl _ _ w.heap.size 0 rfl [.string ⟨#[]⟩, .string ⟨#[]⟩, .slice none 0 0, .int .i64 0, .slice none 0 0] _ (rangeAt_block hZ) Tryz.underlying37 rfl esize) rfl ?_
      have hU := upd_setCells w.heap.size [.string ⟨#[]⟩, .string ⟨#[]⟩, .slice none 0 0, .int .i64 0, .slice none 0 0] 0 X
      have hbwX := HBW.out.trans (HBX.out.mono HBW.out.size)
      exact ⟨41, by decide, rfl, hbwX.trans (hU.below hbwX.size (fun x h => by rw [h]; exact Nat.le_refl _))⟩
    · rcases HFF.out with h | h
      · rw [hF'] at h; cases h
      · cases h

theorem delR_len {k : ByteArray} (h : k.size ≤ 24) : (delR k).length ≤ 40 := by
  have := str_len k
  have := cnt_small (str k).length (by omega)
  simp only [delR, txtB, List.length_cons, List.length_append]
  omega
/-- What Delete asks of a key that it takes. -/
def DelMore (F : Sta) (k : ByteArray) : Prop := isKey k = true ∧ F (kb k) ≠ none

set_option maxHeartbeats 8000000 in
theorem delete_entry (d : Dk) (cp jp p n gen groups used : Nat) (S : Nat → List Int) (done : List (List Int)) (wv : Value) (m : Nat) (K : List (List UInt8)) (F : Sta) (ks : ByteArray) (w : World)
    (h : Cp d w cp jp p n S gen groups used done wv m K F) (hT : Tab w) (hTf : 1 ∉ Jf d p jp wv) (hR : Er w) (hRf : 0 ∉ Jf d p jp wv) (hn4 : 4 ≤ n) :
    Calls Tryz.prog 16 #[.pointer (some ⟨cp, 0, none⟩), .string ks] w (StepP d w cp jp p n S gen groups used done wv m K F (delR ks) (F.del (kb ks)) (DelMore F ks)) := by
  by_cases hd : DelMore F ks
  · obtain ⟨e, he⟩ : ∃ e, F (kb ks) = some e := by
      cases q : F (kb ks) with
      | none => exact absurd q hd.2
      | some e => exact ⟨e, rfl⟩
    have k1 := hid (find_there _ cp jp m K F ks e w h.cc h.em he hd.1)
    have hks := (isKey_size hd.1).2
    have hcl : cp < w.heap.size := (Array.getElem?_eq_some_iff.1 h.cc).1
    have hcc : ∀ wx, Below w.heap.size w wx → wx.heap[cp]? = some (.cells #[.pointer (some ⟨jp, 0, none⟩), .map (some m)] 77 (0, 0)) := fun wx hb => (hb.block cp hcl).trans h.cc
    have HH := hid h
    have HT := hid hT
    have HTF := hid hTf
    have HR := hid hR
    have HRF := hid hRf
    have HCC := hid hcc
    have HD := hid hd
    clear h hT hTf hR hRf hcc hd he
    go_enter Tryz.func16, Tryz.ntmps16
    go_upto_region 2 with (first | (go_at_call 59; refine k1.out.mono ?_; rintro r w1 h1; have H1 := hid h1; clear h1 k1; obtain ⟨v1, rfl, hE1, hb1⟩ := H1.out; obtain ⟨pa, pc, qa, qc, rfl, _, _⟩ := hE1; have HB1 := hid hb1; clear hb1 H1; unfold entV))
    obtain ⟨X, gX⟩ : ∃ X, X = w1.alloc (.cells #[.string e.k, .string e.g, .slice pa e.p.length pc, .int .i64 e.f, .slice qa e.q.length qc] 37) := ⟨_, rfl⟩
    have hbX : Below w1.heap.size w1 X := by rw [gX]; exact (Below.refl _ _).alloc (Nat.le_refl _) _
    rw [← gX]
    have HBX : Hid (Below w.heap.size w X) := hid (HB1.out.trans (hbX.mono HB1.out.size))
    have c1 : X.cell? ⟨cp, 1, none⟩ = some (.map (some m)) := heap_cells (HCC.out X HBX.out) 1 _ rfl
    have k4 := hid (em_clone _ [] m K F X (HH.out.em.below HBX.out))
    clear gX hbX
    go_upto_region 5 with (first | (go_at_call 49; refine k4.out.mono ?_; rintro r w4 ⟨rfl, hm4, hb4⟩; have HM4 := hid hm4; have HB4 := hid hb4; clear hm4 hb4 k4))
    have HBw4 : Hid (Below w.heap.size w w4) := hid (HBX.out.trans (HB4.out.mono HBX.out.size))
    obtain ⟨m2, gm2⟩ : ∃ m2, m2 = X.heap.size := ⟨_, rfl⟩
    rw [← gm2] at HM4
    rw [← gm2]
    have GM2 := hid gm2
    clear gm2 c1
    have hm2w : w.heap.size ≤ m2 := by rw [GM2.out]; exact HBX.out.size
    obtain ⟨w5, K5, hr5, hm5, hu5, hk5⟩ := em_del HM4.out ks (by unfold maxLen; omega) 0
    have hb5 : Below w.heap.size w w5 := HBw4.out.trans (hu5.below HBw4.out.size (fun x h => by omega))
    have HB5 := hid hb5
    have HM5 := hid hm5
    have HK5 := hid hk5
    clear hb5 hm5 hu5 hk5
    have k6 := hid (delrec_any ks w5 hks)
    have hk40 := HH.out.k40
    have kC := hid (fun (g c : Nat) (w6 : World) (ho : w6.ownsRow w5.heap.size 5 1 (.slice (some ⟨g, 0, none⟩) (delR ks).length c) (delR ks).length ((delR ks).map (Value.int .u8))) (hb : Below w5.heap.size w5 w6) =>
      have hb6 : Below w.heap.size w w6 := HB5.out.trans (hb.mono HB5.out.size)
      change_any d cp jp p n gen groups used S done wv m K F (some ⟨g, 0, none⟩) (delR ks).length c (delR ks) m2 K5 (F.del (kb ks)) w6 (HH.out.below hb6) (HT.out.upd' (Upd.of_below (F := fun _ => False) hb6) (fun h => h)) HTF.out (HR.out.upd (Upd.of_below (F := fun _ => False) hb6) (fun h => h)) HRF.out hn4 (own_bg ho [] (fun x hx => by simp at hx) (by have := delR_len hks; omega)) (delR_bytes ks) (HM5.out.below hb) (by have := HK5.out; omega) (HH.out.ok.del _) (fun hx => by have := HH.out.js.lt m2 hx; omega))
    obtain ⟨zl, gzl⟩ : ∃ zl, zl = (delR ks).length := ⟨_, rfl⟩
    rw [← gzl] at kC
    have GZL := hid gzl
    clear gzl
    go_wp2_with (first | (go_at_call 60; refine k6.out.mono ?_; rintro r w6 h6; have H6 := hid h6; clear h6 k6; obtain ⟨g6, c6, e6, ho6, hb6⟩ := H6.out; rw [← GZL.out] at e6 ho6; subst e6; have HO6 := hid ho6; have HB6 := hid hb6; clear ho6 hb6 H6) | (go_at_call 51; refine (kC.out g6 c6 w6 HO6.out HB6.out).mono ?_; rintro r w7 h7; have H7 := hid h7; clear h7 kC; obtain ⟨code, d7, wv7, rfl, hf7, hu7, hg7, h7⟩ := H7.out; have HF7 := hid hf7; clear hf7; have HU7 := hid hu7; have HG7 := hid hg7; have HH7 := hid h7; clear hu7 hg7 h7 H7))
    go_ret
    have hb6 : Below w.heap.size w w6 := HB5.out.trans (HB6.out.mono HB5.out.size)
    have hU : Upd (· ∈ cp :: Jf d p jp wv) w w7 := (Upd.of_below hb6).trans HU7.out (fun x _ h => h)
    have hG : Grew' w (Jf d p jp wv) (Jf d7 p jp wv7) := fun x hx => by
      rcases HG7.out x hx with h | h
      · exact .inl h
      · exact .inr (Nat.le_trans hb6.size h)
    rcases HH7.out with ⟨h1, h2, g7, u7, h3⟩ | ⟨h1, h2, g7, u7, h3⟩ | ⟨h1, h2, h3⟩
    · exact ⟨code, d7, wv7, m2, K5, rfl, fun h _ => HF7.out h, hU, hG, .inr hm2w, .inl ⟨h1, h2, HD.out, g7, u7, h3⟩⟩
    · exact ⟨code, d7, wv7, m2, K5, rfl, fun h _ => HF7.out h, hU, hG, .inr hm2w, .inr (.inl ⟨h1, h2, HD.out, g7, u7, h3⟩)⟩
    · subst h2
      exact ⟨code, d7, wv7, m, K, rfl, fun h _ => HF7.out h, hU, hG, .inl rfl, .inr (.inr ⟨h1, rfl, rfl, rfl, h3⟩)⟩
  · have hnk : F (kb ks) = none ∨ isKey ks = false := by
      cases q : isKey ks with
      | false => exact .inr rfl
      | true =>
        cases q2 : F (kb ks) with
        | none => exact .inl rfl
        | some e => exact absurd ⟨q, by rw [q2]; simp⟩ hd
    have k1 := hid (find_none _ cp jp m K F ks w h.cc h.em hnk)
    have HH := hid h
    have HD := hid hd
    clear h hT hTf hR hRf hd hnk
    go_enter Tryz.func16, Tryz.ntmps16
    go_upto_region 2 with (first | (go_at_call 59; refine k1.out.mono ?_; rintro r w1 h1; have H1 := hid h1; clear h1 k1; obtain ⟨code, hc0, rfl, hb1⟩ := H1.out; have HB1 := hid hb1; clear hb1 H1; unfold zeroE))
    have hcv : ¬ (code : Int) = 0 := by omega
    have hcb : ((code : Int) != 0) = true := by simp; omega
    go_wp2_with fail
    go_ret
    exact step_no HH.out (HB1.out.alloc HB1.out.size _) code hc0 _ rfl HD.out
end Go.Proofs.YtbgommpdmnbplaaGreatDoor

/- Entries compared that are the same. -/
namespace Go.Proofs.YtbgommpdmnbplaaGreatDoor
open Go.RowKit Co Num Jr
set_option linter.unusedVariables false
set_option maxRecDepth 20000

set_option maxHeartbeats 4000000 in
theorem same_ent (N N' : List Nat) (v v' : Value) (e : Ety) (w : World) (h : Ev w N v e) (h' : Ev w N' v' e) (hp : e.p.length ≤ 2000) (hq : e.q.length ≤ 2000) : Calls Tryz.prog 15 #[v, v'] w fun r w' => r = .returned (.bool true) ∧ Below w.heap.size w w' := by
  obtain ⟨pa, pc, qa, qc, rfl, hP, hQ⟩ := h
  obtain ⟨pa', pc', qa', qc', rfl, hP', hQ'⟩ := h'
  unfold entV
  obtain ⟨pn, gpn⟩ : ∃ pn, pn = e.p.length := ⟨_, rfl⟩
  obtain ⟨qn, gqn⟩ : ∃ qn, qn = e.q.length := ⟨_, rfl⟩
  obtain ⟨ks, gks⟩ : ∃ ks, ks = e.k := ⟨_, rfl⟩
  obtain ⟨gs, ggs⟩ : ∃ gs, gs = e.g := ⟨_, rfl⟩
  obtain ⟨fx, gfx⟩ : ∃ fx, fx = e.f := ⟨_, rfl⟩
  rw [← gpn, ← gqn, ← gks, ← ggs, ← gfx]
  rw [← gpn] at hP hP' hp
  rw [← gqn] at hQ hQ' hq
  obtain ⟨W, gW⟩ : ∃ W, W = (w.alloc (.cells #[.string ks, .string gs, .slice pa pn pc, .int .i64 fx, .slice qa qn qc] 37)).alloc (.cells #[.string ks, .string gs, .slice pa' pn pc', .int .i64 fx, .slice qa' qn qc'] 37) := ⟨_, rfl⟩
  have hbW : Below w.heap.size w W := by rw [gW]; exact ((Below.refl _ _).alloc (Nat.le_refl _) _).alloc (by simp) _
  have hW0 : W.heap[w.heap.size]? = some (.cells #[.string ks, .string gs, .slice pa pn pc, .int .i64 fx, .slice qa qn qc] 37 (0, 0)) := by
    rw [gW]; exact (Below.heap_alloc _ _ _ (by simp)).trans (heap_alloc_new _ _)
  have hW1 : W.heap[w.heap.size + 1]? = some (.cells #[.string ks, .string gs, .slice pa' pn pc', .int .i64 fx, .slice qa' qn qc'] 37 (0, 0)) := by
    rw [gW]
    have := heap_alloc_new (w.alloc (.cells #[.string ks, .string gs, .slice pa pn pc, .int .i64 fx, .slice qa qn qc] 37)) (.cells #[.string ks, .string gs, .slice pa' pn pc', .int .i64 fx, .slice qa' qn qc'] 37)
    simpa using this
  have hwl : w.heap.size + 1 < W.heap.size := (Array.getElem?_eq_some_iff.1 hW1).1
  have k1 := hid (fun wx (hb : Below W.heap.size W wx) => eq_lst pa pa' pn pc pn pc' e.p wx (hP.il.below (hbW.trans (hb.mono hbW.size))) (hP'.il.below (hbW.trans (hb.mono hbW.size))) (by omega))
  have k2 := hid (fun wx (hb : Below W.heap.size W wx) => eq_lst qa qa' qn qc qn qc' e.q wx (hQ.il.below (hbW.trans (hb.mono hbW.size))) (hQ'.il.below (hbW.trans (hb.mono hbW.size))) (by omega))
  have hc : ∀ wx, Below W.heap.size W wx → wx.heap[w.heap.size]? = some (.cells #[.string ks, .string gs, .slice pa pn pc, .int .i64 fx, .slice qa qn qc] 37 (0, 0)) ∧ wx.heap[w.heap.size + 1]? = some (.cells #[.string ks, .string gs, .slice pa' pn pc', .int .i64 fx, .slice qa' qn qc'] 37 (0, 0)) := fun wx hb => ⟨(hb.block _ (by omega)).trans hW0, (hb.block _ hwl).trans hW1⟩
  have c0 : W.cell? ⟨w.heap.size, 0, none⟩ = some (.string ks) := heap_cells hW0 0 _ rfl
  have c1 : W.cell? ⟨w.heap.size, 1, none⟩ = some (.string gs) := heap_cells hW0 1 _ rfl
  have c2 : W.cell? ⟨w.heap.size, 2, none⟩ = some (.slice pa pn pc) := heap_cells hW0 2 _ rfl
  have c3 : W.cell? ⟨w.heap.size, 3, none⟩ = some (.int .i64 fx) := heap_cells hW0 3 _ rfl
  have d0 : W.cell? ⟨w.heap.size + 1, 0, none⟩ = some (.string ks) := heap_cells hW1 0 _ rfl
  have d1 : W.cell? ⟨w.heap.size + 1, 1, none⟩ = some (.string gs) := heap_cells hW1 1 _ rfl
  have d2 : W.cell? ⟨w.heap.size + 1, 2, none⟩ = some (.slice pa' pn pc') := heap_cells hW1 2 _ rfl
  have d3 : W.cell? ⟨w.heap.size + 1, 3, none⟩ = some (.int .i64 fx) := heap_cells hW1 3 _ rfl
  have GW := hid gW
  have HBW := hid hbW
  have HC := hid hc
  clear hP hQ hP' hQ' gW hbW hW0 hW1 hc gpn gqn gks ggs gfx
  go_enter Tryz.func15, Tryz.ntmps15
  go_upto_region 1 with fail
  rw [← GW.out]
  go_wp2_with (first | (go_at_call 58; refine (k1.out _ (Below.refl _ _)).mono ?_; rintro r w1 ⟨rfl, hb1⟩; have HB1 := hid hb1; have x4 : w1.cell? ⟨w.heap.size, 4, none⟩ = some (.slice qa qn qc) := heap_cells (HC.out w1 hb1).1 4 _ rfl; have y4 : w1.cell? ⟨w.heap.size + 1, 4, none⟩ = some (.slice qa' qn qc') := heap_cells (HC.out w1 hb1).2 4 _ rfl; clear hb1 k1) | (go_at_call 58; refine (k2.out _ HB1.out).mono ?_; rintro r w2 ⟨rfl, hb2⟩; have HB2 := hid (HB1.out.trans (hb2.mono HB1.out.size)); clear hb2 k2))
  go_ret
  exact ⟨rfl, HBW.out.trans (HB2.out.mono HBW.out.size)⟩

set_option maxHeartbeats 8000000 in
theorem eqf_same (B B' : Nat) (v v' : Value) (L : List Ety) (w : World) (h : Els w B v L) (h' : Els w B' v' L) (hl : L.length ≤ 40) (hL : ∀ e ∈ L, e.p.length ≤ 2000 ∧ e.q.length ≤ 2000) : Calls Tryz.prog 85 #[v, v', .func (.func 15) #[] #[]] w fun r w' => r = .returned (.bool true) ∧ Below w.heap.size w w' := by
  have hA := h
  have hA' := h'
  obtain ⟨vs, h1, h2, _, _⟩ := h
  obtain ⟨vs', h1', h2', _, _⟩ := h'
  obtain ⟨a, c, ev, hc1, hc2⟩ := own_shape h2
  obtain ⟨a', c', ev', hc1', hc2'⟩ := own_shape h2'
  subst ev
  subst ev'
  obtain ⟨ln, gln⟩ : ∃ ln, ln = L.length := ⟨_, rfl⟩
  rw [← gln] at hl hc1 hc1' hA hA'
  rw [← gln]
  have GLN := hid gln
  have HA := hid hA
  have HA' := hid hA'
  have HL := hid hL
  clear hA hA' hL h1 h2 h1' h2' gln
  go_enter Tryz.func85, Tryz.ntmps85
  go_upto_region 4 with fail
  go_loopw [17] (fun k wr => ∃ i : Nat, k = .int .i64 i ∧ i ≤ ln ∧ Hid (Below w.heap.size w wr)) (fun k _ => ln - (intOf k).toNat)
  case atStart => exact ⟨0, rfl, Nat.zero_le _, hid (Below.refl _ _)⟩
  case round =>
    obtain ⟨i, rfl, hin, HB⟩ := hrel
    by_cases hlt : i < ln
    · have hiL : i < L.length := by rw [← GLN.out]; exact hlt
      obtain ⟨g, c2, pa, pc, qa, qc, ev, hgl, _, _, c0, c1, c2', c3, c4, hp, hq⟩ := HA.out.at i hiL
      obtain ⟨g', c2x, pa', pc', qa', qc', ev', hgl', _, _, d0, d1, d2, d3, d4, hp', hq'⟩ := HA'.out.at i hiL
      injection ev with ev1 ev2 ev3
      injection ev' with ev1' ev2' ev3'
      subst ev1
      subst ev1'
      have hle := HL.out L[i] (List.getElem_mem hiL)
      obtain ⟨e, ge⟩ : ∃ e, e = L[i] := ⟨_, rfl⟩
      rw [← ge] at c0 c1 c2' c3 c4 hp hq d0 d1 d2 d3 d4 hp' hq' hle
      have hE : ∀ wx, Below w.heap.size w wx → Ev wx [] (entV e.k e.g pa e.p.length pc e.f qa e.q.length qc) e := fun wx hb => Ev.upd (w := w) (N := vb (.slice (some ⟨g, 0, none⟩) ln c)) ⟨pa, pc, qa, qc, rfl, hp, hq⟩ (Upd.of_below (F := fun _ => False) hb) (fun _ _ h => h.elim) (fun x hx => by simp at hx)
      have hE' : ∀ wx, Below w.heap.size w wx → Ev wx [] (entV e.k e.g pa' e.p.length pc' e.f qa' e.q.length qc') e := fun wx hb => Ev.upd (w := w) (N := vb (.slice (some ⟨g', 0, none⟩) ln c')) ⟨pa', pc', qa', qc', rfl, hp', hq'⟩ (Upd.of_below (F := fun _ => False) hb) (fun _ _ h => h.elim) (fun x hx => by simp at hx)
      have kS := hid (fun wx (hb : Below w.heap.size w wx) => same_ent [] [] _ _ e wx (hE wx hb) (hE' wx hb) hle.1 hle.2)
      unfold entV at kS
      obtain ⟨pn, gpn⟩ : ∃ pn, pn = e.p.length := ⟨_, rfl⟩
      obtain ⟨qn, gqn⟩ : ∃ qn, qn = e.q.length := ⟨_, rfl⟩
      obtain ⟨ks, gks⟩ : ∃ ks, ks = e.k := ⟨_, rfl⟩
      obtain ⟨gs, ggs⟩ : ∃ gs, gs = e.g := ⟨_, rfl⟩
      obtain ⟨fx, gfx⟩ : ∃ fx, fx = e.f := ⟨_, rfl⟩
      rw [← gpn, ← gqn, ← gks, ← ggs, ← gfx] at kS
      rw [← gks] at c0 d0
      rw [← ggs] at c1 d1
      rw [← gpn] at c2' d2
      rw [← gfx] at c3 d3
      rw [← gqn] at c4 d4
      have hb := HB.out
      have x0 : wr.cell? ⟨g, i * 5, none⟩ = some (.string ks) := (hb.cell (p := ⟨g, i * 5, none⟩) hgl).trans c0
      have x1 : wr.cell? ⟨g, i * 5 + 1, none⟩ = some (.string gs) := (hb.cell (p := ⟨g, i * 5 + 1, none⟩) hgl).trans c1
      have x2 : wr.cell? ⟨g, i * 5 + 2, none⟩ = some (.slice pa pn pc) := (hb.cell (p := ⟨g, i * 5 + 2, none⟩) hgl).trans c2'
      have x3 : wr.cell? ⟨g, i * 5 + 3, none⟩ = some (.int .i64 fx) := (hb.cell (p := ⟨g, i * 5 + 3, none⟩) hgl).trans c3
      have x4 : wr.cell? ⟨g, i * 5 + 4, none⟩ = some (.slice qa qn qc) := (hb.cell (p := ⟨g, i * 5 + 4, none⟩) hgl).trans c4
      obtain ⟨X, gX⟩ : ∃ X, X = wr.alloc (.cells #[.string ks, .string gs, .slice pa pn pc, .int .i64 fx, .slice qa qn qc] 37) := ⟨_, rfl⟩
      have hbX : Below wr.heap.size wr X := by rw [gX]; exact (Below.refl _ _).alloc (Nat.le_refl _) _
      have hX : X.heap[wr.heap.size]? = some (.cells #[.string ks, .string gs, .slice pa pn pc, .int .i64 fx, .slice qa qn qc] 37 (0, 0)) := by rw [gX]; exact heap_alloc_new _ _
      have hbwX : Below w.heap.size w X := hb.trans (hbX.mono hb.size)
      have z0 : X.cell? ⟨g', i * 5, none⟩ = some (.string ks) := (hbwX.cell (p := ⟨g', i * 5, none⟩) hgl').trans d0
      have z1 : X.cell? ⟨g', i * 5 + 1, none⟩ = some (.string gs) := (hbwX.cell (p := ⟨g', i * 5 + 1, none⟩) hgl').trans d1
      have z2 : X.cell? ⟨g', i * 5 + 2, none⟩ = some (.slice pa' pn pc') := (hbwX.cell (p := ⟨g', i * 5 + 2, none⟩) hgl').trans d2
      have z3 : X.cell? ⟨g', i * 5 + 3, none⟩ = some (.int .i64 fx) := (hbwX.cell (p := ⟨g', i * 5 + 3, none⟩) hgl').trans d3
      have z4 : X.cell? ⟨g', i * 5 + 4, none⟩ = some (.slice qa' qn qc') := (hbwX.cell (p := ⟨g', i * 5 + 4, none⟩) hgl').trans d4
      obtain ⟨Y, gY⟩ : ∃ Y, Y = X.alloc (.cells #[.string ks, .string gs, .slice pa' pn pc', .int .i64 fx, .slice qa' qn qc'] 37) := ⟨_, rfl⟩
      have hbY : Below X.heap.size X Y := by rw [gY]; exact (Below.refl _ _).alloc (Nat.le_refl _) _
      have hY : Y.heap[X.heap.size]? = some (.cells #[.string ks, .string gs, .slice pa' pn pc', .int .i64 fx, .slice qa' qn qc'] 37 (0, 0)) := by rw [gY]; exact heap_alloc_new _ _
      have hYX : Y.heap[wr.heap.size]? = some (.cells #[.string ks, .string gs, .slice pa pn pc, .int .i64 fx, .slice qa qn qc] 37 (0, 0)) := (hbY.block _ (Array.getElem?_eq_some_iff.1 hX).1).trans hX
      have HBY : Hid (Below w.heap.size w Y) := hid (hbwX.trans (hbY.mono hbwX.size))
      have GX := hid gX
      have GY := hid gY
      have HY := hid hY
      have HYX := hid hYX
      clear ev2 ev3 ev2' ev3' c0 c1 c2' c3 c4 d0 d1 d2 d3 d4 hp hq hp' hq' hE hE' hle ge gpn gqn gks ggs gfx hb gX hbX hX hbwX gY hbY hY hYX
      go_upto_region 6 with fail
      rw [← GX.out]
      go_upto_region 7 with fail
      rw [← GY.out]
      clear x0 x1 x2 x3 x4 z0 z1 z2 z3 z4
      have x0 : Y.cell? ⟨wr.heap.size, 0, none⟩ = some (.string ks) := heap_cells HYX.out 0 _ rfl
      have x1 : Y.cell? ⟨wr.heap.size, 1, none⟩ = some (.string gs) := heap_cells HYX.out 1 _ rfl
      have x2 : Y.cell? ⟨wr.heap.size, 2, none⟩ = some (.slice pa pn pc) := heap_cells HYX.out 2 _ rfl
      have x3 : Y.cell? ⟨wr.heap.size, 3, none⟩ = some (.int .i64 fx) := heap_cells HYX.out 3 _ rfl
      have x4 : Y.cell? ⟨wr.heap.size, 4, none⟩ = some (.slice qa qn qc) := heap_cells HYX.out 4 _ rfl
      have z0 : Y.cell? ⟨X.heap.size, 0, none⟩ = some (.string ks) := heap_cells HY.out 0 _ rfl
      have z1 : Y.cell? ⟨X.heap.size, 1, none⟩ = some (.string gs) := heap_cells HY.out 1 _ rfl
      have z2 : Y.cell? ⟨X.heap.size, 2, none⟩ = some (.slice pa' pn pc') := heap_cells HY.out 2 _ rfl
      have z3 : Y.cell? ⟨X.heap.size, 3, none⟩ = some (.int .i64 fx) := heap_cells HY.out 3 _ rfl
      have z4 : Y.cell? ⟨X.heap.size, 4, none⟩ = some (.slice qa' qn qc') := heap_cells HY.out 4 _ rfl
      go_wp2_with (first | (go_at_call 15; refine (kS.out _ HBY.out).mono ?_; rintro r w3 ⟨rfl, hb3⟩; have HB3 := hid (HBY.out.trans (hb3.mono HBY.out.size)); clear hb3 kS))
      go_roundw
      case rel => exact ⟨i + 1, by go_num, by omega, hid HB3.out⟩
      case measure => simp [intOf]; omega
    · have hltv : ¬ (i : Int) < (ln : Int) := by omega
      go_wp2_with fail
      go_ret
      exact ⟨rfl, HB.out⟩

theorem same_ents (B B' : Nat) (v v' : Value) (L : List Ety) (w : World) (h : Els w B v L) (h' : Els w B' v' L) (hl : L.length ≤ 40) (hL : ∀ e ∈ L, e.p.length ≤ 2000 ∧ e.q.length ≤ 2000) : Calls Tryz.prog 32 #[v, v'] w fun r w' => r = .returned (.bool true) ∧ Below w.heap.size w w' := by
  have k := hid (eqf_same B B' v v' L w h h' hl hL)
  obtain ⟨_, _, h2, _, _⟩ := h
  obtain ⟨_, _, h2', _, _⟩ := h'
  obtain ⟨a, c, ev, _, _⟩ := own_shape h2
  obtain ⟨a', c', ev', _, _⟩ := own_shape h2'
  subst ev
  subst ev'
  obtain ⟨ln, gln⟩ : ∃ ln, ln = L.length := ⟨_, rfl⟩
  rw [← gln] at k
  rw [← gln]
  clear h2 h2' gln
  go_enter Tryz.func32, Tryz.ntmps32
  go_wp2_with (first | (go_at_call 85; refine k.out.mono ?_; rintro r w1 ⟨rfl, hb1⟩; have HB1 := hid hb1; clear hb1))
  go_ret
  exact ⟨rfl, HB1.out⟩
end Go.Proofs.YtbgommpdmnbplaaGreatDoor

/- What the law's 'all' gathers, apart from what lay there. -/
namespace Go.Proofs.YtbgommpdmnbplaaGreatDoor
open Go.RowKit Co Num Jr
set_option linter.unusedVariables false
set_option maxRecDepth 20000

/-- Entries in a row of the law's own, new since B. -/
def Elt (w : World) (N0 : List Nat) (B : Nat) (v : Value) (L : List Ety) : Prop := ∃ vs : List Value, vs.length = L.length ∧ w.ownsRow 0 37 5 v L.length (vs.map cellsE).flatten ∧ (∀ x ∈ vb v, B ≤ x) ∧ ∀ j, ∀ h : j < L.length, ∃ u, vs[j]? = some u ∧ Ev w (vb v ++ N0) u L[j]

theorem Elt.nil (w : World) (N0 : List Nat) (B : Nat) : Elt w N0 B (.slice none 0 0) [] := ⟨[], rfl, World.ownsRow_nil _ _ _ _, fun x hx => by simp [vb, Value.ownBlock] at hx, fun j h => absurd h (by simp)⟩
theorem Elt.below {w w' : World} {N0 : List Nat} {B : Nat} {v : Value} {L : List Ety} (h : Elt w N0 B v L) (u : Below w.heap.size w w') : Elt w' N0 B v L := by
  obtain ⟨vs, h1, h2, h3, h4⟩ := h
  refine ⟨vs, h1, own_below h2 u, h3, fun j hj => ?_⟩
  obtain ⟨x, hx, hE⟩ := h4 j hj
  exact ⟨x, hx, hE.upd (Upd.of_below (F := fun _ => False) u) (fun _ _ h => h.elim) (fun y hy => .inl hy)⟩
theorem Elt.lt {w : World} {N0 : List Nat} {B : Nat} {v : Value} {L : List Ety} (h : Elt w N0 B v L) : ∀ x ∈ vb v, x < w.heap.size := by
  obtain ⟨vs, h1, h2, h3, h4⟩ := h
  exact fun x hx => own_lt h2 hx
theorem Elt.push {w w' : World} {N0 : List Nat} {B : Nat} {v v' u : Value} {L : List Ety} {e : Ety} {vs : List Value} (h1 : vs.length = L.length) (h3 : ∀ x ∈ vb v, B ≤ x) (h4 : ∀ j, ∀ h : j < L.length, ∃ u, vs[j]? = some u ∧ Ev w (vb v ++ N0) u L[j]) (hE : Ev w (vb v ++ N0) u e)
    (hO : w'.ownsRow 0 37 5 v' (L.length + 1) ((vs.map cellsE).flatten ++ cellsE u)) (hU : Upd (fun x => v.ownBlock = some x) w w') (hW : v'.ownBlock = v.ownBlock ∨ ∀ x, v'.ownBlock = some x → w.heap.size ≤ x) (hB : B ≤ w.heap.size) : Elt w' N0 B v' (L ++ [e]) := by
  have hvb : ∀ x, v.ownBlock = some x → x ∈ vb v := fun x hx => by simp [vb, hx]
  have hN : ∀ x ∈ vb v', x ∈ vb v ∨ w.heap.size ≤ x := fun x hx => by
    have h' : v'.ownBlock = some x := by simpa [vb] using hx
    rcases hW with hw | hw
    · exact .inl (hvb x (by rw [← hw]; exact h'))
    · exact .inr (hw x h')
  have hN0 : ∀ x ∈ vb v' ++ N0, x ∈ vb v ++ N0 ∨ w.heap.size ≤ x := fun x hx => by
    rcases List.mem_append.1 hx with h | h
    · exact (hN x h).imp (fun h => List.mem_append_left _ h) id
    · exact .inl (List.mem_append_right _ h)
  refine ⟨vs ++ [u], by simp [h1], by simpa using hO, fun x hx => ?_, fun j hj => ?_⟩
  · rcases hN x hx with h | h
    · exact h3 x h
    · omega
  · rcases Nat.lt_or_ge j L.length with hl | hl
    · obtain ⟨y, hy, hEy⟩ := h4 j hl
      refine ⟨y, by rw [List.getElem?_append_left (by omega)]; exact hy, ?_⟩
      rw [List.getElem_append_left hl]
      exact hEy.upd hU (fun b _ hb => .inl (List.mem_append_left _ (hvb b hb))) hN0
    · have : j = L.length := by simp at hj; omega
      subst this
      refine ⟨u, by rw [List.getElem?_append_right (by omega), h1]; simp, ?_⟩
      rw [List.getElem_append_right (Nat.le_refl _)]
      simp only [Nat.sub_self, List.getElem_singleton]
      exact hE.upd hU (fun b _ hb => .inl (List.mem_append_left _ (hvb b hb))) hN0

theorem Elt.els {w : World} {N0 : List Nat} {B : Nat} {v : Value} {L : List Ety} (h : Elt w N0 B v L) : Els w B v L := by
  obtain ⟨vs, h1, h2, h3, h4⟩ := h
  refine ⟨vs, h1, h2, h3, fun j hj => ?_⟩
  obtain ⟨x, hx, hE⟩ := h4 j hj
  exact ⟨x, hx, hE.upd (Upd.refl (fun _ => False) w) (fun _ _ h => h.elim) (fun y hy => .inl (List.mem_append_left _ hy))⟩
theorem Elt.upd {w w' : World} {N0 : List Nat} {B : Nat} {v : Value} {L : List Ety} (h : Elt w N0 B v L) (u : Upd (· ∈ N0) w w') (hN : ∀ x ∈ N0, x < B) : Elt w' N0 B v L := by
  obtain ⟨vs, h1, h2, h3, h4⟩ := h
  refine ⟨vs, h1, u.own h2 (fun k hk hx => ?_), h3, fun j hj => ?_⟩
  · have := h3 k (by simp [vb, hk])
    have := hN k hx
    omega
  · obtain ⟨x, hx, hE⟩ := h4 j hj
    exact ⟨x, hx, hE.upd u (fun b _ hb => .inl (List.mem_append_right _ hb)) (fun y hy => .inl hy)⟩

/-- What 'all' gathers. -/
def AltP (w : World) (N0 : List Nat) (L : List Ety) (r : Ending) (w' : World) : Prop := ∃ v, r = .returned (.tuple #[v, .bool true]) ∧ Elt w' N0 w.heap.size v L ∧ Below w.heap.size w w'

set_option maxHeartbeats 4000000 in
theorem all_new (N0 : List Nat) (N : List Nat) (cp jp m : Nat) (K : List (List UInt8)) (F : Sta) (w : World) (hc : w.heap[cp]? = some (.cells #[.pointer (some ⟨jp, 0, none⟩), .map (some m)] 77 (0, 0))) (hm : Em w N m K F) (hk : K.length ≤ 40) (ho : F.ok) (hN0 : ∀ x ∈ N0, x < w.heap.size) : Calls Tryz.prog 27 #[.pointer (some ⟨cp, 0, none⟩)] w (AltP w N0 (ents F K)) := by
  obtain ⟨i0, hi0, hz0, hz1, hz2⟩ := info_parts infoE
  have hcl : cp < w.heap.size := (Array.getElem?_eq_some_iff.1 hc).1
  have k1 := hid (ckeys_any N cp jp m K F w hc hm hk)
  have hall : ∀ s ∈ K, F s ≠ none := fun s hs => (hm.keys.mem s).1 hs
  obtain ⟨kn, gkn⟩ : ∃ kn, kn = K.length := ⟨_, rfl⟩
  have HC := hid hc
  have HN0 := hid hN0
  have HM := hid hm
  have HO := hid ho
  have HALL := hid hall
  have GKN := hid gkn
  rw [← gkn] at hk
  clear hc hm ho hall gkn hN0
  go_enter Tryz.func27, Tryz.ntmps27
  go_upto_region 3 with (first | (go_at_call 36; refine k1.out.mono ?_; rintro r wk ⟨vk, rfl, hok, hbk⟩; rw [← GKN.out] at hok; obtain ⟨ak, ck, gvk, hck1, hck2⟩ := own_shape hok; have HOK := hid hok; have HBK := hid hbk; subst gvk; clear hok hbk k1))
  go_loopw [4, 12] (fun v k wr => ∃ (i : Nat) (a c : _) , v = .slice a i c ∧ k = .int .i64 i ∧ i ≤ kn ∧ Hid (Elt wr N0 wk.heap.size v (ents F (K.take i)) ∧ Below wk.heap.size wk wr)) (fun _ k _ => kn - (intOf k).toNat)
  case atStart => exact ⟨0, none, 0, rfl, rfl, Nat.zero_le _, hid ⟨by simpa [ents] using Elt.nil wk N0 wk.heap.size, Below.refl _ _⟩⟩
  case round =>
    obtain ⟨i, av, cv, rfl, rfl, hin, HA⟩ := hrel
    by_cases hlt : i < kn
    · have hil : i < K.length := by rw [← GKN.out]; exact hlt
      obtain ⟨e, he⟩ : ∃ e, F K[i] = some e := by
        cases h : F K[i] with
        | none => exact absurd h (HALL.out _ (List.getElem_mem hil))
        | some e => exact ⟨e, rfl⟩
      obtain ⟨sb, hsb, hkb⟩ := kb_enc K[i]
      obtain ⟨o1, o2, o3⟩ := HO.out _ _ he
      have hik : isKey sb = true := by
        have h1 := (mayB_parts o2).1
        have : sb = e.k := by
          have e1 : kb sb = kb e.k := by rw [hkb, o1]
          unfold kb at e1
          have : sb.data = e.k.data := Array.toList_inj.1 e1
          cases sb; cases hek : e.k; rw [hek] at this; simp at this; rw [this]
        rw [this]; exact h1
      obtain ⟨gk, ek⟩ : ∃ gk, ak = some ⟨gk, 0, none⟩ := by
        rcases HOK.out.2 with ⟨h, h0⟩ | ⟨g, c, cur, h, _⟩
        · omega
        · injection h with h1 h2 h3; exact ⟨g, h1⟩
      subst ek
      have hcell : wr.cell? ⟨gk, i, none⟩ = some (.string sb) := by
        have hg := (HOK.out.lt gk rfl).2
        rw [HA.out.2.cell (p := ⟨gk, i, none⟩) hg, HOK.out.cellAt i (by omega), List.getElem?_map, List.getElem?_eq_getElem hil]
        simp [hsb]
      have hbwr : Below w.heap.size w wr := HBK.out.trans (HA.out.2.mono HBK.out.size)
      have k2 := hid (get_there N cp jp m K F sb e wr ((hbwr.block cp hcl).trans HC.out) (HM.out.below hbwr) (by rw [hkb]; exact he) hik (mayB_lens o2 o3))
      have HE := hid he
      have HOW : Hid (Elt wr N0 wk.heap.size (.slice av i cv) (ents F (K.take i))) := hid HA.out.1
      clear he hsb hkb o1 o2 o3 hik hbwr
      go_upto_region 6 with (first | (go_at_call 24; refine k2.out.mono ?_; rintro r w2 ⟨v2, rfl, hE2, hb2⟩; obtain ⟨pa, pc, qa, qc, e2, _, _⟩ := hE2 [] (by simp); have HE2 := hid hE2; have HB2 := hid hb2; unfold entV at e2; obtain ⟨vk2, gvk⟩ : ∃ vk, vk = e.k := ⟨_, rfl⟩; obtain ⟨vg, gvg⟩ : ∃ vg, vg = e.g := ⟨_, rfl⟩; obtain ⟨vp, gvp⟩ : ∃ vp, vp = e.p.length := ⟨_, rfl⟩; obtain ⟨vq, gvq⟩ : ∃ vq, vq = e.q.length := ⟨_, rfl⟩; obtain ⟨vf, gvf⟩ : ∃ vf, vf = e.f := ⟨_, rfl⟩; rw [← gvk, ← gvg, ← gvp, ← gvq, ← gvf] at e2; subst e2; clear hE2 hb2 k2 gvk gvg gvp gvq gvf))
      obtain ⟨X, gX⟩ : ∃ X, X = w2.alloc (.cells #[.string vk2, .string vg, .slice pa vp pc, .int .i64 vf, .slice qa vq qc] 37) := ⟨_, rfl⟩
      have hbX : Below w2.heap.size w2 X := by rw [gX]; exact (Below.refl _ _).alloc (Nat.le_refl _) _
      have hX : X.heap[w2.heap.size]? = some (.cells #[.string vk2, .string vg, .slice pa vp pc, .int .i64 vf, .slice qa vq qc] 37 (0, 0)) := by rw [gX]; exact heap_alloc_new _ _
      rw [← gX]
      have d0 : X.cell? ⟨w2.heap.size, 0, none⟩ = some (.string vk2) := heap_cells hX 0 _ rfl
      have d1 : X.cell? ⟨w2.heap.size, 1, none⟩ = some (.string vg) := heap_cells hX 1 _ rfl
      have d2 : X.cell? ⟨w2.heap.size, 2, none⟩ = some (.slice pa vp pc) := heap_cells hX 2 _ rfl
      have d3 : X.cell? ⟨w2.heap.size, 3, none⟩ = some (.int .i64 vf) := heap_cells hX 3 _ rfl
      have d4 : X.cell? ⟨w2.heap.size, 4, none⟩ = some (.slice qa vq qc) := heap_cells hX 4 _ rfl
      have HBX : Hid (Below wr.heap.size wr X) := hid (HB2.out.trans (hbX.mono HB2.out.size))
      have HX2 := hid hbX
      clear gX hX hbX hcell
      have hel : (ents F (K.take i)).length = i := by
        rw [ents_len (fun s hs => HALL.out s (List.mem_of_mem_take hs)), List.length_take]
        omega
      obtain ⟨vs, r1, r2, r3, r4⟩ := HOW.out
      rw [hel] at r2
      have HEL := hid hel
      have R1 := hid r1
      have R2 := hid r2
      have R3 := hid r3
      have R4 := hid r4
      obtain ⟨us, gus⟩ : ∃ us, us = (vs.map cellsE).flatten := ⟨_, rfl⟩
      rw [← gus] at R2
      have GUS := hid gus
      have HXA : ∀ o : Obj, Hid (Below wr.heap.size wr (X.alloc o)) := fun o => hid (HBX.out.alloc HBX.out.size o)
      have HOX : ∀ o : Obj, Hid ((X.alloc o).ownsRow 0 37 5 (.slice av i cv) i us) := fun o => hid (own_below R2.out (HXA o).out)
      have HNW : Hid (∀ j u, ([.string vk2, .string vg, .slice pa vp pc, .int .i64 vf, .slice qa vq qc] : List Value)[j]? = some u → (X.alloc (.cells #[.string vk2, .string vg, .slice pa vp pc, .int .i64 vf, .slice qa vq qc] 37)).cell? ((⟨X.heap.size, 0, none⟩ : Addr).add j) = some u) := hid (fun j u hj => by
        have ea : (⟨X.heap.size, 0, none⟩ : Addr).add j = ⟨X.heap.size, j, none⟩ := by
          simp only [Addr.add]
          split
          · rename_i h0; rw [h0]
          · simp
        rw [ea]
        exact heap_cells (heap_alloc_new X _) j _ (by simpa using hj))
      clear hel r1 r2 r3 r4 gus HOW
      go_wp2_with (at_builtin; go_must (refine wpList_append_where rfl (.tmp 24) (.tmp 26) 58 rfl 37 i0 _ 5 88 Tryz.underlying58 hi0 hz0 hz1 hz2 rfl (by decide) (.slice av i cv) i us rfl (HOX _).out ⟨X.heap.size, 0, none⟩ 1 1 [.string vk2, .string vg, .slice pa vp pc, .int .i64 vf, .slice qa vq qc] rfl rfl HNW.out (by simp [Value.oneCell']) (by unfold maxLen; omega) (by omega) ?_; intro v3 w3 hO3 hU3 hN3 hW3; have HO3 := hO3; have HU3 := hid hU3; have HW3 := hW3; clear hO3 hU3 hN3 hW3))
      obtain ⟨Y, gY⟩ : ∃ Y, Y = X.alloc (.cells #[.string vk2, .string vg, .slice pa vp pc, .int .i64 vf, .slice qa vq qc] 37) := ⟨_, rfl⟩
      have hbY := (HXA (.cells #[.string vk2, .string vg, .slice pa vp pc, .int .i64 vf, .slice qa vq qc] 37)).out
      have hU := HU3.out
      have hW := HW3.out
      rw [← gY] at hbY hU hW
      have hB2Y : Below w2.heap.size w2 Y := by rw [gY]; exact HX2.out.alloc HX2.out.size _
      have hlt' : ∀ x ∈ vb (.slice av i cv), x < wr.heap.size := fun x hx => own_lt R2.out hx
      have hlt0 : ∀ x ∈ vb (.slice av i cv) ++ N0, x < wr.heap.size := fun x hx => by
        rcases List.mem_append.1 hx with h | h
        · exact hlt' x h
        · have := HN0.out x h; have := HBK.out.size; have := HA.out.2.size; omega
      have hEe : Ev Y (vb (.slice av i cv) ++ N0) (.agg #[.string vk2, .string vg, .slice pa vp pc, .int .i64 vf, .slice qa vq qc]) e := (HE2.out _ hlt0).upd (Upd.of_below (F := fun _ => False) hB2Y) (fun _ _ h => h.elim) (fun y hy => .inl hy)
      have hsz : wk.heap.size ≤ Y.heap.size := Nat.le_trans HA.out.2.size hbY.size
      have hels : Elt w3 N0 wk.heap.size v3 (ents F (K.take i) ++ [e]) := by
        refine Elt.push (w := Y) (v := .slice av i cv) R1.out R3.out (fun j hj => ?_) hEe (by rw [HEL.out, ← GUS.out]; exact HO3.out) hU hW hsz
        obtain ⟨y, hy, hEy⟩ := R4.out j hj
        exact ⟨y, hy, hEy.upd (Upd.of_below (F := fun _ => False) hbY) (fun _ _ h => h.elim) (fun z hz => .inl hz)⟩
      have htk : ents F (K.take (i + 1)) = ents F (K.take i) ++ [e] := by
        rw [List.take_add_one, List.getElem?_eq_getElem hil]
        exact ents_snoc HE.out
      have hb3 : Below wk.heap.size wk w3 := (HA.out.2.trans (hbY.mono HA.out.2.size)).trans (hU.below hsz (fun x hx => R3.out x (by simp [vb, hx])))
      obtain ⟨a3, c3, e3, _, _⟩ := own_shape HO3.out
      subst e3
      go_roundw
      case rel => exact ⟨i + 1, a3, c3, rfl, by go_num, by omega, hid ⟨by rw [htk]; exact hels, hb3⟩⟩
      case measure => simp [intOf]; omega
    · have hltv : ¬ (i : Int) < (kn : Int) := by omega
      have hiK : K.take i = K := List.take_of_length_le (by rw [← GKN.out]; omega)
      have hels := HA.out.1
      rw [hiK] at hels
      have HELS := hid hels
      clear hiK hels
      go_wp2_with fail
      go_ret2
      refine ⟨_, rfl, ?_, HBK.out.trans (HA.out.2.mono HBK.out.size)⟩
      obtain ⟨vs, q1, q2, q3, q4⟩ := HELS.out
      exact ⟨vs, q1, q2, fun x hx => Nat.le_trans HBK.out.size (q3 x hx), q4⟩
end Go.Proofs.YtbgommpdmnbplaaGreatDoor
