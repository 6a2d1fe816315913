/- JournalAny: any disk opens, and tells the same again. -/
import Derived.Test.YtkmnhpnlkmiiiaaDoorJOpen
import Derived.Test.YtkmnhpnlkmiiiaaDoorDOfI
namespace Go.Proofs.YtkmnhpnlkmiiiaaDoor
open Go.RowKit Num Jr
set_option linter.unusedVariables false
set_option maxRecDepth 20000

namespace Jr
theorem recsGo_mem (f : Nat) : ∀ (zs : List Int) (acc : List (List Int)), Bytes zs → (∀ l ∈ acc, l.length ≤ 2000) → ∀ l ∈ recsGo f zs acc, l.length ≤ 2000 := by
  induction f with
  | zero => intro zs acc hz ha l hl; simp [recsGo] at hl
  | succ f ih =>
    intro zs acc hz ha l hl
    rw [recsGo] at hl
    by_cases h : zs = []
    · rw [if_pos h] at hl; exact ha l hl
    · rw [if_neg h] at hl
      by_cases h1 : (txt zs 2000).2.2 ≠ 0 ∨ (txt zs 2000).1 = []
      · rw [if_pos h1] at hl; simp at hl
      · rw [if_neg h1] at hl
        have h2 : (txt zs 2000).2.2 = 0 := by
          rcases Nat.eq_zero_or_pos (txt zs 2000).2.2 with h | h
          · exact h
          · exact absurd (Or.inl (by omega)) h1
        have h3 := txt_ok hz 2000 h2
        rw [show ((2000 : Nat) : Int) = 2000 by rfl] at h3
        refine ih (zs.drop (txt zs 2000).2.1) (acc ++ [(txt zs 2000).1]) (hz.drop _) (fun l' hl' => ?_) l hl
        rcases List.mem_append.1 hl' with h' | h'
        · exact ha l' h'
        · simp at h'; rw [h']; exact h3.2.2.1
theorem grpsGo_mem (S : Nat → List Int) (first gen size : Nat) (hS : ∀ i, Bytes (S i)) (f : Nat) : ∀ (g u : Nat) (acc : List (List Int)), (∀ l ∈ acc, l.length ≤ 2000) → ∀ l ∈ (grpsGo S first gen size f g u acc).1, l.length ≤ 2000 := by
  induction f with
  | zero => intro g u acc ha l hl; exact ha l hl
  | succ f ih =>
    intro g u acc ha l hl
    rw [grpsGo] at hl
    split at hl
    · exact ha l hl
    · refine ih _ _ _ (fun l' hl' => ?_) l hl
      rcases List.mem_append.1 hl' with h' | h'
      · exact ha l' h'
      · exact recsGo_mem _ _ [] (loadGo_bytes S first gen _ hS _ _ [] Bytes.nil) (fun _ h => by simp at h) l' h'
theorem opened_mem (n : Nat) (S : Nat → List Int) (hS : ∀ i, Bytes (S i)) : ∀ l ∈ (opened n S).1, l.length ≤ 2000 := by
  intro l hl
  unfold opened at hl
  split at hl
  · simp at hl
  · exact grpsGo_mem S _ _ _ hS _ 0 0 [] (fun _ h => by simp at h) l hl
end Jr

theorem bytes_flatten {L : List (List Int)} (h : ∀ l ∈ L, Bytes l) : Bytes L.flatten := by
  intro z hz
  obtain ⟨l, hl, hz'⟩ := List.mem_flatten.1 hz
  exact h l hl z hz'

/-- The disk of an image, as a journal sees it. -/
theorem jd_of {d : Dk} {w : World} {p : Nat} {L : List (List Int)} (hok : d.ok w p) (hn : d.n = L.length) (hd : d.dur = L.flatten) (hw : d.wr = d.dur) (he : d.eps = []) (ho : d.opn = false) (hB : ∀ l ∈ L, Bytes l) :
    Jd d w p L.length (fun i => if i < L.length then sec d.wr i else zero128) ∧ d.rest := by
  have hl := hok.dlen.2
  have hb : Bytes d.wr := by rw [hw, hd]; exact bytes_flatten hB
  refine ⟨⟨hok, hn, fun i hi => by rw [if_pos hi], fun i hi => ?_, fun i => ?_, fun i => ?_, by rw [he]; simp, .inr he⟩, he, ho⟩
  · rw [if_pos hi, hw]
    simp [Dk.ab, he, over]
  · show Bytes (if i < L.length then sec d.wr i else zero128)
    split
    · exact (hb.drop _).take _
    · exact bytes_zero128
  · show (if i < L.length then sec d.wr i else zero128).length = 128
    split
    · exact length_sec _ d.n i hl (by rw [hn]; assumption)
    · simp [zero128]

set_option maxHeartbeats 4000000 in
theorem any_road (al : Option Addr) (n cl : Nat) (L : List (List Int)) (w : World) (hi : Img w al L) (hn : L.length = n) (hc : n ≤ cl) (hc2 : cl ≤ 9223372036854775807) (hsz : n * 24 ≤ 140737488351232) (hB : ∀ l ∈ L, Bytes l) (hT : Tab w) :
    Calls Tryd.prog 3 #[.slice al n cl] w fun e w' => e = .returned (.bool true) ∧ Below w.heap.size w w' := by
  have hTl : 1 < w.heap.size := World.block_lt_of_cell? _ _ (hT 0 (by omega))
  have k1 := hid (pimg al n cl L w hi hn hc hc2 hsz)
  have HN := hid hn
  have HBB := hid hB
  have HT := hid hT
  clear hi hn hB hT
  go_enter Tryd.func3, Tryd.ntmps3
  go_upto_region 2 with (first | (go_at_call 5; refine k1.out.mono ?_; rintro e w1 ⟨v1, rfl, he1, hv1, hb1⟩; obtain ⟨a1, c1, rfl, hc11, hc12, him1⟩ := he1.img; have k2 := hid (dof_any a1 n c1 L w1 him1 HN.out (by rw [← HN.out]; exact hc11) hc12); rw [HN.out]; have HB1 := hid hb1; clear he1 hv1 hb1 him1 hc11 k1) | (go_at_call 4; refine k2.out.mono ?_; rintro e w2 h2; have H2 := hid h2; clear h2; rcases H2.out with ⟨hng, rfl, hb2⟩ | ⟨hg, p, d, rfl, hd, dn, dd, dw, de, dop, hdf, hb2⟩))
  · have HB2 := hid hb2
    clear hb2 hng H2 k2
    go_wp2_with fail
    go_ret
    exact ⟨rfl, HB1.out.trans (HB2.out.mono HB1.out.size)⟩
  · have hj := jd_of hd dn dd dw de dop HBB.out
    rw [HN.out] at hj
    obtain ⟨S, gS⟩ : ∃ S, S = fun i => if i < n then sec d.wr i else zero128 := ⟨_, rfl⟩
    rw [← gS] at hj
    have hbw : Below w.heap.size w w2 := HB1.out.trans (hb2.mono HB1.out.size)
    have hfw : ∀ x ∈ d.foot p, w.heap.size ≤ x := fun x hx => Nat.le_trans HB1.out.size (hdf x hx)
    have hT2 : Tab w2 := HT.out.below hbw hTl
    have hdT : 1 ∉ d.foot p := fun hx => by have := hfw _ hx; omega
    have hn1 : 1 ≤ n := by rw [← HN.out]; exact hg.1
    have HJ := hid hj.1
    have HR := hid hj.2
    have HBW := hid hbw
    have HFW := hid hfw
    by_cases h4 : n < 4
    · have kO := hid (jopen_few d p n S w2 hj.1 hn1 h4)
      have h4v : (n : Int) < 4 := by omega
      clear hj hbw hfw hT2 hdT hd dn dd dw de dop hdf hb2 H2 k2 hg gS
      go_wp2_with (first | (go_at_call 6; refine kO.out.mono ?_; rintro r w3 ⟨rfl, hb3⟩; have HB3 := hid hb3; clear hb3))
      go_ret
      exact ⟨rfl, HBW.out.trans (HB3.out.mono HBW.out.size)⟩
    · have h4v : ¬ (n : Int) < 4 := by omega
      have kO := hid (jopen_any d p n S w2 hj.1 hj.2 hT2 hdT (by omega))
      have HAG := hid (opened_again n S hj.1.all)
      have HMM := hid (opened_mem n S hj.1.byt)
      have HT2 := hid hT2
      have HDT := hid hdT
      clear hj hbw hfw hT2 hdT hd dn dd dw de dop hdf hb2 H2 k2 hg gS
      go_upto_region 5 with (first | (go_at_call 6; refine kO.out.mono ?_; rintro r w3 h3; have H3 := hid h3; clear h3 kO; obtain ⟨jp, v3, d3, m3, e3, hjp, hjf, hs3, hr3, hj3, hc3, hf3⟩ := H3.out; subst e3))
      have hU3 : Upd (· ∈ d.foot p) w2 w3 := hs3.upd
      have hT3 : Tab w3 := HT2.out.upd hU3 HDT.out
      have hf3w : ∀ x ∈ d3.foot p, w.heap.size ≤ x := fun x hx => by
        rcases hs3.grew x hx with h | h
        · exact HFW.out x h
        · exact Nat.le_trans HBW.out.size h
      have hB3 : Below w.heap.size w w3 := HBW.out.trans (hU3.below HBW.out.size HFW.out)
      have hdT3 : 1 ∉ d3.foot p := fun hx => by have := hf3w _ hx; omega
      have kE := hid (jepochs d3 p n _ w3 hs3.jd hr3)
      have kO2 := hid (fun (wx : World) (hb : Below w3.heap.size w3 wx) => jopen_any d3 p n (openS n S) wx (hs3.jd.below hb) hr3 (hT3.below hb (World.block_lt_of_cell? _ _ (hT3 0 (by omega)))) hdT3 (by omega))
      obtain ⟨av3, cv3, gv3, _, _, _⟩ := hc3.img (fun l hl => Nat.le_trans (HMM.out l hl) (by omega))
      subst gv3
      obtain ⟨R, gR⟩ : ∃ R, R = (opened n S).1 := ⟨_, rfl⟩
      obtain ⟨U, gU⟩ : ∃ U, U = (opened n S).2.2 := ⟨_, rfl⟩
      obtain ⟨N, gN⟩ : ∃ N, N = openGen S := ⟨_, rfl⟩
      rw [← gR] at hc3 HMM
      rw [← gR]
      rw [← gU, ← gN] at hj3
      have HC3 := hid hc3
      have HJ3 := hid hj3
      have HF3 := hid hf3
      have HJF := hid hjf
      have HB3 := hid hB3
      have HFW3 := hid hf3w
      have GR := hid gR
      have GU := hid gU
      have GN := hid gN
      have hjl3 : jp < w3.heap.size := (Array.getElem?_eq_some_iff.1 hj3).1
      clear hU3 hT3 hf3w hB3 hdT3 hc3 hj3 hf3 hjf hs3 hr3 H3 gR gU gN
      go_upto_region 10 with (first | (go_at_call 7; refine kE.out.mono ?_; rintro r w4 ⟨ea, ec, rfl, hb4⟩; have HB4 := hid hb4; have kO3 := hid (kO2.out w4 hb4); clear hb4 kO2) | (go_at_call 6; refine kO3.out.mono ?_; rintro r w5 h5; have H5 := hid h5; clear h5 kO3; obtain ⟨jq, v5, d5, m5, e5, hjq, hjf5, hs5, hr5, hj5, hc5, hf5⟩ := H5.out; subst e5))
      rw [HAG.out.2, ← GR.out] at hc5
      rw [HAG.out.1, HAG.out.2, ← GU.out, ← GN.out] at hj5
      have hU5 : Upd (· ∈ d3.foot p) w4 w5 := hs5.upd
      have hC35 : RcsT w5 w2.heap.size m3 (.slice av3 R.length cv3) R := (HC3.out.upd (Upd.of_below (F := fun _ => False) HB4.out) (fun _ h => h.elim)).upd hU5 HF3.out
      obtain ⟨a35, c35, e35, i1, i2, i3⟩ := hC35.img (fun l hl => Nat.le_trans (HMM.out l hl) (by omega))
      obtain ⟨a5, c5, e5, i4, i5, i6⟩ := hc5.img (fun l hl => Nat.le_trans (HMM.out l hl) (by omega))
      injection e35 with e351 e352 e353
      subst e351
      subst e353
      subst e5
      have kq := hid (img_eqf av3 a5 R.length cv3 c5 R w5 i3 i6 rfl i1 i2 i4 i5)
      have hJ35 : Jc w5 jp p N (firstOf N n) (szOf n) (opened n S).2.1 U (.slice none 0 0) 0 := (hU5.heap ((HB4.out.block jp hjl3).trans HJ3.out) HJF.out)
      have ku1 := hid (jused jp p _ _ _ _ _ _ _ w5 hJ35)
      have ku2 := hid (jused jq p _ _ _ _ _ _ _ w5 hj5)
      have kg1 := hid (jgen jp p _ _ _ _ _ _ _ w5 hJ35)
      have kg2 := hid (jgen jq p _ _ _ _ _ _ _ w5 hj5)
      obtain ⟨lr, glr⟩ : ∃ lr, lr = R.length := ⟨_, rfl⟩
      rw [← glr] at kq
      rw [← glr]
      have HFIN : Hid (Below w.heap.size w w5) := hid ((HB3.out.trans (HB4.out.mono HB3.out.size)).trans (hU5.below (Nat.le_trans HB3.out.size HB4.out.size) HFW3.out))
      clear hU5 hC35 i1 i2 i3 i4 i5 i6 hJ35 hj5 hc5 hf5 hs5 hr5 hjf5 H5 glr e352
      go_wp2_with (first | (go_at_call 8; refine kq.out.mono ?_; rintro r wa ⟨rfl, h⟩; subst wa) | (go_at_call 10; refine ku1.out.mono ?_; rintro r wa ⟨rfl, h⟩; subst wa; clear ku1) | (go_at_call 10; refine ku2.out.mono ?_; rintro r wa ⟨rfl, h⟩; subst wa; clear ku2) | (go_at_call 11; refine kg1.out.mono ?_; rintro r wa ⟨rfl, h⟩; subst wa; clear kg1) | (go_at_call 11; refine kg2.out.mono ?_; rintro r wa ⟨rfl, h⟩; subst wa; clear kg2))
      go_ret
      exact ⟨rfl, HFIN.out⟩

end Go.Proofs.YtkmnhpnlkmiiiaaDoor
