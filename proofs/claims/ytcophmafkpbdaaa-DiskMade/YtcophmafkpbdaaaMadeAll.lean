/- The document Of, and DiskMade: both disks of any image, through any steps; an image, opened. -/
import Derived.Test.YtcophmafkpbdaaaR2all
import Derived.Test.YtcophmafkpbdaaaDImgAll
import Derived.Deep.RegionHeld3
import Derived.Test.YtcophmafkpbdaaaDosAll

/- What the document's Of does with any image; and dredgerplain.Disks. -/
namespace Go.Proofs.Ytcophmafkpbdaaa
open Go.RowKit
set_option linter.unusedVariables false

def ROfP (w : World) (L : List (List Int)) (M : List Nat) (e : Ending) (w' : World) : Prop :=
  (¬ Gi L ∧ e = .returned (.tuple #[.pointer none, .int .i64 1]) ∧ Below w.heap.size w w') ∨
  (Gi L ∧ ∃ (q : Nat) (x : Rk), e = .returned (.tuple #[.pointer (some ⟨q, 0, none⟩), .int .i64 0]) ∧ x.ok w' q (x.foot q ++ M) ∧ x.n = L.length ∧ (∀ j, ∀ h : j < L.length, x.f j = L[j]) ∧ x.E = [] ∧ x.sl = false ∧ (∀ k ∈ x.foot q, w.heap.size ≤ k ∧ k < w'.heap.size) ∧ Below w.heap.size w w')

/-- The sectors as they are laid. -/
def upto (L : List (List Int)) (i : Nat) : Nat → List Int := fun j => if j < i then (L[j]?).getD [] else nought

theorem upto_succ (L : List (List Int)) (i : Nat) (hi : i < L.length) (j : Nat) : upto L (i + 1) j = if j = i then L[i] else upto L i j := by
  unfold upto
  by_cases h : j = i
  · subst h; simp [List.getElem?_eq_getElem hi]
  · rw [if_neg h]
    by_cases h2 : j < i
    · rw [if_pos h2, if_pos (by omega)]
    · rw [if_neg h2, if_neg (by omega)]

set_option maxHeartbeats 4000000 in
set_option maxRecDepth 20000 in
theorem rof_any (al : Option Addr) (n cl : Nat) (L : List (List Int)) (M : List Nat) (w : World) (hi : Img w al L) (hn : L.length = n) (hc : n ≤ cl) (hc2 : cl ≤ 9223372036854775807) (hM : ∀ y ∈ M, y < w.heap.size) : Calls Try.prog 41 #[.slice al n cl] w (ROfP w L M) := by
  by_cases hb : n < 1 ∨ 2048 < n
  · have hng : ¬ Gi L := fun h => by have h1 := h.1; have h2 := h.2.1; omega
    have HNG := hid hng
    have k := hid (rnew_no (n : Int) w (by omega))
    clear hi hn hng hb
    go_enter Try.func41, Try.ntmps41
    go_wp2_with fail
    refine k.out.mono ?_
    rintro e w1 ⟨rfl, h⟩
    subst w1
    go_wp2_with fail
    go_ret2
    exact .inl ⟨HNG.out, rfl, Below.refl _ _⟩
  · have hn1 : 1 ≤ n := by omega
    have hn2 : n ≤ 2048 := by omega
    have HI := hid hi
    have HN := hid hn
    have k := hid (rnew_rk n M w hn1 hn2 hM)
    have HM := hid hM
    clear hi hn hb hM
    go_enter Try.func41, Try.ntmps41
    go_wp2_with fail
    refine k.out.mono ?_
    rintro e w1 ⟨rfl, x, hok, xn, xf, xE, xsl, hfoot, hb1⟩
    obtain ⟨q, gq⟩ : ∃ q, q = w.heap.size := ⟨_, rfl⟩
    rw [← gq] at hok hfoot ⊢
    obtain ⟨c0, c1, c2⟩ := hok.cell
    obtain ⟨gB, ggB⟩ : ∃ gB, gB = x.gB := ⟨_, rfl⟩
    obtain ⟨cB, gcB⟩ : ∃ cB, cB = x.cB := ⟨_, rfl⟩
    have hnd := hok.nodup
    simp only [Rk.foot, List.nodup_cons, List.mem_cons, not_or] at hnd
    have hqg : q ≠ gB := by rw [ggB]; exact hnd.1.1
    have hgf := hfoot x.gB (by simp [Rk.foot])
    have hqf := hfoot q (by simp [Rk.foot])
    have hd0 : Dn w1 w1 (x.foot q ++ M) gB n cB (upto L 0) := by
      rw [ggB, gcB, ← xn]
      refine ⟨?_, Upd.refl _ _⟩
      have e0 : upto L 0 = x.f := by rw [xf]; funext j; simp [upto]
      rw [e0]; exact hok.B
    rw [xn, ← ggB, ← gcB] at c0
    rw [← ggB] at hgf
    have hM1 : ∀ k ∈ x.foot q ++ M, k < w1.heap.size := fun k hk => by
      rcases List.mem_append.1 hk with h | h
      · exact (hfoot k h).2
      · exact Nat.lt_of_lt_of_le (HM.out k h) hb1.size
    have hgM : gB ∈ x.foot q ++ M := by rw [ggB]; simp [Rk.foot]
    have HOK := hid hok
    have HX := hid (show x.n = n ∧ x.E = [] ∧ x.sl = false ∧ gB = x.gB ∧ cB = x.cB from ⟨xn, xE, xsl, ggB, gcB⟩)
    have HF := hid hfoot
    have HB1 := hid hb1
    have HD0 := hid hd0
    have HM1 := hid hM1
    have HGM := hid hgM
    have GQ := hid gq
    obtain ⟨M1, gM1⟩ : ∃ M1, M1 = x.foot q ++ M := ⟨_, rfl⟩
    rw [← gM1] at HD0 HM1 HGM HOK
    have GM1 := hid gM1
    clear hok xn xf xE xsl hfoot hb1 gq c1 c2 ggB gcB hnd hd0 hM1 hgM gM1 k
    go_wp2_with fail
    go_loopw [19] (fun t wr => ∃ i : Nat, t = .int .i64 i ∧ i ≤ n ∧ Hid (Dn w1 wr M1 gB n cB (upto L i)) ∧ Hid (∀ l ∈ L.take i, l.length = 128)) (fun t _ => n - (intOf t).toNat)
    case atStart => exact ⟨0, rfl, Nat.zero_le _, HD0, hid (fun l hl => by simp at hl)⟩
    case round =>
      obtain ⟨i, rfl, hi, HD, HA⟩ := hrel
      have hbr : Below w.heap.size w wr := HB1.out.trans (HD.out.upd.below HB1.out.size (fun k hk => by have h1 : k = gB := hk; have h2 := hgf.1; have h3 := GQ.out; omega))
      by_cases hlt : i < n
      · have hil : i < L.length := by rw [HN.out]; exact hlt
        obtain ⟨b, o, e, hbl, hcc⟩ := HI.out (by omega)
        subst e
        obtain ⟨u, hu, a, c, e0, hs, _, hca, hcb, hnn, _⟩ := hcc i hil
        subst e0
        have hu' := (hbr.cell (p := ⟨b, o + i, none⟩) hbl).trans hu
        have htk : L.take (i + 1) = L.take i ++ [L[i]] := by rw [List.take_add_one, List.getElem?_eq_getElem hil]; rfl
        have hus := fun j => upto_succ L i hil j
        by_cases h128 : L[i].length = 128
        · obtain ⟨ad, rfl⟩ : ∃ ad, a = some ad := by
            cases a with
            | none => have := (hnn rfl).1; omega
            | some ad => exact ⟨ad, rfl⟩
          rw [h128] at hu' hs
          obtain ⟨X, gX⟩ : ∃ X, X = L[i] := ⟨_, rfl⟩
          rw [← gX] at hs htk h128 hus
          have hsr := hs.below hbr
          have c0r : wr.cell? ⟨q, 0, none⟩ = some (.slice (some ⟨gB, 0, none⟩) n cB) := (World.cell?_of_block (a := ⟨q, 0, none⟩) (HD.out.upd.block q hqf.2 hqg)).trans c0
          obtain ⟨vs9, hr9, hj9⟩ := HD.out.pic
          obtain ⟨u9, hu9, _⟩ := hj9 i hlt
          have cs9 : wr.cell? ⟨gB, i, none⟩ = some u9 := by rw [hr9.cellAt _ (by omega)]; exact hu9
          have fs9 := hr9.frozenAt i
          have hsz := HD.out.upd.size
          have kb := hid (own_any ad 128 c X wr.drew (hsr.below ((Below.refl _ wr).drew)) (by omega))
          have b3 : (0 : Int) ≤ (i : Int) := by omega
          have b4 : (i : Int) < (n : Int) := by omega
          have hgBr : gB < wr.heap.size := Nat.lt_of_lt_of_le hgf.2 hsz
          have hqr : q < wr.heap.size := Nat.lt_of_lt_of_le hqf.2 hsz
          have HUS := hid hus
          have HTK := hid htk
          have H128 := hid h128
          clear hcc hu hs htk gX h128 hnn hca hus hj9 hr9 hu9 hsr
          go_wp2_with fail
          go_region_held3 (fun wx => wx.cell? ⟨q, 0, none⟩ = some (.slice (some ⟨gB, 0, none⟩) n cB)) (first | go_keep | (refine (cell_setCell_block _ _ _ _ _ hqg).trans ?_; go_keep)) (first | (go_at_call 27; refine kb.out.mono ?_; rintro r w5 ⟨gb, cb5, rfl, hown5, hb5⟩; have HO5 := hid hown5; have s0 : w5.cell? ⟨q, 0, none⟩ = some (.slice (some ⟨gB, 0, none⟩) n cB) := (hb5.cell (p := ⟨q, 0, none⟩) hqr).trans c0r; have s3 : w5.cell? ⟨gB, i, none⟩ = some u9 := (hb5.cell (p := ⟨gB, i, none⟩) hgBr).trans cs9; have s4 : w5.frozen? ⟨gB, i, none⟩ = false := (hb5.frozen (p := ⟨gB, i, none⟩) hgBr).trans fs9; have HB5 := hid hb5; clear hown5 hb5))
          go_wp2_with fail
          go_roundw
          case rel =>
            have hb45 : Below wr.heap.size wr w5 := ⟨HB5.out.os, HB5.out.tape, HB5.out.output, HB5.out.size, HB5.out.block⟩
            have hgbl := HO5.out.lt gb rfl
            refine ⟨i + 1, by go_num, by omega, hid (HD.out.step HGM.out hb45 hlt ⟨⟨gb, 0, none⟩, cb5, rfl, Src.own HO5.out, fun hx => ?_, own_cap HO5.out⟩ (fun z hz => HUS.out z)), hid (fun l hl => ?_)⟩
            · have h6 := hgbl.1
              have h7 := HM1.out gb hx
              simp at h6
              omega
            · rw [HTK.out] at hl
              rcases List.mem_append.1 hl with h | h
              · exact HA.out l h
              · simp at h; rw [h]; exact H128.out
          case measure => simp [intOf]; omega
        · have hng : ¬ Gi L := fun h => h128 (h.2.2 _ (List.getElem_mem hil))
          have HNG := hid hng
          obtain ⟨lX, glX⟩ : ∃ lX, lX = L[i].length := ⟨_, rfl⟩
          rw [← glX] at hu' h128
          have h128' : ¬ (lX : Int) = 128 := by omega
          clear hcc hu hs htk glX hng hnn hca hus
          go_wp2_with fail
          go_ret2
          exact .inl ⟨HNG.out, rfl, hbr⟩
      · obtain rfl : i = n := by omega
        have htk : L.take i = L := List.take_of_length_le (by rw [HN.out]; exact Nat.le_refl _)
        have ha := HA.out
        rw [htk] at ha
        have hgi : Gi L := ⟨by rw [HN.out]; exact hn1, by rw [HN.out]; exact hn2, ha⟩
        have hfin : ROfP w L M (.returned (.tuple #[.pointer (some ⟨q, 0, none⟩), .int .i64 0])) wr := by
          obtain ⟨xn, xE, xsl, ggB, gcB⟩ := HX.out
          have hd : Dn w1 wr (x.foot q ++ M) x.gB x.n x.cB (upto L i) := by rw [← ggB, ← gcB, xn, ← GM1.out]; exact HD.out
          have hok := HOK.out
          rw [GM1.out] at hok
          refine .inr ⟨hgi, q, { x with f := upto L i }, rfl, hok.sect hd, by rw [HN.out]; exact xn, fun j hj => ?_, xE, xsl, fun k hk => ?_, hbr⟩
          · show upto L i j = _
            unfold upto
            rw [if_pos (by have := HN.out; omega), List.getElem?_eq_getElem hj]
            rfl
          · have := HF.out k hk
            exact ⟨by rw [← GQ.out]; exact this.1, Nat.lt_of_lt_of_le this.2 HD.out.upd.size⟩
        have HFIN := hid hfin
        clear htk ha hgi hfin
        go_wp2_with fail
        go_ret2
        exact HFIN.out

theorem sec_flat (L : List (List Int)) (h : ∀ l ∈ L, l.length = 128) (j : Nat) (hj : j < L.length) : sec L.flatten j = L[j] := by
  induction L generalizing j with
  | nil => simp at hj
  | cons a L ih =>
    have ha := h a (List.mem_cons_self ..)
    have hL := fun l hl => h l (List.mem_cons_of_mem _ hl)
    rw [List.flatten_cons]
    unfold sec at ih ⊢
    cases j with
    | zero => simp [ha]
    | succ j =>
      have hj' : j < L.length := by simpa using hj
      have h2 := ih hL j hj'
      rw [List.drop_append, List.drop_of_length_le (by omega), List.nil_append, show (j + 1) * 128 - a.length = j * 128 by omega]
      exact h2

end Go.Proofs.Ytcophmafkpbdaaa

/- DiskMade: both disks of any image, through any steps. -/
namespace Go.Proofs.Ytcophmafkpbdaaa
open Go.RowKit
set_option linter.unusedVariables false

set_option maxHeartbeats 1000000 in
set_option maxRecDepth 20000 in
theorem img_eqf (a1 a2 : Option Addr) (n c1 c2 : Nat) (L : List (List Int)) (w : World) (h1 : Img w a1 L) (h2 : Img w a2 L) (hn : L.length = n) (k1 : n ≤ c1) (k2 : c1 ≤ 9223372036854775807) (k3 : n ≤ c2) (k4 : c2 ≤ 9223372036854775807) :
    Calls Try.prog 42 #[.slice a1 n c1, .slice a2 n c2, .func (.func 37) #[] #[]] w fun e w' => e = .returned (.bool true) ∧ w' = w := by
  have H1 := hid h1
  have H2 := hid h2
  have HN := hid hn
  clear h1 h2 hn
  go_enter Try.func42, Try.ntmps42
  go_wp2_with fail
  go_loop [17] (fun k => ∃ i : Nat, k = .int .i64 i ∧ i ≤ n) (fun k => n - (intOf k).toNat)
  case atStart => exact ⟨0, rfl, Nat.zero_le _⟩
  case round =>
    obtain ⟨i, rfl, hi⟩ := hrel
    by_cases hlt : i < n
    · have hil : i < L.length := by rw [HN.out]; exact hlt
      obtain ⟨b1, o1, e1, hb1, hc1⟩ := H1.out (by omega)
      obtain ⟨b2, o2, e2, hb2, hc2⟩ := H2.out (by omega)
      subst e1
      subst e2
      obtain ⟨u, hu, a, cc, eu, hs, _⟩ := hc1 i hil
      obtain ⟨u2, hu2, a', cc2, eu2, hs2, _⟩ := hc2 i hil
      subst eu
      subst eu2
      have ke := hid (equal_yes a a' L[i].length cc L[i].length cc2 L[i] w hs hs2)
      obtain ⟨m, gm⟩ : ∃ m, m = L[i].length := ⟨_, rfl⟩
      rw [← gm] at hu hu2 ke
      clear hc1 hc2 hs hs2 gm
      go_wp2_with fail
      refine ke.out.mono ?_
      rintro r w2 ⟨rfl, h⟩
      subst w2
      go_wp2_with fail
      go_round
      case rel => exact ⟨i + 1, by go_num, by omega⟩
      case measure => simp [intOf]; omega
    · obtain rfl : i = n := by omega
      go_wp2_with fail
      go_ret
      exact ⟨rfl, rfl⟩

theorem img_same (a1 a2 : Option Addr) (n c1 c2 : Nat) (L : List (List Int)) (w : World) (h1 : Img w a1 L) (h2 : Img w a2 L) (hn : L.length = n) (k1 : n ≤ c1) (k2 : c1 ≤ 9223372036854775807) (k3 : n ≤ c2) (k4 : c2 ≤ 9223372036854775807) :
    Calls Try.prog 15 #[.slice a1 n c1, .slice a2 n c2] w fun e w' => e = .returned (.bool true) ∧ w' = w := by
  have k := hid (img_eqf a1 a2 n c1 c2 L w h1 h2 hn k1 k2 k3 k4)
  clear h1 h2 hn
  go_enter Try.func15, Try.ntmps15
  go_wp2_with fail
  refine k.out.mono ?_
  rintro r w2 ⟨rfl, h⟩
  subst w2
  go_wp2_with fail
  go_ret
  exact ⟨rfl, rfl⟩

def DisksP (w : World) (L : List (List Int)) (e : Ending) (w' : World) : Prop :=
  (¬ Gi L ∧ e = .returned (.tuple #[.pointer none, .pointer none, .bool true]) ∧ Below w.heap.size w w') ∨
  (Gi L ∧ ∃ (p : Nat) (d : Dk) (q : Nat) (x : Rk), e = .returned (.tuple #[.pointer (some ⟨p, 0, none⟩), .pointer (some ⟨q, 0, none⟩), .bool true]) ∧ d.ok w' p ∧ x.ok w' q (x.foot q ++ d.foot p) ∧ Same d x ∧ x.n = L.length ∧ x.E = [] ∧ (∀ k ∈ d.foot p, w.heap.size ≤ k) ∧ (∀ k ∈ x.foot q, w.heap.size ≤ k ∧ k < w'.heap.size) ∧ (∀ k ∈ x.foot q, k ∉ d.foot p) ∧ Below w.heap.size w w')

set_option maxHeartbeats 1000000 in
set_option maxRecDepth 20000 in
theorem disks_any (al : Option Addr) (n cl : Nat) (L : List (List Int)) (w : World) (hi : Img w al L) (hn : L.length = n) (hc : n ≤ cl) (hc2 : cl ≤ 9223372036854775807) (hsz : n * 24 ≤ 140737488351232) : Calls Try.prog 14 #[.slice al n cl] w (DisksP w L) := by
  have k1 := hid (pimg al n cl L w hi hn hc hc2 hsz)
  have HI := hid hi
  have HN := hid hn
  clear hi hn
  go_enter Try.func14, Try.ntmps14
  go_wp2_with fail
  refine k1.out.mono ?_
  rintro e w1 ⟨v1, rfl, he1, hv1, hb1⟩
  obtain ⟨a1, c1, rfl, hc11, hc12, him1⟩ := he1.img
  have k2 := hid (dof_any a1 n c1 L w1 him1 HN.out (by rw [← HN.out]; exact hc11) hc12)
  rw [HN.out] at hv1 ⊢
  have HB1 := hid hb1
  clear he1 hv1 hb1 him1 hc11 k1
  go_wp2_with fail
  refine k2.out.mono ?_
  rintro e w2 h2
  rcases h2 with ⟨hng, rfl, hb2⟩ | ⟨hg, p, d, rfl, hd, dn, dd, dw, de, dop, hdf, hb2⟩
  · have hbw : Below w.heap.size w w2 := HB1.out.trans (hb2.mono HB1.out.size)
    have k3 := hid (rof_any al n cl L [] w2 (HI.out.below hbw) HN.out hc hc2 (fun y hy => by simp at hy))
    have HBW := hid hbw
    have HNG := hid hng
    clear hb2 hbw hng k2
    go_wp2_with fail
    refine k3.out.mono ?_
    rintro e w3 (⟨_, rfl, hb3⟩ | ⟨hg, _⟩)
    · have HB3 := hid hb3
      clear hb3
      go_wp2_with fail
      go_ret3
      exact .inl ⟨HNG.out, rfl, HBW.out.trans (HB3.out.mono HBW.out.size)⟩
    · exact absurd hg HNG.out
  · have hbw : Below w.heap.size w w2 := HB1.out.trans (hb2.mono HB1.out.size)
    have k3 := hid (rof_any al n cl L (d.foot p) w2 (HI.out.below hbw) HN.out hc hc2 hd.lt)
    have HBW := hid hbw
    have HG := hid hg
    have HD := hid hd
    have HDR := hid (show d.n = L.length ∧ d.dur = L.flatten ∧ d.wr = d.dur ∧ d.eps = [] ∧ d.opn = false ∧ ∀ x ∈ d.foot p, w.heap.size ≤ x from ⟨dn, dd, dw, de, dop, fun x hx => Nat.le_trans HB1.out.size (hdf x hx)⟩)
    clear hb2 hbw hg hd dn dd dw de dop hdf k2
    go_wp2_with fail
    refine k3.out.mono ?_
    rintro e w3 (⟨hng, _⟩ | ⟨_, q, x, rfl, hx, xn, xf, xE, xsl, hxf, hb3⟩)
    · exact absurd HG.out hng
    · obtain ⟨dn, dd, dw, de, dop, hdf⟩ := HDR.out
      have hfin : DisksP w L (.returned (.tuple #[.pointer (some ⟨p, 0, none⟩), .pointer (some ⟨q, 0, none⟩), .bool true])) w3 := by
        have hgi := HG.out
        have hsecs : ∀ j, j < x.n → sec d.dur j = x.f j := fun j hj => by
          rw [xn] at hj
          rw [dd, sec_flat L hgi.2.2 j hj, xf j hj]
        refine .inr ⟨hgi, p, d, q, x, rfl, HD.out.frame fun k hk => hb3.block k (HD.out.lt k hk), hx, ⟨by rw [dn, xn], hsecs, fun j hj => by rw [dw, xE]; exact hsecs j hj, by rw [xE]; simp [Dk.ab, de], by rw [dop, xE]; simp⟩, xn, xE, hdf, fun k hk => ⟨Nat.le_trans HBW.out.size (hxf k hk).1, (hxf k hk).2⟩, fun k hk hk2 => ?_, HBW.out.trans (hb3.mono HBW.out.size)⟩
        have h1 := (hxf k hk).1
        have h2 := HD.out.lt k hk2
        omega
      have HFIN := hid hfin
      clear hfin hx xn xf xE xsl hxf hb3 dn dd dw de dop hdf k3
      go_wp2_with fail
      go_ret3
      exact HFIN.out

theorem Do2.below {w w' : World} {b o : Nat} (h : Do2 w b o) (hb : Below w.heap.size w w') (hbl : b < w.heap.size) : Do2 w' b o := by
  obtain ⟨x0, x1, x2, x3, ab, kb, lb, cb, nk, ck, bz, kz, ⟨c0, c1, c2, c3, c4, c5⟩, h1, h2, h3, h4, h5, h6, h7, h8, h9⟩ := h
  exact ⟨x0, x1, x2, x3, ab, kb, lb, cb, nk, ck, bz, kz, ⟨(hb.cell (p := ⟨b, _, none⟩) hbl).trans c0, (hb.cell (p := ⟨b, _, none⟩) hbl).trans c1, (hb.cell (p := ⟨b, _, none⟩) hbl).trans c2, (hb.cell (p := ⟨b, _, none⟩) hbl).trans c3, (hb.cell (p := ⟨b, _, none⟩) hbl).trans c4, (hb.cell (p := ⟨b, _, none⟩) hbl).trans c5⟩, h1, h2, h3.below hb, h4, h5, h6, h7, h8.below hb, h9⟩

theorem Dos2.below {w w' : World} {al : Option Addr} {ll : Nat} (h : Dos2 w al ll) (hb : Below w.heap.size w w') : Dos2 w' al ll := fun h0 => by
  obtain ⟨b, o, e, hl, hc⟩ := h h0
  exact ⟨b, o, e, Nat.lt_of_lt_of_le hl hb.size, fun i hi => (hc i hi).below hb hl⟩

set_option maxHeartbeats 8000000 in
set_option maxRecDepth 20000 in
theorem made_road (ai : Option Addr) (n ci : Nat) (L : List (List Int)) (al : Option Addr) (ll cl : Nat) (w : World) (hi : Img w ai L) (hn : L.length = n) (hci : n ≤ ci) (hci2 : ci ≤ 9223372036854775807) (hsz : n * 24 ≤ 140737488351232) (hl : Dos2 w al ll) (hc : ll ≤ cl) (hc2 : cl ≤ 9223372036854775807) (hm : ll ≤ 1780000000000) :
    Calls Try.prog 4 #[.slice ai n ci, .slice al ll cl] w fun e w' => e = .returned (.bool true) ∧ Below w.heap.size w w' := by
  have k1 := hid (pimg ai n ci L w hi hn hci hci2 hsz)
  have HI := hid hi
  have HN := hid hn
  have HL := hid hl
  clear hi hn hl
  go_enter Try.func4, Try.ntmps4
  go_wp2_with fail
  refine k1.out.mono ?_
  rintro e w1 ⟨v1, rfl, he1, hv1, hb1⟩
  obtain ⟨a1, c1, rfl, hc11, hc12, him1⟩ := he1.img
  rw [HN.out] at hc11
  have k2 := hid (disks_any a1 n c1 L w1 him1 HN.out hc11 hc12 hsz)
  rw [HN.out]
  have HB1 := hid hb1
  have HI1 := hid him1
  have HL1 := hid (HL.out.below hb1)
  have HI0 := hid (HI.out.below hb1)
  clear he1 hv1 hb1 him1 k1 HI HL
  go_wp2_with fail
  refine k2.out.mono ?_
  rintro e w2 (⟨hng, rfl, hb2⟩ | ⟨hg, p, d, q, x, rfl, hd, hx, hs, xn, xE, hdf, hxf, hap, hb2⟩)
  · have HB2 := hid hb2
    clear hb2 hng k2
    go_wp2_with fail
    go_ret
    exact ⟨rfl, HB1.out.trans (HB2.out.mono HB1.out.size)⟩
  · have ht := pair_made2 (w0 := w1) hd hdf hx hxf hap hb2.size
    have hrun : Run w1 (w2.alloc (.cells #[.pointer (some ⟨p, 0, none⟩), .pointer (some ⟨q, 0, none⟩)] 32)) w2.heap.size 0 d p x q (w2.heap.size :: (x.foot q ++ d.foot p)) := ⟨ht, hs, by rw [xE]; exact Nat.le_refl _, hb2.trans ((one_alloc w2 _).mono hb2.size)⟩
    have HRUN := hid hrun
    have HXN : Hid (x.n = n) := hid (by rw [xn, HN.out])
    clear hg hd hx hs xn xE hdf hxf hap hb2 ht hrun k2
    obtain ⟨pp, gpp⟩ : ∃ pp, pp = w2.heap.size := ⟨_, rfl⟩
    go_wp2_with fail
    rw [← gpp] at HRUN ⊢
    clear gpp
    go_loopw [37] (fun t wr => ∃ (i : Nat) (d : Dk) (p : Nat) (x : Rk) (q : Nat) (M : List Nat), t = .int .i64 i ∧ i ≤ ll ∧ Hid (Run w1 wr pp i d p x q M) ∧ Hid (x.n = n)) (fun t _ => ll - (intOf t).toNat)
    case atStart => exact ⟨0, d, p, x, q, _, rfl, Nat.zero_le _, HRUN, HXN⟩
    case round =>
      obtain ⟨i, d, p, x, q, M, rfl, hi, HR, HXN⟩ := hrel
      by_cases hlt : i < ll
      · obtain ⟨b, o, e, hbl, hc'⟩ := HL1.out (by omega)
        subst e
        obtain ⟨x0', x1, x2, x3, ab, kb, lb, cb, nk, ck, ⟨c0, c1, c2, c3, c4, c5⟩, kd⟩ := does_at (hc' i hlt) HR.out.bel HR.out.two HR.out.same HR.out.cnt (by omega) hbl
        have KD := hid kd
        clear hc' kd
        go_wp2_with fail
        obtain ⟨W5, gW5⟩ : ∃ W5, W5 = wr.alloc (.cells #[.int .i64 x0', .int .i64 x1, .int .i64 x2, .int .i64 x3, .slice ab lb cb, .slice kb nk ck] 38) := ⟨_, rfl⟩
        have hb5 : Below wr.heap.size wr W5 := by rw [gW5]; exact one_alloc _ _
        rw [← gW5]
        have k5 := hid (KD.out W5 hb5)
        have HR5 := hid (HR.out.below hb5)
        clear gW5 c0 c1 c2 c3 c4 c5
        refine k5.out.mono ?_
        rintro e w6 ⟨rfl, d', p', x', q', M', hst⟩
        have HR6 := hid (HR5.out.step (Below.refl _ _) hst)
        have HXN6 : Hid (x'.n = n) := hid (hst.num.trans HXN.out)
        clear hst hb5
        go_wp2_with fail
        go_roundw
        case rel => exact ⟨i + 1, d', p', x', q', M', by go_num, by omega, HR6, HXN6⟩
        case measure => simp [intOf]; omega
      · obtain rfl : i = ll := by omega
        have q0' : wr.cell? ⟨pp, 0, none⟩ = some (.pointer (some ⟨p, 0, none⟩)) := by rw [cell_of_row wr pp 0 _ _ _ HR.out.two.cells]; rfl
        have kA := hid (img_same a1 ai n c1 ci L wr (HI1.out.below HR.out.bel) (HI0.out.below HR.out.bel) HN.out hc11 hc12 hci hci2)
        have kB := hid (dsectors d p wr HR.out.two.dk)
        rw [HR.out.same.n, HXN.out] at kB
        go_wp2_with (first | (go_at_call 15; refine kA.out.mono ?_; rintro e wA ⟨rfl, hwA⟩; subst wA) | (go_at_call 16; refine kB.out.mono ?_; rintro e wB ⟨rfl, hwB⟩; subst wB))
        go_ret
        exact ⟨rfl, HB1.out.trans (HR.out.bel.mono HB1.out.size)⟩

end Go.Proofs.Ytcophmafkpbdaaa

/- An image that came in, opened. -/
namespace Go.Proofs.Ytcophmafkpbdaaa
open Go.ChangeShapes Go.WideShapes Go.ChangeAt Go.RowKit
set_option linter.unusedVariables false

theorem bytesTB : Try.prog.bytesOf 35 = 24 := by kernel_rfl
theorem cellsTB : Try.prog.cellsOf 35 = 1 := by kernel_rfl

set_option maxRecDepth 20000 in
theorem open_bss {H : Type} {enc : TypeId × Value → H} {W : World} {al : Option Addr} {ll cl : Nat} {d : DataW H} {p : List MemPlace}
    (h : DataW.Trod enc Try.prog W 0 (fun _ => true) true 42 (.slice al ll cl) d p) (hw : ∀ n ∈ d.weights Try.prog 42, n ≤ reachBytes) :
    ∃ L : List (List Int), Img W al L ∧ L.length = ll ∧ ll ≤ cl ∧ cl ≤ 9223372036854775807 ∧ ll * 24 ≤ 140737488351232 := by
  have lt : ∀ x ∈ p, x.block < W.heap.size := by obtain ⟨m, hm⟩ := h; exact DataW.trod_lt m _ _ _ hm
  obtain ⟨fuel, hf⟩ := h
  rcases Deep.open_slice Try.underlying42 hf with ⟨hcs, _⟩ | ⟨a, l, c, m, n, D, Pl, hcs, _, hl, hm, hmm, hx, hv⟩
  · simp [Value.cells] at hcs
    obtain ⟨rfl, rfl, rfl⟩ := hcs
    exact ⟨[], fun h => absurd h (by simp), rfl, Nat.le_refl _, by omega, by omega⟩
  · simp [Value.cells] at hcs
    obtain ⟨rfl, rfl, rfl⟩ := hcs
    simp only [Prod.mk.injEq] at hx
    obtain ⟨rfl, rfl⟩ := hx
    simp only [if_true] at hmm
    have hll : ll * 24 ≤ 140737488351232 := by
      have hr := hw _ (by rw [DataW.weights, Try.underlying42]; exact List.mem_cons_self)
      rw [bytesTB] at hr
      unfold reachBytes at hr
      simp at hr
      omega
    have hD : ∀ i, i < ll → ∀ n ∈ (D i).weights Try.prog 35, n ≤ reachBytes := fun i hi n hn => hw n (by
      simp only [DataW.weights, Try.underlying42, List.mem_cons, List.mem_append]
      exact .inr (.inl (weightsAll_mem (List.mem_map.2 ⟨i, List.mem_range.2 hi, rfl⟩) hn)))
    have each : ∀ i, i < ll → ∃ (ab : Option Addr) (lb cb : Nat) (bz : List Int), W.cell? (a.add i) = some (.slice ab lb cb) ∧ Src W ab lb bz ∧ lb ≤ 140737488355328 ∧ lb ≤ cb ∧ cb ≤ 9223372036854775807 ∧ (ab = none → lb = 0 ∧ cb = 0) := by
      intro i hi
      obtain ⟨cs', h1, h2⟩ := hv i (by omega)
      rw [cellsTB] at h1
      obtain ⟨_, hlen, hcell⟩ := World.cells?_some h1
      match cs', hlen with
      | [v0], _ =>
        have e0 := hcell 0 (by omega)
        rw [Deep.add_add] at e0
        obtain ⟨ab, lb, cb, bz, r0, q1, q2, q3, q4, q5⟩ := open_inner h2 (fun n hn => hD i hi n hn)
        subst r0
        exact ⟨ab, lb, cb, bz, by simpa using e0, q1, q2, q3, q4, q5⟩
    have hex : ∃ L : List (List Int), L.length = ll ∧ ∀ j, ∀ h : j < L.length, ∃ ab cb, W.cell? (a.add j) = some (.slice ab L[j].length cb) ∧ Src W ab L[j].length L[j] ∧ L[j].length ≤ 140737488355328 ∧ L[j].length ≤ cb ∧ cb ≤ 9223372036854775807 ∧ (ab = none → L[j].length = 0 ∧ cb = 0) := by
      refine ⟨(List.range ll).map (fun i => if h : i < ll then (each i h).choose_spec.choose_spec.choose_spec.choose else []), by simp, fun j hj => ?_⟩
      have hj' : j < ll := by simpa using hj
      have hs := (each j hj').choose_spec.choose_spec.choose_spec.choose_spec
      have e : ((List.range ll).map (fun i => if h : i < ll then (each i h).choose_spec.choose_spec.choose_spec.choose else []))[j] = (each j hj').choose_spec.choose_spec.choose_spec.choose := by simp [hj']
      have hlen := hs.2.1.1
      rw [e]
      rw [hlen]
      exact ⟨_, _, hs⟩
    obtain ⟨L, hL, hLj⟩ := hex
    refine ⟨L, fun h0 => ?_, hL, hl, by unfold maxLen at hm; omega, hll⟩
    obtain ⟨b, o, spot⟩ := a
    have hspot : spot = none := by
      obtain ⟨_, _, h1, _⟩ := hLj 0 h0
      simpa [Addr.add] using World.cell?_spot h1
    subst hspot
    refine ⟨b, o, rfl, lt (.cell b o) (List.mem_append.2 (.inl (MemPlace.mem_row.2 ⟨0, by rw [cellsTB]; omega, by simp⟩))), fun j hj => ?_⟩
    obtain ⟨ab, cb, h1, h2, h3, h4, h5, h6⟩ := hLj j hj
    rw [add_plain] at h1
    exact ⟨_, h1, ab, cb, rfl, h2, fun _ b o _ hx => (by simp at hx), h4, h5, h6, h3⟩

end Go.Proofs.Ytcophmafkpbdaaa
