/- The corpus and what it stands on, merged. -/
import Derived.Test.YtbgommpdmnbplaaGreatDoorCoA12
import Derived.Test.YtbgommpdmnbplaaGreatDoorCoA14
import Derived.Test.YtbgommpdmnbplaaGreatDoorCoA18
import Derived.Test.YtbgommpdmnbplaaGreatDoorCoA16
import Derived.Test.YtbgommpdmnbplaaGreatDoorCoA17
import Derived.Deep.RegionHeld3
import Derived.Test.YtbgommpdmnbplaaGreatDoorCoA9

/- What records, write, rewrite and change do. -/
namespace Go.Proofs.YtbgommpdmnbplaaGreatDoor
open Go.RowKit Co Num Jr
set_option linter.unusedVariables false
set_option maxRecDepth 20000

theorem Rl.im {w : World} {M : List Nat} {v : Value} {L : List (List Int)} (h : Rl w M v L) : ∃ a c, v = .slice a L.length c ∧ L.length ≤ c ∧ c ≤ 9223372036854775807 ∧ Img w a L := by
  obtain ⟨us, ho, _, hj⟩ := h
  obtain ⟨a, c, rfl, h1, h2⟩ := own_shape ho
  refine ⟨a, c, rfl, h1, h2, fun h0 => ?_⟩
  obtain ⟨g, rfl⟩ : ∃ g, a = some ⟨g, 0, none⟩ := by
    rcases ho.2 with ⟨_, h⟩ | ⟨g, c, cur, h, _⟩
    · omega
    · injection h with h1 h2 h3; exact ⟨g, h1⟩
  refine ⟨g, 0, rfl, (ho.lt g rfl).2, fun j hjl => ?_⟩
  obtain ⟨u, h3, h4⟩ := hj j hjl
  exact ⟨u, by rw [Nat.zero_add, ho.cellAt _ (by omega)]; exact h3, h4.weaken (fun x hx => by simp at hx)⟩

theorem own_bg {w : World} {B g c : Nat} {Z : List Int} (h : w.ownsRow B 5 1 (.slice (some ⟨g, 0, none⟩) Z.length c) Z.length (Z.map (Value.int .u8))) (M : List Nat) (hM : ∀ x ∈ M, x < B) (hl : Z.length ≤ 100000) : Bg w M (.slice (some ⟨g, 0, none⟩) Z.length c) Z := by
  obtain ⟨a, c', e, h1, h2⟩ := own_shape h
  injection e with e1 e2 e3
  subst e3
  refine ⟨_, _, rfl, Src.own h, fun hp b o e hx => ?_, h1, h2, (fun e => by cases e), by omega⟩
  injection e with e
  injection e with e _
  have := (h.lt g rfl).1
  have := hM b hx
  omega

/-- What records makes. -/
def RecsP (w : World) (R : List (List Int)) (r : Ending) (w' : World) : Prop := ∃ a c, r = .returned (.slice a R.length c) ∧ Img w' a R ∧ R.length ≤ c ∧ c ≤ 9223372036854775807 ∧ Below w.heap.size w w'

set_option maxHeartbeats 4000000 in
theorem erecs_any (N : List Nat) (m : Nat) (K : List (List UInt8)) (F : Sta) (w : World) (hm : Em w N m K F) (hk : K.length ≤ 40) (ho : F.ok) : Calls Tryz.prog 163 #[.map (some m)] w (RecsP w (K.map (recOf F))) := by
  obtain ⟨i0, hi0, hz0, hz1, hz2⟩ := info_parts Tryz.infoTB
  have k1 := hid (ekeys_any N m K F w hm hk)
  have hall : ∀ s ∈ K, F s ≠ none := fun s hs => (hm.keys.mem s).1 hs
  obtain ⟨kn, gkn⟩ : ∃ kn, kn = K.length := ⟨_, rfl⟩
  have HM := hid hm
  have HO := hid ho
  have HALL := hid hall
  have GKN := hid gkn
  rw [← gkn] at hk
  clear hm ho hall gkn
  go_enter Tryz.func163, Tryz.ntmps163
  go_upto_region 3 with (first | (go_at_call 88; refine k1.out.mono ?_; rintro r wk ⟨vk, rfl, hok, hbk⟩; rw [← GKN.out] at hok; obtain ⟨ak, ck, gvk, hck1, hck2⟩ := own_shape hok; have HOK := hid hok; have HBK := hid hbk; subst gvk; clear hok hbk k1))
  go_loopw [3, 11] (fun v k wr => ∃ (i : Nat) (a : Option Addr) (c : Nat), v = .slice a i c ∧ k = .int .i64 i ∧ i ≤ kn ∧ Hid (Rl wr [] v ((K.take i).map (recOf F)) ∧ (∀ x ∈ vb v, wk.heap.size ≤ x) ∧ Below wk.heap.size wk wr)) (fun _ k _ => kn - (intOf k).toNat)
  case atStart => exact ⟨0, none, 0, rfl, rfl, Nat.zero_le _, hid ⟨by simpa using Rl.nil wk [], fun x hx => by simp [vb, Value.ownBlock] at hx, Below.refl _ _⟩⟩
  case round =>
    obtain ⟨i, av, cv, rfl, rfl, hin, HA⟩ := hrel
    by_cases hlt : i < kn
    · have hil : i < K.length := by rw [← GKN.out]; exact hlt
      obtain ⟨sb, hsb, hkb⟩ := kb_enc K[i]
      obtain ⟨gk, ek⟩ : ∃ gk, ak = some ⟨gk, 0, none⟩ := by
        rcases HOK.out.2 with ⟨h, h0⟩ | ⟨g, c, cur, h, _⟩
        · omega
        · injection h with h1 h2 h3; exact ⟨g, h1⟩
      subst ek
      have hcell : wr.cell? ⟨gk, i, none⟩ = some (.string sb) := by
        have hg := (HOK.out.lt gk rfl).2
        rw [HA.out.2.2.cell (p := ⟨gk, i, none⟩) hg, HOK.out.cellAt i (by omega), List.getElem?_map, List.getElem?_eq_getElem hil]
        simp [hsb]
      have hbwr : Below w.heap.size w wr := HBK.out.trans (HA.out.2.2.mono HBK.out.size)
      have hsm : sb.size ≤ maxLen := by
        have := HM.out.keys_short K[i] (List.getElem_mem hil)
        rw [← hkb] at this
        simpa [kb] using this
      rcases em_look_in HM.out hbwr sb hsm with ⟨hF', _⟩ | ⟨e, v, hF', hE, _, hr⟩
      · rw [hkb] at hF'; exact absurd hF' (HALL.out _ (List.getElem_mem hil))
      · rw [hkb] at hF'
        obtain ⟨o1, o2, o3⟩ := HO.out _ _ hF'
        have hlens := mayB_lens o2 o3
        have kp := hid (putrec_any N v e wr (hE.upd (Upd.of_below (F := fun _ => False) hbwr) (fun _ _ h => h.elim) (fun y hy => .inl hy)) o2)
        have hrec : (K.take (i + 1)).map (recOf F) = (K.take i).map (recOf F) ++ [putR e] := by
          have ht : K.take (i + 1) = K.take i ++ [K[i]] := by rw [List.take_add_one, List.getElem?_eq_getElem hil]; rfl
          have h1 : recOf F K[i] = putR e := by unfold recOf; rw [hF']
          rw [ht, List.map_append, List.map_cons, List.map_nil, h1]
        obtain ⟨us, r1, r2, r3⟩ := HA.out.1
        rw [List.length_map, List.length_take, show min i K.length = i by omega] at r1
        have HREC := hid hrec
        have R1 := hid r1
        have R3 := hid r3
        have HLEN := hid hlens
        have HPL := hid o3
        clear hE hF' o1 o2 o3 hlens hrec r1 r2 r3 hsb hkb hsm hbwr
        go_upto_region 6 with (first | (go_at_call 47; refine kp.out.mono ?_; rintro r w2 h2; have H2 := hid h2; clear h2 kp; rcases H2.out with ⟨hq, _, _⟩ | ⟨hq, g2, c2, rfl, ho2, hb2⟩; exact absurd HLEN.out.2 (by omega); have HO2 := hid ho2; have HB2 := hid hb2; clear H2 ho2 hb2 hq))
        have hpl := HPL.out
        obtain ⟨zl, gzl⟩ : ∃ zl, zl = (putR e).length := ⟨_, rfl⟩
        rw [← gzl] at hpl
        rw [← gzl]
        have GZL := hid gzl
        have HXA : ∀ o : Obj, Hid (Below wr.heap.size wr (w2.alloc o)) := fun o => hid (HB2.out.alloc HB2.out.size o)
        have HOX : ∀ o : Obj, Hid ((w2.alloc o).ownsRow 0 81 1 (.slice av i cv) i us) := fun o => hid (own_below R1.out (HXA o).out)
        have HNW : Hid (∀ j u, ([.slice (some ⟨g2, 0, none⟩) zl c2] : List Value)[j]? = some u → (w2.alloc (.cells #[.slice (some ⟨g2, 0, none⟩) zl c2] 81)).cell? ((⟨w2.heap.size, 0, none⟩ : Addr).add j) = some u) := hid (fun j u hj => by
          have hj0 : j = 0 := by have := (List.getElem?_eq_some_iff.1 hj).1; simpa using this
          subst hj0
          have ea : (⟨w2.heap.size, 0, none⟩ : Addr).add 0 = ⟨w2.heap.size, 0, none⟩ := by simp [Addr.add]
          rw [ea]
          exact heap_cells (heap_alloc_new w2 _) 0 _ (by simpa using hj))
        clear gzl hr hcell
        go_wp2_with (at_builtin; go_must (refine wpList_append_where rfl (.tmp 22) (.tmp 24) 22 rfl 81 i0 _ 1 24 Tryz.underlying22 hi0 hz0 hz1 hz2 rfl (by decide) (.slice av i cv) i us rfl (HOX _).out ⟨w2.heap.size, 0, none⟩ 1 1 [.slice (some ⟨g2, 0, none⟩) zl c2] rfl rfl HNW.out (by simp [Value.oneCell']) (by unfold maxLen; omega) (by omega) ?_; intro v3 w3 hO3 hU3 hN3 hW3; have HO3 := hO3; have HU3 := hid hU3; have HW3 := hW3; clear hO3 hU3 hN3 hW3))
        obtain ⟨Y, gY⟩ : ∃ Y, Y = w2.alloc (.cells #[.slice (some ⟨g2, 0, none⟩) zl c2] 81) := ⟨_, rfl⟩
        have hbY := (HXA (.cells #[.slice (some ⟨g2, 0, none⟩) zl c2] 81)).out
        have hoY := (HOX (.cells #[.slice (some ⟨g2, 0, none⟩) zl c2] 81)).out
        have hU := HU3.out
        have hW := HW3.out
        rw [← gY] at hbY hU hW hoY
        have hb2Y : Below w2.heap.size w2 Y := by rw [gY]; exact (Below.refl _ _).alloc (Nat.le_refl _) _
        have hvlt : ∀ x ∈ vb (.slice av i cv), x < wr.heap.size := fun x hx => own_lt R1.out hx
        have hbg : Bg Y (vb (.slice av i cv) ++ []) (.slice (some ⟨g2, 0, none⟩) zl c2) (putR e) := by
          have h := own_bg HO2.out (vb (.slice av i cv)) hvlt (by rw [← GZL.out]; omega)
          rw [← GZL.out] at h
          simpa using h.below hb2Y
        have hsz : wk.heap.size ≤ Y.heap.size := Nat.le_trans HA.out.2.2.size hbY.size
        have hlen : ((K.take i).map (recOf F)).length = i := by rw [List.length_map, List.length_take]; omega
        have hrl : Rl w3 [] v3 ((K.take i).map (recOf F) ++ [putR e]) := by
          refine Rl.app (WA := Y) (v := .slice av i cv) (v2 := .slice none 0 0) (M2 := []) (us := us) (us2 := [.slice (some ⟨g2, 0, none⟩) zl c2]) (L2 := [putR e]) (fun k _ h => by simp at h) (by rw [hlen]; exact hoY) (fun j hj => ?_) rfl (fun j hj => ?_) (by rw [hlen]; exact HO3.out) hU hW (fun x hx => by simp at hx)
          · obtain ⟨y, hy, hBy⟩ := R3.out j hj
            exact ⟨y, hy, hBy.below hbY⟩
          · have : j = 0 := by simpa using hj
            subst this
            exact ⟨_, rfl, hbg⟩
        have hb3 : Below wk.heap.size wk w3 := (HA.out.2.2.trans (hbY.mono HA.out.2.2.size)).trans (hU.below hsz (fun x hx => HA.out.2.1 x (by simp [vb, hx])))
        have hvn : ∀ x ∈ vb v3, wk.heap.size ≤ x := fun x hx => by
          have h' : v3.ownBlock = some x := by simpa [vb] using hx
          rcases hW with h | h
          · exact HA.out.2.1 x (by simp [vb, ← h, h'])
          · exact Nat.le_trans hsz (h x h')
        obtain ⟨a3, c3, e3, _, _⟩ := own_shape HO3.out
        subst e3
        go_roundw
        case rel => exact ⟨i + 1, a3, c3, rfl, by go_num, by omega, hid ⟨by rw [HREC.out]; exact hrl, hvn, hb3⟩⟩
        case measure => simp [intOf]; omega
    · have hltv : ¬ (i : Int) < (kn : Int) := by omega
      have hiK : K.take i = K := List.take_of_length_le (by rw [← GKN.out]; omega)
      have hrl := HA.out.1
      rw [hiK] at hrl
      have HRL := hid hrl
      clear hiK hrl
      go_wp2_with fail
      go_ret
      obtain ⟨a4, c4, e4, q1, q2, q3⟩ := HRL.out.im
      exact ⟨a4, c4, by rw [← e4]; rfl, q3, q1, q2, HBK.out.trans (HA.out.2.2.mono HBK.out.size)⟩

/-- The library's own variable, as it is laid. -/
def Er (w : World) : Prop := w.cell? ⟨0, 0, none⟩ = some (.iface 261 (.agg #[.pointer (some ⟨2, 140, none⟩)]))

/-- A record that the journal has room for. -/
def Fits (n used : Nat) (zs : List Int) : Prop := RecOk zs ∧ needN (txtB zs).length ≤ szOf n - used

/-- What write leaves. -/
def WrtP (d : Dk) (w : World) (jp p n : Nat) (S : Nat → List Int) (gen groups used : Nat) (done : List (List Int)) (wv : Value) (zs : List Int) (r : Ending) (w' : World) : Prop :=
  ∃ (code : Nat) (c : ByteArray), r = .returned (wrapV c code) ∧ (Fits n used zs → code = 0) ∧ Upd (· ∈ Jf d p jp wv) w w' ∧
    ((code = 0 ∧ Fits n used zs ∧ ∃ (d' : Dk) (groups' used' : Nat) (wv' : Value), Js d' w' jp p n (cmtS n gen groups used S [zs]) gen groups' used' (done ++ [zs]) [] wv' ∧ Grew' w (Jf d p jp wv) (Jf d' p jp wv')) ∨
     (code ≠ 0 ∧ ∃ wv', Js d w' jp p n S gen groups used done [] wv' ∧ Grew' w (Jf d p jp wv) (Jf d p jp wv')))

set_option maxHeartbeats 4000000 in
theorem cwrite_any (d : Dk) (cp jp p n gen groups used : Nat) (S : Nat → List Int) (done : List (List Int)) (wv : Value) (m : Nat) (a0 : Option Addr) (len cap : Nat) (zs : List Int) (w : World) (h : Js d w jp p n S gen groups used done [] wv) (hT : Tab w) (hTf : 1 ∉ Jf d p jp wv)
    (hc : w.heap[cp]? = some (.cells #[.pointer (some ⟨jp, 0, none⟩), .map (some m)] 77 (0, 0))) (hcf : cp ∉ Jf d p jp wv) (hb : Bg w [] (.slice a0 len cap) zs) (hz : Bytes zs) :
    Calls Tryz.prog 113 #[.pointer (some ⟨cp, 0, none⟩), .slice a0 len cap] w (WrtP d w jp p n S gen groups used done wv zs) := by
  have hTl : 1 < w.heap.size := World.block_lt_of_cell? _ _ (hT 0 (by omega))
  have hcl : cp < w.heap.size := (Array.getElem?_eq_some_iff.1 hc).1
  have c0 : w.cell? ⟨cp, 0, none⟩ = some (.pointer (some ⟨jp, 0, none⟩)) := heap_cells hc 0 _ rfl
  have k1 := hid (append_q d jp p n gen groups used S done [] wv a0 len cap zs w h hb hz)
  have kw := hid wrap_nat
  have HT := hid hT
  have HTF := hid hTf
  have HC := hid hc
  have HCF := hid hcf
  clear h hT hTf hc hcf hb
  go_enter Tryz.func113, Tryz.ntmps113
  go_upto_region 2 with (first | (go_at_call 158; refine k1.out.mono ?_; rintro r w1 ⟨code, wv1, rfl, hj1, hok1, hu1, hg1⟩; have HJ1 := hid hj1; have HOK1 := hid hok1; have HU1 := hid hu1; have HG1 := hid hg1; clear hj1 hok1 hu1 hg1 k1) | (go_at_call 132; refine (kw.out _ _ _).mono ?_; rintro r wx ⟨rfl, hx⟩; subst wx))
  by_cases hcode : code = 0
  · subst hcode
    have e0 : wrapV ⟨#[106, 111, 117, 114, 110, 97, 108, 46, 65, 112, 112, 101, 110, 100]⟩ 0 = .nilIface := by simp [wrapV]
    rw [e0]
    have hj1 := HJ1.out
    rw [if_pos rfl, List.nil_append] at hj1
    have hnew : ∀ x ∈ Jf d p jp wv1, x ∈ Jf d p jp wv ∨ w.heap.size ≤ x := HG1.out
    have HROOM := hid hj1.room
    have hT1 : Tab w1 := fun j hj => by
      rw [World.cell?_of_block (a := ⟨1, j, none⟩) (HU1.out.block 1 hTl HTF.out)]
      exact HT.out j hj
    have hTf1 : 1 ∉ Jf d p jp wv1 := fun hx => by
      rcases hnew _ hx with h | h
      · exact HTF.out h
      · omega
    have hc1 : w1.heap[cp]? = _ := HU1.out.heap HC.out HCF.out
    have z0 : w1.cell? ⟨cp, 0, none⟩ = some (.pointer (some ⟨jp, 0, none⟩)) := heap_cells hc1 0 _ rfl
    have k2 := hid (commit_any d jp p n gen groups used S done [zs] wv1 w1 hj1 hT1 hTf1)
    clear hj1 hT1 hTf1 hc1 e0
    go_wp2_with (first | (go_at_call 159; refine k2.out.mono ?_; rintro r w2 ⟨d2, groups2, used2, wv2, rfl, hj2, hu2, hg2⟩; have HJ2 := hid hj2; have HU2 := hid hu2; have HG2 := hid hg2; clear hj2 hu2 hg2 k2) | (go_at_call 132; refine (kw.out _ 0 _).mono ?_; rintro r wx ⟨rfl, hx⟩; subst wx))
    go_ret
    have hU : Upd (· ∈ Jf d p jp wv) w w2 := HU1.out.trans HU2.out (fun x hx h => by
      rcases hnew x h with h | h
      · exact h
      · omega)
    refine ⟨0, ⟨#[106, 111, 117, 114, 110, 97, 108, 46, 67, 111, 109, 109, 105, 116]⟩, rfl, fun _ => rfl, hU, .inl ⟨rfl, ⟨HOK1.out.1 trivial, by simpa [loadOf] using HROOM.out⟩, d2, groups2, used2, wv2, HJ2.out, fun x hx => ?_⟩⟩
    rcases HG2.out x hx with h | h
    · exact hnew x h
    · exact .inr (Nat.le_trans HU1.out.size h)
  · have hcv : ¬ (code : Int) = 0 := by omega
    have e0 : wrapV ⟨#[106, 111, 117, 114, 110, 97, 108, 46, 65, 112, 112, 101, 110, 100]⟩ code = .iface 239 (.agg #[.string ⟨#[106, 111, 117, 114, 110, 97, 108, 46, 65, 112, 112, 101, 110, 100]⟩, .int .i64 code]) := by simp [wrapV, hcode]
    have hj1 := HJ1.out
    rw [if_neg hcode] at hj1
    have HJ := hid hj1
    have hfin : Hid (Ending.returned (.iface 239 (.agg #[.string ⟨#[106, 111, 117, 114, 110, 97, 108, 46, 65, 112, 112, 101, 110, 100]⟩, .int .i64 code])) = .returned (wrapV ⟨#[106, 111, 117, 114, 110, 97, 108, 46, 65, 112, 112, 101, 110, 100]⟩ code)) := hid (by rw [e0])
    rw [e0]
    clear hj1 e0
    go_wp2_with fail
    go_ret
    exact ⟨code, ⟨#[106, 111, 117, 114, 110, 97, 108, 46, 65, 112, 112, 101, 110, 100]⟩, hfin.out, (fun h => HOK1.out.2 h.1 (by simpa [loadOf] using h.2)), HU1.out, .inr ⟨hcode, wv1, HJ.out, HG1.out⟩⟩
end Go.Proofs.YtbgommpdmnbplaaGreatDoor

/- What rewrite and change do. -/
namespace Go.Proofs.YtbgommpdmnbplaaGreatDoor
open Go.RowKit Co Num Jr
set_option linter.unusedVariables false
set_option maxRecDepth 20000

/-- What rewrite leaves. -/
def RwtP (d : Dk) (w : World) (jp p n : Nat) (S : Nat → List Int) (gen groups used : Nat) (done : List (List Int)) (wv : Value) (L : List (List Int)) (r : Ending) (w' : World) : Prop :=
  ∃ (code : Nat) (c : ByteArray), r = .returned (wrapV c code) ∧ Upd (· ∈ Jf d p jp wv) w w' ∧
    ((code = 0 ∧ gen < 2147483648 ∧ ∃ (d' : Dk) (groups' used' : Nat), Js d' w' jp p n (upS (beginS n gen S (needN (loadOf L).length) (loadOf L)) ((gen + 1) % 2) (headB (gen + 1))) (gen + 1) groups' used' L [] (.slice none 0 0) ∧ Grew' w (Jf d p jp wv) (Jf d' p jp (.slice none 0 0))) ∨
     (code ≠ 0 ∧ Js d w' jp p n S gen groups used done [] wv))

set_option maxHeartbeats 4000000 in
theorem crewrite_any (d : Dk) (cp jp p n gen groups used : Nat) (S : Nat → List Int) (done : List (List Int)) (wv : Value) (m m2 : Nat) (K2 : List (List UInt8)) (F2 : Sta) (N : List Nat) (w : World) (h : Js d w jp p n S gen groups used done [] wv) (hT : Tab w) (hTf : 1 ∉ Jf d p jp wv) (hn4 : 4 ≤ n)
    (hc : w.heap[cp]? = some (.cells #[.pointer (some ⟨jp, 0, none⟩), .map (some m)] 77 (0, 0))) (hcf : cp ∉ Jf d p jp wv) (hm : Em w N m2 K2 F2) (hk : K2.length ≤ 40) (ho : F2.ok) :
    Calls Tryz.prog 115 #[.pointer (some ⟨cp, 0, none⟩), .map (some m2)] w (RwtP d w jp p n S gen groups used done wv (K2.map (recOf F2))) := by
  have hTl : 1 < w.heap.size := World.block_lt_of_cell? _ _ (hT 0 (by omega))
  have hcl : cp < w.heap.size := (Array.getElem?_eq_some_iff.1 hc).1
  have c0 : w.cell? ⟨cp, 0, none⟩ = some (.pointer (some ⟨jp, 0, none⟩)) := heap_cells hc 0 _ rfl
  have k1 : Hid (∀ wx : World, Below w.heap.size w wx → Calls Tryz.prog 163 #[.map (some m2)] wx (RecsP wx (K2.map (recOf F2)))) := hid (fun wx hb => erecs_any N m2 K2 F2 wx (hm.below hb) hk ho)
  have hRB : ∀ l ∈ K2.map (recOf F2), Bytes l := fun l hl => by
    obtain ⟨s, _, rfl⟩ := List.mem_map.1 hl
    unfold recOf
    split
    · exact putR_bytes _
    · exact Bytes.nil
  obtain ⟨R, gR⟩ : ∃ R, R = K2.map (recOf F2) := ⟨_, rfl⟩
  rw [← gR] at k1 hRB
  rw [← gR]
  have k2 : Hid (∀ (wx : World) (a : Option Addr) (nl c : Nat), Below w.heap.size w wx → Img wx a R → nl = R.length → R.length ≤ c → c ≤ 9223372036854775807 → Calls Tryz.prog 162 #[.pointer (some ⟨jp, 0, none⟩), .slice a nl c] wx (CptP d wx jp p n S gen groups used done [] wv R)) := hid (fun wx a nl c hb hi hnl h1 h2 => by
    subst hnl
    exact compact_any d jp p n gen groups used S done [] wv a R.length c R wx (h.below hb) (hT.below hb hTl) hTf hi rfl h1 h2 hRB hn4)
  have kw := hid wrap_nat
  have HB0 : Hid (Below w.heap.size w w) := hid (Below.refl _ _)
  have HCF := hid hcf
  clear h hT hTf hc hm hk ho hRB gR hTl hcf
  go_enter Tryz.func115, Tryz.ntmps115
  go_upto_region 1 with fail
  go_region_held3 (fun wx => wx.cell? ⟨cp, 0, none⟩ = some (.pointer (some ⟨jp, 0, none⟩))) (go_keep) (first
    | (go_at_call 163; refine (k1.out _ (by first | exact HB0.out | exact below_drewN HB0.out 1)).mono ?_; rintro r w1 ⟨a1, q1, rfl, hi1, hl1, hl2, hb1⟩; have HB1 : Hid (Below w.heap.size w w1) := (by first | (with_reducible exact hid hb1) | exact hid (undrew' hb1)); have HI1 := hid hi1; have z0 : w1.cell? ⟨cp, 0, none⟩ = some (.pointer (some ⟨jp, 0, none⟩)) := (HB1.out.cell (p := ⟨cp, 0, none⟩) hcl).trans c0; clear hi1 hb1)
    | (go_at_call 162; refine (k2.out w1 _ _ _ HB1.out HI1.out rfl hl1 hl2).mono ?_; rintro r w2 ⟨code, rfl, hu2, h2⟩; have HU2 := hid hu2; have H2 := hid h2; have y0 : w2.cell? ⟨cp, 0, none⟩ = some (.pointer (some ⟨jp, 0, none⟩)) := (World.cell?_of_block (a := ⟨cp, 0, none⟩) (hu2.block cp (Nat.lt_of_lt_of_le hcl HB1.out.size) HCF.out)).trans z0; clear hu2 h2)
    | (go_at_call 132; refine (kw.out _ _ _).mono ?_; rintro r wx ⟨rfl, hx⟩; subst wx))
  go_wp2_with fail
  go_ret
  have hU : Upd (· ∈ Jf d p jp wv) w w2 := (Upd.of_below HB1.out).trans HU2.out (fun x _ h => h)
  refine ⟨code, ⟨#[106, 111, 117, 114, 110, 97, 108, 46, 67, 111, 109, 112, 97, 99, 116]⟩, rfl, hU, ?_⟩
  rcases H2.out with ⟨h1, _, _, h4, _, d2, g2, u2, hj2, hg2⟩ | ⟨h1, h2, _⟩
  · refine .inl ⟨h1, h4, d2, g2, u2, hj2, fun x hx => ?_⟩
    rcases hg2 x hx with h | h
    · exact .inl h
    · exact .inr (Nat.le_trans HB1.out.size h)
  · exact .inr ⟨h1, h2⟩

/-- What change leaves. -/
def ChgP (d : Dk) (w : World) (cp jp p n : Nat) (S : Nat → List Int) (gen groups used : Nat) (done : List (List Int)) (wv : Value) (m : Nat) (K : List (List UInt8)) (F : Sta) (zs : List Int) (m2 : Nat) (K2 : List (List UInt8)) (F2 : Sta) (r : Ending) (w' : World) : Prop :=
  ∃ (code : Nat) (d' : Dk) (wv' : Value), r = .returned (.int .i64 code) ∧ (Fits n used zs → code = 0) ∧ Upd (· ∈ cp :: Jf d p jp wv) w w' ∧ Grew' w (Jf d p jp wv) (Jf d' p jp wv') ∧
    ((code = 0 ∧ Fits n used zs ∧ ∃ groups' used', Cp d' w' cp jp p n (cmtS n gen groups used S [zs]) gen groups' used' (done ++ [zs]) wv' m2 K2 F2) ∨
     (code = 0 ∧ gen < 2147483648 ∧ ∃ groups' used', Cp d' w' cp jp p n (upS (beginS n gen S (needN (loadOf (K2.map (recOf F2))).length) (loadOf (K2.map (recOf F2)))) ((gen + 1) % 2) (headB (gen + 1))) (gen + 1) groups' used' (K2.map (recOf F2)) wv' m2 K2 F2) ∨
     (code ≠ 0 ∧ d' = d ∧ Cp d w' cp jp p n S gen groups used done wv' m K F))

/-- The corpus behind a step of its journal, with the map of the next entries. -/
theorem cp_next {d d' : Dk} {w w' : World} {cp jp p n : Nat} {S S' : Nat → List Int} {gen gen' groups groups' used used' : Nat} {done done' : List (List Int)} {wv wv' : Value} {m m2 : Nat} {K K2 : List (List UInt8)} {F F2 : Sta}
    (h : Cp d w cp jp p n S gen groups used done wv m K F) (hm : Em w (cp :: Jf d p jp wv) m2 K2 F2) (hk : K2.length ≤ 40) (ho : F2.ok) (hmf : m2 ∉ Jf d p jp wv) (u : Upd (· ∈ Jf d p jp wv) w w') (g : Grew' w (Jf d p jp wv) (Jf d' p jp wv')) (hj : Js d' w' jp p n S' gen' groups' used' done' [] wv') :
    Cp d' (w'.setCell ⟨cp, 1, none⟩ (.map (some m2))) cp jp p n S' gen' groups' used' done' wv' m2 K2 F2 ∧ Upd (· ∈ cp :: Jf d p jp wv) w (w'.setCell ⟨cp, 1, none⟩ (.map (some m2))) := by
  have hcl : cp < w.heap.size := (Array.getElem?_eq_some_iff.1 h.cc).1
  have hcf : cp ∉ Jf d' p jp wv' := fun hx => by
    rcases g cp hx with h' | h'
    · exact h.cf h'
    · omega
  have hml := hm.lt
  have hmf' : m2 ∉ Jf d' p jp wv' := fun hx => by
    rcases g m2 hx with h' | h'
    · exact hmf h'
    · omega
  have hcc : w'.heap[cp]? = _ := u.heap h.cc h.cf
  have hmcp : m2 ≠ cp := fun e => by
    obtain ⟨es, cl, hb⟩ := hm.isMap
    rw [e, h.cc] at hb
    cases hb
  have hem : Em w' (cp :: Jf d' p jp wv') m2 K2 F2 := hm.upd u hmf (fun b _ hb => .inl (List.mem_cons_of_mem _ hb)) (fun x hx => by
    rcases List.mem_cons.1 hx with h' | h'
    · exact .inl (by simp [h'])
    · rcases g x h' with h' | h'
      · exact .inl (List.mem_cons_of_mem _ h')
      · exact .inr h')
  have hU : Upd (· = cp) w' (w'.setCell ⟨cp, 1, none⟩ (.map (some m2))) := Upd.setCell (F := fun x => x = cp) _ _ _ rfl
  refine ⟨⟨hj.upd hU (fun k hk e => hcf (e ▸ hk)), ?_, hem.upd hU hmcp (fun b _ hb => .inl (by simp [hb])) (fun x hx => .inl hx), ho, hk, hcf, hmf'⟩, ?_⟩
  · rw [heap_setCell_same w' cp 1 _ _ _ hcc]; rfl
  · refine (u.mono (fun x _ hx => List.mem_cons_of_mem _ hx)).trans hU (fun x _ hx => by rw [hx]; simp)

theorem cp_stay {d : Dk} {w w' : World} {cp jp p n : Nat} {S : Nat → List Int} {gen groups used : Nat} {done : List (List Int)} {wv wv' : Value} {m : Nat} {K : List (List UInt8)} {F : Sta}
    (h : Cp d w cp jp p n S gen groups used done wv m K F) (u : Upd (· ∈ Jf d p jp wv) w w') (g : Grew' w (Jf d p jp wv) (Jf d p jp wv')) (hj : Js d w' jp p n S gen groups used done [] wv') : Cp d w' cp jp p n S gen groups used done wv' m K F := by
  have hcl : cp < w.heap.size := (Array.getElem?_eq_some_iff.1 h.cc).1
  have hml := h.em.lt
  refine ⟨hj, u.heap h.cc h.cf, h.em.upd u h.mf (fun b _ hb => .inl (List.mem_cons_of_mem _ hb)) (fun x hx => ?_), h.ok, h.k40, fun hx => ?_, fun hx => ?_⟩
  · rcases List.mem_cons.1 hx with h' | h'
    · exact .inl (by simp [h'])
    · rcases g x h' with h' | h'
      · exact .inl (List.mem_cons_of_mem _ h')
      · exact .inr h'
  · rcases g cp hx with h' | h'
    · exact h.cf h'
    · omega
  · rcases g m hx with h' | h'
    · exact h.mf h'
    · omega

theorem Tab.upd' {G : Nat → Prop} {w w' : World} (h : Tab w) (u : Upd G w w') (hG : ¬ G 1) : Tab w' := fun j hj => by
  rw [World.cell?_of_block (a := ⟨1, j, none⟩) (u.block 1 (World.block_lt_of_cell? _ _ (h 0 (by omega))) hG)]
  exact h j hj
theorem Er.upd {G : Nat → Prop} {w w' : World} (h : Er w) (u : Upd G w w') (hG : ¬ G 0) : Er w' := by
  unfold Er
  rw [World.cell?_of_block (a := ⟨0, 0, none⟩) (u.block 0 (World.block_lt_of_cell? _ _ h) hG)]
  exact h
end Go.Proofs.YtbgommpdmnbplaaGreatDoor

/- What change does. -/
namespace Go.Proofs.YtbgommpdmnbplaaGreatDoor
open Go.RowKit Co Num Jr
set_option linter.unusedVariables false
set_option maxRecDepth 20000

theorem upd_notin {d : Dk} {w : World} {p jp : Nat} {wv wv' : Value} (g : Grew' w (Jf d p jp wv) (Jf d p jp wv')) {k : Nat} (h : k ∉ Jf d p jp wv) (hl : k < w.heap.size) : k ∉ Jf d p jp wv' := fun hx => by
  rcases g k hx with h' | h'
  · exact h h'
  · omega

set_option maxHeartbeats 8000000 in
theorem change_any (d : Dk) (cp jp p n gen groups used : Nat) (S : Nat → List Int) (done : List (List Int)) (wv : Value) (m : Nat) (K : List (List UInt8)) (F : Sta) (a0 : Option Addr) (len cap : Nat) (zs : List Int) (m2 : Nat) (K2 : List (List UInt8)) (F2 : Sta) (w : World)
    (h : Cp d w cp jp p n S gen groups used done wv m K F) (hT : Tab w) (hTf : 1 ∉ Jf d p jp wv) (hR : Er w) (hRf : 0 ∉ Jf d p jp wv) (hn4 : 4 ≤ n) (hb : Bg w [] (.slice a0 len cap) zs) (hz : Bytes zs)
    (hm : Em w (cp :: Jf d p jp wv) m2 K2 F2) (hk : K2.length ≤ 40) (ho : F2.ok) (hmf : m2 ∉ Jf d p jp wv) :
    Calls Tryz.prog 51 #[.pointer (some ⟨cp, 0, none⟩), .slice a0 len cap, .map (some m2)] w (ChgP d w cp jp p n S gen groups used done wv m K F zs m2 K2 F2) := by
  have hcl : cp < w.heap.size := (Array.getElem?_eq_some_iff.1 h.cc).1
  have hTl : 1 < w.heap.size := World.block_lt_of_cell? _ _ (hT 0 (by omega))
  have h0l : 0 < w.heap.size := World.block_lt_of_cell? _ _ hR
  have k1 := hid (cwrite_any d cp jp p n gen groups used S done wv m a0 len cap zs w h.js hT hTf h.cc h.cf hb hz)
  have HH := hid h
  have HT := hid hT
  have HTF := hid hTf
  have HR := hid hR
  have HRF := hid hRf
  have HM := hid hm
  have HO := hid ho
  have HMF := hid hmf
  have kI := hid is_none
  have kF := hid is_fail
  have kN := hid errno_any
  clear h hT hTf hR hRf hb hm ho hmf
  go_enter Tryz.func51, Tryz.ntmps51
  go_upto_region 2 with (first | (go_at_call 113; refine k1.out.mono ?_; rintro r w1 h1; have H1 := hid h1; clear h1 k1; obtain ⟨code, c, rfl, hfit, hu1, h1⟩ := H1.out; have HFIT := hid hfit; clear hfit; have HU1 := hid hu1; have HH1 := hid h1; clear hu1 h1 H1))
  have hcc1 : w1.heap[cp]? = _ := HU1.out.heap HH.out.cc HH.out.cf
  rcases HH1.out with ⟨hcode, hrec, d1, g1, u1, wv1, hj1, hg1⟩ | ⟨hcode, wv1, hj1, hg1⟩
  · subst hcode
    have e0 : wrapV c 0 = .nilIface := by simp [wrapV]
    rw [e0]
    have hnx := cp_next HH.out HM.out hk HO.out HMF.out HU1.out hg1 hj1
    have z1 : w1.cell? ⟨cp, 1, none⟩ = some (.map (some m)) := heap_cells hcc1 1 _ rfl
    have y1 : w1.frozen? ⟨cp, 1, none⟩ = false := frozen_of_row w1 cp 1 _ _ hcc1
    have HNX := hid hnx
    have HG1 := hid hg1
    have HREC := hid hrec
    clear hnx hg1 hj1 hrec e0 HH1 hcc1
    go_wp2_with (first | (go_at_call 114; refine (kI.out _ _).mono ?_; rintro r wx ⟨rfl, hx⟩; subst wx))
    go_ret
    exact ⟨0, d1, wv1, rfl, fun _ => rfl, HNX.out.2, HG1.out, .inl ⟨rfl, HREC.out, g1, u1, HNX.out.1⟩⟩
  · have hcv : ¬ (code : Int) = 0 := by omega
    have e0 : wrapV c code = .iface 239 (.agg #[.string c, .int .i64 code]) := by simp [wrapV, hcode]
    rw [e0]
    have hT1 : Tab w1 := HT.out.upd' HU1.out HTF.out
    have hR1 : Er w1 := HR.out.upd HU1.out HRF.out
    have HJ1 := hid hj1
    have HG1 := hid hg1
    have HT1 := hid hT1
    have HR1 := hid hR1
    have HCC1 := hid hcc1
    clear hj1 hg1 hT1 hR1 e0 HH1 hcc1
    by_cases h4 : code = 4
    · subst h4
      go_upto_region 3 with (first | (go_at_call 114; refine (kF.out _ _ _ _).mono ?_; rintro r w2 ⟨rfl, hb2⟩; have HB2 := hid hb2; clear hb2))
      have hb2 := HB2.out
      have hcl1 : cp < w1.heap.size := Nat.lt_of_lt_of_le hcl HU1.out.size
      have hcc2 := (hb2.block cp hcl1).trans HCC1.out
      have hj2 := HJ1.out.below hb2
      have hTf1 := upd_notin HG1.out HTF.out hTl
      have hRf1 := upd_notin HG1.out HRF.out h0l
      have hcf1 := upd_notin HG1.out HH.out.cf hcl
      have hml2 := HM.out.lt
      have hmf1 := upd_notin HG1.out HMF.out hml2
      have hT2 : Tab w2 := HT1.out.upd' (Upd.of_below (F := fun _ => False) hb2) (fun h => h)
      have hR2 : Er w2 := HR1.out.upd (Upd.of_below (F := fun _ => False) hb2) (fun h => h)
      have hm1 : Em w1 (cp :: Jf d p jp wv1) m2 K2 F2 := HM.out.upd HU1.out HMF.out (fun b _ hb => .inl (List.mem_cons_of_mem _ hb)) (fun x hx => by
        rcases List.mem_cons.1 hx with h' | h'
        · exact .inl (by simp [h'])
        · rcases HG1.out x h' with h' | h'
          · exact .inl (List.mem_cons_of_mem _ h')
          · exact .inr h')
      have hm2 := hm1.below hb2
      have hcp2 : Cp d w2 cp jp p n S gen groups used done wv1 m K F := (cp_stay HH.out HU1.out HG1.out HJ1.out).below hb2
      have k3 := hid (crewrite_any d cp jp p n gen groups used S done wv1 m m2 K2 F2 _ w2 hj2 hT2 hTf1 hn4 hcc2 hcf1 hm2 hk HO.out)
      have HCP2 := hid hcp2
      have HM2 := hid hm2
      have HMF1 := hid hmf1
      have HT2 := hid hT2
      have HR2 := hid hR2
      have HRF1 := hid hRf1
      have HCC2 := hid hcc2
      have HCF1 := hid hcf1
      have HUP : Hid (∀ x, x < w.heap.size → x ∈ cp :: Jf d p jp wv1 → x ∈ cp :: Jf d p jp wv) := hid (fun x hx h => by
        rcases List.mem_cons.1 h with h | h
        · simp [h]
        · rcases HG1.out x h with h | h
          · exact List.mem_cons_of_mem _ h
          · omega)
      have HUW : Hid (Upd (· ∈ cp :: Jf d p jp wv) w w2) := hid (((HU1.out.mono (fun x _ hx => List.mem_cons_of_mem cp hx)).trans (Upd.of_below (F := fun _ => False) hb2) (fun _ _ h => h.elim)))
      clear hb2 hcl1 hcc2 hj2 hTf1 hRf1 hcf1 hml2 hmf1 hT2 hR2 hm1 hm2 hcp2
      go_upto_region 4 with (first | (go_at_call 115; refine k3.out.mono ?_; rintro r w3 h3; have H3 := hid h3; clear h3 k3; obtain ⟨code3, c3, rfl, hu3, h3⟩ := H3.out; have HU3 := hid hu3; have HH3 := hid h3; clear hu3 h3 H3))
      rcases HH3.out with ⟨hc3, hgen, d3, g3, u3, hj3, hg3⟩ | ⟨hc3, hj3⟩
      · subst hc3
        have e3 : wrapV c3 0 = .nilIface := by simp [wrapV]
        rw [e3]
        have hnx := cp_next HCP2.out HM2.out hk HO.out HMF1.out HU3.out hg3 hj3
        have hcc3 : w3.heap[cp]? = _ := HU3.out.heap HCC2.out HCF1.out
        have z1 : w3.cell? ⟨cp, 1, none⟩ = some (.map (some m)) := heap_cells hcc3 1 _ rfl
        have y1 : w3.frozen? ⟨cp, 1, none⟩ = false := frozen_of_row w3 cp 1 _ _ hcc3
        have HNX := hid hnx
        have HG3 := hid hg3
        clear hnx hg3 hj3 e3 HH3 hcc3
        go_wp2_with fail
        go_ret
        refine ⟨0, d3, .slice none 0 0, rfl, fun _ => rfl, HUW.out.trans HNX.out.2 HUP.out, fun x hx => ?_, .inr (.inl ⟨rfl, hgen, g3, u3, HNX.out.1⟩)⟩
        rcases HG3.out x hx with h | h
        · exact HG1.out x h
        · exact .inr (Nat.le_trans HUW.out.size h)
      · have hc3v : ¬ (code3 : Int) = 0 := by omega
        have e3 : wrapV c3 code3 = .iface 239 (.agg #[.string c3, .int .i64 code3]) := by simp [wrapV, hc3]
        rw [e3]
        have hcp3 := cp_stay HCP2.out HU3.out (fun x h => .inl h) hj3
        have k5 := hid (kN.out c3 code3 w3 (HR2.out.upd HU3.out HRF1.out))
        have HCP3 := hid hcp3
        clear hcp3 hj3 e3 HH3
        go_wp2_with (first | (go_at_call 90; refine k5.out.mono ?_; rintro r w4 ⟨rfl, hb4⟩; have HB4 := hid hb4; clear hb4))
        go_ret
        refine ⟨code3, d, wv1, rfl, fun h => absurd (HFIT.out h) (by decide), (HUW.out.trans (HU3.out.mono (fun x _ hx => List.mem_cons_of_mem cp hx)) HUP.out).trans (Upd.of_below (F := fun _ => False) HB4.out) (fun _ _ h => h.elim), HG1.out, .inr (.inr ⟨hc3, rfl, HCP3.out.below HB4.out⟩)⟩
    · have h4v : ((code : Int) == 4) = false := by simp; omega
      have hcp1 := cp_stay HH.out HU1.out HG1.out HJ1.out
      have HCP1 := hid hcp1
      clear hcp1
      have kF4 : Hid (∀ wx, Calls Tryz.prog 114 #[.iface 239 (.agg #[.string c, .int .i64 code]), .iface 29 (.int .i64 4)] wx fun ev w' => ev = .returned (.bool false) ∧ Below wx.heap.size wx w') := hid (fun wx => by rw [← h4v]; exact kF.out c code 4 wx)
      clear h4v
      go_wp2_with (first | (go_at_call 114; refine (kF4.out _).mono ?_; rintro r w2 ⟨rfl, hb2⟩; have HB2 := hid hb2; have k5 := hid (kN.out c code w2 (HR1.out.upd (Upd.of_below (F := fun _ => False) hb2) (fun h => h))); clear hb2) | (go_at_call 90; refine k5.out.mono ?_; rintro r w4 ⟨rfl, hb4⟩; have HB4 := hid hb4; clear hb4))
      go_ret
      have hb24 : Below w1.heap.size w1 w4 := HB2.out.trans (HB4.out.mono HB2.out.size)
      refine ⟨code, d, wv1, rfl, HFIT.out, (HU1.out.mono (fun x _ hx => List.mem_cons_of_mem cp hx)).trans (Upd.of_below (F := fun _ => False) hb24) (fun _ _ h => h.elim), HG1.out, .inr (.inr ⟨hcode, rfl, HCP1.out.below hb24⟩)⟩
end Go.Proofs.YtbgommpdmnbplaaGreatDoor

/- What Put does. -/
namespace Go.Proofs.YtbgommpdmnbplaaGreatDoor
open Go.RowKit Co Num Jr
set_option linter.unusedVariables false
set_option maxRecDepth 20000

/-- What a step of a corpus leaves. -/
def StepP (d : Dk) (w : World) (cp jp p n : Nat) (S : Nat → List Int) (gen groups used : Nat) (done : List (List Int)) (wv : Value) (m : Nat) (K : List (List UInt8)) (F : Sta) (zs : List Int) (F2 : Sta) (more : Prop) (r : Ending) (w' : World) : Prop :=
  ∃ (code : Nat) (d' : Dk) (wv' : Value) (m' : Nat) (K' : List (List UInt8)), r = .returned (.int .i64 code) ∧ (Fits n used zs → more → code = 0) ∧ Upd (· ∈ cp :: Jf d p jp wv) w w' ∧ Grew' w (Jf d p jp wv) (Jf d' p jp wv') ∧ (m' = m ∨ w.heap.size ≤ m') ∧
    ((code = 0 ∧ Fits n used zs ∧ more ∧ ∃ groups' used', Cp d' w' cp jp p n (cmtS n gen groups used S [zs]) gen groups' used' (done ++ [zs]) wv' m' K' F2) ∨
     (code = 0 ∧ gen < 2147483648 ∧ more ∧ ∃ groups' used', Cp d' w' cp jp p n (upS (beginS n gen S (needN (loadOf (K'.map (recOf F2))).length) (loadOf (K'.map (recOf F2)))) ((gen + 1) % 2) (headB (gen + 1))) (gen + 1) groups' used' (K'.map (recOf F2)) wv' m' K' F2) ∨
     (code ≠ 0 ∧ d' = d ∧ m' = m ∧ K' = K ∧ Cp d w' cp jp p n S gen groups used done wv' m K F))

theorem step_no {d : Dk} {w w' : World} {cp jp p n : Nat} {S : Nat → List Int} {gen groups used : Nat} {done : List (List Int)} {wv : Value} {m : Nat} {K : List (List UInt8)} {F : Sta} {zs : List Int} {F2 : Sta} {more : Prop} (h : Cp d w cp jp p n S gen groups used done wv m K F) (hb : Below w.heap.size w w') (code : Nat) (hc : code ≠ 0) (r : Ending) (hr : r = .returned (.int .i64 code)) (hno : ¬ more) : StepP d w cp jp p n S gen groups used done wv m K F zs F2 more r w' :=
  ⟨code, d, wv, m, K, hr, fun _ h => absurd h hno, Upd.of_below hb, fun x hx => .inl hx, .inl rfl, .inr (.inr ⟨hc, rfl, rfl, rfl, h.below hb⟩)⟩

/-- What Put asks of an entry that it takes. -/
def PutMore (F : Sta) (e : Ety) : Prop := mayB e = true ∧ (putR e).length ≤ 2000 ∧ (F (kb e.k) ≠ none ∨ Few F)

set_option maxHeartbeats 8000000 in
theorem put_entry (d : Dk) (cp jp p n gen groups used : Nat) (S : Nat → List Int) (done : List (List Int)) (wv : Value) (m : Nat) (K : List (List UInt8)) (F : Sta) (v : Value) (e : Ety) (w : World)
    (h : Cp d w cp jp p n S gen groups used done wv m K F) (hT : Tab w) (hTf : 1 ∉ Jf d p jp wv) (hR : Er w) (hRf : 0 ∉ Jf d p jp wv) (hn4 : 4 ≤ n) (hE : Ev w [] v e) :
    Calls Tryz.prog 13 #[.pointer (some ⟨cp, 0, none⟩), v] w (StepP d w cp jp p n S gen groups used done wv m K F (putR e) (F.put e) (PutMore F e)) := by
  obtain ⟨pa, pc, qa, qc, rfl, hp, hq⟩ := hE
  unfold entV
  obtain ⟨W, gW⟩ : ∃ W, W = w.alloc (.cells #[.string e.k, .string e.g, .slice pa e.p.length pc, .int .i64 e.f, .slice qa e.q.length qc] 37) := ⟨_, rfl⟩
  have hbW : Below w.heap.size w W := by rw [gW]; exact (Below.refl _ _).alloc (Nat.le_refl _) _
  have hW : W.heap[w.heap.size]? = some (.cells #[.string e.k, .string e.g, .slice pa e.p.length pc, .int .i64 e.f, .slice qa e.q.length qc] 37 (0, 0)) := by rw [gW]; exact heap_alloc_new _ _
  have hEW : ∀ wx, Below w.heap.size w wx → Ev wx [] (entV e.k e.g pa e.p.length pc e.f qa e.q.length qc) e := fun wx hb => Ev.upd (w := w) (N := []) ⟨pa, pc, qa, qc, rfl, hp, hq⟩ (Upd.of_below (F := fun _ => False) hb) (fun _ _ h => h.elim) (fun x hx => .inl hx)
  unfold entV at hEW
  have hcl : cp < w.heap.size := (Array.getElem?_eq_some_iff.1 h.cc).1
  have hcc : ∀ wx, Below w.heap.size w wx → wx.heap[cp]? = some (.cells #[.pointer (some ⟨jp, 0, none⟩), .map (some m)] 77 (0, 0)) := fun wx hb => (hb.block cp hcl).trans h.cc
  have hkk := hid (fun wx => iskey_any e.k wx)
  have hTl : 1 < w.heap.size := World.block_lt_of_cell? _ _ (hT 0 (by omega))
  obtain ⟨pn, gpn⟩ : ∃ pn, pn = e.p.length := ⟨_, rfl⟩
  obtain ⟨qn, gqn⟩ : ∃ qn, qn = e.q.length := ⟨_, rfl⟩
  obtain ⟨ks, gks⟩ : ∃ ks, ks = e.k := ⟨_, rfl⟩
  obtain ⟨gs, ggs⟩ : ∃ gs, gs = e.g := ⟨_, rfl⟩
  obtain ⟨fx, gfx⟩ : ∃ fx, fx = e.f := ⟨_, rfl⟩
  rw [← gpn, ← gqn, ← gks, ← ggs, ← gfx] at gW hW hEW
  rw [← gpn, ← gqn, ← gks, ← ggs, ← gfx]
  rw [← gks] at hkk
  have hwl : w.heap.size < W.heap.size := (Array.getElem?_eq_some_iff.1 hW).1
  have hbox : ∀ wx, Below W.heap.size W wx → wx.heap[w.heap.size]? = some (.cells #[.string ks, .string gs, .slice pa pn pc, .int .i64 fx, .slice qa qn qc] 37 (0, 0)) := fun wx hb => (hb.block w.heap.size hwl).trans hW
  have k1 := hid (cusable cp jp m W (hcc W hbW))
  have d0 : W.cell? ⟨w.heap.size, 0, none⟩ = some (.string ks) := heap_cells hW 0 _ rfl
  have d1 : W.cell? ⟨w.heap.size, 1, none⟩ = some (.string gs) := heap_cells hW 1 _ rfl
  have d2 : W.cell? ⟨w.heap.size, 2, none⟩ = some (.slice pa pn pc) := heap_cells hW 2 _ rfl
  have d3 : W.cell? ⟨w.heap.size, 3, none⟩ = some (.int .i64 fx) := heap_cells hW 3 _ rfl
  have d4 : W.cell? ⟨w.heap.size, 4, none⟩ = some (.slice qa qn qc) := heap_cells hW 4 _ rfl
  have HH := hid h
  have HT := hid hT
  have HTF := hid hTf
  have HR := hid hR
  have HRF := hid hRf
  have HEW := hid hEW
  have HCC := hid hcc
  have HBOX := hid hbox
  have HBW := hid hbW
  have GW := hid gW
  have GK := hid gks
  have k2 := hid (maybe_any [] _ e W (hEW W hbW))
  clear h hT hTf hR hRf hp hq hEW hcc hbox hbW gW hW gpn gqn ggs gfx gks
  go_enter Tryz.func13, Tryz.ntmps13
  go_upto_region 1 with fail
  rw [← GW.out]
  obtain ⟨b1, gb1⟩ : ∃ b1, b1 = Co.isKey ks := ⟨_, rfl⟩
  rw [← gb1] at hkk
  have GB1 := hid gb1
  clear gb1
  cases b1 with
  | false =>
    go_wp2_with (first | (go_at_call 44; refine k1.out.mono ?_; rintro r wx ⟨rfl, h⟩; subst wx) | (go_at_call 45; refine (hkk.out _).mono ?_; rintro r wx ⟨rfl, h⟩; subst wx))
    go_ret
    exact step_no HH.out HBW.out 40 (by decide) _ rfl (fun h => by have := (mayB_parts h.1).1; rw [← GK.out, ← GB1.out] at this; cases this)
  | true =>
    obtain ⟨b2, gb2⟩ : ∃ b2, b2 = mayB e := ⟨_, rfl⟩
    rw [← gb2] at k2
    have GB2 := hid gb2
    clear gb2
    cases b2 with
    | false =>
      go_wp2_with (first | (go_at_call 44; refine k1.out.mono ?_; rintro r wx ⟨rfl, h⟩; subst wx) | (go_at_call 45; refine (hkk.out _).mono ?_; rintro r wx ⟨rfl, h⟩; subst wx) | (go_at_call 46; refine k2.out.mono ?_; rintro r w1 ⟨rfl, hb1⟩; have HB1 := hid hb1; clear hb1))
      go_ret
      exact step_no HH.out (HBW.out.trans (HB1.out.mono HBW.out.size)) 1 (by decide) _ rfl (fun h => by have := h.1; rw [← GB2.out] at this; cases this)
    | true =>
      go_upto_region 7 with (first | (go_at_call 44; refine k1.out.mono ?_; rintro r wx ⟨rfl, h⟩; subst wx) | (go_at_call 45; refine (hkk.out _).mono ?_; rintro r wx ⟨rfl, h⟩; subst wx) | (go_at_call 46; refine k2.out.mono ?_; rintro r w1 ⟨rfl, hb1⟩; have HB1 := hid hb1; clear hb1))
      clear d0 d1 d2 d3 d4
      have d0 : w1.cell? ⟨w.heap.size, 0, none⟩ = some (.string ks) := heap_cells (HBOX.out w1 HB1.out) 0 _ rfl
      have d1 : w1.cell? ⟨w.heap.size, 1, none⟩ = some (.string gs) := heap_cells (HBOX.out w1 HB1.out) 1 _ rfl
      have d2 : w1.cell? ⟨w.heap.size, 2, none⟩ = some (.slice pa pn pc) := heap_cells (HBOX.out w1 HB1.out) 2 _ rfl
      have d3 : w1.cell? ⟨w.heap.size, 3, none⟩ = some (.int .i64 fx) := heap_cells (HBOX.out w1 HB1.out) 3 _ rfl
      have d4 : w1.cell? ⟨w.heap.size, 4, none⟩ = some (.slice qa qn qc) := heap_cells (HBOX.out w1 HB1.out) 4 _ rfl
      have HBw1 : Hid (Below w.heap.size w w1) := hid (HBW.out.trans (HB1.out.mono HBW.out.size))
      have k3 := hid (putrec_any [] _ e w1 (HEW.out w1 HBw1.out) GB2.out.symm)
      go_upto_region 8 with (first | (go_at_call 47; refine k3.out.mono ?_; rintro r w2 h2; have H2 := hid h2; clear h2 k3; rcases H2.out with ⟨hq, rfl, hb2⟩ | ⟨hq, g2, c2, rfl, ho2, hb2⟩))
      · have HB2 := hid hb2
        have HQ := hid hq
        clear H2 hq hb2
        go_wp2_with fail
        go_ret
        exact step_no HH.out (HBw1.out.trans (HB2.out.mono HBw1.out.size)) 12 (by decide) _ rfl (fun h => by have := putR_q e; have := h.2.1; have := HQ.out; omega)
      · obtain ⟨b3, gb3⟩ : ∃ b3, b3 = decide ((putR e).length ≤ 2000) := ⟨_, rfl⟩
        rw [← gb3]
        have GB3 := hid gb3
        have HO2 := hid ho2
        have HB2 := hid hb2
        have HBw2 : Hid (Below w.heap.size w w2) := hid (HBw1.out.trans (hb2.mono HBw1.out.size))
        clear gb3 H2 hq ho2 hb2
        cases b3 with
        | false =>
          go_wp2_with fail
          go_ret
          exact step_no HH.out HBw2.out 12 (by decide) _ rfl (fun h => of_decide_eq_false GB3.out.symm h.2.1)
        | true =>
          have hpl : (putR e).length ≤ 2000 := of_decide_eq_true GB3.out.symm
          have hks : ks.size ≤ 24 := (isKey_size GB1.out.symm).2
          have z1 : w2.cell? ⟨cp, 1, none⟩ = some (.map (some m)) := heap_cells (HCC.out w2 HBw2.out) 1 _ rfl
          have HBB2 : Hid (Below W.heap.size W w2) := hid (HB1.out.trans (HB2.out.mono HB1.out.size))
          have z0 : w2.cell? ⟨w.heap.size, 0, none⟩ = some (.string ks) := heap_cells (HBOX.out w2 HBB2.out) 0 _ rfl
          have kt : Hid (∀ wx, Below w.heap.size w wx → Calls Tryz.prog 48 #[.map (some m), .string ks] wx (TakP wx K (F (kb ks)))) := hid (fun wx hb => takes_any _ m K F ks wx (HH.out.em.below hb) (by unfold maxLen; omega) HH.out.k40)
          have HPL := hid hpl
          have hwl2 : w.heap.size < w2.heap.size := Nat.lt_of_lt_of_le hwl HBB2.out.size
          have hcl2 : cp < w2.heap.size := Nat.lt_of_lt_of_le hcl HBw2.out.size
          clear d0 d1 d2 d3 d4 hpl
          go_upto_region 10 with fail
          go_region_held3 (fun wx => wx.cell? ⟨cp, 1, none⟩ = some (.map (some m)) ∧ wx.cell? ⟨w.heap.size, 0, none⟩ = some (.string ks)) (go_keep) (first
            | (go_at_call 48; refine (kt.out _ (by first | exact HBw2.out | exact below_drewN HBw2.out 1)).mono ?_; rintro r w3 ⟨B, rfl, hB, hb3⟩; have HB3 : Hid (Below w2.heap.size w2 w3) := (by first | (with_reducible exact hid hb3) | exact hid (undrew' hb3)); have HBI := hid hB; have y1 : w3.cell? ⟨cp, 1, none⟩ = some (.map (some m)) := (HB3.out.cell (p := ⟨cp, 1, none⟩) hcl2).trans z1; have y0 : w3.cell? ⟨w.heap.size, 0, none⟩ = some (.string ks) := (HB3.out.cell (p := ⟨w.heap.size, 0, none⟩) hwl2).trans z0; clear hB hb3))
          have HBw3 : Hid (Below w.heap.size w w3) := hid (HBw2.out.trans (HB3.out.mono HBw2.out.size))
          cases B with
          | false =>
            go_wp2_with fail
            go_ret
            exact step_no HH.out HBw3.out 4 (by decide) _ rfl (fun h => by
              have h2 := h.2.2
              rw [← HH.out.em.keys.few, ← GK.out] at h2
              have := HBI.out.2 h2
              cases this)
          | true =>
            have htk : F (kb e.k) ≠ none ∨ K.length < 40 := by have := HBI.out.1 rfl; rw [GK.out] at this; exact this
            have HTK := hid htk
            have k4 := hid (em_clone _ [] m K F w3 (HH.out.em.below HBw3.out))
            clear htk
            go_upto_region 13 with (first | (go_at_call 49; refine k4.out.mono ?_; rintro r w4 ⟨rfl, hm4, hb4⟩; have HM4 := hid hm4; have HB4 := hid hb4; clear hm4 hb4 k4))
            have HBw4 : Hid (Below w.heap.size w w4) := hid (HBw3.out.trans (HB4.out.mono HBw3.out.size))
            have HBB4 : Hid (Below W.heap.size W w4) := hid ((HBB2.out.trans (HB3.out.mono HBB2.out.size)).trans (HB4.out.mono (HBB2.out.trans (HB3.out.mono HBB2.out.size)).size))
            obtain ⟨m2, gm2⟩ : ∃ m2, m2 = w3.heap.size := ⟨_, rfl⟩
            rw [← gm2] at HM4
            rw [← gm2]
            have GM2 := hid gm2
            clear gm2 y0 y1 z0 z1
            have d0 : w4.cell? ⟨w.heap.size, 0, none⟩ = some (.string ks) := heap_cells (HBOX.out w4 HBB4.out) 0 _ rfl
            have d1 : w4.cell? ⟨w.heap.size, 1, none⟩ = some (.string gs) := heap_cells (HBOX.out w4 HBB4.out) 1 _ rfl
            have d2 : w4.cell? ⟨w.heap.size, 2, none⟩ = some (.slice pa pn pc) := heap_cells (HBOX.out w4 HBB4.out) 2 _ rfl
            have d3 : w4.cell? ⟨w.heap.size, 3, none⟩ = some (.int .i64 fx) := heap_cells (HBOX.out w4 HBB4.out) 3 _ rfl
            have d4 : w4.cell? ⟨w.heap.size, 4, none⟩ = some (.slice qa qn qc) := heap_cells (HBOX.out w4 HBB4.out) 4 _ rfl
            have hlens := mayB_lens GB2.out.symm HPL.out
            have k5 : Hid (∀ wx, Below w.heap.size w wx → Calls Tryz.prog 50 #[.agg #[.string ks, .string gs, .slice pa pn pc, .int .i64 fx, .slice qa qn qc]] wx (CopP wx e)) := hid (fun wx hb => ecopied_any [] _ e wx (HEW.out wx hb) (by omega) (by omega))
            have hwl4 : w.heap.size < w4.heap.size := Nat.lt_of_lt_of_le hwl HBB4.out.size
            have hNl : ∀ x ∈ cp :: Jf d p jp wv, x < w4.heap.size := fun x hx => by
              have hs := HBw4.out.size
              rcases List.mem_cons.1 hx with h' | h'
              · omega
              · have := HH.out.js.lt x h'; omega
            have HNL := hid hNl
            have hm2w : w.heap.size < m2 := by have := Nat.lt_of_lt_of_le hwl2 HB3.out.size; have := GM2.out; omega
            have hk40 := HH.out.k40
            clear hlens hNl
            go_region_held3 (fun wx => wx.cell? ⟨w.heap.size, 0, none⟩ = some (.string ks) ∧ wx.cell? ⟨w.heap.size, 1, none⟩ = some (.string gs) ∧ wx.cell? ⟨w.heap.size, 2, none⟩ = some (.slice pa pn pc) ∧ wx.cell? ⟨w.heap.size, 3, none⟩ = some (.int .i64 fx) ∧ wx.cell? ⟨w.heap.size, 4, none⟩ = some (.slice qa qn qc)) (go_keep) (first
              | (go_at_call 50; refine (k5.out _ (by first | exact HBw4.out | exact below_drewN HBw4.out 1)).mono ?_; rintro r w5 ⟨v5, rfl, hE5, hb5⟩; have HB5 : Hid (Below w4.heap.size w4 w5) := (by first | (with_reducible exact hid hb5) | exact hid (undrew' hb5)); have HE5 : Hid (EvN w5 w4.heap.size v5 e) := hid hE5; have e0 : w5.cell? ⟨w.heap.size, 0, none⟩ = some (.string ks) := (HB5.out.cell (p := ⟨w.heap.size, 0, none⟩) hwl4).trans d0; have e1 : w5.cell? ⟨w.heap.size, 1, none⟩ = some (.string gs) := (HB5.out.cell (p := ⟨w.heap.size, 1, none⟩) hwl4).trans d1; have e2 : w5.cell? ⟨w.heap.size, 2, none⟩ = some (.slice pa pn pc) := (HB5.out.cell (p := ⟨w.heap.size, 2, none⟩) hwl4).trans d2; have e3 : w5.cell? ⟨w.heap.size, 3, none⟩ = some (.int .i64 fx) := (HB5.out.cell (p := ⟨w.heap.size, 3, none⟩) hwl4).trans d3; have e4 : w5.cell? ⟨w.heap.size, 4, none⟩ = some (.slice qa qn qc) := (HB5.out.cell (p := ⟨w.heap.size, 4, none⟩) hwl4).trans d4; obtain ⟨w6, K6, hr6, hm6, hu6, hk6⟩ := em_put (HM4.out.below HB5.out) (HE5.out _ HNL.out) (by rw [← GK.out]; unfold maxLen; omega) (by unfold maxLen; omega); rw [← GK.out] at hr6; have HM6 := hid hm6; have HU6 := hid hu6; have HK6 := hid hk6; have hne : ∀ o, w6.cell? ⟨w.heap.size, o, none⟩ = w5.cell? ⟨w.heap.size, o, none⟩ := (fun o => World.cell?_of_block (a := ⟨w.heap.size, o, none⟩) (hu6.block w.heap.size (Nat.lt_of_lt_of_le hwl4 HB5.out.size) (fun h => by omega))); have f0 := (hne 0).trans e0; have f1 := (hne 1).trans e1; have f2 := (hne 2).trans e2; have f3 := (hne 3).trans e3; have f4 := (hne 4).trans e4; clear hE5 hb5 hm6 hu6 hk6 hne))
            have hb5 : Below w.heap.size w w5 := HBw4.out.trans (HB5.out.mono HBw4.out.size)
            have hb6 : Below w.heap.size w w6 := hb5.trans (HU6.out.below hb5.size (fun x h => by omega))
            have hb25 : Below w2.heap.size w2 w5 := (HB3.out.trans (HB4.out.mono HB3.out.size)).trans (HB5.out.mono (HB3.out.trans (HB4.out.mono HB3.out.size)).size)
            have hb26 : Below w2.heap.size w2 w6 := hb25.trans (HU6.out.below hb25.size (fun x h => by have := GM2.out; have := HB3.out.size; omega))
            have hpl := HPL.out
            have hbg : Bg w6 [] (.slice (some ⟨g2, 0, none⟩) (putR e).length c2) (putR e) := (own_bg HO2.out [] (fun x hx => by simp at hx) (by omega)).below hb26
            have hk6 : K6.length ≤ 40 := by
              have h1 := HK6.out
              have h2 := HTK.out
              split at h1
              · rename_i hn
                rcases h2 with h2 | h2
                · exact absurd hn h2
                · omega
              · omega
            have hmj : m2 ∉ Jf d p jp wv := fun hx => by have := HH.out.js.lt m2 hx; omega
            have hcp6 := HH.out.below hb6
            have hml : m < w.heap.size := HH.out.em.lt
            have kC := hid (change_any d cp jp p n gen groups used S done wv m K F (some ⟨g2, 0, none⟩) (putR e).length c2 (putR e) m2 K6 (F.put e) w6 hcp6 (HT.out.upd' (Upd.of_below (F := fun _ => False) hb6) (fun h => h)) HTF.out (HR.out.upd (Upd.of_below (F := fun _ => False) hb6) (fun h => h)) HRF.out hn4 hbg (putR_bytes e) HM6.out hk6 (HH.out.ok.put GB2.out.symm hpl) hmj)
            have hmore : PutMore F e := ⟨GB2.out.symm, hpl, HTK.out.elim .inl (fun h => .inr (HH.out.em.keys.few.1 h))⟩
            have HMORE := hid hmore
            have HB6 := hid hb6
            obtain ⟨zl, gzl⟩ : ∃ zl, zl = (putR e).length := ⟨_, rfl⟩
            rw [← gzl] at kC
            rw [← gzl]
            clear hb5 hb6 hb25 hb26 hpl hbg hk6 hmj hcp6 gzl hmore
            go_wp2_with (first | (go_at_call 51; refine kC.out.mono ?_; rintro r w7 h7; have H7 := hid h7; clear h7 kC; obtain ⟨code, d7, wv7, rfl, hf7, hu7, hg7, h7⟩ := H7.out; have HF7 := hid hf7; clear hf7; have HU7 := hid hu7; have HG7 := hid hg7; have HH7 := hid h7; clear hu7 hg7 h7 H7))
            go_ret
            have hU : Upd (· ∈ cp :: Jf d p jp wv) w w7 := (Upd.of_below HB6.out).trans HU7.out (fun x _ h => h)
            have hG : Grew' w (Jf d p jp wv) (Jf d7 p jp wv7) := fun x hx => by
              rcases HG7.out x hx with h | h
              · exact .inl h
              · exact .inr (Nat.le_trans HB6.out.size h)
            rcases HH7.out with ⟨h1, h2, g7, u7, h3⟩ | ⟨h1, h2, g7, u7, h3⟩ | ⟨h1, h2, h3⟩
            · exact ⟨code, d7, wv7, m2, K6, rfl, fun h _ => HF7.out h, hU, hG, .inr (Nat.le_of_lt hm2w), .inl ⟨h1, h2, HMORE.out, g7, u7, h3⟩⟩
            · exact ⟨code, d7, wv7, m2, K6, rfl, fun h _ => HF7.out h, hU, hG, .inr (Nat.le_of_lt hm2w), .inr (.inl ⟨h1, h2, HMORE.out, g7, u7, h3⟩)⟩
            · subst h2
              exact ⟨code, d7, wv7, m, K, rfl, fun h _ => HF7.out h, hU, hG, .inl rfl, .inr (.inr ⟨h1, rfl, rfl, rfl, h3⟩)⟩
end Go.Proofs.YtbgommpdmnbplaaGreatDoor

/- A corpus on a new disk. -/
namespace Go.Proofs.YtbgommpdmnbplaaGreatDoor
open Go.RowKit Co Num Jr
set_option linter.unusedVariables false
set_option maxRecDepth 20000

/-- What corpus.Open makes of a disk without a journal. -/
def CNewP (d : Dk) (w : World) (p n : Nat) (S : Nat → List Int) (r : Ending) (w' : World) : Prop :=
  ∃ (cp jp : Nat) (d' : Dk) (m : Nat), r = .returned (.tuple #[.pointer (some ⟨cp, 0, none⟩), .int .i64 0]) ∧ Cp d' w' cp jp p n (openS n S) (openGen S) 0 0 [] (.slice none 0 0) m [] (fun _ => none) ∧ Upd (· ∈ d.foot p) w w' ∧ (∀ x ∈ Jf d' p jp (.slice none 0 0), x ∈ d.foot p ∨ w.heap.size ≤ x) ∧ w.heap.size ≤ cp ∧ w.heap.size ≤ m

set_option maxHeartbeats 4000000 in
theorem copen_new (d : Dk) (p n : Nat) (S : Nat → List Int) (w : World) (J : Jd d w p n S) (hr : d.rest) (hT : Tab w) (hdT : 1 ∉ d.foot p) (hn4 : 4 ≤ n) (hz : newest S = 0) :
    Calls Tryz.prog 10 #[.pointer (some ⟨p, 0, none⟩)] w (CNewP d w p n S) := by
  have hop : opened n S = ([], 0, 0) := by unfold opened; rw [if_pos hz]
  have k1 := hid (jopen_any d p n S w J hr hT hdT hn4)
  have HOP := hid hop
  have HJ := hid J
  clear hop J hT hdT hr hz
  go_enter Tryz.func10, Tryz.ntmps10
  go_upto_region 2 with (first | (go_at_call 39; refine k1.out.mono ?_; rintro r w1 h1; have H1 := hid h1; clear h1 k1; obtain ⟨jp, v, d1, m1, rfl, h1, h2, h3, h4, h5, h6, h7⟩ := H1.out))
  rw [HOP.out] at h5 h6
  obtain ⟨us, ho, _⟩ := h6
  obtain ⟨av, cv, ev, _, _⟩ := own_shape ho
  subst ev
  obtain ⟨X, gX⟩ : ∃ X, X = (w1.alloc (.map #[] 0)).alloc (.cells #[.pointer (some ⟨jp, 0, none⟩), .map (some w1.heap.size)] 77) := ⟨_, rfl⟩
  have hjs : Js d1 w1 jp p n (openS n S) (openGen S) 0 0 [] [] (.slice none 0 0) := ⟨h3.jd, h4, h5, by have := JI.open n S HJ.out.all; rw [HOP.out] at this; exact this, by simpa [loadOf] using World.ownsRow_nil _ _ _ _, fun r hr => by simp at hr, by simp [loadOf, needN], h2, fun k hk => by simp [Value.ownBlock] at hk⟩
  have hbX : Below w1.heap.size w1 X := by rw [gX]; exact ((Below.refl _ _).alloc (Nat.le_refl _) _).alloc (by simp) _
  have hX : X.heap[w1.heap.size + 1]? = some (.cells #[.pointer (some ⟨jp, 0, none⟩), .map (some w1.heap.size)] 77 (0, 0)) := by
    rw [gX]
    have := heap_alloc_new (w1.alloc (.map #[] 0)) (.cells #[.pointer (some ⟨jp, 0, none⟩), .map (some w1.heap.size)] 77)
    simpa using this
  have hjl := hjs.lt
  have hem : Em X ((w1.heap.size + 1) :: Jf d1 p jp (.slice none 0 0)) w1.heap.size [] (fun _ => none) := by
    rw [gX]
    exact (em_new w1 _).below ((Below.refl _ _).alloc (Nat.le_refl _) _)
  have hcp : Cp d1 X (w1.heap.size + 1) jp p n (openS n S) (openGen S) 0 0 [] (.slice none 0 0) w1.heap.size [] (fun _ => none) :=
    ⟨hjs.below hbX, hX, hem, (fun s e h => by cases h), (by simp), (fun hx => by have := hjl _ hx; omega), (fun hx => by have := hjl _ hx; omega)⟩
  have hU : Upd (· ∈ d.foot p) w X := h3.upd.trans (Upd.of_below (F := fun _ => False) hbX) (fun _ _ h => h.elim)
  have hF : ∀ x ∈ Jf d1 p jp (.slice none 0 0), x ∈ d.foot p ∨ w.heap.size ≤ x := fun x hx => by
    simp only [Jf, vb, Value.ownBlock, List.mem_cons, Option.toList, List.nil_append] at hx
    rcases hx with rfl | hx
    · exact .inr h1
    · exact h3.grew x hx
  have hs1 := h3.upd.size
  have HCP := hid hcp
  have HU := hid hU
  have HF := hid hF
  have GX := hid gX
  clear h1 h2 h3 h4 h5 h7 ho hjs hbX hX hjl hem hcp hU hF gX H1
  have hmm := @run_makeMap Tryz.prog
  go_wp2_with fail
  rw [← GX.out]
  refine wp_loop_rounds 1 ?_
  rw [rounds_succ]
  go_wp2_with fail
  go_ret2
  exact ⟨w1.heap.size + 1, jp, d1, w1.heap.size, rfl, HCP.out, HU.out, HF.out, by omega, hs1⟩

theorem sec_zero (n i : Nat) (h : i < n) : sec (List.replicate (n * 128) 0) i = zero128 := by
  unfold sec zero128
  rw [List.drop_replicate, List.take_replicate]
  congr 1
  omega
theorem jd_new {d : Dk} {w : World} {p n : Nat} (hok : d.ok w p) (hn : d.n = n) (hd : d.dur = List.replicate (n * 128) 0) (hw : d.wr = d.dur) (he : d.eps = []) (ho : d.opn = false) : Jd d w p n (fun _ => zero128) ∧ d.rest :=
  ⟨⟨hok, hn, fun i hi => by rw [hw, hd]; exact sec_zero n i hi, fun i hi => by rw [hd]; simp [Dk.ab, he, over]; exact sec_zero n i hi, fun i => bytes_zero128, fun i => by simp [zero128], by rw [he]; simp, .inr he⟩, he, ho⟩
theorem newest_zero : newest (fun _ => zero128) = 0 := by simp [newest, rightH_zero]
end Go.Proofs.YtbgommpdmnbplaaGreatDoor
