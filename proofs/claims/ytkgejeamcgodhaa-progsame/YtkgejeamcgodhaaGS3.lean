/- Whether programs are the same: the program's, the verifier's and the document's answer. -/
import Derived.Test.YtkgejeamcgodhaaGS2
import Derived.Deep.RegionHeld3
namespace Go.Proofs.Ytkgejeamcgodhaa
open Go.RowKit
set_option linter.unusedVariables false
set_option maxRecDepth 20000

/-- A step: its call, and its arguments with where they lie. -/
structure Stp where
  c : Int
  ra : Option Addr
  rn : Nat
  rc : Nat
  qs : List Ar
structure StpOk (d : Nat) (w : World) (s : Stp) : Prop where
  row : Krow d w s.ra s.qs
  len : s.qs.length = s.rn
  le : s.rn ≤ s.rc
  few : s.rc ≤ 9223372036854775807
/-- Steps lie from an address on. -/
def Pgm (d : Nat) (w : World) (a : Option Addr) (ps : List Stp) : Prop :=
  0 < ps.length → ∃ b o, a = some ⟨b, o, none⟩ ∧ b < w.heap.size ∧ ∀ j, ∀ h : j < ps.length, w.cell? ⟨b, o + j * 2, none⟩ = some (.int .i64 ps[j].c) ∧ w.cell? ⟨b, o + j * 2 + 1, none⟩ = some (.slice ps[j].ra ps[j].rn ps[j].rc) ∧ StpOk d w ps[j]
theorem StpOk.below {d : Nat} {w w' : World} {s : Stp} (h : StpOk d w s) (hb : Below w.heap.size w w') : StpOk d w' s := ⟨h.row.below hb, h.len, h.le, h.few⟩
theorem Pgm.below {d : Nat} {w w' : World} {a : Option Addr} {ps : List Stp} (h : Pgm d w a ps) (hb : Below w.heap.size w w') : Pgm d w' a ps := fun h0 => by
  obtain ⟨b, o, e, hl, hc⟩ := h h0
  exact ⟨b, o, e, Nat.lt_of_lt_of_le hl hb.size, fun j hj => ⟨(hb.cell (p := ⟨b, o + j * 2, none⟩) hl).trans (hc j hj).1, (hb.cell (p := ⟨b, o + j * 2 + 1, none⟩) hl).trans (hc j hj).2.1, (hc j hj).2.2.below hb⟩⟩

def sameS (d : Nat) (s t : Stp) : Bool := decide (s.c = t.c) && sameQ (sameB d) s.qs t.qs
def sameP (d : Nat) : List Stp → List Stp → Bool
  | [], [] => true
  | a :: qs, b :: rs => sameS d a b && sameP d qs rs
  | _, _ => false
theorem sameP_ne (d : Nat) : ∀ (qs rs : List Stp), qs.length ≠ rs.length → sameP d qs rs = false
  | [], [], h => absurd rfl h
  | [], _ :: _, _ => rfl
  | _ :: _, [], _ => rfl
  | a :: qs, b :: rs, h => by simp only [sameP]; rw [sameP_ne d qs rs (by simpa using h)]; simp
theorem sameP_drop (d : Nat) (qs rs : List Stp) (i : Nat) (h1 : i < qs.length) (h2 : i < rs.length) : sameP d (qs.drop i) (rs.drop i) = (sameS d qs[i] rs[i] && sameP d (qs.drop (i + 1)) (rs.drop (i + 1))) := by
  rw [List.drop_eq_getElem_cons h1, List.drop_eq_getElem_cons h2]
  rfl
theorem sameP_end (d : Nat) (qs rs : List Stp) (i : Nat) (h1 : qs.length ≤ i) (h2 : rs.length ≤ i) : sameP d (qs.drop i) (rs.drop i) = true := by
  rw [List.drop_of_length_le h1, List.drop_of_length_le h2]
  rfl

/-- What a function of two steps answers. -/
def TellsS (K d : Nat) : Prop := ∀ (d' : Nat) (s t : Stp) (w : World), StpOk d w s → StpOk d' w t → Calls Try.prog K #[.agg #[.int .i64 s.c, .slice s.ra s.rn s.rc], .agg #[.int .i64 t.c, .slice t.ra t.rn t.rc]] w fun e w' => e = .returned (.bool (sameS d s t)) ∧ Below w.heap.size w w'

set_option maxHeartbeats 2000000 in
theorem pstep_tells (d : Nat) : TellsS 45 d := by
  intro d' s t w hs ht
  have k2 := hid (fun wx (hb : Below w.heap.size w wx) => eqf_any 76 psarg_go d (psarg_tells d) d' s.ra s.rn s.rc t.ra t.rn t.rc s.qs t.qs wx (hs.row.below hb) hs.len hs.le hs.few (ht.row.below hb) ht.len ht.le ht.few)
  have HS : Hid (sameS d s t = (decide (s.c = t.c) && sameQ (sameB d) s.qs t.qs)) := hid rfl
  rw [HS.out]
  clear hs ht HS
  generalize sameQ (sameB d) s.qs t.qs = R at *
  obtain ⟨sc, sa, sn, sm, sq⟩ := s
  obtain ⟨tc, ta, tn, tm, tq⟩ := t
  dsimp only at *
  by_cases h1 : sc = tc
  · subst h1
    go_enter Try.func45, Try.ntmps45
    go_wp2_with fail
    refine (k2.out _ (below_box2 w _ _)).mono ?_
    rintro e w2 ⟨rfl, hb2⟩
    go_wp2_with fail
    go_ret
    exact ⟨by simp, (below_box2 w _ _).trans (hb2.mono (below_box2 w _ _).size)⟩
  · go_enter Try.func45, Try.ntmps45
    go_wp2_with fail
    go_ret
    exact ⟨by simp [h1], below_box2 w _ _⟩

set_option maxHeartbeats 2000000 in
theorem plstep_tells (d : Nat) : TellsS 47 d := by
  intro d' s t w hs ht
  have k2 := hid (fun wx (hb : Below w.heap.size w wx) => sameargs_of d (plsarg_tells d) d' s.ra s.rn s.rc t.ra t.rn t.rc s.qs t.qs wx (hs.row.below hb) hs.len hs.le hs.few (ht.row.below hb) ht.len ht.le ht.few)
  have HS : Hid (sameS d s t = (decide (s.c = t.c) && sameQ (sameB d) s.qs t.qs)) := hid rfl
  rw [HS.out]
  clear hs ht HS
  generalize sameQ (sameB d) s.qs t.qs = R at *
  obtain ⟨sc, sa, sn, sm, sq⟩ := s
  obtain ⟨tc, ta, tn, tm, tq⟩ := t
  dsimp only at *
  by_cases h1 : sc = tc
  · subst h1
    go_enter Try.func47, Try.ntmps47
    go_wp2_with fail
    refine (k2.out _ (below_box2 w _ _)).mono ?_
    rintro e w2 ⟨rfl, hb2⟩
    go_wp2_with fail
    go_ret
    exact ⟨by simp, (below_box2 w _ _).trans (hb2.mono (below_box2 w _ _).size)⟩
  · go_enter Try.func47, Try.ntmps47
    go_wp2_with fail
    go_ret
    exact ⟨by simp [h1], below_box2 w _ _⟩

set_option maxHeartbeats 8000000 in
theorem peqf_any (K : Nat) (hgo : ∀ (args : Array Value) (w : World), (callFunc K args).run Try.prog w = .ok (.enter K args) w) (d : Nat) (hf : TellsS K d) (d' : Nat) (ra : Option Addr) (rn rc : Nat) (sa : Option Addr) (sn sc : Nat) (qs rs : List Stp) (w : World) (h1 : Pgm d w ra qs) (hl1 : qs.length = rn) (hc1 : rn ≤ rc) (hb1 : rc ≤ 9223372036854775807) (h2 : Pgm d' w sa rs) (hl2 : rs.length = sn) (hc2 : sn ≤ sc) (hb2 : sc ≤ 9223372036854775807) :
    Calls Try.prog 44 #[.slice ra rn rc, .slice sa sn sc, .func (.func K) #[] #[]] w fun e w' => e = .returned (.bool (sameP d qs rs)) ∧ Below w.heap.size w w' := by
  have H1 := hid h1
  have H2 := hid h2
  have HL1 := hid hl1
  have HL2 := hid hl2
  have HF := hid hf
  clear h1 h2 hf
  by_cases hne : rn = sn
  · subst hne
    go_enter Try.func44, Try.ntmps44
    go_wp2_with fail
    go_loopw [17] (fun k wr => ∃ i : Nat, i ≤ rn ∧ k = .int .i64 i ∧ Hid (sameP d qs rs = sameP d (qs.drop i) (rs.drop i)) ∧ Hid (Below w.heap.size w wr)) (fun k _ => rn - (intOf k).toNat)
    case atStart => exact ⟨0, Nat.zero_le _, rfl, hid rfl, hid (Below.refl _ _)⟩
    case round =>
      obtain ⟨i, hi, rfl, HD, HB⟩ := hrel
      by_cases hlt : i < rn
      · have hi1 : i < qs.length := by rw [HL1.out]; exact hlt
        have hi2 : i < rs.length := by rw [HL2.out]; exact hlt
        obtain ⟨b, o, rfl, hbl, hcs⟩ := (H1.out.below HB.out) (by omega)
        obtain ⟨b2, o2, rfl, hbl2, hcs2⟩ := (H2.out.below HB.out) (by omega)
        obtain ⟨x0, x1, okx⟩ := hcs i hi1
        obtain ⟨z0, z1, okz⟩ := hcs2 i hi2
        have hsz := HB.out.size
        have bt : ∀ o1 o2, Below wr.heap.size wr ((wr.alloc o1).alloc o2) := fun o1 o2 => below_box2 wr o1 o2
        have k1 := hid (fun o1 o2 => HF.out d' qs[i] rs[i] ((wr.alloc o1).alloc o2) (okx.below (bt o1 o2)) (okz.below (bt o1 o2)))
        have HDr := hid (sameP_drop d qs rs i hi1 hi2)
        have hb3' : b2 < wr.heap.size + 1 := by omega
        generalize sameS d qs[i] rs[i] = r at *
        generalize qs[i] = sA at *
        generalize rs[i] = tA at *
        have BT := hid bt
        clear hcs hcs2 bt hi1 hi2 okx okz
        go_wp2_with fail
        refine (k1.out _ _).mono ?_
        rintro e w1 ⟨rfl, hb⟩
        have HB2 := hid (HB.out.trans (((BT.out _ _).trans (hb.mono (BT.out _ _).size)).mono HB.out.size))
        clear hb
        cases r with
        | false =>
          go_wp2_with fail
          go_ret
          refine ⟨?_, HB2.out⟩
          rw [HD.out, HDr.out]
          rfl
        | true =>
          go_wp2_with fail
          go_roundw
          case rel => exact ⟨i + 1, by omega, by go_num, hid (by rw [HD.out, HDr.out]; rfl), HB2⟩
          case measure => simp [intOf]; omega
      · obtain rfl : i = rn := by omega
        go_wp2_with fail
        go_ret
        refine ⟨?_, HB.out⟩
        rw [HD.out, sameP_end _ _ _ _ (by rw [HL1.out]; exact Nat.le_refl _) (by rw [HL2.out]; exact Nat.le_refl _)]
        rfl
  · have hnz : ¬ (rn : Int) = (sn : Int) := by omega
    have hq := sameP_ne d qs rs (by omega)
    go_enter Try.func44, Try.ntmps44
    go_wp2_with fail
    go_ret
    exact ⟨by rw [hq]; rfl, Below.refl _ _⟩

theorem pstep_go (args : Array Value) (w : World) : (callFunc 45 args).run Try.prog w = .ok (.enter 45 args) w := by kernel_rfl
theorem plstep_go (args : Array Value) (w : World) : (callFunc 47 args).run Try.prog w = .ok (.enter 47 args) w := by kernel_rfl

theorem psame_any (d d' : Nat) (ra : Option Addr) (rn rc : Nat) (sa : Option Addr) (sn sc : Nat) (qs rs : List Stp) (w : World) (h1 : Pgm d w ra qs) (hl1 : qs.length = rn) (hc1 : rn ≤ rc) (hb1 : rc ≤ 9223372036854775807) (h2 : Pgm d' w sa rs) (hl2 : rs.length = sn) (hc2 : sn ≤ sc) (hb2 : sc ≤ 9223372036854775807) :
    Calls Try.prog 16 #[.slice ra rn rc, .slice sa sn sc] w fun e w' => e = .returned (.bool (sameP d qs rs)) ∧ Below w.heap.size w w' := by
  have k1 := hid (peqf_any 45 pstep_go d (pstep_tells d) d' ra rn rc sa sn sc qs rs w h1 hl1 hc1 hb1 h2 hl2 hc2 hb2)
  clear h1 h2
  generalize sameP d qs rs = R at *
  go_enter Try.func16, Try.ntmps16
  go_wp2_with fail
  refine k1.out.mono ?_
  rintro e w1 ⟨rfl, hb⟩
  go_wp2_with fail
  go_ret
  exact ⟨rfl, hb⟩
theorem plsame_any (d d' : Nat) (ra : Option Addr) (rn rc : Nat) (sa : Option Addr) (sn sc : Nat) (qs rs : List Stp) (w : World) (h1 : Pgm d w ra qs) (hl1 : qs.length = rn) (hc1 : rn ≤ rc) (hb1 : rc ≤ 9223372036854775807) (h2 : Pgm d' w sa rs) (hl2 : rs.length = sn) (hc2 : sn ≤ sc) (hb2 : sc ≤ 9223372036854775807) :
    Calls Try.prog 18 #[.slice ra rn rc, .slice sa sn sc] w fun e w' => e = .returned (.bool (sameP d qs rs)) ∧ Below w.heap.size w w' := by
  have k1 := hid (peqf_any 47 plstep_go d (plstep_tells d) d' ra rn rc sa sn sc qs rs w h1 hl1 hc1 hb1 h2 hl2 hc2 hb2)
  clear h1 h2
  generalize sameP d qs rs = R at *
  go_enter Try.func18, Try.ntmps18
  go_wp2_with fail
  refine k1.out.mono ?_
  rintro e w1 ⟨rfl, hb⟩
  go_wp2_with fail
  go_ret
  exact ⟨rfl, hb⟩

end Go.Proofs.Ytkgejeamcgodhaa
