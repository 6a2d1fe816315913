/- The journal, merged. -/
import Derived.Test.YtkmnhpnlkmiiiaaGreatDoorDCopied2
import Derived.Test.YtkmnhpnlkmiiiaaGreatDoorDImg
import Derived.Test.YtkmnhpnlkmiiiaaGreatDoorDSettle
import Derived.Test.YtkmnhpnlkmiiiaaGreatDoorJMg1
import Derived.Laws.AppendOwnNone

/- What disk.Copy does: another disk with the same, in memory of its own. -/
namespace Go.Proofs.YtkmnhpnlkmiiiaaGreatDoor
open Go.RowKit
set_option linter.unusedVariables false

/-- What Copy leaves. -/
def Copied (w : World) (d : Dk) (r : Ending) (w' : World) : Prop :=
  ∃ q d2, r = .returned (.pointer (some ⟨q, 0, none⟩)) ∧ Dk.ok d2 w' q ∧ d2.n = d.n ∧ d2.dur = d.dur ∧ d2.wr = d.wr ∧ d2.ab = d.ab ∧ d2.opn = d.opn ∧ (∀ x ∈ d2.foot q, w.heap.size ≤ x) ∧ Below w.heap.size w w'

theorem copied_fin {d : Dk} {w w1 w2 w3 : World} {p g1 c1 g2 c2 : Nat} {E : List Ep} (hok : d.ok w p) (hb1 : Below w.heap.size w w1) (ho1 : w1.ownsRow w.heap.size 5 1 (.slice (some ⟨g1, 0, none⟩) (d.n * 128) c1) (d.n * 128) (d.dur.map (Value.int .u8)))
    (hb2 : Below w1.heap.size w1 w2) (ho2 : w2.ownsRow w1.heap.size 5 1 (.slice (some ⟨g2, 0, none⟩) (d.n * 128) c2) (d.n * 128) (d.wr.map (Value.int .u8))) (hP : Part w2 w3 w2.heap.size d.eps.length d.n d.eps.length d.eps E) :
    Copied w d (.returned (.pointer (some ⟨w3.heap.size, 0, none⟩))) (w3.alloc (.cells #[.slice (some ⟨g1, 0, none⟩) (d.n * 128) c1, .slice (some ⟨g2, 0, none⟩) (d.n * 128) c2, .slice (some ⟨w2.heap.size, 0, none⟩) d.eps.length d.eps.length, .bool d.opn] 64)) := by
  have hbw2 : Below w.heap.size w w2 := hb1.trans (hb2.mono hb1.size)
  have hb3 := hP.below
  have ha : Below w3.heap.size w3 (w3.alloc (.cells #[.slice (some ⟨g1, 0, none⟩) (d.n * 128) c1, .slice (some ⟨g2, 0, none⟩) (d.n * 128) c2, .slice (some ⟨w2.heap.size, 0, none⟩) d.eps.length d.eps.length, .bool d.opn] 64)) := (Below.refl _ _).alloc (Nat.le_refl _) _
  have l1 := ho1.lt g1 rfl
  have l2 := ho2.lt g2 rfl
  have s1 := hb1.size
  have s2 := hb2.size
  have s3 := hb3.size
  have l3 := hP.lt
  have hlen := hP.len
  have hrow := hP.row
  rw [Nat.sub_self, List.replicate_zero, List.append_nil] at hrow
  have hfoot : (⟨d.n, g1, c1, g2, c2, d.dur, d.wr, .slice (some ⟨w2.heap.size, 0, none⟩) d.eps.length d.eps.length, E, d.opn⟩ : Dk).foot w3.heap.size = w3.heap.size :: g1 :: g2 :: w2.heap.size :: E.flatMap Ep.foot := by
    simp [Dk.foot, vb, Value.ownBlock]
  have hnew := hP.new
  refine ⟨w3.heap.size, ⟨d.n, g1, c1, g2, c2, d.dur, d.wr, .slice (some ⟨w2.heap.size, 0, none⟩) d.eps.length d.eps.length, E, d.opn⟩, rfl, ⟨heap_alloc_new w3 _, ?_, ?_, ?_, fun e he => ?_, ?_, hok.n1, hok.n2, fun h => ?_⟩, rfl, rfl, rfl, ?_, rfl, ?_, ?_⟩
  · exact own_base (own_below (own_below (own_below ho1 hb2) hb3) ha) (Nat.zero_le _)
  · exact own_base (own_below (own_below ho2 hb3) ha) (Nat.zero_le _)
  · rw [show (⟨d.n, g1, c1, g2, c2, d.dur, d.wr, .slice (some ⟨w2.heap.size, 0, none⟩) d.eps.length d.eps.length, E, d.opn⟩ : Dk).eps.length = d.eps.length from hlen]
    exact own_below hrow ha
  · exact (hP.ok e he).frame fun x hx => ha.block x ((hP.ok e he).lt x hx)
  · rw [hfoot]
    have hE : ∀ x ∈ E.flatMap Ep.foot, w2.heap.size ≤ x ∧ x < w3.heap.size := fun x hx => ⟨hnew x hx, l3 x (List.mem_cons_of_mem _ hx)⟩
    have hg0 := l3 w2.heap.size (by simp)
    simp only [List.nodup_cons, List.mem_cons, not_or]
    refine ⟨⟨by omega, by omega, by omega, fun hx => ?_⟩, ⟨by omega, by omega, fun hx => ?_⟩, ⟨by omega, fun hx => ?_⟩, List.nodup_cons.1 hP.nodup⟩
    · have := hE _ hx; omega
    · have := hE _ hx; omega
    · have := hE _ hx; omega
  · have h1 := hok.last h
    intro h2
    apply h1
    have h3 : E.length = 0 := by rw [show E = [] from h2]; rfl
    exact List.eq_nil_of_length_eq_zero (by omega)
  · have h5 := hP.ab
    rw [List.take_length] at h5
    exact h5
  · intro x hx
    rw [hfoot] at hx
    simp only [List.mem_cons] at hx
    rcases hx with rfl | rfl | rfl | rfl | hx
    · omega
    · exact l1.1
    · omega
    · omega
    · have := hnew x hx; omega
  · exact (hbw2.trans (hb3.mono (by omega))).trans (ha.mono (by omega))

set_option maxHeartbeats 2000000 in
set_option maxRecDepth 20000 in
theorem copy_any (d : Dk) (p : Nat) (w : World) (hok : d.ok w p) (hsz : d.eps.length ≤ 5000000000000) : Calls Tryz.prog 32 #[.pointer (some ⟨p, 0, none⟩)] w (Copied w d) := by
  have k1 := hid (dusable d p w hok)
  obtain ⟨ae, ce, hve, hce1, hce2⟩ := own_shape hok.row
  obtain ⟨c0, c1, c2, c3⟩ := hok.cell
  rw [hve] at c2
  have hn2 := hok.n2
  have kd : Hid (Calls Tryz.prog 41 #[.slice (some ⟨d.gd, 0, none⟩) (d.n * 128) d.cd] w.drew fun e w' => ∃ g c, e = .returned (.slice (some ⟨g, 0, none⟩) (d.n * 128) c) ∧ w'.ownsRow w.heap.size 5 1 (.slice (some ⟨g, 0, none⟩) (d.n * 128) c) (d.n * 128) (d.dur.map (Value.int .u8)) ∧ Below w.heap.size w w') := by
    refine (sclone_any ⟨d.gd, 0, none⟩ (d.n * 128) d.cd d.dur w.drew (Src.own (w := w.drew) (hok.frame (w' := w.drew) fun _ _ => rfl).dur) (by omega)).mono ?_
    rintro e w' ⟨g, c, h1, h2, h3⟩
    exact ⟨g, c, h1, h2, ⟨h3.os, h3.tape, h3.output, h3.size, h3.block⟩⟩
  have kw : Hid (∀ wx, Below w.heap.size w wx → Calls Tryz.prog 41 #[.slice (some ⟨d.gw, 0, none⟩) (d.n * 128) d.cw] wx fun e w' => ∃ g c, e = .returned (.slice (some ⟨g, 0, none⟩) (d.n * 128) c) ∧ w'.ownsRow wx.heap.size 5 1 (.slice (some ⟨g, 0, none⟩) (d.n * 128) c) (d.n * 128) (d.wr.map (Value.int .u8)) ∧ Below wx.heap.size wx w') := fun wx hb =>
    sclone_any ⟨d.gw, 0, none⟩ (d.n * 128) d.cw d.wr wx (Src.own (hok.frame fun k hk => hb.block k (hok.lt k hk)).wr) (by omega)
  have ke : Hid (∀ wx, Below w.heap.size w wx → Calls Tryz.prog 53 #[.slice ae d.eps.length ce] wx fun r w' => ∃ E, r = .returned (.slice (some ⟨wx.heap.size, 0, none⟩) d.eps.length d.eps.length) ∧ Part wx w' wx.heap.size d.eps.length d.n d.eps.length d.eps E) := fun wx hb => by
    have hx := hok.frame (w' := wx) fun k hk => hb.block k (hok.lt k hk)
    have h := copied_any d.ve d.eps d.n wx hx.row hx.eps hn2 hsz
    rw [hve] at h
    exact h
  have HK := hid hok
  have hplt := hok.lt p (by simp [Dk.foot])
  have mk1 : Hid (0 = 0) := rfl
  clear hok hve
  obtain ⟨m, hm⟩ : ∃ m, m = d.eps.length := ⟨_, rfl⟩
  rw [← hm] at c2 ke hce1 hsz
  have HM := hid hm
  clear hm
  go_enter Tryz.func32, Tryz.ntmps32
  go_wp2_with fail
  refine k1.out.mono ?_
  rintro r w1 ⟨rfl, h⟩
  subst w1
  go_wp2_with fail
  go_region_held3 (fun wx => wx.cell? ⟨p, 0, none⟩ = some (.slice (some ⟨d.gd, 0, none⟩) (d.n * 128) d.cd) ∧ wx.cell? ⟨p, 1, none⟩ = some (.slice (some ⟨d.gw, 0, none⟩) (d.n * 128) d.cw) ∧ wx.cell? ⟨p, 2, none⟩ = some (.slice ae m ce) ∧ wx.cell? ⟨p, 3, none⟩ = some (.bool d.opn)) (go_keep) (first | (go_at_call 41; clear mk1; refine kd.out.mono ?_; rintro r w1 ⟨g1, e1, rfl, ho1, hb1⟩; have HO1 := hid ho1; have a0 : w1.cell? ⟨p, 0, none⟩ = some (.slice (some ⟨d.gd, 0, none⟩) (d.n * 128) d.cd) := (hb1.cell (p := ⟨p, 0, none⟩) hplt).trans c0; have a1 : w1.cell? ⟨p, 1, none⟩ = some (.slice (some ⟨d.gw, 0, none⟩) (d.n * 128) d.cw) := (hb1.cell (p := ⟨p, 1, none⟩) hplt).trans c1; have a2 : w1.cell? ⟨p, 2, none⟩ = some (.slice ae m ce) := (hb1.cell (p := ⟨p, 2, none⟩) hplt).trans c2; have a3 : w1.cell? ⟨p, 3, none⟩ = some (.bool d.opn) := (hb1.cell (p := ⟨p, 3, none⟩) hplt).trans c3; have HB1 := hid hb1; clear ho1 hb1) | (go_at_call 41; refine (kw.out _ HB1.out).mono ?_; rintro r w2 ⟨g2, e2, rfl, ho2, hb2⟩; have HO2 := hid ho2; have HBW2 := hid (HB1.out.trans (hb2.mono HB1.out.size)); have i0 : w2.cell? ⟨p, 0, none⟩ = some (.slice (some ⟨d.gd, 0, none⟩) (d.n * 128) d.cd) := (HBW2.out.cell (p := ⟨p, 0, none⟩) hplt).trans c0; have i1 : w2.cell? ⟨p, 1, none⟩ = some (.slice (some ⟨d.gw, 0, none⟩) (d.n * 128) d.cw) := (HBW2.out.cell (p := ⟨p, 1, none⟩) hplt).trans c1; have i2 : w2.cell? ⟨p, 2, none⟩ = some (.slice ae m ce) := (HBW2.out.cell (p := ⟨p, 2, none⟩) hplt).trans c2; have i3 : w2.cell? ⟨p, 3, none⟩ = some (.bool d.opn) := (HBW2.out.cell (p := ⟨p, 3, none⟩) hplt).trans c3; have HB2 := hid hb2; clear ho2 hb2) | (go_at_call 53; refine (ke.out _ HBW2.out).mono ?_; rintro r w3 ⟨E, rfl, hP⟩; have HP := hid hP; have HBW3 := hid (HBW2.out.trans (hP.below.mono HBW2.out.size)); have j0 : w3.cell? ⟨p, 0, none⟩ = some (.slice (some ⟨d.gd, 0, none⟩) (d.n * 128) d.cd) := (HBW3.out.cell (p := ⟨p, 0, none⟩) hplt).trans c0; have j1 : w3.cell? ⟨p, 1, none⟩ = some (.slice (some ⟨d.gw, 0, none⟩) (d.n * 128) d.cw) := (HBW3.out.cell (p := ⟨p, 1, none⟩) hplt).trans c1; have j2 : w3.cell? ⟨p, 2, none⟩ = some (.slice ae m ce) := (HBW3.out.cell (p := ⟨p, 2, none⟩) hplt).trans c2; have j3 : w3.cell? ⟨p, 3, none⟩ = some (.bool d.opn) := (HBW3.out.cell (p := ⟨p, 3, none⟩) hplt).trans c3; clear hP))
  go_wp2_with fail
  go_ret
  have hp := HP.out
  rw [HM.out] at hp ⊢
  exact copied_fin HK.out HB1.out HO1.out HB2.out HO2.out hp

end Go.Proofs.YtkmnhpnlkmiiiaaGreatDoor

/- What disk.Of does with any image. -/
namespace Go.Proofs.YtkmnhpnlkmiiiaaGreatDoor
open Go.RowKit
set_option linter.unusedVariables false

/-- An image that is one of a disk. -/
def Gi (L : List (List Int)) : Prop := 1 ≤ L.length ∧ L.length ≤ 2048 ∧ ∀ l ∈ L, l.length = 128

def OfP (w : World) (L : List (List Int)) (e : Ending) (w' : World) : Prop :=
  (¬ Gi L ∧ e = .returned (.tuple #[.pointer none, .int .i64 1]) ∧ Below w.heap.size w w') ∨
  (Gi L ∧ ∃ (p : Nat) (d : Dk), e = .returned (.tuple #[.pointer (some ⟨p, 0, none⟩), .int .i64 0]) ∧ d.ok w' p ∧ d.n = L.length ∧ d.dur = L.flatten ∧ d.wr = d.dur ∧ d.eps = [] ∧ d.opn = false ∧ (∀ x ∈ d.foot p, w.heap.size ≤ x) ∧ Below w.heap.size w w')

theorem flat_len (L : List (List Int)) (h : ∀ l ∈ L, l.length = 128) : L.flatten.length = L.length * 128 := by
  induction L with
  | nil => rfl
  | cons a L ih => rw [List.flatten_cons, List.length_append, ih (fun l hl => h l (List.mem_cons_of_mem _ hl)), h a (List.mem_cons_self ..), List.length_cons]; omega

set_option maxHeartbeats 2000000 in
set_option maxRecDepth 20000 in
theorem dof_any (al : Option Addr) (n cl : Nat) (L : List (List Int)) (w : World) (hi : Img w al L) (hn : L.length = n) (hc : n ≤ cl) (hc2 : cl ≤ 9223372036854775807) : Calls Tryz.prog 16 #[.slice al n cl] w (OfP w L) := by
  obtain ⟨i5, hi5, hy0, hy1, hy2⟩ := info_parts Tryz.pinfo5
  by_cases hb : n < 1 ∨ 2048 < n
  · have hng : ¬ Gi L := fun h => by have h1 := h.1; have h2 := h.2.1; omega
    have HNG := hid hng
    clear hi hn hng
    by_cases h1 : n < 1
    · have h1' : (n : Int) < 1 := by omega
      clear hb h1
      go_enter Tryz.func16, Tryz.ntmps16
      go_wp2_with fail
      go_ret2
      exact .inl ⟨HNG.out, rfl, Below.refl _ _⟩
    · have h1' : ¬ (n : Int) < 1 := by omega
      have h2' : (2048 : Int) < (n : Int) := by omega
      clear hb h1
      go_enter Tryz.func16, Tryz.ntmps16
      go_wp2_with fail
      go_ret2
      exact .inl ⟨HNG.out, rfl, Below.refl _ _⟩
  · have hn1 : 1 ≤ n := by omega
    have hn2 : n ≤ 2048 := by omega
    have h1' : ¬ (n : Int) < 1 := by omega
    have h2' : ¬ (2048 : Int) < (n : Int) := by omega
    have HI := hid hi
    have HN := hid hn
    have hmul : wrap64 ((n : Int) * 128) = ((n * 128 : Nat) : Int) := by unfold wrap64; omega
    obtain ⟨N8, gN8⟩ : ∃ N8, N8 = n * 128 := ⟨_, rfl⟩
    have hN8 : N8 ≤ 262144 := by omega
    rw [← gN8] at hmul
    have HMUL := hid hmul
    have GN8 := hid gN8
    have hmx : N8 ≤ maxLen := by unfold maxLen; omega
    have hby : i5.bytes * N8 ≤ 281474976710656 := by rw [hy2]; omega
    clear hi hn hb hmul gN8
    go_enter Tryz.func16, Tryz.ntmps16
    go_wp2_with (at_make; go_must (refine wpList_make_lc _ rfl _ _ 29 rfl 5 i5 (.int .u8 0) 1 Tryz.underlying29 hi5 hy0 hy1 _ _ _ _ 0 N8 rfl rfl rfl (by first | rfl | (have := GN8.out; omega)) (Nat.zero_le _) hby hmx ?_))
    have hw0 : (w.alloc (.cells (madeCells #[Value.int .u8 0] N8) 5)).ownsRow 0 5 1 (.slice (some ⟨w.heap.size, 0, none⟩) 0 N8) 0 [] := by
      refine ⟨rfl, .inr ⟨w.heap.size, N8, _, rfl, Nat.zero_le _, heap_alloc_new w _, Nat.zero_le _, hmx, by simp [size_madeCells], by simp⟩⟩
    have HW0 := hid hw0
    have HB0 : Hid (Below w.heap.size w (w.alloc (.cells (madeCells #[Value.int .u8 0] N8) 5))) := hid ((Below.refl _ _).alloc (Nat.le_refl _) _)
    clear hw0
    go_wp2_with fail
    go_loopw [4, 21] (fun v k wr => ∃ i : Nat, k = .int .i64 i ∧ i ≤ n ∧ Hid (wr.ownsRow 0 5 1 v (i * 128) ((L.take i).flatten.map (Value.int .u8))) ∧ Hid (∀ x, v.ownBlock = some x → w.heap.size ≤ x) ∧ Hid (∀ l ∈ L.take i, l.length = 128) ∧ Hid (v ≠ .slice none 0 0) ∧ Hid (Below w.heap.size w wr)) (fun _ k _ => n - (intOf k).toNat)
    case atStart => exact ⟨0, rfl, Nat.zero_le _, hid (by simpa using HW0.out), hid (fun x hx => by simp [Value.ownBlock] at hx; omega), hid (fun l hl => by simp at hl), hid (by simp), HB0⟩
    case round =>
      obtain ⟨i, rfl, hi, HO, HV, HA, HNN, HB⟩ := hrel
      obtain ⟨v, gv⟩ : ∃ v, v = u4 := ⟨_, rfl⟩
      rw [← gv] at HO HV HNN ⊢
      clear gv
      obtain ⟨av, cv, ev, hv1, hv2⟩ := own_shape HO.out
      subst ev
      obtain ⟨g, rfl⟩ : ∃ g, av = some ⟨g, 0, none⟩ := by
        rcases HO.out.2 with ⟨h, _⟩ | ⟨g, c, cur, h, _⟩
        · exact absurd h HNN.out
        · injection h with h1 h2 h3; exact ⟨g, h1⟩
      obtain ⟨m8, gm8⟩ : ∃ m8, m8 = i * 128 := ⟨_, rfl⟩
      rw [← gm8] at HO HV HNN hv1 ⊢
      have hm8 : m8 ≤ 262144 := by omega
      have GM8 := hid gm8
      clear gm8
      by_cases hlt : i < n
      · have hil : i < L.length := by rw [HN.out]; exact hlt
        obtain ⟨b, o, e, hbl, hcc⟩ := HI.out (by omega)
        subst e
        obtain ⟨u, hu, a, c, e0, hs, _, hca, hcb, hnn, _⟩ := hcc i hil
        subst e0
        have hu' := (HB.out.cell (p := ⟨b, o + i, none⟩) hbl).trans hu
        have htk : L.take (i + 1) = L.take i ++ [L[i]] := by rw [List.take_add_one, List.getElem?_eq_getElem hil]; rfl
        by_cases h128 : L[i].length = 128
        · obtain ⟨ad, rfl⟩ : ∃ ad, a = some ad := by
            cases a with
            | none => have := (hnn rfl).1; omega
            | some ad => exact ⟨ad, rfl⟩
          rw [h128] at hu' hs
          obtain ⟨X, gX⟩ : ∃ X, X = L[i] := ⟨_, rfl⟩
          rw [← gX] at hs htk h128
          have HS := hid (hs.below HB.out)
          have HTK := hid htk
          have H128 := hid h128
          clear hcc hu hs htk gX h128 hnn hca
          go_wp2_with (at_builtin; go_must (refine wpList_append_where rfl _ _ 29 rfl 5 i5 _ 1 1 Tryz.underlying29 hi5 hy0 hy1 hy2 rfl (by decide) (.slice (some ⟨g, 0, none⟩) m8 cv) m8 _ rfl HO.out ad 128 c (X.map (Value.int .u8)) rfl (by simp [H128.out]) (src_cells HS.out) (u8_one _) (by unfold maxLen; omega) (by omega) ?_))
          intro v' w3 hO3 hU3 hN3 hW3
          have hb3 : Below w.heap.size w w3 := HB.out.trans (hU3.below HB.out.size (fun x hx => HV.out x hx))
          have HO3 : Hid (w3.ownsRow 0 5 1 v' ((i + 1) * 128) ((L.take (i + 1)).flatten.map (Value.int .u8))) := hid (by
            have h1 := hO3.out
            rw [HTK.out, List.flatten_append, List.map_append, show (i + 1) * 128 = m8 + 128 by have := GM8.out; omega]
            simpa using h1)
          have HV3 : Hid (∀ x, v'.ownBlock = some x → w.heap.size ≤ x) := hid (fun x hx => by
            rcases hW3.out with h' | h'
            · exact HV.out x (h' ▸ hx)
            · exact Nat.le_trans HB.out.size (h' x hx))
          have HA3 : Hid (∀ l ∈ L.take (i + 1), l.length = 128) := hid (fun l hl => by
            rw [HTK.out] at hl
            rcases List.mem_append.1 hl with h | h
            · exact HA.out l h
            · simp at h; rw [h]; exact H128.out)
          have HN3 : Hid (v' ≠ .slice none 0 0) := hid (fun h => hN3.out h)
          have HB3 := hid hb3
          clear hb3 hU3
          go_wp2_with fail
          go_roundw
          case rel => exact ⟨i + 1, by go_num, by omega, HO3, HV3, HA3, HN3, HB3⟩
          case measure => simp [intOf]; omega
        · have hng : ¬ Gi L := fun h => h128 (h.2.2 _ (List.getElem_mem hil))
          have HNG := hid hng
          obtain ⟨lX, glX⟩ : ∃ lX, lX = L[i].length := ⟨_, rfl⟩
          rw [← glX] at hu' h128
          have h128' : ¬ (lX : Int) = 128 := by omega
          clear hcc hu hs htk glX hng hnn hca
          go_wp2_with fail
          go_ret2
          exact .inl ⟨HNG.out, rfl, HB.out⟩
      · obtain rfl : i = n := by omega
        have htk : L.take i = L := List.take_of_length_le (by rw [HN.out]; exact Nat.le_refl _)
        have ho := HO.out
        have ha := HA.out
        rw [htk] at ho ha
        have ko := hid (of_any ⟨g, 0, none⟩ m8 cv L.flatten wr (Src.own ho) (by omega))
        have hgi : Gi L := ⟨by rw [HN.out]; exact hn1, by rw [HN.out]; exact hn2, ha⟩
        have HGI := hid hgi
        have HO2 := hid ho
        clear ho ha htk hgi
        go_wp2_with fail
        refine ko.out.mono ?_
        rintro e w4 ⟨p, g4, c4, rfl, hp, ho4, hpl, hg4, hb4⟩
        have l1 := HV.out g rfl
        have l2 := (HO2.out.lt g rfl).2
        have l4 := ho4.lt g4 rfl
        have hfin : OfP w L (.returned (.tuple #[.pointer (some ⟨p, 0, none⟩), .int .i64 0])) w4 := by
          have hgi := HGI.out
          have hm : m8 = L.length * 128 := by rw [GM8.out, HN.out]
          refine .inr ⟨hgi, p, ⟨L.length, g, cv, g4, c4, L.flatten, L.flatten, .slice none 0 0, [], false⟩, rfl, ⟨by rw [← hm]; exact hp, by rw [← hm]; exact own_below HO2.out hb4, by rw [← hm]; exact own_base ho4 (Nat.zero_le _), World.ownsRow_nil _ _ _ _, fun e he => by simp at he, ?_, hgi.1, hgi.2.1, fun h => by simp at h⟩, rfl, rfl, rfl, rfl, rfl, ?_, HB.out.trans (hb4.mono HB.out.size)⟩
          · simp [Dk.foot, vb, Value.ownBlock]
            omega
          · intro x hx
            have := HB.out.size
            simp [Dk.foot, vb, Value.ownBlock] at hx
            omega
        have HFIN := hid hfin
        clear hfin hp ho4 hb4
        go_wp2_with fail
        go_ret2
        exact HFIN.out

end Go.Proofs.YtkmnhpnlkmiiiaaGreatDoor

/- What disk.Crash does without sectors of a further epoch: the first epochs are durable, all else is lost. -/
namespace Go.Proofs.YtkmnhpnlkmiiiaaGreatDoor
open Go.RowKit
set_option linter.unusedVariables false

theorem Tryz.info4 : (Tryz.prog.info? 4).map (fun i => (i.zero, i.size, i.bytes)) = some (some (.bool false), 1, 1) := by kernel_rfl

set_option maxHeartbeats 1000000 in
set_option maxRecDepth 20000 in
theorem choose_none (e : Ep) (N : Nat) (w : World) (he : e.ok w N) (hN : N ≤ 2048) (ae : Option Addr) (c : Nat) (hv : e.v = .slice ae e.es.length c) (hc1 : e.es.length ≤ c) (hc2 : c ≤ 9223372036854775807) :
    Calls Tryz.prog 38 #[.slice ae e.es.length c, .slice none 0 0] w fun r w' => r = .returned (.tuple #[.slice none 0 0, .bool true]) ∧ Below w.heap.size w w' := by
  obtain ⟨i0, hi0, hz0, hz1, hz2⟩ := info_parts Tryz.info4
  have hel := rise_len he.rise
  have hrow := he.row
  rw [hv] at hrow
  have HS := hid (sents_of hrow rfl)
  have HE := hid he
  clear hrow he hv
  have hmx : e.es.length ≤ maxLen := by unfold maxLen; omega
  have hby : i0.bytes * e.es.length ≤ 281474976710656 := by rw [hz2]; omega
  obtain ⟨n, hn⟩ : ∃ n, n = e.es.length := ⟨_, rfl⟩
  rw [← hn] at hel hc1 hmx hby HS ⊢
  have HN := hid hn
  clear hn
  go_enter Tryz.func38, Tryz.ntmps38
  go_wp2_with (at_make; go_must (refine wpList_make_lc _ rfl _ _ 104 rfl 4 i0 (.bool false) 1 Tryz.underlying104 hi0 hz0 hz1 _ _ _ _ n n rfl rfl rfl rfl (Nat.le_refl _) hby hmx ?_))
  obtain ⟨W1, gW1⟩ : ∃ W1, W1 = w.alloc (.cells (madeCells #[Value.bool false] n) 4) := ⟨_, rfl⟩
  have hb1 : Below w.heap.size w W1 := by rw [gW1]; exact (Below.refl _ _).alloc (Nat.le_refl _) _
  have hs1 : W1.heap.size = w.heap.size + 1 := by rw [gW1]; simp
  have hnm : ∀ j, j < n → W1.cell? ⟨w.heap.size, j, none⟩ = some (.bool false) := by
    intro j hj
    have h0 : W1.heap[w.heap.size]? = some (.cells (madeCells #[Value.bool false] n) 4 (0, 0)) := by rw [gW1]; exact heap_alloc_new w _
    rw [cell_of_row W1 _ j _ _ _ h0]
    simp [madeCells, hj, Nat.mod_one]
  have HNM := hid hnm
  rw [← gW1]
  clear gW1 hnm
  go_loop [19] (fun k => k = .int .i64 0) (fun _ => 0)
  case atStart => rfl
  case round =>
    subst hrel
    go_wp2_with fail
    go_loopw [11, 43] (fun a k wr => ∃ i : Nat, a = .slice none 0 0 ∧ k = .int .i64 i ∧ i ≤ n ∧ Below (w.heap.size + 1) W1 wr) (fun _ k _ => n - (intOf k).toNat)
    case atStart => exact ⟨0, rfl, rfl, Nat.zero_le _, Below.refl _ _⟩
    case round =>
      obtain ⟨i, rfl, rfl, hi, hbr⟩ := hrel
      by_cases hlt : i < n
      · have hbw : Below w.heap.size w wr := hb1.trans (hbr.mono (by omega))
        obtain ⟨b, o, rfl, hbl, hc⟩ := HS.out.below hbw (by omega)
        obtain ⟨c0, c1⟩ := hc i hlt
        have hie : i < e.es.length := by have := HN.out; omega
        rw [valAt_eq _ _ hie] at c1
        simp only [Snt.val] at c1
        have cn : wr.cell? ⟨w.heap.size, i, none⟩ = some (.bool false) := (hbr.cell (p := ⟨w.heap.size, i, none⟩) (by show w.heap.size < _; omega)).trans (HNM.out i hlt)
        have hwz := hbr.size
        have hcn : ∀ ob : Obj, (wr.alloc ob).cell? ⟨w.heap.size, i, none⟩ = some (.bool false) := fun ob => (World.cell?_of_block (a := ⟨w.heap.size, i, none⟩) (Below.heap_alloc wr ob w.heap.size (by omega))).trans cn
        clear hc cn
        go_wp2_with fail
        go_roundw
        case rel => exact ⟨i + 1, rfl, by go_num, by omega, hbr.alloc (by omega) _⟩
        case measure => simp [intOf]; omega
      · obtain rfl : i = n := by omega
        go_wp2_with fail
        go_ret2
        exact ⟨rfl, hb1.trans (hbr.mono (by omega))⟩

theorem tear_none (torn : Int) (w : World) : Calls Tryz.prog 40 #[.slice none 0 0, .int .i64 torn] w fun r w' => r = .returned (.slice none 0 0) ∧ w' = w := by
  go_enter Tryz.func40, Tryz.ntmps40
  go_wp2_with fail
  go_ret
  exact ⟨rfl, rfl⟩

theorem Settled.below {w w1 w' : World} {d : Dk} {p : Nat} {D : List Int} (h : Settled w1 d p D w') (hb : Below w.heap.size w w1) : Settled w d p D w' :=
  ⟨h.1, (Upd.of_below hb).trans h.2 (fun _ _ h => h)⟩

set_option maxHeartbeats 1000000 in
set_option maxRecDepth 20000 in
theorem crash_none (d : Dk) (p k : Nat) (w : World) (hok : d.ok w p) (hk : k ≤ d.eps.length) (hsz : d.eps.length ≤ 5000000000000) :
    Calls Tryz.prog 14 #[.pointer (some ⟨p, 0, none⟩), .int .i64 k, .slice none 0 0, .int .i64 0] w fun e w' => e = .returned (.int .i64 0) ∧ Settled w d p (landAll d.dur (d.ab.take k)) w' := by
  obtain ⟨ae, ce, hve, hce1, hce2⟩ := own_shape hok.row
  have k1 := hid (dusable d p w hok)
  have k2 : Hid (∀ wx, Below w.heap.size w wx → Calls Tryz.prog 39 #[.pointer (some ⟨p, 0, none⟩), .slice ae k ce, .slice none 0 0] wx fun e w' => e = .returned (.tuple #[]) ∧ Settled wx d p (landAll d.dur (d.ab.take k)) w') := fun wx hb =>
    settle_any d p k ce ae none 0 ce [] wx (hok.frame fun x hx => hb.block x (hok.lt x hx)) hve hk (by omega) hce2 ⟨Nat.le_refl _, by omega, fun h => by simp at h, fun s hs => by simp at hs⟩ (by simp)
  obtain ⟨c0, c1, c2, c3⟩ := hok.cell
  rw [hve] at c2
  have HK := hid hok
  have HVE := hid hve
  have hplt := hok.lt p (by simp [Dk.foot])
  clear hok hve c0 c1 c3
  rcases (show k = d.eps.length ∨ k < d.eps.length by omega) with hke | hlt
  · have kc := hid (choose_none ⟨.slice none 0 0, []⟩ d.n w ⟨World.ownsRow_nil _ _ _ _, fun s hs => by simp at hs, ⟨by simp, fun x hx => by simp at hx⟩⟩ HK.out.n2 none 0 rfl (by simp) (by omega))
    obtain ⟨m, hm⟩ : ∃ m, m = d.eps.length := ⟨_, rfl⟩
    rw [← hm] at c2 hke hsz hce1
    subst hke
    clear hm
    go_enter Tryz.func14, Tryz.ntmps14
    go_wp2_with fail
    refine k1.out.mono ?_
    rintro r w1 ⟨rfl, h⟩
    subst w1
    go_wp2_with fail
    refine kc.out.mono ?_
    rintro r w1 ⟨rfl, hb1⟩
    have d2 : w1.cell? ⟨p, 2, none⟩ = some (.slice ae k ce) := (hb1.cell (p := ⟨p, 2, none⟩) hplt).trans c2
    have b1 : (0 : Int) ≤ (k : Int) := by omega
    have b2 : (k : Int) ≤ (ce : Int) := by omega
    have hbd := hb1.drew
    have hae : (ae = none ∧ k = 0 ∧ ce = 0) ∨ ∃ ge, ae = some ⟨ge, 0, none⟩ := by
      rcases HK.out.row.2 with ⟨h, h2⟩ | ⟨g, c, cur, h, _⟩
      · rw [HVE.out] at h; injection h with h1 h3 h4; exact .inl ⟨h1, by omega, h4⟩
      · rw [HVE.out] at h; injection h with h1 h3 h4; exact .inr ⟨g, h1⟩
    go_wp2_with fail
    rcases hae with ⟨rfl, h0, h00⟩ | ⟨ge, rfl⟩
    · subst h00
      subst h0
      go_region_with (first | (go_at_call 40; refine (tear_none _ _).mono ?_; rintro r w4 ⟨rfl, h⟩; subst w4) | (go_at_call 39; refine (k2.out _ hbd).mono ?_; rintro r w5 ⟨rfl, hst⟩; have HST := hid hst; clear hst))
      all_goals
        go_wp2_with fail
        go_ret
        exact ⟨rfl, HST.out.below hbd⟩
    · go_region_with (first | (go_at_call 40; refine (tear_none _ _).mono ?_; rintro r w4 ⟨rfl, h⟩; subst w4) | (go_at_call 39; refine (k2.out _ hbd).mono ?_; rintro r w5 ⟨rfl, hst⟩; have HST := hid hst; clear hst))
      all_goals
        go_wp2_with fail
        go_ret
        exact ⟨rfl, HST.out.below hbd⟩
  · obtain ⟨e, he⟩ : ∃ e, e = d.eps[k] := ⟨_, rfl⟩
    have hem : e ∈ d.eps := by rw [he]; exact List.getElem_mem hlt
    have heok := HK.out.eps e hem
    obtain ⟨ae2, ce2, hev, hev1, hev2⟩ := own_shape heok.row
    have kc := hid (choose_none e d.n w heok HK.out.n2 ae2 ce2 hev hev1 hev2)
    obtain ⟨ge, rfl⟩ : ∃ ge, ae = some ⟨ge, 0, none⟩ := by
      rcases HK.out.row.2 with ⟨_, h⟩ | ⟨g, c, cur, h, _⟩
      · omega
      · rw [HVE.out] at h; injection h with h1 h2 h3; exact ⟨g, h1⟩
    have hc : w.cell? ⟨ge, k, none⟩ = some (.slice ae2 e.es.length ce2) := by
      have hrow := HK.out.row
      rw [HVE.out] at hrow
      rw [hrow.cellAt _ (by omega), ← hev, he]
      simp [hlt]
    obtain ⟨m, hm⟩ : ∃ m, m = d.eps.length := ⟨_, rfl⟩
    rw [← hm] at c2 hlt hsz hce1
    have HM := hid hm
    clear he hem heok hev hm
    go_enter Tryz.func14, Tryz.ntmps14
    go_wp2_with fail
    refine k1.out.mono ?_
    rintro r w1 ⟨rfl, h⟩
    subst w1
    go_wp2_with fail
    refine kc.out.mono ?_
    rintro r w1 ⟨rfl, hb1⟩
    have d2 : w1.cell? ⟨p, 2, none⟩ = some (.slice (some ⟨ge, 0, none⟩) m ce) := (hb1.cell (p := ⟨p, 2, none⟩) hplt).trans c2
    have b1 : (0 : Int) ≤ (k : Int) := by omega
    have b2 : (k : Int) ≤ (ce : Int) := by omega
    have hbd := hb1.drew
    clear hc
    go_wp2_with fail
    go_region_with (first | (go_at_call 40; refine (tear_none _ _).mono ?_; rintro r w4 ⟨rfl, h⟩; subst w4) | (go_at_call 39; refine (k2.out _ hbd).mono ?_; rintro r w5 ⟨rfl, hst⟩; have HST := hid hst; clear hst))
    all_goals
      go_wp2_with fail
      go_ret
      exact ⟨rfl, HST.out.below hbd⟩

end Go.Proofs.YtkmnhpnlkmiiiaaGreatDoor

/- What Compact does. -/
namespace Go.Proofs.YtkmnhpnlkmiiiaaGreatDoor
open Go.RowKit Num Jr
set_option linter.unusedVariables false
set_option maxRecDepth 20000

theorem jsize8 : (Tryz.prog.info? 59).map (·.size) = some 8 := by kernel_rfl

/-- A journal in a box of its own. -/
structure Jbox (w wx : World) (q : Nat) (cs : List Value) : Prop where
  box : wx.heap[q]? = some (.cells cs.toArray 59 (0, 0))
  new : w.heap.size ≤ q
  bel : Below w.heap.size w wx
theorem jbox_new {w w3 : World} (hb : Below w.heap.size w w3) (cs : List Value) : Jbox w (w3.alloc (.cells cs.toArray 59)) w3.heap.size cs := ⟨heap_alloc_new _ _, hb.size, hb.alloc hb.size _⟩
theorem jbox_old8 {w w3 : World} {q : Nat} {a b c d e f g h : Value} (hb : Below w.heap.size w w3) (hq : w3.heap[q]? = some (.cells ([.pointer none, .int .i64 0, .int .i64 0, .int .i64 0, .int .i64 0, .int .i64 0, .slice none 0 0, .int .i64 0] : List Value).toArray 59 (0, 0))) (hn : w.heap.size ≤ q) :
    Jbox w ((((((((w3.setCell ⟨q, 0, none⟩ a).setCell ⟨q, 1, none⟩ b).setCell ⟨q, 2, none⟩ c).setCell ⟨q, 3, none⟩ d).setCell ⟨q, 4, none⟩ e).setCell ⟨q, 5, none⟩ f).setCell ⟨q, 6, none⟩ g).setCell ⟨q, 7, none⟩ h) q [a, b, c, d, e, f, g, h] := by
  refine ⟨?_, hn, hb.trans ((upd_setCells q [a, b, c, d, e, f, g, h] 0 w3).below hb.size (by intro x hx; omega))⟩
  have := heap_setCells q 59 [a, b, c, d, e, f, g, h] 0 w3 _ hq (by simp)
  simp only [splice, List.take_zero, List.nil_append, List.length_cons, List.length_nil, Nat.zero_add, List.drop_succ_cons, List.drop_zero, List.append_nil] at this
  exact this

/-- What Compact leaves. -/
def CptP (d : Dk) (w : World) (jp p n : Nat) (S : Nat → List Int) (gen groups used : Nat) (done waits : List (List Int)) (wv : Value) (L : List (List Int)) (e : Ending) (w' : World) : Prop :=
  ∃ (code : Nat), e = .returned (.int .i64 code) ∧ Upd (· ∈ Jf d p jp wv) w w' ∧
    ((code = 0 ∧ waits = [] ∧ (∀ r ∈ L, RecOk r) ∧ gen < 2147483648 ∧ needN (loadOf L).length ≤ szOf n ∧ ∃ (d' : Dk) (groups' used' : Nat), Js d' w' jp p n (upS (beginS n gen S (needN (loadOf L).length) (loadOf L)) ((gen + 1) % 2) (headB (gen + 1))) (gen + 1) groups' used' L [] (.slice none 0 0) ∧ Grew' w (Jf d p jp wv) (Jf d' p jp (.slice none 0 0))) ∨
     (code ≠ 0 ∧ Js d w' jp p n S gen groups used done waits wv ∧ (waits ≠ [] → code = 3)))

set_option maxHeartbeats 4000000 in
theorem compact_any (d : Dk) (jp p n gen groups used : Nat) (S : Nat → List Int) (done waits : List (List Int)) (wv : Value) (al : Option Addr) (nl cl : Nat) (L : List (List Int)) (w : World) (h : Js d w jp p n S gen groups used done waits wv) (hT : Tab w) (hTf : 1 ∉ Jf d p jp wv) (hi : Img w al L) (hn : L.length = nl) (hc : nl ≤ cl) (hc2 : cl ≤ 9223372036854775807) (hB : ∀ l ∈ L, Bytes l) (hn4 : 4 ≤ n) :
    Calls Tryz.prog 20 #[.pointer (some ⟨jp, 0, none⟩), .slice al nl cl] w (CptP d w jp p n S gen groups used done waits wv L) := by
  have hn2 : n ≤ 2048 := by rw [← h.jd.dn]; exact h.jd.ok.n2
  have hsz : szOf n ≤ 1024 := by unfold szOf; omega
  have hg2 := h.ji.g2
  have hjl : jp < w.heap.size := (Array.getElem?_eq_some_iff.1 h.jc).1
  have kU := hid (jusable jp p _ _ _ _ _ _ _ w h.jc)
  have kR := hid (refused_any al nl cl L w hi hn hc hc2)
  have HRC := hid (fun hc : refC L = 0 => refC_zero hc)
  obtain ⟨C, gC⟩ : ∃ C, C = refC L := ⟨_, rfl⟩
  rw [← gC] at kR HRC
  obtain ⟨m, gm⟩ : ∃ m, m = waits.length := ⟨_, rfl⟩
  have hjc := h.jc
  rw [← gm] at hjc
  have c7 : w.cell? ⟨jp, 7, none⟩ = some (.int .i64 m) := heap_cells hjc 7 _ rfl
  have HH := hid h
  have GM := hid gm
  have HTF := hid hTf
  have HT := hid hT
  by_cases hm : m = 0
  · by_cases hC : C = 0
    · have hw0 : waits = [] := List.eq_nil_of_length_eq_zero (by rw [← gm]; exact hm)
      have hok : ∀ r ∈ L, RecOk r := fun r hr => ⟨(HRC.out hC r hr).1, (HRC.out hC r hr).2, hB r hr⟩
      have kJ := hid (joined_any al nl cl (szOf n * 100) L w hi hn hc hc2 hok (by omega))
      have c0 : w.cell? ⟨jp, 0, none⟩ = some (.pointer (some ⟨p, 0, none⟩)) := heap_cells hjc 0 _ rfl
      have c1 : w.cell? ⟨jp, 1, none⟩ = some (.int .i64 gen) := heap_cells hjc 1 _ rfl
      have c2 : w.cell? ⟨jp, 2, none⟩ = some (.int .i64 (firstOf gen n : Nat)) := heap_cells hjc 2 _ rfl
      have c3 : w.cell? ⟨jp, 3, none⟩ = some (.int .i64 (szOf n : Nat)) := heap_cells hjc 3 _ rfl
      have kN := hid (fun wx => next_any gen n wx hg2 hn2)
      have HW0 := hid hw0
      have HOK := hid hok
      obtain ⟨first, gfirst⟩ : ∃ first, first = firstOf gen n := ⟨_, rfl⟩
      obtain ⟨size, gsize⟩ : ∃ size, size = szOf n := ⟨_, rfl⟩
      obtain ⟨first2, gfirst2⟩ : ∃ first2, first2 = firstOf (gen + 1) n := ⟨_, rfl⟩
      rw [← gfirst] at c2 kN
      rw [← gsize] at c3 kN kJ hsz
      rw [← gfirst2] at kN
      have eg : ((gen + 1 : Nat) : Int) = (gen : Int) + 1 := by omega
      rw [eg] at kN
      have GF := hid gfirst
      have GF2 := hid gfirst2
      have GS := hid gsize
      have esz : ((size * 100 : Nat) : Int) = (size : Int) * 100 := by omega
      rw [esz] at kJ
      subst hm
      subst hC
      clear h hT hTf hi hB hjc gm gC hw0 hok gfirst gfirst2 gsize eg esz
      go_enter Tryz.func20, Tryz.ntmps20
      go_upto_region 9 with (first | (go_at_call 33; refine kU.out.mono ?_; rintro r w1 ⟨rfl, h⟩; subst w1) | (go_at_call 46; refine kR.out.mono ?_; rintro r w1 ⟨rfl, h⟩; subst w1) | (go_at_call 47; refine kJ.out.mono ?_; rintro r w5 h5; have H5 := hid h5; clear h5; rcases H5.out with ⟨hfit, v5, rfl, ho5, hb5⟩ | ⟨hbig, rfl, hb5⟩))
      · have HO5 := hid ho5
        have HB5 := hid hb5
        have hJ5 : Js d w5 jp p n S gen groups used done waits wv := HH.out.below hb5
        have HJ5 := hid hJ5
        have e0 : w5.cell? ⟨jp, 0, none⟩ = some (.pointer (some ⟨p, 0, none⟩)) := (hb5.cell (p := ⟨jp, 0, none⟩) hjl).trans c0
        have e1 : w5.cell? ⟨jp, 1, none⟩ = some (.int .i64 gen) := (hb5.cell (p := ⟨jp, 1, none⟩) hjl).trans c1
        have e2 : w5.cell? ⟨jp, 2, none⟩ = some (.int .i64 first) := (hb5.cell (p := ⟨jp, 2, none⟩) hjl).trans c2
        have e3 : w5.cell? ⟨jp, 3, none⟩ = some (.int .i64 size) := (hb5.cell (p := ⟨jp, 3, none⟩) hjl).trans c3
        have hj5 : jp < w5.heap.size := Nat.lt_of_lt_of_le hjl hb5.size
        clear ho5 hb5 H5 hJ5 c0 c1 c2 c3 c7 kU kR kJ
        by_cases hgl : gen = 2147483648
        · subst hgl
          go_wp2_with fail
          go_ret
          exact ⟨4, rfl, Upd.of_below HB5.out, .inr ⟨by omega, HJ5.out, fun h => absurd HW0.out h⟩⟩
        · have hglv : ¬ (gen : Int) = 2147483648 := by omega
          have HD5 : Hid (Below w5.heap.size w5 w5.drew) := hid (below_drewN (Below.refl _ _) 1)
          have HDA : Hid (∀ ob, Below w5.heap.size w5 (w5.alloc ob).drew) := hid (fun ob => below_drewN ((Below.refl _ _).alloc (Nat.le_refl _) _) 1)
          go_upto_region 11 with fail
          go_cut [8] (fun v8 wx => ∃ mj, v8 = .pointer (some ⟨mj, 0, none⟩) ∧ Hid (Jbox w5 wx mj [.pointer (some ⟨p, 0, none⟩), .int .i64 ((gen : Int) + 1), .int .i64 first2, .int .i64 size, .int .i64 0, .int .i64 0, .slice none 0 0, .int .i64 0]))
          case first =>
            go_region_with (first | (go_at_call 48; refine (kN.out _).mono ?_; rintro r w3 ⟨rfl, hb3⟩; have HB3 : Hid (Below w5.heap.size w5 w3) := (by first | exact hid (HD5.out.trans hb3) | exact hid ((HDA.out _).trans (hb3.mono (by simp)))); have x0 : w3.cell? ⟨jp, 0, none⟩ = some (.pointer (some ⟨p, 0, none⟩)) := (HB3.out.cell (p := ⟨jp, 0, none⟩) hj5).trans e0; have hj3 : jp < w3.heap.size := Nat.lt_of_lt_of_le hj5 HB3.out.size; first | (have hx3 : w3.heap[w5.heap.size]? = some (.cells ([.pointer none, .int .i64 0, .int .i64 0, .int .i64 0, .int .i64 0, .int .i64 0, .slice none 0 0, .int .i64 0] : List Value).toArray 59 (0, 0)) := (hb3.block w5.heap.size (by simp)).trans (heap_alloc_new w5 _); have z0 : w3.cell? ⟨w5.heap.size, 0, none⟩ = some (.pointer none) := heap_cells hx3 0 _ rfl; have y0 : w3.frozen? ⟨w5.heap.size, 0, none⟩ = false := frozen_of_row w3 w5.heap.size 0 _ _ hx3; have z1 : w3.cell? ⟨w5.heap.size, 1, none⟩ = some (.int .i64 0) := heap_cells hx3 1 _ rfl; have y1 : w3.frozen? ⟨w5.heap.size, 1, none⟩ = false := frozen_of_row w3 w5.heap.size 1 _ _ hx3; have z2 : w3.cell? ⟨w5.heap.size, 2, none⟩ = some (.int .i64 0) := heap_cells hx3 2 _ rfl; have y2 : w3.frozen? ⟨w5.heap.size, 2, none⟩ = false := frozen_of_row w3 w5.heap.size 2 _ _ hx3; have z3 : w3.cell? ⟨w5.heap.size, 3, none⟩ = some (.int .i64 0) := heap_cells hx3 3 _ rfl; have y3 : w3.frozen? ⟨w5.heap.size, 3, none⟩ = false := frozen_of_row w3 w5.heap.size 3 _ _ hx3; have z4 : w3.cell? ⟨w5.heap.size, 4, none⟩ = some (.int .i64 0) := heap_cells hx3 4 _ rfl; have y4 : w3.frozen? ⟨w5.heap.size, 4, none⟩ = false := frozen_of_row w3 w5.heap.size 4 _ _ hx3; have z5 : w3.cell? ⟨w5.heap.size, 5, none⟩ = some (.int .i64 0) := heap_cells hx3 5 _ rfl; have y5 : w3.frozen? ⟨w5.heap.size, 5, none⟩ = false := frozen_of_row w3 w5.heap.size 5 _ _ hx3; have z6 : w3.cell? ⟨w5.heap.size, 6, none⟩ = some (.slice none 0 0) := heap_cells hx3 6 _ rfl; have y6 : w3.frozen? ⟨w5.heap.size, 6, none⟩ = false := frozen_of_row w3 w5.heap.size 6 _ _ hx3; have z7 : w3.cell? ⟨w5.heap.size, 7, none⟩ = some (.int .i64 0) := heap_cells hx3 7 _ rfl; have y7 : w3.frozen? ⟨w5.heap.size, 7, none⟩ = false := frozen_of_row w3 w5.heap.size 7 _ _ hx3;  have HX3 := hid hx3; clear hx3 hb3) | (have HX3 : Hid True := hid trivial; clear hb3)))
            all_goals
              go_wp2_with fail
              go_meet
              case rel => exact ⟨_, rfl, hid (by first | with_reducible exact jbox_new HB3.out _ | with_reducible exact jbox_old8 HB3.out HX3.out (Nat.le_refl _))⟩
          case rest =>
            obtain ⟨mj, rfl, HX⟩ := hcut
            have eg : ((gen + 1 : Nat) : Int) = (gen : Int) + 1 := by omega
            have hjm : Jc wc mj p (gen + 1) (firstOf (gen + 1) n) (szOf n) 0 0 (.slice none 0 0) 0 := by
              unfold Jc
              rw [← GF2.out, ← GS.out, eg]
              exact HX.out.box
            have hbc : Below w.heap.size w wc := HB5.out.trans (HX.out.bel.mono HB5.out.size)
            have hJc : Js d wc jp p n S gen groups used done waits wv := HJ5.out.below HX.out.bel
            have hTl : 1 < w.heap.size := World.block_lt_of_cell? _ _ (HT.out 0 (by omega))
            have hwm : w.heap.size ≤ mj := Nat.le_trans HB5.out.size HX.out.new
            have hTd : 1 ∉ d.foot p := fun hx => HTF.out (by simp [Jf, hx])
            have hmf : mj ∉ d.foot p := fun hx => by have := HH.out.jd.ok.lt mj hx; omega
            have hvc := own_below HO5.out HX.out.bel
            have hnl : needN (loadOf L).length ≤ szOf n := by rw [← GS.out]; exact needN_le _ _ (by omega)
            have kb := hid (begin_any d mj p n gen (loadOf L).length S v5 (loadOf L) wc hjm hJc.jd hJc.rest hmf (HT.out.below hbc hTl) (by omega) hTd (own_base hvc (Nat.zero_le _)) (fun k hk => by
              have h1 := HO5.out.lt k hk
              have h2 := HX.out.new
              exact ⟨fun hx => by have := HH.out.jd.ok.lt k hx; omega, by omega⟩) (bytes_loadOf HOK.out) hnl (by omega) hn4)
            have HJc := hid hJc
            have HBC := hid hbc
            have HNL := hid hnl
            have hjmj : jp ≠ mj := by omega
            have hjc5 : jp < wc.heap.size := Nat.lt_of_lt_of_le hjl hbc.size
            clear hjm hbc hJc hTd hmf hvc hnl kN e0 e1 e2 e3 eg
            go_upto_region 13 with (first | (go_at_call 49; refine kb.out.mono ?_; rintro r w9 h9; have H9 := hid h9; clear h9; obtain ⟨e9, d9, hm9, hj9⟩ := H9.out; subst e9))
            have hjp9 : Jc w9 jp p gen (firstOf gen n) (szOf n) groups used wv waits.length := hm9.upd.heap HJc.out.jc (fun h => by
              rcases h with h | h
              · exact hjmj h
              · exact HJc.out.jf h)
            obtain ⟨gg, ggg⟩ : ∃ gg, gg = if loadOf L = [] then 0 else 1 := ⟨_, rfl⟩
            rw [← ggg] at hj9
            have m0 : w9.cell? ⟨mj, 0, none⟩ = some (.pointer (some ⟨p, 0, none⟩)) := heap_cells hj9 0 _ rfl
            have m1 : w9.cell? ⟨mj, 1, none⟩ = some (.int .i64 ((gen + 1 : Nat) : Int)) := heap_cells hj9 1 _ rfl
            have m2 : w9.cell? ⟨mj, 2, none⟩ = some (.int .i64 (firstOf (gen + 1) n : Nat)) := heap_cells hj9 2 _ rfl
            have m3 : w9.cell? ⟨mj, 3, none⟩ = some (.int .i64 (szOf n : Nat)) := heap_cells hj9 3 _ rfl
            have m4 : w9.cell? ⟨mj, 4, none⟩ = some (.int .i64 gg) := heap_cells hj9 4 _ rfl
            have m5 : w9.cell? ⟨mj, 5, none⟩ = some (.int .i64 (needN (loadOf L).length : Nat)) := heap_cells hj9 5 _ rfl
            have m6 : w9.cell? ⟨mj, 6, none⟩ = some (.slice none 0 0) := heap_cells hj9 6 _ rfl
            have m7 : w9.cell? ⟨mj, 7, none⟩ = some (.int .i64 0) := heap_cells hj9 7 _ rfl
            obtain ⟨G1, gG1⟩ : ∃ G1, G1 = gen + 1 := ⟨_, rfl⟩
            obtain ⟨NN, gNN⟩ : ∃ NN, NN = needN (loadOf L).length := ⟨_, rfl⟩
            rw [← gG1] at m1
            rw [← GF2.out] at m2
            rw [← GS.out] at m3
            rw [← gNN] at m5
            have HTH := hid (there_of_block (C := [.pointer (some ⟨p, 0, none⟩), .int .i64 gen, .int .i64 (firstOf gen n : Nat), .int .i64 (szOf n : Nat), .int .i64 groups, .int .i64 used, wv, .int .i64 (waits.length : Nat)]) hjp9 0 8 (by simp))
            obtain ⟨W10, g10⟩ : ∃ W10, w9.setCells jp 0 [.pointer (some ⟨p, 0, none⟩), .int .i64 G1, .int .i64 first2, .int .i64 size, .int .i64 gg, .int .i64 NN, .slice none 0 0, .int .i64 0] = W10 := ⟨_, rfl⟩
            have hj10 : Jc W10 jp p G1 first2 size gg NN (.slice none 0 0) 0 := by
              unfold Jc
              rw [← g10, heap_setCells jp 59 _ 0 w9 _ hjp9 (by simp)]
              simp [splice]
            have hU10 : Upd (· = jp) w9 W10 := by rw [← g10]; exact upd_setCells jp _ 0 w9
            have hjf9 : jp ∉ d9.foot p := fun hx => by
              rcases hm9.grew jp hx with h | h
              · exact HJc.out.jf h
              · omega
            have hfin : CptP d w jp p n S gen groups used done waits wv L (.returned (.int .i64 0)) W10 := by
              have hUw : Upd (· ∈ Jf d p jp wv) w W10 := by
                have hcs := HBC.out.size
                refine ⟨hU10.os.trans (hm9.upd.os.trans HBC.out.os), hU10.tape.trans (hm9.upd.tape.trans HBC.out.tape), hU10.output.trans (hm9.upd.output.trans HBC.out.output), Nat.le_trans hcs (Nat.le_trans hm9.upd.size hU10.size), fun k hk hnk => ?_⟩
                have hkj : k ≠ jp := fun e => hnk (by simp [Jf, e])
                have hkd : k ∉ d.foot p := fun e => hnk (by simp [Jf, e])
                rw [hU10.block k (by have := hm9.upd.size; omega) hkj, hm9.upd.block k (by omega) (fun h => by
                  rcases h with h | h
                  · omega
                  · exact hkd h), HBC.out.block k hk]
              refine ⟨0, rfl, hUw, .inl ⟨rfl, HW0.out, HOK.out, by omega, HNL.out, d9, gg, NN, ?_, ?_⟩⟩
              · have hci := HH.out.ji.compact L HOK.out HNL.out (needN (loadOf L).length) (Nat.le_refl _) (by omega)
                rw [← ggg, ← gNN] at hci
                refine ⟨?_, hm9.rest, ?_, ?_, by simpa [loadOf] using World.ownsRow_nil _ _ _ _, fun r hr => by simp at hr, Nat.zero_le _, hjf9, fun k hk => by simp [Value.ownBlock] at hk⟩
                · exact hm9.jd.upd hU10 (fun k hk e => hjf9 (e ▸ hk))
                · rw [← gG1, ← GS.out]
                  rw [show firstOf G1 n = first2 by rw [gG1, GF2.out]]
                  exact hj10
                · rw [← gNN]; exact hci
              · intro x hx
                simp only [Jf, List.mem_cons, List.mem_append] at hx ⊢
                rcases hx with h | h | h
                · exact .inl (.inl h)
                · simp [vb, Value.ownBlock] at h
                · rcases hm9.grew x h with h' | h'
                  · exact .inl (.inr (.inr h'))
                  · exact .inr (Nat.le_trans HBC.out.size h')
            have HFIN := hid hfin
            have G10 := hid g10
            clear hfin hjp9 hj9 hm9 H9 hj10 hU10 g10 gG1 gNN ggg hjf9
            go_wp2_with (refine jstore_as rfl 59 (.tmp 62) (.tmp 61) rfl jp 0 #[.pointer (some ⟨p, 0, none⟩), .int .i64 G1, .int .i64 first2, .int .i64 size, .int .i64 gg, .int .i64 NN, .slice none 0 0, .int .i64 0] rfl rfl HTH.out jsize8 (by simp [Value.oneCell']) W10 G10.out ?_)
            go_ret
            exact HFIN.out
      · have HB5 := hid hb5
        clear hb5 H5
        go_wp2_with fail
        go_ret
        exact ⟨4, rfl, Upd.of_below HB5.out, .inr ⟨by omega, HH.out.below HB5.out, fun h => absurd HW0.out h⟩⟩
    · have hCv : ¬ (C : Int) = 0 := by omega
      have hw0 : waits = [] := List.eq_nil_of_length_eq_zero (by rw [← gm]; exact hm)
      have HW0 := hid hw0
      subst hm
      clear h hT hTf hi hB hjc gm gC hw0
      go_enter Tryz.func20, Tryz.ntmps20
      go_wp2_with (first | (go_at_call 33; refine kU.out.mono ?_; rintro r w1 ⟨rfl, h⟩; subst w1) | (go_at_call 46; refine kR.out.mono ?_; rintro r w1 ⟨rfl, h⟩; subst w1))
      go_ret
      exact ⟨C, rfl, Upd.refl _ _, .inr ⟨hC, HH.out, fun h => absurd HW0.out h⟩⟩
  · have hmv : (0 : Int) < (m : Int) := by omega
    clear h hT hTf hi hB hjc gm gC
    go_enter Tryz.func20, Tryz.ntmps20
    go_wp2_with (first | (go_at_call 33; refine kU.out.mono ?_; rintro r w1 ⟨rfl, h⟩; subst w1))
    go_ret
    exact ⟨3, rfl, Upd.refl _ _, .inr ⟨by omega, HH.out, fun _ => rfl⟩⟩

end Go.Proofs.YtkmnhpnlkmiiiaaGreatDoor

/- The records of a journal on a copy of a disk; lists of records of the law's own. -/
namespace Go.Proofs.YtkmnhpnlkmiiiaaGreatDoor
open Go.RowKit Num Jr
set_option linter.unusedVariables false
set_option maxRecDepth 20000

namespace Jr
theorem recsGo_ok (f : Nat) : ∀ (zs : List Int) (acc : List (List Int)), Bytes zs → (∀ l ∈ acc, RecOk l) → ∀ l ∈ recsGo f zs acc, RecOk l := by
  induction f with
  | zero => intro zs acc hz ha l hl; simp [recsGo] at hl
  | succ f ih =>
    intro zs acc hz ha l hl
    rw [recsGo] at hl
    by_cases h : zs = []
    · rw [if_pos h] at hl; exact ha l hl
    · rw [if_neg h] at hl
      by_cases h1 : (txt zs 2000).2.2 ≠ 0 ∨ (txt zs 2000).1 = []
      · rw [if_pos h1] at hl; simp at hl
      · rw [if_neg h1] at hl
        have h2 : (txt zs 2000).2.2 = 0 := by
          rcases Nat.eq_zero_or_pos (txt zs 2000).2.2 with h | h
          · exact h
          · exact absurd (Or.inl (by omega)) h1
        have h3 := txt_ok hz 2000 h2
        rw [show ((2000 : Nat) : Int) = 2000 by rfl] at h3
        have h4 : (txt zs 2000).1 ≠ [] := fun e => h1 (.inr e)
        refine ih (zs.drop (txt zs 2000).2.1) (acc ++ [(txt zs 2000).1]) (hz.drop _) (fun l' hl' => ?_) l hl
        rcases List.mem_append.1 hl' with h' | h'
        · exact ha l' h'
        · simp at h'; rw [h']; exact ⟨List.length_pos_iff.2 h4, h3.2.2.1, jtxt_bytes hz 2000⟩
theorem grpsGo_ok (S : Nat → List Int) (first gen size : Nat) (hS : ∀ i, Bytes (S i)) (f : Nat) : ∀ (g u : Nat) (acc : List (List Int)), (∀ l ∈ acc, RecOk l) → ∀ l ∈ (grpsGo S first gen size f g u acc).1, RecOk l := by
  induction f with
  | zero => intro g u acc ha l hl; exact ha l hl
  | succ f ih =>
    intro g u acc ha l hl
    rw [grpsGo] at hl
    split at hl
    · exact ha l hl
    · refine ih _ _ _ (fun l' hl' => ?_) l hl
      rcases List.mem_append.1 hl' with h' | h'
      · exact ha l' h'
      · exact recsGo_ok _ _ [] (loadGo_bytes S first gen _ hS _ _ [] Bytes.nil) (fun _ h => by simp at h) l' h'
theorem opened_ok (n : Nat) (S : Nat → List Int) (hS : ∀ i, Bytes (S i)) : ∀ l ∈ (opened n S).1, RecOk l := by
  intro l hl
  unfold opened at hl
  split at hl
  · simp at hl
  · exact grpsGo_ok S _ _ _ hS _ 0 0 [] (fun _ h => by simp at h) l hl
theorem grpsGo_few (S : Nat → List Int) (first gen size : Nat) (hB : ∀ i, Bytes (S i)) (f : Nat) : ∀ (g u : Nat) (acc : List (List Int)), acc.length ≤ 100 * u → (grpsGo S first gen size f g u acc).1.length ≤ 100 * (grpsGo S first gen size f g u acc).2.2 := by
  induction f with
  | zero => intro g u acc ha; exact ha
  | succ f ih =>
    intro g u acc ha
    rw [grpsGo]
    split
    · exact ha
    · rename_i hne
      refine ih _ _ _ ?_
      have hn : loadGo S first gen (g + 1) (size - u) u [] ≠ [] := fun e => hne (by rw [e]; exact recsOf_nil)
      have h1 := recsOf_len (loadGo_bytes S first gen (g + 1) hB (size - u) u [] Bytes.nil)
      have h2 := needN_pos _ (List.length_pos_iff.2 hn)
      rw [List.length_append]
      omega
theorem JI.few {n : Nat} {S : Nat → List Int} {gen : Nat} {done : List (List Int)} {groups used : Nat} (h : JI n S gen done groups used) (hB : ∀ i, Bytes (S i)) : done.length ≤ 100 * used ∧ ∀ l ∈ done, RecOk l := by
  have e : grpsGo S (firstOf gen n) gen (szOf n) (szOf n + 1) 0 0 [] = (done, groups, used) := h.grp
  have h1 := grpsGo_few S (firstOf gen n) gen (szOf n) hB (szOf n + 1) 0 0 [] (by simp)
  have h2 := grpsGo_ok S (firstOf gen n) gen (szOf n) hB (szOf n + 1) 0 0 [] (fun _ h => by simp at h)
  rw [e] at h1 h2
  exact ⟨h1, h2⟩
end Jr

/-- A copy of a disk at rest. -/
theorem Jd.copied {d d2 : Dk} {w w' : World} {p q n : Nat} {S : Nat → List Int} (h : Jd d w p n S) (hr : d.rest) (hok : d2.ok w' q) (hn : d2.n = d.n) (hd : d2.dur = d.dur) (hw : d2.wr = d.wr) (ha : d2.ab = d.ab) (ho : d2.opn = d.opn) : Jd d2 w' q n S ∧ d2.rest := by
  have e1 : d.ab = [] := by simp [Dk.ab, hr.1]
  have e2 : d2.eps = [] := by
    rw [e1] at ha
    have := congrArg List.length ha
    simp [Dk.ab] at this
    exact this
  exact ⟨⟨hok, by rw [hn, h.dn], by rw [hw]; exact h.wr, by rw [hd, ha]; exact h.ov, h.byt, h.all, by rw [e2]; simp, .inr e2⟩, e2, by rw [ho]; exact hr.2⟩

set_option maxHeartbeats 1000000 in
theorem lrecs_any (d : Dk) (p n : Nat) (S : Nat → List Int) (w : World) (J : Jd d w p n S) (hr : d.rest) (hT : Tab w) (hn4 : 4 ≤ n) :
    Calls Tryz.prog 10 #[.pointer (some ⟨p, 0, none⟩)] w fun e w' => ∃ v m, e = .returned (.tuple #[v, .int .i64 0]) ∧ RcsT w' w.heap.size m v (opened n S).1 ∧ Below w.heap.size w w' := by
  have hTl : 1 < w.heap.size := World.block_lt_of_cell? _ _ (hT 0 (by omega))
  have kc := hid (copy_any d p w J.ok (by rw [hr.1]; simp))
  have HJ := hid J
  have HR := hid hr
  have HT := hid hT
  clear J hr hT
  go_enter Tryz.func10, Tryz.ntmps10
  go_wp2_with (first | (go_at_call 32; refine kc.out.mono ?_; rintro r w2 ⟨q, d2, rfl, hok, hn, hd, hw, ha, ho, hf, hb⟩; have hj := HJ.out.copied HR.out hok hn hd hw ha ho; have HB := hid hb; have HF := hid hf; have kO := hid (jopen_any d2 q n S w2 hj.1 hj.2 (HT.out.below hb hTl) (fun hx => by have := hf _ hx; omega) hn4); clear hok hn hd hw ha ho hf hb hj kc) | (go_at_call 28; refine kO.out.mono ?_; rintro r w3 h3; have H3 := hid h3; clear h3 kO; obtain ⟨jp, v3, d3, m3, e3, hjp, hjf, hs3, hr3, hj3, hc3, hf3⟩ := H3.out; subst e3; have HS3 := hid hs3; have HC3 := hid hc3; clear hjp hjf hs3 hr3 hj3 hc3 hf3 H3))
  go_ret2
  exact ⟨v3, m3, rfl, HC3.out.base HB.out.size, HB.out.trans (HS3.out.upd.below HB.out.size HF.out)⟩

/-- Records of the law's own, in blocks outside M. -/
def Rl (w : World) (M : List Nat) (v : Value) (L : List (List Int)) : Prop := ∃ us, w.ownsRow 0 29 1 v L.length us ∧ (∀ k, v.ownBlock = some k → k ∉ M) ∧ ∀ j, ∀ h : j < L.length, ∃ u, us[j]? = some u ∧ Bg w (vb v ++ M) u L[j]

theorem Rl.nil (w : World) (M : List Nat) : Rl w M (.slice none 0 0) [] := ⟨[], World.ownsRow_nil _ _ _ _, fun k hk => by simp [Value.ownBlock] at hk, fun j hj => absurd hj (by simp)⟩
theorem Rl.lt {w : World} {M : List Nat} {v : Value} {L : List (List Int)} (h : Rl w M v L) : ∀ k ∈ vb v, k < w.heap.size := by
  obtain ⟨us, ho, _⟩ := h
  exact fun k hk => own_lt ho hk
theorem Rl.upd {w w' : World} {M M' : List Nat} {v : Value} {L : List (List Int)} (h : Rl w M v L) (hu : Upd (· ∈ M) w w') (hg : Grew' w M M') : Rl w' M' v L := by
  obtain ⟨us, ho, hv, hj⟩ := h
  have hl : ∀ k ∈ vb v, k < w.heap.size := fun k hk => own_lt ho hk
  refine ⟨us, hu.own ho hv, fun k hk hx => ?_, fun j hjl => ?_⟩
  · rcases hg k hx with h | h
    · exact hv k hk h
    · have := hl k (by simp [vb, hk]); omega
  · obtain ⟨u, h1, h2⟩ := hj j hjl
    refine ⟨u, h1, h2.upd (hu.mono (fun x _ hx => List.mem_append.2 (.inr hx))) (fun x hx => ?_)⟩
    rcases List.mem_append.1 hx with h | h
    · exact .inl (List.mem_append.2 (.inl h))
    · rcases hg x h with h | h
      · exact .inl (List.mem_append.2 (.inr h))
      · exact .inr h
theorem Rl.below {w w' : World} {M : List Nat} {v : Value} {L : List (List Int)} (h : Rl w M v L) (hb : Below w.heap.size w w') : Rl w' M v L := h.upd (Upd.of_below hb) (fun _ h => .inl h)
theorem Rl.weaken {w : World} {M M' : List Nat} {v : Value} {L : List (List Int)} (h : Rl w M v L) (hs : ∀ x ∈ M', x ∈ M) : Rl w M' v L := by
  obtain ⟨us, ho, hv, hj⟩ := h
  refine ⟨us, ho, fun k hk hx => hv k hk (hs k hx), fun j hjl => ?_⟩
  obtain ⟨u, h1, h2⟩ := hj j hjl
  exact ⟨u, h1, h2.weaken (fun x hx => by
    rcases List.mem_append.1 hx with h | h
    · exact List.mem_append.2 (.inl h)
    · exact List.mem_append.2 (.inr (hs x h)))⟩

/-- Records behind records. -/
theorem Rl.app {WA w' : World} {M M2 : List Nat} {v v' v2 : Value} {L L2 : List (List Int)} {us us2 : List Value} (hv : ∀ k, v.ownBlock = some k → k ∉ M) (ho : WA.ownsRow 0 29 1 v L.length us) (hj : ∀ j, ∀ h : j < L.length, ∃ u, us[j]? = some u ∧ Bg WA (vb v ++ M) u L[j])
    (hl2 : us2.length = L2.length) (hj2 : ∀ j, ∀ h : j < L2.length, ∃ u, us2[j]? = some u ∧ Bg WA (vb v ++ M) u L2[j])
    (hO : w'.ownsRow 0 29 1 v' (L.length + L2.length) (us ++ us2)) (hU : Upd (fun x => v.ownBlock = some x) WA w') (hW : v'.ownBlock = v.ownBlock ∨ ∀ x, v'.ownBlock = some x → WA.heap.size ≤ x) (hM : ∀ x ∈ M, x < WA.heap.size) : Rl w' M v' (L ++ L2) := by
  have hul : us.length = L.length := by have := ho.1; omega
  have hU' : Upd (· ∈ vb v ++ M) WA w' := hU.mono (fun x _ hx => List.mem_append.2 (.inl (by simpa [vb] using hx)))
  have hG : Grew' WA (vb v ++ M) (vb v' ++ M) := fun x hx => by
    rcases List.mem_append.1 hx with h | h
    · have h' : v'.ownBlock = some x := by simpa [vb] using h
      rcases hW with hw | hw
      · exact .inl (List.mem_append.2 (.inl (by simp [vb, ← hw, h'])))
      · exact .inr (hw x h')
    · exact .inl (List.mem_append.2 (.inr h))
  refine ⟨us ++ us2, by rw [List.length_append]; exact hO, fun k hk hx => ?_, fun j hjl => ?_⟩
  · rcases hW with hw | hw
    · exact hv k (hw ▸ hk) hx
    · have := hw k hk; have := hM k hx; omega
  · rcases Nat.lt_or_ge j L.length with h | h
    · obtain ⟨u, h1, h2⟩ := hj j h
      refine ⟨u, by rw [List.getElem?_append_left (by omega)]; exact h1, ?_⟩
      rw [List.getElem_append_left h]
      exact h2.upd hU' hG
    · rw [List.length_append] at hjl
      obtain ⟨u, h1, h2⟩ := hj2 (j - L.length) (by omega)
      refine ⟨u, by rw [List.getElem?_append_right (by omega), hul]; exact h1, ?_⟩
      rw [List.getElem_append_right h]
      exact h2.upd hU' hG

/-- What Open made, as such a list. -/
theorem RcsT.rl {w : World} {B m : Nat} {v : Value} {L : List (List Int)} (h : RcsT w B m v L) (hL : ∀ l ∈ L, RecOk l) (M : List Nat) (hM : ∀ x ∈ M, x < B ∨ m ≤ x) : Rl w M v L := by
  obtain ⟨us, ho, hm, hj⟩ := h
  refine ⟨us, own_base ho (Nat.zero_le _), fun k hk hx => ?_, fun j hjl => ?_⟩
  · have h1 := ho.lt k hk
    have h2 := hm k hk
    rcases hM k hx with h | h <;> omega
  · obtain ⟨u, h1, b, c, e, h2, h3, h4, h5, h6, h7⟩ := hj j hjl
    have hok := hL L[j] (List.getElem_mem hjl)
    have hbv : v.ownBlock ≠ some b := fun hv => by
      obtain ⟨u0, g1, b0, c0, e0, _⟩ := hj 0 (by omega)
      obtain ⟨av, cv, ev, _, _⟩ := own_shape ho
      obtain ⟨g, rfl⟩ : ∃ g, av = some ⟨g, 0, none⟩ := by
        rcases ho.2 with ⟨_, h⟩ | ⟨g, c, cur, h, _⟩
        · omega
        · rw [ev] at h; injection h with h1 h2 h3; exact ⟨g, h1⟩
      have hg : g = b := by rw [ev] at hv; simpa [Value.ownBlock] using hv
      rw [ev] at ho
      have hc := ho.cellAt 0 (by omega)
      rw [g1, e0, hg] at hc
      obtain ⟨b', o', e', _, hcell⟩ := h2.2 (by have := hok.1; omega)
      simp only [Option.some.injEq, Addr.mk.injEq, and_true] at e'
      obtain ⟨rfl, rfl⟩ := e'
      have hc2 := hcell 0 (by have := hok.1; omega)
      rw [Nat.zero_add] at hc2
      rw [hc2] at hc
      cases hc
    refine ⟨u, h1, some ⟨b, 0, none⟩, c, e, h2, fun _ b' o' e' hx => ?_, h6, h7, (fun h => by cases h), by have := hok.2.1; omega⟩
    simp only [Option.some.injEq, Addr.mk.injEq] at e'
    obtain ⟨rfl, _⟩ := e'
    rcases List.mem_append.1 hx with h | h
    · exact hbv (by simpa [vb] using h)
    · rcases hM b h with h | h <;> omega

end Go.Proofs.YtkmnhpnlkmiiiaaGreatDoor

/- Images as lists of the law's own; a list of the journal's steps, as it lies. -/
namespace Go.Proofs.YtkmnhpnlkmiiiaaGreatDoor
open Go.RowKit Num Jr
set_option linter.unusedVariables false
set_option maxRecDepth 20000

theorem Bg.fresh {w : World} {B : Nat} {u : Value} {bs : List Int} (h : Bg w [] u bs) (hn : ∀ b o c n, u = .slice (some ⟨b, o, none⟩) n c → B ≤ b) (M : List Nat) (hM : ∀ x ∈ M, x < B) : Bg w M u bs := by
  obtain ⟨a, c, e, h1, _, h2⟩ := h
  refine ⟨a, c, e, h1, fun _ b o e' hx => ?_, h2⟩
  have := hn b o c bs.length (by rw [e, e'])
  have := hM b hx
  omega

set_option maxHeartbeats 2000000 in
theorem pimg_rl (al : Option Addr) (n cl : Nat) (L : List (List Int)) (w : World) (M : List Nat) (hi : Img w al L) (hn : L.length = n) (hc : n ≤ cl) (hc2 : cl ≤ 9223372036854775807) (hsz : n * 24 ≤ 140737488351232) (hM : ∀ x ∈ M, x < w.heap.size) :
    Calls Tryz.prog 22 #[.slice al n cl] w fun e w' => ∃ v', e = .returned v' ∧ Rl w' M v' L ∧ (∀ x, v'.ownBlock = some x → w.heap.size ≤ x) ∧ Below w.heap.size w w' := by
  obtain ⟨i0, hi0, hz0, hz1, hz2⟩ := info_parts Tryz.infoTB
  have HI := hid hi
  have HN := hid hn
  have HM := hid hM
  clear hi hn hM
  go_enter Tryz.func22, Tryz.ntmps22
  go_wp2_with fail
  go_loopw [3, 8] (fun vo k wr => ∃ i : Nat, k = .int .i64 i ∧ i ≤ n ∧ Hid (Rl wr M vo (L.take i)) ∧ Hid (∀ x, vo.ownBlock = some x → w.heap.size ≤ x) ∧ Below w.heap.size w wr) (fun _ k _ => n - (intOf k).toNat)
  case atStart => exact ⟨0, rfl, Nat.zero_le _, hid (by rw [List.take_zero]; exact Rl.nil _ _), hid (fun x hx => by simp [Value.ownBlock] at hx), Below.refl _ _⟩
  case round =>
    obtain ⟨i, rfl, hi, HE, HV, hbr⟩ := hrel
    obtain ⟨vo, hvo⟩ : ∃ vo, vo = u3 := ⟨_, rfl⟩
    rw [← hvo] at HE HV ⊢
    clear hvo
    by_cases hlt : i < n
    · have hil : i < L.length := by rw [HN.out]; exact hlt
      obtain ⟨b, o, e, hbl, hcc⟩ := HI.out (by omega)
      subst e
      obtain ⟨u, hu, hbg⟩ := hcc i hil
      have hu' := (hbr.cell (p := ⟨b, o + i, none⟩) hbl).trans hu
      have kc := hid (clone_bg (hbg.below hbr))
      obtain ⟨a0, c0, e0, _⟩ := hbg
      subst e0
      have htk : L.take (i + 1) = L.take i ++ [L[i]] := by rw [List.take_add_one, List.getElem?_eq_getElem hil]; rfl
      have hlen : (L.take i).length = i := by rw [List.length_take]; omega
      obtain ⟨B, gB⟩ : ∃ B, B = L[i] := ⟨_, rfl⟩
      rw [← gB] at kc hu' htk
      have HTK := hid htk
      have HLN := hid hlen
      obtain ⟨lB, glB⟩ : ∃ lB, lB = B.length := ⟨_, rfl⟩
      rw [← glB] at hu' kc
      have GLB := hid glB
      clear hcc hu htk hlen gB glB
      go_wp2_with fail
      refine kc.out.mono ?_
      rintro r w2 ⟨v2, rfl, hbg2, hnew2, hb2⟩
      have hv2 : ∃ a2 c2, v2 = .slice a2 B.length c2 := by obtain ⟨a2, c2, e2, _⟩ := hbg2; exact ⟨a2, c2, e2⟩
      obtain ⟨a2, c2, rfl⟩ := hv2
      rw [← GLB.out] at hbg2 hnew2 ⊢
      obtain ⟨us, huo, huv, hue⟩ := (HE.out.below hb2)
      have hvl := HE.out.lt
      have HBG := hid hbg2
      have HNW := hid hnew2
      have HB2 := hid hb2
      have hsz2 := hb2.size
      have hsz1 := hbr.size
      rw [HLN.out] at huo
      have HUO := hid huo
      have HUE := hid hue
      have HUV := hid huv
      have HVL := hid hvl
      clear hbg2 hnew2 hb2 huo hue hu' huv hvl
      go_wp2_with (at_builtin; go_must (refine wpList_append_where rfl _ _ 22 rfl 29 i0 _ 1 24 Tryz.underlying22 hi0 hz0 hz1 hz2 rfl (by decide) vo i us rfl (HUO.out.alloc _) ⟨_, 0, none⟩ 1 1 [.slice a2 lB c2] rfl rfl (cell_one_new _ _ _) (by simp [Value.oneCell']) (by unfold maxLen; omega) (by omega) ?_))
      intro v' w3 hO3 hU3 hN3 hW3
      obtain ⟨WA, gWA⟩ : ∃ WA, WA = w2.alloc (.cells #[.slice a2 lB c2] 29) := ⟨_, rfl⟩
      have hbA : Below w2.heap.size w2 WA := by rw [gWA]; exact (Below.refl _ _).alloc (Nat.le_refl _) _
      have hsA : w2.heap.size + 1 = WA.heap.size := by rw [gWA]; simp
      rw [← gWA] at hU3
      have hW3' : v'.ownBlock = vo.ownBlock ∨ ∀ x, v'.ownBlock = some x → WA.heap.size ≤ x := by
        rw [← hsA]; simpa using hW3.out
      have hMA : ∀ x ∈ M, x < WA.heap.size := fun x hx => by have := HM.out x hx; omega
      have hent' : Rl w3 M v' (L.take (i + 1)) := by
        rw [HTK.out]
        refine Rl.app (L := L.take i) (L2 := [B]) (us := us) (us2 := [.slice a2 lB c2]) (v := vo) (v2 := vo) (M2 := M) HUV.out (by rw [HLN.out]; exact own_below HUO.out hbA) (fun j hj => ?_) rfl (fun j hj => ?_) (by rw [HLN.out]; exact hO3.out) hU3 hW3' hMA
        · obtain ⟨u, h1, h2⟩ := HUE.out j hj
          exact ⟨u, h1, h2.below hbA⟩
        · have : j = 0 := by simpa using hj
          subst this
          refine ⟨.slice a2 lB c2, rfl, (HBG.out.below hbA).fresh (B := wr.heap.size) (fun b o c n e => HNW.out b o c n e) _ (fun x hx => ?_)⟩
          rcases List.mem_append.1 hx with h | h
          · exact HVL.out x h
          · have := HM.out x h; omega
      have hbw3 : Below w.heap.size w w3 := ((hbr.trans (HB2.out.mono hsz1)).trans (hbA.mono (by omega))).trans (hU3.below (by omega) (fun x hx => HV.out x hx))
      have hv' : ∀ x, v'.ownBlock = some x → w.heap.size ≤ x := by
        intro x hx
        rcases hW3' with h' | h'
        · exact HV.out x (h' ▸ hx)
        · have := h' x hx; omega
      have HE3 := hid hent'
      have HV3 := hid hv'
      clear hent' hv' hU3 hO3 hN3 hW3 hW3' gWA hbA hsA hMA
      go_wp2_with fail
      go_roundw
      case rel => exact ⟨i + 1, by go_num, by omega, HE3, HV3, hbw3⟩
      case measure => simp [intOf]; omega
    · obtain rfl : i = n := by omega
      go_wp2_with fail
      go_ret
      refine ⟨vo, rfl, ?_, HV.out, hbr⟩
      have := HE.out
      rwa [List.take_of_length_le (by rw [HN.out]; exact Nat.le_refl _)] at this

/-- A step of the law's list, as it lies: its number, a record, records. -/
def DoAt (W : World) (b o : Nat) (op : Int) (u : Value) (zs : List Int) (la : Option Addr) (lc : Nat) (L : List (List Int)) : Prop :=
  W.cell? ⟨b, o, none⟩ = some (.int .i64 op) ∧ W.cell? ⟨b, o + 1, none⟩ = some u ∧ W.cell? ⟨b, o + 2, none⟩ = some (.slice la L.length lc) ∧ Bg W [] u zs ∧ Bytes zs ∧ Img W la L ∧ L.length ≤ lc ∧ lc ≤ 9223372036854775807 ∧ L.length * 24 ≤ 140737488351232 ∧ (∀ l ∈ L, Bytes l)
def Dos3 (W : World) (al : Option Addr) (n : Nat) : Prop := 0 < n → ∃ b o, al = some ⟨b, o, none⟩ ∧ b < W.heap.size ∧ ∀ i, i < n → ∃ op u zs la lc L, DoAt W b (o + i * 3) op u zs la lc L
theorem DoAt.below {W W' : World} {b o lc : Nat} {op : Int} {u : Value} {zs : List Int} {la : Option Addr} {L : List (List Int)} (h : DoAt W b o op u zs la lc L) (hb : Below W.heap.size W W') (hbl : b < W.heap.size) : DoAt W' b o op u zs la lc L := by
  obtain ⟨h1, h2, h3, h4, h5, h6, h7⟩ := h
  exact ⟨(hb.cell (p := ⟨b, o, none⟩) hbl).trans h1, (hb.cell (p := ⟨b, o + 1, none⟩) hbl).trans h2, (hb.cell (p := ⟨b, o + 2, none⟩) hbl).trans h3, h4.below hb, h5, h6.below hb, h7⟩

end Go.Proofs.YtkmnhpnlkmiiiaaGreatDoor

/- A journal with the law's own lists of what is committed and what waits: how each step moves them. -/
namespace Go.Proofs.YtkmnhpnlkmiiiaaGreatDoor
open Go.RowKit Num Jr
set_option linter.unusedVariables false
set_option maxRecDepth 20000

namespace Jr
theorem loadOf_count (L : List (List Int)) : L.length ≤ (loadOf L).length := by
  induction L with
  | nil => simp
  | cons a r ih =>
    have := enc_pos a.length
    simp only [loadOf, List.map_cons, List.flatten_cons, txtB, List.length_append, List.length_cons] at ih ⊢
    omega
end Jr

theorem jbytes_flatten {L : List (List Int)} (h : ∀ l ∈ L, Bytes l) : Bytes L.flatten := by
  intro z hz
  obtain ⟨l, hl, hz'⟩ := List.mem_flatten.1 hz
  exact h l hl z hz'

/-- The disk of an image, as a journal sees it. -/
theorem jd_img {d : Dk} {w : World} {p : Nat} {L : List (List Int)} (hok : d.ok w p) (hn : d.n = L.length) (hd : d.dur = L.flatten) (hw : d.wr = d.dur) (he : d.eps = []) (ho : d.opn = false) (hB : ∀ l ∈ L, Bytes l) :
    Jd d w p L.length (fun i => if i < L.length then sec d.wr i else zero128) ∧ d.rest := by
  have hl := hok.dlen.2
  have hb : Bytes d.wr := by rw [hw, hd]; exact jbytes_flatten hB
  refine ⟨⟨hok, hn, fun i hi => by rw [if_pos hi], fun i hi => ?_, fun i => ?_, fun i => ?_, by rw [he]; simp, .inr he⟩, he, ho⟩
  · rw [if_pos hi, hw]
    simp [Dk.ab, he, over]
  · show Bytes (if i < L.length then sec d.wr i else zero128)
    split
    · exact (hb.drop _).take _
    · exact bytes_zero128
  · show (if i < L.length then sec d.wr i else zero128).length = 128
    split
    · exact length_sec _ d.n i hl (by rw [hn]; assumption)
    · simp [zero128]

/-- The law's two lists beside the blocks M of the journal; M and they are new since B. -/
structure Two (B : Nat) (w0 w : World) (M : List Nat) (vd vw : Value) (done waits : List (List Int)) : Prop where
  rd : Rl w (vb vw ++ M) vd done
  rq : Rl w (vb vd ++ M) vw waits
  m : ∀ x ∈ M, B ≤ x
  dn : ∀ x ∈ vb vd, B ≤ x
  wn : ∀ x ∈ vb vw, B ≤ x
  b : Below B w0 w
  s : B ≤ w.heap.size
  ml : ∀ x ∈ M, x < w.heap.size

theorem Two.move {B : Nat} {w0 w w' : World} {M M' : List Nat} {vd vw : Value} {done waits : List (List Int)} (h : Two B w0 w M vd vw done waits) (u : Upd (· ∈ M) w w') (g : Grew' w M M') (hl : ∀ x ∈ M', x < w'.heap.size) : Two B w0 w' M' vd vw done waits := by
  have hg : ∀ v : Value, Grew' w (vb v ++ M) (vb v ++ M') := fun v x hx => by
    rcases List.mem_append.1 hx with h | h
    · exact .inl (List.mem_append.2 (.inl h))
    · rcases g x h with h | h
      · exact .inl (List.mem_append.2 (.inr h))
      · exact .inr h
  have hu : ∀ v : Value, Upd (· ∈ vb v ++ M) w w' := fun v => u.mono (fun x _ hx => List.mem_append.2 (.inr hx))
  refine ⟨h.rd.upd (hu vw) (hg vw), h.rq.upd (hu vd) (hg vd), fun x hx => ?_, h.dn, h.wn, h.b.trans (u.below h.s h.m), Nat.le_trans h.s u.size, hl⟩
  rcases g x hx with h' | h'
  · exact h.m x h'
  · exact Nat.le_trans h.s h'

theorem Two.below {B : Nat} {w0 w w' : World} {M : List Nat} {vd vw : Value} {done waits : List (List Int)} (h : Two B w0 w M vd vw done waits) (hb : Below w.heap.size w w') : Two B w0 w' M vd vw done waits :=
  h.move (Upd.of_below hb) (fun _ h => .inl h) (fun x hx => Nat.lt_of_lt_of_le (h.ml x hx) hb.size)

/-- A record behind those that wait. -/
theorem Two.push {B : Nat} {w0 w WA w' : World} {M : List Nat} {vd vw vw' u0 : Value} {done waits : List (List Int)} {us : List Value} {zs : List Int} (h : Two B w0 w M vd vw done waits) (hbA : Below w.heap.size w WA)
    (ho : WA.ownsRow 0 29 1 vw waits.length us) (hus : ∀ j, ∀ h : j < waits.length, ∃ u, us[j]? = some u ∧ Bg WA (vb vw ++ (vb vd ++ M)) u waits[j])
    (hz : Bg WA (vb vw ++ (vb vd ++ M)) u0 zs) (hO : w'.ownsRow 0 29 1 vw' (waits.length + 1) (us ++ [u0])) (hU : Upd (fun x => vw.ownBlock = some x) WA w') (hW : vw'.ownBlock = vw.ownBlock ∨ ∀ x, vw'.ownBlock = some x → WA.heap.size ≤ x) : Two B w0 w' M vd vw' done (waits ++ [zs]) := by
  have hA := h.below hbA
  have hvw : ∀ k, vw.ownBlock = some k → k ∉ vb vd ++ M := by
    obtain ⟨_, _, h2, _⟩ := hA.rq
    exact h2
  have hdl := hA.rd.lt
  have hG : Grew' WA (vb vw ++ M) (vb vw' ++ M) := fun x hx => by
    rcases List.mem_append.1 hx with h | h
    · have h' : vw'.ownBlock = some x := by simpa [vb] using h
      rcases hW with hw | hw
      · exact .inl (List.mem_append.2 (.inl (by simp [vb, ← hw, h'])))
      · exact .inr (hw x h')
    · exact .inl (List.mem_append.2 (.inr h))
  refine ⟨hA.rd.upd (hU.mono (fun x _ hx => List.mem_append.2 (.inl (by have h' : vw.ownBlock = some x := hx; simp [vb, h'])))) hG, ?_, h.m, h.dn, fun x hx => ?_, hA.b.trans (hU.below hA.s (fun x hx => h.wn x (by have h' : vw.ownBlock = some x := hx; simp [vb, h']))), Nat.le_trans hA.s hU.size, fun x hx => Nat.lt_of_lt_of_le (hA.ml x hx) hU.size⟩
  · refine Rl.app (v2 := vw) (M2 := M) hvw ho hus (L2 := [zs]) (us2 := [u0]) rfl (fun j hj => ?_) hO hU hW (fun x hx => ?_)
    · have : j = 0 := by simpa using hj
      subst this
      exact ⟨u0, rfl, hz⟩
    · rcases List.mem_append.1 hx with h' | h'
      · exact hdl x h'
      · exact hA.ml x h'
  · have h' : vw'.ownBlock = some x := by simpa [vb] using hx
    rcases hW with hw | hw
    · exact h.wn x (by simp [vb, ← hw, h'])
    · exact Nat.le_trans hA.s (hw x h')

/-- What waits goes behind what is committed. -/
theorem Two.join {B : Nat} {w0 w w' : World} {M : List Nat} {vd vd' vw : Value} {done waits : List (List Int)} {us us2 : List Value} (h : Two B w0 w M vd vw done waits)
    (ho : w.ownsRow 0 29 1 vd done.length us) (hus : ∀ j, ∀ h : j < done.length, ∃ u, us[j]? = some u ∧ Bg w (vb vd ++ (vb vw ++ M)) u done[j])
    (hl2 : us2.length = waits.length) (hus2 : ∀ j, ∀ h : j < waits.length, ∃ u, us2[j]? = some u ∧ Bg w (vb vw ++ (vb vd ++ M)) u waits[j])
    (hO : w'.ownsRow 0 29 1 vd' (done.length + waits.length) (us ++ us2)) (hU : Upd (fun x => vd.ownBlock = some x) w w') (hW : vd'.ownBlock = vd.ownBlock ∨ ∀ x, vd'.ownBlock = some x → w.heap.size ≤ x) : Two B w0 w' M vd' (.slice none 0 0) (done ++ waits) [] := by
  have hvd : ∀ k, vd.ownBlock = some k → k ∉ M := fun k hk hx => by
    obtain ⟨_, _, h2, _⟩ := h.rd
    exact h2 k hk (List.mem_append.2 (.inr hx))
  refine ⟨?_, Rl.nil _ _, h.m, fun x hx => ?_, fun x hx => by simp [vb, Value.ownBlock] at hx, h.b.trans (hU.below h.s (fun x hx => h.dn x (by have h' : vd.ownBlock = some x := hx; simp [vb, h']))), Nat.le_trans h.s hU.size, fun x hx => Nat.lt_of_lt_of_le (h.ml x hx) hU.size⟩
  · show Rl w' M vd' (done ++ waits)
    refine Rl.app (v2 := vd) (M2 := M) hvd ho (fun j hj => ?_) hl2 (fun j hj => ?_) hO hU hW h.ml
    · obtain ⟨u, h1, h2⟩ := hus j hj
      exact ⟨u, h1, h2.weaken (fun x hx => by
        rcases List.mem_append.1 hx with h | h
        · exact List.mem_append.2 (.inl h)
        · exact List.mem_append.2 (.inr (List.mem_append.2 (.inr h))))⟩
    · obtain ⟨u, h1, h2⟩ := hus2 j hj
      exact ⟨u, h1, h2.weaken (fun x hx => List.mem_append.2 (.inr hx))⟩
  · have h' : vd'.ownBlock = some x := by simpa [vb] using hx
    rcases hW with hw | hw
    · exact h.dn x (by simp [vb, ← hw, h'])
    · exact Nat.le_trans h.s (hw x h')

/-- Other records are committed, and none wait. -/
theorem Two.swap {B : Nat} {w0 w w' : World} {M : List Nat} {vd vd' vw : Value} {done waits L : List (List Int)} (h : Two B w0 w M vd vw done waits) (hb : Below w.heap.size w w') (hr : Rl w' (vb vw ++ M) vd' L) (hn : ∀ x, vd'.ownBlock = some x → w.heap.size ≤ x) : Two B w0 w' M vd' vw L waits := by
  have hB := h.below hb
  refine ⟨hr, h.rq.upd (Upd.of_below hb) (fun x hx => ?_), h.m, fun x hx => ?_, h.wn, hB.b, hB.s, hB.ml⟩
  · rcases List.mem_append.1 hx with h' | h'
    · exact .inr (hn x (by simpa [vb] using h'))
    · exact .inl (List.mem_append.2 (.inr h'))
  · exact Nat.le_trans h.s (hn x (by simpa [vb] using hx))

/-- A journal, its disk, and the law's own lists. -/
def Fl (B : Nat) (w0 w : World) (jp p n : Nat) (vd vw : Value) : Prop :=
  ∃ (d : Dk) (S : Nat → List Int) (gen groups used : Nat) (done waits : List (List Int)) (wv : Value), Js d w jp p n S gen groups used done waits wv ∧ Two B w0 w (Jf d p jp wv) vd vw done waits

theorem Js.few {d : Dk} {w : World} {jp p n gen groups used : Nat} {S : Nat → List Int} {done waits : List (List Int)} {wv : Value} (h : Js d w jp p n S gen groups used done waits wv) : done.length ≤ 102400 ∧ waits.length ≤ 102400 := by
  have hn2 : n ≤ 2048 := by rw [← h.jd.dn]; exact h.jd.ok.n2
  have hsz : szOf n ≤ 1024 := by unfold szOf; omega
  have h1 := (h.ji.few h.jd.byt).1
  have h2 := h.ji.use
  have h3 := h.room
  have h4 := loadOf_count waits
  unfold needN at h3
  omega

/-- What the step's number comes to. -/
theorem which5 (x : Int) : ∃ s : Nat, wrap64 ((IntKind.u64.wrap x).tmod 5) = (s : Int) ∧ s < 5 := by
  have h0 : 0 ≤ IntKind.u64.wrap x := by rw [IntKind.wrap_u64]; omega
  rw [Int.tmod_eq_emod_of_nonneg h0]
  have h1 : 0 ≤ IntKind.u64.wrap x % 5 ∧ IntKind.u64.wrap x % 5 < 5 := by omega
  refine ⟨(IntKind.u64.wrap x % 5).toNat, ?_, by omega⟩
  rw [wrap64]
  omega

theorem five_results {fn : Func} {t u v x y : Tmp} (h : fn.results = #[.tmp t, .tmp u, .tmp v, .tmp x, .tmp y]) (tmps : Array Value) (P : Program) (w : World) :
    (results fn tmps).run P w = .ok (.tuple #[tmps.getD t undef, tmps.getD u undef, tmps.getD v undef, tmps.getD x undef, tmps.getD y undef]) w := by
  simp [results, h]

end Go.Proofs.YtkmnhpnlkmiiiaaGreatDoor

/- What 'filled' does: a journal behind calls. -/
namespace Go.Proofs.YtkmnhpnlkmiiiaaGreatDoor
open Go.RowKit Num Jr
set_option linter.unusedVariables false
set_option maxRecDepth 20000

theorem Rl.img {w : World} {M : List Nat} {v : Value} {L : List (List Int)} (h : Rl w M v L) : ∃ a c, v = .slice a L.length c ∧ L.length ≤ c ∧ c ≤ 9223372036854775807 ∧ Img w a L := by
  obtain ⟨us, ho, _, hj⟩ := h
  obtain ⟨a, c, rfl, h1, h2⟩ := own_shape ho
  refine ⟨a, c, rfl, h1, h2, fun h0 => ?_⟩
  obtain ⟨g, rfl⟩ : ∃ g, a = some ⟨g, 0, none⟩ := by
    rcases ho.2 with ⟨_, h⟩ | ⟨g, c, cur, h, _⟩
    · omega
    · injection h with h1 h2 h3; exact ⟨g, h1⟩
  refine ⟨g, 0, rfl, (ho.lt g rfl).2, fun j hjl => ?_⟩
  obtain ⟨u, h3, h4⟩ := hj j hjl
  exact ⟨u, by rw [Nat.zero_add, ho.cellAt _ (by omega)]; exact h3, h4.weaken (fun x hx => by simp at hx)⟩

def FilP (w : World) (L : List (List Int)) (e : Ending) (w' : World) : Prop :=
  (¬ (Gi L ∧ 4 ≤ L.length) ∧ e = .returned (.tuple #[.pointer none, .pointer none, .slice none 0 0, .slice none 0 0, .bool false]) ∧ Below w.heap.size w w') ∨
  (Gi L ∧ 4 ≤ L.length ∧ ∃ (p jp : Nat) (vd vw : Value), e = .returned (.tuple #[.pointer (some ⟨p, 0, none⟩), .pointer (some ⟨jp, 0, none⟩), vd, vw, .bool true]) ∧ Fl w.heap.size w w' jp p L.length vd vw)

/-- What Open made, as a list of the law's own, the journal's block among those outside. -/
theorem RcsT.rlj {w : World} {B m jp p gen first size groups used cnt : Nat} {v wv : Value} {L : List (List Int)} (h : RcsT w B m v L) (hL : ∀ l ∈ L, RecOk l) (hc : Jc w jp p gen first size groups used wv cnt) (M : List Nat) (hM : ∀ x ∈ M, x < B ∨ m ≤ x ∨ x = jp) : Rl w M v L := by
  have h' := h.rl hL (M.filter (fun x => decide (x ≠ jp))) (fun x hx => by
    have hx' := List.mem_filter.1 hx
    rcases hM x hx'.1 with h | h | h
    · exact .inl h
    · exact .inr h
    · exact absurd h (of_decide_eq_true hx'.2))
  obtain ⟨us0, ho0, hm0, hj0⟩ := h
  obtain ⟨us, ho, hv, hj⟩ := h'
  have hvj : v.ownBlock ≠ some jp := fun hv' => by
    rcases ho0.2 with ⟨e, _⟩ | ⟨g, c, cur, e, _, hg, _⟩
    · rw [e] at hv'; simp [Value.ownBlock] at hv'
    · rw [e] at hv'
      have : g = jp := by simpa [Value.ownBlock] using hv'
      rw [this, hc] at hg
      injection hg with hg
      injection hg with _ hg
      exact absurd hg (by decide)
  have hus : us = us0 := by
    rcases ho.2 with ⟨e, h0⟩ | ⟨g, c, cur, e, _, hg, _, _, _, ht⟩
    · have h1 := ho.1
      have h2 := ho0.1
      rw [h0] at h1 h2
      rw [List.length_eq_zero_iff.1 (by omega : us.length = 0), List.length_eq_zero_iff.1 (by omega : us0.length = 0)]
    · rcases ho0.2 with ⟨e', _⟩ | ⟨g', c', cur', e', _, hg', _, _, _, ht'⟩
      · rw [e'] at e; cases e
      · rw [e'] at e
        injection e with e1 e2 e3
        injection e1 with e1
        injection e1 with e1
        subst e1
        rw [hg'] at hg
        injection hg with hg
        injection hg with hg
        subst hg
        rw [← ht, ← ht']
  subst hus
  refine ⟨us, ho, fun k hk hx => ?_, fun j hjl => ?_⟩
  · by_cases e : k = jp
    · exact hvj (e ▸ hk)
    · exact hv k hk (List.mem_filter.2 ⟨hx, by simpa using e⟩)
  · obtain ⟨u, h1, a, c, e, h2, h3, h4⟩ := hj j hjl
    obtain ⟨u', g1, b, c', e', g2, _⟩ := hj0 j hjl
    rw [h1] at g1
    injection g1 with g1
    subst g1
    refine ⟨u, h1, a, c, e, h2, fun hp b' o' ea hx => ?_, h4⟩
    rw [e'] at e
    injection e with e1 e2 e3
    rw [ea] at e1
    injection e1 with e1
    injection e1 with e1 e4
    subst e1
    by_cases ej : b = jp
    · obtain ⟨b2, o2, eb, _, hcell⟩ := g2.2 hp
      simp only [Option.some.injEq, Addr.mk.injEq, and_true] at eb
      obtain ⟨rfl, rfl⟩ := eb
      have hc0 := hcell 0 hp
      have hcj : w.cell? ⟨jp, 0, none⟩ = some (.pointer (some ⟨p, 0, none⟩)) := heap_cells hc 0 _ rfl
      rw [ej, Nat.zero_add, hcj] at hc0
      cases hc0
    · refine h3 hp b o' ea ?_
      rcases List.mem_append.1 hx with h | h
      · exact List.mem_append.2 (.inl h)
      · exact List.mem_append.2 (.inr (List.mem_filter.2 ⟨h, by simpa using ej⟩))

/-- What Open leaves, with its list and no other. -/
theorem OpenP.fl {d : Dk} {w0 w w' : World} {p n jp m : Nat} {S : Nat → List Int} {v : Value} {d' : Dk} (hb : Below w0.heap.size w0 w) (J : Jd d w p n S) (hf : ∀ x ∈ d.foot p, w0.heap.size ≤ x) (h1 : w.heap.size ≤ jp) (h2 : jp ∉ d'.foot p) (h3 : Jstep d w d' w' p n (openS n S)) (h4 : d'.rest) (h5 : Jc w' jp p (openGen S) (firstOf (openGen S) n) (szOf n) (opened n S).2.1 (opened n S).2.2 (.slice none 0 0) 0) (h6 : RcsT w' w.heap.size m v (opened n S).1) (h7 : ∀ x ∈ d'.foot p, x < w.heap.size ∨ m ≤ x) : Fl w0.heap.size w0 w' jp p n v (.slice none 0 0) := by
  have hs := hb.size
  have hU : Upd (· ∈ d.foot p) w w' := h3.upd
  have hfj : ∀ x ∈ Jf d' p jp (.slice none 0 0), w0.heap.size ≤ x := fun x hx => by
    simp only [Jf, vb, Value.ownBlock, List.mem_cons, Option.toList, List.nil_append] at hx
    rcases hx with rfl | hx
    · omega
    · rcases h3.grew x hx with h | h
      · exact hf x h
      · omega
  have hM : ∀ x ∈ Jf d' p jp (.slice none 0 0), x < w.heap.size ∨ m ≤ x ∨ x = jp := fun x hx => by
    simp only [Jf, vb, Value.ownBlock, List.mem_cons, Option.toList, List.nil_append] at hx
    rcases hx with rfl | hx
    · exact .inr (.inr rfl)
    · rcases h7 x hx with h | h
      · exact .inl h
      · exact .inr (.inl h)
  have hjs : Js d' w' jp p n (openS n S) (openGen S) (opened n S).2.1 (opened n S).2.2 (opened n S).1 [] (.slice none 0 0) := ⟨h3.jd, h4, h5, JI.open n S J.all, by simpa [loadOf] using World.ownsRow_nil _ _ _ _, fun r hr => by simp at hr, by simp [loadOf, needN], h2, fun k hk => by simp [Value.ownBlock] at hk⟩
  refine ⟨d', openS n S, openGen S, (opened n S).2.1, (opened n S).2.2, (opened n S).1, [], .slice none 0 0, hjs, ?_⟩
  refine ⟨h6.rlj (opened_ok n S J.byt) h5 _ hM, Rl.nil _ _, hfj, fun x hx => ?_, fun x hx => by simp [vb, Value.ownBlock] at hx, hb.trans (hU.below hs hf), Nat.le_trans hs hU.size, hjs.lt⟩
  obtain ⟨us, ho, _⟩ := h6
  have := ho.lt x (by simpa [vb] using hx)
  omega

end Go.Proofs.YtkmnhpnlkmiiiaaGreatDoor

/- What 'filled' does: the walk. -/
namespace Go.Proofs.YtkmnhpnlkmiiiaaGreatDoor
open Go.RowKit Num Jr
set_option linter.unusedVariables false
set_option maxRecDepth 20000

set_option maxHeartbeats 8000000 in
theorem filled_any (al : Option Addr) (n cl : Nat) (L : List (List Int)) (la : Option Addr) (m lc : Nat) (w : World) (hi : Img w al L) (hn : L.length = n) (hc : n ≤ cl) (hc2 : cl ≤ 9223372036854775807) (hsz : n * 24 ≤ 140737488351232) (hB : ∀ l ∈ L, Bytes l) (hT : Tab w) (hD : Dos3 w la m) (hm : m ≤ lc) (hm2 : lc ≤ 9223372036854775807) :
    Calls Tryz.prog 7 #[.slice al n cl, .slice la m lc] w (FilP w L) := by
  obtain ⟨i0, hi0, hz0, hz1, hz2⟩ := info_parts Tryz.infoTB
  have hTl : 1 < w.heap.size := World.block_lt_of_cell? _ _ (hT 0 (by omega))
  have k1 := hid (pimg_rl al n cl L w [] hi hn hc hc2 hsz (fun x hx => by simp at hx))
  have HN := hid hn
  have HBB := hid hB
  have HT := hid hT
  have HD := hid hD
  clear hi hn hB hT hD
  go_enter Tryz.func7, Tryz.ntmps7
  go_upto_region 2 with (first | (go_at_call 22; refine k1.out.mono ?_; rintro e w1 ⟨v1, rfl, he1, hv1, hb1⟩; obtain ⟨a1, c1, rfl, hc11, hc12, him1⟩ := he1.img; have k2 := hid (dof_any a1 n c1 L w1 him1 HN.out (by rw [← HN.out]; exact hc11) hc12); rw [HN.out]; have HB1 := hid hb1; clear he1 hv1 hb1 him1 hc11 k1) | (go_at_call 16; refine k2.out.mono ?_; rintro e w2 h2; have H2 := hid h2; clear h2; rcases H2.out with ⟨hng, rfl, hb2⟩ | ⟨hg, p, d, rfl, hd, dn, dd, dw, de, dop, hdf, hb2⟩))
  · have HB2 := hid hb2
    have HNG := hid hng
    clear hb2 hng H2 k2
    go_wp2_with fail
    refine bodyPost_ret (five_results rfl _ _ _) rfl ?_
    exact .inl ⟨fun h => HNG.out h.1, rfl, HB1.out.trans (HB2.out.mono HB1.out.size)⟩
  · have hj := jd_img hd dn dd dw de dop HBB.out
    rw [HN.out] at hj
    obtain ⟨S, gS⟩ : ∃ S, S = fun i => if i < n then sec d.wr i else zero128 := ⟨_, rfl⟩
    rw [← gS] at hj
    have hbw : Below w.heap.size w w2 := HB1.out.trans (hb2.mono HB1.out.size)
    have hfw : ∀ x ∈ d.foot p, w.heap.size ≤ x := fun x hx => Nat.le_trans HB1.out.size (hdf x hx)
    have hT2 : Tab w2 := HT.out.below hbw hTl
    have hdT : 1 ∉ d.foot p := fun hx => by have := hfw _ hx; omega
    have hn1 : 1 ≤ n := by rw [← HN.out]; exact hg.1
    have HG := hid hg
    have HJ := hid hj.1
    have HBW := hid hbw
    have HFW := hid hfw
    by_cases h4 : n < 4
    · have kO := hid (jopen_few d p n S w2 hj.1 hn1 h4)
      clear hj hbw hfw hT2 hdT hd dn dd dw de dop hdf hb2 H2 k2 hg gS
      go_wp2_with (first | (go_at_call 28; refine kO.out.mono ?_; rintro r w3 ⟨rfl, hb3⟩; have HB3 := hid hb3; clear hb3))
      refine bodyPost_ret (five_results rfl _ _ _) rfl ?_
      exact .inl ⟨fun h => by have h1 := h.2; rw [HN.out] at h1; omega, rfl, HBW.out.trans (HB3.out.mono HBW.out.size)⟩
    · have kO := hid (jopen_any d p n S w2 hj.1 hj.2 hT2 hdT (by omega))
      clear hj hbw hfw hT2 hdT hd dn dd dw de dop hdf hb2 H2 k2 hg gS
      go_wp2_with (first | (go_at_call 28; refine kO.out.mono ?_; rintro r w3 h3; have H3 := hid h3; clear h3 kO; obtain ⟨jp, v3, d3, m3, e3, hjp, hjf, hs3, hr3, hj3, hc3, hf3⟩ := H3.out; subst e3; have HFL := hid (OpenP.fl HBW.out HJ.out HFW.out hjp hjf hs3 hr3 hj3 hc3 hf3); clear hjp hjf hs3 hr3 hj3 hc3 hf3 H3))
      have h4n : 4 ≤ n := by omega
      clear HBW HFW HJ h4
      go_loopw [12, 13, 34] (fun vd vw k wr => ∃ i : Nat, k = .int .i64 i ∧ i ≤ m ∧ Hid (Fl w.heap.size w wr jp p n vd vw)) (fun _ _ k _ => m - (intOf k).toNat)
      case atStart => exact ⟨0, rfl, Nat.zero_le _, HFL⟩
      case round =>
        clear HFL
        obtain ⟨i, rfl, him, HF⟩ := hrel
        obtain ⟨vd, hvd⟩ : ∃ vd, vd = u12 := ⟨_, rfl⟩
        obtain ⟨vw, hvw⟩ : ∃ vw, vw = u13 := ⟨_, rfl⟩
        rw [← hvd, ← hvw] at HF
        rw [← hvd, ← hvw]
        clear hvd hvw
        by_cases hlt : i < m
        · obtain ⟨b, o, e, hbl, hcc⟩ := HD.out (by omega)
          subst e
          obtain ⟨op, u, zs, ra, rc, R, hdo⟩ := hcc i hlt
          obtain ⟨d4, S4, gen, groups, used, done, waits, wv, hjs, htw⟩ := HF.out
          obtain ⟨q0, q1, q2, hbg, hzb, himR, hr1, hr2, hr3, hrB⟩ := hdo.below htw.b hbl
          obtain ⟨zl, gzl⟩ : ∃ zl, zl = zs.length := ⟨_, rfl⟩
          obtain ⟨rl, grl⟩ : ∃ rl, rl = R.length := ⟨_, rfl⟩
          have hu : ∃ a0 c0, u = .slice a0 zl c0 := by obtain ⟨a0, c0, e, _⟩ := hbg; exact ⟨a0, c0, by rw [e, gzl]⟩
          obtain ⟨a0, c0, rfl⟩ := hu
          rw [← grl] at q2 hr1 hr3
          obtain ⟨W, gW⟩ : ∃ W, W = wr.alloc (.cells #[.int .i64 op, .slice a0 zl c0, .slice ra rl rc] 70) := ⟨_, rfl⟩
          have hbA : Below wr.heap.size wr W := by rw [gW]; exact (Below.refl _ _).alloc (Nat.le_refl _) _
          have hW : W.heap[wr.heap.size]? = some (.cells #[.int .i64 op, .slice a0 zl c0, .slice ra rl rc] 70 (0, 0)) := by rw [gW]; exact heap_alloc_new _ _
          have hjW := hjs.below hbA
          have htW := htw.below hbA
          have hTf : ∀ x ∈ Jf d4 p jp wv, x ≠ 1 ∧ x ≠ wr.heap.size := fun x hx => ⟨by have := htw.m x hx; omega, by have := htw.ml x hx; omega⟩
          have HDO := hid hdo
          have GW := hid gW
          have GZ := hid gzl
          have GR := hid grl
          have HBA := hid hbA
          have HW := hid hW
          have HJW := hid hjW
          have HTW := hid htW
          have HTF := hid hTf
          have HBG := hid hbg
          have HZB := hid hzb
          have HIR := hid himR
          have HRB := hid hrB
          clear hcc hdo gW gzl grl hbA hW hjW htW hTf hbg hzb himR hrB hjs htw HF
          by_cases h30 : 30 < i
          · have h30v : (30 : Int) < (i : Int) := by omega
            go_wp2_with fail
            refine bodyPost_ret (five_results rfl _ _ _) rfl ?_
            exact .inr ⟨HG.out, by rw [HN.out]; exact h4n, p, jp, vd, vw, rfl, by rw [HN.out, ← GW.out]; exact ⟨d4, S4, gen, groups, used, done, waits, wv, HJW.out, HTW.out⟩⟩
          · have h30v : ¬ (30 : Int) < (i : Int) := by omega
            obtain ⟨s, hs, hs5⟩ := which5 op
            rcases (by omega : s = 3 ∨ s = 4 ∨ s = 0 ∨ s = 1 ∨ s = 2) with rfl | rfl | h012
            · have kM := hid (commit_any d4 jp p n gen groups used S4 done waits wv W HJW.out (HT.out.below HTW.out.b hTl) (fun hx => (HTF.out _ hx).1 rfl))
              go_upto_region 22 with (first | (go_at_call 13; rw [← GW.out]; refine kM.out.mono ?_; rintro r w5 h5; have H5 := hid h5; clear h5 kM; obtain ⟨d5, groups5, used5, wv5, e5, hj5, hu5, hg5⟩ := H5.out; subst e5; have HT5 := hid (HTW.out.move hu5 hg5 hj5.lt); have HJ5 := hid hj5; clear hj5 hu5 hg5 H5))
              obtain ⟨us, ho5, hv5, hus5⟩ := HT5.out.rd
              obtain ⟨us2, ho6, hv6, hus6⟩ := HT5.out.rq
              have hfew := HJW.out.few
              obtain ⟨ln, gln⟩ : ∃ ln, ln = done.length := ⟨_, rfl⟩
              obtain ⟨lw, glw⟩ : ∃ lw, lw = waits.length := ⟨_, rfl⟩
              rw [← gln] at ho5 hfew
              rw [← glw] at ho6 hfew
              have hul : us2.length = lw := by have := ho6.1; omega
              have hjf5 : ∀ k ∈ Jf d5 p jp wv5, ¬ vd.ownBlock = some k := fun k hk e => hv5 k e (List.mem_append.2 (.inr hk))
              obtain ⟨aw, cw, gvw, hcw1, hcw2⟩ := own_shape ho6
              have HUS := hid hus5
              have HUS2 := hid hus6
              have HO5 := hid ho5
              have HO6 := hid ho6
              have HUL := hid hul
              have HJF := hid hjf5
              have GLN := hid gln
              have GLW := hid glw
              have GVW := hid gvw
              clear hus5 hus6 ho5 hv5 hv6 hul hjf5 gln glw
              have haw : (aw = none ∧ lw = 0 ∧ cw = 0) ∨ ∃ g, aw = some ⟨g, 0, none⟩ := by
                rcases HO6.out.2 with ⟨h, h0⟩ | ⟨g, c, cur, h, _⟩
                · rw [gvw] at h; injection h with h1 h2 h3; exact .inl ⟨h1, h2, h3⟩
                · rw [gvw] at h; injection h with h1 h2 h3; exact .inr ⟨g, h1⟩
              clear ho6
              rcases haw with ⟨rfl, hl0, hc0⟩ | ⟨g, rfl⟩
              · subst hl0
                subst hc0
                subst gvw
                have HOX := HO6
                go_wp2_with (at_builtin; go_must (refine wpList_append_own_none rfl (.tmp 74) (.tmp 75) 22 rfl 0 29 i0 1 Tryz.underlying22 hi0 vd ln us rfl HO5.out rfl ?_))
                have hw0 : waits = [] := List.length_eq_zero_iff.1 GLW.out.symm
                have hu0 : us2 = [] := List.length_eq_zero_iff.1 HUL.out
                have hj6 := HT5.out.join (us := us) (us2 := us2) (vd' := vd) (w' := w5) (by rw [← GLN.out]; exact HO5.out) HUS.out (by rw [HUL.out, GLW.out]) HUS2.out (by rw [← GLN.out, ← GLW.out, hu0, List.append_nil]; exact HO5.out) (Upd.refl _ _) (.inl rfl)
                go_roundw
                case rel => exact ⟨i + 1, by go_num, by omega, hid ⟨d5, _, gen, groups5, used5, done ++ waits, [], wv5, HJ5.out, hj6⟩⟩
                case measure => simp [intOf]; omega
              · subst gvw
                have hcells : ∀ j u, us2[j]? = some u → w5.cell? ((⟨g, 0, none⟩ : Addr).add j) = some u := fun j u hu => by
                  have hjl : j < lw := by have := (List.getElem?_eq_some_iff.1 hu).1; have := HUL.out; omega
                  have := HO6.out.cellAt j (by omega)
                  have ea : (⟨g, 0, none⟩ : Addr).add j = ⟨g, j, none⟩ := by
                    simp only [Addr.add]
                    split
                    · rename_i h0; rw [h0]
                    · simp
                  rw [ea, this]; exact hu
                have hone : ∀ u ∈ us2, u.oneCell' = true := fun u hu => by
                  obtain ⟨j, hj, rfl⟩ := List.getElem_of_mem hu
                  obtain ⟨u', h1, a, c, e, _⟩ := HUS2.out j (by have := HUL.out; have := GLW.out; omega)
                  rw [List.getElem?_eq_getElem hj] at h1
                  injection h1 with h1
                  rw [h1, e]; simp [Value.oneCell']
                go_wp2_with (at_builtin; go_must (refine wpList_append_where rfl _ _ 22 rfl 29 i0 _ 1 24 Tryz.underlying22 hi0 hz0 hz1 hz2 rfl (by decide) vd ln us rfl HO5.out ⟨g, 0, none⟩ lw cw us2 rfl (by rw [HUL.out, Nat.mul_one]) hcells hone (by unfold maxLen; omega) (by omega) ?_; intro vd' w6 hO6 hU6 hN6 hW6; have HO7 := hO6; have HW7 := hW6; have HU7 := hid hU6; clear hO6 hU6 hN6 hW6))
                have hj6 := HT5.out.join (us := us) (us2 := us2) (vd' := vd') (w' := w6) (by rw [← GLN.out]; exact HO5.out) HUS.out (by rw [HUL.out, GLW.out]) HUS2.out (by rw [← GLN.out, ← GLW.out]; exact HO7.out) HU7.out HW7.out
                have hjs6 := HJ5.out.upd HU7.out HJF.out
                go_roundw
                case rel => exact ⟨i + 1, by go_num, by omega, hid ⟨d5, _, gen, groups5, used5, done ++ waits, [], wv5, hjs6, hj6⟩⟩
                case measure => simp [intOf]; omega
            · have kP := hid (compact_any d4 jp p n gen groups used S4 done waits wv ra rl rc R W HJW.out (HT.out.below HTW.out.b hTl) (fun hx => (HTF.out _ hx).1 rfl) (HIR.out.below HBA.out) GR.out.symm hr1 hr2 HRB.out h4n)
              go_upto_region 14 with fail
              rw [← GW.out]
              refine kP.out.mono ?_
              rintro r w5 h5
              obtain ⟨code, e5, hu5, h5⟩ := h5
              subst e5
              have HB5 := hid (hu5.heap HW.out (fun hx => (HTF.out _ hx).2 rfl))
              rcases h5 with ⟨hcode, hw0, hok5, hgen5, hneed5, d5, groups5, used5, hj5, hg5⟩ | ⟨hcode, hj5, _⟩
              · subst hcode
                subst hw0
                have ht5 := HTW.out.move hu5 hg5 hj5.lt
                have r2 : w5.cell? ⟨wr.heap.size, 2, none⟩ = some (.slice ra rl rc) := heap_cells HB5.out 2 _ rfl
                obtain ⟨_, _, _, _, _, him0, _⟩ := HDO.out
                have hM : ∀ x ∈ vb vw ++ Jf d5 p jp (.slice none 0 0), x < w5.heap.size := fun x hx => by
                  rcases List.mem_append.1 hx with h | h
                  · exact ht5.rq.lt x h
                  · exact ht5.ml x h
                have kI := hid (pimg_rl ra rl rc R w5 _ (him0.below ht5.b) GR.out.symm hr1 hr2 hr3 hM)
                have HT5 := hid ht5
                have HJ5 := hid hj5
                clear ht5 hj5 hg5 hok5 hgen5 hneed5 hu5 him0 hM kP
                go_wp2_with (first | (go_at_call 22; refine kI.out.mono ?_; rintro r w6 ⟨v6, rfl, hr6, hn6, hb6⟩; have HR6 := hid hr6; have HN6 := hid hn6; have HB6 := hid hb6; clear hr6 hn6 hb6 kI))
                go_roundw
                case rel => exact ⟨i + 1, by go_num, by omega, hid ⟨d5, _, gen + 1, groups5, used5, R, [], .slice none 0 0, HJ5.out.below HB6.out, HT5.out.swap HB6.out HR6.out HN6.out⟩⟩
                case measure => simp [intOf]; omega
              · have hcv : ¬ (code : Int) = 0 := by omega
                have HT5 := hid (HTW.out.move hu5 (fun _ h => .inl h) hj5.lt)
                have HJ5 := hid hj5
                clear hj5 hu5 kP
                go_wp2_with fail
                go_roundw
                case rel => exact ⟨i + 1, by go_num, by omega, hid ⟨d4, _, gen, groups, used, done, waits, wv, HJ5.out, HT5.out⟩⟩
                case measure => simp [intOf]; omega
            · rcases h012 with rfl | rfl | rfl
              all_goals
                have kA := hid (append_any d4 jp p n gen groups used S4 done waits wv a0 zl c0 zs W HJW.out (HBG.out.below HBA.out) HZB.out)
                go_upto_region 19 with fail
                rw [← GW.out]
                refine kA.out.mono ?_
                rintro r w5 ⟨code, wv5, e5, hj5, hok5, hu5, hg5⟩
                subst e5
                have HT5 := hid (HTW.out.move hu5 hg5 hj5.lt)
                have HB5 := hid (hu5.heap HW.out (fun hx => (HTF.out _ hx).2 rfl))
                clear hu5 hg5 kA
                by_cases hcode : code = 0
                · subst hcode
                  rw [if_pos rfl] at hj5
                  have r1 : w5.cell? ⟨wr.heap.size, 1, none⟩ = some (.slice a0 zl c0) := heap_cells HB5.out 1 _ rfl
                  obtain ⟨_, _, _, hbg0, _⟩ := HDO.out
                  have kc := hid (clone_bg (hbg0.below HT5.out.b))
                  have hfew := HJW.out.few
                  have HJ5 := hid hj5
                  clear hj5 hok5 hbg0
                  go_wp2_with fail
                  refine kc.out.mono ?_
                  rintro r w6 ⟨v6, rfl, hbg6, hn6, hb6⟩
                  have hv6 : ∃ a6 c6, v6 = .slice a6 zl c6 := by obtain ⟨a6, c6, e6, _⟩ := hbg6; exact ⟨a6, c6, by rw [e6, GZ.out]⟩
                  obtain ⟨a6, c6, rfl⟩ := hv6
                  have ht6 := HT5.out.below hb6
                  obtain ⟨us, ho6, hvk, hus⟩ := ht6.rq
                  obtain ⟨lw, glw⟩ : ∃ lw, lw = waits.length := ⟨_, rfl⟩
                  rw [← glw] at ho6 hfew
                  have HO6 := hid ho6
                  have HUS := hid hus
                  have HVK := hid hvk
                  have HBG6 := hid hbg6
                  have HN6 := hid hn6
                  have HB6 := hid hb6
                  have HT6 := hid ht6
                  have GLW := hid glw
                  clear ho6 hus hvk hbg6 hn6 hb6 ht6 glw kc
                  go_wp2_with (at_builtin; go_must (refine wpList_append_where rfl _ _ 22 rfl 29 i0 _ 1 24 Tryz.underlying22 hi0 hz0 hz1 hz2 rfl (by decide) vw lw us rfl (HO6.out.alloc _) ⟨_, 0, none⟩ 1 1 [.slice a6 zl c6] rfl rfl (cell_one_new _ _ _) (by simp [Value.oneCell']) (by unfold maxLen; omega) (by omega) ?_))
                  intro vw' w7 hO7 hU7 hN7 hW7
                  obtain ⟨WA, gWA⟩ : ∃ WA, WA = w6.alloc (.cells #[.slice a6 zl c6] 29) := ⟨_, rfl⟩
                  have hbA : Below w6.heap.size w6 WA := by rw [gWA]; exact (Below.refl _ _).alloc (Nat.le_refl _) _
                  rw [← gWA] at hU7
                  have hW7' : vw'.ownBlock = vw.ownBlock ∨ ∀ x, vw'.ownBlock = some x → WA.heap.size ≤ x := by
                    have hsA : w6.heap.size + 1 = WA.heap.size := by rw [gWA]; simp
                    rw [← hsA]; exact hW7.out
                  have hs6 := HB6.out.size
                  have hbg7 : Bg WA (vb vw ++ (vb vd ++ Jf d4 p jp wv5)) (.slice a6 zl c6) zs := (HBG6.out.below hbA).fresh (B := w5.heap.size) (fun b o c n e => HN6.out b o c n e) _ (fun x hx => by
                    rcases List.mem_append.1 hx with h | h
                    · exact HT5.out.rq.lt x h
                    · rcases List.mem_append.1 h with h | h
                      · exact HT5.out.rd.lt x h
                      · exact HT5.out.ml x h)
                  have ht7 := HT6.out.push (us := us) (u0 := .slice a6 zl c6) (zs := zs) (vw' := vw') (w' := w7) hbA (by rw [← GLW.out]; exact own_below HO6.out hbA) (fun j hj => by
                    obtain ⟨u, h1, h2⟩ := HUS.out j hj
                    exact ⟨u, h1, h2.below hbA⟩) hbg7 (by rw [← GLW.out]; exact hO7.out) hU7 hW7'
                  have hj7 := ((HJ5.out.below HB6.out).below hbA).upd hU7 (fun k hk e => HVK.out k e (List.mem_append.2 (.inr hk)))
                  have HT7 := hid ht7
                  have HJ7 := hid hj7
                  clear ht7 hj7 hbg7 hU7 hO7 hN7 hW7 hW7' gWA hbA
                  go_wp2_with fail
                  go_roundw
                  case rel => exact ⟨i + 1, by go_num, by omega, hid ⟨d4, _, gen, groups, used, done, waits ++ [zs], wv5, HJ7.out, HT7.out⟩⟩
                  case measure => simp [intOf]; omega
                · rw [if_neg hcode] at hj5
                  have hcv : ¬ (code : Int) = 0 := by omega
                  have HJ5 := hid hj5
                  clear hj5 hok5
                  go_wp2_with fail
                  go_roundw
                  case rel => exact ⟨i + 1, by go_num, by omega, hid ⟨d4, _, gen, groups, used, done, waits, wv5, HJ5.out, HT5.out⟩⟩
                  case measure => simp [intOf]; omega
        · obtain rfl : i = m := by omega
          go_wp2_with fail
          refine bodyPost_ret (five_results rfl _ _ _) rfl ?_
          exact .inr ⟨HG.out, by rw [HN.out]; omega, p, jp, vd, vw, rfl, by rw [HN.out]; exact HF.out⟩
end Go.Proofs.YtkmnhpnlkmiiiaaGreatDoor

/- JournalKeeps: behind Commit the disk's journal has all records, also behind a crash. -/
namespace Go.Proofs.YtkmnhpnlkmiiiaaGreatDoor
open Go.RowKit Num Jr
set_option linter.unusedVariables false
set_option maxRecDepth 20000

theorem keeps1 (a : Option Addr) (n c : Nat) (w : World) (hn : n ≠ 128) : Calls Tryz.prog 9 #[.slice a n c] w fun e w' => e = .returned (.bool true) ∧ w' = w := by
  have hv : ¬ (n : Int) = 128 := by omega
  go_enter Tryz.func9, Tryz.ntmps9
  go_wp2_with fail
  go_ret
  refine ⟨?_, rfl⟩
  show Ending.returned (.bool ((n : Int) != 128)) = _
  rw [show ((n : Int) != 128) = true by simpa using hv]
theorem keeps0 (a : Option Addr) (c : Nat) (w : World) : Calls Tryz.prog 9 #[.slice a 128 c] w fun e w' => e = .returned (.bool false) ∧ w' = w := by
  go_enter Tryz.func9, Tryz.ntmps9
  go_wp2_with fail
  go_ret
  exact ⟨rfl, rfl⟩

set_option maxHeartbeats 1000000 in
theorem indexf_bad (al : Option Addr) (n cl : Nat) (L : List (List Int)) (w : World) (h : Img w al L) (hn : L.length = n) (hc : n ≤ cl) (hc2 : cl ≤ 9223372036854775807) (j : Nat) (hj : j < L.length) (hb : L[j].length ≠ 128) :
    Calls Tryz.prog 31 #[.slice al n cl, .func (.func 9) #[] #[]] w fun e w' => (∃ k : Nat, e = .returned (.int .i64 k)) ∧ w' = w := by
  have H := hid h
  have HN := hid hn
  have HJ := hid hb
  have hjn : j < n := by omega
  clear h hn
  go_enter Tryz.func31, Tryz.ntmps31
  go_wp2_with fail
  go_loop [8] (fun k => ∃ i : Nat, k = .int .i64 i ∧ i ≤ j) (fun k => n - (intOf k).toNat)
  case atStart => exact ⟨0, rfl, Nat.zero_le _⟩
  case round =>
    obtain ⟨i, rfl, hi⟩ := hrel
    have hil : i < L.length := by omega
    have hin : i < n := by omega
    obtain ⟨b, o, e, hbl, hcc⟩ := H.out (by omega)
    subst e
    obtain ⟨u, hu, a, cc, eu, _⟩ := hcc i hil
    subst eu
    have HNE : Hid (i = j → L[i].length ≠ 128) := hid (fun e => by have := HJ.out; subst e; exact this)
    obtain ⟨l, gl⟩ : ∃ l, l = L[i].length := ⟨_, rfl⟩
    rw [← gl] at hu
    have HNE2 : Hid (i = j → l ≠ 128) := hid (fun e => by rw [gl]; exact HNE.out e)
    clear HNE gl hcc
    by_cases hl : l = 128
    · subst hl
      have hne : i ≠ j := fun e => HNE2.out e rfl
      have k0 := hid (keeps0 a cc w)
      go_wp2_with (first | (go_at_call 9; refine k0.out.mono ?_; rintro r w2 ⟨rfl, h⟩; subst w2))
      go_round
      case rel => exact ⟨i + 1, by go_num, by omega⟩
      case measure => simp [intOf]; omega
    · have k1 := hid (keeps1 a l cc w hl)
      go_wp2_with (first | (go_at_call 9; refine k1.out.mono ?_; rintro r w2 ⟨rfl, h⟩; subst w2))
      go_ret
      exact ⟨⟨i, rfl⟩, rfl⟩

theorem contf_bad (al : Option Addr) (n cl : Nat) (L : List (List Int)) (w : World) (h : Img w al L) (hn : L.length = n) (hc : n ≤ cl) (hc2 : cl ≤ 9223372036854775807) (j : Nat) (hj : j < L.length) (hb : L[j].length ≠ 128) :
    Calls Tryz.prog 8 #[.slice al n cl, .func (.func 9) #[] #[]] w fun e w' => e = .returned (.bool true) ∧ w' = w := by
  have k := hid (indexf_bad al n cl L w h hn hc hc2 j hj hb)
  clear h hn hb
  go_enter Tryz.func8, Tryz.ntmps8
  go_wp2_with fail
  refine k.out.mono ?_
  rintro r w1 ⟨⟨i, rfl⟩, h⟩
  subst w1
  have hi : (0 : Int) ≤ (i : Int) := by omega
  go_wp2_with fail
  go_ret
  exact ⟨rfl, rfl⟩

/-- A disk at rest, behind a crash that brings nothing. -/
theorem Jd.crashed {d : Dk} {w w' : World} {p n : Nat} {S : Nat → List Int} (h : Jd d w p n S) (hr : d.rest) (hs : Settled w d p (landAll d.dur (d.ab.take 0)) w') : ∃ d', Jd d' w' p n S ∧ d'.rest := by
  have e1 : d.ab = [] := by simp [Dk.ab, hr.1]
  have hov := h.ov
  rw [e1] at hov
  have e2 : landAll d.dur (d.ab.take 0) = d.dur := by simp [landAll]
  rw [e2] at hs
  exact ⟨_, ⟨hs.1, h.dn, fun i hi => hov i hi, fun i hi => by simpa [Dk.ab] using hov i hi, h.byt, h.all, by simp, .inr rfl⟩, rfl, rfl⟩

/-- 'append' as it is known to run, also behind a guard that holds. -/
theorem wpList_append_g {P : Program} {w : World} {ops : Array Oper} {rest : List Oper} {o : Oper} {a : Act} {Q : Exit → Act → World → Prop} (hw : Region.wanted o (yielded ops a.tmps) = true) (s x : Operand) (t : TypeId)
    (ho : o.op = .call { callee := .builtin .append, args := #[s, x], argTypes := #[t, t] }) (vs vx v' : Value) (w' : World) (hs : a.eval s = vs) (hx : a.eval x = vx) (hrun : (Builtin.append_ #[t, t] o.type #[vs, vx]).run P w = .ok v' w')
    (h : wpList P ops Q rest (a.put o.dst v') w') : wpList P ops Q (o :: rest) a w := by
  refine wpList_step fun K hK => ?_
  rw [if_pos hw]
  unfold Oper.wp
  simp [execOp, ho, resolve, invoke, builtin, hs, hx, hrun, Result.andThen]
  exact hK _ _ h

set_option maxHeartbeats 8000000 in
theorem keeps_road (al : Option Addr) (n cl : Nat) (L : List (List Int)) (la : Option Addr) (m lc : Nat) (w : World) (hi : Img w al L) (hn : L.length = n) (hc : n ≤ cl) (hc2 : cl ≤ 9223372036854775807) (hsz : n * 24 ≤ 140737488351232) (hB : ∀ l ∈ L, Bytes l) (hT : Tab w) (hD : Dos3 w la m) (hm : m ≤ lc) (hm2 : lc ≤ 9223372036854775807) :
    Calls Tryz.prog 3 #[.slice al n cl, .slice la m lc] w fun e w' => e = .returned (.bool true) ∧ Below w.heap.size w w' := by
  obtain ⟨i0, hi0, hz0, hz1, hz2⟩ := info_parts Tryz.infoTB
  have hTl : 1 < w.heap.size := World.block_lt_of_cell? _ _ (hT 0 (by omega))
  have kF := hid (filled_any al n cl L la m lc w hi hn hc hc2 hsz hB hT hD hm hm2)
  have HI := hid hi
  have HN := hid hn
  have HT := hid hT
  clear hi hn hB hT hD
  go_enter Tryz.func3, Tryz.ntmps3
  go_wp2_with fail
  refine kF.out.mono ?_
  rintro r w1 h1
  rcases h1 with ⟨hng, rfl, hb1⟩ | ⟨hg, h4, p, jp, vd, vw, rfl, hfl⟩
  · have HB1 := hid hb1
    have HNG := hid hng
    clear hb1 hng kF
    by_cases h4 : n < 4
    · have h4v : (n : Int) < 4 := by omega
      go_wp2_with fail
      go_ret
      exact ⟨rfl, HB1.out⟩
    · have h4v : ¬ (n : Int) < 4 := by omega
      by_cases hbig : 2048 < n
      · have hbv : (2048 : Int) < (n : Int) := by omega
        go_wp2_with fail
        go_ret
        exact ⟨rfl, HB1.out⟩
      · have hbv : ¬ (2048 : Int) < (n : Int) := by omega
        have hbad : ∃ j, ∃ h : j < L.length, L[j].length ≠ 128 := by
          refine Classical.byContradiction fun hx => HNG.out ⟨⟨?_, ?_, fun l hl => ?_⟩, ?_⟩
          · rw [HN.out]; omega
          · rw [HN.out]; omega
          · obtain ⟨j, hj, rfl⟩ := List.getElem_of_mem hl
            exact Classical.byContradiction fun h => hx ⟨j, hj, h⟩
          · rw [HN.out]; omega
        obtain ⟨j, hj, hb⟩ := hbad
        have kC := hid (contf_bad al n cl L w1 (HI.out.below HB1.out) HN.out hc hc2 j hj hb)
        clear hj hb
        go_wp2_with (first | (go_at_call 8; refine kC.out.mono ?_; rintro r w2 ⟨rfl, h⟩; subst w2))
        go_ret
        exact ⟨rfl, HB1.out⟩
  · rw [HN.out] at hfl h4
    obtain ⟨d, S, gen, groups, used, done, waits, wv, hjs, htw⟩ := hfl
    have hT1 : Tab w1 := HT.out.below htw.b hTl
    have hTf : 1 ∉ Jf d p jp wv := fun hx => by have := htw.m _ hx; omega
    have kL := hid (lrecs_any d p n S w1 hjs.jd hjs.rest hT1 h4)
    rw [hjs.ji.opened.1] at kL
    have HJ1 := hid hjs
    have HT1 := hid htw
    have HF := hid hTf
    have HTB1 := hid hT1
    clear hjs htw hTf hT1 kF hg
    go_upto_region 5 with (first | (go_at_call 10; refine kL.out.mono ?_; rintro r w2 ⟨v2, m2, rfl, hr2, hb2⟩; have HR2 := hid hr2; have HB2 := hid hb2; clear hr2 hb2 kL))
    have hfew := HJ1.out.few
    have hok := (HJ1.out.ji.few HJ1.out.jd.byt).2
    have ht2 := HT1.out.below HB2.out
    have hj2 := HJ1.out.below HB2.out
    have hT2 : Tab w2 := HT.out.below ht2.b hTl
    obtain ⟨a2, c2, rfl, hc21, hc22, him2⟩ := HR2.out.img (fun l hl => by have := (hok l hl).2.1; omega)
    obtain ⟨ad, cd, gvd, hcd1, hcd2, himd⟩ := ht2.rd.img
    have kE := hid (img_eqf a2 ad done.length c2 cd done w2 him2 himd rfl hc21 hc22 hcd1 hcd2)
    have kM := hid (commit_any d jp p n gen groups used S done waits wv w2 hj2 hT2 HF.out)
    obtain ⟨ln, gln⟩ : ∃ ln, ln = done.length := ⟨_, rfl⟩
    rw [← gln] at kE gvd hfew
    rw [← gln]
    have HT2 := hid ht2
    have GVD := hid gvd
    have GLN := hid gln
    subst gvd
    clear him2 himd ht2 hj2 hT2 hc21 hc22 hcd1 hcd2 gln hok
    go_upto_region 7 with (first | (go_at_call 11; refine kE.out.mono ?_; rintro r wx ⟨rfl, h⟩; subst wx) | (go_at_call 13; refine kM.out.mono ?_; rintro r w3 h3; have H3 := hid h3; clear h3 kM; obtain ⟨d3, groups3, used3, wv3, e3, hj3, hu3, hg3⟩ := H3.out; subst e3; have HT3 := hid (HT2.out.move hu3 hg3 hj3.lt); have HJ3 := hid hj3; have kK := hid (crash_none d3 p 0 w3 hj3.jd.ok (Nat.zero_le _) (by rw [hj3.rest.1]; simp)); clear hj3 hu3 hg3 H3) | (go_at_call 14; refine kK.out.mono ?_; rintro r w4 ⟨rfl, hs4⟩; have HS4 := hid hs4; clear hs4 kK))
    obtain ⟨d4, hd4, hr4⟩ := HJ3.out.jd.crashed HJ3.out.rest HS4.out
    have ht4 := HT3.out.move (HS4.out.2.mono (fun x _ hx => (by have h' : x ∈ d3.foot p := hx; simp [Jf, h'] : x ∈ Jf d3 p jp wv3))) (fun _ h => .inl h) (fun x hx => Nat.lt_of_lt_of_le (HT3.out.ml x hx) HS4.out.2.size)
    have hT4 : Tab w4 := HT.out.below ht4.b hTl
    have kL2 := hid (lrecs_any d4 p n _ w4 hd4 hr4 hT4 h4)
    rw [HJ3.out.ji.opened.1] at kL2
    have HT4 := hid ht4
    clear ht4 hT4 hd4 hr4
    go_upto_region 8 with (first | (go_at_call 10; refine kL2.out.mono ?_; rintro r w5 ⟨v5, m5, rfl, hr5, hb5⟩; have HR5 := hid hr5; have HB5 := hid hb5; clear hr5 hb5 kL2))
    have ht5 := HT4.out.below HB5.out
    have hok5 := (HJ3.out.ji.few HJ3.out.jd.byt).2
    have hr5 : Rl w5 (vb (.slice ad ln cd)) v5 (done ++ waits) := HR5.out.rl hok5 _ (fun x hx => .inl (HT4.out.rd.lt x hx))
    obtain ⟨us, ho5, hv5, hus5⟩ := ht5.rd
    obtain ⟨us2, ho6, hv6, hus6⟩ := ht5.rq
    obtain ⟨lw, glw⟩ : ∃ lw, lw = waits.length := ⟨_, rfl⟩
    rw [← GLN.out] at ho5
    rw [← glw] at ho6 hfew
    have hul : us2.length = lw := by have := ho6.1; omega
    obtain ⟨aw, cw, gvw, hcw1, hcw2⟩ := own_shape ho6
    obtain ⟨a5, c5, g5, hc51, hc52, _⟩ := hr5.img
    subst g5
    have hll : (done ++ waits).length = ln + lw := by rw [List.length_append, ← GLN.out, ← glw]
    rw [hll] at hr5 hc51
    rw [hll]
    have HR5' := hid hr5
    have HT5 := hid ht5
    have HUS := hid hus5
    have HUS2 := hid hus6
    have HO5 := hid ho5
    have HO6 := hid ho6
    have HUL := hid hul
    have GLW := hid glw
    have HLL := hid hll
    have haw : (aw = none ∧ lw = 0 ∧ cw = 0) ∨ ∃ g, aw = some ⟨g, 0, none⟩ := by
      rcases HO6.out.2 with ⟨h, h0⟩ | ⟨g, c, cur, h, _⟩
      · rw [gvw] at h; injection h with h1 h2 h3; exact .inl ⟨h1, h2, h3⟩
      · rw [gvw] at h; injection h with h1 h2 h3; exact .inr ⟨g, h1⟩
    clear hr5 ht5 hus5 hus6 ho5 ho6 hul glw hll hv5 hv6 hok5
    have kE3 : Hid (∀ (vd' : Value) (w6 : World), Two w.heap.size w w6 (Jf d3 p jp wv3) vd' (.slice none 0 0) (done ++ waits) [] → Upd (fun x => (Value.slice ad ln cd).ownBlock = some x) w5 w6 → ∃ av cv, vd' = .slice av (ln + lw) cv ∧ Calls Tryz.prog 11 #[.slice a5 (ln + lw) c5, .slice av (ln + lw) cv, .func (.func 12) #[] #[]] w6 fun e w' => e = .returned (.bool true) ∧ w' = w6) := hid (fun vd' w6 ht hu => by
      obtain ⟨av, cv, e, h1, h2, himv⟩ := ht.rd.img
      obtain ⟨a5', c5', e5, h3, h4, him5⟩ := (HR5'.out.upd (hu.mono (fun x _ hx => (by have h' : (Value.slice ad ln cd).ownBlock = some x := hx; simp [vb, h'] : x ∈ vb (.slice ad ln cd)))) (fun _ h => .inl h)).img
      rw [HLL.out] at e h1 e5 h3
      injection e5 with e51 e52 e53
      subst e51
      subst e53
      exact ⟨av, cv, e, img_eqf a5 av (ln + lw) c5 cv (done ++ waits) w6 him5 himv HLL.out h3 h4 h1 h2⟩)
    rcases haw with ⟨rfl, hl0, hc0⟩ | ⟨g, rfl⟩
    · subst hl0
      subst hc0
      subst gvw
      have hu0 : us2 = [] := List.length_eq_zero_iff.1 HUL.out
      have hj6 := HT5.out.join (us := us) (us2 := us2) (vd' := .slice ad ln cd) (w' := w5) (by rw [← GLN.out]; exact HO5.out) HUS.out (by rw [HUL.out, GLW.out]) HUS2.out (by rw [← GLN.out, ← GLW.out, hu0, List.append_nil]; exact HO5.out) (Upd.refl _ _) (.inl rfl)
      obtain ⟨av, cv, ev, kE4⟩ := kE3.out _ _ hj6 (Upd.refl _ _)
      injection ev with ev1 ev2 ev3
      subst ev1
      subst ev3
      have KE4 := hid kE4
      have HJ6 := hid hj6
      clear kE4 hj6 kE3 hu0 ev2
      have HRUN := hid (run_append_owned_none (P := Tryz.prog) (w := w5) 0 22 22 29 i0 1 Tryz.underlying22 hi0 (.slice ad ln cd) ln us HO5.out)
      go_wp2_with (at_builtin; refine wpList_append_g rfl (.tmp 68) (.tmp 69) 22 rfl _ _ _ _ rfl rfl HRUN.out ?_)
      refine KE4.out.mono ?_
      rintro r wx ⟨rfl, h⟩
      subst wx
      go_wp2_with fail
      go_ret
      exact ⟨rfl, HT5.out.b⟩
    · subst gvw
      have hcells : ∀ j u, us2[j]? = some u → w5.cell? ((⟨g, 0, none⟩ : Addr).add j) = some u := fun j u hu => by
        have hjl : j < lw := by have := (List.getElem?_eq_some_iff.1 hu).1; have := HUL.out; omega
        have := HO6.out.cellAt j (by omega)
        have ea : (⟨g, 0, none⟩ : Addr).add j = ⟨g, j, none⟩ := by
          simp only [Addr.add]
          split
          · rename_i h0; rw [h0]
          · simp
        rw [ea, this]; exact hu
      have hone : ∀ u ∈ us2, u.oneCell' = true := fun u hu => by
        obtain ⟨j, hj, rfl⟩ := List.getElem_of_mem hu
        obtain ⟨u', h1, a, c, e, _⟩ := HUS2.out j (by have := HUL.out; have := GLW.out; omega)
        rw [List.getElem?_eq_getElem hj] at h1
        injection h1 with h1
        rw [h1, e]; simp [Value.oneCell']
      obtain ⟨vd', w6, hrun, hO6, hG6, hN6, hW6⟩ := run_append_where (P := Tryz.prog) w5 22 22 29 i0 _ 1 24 Tryz.underlying22 hi0 hz0 hz1 hz2 rfl (by decide) (.slice ad ln cd) ln us HO5.out ⟨g, 0, none⟩ lw cw us2 (by rw [HUL.out, Nat.mul_one]) hcells hone (by unfold maxLen; omega) (by omega)
      have hU6 : Upd (fun x => (Value.slice ad ln cd).ownBlock = some x) w5 w6 := (Upd.of_grown hG6).mono fun x _ hx => hx.symm
      have hj6 := HT5.out.join (us := us) (us2 := us2) (vd' := vd') (w' := w6) (by rw [← GLN.out]; exact HO5.out) HUS.out (by rw [HUL.out, GLW.out]) HUS2.out (by rw [← GLN.out, ← GLW.out]; exact hO6) hU6 hW6
      obtain ⟨av, cv, ev, kE4⟩ := kE3.out _ _ hj6 hU6
      subst ev
      have KE4 := hid kE4
      have HB6 := hid hj6.b
      have HRUN := hid hrun
      clear kE4 hj6 hO6 hU6 hN6 hW6 hG6 hrun hcells hone kE3
      go_wp2_with (at_builtin; refine wpList_append_g rfl (.tmp 68) (.tmp 69) 22 rfl _ _ _ _ rfl rfl HRUN.out ?_)
      refine KE4.out.mono ?_
      rintro r wx ⟨rfl, h⟩
      subst wx
      go_wp2_with fail
      go_ret
      exact ⟨rfl, HB6.out⟩

end Go.Proofs.YtkmnhpnlkmiiiaaGreatDoor
