/- The corpus and what it stands on, merged. -/
import Derived.Test.YtbgommpdmnbplaaGreatDoorCoA11
import Derived.Test.YtbgommpdmnbplaaGreatDoorCoA9
import Derived.Test.YtbgommpdmnbplaaGreatDoorCoA17

/- What disk.Copy does: another disk with the same, in memory of its own. -/
namespace Go.Proofs.YtbgommpdmnbplaaGreatDoor
open Go.RowKit
set_option linter.unusedVariables false

/-- What Copy leaves. -/
def Copied (w : World) (d : Dk) (r : Ending) (w' : World) : Prop :=
  ∃ q d2, r = .returned (.pointer (some ⟨q, 0, none⟩)) ∧ Dk.ok d2 w' q ∧ d2.n = d.n ∧ d2.dur = d.dur ∧ d2.wr = d.wr ∧ d2.ab = d.ab ∧ d2.opn = d.opn ∧ (∀ x ∈ d2.foot q, w.heap.size ≤ x) ∧ Below w.heap.size w w'

theorem copied_fin {d : Dk} {w w1 w2 w3 : World} {p g1 c1 g2 c2 : Nat} {E : List Ep} (hok : d.ok w p) (hb1 : Below w.heap.size w w1) (ho1 : w1.ownsRow w.heap.size 5 1 (.slice (some ⟨g1, 0, none⟩) (d.n * 128) c1) (d.n * 128) (d.dur.map (Value.int .u8)))
    (hb2 : Below w1.heap.size w1 w2) (ho2 : w2.ownsRow w1.heap.size 5 1 (.slice (some ⟨g2, 0, none⟩) (d.n * 128) c2) (d.n * 128) (d.wr.map (Value.int .u8))) (hP : Part w2 w3 w2.heap.size d.eps.length d.n d.eps.length d.eps E) :
    Copied w d (.returned (.pointer (some ⟨w3.heap.size, 0, none⟩))) (w3.alloc (.cells #[.slice (some ⟨g1, 0, none⟩) (d.n * 128) c1, .slice (some ⟨g2, 0, none⟩) (d.n * 128) c2, .slice (some ⟨w2.heap.size, 0, none⟩) d.eps.length d.eps.length, .bool d.opn] 84)) := by
  have hbw2 : Below w.heap.size w w2 := hb1.trans (hb2.mono hb1.size)
  have hb3 := hP.below
  have ha : Below w3.heap.size w3 (w3.alloc (.cells #[.slice (some ⟨g1, 0, none⟩) (d.n * 128) c1, .slice (some ⟨g2, 0, none⟩) (d.n * 128) c2, .slice (some ⟨w2.heap.size, 0, none⟩) d.eps.length d.eps.length, .bool d.opn] 84)) := (Below.refl _ _).alloc (Nat.le_refl _) _
  have l1 := ho1.lt g1 rfl
  have l2 := ho2.lt g2 rfl
  have s1 := hb1.size
  have s2 := hb2.size
  have s3 := hb3.size
  have l3 := hP.lt
  have hlen := hP.len
  have hrow := hP.row
  rw [Nat.sub_self, List.replicate_zero, List.append_nil] at hrow
  have hfoot : (⟨d.n, g1, c1, g2, c2, d.dur, d.wr, .slice (some ⟨w2.heap.size, 0, none⟩) d.eps.length d.eps.length, E, d.opn⟩ : Dk).foot w3.heap.size = w3.heap.size :: g1 :: g2 :: w2.heap.size :: E.flatMap Ep.foot := by
    simp [Dk.foot, vb, Value.ownBlock]
  have hnew := hP.new
  refine ⟨w3.heap.size, ⟨d.n, g1, c1, g2, c2, d.dur, d.wr, .slice (some ⟨w2.heap.size, 0, none⟩) d.eps.length d.eps.length, E, d.opn⟩, rfl, ⟨heap_alloc_new w3 _, ?_, ?_, ?_, fun e he => ?_, ?_, hok.n1, hok.n2, fun h => ?_⟩, rfl, rfl, rfl, ?_, rfl, ?_, ?_⟩
  · exact own_base (own_below (own_below (own_below ho1 hb2) hb3) ha) (Nat.zero_le _)
  · exact own_base (own_below (own_below ho2 hb3) ha) (Nat.zero_le _)
  · rw [show (⟨d.n, g1, c1, g2, c2, d.dur, d.wr, .slice (some ⟨w2.heap.size, 0, none⟩) d.eps.length d.eps.length, E, d.opn⟩ : Dk).eps.length = d.eps.length from hlen]
    exact own_below hrow ha
  · exact (hP.ok e he).frame fun x hx => ha.block x ((hP.ok e he).lt x hx)
  · rw [hfoot]
    have hE : ∀ x ∈ E.flatMap Ep.foot, w2.heap.size ≤ x ∧ x < w3.heap.size := fun x hx => ⟨hnew x hx, l3 x (List.mem_cons_of_mem _ hx)⟩
    have hg0 := l3 w2.heap.size (by simp)
    simp only [List.nodup_cons, List.mem_cons, not_or]
    refine ⟨⟨by omega, by omega, by omega, fun hx => ?_⟩, ⟨by omega, by omega, fun hx => ?_⟩, ⟨by omega, fun hx => ?_⟩, List.nodup_cons.1 hP.nodup⟩
    · have := hE _ hx; omega
    · have := hE _ hx; omega
    · have := hE _ hx; omega
  · have h1 := hok.last h
    intro h2
    apply h1
    have h3 : E.length = 0 := by rw [show E = [] from h2]; rfl
    exact List.eq_nil_of_length_eq_zero (by omega)
  · have h5 := hP.ab
    rw [List.take_length] at h5
    exact h5
  · intro x hx
    rw [hfoot] at hx
    simp only [List.mem_cons] at hx
    rcases hx with rfl | rfl | rfl | rfl | hx
    · omega
    · exact l1.1
    · omega
    · omega
    · have := hnew x hx; omega
  · exact (hbw2.trans (hb3.mono (by omega))).trans (ha.mono (by omega))

set_option maxHeartbeats 2000000 in
set_option maxRecDepth 20000 in
theorem copy_any (d : Dk) (p : Nat) (w : World) (hok : d.ok w p) (hsz : d.eps.length ≤ 5000000000000) : Calls Tryz.prog 33 #[.pointer (some ⟨p, 0, none⟩)] w (Copied w d) := by
  have k1 := hid (dusable d p w hok)
  obtain ⟨ae, ce, hve, hce1, hce2⟩ := own_shape hok.row
  obtain ⟨c0, c1, c2, c3⟩ := hok.cell
  rw [hve] at c2
  have hn2 := hok.n2
  have kd : Hid (Calls Tryz.prog 80 #[.slice (some ⟨d.gd, 0, none⟩) (d.n * 128) d.cd] w.drew fun e w' => ∃ g c, e = .returned (.slice (some ⟨g, 0, none⟩) (d.n * 128) c) ∧ w'.ownsRow w.heap.size 5 1 (.slice (some ⟨g, 0, none⟩) (d.n * 128) c) (d.n * 128) (d.dur.map (Value.int .u8)) ∧ Below w.heap.size w w') := by
    refine (sclone_any ⟨d.gd, 0, none⟩ (d.n * 128) d.cd d.dur w.drew (Src.own (w := w.drew) (hok.frame (w' := w.drew) fun _ _ => rfl).dur) (by omega)).mono ?_
    rintro e w' ⟨g, c, h1, h2, h3⟩
    exact ⟨g, c, h1, h2, ⟨h3.os, h3.tape, h3.output, h3.size, h3.block⟩⟩
  have kw : Hid (∀ wx, Below w.heap.size w wx → Calls Tryz.prog 80 #[.slice (some ⟨d.gw, 0, none⟩) (d.n * 128) d.cw] wx fun e w' => ∃ g c, e = .returned (.slice (some ⟨g, 0, none⟩) (d.n * 128) c) ∧ w'.ownsRow wx.heap.size 5 1 (.slice (some ⟨g, 0, none⟩) (d.n * 128) c) (d.n * 128) (d.wr.map (Value.int .u8)) ∧ Below wx.heap.size wx w') := fun wx hb =>
    sclone_any ⟨d.gw, 0, none⟩ (d.n * 128) d.cw d.wr wx (Src.own (hok.frame fun k hk => hb.block k (hok.lt k hk)).wr) (by omega)
  have ke : Hid (∀ wx, Below w.heap.size w wx → Calls Tryz.prog 86 #[.slice ae d.eps.length ce] wx fun r w' => ∃ E, r = .returned (.slice (some ⟨wx.heap.size, 0, none⟩) d.eps.length d.eps.length) ∧ Part wx w' wx.heap.size d.eps.length d.n d.eps.length d.eps E) := fun wx hb => by
    have hx := hok.frame (w' := wx) fun k hk => hb.block k (hok.lt k hk)
    have h := copied_any d.ve d.eps d.n wx hx.row hx.eps hn2 hsz
    rw [hve] at h
    exact h
  have HK := hid hok
  have hplt := hok.lt p (by simp [Dk.foot])
  have mk1 : Hid (0 = 0) := rfl
  clear hok hve
  obtain ⟨m, hm⟩ : ∃ m, m = d.eps.length := ⟨_, rfl⟩
  rw [← hm] at c2 ke hce1 hsz
  have HM := hid hm
  clear hm
  go_enter Tryz.func33, Tryz.ntmps33
  go_wp2_with fail
  refine k1.out.mono ?_
  rintro r w1 ⟨rfl, h⟩
  subst w1
  go_wp2_with fail
  go_region_held3 (fun wx => wx.cell? ⟨p, 0, none⟩ = some (.slice (some ⟨d.gd, 0, none⟩) (d.n * 128) d.cd) ∧ wx.cell? ⟨p, 1, none⟩ = some (.slice (some ⟨d.gw, 0, none⟩) (d.n * 128) d.cw) ∧ wx.cell? ⟨p, 2, none⟩ = some (.slice ae m ce) ∧ wx.cell? ⟨p, 3, none⟩ = some (.bool d.opn)) (go_keep) (first | (go_at_call 80; clear mk1; refine kd.out.mono ?_; rintro r w1 ⟨g1, e1, rfl, ho1, hb1⟩; have HO1 := hid ho1; have a0 : w1.cell? ⟨p, 0, none⟩ = some (.slice (some ⟨d.gd, 0, none⟩) (d.n * 128) d.cd) := (hb1.cell (p := ⟨p, 0, none⟩) hplt).trans c0; have a1 : w1.cell? ⟨p, 1, none⟩ = some (.slice (some ⟨d.gw, 0, none⟩) (d.n * 128) d.cw) := (hb1.cell (p := ⟨p, 1, none⟩) hplt).trans c1; have a2 : w1.cell? ⟨p, 2, none⟩ = some (.slice ae m ce) := (hb1.cell (p := ⟨p, 2, none⟩) hplt).trans c2; have a3 : w1.cell? ⟨p, 3, none⟩ = some (.bool d.opn) := (hb1.cell (p := ⟨p, 3, none⟩) hplt).trans c3; have HB1 := hid hb1; clear ho1 hb1) | (go_at_call 80; refine (kw.out _ HB1.out).mono ?_; rintro r w2 ⟨g2, e2, rfl, ho2, hb2⟩; have HO2 := hid ho2; have HBW2 := hid (HB1.out.trans (hb2.mono HB1.out.size)); have i0 : w2.cell? ⟨p, 0, none⟩ = some (.slice (some ⟨d.gd, 0, none⟩) (d.n * 128) d.cd) := (HBW2.out.cell (p := ⟨p, 0, none⟩) hplt).trans c0; have i1 : w2.cell? ⟨p, 1, none⟩ = some (.slice (some ⟨d.gw, 0, none⟩) (d.n * 128) d.cw) := (HBW2.out.cell (p := ⟨p, 1, none⟩) hplt).trans c1; have i2 : w2.cell? ⟨p, 2, none⟩ = some (.slice ae m ce) := (HBW2.out.cell (p := ⟨p, 2, none⟩) hplt).trans c2; have i3 : w2.cell? ⟨p, 3, none⟩ = some (.bool d.opn) := (HBW2.out.cell (p := ⟨p, 3, none⟩) hplt).trans c3; have HB2 := hid hb2; clear ho2 hb2) | (go_at_call 86; refine (ke.out _ HBW2.out).mono ?_; rintro r w3 ⟨E, rfl, hP⟩; have HP := hid hP; have HBW3 := hid (HBW2.out.trans (hP.below.mono HBW2.out.size)); have j0 : w3.cell? ⟨p, 0, none⟩ = some (.slice (some ⟨d.gd, 0, none⟩) (d.n * 128) d.cd) := (HBW3.out.cell (p := ⟨p, 0, none⟩) hplt).trans c0; have j1 : w3.cell? ⟨p, 1, none⟩ = some (.slice (some ⟨d.gw, 0, none⟩) (d.n * 128) d.cw) := (HBW3.out.cell (p := ⟨p, 1, none⟩) hplt).trans c1; have j2 : w3.cell? ⟨p, 2, none⟩ = some (.slice ae m ce) := (HBW3.out.cell (p := ⟨p, 2, none⟩) hplt).trans c2; have j3 : w3.cell? ⟨p, 3, none⟩ = some (.bool d.opn) := (HBW3.out.cell (p := ⟨p, 3, none⟩) hplt).trans c3; clear hP))
  go_wp2_with fail
  go_ret
  have hp := HP.out
  rw [HM.out] at hp ⊢
  exact copied_fin HK.out HB1.out HO1.out HB2.out HO2.out hp

end Go.Proofs.YtbgommpdmnbplaaGreatDoor

/- What disk.Of does with any image. -/
namespace Go.Proofs.YtbgommpdmnbplaaGreatDoor
open Go.RowKit
set_option linter.unusedVariables false

/-- An image that is one of a disk. -/
def Gi (L : List (List Int)) : Prop := 1 ≤ L.length ∧ L.length ≤ 2048 ∧ ∀ l ∈ L, l.length = 128

def OfP (w : World) (L : List (List Int)) (e : Ending) (w' : World) : Prop :=
  (¬ Gi L ∧ e = .returned (.tuple #[.pointer none, .int .i64 1]) ∧ Below w.heap.size w w') ∨
  (Gi L ∧ ∃ (p : Nat) (d : Dk), e = .returned (.tuple #[.pointer (some ⟨p, 0, none⟩), .int .i64 0]) ∧ d.ok w' p ∧ d.n = L.length ∧ d.dur = L.flatten ∧ d.wr = d.dur ∧ d.eps = [] ∧ d.opn = false ∧ (∀ x ∈ d.foot p, w.heap.size ≤ x) ∧ Below w.heap.size w w')

theorem flat_len (L : List (List Int)) (h : ∀ l ∈ L, l.length = 128) : L.flatten.length = L.length * 128 := by
  induction L with
  | nil => rfl
  | cons a L ih => rw [List.flatten_cons, List.length_append, ih (fun l hl => h l (List.mem_cons_of_mem _ hl)), h a (List.mem_cons_self ..), List.length_cons]; omega

set_option maxHeartbeats 2000000 in
set_option maxRecDepth 20000 in
theorem dof_any (al : Option Addr) (n cl : Nat) (L : List (List Int)) (w : World) (hi : Img w al L) (hn : L.length = n) (hc : n ≤ cl) (hc2 : cl ≤ 9223372036854775807) : Calls Tryz.prog 30 #[.slice al n cl] w (OfP w L) := by
  obtain ⟨i5, hi5, hy0, hy1, hy2⟩ := info_parts Tryz.pinfo5
  by_cases hb : n < 1 ∨ 2048 < n
  · have hng : ¬ Gi L := fun h => by have h1 := h.1; have h2 := h.2.1; omega
    have HNG := hid hng
    clear hi hn hng
    by_cases h1 : n < 1
    · have h1' : (n : Int) < 1 := by omega
      clear hb h1
      go_enter Tryz.func30, Tryz.ntmps30
      go_wp2_with fail
      go_ret2
      exact .inl ⟨HNG.out, rfl, Below.refl _ _⟩
    · have h1' : ¬ (n : Int) < 1 := by omega
      have h2' : (2048 : Int) < (n : Int) := by omega
      clear hb h1
      go_enter Tryz.func30, Tryz.ntmps30
      go_wp2_with fail
      go_ret2
      exact .inl ⟨HNG.out, rfl, Below.refl _ _⟩
  · have hn1 : 1 ≤ n := by omega
    have hn2 : n ≤ 2048 := by omega
    have h1' : ¬ (n : Int) < 1 := by omega
    have h2' : ¬ (2048 : Int) < (n : Int) := by omega
    have HI := hid hi
    have HN := hid hn
    have hmul : wrap64 ((n : Int) * 128) = ((n * 128 : Nat) : Int) := by unfold wrap64; omega
    obtain ⟨N8, gN8⟩ : ∃ N8, N8 = n * 128 := ⟨_, rfl⟩
    have hN8 : N8 ≤ 262144 := by omega
    rw [← gN8] at hmul
    have HMUL := hid hmul
    have GN8 := hid gN8
    have hmx : N8 ≤ maxLen := by unfold maxLen; omega
    have hby : i5.bytes * N8 ≤ 281474976710656 := by rw [hy2]; omega
    clear hi hn hb hmul gN8
    go_enter Tryz.func30, Tryz.ntmps30
    go_wp2_with (at_make; go_must (refine wpList_make_lc _ rfl _ _ 81 rfl 5 i5 (.int .u8 0) 1 Tryz.underlying81 hi5 hy0 hy1 _ _ _ _ 0 N8 rfl rfl rfl (by first | rfl | (have := GN8.out; omega)) (Nat.zero_le _) hby hmx ?_))
    have hw0 : (w.alloc (.cells (madeCells #[Value.int .u8 0] N8) 5)).ownsRow 0 5 1 (.slice (some ⟨w.heap.size, 0, none⟩) 0 N8) 0 [] := by
      refine ⟨rfl, .inr ⟨w.heap.size, N8, _, rfl, Nat.zero_le _, heap_alloc_new w _, Nat.zero_le _, hmx, by simp [size_madeCells], by simp⟩⟩
    have HW0 := hid hw0
    have HB0 : Hid (Below w.heap.size w (w.alloc (.cells (madeCells #[Value.int .u8 0] N8) 5))) := hid ((Below.refl _ _).alloc (Nat.le_refl _) _)
    clear hw0
    go_wp2_with fail
    go_loopw [4, 21] (fun v k wr => ∃ i : Nat, k = .int .i64 i ∧ i ≤ n ∧ Hid (wr.ownsRow 0 5 1 v (i * 128) ((L.take i).flatten.map (Value.int .u8))) ∧ Hid (∀ x, v.ownBlock = some x → w.heap.size ≤ x) ∧ Hid (∀ l ∈ L.take i, l.length = 128) ∧ Hid (v ≠ .slice none 0 0) ∧ Hid (Below w.heap.size w wr)) (fun _ k _ => n - (intOf k).toNat)
    case atStart => exact ⟨0, rfl, Nat.zero_le _, hid (by simpa using HW0.out), hid (fun x hx => by simp [Value.ownBlock] at hx; omega), hid (fun l hl => by simp at hl), hid (by simp), HB0⟩
    case round =>
      obtain ⟨i, rfl, hi, HO, HV, HA, HNN, HB⟩ := hrel
      obtain ⟨v, gv⟩ : ∃ v, v = u4 := ⟨_, rfl⟩
      rw [← gv] at HO HV HNN ⊢
      clear gv
      obtain ⟨av, cv, ev, hv1, hv2⟩ := own_shape HO.out
      subst ev
      obtain ⟨g, rfl⟩ : ∃ g, av = some ⟨g, 0, none⟩ := by
        rcases HO.out.2 with ⟨h, _⟩ | ⟨g, c, cur, h, _⟩
        · exact absurd h HNN.out
        · injection h with h1 h2 h3; exact ⟨g, h1⟩
      obtain ⟨m8, gm8⟩ : ∃ m8, m8 = i * 128 := ⟨_, rfl⟩
      rw [← gm8] at HO HV HNN hv1 ⊢
      have hm8 : m8 ≤ 262144 := by omega
      have GM8 := hid gm8
      clear gm8
      by_cases hlt : i < n
      · have hil : i < L.length := by rw [HN.out]; exact hlt
        obtain ⟨b, o, e, hbl, hcc⟩ := HI.out (by omega)
        subst e
        obtain ⟨u, hu, a, c, e0, hs, _, hca, hcb, hnn, _⟩ := hcc i hil
        subst e0
        have hu' := (HB.out.cell (p := ⟨b, o + i, none⟩) hbl).trans hu
        have htk : L.take (i + 1) = L.take i ++ [L[i]] := by rw [List.take_add_one, List.getElem?_eq_getElem hil]; rfl
        by_cases h128 : L[i].length = 128
        · obtain ⟨ad, rfl⟩ : ∃ ad, a = some ad := by
            cases a with
            | none => have := (hnn rfl).1; omega
            | some ad => exact ⟨ad, rfl⟩
          rw [h128] at hu' hs
          obtain ⟨X, gX⟩ : ∃ X, X = L[i] := ⟨_, rfl⟩
          rw [← gX] at hs htk h128
          have HS := hid (hs.below HB.out)
          have HTK := hid htk
          have H128 := hid h128
          clear hcc hu hs htk gX h128 hnn hca
          go_wp2_with (at_builtin; go_must (refine wpList_append_where rfl _ _ 81 rfl 5 i5 _ 1 1 Tryz.underlying81 hi5 hy0 hy1 hy2 rfl (by decide) (.slice (some ⟨g, 0, none⟩) m8 cv) m8 _ rfl HO.out ad 128 c (X.map (Value.int .u8)) rfl (by simp [H128.out]) (src_cells HS.out) (u8_one _) (by unfold maxLen; omega) (by omega) ?_))
          intro v' w3 hO3 hU3 hN3 hW3
          have hb3 : Below w.heap.size w w3 := HB.out.trans (hU3.below HB.out.size (fun x hx => HV.out x hx))
          have HO3 : Hid (w3.ownsRow 0 5 1 v' ((i + 1) * 128) ((L.take (i + 1)).flatten.map (Value.int .u8))) := hid (by
            have h1 := hO3.out
            rw [HTK.out, List.flatten_append, List.map_append, show (i + 1) * 128 = m8 + 128 by have := GM8.out; omega]
            simpa using h1)
          have HV3 : Hid (∀ x, v'.ownBlock = some x → w.heap.size ≤ x) := hid (fun x hx => by
            rcases hW3.out with h' | h'
            · exact HV.out x (h' ▸ hx)
            · exact Nat.le_trans HB.out.size (h' x hx))
          have HA3 : Hid (∀ l ∈ L.take (i + 1), l.length = 128) := hid (fun l hl => by
            rw [HTK.out] at hl
            rcases List.mem_append.1 hl with h | h
            · exact HA.out l h
            · simp at h; rw [h]; exact H128.out)
          have HN3 : Hid (v' ≠ .slice none 0 0) := hid (fun h => hN3.out h)
          have HB3 := hid hb3
          clear hb3 hU3
          go_wp2_with fail
          go_roundw
          case rel => exact ⟨i + 1, by go_num, by omega, HO3, HV3, HA3, HN3, HB3⟩
          case measure => simp [intOf]; omega
        · have hng : ¬ Gi L := fun h => h128 (h.2.2 _ (List.getElem_mem hil))
          have HNG := hid hng
          obtain ⟨lX, glX⟩ : ∃ lX, lX = L[i].length := ⟨_, rfl⟩
          rw [← glX] at hu' h128
          have h128' : ¬ (lX : Int) = 128 := by omega
          clear hcc hu hs htk glX hng hnn hca
          go_wp2_with fail
          go_ret2
          exact .inl ⟨HNG.out, rfl, HB.out⟩
      · obtain rfl : i = n := by omega
        have htk : L.take i = L := List.take_of_length_le (by rw [HN.out]; exact Nat.le_refl _)
        have ho := HO.out
        have ha := HA.out
        rw [htk] at ho ha
        have ko := hid (of_any ⟨g, 0, none⟩ m8 cv L.flatten wr (Src.own ho) (by omega))
        have hgi : Gi L := ⟨by rw [HN.out]; exact hn1, by rw [HN.out]; exact hn2, ha⟩
        have HGI := hid hgi
        have HO2 := hid ho
        clear ho ha htk hgi
        go_wp2_with fail
        refine ko.out.mono ?_
        rintro e w4 ⟨p, g4, c4, rfl, hp, ho4, hpl, hg4, hb4⟩
        have l1 := HV.out g rfl
        have l2 := (HO2.out.lt g rfl).2
        have l4 := ho4.lt g4 rfl
        have hfin : OfP w L (.returned (.tuple #[.pointer (some ⟨p, 0, none⟩), .int .i64 0])) w4 := by
          have hgi := HGI.out
          have hm : m8 = L.length * 128 := by rw [GM8.out, HN.out]
          refine .inr ⟨hgi, p, ⟨L.length, g, cv, g4, c4, L.flatten, L.flatten, .slice none 0 0, [], false⟩, rfl, ⟨by rw [← hm]; exact hp, by rw [← hm]; exact own_below HO2.out hb4, by rw [← hm]; exact own_base ho4 (Nat.zero_le _), World.ownsRow_nil _ _ _ _, fun e he => by simp at he, ?_, hgi.1, hgi.2.1, fun h => by simp at h⟩, rfl, rfl, rfl, rfl, rfl, ?_, HB.out.trans (hb4.mono HB.out.size)⟩
          · simp [Dk.foot, vb, Value.ownBlock]
            omega
          · intro x hx
            have := HB.out.size
            simp [Dk.foot, vb, Value.ownBlock] at hx
            omega
        have HFIN := hid hfin
        clear hfin hp ho4 hb4
        go_wp2_with fail
        go_ret2
        exact HFIN.out

end Go.Proofs.YtbgommpdmnbplaaGreatDoor

/- The records of a journal on a copy of a disk; lists of records of the law's own. -/
namespace Go.Proofs.YtbgommpdmnbplaaGreatDoor
open Go.RowKit Num Jr
set_option linter.unusedVariables false
set_option maxRecDepth 20000

namespace Jr
theorem recsGo_ok (f : Nat) : ∀ (zs : List Int) (acc : List (List Int)), Bytes zs → (∀ l ∈ acc, RecOk l) → ∀ l ∈ recsGo f zs acc, RecOk l := by
  induction f with
  | zero => intro zs acc hz ha l hl; simp [recsGo] at hl
  | succ f ih =>
    intro zs acc hz ha l hl
    rw [recsGo] at hl
    by_cases h : zs = []
    · rw [if_pos h] at hl; exact ha l hl
    · rw [if_neg h] at hl
      by_cases h1 : (txt zs 2000).2.2 ≠ 0 ∨ (txt zs 2000).1 = []
      · rw [if_pos h1] at hl; simp at hl
      · rw [if_neg h1] at hl
        have h2 : (txt zs 2000).2.2 = 0 := by
          rcases Nat.eq_zero_or_pos (txt zs 2000).2.2 with h | h
          · exact h
          · exact absurd (Or.inl (by omega)) h1
        have h3 := txt_ok hz 2000 h2
        rw [show ((2000 : Nat) : Int) = 2000 by rfl] at h3
        have h4 : (txt zs 2000).1 ≠ [] := fun e => h1 (.inr e)
        refine ih (zs.drop (txt zs 2000).2.1) (acc ++ [(txt zs 2000).1]) (hz.drop _) (fun l' hl' => ?_) l hl
        rcases List.mem_append.1 hl' with h' | h'
        · exact ha l' h'
        · simp at h'; rw [h']; exact ⟨List.length_pos_iff.2 h4, h3.2.2.1, jtxt_bytes hz 2000⟩
theorem grpsGo_ok (S : Nat → List Int) (first gen size : Nat) (hS : ∀ i, Bytes (S i)) (f : Nat) : ∀ (g u : Nat) (acc : List (List Int)), (∀ l ∈ acc, RecOk l) → ∀ l ∈ (grpsGo S first gen size f g u acc).1, RecOk l := by
  induction f with
  | zero => intro g u acc ha l hl; exact ha l hl
  | succ f ih =>
    intro g u acc ha l hl
    rw [grpsGo] at hl
    split at hl
    · exact ha l hl
    · refine ih _ _ _ (fun l' hl' => ?_) l hl
      rcases List.mem_append.1 hl' with h' | h'
      · exact ha l' h'
      · exact recsGo_ok _ _ [] (loadGo_bytes S first gen _ hS _ _ [] Bytes.nil) (fun _ h => by simp at h) l' h'
theorem opened_ok (n : Nat) (S : Nat → List Int) (hS : ∀ i, Bytes (S i)) : ∀ l ∈ (opened n S).1, RecOk l := by
  intro l hl
  unfold opened at hl
  split at hl
  · simp at hl
  · exact grpsGo_ok S _ _ _ hS _ 0 0 [] (fun _ h => by simp at h) l hl
theorem grpsGo_few (S : Nat → List Int) (first gen size : Nat) (hB : ∀ i, Bytes (S i)) (f : Nat) : ∀ (g u : Nat) (acc : List (List Int)), acc.length ≤ 100 * u → (grpsGo S first gen size f g u acc).1.length ≤ 100 * (grpsGo S first gen size f g u acc).2.2 := by
  induction f with
  | zero => intro g u acc ha; exact ha
  | succ f ih =>
    intro g u acc ha
    rw [grpsGo]
    split
    · exact ha
    · rename_i hne
      refine ih _ _ _ ?_
      have hn : loadGo S first gen (g + 1) (size - u) u [] ≠ [] := fun e => hne (by rw [e]; exact recsOf_nil)
      have h1 := recsOf_len (loadGo_bytes S first gen (g + 1) hB (size - u) u [] Bytes.nil)
      have h2 := needN_pos _ (List.length_pos_iff.2 hn)
      rw [List.length_append]
      omega
theorem JI.few {n : Nat} {S : Nat → List Int} {gen : Nat} {done : List (List Int)} {groups used : Nat} (h : JI n S gen done groups used) (hB : ∀ i, Bytes (S i)) : done.length ≤ 100 * used ∧ ∀ l ∈ done, RecOk l := by
  have e : grpsGo S (firstOf gen n) gen (szOf n) (szOf n + 1) 0 0 [] = (done, groups, used) := h.grp
  have h1 := grpsGo_few S (firstOf gen n) gen (szOf n) hB (szOf n + 1) 0 0 [] (by simp)
  have h2 := grpsGo_ok S (firstOf gen n) gen (szOf n) hB (szOf n + 1) 0 0 [] (fun _ h => by simp at h)
  rw [e] at h1 h2
  exact ⟨h1, h2⟩
end Jr

/-- A copy of a disk at rest. -/
theorem Jd.copied {d d2 : Dk} {w w' : World} {p q n : Nat} {S : Nat → List Int} (h : Jd d w p n S) (hr : d.rest) (hok : d2.ok w' q) (hn : d2.n = d.n) (hd : d2.dur = d.dur) (hw : d2.wr = d.wr) (ha : d2.ab = d.ab) (ho : d2.opn = d.opn) : Jd d2 w' q n S ∧ d2.rest := by
  have e1 : d.ab = [] := by simp [Dk.ab, hr.1]
  have e2 : d2.eps = [] := by
    rw [e1] at ha
    have := congrArg List.length ha
    simp [Dk.ab] at this
    exact this
  exact ⟨⟨hok, by rw [hn, h.dn], by rw [hw]; exact h.wr, by rw [hd, ha]; exact h.ov, h.byt, h.all, by rw [e2]; simp, .inr e2⟩, e2, by rw [ho]; exact hr.2⟩

/-- Records of the law's own, in blocks outside M. -/
def Rl (w : World) (M : List Nat) (v : Value) (L : List (List Int)) : Prop := ∃ us, w.ownsRow 0 81 1 v L.length us ∧ (∀ k, v.ownBlock = some k → k ∉ M) ∧ ∀ j, ∀ h : j < L.length, ∃ u, us[j]? = some u ∧ Bg w (vb v ++ M) u L[j]

theorem Rl.nil (w : World) (M : List Nat) : Rl w M (.slice none 0 0) [] := ⟨[], World.ownsRow_nil _ _ _ _, fun k hk => by simp [Value.ownBlock] at hk, fun j hj => absurd hj (by simp)⟩
theorem Rl.lt {w : World} {M : List Nat} {v : Value} {L : List (List Int)} (h : Rl w M v L) : ∀ k ∈ vb v, k < w.heap.size := by
  obtain ⟨us, ho, _⟩ := h
  exact fun k hk => own_lt ho hk
theorem Rl.upd {w w' : World} {M M' : List Nat} {v : Value} {L : List (List Int)} (h : Rl w M v L) (hu : Upd (· ∈ M) w w') (hg : Grew' w M M') : Rl w' M' v L := by
  obtain ⟨us, ho, hv, hj⟩ := h
  have hl : ∀ k ∈ vb v, k < w.heap.size := fun k hk => own_lt ho hk
  refine ⟨us, hu.own ho hv, fun k hk hx => ?_, fun j hjl => ?_⟩
  · rcases hg k hx with h | h
    · exact hv k hk h
    · have := hl k (by simp [vb, hk]); omega
  · obtain ⟨u, h1, h2⟩ := hj j hjl
    refine ⟨u, h1, h2.upd (hu.mono (fun x _ hx => List.mem_append.2 (.inr hx))) (fun x hx => ?_)⟩
    rcases List.mem_append.1 hx with h | h
    · exact .inl (List.mem_append.2 (.inl h))
    · rcases hg x h with h | h
      · exact .inl (List.mem_append.2 (.inr h))
      · exact .inr h
theorem Rl.below {w w' : World} {M : List Nat} {v : Value} {L : List (List Int)} (h : Rl w M v L) (hb : Below w.heap.size w w') : Rl w' M v L := h.upd (Upd.of_below hb) (fun _ h => .inl h)
theorem Rl.weaken {w : World} {M M' : List Nat} {v : Value} {L : List (List Int)} (h : Rl w M v L) (hs : ∀ x ∈ M', x ∈ M) : Rl w M' v L := by
  obtain ⟨us, ho, hv, hj⟩ := h
  refine ⟨us, ho, fun k hk hx => hv k hk (hs k hx), fun j hjl => ?_⟩
  obtain ⟨u, h1, h2⟩ := hj j hjl
  exact ⟨u, h1, h2.weaken (fun x hx => by
    rcases List.mem_append.1 hx with h | h
    · exact List.mem_append.2 (.inl h)
    · exact List.mem_append.2 (.inr (hs x h)))⟩

/-- Records behind records. -/
theorem Rl.app {WA w' : World} {M M2 : List Nat} {v v' v2 : Value} {L L2 : List (List Int)} {us us2 : List Value} (hv : ∀ k, v.ownBlock = some k → k ∉ M) (ho : WA.ownsRow 0 81 1 v L.length us) (hj : ∀ j, ∀ h : j < L.length, ∃ u, us[j]? = some u ∧ Bg WA (vb v ++ M) u L[j])
    (hl2 : us2.length = L2.length) (hj2 : ∀ j, ∀ h : j < L2.length, ∃ u, us2[j]? = some u ∧ Bg WA (vb v ++ M) u L2[j])
    (hO : w'.ownsRow 0 81 1 v' (L.length + L2.length) (us ++ us2)) (hU : Upd (fun x => v.ownBlock = some x) WA w') (hW : v'.ownBlock = v.ownBlock ∨ ∀ x, v'.ownBlock = some x → WA.heap.size ≤ x) (hM : ∀ x ∈ M, x < WA.heap.size) : Rl w' M v' (L ++ L2) := by
  have hul : us.length = L.length := by have := ho.1; omega
  have hU' : Upd (· ∈ vb v ++ M) WA w' := hU.mono (fun x _ hx => List.mem_append.2 (.inl (by simpa [vb] using hx)))
  have hG : Grew' WA (vb v ++ M) (vb v' ++ M) := fun x hx => by
    rcases List.mem_append.1 hx with h | h
    · have h' : v'.ownBlock = some x := by simpa [vb] using h
      rcases hW with hw | hw
      · exact .inl (List.mem_append.2 (.inl (by simp [vb, ← hw, h'])))
      · exact .inr (hw x h')
    · exact .inl (List.mem_append.2 (.inr h))
  refine ⟨us ++ us2, by rw [List.length_append]; exact hO, fun k hk hx => ?_, fun j hjl => ?_⟩
  · rcases hW with hw | hw
    · exact hv k (hw ▸ hk) hx
    · have := hw k hk; have := hM k hx; omega
  · rcases Nat.lt_or_ge j L.length with h | h
    · obtain ⟨u, h1, h2⟩ := hj j h
      refine ⟨u, by rw [List.getElem?_append_left (by omega)]; exact h1, ?_⟩
      rw [List.getElem_append_left h]
      exact h2.upd hU' hG
    · rw [List.length_append] at hjl
      obtain ⟨u, h1, h2⟩ := hj2 (j - L.length) (by omega)
      refine ⟨u, by rw [List.getElem?_append_right (by omega), hul]; exact h1, ?_⟩
      rw [List.getElem_append_right h]
      exact h2.upd hU' hG

/-- What Open made, as such a list. -/
theorem RcsT.rl {w : World} {B m : Nat} {v : Value} {L : List (List Int)} (h : RcsT w B m v L) (hL : ∀ l ∈ L, RecOk l) (M : List Nat) (hM : ∀ x ∈ M, x < B ∨ m ≤ x) : Rl w M v L := by
  obtain ⟨us, ho, hm, hj⟩ := h
  refine ⟨us, own_base ho (Nat.zero_le _), fun k hk hx => ?_, fun j hjl => ?_⟩
  · have h1 := ho.lt k hk
    have h2 := hm k hk
    rcases hM k hx with h | h <;> omega
  · obtain ⟨u, h1, b, c, e, h2, h3, h4, h5, h6, h7⟩ := hj j hjl
    have hok := hL L[j] (List.getElem_mem hjl)
    have hbv : v.ownBlock ≠ some b := fun hv => by
      obtain ⟨u0, g1, b0, c0, e0, _⟩ := hj 0 (by omega)
      obtain ⟨av, cv, ev, _, _⟩ := own_shape ho
      obtain ⟨g, rfl⟩ : ∃ g, av = some ⟨g, 0, none⟩ := by
        rcases ho.2 with ⟨_, h⟩ | ⟨g, c, cur, h, _⟩
        · omega
        · rw [ev] at h; injection h with h1 h2 h3; exact ⟨g, h1⟩
      have hg : g = b := by rw [ev] at hv; simpa [Value.ownBlock] using hv
      rw [ev] at ho
      have hc := ho.cellAt 0 (by omega)
      rw [g1, e0, hg] at hc
      obtain ⟨b', o', e', _, hcell⟩ := h2.2 (by have := hok.1; omega)
      simp only [Option.some.injEq, Addr.mk.injEq, and_true] at e'
      obtain ⟨rfl, rfl⟩ := e'
      have hc2 := hcell 0 (by have := hok.1; omega)
      rw [Nat.zero_add] at hc2
      rw [hc2] at hc
      cases hc
    refine ⟨u, h1, some ⟨b, 0, none⟩, c, e, h2, fun _ b' o' e' hx => ?_, h6, h7, (fun h => by cases h), by have := hok.2.1; omega⟩
    simp only [Option.some.injEq, Addr.mk.injEq] at e'
    obtain ⟨rfl, _⟩ := e'
    rcases List.mem_append.1 hx with h | h
    · exact hbv (by simpa [vb] using h)
    · rcases hM b h with h | h <;> omega

end Go.Proofs.YtbgommpdmnbplaaGreatDoor

/- What Append does, with the word that it takes what fits. -/
namespace Go.Proofs.YtbgommpdmnbplaaGreatDoor
open Go.RowKit Num Jr
set_option linter.unusedVariables false
set_option maxRecDepth 20000

theorem refC_ok {zs : List Int} (h : RecOk zs) : refC [zs] = 0 := by
  unfold refC
  have h1 := h.1
  have h2 := h.2.1
  rw [if_neg (fun ⟨l, hl, e⟩ => by simp at hl; subst hl; omega), if_neg (fun ⟨l, hl, e⟩ => by simp at hl; subst hl; omega)]

/-- What Append leaves. -/
def AppQ (d : Dk) (w : World) (jp p n : Nat) (S : Nat → List Int) (gen groups used : Nat) (done waits : List (List Int)) (wv : Value) (zs : List Int) (e : Ending) (w' : World) : Prop :=
  ∃ (code : Nat) (wv' : Value), e = .returned (.int .i64 code) ∧ Js d w' jp p n S gen groups used done (if code = 0 then waits ++ [zs] else waits) wv' ∧ ((code = 0 → RecOk zs) ∧ (RecOk zs → needN ((loadOf waits).length + (txtB zs).length) ≤ szOf n - used → code = 0)) ∧ Upd (· ∈ Jf d p jp wv) w w' ∧ Grew' w (Jf d p jp wv) (Jf d p jp wv')

set_option maxHeartbeats 4000000 in
theorem append_q (d : Dk) (jp p n gen groups used : Nat) (S : Nat → List Int) (done waits : List (List Int)) (wv : Value) (a0 : Option Addr) (len cap : Nat) (zs : List Int) (w : World) (h : Js d w jp p n S gen groups used done waits wv) (hb : Bg w [] (.slice a0 len cap) zs) (hz : Bytes zs) :
    Calls Tryz.prog 158 #[.pointer (some ⟨jp, 0, none⟩), .slice a0 len cap] w (AppQ d w jp p n S gen groups used done waits wv zs) := by
  obtain ⟨i0, hi0, hz0, hz1, hz2⟩ := info_parts Tryz.jinfo5
  obtain ⟨a', c', e', hs, hr2⟩ := hb
  injection e' with e1 e2 e3
  subst e1
  subst e2
  subst e3
  have hn2 : n ≤ 2048 := by rw [← h.jd.dn]; exact h.jd.ok.n2
  have hsz : szOf n ≤ 1024 := by unfold szOf; omega
  have huse := h.ji.use
  have hjl : jp < w.heap.size := (Array.getElem?_eq_some_iff.1 h.jc).1
  obtain ⟨len, glen⟩ : ∃ len, len = zs.length := ⟨_, rfl⟩
  rw [← glen] at hs hr2
  rw [← glen]
  have kU := hid (jusable jp p _ _ _ _ _ _ _ w h.jc)
  obtain ⟨W0, g0⟩ : ∃ W0, W0 = w.alloc (.cells #[.slice a0 len cap] 81) := ⟨_, rfl⟩
  have hb0 : Below w.heap.size w W0 := by rw [g0]; exact (Below.refl _ _).alloc (Nat.le_refl _) _
  have h0 := h.below hb0
  have hs0 := hs.below hb0
  have him : Img W0 (some ⟨w.heap.size, 0, none⟩) [zs] := fun _ => by
    refine ⟨w.heap.size, 0, rfl, by rw [g0]; simp, fun j hj => ?_⟩
    have : j = 0 := by simpa using hj
    subst this
    have hbg : Bg W0 [] (.slice a0 len cap) zs := ⟨a0, cap, by rw [glen], by rw [← glen]; exact hs0, fun _ b o _ hx => (by simp at hx), by rw [← glen]; exact hr2.2.1, hr2.2.2.1, by rw [← glen]; exact hr2.2.2.2.1, by rw [← glen]; exact hr2.2.2.2.2⟩
    refine ⟨.slice a0 len cap, ?_, hbg⟩
    rw [g0]
    exact heap_cells (heap_alloc_new w (.cells #[.slice a0 len cap] 81)) 0 _ rfl
  have kR := hid (refused_any (some ⟨w.heap.size, 0, none⟩) 1 1 [zs] W0 him rfl (by omega) (by omega))
  have HC0 := hid (fun hc : refC [zs] = 0 => refC_zero hc zs (by simp))
  obtain ⟨C, gC⟩ : ∃ C, C = refC [zs] := ⟨_, rfl⟩
  rw [← gC] at kR HC0
  have HGC := hid gC
  have HH := hid h
  have HH0 := hid h0
  have HS0 := hid hs0
  have HZ := hid hz
  have G0 := hid g0
  have HB0 := hid hb0
  have GL := hid glen
  clear h h0 hs hs0 hz g0 hb0 glen him gC hr2
  go_enter Tryz.func158, Tryz.ntmps158
  by_cases hC : C = 0
  · subst hC
    have hzl := HC0.out rfl
    rw [← GL.out] at hzl
    have kT := hid (astext_any a0 len cap zs W0 HS0.out HZ.out hzl.2)
    go_upto_region 7 with (first | (go_at_call 200; refine kU.out.mono ?_; rintro r w1 ⟨rfl, h⟩; subst w1) | (go_at_call 201; rw [← G0.out]; refine kR.out.mono ?_; rintro r w1 ⟨rfl, h⟩; subst w1) | (go_at_call 202; refine kT.out.mono ?_; rintro r w2 ⟨tc, rfl, ho2, hb2⟩; have HO2 := hid ho2; have HB2 := hid hb2; clear ho2 hb2))
    obtain ⟨aw, cw, gwv, hw1, hw2⟩ := own_shape HH.out.wait
    have hJ2 : Js d w2 jp p n S gen groups used done waits wv := HH0.out.below HB2.out
    have hroomN := HH.out.room
    obtain ⟨ln, gln⟩ : ∃ ln, ln = (loadOf waits).length := ⟨_, rfl⟩
    obtain ⟨tl, gtl⟩ : ∃ tl, tl = (txtB zs).length := ⟨_, rfl⟩
    rw [← gln] at gwv hw1 hroomN
    rw [← gtl] at HO2
    rw [← gtl]
    have htl : tl ≤ 2009 := by
      have hl := GL.out
      rw [gtl, txtB, List.length_append, length_enc]
      have := cnt_8 zs.length (by omega)
      omega
    have hlnb : ln ≤ 102400 := by unfold needN at hroomN; omega
    have hjc2 := hJ2.jc
    rw [gwv] at hjc2
    have c6 : w2.cell? ⟨jp, 6, none⟩ = some (.slice aw ln cw) := heap_cells hjc2 6 _ rfl
    have kn := hid (fun wx => need_any (ln + tl) wx (by omega))
    have en : (ln + tl + 99) / 100 = needN (ln + tl) := rfl
    rw [en] at kn
    have kr := hid (jroom jp p _ _ _ _ _ _ _ w2 hJ2.jc huse (by omega))
    have e1 : (ln : Int) + (tl : Int) = ((ln + tl : Nat) : Int) := by omega
    obtain ⟨lt, glt⟩ : ∃ lt, lt = ln + tl := ⟨_, rfl⟩
    rw [← glt] at kn e1
    obtain ⟨NN, gNN⟩ : ∃ NN, NN = needN lt := ⟨_, rfl⟩
    obtain ⟨RR, gRR⟩ : ∃ RR, RR = szOf n - used := ⟨_, rfl⟩
    rw [← gNN] at kn
    rw [← gRR] at kr
    have HJ2 := hid hJ2
    have GW := hid gwv
    have GLN := hid gln
    have GTL := hid gtl
    have GLT := hid glt
    have GNN := hid gNN
    have GRR := hid gRR
    have hB02 : Below w.heap.size w w2 := HB0.out.trans (HB2.out.mono HB0.out.size)
    have HB02 := hid hB02
    clear hJ2 gwv gln gtl glt gNN gRR en hB02 kU kR kT hjc2
    by_cases hfull : RR < NN
    · have hfv : (RR : Int) < (NN : Int) := by omega
      go_wp2_with (first | (go_at_call 190; refine (kn.out _).mono ?_; rintro r wn ⟨rfl, h⟩; subst wn) | (go_at_call 203; refine kr.out.mono ?_; rintro r wn ⟨rfl, h⟩; subst wn))
      go_ret
      exact ⟨4, wv, rfl, HJ2.out.below (below_drewN (Below.refl _ _) 1), ⟨fun h => absurd h (by omega), fun _ h => by rw [← GLN.out, ← GTL.out, ← GLT.out, ← GNN.out, ← GRR.out] at h; omega⟩, Upd.of_below (below_drewN HB02.out 1), fun _ h => .inl h⟩
    · have hfv : ¬ (RR : Int) < (NN : Int) := by omega
      go_upto_region 9 with (first | (go_at_call 190; refine (kn.out _).mono ?_; rintro r wn ⟨rfl, h⟩; subst wn) | (go_at_call 203; refine kr.out.mono ?_; rintro r wn ⟨rfl, h⟩; subst wn))
      have HJ3 : Hid (Js d w2.drew jp p n S gen groups used done waits wv) := hid (HJ2.out.below (below_drewN (Below.refl _ _) 1))
      have HWT : Hid (w2.drew.ownsRow 0 5 1 (.slice aw ln cw) ln ((loadOf waits).map (Value.int .u8))) := hid (by have := HJ3.out.wait; rw [← GLN.out, GW.out] at this; exact this)
      have HTX : Hid (Src w2.drew (some ⟨W0.heap.size, 0, none⟩) tl (txtB zs)) := hid (Src.own HO2.out)
      go_upto_region 10 with (at_builtin; go_must (refine wpList_append_where rfl _ _ 81 rfl 5 i0 _ 1 1 Tryz.underlying81 hi0 hz0 hz1 hz2 rfl (by decide) (.slice aw ln cw) ln _ rfl HWT.out ⟨W0.heap.size, 0, none⟩ tl tc ((txtB zs).map (Value.int .u8)) rfl (by rw [List.length_map, Nat.mul_one, GTL.out]) (src_cells HTX.out) (u8_one _) (by unfold maxLen; omega) (by omega) ?_; intro wv' w4 hO4 hU4 hN4 hW4; have HO4 := hO4; have HW4 := hW4; have hU4' : Upd (fun x => wv.ownBlock = some x) w2.drew w4 := (by rw [GW.out]; exact hU4); have hjw : wv.ownBlock ≠ some jp := (fun h => (HJ3.out.wf jp h).2 rfl); have hJ4 := hU4'.heap HJ3.out.jc hjw; have f6 : w4.frozen? ⟨jp, 6, none⟩ = false := frozen_of_row w4 jp 6 _ _ hJ4; have e6 : w4.cell? ⟨jp, 6, none⟩ = some wv := heap_cells hJ4 6 _ rfl; have HU4 := hid hU4'; have HJ4 := hid hJ4; obtain ⟨aw', cw', gwv', _, _⟩ := own_shape hO4.out; subst gwv'; clear hO4 hU4 hN4 hW4 hU4' hJ4))
      obtain ⟨m, gm⟩ : ∃ m, m = waits.length := ⟨_, rfl⟩
      have e7 : w4.cell? ⟨jp, 7, none⟩ = some (.int .i64 m) := by rw [gm]; exact heap_cells HJ4.out 7 _ rfl
      have f7 : w4.frozen? ⟨jp, 7, none⟩ = false := frozen_of_row w4 jp 7 _ _ HJ4.out
      have hmb : m ≤ ln := by
        have h1 : ∀ L : List (List Int), L.length ≤ (loadOf L).length := fun L => by
          induction L with
          | nil => simp
          | cons a r ih =>
            have := enc_pos a.length
            simp only [loadOf, List.map_cons, List.flatten_cons, txtB, List.length_append, List.length_cons] at ih ⊢
            omega
        rw [gm, GLN.out]; exact h1 waits
      have hfin : AppQ d w jp p n S gen groups used done waits wv zs (.returned (.int .i64 0)) ((w4.setCell ⟨jp, 6, none⟩ (.slice aw' (ln + tl) cw')).setCell ⟨jp, 7, none⟩ (.int .i64 ((m : Int) + 1))) := by
        obtain ⟨W6, gW6⟩ : ∃ W6, W6 = (w4.setCell ⟨jp, 6, none⟩ (.slice aw' (ln + tl) cw')).setCell ⟨jp, 7, none⟩ (.int .i64 ((m : Int) + 1)) := ⟨_, rfl⟩
        rw [← gW6]
        have hU6 : Upd (· = jp) w4 W6 := by
          rw [gW6]
          exact (Upd.setCell (F := (· = jp)) w4 ⟨jp, 6, none⟩ _ rfl).trans (Upd.setCell (F := (· = jp)) _ ⟨jp, 7, none⟩ _ rfl) (fun _ _ h => h)
        have hJ6 : Jc W6 jp p gen (firstOf gen n) (szOf n) groups used (.slice aw' (ln + tl) cw') (waits ++ [zs]).length := by
          have := (show Jc w4 jp p gen (firstOf gen n) (szOf n) groups used wv waits.length from HJ4.out).wait (.slice aw' (ln + tl) cw') (waits.length + 1)
          rw [gW6, gm, List.length_append, List.length_singleton]
          exact this
        have hw2s := HB02.out.size
        have hwo : ∀ k, (Value.slice aw' (ln + tl) cw').ownBlock = some k → wv.ownBlock = some k ∨ w2.heap.size ≤ k := fun k hk => by
          rcases HW4.out with h | h
          · left; rw [GW.out, ← h]; exact hk
          · exact .inr (h k hk)
        have hwf : ∀ k, (Value.slice aw' (ln + tl) cw').ownBlock = some k → k ∉ d.foot p ∧ k ≠ jp := fun k hk => by
          rcases hwo k hk with h | h
          · exact HJ3.out.wf k h
          · refine ⟨fun hx => ?_, fun e => ?_⟩
            · have := HH.out.jd.ok.lt k hx; omega
            · omega
        have hd4 : Jd d W6 p n S := (HJ3.out.jd.upd HU4.out (fun k hk e => (HJ3.out.wf k e).1 hk)).upd hU6 (fun k hk e => HJ3.out.jf (e ▸ hk))
        have hl6 : loadOf (waits ++ [zs]) = loadOf waits ++ txtB zs := by rw [loadOf_append]; simp [loadOf]
        have hlen6 : (loadOf (waits ++ [zs])).length = ln + tl := by rw [hl6, List.length_append, ← GLN.out, ← GTL.out]
        refine ⟨0, .slice aw' (ln + tl) cw', rfl, ?_, ⟨fun _ => ⟨by rw [← GL.out]; exact hzl.1, by rw [← GL.out]; exact hzl.2, HZ.out⟩, fun _ _ => rfl⟩, ?_, ?_⟩
        · rw [if_pos rfl]
          refine ⟨hd4, HJ3.out.rest, hJ6, HJ3.out.ji, ?_, ?_, ?_, HJ3.out.jf, hwf⟩
          · rw [hlen6, hl6, List.map_append]
            exact hU6.own HO4.out (fun k hk e => (hwf k hk).2 e)
          · intro r hr
            rcases List.mem_append.1 hr with h | h
            · exact HJ3.out.wok r h
            · simp at h; subst h; exact ⟨by rw [← GL.out]; exact hzl.1, by rw [← GL.out]; exact hzl.2, HZ.out⟩
          · rw [hlen6, ← GLT.out, ← GNN.out, ← GRR.out]; omega
        · refine (((Upd.of_below (F := (· ∈ Jf d p jp wv)) (below_drewN HB02.out 1)).trans HU4.out (fun x _ h => ?_)).trans hU6 (fun x _ h => ?_))
          · have h' : wv.ownBlock = some x := h
            simp [Jf, vb, h']
          · have h' : x = jp := h
            simp [Jf, h']
        · intro x hx
          simp only [Jf, List.mem_cons, List.mem_append] at hx ⊢
          rcases hx with h | h | h
          · exact .inl (.inl h)
          · rcases hwo x (by simpa [vb] using h) with h' | h'
            · exact .inl (.inr (.inl (by simp [vb, h'])))
            · exact .inr (by omega)
          · exact .inl (.inr (.inr h))
      have HFIN := hid hfin
      clear hfin gm
      go_wp2_with fail
      go_ret
      exact HFIN.out
  · have hCv : ¬ (C : Int) = 0 := by omega
    go_wp2_with (first | (go_at_call 200; refine kU.out.mono ?_; rintro r w1 ⟨rfl, h⟩; subst w1) | (go_at_call 201; rw [← G0.out]; refine kR.out.mono ?_; rintro r w1 ⟨rfl, h⟩; subst w1))
    go_ret
    exact ⟨C, wv, rfl, by rw [if_neg hC]; exact HH0.out, ⟨fun h => absurd h hC, fun hr _ => absurd (by rw [HGC.out]; exact refC_ok hr) hC⟩, Upd.of_below HB0.out, fun _ h => .inl h⟩

end Go.Proofs.YtbgommpdmnbplaaGreatDoor
