/- What disk.Copy does: another disk with the same, in memory of its own. -/
import Derived.Test.YtcophmafkpbdaaaDCopied2
namespace Go.Proofs.Ytcophmafkpbdaaa
open Go.RowKit
set_option linter.unusedVariables false

/-- What Copy leaves. -/
def Copied (w : World) (d : Dk) (r : Ending) (w' : World) : Prop :=
  ∃ q d2, r = .returned (.pointer (some ⟨q, 0, none⟩)) ∧ Dk.ok d2 w' q ∧ d2.n = d.n ∧ d2.dur = d.dur ∧ d2.wr = d.wr ∧ d2.ab = d.ab ∧ d2.opn = d.opn ∧ (∀ x ∈ d2.foot q, w.heap.size ≤ x) ∧ Below w.heap.size w w'

theorem copied_fin {d : Dk} {w w1 w2 w3 : World} {p g1 c1 g2 c2 : Nat} {E : List Ep} (hok : d.ok w p) (hb1 : Below w.heap.size w w1) (ho1 : w1.ownsRow w.heap.size 5 1 (.slice (some ⟨g1, 0, none⟩) (d.n * 128) c1) (d.n * 128) (d.dur.map (Value.int .u8)))
    (hb2 : Below w1.heap.size w1 w2) (ho2 : w2.ownsRow w1.heap.size 5 1 (.slice (some ⟨g2, 0, none⟩) (d.n * 128) c2) (d.n * 128) (d.wr.map (Value.int .u8))) (hP : Part w2 w3 w2.heap.size d.eps.length d.n d.eps.length d.eps E) :
    Copied w d (.returned (.pointer (some ⟨w3.heap.size, 0, none⟩))) (w3.alloc (.cells #[.slice (some ⟨g1, 0, none⟩) (d.n * 128) c1, .slice (some ⟨g2, 0, none⟩) (d.n * 128) c2, .slice (some ⟨w2.heap.size, 0, none⟩) d.eps.length d.eps.length, .bool d.opn] 68)) := by
  have hbw2 : Below w.heap.size w w2 := hb1.trans (hb2.mono hb1.size)
  have hb3 := hP.below
  have ha : Below w3.heap.size w3 (w3.alloc (.cells #[.slice (some ⟨g1, 0, none⟩) (d.n * 128) c1, .slice (some ⟨g2, 0, none⟩) (d.n * 128) c2, .slice (some ⟨w2.heap.size, 0, none⟩) d.eps.length d.eps.length, .bool d.opn] 68)) := (Below.refl _ _).alloc (Nat.le_refl _) _
  have l1 := ho1.lt g1 rfl
  have l2 := ho2.lt g2 rfl
  have s1 := hb1.size
  have s2 := hb2.size
  have s3 := hb3.size
  have l3 := hP.lt
  have hlen := hP.len
  have hrow := hP.row
  rw [Nat.sub_self, List.replicate_zero, List.append_nil] at hrow
  have hfoot : (⟨d.n, g1, c1, g2, c2, d.dur, d.wr, .slice (some ⟨w2.heap.size, 0, none⟩) d.eps.length d.eps.length, E, d.opn⟩ : Dk).foot w3.heap.size = w3.heap.size :: g1 :: g2 :: w2.heap.size :: E.flatMap Ep.foot := by
    simp [Dk.foot, vb, Value.ownBlock]
  have hnew := hP.new
  refine ⟨w3.heap.size, ⟨d.n, g1, c1, g2, c2, d.dur, d.wr, .slice (some ⟨w2.heap.size, 0, none⟩) d.eps.length d.eps.length, E, d.opn⟩, rfl, ⟨heap_alloc_new w3 _, ?_, ?_, ?_, fun e he => ?_, ?_, hok.n1, hok.n2, fun h => ?_⟩, rfl, rfl, rfl, ?_, rfl, ?_, ?_⟩
  · exact own_base (own_below (own_below (own_below ho1 hb2) hb3) ha) (Nat.zero_le _)
  · exact own_base (own_below (own_below ho2 hb3) ha) (Nat.zero_le _)
  · rw [show (⟨d.n, g1, c1, g2, c2, d.dur, d.wr, .slice (some ⟨w2.heap.size, 0, none⟩) d.eps.length d.eps.length, E, d.opn⟩ : Dk).eps.length = d.eps.length from hlen]
    exact own_below hrow ha
  · exact (hP.ok e he).frame fun x hx => ha.block x ((hP.ok e he).lt x hx)
  · rw [hfoot]
    have hE : ∀ x ∈ E.flatMap Ep.foot, w2.heap.size ≤ x ∧ x < w3.heap.size := fun x hx => ⟨hnew x hx, l3 x (List.mem_cons_of_mem _ hx)⟩
    have hg0 := l3 w2.heap.size (by simp)
    simp only [List.nodup_cons, List.mem_cons, not_or]
    refine ⟨⟨by omega, by omega, by omega, fun hx => ?_⟩, ⟨by omega, by omega, fun hx => ?_⟩, ⟨by omega, fun hx => ?_⟩, List.nodup_cons.1 hP.nodup⟩
    · have := hE _ hx; omega
    · have := hE _ hx; omega
    · have := hE _ hx; omega
  · have h1 := hok.last h
    intro h2
    apply h1
    have h3 : E.length = 0 := by rw [show E = [] from h2]; rfl
    exact List.eq_nil_of_length_eq_zero (by omega)
  · have h5 := hP.ab
    rw [List.take_length] at h5
    exact h5
  · intro x hx
    rw [hfoot] at hx
    simp only [List.mem_cons] at hx
    rcases hx with rfl | rfl | rfl | rfl | hx
    · omega
    · exact l1.1
    · omega
    · omega
    · have := hnew x hx; omega
  · exact (hbw2.trans (hb3.mono (by omega))).trans (ha.mono (by omega))

set_option maxHeartbeats 2000000 in
set_option maxRecDepth 20000 in
theorem copy_any (d : Dk) (p : Nat) (w : World) (hok : d.ok w p) (hsz : d.eps.length ≤ 5000000000000) : Calls Try.prog 9 #[.pointer (some ⟨p, 0, none⟩)] w (Copied w d) := by
  have k1 := hid (dusable d p w hok)
  obtain ⟨ae, ce, hve, hce1, hce2⟩ := own_shape hok.row
  obtain ⟨c0, c1, c2, c3⟩ := hok.cell
  rw [hve] at c2
  have hn2 := hok.n2
  have kd : Hid (Calls Try.prog 24 #[.slice (some ⟨d.gd, 0, none⟩) (d.n * 128) d.cd] w.drew fun e w' => ∃ g c, e = .returned (.slice (some ⟨g, 0, none⟩) (d.n * 128) c) ∧ w'.ownsRow w.heap.size 5 1 (.slice (some ⟨g, 0, none⟩) (d.n * 128) c) (d.n * 128) (d.dur.map (Value.int .u8)) ∧ Below w.heap.size w w') := by
    refine (sclone_any ⟨d.gd, 0, none⟩ (d.n * 128) d.cd d.dur w.drew (Src.own (w := w.drew) (hok.frame (w' := w.drew) fun _ _ => rfl).dur) (by omega)).mono ?_
    rintro e w' ⟨g, c, h1, h2, h3⟩
    exact ⟨g, c, h1, h2, ⟨h3.os, h3.tape, h3.output, h3.size, h3.block⟩⟩
  have kw : Hid (∀ wx, Below w.heap.size w wx → Calls Try.prog 24 #[.slice (some ⟨d.gw, 0, none⟩) (d.n * 128) d.cw] wx fun e w' => ∃ g c, e = .returned (.slice (some ⟨g, 0, none⟩) (d.n * 128) c) ∧ w'.ownsRow wx.heap.size 5 1 (.slice (some ⟨g, 0, none⟩) (d.n * 128) c) (d.n * 128) (d.wr.map (Value.int .u8)) ∧ Below wx.heap.size wx w') := fun wx hb =>
    sclone_any ⟨d.gw, 0, none⟩ (d.n * 128) d.cw d.wr wx (Src.own (hok.frame fun k hk => hb.block k (hok.lt k hk)).wr) (by omega)
  have ke : Hid (∀ wx, Below w.heap.size w wx → Calls Try.prog 25 #[.slice ae d.eps.length ce] wx fun r w' => ∃ E, r = .returned (.slice (some ⟨wx.heap.size, 0, none⟩) d.eps.length d.eps.length) ∧ Part wx w' wx.heap.size d.eps.length d.n d.eps.length d.eps E) := fun wx hb => by
    have hx := hok.frame (w' := wx) fun k hk => hb.block k (hok.lt k hk)
    have h := copied_any d.ve d.eps d.n wx hx.row hx.eps hn2 hsz
    rw [hve] at h
    exact h
  have HK := hid hok
  have hplt := hok.lt p (by simp [Dk.foot])
  have mk1 : Hid (0 = 0) := rfl
  clear hok hve
  obtain ⟨m, hm⟩ : ∃ m, m = d.eps.length := ⟨_, rfl⟩
  rw [← hm] at c2 ke hce1 hsz
  have HM := hid hm
  clear hm
  go_enter Try.func9, Try.ntmps9
  go_wp2_with fail
  refine k1.out.mono ?_
  rintro r w1 ⟨rfl, h⟩
  subst w1
  go_wp2_with fail
  go_region_held3 (fun wx => wx.cell? ⟨p, 0, none⟩ = some (.slice (some ⟨d.gd, 0, none⟩) (d.n * 128) d.cd) ∧ wx.cell? ⟨p, 1, none⟩ = some (.slice (some ⟨d.gw, 0, none⟩) (d.n * 128) d.cw) ∧ wx.cell? ⟨p, 2, none⟩ = some (.slice ae m ce) ∧ wx.cell? ⟨p, 3, none⟩ = some (.bool d.opn)) (go_keep) (first | (go_at_call 24; clear mk1; refine kd.out.mono ?_; rintro r w1 ⟨g1, e1, rfl, ho1, hb1⟩; have HO1 := hid ho1; have a0 : w1.cell? ⟨p, 0, none⟩ = some (.slice (some ⟨d.gd, 0, none⟩) (d.n * 128) d.cd) := (hb1.cell (p := ⟨p, 0, none⟩) hplt).trans c0; have a1 : w1.cell? ⟨p, 1, none⟩ = some (.slice (some ⟨d.gw, 0, none⟩) (d.n * 128) d.cw) := (hb1.cell (p := ⟨p, 1, none⟩) hplt).trans c1; have a2 : w1.cell? ⟨p, 2, none⟩ = some (.slice ae m ce) := (hb1.cell (p := ⟨p, 2, none⟩) hplt).trans c2; have a3 : w1.cell? ⟨p, 3, none⟩ = some (.bool d.opn) := (hb1.cell (p := ⟨p, 3, none⟩) hplt).trans c3; have HB1 := hid hb1; clear ho1 hb1) | (go_at_call 24; refine (kw.out _ HB1.out).mono ?_; rintro r w2 ⟨g2, e2, rfl, ho2, hb2⟩; have HO2 := hid ho2; have HBW2 := hid (HB1.out.trans (hb2.mono HB1.out.size)); have i0 : w2.cell? ⟨p, 0, none⟩ = some (.slice (some ⟨d.gd, 0, none⟩) (d.n * 128) d.cd) := (HBW2.out.cell (p := ⟨p, 0, none⟩) hplt).trans c0; have i1 : w2.cell? ⟨p, 1, none⟩ = some (.slice (some ⟨d.gw, 0, none⟩) (d.n * 128) d.cw) := (HBW2.out.cell (p := ⟨p, 1, none⟩) hplt).trans c1; have i2 : w2.cell? ⟨p, 2, none⟩ = some (.slice ae m ce) := (HBW2.out.cell (p := ⟨p, 2, none⟩) hplt).trans c2; have i3 : w2.cell? ⟨p, 3, none⟩ = some (.bool d.opn) := (HBW2.out.cell (p := ⟨p, 3, none⟩) hplt).trans c3; have HB2 := hid hb2; clear ho2 hb2) | (go_at_call 25; refine (ke.out _ HBW2.out).mono ?_; rintro r w3 ⟨E, rfl, hP⟩; have HP := hid hP; have HBW3 := hid (HBW2.out.trans (hP.below.mono HBW2.out.size)); have j0 : w3.cell? ⟨p, 0, none⟩ = some (.slice (some ⟨d.gd, 0, none⟩) (d.n * 128) d.cd) := (HBW3.out.cell (p := ⟨p, 0, none⟩) hplt).trans c0; have j1 : w3.cell? ⟨p, 1, none⟩ = some (.slice (some ⟨d.gw, 0, none⟩) (d.n * 128) d.cw) := (HBW3.out.cell (p := ⟨p, 1, none⟩) hplt).trans c1; have j2 : w3.cell? ⟨p, 2, none⟩ = some (.slice ae m ce) := (HBW3.out.cell (p := ⟨p, 2, none⟩) hplt).trans c2; have j3 : w3.cell? ⟨p, 3, none⟩ = some (.bool d.opn) := (HBW3.out.cell (p := ⟨p, 3, none⟩) hplt).trans c3; clear hP))
  go_wp2_with fail
  go_ret
  have hp := HP.out
  rw [HM.out] at hp ⊢
  exact copied_fin HK.out HB1.out HO1.out HB2.out HO2.out hp

end Go.Proofs.Ytcophmafkpbdaaa
