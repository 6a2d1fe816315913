/- The codecs of a thing's parts: what their Read reads. Written by gen_brpart.py. -/
import Derived.Test.YtpbhcmfbcnihiaaGreatBRPart
namespace Go.Proofs.YtpbhcmfbcnihiaaGreat
open Go.RowKit Num
set_option linter.unusedVariables false
set_option maxRecDepth 20000

set_option maxHeartbeats 4000000 in
theorem partr_cv {α β : Type} (B : Nat) (wc : World) (q pp : Nat) (hqB : B ≤ q) (hpB : B ≤ pp) (capsR : Array Value) (szT szP : Nat) (IsT : (Nat → Prop) → World → List Value → α → Prop) (IsP : (Nat → Prop) → World → List Value → β → Prop) (sel : α → β) (up : α → β → α) (rd : β → List Int → Option (β × Nat))
    (h1 : wc.cell? ⟨q, 1, none⟩ = some (.func (.func 116) #[] capsR)) (hql : q < wc.heap.size) (h2 : wc.cell? ⟨pp, 0, none⟩ = some (.func (.func 83) #[] #[])) (hpl : pp < wc.heap.size) (hd : 3 + szP ≤ szT)
    (hget : ∀ N W cs x, IsT N W cs x → IsP N W ((cs.drop 3).take szP) (sel x)) (hset : ∀ N W W' cs x y cs', IsT N W cs x → Keep N N W W' → cs'.length = szP → IsP N W' cs' y → IsT N W' (splice cs 3 cs') (up x y))
    (hk : ∀ N W W' cs x, Keep N N W W' → IsT N W cs x → IsT N W' cs x) (hr : Rd B wc szP IsP rd 116 capsR) : Rd B wc szT IsT (rP sel up rd) 113 #[.pointer (some ⟨q, 0, none⟩), .pointer (some ⟨pp, 0, none⟩)] := by
  refine ⟨fun args w => by kernel_rfl, fun W N p g len at_ zs b o C t x hW hR hz hbB hbp hbg hC hl hI hN hNp hNb => ?_⟩
  show Calls Tryz.prog 113 #[.pointer (some ⟨p, 0, none⟩), .pointer (some ⟨b, o, none⟩), .pointer (some ⟨q, 0, none⟩), .pointer (some ⟨pp, 0, none⟩)] W _
  have hs := hW.size
  have hmid := hR.mid
  have c1 := (hW.atc 1 hql (by omega)).trans h1
  have c2 := (hW.atc 0 hpl (by omega)).trans h2
  have hqW : q < W.heap.size := by omega
  have hpW : pp < W.heap.size := by omega
  have HQ : Hid ((¬ (q = p ∨ q = b)) ∧ ¬ (pp = p ∨ pp = b)) := hid (by omega)
  have hgo := hr.1
  have ks := hid (sel_cpd3 b o)
  unfold rP
  obtain ⟨R, gR⟩ : ∃ R, rd (sel x) (zs.drop at_) = R := ⟨_, rfl⟩
  rw [gR]
  have HI := hid hI
  have kr := hid (fun wx (hx' : Below W.heap.size W wx) (e : wx.heap = W.heap) => hr.2 wx N p g len at_ zs b (o + 3) C t (sel x) (hW.trans (Upd.of_below hx') (fun _ _ h => h)) (hR.heap e) hz hbB hbp hbg (by rw [e]; exact hC) (by omega) (by rw [← take_drop_nest C o 3 szP szT hd]; exact hget _ _ _ _ (hk _ _ _ _ _ (Keep.below hx') HI.out)) (fun k hk => hN k (by rw [e] at hk; exact hk)) hNp hNb)
  simp only [gR] at kr
  have HS := hid hset
  have HNp := hid hNp
  have HNb := hid hNb
  have HL := hid hl
  have HD := hid hd
  clear gR hR hz hC hl hI hN hNp hNb hW hget hset h1 h2 hr hk
  cases R with
  | none =>
    go_enter Tryz.func113, Tryz.ntmps113
    go_wp2_with fail
    go_region_held3 (fun wx => wx.cell? ⟨q, 1, none⟩ = some (.func (.func 116) #[] capsR) ∧ wx.cell? ⟨pp, 0, none⟩ = some (.func (.func 83) #[] #[])) (go_keep) (first
      | (go_at_call 83; refine (ks.out _).mono ?_; rintro e w2 ⟨rfl, rfl⟩)
      | (go_at_call 116; refine (kr.out _ (below_hp (Below.refl _ W) (by rfl) (by rfl) (by rfl) (by rfl)) (by rfl)).mono ?_; rintro e w3 ⟨hU3, t', u', rfl⟩; have HU3 : Hid (Upd (fun k => k = p ∨ k = b) W w3) := hid ((Upd.of_below (below_hp (Below.refl _ W) (by rfl) (by rfl) (by rfl) (by rfl))).trans hU3 (fun _ _ h => h)); have z0 : w3.cell? ⟨q, 1, none⟩ = some (.func (.func 116) #[] capsR) := (HU3.out.atc 1 hqW HQ.out.1).trans c1; have z1 : w3.cell? ⟨pp, 0, none⟩ = some (.func (.func 83) #[] #[]) := (HU3.out.atc 0 hpW HQ.out.2).trans c2; clear hU3))
    go_wp2_with fail
    go_ret
    exact ⟨HU3.out, t', u', rfl⟩
  | some y =>
    go_enter Tryz.func113, Tryz.ntmps113
    go_wp2_with fail
    go_region_held3 (fun wx => wx.cell? ⟨q, 1, none⟩ = some (.func (.func 116) #[] capsR) ∧ wx.cell? ⟨pp, 0, none⟩ = some (.func (.func 83) #[] #[])) (go_keep) (first
      | (go_at_call 83; refine (ks.out _).mono ?_; rintro e w2 ⟨rfl, rfl⟩)
      | (go_at_call 116; refine (kr.out _ (below_hp (Below.refl _ W) (by rfl) (by rfl) (by rfl) (by rfl)) (by rfl)).mono ?_; rintro e w3 ⟨hU3, rfl, hR3, cs, hcl, hC3, hI3⟩; have HU3 : Hid (Upd (fun k => k = p ∨ k = b) W w3) := hid ((Upd.of_below (below_hp (Below.refl _ W) (by rfl) (by rfl) (by rfl) (by rfl))).trans hU3 (fun _ _ h => h)); have z0 : w3.cell? ⟨q, 1, none⟩ = some (.func (.func 116) #[] capsR) := (HU3.out.atc 1 hqW HQ.out.1).trans c1; have z1 : w3.cell? ⟨pp, 0, none⟩ = some (.func (.func 83) #[] #[]) := (HU3.out.atc 0 hpW HQ.out.2).trans c2; have H3 := hid (And.intro hR3 (And.intro hcl (And.intro hC3 hI3))); clear hU3 hR3 hcl hC3 hI3))
    go_wp2_with fail
    go_ret
    obtain ⟨hR3, hcl, hC3, hI3⟩ := H3.out
    have hl := HL.out
    have hd := HD.out
    refine ⟨HU3.out, rfl, hR3, splice ((C.drop o).take szT) 3 cs, ?_, ?_, HS.out _ _ _ _ _ _ _ HI.out (keep_rd HU3.out HNp.out HNb.out) hcl hI3⟩
    · rw [length_splice _ _ _ (by simp; omega)]
      simp
      omega
    · rw [splice_nest C cs o 3 szT hl (by omega)]
      exact hC3

set_option maxHeartbeats 4000000 in
theorem partr_ca {α β : Type} (B : Nat) (wc : World) (q pp : Nat) (hqB : B ≤ q) (hpB : B ≤ pp) (capsR : Array Value) (szT szP : Nat) (IsT : (Nat → Prop) → World → List Value → α → Prop) (IsP : (Nat → Prop) → World → List Value → β → Prop) (sel : α → β) (up : α → β → α) (rd : β → List Int → Option (β × Nat))
    (h1 : wc.cell? ⟨q, 1, none⟩ = some (.func (.func 67) #[] capsR)) (hql : q < wc.heap.size) (h2 : wc.cell? ⟨pp, 0, none⟩ = some (.func (.func 85) #[] #[])) (hpl : pp < wc.heap.size) (hd : 0 + szP ≤ szT)
    (hget : ∀ N W cs x, IsT N W cs x → IsP N W ((cs.drop 0).take szP) (sel x)) (hset : ∀ N W W' cs x y cs', IsT N W cs x → Keep N N W W' → cs'.length = szP → IsP N W' cs' y → IsT N W' (splice cs 0 cs') (up x y))
    (hk : ∀ N W W' cs x, Keep N N W W' → IsT N W cs x → IsT N W' cs x) (hr : Rd B wc szP IsP rd 67 capsR) : Rd B wc szT IsT (rP sel up rd) 113 #[.pointer (some ⟨q, 0, none⟩), .pointer (some ⟨pp, 0, none⟩)] := by
  refine ⟨fun args w => by kernel_rfl, fun W N p g len at_ zs b o C t x hW hR hz hbB hbp hbg hC hl hI hN hNp hNb => ?_⟩
  show Calls Tryz.prog 113 #[.pointer (some ⟨p, 0, none⟩), .pointer (some ⟨b, o, none⟩), .pointer (some ⟨q, 0, none⟩), .pointer (some ⟨pp, 0, none⟩)] W _
  have hs := hW.size
  have hmid := hR.mid
  have c1 := (hW.atc 1 hql (by omega)).trans h1
  have c2 := (hW.atc 0 hpl (by omega)).trans h2
  have hqW : q < W.heap.size := by omega
  have hpW : pp < W.heap.size := by omega
  have HQ : Hid ((¬ (q = p ∨ q = b)) ∧ ¬ (pp = p ∨ pp = b)) := hid (by omega)
  have hgo := hr.1
  have ks := hid (sel_cpd4 b o)
  unfold rP
  obtain ⟨R, gR⟩ : ∃ R, rd (sel x) (zs.drop at_) = R := ⟨_, rfl⟩
  rw [gR]
  have HI := hid hI
  have kr := hid (fun wx (hx' : Below W.heap.size W wx) (e : wx.heap = W.heap) => hr.2 wx N p g len at_ zs b (o + 0) C t (sel x) (hW.trans (Upd.of_below hx') (fun _ _ h => h)) (hR.heap e) hz hbB hbp hbg (by rw [e]; exact hC) (by omega) (by rw [← take_drop_nest C o 0 szP szT hd]; exact hget _ _ _ _ (hk _ _ _ _ _ (Keep.below hx') HI.out)) (fun k hk => hN k (by rw [e] at hk; exact hk)) hNp hNb)
  simp only [gR] at kr
  have HS := hid hset
  have HNp := hid hNp
  have HNb := hid hNb
  have HL := hid hl
  have HD := hid hd
  clear gR hR hz hC hl hI hN hNp hNb hW hget hset h1 h2 hr hk
  cases R with
  | none =>
    go_enter Tryz.func113, Tryz.ntmps113
    go_wp2_with fail
    go_region_held3 (fun wx => wx.cell? ⟨q, 1, none⟩ = some (.func (.func 67) #[] capsR) ∧ wx.cell? ⟨pp, 0, none⟩ = some (.func (.func 85) #[] #[])) (go_keep) (first
      | (go_at_call 85; refine (ks.out _).mono ?_; rintro e w2 ⟨rfl, rfl⟩)
      | (go_at_call 67; refine (kr.out _ (below_hp (Below.refl _ W) (by rfl) (by rfl) (by rfl) (by rfl)) (by rfl)).mono ?_; rintro e w3 ⟨hU3, t', u', rfl⟩; have HU3 : Hid (Upd (fun k => k = p ∨ k = b) W w3) := hid ((Upd.of_below (below_hp (Below.refl _ W) (by rfl) (by rfl) (by rfl) (by rfl))).trans hU3 (fun _ _ h => h)); have z0 : w3.cell? ⟨q, 1, none⟩ = some (.func (.func 67) #[] capsR) := (HU3.out.atc 1 hqW HQ.out.1).trans c1; have z1 : w3.cell? ⟨pp, 0, none⟩ = some (.func (.func 85) #[] #[]) := (HU3.out.atc 0 hpW HQ.out.2).trans c2; clear hU3))
    go_wp2_with fail
    go_ret
    exact ⟨HU3.out, t', u', rfl⟩
  | some y =>
    go_enter Tryz.func113, Tryz.ntmps113
    go_wp2_with fail
    go_region_held3 (fun wx => wx.cell? ⟨q, 1, none⟩ = some (.func (.func 67) #[] capsR) ∧ wx.cell? ⟨pp, 0, none⟩ = some (.func (.func 85) #[] #[])) (go_keep) (first
      | (go_at_call 85; refine (ks.out _).mono ?_; rintro e w2 ⟨rfl, rfl⟩)
      | (go_at_call 67; refine (kr.out _ (below_hp (Below.refl _ W) (by rfl) (by rfl) (by rfl) (by rfl)) (by rfl)).mono ?_; rintro e w3 ⟨hU3, rfl, hR3, cs, hcl, hC3, hI3⟩; have HU3 : Hid (Upd (fun k => k = p ∨ k = b) W w3) := hid ((Upd.of_below (below_hp (Below.refl _ W) (by rfl) (by rfl) (by rfl) (by rfl))).trans hU3 (fun _ _ h => h)); have z0 : w3.cell? ⟨q, 1, none⟩ = some (.func (.func 67) #[] capsR) := (HU3.out.atc 1 hqW HQ.out.1).trans c1; have z1 : w3.cell? ⟨pp, 0, none⟩ = some (.func (.func 85) #[] #[]) := (HU3.out.atc 0 hpW HQ.out.2).trans c2; have H3 := hid (And.intro hR3 (And.intro hcl (And.intro hC3 hI3))); clear hU3 hR3 hcl hC3 hI3))
    go_wp2_with fail
    go_ret
    obtain ⟨hR3, hcl, hC3, hI3⟩ := H3.out
    have hl := HL.out
    have hd := HD.out
    refine ⟨HU3.out, rfl, hR3, splice ((C.drop o).take szT) 0 cs, ?_, ?_, HS.out _ _ _ _ _ _ _ HI.out (keep_rd HU3.out HNp.out HNb.out) hcl hI3⟩
    · rw [length_splice _ _ _ (by simp; omega)]
      simp
      omega
    · rw [splice_nest C cs o 0 szT hl (by omega)]
      exact hC3

set_option maxHeartbeats 4000000 in
theorem partr_cr {α β : Type} (B : Nat) (wc : World) (q pp : Nat) (hqB : B ≤ q) (hpB : B ≤ pp) (capsR : Array Value) (szT szP : Nat) (IsT : (Nat → Prop) → World → List Value → α → Prop) (IsP : (Nat → Prop) → World → List Value → β → Prop) (sel : α → β) (up : α → β → α) (rd : β → List Int → Option (β × Nat))
    (h1 : wc.cell? ⟨q, 1, none⟩ = some (.func (.func 67) #[] capsR)) (hql : q < wc.heap.size) (h2 : wc.cell? ⟨pp, 0, none⟩ = some (.func (.func 86) #[] #[])) (hpl : pp < wc.heap.size) (hd : 1 + szP ≤ szT)
    (hget : ∀ N W cs x, IsT N W cs x → IsP N W ((cs.drop 1).take szP) (sel x)) (hset : ∀ N W W' cs x y cs', IsT N W cs x → Keep N N W W' → cs'.length = szP → IsP N W' cs' y → IsT N W' (splice cs 1 cs') (up x y))
    (hk : ∀ N W W' cs x, Keep N N W W' → IsT N W cs x → IsT N W' cs x) (hr : Rd B wc szP IsP rd 67 capsR) : Rd B wc szT IsT (rP sel up rd) 113 #[.pointer (some ⟨q, 0, none⟩), .pointer (some ⟨pp, 0, none⟩)] := by
  refine ⟨fun args w => by kernel_rfl, fun W N p g len at_ zs b o C t x hW hR hz hbB hbp hbg hC hl hI hN hNp hNb => ?_⟩
  show Calls Tryz.prog 113 #[.pointer (some ⟨p, 0, none⟩), .pointer (some ⟨b, o, none⟩), .pointer (some ⟨q, 0, none⟩), .pointer (some ⟨pp, 0, none⟩)] W _
  have hs := hW.size
  have hmid := hR.mid
  have c1 := (hW.atc 1 hql (by omega)).trans h1
  have c2 := (hW.atc 0 hpl (by omega)).trans h2
  have hqW : q < W.heap.size := by omega
  have hpW : pp < W.heap.size := by omega
  have HQ : Hid ((¬ (q = p ∨ q = b)) ∧ ¬ (pp = p ∨ pp = b)) := hid (by omega)
  have hgo := hr.1
  have ks := hid (sel_cpd5 b o)
  unfold rP
  obtain ⟨R, gR⟩ : ∃ R, rd (sel x) (zs.drop at_) = R := ⟨_, rfl⟩
  rw [gR]
  have HI := hid hI
  have kr := hid (fun wx (hx' : Below W.heap.size W wx) (e : wx.heap = W.heap) => hr.2 wx N p g len at_ zs b (o + 1) C t (sel x) (hW.trans (Upd.of_below hx') (fun _ _ h => h)) (hR.heap e) hz hbB hbp hbg (by rw [e]; exact hC) (by omega) (by rw [← take_drop_nest C o 1 szP szT hd]; exact hget _ _ _ _ (hk _ _ _ _ _ (Keep.below hx') HI.out)) (fun k hk => hN k (by rw [e] at hk; exact hk)) hNp hNb)
  simp only [gR] at kr
  have HS := hid hset
  have HNp := hid hNp
  have HNb := hid hNb
  have HL := hid hl
  have HD := hid hd
  clear gR hR hz hC hl hI hN hNp hNb hW hget hset h1 h2 hr hk
  cases R with
  | none =>
    go_enter Tryz.func113, Tryz.ntmps113
    go_wp2_with fail
    go_region_held3 (fun wx => wx.cell? ⟨q, 1, none⟩ = some (.func (.func 67) #[] capsR) ∧ wx.cell? ⟨pp, 0, none⟩ = some (.func (.func 86) #[] #[])) (go_keep) (first
      | (go_at_call 86; refine (ks.out _).mono ?_; rintro e w2 ⟨rfl, rfl⟩)
      | (go_at_call 67; refine (kr.out _ (below_hp (Below.refl _ W) (by rfl) (by rfl) (by rfl) (by rfl)) (by rfl)).mono ?_; rintro e w3 ⟨hU3, t', u', rfl⟩; have HU3 : Hid (Upd (fun k => k = p ∨ k = b) W w3) := hid ((Upd.of_below (below_hp (Below.refl _ W) (by rfl) (by rfl) (by rfl) (by rfl))).trans hU3 (fun _ _ h => h)); have z0 : w3.cell? ⟨q, 1, none⟩ = some (.func (.func 67) #[] capsR) := (HU3.out.atc 1 hqW HQ.out.1).trans c1; have z1 : w3.cell? ⟨pp, 0, none⟩ = some (.func (.func 86) #[] #[]) := (HU3.out.atc 0 hpW HQ.out.2).trans c2; clear hU3))
    go_wp2_with fail
    go_ret
    exact ⟨HU3.out, t', u', rfl⟩
  | some y =>
    go_enter Tryz.func113, Tryz.ntmps113
    go_wp2_with fail
    go_region_held3 (fun wx => wx.cell? ⟨q, 1, none⟩ = some (.func (.func 67) #[] capsR) ∧ wx.cell? ⟨pp, 0, none⟩ = some (.func (.func 86) #[] #[])) (go_keep) (first
      | (go_at_call 86; refine (ks.out _).mono ?_; rintro e w2 ⟨rfl, rfl⟩)
      | (go_at_call 67; refine (kr.out _ (below_hp (Below.refl _ W) (by rfl) (by rfl) (by rfl) (by rfl)) (by rfl)).mono ?_; rintro e w3 ⟨hU3, rfl, hR3, cs, hcl, hC3, hI3⟩; have HU3 : Hid (Upd (fun k => k = p ∨ k = b) W w3) := hid ((Upd.of_below (below_hp (Below.refl _ W) (by rfl) (by rfl) (by rfl) (by rfl))).trans hU3 (fun _ _ h => h)); have z0 : w3.cell? ⟨q, 1, none⟩ = some (.func (.func 67) #[] capsR) := (HU3.out.atc 1 hqW HQ.out.1).trans c1; have z1 : w3.cell? ⟨pp, 0, none⟩ = some (.func (.func 86) #[] #[]) := (HU3.out.atc 0 hpW HQ.out.2).trans c2; have H3 := hid (And.intro hR3 (And.intro hcl (And.intro hC3 hI3))); clear hU3 hR3 hcl hC3 hI3))
    go_wp2_with fail
    go_ret
    obtain ⟨hR3, hcl, hC3, hI3⟩ := H3.out
    have hl := HL.out
    have hd := HD.out
    refine ⟨HU3.out, rfl, hR3, splice ((C.drop o).take szT) 1 cs, ?_, ?_, HS.out _ _ _ _ _ _ _ HI.out (keep_rd HU3.out HNp.out HNb.out) hcl hI3⟩
    · rw [length_splice _ _ _ (by simp; omega)]
      simp
      omega
    · rw [splice_nest C cs o 1 szT hl (by omega)]
      exact hC3

set_option maxHeartbeats 4000000 in
theorem partr_wr {α β : Type} (B : Nat) (wc : World) (q pp : Nat) (hqB : B ≤ q) (hpB : B ≤ pp) (capsR : Array Value) (szT szP : Nat) (IsT : (Nat → Prop) → World → List Value → α → Prop) (IsP : (Nat → Prop) → World → List Value → β → Prop) (sel : α → β) (up : α → β → α) (rd : β → List Int → Option (β × Nat))
    (h1 : wc.cell? ⟨q, 1, none⟩ = some (.func (.func 67) #[] capsR)) (hql : q < wc.heap.size) (h2 : wc.cell? ⟨pp, 0, none⟩ = some (.func (.func 95) #[] #[])) (hpl : pp < wc.heap.size) (hd : 0 + szP ≤ szT)
    (hget : ∀ N W cs x, IsT N W cs x → IsP N W ((cs.drop 0).take szP) (sel x)) (hset : ∀ N W W' cs x y cs', IsT N W cs x → Keep N N W W' → cs'.length = szP → IsP N W' cs' y → IsT N W' (splice cs 0 cs') (up x y))
    (hk : ∀ N W W' cs x, Keep N N W W' → IsT N W cs x → IsT N W' cs x) (hr : Rd B wc szP IsP rd 67 capsR) : Rd B wc szT IsT (rP sel up rd) 123 #[.pointer (some ⟨q, 0, none⟩), .pointer (some ⟨pp, 0, none⟩)] := by
  refine ⟨fun args w => by kernel_rfl, fun W N p g len at_ zs b o C t x hW hR hz hbB hbp hbg hC hl hI hN hNp hNb => ?_⟩
  show Calls Tryz.prog 123 #[.pointer (some ⟨p, 0, none⟩), .pointer (some ⟨b, o, none⟩), .pointer (some ⟨q, 0, none⟩), .pointer (some ⟨pp, 0, none⟩)] W _
  have hs := hW.size
  have hmid := hR.mid
  have c1 := (hW.atc 1 hql (by omega)).trans h1
  have c2 := (hW.atc 0 hpl (by omega)).trans h2
  have hqW : q < W.heap.size := by omega
  have hpW : pp < W.heap.size := by omega
  have HQ : Hid ((¬ (q = p ∨ q = b)) ∧ ¬ (pp = p ∨ pp = b)) := hid (by omega)
  have hgo := hr.1
  have ks := hid (sel_word1 b o)
  unfold rP
  obtain ⟨R, gR⟩ : ∃ R, rd (sel x) (zs.drop at_) = R := ⟨_, rfl⟩
  rw [gR]
  have HI := hid hI
  have kr := hid (fun wx (hx' : Below W.heap.size W wx) (e : wx.heap = W.heap) => hr.2 wx N p g len at_ zs b (o + 0) C t (sel x) (hW.trans (Upd.of_below hx') (fun _ _ h => h)) (hR.heap e) hz hbB hbp hbg (by rw [e]; exact hC) (by omega) (by rw [← take_drop_nest C o 0 szP szT hd]; exact hget _ _ _ _ (hk _ _ _ _ _ (Keep.below hx') HI.out)) (fun k hk => hN k (by rw [e] at hk; exact hk)) hNp hNb)
  simp only [gR] at kr
  have HS := hid hset
  have HNp := hid hNp
  have HNb := hid hNb
  have HL := hid hl
  have HD := hid hd
  clear gR hR hz hC hl hI hN hNp hNb hW hget hset h1 h2 hr hk
  cases R with
  | none =>
    go_enter Tryz.func123, Tryz.ntmps123
    go_wp2_with fail
    go_region_held3 (fun wx => wx.cell? ⟨q, 1, none⟩ = some (.func (.func 67) #[] capsR) ∧ wx.cell? ⟨pp, 0, none⟩ = some (.func (.func 95) #[] #[])) (go_keep) (first
      | (go_at_call 95; refine (ks.out _).mono ?_; rintro e w2 ⟨rfl, rfl⟩)
      | (go_at_call 67; refine (kr.out _ (below_hp (Below.refl _ W) (by rfl) (by rfl) (by rfl) (by rfl)) (by rfl)).mono ?_; rintro e w3 ⟨hU3, t', u', rfl⟩; have HU3 : Hid (Upd (fun k => k = p ∨ k = b) W w3) := hid ((Upd.of_below (below_hp (Below.refl _ W) (by rfl) (by rfl) (by rfl) (by rfl))).trans hU3 (fun _ _ h => h)); have z0 : w3.cell? ⟨q, 1, none⟩ = some (.func (.func 67) #[] capsR) := (HU3.out.atc 1 hqW HQ.out.1).trans c1; have z1 : w3.cell? ⟨pp, 0, none⟩ = some (.func (.func 95) #[] #[]) := (HU3.out.atc 0 hpW HQ.out.2).trans c2; clear hU3))
    go_wp2_with fail
    go_ret
    exact ⟨HU3.out, t', u', rfl⟩
  | some y =>
    go_enter Tryz.func123, Tryz.ntmps123
    go_wp2_with fail
    go_region_held3 (fun wx => wx.cell? ⟨q, 1, none⟩ = some (.func (.func 67) #[] capsR) ∧ wx.cell? ⟨pp, 0, none⟩ = some (.func (.func 95) #[] #[])) (go_keep) (first
      | (go_at_call 95; refine (ks.out _).mono ?_; rintro e w2 ⟨rfl, rfl⟩)
      | (go_at_call 67; refine (kr.out _ (below_hp (Below.refl _ W) (by rfl) (by rfl) (by rfl) (by rfl)) (by rfl)).mono ?_; rintro e w3 ⟨hU3, rfl, hR3, cs, hcl, hC3, hI3⟩; have HU3 : Hid (Upd (fun k => k = p ∨ k = b) W w3) := hid ((Upd.of_below (below_hp (Below.refl _ W) (by rfl) (by rfl) (by rfl) (by rfl))).trans hU3 (fun _ _ h => h)); have z0 : w3.cell? ⟨q, 1, none⟩ = some (.func (.func 67) #[] capsR) := (HU3.out.atc 1 hqW HQ.out.1).trans c1; have z1 : w3.cell? ⟨pp, 0, none⟩ = some (.func (.func 95) #[] #[]) := (HU3.out.atc 0 hpW HQ.out.2).trans c2; have H3 := hid (And.intro hR3 (And.intro hcl (And.intro hC3 hI3))); clear hU3 hR3 hcl hC3 hI3))
    go_wp2_with fail
    go_ret
    obtain ⟨hR3, hcl, hC3, hI3⟩ := H3.out
    have hl := HL.out
    have hd := HD.out
    refine ⟨HU3.out, rfl, hR3, splice ((C.drop o).take szT) 0 cs, ?_, ?_, HS.out _ _ _ _ _ _ _ HI.out (keep_rd HU3.out HNp.out HNb.out) hcl hI3⟩
    · rw [length_splice _ _ _ (by simp; omega)]
      simp
      omega
    · rw [splice_nest C cs o 0 szT hl (by omega)]
      exact hC3

set_option maxHeartbeats 4000000 in
theorem partr_wv {α β : Type} (B : Nat) (wc : World) (q pp : Nat) (hqB : B ≤ q) (hpB : B ≤ pp) (capsR : Array Value) (szT szP : Nat) (IsT : (Nat → Prop) → World → List Value → α → Prop) (IsP : (Nat → Prop) → World → List Value → β → Prop) (sel : α → β) (up : α → β → α) (rd : β → List Int → Option (β × Nat))
    (h1 : wc.cell? ⟨q, 1, none⟩ = some (.func (.func 116) #[] capsR)) (hql : q < wc.heap.size) (h2 : wc.cell? ⟨pp, 0, none⟩ = some (.func (.func 96) #[] #[])) (hpl : pp < wc.heap.size) (hd : 1 + szP ≤ szT)
    (hget : ∀ N W cs x, IsT N W cs x → IsP N W ((cs.drop 1).take szP) (sel x)) (hset : ∀ N W W' cs x y cs', IsT N W cs x → Keep N N W W' → cs'.length = szP → IsP N W' cs' y → IsT N W' (splice cs 1 cs') (up x y))
    (hk : ∀ N W W' cs x, Keep N N W W' → IsT N W cs x → IsT N W' cs x) (hr : Rd B wc szP IsP rd 116 capsR) : Rd B wc szT IsT (rP sel up rd) 123 #[.pointer (some ⟨q, 0, none⟩), .pointer (some ⟨pp, 0, none⟩)] := by
  refine ⟨fun args w => by kernel_rfl, fun W N p g len at_ zs b o C t x hW hR hz hbB hbp hbg hC hl hI hN hNp hNb => ?_⟩
  show Calls Tryz.prog 123 #[.pointer (some ⟨p, 0, none⟩), .pointer (some ⟨b, o, none⟩), .pointer (some ⟨q, 0, none⟩), .pointer (some ⟨pp, 0, none⟩)] W _
  have hs := hW.size
  have hmid := hR.mid
  have c1 := (hW.atc 1 hql (by omega)).trans h1
  have c2 := (hW.atc 0 hpl (by omega)).trans h2
  have hqW : q < W.heap.size := by omega
  have hpW : pp < W.heap.size := by omega
  have HQ : Hid ((¬ (q = p ∨ q = b)) ∧ ¬ (pp = p ∨ pp = b)) := hid (by omega)
  have hgo := hr.1
  have ks := hid (sel_word2 b o)
  unfold rP
  obtain ⟨R, gR⟩ : ∃ R, rd (sel x) (zs.drop at_) = R := ⟨_, rfl⟩
  rw [gR]
  have HI := hid hI
  have kr := hid (fun wx (hx' : Below W.heap.size W wx) (e : wx.heap = W.heap) => hr.2 wx N p g len at_ zs b (o + 1) C t (sel x) (hW.trans (Upd.of_below hx') (fun _ _ h => h)) (hR.heap e) hz hbB hbp hbg (by rw [e]; exact hC) (by omega) (by rw [← take_drop_nest C o 1 szP szT hd]; exact hget _ _ _ _ (hk _ _ _ _ _ (Keep.below hx') HI.out)) (fun k hk => hN k (by rw [e] at hk; exact hk)) hNp hNb)
  simp only [gR] at kr
  have HS := hid hset
  have HNp := hid hNp
  have HNb := hid hNb
  have HL := hid hl
  have HD := hid hd
  clear gR hR hz hC hl hI hN hNp hNb hW hget hset h1 h2 hr hk
  cases R with
  | none =>
    go_enter Tryz.func123, Tryz.ntmps123
    go_wp2_with fail
    go_region_held3 (fun wx => wx.cell? ⟨q, 1, none⟩ = some (.func (.func 116) #[] capsR) ∧ wx.cell? ⟨pp, 0, none⟩ = some (.func (.func 96) #[] #[])) (go_keep) (first
      | (go_at_call 96; refine (ks.out _).mono ?_; rintro e w2 ⟨rfl, rfl⟩)
      | (go_at_call 116; refine (kr.out _ (below_hp (Below.refl _ W) (by rfl) (by rfl) (by rfl) (by rfl)) (by rfl)).mono ?_; rintro e w3 ⟨hU3, t', u', rfl⟩; have HU3 : Hid (Upd (fun k => k = p ∨ k = b) W w3) := hid ((Upd.of_below (below_hp (Below.refl _ W) (by rfl) (by rfl) (by rfl) (by rfl))).trans hU3 (fun _ _ h => h)); have z0 : w3.cell? ⟨q, 1, none⟩ = some (.func (.func 116) #[] capsR) := (HU3.out.atc 1 hqW HQ.out.1).trans c1; have z1 : w3.cell? ⟨pp, 0, none⟩ = some (.func (.func 96) #[] #[]) := (HU3.out.atc 0 hpW HQ.out.2).trans c2; clear hU3))
    go_wp2_with fail
    go_ret
    exact ⟨HU3.out, t', u', rfl⟩
  | some y =>
    go_enter Tryz.func123, Tryz.ntmps123
    go_wp2_with fail
    go_region_held3 (fun wx => wx.cell? ⟨q, 1, none⟩ = some (.func (.func 116) #[] capsR) ∧ wx.cell? ⟨pp, 0, none⟩ = some (.func (.func 96) #[] #[])) (go_keep) (first
      | (go_at_call 96; refine (ks.out _).mono ?_; rintro e w2 ⟨rfl, rfl⟩)
      | (go_at_call 116; refine (kr.out _ (below_hp (Below.refl _ W) (by rfl) (by rfl) (by rfl) (by rfl)) (by rfl)).mono ?_; rintro e w3 ⟨hU3, rfl, hR3, cs, hcl, hC3, hI3⟩; have HU3 : Hid (Upd (fun k => k = p ∨ k = b) W w3) := hid ((Upd.of_below (below_hp (Below.refl _ W) (by rfl) (by rfl) (by rfl) (by rfl))).trans hU3 (fun _ _ h => h)); have z0 : w3.cell? ⟨q, 1, none⟩ = some (.func (.func 116) #[] capsR) := (HU3.out.atc 1 hqW HQ.out.1).trans c1; have z1 : w3.cell? ⟨pp, 0, none⟩ = some (.func (.func 96) #[] #[]) := (HU3.out.atc 0 hpW HQ.out.2).trans c2; have H3 := hid (And.intro hR3 (And.intro hcl (And.intro hC3 hI3))); clear hU3 hR3 hcl hC3 hI3))
    go_wp2_with fail
    go_ret
    obtain ⟨hR3, hcl, hC3, hI3⟩ := H3.out
    have hl := HL.out
    have hd := HD.out
    refine ⟨HU3.out, rfl, hR3, splice ((C.drop o).take szT) 1 cs, ?_, ?_, HS.out _ _ _ _ _ _ _ HI.out (keep_rd HU3.out HNp.out HNb.out) hcl hI3⟩
    · rw [length_splice _ _ _ (by simp; omega)]
      simp
      omega
    · rw [splice_nest C cs o 1 szT hl (by omega)]
      exact hC3

end Go.Proofs.YtpbhcmfbcnihiaaGreat
