/- The codecs of a thing's parts: what their Read reads. Written by gen_brpart.py. -/
import Derived.Test.YtpbhcmfbcnihiaaGreatBRd2
import Derived.Test.YtpbhcmfbcnihiaaGreatBPart
namespace Go.Proofs.YtpbhcmfbcnihiaaGreat
open Go.RowKit Num
set_option linter.unusedVariables false
set_option maxRecDepth 20000

theorem take_drop_nest {α : Type} (C : List α) (o d n m : Nat) (h : d + n ≤ m) : (((C.drop o).take m).drop d).take n = (C.drop (o + d)).take n := by
  rw [List.drop_take, List.take_take, List.drop_drop, show min n (m - d) = n by omega]
theorem splice_nest {α : Type} (C cs : List α) (o d m : Nat) (h1 : o + m ≤ C.length) (h2 : d + cs.length ≤ m) : splice C o (splice ((C.drop o).take m) d cs) = splice C (o + d) cs := by
  have hl : ((C.drop o).take m).length = m := by simp; omega
  have hs : (splice ((C.drop o).take m) d cs).length = m := by rw [length_splice _ _ _ (by omega), hl]
  apply List.ext_getElem?
  intro j
  rcases Nat.lt_or_ge j o with a | a
  · rw [getElem?_splice_out _ _ _ _ (by omega) (by omega), getElem?_splice_out _ _ _ _ (by omega) (by omega)]
  · rcases Nat.lt_or_ge j (o + m) with b | b
    · obtain ⟨i, rfl⟩ := Nat.exists_eq_add_of_le a
      rw [getElem?_splice_in _ _ _ i (by omega) (by omega)]
      rcases Nat.lt_or_ge i d with c | c
      · rw [getElem?_splice_out _ _ _ _ (by omega) (by omega), getElem?_splice_out _ _ _ _ (by omega) (by omega), List.getElem?_take_of_lt (by omega), List.getElem?_drop]
      · rcases Nat.lt_or_ge i (d + cs.length) with e | e
        · obtain ⟨k, rfl⟩ := Nat.exists_eq_add_of_le c
          rw [getElem?_splice_in _ _ _ k (by omega) (by omega), ← Nat.add_assoc, getElem?_splice_in _ _ _ k (by omega) (by omega)]
        · rw [getElem?_splice_out _ _ _ _ (by omega) (by omega), getElem?_splice_out _ _ _ _ (by omega) (by omega), List.getElem?_take_of_lt (by omega), List.getElem?_drop]
    · rw [getElem?_splice_out _ _ _ _ (by omega) (by omega), getElem?_splice_out _ _ _ _ (by omega) (by omega)]
theorem splice_at {α : Type} (C cs : List α) (o n : Nat) (h : o + n ≤ C.length) (hn : cs.length = n) : ((splice C o cs).drop o).take n = cs := by
  subst hn
  unfold splice
  rw [List.drop_append, List.drop_of_length_le (by simp; omega), List.length_take, show o - min o C.length = 0 by omega]
  simp
theorem splice_splice {α : Type} (C cs ds : List α) (o : Nat) (h : o + cs.length ≤ C.length) (hn : ds.length = cs.length) : splice (splice C o cs) o ds = splice C o ds := by
  apply List.ext_getElem?
  intro j
  have hl := length_splice C cs o h
  rcases Nat.lt_or_ge j o with a | a
  · rw [getElem?_splice_out _ _ _ _ (by omega) (by omega), getElem?_splice_out _ _ _ _ (by omega) (by omega), getElem?_splice_out _ _ _ _ (by omega) (by omega)]
  · rcases Nat.lt_or_ge j (o + ds.length) with b | b
    · obtain ⟨i, rfl⟩ := Nat.exists_eq_add_of_le a
      rw [getElem?_splice_in _ _ _ i (by omega) (by omega), getElem?_splice_in _ _ _ i (by omega) (by omega)]
    · rw [getElem?_splice_out _ _ _ _ (by omega) (by omega), getElem?_splice_out _ _ _ _ (by omega) (by omega), getElem?_splice_out _ _ _ _ (by omega) (by omega)]
/-- What a Read turns is none of N. -/
theorem keep_rd {N : Nat → Prop} {W W' : World} {p b : Nat} (u : Upd (fun k => k = p ∨ k = b) W W') (hp : ¬ N p) (hb : ¬ N b) : Keep N N W W' :=
  Keep.upd u (fun k hN _ => ⟨hN, fun h => by rcases h with rfl | rfl; exact hp hN; exact hb hN⟩)
/-- A part's Read, as the whole's. -/
def rP {α β : Type} (sel : α → β) (up : α → β → α) (rd : β → List Int → Option (β × Nat)) (x : α) (zs : List Int) : Option (α × Nat) := (rd (sel x) zs).map (fun r => (up x r.1, r.2))

set_option maxHeartbeats 4000000 in
theorem partr_xn {α β : Type} (B : Nat) (wc : World) (q pp : Nat) (hqB : B ≤ q) (hpB : B ≤ pp) (capsR : Array Value) (szT szP : Nat) (IsT : (Nat → Prop) → World → List Value → α → Prop) (IsP : (Nat → Prop) → World → List Value → β → Prop) (sel : α → β) (up : α → β → α) (rd : β → List Int → Option (β × Nat))
    (h1 : wc.cell? ⟨q, 1, none⟩ = some (.func (.func 67) #[] capsR)) (hql : q < wc.heap.size) (h2 : wc.cell? ⟨pp, 0, none⟩ = some (.func (.func 51) #[] #[])) (hpl : pp < wc.heap.size) (hd : 0 + szP ≤ szT)
    (hget : ∀ N W cs x, IsT N W cs x → IsP N W ((cs.drop 0).take szP) (sel x)) (hset : ∀ N W W' cs x y cs', IsT N W cs x → Keep N N W W' → cs'.length = szP → IsP N W' cs' y → IsT N W' (splice cs 0 cs') (up x y))
    (hk : ∀ N W W' cs x, Keep N N W W' → IsT N W cs x → IsT N W' cs x) (hr : Rd B wc szP IsP rd 67 capsR) : Rd B wc szT IsT (rP sel up rd) 72 #[.pointer (some ⟨q, 0, none⟩), .pointer (some ⟨pp, 0, none⟩)] := by
  refine ⟨fun args w => by kernel_rfl, fun W N p g len at_ zs b o C t x hW hR hz hbB hbp hbg hC hl hI hN hNp hNb => ?_⟩
  show Calls Tryz.prog 72 #[.pointer (some ⟨p, 0, none⟩), .pointer (some ⟨b, o, none⟩), .pointer (some ⟨q, 0, none⟩), .pointer (some ⟨pp, 0, none⟩)] W _
  have hs := hW.size
  have hmid := hR.mid
  have c1 := (hW.atc 1 hql (by omega)).trans h1
  have c2 := (hW.atc 0 hpl (by omega)).trans h2
  have hqW : q < W.heap.size := by omega
  have hpW : pp < W.heap.size := by omega
  have HQ : Hid ((¬ (q = p ∨ q = b)) ∧ ¬ (pp = p ∨ pp = b)) := hid (by omega)
  have hgo := hr.1
  have ks := hid (sel_call1 b o)
  unfold rP
  obtain ⟨R, gR⟩ : ∃ R, rd (sel x) (zs.drop at_) = R := ⟨_, rfl⟩
  rw [gR]
  have HI := hid hI
  have kr := hid (fun wx (hx' : Below W.heap.size W wx) (e : wx.heap = W.heap) => hr.2 wx N p g len at_ zs b (o + 0) C t (sel x) (hW.trans (Upd.of_below hx') (fun _ _ h => h)) (hR.heap e) hz hbB hbp hbg (by rw [e]; exact hC) (by omega) (by rw [← take_drop_nest C o 0 szP szT hd]; exact hget _ _ _ _ (hk _ _ _ _ _ (Keep.below hx') HI.out)) (fun k hk => hN k (by rw [e] at hk; exact hk)) hNp hNb)
  simp only [gR] at kr
  have HS := hid hset
  have HNp := hid hNp
  have HNb := hid hNb
  have HL := hid hl
  have HD := hid hd
  clear gR hR hz hC hl hI hN hNp hNb hW hget hset h1 h2 hr hk
  cases R with
  | none =>
    go_enter Tryz.func72, Tryz.ntmps72
    go_wp2_with fail
    go_region_held3 (fun wx => wx.cell? ⟨q, 1, none⟩ = some (.func (.func 67) #[] capsR) ∧ wx.cell? ⟨pp, 0, none⟩ = some (.func (.func 51) #[] #[])) (go_keep) (first
      | (go_at_call 51; refine (ks.out _).mono ?_; rintro e w2 ⟨rfl, rfl⟩)
      | (go_at_call 67; refine (kr.out _ (below_hp (Below.refl _ W) (by rfl) (by rfl) (by rfl) (by rfl)) (by rfl)).mono ?_; rintro e w3 ⟨hU3, t', u', rfl⟩; have HU3 : Hid (Upd (fun k => k = p ∨ k = b) W w3) := hid ((Upd.of_below (below_hp (Below.refl _ W) (by rfl) (by rfl) (by rfl) (by rfl))).trans hU3 (fun _ _ h => h)); have z0 : w3.cell? ⟨q, 1, none⟩ = some (.func (.func 67) #[] capsR) := (HU3.out.atc 1 hqW HQ.out.1).trans c1; have z1 : w3.cell? ⟨pp, 0, none⟩ = some (.func (.func 51) #[] #[]) := (HU3.out.atc 0 hpW HQ.out.2).trans c2; clear hU3))
    go_wp2_with fail
    go_ret
    exact ⟨HU3.out, t', u', rfl⟩
  | some y =>
    go_enter Tryz.func72, Tryz.ntmps72
    go_wp2_with fail
    go_region_held3 (fun wx => wx.cell? ⟨q, 1, none⟩ = some (.func (.func 67) #[] capsR) ∧ wx.cell? ⟨pp, 0, none⟩ = some (.func (.func 51) #[] #[])) (go_keep) (first
      | (go_at_call 51; refine (ks.out _).mono ?_; rintro e w2 ⟨rfl, rfl⟩)
      | (go_at_call 67; refine (kr.out _ (below_hp (Below.refl _ W) (by rfl) (by rfl) (by rfl) (by rfl)) (by rfl)).mono ?_; rintro e w3 ⟨hU3, rfl, hR3, cs, hcl, hC3, hI3⟩; have HU3 : Hid (Upd (fun k => k = p ∨ k = b) W w3) := hid ((Upd.of_below (below_hp (Below.refl _ W) (by rfl) (by rfl) (by rfl) (by rfl))).trans hU3 (fun _ _ h => h)); have z0 : w3.cell? ⟨q, 1, none⟩ = some (.func (.func 67) #[] capsR) := (HU3.out.atc 1 hqW HQ.out.1).trans c1; have z1 : w3.cell? ⟨pp, 0, none⟩ = some (.func (.func 51) #[] #[]) := (HU3.out.atc 0 hpW HQ.out.2).trans c2; have H3 := hid (And.intro hR3 (And.intro hcl (And.intro hC3 hI3))); clear hU3 hR3 hcl hC3 hI3))
    go_wp2_with fail
    go_ret
    obtain ⟨hR3, hcl, hC3, hI3⟩ := H3.out
    have hl := HL.out
    have hd := HD.out
    refine ⟨HU3.out, rfl, hR3, splice ((C.drop o).take szT) 0 cs, ?_, ?_, HS.out _ _ _ _ _ _ _ HI.out (keep_rd HU3.out HNp.out HNb.out) hcl hI3⟩
    · rw [length_splice _ _ _ (by simp; omega)]
      simp
      omega
    · rw [splice_nest C cs o 0 szT hl (by omega)]
      exact hC3

set_option maxHeartbeats 4000000 in
theorem partr_xc {α β : Type} (B : Nat) (wc : World) (q pp : Nat) (hqB : B ≤ q) (hpB : B ≤ pp) (capsR : Array Value) (szT szP : Nat) (IsT : (Nat → Prop) → World → List Value → α → Prop) (IsP : (Nat → Prop) → World → List Value → β → Prop) (sel : α → β) (up : α → β → α) (rd : β → List Int → Option (β × Nat))
    (h1 : wc.cell? ⟨q, 1, none⟩ = some (.func (.func 76) #[] capsR)) (hql : q < wc.heap.size) (h2 : wc.cell? ⟨pp, 0, none⟩ = some (.func (.func 53) #[] #[])) (hpl : pp < wc.heap.size) (hd : 1 + szP ≤ szT)
    (hget : ∀ N W cs x, IsT N W cs x → IsP N W ((cs.drop 1).take szP) (sel x)) (hset : ∀ N W W' cs x y cs', IsT N W cs x → Keep N N W W' → cs'.length = szP → IsP N W' cs' y → IsT N W' (splice cs 1 cs') (up x y))
    (hk : ∀ N W W' cs x, Keep N N W W' → IsT N W cs x → IsT N W' cs x) (hr : Rd B wc szP IsP rd 76 capsR) : Rd B wc szT IsT (rP sel up rd) 74 #[.pointer (some ⟨q, 0, none⟩), .pointer (some ⟨pp, 0, none⟩)] := by
  refine ⟨fun args w => by kernel_rfl, fun W N p g len at_ zs b o C t x hW hR hz hbB hbp hbg hC hl hI hN hNp hNb => ?_⟩
  show Calls Tryz.prog 74 #[.pointer (some ⟨p, 0, none⟩), .pointer (some ⟨b, o, none⟩), .pointer (some ⟨q, 0, none⟩), .pointer (some ⟨pp, 0, none⟩)] W _
  have hs := hW.size
  have hmid := hR.mid
  have c1 := (hW.atc 1 hql (by omega)).trans h1
  have c2 := (hW.atc 0 hpl (by omega)).trans h2
  have hqW : q < W.heap.size := by omega
  have hpW : pp < W.heap.size := by omega
  have HQ : Hid ((¬ (q = p ∨ q = b)) ∧ ¬ (pp = p ∨ pp = b)) := hid (by omega)
  have hgo := hr.1
  have ks := hid (sel_call2 b o)
  unfold rP
  obtain ⟨R, gR⟩ : ∃ R, rd (sel x) (zs.drop at_) = R := ⟨_, rfl⟩
  rw [gR]
  have HI := hid hI
  have kr := hid (fun wx (hx' : Below W.heap.size W wx) (e : wx.heap = W.heap) => hr.2 wx N p g len at_ zs b (o + 1) C t (sel x) (hW.trans (Upd.of_below hx') (fun _ _ h => h)) (hR.heap e) hz hbB hbp hbg (by rw [e]; exact hC) (by omega) (by rw [← take_drop_nest C o 1 szP szT hd]; exact hget _ _ _ _ (hk _ _ _ _ _ (Keep.below hx') HI.out)) (fun k hk => hN k (by rw [e] at hk; exact hk)) hNp hNb)
  simp only [gR] at kr
  have HS := hid hset
  have HNp := hid hNp
  have HNb := hid hNb
  have HL := hid hl
  have HD := hid hd
  clear gR hR hz hC hl hI hN hNp hNb hW hget hset h1 h2 hr hk
  cases R with
  | none =>
    go_enter Tryz.func74, Tryz.ntmps74
    go_wp2_with fail
    go_region_held3 (fun wx => wx.cell? ⟨q, 1, none⟩ = some (.func (.func 76) #[] capsR) ∧ wx.cell? ⟨pp, 0, none⟩ = some (.func (.func 53) #[] #[])) (go_keep) (first
      | (go_at_call 53; refine (ks.out _).mono ?_; rintro e w2 ⟨rfl, rfl⟩)
      | (go_at_call 76; refine (kr.out _ (below_hp (Below.refl _ W) (by rfl) (by rfl) (by rfl) (by rfl)) (by rfl)).mono ?_; rintro e w3 ⟨hU3, t', u', rfl⟩; have HU3 : Hid (Upd (fun k => k = p ∨ k = b) W w3) := hid ((Upd.of_below (below_hp (Below.refl _ W) (by rfl) (by rfl) (by rfl) (by rfl))).trans hU3 (fun _ _ h => h)); have z0 : w3.cell? ⟨q, 1, none⟩ = some (.func (.func 76) #[] capsR) := (HU3.out.atc 1 hqW HQ.out.1).trans c1; have z1 : w3.cell? ⟨pp, 0, none⟩ = some (.func (.func 53) #[] #[]) := (HU3.out.atc 0 hpW HQ.out.2).trans c2; clear hU3))
    go_wp2_with fail
    go_ret
    exact ⟨HU3.out, t', u', rfl⟩
  | some y =>
    go_enter Tryz.func74, Tryz.ntmps74
    go_wp2_with fail
    go_region_held3 (fun wx => wx.cell? ⟨q, 1, none⟩ = some (.func (.func 76) #[] capsR) ∧ wx.cell? ⟨pp, 0, none⟩ = some (.func (.func 53) #[] #[])) (go_keep) (first
      | (go_at_call 53; refine (ks.out _).mono ?_; rintro e w2 ⟨rfl, rfl⟩)
      | (go_at_call 76; refine (kr.out _ (below_hp (Below.refl _ W) (by rfl) (by rfl) (by rfl) (by rfl)) (by rfl)).mono ?_; rintro e w3 ⟨hU3, rfl, hR3, cs, hcl, hC3, hI3⟩; have HU3 : Hid (Upd (fun k => k = p ∨ k = b) W w3) := hid ((Upd.of_below (below_hp (Below.refl _ W) (by rfl) (by rfl) (by rfl) (by rfl))).trans hU3 (fun _ _ h => h)); have z0 : w3.cell? ⟨q, 1, none⟩ = some (.func (.func 76) #[] capsR) := (HU3.out.atc 1 hqW HQ.out.1).trans c1; have z1 : w3.cell? ⟨pp, 0, none⟩ = some (.func (.func 53) #[] #[]) := (HU3.out.atc 0 hpW HQ.out.2).trans c2; have H3 := hid (And.intro hR3 (And.intro hcl (And.intro hC3 hI3))); clear hU3 hR3 hcl hC3 hI3))
    go_wp2_with fail
    go_ret
    obtain ⟨hR3, hcl, hC3, hI3⟩ := H3.out
    have hl := HL.out
    have hd := HD.out
    refine ⟨HU3.out, rfl, hR3, splice ((C.drop o).take szT) 1 cs, ?_, ?_, HS.out _ _ _ _ _ _ _ HI.out (keep_rd HU3.out HNp.out HNb.out) hcl hI3⟩
    · rw [length_splice _ _ _ (by simp; omega)]
      simp
      omega
    · rw [splice_nest C cs o 1 szT hl (by omega)]
      exact hC3

set_option maxHeartbeats 4000000 in
theorem partr_xw {α β : Type} (B : Nat) (wc : World) (q pp : Nat) (hqB : B ≤ q) (hpB : B ≤ pp) (capsR : Array Value) (szT szP : Nat) (IsT : (Nat → Prop) → World → List Value → α → Prop) (IsP : (Nat → Prop) → World → List Value → β → Prop) (sel : α → β) (up : α → β → α) (rd : β → List Int → Option (β × Nat))
    (h1 : wc.cell? ⟨q, 1, none⟩ = some (.func (.func 92) #[] capsR)) (hql : q < wc.heap.size) (h2 : wc.cell? ⟨pp, 0, none⟩ = some (.func (.func 57) #[] #[])) (hpl : pp < wc.heap.size) (hd : 2 + szP ≤ szT)
    (hget : ∀ N W cs x, IsT N W cs x → IsP N W ((cs.drop 2).take szP) (sel x)) (hset : ∀ N W W' cs x y cs', IsT N W cs x → Keep N N W W' → cs'.length = szP → IsP N W' cs' y → IsT N W' (splice cs 2 cs') (up x y))
    (hk : ∀ N W W' cs x, Keep N N W W' → IsT N W cs x → IsT N W' cs x) (hr : Rd B wc szP IsP rd 92 capsR) : Rd B wc szT IsT (rP sel up rd) 90 #[.pointer (some ⟨q, 0, none⟩), .pointer (some ⟨pp, 0, none⟩)] := by
  refine ⟨fun args w => by kernel_rfl, fun W N p g len at_ zs b o C t x hW hR hz hbB hbp hbg hC hl hI hN hNp hNb => ?_⟩
  show Calls Tryz.prog 90 #[.pointer (some ⟨p, 0, none⟩), .pointer (some ⟨b, o, none⟩), .pointer (some ⟨q, 0, none⟩), .pointer (some ⟨pp, 0, none⟩)] W _
  have hs := hW.size
  have hmid := hR.mid
  have c1 := (hW.atc 1 hql (by omega)).trans h1
  have c2 := (hW.atc 0 hpl (by omega)).trans h2
  have hqW : q < W.heap.size := by omega
  have hpW : pp < W.heap.size := by omega
  have HQ : Hid ((¬ (q = p ∨ q = b)) ∧ ¬ (pp = p ∨ pp = b)) := hid (by omega)
  have hgo := hr.1
  have ks := hid (sel_call3 b o)
  unfold rP
  obtain ⟨R, gR⟩ : ∃ R, rd (sel x) (zs.drop at_) = R := ⟨_, rfl⟩
  rw [gR]
  have HI := hid hI
  have kr := hid (fun wx (hx' : Below W.heap.size W wx) (e : wx.heap = W.heap) => hr.2 wx N p g len at_ zs b (o + 2) C t (sel x) (hW.trans (Upd.of_below hx') (fun _ _ h => h)) (hR.heap e) hz hbB hbp hbg (by rw [e]; exact hC) (by omega) (by rw [← take_drop_nest C o 2 szP szT hd]; exact hget _ _ _ _ (hk _ _ _ _ _ (Keep.below hx') HI.out)) (fun k hk => hN k (by rw [e] at hk; exact hk)) hNp hNb)
  simp only [gR] at kr
  have HS := hid hset
  have HNp := hid hNp
  have HNb := hid hNb
  have HL := hid hl
  have HD := hid hd
  clear gR hR hz hC hl hI hN hNp hNb hW hget hset h1 h2 hr hk
  cases R with
  | none =>
    go_enter Tryz.func90, Tryz.ntmps90
    go_wp2_with fail
    go_region_held3 (fun wx => wx.cell? ⟨q, 1, none⟩ = some (.func (.func 92) #[] capsR) ∧ wx.cell? ⟨pp, 0, none⟩ = some (.func (.func 57) #[] #[])) (go_keep) (first
      | (go_at_call 57; refine (ks.out _).mono ?_; rintro e w2 ⟨rfl, rfl⟩)
      | (go_at_call 92; refine (kr.out _ (below_hp (Below.refl _ W) (by rfl) (by rfl) (by rfl) (by rfl)) (by rfl)).mono ?_; rintro e w3 ⟨hU3, t', u', rfl⟩; have HU3 : Hid (Upd (fun k => k = p ∨ k = b) W w3) := hid ((Upd.of_below (below_hp (Below.refl _ W) (by rfl) (by rfl) (by rfl) (by rfl))).trans hU3 (fun _ _ h => h)); have z0 : w3.cell? ⟨q, 1, none⟩ = some (.func (.func 92) #[] capsR) := (HU3.out.atc 1 hqW HQ.out.1).trans c1; have z1 : w3.cell? ⟨pp, 0, none⟩ = some (.func (.func 57) #[] #[]) := (HU3.out.atc 0 hpW HQ.out.2).trans c2; clear hU3))
    go_wp2_with fail
    go_ret
    exact ⟨HU3.out, t', u', rfl⟩
  | some y =>
    go_enter Tryz.func90, Tryz.ntmps90
    go_wp2_with fail
    go_region_held3 (fun wx => wx.cell? ⟨q, 1, none⟩ = some (.func (.func 92) #[] capsR) ∧ wx.cell? ⟨pp, 0, none⟩ = some (.func (.func 57) #[] #[])) (go_keep) (first
      | (go_at_call 57; refine (ks.out _).mono ?_; rintro e w2 ⟨rfl, rfl⟩)
      | (go_at_call 92; refine (kr.out _ (below_hp (Below.refl _ W) (by rfl) (by rfl) (by rfl) (by rfl)) (by rfl)).mono ?_; rintro e w3 ⟨hU3, rfl, hR3, cs, hcl, hC3, hI3⟩; have HU3 : Hid (Upd (fun k => k = p ∨ k = b) W w3) := hid ((Upd.of_below (below_hp (Below.refl _ W) (by rfl) (by rfl) (by rfl) (by rfl))).trans hU3 (fun _ _ h => h)); have z0 : w3.cell? ⟨q, 1, none⟩ = some (.func (.func 92) #[] capsR) := (HU3.out.atc 1 hqW HQ.out.1).trans c1; have z1 : w3.cell? ⟨pp, 0, none⟩ = some (.func (.func 57) #[] #[]) := (HU3.out.atc 0 hpW HQ.out.2).trans c2; have H3 := hid (And.intro hR3 (And.intro hcl (And.intro hC3 hI3))); clear hU3 hR3 hcl hC3 hI3))
    go_wp2_with fail
    go_ret
    obtain ⟨hR3, hcl, hC3, hI3⟩ := H3.out
    have hl := HL.out
    have hd := HD.out
    refine ⟨HU3.out, rfl, hR3, splice ((C.drop o).take szT) 2 cs, ?_, ?_, HS.out _ _ _ _ _ _ _ HI.out (keep_rd HU3.out HNp.out HNb.out) hcl hI3⟩
    · rw [length_splice _ _ _ (by simp; omega)]
      simp
      omega
    · rw [splice_nest C cs o 2 szT hl (by omega)]
      exact hC3

set_option maxHeartbeats 4000000 in
theorem partr_cb {α β : Type} (B : Nat) (wc : World) (q pp : Nat) (hqB : B ≤ q) (hpB : B ≤ pp) (capsR : Array Value) (szT szP : Nat) (IsT : (Nat → Prop) → World → List Value → α → Prop) (IsP : (Nat → Prop) → World → List Value → β → Prop) (sel : α → β) (up : α → β → α) (rd : β → List Int → Option (β × Nat))
    (h1 : wc.cell? ⟨q, 1, none⟩ = some (.func (.func 108) #[] capsR)) (hql : q < wc.heap.size) (h2 : wc.cell? ⟨pp, 0, none⟩ = some (.func (.func 78) #[] #[])) (hpl : pp < wc.heap.size) (hd : 4 + szP ≤ szT)
    (hget : ∀ N W cs x, IsT N W cs x → IsP N W ((cs.drop 4).take szP) (sel x)) (hset : ∀ N W W' cs x y cs', IsT N W cs x → Keep N N W W' → cs'.length = szP → IsP N W' cs' y → IsT N W' (splice cs 4 cs') (up x y))
    (hk : ∀ N W W' cs x, Keep N N W W' → IsT N W cs x → IsT N W' cs x) (hr : Rd B wc szP IsP rd 108 capsR) : Rd B wc szT IsT (rP sel up rd) 105 #[.pointer (some ⟨q, 0, none⟩), .pointer (some ⟨pp, 0, none⟩)] := by
  refine ⟨fun args w => by kernel_rfl, fun W N p g len at_ zs b o C t x hW hR hz hbB hbp hbg hC hl hI hN hNp hNb => ?_⟩
  show Calls Tryz.prog 105 #[.pointer (some ⟨p, 0, none⟩), .pointer (some ⟨b, o, none⟩), .pointer (some ⟨q, 0, none⟩), .pointer (some ⟨pp, 0, none⟩)] W _
  have hs := hW.size
  have hmid := hR.mid
  have c1 := (hW.atc 1 hql (by omega)).trans h1
  have c2 := (hW.atc 0 hpl (by omega)).trans h2
  have hqW : q < W.heap.size := by omega
  have hpW : pp < W.heap.size := by omega
  have HQ : Hid ((¬ (q = p ∨ q = b)) ∧ ¬ (pp = p ∨ pp = b)) := hid (by omega)
  have hgo := hr.1
  have ks := hid (sel_cpd1 b o)
  unfold rP
  obtain ⟨R, gR⟩ : ∃ R, rd (sel x) (zs.drop at_) = R := ⟨_, rfl⟩
  rw [gR]
  have HI := hid hI
  have kr := hid (fun wx (hx' : Below W.heap.size W wx) (e : wx.heap = W.heap) => hr.2 wx N p g len at_ zs b (o + 4) C t (sel x) (hW.trans (Upd.of_below hx') (fun _ _ h => h)) (hR.heap e) hz hbB hbp hbg (by rw [e]; exact hC) (by omega) (by rw [← take_drop_nest C o 4 szP szT hd]; exact hget _ _ _ _ (hk _ _ _ _ _ (Keep.below hx') HI.out)) (fun k hk => hN k (by rw [e] at hk; exact hk)) hNp hNb)
  simp only [gR] at kr
  have HS := hid hset
  have HNp := hid hNp
  have HNb := hid hNb
  have HL := hid hl
  have HD := hid hd
  clear gR hR hz hC hl hI hN hNp hNb hW hget hset h1 h2 hr hk
  cases R with
  | none =>
    go_enter Tryz.func105, Tryz.ntmps105
    go_wp2_with fail
    go_region_held3 (fun wx => wx.cell? ⟨q, 1, none⟩ = some (.func (.func 108) #[] capsR) ∧ wx.cell? ⟨pp, 0, none⟩ = some (.func (.func 78) #[] #[])) (go_keep) (first
      | (go_at_call 78; refine (ks.out _).mono ?_; rintro e w2 ⟨rfl, rfl⟩)
      | (go_at_call 108; refine (kr.out _ (below_hp (Below.refl _ W) (by rfl) (by rfl) (by rfl) (by rfl)) (by rfl)).mono ?_; rintro e w3 ⟨hU3, t', u', rfl⟩; have HU3 : Hid (Upd (fun k => k = p ∨ k = b) W w3) := hid ((Upd.of_below (below_hp (Below.refl _ W) (by rfl) (by rfl) (by rfl) (by rfl))).trans hU3 (fun _ _ h => h)); have z0 : w3.cell? ⟨q, 1, none⟩ = some (.func (.func 108) #[] capsR) := (HU3.out.atc 1 hqW HQ.out.1).trans c1; have z1 : w3.cell? ⟨pp, 0, none⟩ = some (.func (.func 78) #[] #[]) := (HU3.out.atc 0 hpW HQ.out.2).trans c2; clear hU3))
    go_wp2_with fail
    go_ret
    exact ⟨HU3.out, t', u', rfl⟩
  | some y =>
    go_enter Tryz.func105, Tryz.ntmps105
    go_wp2_with fail
    go_region_held3 (fun wx => wx.cell? ⟨q, 1, none⟩ = some (.func (.func 108) #[] capsR) ∧ wx.cell? ⟨pp, 0, none⟩ = some (.func (.func 78) #[] #[])) (go_keep) (first
      | (go_at_call 78; refine (ks.out _).mono ?_; rintro e w2 ⟨rfl, rfl⟩)
      | (go_at_call 108; refine (kr.out _ (below_hp (Below.refl _ W) (by rfl) (by rfl) (by rfl) (by rfl)) (by rfl)).mono ?_; rintro e w3 ⟨hU3, rfl, hR3, cs, hcl, hC3, hI3⟩; have HU3 : Hid (Upd (fun k => k = p ∨ k = b) W w3) := hid ((Upd.of_below (below_hp (Below.refl _ W) (by rfl) (by rfl) (by rfl) (by rfl))).trans hU3 (fun _ _ h => h)); have z0 : w3.cell? ⟨q, 1, none⟩ = some (.func (.func 108) #[] capsR) := (HU3.out.atc 1 hqW HQ.out.1).trans c1; have z1 : w3.cell? ⟨pp, 0, none⟩ = some (.func (.func 78) #[] #[]) := (HU3.out.atc 0 hpW HQ.out.2).trans c2; have H3 := hid (And.intro hR3 (And.intro hcl (And.intro hC3 hI3))); clear hU3 hR3 hcl hC3 hI3))
    go_wp2_with fail
    go_ret
    obtain ⟨hR3, hcl, hC3, hI3⟩ := H3.out
    have hl := HL.out
    have hd := HD.out
    refine ⟨HU3.out, rfl, hR3, splice ((C.drop o).take szT) 4 cs, ?_, ?_, HS.out _ _ _ _ _ _ _ HI.out (keep_rd HU3.out HNp.out HNb.out) hcl hI3⟩
    · rw [length_splice _ _ _ (by simp; omega)]
      simp
      omega
    · rw [splice_nest C cs o 4 szT hl (by omega)]
      exact hC3

set_option maxHeartbeats 4000000 in
theorem partr_cs {α β : Type} (B : Nat) (wc : World) (q pp : Nat) (hqB : B ≤ q) (hpB : B ≤ pp) (capsR : Array Value) (szT szP : Nat) (IsT : (Nat → Prop) → World → List Value → α → Prop) (IsP : (Nat → Prop) → World → List Value → β → Prop) (sel : α → β) (up : α → β → α) (rd : β → List Int → Option (β × Nat))
    (h1 : wc.cell? ⟨q, 1, none⟩ = some (.func (.func 67) #[] capsR)) (hql : q < wc.heap.size) (h2 : wc.cell? ⟨pp, 0, none⟩ = some (.func (.func 82) #[] #[])) (hpl : pp < wc.heap.size) (hd : 2 + szP ≤ szT)
    (hget : ∀ N W cs x, IsT N W cs x → IsP N W ((cs.drop 2).take szP) (sel x)) (hset : ∀ N W W' cs x y cs', IsT N W cs x → Keep N N W W' → cs'.length = szP → IsP N W' cs' y → IsT N W' (splice cs 2 cs') (up x y))
    (hk : ∀ N W W' cs x, Keep N N W W' → IsT N W cs x → IsT N W' cs x) (hr : Rd B wc szP IsP rd 67 capsR) : Rd B wc szT IsT (rP sel up rd) 113 #[.pointer (some ⟨q, 0, none⟩), .pointer (some ⟨pp, 0, none⟩)] := by
  refine ⟨fun args w => by kernel_rfl, fun W N p g len at_ zs b o C t x hW hR hz hbB hbp hbg hC hl hI hN hNp hNb => ?_⟩
  show Calls Tryz.prog 113 #[.pointer (some ⟨p, 0, none⟩), .pointer (some ⟨b, o, none⟩), .pointer (some ⟨q, 0, none⟩), .pointer (some ⟨pp, 0, none⟩)] W _
  have hs := hW.size
  have hmid := hR.mid
  have c1 := (hW.atc 1 hql (by omega)).trans h1
  have c2 := (hW.atc 0 hpl (by omega)).trans h2
  have hqW : q < W.heap.size := by omega
  have hpW : pp < W.heap.size := by omega
  have HQ : Hid ((¬ (q = p ∨ q = b)) ∧ ¬ (pp = p ∨ pp = b)) := hid (by omega)
  have hgo := hr.1
  have ks := hid (sel_cpd2 b o)
  unfold rP
  obtain ⟨R, gR⟩ : ∃ R, rd (sel x) (zs.drop at_) = R := ⟨_, rfl⟩
  rw [gR]
  have HI := hid hI
  have kr := hid (fun wx (hx' : Below W.heap.size W wx) (e : wx.heap = W.heap) => hr.2 wx N p g len at_ zs b (o + 2) C t (sel x) (hW.trans (Upd.of_below hx') (fun _ _ h => h)) (hR.heap e) hz hbB hbp hbg (by rw [e]; exact hC) (by omega) (by rw [← take_drop_nest C o 2 szP szT hd]; exact hget _ _ _ _ (hk _ _ _ _ _ (Keep.below hx') HI.out)) (fun k hk => hN k (by rw [e] at hk; exact hk)) hNp hNb)
  simp only [gR] at kr
  have HS := hid hset
  have HNp := hid hNp
  have HNb := hid hNb
  have HL := hid hl
  have HD := hid hd
  clear gR hR hz hC hl hI hN hNp hNb hW hget hset h1 h2 hr hk
  cases R with
  | none =>
    go_enter Tryz.func113, Tryz.ntmps113
    go_wp2_with fail
    go_region_held3 (fun wx => wx.cell? ⟨q, 1, none⟩ = some (.func (.func 67) #[] capsR) ∧ wx.cell? ⟨pp, 0, none⟩ = some (.func (.func 82) #[] #[])) (go_keep) (first
      | (go_at_call 82; refine (ks.out _).mono ?_; rintro e w2 ⟨rfl, rfl⟩)
      | (go_at_call 67; refine (kr.out _ (below_hp (Below.refl _ W) (by rfl) (by rfl) (by rfl) (by rfl)) (by rfl)).mono ?_; rintro e w3 ⟨hU3, t', u', rfl⟩; have HU3 : Hid (Upd (fun k => k = p ∨ k = b) W w3) := hid ((Upd.of_below (below_hp (Below.refl _ W) (by rfl) (by rfl) (by rfl) (by rfl))).trans hU3 (fun _ _ h => h)); have z0 : w3.cell? ⟨q, 1, none⟩ = some (.func (.func 67) #[] capsR) := (HU3.out.atc 1 hqW HQ.out.1).trans c1; have z1 : w3.cell? ⟨pp, 0, none⟩ = some (.func (.func 82) #[] #[]) := (HU3.out.atc 0 hpW HQ.out.2).trans c2; clear hU3))
    go_wp2_with fail
    go_ret
    exact ⟨HU3.out, t', u', rfl⟩
  | some y =>
    go_enter Tryz.func113, Tryz.ntmps113
    go_wp2_with fail
    go_region_held3 (fun wx => wx.cell? ⟨q, 1, none⟩ = some (.func (.func 67) #[] capsR) ∧ wx.cell? ⟨pp, 0, none⟩ = some (.func (.func 82) #[] #[])) (go_keep) (first
      | (go_at_call 82; refine (ks.out _).mono ?_; rintro e w2 ⟨rfl, rfl⟩)
      | (go_at_call 67; refine (kr.out _ (below_hp (Below.refl _ W) (by rfl) (by rfl) (by rfl) (by rfl)) (by rfl)).mono ?_; rintro e w3 ⟨hU3, rfl, hR3, cs, hcl, hC3, hI3⟩; have HU3 : Hid (Upd (fun k => k = p ∨ k = b) W w3) := hid ((Upd.of_below (below_hp (Below.refl _ W) (by rfl) (by rfl) (by rfl) (by rfl))).trans hU3 (fun _ _ h => h)); have z0 : w3.cell? ⟨q, 1, none⟩ = some (.func (.func 67) #[] capsR) := (HU3.out.atc 1 hqW HQ.out.1).trans c1; have z1 : w3.cell? ⟨pp, 0, none⟩ = some (.func (.func 82) #[] #[]) := (HU3.out.atc 0 hpW HQ.out.2).trans c2; have H3 := hid (And.intro hR3 (And.intro hcl (And.intro hC3 hI3))); clear hU3 hR3 hcl hC3 hI3))
    go_wp2_with fail
    go_ret
    obtain ⟨hR3, hcl, hC3, hI3⟩ := H3.out
    have hl := HL.out
    have hd := HD.out
    refine ⟨HU3.out, rfl, hR3, splice ((C.drop o).take szT) 2 cs, ?_, ?_, HS.out _ _ _ _ _ _ _ HI.out (keep_rd HU3.out HNp.out HNb.out) hcl hI3⟩
    · rw [length_splice _ _ _ (by simp; omega)]
      simp
      omega
    · rw [splice_nest C cs o 2 szT hl (by omega)]
      exact hC3

end Go.Proofs.YtpbhcmfbcnihiaaGreat
