/- The codecs of a thing's parts: what their Write writes. Written by gen_bpart.py. -/
import Derived.Test.YtpbhcmfbcnihiaaGreatBWr1
namespace Go.Proofs.YtpbhcmfbcnihiaaGreat
open Go.RowKit Num
set_option linter.unusedVariables false
set_option maxRecDepth 20000

theorem sel_call1 (b o : Nat) (W : World) : Calls Tryz.prog 51 #[.pointer (some ⟨b, o, none⟩)] W fun e w' => e = .returned (.pointer (some ⟨b, o + 0, none⟩)) ∧ w' = W := by
  go_enter Tryz.func51, Tryz.ntmps51
  go_wp2
  go_ret
  exact ⟨rfl, rfl⟩

theorem sel_call2 (b o : Nat) (W : World) : Calls Tryz.prog 53 #[.pointer (some ⟨b, o, none⟩)] W fun e w' => e = .returned (.pointer (some ⟨b, o + 1, none⟩)) ∧ w' = W := by
  go_enter Tryz.func53, Tryz.ntmps53
  go_wp2
  go_ret
  exact ⟨rfl, rfl⟩

theorem sel_call3 (b o : Nat) (W : World) : Calls Tryz.prog 57 #[.pointer (some ⟨b, o, none⟩)] W fun e w' => e = .returned (.pointer (some ⟨b, o + 2, none⟩)) ∧ w' = W := by
  go_enter Tryz.func57, Tryz.ntmps57
  go_wp2
  go_ret
  exact ⟨rfl, rfl⟩

theorem sel_cpd1 (b o : Nat) (W : World) : Calls Tryz.prog 78 #[.pointer (some ⟨b, o, none⟩)] W fun e w' => e = .returned (.pointer (some ⟨b, o + 4, none⟩)) ∧ w' = W := by
  go_enter Tryz.func78, Tryz.ntmps78
  go_wp2
  go_ret
  exact ⟨rfl, rfl⟩

theorem sel_cpd2 (b o : Nat) (W : World) : Calls Tryz.prog 82 #[.pointer (some ⟨b, o, none⟩)] W fun e w' => e = .returned (.pointer (some ⟨b, o + 2, none⟩)) ∧ w' = W := by
  go_enter Tryz.func82, Tryz.ntmps82
  go_wp2
  go_ret
  exact ⟨rfl, rfl⟩

theorem sel_cpd3 (b o : Nat) (W : World) : Calls Tryz.prog 83 #[.pointer (some ⟨b, o, none⟩)] W fun e w' => e = .returned (.pointer (some ⟨b, o + 3, none⟩)) ∧ w' = W := by
  go_enter Tryz.func83, Tryz.ntmps83
  go_wp2
  go_ret
  exact ⟨rfl, rfl⟩

theorem sel_cpd4 (b o : Nat) (W : World) : Calls Tryz.prog 85 #[.pointer (some ⟨b, o, none⟩)] W fun e w' => e = .returned (.pointer (some ⟨b, o + 0, none⟩)) ∧ w' = W := by
  go_enter Tryz.func85, Tryz.ntmps85
  go_wp2
  go_ret
  exact ⟨rfl, rfl⟩

theorem sel_cpd5 (b o : Nat) (W : World) : Calls Tryz.prog 86 #[.pointer (some ⟨b, o, none⟩)] W fun e w' => e = .returned (.pointer (some ⟨b, o + 1, none⟩)) ∧ w' = W := by
  go_enter Tryz.func86, Tryz.ntmps86
  go_wp2
  go_ret
  exact ⟨rfl, rfl⟩

theorem sel_word1 (b o : Nat) (W : World) : Calls Tryz.prog 95 #[.pointer (some ⟨b, o, none⟩)] W fun e w' => e = .returned (.pointer (some ⟨b, o + 0, none⟩)) ∧ w' = W := by
  go_enter Tryz.func95, Tryz.ntmps95
  go_wp2
  go_ret
  exact ⟨rfl, rfl⟩

theorem sel_word2 (b o : Nat) (W : World) : Calls Tryz.prog 96 #[.pointer (some ⟨b, o, none⟩)] W fun e w' => e = .returned (.pointer (some ⟨b, o + 1, none⟩)) ∧ w' = W := by
  go_enter Tryz.func96, Tryz.ntmps96
  go_wp2
  go_ret
  exact ⟨rfl, rfl⟩

set_option maxHeartbeats 4000000 in
theorem part_xn {α β : Type} (B : Nat) (wc : World) (q p : Nat) (hqB : B ≤ q) (hpB : B ≤ p) (capsW : Array Value) (AtT : (Nat → Prop) → World → Nat → Nat → α → Prop) (AtP : (Nat → Prop) → World → Nat → Nat → β → Prop) (sel : α → β) (en : β → List Int) (ok : β → Prop)
    (h1 : wc.cell? ⟨q, 0, none⟩ = some (.func (.func 65) #[] capsW)) (hql : q < wc.heap.size) (h2 : wc.cell? ⟨p, 0, none⟩ = some (.func (.func 51) #[] #[])) (hpl : p < wc.heap.size)
    (hat : ∀ N W b o x, AtT N W b o x → AtP N W b (o + 0) (sel x)) (hk : ∀ N N' W W' b o x, Keep N N' W W' → AtP N W b o x → AtP N' W' b o x) (hw : Wr B wc AtP en ok 65 capsW) : Wr B wc AtT (fun x => en (sel x)) (fun x => ok (sel x)) 71 #[.pointer (some ⟨q, 0, none⟩), .pointer (some ⟨p, 0, none⟩)] := by
  refine ⟨fun args w => by kernel_rfl, fun W b o x v xs hW hv hx hok hO hlen => ?_⟩
  show Calls Tryz.prog 71 #[v, .pointer (some ⟨b, o, none⟩), .pointer (some ⟨q, 0, none⟩), .pointer (some ⟨p, 0, none⟩)] W _
  dsimp only at hlen hok ⊢
  have c1 := (hW.atc 0 hql (by omega)).trans h1
  have c2 := (hW.atc 0 hpl (by omega)).trans h2
  have hqW : q < W.heap.size := Nat.lt_of_lt_of_le hql hW.size
  have hpW : p < W.heap.size := Nat.lt_of_lt_of_le hpl hW.size
  have HQ : Hid (v.ownBlock ≠ some q ∧ v.ownBlock ≠ some p) := hid ⟨fun h => by have := hv q h; omega, fun h => by have := hv p h; omega⟩
  have hgo := hw.1
  have ks := hid (sel_call1 b o)
  have kw := hid (fun wx (hx' : Below W.heap.size W wx) (hO' : Ob wx v xs) (hA' : AtP (fun k => v.ownBlock ≠ some k) wx b (o + 0) (sel x)) => hw.2 wx b (o + 0) (sel x) v xs (hW.trans (Upd.of_below hx') (fun _ _ h => h)) hv hA' hok hO' hlen)
  have HO := hid hO
  have HA := hid (hat _ _ _ _ _ hx)
  have HT : Hid (∀ wx : World, wx.heap = W.heap → AtP (fun k => v.ownBlock ≠ some k) wx b (o + 0) (sel x)) := hid (fun wx e => hk _ _ _ _ _ _ _ ⟨by rw [e]; exact Nat.le_refl _, fun k hN _ => ⟨hN, by rw [e]⟩⟩ HA.out)
  have HB : Hid (∀ wx : World, wx.heap = W.heap → Ob wx v xs) := hid (fun wx e => by have := HO.out; unfold Ob World.ownsRow at this ⊢; rw [e]; exact this)
  generalize en (sel x) = E at kw hlen ⊢
  clear hO hx hv hok hw hat h1 h2 hk hW
  go_enter Tryz.func71, Tryz.ntmps71
  go_wp2_with fail
  go_region_held3 (fun wx => wx.cell? ⟨q, 0, none⟩ = some (.func (.func 65) #[] capsW) ∧ wx.cell? ⟨p, 0, none⟩ = some (.func (.func 51) #[] #[])) (go_keep) (first
    | (go_at_call 51; refine (ks.out _).mono ?_; rintro e w2 ⟨rfl, rfl⟩)
    | (go_at_call 65; refine (kw.out _ (below_hp (Below.refl _ W) (by rfl) (by rfl) (by rfl) (by rfl)) (HB.out _ (by rfl)) (HT.out _ (by rfl))).mono ?_; rintro e w3 ⟨v', rfl, hO3, hU3, hF3⟩; have HU3 : Hid (Upd (fun k => v.ownBlock = some k) W w3) := hid ((Upd.of_below (below_hp (Below.refl _ W) (by rfl) (by rfl) (by rfl) (by rfl))).trans hU3 (fun _ _ h => h)); have z0 : w3.cell? ⟨q, 0, none⟩ = some (.func (.func 65) #[] capsW) := (World.cell?_of_block (a := ⟨q, 0, none⟩) (HU3.out.block q hqW HQ.out.1)).trans c1; have z1 : w3.cell? ⟨p, 0, none⟩ = some (.func (.func 51) #[] #[]) := (World.cell?_of_block (a := ⟨p, 0, none⟩) (HU3.out.block p hpW HQ.out.2)).trans c2; have HO3 := hid hO3; have HF3 : Hid (v'.ownBlock = v.ownBlock ∨ ∀ g, v'.ownBlock = some g → W.heap.size ≤ g) := hid hF3; clear hO3 hU3 hF3))
  go_wp2_with fail
  go_ret
  exact ⟨v', rfl, HO3.out, HU3.out, HF3.out⟩

set_option maxHeartbeats 4000000 in
theorem part_xc {α β : Type} (B : Nat) (wc : World) (q p : Nat) (hqB : B ≤ q) (hpB : B ≤ p) (capsW : Array Value) (AtT : (Nat → Prop) → World → Nat → Nat → α → Prop) (AtP : (Nat → Prop) → World → Nat → Nat → β → Prop) (sel : α → β) (en : β → List Int) (ok : β → Prop)
    (h1 : wc.cell? ⟨q, 0, none⟩ = some (.func (.func 75) #[] capsW)) (hql : q < wc.heap.size) (h2 : wc.cell? ⟨p, 0, none⟩ = some (.func (.func 53) #[] #[])) (hpl : p < wc.heap.size)
    (hat : ∀ N W b o x, AtT N W b o x → AtP N W b (o + 1) (sel x)) (hk : ∀ N N' W W' b o x, Keep N N' W W' → AtP N W b o x → AtP N' W' b o x) (hw : Wr B wc AtP en ok 75 capsW) : Wr B wc AtT (fun x => en (sel x)) (fun x => ok (sel x)) 73 #[.pointer (some ⟨q, 0, none⟩), .pointer (some ⟨p, 0, none⟩)] := by
  refine ⟨fun args w => by kernel_rfl, fun W b o x v xs hW hv hx hok hO hlen => ?_⟩
  show Calls Tryz.prog 73 #[v, .pointer (some ⟨b, o, none⟩), .pointer (some ⟨q, 0, none⟩), .pointer (some ⟨p, 0, none⟩)] W _
  dsimp only at hlen hok ⊢
  have c1 := (hW.atc 0 hql (by omega)).trans h1
  have c2 := (hW.atc 0 hpl (by omega)).trans h2
  have hqW : q < W.heap.size := Nat.lt_of_lt_of_le hql hW.size
  have hpW : p < W.heap.size := Nat.lt_of_lt_of_le hpl hW.size
  have HQ : Hid (v.ownBlock ≠ some q ∧ v.ownBlock ≠ some p) := hid ⟨fun h => by have := hv q h; omega, fun h => by have := hv p h; omega⟩
  have hgo := hw.1
  have ks := hid (sel_call2 b o)
  have kw := hid (fun wx (hx' : Below W.heap.size W wx) (hO' : Ob wx v xs) (hA' : AtP (fun k => v.ownBlock ≠ some k) wx b (o + 1) (sel x)) => hw.2 wx b (o + 1) (sel x) v xs (hW.trans (Upd.of_below hx') (fun _ _ h => h)) hv hA' hok hO' hlen)
  have HO := hid hO
  have HA := hid (hat _ _ _ _ _ hx)
  have HT : Hid (∀ wx : World, wx.heap = W.heap → AtP (fun k => v.ownBlock ≠ some k) wx b (o + 1) (sel x)) := hid (fun wx e => hk _ _ _ _ _ _ _ ⟨by rw [e]; exact Nat.le_refl _, fun k hN _ => ⟨hN, by rw [e]⟩⟩ HA.out)
  have HB : Hid (∀ wx : World, wx.heap = W.heap → Ob wx v xs) := hid (fun wx e => by have := HO.out; unfold Ob World.ownsRow at this ⊢; rw [e]; exact this)
  generalize en (sel x) = E at kw hlen ⊢
  clear hO hx hv hok hw hat h1 h2 hk hW
  go_enter Tryz.func73, Tryz.ntmps73
  go_wp2_with fail
  go_region_held3 (fun wx => wx.cell? ⟨q, 0, none⟩ = some (.func (.func 75) #[] capsW) ∧ wx.cell? ⟨p, 0, none⟩ = some (.func (.func 53) #[] #[])) (go_keep) (first
    | (go_at_call 53; refine (ks.out _).mono ?_; rintro e w2 ⟨rfl, rfl⟩)
    | (go_at_call 75; refine (kw.out _ (below_hp (Below.refl _ W) (by rfl) (by rfl) (by rfl) (by rfl)) (HB.out _ (by rfl)) (HT.out _ (by rfl))).mono ?_; rintro e w3 ⟨v', rfl, hO3, hU3, hF3⟩; have HU3 : Hid (Upd (fun k => v.ownBlock = some k) W w3) := hid ((Upd.of_below (below_hp (Below.refl _ W) (by rfl) (by rfl) (by rfl) (by rfl))).trans hU3 (fun _ _ h => h)); have z0 : w3.cell? ⟨q, 0, none⟩ = some (.func (.func 75) #[] capsW) := (World.cell?_of_block (a := ⟨q, 0, none⟩) (HU3.out.block q hqW HQ.out.1)).trans c1; have z1 : w3.cell? ⟨p, 0, none⟩ = some (.func (.func 53) #[] #[]) := (World.cell?_of_block (a := ⟨p, 0, none⟩) (HU3.out.block p hpW HQ.out.2)).trans c2; have HO3 := hid hO3; have HF3 : Hid (v'.ownBlock = v.ownBlock ∨ ∀ g, v'.ownBlock = some g → W.heap.size ≤ g) := hid hF3; clear hO3 hU3 hF3))
  go_wp2_with fail
  go_ret
  exact ⟨v', rfl, HO3.out, HU3.out, HF3.out⟩

set_option maxHeartbeats 4000000 in
theorem part_xw {α β : Type} (B : Nat) (wc : World) (q p : Nat) (hqB : B ≤ q) (hpB : B ≤ p) (capsW : Array Value) (AtT : (Nat → Prop) → World → Nat → Nat → α → Prop) (AtP : (Nat → Prop) → World → Nat → Nat → β → Prop) (sel : α → β) (en : β → List Int) (ok : β → Prop)
    (h1 : wc.cell? ⟨q, 0, none⟩ = some (.func (.func 91) #[] capsW)) (hql : q < wc.heap.size) (h2 : wc.cell? ⟨p, 0, none⟩ = some (.func (.func 57) #[] #[])) (hpl : p < wc.heap.size)
    (hat : ∀ N W b o x, AtT N W b o x → AtP N W b (o + 2) (sel x)) (hk : ∀ N N' W W' b o x, Keep N N' W W' → AtP N W b o x → AtP N' W' b o x) (hw : Wr B wc AtP en ok 91 capsW) : Wr B wc AtT (fun x => en (sel x)) (fun x => ok (sel x)) 89 #[.pointer (some ⟨q, 0, none⟩), .pointer (some ⟨p, 0, none⟩)] := by
  refine ⟨fun args w => by kernel_rfl, fun W b o x v xs hW hv hx hok hO hlen => ?_⟩
  show Calls Tryz.prog 89 #[v, .pointer (some ⟨b, o, none⟩), .pointer (some ⟨q, 0, none⟩), .pointer (some ⟨p, 0, none⟩)] W _
  dsimp only at hlen hok ⊢
  have c1 := (hW.atc 0 hql (by omega)).trans h1
  have c2 := (hW.atc 0 hpl (by omega)).trans h2
  have hqW : q < W.heap.size := Nat.lt_of_lt_of_le hql hW.size
  have hpW : p < W.heap.size := Nat.lt_of_lt_of_le hpl hW.size
  have HQ : Hid (v.ownBlock ≠ some q ∧ v.ownBlock ≠ some p) := hid ⟨fun h => by have := hv q h; omega, fun h => by have := hv p h; omega⟩
  have hgo := hw.1
  have ks := hid (sel_call3 b o)
  have kw := hid (fun wx (hx' : Below W.heap.size W wx) (hO' : Ob wx v xs) (hA' : AtP (fun k => v.ownBlock ≠ some k) wx b (o + 2) (sel x)) => hw.2 wx b (o + 2) (sel x) v xs (hW.trans (Upd.of_below hx') (fun _ _ h => h)) hv hA' hok hO' hlen)
  have HO := hid hO
  have HA := hid (hat _ _ _ _ _ hx)
  have HT : Hid (∀ wx : World, wx.heap = W.heap → AtP (fun k => v.ownBlock ≠ some k) wx b (o + 2) (sel x)) := hid (fun wx e => hk _ _ _ _ _ _ _ ⟨by rw [e]; exact Nat.le_refl _, fun k hN _ => ⟨hN, by rw [e]⟩⟩ HA.out)
  have HB : Hid (∀ wx : World, wx.heap = W.heap → Ob wx v xs) := hid (fun wx e => by have := HO.out; unfold Ob World.ownsRow at this ⊢; rw [e]; exact this)
  generalize en (sel x) = E at kw hlen ⊢
  clear hO hx hv hok hw hat h1 h2 hk hW
  go_enter Tryz.func89, Tryz.ntmps89
  go_wp2_with fail
  go_region_held3 (fun wx => wx.cell? ⟨q, 0, none⟩ = some (.func (.func 91) #[] capsW) ∧ wx.cell? ⟨p, 0, none⟩ = some (.func (.func 57) #[] #[])) (go_keep) (first
    | (go_at_call 57; refine (ks.out _).mono ?_; rintro e w2 ⟨rfl, rfl⟩)
    | (go_at_call 91; refine (kw.out _ (below_hp (Below.refl _ W) (by rfl) (by rfl) (by rfl) (by rfl)) (HB.out _ (by rfl)) (HT.out _ (by rfl))).mono ?_; rintro e w3 ⟨v', rfl, hO3, hU3, hF3⟩; have HU3 : Hid (Upd (fun k => v.ownBlock = some k) W w3) := hid ((Upd.of_below (below_hp (Below.refl _ W) (by rfl) (by rfl) (by rfl) (by rfl))).trans hU3 (fun _ _ h => h)); have z0 : w3.cell? ⟨q, 0, none⟩ = some (.func (.func 91) #[] capsW) := (World.cell?_of_block (a := ⟨q, 0, none⟩) (HU3.out.block q hqW HQ.out.1)).trans c1; have z1 : w3.cell? ⟨p, 0, none⟩ = some (.func (.func 57) #[] #[]) := (World.cell?_of_block (a := ⟨p, 0, none⟩) (HU3.out.block p hpW HQ.out.2)).trans c2; have HO3 := hid hO3; have HF3 : Hid (v'.ownBlock = v.ownBlock ∨ ∀ g, v'.ownBlock = some g → W.heap.size ≤ g) := hid hF3; clear hO3 hU3 hF3))
  go_wp2_with fail
  go_ret
  exact ⟨v', rfl, HO3.out, HU3.out, HF3.out⟩

set_option maxHeartbeats 4000000 in
theorem part_cb {α β : Type} (B : Nat) (wc : World) (q p : Nat) (hqB : B ≤ q) (hpB : B ≤ p) (capsW : Array Value) (AtT : (Nat → Prop) → World → Nat → Nat → α → Prop) (AtP : (Nat → Prop) → World → Nat → Nat → β → Prop) (sel : α → β) (en : β → List Int) (ok : β → Prop)
    (h1 : wc.cell? ⟨q, 0, none⟩ = some (.func (.func 106) #[] capsW)) (hql : q < wc.heap.size) (h2 : wc.cell? ⟨p, 0, none⟩ = some (.func (.func 78) #[] #[])) (hpl : p < wc.heap.size)
    (hat : ∀ N W b o x, AtT N W b o x → AtP N W b (o + 4) (sel x)) (hk : ∀ N N' W W' b o x, Keep N N' W W' → AtP N W b o x → AtP N' W' b o x) (hw : Wr B wc AtP en ok 106 capsW) : Wr B wc AtT (fun x => en (sel x)) (fun x => ok (sel x)) 104 #[.pointer (some ⟨q, 0, none⟩), .pointer (some ⟨p, 0, none⟩)] := by
  refine ⟨fun args w => by kernel_rfl, fun W b o x v xs hW hv hx hok hO hlen => ?_⟩
  show Calls Tryz.prog 104 #[v, .pointer (some ⟨b, o, none⟩), .pointer (some ⟨q, 0, none⟩), .pointer (some ⟨p, 0, none⟩)] W _
  dsimp only at hlen hok ⊢
  have c1 := (hW.atc 0 hql (by omega)).trans h1
  have c2 := (hW.atc 0 hpl (by omega)).trans h2
  have hqW : q < W.heap.size := Nat.lt_of_lt_of_le hql hW.size
  have hpW : p < W.heap.size := Nat.lt_of_lt_of_le hpl hW.size
  have HQ : Hid (v.ownBlock ≠ some q ∧ v.ownBlock ≠ some p) := hid ⟨fun h => by have := hv q h; omega, fun h => by have := hv p h; omega⟩
  have hgo := hw.1
  have ks := hid (sel_cpd1 b o)
  have kw := hid (fun wx (hx' : Below W.heap.size W wx) (hO' : Ob wx v xs) (hA' : AtP (fun k => v.ownBlock ≠ some k) wx b (o + 4) (sel x)) => hw.2 wx b (o + 4) (sel x) v xs (hW.trans (Upd.of_below hx') (fun _ _ h => h)) hv hA' hok hO' hlen)
  have HO := hid hO
  have HA := hid (hat _ _ _ _ _ hx)
  have HT : Hid (∀ wx : World, wx.heap = W.heap → AtP (fun k => v.ownBlock ≠ some k) wx b (o + 4) (sel x)) := hid (fun wx e => hk _ _ _ _ _ _ _ ⟨by rw [e]; exact Nat.le_refl _, fun k hN _ => ⟨hN, by rw [e]⟩⟩ HA.out)
  have HB : Hid (∀ wx : World, wx.heap = W.heap → Ob wx v xs) := hid (fun wx e => by have := HO.out; unfold Ob World.ownsRow at this ⊢; rw [e]; exact this)
  generalize en (sel x) = E at kw hlen ⊢
  clear hO hx hv hok hw hat h1 h2 hk hW
  go_enter Tryz.func104, Tryz.ntmps104
  go_wp2_with fail
  go_region_held3 (fun wx => wx.cell? ⟨q, 0, none⟩ = some (.func (.func 106) #[] capsW) ∧ wx.cell? ⟨p, 0, none⟩ = some (.func (.func 78) #[] #[])) (go_keep) (first
    | (go_at_call 78; refine (ks.out _).mono ?_; rintro e w2 ⟨rfl, rfl⟩)
    | (go_at_call 106; refine (kw.out _ (below_hp (Below.refl _ W) (by rfl) (by rfl) (by rfl) (by rfl)) (HB.out _ (by rfl)) (HT.out _ (by rfl))).mono ?_; rintro e w3 ⟨v', rfl, hO3, hU3, hF3⟩; have HU3 : Hid (Upd (fun k => v.ownBlock = some k) W w3) := hid ((Upd.of_below (below_hp (Below.refl _ W) (by rfl) (by rfl) (by rfl) (by rfl))).trans hU3 (fun _ _ h => h)); have z0 : w3.cell? ⟨q, 0, none⟩ = some (.func (.func 106) #[] capsW) := (World.cell?_of_block (a := ⟨q, 0, none⟩) (HU3.out.block q hqW HQ.out.1)).trans c1; have z1 : w3.cell? ⟨p, 0, none⟩ = some (.func (.func 78) #[] #[]) := (World.cell?_of_block (a := ⟨p, 0, none⟩) (HU3.out.block p hpW HQ.out.2)).trans c2; have HO3 := hid hO3; have HF3 : Hid (v'.ownBlock = v.ownBlock ∨ ∀ g, v'.ownBlock = some g → W.heap.size ≤ g) := hid hF3; clear hO3 hU3 hF3))
  go_wp2_with fail
  go_ret
  exact ⟨v', rfl, HO3.out, HU3.out, HF3.out⟩

set_option maxHeartbeats 4000000 in
theorem part_cs {α β : Type} (B : Nat) (wc : World) (q p : Nat) (hqB : B ≤ q) (hpB : B ≤ p) (capsW : Array Value) (AtT : (Nat → Prop) → World → Nat → Nat → α → Prop) (AtP : (Nat → Prop) → World → Nat → Nat → β → Prop) (sel : α → β) (en : β → List Int) (ok : β → Prop)
    (h1 : wc.cell? ⟨q, 0, none⟩ = some (.func (.func 65) #[] capsW)) (hql : q < wc.heap.size) (h2 : wc.cell? ⟨p, 0, none⟩ = some (.func (.func 82) #[] #[])) (hpl : p < wc.heap.size)
    (hat : ∀ N W b o x, AtT N W b o x → AtP N W b (o + 2) (sel x)) (hk : ∀ N N' W W' b o x, Keep N N' W W' → AtP N W b o x → AtP N' W' b o x) (hw : Wr B wc AtP en ok 65 capsW) : Wr B wc AtT (fun x => en (sel x)) (fun x => ok (sel x)) 112 #[.pointer (some ⟨q, 0, none⟩), .pointer (some ⟨p, 0, none⟩)] := by
  refine ⟨fun args w => by kernel_rfl, fun W b o x v xs hW hv hx hok hO hlen => ?_⟩
  show Calls Tryz.prog 112 #[v, .pointer (some ⟨b, o, none⟩), .pointer (some ⟨q, 0, none⟩), .pointer (some ⟨p, 0, none⟩)] W _
  dsimp only at hlen hok ⊢
  have c1 := (hW.atc 0 hql (by omega)).trans h1
  have c2 := (hW.atc 0 hpl (by omega)).trans h2
  have hqW : q < W.heap.size := Nat.lt_of_lt_of_le hql hW.size
  have hpW : p < W.heap.size := Nat.lt_of_lt_of_le hpl hW.size
  have HQ : Hid (v.ownBlock ≠ some q ∧ v.ownBlock ≠ some p) := hid ⟨fun h => by have := hv q h; omega, fun h => by have := hv p h; omega⟩
  have hgo := hw.1
  have ks := hid (sel_cpd2 b o)
  have kw := hid (fun wx (hx' : Below W.heap.size W wx) (hO' : Ob wx v xs) (hA' : AtP (fun k => v.ownBlock ≠ some k) wx b (o + 2) (sel x)) => hw.2 wx b (o + 2) (sel x) v xs (hW.trans (Upd.of_below hx') (fun _ _ h => h)) hv hA' hok hO' hlen)
  have HO := hid hO
  have HA := hid (hat _ _ _ _ _ hx)
  have HT : Hid (∀ wx : World, wx.heap = W.heap → AtP (fun k => v.ownBlock ≠ some k) wx b (o + 2) (sel x)) := hid (fun wx e => hk _ _ _ _ _ _ _ ⟨by rw [e]; exact Nat.le_refl _, fun k hN _ => ⟨hN, by rw [e]⟩⟩ HA.out)
  have HB : Hid (∀ wx : World, wx.heap = W.heap → Ob wx v xs) := hid (fun wx e => by have := HO.out; unfold Ob World.ownsRow at this ⊢; rw [e]; exact this)
  generalize en (sel x) = E at kw hlen ⊢
  clear hO hx hv hok hw hat h1 h2 hk hW
  go_enter Tryz.func112, Tryz.ntmps112
  go_wp2_with fail
  go_region_held3 (fun wx => wx.cell? ⟨q, 0, none⟩ = some (.func (.func 65) #[] capsW) ∧ wx.cell? ⟨p, 0, none⟩ = some (.func (.func 82) #[] #[])) (go_keep) (first
    | (go_at_call 82; refine (ks.out _).mono ?_; rintro e w2 ⟨rfl, rfl⟩)
    | (go_at_call 65; refine (kw.out _ (below_hp (Below.refl _ W) (by rfl) (by rfl) (by rfl) (by rfl)) (HB.out _ (by rfl)) (HT.out _ (by rfl))).mono ?_; rintro e w3 ⟨v', rfl, hO3, hU3, hF3⟩; have HU3 : Hid (Upd (fun k => v.ownBlock = some k) W w3) := hid ((Upd.of_below (below_hp (Below.refl _ W) (by rfl) (by rfl) (by rfl) (by rfl))).trans hU3 (fun _ _ h => h)); have z0 : w3.cell? ⟨q, 0, none⟩ = some (.func (.func 65) #[] capsW) := (World.cell?_of_block (a := ⟨q, 0, none⟩) (HU3.out.block q hqW HQ.out.1)).trans c1; have z1 : w3.cell? ⟨p, 0, none⟩ = some (.func (.func 82) #[] #[]) := (World.cell?_of_block (a := ⟨p, 0, none⟩) (HU3.out.block p hpW HQ.out.2)).trans c2; have HO3 := hid hO3; have HF3 : Hid (v'.ownBlock = v.ownBlock ∨ ∀ g, v'.ownBlock = some g → W.heap.size ≤ g) := hid hF3; clear hO3 hU3 hF3))
  go_wp2_with fail
  go_ret
  exact ⟨v', rfl, HO3.out, HU3.out, HF3.out⟩

set_option maxHeartbeats 4000000 in
theorem part_cv {α β : Type} (B : Nat) (wc : World) (q p : Nat) (hqB : B ≤ q) (hpB : B ≤ p) (capsW : Array Value) (AtT : (Nat → Prop) → World → Nat → Nat → α → Prop) (AtP : (Nat → Prop) → World → Nat → Nat → β → Prop) (sel : α → β) (en : β → List Int) (ok : β → Prop)
    (h1 : wc.cell? ⟨q, 0, none⟩ = some (.func (.func 114) #[] capsW)) (hql : q < wc.heap.size) (h2 : wc.cell? ⟨p, 0, none⟩ = some (.func (.func 83) #[] #[])) (hpl : p < wc.heap.size)
    (hat : ∀ N W b o x, AtT N W b o x → AtP N W b (o + 3) (sel x)) (hk : ∀ N N' W W' b o x, Keep N N' W W' → AtP N W b o x → AtP N' W' b o x) (hw : Wr B wc AtP en ok 114 capsW) : Wr B wc AtT (fun x => en (sel x)) (fun x => ok (sel x)) 112 #[.pointer (some ⟨q, 0, none⟩), .pointer (some ⟨p, 0, none⟩)] := by
  refine ⟨fun args w => by kernel_rfl, fun W b o x v xs hW hv hx hok hO hlen => ?_⟩
  show Calls Tryz.prog 112 #[v, .pointer (some ⟨b, o, none⟩), .pointer (some ⟨q, 0, none⟩), .pointer (some ⟨p, 0, none⟩)] W _
  dsimp only at hlen hok ⊢
  have c1 := (hW.atc 0 hql (by omega)).trans h1
  have c2 := (hW.atc 0 hpl (by omega)).trans h2
  have hqW : q < W.heap.size := Nat.lt_of_lt_of_le hql hW.size
  have hpW : p < W.heap.size := Nat.lt_of_lt_of_le hpl hW.size
  have HQ : Hid (v.ownBlock ≠ some q ∧ v.ownBlock ≠ some p) := hid ⟨fun h => by have := hv q h; omega, fun h => by have := hv p h; omega⟩
  have hgo := hw.1
  have ks := hid (sel_cpd3 b o)
  have kw := hid (fun wx (hx' : Below W.heap.size W wx) (hO' : Ob wx v xs) (hA' : AtP (fun k => v.ownBlock ≠ some k) wx b (o + 3) (sel x)) => hw.2 wx b (o + 3) (sel x) v xs (hW.trans (Upd.of_below hx') (fun _ _ h => h)) hv hA' hok hO' hlen)
  have HO := hid hO
  have HA := hid (hat _ _ _ _ _ hx)
  have HT : Hid (∀ wx : World, wx.heap = W.heap → AtP (fun k => v.ownBlock ≠ some k) wx b (o + 3) (sel x)) := hid (fun wx e => hk _ _ _ _ _ _ _ ⟨by rw [e]; exact Nat.le_refl _, fun k hN _ => ⟨hN, by rw [e]⟩⟩ HA.out)
  have HB : Hid (∀ wx : World, wx.heap = W.heap → Ob wx v xs) := hid (fun wx e => by have := HO.out; unfold Ob World.ownsRow at this ⊢; rw [e]; exact this)
  generalize en (sel x) = E at kw hlen ⊢
  clear hO hx hv hok hw hat h1 h2 hk hW
  go_enter Tryz.func112, Tryz.ntmps112
  go_wp2_with fail
  go_region_held3 (fun wx => wx.cell? ⟨q, 0, none⟩ = some (.func (.func 114) #[] capsW) ∧ wx.cell? ⟨p, 0, none⟩ = some (.func (.func 83) #[] #[])) (go_keep) (first
    | (go_at_call 83; refine (ks.out _).mono ?_; rintro e w2 ⟨rfl, rfl⟩)
    | (go_at_call 114; refine (kw.out _ (below_hp (Below.refl _ W) (by rfl) (by rfl) (by rfl) (by rfl)) (HB.out _ (by rfl)) (HT.out _ (by rfl))).mono ?_; rintro e w3 ⟨v', rfl, hO3, hU3, hF3⟩; have HU3 : Hid (Upd (fun k => v.ownBlock = some k) W w3) := hid ((Upd.of_below (below_hp (Below.refl _ W) (by rfl) (by rfl) (by rfl) (by rfl))).trans hU3 (fun _ _ h => h)); have z0 : w3.cell? ⟨q, 0, none⟩ = some (.func (.func 114) #[] capsW) := (World.cell?_of_block (a := ⟨q, 0, none⟩) (HU3.out.block q hqW HQ.out.1)).trans c1; have z1 : w3.cell? ⟨p, 0, none⟩ = some (.func (.func 83) #[] #[]) := (World.cell?_of_block (a := ⟨p, 0, none⟩) (HU3.out.block p hpW HQ.out.2)).trans c2; have HO3 := hid hO3; have HF3 : Hid (v'.ownBlock = v.ownBlock ∨ ∀ g, v'.ownBlock = some g → W.heap.size ≤ g) := hid hF3; clear hO3 hU3 hF3))
  go_wp2_with fail
  go_ret
  exact ⟨v', rfl, HO3.out, HU3.out, HF3.out⟩

set_option maxHeartbeats 4000000 in
theorem part_ca {α β : Type} (B : Nat) (wc : World) (q p : Nat) (hqB : B ≤ q) (hpB : B ≤ p) (capsW : Array Value) (AtT : (Nat → Prop) → World → Nat → Nat → α → Prop) (AtP : (Nat → Prop) → World → Nat → Nat → β → Prop) (sel : α → β) (en : β → List Int) (ok : β → Prop)
    (h1 : wc.cell? ⟨q, 0, none⟩ = some (.func (.func 65) #[] capsW)) (hql : q < wc.heap.size) (h2 : wc.cell? ⟨p, 0, none⟩ = some (.func (.func 85) #[] #[])) (hpl : p < wc.heap.size)
    (hat : ∀ N W b o x, AtT N W b o x → AtP N W b (o + 0) (sel x)) (hk : ∀ N N' W W' b o x, Keep N N' W W' → AtP N W b o x → AtP N' W' b o x) (hw : Wr B wc AtP en ok 65 capsW) : Wr B wc AtT (fun x => en (sel x)) (fun x => ok (sel x)) 112 #[.pointer (some ⟨q, 0, none⟩), .pointer (some ⟨p, 0, none⟩)] := by
  refine ⟨fun args w => by kernel_rfl, fun W b o x v xs hW hv hx hok hO hlen => ?_⟩
  show Calls Tryz.prog 112 #[v, .pointer (some ⟨b, o, none⟩), .pointer (some ⟨q, 0, none⟩), .pointer (some ⟨p, 0, none⟩)] W _
  dsimp only at hlen hok ⊢
  have c1 := (hW.atc 0 hql (by omega)).trans h1
  have c2 := (hW.atc 0 hpl (by omega)).trans h2
  have hqW : q < W.heap.size := Nat.lt_of_lt_of_le hql hW.size
  have hpW : p < W.heap.size := Nat.lt_of_lt_of_le hpl hW.size
  have HQ : Hid (v.ownBlock ≠ some q ∧ v.ownBlock ≠ some p) := hid ⟨fun h => by have := hv q h; omega, fun h => by have := hv p h; omega⟩
  have hgo := hw.1
  have ks := hid (sel_cpd4 b o)
  have kw := hid (fun wx (hx' : Below W.heap.size W wx) (hO' : Ob wx v xs) (hA' : AtP (fun k => v.ownBlock ≠ some k) wx b (o + 0) (sel x)) => hw.2 wx b (o + 0) (sel x) v xs (hW.trans (Upd.of_below hx') (fun _ _ h => h)) hv hA' hok hO' hlen)
  have HO := hid hO
  have HA := hid (hat _ _ _ _ _ hx)
  have HT : Hid (∀ wx : World, wx.heap = W.heap → AtP (fun k => v.ownBlock ≠ some k) wx b (o + 0) (sel x)) := hid (fun wx e => hk _ _ _ _ _ _ _ ⟨by rw [e]; exact Nat.le_refl _, fun k hN _ => ⟨hN, by rw [e]⟩⟩ HA.out)
  have HB : Hid (∀ wx : World, wx.heap = W.heap → Ob wx v xs) := hid (fun wx e => by have := HO.out; unfold Ob World.ownsRow at this ⊢; rw [e]; exact this)
  generalize en (sel x) = E at kw hlen ⊢
  clear hO hx hv hok hw hat h1 h2 hk hW
  go_enter Tryz.func112, Tryz.ntmps112
  go_wp2_with fail
  go_region_held3 (fun wx => wx.cell? ⟨q, 0, none⟩ = some (.func (.func 65) #[] capsW) ∧ wx.cell? ⟨p, 0, none⟩ = some (.func (.func 85) #[] #[])) (go_keep) (first
    | (go_at_call 85; refine (ks.out _).mono ?_; rintro e w2 ⟨rfl, rfl⟩)
    | (go_at_call 65; refine (kw.out _ (below_hp (Below.refl _ W) (by rfl) (by rfl) (by rfl) (by rfl)) (HB.out _ (by rfl)) (HT.out _ (by rfl))).mono ?_; rintro e w3 ⟨v', rfl, hO3, hU3, hF3⟩; have HU3 : Hid (Upd (fun k => v.ownBlock = some k) W w3) := hid ((Upd.of_below (below_hp (Below.refl _ W) (by rfl) (by rfl) (by rfl) (by rfl))).trans hU3 (fun _ _ h => h)); have z0 : w3.cell? ⟨q, 0, none⟩ = some (.func (.func 65) #[] capsW) := (World.cell?_of_block (a := ⟨q, 0, none⟩) (HU3.out.block q hqW HQ.out.1)).trans c1; have z1 : w3.cell? ⟨p, 0, none⟩ = some (.func (.func 85) #[] #[]) := (World.cell?_of_block (a := ⟨p, 0, none⟩) (HU3.out.block p hpW HQ.out.2)).trans c2; have HO3 := hid hO3; have HF3 : Hid (v'.ownBlock = v.ownBlock ∨ ∀ g, v'.ownBlock = some g → W.heap.size ≤ g) := hid hF3; clear hO3 hU3 hF3))
  go_wp2_with fail
  go_ret
  exact ⟨v', rfl, HO3.out, HU3.out, HF3.out⟩

set_option maxHeartbeats 4000000 in
theorem part_cr {α β : Type} (B : Nat) (wc : World) (q p : Nat) (hqB : B ≤ q) (hpB : B ≤ p) (capsW : Array Value) (AtT : (Nat → Prop) → World → Nat → Nat → α → Prop) (AtP : (Nat → Prop) → World → Nat → Nat → β → Prop) (sel : α → β) (en : β → List Int) (ok : β → Prop)
    (h1 : wc.cell? ⟨q, 0, none⟩ = some (.func (.func 65) #[] capsW)) (hql : q < wc.heap.size) (h2 : wc.cell? ⟨p, 0, none⟩ = some (.func (.func 86) #[] #[])) (hpl : p < wc.heap.size)
    (hat : ∀ N W b o x, AtT N W b o x → AtP N W b (o + 1) (sel x)) (hk : ∀ N N' W W' b o x, Keep N N' W W' → AtP N W b o x → AtP N' W' b o x) (hw : Wr B wc AtP en ok 65 capsW) : Wr B wc AtT (fun x => en (sel x)) (fun x => ok (sel x)) 112 #[.pointer (some ⟨q, 0, none⟩), .pointer (some ⟨p, 0, none⟩)] := by
  refine ⟨fun args w => by kernel_rfl, fun W b o x v xs hW hv hx hok hO hlen => ?_⟩
  show Calls Tryz.prog 112 #[v, .pointer (some ⟨b, o, none⟩), .pointer (some ⟨q, 0, none⟩), .pointer (some ⟨p, 0, none⟩)] W _
  dsimp only at hlen hok ⊢
  have c1 := (hW.atc 0 hql (by omega)).trans h1
  have c2 := (hW.atc 0 hpl (by omega)).trans h2
  have hqW : q < W.heap.size := Nat.lt_of_lt_of_le hql hW.size
  have hpW : p < W.heap.size := Nat.lt_of_lt_of_le hpl hW.size
  have HQ : Hid (v.ownBlock ≠ some q ∧ v.ownBlock ≠ some p) := hid ⟨fun h => by have := hv q h; omega, fun h => by have := hv p h; omega⟩
  have hgo := hw.1
  have ks := hid (sel_cpd5 b o)
  have kw := hid (fun wx (hx' : Below W.heap.size W wx) (hO' : Ob wx v xs) (hA' : AtP (fun k => v.ownBlock ≠ some k) wx b (o + 1) (sel x)) => hw.2 wx b (o + 1) (sel x) v xs (hW.trans (Upd.of_below hx') (fun _ _ h => h)) hv hA' hok hO' hlen)
  have HO := hid hO
  have HA := hid (hat _ _ _ _ _ hx)
  have HT : Hid (∀ wx : World, wx.heap = W.heap → AtP (fun k => v.ownBlock ≠ some k) wx b (o + 1) (sel x)) := hid (fun wx e => hk _ _ _ _ _ _ _ ⟨by rw [e]; exact Nat.le_refl _, fun k hN _ => ⟨hN, by rw [e]⟩⟩ HA.out)
  have HB : Hid (∀ wx : World, wx.heap = W.heap → Ob wx v xs) := hid (fun wx e => by have := HO.out; unfold Ob World.ownsRow at this ⊢; rw [e]; exact this)
  generalize en (sel x) = E at kw hlen ⊢
  clear hO hx hv hok hw hat h1 h2 hk hW
  go_enter Tryz.func112, Tryz.ntmps112
  go_wp2_with fail
  go_region_held3 (fun wx => wx.cell? ⟨q, 0, none⟩ = some (.func (.func 65) #[] capsW) ∧ wx.cell? ⟨p, 0, none⟩ = some (.func (.func 86) #[] #[])) (go_keep) (first
    | (go_at_call 86; refine (ks.out _).mono ?_; rintro e w2 ⟨rfl, rfl⟩)
    | (go_at_call 65; refine (kw.out _ (below_hp (Below.refl _ W) (by rfl) (by rfl) (by rfl) (by rfl)) (HB.out _ (by rfl)) (HT.out _ (by rfl))).mono ?_; rintro e w3 ⟨v', rfl, hO3, hU3, hF3⟩; have HU3 : Hid (Upd (fun k => v.ownBlock = some k) W w3) := hid ((Upd.of_below (below_hp (Below.refl _ W) (by rfl) (by rfl) (by rfl) (by rfl))).trans hU3 (fun _ _ h => h)); have z0 : w3.cell? ⟨q, 0, none⟩ = some (.func (.func 65) #[] capsW) := (World.cell?_of_block (a := ⟨q, 0, none⟩) (HU3.out.block q hqW HQ.out.1)).trans c1; have z1 : w3.cell? ⟨p, 0, none⟩ = some (.func (.func 86) #[] #[]) := (World.cell?_of_block (a := ⟨p, 0, none⟩) (HU3.out.block p hpW HQ.out.2)).trans c2; have HO3 := hid hO3; have HF3 : Hid (v'.ownBlock = v.ownBlock ∨ ∀ g, v'.ownBlock = some g → W.heap.size ≤ g) := hid hF3; clear hO3 hU3 hF3))
  go_wp2_with fail
  go_ret
  exact ⟨v', rfl, HO3.out, HU3.out, HF3.out⟩

set_option maxHeartbeats 4000000 in
theorem part_wr {α β : Type} (B : Nat) (wc : World) (q p : Nat) (hqB : B ≤ q) (hpB : B ≤ p) (capsW : Array Value) (AtT : (Nat → Prop) → World → Nat → Nat → α → Prop) (AtP : (Nat → Prop) → World → Nat → Nat → β → Prop) (sel : α → β) (en : β → List Int) (ok : β → Prop)
    (h1 : wc.cell? ⟨q, 0, none⟩ = some (.func (.func 65) #[] capsW)) (hql : q < wc.heap.size) (h2 : wc.cell? ⟨p, 0, none⟩ = some (.func (.func 95) #[] #[])) (hpl : p < wc.heap.size)
    (hat : ∀ N W b o x, AtT N W b o x → AtP N W b (o + 0) (sel x)) (hk : ∀ N N' W W' b o x, Keep N N' W W' → AtP N W b o x → AtP N' W' b o x) (hw : Wr B wc AtP en ok 65 capsW) : Wr B wc AtT (fun x => en (sel x)) (fun x => ok (sel x)) 122 #[.pointer (some ⟨q, 0, none⟩), .pointer (some ⟨p, 0, none⟩)] := by
  refine ⟨fun args w => by kernel_rfl, fun W b o x v xs hW hv hx hok hO hlen => ?_⟩
  show Calls Tryz.prog 122 #[v, .pointer (some ⟨b, o, none⟩), .pointer (some ⟨q, 0, none⟩), .pointer (some ⟨p, 0, none⟩)] W _
  dsimp only at hlen hok ⊢
  have c1 := (hW.atc 0 hql (by omega)).trans h1
  have c2 := (hW.atc 0 hpl (by omega)).trans h2
  have hqW : q < W.heap.size := Nat.lt_of_lt_of_le hql hW.size
  have hpW : p < W.heap.size := Nat.lt_of_lt_of_le hpl hW.size
  have HQ : Hid (v.ownBlock ≠ some q ∧ v.ownBlock ≠ some p) := hid ⟨fun h => by have := hv q h; omega, fun h => by have := hv p h; omega⟩
  have hgo := hw.1
  have ks := hid (sel_word1 b o)
  have kw := hid (fun wx (hx' : Below W.heap.size W wx) (hO' : Ob wx v xs) (hA' : AtP (fun k => v.ownBlock ≠ some k) wx b (o + 0) (sel x)) => hw.2 wx b (o + 0) (sel x) v xs (hW.trans (Upd.of_below hx') (fun _ _ h => h)) hv hA' hok hO' hlen)
  have HO := hid hO
  have HA := hid (hat _ _ _ _ _ hx)
  have HT : Hid (∀ wx : World, wx.heap = W.heap → AtP (fun k => v.ownBlock ≠ some k) wx b (o + 0) (sel x)) := hid (fun wx e => hk _ _ _ _ _ _ _ ⟨by rw [e]; exact Nat.le_refl _, fun k hN _ => ⟨hN, by rw [e]⟩⟩ HA.out)
  have HB : Hid (∀ wx : World, wx.heap = W.heap → Ob wx v xs) := hid (fun wx e => by have := HO.out; unfold Ob World.ownsRow at this ⊢; rw [e]; exact this)
  generalize en (sel x) = E at kw hlen ⊢
  clear hO hx hv hok hw hat h1 h2 hk hW
  go_enter Tryz.func122, Tryz.ntmps122
  go_wp2_with fail
  go_region_held3 (fun wx => wx.cell? ⟨q, 0, none⟩ = some (.func (.func 65) #[] capsW) ∧ wx.cell? ⟨p, 0, none⟩ = some (.func (.func 95) #[] #[])) (go_keep) (first
    | (go_at_call 95; refine (ks.out _).mono ?_; rintro e w2 ⟨rfl, rfl⟩)
    | (go_at_call 65; refine (kw.out _ (below_hp (Below.refl _ W) (by rfl) (by rfl) (by rfl) (by rfl)) (HB.out _ (by rfl)) (HT.out _ (by rfl))).mono ?_; rintro e w3 ⟨v', rfl, hO3, hU3, hF3⟩; have HU3 : Hid (Upd (fun k => v.ownBlock = some k) W w3) := hid ((Upd.of_below (below_hp (Below.refl _ W) (by rfl) (by rfl) (by rfl) (by rfl))).trans hU3 (fun _ _ h => h)); have z0 : w3.cell? ⟨q, 0, none⟩ = some (.func (.func 65) #[] capsW) := (World.cell?_of_block (a := ⟨q, 0, none⟩) (HU3.out.block q hqW HQ.out.1)).trans c1; have z1 : w3.cell? ⟨p, 0, none⟩ = some (.func (.func 95) #[] #[]) := (World.cell?_of_block (a := ⟨p, 0, none⟩) (HU3.out.block p hpW HQ.out.2)).trans c2; have HO3 := hid hO3; have HF3 : Hid (v'.ownBlock = v.ownBlock ∨ ∀ g, v'.ownBlock = some g → W.heap.size ≤ g) := hid hF3; clear hO3 hU3 hF3))
  go_wp2_with fail
  go_ret
  exact ⟨v', rfl, HO3.out, HU3.out, HF3.out⟩

set_option maxHeartbeats 4000000 in
theorem part_wv {α β : Type} (B : Nat) (wc : World) (q p : Nat) (hqB : B ≤ q) (hpB : B ≤ p) (capsW : Array Value) (AtT : (Nat → Prop) → World → Nat → Nat → α → Prop) (AtP : (Nat → Prop) → World → Nat → Nat → β → Prop) (sel : α → β) (en : β → List Int) (ok : β → Prop)
    (h1 : wc.cell? ⟨q, 0, none⟩ = some (.func (.func 114) #[] capsW)) (hql : q < wc.heap.size) (h2 : wc.cell? ⟨p, 0, none⟩ = some (.func (.func 96) #[] #[])) (hpl : p < wc.heap.size)
    (hat : ∀ N W b o x, AtT N W b o x → AtP N W b (o + 1) (sel x)) (hk : ∀ N N' W W' b o x, Keep N N' W W' → AtP N W b o x → AtP N' W' b o x) (hw : Wr B wc AtP en ok 114 capsW) : Wr B wc AtT (fun x => en (sel x)) (fun x => ok (sel x)) 122 #[.pointer (some ⟨q, 0, none⟩), .pointer (some ⟨p, 0, none⟩)] := by
  refine ⟨fun args w => by kernel_rfl, fun W b o x v xs hW hv hx hok hO hlen => ?_⟩
  show Calls Tryz.prog 122 #[v, .pointer (some ⟨b, o, none⟩), .pointer (some ⟨q, 0, none⟩), .pointer (some ⟨p, 0, none⟩)] W _
  dsimp only at hlen hok ⊢
  have c1 := (hW.atc 0 hql (by omega)).trans h1
  have c2 := (hW.atc 0 hpl (by omega)).trans h2
  have hqW : q < W.heap.size := Nat.lt_of_lt_of_le hql hW.size
  have hpW : p < W.heap.size := Nat.lt_of_lt_of_le hpl hW.size
  have HQ : Hid (v.ownBlock ≠ some q ∧ v.ownBlock ≠ some p) := hid ⟨fun h => by have := hv q h; omega, fun h => by have := hv p h; omega⟩
  have hgo := hw.1
  have ks := hid (sel_word2 b o)
  have kw := hid (fun wx (hx' : Below W.heap.size W wx) (hO' : Ob wx v xs) (hA' : AtP (fun k => v.ownBlock ≠ some k) wx b (o + 1) (sel x)) => hw.2 wx b (o + 1) (sel x) v xs (hW.trans (Upd.of_below hx') (fun _ _ h => h)) hv hA' hok hO' hlen)
  have HO := hid hO
  have HA := hid (hat _ _ _ _ _ hx)
  have HT : Hid (∀ wx : World, wx.heap = W.heap → AtP (fun k => v.ownBlock ≠ some k) wx b (o + 1) (sel x)) := hid (fun wx e => hk _ _ _ _ _ _ _ ⟨by rw [e]; exact Nat.le_refl _, fun k hN _ => ⟨hN, by rw [e]⟩⟩ HA.out)
  have HB : Hid (∀ wx : World, wx.heap = W.heap → Ob wx v xs) := hid (fun wx e => by have := HO.out; unfold Ob World.ownsRow at this ⊢; rw [e]; exact this)
  generalize en (sel x) = E at kw hlen ⊢
  clear hO hx hv hok hw hat h1 h2 hk hW
  go_enter Tryz.func122, Tryz.ntmps122
  go_wp2_with fail
  go_region_held3 (fun wx => wx.cell? ⟨q, 0, none⟩ = some (.func (.func 114) #[] capsW) ∧ wx.cell? ⟨p, 0, none⟩ = some (.func (.func 96) #[] #[])) (go_keep) (first
    | (go_at_call 96; refine (ks.out _).mono ?_; rintro e w2 ⟨rfl, rfl⟩)
    | (go_at_call 114; refine (kw.out _ (below_hp (Below.refl _ W) (by rfl) (by rfl) (by rfl) (by rfl)) (HB.out _ (by rfl)) (HT.out _ (by rfl))).mono ?_; rintro e w3 ⟨v', rfl, hO3, hU3, hF3⟩; have HU3 : Hid (Upd (fun k => v.ownBlock = some k) W w3) := hid ((Upd.of_below (below_hp (Below.refl _ W) (by rfl) (by rfl) (by rfl) (by rfl))).trans hU3 (fun _ _ h => h)); have z0 : w3.cell? ⟨q, 0, none⟩ = some (.func (.func 114) #[] capsW) := (World.cell?_of_block (a := ⟨q, 0, none⟩) (HU3.out.block q hqW HQ.out.1)).trans c1; have z1 : w3.cell? ⟨p, 0, none⟩ = some (.func (.func 96) #[] #[]) := (World.cell?_of_block (a := ⟨p, 0, none⟩) (HU3.out.block p hpW HQ.out.2)).trans c2; have HO3 := hid hO3; have HF3 : Hid (v'.ownBlock = v.ownBlock ∨ ∀ g, v'.ownBlock = some g → W.heap.size ≤ g) := hid hF3; clear hO3 hU3 hF3))
  go_wp2_with fail
  go_ret
  exact ⟨v', rfl, HO3.out, HU3.out, HF3.out⟩

end Go.Proofs.YtpbhcmfbcnihiaaGreat
