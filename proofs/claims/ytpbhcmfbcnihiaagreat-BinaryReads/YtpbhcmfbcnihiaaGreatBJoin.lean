/- Codecs one behind the other: what their Write writes. Written by gen_bjoin.py. -/
import Derived.Test.YtpbhcmfbcnihiaaGreatBWr1
import Derived.Laws.EntriesVeiled
namespace Go.Proofs.YtpbhcmfbcnihiaaGreat
open Go.RowKit Num
set_option linter.unusedVariables false
set_option maxRecDepth 20000

/-- What a Write does to memory: it turns the row that it writes to, which stays where it was, or is new. -/
structure Ow (W W' : World) (v v' : Value) : Prop where
  upd : Upd (fun k => v.ownBlock = some k) W W'
  fr : v'.ownBlock = v.ownBlock ∨ ∀ g, v'.ownBlock = some g → W.heap.size ≤ g
theorem Ow.refl (W : World) (v : Value) : Ow W W v v := ⟨Upd.refl _ _, .inl rfl⟩
theorem Ow.trans {W W1 W2 : World} {v v1 v2 : Value} (h : Ow W W1 v v1) (k : Ow W1 W2 v1 v2) : Ow W W2 v v2 := by
  have hs := h.upd.size
  refine ⟨h.upd.trans k.upd (fun x hx e => ?_), ?_⟩
  · rcases h.fr with f | f
    · rw [← f]; exact e
    · have := f x e; omega
  · rcases k.fr with f | f
    · rcases h.fr with f' | f'
      · exact .inl (f.trans f')
      · exact .inr (fun g hg => f' g (f ▸ hg))
    · exact .inr (fun g hg => Nat.le_trans hs (f g hg))
theorem Ow.below {W W1 W2 : World} {v v1 : Value} (h : Ow W W1 v v1) (hb : Below W1.heap.size W1 W2) : Ow W W2 v v1 := h.trans ⟨Upd.of_below hb, .inl rfl⟩
theorem Ow.low {W W' : World} {v v' : Value} (h : Ow W W' v v') {B : Nat} (hB : B ≤ W.heap.size) (hv : ∀ g, v.ownBlock = some g → B ≤ g) : ∀ g, v'.ownBlock = some g → B ≤ g := fun g hg => by
  rcases h.fr with f | f
  · exact hv g (f ▸ hg)
  · exact Nat.le_trans hB (f g hg)
theorem Ow.keep {W W' : World} {v v' : Value} (h : Ow W W' v v') : Keep (fun k => v.ownBlock ≠ some k) (fun k => v'.ownBlock ≠ some k) W W' :=
  Keep.upd h.upd (fun b hN hb => ⟨fun e => by
    rcases h.fr with f | f
    · exact hN (f ▸ e)
    · have := f b e; omega, hN⟩)
theorem Ow.wc {B : Nat} {W W' wc : World} {v v' : Value} (h : Ow W W' v v') (hW : Upd (fun k => k < B) wc W) (hv : ∀ g, v.ownBlock = some g → wc.heap.size ≤ g) : Upd (fun k => k < B) wc W' :=
  hW.trans h.upd (fun x hx e => by have := hv x e; omega)

/-- A part of a joined codec. -/
structure Pc (α : Type) where
  kw : Nat
  cw : Array Value
  kr : Nat
  cr : Array Value
  en : α → List Int
  rd : α → List Int → Option (α × Nat)
/-- The parts lie in a row. -/
def Pcs {α : Type} (w : World) (g og : Nat) (ps : List (Pc α)) : Prop := g < w.heap.size ∧ ∀ i (h : i < ps.length), w.cell? ⟨g, og + i * 2, none⟩ = some (.func (.func ps[i].kw) #[] ps[i].cw) ∧ w.cell? ⟨g, og + i * 2 + 1, none⟩ = some (.func (.func ps[i].kr) #[] ps[i].cr)
def enAll {α : Type} (ps : List (Pc α)) (x : α) : List Int := (ps.map (fun p => p.en x)).flatten
theorem enAll_more {α : Type} (ps : List (Pc α)) (x : α) (i : Nat) (h : i < ps.length) : enAll (ps.take (i + 1)) x = enAll (ps.take i) x ++ ps[i].en x := by
  unfold enAll
  rw [take_one ps i h, List.map_append, List.flatten_append]
  simp
theorem enAll_le {α : Type} (ps : List (Pc α)) (x : α) (i : Nat) : (enAll (ps.take i) x).length ≤ (enAll ps x).length := by
  conv => rhs; rw [← List.take_append_drop i ps]
  unfold enAll
  rw [List.map_append, List.flatten_append, List.length_append]
  omega

set_option maxHeartbeats 4000000 in
theorem join_x {α : Type} (B : Nat) (wc : World) (p g og m : Nat) (hpB : B ≤ p) (hgB : B ≤ g) (ps : List (Pc α)) (At : (Nat → Prop) → World → Nat → Nat → α → Prop) (ok : α → Prop)
    (h1 : wc.cell? ⟨p, 0, none⟩ = some (.slice (some ⟨g, og, none⟩) m m)) (hpl : p < wc.heap.size) (hm : ps.length = m) (hm9 : m ≤ 9) (hP : Pcs wc g og ps) (hW : ∀ P ∈ ps, Wr B wc At P.en ok P.kw P.cw)
    (hk : ∀ N N' W W' b o x, Keep N N' W W' → At N W b o x → At N' W' b o x) : Wr B wc At (enAll ps) ok 44 #[.pointer (some ⟨p, 0, none⟩)] := by
  refine ⟨fun args w => by kernel_rfl, fun W b o x v xs hWc hv hx hok hO hlen => ?_⟩
  show Calls Tryz.prog 44 #[v, .pointer (some ⟨b, o, none⟩), .pointer (some ⟨p, 0, none⟩)] W _
  have c0 := (hWc.atc 0 hpl (by omega)).trans h1
  have HP := hid hP
  have HM := hid hm
  have HW := hid hW
  have HK := hid hk
  have HC := hid hWc
  have HV := hid hv
  have HX := hid hx
  have HO := hid hO
  clear hP hm hW hk hWc hv hx hO h1
  go_enter Tryz.func44, Tryz.ntmps44
  go_wp2_with fail
  go_loopw [0, 10] (fun vv k wr => ∃ i : Nat, i ≤ m ∧ k = .int .i64 i ∧ Hid (Ob wr vv (xs ++ enAll (ps.take i) x)) ∧ Hid (Ow W wr v vv)) (fun _ k _ => m - (intOf k).toNat)
  case atStart => exact ⟨0, Nat.zero_le _, rfl, hid (by simpa [enAll] using HO.out), hid (Ow.refl _ _)⟩
  case round =>
    obtain ⟨i, hi, rfl, HI, HU⟩ := hrel
    by_cases hlt : i < m
    · have hil : i < ps.length := by rw [HM.out]; exact hlt
      have hbw : Upd (fun k => k < B) wc wr := HU.out.wc HC.out HV.out
      obtain ⟨hgl, hcs⟩ := HP.out
      have d0 := (hbw.atc (og + i * 2) hgl (by omega)).trans (hcs i hil).1
      have d1 := (hbw.atc (og + i * 2 + 1) hgl (by omega)).trans (hcs i hil).2
      have hMem : ps[i] ∈ ps := List.getElem_mem hil
      have HMo := hid (enAll_more ps x i hil)
      have hle := enAll_le ps x (i + 1)
      rw [enAll_more ps x i hil, List.length_append] at hle
      have hwr := HW.out _ hMem
      generalize ps[i] = P at d0 d1 hwr HMo hle
      have kw := hid (fun o' => hwr.2 (wr.alloc o') b o x u0 (xs ++ enAll (ps.take i) x) (hbw.trans (Upd.alloc _ _ o') (fun _ _ h => h)) (HU.out.low HC.out.size HV.out) (HK.out _ _ _ _ _ _ _ (HU.out.keep.trans (Keep.below ((Below.refl _ _).alloc (Nat.le_refl _) o'))) HX.out) hok (own_below HI.out ((Below.refl _ _).alloc (Nat.le_refl _) o')) (by rw [List.length_append]; omega))
      have hgo := hwr.1
      have hgw : g < wr.heap.size := Nat.lt_of_lt_of_le hgl hbw.size
      clear hwr hcs hMem hle hil hbw
      go_wp2_with fail
      refine (kw.out _).mono ?_
      rintro e w2 ⟨v', rfl, hO2, hU2, hF2⟩
      have HO2 : Hid (Ob w2 v' (xs ++ enAll (ps.take (i + 1)) x)) := hid (by rw [HMo.out, ← List.append_assoc]; exact hO2)
      have HU2 : Hid (Ow W w2 v v') := hid ((HU.out.below ((Below.refl _ _).alloc (Nat.le_refl _) _)).trans ⟨hU2, hF2⟩)
      clear hO2 hU2 hF2 kw hgo
      go_wp2_with fail
      go_roundw
      case rel => exact ⟨i + 1, by omega, by go_num, HO2, HU2⟩
      case measure => simp [intOf]; omega
    · obtain rfl : i = m := by omega
      have HI2 : Hid (Ob wr u0 (xs ++ enAll ps x)) := hid (by have := HI.out; rw [← HM.out, List.take_length] at this; exact this)
      go_wp2_with fail
      go_ret
      exact ⟨u0, rfl, HI2.out, HU.out.upd, HU.out.fr⟩

set_option maxHeartbeats 4000000 in
theorem join_e {α : Type} (B : Nat) (wc : World) (p g og m : Nat) (hpB : B ≤ p) (hgB : B ≤ g) (ps : List (Pc α)) (At : (Nat → Prop) → World → Nat → Nat → α → Prop) (ok : α → Prop)
    (h1 : wc.cell? ⟨p, 0, none⟩ = some (.slice (some ⟨g, og, none⟩) m m)) (hpl : p < wc.heap.size) (hm : ps.length = m) (hm9 : m ≤ 9) (hP : Pcs wc g og ps) (hW : ∀ P ∈ ps, Wr B wc At P.en ok P.kw P.cw)
    (hk : ∀ N N' W W' b o x, Keep N N' W W' → At N W b o x → At N' W' b o x) : Wr B wc At (enAll ps) ok 69 #[.pointer (some ⟨p, 0, none⟩)] := by
  refine ⟨fun args w => by kernel_rfl, fun W b o x v xs hWc hv hx hok hO hlen => ?_⟩
  show Calls Tryz.prog 69 #[v, .pointer (some ⟨b, o, none⟩), .pointer (some ⟨p, 0, none⟩)] W _
  have c0 := (hWc.atc 0 hpl (by omega)).trans h1
  have HP := hid hP
  have HM := hid hm
  have HW := hid hW
  have HK := hid hk
  have HC := hid hWc
  have HV := hid hv
  have HX := hid hx
  have HO := hid hO
  clear hP hm hW hk hWc hv hx hO h1
  go_enter Tryz.func69, Tryz.ntmps69
  go_wp2_with fail
  go_loopw [0, 10] (fun vv k wr => ∃ i : Nat, i ≤ m ∧ k = .int .i64 i ∧ Hid (Ob wr vv (xs ++ enAll (ps.take i) x)) ∧ Hid (Ow W wr v vv)) (fun _ k _ => m - (intOf k).toNat)
  case atStart => exact ⟨0, Nat.zero_le _, rfl, hid (by simpa [enAll] using HO.out), hid (Ow.refl _ _)⟩
  case round =>
    obtain ⟨i, hi, rfl, HI, HU⟩ := hrel
    by_cases hlt : i < m
    · have hil : i < ps.length := by rw [HM.out]; exact hlt
      have hbw : Upd (fun k => k < B) wc wr := HU.out.wc HC.out HV.out
      obtain ⟨hgl, hcs⟩ := HP.out
      have d0 := (hbw.atc (og + i * 2) hgl (by omega)).trans (hcs i hil).1
      have d1 := (hbw.atc (og + i * 2 + 1) hgl (by omega)).trans (hcs i hil).2
      have hMem : ps[i] ∈ ps := List.getElem_mem hil
      have HMo := hid (enAll_more ps x i hil)
      have hle := enAll_le ps x (i + 1)
      rw [enAll_more ps x i hil, List.length_append] at hle
      have hwr := HW.out _ hMem
      generalize ps[i] = P at d0 d1 hwr HMo hle
      have kw := hid (fun o' => hwr.2 (wr.alloc o') b o x u0 (xs ++ enAll (ps.take i) x) (hbw.trans (Upd.alloc _ _ o') (fun _ _ h => h)) (HU.out.low HC.out.size HV.out) (HK.out _ _ _ _ _ _ _ (HU.out.keep.trans (Keep.below ((Below.refl _ _).alloc (Nat.le_refl _) o'))) HX.out) hok (own_below HI.out ((Below.refl _ _).alloc (Nat.le_refl _) o')) (by rw [List.length_append]; omega))
      have hgo := hwr.1
      have hgw : g < wr.heap.size := Nat.lt_of_lt_of_le hgl hbw.size
      clear hwr hcs hMem hle hil hbw
      go_wp2_with fail
      refine (kw.out _).mono ?_
      rintro e w2 ⟨v', rfl, hO2, hU2, hF2⟩
      have HO2 : Hid (Ob w2 v' (xs ++ enAll (ps.take (i + 1)) x)) := hid (by rw [HMo.out, ← List.append_assoc]; exact hO2)
      have HU2 : Hid (Ow W w2 v v') := hid ((HU.out.below ((Below.refl _ _).alloc (Nat.le_refl _) _)).trans ⟨hU2, hF2⟩)
      clear hO2 hU2 hF2 kw hgo
      go_wp2_with fail
      go_roundw
      case rel => exact ⟨i + 1, by omega, by go_num, HO2, HU2⟩
      case measure => simp [intOf]; omega
    · obtain rfl : i = m := by omega
      have HI2 : Hid (Ob wr u0 (xs ++ enAll ps x)) := hid (by have := HI.out; rw [← HM.out, List.take_length] at this; exact this)
      go_wp2_with fail
      go_ret
      exact ⟨u0, rfl, HI2.out, HU.out.upd, HU.out.fr⟩

set_option maxHeartbeats 4000000 in
theorem join_c {α : Type} (B : Nat) (wc : World) (p g og m : Nat) (hpB : B ≤ p) (hgB : B ≤ g) (ps : List (Pc α)) (At : (Nat → Prop) → World → Nat → Nat → α → Prop) (ok : α → Prop)
    (h1 : wc.cell? ⟨p, 0, none⟩ = some (.slice (some ⟨g, og, none⟩) m m)) (hpl : p < wc.heap.size) (hm : ps.length = m) (hm9 : m ≤ 9) (hP : Pcs wc g og ps) (hW : ∀ P ∈ ps, Wr B wc At P.en ok P.kw P.cw)
    (hk : ∀ N N' W W' b o x, Keep N N' W W' → At N W b o x → At N' W' b o x) : Wr B wc At (enAll ps) ok 110 #[.pointer (some ⟨p, 0, none⟩)] := by
  refine ⟨fun args w => by kernel_rfl, fun W b o x v xs hWc hv hx hok hO hlen => ?_⟩
  show Calls Tryz.prog 110 #[v, .pointer (some ⟨b, o, none⟩), .pointer (some ⟨p, 0, none⟩)] W _
  have c0 := (hWc.atc 0 hpl (by omega)).trans h1
  have HP := hid hP
  have HM := hid hm
  have HW := hid hW
  have HK := hid hk
  have HC := hid hWc
  have HV := hid hv
  have HX := hid hx
  have HO := hid hO
  clear hP hm hW hk hWc hv hx hO h1
  go_enter Tryz.func110, Tryz.ntmps110
  go_wp2_with fail
  go_loopw [0, 10] (fun vv k wr => ∃ i : Nat, i ≤ m ∧ k = .int .i64 i ∧ Hid (Ob wr vv (xs ++ enAll (ps.take i) x)) ∧ Hid (Ow W wr v vv)) (fun _ k _ => m - (intOf k).toNat)
  case atStart => exact ⟨0, Nat.zero_le _, rfl, hid (by simpa [enAll] using HO.out), hid (Ow.refl _ _)⟩
  case round =>
    obtain ⟨i, hi, rfl, HI, HU⟩ := hrel
    by_cases hlt : i < m
    · have hil : i < ps.length := by rw [HM.out]; exact hlt
      have hbw : Upd (fun k => k < B) wc wr := HU.out.wc HC.out HV.out
      obtain ⟨hgl, hcs⟩ := HP.out
      have d0 := (hbw.atc (og + i * 2) hgl (by omega)).trans (hcs i hil).1
      have d1 := (hbw.atc (og + i * 2 + 1) hgl (by omega)).trans (hcs i hil).2
      have hMem : ps[i] ∈ ps := List.getElem_mem hil
      have HMo := hid (enAll_more ps x i hil)
      have hle := enAll_le ps x (i + 1)
      rw [enAll_more ps x i hil, List.length_append] at hle
      have hwr := HW.out _ hMem
      generalize ps[i] = P at d0 d1 hwr HMo hle
      have kw := hid (fun o' => hwr.2 (wr.alloc o') b o x u0 (xs ++ enAll (ps.take i) x) (hbw.trans (Upd.alloc _ _ o') (fun _ _ h => h)) (HU.out.low HC.out.size HV.out) (HK.out _ _ _ _ _ _ _ (HU.out.keep.trans (Keep.below ((Below.refl _ _).alloc (Nat.le_refl _) o'))) HX.out) hok (own_below HI.out ((Below.refl _ _).alloc (Nat.le_refl _) o')) (by rw [List.length_append]; omega))
      have hgo := hwr.1
      have hgw : g < wr.heap.size := Nat.lt_of_lt_of_le hgl hbw.size
      clear hwr hcs hMem hle hil hbw
      go_wp2_with fail
      refine (kw.out _).mono ?_
      rintro e w2 ⟨v', rfl, hO2, hU2, hF2⟩
      have HO2 : Hid (Ob w2 v' (xs ++ enAll (ps.take (i + 1)) x)) := hid (by rw [HMo.out, ← List.append_assoc]; exact hO2)
      have HU2 : Hid (Ow W w2 v v') := hid ((HU.out.below ((Below.refl _ _).alloc (Nat.le_refl _) _)).trans ⟨hU2, hF2⟩)
      clear hO2 hU2 hF2 kw hgo
      go_wp2_with fail
      go_roundw
      case rel => exact ⟨i + 1, by omega, by go_num, HO2, HU2⟩
      case measure => simp [intOf]; omega
    · obtain rfl : i = m := by omega
      have HI2 : Hid (Ob wr u0 (xs ++ enAll ps x)) := hid (by have := HI.out; rw [← HM.out, List.take_length] at this; exact this)
      go_wp2_with fail
      go_ret
      exact ⟨u0, rfl, HI2.out, HU.out.upd, HU.out.fr⟩

set_option maxHeartbeats 4000000 in
theorem join_w {α : Type} (B : Nat) (wc : World) (p g og m : Nat) (hpB : B ≤ p) (hgB : B ≤ g) (ps : List (Pc α)) (At : (Nat → Prop) → World → Nat → Nat → α → Prop) (ok : α → Prop)
    (h1 : wc.cell? ⟨p, 0, none⟩ = some (.slice (some ⟨g, og, none⟩) m m)) (hpl : p < wc.heap.size) (hm : ps.length = m) (hm9 : m ≤ 9) (hP : Pcs wc g og ps) (hW : ∀ P ∈ ps, Wr B wc At P.en ok P.kw P.cw)
    (hk : ∀ N N' W W' b o x, Keep N N' W W' → At N W b o x → At N' W' b o x) : Wr B wc At (enAll ps) ok 120 #[.pointer (some ⟨p, 0, none⟩)] := by
  refine ⟨fun args w => by kernel_rfl, fun W b o x v xs hWc hv hx hok hO hlen => ?_⟩
  show Calls Tryz.prog 120 #[v, .pointer (some ⟨b, o, none⟩), .pointer (some ⟨p, 0, none⟩)] W _
  have c0 := (hWc.atc 0 hpl (by omega)).trans h1
  have HP := hid hP
  have HM := hid hm
  have HW := hid hW
  have HK := hid hk
  have HC := hid hWc
  have HV := hid hv
  have HX := hid hx
  have HO := hid hO
  clear hP hm hW hk hWc hv hx hO h1
  go_enter Tryz.func120, Tryz.ntmps120
  go_wp2_with fail
  go_loopw [0, 10] (fun vv k wr => ∃ i : Nat, i ≤ m ∧ k = .int .i64 i ∧ Hid (Ob wr vv (xs ++ enAll (ps.take i) x)) ∧ Hid (Ow W wr v vv)) (fun _ k _ => m - (intOf k).toNat)
  case atStart => exact ⟨0, Nat.zero_le _, rfl, hid (by simpa [enAll] using HO.out), hid (Ow.refl _ _)⟩
  case round =>
    obtain ⟨i, hi, rfl, HI, HU⟩ := hrel
    by_cases hlt : i < m
    · have hil : i < ps.length := by rw [HM.out]; exact hlt
      have hbw : Upd (fun k => k < B) wc wr := HU.out.wc HC.out HV.out
      obtain ⟨hgl, hcs⟩ := HP.out
      have d0 := (hbw.atc (og + i * 2) hgl (by omega)).trans (hcs i hil).1
      have d1 := (hbw.atc (og + i * 2 + 1) hgl (by omega)).trans (hcs i hil).2
      have hMem : ps[i] ∈ ps := List.getElem_mem hil
      have HMo := hid (enAll_more ps x i hil)
      have hle := enAll_le ps x (i + 1)
      rw [enAll_more ps x i hil, List.length_append] at hle
      have hwr := HW.out _ hMem
      generalize ps[i] = P at d0 d1 hwr HMo hle
      have kw := hid (fun o' => hwr.2 (wr.alloc o') b o x u0 (xs ++ enAll (ps.take i) x) (hbw.trans (Upd.alloc _ _ o') (fun _ _ h => h)) (HU.out.low HC.out.size HV.out) (HK.out _ _ _ _ _ _ _ (HU.out.keep.trans (Keep.below ((Below.refl _ _).alloc (Nat.le_refl _) o'))) HX.out) hok (own_below HI.out ((Below.refl _ _).alloc (Nat.le_refl _) o')) (by rw [List.length_append]; omega))
      have hgo := hwr.1
      have hgw : g < wr.heap.size := Nat.lt_of_lt_of_le hgl hbw.size
      clear hwr hcs hMem hle hil hbw
      go_wp2_with fail
      refine (kw.out _).mono ?_
      rintro e w2 ⟨v', rfl, hO2, hU2, hF2⟩
      have HO2 : Hid (Ob w2 v' (xs ++ enAll (ps.take (i + 1)) x)) := hid (by rw [HMo.out, ← List.append_assoc]; exact hO2)
      have HU2 : Hid (Ow W w2 v v') := hid ((HU.out.below ((Below.refl _ _).alloc (Nat.le_refl _) _)).trans ⟨hU2, hF2⟩)
      clear hO2 hU2 hF2 kw hgo
      go_wp2_with fail
      go_roundw
      case rel => exact ⟨i + 1, by omega, by go_num, HO2, HU2⟩
      case measure => simp [intOf]; omega
    · obtain rfl : i = m := by omega
      have HI2 : Hid (Ob wr u0 (xs ++ enAll ps x)) := hid (by have := HI.out; rw [← HM.out, List.take_length] at this; exact this)
      go_wp2_with fail
      go_ret
      exact ⟨u0, rfl, HI2.out, HU.out.upd, HU.out.fr⟩

end Go.Proofs.YtpbhcmfbcnihiaaGreat
