/- Codecs of lists, and the chosen one: what their Write writes. Written by gen_blist.py. -/
import Derived.Test.YtpbhcmfbcnihiaaGreatBJoin
namespace Go.Proofs.YtpbhcmfbcnihiaaGreat
open Go.RowKit Num
set_option linter.unusedVariables false
set_option maxRecDepth 20000

theorem eL_more {α : Type} (en : α → List Int) (l : List α) (i : Nat) (h : i < l.length) : ((l.take (i + 1)).map en).flatten = ((l.take i).map en).flatten ++ en l[i] := by
  rw [take_one l i h, List.map_append, List.flatten_append]
  simp
theorem eL_le {α : Type} (en : α → List Int) (l : List α) (i : Nat) : ((l.take i).map en).flatten.length ≤ (l.map en).flatten.length := by
  conv => rhs; rw [← List.take_append_drop i l]
  rw [List.map_append, List.flatten_append, List.length_append]
  omega
def okL {α : Type} (ok : α → Prop) (l : List α) : Prop := l.length ≤ 1048576 ∧ ∀ x ∈ l, ok x

set_option maxHeartbeats 4000000 in
theorem list_x {α : Type} (B : Nat) (wc : World) (qc qi : Nat) (hcB : B ≤ qc) (hiB : B ≤ qi) (capsC capsI : Array Value) (At : (Nat → Prop) → World → Nat → Nat → α → Prop) (en : α → List Int) (ok : α → Prop)
    (h1 : wc.cell? ⟨qc, 0, none⟩ = some (.func (.func 65) #[] capsC)) (hcl : qc < wc.heap.size) (h2 : wc.cell? ⟨qi, 0, none⟩ = some (.func (.func 69) #[] capsI)) (hil : qi < wc.heap.size)
    (hC : Wr B wc InAt (eN 0) okI 65 capsC) (hI : Wr B wc At en ok 69 capsI) (hk : ∀ N N' W W' b o x, Keep N N' W W' → At N W b o x → At N' W' b o x) :
    Wr B wc (LsAt 3 At) (eL en) (okL ok) 47 #[.pointer (some ⟨qc, 0, none⟩), .pointer (some ⟨qi, 0, none⟩)] := by
  refine ⟨fun args w => by kernel_rfl, fun W b o l v xs hWc hv hx hok hO hlen => ?_⟩
  show Calls Tryz.prog 47 #[v, .pointer (some ⟨b, o, none⟩), .pointer (some ⟨qc, 0, none⟩), .pointer (some ⟨qi, 0, none⟩)] W _
  have c1 := (hWc.atc 0 hcl (by omega)).trans h1
  have hqcW : qc < W.heap.size := Nat.lt_of_lt_of_le hcl hWc.size
  have hqiW : qi < W.heap.size := Nat.lt_of_lt_of_le hil hWc.size
  have HX := hid hx
  obtain ⟨hxb, hbl, a, n, c, c0, hln, hnc, hcb, hitems⟩ := hx
  obtain ⟨hl1, hl2⟩ := hok
  have hn : n ≤ 1048576 := by omega
  unfold eL at hlen ⊢
  rw [List.length_append] at hlen
  have hgo1 := hC.1
  have hgo2 := hI.1
  have kc := hid (fun o' => hC.2 (W.alloc (.cells #[.int .i64 (n : Int)] o')) W.heap.size 0 (n : Int) v xs (hWc.trans (Upd.alloc _ _ _) (fun _ _ h => h)) hv ⟨fun e => by have := hO.lt _ e; omega, by simp, by simp⟩ ⟨by omega, by omega⟩ (own_below hO ((Below.refl _ _).alloc (Nat.le_refl _) _)) (by show _ + (enc ((n : Int) + 0).toNat).length ≤ _; rw [Int.add_zero, Int.toNat_natCast, ← hln]; omega))
  have HEN : Hid (eN 0 (n : Int) = enc l.length) := hid (by show enc ((n : Int) + 0).toNat = _; rw [Int.add_zero, Int.toNat_natCast, hln])
  have HO := hid hO
  have HV := hid hv
  have HC := hid hWc
  have HI := hid hI
  have HK := hid hk
  have HL := hid hl2
  have HLN := hid hln
  have HIT := hid hitems
  have H2 := hid h2
  have HLEN := hid hlen
  clear hO hv hWc hC hI hk hl2 hl1 hln hitems h1 h2 hlen hxb
  go_enter Tryz.func47, Tryz.ntmps47
  go_wp2_with fail
  refine (kc.out _).mono ?_
  rintro e w2 ⟨v2, rfl, hO2, hU2, hF2⟩
  rw [HEN.out] at hO2
  have HO2 := hid hO2
  have HU2 : Hid (Ow W w2 v v2) := hid ((Ow.refl W v).below ((Below.refl _ _).alloc (Nat.le_refl _) _) |>.trans ⟨hU2, hF2⟩)
  have hLs2 : LsAt 3 At (fun k => v2.ownBlock ≠ some k) w2 b o l := HX.out.keep (fun _ _ _ h => HK.out _ _ _ _ _ _ _ HU2.out.keep h) HU2.out.keep
  clear hO2 hU2 hF2 kc c1 hgo1
  obtain ⟨hxb2, hbl2, a', n', c', c2, hln2, hnc2, hcb2, hit2⟩ := hLs2
  have e0 : w2.cell? ⟨b, o, none⟩ = some (.slice a n c) := (World.cell?_of_block (a := ⟨b, o, none⟩) (HU2.out.upd.block b hbl (by have := HX.out.1; exact this))).trans c0
  rw [e0] at c2
  obtain ⟨rfl, rfl, rfl⟩ : a = a' ∧ n = n' ∧ c = c' := by simpa using c2
  have HIT2 := hid hit2
  clear hit2 c2 HIT hln2 hnc2 hcb2 c0
  have HXB := hid hxb2
  clear hxb2
  go_wp2_with fail
  go_loopw [0, 21] (fun vv k wr => ∃ i : Nat, i ≤ n ∧ k = .int .i64 i ∧ Hid (Ob wr vv (xs ++ enc l.length ++ ((l.take i).map en).flatten)) ∧ Hid (Ow w2 wr v2 vv)) (fun _ k _ => n - (intOf k).toNat)
  case atStart => exact ⟨0, Nat.zero_le _, rfl, hid (by simpa using HO2.out), hid (Ow.refl _ _)⟩
  case round =>
    obtain ⟨i, hi, rfl, HI2, HU⟩ := hrel
    by_cases hlt : i < n
    · have hil' : i < l.length := by rw [HLN.out]; exact hlt
      have HUW := hid (HU2.out.trans HU.out)
      have hbw : Upd (fun k => k < B) wc wr := HUW.out.wc HC.out HV.out
      have d0 : wr.cell? ⟨b, o, none⟩ = some (.slice a n c) := (World.cell?_of_block (a := ⟨b, o, none⟩) (HU.out.upd.block b hbl2 HXB.out)).trans e0
      have d1 : wr.cell? ⟨qi, 0, none⟩ = some (.func (.func 69) #[] capsI) := (hbw.atc 0 hil (by omega)).trans H2.out
      obtain ⟨lb, lo, rfl, hNb, hlb, hcs⟩ := HIT2.out (by omega)
      have hit := HK.out _ _ _ _ _ _ _ HU.out.keep (hcs i hil')
      have HMo := hid (eL_more en l i hil')
      have hle := eL_le en l (i + 1)
      rw [eL_more en l i hil', List.length_append] at hle
      have hokx := HL.out _ (List.getElem_mem hil')
      generalize l[i] = x at hit HMo hle hokx
      have HIt := hid hit
      have hlen := HLEN.out
      have kw := hid (fun wx (e : wx.heap = wr.heap) (hx' : Below wr.heap.size wr wx) => HI.out.2 wx lb (lo + i * 3) x u0 (xs ++ enc l.length ++ ((l.take i).map en).flatten) (hbw.trans (Upd.of_below hx') (fun _ _ h => h)) (HUW.out.low HC.out.size HV.out) (HK.out _ _ _ _ _ _ _ (Keep.below hx') HIt.out) hokx (own_below HI2.out hx') (by rw [List.length_append, List.length_append]; omega))
      have hbr : b < wr.heap.size := Nat.lt_of_lt_of_le hbl2 HU.out.upd.size
      have hqr : qi < wr.heap.size := Nat.lt_of_lt_of_le hil hbw.size
      have HNQ : Hid (u0.ownBlock ≠ some qi ∧ u0.ownBlock ≠ some b) := hid ⟨fun e => by have := HUW.out.low HC.out.size HV.out qi e; omega, (HU.out.keep.2 b HXB.out hbl2).1⟩
      clear hcs hle hil' hit hbw hlen
      go_wp2_with fail
      go_region_held3 (fun wx => wx.cell? ⟨b, o, none⟩ = some (.slice (some ⟨lb, lo, none⟩) n c) ∧ wx.cell? ⟨qi, 0, none⟩ = some (.func (.func 69) #[] capsI)) (go_keep)
        ((go_at_call 69; refine (kw.out _ (by rfl) (below_hp (Below.refl _ wr) (by rfl) (by rfl) (by rfl) (by rfl))).mono ?_; rintro e w3 ⟨v', rfl, hO3, hU3, hF3⟩; have HU3 : Hid (Upd (fun k => u0.ownBlock = some k) wr w3) := hid ((Upd.of_below (below_hp (Below.refl _ wr) (by rfl) (by rfl) (by rfl) (by rfl))).trans hU3 (fun _ _ h => h)); have z0 : w3.cell? ⟨b, o, none⟩ = some (.slice (some ⟨lb, lo, none⟩) n c) := (World.cell?_of_block (a := ⟨b, o, none⟩) (HU3.out.block b hbr HNQ.out.2)).trans d0; have z1 : w3.cell? ⟨qi, 0, none⟩ = some (.func (.func 69) #[] capsI) := (World.cell?_of_block (a := ⟨qi, 0, none⟩) (HU3.out.block qi hqr HNQ.out.1)).trans d1; have HO3 := hid hO3; have HF3 : Hid (v'.ownBlock = u0.ownBlock ∨ ∀ g, v'.ownBlock = some g → wr.heap.size ≤ g) := hid hF3; clear hO3 hU3 hF3))
      have HO4 : Hid (Ob w3 v' (xs ++ enc l.length ++ ((l.take (i + 1)).map en).flatten)) := hid (by rw [HMo.out, ← List.append_assoc]; exact HO3.out)
      have HU4 : Hid (Ow w2 w3 v2 v') := hid (HU.out.trans ⟨HU3.out, HF3.out⟩)
      clear HO3 HU3 HF3 kw
      go_wp2_with fail
      go_roundw
      case rel => exact ⟨i + 1, by omega, by go_num, HO4, HU4⟩
      case measure => simp [intOf]; omega
    · obtain rfl : i = n := by omega
      have HI3 : Hid (Ob wr u0 (xs ++ (enc l.length ++ (l.map en).flatten))) := hid (by have := HI2.out; rw [← HLN.out, List.take_length, List.append_assoc] at this; exact this)
      have HUW := hid (HU2.out.trans HU.out)
      go_wp2_with fail
      go_ret
      exact ⟨u0, rfl, HI3.out, HUW.out.upd, HUW.out.fr⟩

set_option maxHeartbeats 4000000 in
theorem list_c {α : Type} (B : Nat) (wc : World) (qc qi : Nat) (hcB : B ≤ qc) (hiB : B ≤ qi) (capsC capsI : Array Value) (At : (Nat → Prop) → World → Nat → Nat → α → Prop) (en : α → List Int) (ok : α → Prop)
    (h1 : wc.cell? ⟨qc, 0, none⟩ = some (.func (.func 65) #[] capsC)) (hcl : qc < wc.heap.size) (h2 : wc.cell? ⟨qi, 0, none⟩ = some (.func (.func 110) #[] capsI)) (hil : qi < wc.heap.size)
    (hC : Wr B wc InAt (eN 0) okI 65 capsC) (hI : Wr B wc At en ok 110 capsI) (hk : ∀ N N' W W' b o x, Keep N N' W W' → At N W b o x → At N' W' b o x) :
    Wr B wc (LsAt 5 At) (eL en) (okL ok) 75 #[.pointer (some ⟨qc, 0, none⟩), .pointer (some ⟨qi, 0, none⟩)] := by
  refine ⟨fun args w => by kernel_rfl, fun W b o l v xs hWc hv hx hok hO hlen => ?_⟩
  show Calls Tryz.prog 75 #[v, .pointer (some ⟨b, o, none⟩), .pointer (some ⟨qc, 0, none⟩), .pointer (some ⟨qi, 0, none⟩)] W _
  have c1 := (hWc.atc 0 hcl (by omega)).trans h1
  have hqcW : qc < W.heap.size := Nat.lt_of_lt_of_le hcl hWc.size
  have hqiW : qi < W.heap.size := Nat.lt_of_lt_of_le hil hWc.size
  have HX := hid hx
  obtain ⟨hxb, hbl, a, n, c, c0, hln, hnc, hcb, hitems⟩ := hx
  obtain ⟨hl1, hl2⟩ := hok
  have hn : n ≤ 1048576 := by omega
  unfold eL at hlen ⊢
  rw [List.length_append] at hlen
  have hgo1 := hC.1
  have hgo2 := hI.1
  have kc := hid (fun o' => hC.2 (W.alloc (.cells #[.int .i64 (n : Int)] o')) W.heap.size 0 (n : Int) v xs (hWc.trans (Upd.alloc _ _ _) (fun _ _ h => h)) hv ⟨fun e => by have := hO.lt _ e; omega, by simp, by simp⟩ ⟨by omega, by omega⟩ (own_below hO ((Below.refl _ _).alloc (Nat.le_refl _) _)) (by show _ + (enc ((n : Int) + 0).toNat).length ≤ _; rw [Int.add_zero, Int.toNat_natCast, ← hln]; omega))
  have HEN : Hid (eN 0 (n : Int) = enc l.length) := hid (by show enc ((n : Int) + 0).toNat = _; rw [Int.add_zero, Int.toNat_natCast, hln])
  have HO := hid hO
  have HV := hid hv
  have HC := hid hWc
  have HI := hid hI
  have HK := hid hk
  have HL := hid hl2
  have HLN := hid hln
  have HIT := hid hitems
  have H2 := hid h2
  have HLEN := hid hlen
  clear hO hv hWc hC hI hk hl2 hl1 hln hitems h1 h2 hlen hxb
  go_enter Tryz.func75, Tryz.ntmps75
  go_wp2_with fail
  refine (kc.out _).mono ?_
  rintro e w2 ⟨v2, rfl, hO2, hU2, hF2⟩
  rw [HEN.out] at hO2
  have HO2 := hid hO2
  have HU2 : Hid (Ow W w2 v v2) := hid ((Ow.refl W v).below ((Below.refl _ _).alloc (Nat.le_refl _) _) |>.trans ⟨hU2, hF2⟩)
  have hLs2 : LsAt 5 At (fun k => v2.ownBlock ≠ some k) w2 b o l := HX.out.keep (fun _ _ _ h => HK.out _ _ _ _ _ _ _ HU2.out.keep h) HU2.out.keep
  clear hO2 hU2 hF2 kc c1 hgo1
  obtain ⟨hxb2, hbl2, a', n', c', c2, hln2, hnc2, hcb2, hit2⟩ := hLs2
  have e0 : w2.cell? ⟨b, o, none⟩ = some (.slice a n c) := (World.cell?_of_block (a := ⟨b, o, none⟩) (HU2.out.upd.block b hbl (by have := HX.out.1; exact this))).trans c0
  rw [e0] at c2
  obtain ⟨rfl, rfl, rfl⟩ : a = a' ∧ n = n' ∧ c = c' := by simpa using c2
  have HIT2 := hid hit2
  clear hit2 c2 HIT hln2 hnc2 hcb2 c0
  have HXB := hid hxb2
  clear hxb2
  go_wp2_with fail
  go_loopw [0, 21] (fun vv k wr => ∃ i : Nat, i ≤ n ∧ k = .int .i64 i ∧ Hid (Ob wr vv (xs ++ enc l.length ++ ((l.take i).map en).flatten)) ∧ Hid (Ow w2 wr v2 vv)) (fun _ k _ => n - (intOf k).toNat)
  case atStart => exact ⟨0, Nat.zero_le _, rfl, hid (by simpa using HO2.out), hid (Ow.refl _ _)⟩
  case round =>
    obtain ⟨i, hi, rfl, HI2, HU⟩ := hrel
    by_cases hlt : i < n
    · have hil' : i < l.length := by rw [HLN.out]; exact hlt
      have HUW := hid (HU2.out.trans HU.out)
      have hbw : Upd (fun k => k < B) wc wr := HUW.out.wc HC.out HV.out
      have d0 : wr.cell? ⟨b, o, none⟩ = some (.slice a n c) := (World.cell?_of_block (a := ⟨b, o, none⟩) (HU.out.upd.block b hbl2 HXB.out)).trans e0
      have d1 : wr.cell? ⟨qi, 0, none⟩ = some (.func (.func 110) #[] capsI) := (hbw.atc 0 hil (by omega)).trans H2.out
      obtain ⟨lb, lo, rfl, hNb, hlb, hcs⟩ := HIT2.out (by omega)
      have hit := HK.out _ _ _ _ _ _ _ HU.out.keep (hcs i hil')
      have HMo := hid (eL_more en l i hil')
      have hle := eL_le en l (i + 1)
      rw [eL_more en l i hil', List.length_append] at hle
      have hokx := HL.out _ (List.getElem_mem hil')
      generalize l[i] = x at hit HMo hle hokx
      have HIt := hid hit
      have hlen := HLEN.out
      have kw := hid (fun wx (e : wx.heap = wr.heap) (hx' : Below wr.heap.size wr wx) => HI.out.2 wx lb (lo + i * 5) x u0 (xs ++ enc l.length ++ ((l.take i).map en).flatten) (hbw.trans (Upd.of_below hx') (fun _ _ h => h)) (HUW.out.low HC.out.size HV.out) (HK.out _ _ _ _ _ _ _ (Keep.below hx') HIt.out) hokx (own_below HI2.out hx') (by rw [List.length_append, List.length_append]; omega))
      have hbr : b < wr.heap.size := Nat.lt_of_lt_of_le hbl2 HU.out.upd.size
      have hqr : qi < wr.heap.size := Nat.lt_of_lt_of_le hil hbw.size
      have HNQ : Hid (u0.ownBlock ≠ some qi ∧ u0.ownBlock ≠ some b) := hid ⟨fun e => by have := HUW.out.low HC.out.size HV.out qi e; omega, (HU.out.keep.2 b HXB.out hbl2).1⟩
      clear hcs hle hil' hit hbw hlen
      go_wp2_with fail
      go_region_held3 (fun wx => wx.cell? ⟨b, o, none⟩ = some (.slice (some ⟨lb, lo, none⟩) n c) ∧ wx.cell? ⟨qi, 0, none⟩ = some (.func (.func 110) #[] capsI)) (go_keep)
        ((go_at_call 110; refine (kw.out _ (by rfl) (below_hp (Below.refl _ wr) (by rfl) (by rfl) (by rfl) (by rfl))).mono ?_; rintro e w3 ⟨v', rfl, hO3, hU3, hF3⟩; have HU3 : Hid (Upd (fun k => u0.ownBlock = some k) wr w3) := hid ((Upd.of_below (below_hp (Below.refl _ wr) (by rfl) (by rfl) (by rfl) (by rfl))).trans hU3 (fun _ _ h => h)); have z0 : w3.cell? ⟨b, o, none⟩ = some (.slice (some ⟨lb, lo, none⟩) n c) := (World.cell?_of_block (a := ⟨b, o, none⟩) (HU3.out.block b hbr HNQ.out.2)).trans d0; have z1 : w3.cell? ⟨qi, 0, none⟩ = some (.func (.func 110) #[] capsI) := (World.cell?_of_block (a := ⟨qi, 0, none⟩) (HU3.out.block qi hqr HNQ.out.1)).trans d1; have HO3 := hid hO3; have HF3 : Hid (v'.ownBlock = u0.ownBlock ∨ ∀ g, v'.ownBlock = some g → wr.heap.size ≤ g) := hid hF3; clear hO3 hU3 hF3))
      have HO4 : Hid (Ob w3 v' (xs ++ enc l.length ++ ((l.take (i + 1)).map en).flatten)) := hid (by rw [HMo.out, ← List.append_assoc]; exact HO3.out)
      have HU4 : Hid (Ow w2 w3 v2 v') := hid (HU.out.trans ⟨HU3.out, HF3.out⟩)
      clear HO3 HU3 HF3 kw
      go_wp2_with fail
      go_roundw
      case rel => exact ⟨i + 1, by omega, by go_num, HO4, HU4⟩
      case measure => simp [intOf]; omega
    · obtain rfl : i = n := by omega
      have HI3 : Hid (Ob wr u0 (xs ++ (enc l.length ++ (l.map en).flatten))) := hid (by have := HI2.out; rw [← HLN.out, List.take_length, List.append_assoc] at this; exact this)
      have HUW := hid (HU2.out.trans HU.out)
      go_wp2_with fail
      go_ret
      exact ⟨u0, rfl, HI3.out, HUW.out.upd, HUW.out.fr⟩

set_option maxHeartbeats 4000000 in
theorem list_w {α : Type} (B : Nat) (wc : World) (qc qi : Nat) (hcB : B ≤ qc) (hiB : B ≤ qi) (capsC capsI : Array Value) (At : (Nat → Prop) → World → Nat → Nat → α → Prop) (en : α → List Int) (ok : α → Prop)
    (h1 : wc.cell? ⟨qc, 0, none⟩ = some (.func (.func 65) #[] capsC)) (hcl : qc < wc.heap.size) (h2 : wc.cell? ⟨qi, 0, none⟩ = some (.func (.func 120) #[] capsI)) (hil : qi < wc.heap.size)
    (hC : Wr B wc InAt (eN 0) okI 65 capsC) (hI : Wr B wc At en ok 120 capsI) (hk : ∀ N N' W W' b o x, Keep N N' W W' → At N W b o x → At N' W' b o x) :
    Wr B wc (LsAt 2 At) (eL en) (okL ok) 91 #[.pointer (some ⟨qc, 0, none⟩), .pointer (some ⟨qi, 0, none⟩)] := by
  refine ⟨fun args w => by kernel_rfl, fun W b o l v xs hWc hv hx hok hO hlen => ?_⟩
  show Calls Tryz.prog 91 #[v, .pointer (some ⟨b, o, none⟩), .pointer (some ⟨qc, 0, none⟩), .pointer (some ⟨qi, 0, none⟩)] W _
  have c1 := (hWc.atc 0 hcl (by omega)).trans h1
  have hqcW : qc < W.heap.size := Nat.lt_of_lt_of_le hcl hWc.size
  have hqiW : qi < W.heap.size := Nat.lt_of_lt_of_le hil hWc.size
  have HX := hid hx
  obtain ⟨hxb, hbl, a, n, c, c0, hln, hnc, hcb, hitems⟩ := hx
  obtain ⟨hl1, hl2⟩ := hok
  have hn : n ≤ 1048576 := by omega
  unfold eL at hlen ⊢
  rw [List.length_append] at hlen
  have hgo1 := hC.1
  have hgo2 := hI.1
  have kc := hid (fun o' => hC.2 (W.alloc (.cells #[.int .i64 (n : Int)] o')) W.heap.size 0 (n : Int) v xs (hWc.trans (Upd.alloc _ _ _) (fun _ _ h => h)) hv ⟨fun e => by have := hO.lt _ e; omega, by simp, by simp⟩ ⟨by omega, by omega⟩ (own_below hO ((Below.refl _ _).alloc (Nat.le_refl _) _)) (by show _ + (enc ((n : Int) + 0).toNat).length ≤ _; rw [Int.add_zero, Int.toNat_natCast, ← hln]; omega))
  have HEN : Hid (eN 0 (n : Int) = enc l.length) := hid (by show enc ((n : Int) + 0).toNat = _; rw [Int.add_zero, Int.toNat_natCast, hln])
  have HO := hid hO
  have HV := hid hv
  have HC := hid hWc
  have HI := hid hI
  have HK := hid hk
  have HL := hid hl2
  have HLN := hid hln
  have HIT := hid hitems
  have H2 := hid h2
  have HLEN := hid hlen
  clear hO hv hWc hC hI hk hl2 hl1 hln hitems h1 h2 hlen hxb
  go_enter Tryz.func91, Tryz.ntmps91
  go_wp2_with fail
  refine (kc.out _).mono ?_
  rintro e w2 ⟨v2, rfl, hO2, hU2, hF2⟩
  rw [HEN.out] at hO2
  have HO2 := hid hO2
  have HU2 : Hid (Ow W w2 v v2) := hid ((Ow.refl W v).below ((Below.refl _ _).alloc (Nat.le_refl _) _) |>.trans ⟨hU2, hF2⟩)
  have hLs2 : LsAt 2 At (fun k => v2.ownBlock ≠ some k) w2 b o l := HX.out.keep (fun _ _ _ h => HK.out _ _ _ _ _ _ _ HU2.out.keep h) HU2.out.keep
  clear hO2 hU2 hF2 kc c1 hgo1
  obtain ⟨hxb2, hbl2, a', n', c', c2, hln2, hnc2, hcb2, hit2⟩ := hLs2
  have e0 : w2.cell? ⟨b, o, none⟩ = some (.slice a n c) := (World.cell?_of_block (a := ⟨b, o, none⟩) (HU2.out.upd.block b hbl (by have := HX.out.1; exact this))).trans c0
  rw [e0] at c2
  obtain ⟨rfl, rfl, rfl⟩ : a = a' ∧ n = n' ∧ c = c' := by simpa using c2
  have HIT2 := hid hit2
  clear hit2 c2 HIT hln2 hnc2 hcb2 c0
  have HXB := hid hxb2
  clear hxb2
  go_wp2_with fail
  go_loopw [0, 21] (fun vv k wr => ∃ i : Nat, i ≤ n ∧ k = .int .i64 i ∧ Hid (Ob wr vv (xs ++ enc l.length ++ ((l.take i).map en).flatten)) ∧ Hid (Ow w2 wr v2 vv)) (fun _ k _ => n - (intOf k).toNat)
  case atStart => exact ⟨0, Nat.zero_le _, rfl, hid (by simpa using HO2.out), hid (Ow.refl _ _)⟩
  case round =>
    obtain ⟨i, hi, rfl, HI2, HU⟩ := hrel
    by_cases hlt : i < n
    · have hil' : i < l.length := by rw [HLN.out]; exact hlt
      have HUW := hid (HU2.out.trans HU.out)
      have hbw : Upd (fun k => k < B) wc wr := HUW.out.wc HC.out HV.out
      have d0 : wr.cell? ⟨b, o, none⟩ = some (.slice a n c) := (World.cell?_of_block (a := ⟨b, o, none⟩) (HU.out.upd.block b hbl2 HXB.out)).trans e0
      have d1 : wr.cell? ⟨qi, 0, none⟩ = some (.func (.func 120) #[] capsI) := (hbw.atc 0 hil (by omega)).trans H2.out
      obtain ⟨lb, lo, rfl, hNb, hlb, hcs⟩ := HIT2.out (by omega)
      have hit := HK.out _ _ _ _ _ _ _ HU.out.keep (hcs i hil')
      have HMo := hid (eL_more en l i hil')
      have hle := eL_le en l (i + 1)
      rw [eL_more en l i hil', List.length_append] at hle
      have hokx := HL.out _ (List.getElem_mem hil')
      generalize l[i] = x at hit HMo hle hokx
      have HIt := hid hit
      have hlen := HLEN.out
      have kw := hid (fun wx (e : wx.heap = wr.heap) (hx' : Below wr.heap.size wr wx) => HI.out.2 wx lb (lo + i * 2) x u0 (xs ++ enc l.length ++ ((l.take i).map en).flatten) (hbw.trans (Upd.of_below hx') (fun _ _ h => h)) (HUW.out.low HC.out.size HV.out) (HK.out _ _ _ _ _ _ _ (Keep.below hx') HIt.out) hokx (own_below HI2.out hx') (by rw [List.length_append, List.length_append]; omega))
      have hbr : b < wr.heap.size := Nat.lt_of_lt_of_le hbl2 HU.out.upd.size
      have hqr : qi < wr.heap.size := Nat.lt_of_lt_of_le hil hbw.size
      have HNQ : Hid (u0.ownBlock ≠ some qi ∧ u0.ownBlock ≠ some b) := hid ⟨fun e => by have := HUW.out.low HC.out.size HV.out qi e; omega, (HU.out.keep.2 b HXB.out hbl2).1⟩
      clear hcs hle hil' hit hbw hlen
      go_wp2_with fail
      go_region_held3 (fun wx => wx.cell? ⟨b, o, none⟩ = some (.slice (some ⟨lb, lo, none⟩) n c) ∧ wx.cell? ⟨qi, 0, none⟩ = some (.func (.func 120) #[] capsI)) (go_keep)
        ((go_at_call 120; refine (kw.out _ (by rfl) (below_hp (Below.refl _ wr) (by rfl) (by rfl) (by rfl) (by rfl))).mono ?_; rintro e w3 ⟨v', rfl, hO3, hU3, hF3⟩; have HU3 : Hid (Upd (fun k => u0.ownBlock = some k) wr w3) := hid ((Upd.of_below (below_hp (Below.refl _ wr) (by rfl) (by rfl) (by rfl) (by rfl))).trans hU3 (fun _ _ h => h)); have z0 : w3.cell? ⟨b, o, none⟩ = some (.slice (some ⟨lb, lo, none⟩) n c) := (World.cell?_of_block (a := ⟨b, o, none⟩) (HU3.out.block b hbr HNQ.out.2)).trans d0; have z1 : w3.cell? ⟨qi, 0, none⟩ = some (.func (.func 120) #[] capsI) := (World.cell?_of_block (a := ⟨qi, 0, none⟩) (HU3.out.block qi hqr HNQ.out.1)).trans d1; have HO3 := hid hO3; have HF3 : Hid (v'.ownBlock = u0.ownBlock ∨ ∀ g, v'.ownBlock = some g → wr.heap.size ≤ g) := hid hF3; clear hO3 hU3 hF3))
      have HO4 : Hid (Ob w3 v' (xs ++ enc l.length ++ ((l.take (i + 1)).map en).flatten)) := hid (by rw [HMo.out, ← List.append_assoc]; exact HO3.out)
      have HU4 : Hid (Ow w2 w3 v2 v') := hid (HU.out.trans ⟨HU3.out, HF3.out⟩)
      clear HO3 HU3 HF3 kw
      go_wp2_with fail
      go_roundw
      case rel => exact ⟨i + 1, by omega, by go_num, HO4, HU4⟩
      case measure => simp [intOf]; omega
    · obtain rfl : i = n := by omega
      have HI3 : Hid (Ob wr u0 (xs ++ (enc l.length ++ (l.map en).flatten))) := hid (by have := HI2.out; rw [← HLN.out, List.take_length, List.append_assoc] at this; exact this)
      have HUW := hid (HU2.out.trans HU.out)
      go_wp2_with fail
      go_ret
      exact ⟨u0, rfl, HI3.out, HUW.out.upd, HUW.out.fr⟩

end Go.Proofs.YtpbhcmfbcnihiaaGreat
