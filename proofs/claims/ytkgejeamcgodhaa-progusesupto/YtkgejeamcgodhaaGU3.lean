/- The walk over arguments whose types are not known, with the visitor that keeps their references. -/
import Derived.Test.YtkgejeamcgodhaaGU2
import Derived.Test.YtkgejeamcgodhaaGSame
import Derived.Deep.RegionHeld3
namespace Go.Proofs.Ytkgejeamcgodhaa
open Go.RowKit
set_option linter.unusedVariables false
set_option maxRecDepth 20000

theorem not_ch {W : World} {p x n : Nat} {kv : Value} {xs : List Value} (h : W.ownsRow (p + 1) 3 1 kv n xs) (hx : x < p) : ¬ Ch p kv x := fun hc => by
  rcases hc with e | e
  · omega
  · have := (own_at h e.symm).1; omega
theorem uses1_go (args : Array Value) (w : World) : (callFunc 51 args).run Try.prog w = .ok (.enter 51 args) w := by kernel_rfl

set_option maxHeartbeats 16000000 in
theorem through0 (w0 : World) (p : Nat) (hp : w0.heap.size ≤ p) : ∀ (d : Nat) (ra : Option Addr) (rn rc : Nat) (qs : List Ar) (W : World) (kv : Value) (zs : List Int), Below w0.heap.size w0 W → Acc W p kv zs → Krow d w0 ra qs → qs.length = rn → rn ≤ rc → rc ≤ 9223372036854775807 → zs.length + cntL d qs ≤ 17592186044415 →
    Calls Try.prog 50 #[.agg #[.slice none 0 0, .slice none 0 0], .agg #[.slice ra rn rc, .slice none 0 0, .slice none 0 0], .func (.func 51) #[] #[.pointer (some ⟨p, 0, none⟩)]] W fun e W' => e = .returned (.tuple #[]) ∧ ∃ kv', Acc W' p kv' (zs ++ refsL d qs) ∧ Upd (Ch p kv) W W' ∧ Later W kv kv' := by
  intro d
  induction d with
  | zero =>
    intro ra rn rc qs W kv zs hW hA hK hrn hrc hrb hsz
    have h0 : qs.length = 0 := by
      rcases Nat.eq_zero_or_pos qs.length with h | h
      · exact h
      · obtain ⟨_, _, _, _, hc⟩ := hK h
        exact (hc 0 h).2.elim
    obtain rfl : qs = [] := List.eq_nil_of_length_eq_zero h0
    obtain rfl : rn = 0 := hrn.symm
    have HA := hid hA
    clear hA hK hW
    go_enter Try.func50, Try.ntmps50
    go_wp2_with fail
    go_loop [11] (fun k => k = .int .i64 0) (fun _ => 0)
    case atStart => rfl
    case round =>
      subst hrel
      go_wp2_with fail
      go_end0
      exact ⟨rfl, kv, by simpa [refsL] using HA.out.below (below_box2 W _ _), Upd.of_below (below_box2 _ _ _), Later.refl _ _⟩
  | succ d ih =>
    intro ra rn rc qs W kv zs hW hA hK hrn hrc hrb hsz
    have hpW : p < W.heap.size := (Array.getElem?_eq_some_iff.1 hA.blk).1
    have HW := hid hW
    have HA := hid hA
    have HK := hid hK
    have HN := hid hrn
    have IH := hid ih
    clear hA hK hW ih hrn
    go_enter Try.func50, Try.ntmps50
    go_wp2_with fail
    obtain ⟨X, gX⟩ : ∃ X, X = (W.alloc (.cells #[.slice none 0 0, .slice none 0 0] 25)).alloc (.cells #[.slice ra rn rc, .slice none 0 0, .slice none 0 0] 58) := ⟨_, rfl⟩
    rw [← gX]
    have hXB : Below W.heap.size W X := by rw [gX]; exact below_box2 _ _ _
    have hXs : X.heap.size = W.heap.size + 1 + 1 := by rw [gX]; simp
    have x30 : X.heap[W.heap.size]? = some (.cells #[.slice none 0 0, .slice none 0 0] 25 (0, 0)) := by
      rw [gX, (below_box _ _).block _ (by simp)]; exact heap_alloc_new _ _
    have x40 : X.heap[W.heap.size + 1]? = some (.cells #[.slice ra rn rc, .slice none 0 0, .slice none 0 0] 58 (0, 0)) := by
      rw [gX]; have := heap_alloc_new (W.alloc (.cells #[.slice none 0 0, .slice none 0 0] 25)) (.cells #[.slice ra rn rc, .slice none 0 0, .slice none 0 0] 58); simpa using this
    have HXB := hid hXB
    have HXs := hid hXs
    have HX3 := hid x30
    have HX4 := hid x40
    clear gX hXB hXs x30 x40
    go_loopw [11] (fun k wr => ∃ (i : Nat) (ki : Value), i ≤ rn ∧ k = .int .i64 i ∧ Hid (Acc wr p ki (zs ++ refsL (d + 1) (qs.take i))) ∧ Hid (Upd (Ch p kv) X wr) ∧ Hid (Later X kv ki)) (fun k _ => rn - (intOf k).toNat)
    case atStart => exact ⟨0, kv, Nat.zero_le _, rfl, hid (by simpa [refsL] using HA.out.below HXB.out), hid (Upd.refl _ _), hid (Later.refl _ _)⟩
    case round =>
      obtain ⟨i, ki, hi, rfl, HI, HUX, HLX⟩ := hrel
      have hWs := HXs.out
      have hcK : ∀ x, W.heap.size ≤ x → ¬ Ch p kv x := fun x hx hc => by
        rcases hc with e | e
        · omega
        · have := (own_at HA.out.own e.symm).2; omega
      by_cases hlt : i < rn
      · have hil : i < qs.length := by rw [HN.out]; exact hlt
        obtain ⟨b, o, rfl, hbl, hcs⟩ := HK.out (by omega)
        have hAt0 := (hcs i hil).1
        have hOk := (hcs i hil).2
        have hRM := refsL_more (d + 1) qs i hil
        have hCM := cntL_more (d + 1) qs i hil
        have hCL := cntL_le (d + 1) qs (i + 1)
        have hRL := refsL_le (d + 1) (qs.take i)
        generalize qs[i] = A at *
        have UW : Hid (Upd (Ch p kv) W wr) := hid ((Upd.of_below HXB.out).trans HUX.out (fun _ _ h => h))
        have hkey : ∀ Z : World, Upd (Ch p kv) W Z → Below w0.heap.size w0 Z := fun Z u => HW.out.trans (u.below HW.out.size (fun x hx => by
          rcases hx with e | e
          · omega
          · have := (own_at HA.out.own e.symm).1; omega))
        have HKey := hid hkey
        have hsw := UW.out.size
        have hsx := HUX.out.size
        have kat := hid (at_none b o i rn rc wr hlt hrc hrb)
        have y3 := HUX.out.heap HX3.out (hcK _ (Nat.le_refl _))
        have y4 := HUX.out.heap HX4.out (hcK _ (by omega))
        have t0 : wr.cell? ⟨W.heap.size, 0, none⟩ = some (.slice none 0 0) := cell_of_row wr _ 0 _ _ _ y3
        have t1 : wr.cell? ⟨W.heap.size, 1, none⟩ = some (.slice none 0 0) := cell_of_row wr _ 1 _ _ _ y3
        have r0 : wr.cell? ⟨W.heap.size + 1, 0, none⟩ = some (.slice (some ⟨b, o, none⟩) rn rc) := cell_of_row wr _ 0 _ _ _ y4
        have r1 : wr.cell? ⟨W.heap.size + 1, 1, none⟩ = some (.slice none 0 0) := cell_of_row wr _ 1 _ _ _ y4
        have r2 : wr.cell? ⟨W.heap.size + 1, 2, none⟩ = some (.slice none 0 0) := cell_of_row wr _ 2 _ _ _ y4
        have HY3 := hid y3
        have HAt0 := hid hAt0
        have HOk := hid hOk
        have HRM := hid hRM
        have hrl : (zs ++ refsL (d + 1) (qs.take i)).length + 1 ≤ 17592186044416 := by
          have h1 : 1 ≤ cntA (d + 1) A := by simp [cntA]
          simp only [List.length_append]
          omega
        have hbig : (zs ++ refsL (d + 1) (qs.take i)).length + cntA (d + 1) A ≤ 17592186044415 := by
          simp only [List.length_append]
          omega
        have HBig := hid hbig
        clear y3 y4 hcs hAt0 hOk hkey hRM hCM hCL hRL
        generalize hS : zs ++ refsL (d + 1) (qs.take i) = S at *
        have HS := hid hS
        clear hS hbig
        go_wp2_with fail
        refine kat.out.mono ?_
        rintro e w1 ⟨rfl, hb1⟩
        have hs1 : wr.heap.size ≤ w1.heap.size := hb1.size
        obtain ⟨V, gV⟩ : ∃ V, w1.alloc (.cells (spZ b (o + i * 4) (some ⟨b, o, none⟩) rn rc).toArray 81) = V := ⟨_, rfl⟩
        have hbV : Below wr.heap.size wr V := by rw [← gV]; exact hb1.trans ((below_box w1 _).mono hs1)
        have hsV : V.heap.size = w1.heap.size + 1 := by rw [← gV]; simp
        have uV : Upd (Ch p kv) W V := UW.out.trans (Upd.of_below (F := Ch p kv) hbV) (fun _ _ h => h)
        have v7 : V.heap[w1.heap.size]? = some (.cells (spZ b (o + i * 4) (some ⟨b, o, none⟩) rn rc).toArray 81 (0, 0)) := by rw [← gV]; exact heap_alloc_new _ _
        have hbw0 := HKey.out V uV
        have hown : ∀ x, x < p → some x ≠ ki.ownBlock := fun x hx e => by have := (own_at HI.out.own e.symm).1; omega
        have kvs := hid (uses1_any V p ki S b (o + i * 4) A.h (some ⟨b, o, none⟩) rn rc (HI.out.below hbV) (Nat.lt_of_lt_of_le hbl hbw0.size) (by omega) (hown b (by omega)) (HAt0.out.blk (hbw0.block b hbl)) hrl)
        have hgo := uses1_go
        have HRV := hid (rangeAt_block v7)
        have GV : Hid (w1.alloc (.cells #[.pointer (some ⟨b, o + i * 4, none⟩), .int .i64 (-1), .int .i64 0, .int .i64 0, .int .i64 0, .int .i64 0, .int .i64 0, .string .empty, .slice none 0 0, .slice none 0 0, .slice none 0 0, .slice none 0 0, .slice (some ⟨b, o, none⟩) rn rc, .slice none 0 0, .slice none 0 0] 81) = V) := hid gV
        have HV7 := hid v7
        have HBV := hid hbV
        have HUV := hid uV
        have HSV := hid hsV
        clear hb1 kat t0 t1 r0 r1 r2 gV v7 hbV uV hbw0 hown hsV
        unfold spZ
        go_wp2_with fail
        rw [GV.out]
        refine kvs.out.mono ?_
        rintro e w2 ⟨rfl, k2, hA2, hu2, hl2⟩
        have hsV := HSV.out
        have hs2 := hu2.size
        have hb2s := HBV.out.size
        have hki : ∀ g, ki.ownBlock = some g → g < W.heap.size ∨ X.heap.size ≤ g := fun g hg => by
          rcases HLX.out g hg with e | e
          · exact .inl (own_at HA.out.own e).2
          · exact .inr e
        have hkr : ∀ g, ki.ownBlock = some g → g < wr.heap.size := fun g hg => (own_at HI.out.own hg).2
        have hc1 : ¬ Ch p ki W.heap.size := fun hc => by
          rcases hc with e | e
          · omega
          · rcases hki _ e.symm with e' | e' <;> omega
        have hc2 : ¬ Ch p ki w1.heap.size := fun hc => by
          rcases hc with e | e
          · omega
          · have := hkr _ e.symm; omega
        have hd1 : ¬ Ch p k2 W.heap.size := fun hc => by
          rcases hc with e | e
          · omega
          · rcases hl2 _ e.symm with e' | e'
            · exact hc1 (.inr e'.symm)
            · omega
        have hd2 : ¬ Ch p k2 w1.heap.size := fun hc => by
          rcases hc with e | e
          · omega
          · rcases hl2 _ e.symm with e' | e'
            · exact hc2 (.inr e'.symm)
            · omega
        have ht2 : w2.heap[W.heap.size]? = some (.cells #[.slice none 0 0, .slice none 0 0] 25 (0, 0)) := (hu2.block _ (by omega) hc1).trans ((HBV.out.block _ (by omega)).trans HY3.out)
        have hq2 : w2.heap[w1.heap.size]? = some (.cells (spZ b (o + i * 4) (some ⟨b, o, none⟩) rn rc).toArray 81 (0, 0)) := (hu2.block _ (by omega) hc2).trans HV7.out
        have hLV : Later W kv ki := fun g hg => by
          rcases HLX.out g hg with e | e
          · exact .inl e
          · exact .inr (by omega)
        have hU2 : Upd (Ch p kv) W w2 := Ch.trans HUV.out hLV hu2
        have hL2 : Later W kv k2 := hLV.trans hl2 (by omega)
        have hU2X : Upd (Ch p kv) X w2 := Ch.trans (HUX.out.trans (Upd.of_below (F := Ch p kv) HBV.out) (fun _ _ h => h)) HLX.out hu2
        have hL2X : Later X kv k2 := HLX.out.trans hl2 (by omega)
        have HB2 : Hid (Below w0.heap.size w0 w2) := hid (HKey.out w2 hU2)
        obtain ⟨ho1, ho2, ho3⟩ := HOk.out
        have hkm := ho1.km
        have hkb := ho1.kb
        have HO2 := hid ho2
        have HO3 : Hid (Krow d w0 A.h.ka A.ks) := hid ho3
        have hbs2 : (S ++ if A.h.k = 2 then [A.h.v] else []).length + cntL d A.ks ≤ 17592186044415 := by
          have h1 := HBig.out
          have h2 : (if A.h.k = 2 then [A.h.v] else []).length ≤ 1 := by split <;> simp
          simp only [cntA] at h1
          simp only [List.length_append, cntL]
          omega
        have HBS := hid hbs2
        have HR1 : Hid (refsA (d + 1) A = (if A.h.k = 2 then [A.h.v] else []) ++ refsL d A.ks) := hid rfl
        have kk := hid (fun wx (hx : Below w2.heap.size w2 wx) => kids_none b (o + i * 4) A.h (some ⟨b, o, none⟩) rn rc wx (Nat.lt_of_lt_of_le hbl (HB2.out.trans (hx.mono HB2.out.size)).size) (HAt0.out.blk ((HB2.out.trans (hx.mono HB2.out.size)).block b hbl)))
        unfold spZ at kk
        have HA2 := hid hA2
        have HU2X := hid hU2X
        have HL2X := hid hL2X
        have HD1 := hid hd1
        have HD2 := hid hd2
        have hw2a : W.heap.size < w2.heap.size := by omega
        have hw2b : w1.heap.size < w2.heap.size := by omega
        have z00 : w2.cell? ⟨W.heap.size, 0, none⟩ = some (.slice none 0 0) := cell_of_row w2 _ 0 _ _ _ ht2
        have z01 : w2.cell? ⟨W.heap.size, 1, none⟩ = some (.slice none 0 0) := cell_of_row w2 _ 1 _ _ _ ht2
        have z0 : w2.cell? ⟨w1.heap.size, 0, none⟩ = some (.pointer (some ⟨b, o + i * 4, none⟩)) := cell_of_row w2 _ 0 _ _ _ hq2
        have z1 : w2.cell? ⟨w1.heap.size, 1, none⟩ = some (.int .i64 (-1)) := cell_of_row w2 _ 1 _ _ _ hq2
        have z2 : w2.cell? ⟨w1.heap.size, 2, none⟩ = some (.int .i64 0) := cell_of_row w2 _ 2 _ _ _ hq2
        have z3 : w2.cell? ⟨w1.heap.size, 3, none⟩ = some (.int .i64 0) := cell_of_row w2 _ 3 _ _ _ hq2
        have z4 : w2.cell? ⟨w1.heap.size, 4, none⟩ = some (.int .i64 0) := cell_of_row w2 _ 4 _ _ _ hq2
        have z5 : w2.cell? ⟨w1.heap.size, 5, none⟩ = some (.int .i64 0) := cell_of_row w2 _ 5 _ _ _ hq2
        have z6 : w2.cell? ⟨w1.heap.size, 6, none⟩ = some (.int .i64 0) := cell_of_row w2 _ 6 _ _ _ hq2
        have z7 : w2.cell? ⟨w1.heap.size, 7, none⟩ = some (.string .empty) := cell_of_row w2 _ 7 _ _ _ hq2
        have z8 : w2.cell? ⟨w1.heap.size, 8, none⟩ = some (.slice none 0 0) := cell_of_row w2 _ 8 _ _ _ hq2
        have z9 : w2.cell? ⟨w1.heap.size, 9, none⟩ = some (.slice none 0 0) := cell_of_row w2 _ 9 _ _ _ hq2
        have z10 : w2.cell? ⟨w1.heap.size, 10, none⟩ = some (.slice none 0 0) := cell_of_row w2 _ 10 _ _ _ hq2
        have z11 : w2.cell? ⟨w1.heap.size, 11, none⟩ = some (.slice none 0 0) := cell_of_row w2 _ 11 _ _ _ hq2
        have z12 : w2.cell? ⟨w1.heap.size, 12, none⟩ = some (.slice (some ⟨b, o, none⟩) rn rc) := cell_of_row w2 _ 12 _ _ _ hq2
        have z13 : w2.cell? ⟨w1.heap.size, 13, none⟩ = some (.slice none 0 0) := cell_of_row w2 _ 13 _ _ _ hq2
        have z14 : w2.cell? ⟨w1.heap.size, 14, none⟩ = some (.slice none 0 0) := cell_of_row w2 _ 14 _ _ _ hq2
        clear hA2 hu2 hl2 hki hkr hc1 hc2 hd1 hd2 ht2 hq2 hLV hU2 hL2 hU2X hL2X ho1 ho2 ho3 hbs2 kvs hgo
        generalize hS2 : (S ++ if A.h.k = 2 then [A.h.v] else []) = S2 at *
        have HS2 := hid hS2
        clear hS2
        go_wp2_with fail
        go_region_held3 (fun wx => wx.cell? ⟨W.heap.size, 0, none⟩ = some (.slice none 0 0) ∧ wx.cell? ⟨W.heap.size, 1, none⟩ = some (.slice none 0 0) ∧ wx.cell? ⟨w1.heap.size, 0, none⟩ = some (.pointer (some ⟨b, o + i * 4, none⟩)) ∧ wx.cell? ⟨w1.heap.size, 1, none⟩ = some (.int .i64 (-1)) ∧ wx.cell? ⟨w1.heap.size, 2, none⟩ = some (.int .i64 0) ∧ wx.cell? ⟨w1.heap.size, 3, none⟩ = some (.int .i64 0) ∧ wx.cell? ⟨w1.heap.size, 4, none⟩ = some (.int .i64 0) ∧ wx.cell? ⟨w1.heap.size, 5, none⟩ = some (.int .i64 0) ∧ wx.cell? ⟨w1.heap.size, 6, none⟩ = some (.int .i64 0) ∧ wx.cell? ⟨w1.heap.size, 7, none⟩ = some (.string .empty) ∧ wx.cell? ⟨w1.heap.size, 8, none⟩ = some (.slice none 0 0) ∧ wx.cell? ⟨w1.heap.size, 9, none⟩ = some (.slice none 0 0) ∧ wx.cell? ⟨w1.heap.size, 10, none⟩ = some (.slice none 0 0) ∧ wx.cell? ⟨w1.heap.size, 11, none⟩ = some (.slice none 0 0) ∧ wx.cell? ⟨w1.heap.size, 12, none⟩ = some (.slice (some ⟨b, o, none⟩) rn rc) ∧ wx.cell? ⟨w1.heap.size, 13, none⟩ = some (.slice none 0 0) ∧ wx.cell? ⟨w1.heap.size, 14, none⟩ = some (.slice none 0 0)) (go_keep) (first
          | (go_at_call 80; refine (kk.out _ (below_hp (Below.refl _ w2) (by rfl) (by rfl) (by rfl) (by rfl))).mono ?_; rintro e w3 ⟨rfl, hb3⟩; have hb3' : Below w2.heap.size w2 w3 := (below_hp (Below.refl _ w2) (by rfl) (by rfl) (by rfl) (by rfl)).trans hb3; have HB3 := hid hb3'; have y3 : ∀ o, w3.cell? ⟨W.heap.size, o, none⟩ = w2.cell? ⟨W.heap.size, o, none⟩ := (fun o => HB3.out.cell (p := ⟨W.heap.size, o, none⟩) hw2a); have y4 : ∀ o, w3.cell? ⟨w1.heap.size, o, none⟩ = w2.cell? ⟨w1.heap.size, o, none⟩ := (fun o => HB3.out.cell (p := ⟨w1.heap.size, o, none⟩) hw2b); have hs23 : w2.heap.size ≤ w3.heap.size := HB3.out.size; have kr := hid (fun wx (hx : Below w3.heap.size w3 wx) => IH.out A.h.ka A.h.kn A.h.kc A.ks wx k2 S2 (HB2.out.trans ((HB3.out.trans (hx.mono HB3.out.size)).mono HB2.out.size)) (HA2.out.below (HB3.out.trans (hx.mono HB3.out.size))) HO3.out HO2.out hkm hkb HBS.out); clear hb3 hb3')
          | (go_at_call 50; refine (kr.out _ (below_hp (Below.refl _ w3) (by rfl) (by rfl) (by rfl) (by rfl))).mono ?_; rintro e w4 ⟨rfl, k4, hA4, hu4, hl4⟩; have y5 : ∀ o, w4.cell? ⟨W.heap.size, o, none⟩ = w2.cell? ⟨W.heap.size, o, none⟩ := (fun o => (World.cell?_of_block (a := ⟨W.heap.size, o, none⟩) (hu4.block W.heap.size (Nat.lt_of_lt_of_le hw2a hs23) HD1.out)).trans (y3 o)); have y6 : ∀ o, w4.cell? ⟨w1.heap.size, o, none⟩ = w2.cell? ⟨w1.heap.size, o, none⟩ := (fun o => (World.cell?_of_block (a := ⟨w1.heap.size, o, none⟩) (hu4.block w1.heap.size (Nat.lt_of_lt_of_le hw2b hs23) HD2.out)).trans (y4 o)); have HA4 := hid hA4; have HU4 : Hid (Upd (Ch p k2) w2 w4) := hid ((Upd.of_below (F := Ch p k2) (below_hp (b := World.mk _ _ _ _ _) HB3.out rfl rfl rfl rfl)).trans hu4 (fun _ _ h => h)); have HL4 : Hid (Later w3 k2 k4) := hid hl4; clear hA4 hu4 hl4))
        have HUF := hid (Ch.trans HU2X.out HL2X.out HU4.out)
        have HLF := hid (HL2X.out.trans HL4.out (by have := HU2X.out.size; omega))
        go_wp2_with fail
        go_roundw
        case rel => exact ⟨i + 1, k4, by omega, by go_num, hid (by rw [HRM.out, HR1.out, ← List.append_assoc, ← List.append_assoc, HS.out, HS2.out]; exact HA4.out), HUF, HLF⟩
        case measure => simp [intOf]; omega
      · obtain rfl : i = rn := by omega
        go_wp2_with fail
        go_end0
        refine ⟨rfl, ki, ?_, (Upd.of_below HXB.out).trans HUX.out (fun _ _ h => h), fun g hg => ?_⟩
        · have := HI.out
          rw [List.take_of_length_le (by rw [HN.out]; exact Nat.le_refl _)] at this
          exact this
        · rcases HLX.out g hg with e | e
          · exact .inl e
          · exact .inr (by omega)

end Go.Proofs.Ytkgejeamcgodhaa
