/- Texts of this seat, merged. -/
import Derived.Test.YtoknhcjneliboaaGreatFMg34
import Derived.Deep.RegionHeld3
import Derived.Deep.DeepCutAuto
import Derived.Deep.CutBlock

/- What the files' 'does' does: cases 3, 4 (written by gen_tdo.py). -/
namespace Go.Proofs.YtoknhcjneliboaaGreat
open Go.RowKit Go.ChangeMaps Go.MapKept
set_option linter.unusedVariables false
set_option maxRecDepth 20000

set_option maxHeartbeats 8000000 in
theorem dof_3 (pp t x B : Nat) (G D : Nat → Prop) (T : Ft) (m : Int) (x0 x1 x2 x3 : Int) (t4 t5 : ByteArray) (ab : Option Addr) (lb cb : Nat) (bz : List Int) (w : World) (H : Pt w B G D pp t x T T) (hT : TOk T) (hL : LB T.F m) (hm : 1 ≤ m ∧ m ≤ 900000)
    (h4 : t4.size ≤ 1048576) (h5 : t5.size ≤ 1048576) (hx3n : -9223372036854775808 ≤ x3) (hx3 : x3 ≤ 9223372036854775807) (hb : Src w ab lb bz) (hbz : ∀ z ∈ bz, 0 ≤ z ∧ z < 256) (hlb : lb ≤ 140737488355328) (hcb : lb ≤ cb) (hbn : ab = none → lb = 0 ∧ cb = 0) (hbB : 0 < lb → ∀ b o, ab = some ⟨b, o, none⟩ → b < B)
    (hq : wrap64 ((IntKind.u64.wrap x0).tmod 12) = 3) :
    Calls Tryz.prog 7 #[.pointer (some ⟨pp, 0, none⟩), .agg #[.int .i64 x0, .int .i64 x1, .int .i64 x2, .int .i64 x3, .string t4, .string t5, .slice ab lb cb]] w (DoF w B pp t x m T) := by
  have hpl := H.lt
  have HB : Hid (B ≤ w.heap.size) := hid (Nat.le_trans H.gp (Nat.le_of_lt hpl))
  have HT := hid hT
  have HL := hid hL
  have HM := hid hm
  have H4 := hid h4
  have H5 := hid h5
  have HX3 := hid (And.intro hx3n hx3)
  have HSB := hid hb
  have HBZ := hid hbz
  have HBB := hid hbB
  have HBN := hid hbn
  have HLC := hid hcb
  have HLL := hid hlb
  have HML : Hid (∀ i, (T.F.P i).l ≤ 1000000) := hid (fun i => Int.le_trans (hL i) (by omega))
  have HQ := hid hq
  have HP := hid H
  have kc : Hid (∀ wx, Below w.heap.size w wx → Calls Tryz.prog 16 #[.slice ab lb cb] wx fun e w' => ∃ (av : Option Addr) (cv : Nat), e = .returned (.slice av lb cv) ∧ w'.ownsRow wx.heap.size 5 1 (.slice av lb cv) lb (bz.map (Value.int .u8)) ∧ Below wx.heap.size wx w') := hid (fun wx hbx => clone_opt ab lb cb bz wx (hb.below hbx) hlb hbn)
  clear H hT hL hm h4 h5 hx3n hx3 hb hbz hlb hcb hbn hbB hq
  go_enter Tryz.func7, Tryz.ntmps7
  go_upto_region 1 with fail
  obtain ⟨W1, gW1⟩ : ∃ W1, W1 = w.alloc (.cells #[.int .i64 x0, .int .i64 x1, .int .i64 x2, .int .i64 x3, .string t4, .string t5, .slice ab lb cb] 32) := ⟨_, rfl⟩
  rw [← gW1]
  have hb1 : Below w.heap.size w W1 := by rw [gW1]; exact (Below.refl _ _).alloc (Nat.le_refl _) _
  have hs1 : w.heap.size < W1.heap.size := by rw [gW1]; simp
  have e0 : W1.cell? ⟨w.heap.size, 0, none⟩ = some (.int .i64 x0) := by rw [gW1]; simp [go_sem]
  have e1 : W1.cell? ⟨w.heap.size, 1, none⟩ = some (.int .i64 x1) := by rw [gW1]; simp [go_sem]
  have e2 : W1.cell? ⟨w.heap.size, 2, none⟩ = some (.int .i64 x2) := by rw [gW1]; simp [go_sem]
  have e3 : W1.cell? ⟨w.heap.size, 3, none⟩ = some (.int .i64 x3) := by rw [gW1]; simp [go_sem]
  have e4 : W1.cell? ⟨w.heap.size, 4, none⟩ = some (.string t4) := by rw [gW1]; simp [go_sem]
  have e5 : W1.cell? ⟨w.heap.size, 5, none⟩ = some (.string t5) := by rw [gW1]; simp [go_sem]
  have e6 : W1.cell? ⟨w.heap.size, 6, none⟩ = some (.slice ab lb cb) := by rw [gW1]; simp [go_sem]
  have HB1 := hid hb1
  clear gW1 hb1
  go_upto_block 0 with (go_at_call 16; refine (kc.out _ HB1.out).mono ?_; rintro e wF ⟨av, cv, rfl, hG, hbF⟩; have f0 := (hbF.cell (p := ⟨w.heap.size, 0, none⟩) hs1).trans e0; have HG := hid hG; have HBF := hid hbF; clear hG hbF)
  rw [HQ.out]
  have hsF : w.heap.size < wF.heap.size := Nat.lt_of_lt_of_le hs1 HBF.out.size
  have f1 := (HBF.out.cell (p := ⟨w.heap.size, 1, none⟩) hs1).trans e1
  have f2 := (HBF.out.cell (p := ⟨w.heap.size, 2, none⟩) hs1).trans e2
  have f3 := (HBF.out.cell (p := ⟨w.heap.size, 3, none⟩) hs1).trans e3
  have f4 := (HBF.out.cell (p := ⟨w.heap.size, 4, none⟩) hs1).trans e4
  have f5 := (HBF.out.cell (p := ⟨w.heap.size, 5, none⟩) hs1).trans e5
  have f6 := (HBF.out.cell (p := ⟨w.heap.size, 6, none⟩) hs1).trans e6
  have HWF : Hid (Below w.heap.size w wF) := hid (HB1.out.trans (HBF.out.mono HB1.out.size))
  obtain ⟨kb, gkb⟩ : ∃ kb, kb = w.heap.size := ⟨_, rfl⟩
  rw [← gkb] at f0 f1 f2 f3 f4 f5 f6 hsF ⊢
  have hS0 : Sf wF B kb G D pp t x T T wF := by
    have h := HP.out.grow HWF.out
    refine ⟨h, Upd.refl _ _, fun b hk hb => ⟨hb, fun e => ?_, fun hG => ?_, fun hR => ?_⟩⟩
    · omega
    · have h1 := (HP.out.gG b hG).2.1
      omega
    · have h1 := (HP.out.gD b hR).2.1
      omega
  have q0 := hS0.c0
  have q1 := hS0.c1
  have HS0 := hid hS0
  have GKB := hid gkb
  have HKB : Hid (kb ≤ kb) := hid (Nat.le_refl _)
  clear e0 e1 e2 e3 e4 e5 e6 kc hS0 gkb
  obtain ⟨R, gR⟩ : ∃ R, R = T.read x1 x3 := ⟨_, rfl⟩
  have hR96 : R.2.1.length ≤ 140737488355328 := by rw [gR]; exact Nat.le_trans (tread_len HT.out _ _) (by omega)
  obtain ⟨n, gn⟩ : ∃ n, n = R.2.1.length := ⟨_, rfl⟩
  have HE : Hid (Ok3 T R.1 m) := by rw [gR]; exact hid (Ok3.read HT.out HL.out _ _)
  have KP : Hid (∀ W G D TD, Sf wF B kb G D pp t x T TD W → Calls Tryz.prog 21 #[.pointer (some ⟨t, 0, none⟩), .int .i64 x1, .int .i64 x3] W fun e w' => (∃ a c, e = .returned (.tuple #[.slice a n c, .bool R.2.2.1, .int .i64 R.2.2.2]) ∧ w'.ownsRow W.heap.size 5 1 (.slice a n c) n (R.2.1.map (Value.int .u8))) ∧ Sf wF B kb G D pp t x R.1 TD w') := by
    rw [gn, gR]
    refine hid (fun W G D TD hs => (tpread W t T G hs.pr.tp HT.out x1 x3 HX3.out.2).mono ?_)
    rintro e w' ⟨⟨v, rfl, h1⟩, k⟩
    obtain ⟨a, c, rfl, _⟩ := own_shp h1
    exact ⟨⟨a, c, rfl, h1⟩, hs.progIn k⟩
  have KD : Hid (∀ W G D TP, Sf wF B kb G D pp t x TP T W → Calls Tryz.prog 22 #[.pointer (some ⟨x, 0, none⟩), .int .i64 x1, .int .i64 x3] W fun e w' => (∃ a c, e = .returned (.tuple #[.slice a n c, .bool R.2.2.1, .int .i64 R.2.2.2]) ∧ Src w' a n R.2.1) ∧ ∃ D', Sf wF B kb G D' pp t x TP R.1 w' ∧ (∀ b, Oty W G D pp b → Oty w' G D' pp b) ∧ Upd D W w') := by
    rw [gn, gR]
    refine hid (fun W G D TP hs => (tdread W x T D hs.pr.td HT.out x1 x3 HX3.out.2).mono ?_)
    rintro e w' ⟨⟨a, c, rfl, h1⟩, k⟩
    exact ⟨⟨a, c, rfl, h1⟩, hs.doc k⟩
  have HN : Hid (n ≤ 140737488355328) := hid (by omega)
  clear gR gn hR96
  go_wp2_with fail
  go_region_held3 (fun W => W.cell? ⟨pp, 0, none⟩ = some (.pointer (some ⟨t, 0, none⟩)) ∧ W.cell? ⟨pp, 1, none⟩ = some (.pointer (some ⟨x, 0, none⟩)) ∧ W.cell? ⟨kb, 1, none⟩ = some (.int .i64 x1) ∧ W.cell? ⟨kb, 3, none⟩ = some (.int .i64 x3)) (first | (refine ⟨?_, ?_, ?_, ?_⟩ <;> assumption) | go_keep) (first
    | (go_at_call 21; refine (KP.out _ _ _ _ (by first | exact HS0.out.drew | exact HS0.out)).mono ?_; rintro e w1 ⟨⟨a1, d1, rfl, hO1⟩, hS1⟩; have HN1 : Hid (∀ b, (Value.slice a1 n d1).ownBlock = some b → Oty w1 G D pp b ∧ B ≤ b) := hid (fun b hb => ⟨HS0.out.new (hO1.lt b hb).1 (hO1.lt b hb).2, Nat.le_trans (Nat.le_trans HB.out HWF.out.size) (hO1.lt b hb).1⟩); have z0 := hS1.c0; have z1 := hS1.c1; have zk1 := hS1.k HKB.out hsF f1; have zk3 := hS1.k HKB.out hsF f3; have HS1 := hid hS1; have HO1 := hid hO1; clear hS1 hO1)
    | fail)
  go_wp2_with fail
  go_region_held3 (fun W => W.cell? ⟨pp, 0, none⟩ = some (.pointer (some ⟨t, 0, none⟩)) ∧ W.cell? ⟨pp, 1, none⟩ = some (.pointer (some ⟨x, 0, none⟩)) ∧ W.cell? ⟨kb, 1, none⟩ = some (.int .i64 x1) ∧ W.cell? ⟨kb, 3, none⟩ = some (.int .i64 x3)) (first | (refine ⟨?_, ?_, ?_, ?_⟩ <;> assumption) | go_keep) (first
    | (go_at_call 22; first | (refine (KD.out _ _ _ _ HS1.out.drew).mono ?_; rintro e w2 ⟨⟨a2, d2, rfl, hO2⟩, D2, hS2, hN2, hU2⟩; have HU2 : Hid (Upd D w1 w2) := hid ((Upd.refl _ _).drewD.trans hU2 (fun _ _ h => h)); have HN3 : Hid (∀ b, (Value.slice a1 n d1).ownBlock = some b → Oty w2 G D2 pp b ∧ B ≤ b) := hid (fun b hb => ⟨hN2 b (HN1.out b hb).1, (HN1.out b hb).2⟩); have y0 := hS2.c0; have y1 := hS2.c1; have yk1 := hS2.k HKB.out hsF f1; have yk3 := hS2.k HKB.out hsF f3; have HS2 := hid hS2; have HO2 := hid hO2; clear hS2 hO2 hN2 hU2) | (refine (KD.out _ _ _ _ HS1.out).mono ?_; rintro e w2 ⟨⟨a2, d2, rfl, hO2⟩, D2, hS2, hN2, hU2⟩; have HU2 : Hid (Upd D w1 w2) := hid hU2; have HN3 : Hid (∀ b, (Value.slice a1 n d1).ownBlock = some b → Oty w2 G D2 pp b ∧ B ≤ b) := hid (fun b hb => ⟨hN2 b (HN1.out b hb).1, (HN1.out b hb).2⟩); have y0 := hS2.c0; have y1 := hS2.c1; have yk1 := hS2.k HKB.out hsF f1; have yk3 := hS2.k HKB.out hsF f3; have HS2 := hid hS2; have HO2 := hid hO2; clear hS2 hO2 hN2 hU2))
    | fail)
  have HO3 := hid (HU2.out.own HO1.out (fun b hb hD => (HN1.out b hb).1.2.2.2 hD))
  go_wp2_with (first
    | (go_at_call 23; first
        | (refine (equal_yes a1 a2 n d1 n d2 R.2.1 w2.drew (own_src (own_below HO3.out (Below.refl _ _).drew)) (HO2.out.below (Below.refl _ _).drew)).mono ?_; rintro e wz ⟨rfl, hwz⟩; subst wz)
        | (refine (equal_yes a1 a2 n d1 n d2 R.2.1 w2 (own_src HO3.out) HO2.out).mono ?_; rintro e wz ⟨rfl, hwz⟩; subst wz))
    | (go_at_call 24; first
        | (refine (spoil_any _ n d1 a1 R.2.1 w2.drew _ rfl (own_below HO3.out (Below.refl _ _).drew) HN.out).mono ?_; rintro e w4 ⟨rfl, hu4⟩; have HU4 := hid hu4; clear hu4)
        | (refine (spoil_any _ n d1 a1 R.2.1 w2 _ rfl HO3.out HN.out).mono ?_; rintro e w4 ⟨rfl, hu4⟩; have HU4 := hid hu4; clear hu4)))
  go_ret
  first
  | exact HS2.out.drew.doneU HU4.out (fun b _ hu => (HN3.out b hu).1) (fun b hu => (HN3.out b hu).2) HWF.out HB.out HE.out
  | exact HS2.out.doneU HU4.out (fun b _ hu => (HN3.out b hu).1) (fun b hu => (HN3.out b hu).2) HWF.out HB.out HE.out

set_option maxHeartbeats 8000000 in
theorem dof_4 (pp t x B : Nat) (G D : Nat → Prop) (T : Ft) (m : Int) (x0 x1 x2 x3 : Int) (t4 t5 : ByteArray) (ab : Option Addr) (lb cb : Nat) (bz : List Int) (w : World) (H : Pt w B G D pp t x T T) (hT : TOk T) (hL : LB T.F m) (hm : 1 ≤ m ∧ m ≤ 900000)
    (h4 : t4.size ≤ 1048576) (h5 : t5.size ≤ 1048576) (hx3n : -9223372036854775808 ≤ x3) (hx3 : x3 ≤ 9223372036854775807) (hb : Src w ab lb bz) (hbz : ∀ z ∈ bz, 0 ≤ z ∧ z < 256) (hlb : lb ≤ 140737488355328) (hcb : lb ≤ cb) (hbn : ab = none → lb = 0 ∧ cb = 0) (hbB : 0 < lb → ∀ b o, ab = some ⟨b, o, none⟩ → b < B)
    (hq : wrap64 ((IntKind.u64.wrap x0).tmod 12) = 4) :
    Calls Tryz.prog 7 #[.pointer (some ⟨pp, 0, none⟩), .agg #[.int .i64 x0, .int .i64 x1, .int .i64 x2, .int .i64 x3, .string t4, .string t5, .slice ab lb cb]] w (DoF w B pp t x m T) := by
  have hpl := H.lt
  have HB : Hid (B ≤ w.heap.size) := hid (Nat.le_trans H.gp (Nat.le_of_lt hpl))
  have HT := hid hT
  have HL := hid hL
  have HM := hid hm
  have H4 := hid h4
  have H5 := hid h5
  have HX3 := hid (And.intro hx3n hx3)
  have HSB := hid hb
  have HBZ := hid hbz
  have HBB := hid hbB
  have HBN := hid hbn
  have HLC := hid hcb
  have HLL := hid hlb
  have HML : Hid (∀ i, (T.F.P i).l ≤ 1000000) := hid (fun i => Int.le_trans (hL i) (by omega))
  have HQ := hid hq
  have HP := hid H
  have kc : Hid (∀ wx, Below w.heap.size w wx → Calls Tryz.prog 16 #[.slice ab lb cb] wx fun e w' => ∃ (av : Option Addr) (cv : Nat), e = .returned (.slice av lb cv) ∧ w'.ownsRow wx.heap.size 5 1 (.slice av lb cv) lb (bz.map (Value.int .u8)) ∧ Below wx.heap.size wx w') := hid (fun wx hbx => clone_opt ab lb cb bz wx (hb.below hbx) hlb hbn)
  clear H hT hL hm h4 h5 hx3n hx3 hb hbz hlb hcb hbn hbB hq
  go_enter Tryz.func7, Tryz.ntmps7
  go_upto_region 1 with fail
  obtain ⟨W1, gW1⟩ : ∃ W1, W1 = w.alloc (.cells #[.int .i64 x0, .int .i64 x1, .int .i64 x2, .int .i64 x3, .string t4, .string t5, .slice ab lb cb] 32) := ⟨_, rfl⟩
  rw [← gW1]
  have hb1 : Below w.heap.size w W1 := by rw [gW1]; exact (Below.refl _ _).alloc (Nat.le_refl _) _
  have hs1 : w.heap.size < W1.heap.size := by rw [gW1]; simp
  have e0 : W1.cell? ⟨w.heap.size, 0, none⟩ = some (.int .i64 x0) := by rw [gW1]; simp [go_sem]
  have e1 : W1.cell? ⟨w.heap.size, 1, none⟩ = some (.int .i64 x1) := by rw [gW1]; simp [go_sem]
  have e2 : W1.cell? ⟨w.heap.size, 2, none⟩ = some (.int .i64 x2) := by rw [gW1]; simp [go_sem]
  have e3 : W1.cell? ⟨w.heap.size, 3, none⟩ = some (.int .i64 x3) := by rw [gW1]; simp [go_sem]
  have e4 : W1.cell? ⟨w.heap.size, 4, none⟩ = some (.string t4) := by rw [gW1]; simp [go_sem]
  have e5 : W1.cell? ⟨w.heap.size, 5, none⟩ = some (.string t5) := by rw [gW1]; simp [go_sem]
  have e6 : W1.cell? ⟨w.heap.size, 6, none⟩ = some (.slice ab lb cb) := by rw [gW1]; simp [go_sem]
  have HB1 := hid hb1
  clear gW1 hb1
  go_upto_block 0 with (go_at_call 16; refine (kc.out _ HB1.out).mono ?_; rintro e wF ⟨av, cv, rfl, hG, hbF⟩; have f0 := (hbF.cell (p := ⟨w.heap.size, 0, none⟩) hs1).trans e0; have HG := hid hG; have HBF := hid hbF; clear hG hbF)
  rw [HQ.out]
  have hsF : w.heap.size < wF.heap.size := Nat.lt_of_lt_of_le hs1 HBF.out.size
  have f1 := (HBF.out.cell (p := ⟨w.heap.size, 1, none⟩) hs1).trans e1
  have f2 := (HBF.out.cell (p := ⟨w.heap.size, 2, none⟩) hs1).trans e2
  have f3 := (HBF.out.cell (p := ⟨w.heap.size, 3, none⟩) hs1).trans e3
  have f4 := (HBF.out.cell (p := ⟨w.heap.size, 4, none⟩) hs1).trans e4
  have f5 := (HBF.out.cell (p := ⟨w.heap.size, 5, none⟩) hs1).trans e5
  have f6 := (HBF.out.cell (p := ⟨w.heap.size, 6, none⟩) hs1).trans e6
  have HWF : Hid (Below w.heap.size w wF) := hid (HB1.out.trans (HBF.out.mono HB1.out.size))
  obtain ⟨kb, gkb⟩ : ∃ kb, kb = w.heap.size := ⟨_, rfl⟩
  rw [← gkb] at f0 f1 f2 f3 f4 f5 f6 hsF ⊢
  have hS0 : Sf wF B kb G D pp t x T T wF := by
    have h := HP.out.grow HWF.out
    refine ⟨h, Upd.refl _ _, fun b hk hb => ⟨hb, fun e => ?_, fun hG => ?_, fun hR => ?_⟩⟩
    · omega
    · have h1 := (HP.out.gG b hG).2.1
      omega
    · have h1 := (HP.out.gD b hR).2.1
      omega
  have q0 := hS0.c0
  have q1 := hS0.c1
  have HS0 := hid hS0
  have GKB := hid gkb
  have HKB : Hid (kb ≤ kb) := hid (Nat.le_refl _)
  clear e0 e1 e2 e3 e4 e5 e6 kc hS0 gkb
  obtain ⟨R, gR⟩ : ∃ R, R = T.write x1 bz := ⟨_, rfl⟩
  have HE : Hid (Ok3 T R.1 m) := by rw [gR]; exact hid (Ok3.write HT.out HL.out _ _ HBZ.out)
  have hkW : kb ≤ W1.heap.size := by rw [GKB.out]; exact Nat.le_of_lt hs1
  have HKW := hid hkW
  have HGV : Hid (∀ W G D TP TD, Sf wF B kb G D pp t x TP TD W → W.ownsRow W1.heap.size 5 1 (.slice av lb cv) lb (bz.map (Value.int .u8))) := hid (fun W G D TP TD hs => hs.up.own HG.out (fun b hb q => by have := (HG.out.lt b hb).1; have := q.2; omega))
  have HSW : Hid (∀ W G D TP TD, Sf wF B kb G D pp t x TP TD W → Src W ab lb bz) := hid (fun W G D TP TD hs => Src.updL hs.up (HSB.out.below HWF.out) (fun hl b o e q => absurd q.1 (Nat.not_le_of_lt (HBB.out hl b o e))))
  have KP : Hid (∀ W G D TD, Sf wF B kb G D pp t x T TD W → Calls Tryz.prog 25 #[.pointer (some ⟨t, 0, none⟩), .int .i64 x1, .slice av lb cv] W fun e w' => e = .returned (.tuple #[.int .i64 R.2.1, .bool R.2.2.1, .int .i64 R.2.2.2]) ∧ ∃ G', Sf wF B kb G' D pp t x R.1 TD w') := by
    rw [gR]
    exact hid (fun W G D TD hs => (tpwrite W t T G hs.pr.tp HT.out x1 av lb cv bz (own_src (HGV.out _ _ _ _ _ hs)) (fun b o e => (hs.ot b (Nat.le_trans HKW.out (own_at HG.out b o e).1) (own_at HG.out b o e).2).2.2.1)).mono (by rintro e w' ⟨he, k⟩; exact ⟨he, hs.prog k⟩))
  have KD : Hid (∀ W G D TP, Sf wF B kb G D pp t x TP T W → Calls Tryz.prog 26 #[.pointer (some ⟨x, 0, none⟩), .int .i64 x1, .slice ab lb cb] W fun e w' => e = .returned (.tuple #[.int .i64 R.2.1, .bool R.2.2.1, .int .i64 R.2.2.2]) ∧ ∃ D', Sf wF B kb G D' pp t x TP R.1 w') := by
    rw [gR]
    exact hid (fun W G D TP hs => (tdwrite W x T D hs.pr.td HT.out x1 ab lb cb bz (HSW.out _ _ _ _ _ hs) (fun h0 b o e hD => absurd (hs.pr.gD b hD).1 (Nat.not_le_of_lt (HBB.out h0 b o e))) HLC.out HLL.out).mono (by rintro e w' ⟨he, k⟩; exact ⟨he, hs.doc1 k⟩))
  clear gR hkW
  go_wp2_with fail
  go_region_held3 (fun W => W.cell? ⟨pp, 0, none⟩ = some (.pointer (some ⟨t, 0, none⟩)) ∧ W.cell? ⟨pp, 1, none⟩ = some (.pointer (some ⟨x, 0, none⟩)) ∧ W.cell? ⟨kb, 1, none⟩ = some (.int .i64 x1) ∧ W.cell? ⟨kb, 6, none⟩ = some (.slice ab lb cb)) (first | (refine ⟨?_, ?_, ?_, ?_⟩ <;> assumption) | go_keep) (first
    | (go_at_call 25; refine (KP.out _ _ _ _ (by first | exact HS0.out.drew | exact HS0.out)).mono ?_; rintro e w1 ⟨rfl, G1, hS1⟩; have z0 := hS1.c0; have z1 := hS1.c1; have zk1 := hS1.k HKB.out hsF f1; have zk6 := hS1.k HKB.out hsF f6; have HS1 := hid hS1; clear hS1)
    | fail)
  go_wp2_with fail
  go_region_held3 (fun W => W.cell? ⟨pp, 0, none⟩ = some (.pointer (some ⟨t, 0, none⟩)) ∧ W.cell? ⟨pp, 1, none⟩ = some (.pointer (some ⟨x, 0, none⟩)) ∧ W.cell? ⟨kb, 1, none⟩ = some (.int .i64 x1) ∧ W.cell? ⟨kb, 6, none⟩ = some (.slice ab lb cb)) (first | (refine ⟨?_, ?_, ?_, ?_⟩ <;> assumption) | go_keep) (first
    | (go_at_call 26; refine (KD.out _ _ _ _ (by first | exact HS1.out.drew | exact HS1.out)).mono ?_; rintro e w2 ⟨rfl, D2, hS2⟩; have y0 := hS2.c0; have y1 := hS2.c1; have yk1 := hS2.k HKB.out hsF f1; have yk6 := hS2.k HKB.out hsF f6; have HS2 := hid hS2; clear hS2)
    | fail)
  have HO3 := hid (HGV.out _ _ _ _ _ HS2.out)
  have HO4 := hid (HGV.out _ _ _ _ _ HS2.out.drew)
  have HN3 : Hid (∀ b, (Value.slice av lb cv).ownBlock = some b → kb ≤ b ∧ b < wF.heap.size ∧ B ≤ b) := hid (fun b hb => ⟨Nat.le_trans HKW.out (HG.out.lt b hb).1, (HG.out.lt b hb).2, Nat.le_trans HB.out (by rw [← GKB.out]; exact Nat.le_trans HKW.out (HG.out.lt b hb).1)⟩)
  go_wp2_with (first
    | (go_at_call 23; first
        | (refine (equal_yes av ab lb cv lb cb bz w2.drew (own_src HO4.out) (HSW.out _ _ _ _ _ HS2.out.drew)).mono ?_; rintro e wz ⟨rfl, hwz⟩; subst wz)
        | (refine (equal_yes av ab lb cv lb cb bz w2 (own_src HO3.out) (HSW.out _ _ _ _ _ HS2.out)).mono ?_; rintro e wz ⟨rfl, hwz⟩; subst wz))
    | (go_at_call 24; first
        | (refine (spoil_any _ lb cv av bz w2.drew _ rfl HO4.out HLL.out).mono ?_; rintro e w4 ⟨rfl, hu4⟩; have HU4 := hid hu4; clear hu4)
        | (refine (spoil_any _ lb cv av bz w2 _ rfl HO3.out HLL.out).mono ?_; rintro e w4 ⟨rfl, hu4⟩; have HU4 := hid hu4; clear hu4)))
  go_ret
  first
  | exact HS2.out.drew.doneU HU4.out (fun b _ hu => HS2.out.drew.ot b (HN3.out b hu).1 (HN3.out b hu).2.1) (fun b hu => (HN3.out b hu).2.2) HWF.out HB.out HE.out
  | exact HS2.out.doneU HU4.out (fun b _ hu => HS2.out.ot b (HN3.out b hu).1 (HN3.out b hu).2.1) (fun b hu => (HN3.out b hu).2.2) HWF.out HB.out HE.out

end Go.Proofs.YtoknhcjneliboaaGreat

/- What the files' 'does' does: cases 5, 9, 10 (written by gen_tdo.py). -/
namespace Go.Proofs.YtoknhcjneliboaaGreat
open Go.RowKit Go.ChangeMaps Go.MapKept
set_option linter.unusedVariables false
set_option maxRecDepth 20000

set_option maxHeartbeats 8000000 in
theorem dof_5 (pp t x B : Nat) (G D : Nat → Prop) (T : Ft) (m : Int) (x0 x1 x2 x3 : Int) (t4 t5 : ByteArray) (ab : Option Addr) (lb cb : Nat) (bz : List Int) (w : World) (H : Pt w B G D pp t x T T) (hT : TOk T) (hL : LB T.F m) (hm : 1 ≤ m ∧ m ≤ 900000)
    (h4 : t4.size ≤ 1048576) (h5 : t5.size ≤ 1048576) (hx3n : -9223372036854775808 ≤ x3) (hx3 : x3 ≤ 9223372036854775807) (hb : Src w ab lb bz) (hbz : ∀ z ∈ bz, 0 ≤ z ∧ z < 256) (hlb : lb ≤ 140737488355328) (hcb : lb ≤ cb) (hbn : ab = none → lb = 0 ∧ cb = 0) (hbB : 0 < lb → ∀ b o, ab = some ⟨b, o, none⟩ → b < B)
    (hq : wrap64 ((IntKind.u64.wrap x0).tmod 12) = 5) :
    Calls Tryz.prog 7 #[.pointer (some ⟨pp, 0, none⟩), .agg #[.int .i64 x0, .int .i64 x1, .int .i64 x2, .int .i64 x3, .string t4, .string t5, .slice ab lb cb]] w (DoF w B pp t x m T) := by
  have hpl := H.lt
  have HB : Hid (B ≤ w.heap.size) := hid (Nat.le_trans H.gp (Nat.le_of_lt hpl))
  have HT := hid hT
  have HL := hid hL
  have HM := hid hm
  have H4 := hid h4
  have H5 := hid h5
  have HX3 := hid (And.intro hx3n hx3)
  have HSB := hid hb
  have HBZ := hid hbz
  have HBB := hid hbB
  have HBN := hid hbn
  have HLC := hid hcb
  have HLL := hid hlb
  have HML : Hid (∀ i, (T.F.P i).l ≤ 1000000) := hid (fun i => Int.le_trans (hL i) (by omega))
  have HQ := hid hq
  have HP := hid H
  have kc : Hid (∀ wx, Below w.heap.size w wx → Calls Tryz.prog 16 #[.slice ab lb cb] wx fun e w' => ∃ (av : Option Addr) (cv : Nat), e = .returned (.slice av lb cv) ∧ w'.ownsRow wx.heap.size 5 1 (.slice av lb cv) lb (bz.map (Value.int .u8)) ∧ Below wx.heap.size wx w') := hid (fun wx hbx => clone_opt ab lb cb bz wx (hb.below hbx) hlb hbn)
  clear H hT hL hm h4 h5 hx3n hx3 hb hbz hlb hcb hbn hbB hq
  go_enter Tryz.func7, Tryz.ntmps7
  go_upto_region 1 with fail
  obtain ⟨W1, gW1⟩ : ∃ W1, W1 = w.alloc (.cells #[.int .i64 x0, .int .i64 x1, .int .i64 x2, .int .i64 x3, .string t4, .string t5, .slice ab lb cb] 32) := ⟨_, rfl⟩
  rw [← gW1]
  have hb1 : Below w.heap.size w W1 := by rw [gW1]; exact (Below.refl _ _).alloc (Nat.le_refl _) _
  have hs1 : w.heap.size < W1.heap.size := by rw [gW1]; simp
  have e0 : W1.cell? ⟨w.heap.size, 0, none⟩ = some (.int .i64 x0) := by rw [gW1]; simp [go_sem]
  have e1 : W1.cell? ⟨w.heap.size, 1, none⟩ = some (.int .i64 x1) := by rw [gW1]; simp [go_sem]
  have e2 : W1.cell? ⟨w.heap.size, 2, none⟩ = some (.int .i64 x2) := by rw [gW1]; simp [go_sem]
  have e3 : W1.cell? ⟨w.heap.size, 3, none⟩ = some (.int .i64 x3) := by rw [gW1]; simp [go_sem]
  have e4 : W1.cell? ⟨w.heap.size, 4, none⟩ = some (.string t4) := by rw [gW1]; simp [go_sem]
  have e5 : W1.cell? ⟨w.heap.size, 5, none⟩ = some (.string t5) := by rw [gW1]; simp [go_sem]
  have e6 : W1.cell? ⟨w.heap.size, 6, none⟩ = some (.slice ab lb cb) := by rw [gW1]; simp [go_sem]
  have HB1 := hid hb1
  clear gW1 hb1
  go_upto_block 0 with (go_at_call 16; refine (kc.out _ HB1.out).mono ?_; rintro e wF ⟨av, cv, rfl, hG, hbF⟩; have f0 := (hbF.cell (p := ⟨w.heap.size, 0, none⟩) hs1).trans e0; have HG := hid hG; have HBF := hid hbF; clear hG hbF)
  rw [HQ.out]
  have hsF : w.heap.size < wF.heap.size := Nat.lt_of_lt_of_le hs1 HBF.out.size
  have f1 := (HBF.out.cell (p := ⟨w.heap.size, 1, none⟩) hs1).trans e1
  have f2 := (HBF.out.cell (p := ⟨w.heap.size, 2, none⟩) hs1).trans e2
  have f3 := (HBF.out.cell (p := ⟨w.heap.size, 3, none⟩) hs1).trans e3
  have f4 := (HBF.out.cell (p := ⟨w.heap.size, 4, none⟩) hs1).trans e4
  have f5 := (HBF.out.cell (p := ⟨w.heap.size, 5, none⟩) hs1).trans e5
  have f6 := (HBF.out.cell (p := ⟨w.heap.size, 6, none⟩) hs1).trans e6
  have HWF : Hid (Below w.heap.size w wF) := hid (HB1.out.trans (HBF.out.mono HB1.out.size))
  obtain ⟨kb, gkb⟩ : ∃ kb, kb = w.heap.size := ⟨_, rfl⟩
  rw [← gkb] at f0 f1 f2 f3 f4 f5 f6 hsF ⊢
  have hS0 : Sf wF B kb G D pp t x T T wF := by
    have h := HP.out.grow HWF.out
    refine ⟨h, Upd.refl _ _, fun b hk hb => ⟨hb, fun e => ?_, fun hG => ?_, fun hR => ?_⟩⟩
    · omega
    · have h1 := (HP.out.gG b hG).2.1
      omega
    · have h1 := (HP.out.gD b hR).2.1
      omega
  have q0 := hS0.c0
  have q1 := hS0.c1
  have HS0 := hid hS0
  have GKB := hid gkb
  have HKB : Hid (kb ≤ kb) := hid (Nat.le_refl _)
  clear e0 e1 e2 e3 e4 e5 e6 kc hS0 gkb
  obtain ⟨R, gR⟩ : ∃ R, R = T.write x1 bz := ⟨_, rfl⟩
  have HE : Hid (Ok3 T R.1 m) := by rw [gR]; exact hid (Ok3.write HT.out HL.out _ _ HBZ.out)
  have hkW : kb ≤ W1.heap.size := by rw [GKB.out]; exact Nat.le_of_lt hs1
  have HKW := hid hkW
  have HGV : Hid (∀ W G D TP TD, Sf wF B kb G D pp t x TP TD W → W.ownsRow W1.heap.size 5 1 (.slice av lb cv) lb (bz.map (Value.int .u8))) := hid (fun W G D TP TD hs => hs.up.own HG.out (fun b hb q => by have := (HG.out.lt b hb).1; have := q.2; omega))
  have HSW : Hid (∀ W G D TP TD, Sf wF B kb G D pp t x TP TD W → Src W ab lb bz) := hid (fun W G D TP TD hs => Src.updL hs.up (HSB.out.below HWF.out) (fun hl b o e q => absurd q.1 (Nat.not_le_of_lt (HBB.out hl b o e))))
  have KP : Hid (∀ W G D TD, Sf wF B kb G D pp t x T TD W → Calls Tryz.prog 25 #[.pointer (some ⟨t, 0, none⟩), .int .i64 x1, .slice av lb cv] W fun e w' => e = .returned (.tuple #[.int .i64 R.2.1, .bool R.2.2.1, .int .i64 R.2.2.2]) ∧ ∃ G', Sf wF B kb G' D pp t x R.1 TD w') := by
    rw [gR]
    exact hid (fun W G D TD hs => (tpwrite W t T G hs.pr.tp HT.out x1 av lb cv bz (own_src (HGV.out _ _ _ _ _ hs)) (fun b o e => (hs.ot b (Nat.le_trans HKW.out (own_at HG.out b o e).1) (own_at HG.out b o e).2).2.2.1)).mono (by rintro e w' ⟨he, k⟩; exact ⟨he, hs.prog k⟩))
  have KD : Hid (∀ W G D TP, Sf wF B kb G D pp t x TP T W → Calls Tryz.prog 26 #[.pointer (some ⟨x, 0, none⟩), .int .i64 x1, .slice ab lb cb] W fun e w' => e = .returned (.tuple #[.int .i64 R.2.1, .bool R.2.2.1, .int .i64 R.2.2.2]) ∧ ∃ D', Sf wF B kb G D' pp t x TP R.1 w') := by
    rw [gR]
    exact hid (fun W G D TP hs => (tdwrite W x T D hs.pr.td HT.out x1 ab lb cb bz (HSW.out _ _ _ _ _ hs) (fun h0 b o e hD => absurd (hs.pr.gD b hD).1 (Nat.not_le_of_lt (HBB.out h0 b o e))) HLC.out HLL.out).mono (by rintro e w' ⟨he, k⟩; exact ⟨he, hs.doc1 k⟩))
  clear gR hkW
  go_wp2_with fail
  go_region_held3 (fun W => W.cell? ⟨pp, 0, none⟩ = some (.pointer (some ⟨t, 0, none⟩)) ∧ W.cell? ⟨pp, 1, none⟩ = some (.pointer (some ⟨x, 0, none⟩)) ∧ W.cell? ⟨kb, 1, none⟩ = some (.int .i64 x1) ∧ W.cell? ⟨kb, 6, none⟩ = some (.slice ab lb cb)) (first | (refine ⟨?_, ?_, ?_, ?_⟩ <;> assumption) | go_keep) (first
    | (go_at_call 25; refine (KP.out _ _ _ _ (by first | exact HS0.out.drew | exact HS0.out)).mono ?_; rintro e w1 ⟨rfl, G1, hS1⟩; have z0 := hS1.c0; have z1 := hS1.c1; have zk1 := hS1.k HKB.out hsF f1; have zk6 := hS1.k HKB.out hsF f6; have HS1 := hid hS1; clear hS1)
    | fail)
  go_wp2_with fail
  go_region_held3 (fun W => W.cell? ⟨pp, 0, none⟩ = some (.pointer (some ⟨t, 0, none⟩)) ∧ W.cell? ⟨pp, 1, none⟩ = some (.pointer (some ⟨x, 0, none⟩)) ∧ W.cell? ⟨kb, 1, none⟩ = some (.int .i64 x1) ∧ W.cell? ⟨kb, 6, none⟩ = some (.slice ab lb cb)) (first | (refine ⟨?_, ?_, ?_, ?_⟩ <;> assumption) | go_keep) (first
    | (go_at_call 26; refine (KD.out _ _ _ _ (by first | exact HS1.out.drew | exact HS1.out)).mono ?_; rintro e w2 ⟨rfl, D2, hS2⟩; have y0 := hS2.c0; have y1 := hS2.c1; have yk1 := hS2.k HKB.out hsF f1; have yk6 := hS2.k HKB.out hsF f6; have HS2 := hid hS2; clear hS2)
    | fail)
  have HO3 := hid (HGV.out _ _ _ _ _ HS2.out)
  have HO4 := hid (HGV.out _ _ _ _ _ HS2.out.drew)
  have HN3 : Hid (∀ b, (Value.slice av lb cv).ownBlock = some b → kb ≤ b ∧ b < wF.heap.size ∧ B ≤ b) := hid (fun b hb => ⟨Nat.le_trans HKW.out (HG.out.lt b hb).1, (HG.out.lt b hb).2, Nat.le_trans HB.out (by rw [← GKB.out]; exact Nat.le_trans HKW.out (HG.out.lt b hb).1)⟩)
  go_wp2_with (first
    | (go_at_call 23; first
        | (refine (equal_yes av ab lb cv lb cb bz w2.drew (own_src HO4.out) (HSW.out _ _ _ _ _ HS2.out.drew)).mono ?_; rintro e wz ⟨rfl, hwz⟩; subst wz)
        | (refine (equal_yes av ab lb cv lb cb bz w2 (own_src HO3.out) (HSW.out _ _ _ _ _ HS2.out)).mono ?_; rintro e wz ⟨rfl, hwz⟩; subst wz))
    | (go_at_call 24; first
        | (refine (spoil_any _ lb cv av bz w2.drew _ rfl HO4.out HLL.out).mono ?_; rintro e w4 ⟨rfl, hu4⟩; have HU4 := hid hu4; clear hu4)
        | (refine (spoil_any _ lb cv av bz w2 _ rfl HO3.out HLL.out).mono ?_; rintro e w4 ⟨rfl, hu4⟩; have HU4 := hid hu4; clear hu4)))
  go_ret
  first
  | exact HS2.out.drew.doneU HU4.out (fun b _ hu => HS2.out.drew.ot b (HN3.out b hu).1 (HN3.out b hu).2.1) (fun b hu => (HN3.out b hu).2.2) HWF.out HB.out HE.out
  | exact HS2.out.doneU HU4.out (fun b _ hu => HS2.out.ot b (HN3.out b hu).1 (HN3.out b hu).2.1) (fun b hu => (HN3.out b hu).2.2) HWF.out HB.out HE.out

set_option maxHeartbeats 8000000 in
theorem dof_9 (pp t x B : Nat) (G D : Nat → Prop) (T : Ft) (m : Int) (x0 x1 x2 x3 : Int) (t4 t5 : ByteArray) (ab : Option Addr) (lb cb : Nat) (bz : List Int) (w : World) (H : Pt w B G D pp t x T T) (hT : TOk T) (hL : LB T.F m) (hm : 1 ≤ m ∧ m ≤ 900000)
    (h4 : t4.size ≤ 1048576) (h5 : t5.size ≤ 1048576) (hx3n : -9223372036854775808 ≤ x3) (hx3 : x3 ≤ 9223372036854775807) (hb : Src w ab lb bz) (hbz : ∀ z ∈ bz, 0 ≤ z ∧ z < 256) (hlb : lb ≤ 140737488355328) (hcb : lb ≤ cb) (hbn : ab = none → lb = 0 ∧ cb = 0) (hbB : 0 < lb → ∀ b o, ab = some ⟨b, o, none⟩ → b < B)
    (hq : wrap64 ((IntKind.u64.wrap x0).tmod 12) = 9) :
    Calls Tryz.prog 7 #[.pointer (some ⟨pp, 0, none⟩), .agg #[.int .i64 x0, .int .i64 x1, .int .i64 x2, .int .i64 x3, .string t4, .string t5, .slice ab lb cb]] w (DoF w B pp t x m T) := by
  have hpl := H.lt
  have HB : Hid (B ≤ w.heap.size) := hid (Nat.le_trans H.gp (Nat.le_of_lt hpl))
  have HT := hid hT
  have HL := hid hL
  have HM := hid hm
  have H4 := hid h4
  have H5 := hid h5
  have HX3 := hid (And.intro hx3n hx3)
  have HSB := hid hb
  have HBZ := hid hbz
  have HBB := hid hbB
  have HBN := hid hbn
  have HLC := hid hcb
  have HLL := hid hlb
  have HML : Hid (∀ i, (T.F.P i).l ≤ 1000000) := hid (fun i => Int.le_trans (hL i) (by omega))
  have HQ := hid hq
  have HP := hid H
  have kc : Hid (∀ wx, Below w.heap.size w wx → Calls Tryz.prog 16 #[.slice ab lb cb] wx fun e w' => ∃ (av : Option Addr) (cv : Nat), e = .returned (.slice av lb cv) ∧ w'.ownsRow wx.heap.size 5 1 (.slice av lb cv) lb (bz.map (Value.int .u8)) ∧ Below wx.heap.size wx w') := hid (fun wx hbx => clone_opt ab lb cb bz wx (hb.below hbx) hlb hbn)
  clear H hT hL hm h4 h5 hx3n hx3 hb hbz hlb hcb hbn hbB hq
  go_enter Tryz.func7, Tryz.ntmps7
  go_upto_region 1 with fail
  obtain ⟨W1, gW1⟩ : ∃ W1, W1 = w.alloc (.cells #[.int .i64 x0, .int .i64 x1, .int .i64 x2, .int .i64 x3, .string t4, .string t5, .slice ab lb cb] 32) := ⟨_, rfl⟩
  rw [← gW1]
  have hb1 : Below w.heap.size w W1 := by rw [gW1]; exact (Below.refl _ _).alloc (Nat.le_refl _) _
  have hs1 : w.heap.size < W1.heap.size := by rw [gW1]; simp
  have e0 : W1.cell? ⟨w.heap.size, 0, none⟩ = some (.int .i64 x0) := by rw [gW1]; simp [go_sem]
  have e1 : W1.cell? ⟨w.heap.size, 1, none⟩ = some (.int .i64 x1) := by rw [gW1]; simp [go_sem]
  have e2 : W1.cell? ⟨w.heap.size, 2, none⟩ = some (.int .i64 x2) := by rw [gW1]; simp [go_sem]
  have e3 : W1.cell? ⟨w.heap.size, 3, none⟩ = some (.int .i64 x3) := by rw [gW1]; simp [go_sem]
  have e4 : W1.cell? ⟨w.heap.size, 4, none⟩ = some (.string t4) := by rw [gW1]; simp [go_sem]
  have e5 : W1.cell? ⟨w.heap.size, 5, none⟩ = some (.string t5) := by rw [gW1]; simp [go_sem]
  have e6 : W1.cell? ⟨w.heap.size, 6, none⟩ = some (.slice ab lb cb) := by rw [gW1]; simp [go_sem]
  have HB1 := hid hb1
  clear gW1 hb1
  go_upto_block 0 with (go_at_call 16; refine (kc.out _ HB1.out).mono ?_; rintro e wF ⟨av, cv, rfl, hG, hbF⟩; have f0 := (hbF.cell (p := ⟨w.heap.size, 0, none⟩) hs1).trans e0; have HG := hid hG; have HBF := hid hbF; clear hG hbF)
  rw [HQ.out]
  have hsF : w.heap.size < wF.heap.size := Nat.lt_of_lt_of_le hs1 HBF.out.size
  have f1 := (HBF.out.cell (p := ⟨w.heap.size, 1, none⟩) hs1).trans e1
  have f2 := (HBF.out.cell (p := ⟨w.heap.size, 2, none⟩) hs1).trans e2
  have f3 := (HBF.out.cell (p := ⟨w.heap.size, 3, none⟩) hs1).trans e3
  have f4 := (HBF.out.cell (p := ⟨w.heap.size, 4, none⟩) hs1).trans e4
  have f5 := (HBF.out.cell (p := ⟨w.heap.size, 5, none⟩) hs1).trans e5
  have f6 := (HBF.out.cell (p := ⟨w.heap.size, 6, none⟩) hs1).trans e6
  have HWF : Hid (Below w.heap.size w wF) := hid (HB1.out.trans (HBF.out.mono HB1.out.size))
  obtain ⟨kb, gkb⟩ : ∃ kb, kb = w.heap.size := ⟨_, rfl⟩
  rw [← gkb] at f0 f1 f2 f3 f4 f5 f6 hsF ⊢
  have hS0 : Sf wF B kb G D pp t x T T wF := by
    have h := HP.out.grow HWF.out
    refine ⟨h, Upd.refl _ _, fun b hk hb => ⟨hb, fun e => ?_, fun hG => ?_, fun hR => ?_⟩⟩
    · omega
    · have h1 := (HP.out.gG b hG).2.1
      omega
    · have h1 := (HP.out.gD b hR).2.1
      omega
  have q0 := hS0.c0
  have q1 := hS0.c1
  have HS0 := hid hS0
  have GKB := hid gkb
  have HKB : Hid (kb ≤ kb) := hid (Nat.le_refl _)
  clear e0 e1 e2 e3 e4 e5 e6 kc hS0 gkb
  obtain ⟨K0, gK0⟩ : ∃ K0, K0 = wrap64 (7 + wrap64 ((IntKind.u64.wrap x3).tmod 6)) := ⟨_, rfl⟩
  have GK := hid gK0.symm
  clear gK0
  obtain ⟨R, gR⟩ : ∃ R, R = T.name K0 (bl t4) (bl t5) := ⟨_, rfl⟩
  have HE : Hid (Ok3 T R.1 m) := by rw [gR]; exact hid (Ok3.name HT.out HL.out HM.out.1 _ _ _)
  have KP : Hid (∀ W G D TD, Sf wF B kb G D pp t x T TD W → Calls Tryz.prog 33 #[.pointer (some ⟨t, 0, none⟩), .int .i64 K0, .string t4, .string t5] W fun e w' => e = .returned (.int .i64 R.2) ∧ ∃ G', Sf wF B kb G' D pp t x R.1 TD w') := by
    rw [gR]
    exact hid (fun W G D TD hs => (tpname W t T G hs.pr.tp HT.out K0 t4 t5 (Nat.le_trans H4.out (by omega)) (Nat.le_trans H5.out (by omega)) HML.out).mono (by rintro e w' ⟨he, k⟩; exact ⟨he, hs.prog k⟩))
  have KD : Hid (∀ W G D TP, Sf wF B kb G D pp t x TP T W → Calls Tryz.prog 34 #[.pointer (some ⟨x, 0, none⟩), .int .i64 K0, .string t4, .string t5] W fun e w' => e = .returned (.int .i64 R.2) ∧ ∃ D', Sf wF B kb G D' pp t x TP R.1 w') := by
    rw [gR]
    exact hid (fun W G D TP hs => (tdname W x T D hs.pr.td HT.out K0 t4 t5 H4.out H5.out HML.out).mono (by rintro e w' ⟨he, k⟩; exact ⟨he, hs.doc1 k⟩))
  clear gR
  go_wp2_with fail
  go_region_held3 (fun W => W.cell? ⟨pp, 0, none⟩ = some (.pointer (some ⟨t, 0, none⟩)) ∧ W.cell? ⟨pp, 1, none⟩ = some (.pointer (some ⟨x, 0, none⟩)) ∧ W.cell? ⟨kb, 4, none⟩ = some (.string t4) ∧ W.cell? ⟨kb, 5, none⟩ = some (.string t5)) (first | (refine ⟨?_, ?_, ?_, ?_⟩ <;> assumption) | go_keep) (first
    | (go_at_call 33; (try rw [GK.out]); refine (KP.out _ _ _ _ (by first | exact HS2.out | exact HS0.out.drew | exact HS0.out)).mono ?_; rintro e w1 ⟨rfl, G1, hS1⟩; have z0 := hS1.c0; have z1 := hS1.c1; have zk4 := hS1.k HKB.out hsF f4; have zk5 := hS1.k HKB.out hsF f5; have HS1 := hid hS1; clear hS1)
    | (go_at_call 34; (try rw [GK.out]); refine (KD.out _ _ _ _ (by first | exact HS1.out | exact HS0.out.drew | exact HS0.out)).mono ?_; rintro e w2 ⟨rfl, D2, hS2⟩; have y0 := hS2.c0; have y1 := hS2.c1; have yk4 := hS2.k HKB.out hsF f4; have yk5 := hS2.k HKB.out hsF f5; have HS2 := hid hS2; clear hS2)
    | fail)
  all_goals
    go_wp2_with fail
    go_ret
    first
    | exact HS1.out.done HWF.out HB.out HE.out
    | exact HS2.out.done HWF.out HB.out HE.out
    | exact HS1.out.drew.done HWF.out HB.out HE.out
    | exact HS2.out.drew.done HWF.out HB.out HE.out

set_option maxHeartbeats 8000000 in
theorem dof_10 (pp t x B : Nat) (G D : Nat → Prop) (T : Ft) (m : Int) (x0 x1 x2 x3 : Int) (t4 t5 : ByteArray) (ab : Option Addr) (lb cb : Nat) (bz : List Int) (w : World) (H : Pt w B G D pp t x T T) (hT : TOk T) (hL : LB T.F m) (hm : 1 ≤ m ∧ m ≤ 900000)
    (h4 : t4.size ≤ 1048576) (h5 : t5.size ≤ 1048576) (hx3n : -9223372036854775808 ≤ x3) (hx3 : x3 ≤ 9223372036854775807) (hb : Src w ab lb bz) (hbz : ∀ z ∈ bz, 0 ≤ z ∧ z < 256) (hlb : lb ≤ 140737488355328) (hcb : lb ≤ cb) (hbn : ab = none → lb = 0 ∧ cb = 0) (hbB : 0 < lb → ∀ b o, ab = some ⟨b, o, none⟩ → b < B)
    (hq : wrap64 ((IntKind.u64.wrap x0).tmod 12) = 10) :
    Calls Tryz.prog 7 #[.pointer (some ⟨pp, 0, none⟩), .agg #[.int .i64 x0, .int .i64 x1, .int .i64 x2, .int .i64 x3, .string t4, .string t5, .slice ab lb cb]] w (DoF w B pp t x m T) := by
  have hpl := H.lt
  have HB : Hid (B ≤ w.heap.size) := hid (Nat.le_trans H.gp (Nat.le_of_lt hpl))
  have HT := hid hT
  have HL := hid hL
  have HM := hid hm
  have H4 := hid h4
  have H5 := hid h5
  have HX3 := hid (And.intro hx3n hx3)
  have HSB := hid hb
  have HBZ := hid hbz
  have HBB := hid hbB
  have HBN := hid hbn
  have HLC := hid hcb
  have HLL := hid hlb
  have HML : Hid (∀ i, (T.F.P i).l ≤ 1000000) := hid (fun i => Int.le_trans (hL i) (by omega))
  have HQ := hid hq
  have HP := hid H
  have kc : Hid (∀ wx, Below w.heap.size w wx → Calls Tryz.prog 16 #[.slice ab lb cb] wx fun e w' => ∃ (av : Option Addr) (cv : Nat), e = .returned (.slice av lb cv) ∧ w'.ownsRow wx.heap.size 5 1 (.slice av lb cv) lb (bz.map (Value.int .u8)) ∧ Below wx.heap.size wx w') := hid (fun wx hbx => clone_opt ab lb cb bz wx (hb.below hbx) hlb hbn)
  clear H hT hL hm h4 h5 hx3n hx3 hb hbz hlb hcb hbn hbB hq
  go_enter Tryz.func7, Tryz.ntmps7
  go_upto_region 1 with fail
  obtain ⟨W1, gW1⟩ : ∃ W1, W1 = w.alloc (.cells #[.int .i64 x0, .int .i64 x1, .int .i64 x2, .int .i64 x3, .string t4, .string t5, .slice ab lb cb] 32) := ⟨_, rfl⟩
  rw [← gW1]
  have hb1 : Below w.heap.size w W1 := by rw [gW1]; exact (Below.refl _ _).alloc (Nat.le_refl _) _
  have hs1 : w.heap.size < W1.heap.size := by rw [gW1]; simp
  have e0 : W1.cell? ⟨w.heap.size, 0, none⟩ = some (.int .i64 x0) := by rw [gW1]; simp [go_sem]
  have e1 : W1.cell? ⟨w.heap.size, 1, none⟩ = some (.int .i64 x1) := by rw [gW1]; simp [go_sem]
  have e2 : W1.cell? ⟨w.heap.size, 2, none⟩ = some (.int .i64 x2) := by rw [gW1]; simp [go_sem]
  have e3 : W1.cell? ⟨w.heap.size, 3, none⟩ = some (.int .i64 x3) := by rw [gW1]; simp [go_sem]
  have e4 : W1.cell? ⟨w.heap.size, 4, none⟩ = some (.string t4) := by rw [gW1]; simp [go_sem]
  have e5 : W1.cell? ⟨w.heap.size, 5, none⟩ = some (.string t5) := by rw [gW1]; simp [go_sem]
  have e6 : W1.cell? ⟨w.heap.size, 6, none⟩ = some (.slice ab lb cb) := by rw [gW1]; simp [go_sem]
  have HB1 := hid hb1
  clear gW1 hb1
  go_upto_block 0 with (go_at_call 16; refine (kc.out _ HB1.out).mono ?_; rintro e wF ⟨av, cv, rfl, hG, hbF⟩; have f0 := (hbF.cell (p := ⟨w.heap.size, 0, none⟩) hs1).trans e0; have HG := hid hG; have HBF := hid hbF; clear hG hbF)
  rw [HQ.out]
  have hsF : w.heap.size < wF.heap.size := Nat.lt_of_lt_of_le hs1 HBF.out.size
  have f1 := (HBF.out.cell (p := ⟨w.heap.size, 1, none⟩) hs1).trans e1
  have f2 := (HBF.out.cell (p := ⟨w.heap.size, 2, none⟩) hs1).trans e2
  have f3 := (HBF.out.cell (p := ⟨w.heap.size, 3, none⟩) hs1).trans e3
  have f4 := (HBF.out.cell (p := ⟨w.heap.size, 4, none⟩) hs1).trans e4
  have f5 := (HBF.out.cell (p := ⟨w.heap.size, 5, none⟩) hs1).trans e5
  have f6 := (HBF.out.cell (p := ⟨w.heap.size, 6, none⟩) hs1).trans e6
  have HWF : Hid (Below w.heap.size w wF) := hid (HB1.out.trans (HBF.out.mono HB1.out.size))
  obtain ⟨kb, gkb⟩ : ∃ kb, kb = w.heap.size := ⟨_, rfl⟩
  rw [← gkb] at f0 f1 f2 f3 f4 f5 f6 hsF ⊢
  have hS0 : Sf wF B kb G D pp t x T T wF := by
    have h := HP.out.grow HWF.out
    refine ⟨h, Upd.refl _ _, fun b hk hb => ⟨hb, fun e => ?_, fun hG => ?_, fun hR => ?_⟩⟩
    · omega
    · have h1 := (HP.out.gG b hG).2.1
      omega
    · have h1 := (HP.out.gD b hR).2.1
      omega
  have q0 := hS0.c0
  have q1 := hS0.c1
  have HS0 := hid hS0
  have GKB := hid gkb
  have HKB : Hid (kb ≤ kb) := hid (Nat.le_refl _)
  clear e0 e1 e2 e3 e4 e5 e6 kc hS0 gkb
  obtain ⟨R, gR⟩ : ∃ R, R = T.trunc (bl t4) x3 := ⟨_, rfl⟩
  have HE : Hid (Ok3 T R.1 m) := by rw [gR]; exact hid (Ok3.trunc HT.out HL.out _ _)
  have KP : Hid (∀ W G D TD, Sf wF B kb G D pp t x T TD W → Calls Tryz.prog 35 #[.pointer (some ⟨t, 0, none⟩), .string t4, .int .i64 x3] W fun e w' => e = .returned (.int .i64 R.2) ∧ ∃ G', Sf wF B kb G' D pp t x R.1 TD w') := by
    rw [gR]
    exact hid (fun W G D TD hs => (tptrunc W t T G hs.pr.tp HT.out t4 (Nat.le_trans H4.out (by omega)) x3).mono (by rintro e w' ⟨he, k⟩; exact ⟨he, hs.prog k⟩))
  have KD : Hid (∀ W G D TP, Sf wF B kb G D pp t x TP T W → Calls Tryz.prog 36 #[.pointer (some ⟨x, 0, none⟩), .string t4, .int .i64 x3] W fun e w' => e = .returned (.int .i64 R.2) ∧ ∃ D', Sf wF B kb G D' pp t x TP R.1 w') := by
    rw [gR]
    exact hid (fun W G D TP hs => (tdtrunc W x T D hs.pr.td HT.out t4 H4.out x3 HX3.out.2).mono (by rintro e w' ⟨he, k⟩; exact ⟨he, hs.doc1 k⟩))
  clear gR
  go_wp2_with fail
  go_region_held3 (fun W => W.cell? ⟨pp, 0, none⟩ = some (.pointer (some ⟨t, 0, none⟩)) ∧ W.cell? ⟨pp, 1, none⟩ = some (.pointer (some ⟨x, 0, none⟩)) ∧ W.cell? ⟨kb, 3, none⟩ = some (.int .i64 x3) ∧ W.cell? ⟨kb, 4, none⟩ = some (.string t4)) (first | (refine ⟨?_, ?_, ?_, ?_⟩ <;> assumption) | go_keep) (first
    | (go_at_call 35; refine (KP.out _ _ _ _ (by first | exact HS2.out | exact HS0.out.drew | exact HS0.out)).mono ?_; rintro e w1 ⟨rfl, G1, hS1⟩; have z0 := hS1.c0; have z1 := hS1.c1; have zk3 := hS1.k HKB.out hsF f3; have zk4 := hS1.k HKB.out hsF f4; have HS1 := hid hS1; clear hS1)
    | (go_at_call 36; refine (KD.out _ _ _ _ (by first | exact HS1.out | exact HS0.out.drew | exact HS0.out)).mono ?_; rintro e w2 ⟨rfl, D2, hS2⟩; have y0 := hS2.c0; have y1 := hS2.c1; have yk3 := hS2.k HKB.out hsF f3; have yk4 := hS2.k HKB.out hsF f4; have HS2 := hid hS2; clear hS2)
    | fail)
  all_goals
    go_wp2_with fail
    go_ret
    first
    | exact HS1.out.done HWF.out HB.out HE.out
    | exact HS2.out.done HWF.out HB.out HE.out
    | exact HS1.out.drew.done HWF.out HB.out HE.out
    | exact HS2.out.drew.done HWF.out HB.out HE.out

end Go.Proofs.YtoknhcjneliboaaGreat

/- What the files' 'does' does: cases 11 (written by gen_tdo.py). -/
namespace Go.Proofs.YtoknhcjneliboaaGreat
open Go.RowKit Go.ChangeMaps Go.MapKept
set_option linter.unusedVariables false
set_option maxRecDepth 20000

theorem stored3 {w1 X : World} {g a : Nat} {ty : TypeId} {x y z v0 v1 v2 : Value} {ra : Obj} (h : w1.heap[g]? = some (.cells #[x, y, z] ty (0, 0))) (ha : w1.heap[a]? = some ra) (hne : a ≠ g) (e : X = ((w1.setCell ⟨g, 0, none⟩ v0).setCell ⟨g, 1, none⟩ v1).setCell ⟨g, 2, none⟩ v2) : Upd (· = g) w1 X ∧ X.heap[a]? = some ra ∧ X.heap[g]? = some (.cells #[v0, v1, v2] ty (0, 0)) := by
  subst e
  have hu : Upd (· = g) w1 (((w1.setCell ⟨g, 0, none⟩ v0).setCell ⟨g, 1, none⟩ v1).setCell ⟨g, 2, none⟩ v2) := ((Upd.setCell (F := (· = g)) w1 ⟨g, 0, none⟩ v0 rfl).trans (Upd.setCell (F := (· = g)) _ ⟨g, 1, none⟩ v1 rfl) (fun _ _ h => h)).trans (Upd.setCell (F := (· = g)) _ ⟨g, 2, none⟩ v2 rfl) (fun _ _ h => h)
  exact ⟨hu, hu.heap ha hne, heap_setCell_same _ g 2 _ _ v2 (heap_setCell_same _ g 1 _ _ v1 (heap_setCell_same w1 g 0 _ _ v0 h))⟩

theorem boxed3 {w1 X : World} {a : Nat} {ty : TypeId} {cs : Array Value} {ra : Obj} (ha : w1.heap[a]? = some ra) (e : X = w1.alloc (.cells cs ty)) : Below w1.heap.size w1 X ∧ X.heap[a]? = some ra ∧ X.heap[w1.heap.size]? = some (.cells cs ty (0, 0)) := by
  subst e
  have hb : Below w1.heap.size w1 (w1.alloc (.cells cs ty)) := (Below.refl _ _).alloc (Nat.le_refl _) _
  exact ⟨hb, (hb.block a (Array.getElem?_eq_some_iff.1 ha).1).trans ha, heap_alloc_new _ _⟩


set_option maxHeartbeats 8000000 in
theorem dof_11 (pp t x B : Nat) (G D : Nat → Prop) (T : Ft) (m : Int) (x0 x1 x2 x3 : Int) (t4 t5 : ByteArray) (ab : Option Addr) (lb cb : Nat) (bz : List Int) (w : World) (H : Pt w B G D pp t x T T) (hT : TOk T) (hL : LB T.F m) (hm : 1 ≤ m ∧ m ≤ 900000)
    (h4 : t4.size ≤ 1048576) (h5 : t5.size ≤ 1048576) (hx3n : -9223372036854775808 ≤ x3) (hx3 : x3 ≤ 9223372036854775807) (hb : Src w ab lb bz) (hbz : ∀ z ∈ bz, 0 ≤ z ∧ z < 256) (hlb : lb ≤ 140737488355328) (hcb : lb ≤ cb) (hbn : ab = none → lb = 0 ∧ cb = 0) (hbB : 0 < lb → ∀ b o, ab = some ⟨b, o, none⟩ → b < B)
    (hq : wrap64 ((IntKind.u64.wrap x0).tmod 12) = 11) :
    Calls Tryz.prog 7 #[.pointer (some ⟨pp, 0, none⟩), .agg #[.int .i64 x0, .int .i64 x1, .int .i64 x2, .int .i64 x3, .string t4, .string t5, .slice ab lb cb]] w (DoF w B pp t x m T) := by
  have hpl := H.lt
  have HB : Hid (B ≤ w.heap.size) := hid (Nat.le_trans H.gp (Nat.le_of_lt hpl))
  have HT := hid hT
  have HL := hid hL
  have HM := hid hm
  have H4 := hid h4
  have H5 := hid h5
  have HX3 := hid (And.intro hx3n hx3)
  have HSB := hid hb
  have HBZ := hid hbz
  have HBB := hid hbB
  have HBN := hid hbn
  have HLC := hid hcb
  have HLL := hid hlb
  have HML : Hid (∀ i, (T.F.P i).l ≤ 1000000) := hid (fun i => Int.le_trans (hL i) (by omega))
  have HQ := hid hq
  have HP := hid H
  have kc : Hid (∀ wx, Below w.heap.size w wx → Calls Tryz.prog 16 #[.slice ab lb cb] wx fun e w' => ∃ (av : Option Addr) (cv : Nat), e = .returned (.slice av lb cv) ∧ w'.ownsRow wx.heap.size 5 1 (.slice av lb cv) lb (bz.map (Value.int .u8)) ∧ Below wx.heap.size wx w') := hid (fun wx hbx => clone_opt ab lb cb bz wx (hb.below hbx) hlb hbn)
  clear H hT hL hm h4 h5 hx3n hx3 hb hbz hlb hcb hbn hbB hq
  go_enter Tryz.func7, Tryz.ntmps7
  go_upto_region 1 with fail
  obtain ⟨W1, gW1⟩ : ∃ W1, W1 = w.alloc (.cells #[.int .i64 x0, .int .i64 x1, .int .i64 x2, .int .i64 x3, .string t4, .string t5, .slice ab lb cb] 32) := ⟨_, rfl⟩
  rw [← gW1]
  have hb1 : Below w.heap.size w W1 := by rw [gW1]; exact (Below.refl _ _).alloc (Nat.le_refl _) _
  have hs1 : w.heap.size < W1.heap.size := by rw [gW1]; simp
  have e0 : W1.cell? ⟨w.heap.size, 0, none⟩ = some (.int .i64 x0) := by rw [gW1]; simp [go_sem]
  have e1 : W1.cell? ⟨w.heap.size, 1, none⟩ = some (.int .i64 x1) := by rw [gW1]; simp [go_sem]
  have e2 : W1.cell? ⟨w.heap.size, 2, none⟩ = some (.int .i64 x2) := by rw [gW1]; simp [go_sem]
  have e3 : W1.cell? ⟨w.heap.size, 3, none⟩ = some (.int .i64 x3) := by rw [gW1]; simp [go_sem]
  have e4 : W1.cell? ⟨w.heap.size, 4, none⟩ = some (.string t4) := by rw [gW1]; simp [go_sem]
  have e5 : W1.cell? ⟨w.heap.size, 5, none⟩ = some (.string t5) := by rw [gW1]; simp [go_sem]
  have e6 : W1.cell? ⟨w.heap.size, 6, none⟩ = some (.slice ab lb cb) := by rw [gW1]; simp [go_sem]
  have HB1 := hid hb1
  clear gW1 hb1
  go_upto_block 0 with (go_at_call 16; refine (kc.out _ HB1.out).mono ?_; rintro e wF ⟨av, cv, rfl, hG, hbF⟩; have f0 := (hbF.cell (p := ⟨w.heap.size, 0, none⟩) hs1).trans e0; have HG := hid hG; have HBF := hid hbF; clear hG hbF)
  rw [HQ.out]
  have hsF : w.heap.size < wF.heap.size := Nat.lt_of_lt_of_le hs1 HBF.out.size
  have f1 := (HBF.out.cell (p := ⟨w.heap.size, 1, none⟩) hs1).trans e1
  have f2 := (HBF.out.cell (p := ⟨w.heap.size, 2, none⟩) hs1).trans e2
  have f3 := (HBF.out.cell (p := ⟨w.heap.size, 3, none⟩) hs1).trans e3
  have f4 := (HBF.out.cell (p := ⟨w.heap.size, 4, none⟩) hs1).trans e4
  have f5 := (HBF.out.cell (p := ⟨w.heap.size, 5, none⟩) hs1).trans e5
  have f6 := (HBF.out.cell (p := ⟨w.heap.size, 6, none⟩) hs1).trans e6
  have HWF : Hid (Below w.heap.size w wF) := hid (HB1.out.trans (HBF.out.mono HB1.out.size))
  obtain ⟨kb, gkb⟩ : ∃ kb, kb = w.heap.size := ⟨_, rfl⟩
  rw [← gkb] at f0 f1 f2 f3 f4 f5 f6 hsF ⊢
  have hS0 : Sf wF B kb G D pp t x T T wF := by
    have h := HP.out.grow HWF.out
    refine ⟨h, Upd.refl _ _, fun b hk hb => ⟨hb, fun e => ?_, fun hG => ?_, fun hR => ?_⟩⟩
    · omega
    · have h1 := (HP.out.gG b hG).2.1
      omega
    · have h1 := (HP.out.gD b hR).2.1
      omega
  have q0 := hS0.c0
  have q1 := hS0.c1
  have HS0 := hid hS0
  have GKB := hid gkb
  have HKB : Hid (kb ≤ kb) := hid (Nat.le_refl _)
  clear e0 e1 e2 e3 e4 e5 e6 kc hS0 gkb
  obtain ⟨R, gR⟩ : ∃ R, R = T.stat (bl t4) := ⟨_, rfl⟩
  have HE : Hid (Ok3 T T m) := hid (Ok3.refl HT.out HL.out)
  have KP : Hid (∀ W, Sf wF B kb G D pp t x T T W → Calls Tryz.prog 37 #[.pointer (some ⟨t, 0, none⟩), .string t4] W fun e w' => e = .returned (.tuple #[.agg #[.int .i64 R.1, .int .i64 R.2.1, .int .i64 R.2.2.1], .int .i64 R.2.2.2]) ∧ Sf wF B kb G D pp t x T T w' ∧ Below W.heap.size W w') := by
    rw [gR]
    exact hid (fun W hs => (tpstat W t T G hs.pr.tp HT.out t4 (Nat.le_trans H4.out (by omega))).mono (by rintro e w' ⟨he, k⟩; exact ⟨he, hs.grow k, k⟩))
  have KD : Hid (∀ W, Sf wF B kb G D pp t x T T W → Calls Tryz.prog 38 #[.pointer (some ⟨x, 0, none⟩), .string t4] W fun e w' => e = .returned (.tuple #[.agg #[.int .i64 R.1, .int .i64 R.2.1, .int .i64 R.2.2.1], .int .i64 R.2.2.2]) ∧ Sf wF B kb G D pp t x T T w' ∧ Below W.heap.size W w') := by
    rw [gR]
    exact hid (fun W hs => (tdstat W x T D hs.pr.td HT.out t4 H4.out).mono (by rintro e w' ⟨he, k⟩; exact ⟨he, hs.grow k, k⟩))
  clear gR
  go_wp2_with fail
  go_cut [35, 36] (fun v35 v36 wx => ∃ a, v35 = .pointer (some ⟨a, 0, none⟩) ∧ v36 = .int .i64 R.2.2.2 ∧ Hid (Sf wF B kb G D pp t x T T wx) ∧ Hid (wx.heap[a]? = some (.cells #[.int .i64 R.1, .int .i64 R.2.1, .int .i64 R.2.2.1] 87 (0, 0))))
  case first =>
    have HRA := hid HS0.out.pr.box
    have hpF := HS0.out.pr.lt
    have hnp : pp ≠ wF.heap.size := by have := HS0.out.pr.lt; omega
    have hnk : kb ≠ wF.heap.size := by have := HS0.out.up.size; omega
    have HA : Hid (Sf wF B kb G D pp t x T T (wF.alloc (.cells #[.int .i64 0, .int .i64 0, .int .i64 0] 87)).drew) := hid (HS0.out.grow ((Below.refl _ _).alloc (Nat.le_refl _) (.cells #[.int .i64 0, .int .i64 0, .int .i64 0] 87))).drew
    go_region_held3 (fun W => W.cell? ⟨pp, 0, none⟩ = some (.pointer (some ⟨t, 0, none⟩)) ∧ W.cell? ⟨pp, 1, none⟩ = some (.pointer (some ⟨x, 0, none⟩)) ∧ W.cell? ⟨kb, 4, none⟩ = some (.string t4)) (first | (refine ⟨?_, ?_, ?_⟩ <;> assumption) | (refine ⟨?_, ?_, ?_⟩ <;> first | exact HA.out.c0 | exact HA.out.c1 | exact HA.out.k HKB.out hsF f4) | (refine ⟨?_, ?_, ?_⟩ <;> first | (rw [cell_set_other _ _ _ _ _ hnp, cell_set_other _ _ _ _ _ hnp, cell_set_other _ _ _ _ _ hnp]; assumption) | (rw [cell_set_other _ _ _ _ _ hnk, cell_set_other _ _ _ _ _ hnk, cell_set_other _ _ _ _ _ hnk]; assumption)) | go_keep) (first
      | (go_at_call 37; refine (KP.out _ (by first | exact HS0.out.drew | exact HS0.out)).mono ?_; rintro e w1 ⟨rfl, hS1, hb⟩; have HAL : Hid (w1.heap[pp]? = wF.heap[pp]?) := hid (hb.block pp hpF); have z0 := hS1.c0; have z1 := hS1.c1; have zk4 := hS1.k HKB.out hsF f4; have HS1 := hid hS1; clear hS1 hb)
      | (go_at_call 37; refine (KP.out _ HA.out).mono ?_; rintro e w1 ⟨rfl, hS1, hb⟩; obtain ⟨hal1, hrow, hlz⟩ := box_kept hpF hb; have HAL : Hid (w1.heap[pp]? = wF.heap[pp]?) := hid hal1; have HOT : Hid (Oty w1 G D pp wF.heap.size) := hid (HS0.out.new (Nat.le_refl _) hlz); have hr0 : w1.cell? ⟨wF.heap.size, 0, none⟩ = some (.int .i64 0) := (by rw [cell_of_row _ _ 0 _ _ _ hrow]; rfl); have hr1 : w1.cell? ⟨wF.heap.size, 1, none⟩ = some (.int .i64 0) := (by rw [cell_of_row _ _ 1 _ _ _ hrow]; rfl); have hr2 : w1.cell? ⟨wF.heap.size, 2, none⟩ = some (.int .i64 0) := (by rw [cell_of_row _ _ 2 _ _ _ hrow]; rfl); have hf0 : w1.frozen? ⟨wF.heap.size, 0, none⟩ = false := (by simp [World.frozen?, hrow]); have hf1 : w1.frozen? ⟨wF.heap.size, 1, none⟩ = false := (by simp [World.frozen?, hrow]); have hf2 : w1.frozen? ⟨wF.heap.size, 2, none⟩ = false := (by simp [World.frozen?, hrow]); have HROW := hid hrow; clear hrow; have z0 := hS1.c0; have z1 := hS1.c1; have zk4 := hS1.k HKB.out hsF f4; have HS1 := hid hS1; clear hS1 hb hlz hal1)
      | fail)
    all_goals
      have hra1 := HAL.out.trans HRA.out
      first
      | (have hr9 := HROW.out
         obtain ⟨X, gX⟩ : ∃ X, X = ((w1.setCell ⟨wF.heap.size, 0, none⟩ (.int .i64 R.1)).setCell ⟨wF.heap.size, 1, none⟩ (.int .i64 R.2.1)).setCell ⟨wF.heap.size, 2, none⟩ (.int .i64 R.2.2.1) := ⟨_, rfl⟩
         rw [← gX]
         have hx := stored3 hr9 hra1 (by omega) gX
         have hst : Sf wF B kb G D pp t x T T X := HS1.out.upd hx.1 (fun b _ e => by have e' : b = wF.heap.size := e; rw [e']; exact HOT.out) (fun b e => by have e' : b = wF.heap.size := e; have := HS0.out.up.size; omega)
         have hha := hx.2.1
         have hhb := hx.2.2
         clear gX hx hr9 HROW HOT hr0 hr1 hr2 hf0 hf1 hf2
         obtain ⟨b, gb⟩ : ∃ b, b = wF.heap.size := ⟨_, rfl⟩
         rw [← gb] at hhb ⊢
         clear gb
         generalize X = w4 at hst hha hhb ⊢
         have HST := hid hst
         have HHA := hid hha
         have HHB := hid hhb
         clear hst hha hhb)
      | (obtain ⟨X, gX⟩ : ∃ X, X = w1.alloc (.cells #[.int .i64 R.1, .int .i64 R.2.1, .int .i64 R.2.2.1] 87) := ⟨_, rfl⟩
         rw [← gX]
         have hx := boxed3 hra1 gX
         have hst : Sf wF B kb G D pp t x T T X := HS1.out.grow hx.1
         have hha := hx.2.1
         have hhb := hx.2.2
         clear gX hx
         obtain ⟨b, gb⟩ : ∃ b, b = w1.heap.size := ⟨_, rfl⟩
         rw [← gb] at hhb ⊢
         clear gb
         generalize X = w4 at hst hha hhb ⊢
         have HST := hid hst
         have HHA := hid hha
         have HHB := hid hhb
         clear hst hha hhb)
      clear hra1 HAL HRA HS1
    all_goals
      go_wp2_with fail
      go_meet
      case rel =>
        first
        | exact ⟨b, rfl, rfl, HST, HHB⟩
        | exact ⟨b, rfl, rfl, hid HST.out.drew, HHB⟩
  case rest =>
    obtain ⟨a, rfl, rfl, HX, HRA⟩ := hcut
    obtain ⟨w3, gw3⟩ : ∃ w3, w3 = wc := ⟨_, rfl⟩
    rw [← gw3] at HX HRA ⊢
    clear gw3
    have hS3 := HX.out
    have v0 := hS3.c0
    have v1 := hS3.c1
    have vk4 := hS3.k HKB.out hsF f4
    have hal : a < w3.heap.size := (Array.getElem?_eq_some_iff.1 HRA.out).1
    have HS3 := hid hS3
    clear hS3 HX
    go_wp2_with fail
    have hnp : pp ≠ w3.heap.size := by have := HS3.out.pr.lt; omega
    have hnk : kb ≠ w3.heap.size := by have := HS3.out.up.size; omega
    have HA : Hid (Sf wF B kb G D pp t x T T (w3.alloc (.cells #[.int .i64 0, .int .i64 0, .int .i64 0] 87)).drew) := hid (HS3.out.grow ((Below.refl _ _).alloc (Nat.le_refl _) (.cells #[.int .i64 0, .int .i64 0, .int .i64 0] 87))).drew
    go_region_held3 (fun W => W.cell? ⟨pp, 0, none⟩ = some (.pointer (some ⟨t, 0, none⟩)) ∧ W.cell? ⟨pp, 1, none⟩ = some (.pointer (some ⟨x, 0, none⟩)) ∧ W.cell? ⟨kb, 4, none⟩ = some (.string t4)) (first | (refine ⟨?_, ?_, ?_⟩ <;> assumption) | (refine ⟨?_, ?_, ?_⟩ <;> first | exact HA.out.c0 | exact HA.out.c1 | exact HA.out.k HKB.out hsF f4) | (refine ⟨?_, ?_, ?_⟩ <;> first | (rw [cell_set_other _ _ _ _ _ hnp, cell_set_other _ _ _ _ _ hnp, cell_set_other _ _ _ _ _ hnp]; assumption) | (rw [cell_set_other _ _ _ _ _ hnk, cell_set_other _ _ _ _ _ hnk, cell_set_other _ _ _ _ _ hnk]; assumption)) | go_keep) (first
      | (go_at_call 38; refine (KD.out _ (by first | exact HS3.out.drew | exact HS3.out)).mono ?_; rintro e w1 ⟨rfl, hS1, hb⟩; have HAL : Hid (w1.heap[a]? = w3.heap[a]?) := hid (hb.block a hal); have z0 := hS1.c0; have z1 := hS1.c1; have zk4 := hS1.k HKB.out hsF f4; have HS1 := hid hS1; clear hS1 hb)
      | (go_at_call 38; refine (KD.out _ HA.out).mono ?_; rintro e w1 ⟨rfl, hS1, hb⟩; obtain ⟨hal1, hrow, hlz⟩ := box_kept hal hb; have HAL : Hid (w1.heap[a]? = w3.heap[a]?) := hid hal1; have HOT : Hid (Oty w1 G D pp w3.heap.size) := hid (HS3.out.new (Nat.le_refl _) hlz); have hr0 : w1.cell? ⟨w3.heap.size, 0, none⟩ = some (.int .i64 0) := (by rw [cell_of_row _ _ 0 _ _ _ hrow]; rfl); have hr1 : w1.cell? ⟨w3.heap.size, 1, none⟩ = some (.int .i64 0) := (by rw [cell_of_row _ _ 1 _ _ _ hrow]; rfl); have hr2 : w1.cell? ⟨w3.heap.size, 2, none⟩ = some (.int .i64 0) := (by rw [cell_of_row _ _ 2 _ _ _ hrow]; rfl); have hf0 : w1.frozen? ⟨w3.heap.size, 0, none⟩ = false := (by simp [World.frozen?, hrow]); have hf1 : w1.frozen? ⟨w3.heap.size, 1, none⟩ = false := (by simp [World.frozen?, hrow]); have hf2 : w1.frozen? ⟨w3.heap.size, 2, none⟩ = false := (by simp [World.frozen?, hrow]); have HROW := hid hrow; clear hrow; have z0 := hS1.c0; have z1 := hS1.c1; have zk4 := hS1.k HKB.out hsF f4; have HS1 := hid hS1; clear hS1 hb hlz hal1)
      | fail)
    all_goals
      have hra1 := HAL.out.trans HRA.out
      first
      | (have hr9 := HROW.out
         obtain ⟨X, gX⟩ : ∃ X, X = ((w1.setCell ⟨w3.heap.size, 0, none⟩ (.int .i64 R.1)).setCell ⟨w3.heap.size, 1, none⟩ (.int .i64 R.2.1)).setCell ⟨w3.heap.size, 2, none⟩ (.int .i64 R.2.2.1) := ⟨_, rfl⟩
         rw [← gX]
         have hx := stored3 hr9 hra1 (by omega) gX
         have hst : Sf wF B kb G D pp t x T T X := HS1.out.upd hx.1 (fun b _ e => by have e' : b = w3.heap.size := e; rw [e']; exact HOT.out) (fun b e => by have e' : b = w3.heap.size := e; have := HS3.out.up.size; omega)
         have hha := hx.2.1
         have hhb := hx.2.2
         clear gX hx hr9 HROW HOT hr0 hr1 hr2 hf0 hf1 hf2
         obtain ⟨b, gb⟩ : ∃ b, b = w3.heap.size := ⟨_, rfl⟩
         rw [← gb] at hhb ⊢
         clear gb
         generalize X = w4 at hst hha hhb ⊢
         have HST := hid hst
         have HHA := hid hha
         have HHB := hid hhb
         clear hst hha hhb)
      | (obtain ⟨X, gX⟩ : ∃ X, X = w1.alloc (.cells #[.int .i64 R.1, .int .i64 R.2.1, .int .i64 R.2.2.1] 87) := ⟨_, rfl⟩
         rw [← gX]
         have hx := boxed3 hra1 gX
         have hst : Sf wF B kb G D pp t x T T X := HS1.out.grow hx.1
         have hha := hx.2.1
         have hhb := hx.2.2
         clear gX hx
         obtain ⟨b, gb⟩ : ∃ b, b = w1.heap.size := ⟨_, rfl⟩
         rw [← gb] at hhb ⊢
         clear gb
         generalize X = w4 at hst hha hhb ⊢
         have HST := hid hst
         have HHA := hid hha
         have HHB := hid hhb
         clear hst hha hhb)
      clear hra1 HAL HRA HS1
    all_goals
      have c0 : w4.cell? ⟨a, 0, none⟩ = some (.int .i64 R.1) := by rw [cell_of_row _ _ 0 _ _ _ HHA.out]; rfl
      have c1 : w4.cell? ⟨a, 1, none⟩ = some (.int .i64 R.2.1) := by rw [cell_of_row _ _ 1 _ _ _ HHA.out]; rfl
      have c2 : w4.cell? ⟨a, 2, none⟩ = some (.int .i64 R.2.2.1) := by rw [cell_of_row _ _ 2 _ _ _ HHA.out]; rfl
      have d0 : w4.cell? ⟨b, 0, none⟩ = some (.int .i64 R.1) := by rw [cell_of_row _ _ 0 _ _ _ HHB.out]; rfl
      have d1 : w4.cell? ⟨b, 1, none⟩ = some (.int .i64 R.2.1) := by rw [cell_of_row _ _ 1 _ _ _ HHB.out]; rfl
      have d2 : w4.cell? ⟨b, 2, none⟩ = some (.int .i64 R.2.2.1) := by rw [cell_of_row _ _ 2 _ _ _ HHB.out]; rfl
      go_wp2_with fail
      go_ret
      first
      | exact HST.out.done HWF.out HB.out HE.out
      | exact HST.out.drew.done HWF.out HB.out HE.out

end Go.Proofs.YtoknhcjneliboaaGreat
