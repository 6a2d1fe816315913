/- Texts of this seat, merged. -/
import Derived.Test.YtoknhcjneliboaaGreatFMg44
import Derived.Deep.RegionHeld3
import Derived.Deep.DeepCutAuto
import Derived.Deep.CutBlock
import Derived.Test.YtoknhcjneliboaaGreatFMg1
import Derived.WalkMore

/- What the files' 'does' does: cases 5, 9, 10 (written by gen_tdo.py). -/
namespace Go.Proofs.YtoknhcjneliboaaGreat
open Go.RowKit Go.ChangeMaps Go.MapKept
set_option linter.unusedVariables false
set_option maxRecDepth 20000

set_option maxHeartbeats 8000000 in
theorem dof_5 (pp t x B : Nat) (G D : Nat → Prop) (T : Ft) (m : Int) (x0 x1 x2 x3 : Int) (t4 t5 : ByteArray) (ab : Option Addr) (lb cb : Nat) (bz : List Int) (w : World) (H : Pt w B G D pp t x T T) (hT : TOk T) (hL : LB T.F m) (hm : 1 ≤ m ∧ m ≤ 900000)
    (h4 : t4.size ≤ 1048576) (h5 : t5.size ≤ 1048576) (hx3n : -9223372036854775808 ≤ x3) (hx3 : x3 ≤ 9223372036854775807) (hb : Src w ab lb bz) (hbz : ∀ z ∈ bz, 0 ≤ z ∧ z < 256) (hlb : lb ≤ 140737488355328) (hcb : lb ≤ cb) (hbn : ab = none → lb = 0 ∧ cb = 0) (hbB : 0 < lb → ∀ b o, ab = some ⟨b, o, none⟩ → b < B)
    (hq : wrap64 ((IntKind.u64.wrap x0).tmod 12) = 5) :
    Calls Tryz.prog 7 #[.pointer (some ⟨pp, 0, none⟩), .agg #[.int .i64 x0, .int .i64 x1, .int .i64 x2, .int .i64 x3, .string t4, .string t5, .slice ab lb cb]] w (DoF w B pp t x m T) := by
  have hpl := H.lt
  have HB : Hid (B ≤ w.heap.size) := hid (Nat.le_trans H.gp (Nat.le_of_lt hpl))
  have HT := hid hT
  have HL := hid hL
  have HM := hid hm
  have H4 := hid h4
  have H5 := hid h5
  have HX3 := hid (And.intro hx3n hx3)
  have HSB := hid hb
  have HBZ := hid hbz
  have HBB := hid hbB
  have HBN := hid hbn
  have HLC := hid hcb
  have HLL := hid hlb
  have HML : Hid (∀ i, (T.F.P i).l ≤ 1000000) := hid (fun i => Int.le_trans (hL i) (by omega))
  have HQ := hid hq
  have HP := hid H
  have kc : Hid (∀ wx, Below w.heap.size w wx → Calls Tryz.prog 16 #[.slice ab lb cb] wx fun e w' => ∃ (av : Option Addr) (cv : Nat), e = .returned (.slice av lb cv) ∧ w'.ownsRow wx.heap.size 5 1 (.slice av lb cv) lb (bz.map (Value.int .u8)) ∧ Below wx.heap.size wx w') := hid (fun wx hbx => clone_opt ab lb cb bz wx (hb.below hbx) hlb hbn)
  clear H hT hL hm h4 h5 hx3n hx3 hb hbz hlb hcb hbn hbB hq
  go_enter Tryz.func7, Tryz.ntmps7
  go_upto_region 1 with fail
  obtain ⟨W1, gW1⟩ : ∃ W1, W1 = w.alloc (.cells #[.int .i64 x0, .int .i64 x1, .int .i64 x2, .int .i64 x3, .string t4, .string t5, .slice ab lb cb] 32) := ⟨_, rfl⟩
  rw [← gW1]
  have hb1 : Below w.heap.size w W1 := by rw [gW1]; exact (Below.refl _ _).alloc (Nat.le_refl _) _
  have hs1 : w.heap.size < W1.heap.size := by rw [gW1]; simp
  have e0 : W1.cell? ⟨w.heap.size, 0, none⟩ = some (.int .i64 x0) := by rw [gW1]; simp [go_sem]
  have e1 : W1.cell? ⟨w.heap.size, 1, none⟩ = some (.int .i64 x1) := by rw [gW1]; simp [go_sem]
  have e2 : W1.cell? ⟨w.heap.size, 2, none⟩ = some (.int .i64 x2) := by rw [gW1]; simp [go_sem]
  have e3 : W1.cell? ⟨w.heap.size, 3, none⟩ = some (.int .i64 x3) := by rw [gW1]; simp [go_sem]
  have e4 : W1.cell? ⟨w.heap.size, 4, none⟩ = some (.string t4) := by rw [gW1]; simp [go_sem]
  have e5 : W1.cell? ⟨w.heap.size, 5, none⟩ = some (.string t5) := by rw [gW1]; simp [go_sem]
  have e6 : W1.cell? ⟨w.heap.size, 6, none⟩ = some (.slice ab lb cb) := by rw [gW1]; simp [go_sem]
  have HB1 := hid hb1
  clear gW1 hb1
  go_upto_block 0 with (go_at_call 16; refine (kc.out _ HB1.out).mono ?_; rintro e wF ⟨av, cv, rfl, hG, hbF⟩; have f0 := (hbF.cell (p := ⟨w.heap.size, 0, none⟩) hs1).trans e0; have HG := hid hG; have HBF := hid hbF; clear hG hbF)
  rw [HQ.out]
  have hsF : w.heap.size < wF.heap.size := Nat.lt_of_lt_of_le hs1 HBF.out.size
  have f1 := (HBF.out.cell (p := ⟨w.heap.size, 1, none⟩) hs1).trans e1
  have f2 := (HBF.out.cell (p := ⟨w.heap.size, 2, none⟩) hs1).trans e2
  have f3 := (HBF.out.cell (p := ⟨w.heap.size, 3, none⟩) hs1).trans e3
  have f4 := (HBF.out.cell (p := ⟨w.heap.size, 4, none⟩) hs1).trans e4
  have f5 := (HBF.out.cell (p := ⟨w.heap.size, 5, none⟩) hs1).trans e5
  have f6 := (HBF.out.cell (p := ⟨w.heap.size, 6, none⟩) hs1).trans e6
  have HWF : Hid (Below w.heap.size w wF) := hid (HB1.out.trans (HBF.out.mono HB1.out.size))
  obtain ⟨kb, gkb⟩ : ∃ kb, kb = w.heap.size := ⟨_, rfl⟩
  rw [← gkb] at f0 f1 f2 f3 f4 f5 f6 hsF ⊢
  have hS0 : Sf wF B kb G D pp t x T T wF := by
    have h := HP.out.grow HWF.out
    refine ⟨h, Upd.refl _ _, fun b hk hb => ⟨hb, fun e => ?_, fun hG => ?_, fun hR => ?_⟩⟩
    · omega
    · have h1 := (HP.out.gG b hG).2.1
      omega
    · have h1 := (HP.out.gD b hR).2.1
      omega
  have q0 := hS0.c0
  have q1 := hS0.c1
  have HS0 := hid hS0
  have GKB := hid gkb
  have HKB : Hid (kb ≤ kb) := hid (Nat.le_refl _)
  clear e0 e1 e2 e3 e4 e5 e6 kc hS0 gkb
  obtain ⟨R, gR⟩ : ∃ R, R = T.write x1 bz := ⟨_, rfl⟩
  have HE : Hid (Ok3 T R.1 m) := by rw [gR]; exact hid (Ok3.write HT.out HL.out _ _ HBZ.out)
  have hkW : kb ≤ W1.heap.size := by rw [GKB.out]; exact Nat.le_of_lt hs1
  have HKW := hid hkW
  have HGV : Hid (∀ W G D TP TD, Sf wF B kb G D pp t x TP TD W → W.ownsRow W1.heap.size 5 1 (.slice av lb cv) lb (bz.map (Value.int .u8))) := hid (fun W G D TP TD hs => hs.up.own HG.out (fun b hb q => by have := (HG.out.lt b hb).1; have := q.2; omega))
  have HSW : Hid (∀ W G D TP TD, Sf wF B kb G D pp t x TP TD W → Src W ab lb bz) := hid (fun W G D TP TD hs => Src.updL hs.up (HSB.out.below HWF.out) (fun hl b o e q => absurd q.1 (Nat.not_le_of_lt (HBB.out hl b o e))))
  have KP : Hid (∀ W G D TD, Sf wF B kb G D pp t x T TD W → Calls Tryz.prog 25 #[.pointer (some ⟨t, 0, none⟩), .int .i64 x1, .slice av lb cv] W fun e w' => e = .returned (.tuple #[.int .i64 R.2.1, .bool R.2.2.1, .int .i64 R.2.2.2]) ∧ ∃ G', Sf wF B kb G' D pp t x R.1 TD w') := by
    rw [gR]
    exact hid (fun W G D TD hs => (tpwrite W t T G hs.pr.tp HT.out x1 av lb cv bz (own_src (HGV.out _ _ _ _ _ hs)) (fun b o e => (hs.ot b (Nat.le_trans HKW.out (own_at HG.out b o e).1) (own_at HG.out b o e).2).2.2.1)).mono (by rintro e w' ⟨he, k⟩; exact ⟨he, hs.prog k⟩))
  have KD : Hid (∀ W G D TP, Sf wF B kb G D pp t x TP T W → Calls Tryz.prog 26 #[.pointer (some ⟨x, 0, none⟩), .int .i64 x1, .slice ab lb cb] W fun e w' => e = .returned (.tuple #[.int .i64 R.2.1, .bool R.2.2.1, .int .i64 R.2.2.2]) ∧ ∃ D', Sf wF B kb G D' pp t x TP R.1 w') := by
    rw [gR]
    exact hid (fun W G D TP hs => (tdwrite W x T D hs.pr.td HT.out x1 ab lb cb bz (HSW.out _ _ _ _ _ hs) (fun h0 b o e hD => absurd (hs.pr.gD b hD).1 (Nat.not_le_of_lt (HBB.out h0 b o e))) HLC.out HLL.out).mono (by rintro e w' ⟨he, k⟩; exact ⟨he, hs.doc1 k⟩))
  clear gR hkW
  go_wp2_with fail
  go_region_held3 (fun W => W.cell? ⟨pp, 0, none⟩ = some (.pointer (some ⟨t, 0, none⟩)) ∧ W.cell? ⟨pp, 1, none⟩ = some (.pointer (some ⟨x, 0, none⟩)) ∧ W.cell? ⟨kb, 1, none⟩ = some (.int .i64 x1) ∧ W.cell? ⟨kb, 6, none⟩ = some (.slice ab lb cb)) (first | (refine ⟨?_, ?_, ?_, ?_⟩ <;> assumption) | go_keep) (first
    | (go_at_call 25; refine (KP.out _ _ _ _ (by first | exact HS0.out.drew | exact HS0.out)).mono ?_; rintro e w1 ⟨rfl, G1, hS1⟩; have z0 := hS1.c0; have z1 := hS1.c1; have zk1 := hS1.k HKB.out hsF f1; have zk6 := hS1.k HKB.out hsF f6; have HS1 := hid hS1; clear hS1)
    | fail)
  go_wp2_with fail
  go_region_held3 (fun W => W.cell? ⟨pp, 0, none⟩ = some (.pointer (some ⟨t, 0, none⟩)) ∧ W.cell? ⟨pp, 1, none⟩ = some (.pointer (some ⟨x, 0, none⟩)) ∧ W.cell? ⟨kb, 1, none⟩ = some (.int .i64 x1) ∧ W.cell? ⟨kb, 6, none⟩ = some (.slice ab lb cb)) (first | (refine ⟨?_, ?_, ?_, ?_⟩ <;> assumption) | go_keep) (first
    | (go_at_call 26; refine (KD.out _ _ _ _ (by first | exact HS1.out.drew | exact HS1.out)).mono ?_; rintro e w2 ⟨rfl, D2, hS2⟩; have y0 := hS2.c0; have y1 := hS2.c1; have yk1 := hS2.k HKB.out hsF f1; have yk6 := hS2.k HKB.out hsF f6; have HS2 := hid hS2; clear hS2)
    | fail)
  have HO3 := hid (HGV.out _ _ _ _ _ HS2.out)
  have HO4 := hid (HGV.out _ _ _ _ _ HS2.out.drew)
  have HN3 : Hid (∀ b, (Value.slice av lb cv).ownBlock = some b → kb ≤ b ∧ b < wF.heap.size ∧ B ≤ b) := hid (fun b hb => ⟨Nat.le_trans HKW.out (HG.out.lt b hb).1, (HG.out.lt b hb).2, Nat.le_trans HB.out (by rw [← GKB.out]; exact Nat.le_trans HKW.out (HG.out.lt b hb).1)⟩)
  go_wp2_with (first
    | (go_at_call 23; first
        | (refine (equal_yes av ab lb cv lb cb bz w2.drew (own_src HO4.out) (HSW.out _ _ _ _ _ HS2.out.drew)).mono ?_; rintro e wz ⟨rfl, hwz⟩; subst wz)
        | (refine (equal_yes av ab lb cv lb cb bz w2 (own_src HO3.out) (HSW.out _ _ _ _ _ HS2.out)).mono ?_; rintro e wz ⟨rfl, hwz⟩; subst wz))
    | (go_at_call 24; first
        | (refine (spoil_any _ lb cv av bz w2.drew _ rfl HO4.out HLL.out).mono ?_; rintro e w4 ⟨rfl, hu4⟩; have HU4 := hid hu4; clear hu4)
        | (refine (spoil_any _ lb cv av bz w2 _ rfl HO3.out HLL.out).mono ?_; rintro e w4 ⟨rfl, hu4⟩; have HU4 := hid hu4; clear hu4)))
  go_ret
  first
  | exact HS2.out.drew.doneU HU4.out (fun b _ hu => HS2.out.drew.ot b (HN3.out b hu).1 (HN3.out b hu).2.1) (fun b hu => (HN3.out b hu).2.2) HWF.out HB.out HE.out
  | exact HS2.out.doneU HU4.out (fun b _ hu => HS2.out.ot b (HN3.out b hu).1 (HN3.out b hu).2.1) (fun b hu => (HN3.out b hu).2.2) HWF.out HB.out HE.out

set_option maxHeartbeats 8000000 in
theorem dof_9 (pp t x B : Nat) (G D : Nat → Prop) (T : Ft) (m : Int) (x0 x1 x2 x3 : Int) (t4 t5 : ByteArray) (ab : Option Addr) (lb cb : Nat) (bz : List Int) (w : World) (H : Pt w B G D pp t x T T) (hT : TOk T) (hL : LB T.F m) (hm : 1 ≤ m ∧ m ≤ 900000)
    (h4 : t4.size ≤ 1048576) (h5 : t5.size ≤ 1048576) (hx3n : -9223372036854775808 ≤ x3) (hx3 : x3 ≤ 9223372036854775807) (hb : Src w ab lb bz) (hbz : ∀ z ∈ bz, 0 ≤ z ∧ z < 256) (hlb : lb ≤ 140737488355328) (hcb : lb ≤ cb) (hbn : ab = none → lb = 0 ∧ cb = 0) (hbB : 0 < lb → ∀ b o, ab = some ⟨b, o, none⟩ → b < B)
    (hq : wrap64 ((IntKind.u64.wrap x0).tmod 12) = 9) :
    Calls Tryz.prog 7 #[.pointer (some ⟨pp, 0, none⟩), .agg #[.int .i64 x0, .int .i64 x1, .int .i64 x2, .int .i64 x3, .string t4, .string t5, .slice ab lb cb]] w (DoF w B pp t x m T) := by
  have hpl := H.lt
  have HB : Hid (B ≤ w.heap.size) := hid (Nat.le_trans H.gp (Nat.le_of_lt hpl))
  have HT := hid hT
  have HL := hid hL
  have HM := hid hm
  have H4 := hid h4
  have H5 := hid h5
  have HX3 := hid (And.intro hx3n hx3)
  have HSB := hid hb
  have HBZ := hid hbz
  have HBB := hid hbB
  have HBN := hid hbn
  have HLC := hid hcb
  have HLL := hid hlb
  have HML : Hid (∀ i, (T.F.P i).l ≤ 1000000) := hid (fun i => Int.le_trans (hL i) (by omega))
  have HQ := hid hq
  have HP := hid H
  have kc : Hid (∀ wx, Below w.heap.size w wx → Calls Tryz.prog 16 #[.slice ab lb cb] wx fun e w' => ∃ (av : Option Addr) (cv : Nat), e = .returned (.slice av lb cv) ∧ w'.ownsRow wx.heap.size 5 1 (.slice av lb cv) lb (bz.map (Value.int .u8)) ∧ Below wx.heap.size wx w') := hid (fun wx hbx => clone_opt ab lb cb bz wx (hb.below hbx) hlb hbn)
  clear H hT hL hm h4 h5 hx3n hx3 hb hbz hlb hcb hbn hbB hq
  go_enter Tryz.func7, Tryz.ntmps7
  go_upto_region 1 with fail
  obtain ⟨W1, gW1⟩ : ∃ W1, W1 = w.alloc (.cells #[.int .i64 x0, .int .i64 x1, .int .i64 x2, .int .i64 x3, .string t4, .string t5, .slice ab lb cb] 32) := ⟨_, rfl⟩
  rw [← gW1]
  have hb1 : Below w.heap.size w W1 := by rw [gW1]; exact (Below.refl _ _).alloc (Nat.le_refl _) _
  have hs1 : w.heap.size < W1.heap.size := by rw [gW1]; simp
  have e0 : W1.cell? ⟨w.heap.size, 0, none⟩ = some (.int .i64 x0) := by rw [gW1]; simp [go_sem]
  have e1 : W1.cell? ⟨w.heap.size, 1, none⟩ = some (.int .i64 x1) := by rw [gW1]; simp [go_sem]
  have e2 : W1.cell? ⟨w.heap.size, 2, none⟩ = some (.int .i64 x2) := by rw [gW1]; simp [go_sem]
  have e3 : W1.cell? ⟨w.heap.size, 3, none⟩ = some (.int .i64 x3) := by rw [gW1]; simp [go_sem]
  have e4 : W1.cell? ⟨w.heap.size, 4, none⟩ = some (.string t4) := by rw [gW1]; simp [go_sem]
  have e5 : W1.cell? ⟨w.heap.size, 5, none⟩ = some (.string t5) := by rw [gW1]; simp [go_sem]
  have e6 : W1.cell? ⟨w.heap.size, 6, none⟩ = some (.slice ab lb cb) := by rw [gW1]; simp [go_sem]
  have HB1 := hid hb1
  clear gW1 hb1
  go_upto_block 0 with (go_at_call 16; refine (kc.out _ HB1.out).mono ?_; rintro e wF ⟨av, cv, rfl, hG, hbF⟩; have f0 := (hbF.cell (p := ⟨w.heap.size, 0, none⟩) hs1).trans e0; have HG := hid hG; have HBF := hid hbF; clear hG hbF)
  rw [HQ.out]
  have hsF : w.heap.size < wF.heap.size := Nat.lt_of_lt_of_le hs1 HBF.out.size
  have f1 := (HBF.out.cell (p := ⟨w.heap.size, 1, none⟩) hs1).trans e1
  have f2 := (HBF.out.cell (p := ⟨w.heap.size, 2, none⟩) hs1).trans e2
  have f3 := (HBF.out.cell (p := ⟨w.heap.size, 3, none⟩) hs1).trans e3
  have f4 := (HBF.out.cell (p := ⟨w.heap.size, 4, none⟩) hs1).trans e4
  have f5 := (HBF.out.cell (p := ⟨w.heap.size, 5, none⟩) hs1).trans e5
  have f6 := (HBF.out.cell (p := ⟨w.heap.size, 6, none⟩) hs1).trans e6
  have HWF : Hid (Below w.heap.size w wF) := hid (HB1.out.trans (HBF.out.mono HB1.out.size))
  obtain ⟨kb, gkb⟩ : ∃ kb, kb = w.heap.size := ⟨_, rfl⟩
  rw [← gkb] at f0 f1 f2 f3 f4 f5 f6 hsF ⊢
  have hS0 : Sf wF B kb G D pp t x T T wF := by
    have h := HP.out.grow HWF.out
    refine ⟨h, Upd.refl _ _, fun b hk hb => ⟨hb, fun e => ?_, fun hG => ?_, fun hR => ?_⟩⟩
    · omega
    · have h1 := (HP.out.gG b hG).2.1
      omega
    · have h1 := (HP.out.gD b hR).2.1
      omega
  have q0 := hS0.c0
  have q1 := hS0.c1
  have HS0 := hid hS0
  have GKB := hid gkb
  have HKB : Hid (kb ≤ kb) := hid (Nat.le_refl _)
  clear e0 e1 e2 e3 e4 e5 e6 kc hS0 gkb
  obtain ⟨K0, gK0⟩ : ∃ K0, K0 = wrap64 (7 + wrap64 ((IntKind.u64.wrap x3).tmod 6)) := ⟨_, rfl⟩
  have GK := hid gK0.symm
  clear gK0
  obtain ⟨R, gR⟩ : ∃ R, R = T.name K0 (bl t4) (bl t5) := ⟨_, rfl⟩
  have HE : Hid (Ok3 T R.1 m) := by rw [gR]; exact hid (Ok3.name HT.out HL.out HM.out.1 _ _ _)
  have KP : Hid (∀ W G D TD, Sf wF B kb G D pp t x T TD W → Calls Tryz.prog 33 #[.pointer (some ⟨t, 0, none⟩), .int .i64 K0, .string t4, .string t5] W fun e w' => e = .returned (.int .i64 R.2) ∧ ∃ G', Sf wF B kb G' D pp t x R.1 TD w') := by
    rw [gR]
    exact hid (fun W G D TD hs => (tpname W t T G hs.pr.tp HT.out K0 t4 t5 (Nat.le_trans H4.out (by omega)) (Nat.le_trans H5.out (by omega)) HML.out).mono (by rintro e w' ⟨he, k⟩; exact ⟨he, hs.prog k⟩))
  have KD : Hid (∀ W G D TP, Sf wF B kb G D pp t x TP T W → Calls Tryz.prog 34 #[.pointer (some ⟨x, 0, none⟩), .int .i64 K0, .string t4, .string t5] W fun e w' => e = .returned (.int .i64 R.2) ∧ ∃ D', Sf wF B kb G D' pp t x TP R.1 w') := by
    rw [gR]
    exact hid (fun W G D TP hs => (tdname W x T D hs.pr.td HT.out K0 t4 t5 H4.out H5.out HML.out).mono (by rintro e w' ⟨he, k⟩; exact ⟨he, hs.doc1 k⟩))
  clear gR
  go_wp2_with fail
  go_region_held3 (fun W => W.cell? ⟨pp, 0, none⟩ = some (.pointer (some ⟨t, 0, none⟩)) ∧ W.cell? ⟨pp, 1, none⟩ = some (.pointer (some ⟨x, 0, none⟩)) ∧ W.cell? ⟨kb, 4, none⟩ = some (.string t4) ∧ W.cell? ⟨kb, 5, none⟩ = some (.string t5)) (first | (refine ⟨?_, ?_, ?_, ?_⟩ <;> assumption) | go_keep) (first
    | (go_at_call 33; (try rw [GK.out]); refine (KP.out _ _ _ _ (by first | exact HS2.out | exact HS0.out.drew | exact HS0.out)).mono ?_; rintro e w1 ⟨rfl, G1, hS1⟩; have z0 := hS1.c0; have z1 := hS1.c1; have zk4 := hS1.k HKB.out hsF f4; have zk5 := hS1.k HKB.out hsF f5; have HS1 := hid hS1; clear hS1)
    | (go_at_call 34; (try rw [GK.out]); refine (KD.out _ _ _ _ (by first | exact HS1.out | exact HS0.out.drew | exact HS0.out)).mono ?_; rintro e w2 ⟨rfl, D2, hS2⟩; have y0 := hS2.c0; have y1 := hS2.c1; have yk4 := hS2.k HKB.out hsF f4; have yk5 := hS2.k HKB.out hsF f5; have HS2 := hid hS2; clear hS2)
    | fail)
  all_goals
    go_wp2_with fail
    go_ret
    first
    | exact HS1.out.done HWF.out HB.out HE.out
    | exact HS2.out.done HWF.out HB.out HE.out
    | exact HS1.out.drew.done HWF.out HB.out HE.out
    | exact HS2.out.drew.done HWF.out HB.out HE.out

set_option maxHeartbeats 8000000 in
theorem dof_10 (pp t x B : Nat) (G D : Nat → Prop) (T : Ft) (m : Int) (x0 x1 x2 x3 : Int) (t4 t5 : ByteArray) (ab : Option Addr) (lb cb : Nat) (bz : List Int) (w : World) (H : Pt w B G D pp t x T T) (hT : TOk T) (hL : LB T.F m) (hm : 1 ≤ m ∧ m ≤ 900000)
    (h4 : t4.size ≤ 1048576) (h5 : t5.size ≤ 1048576) (hx3n : -9223372036854775808 ≤ x3) (hx3 : x3 ≤ 9223372036854775807) (hb : Src w ab lb bz) (hbz : ∀ z ∈ bz, 0 ≤ z ∧ z < 256) (hlb : lb ≤ 140737488355328) (hcb : lb ≤ cb) (hbn : ab = none → lb = 0 ∧ cb = 0) (hbB : 0 < lb → ∀ b o, ab = some ⟨b, o, none⟩ → b < B)
    (hq : wrap64 ((IntKind.u64.wrap x0).tmod 12) = 10) :
    Calls Tryz.prog 7 #[.pointer (some ⟨pp, 0, none⟩), .agg #[.int .i64 x0, .int .i64 x1, .int .i64 x2, .int .i64 x3, .string t4, .string t5, .slice ab lb cb]] w (DoF w B pp t x m T) := by
  have hpl := H.lt
  have HB : Hid (B ≤ w.heap.size) := hid (Nat.le_trans H.gp (Nat.le_of_lt hpl))
  have HT := hid hT
  have HL := hid hL
  have HM := hid hm
  have H4 := hid h4
  have H5 := hid h5
  have HX3 := hid (And.intro hx3n hx3)
  have HSB := hid hb
  have HBZ := hid hbz
  have HBB := hid hbB
  have HBN := hid hbn
  have HLC := hid hcb
  have HLL := hid hlb
  have HML : Hid (∀ i, (T.F.P i).l ≤ 1000000) := hid (fun i => Int.le_trans (hL i) (by omega))
  have HQ := hid hq
  have HP := hid H
  have kc : Hid (∀ wx, Below w.heap.size w wx → Calls Tryz.prog 16 #[.slice ab lb cb] wx fun e w' => ∃ (av : Option Addr) (cv : Nat), e = .returned (.slice av lb cv) ∧ w'.ownsRow wx.heap.size 5 1 (.slice av lb cv) lb (bz.map (Value.int .u8)) ∧ Below wx.heap.size wx w') := hid (fun wx hbx => clone_opt ab lb cb bz wx (hb.below hbx) hlb hbn)
  clear H hT hL hm h4 h5 hx3n hx3 hb hbz hlb hcb hbn hbB hq
  go_enter Tryz.func7, Tryz.ntmps7
  go_upto_region 1 with fail
  obtain ⟨W1, gW1⟩ : ∃ W1, W1 = w.alloc (.cells #[.int .i64 x0, .int .i64 x1, .int .i64 x2, .int .i64 x3, .string t4, .string t5, .slice ab lb cb] 32) := ⟨_, rfl⟩
  rw [← gW1]
  have hb1 : Below w.heap.size w W1 := by rw [gW1]; exact (Below.refl _ _).alloc (Nat.le_refl _) _
  have hs1 : w.heap.size < W1.heap.size := by rw [gW1]; simp
  have e0 : W1.cell? ⟨w.heap.size, 0, none⟩ = some (.int .i64 x0) := by rw [gW1]; simp [go_sem]
  have e1 : W1.cell? ⟨w.heap.size, 1, none⟩ = some (.int .i64 x1) := by rw [gW1]; simp [go_sem]
  have e2 : W1.cell? ⟨w.heap.size, 2, none⟩ = some (.int .i64 x2) := by rw [gW1]; simp [go_sem]
  have e3 : W1.cell? ⟨w.heap.size, 3, none⟩ = some (.int .i64 x3) := by rw [gW1]; simp [go_sem]
  have e4 : W1.cell? ⟨w.heap.size, 4, none⟩ = some (.string t4) := by rw [gW1]; simp [go_sem]
  have e5 : W1.cell? ⟨w.heap.size, 5, none⟩ = some (.string t5) := by rw [gW1]; simp [go_sem]
  have e6 : W1.cell? ⟨w.heap.size, 6, none⟩ = some (.slice ab lb cb) := by rw [gW1]; simp [go_sem]
  have HB1 := hid hb1
  clear gW1 hb1
  go_upto_block 0 with (go_at_call 16; refine (kc.out _ HB1.out).mono ?_; rintro e wF ⟨av, cv, rfl, hG, hbF⟩; have f0 := (hbF.cell (p := ⟨w.heap.size, 0, none⟩) hs1).trans e0; have HG := hid hG; have HBF := hid hbF; clear hG hbF)
  rw [HQ.out]
  have hsF : w.heap.size < wF.heap.size := Nat.lt_of_lt_of_le hs1 HBF.out.size
  have f1 := (HBF.out.cell (p := ⟨w.heap.size, 1, none⟩) hs1).trans e1
  have f2 := (HBF.out.cell (p := ⟨w.heap.size, 2, none⟩) hs1).trans e2
  have f3 := (HBF.out.cell (p := ⟨w.heap.size, 3, none⟩) hs1).trans e3
  have f4 := (HBF.out.cell (p := ⟨w.heap.size, 4, none⟩) hs1).trans e4
  have f5 := (HBF.out.cell (p := ⟨w.heap.size, 5, none⟩) hs1).trans e5
  have f6 := (HBF.out.cell (p := ⟨w.heap.size, 6, none⟩) hs1).trans e6
  have HWF : Hid (Below w.heap.size w wF) := hid (HB1.out.trans (HBF.out.mono HB1.out.size))
  obtain ⟨kb, gkb⟩ : ∃ kb, kb = w.heap.size := ⟨_, rfl⟩
  rw [← gkb] at f0 f1 f2 f3 f4 f5 f6 hsF ⊢
  have hS0 : Sf wF B kb G D pp t x T T wF := by
    have h := HP.out.grow HWF.out
    refine ⟨h, Upd.refl _ _, fun b hk hb => ⟨hb, fun e => ?_, fun hG => ?_, fun hR => ?_⟩⟩
    · omega
    · have h1 := (HP.out.gG b hG).2.1
      omega
    · have h1 := (HP.out.gD b hR).2.1
      omega
  have q0 := hS0.c0
  have q1 := hS0.c1
  have HS0 := hid hS0
  have GKB := hid gkb
  have HKB : Hid (kb ≤ kb) := hid (Nat.le_refl _)
  clear e0 e1 e2 e3 e4 e5 e6 kc hS0 gkb
  obtain ⟨R, gR⟩ : ∃ R, R = T.trunc (bl t4) x3 := ⟨_, rfl⟩
  have HE : Hid (Ok3 T R.1 m) := by rw [gR]; exact hid (Ok3.trunc HT.out HL.out _ _)
  have KP : Hid (∀ W G D TD, Sf wF B kb G D pp t x T TD W → Calls Tryz.prog 35 #[.pointer (some ⟨t, 0, none⟩), .string t4, .int .i64 x3] W fun e w' => e = .returned (.int .i64 R.2) ∧ ∃ G', Sf wF B kb G' D pp t x R.1 TD w') := by
    rw [gR]
    exact hid (fun W G D TD hs => (tptrunc W t T G hs.pr.tp HT.out t4 (Nat.le_trans H4.out (by omega)) x3).mono (by rintro e w' ⟨he, k⟩; exact ⟨he, hs.prog k⟩))
  have KD : Hid (∀ W G D TP, Sf wF B kb G D pp t x TP T W → Calls Tryz.prog 36 #[.pointer (some ⟨x, 0, none⟩), .string t4, .int .i64 x3] W fun e w' => e = .returned (.int .i64 R.2) ∧ ∃ D', Sf wF B kb G D' pp t x TP R.1 w') := by
    rw [gR]
    exact hid (fun W G D TP hs => (tdtrunc W x T D hs.pr.td HT.out t4 H4.out x3 HX3.out.2).mono (by rintro e w' ⟨he, k⟩; exact ⟨he, hs.doc1 k⟩))
  clear gR
  go_wp2_with fail
  go_region_held3 (fun W => W.cell? ⟨pp, 0, none⟩ = some (.pointer (some ⟨t, 0, none⟩)) ∧ W.cell? ⟨pp, 1, none⟩ = some (.pointer (some ⟨x, 0, none⟩)) ∧ W.cell? ⟨kb, 3, none⟩ = some (.int .i64 x3) ∧ W.cell? ⟨kb, 4, none⟩ = some (.string t4)) (first | (refine ⟨?_, ?_, ?_, ?_⟩ <;> assumption) | go_keep) (first
    | (go_at_call 35; refine (KP.out _ _ _ _ (by first | exact HS2.out | exact HS0.out.drew | exact HS0.out)).mono ?_; rintro e w1 ⟨rfl, G1, hS1⟩; have z0 := hS1.c0; have z1 := hS1.c1; have zk3 := hS1.k HKB.out hsF f3; have zk4 := hS1.k HKB.out hsF f4; have HS1 := hid hS1; clear hS1)
    | (go_at_call 36; refine (KD.out _ _ _ _ (by first | exact HS1.out | exact HS0.out.drew | exact HS0.out)).mono ?_; rintro e w2 ⟨rfl, D2, hS2⟩; have y0 := hS2.c0; have y1 := hS2.c1; have yk3 := hS2.k HKB.out hsF f3; have yk4 := hS2.k HKB.out hsF f4; have HS2 := hid hS2; clear hS2)
    | fail)
  all_goals
    go_wp2_with fail
    go_ret
    first
    | exact HS1.out.done HWF.out HB.out HE.out
    | exact HS2.out.done HWF.out HB.out HE.out
    | exact HS1.out.drew.done HWF.out HB.out HE.out
    | exact HS2.out.drew.done HWF.out HB.out HE.out

end Go.Proofs.YtoknhcjneliboaaGreat

/- What the files' 'does' does: cases 11 (written by gen_tdo.py). -/
namespace Go.Proofs.YtoknhcjneliboaaGreat
open Go.RowKit Go.ChangeMaps Go.MapKept
set_option linter.unusedVariables false
set_option maxRecDepth 20000

theorem stored3 {w1 X : World} {g a : Nat} {ty : TypeId} {x y z v0 v1 v2 : Value} {ra : Obj} (h : w1.heap[g]? = some (.cells #[x, y, z] ty (0, 0))) (ha : w1.heap[a]? = some ra) (hne : a ≠ g) (e : X = ((w1.setCell ⟨g, 0, none⟩ v0).setCell ⟨g, 1, none⟩ v1).setCell ⟨g, 2, none⟩ v2) : Upd (· = g) w1 X ∧ X.heap[a]? = some ra ∧ X.heap[g]? = some (.cells #[v0, v1, v2] ty (0, 0)) := by
  subst e
  have hu : Upd (· = g) w1 (((w1.setCell ⟨g, 0, none⟩ v0).setCell ⟨g, 1, none⟩ v1).setCell ⟨g, 2, none⟩ v2) := ((Upd.setCell (F := (· = g)) w1 ⟨g, 0, none⟩ v0 rfl).trans (Upd.setCell (F := (· = g)) _ ⟨g, 1, none⟩ v1 rfl) (fun _ _ h => h)).trans (Upd.setCell (F := (· = g)) _ ⟨g, 2, none⟩ v2 rfl) (fun _ _ h => h)
  exact ⟨hu, hu.heap ha hne, heap_setCell_same _ g 2 _ _ v2 (heap_setCell_same _ g 1 _ _ v1 (heap_setCell_same w1 g 0 _ _ v0 h))⟩

theorem boxed3 {w1 X : World} {a : Nat} {ty : TypeId} {cs : Array Value} {ra : Obj} (ha : w1.heap[a]? = some ra) (e : X = w1.alloc (.cells cs ty)) : Below w1.heap.size w1 X ∧ X.heap[a]? = some ra ∧ X.heap[w1.heap.size]? = some (.cells cs ty (0, 0)) := by
  subst e
  have hb : Below w1.heap.size w1 (w1.alloc (.cells cs ty)) := (Below.refl _ _).alloc (Nat.le_refl _) _
  exact ⟨hb, (hb.block a (Array.getElem?_eq_some_iff.1 ha).1).trans ha, heap_alloc_new _ _⟩


set_option maxHeartbeats 8000000 in
theorem dof_11 (pp t x B : Nat) (G D : Nat → Prop) (T : Ft) (m : Int) (x0 x1 x2 x3 : Int) (t4 t5 : ByteArray) (ab : Option Addr) (lb cb : Nat) (bz : List Int) (w : World) (H : Pt w B G D pp t x T T) (hT : TOk T) (hL : LB T.F m) (hm : 1 ≤ m ∧ m ≤ 900000)
    (h4 : t4.size ≤ 1048576) (h5 : t5.size ≤ 1048576) (hx3n : -9223372036854775808 ≤ x3) (hx3 : x3 ≤ 9223372036854775807) (hb : Src w ab lb bz) (hbz : ∀ z ∈ bz, 0 ≤ z ∧ z < 256) (hlb : lb ≤ 140737488355328) (hcb : lb ≤ cb) (hbn : ab = none → lb = 0 ∧ cb = 0) (hbB : 0 < lb → ∀ b o, ab = some ⟨b, o, none⟩ → b < B)
    (hq : wrap64 ((IntKind.u64.wrap x0).tmod 12) = 11) :
    Calls Tryz.prog 7 #[.pointer (some ⟨pp, 0, none⟩), .agg #[.int .i64 x0, .int .i64 x1, .int .i64 x2, .int .i64 x3, .string t4, .string t5, .slice ab lb cb]] w (DoF w B pp t x m T) := by
  have hpl := H.lt
  have HB : Hid (B ≤ w.heap.size) := hid (Nat.le_trans H.gp (Nat.le_of_lt hpl))
  have HT := hid hT
  have HL := hid hL
  have HM := hid hm
  have H4 := hid h4
  have H5 := hid h5
  have HX3 := hid (And.intro hx3n hx3)
  have HSB := hid hb
  have HBZ := hid hbz
  have HBB := hid hbB
  have HBN := hid hbn
  have HLC := hid hcb
  have HLL := hid hlb
  have HML : Hid (∀ i, (T.F.P i).l ≤ 1000000) := hid (fun i => Int.le_trans (hL i) (by omega))
  have HQ := hid hq
  have HP := hid H
  have kc : Hid (∀ wx, Below w.heap.size w wx → Calls Tryz.prog 16 #[.slice ab lb cb] wx fun e w' => ∃ (av : Option Addr) (cv : Nat), e = .returned (.slice av lb cv) ∧ w'.ownsRow wx.heap.size 5 1 (.slice av lb cv) lb (bz.map (Value.int .u8)) ∧ Below wx.heap.size wx w') := hid (fun wx hbx => clone_opt ab lb cb bz wx (hb.below hbx) hlb hbn)
  clear H hT hL hm h4 h5 hx3n hx3 hb hbz hlb hcb hbn hbB hq
  go_enter Tryz.func7, Tryz.ntmps7
  go_upto_region 1 with fail
  obtain ⟨W1, gW1⟩ : ∃ W1, W1 = w.alloc (.cells #[.int .i64 x0, .int .i64 x1, .int .i64 x2, .int .i64 x3, .string t4, .string t5, .slice ab lb cb] 32) := ⟨_, rfl⟩
  rw [← gW1]
  have hb1 : Below w.heap.size w W1 := by rw [gW1]; exact (Below.refl _ _).alloc (Nat.le_refl _) _
  have hs1 : w.heap.size < W1.heap.size := by rw [gW1]; simp
  have e0 : W1.cell? ⟨w.heap.size, 0, none⟩ = some (.int .i64 x0) := by rw [gW1]; simp [go_sem]
  have e1 : W1.cell? ⟨w.heap.size, 1, none⟩ = some (.int .i64 x1) := by rw [gW1]; simp [go_sem]
  have e2 : W1.cell? ⟨w.heap.size, 2, none⟩ = some (.int .i64 x2) := by rw [gW1]; simp [go_sem]
  have e3 : W1.cell? ⟨w.heap.size, 3, none⟩ = some (.int .i64 x3) := by rw [gW1]; simp [go_sem]
  have e4 : W1.cell? ⟨w.heap.size, 4, none⟩ = some (.string t4) := by rw [gW1]; simp [go_sem]
  have e5 : W1.cell? ⟨w.heap.size, 5, none⟩ = some (.string t5) := by rw [gW1]; simp [go_sem]
  have e6 : W1.cell? ⟨w.heap.size, 6, none⟩ = some (.slice ab lb cb) := by rw [gW1]; simp [go_sem]
  have HB1 := hid hb1
  clear gW1 hb1
  go_upto_block 0 with (go_at_call 16; refine (kc.out _ HB1.out).mono ?_; rintro e wF ⟨av, cv, rfl, hG, hbF⟩; have f0 := (hbF.cell (p := ⟨w.heap.size, 0, none⟩) hs1).trans e0; have HG := hid hG; have HBF := hid hbF; clear hG hbF)
  rw [HQ.out]
  have hsF : w.heap.size < wF.heap.size := Nat.lt_of_lt_of_le hs1 HBF.out.size
  have f1 := (HBF.out.cell (p := ⟨w.heap.size, 1, none⟩) hs1).trans e1
  have f2 := (HBF.out.cell (p := ⟨w.heap.size, 2, none⟩) hs1).trans e2
  have f3 := (HBF.out.cell (p := ⟨w.heap.size, 3, none⟩) hs1).trans e3
  have f4 := (HBF.out.cell (p := ⟨w.heap.size, 4, none⟩) hs1).trans e4
  have f5 := (HBF.out.cell (p := ⟨w.heap.size, 5, none⟩) hs1).trans e5
  have f6 := (HBF.out.cell (p := ⟨w.heap.size, 6, none⟩) hs1).trans e6
  have HWF : Hid (Below w.heap.size w wF) := hid (HB1.out.trans (HBF.out.mono HB1.out.size))
  obtain ⟨kb, gkb⟩ : ∃ kb, kb = w.heap.size := ⟨_, rfl⟩
  rw [← gkb] at f0 f1 f2 f3 f4 f5 f6 hsF ⊢
  have hS0 : Sf wF B kb G D pp t x T T wF := by
    have h := HP.out.grow HWF.out
    refine ⟨h, Upd.refl _ _, fun b hk hb => ⟨hb, fun e => ?_, fun hG => ?_, fun hR => ?_⟩⟩
    · omega
    · have h1 := (HP.out.gG b hG).2.1
      omega
    · have h1 := (HP.out.gD b hR).2.1
      omega
  have q0 := hS0.c0
  have q1 := hS0.c1
  have HS0 := hid hS0
  have GKB := hid gkb
  have HKB : Hid (kb ≤ kb) := hid (Nat.le_refl _)
  clear e0 e1 e2 e3 e4 e5 e6 kc hS0 gkb
  obtain ⟨R, gR⟩ : ∃ R, R = T.stat (bl t4) := ⟨_, rfl⟩
  have HE : Hid (Ok3 T T m) := hid (Ok3.refl HT.out HL.out)
  have KP : Hid (∀ W, Sf wF B kb G D pp t x T T W → Calls Tryz.prog 37 #[.pointer (some ⟨t, 0, none⟩), .string t4] W fun e w' => e = .returned (.tuple #[.agg #[.int .i64 R.1, .int .i64 R.2.1, .int .i64 R.2.2.1], .int .i64 R.2.2.2]) ∧ Sf wF B kb G D pp t x T T w' ∧ Below W.heap.size W w') := by
    rw [gR]
    exact hid (fun W hs => (tpstat W t T G hs.pr.tp HT.out t4 (Nat.le_trans H4.out (by omega))).mono (by rintro e w' ⟨he, k⟩; exact ⟨he, hs.grow k, k⟩))
  have KD : Hid (∀ W, Sf wF B kb G D pp t x T T W → Calls Tryz.prog 38 #[.pointer (some ⟨x, 0, none⟩), .string t4] W fun e w' => e = .returned (.tuple #[.agg #[.int .i64 R.1, .int .i64 R.2.1, .int .i64 R.2.2.1], .int .i64 R.2.2.2]) ∧ Sf wF B kb G D pp t x T T w' ∧ Below W.heap.size W w') := by
    rw [gR]
    exact hid (fun W hs => (tdstat W x T D hs.pr.td HT.out t4 H4.out).mono (by rintro e w' ⟨he, k⟩; exact ⟨he, hs.grow k, k⟩))
  clear gR
  go_wp2_with fail
  go_cut [35, 36] (fun v35 v36 wx => ∃ a, v35 = .pointer (some ⟨a, 0, none⟩) ∧ v36 = .int .i64 R.2.2.2 ∧ Hid (Sf wF B kb G D pp t x T T wx) ∧ Hid (wx.heap[a]? = some (.cells #[.int .i64 R.1, .int .i64 R.2.1, .int .i64 R.2.2.1] 87 (0, 0))))
  case first =>
    have HRA := hid HS0.out.pr.box
    have hpF := HS0.out.pr.lt
    have hnp : pp ≠ wF.heap.size := by have := HS0.out.pr.lt; omega
    have hnk : kb ≠ wF.heap.size := by have := HS0.out.up.size; omega
    have HA : Hid (Sf wF B kb G D pp t x T T (wF.alloc (.cells #[.int .i64 0, .int .i64 0, .int .i64 0] 87)).drew) := hid (HS0.out.grow ((Below.refl _ _).alloc (Nat.le_refl _) (.cells #[.int .i64 0, .int .i64 0, .int .i64 0] 87))).drew
    go_region_held3 (fun W => W.cell? ⟨pp, 0, none⟩ = some (.pointer (some ⟨t, 0, none⟩)) ∧ W.cell? ⟨pp, 1, none⟩ = some (.pointer (some ⟨x, 0, none⟩)) ∧ W.cell? ⟨kb, 4, none⟩ = some (.string t4)) (first | (refine ⟨?_, ?_, ?_⟩ <;> assumption) | (refine ⟨?_, ?_, ?_⟩ <;> first | exact HA.out.c0 | exact HA.out.c1 | exact HA.out.k HKB.out hsF f4) | (refine ⟨?_, ?_, ?_⟩ <;> first | (rw [cell_set_other _ _ _ _ _ hnp, cell_set_other _ _ _ _ _ hnp, cell_set_other _ _ _ _ _ hnp]; assumption) | (rw [cell_set_other _ _ _ _ _ hnk, cell_set_other _ _ _ _ _ hnk, cell_set_other _ _ _ _ _ hnk]; assumption)) | go_keep) (first
      | (go_at_call 37; refine (KP.out _ (by first | exact HS0.out.drew | exact HS0.out)).mono ?_; rintro e w1 ⟨rfl, hS1, hb⟩; have HAL : Hid (w1.heap[pp]? = wF.heap[pp]?) := hid (hb.block pp hpF); have z0 := hS1.c0; have z1 := hS1.c1; have zk4 := hS1.k HKB.out hsF f4; have HS1 := hid hS1; clear hS1 hb)
      | (go_at_call 37; refine (KP.out _ HA.out).mono ?_; rintro e w1 ⟨rfl, hS1, hb⟩; obtain ⟨hal1, hrow, hlz⟩ := box_kept hpF hb; have HAL : Hid (w1.heap[pp]? = wF.heap[pp]?) := hid hal1; have HOT : Hid (Oty w1 G D pp wF.heap.size) := hid (HS0.out.new (Nat.le_refl _) hlz); have hr0 : w1.cell? ⟨wF.heap.size, 0, none⟩ = some (.int .i64 0) := (by rw [cell_of_row _ _ 0 _ _ _ hrow]; rfl); have hr1 : w1.cell? ⟨wF.heap.size, 1, none⟩ = some (.int .i64 0) := (by rw [cell_of_row _ _ 1 _ _ _ hrow]; rfl); have hr2 : w1.cell? ⟨wF.heap.size, 2, none⟩ = some (.int .i64 0) := (by rw [cell_of_row _ _ 2 _ _ _ hrow]; rfl); have hf0 : w1.frozen? ⟨wF.heap.size, 0, none⟩ = false := (by simp [World.frozen?, hrow]); have hf1 : w1.frozen? ⟨wF.heap.size, 1, none⟩ = false := (by simp [World.frozen?, hrow]); have hf2 : w1.frozen? ⟨wF.heap.size, 2, none⟩ = false := (by simp [World.frozen?, hrow]); have HROW := hid hrow; clear hrow; have z0 := hS1.c0; have z1 := hS1.c1; have zk4 := hS1.k HKB.out hsF f4; have HS1 := hid hS1; clear hS1 hb hlz hal1)
      | fail)
    all_goals
      have hra1 := HAL.out.trans HRA.out
      first
      | (have hr9 := HROW.out
         obtain ⟨X, gX⟩ : ∃ X, X = ((w1.setCell ⟨wF.heap.size, 0, none⟩ (.int .i64 R.1)).setCell ⟨wF.heap.size, 1, none⟩ (.int .i64 R.2.1)).setCell ⟨wF.heap.size, 2, none⟩ (.int .i64 R.2.2.1) := ⟨_, rfl⟩
         rw [← gX]
         have hx := stored3 hr9 hra1 (by omega) gX
         have hst : Sf wF B kb G D pp t x T T X := HS1.out.upd hx.1 (fun b _ e => by have e' : b = wF.heap.size := e; rw [e']; exact HOT.out) (fun b e => by have e' : b = wF.heap.size := e; have := HS0.out.up.size; omega)
         have hha := hx.2.1
         have hhb := hx.2.2
         clear gX hx hr9 HROW HOT hr0 hr1 hr2 hf0 hf1 hf2
         obtain ⟨b, gb⟩ : ∃ b, b = wF.heap.size := ⟨_, rfl⟩
         rw [← gb] at hhb ⊢
         clear gb
         generalize X = w4 at hst hha hhb ⊢
         have HST := hid hst
         have HHA := hid hha
         have HHB := hid hhb
         clear hst hha hhb)
      | (obtain ⟨X, gX⟩ : ∃ X, X = w1.alloc (.cells #[.int .i64 R.1, .int .i64 R.2.1, .int .i64 R.2.2.1] 87) := ⟨_, rfl⟩
         rw [← gX]
         have hx := boxed3 hra1 gX
         have hst : Sf wF B kb G D pp t x T T X := HS1.out.grow hx.1
         have hha := hx.2.1
         have hhb := hx.2.2
         clear gX hx
         obtain ⟨b, gb⟩ : ∃ b, b = w1.heap.size := ⟨_, rfl⟩
         rw [← gb] at hhb ⊢
         clear gb
         generalize X = w4 at hst hha hhb ⊢
         have HST := hid hst
         have HHA := hid hha
         have HHB := hid hhb
         clear hst hha hhb)
      clear hra1 HAL HRA HS1
    all_goals
      go_wp2_with fail
      go_meet
      case rel =>
        first
        | exact ⟨b, rfl, rfl, HST, HHB⟩
        | exact ⟨b, rfl, rfl, hid HST.out.drew, HHB⟩
  case rest =>
    obtain ⟨a, rfl, rfl, HX, HRA⟩ := hcut
    obtain ⟨w3, gw3⟩ : ∃ w3, w3 = wc := ⟨_, rfl⟩
    rw [← gw3] at HX HRA ⊢
    clear gw3
    have hS3 := HX.out
    have v0 := hS3.c0
    have v1 := hS3.c1
    have vk4 := hS3.k HKB.out hsF f4
    have hal : a < w3.heap.size := (Array.getElem?_eq_some_iff.1 HRA.out).1
    have HS3 := hid hS3
    clear hS3 HX
    go_wp2_with fail
    have hnp : pp ≠ w3.heap.size := by have := HS3.out.pr.lt; omega
    have hnk : kb ≠ w3.heap.size := by have := HS3.out.up.size; omega
    have HA : Hid (Sf wF B kb G D pp t x T T (w3.alloc (.cells #[.int .i64 0, .int .i64 0, .int .i64 0] 87)).drew) := hid (HS3.out.grow ((Below.refl _ _).alloc (Nat.le_refl _) (.cells #[.int .i64 0, .int .i64 0, .int .i64 0] 87))).drew
    go_region_held3 (fun W => W.cell? ⟨pp, 0, none⟩ = some (.pointer (some ⟨t, 0, none⟩)) ∧ W.cell? ⟨pp, 1, none⟩ = some (.pointer (some ⟨x, 0, none⟩)) ∧ W.cell? ⟨kb, 4, none⟩ = some (.string t4)) (first | (refine ⟨?_, ?_, ?_⟩ <;> assumption) | (refine ⟨?_, ?_, ?_⟩ <;> first | exact HA.out.c0 | exact HA.out.c1 | exact HA.out.k HKB.out hsF f4) | (refine ⟨?_, ?_, ?_⟩ <;> first | (rw [cell_set_other _ _ _ _ _ hnp, cell_set_other _ _ _ _ _ hnp, cell_set_other _ _ _ _ _ hnp]; assumption) | (rw [cell_set_other _ _ _ _ _ hnk, cell_set_other _ _ _ _ _ hnk, cell_set_other _ _ _ _ _ hnk]; assumption)) | go_keep) (first
      | (go_at_call 38; refine (KD.out _ (by first | exact HS3.out.drew | exact HS3.out)).mono ?_; rintro e w1 ⟨rfl, hS1, hb⟩; have HAL : Hid (w1.heap[a]? = w3.heap[a]?) := hid (hb.block a hal); have z0 := hS1.c0; have z1 := hS1.c1; have zk4 := hS1.k HKB.out hsF f4; have HS1 := hid hS1; clear hS1 hb)
      | (go_at_call 38; refine (KD.out _ HA.out).mono ?_; rintro e w1 ⟨rfl, hS1, hb⟩; obtain ⟨hal1, hrow, hlz⟩ := box_kept hal hb; have HAL : Hid (w1.heap[a]? = w3.heap[a]?) := hid hal1; have HOT : Hid (Oty w1 G D pp w3.heap.size) := hid (HS3.out.new (Nat.le_refl _) hlz); have hr0 : w1.cell? ⟨w3.heap.size, 0, none⟩ = some (.int .i64 0) := (by rw [cell_of_row _ _ 0 _ _ _ hrow]; rfl); have hr1 : w1.cell? ⟨w3.heap.size, 1, none⟩ = some (.int .i64 0) := (by rw [cell_of_row _ _ 1 _ _ _ hrow]; rfl); have hr2 : w1.cell? ⟨w3.heap.size, 2, none⟩ = some (.int .i64 0) := (by rw [cell_of_row _ _ 2 _ _ _ hrow]; rfl); have hf0 : w1.frozen? ⟨w3.heap.size, 0, none⟩ = false := (by simp [World.frozen?, hrow]); have hf1 : w1.frozen? ⟨w3.heap.size, 1, none⟩ = false := (by simp [World.frozen?, hrow]); have hf2 : w1.frozen? ⟨w3.heap.size, 2, none⟩ = false := (by simp [World.frozen?, hrow]); have HROW := hid hrow; clear hrow; have z0 := hS1.c0; have z1 := hS1.c1; have zk4 := hS1.k HKB.out hsF f4; have HS1 := hid hS1; clear hS1 hb hlz hal1)
      | fail)
    all_goals
      have hra1 := HAL.out.trans HRA.out
      first
      | (have hr9 := HROW.out
         obtain ⟨X, gX⟩ : ∃ X, X = ((w1.setCell ⟨w3.heap.size, 0, none⟩ (.int .i64 R.1)).setCell ⟨w3.heap.size, 1, none⟩ (.int .i64 R.2.1)).setCell ⟨w3.heap.size, 2, none⟩ (.int .i64 R.2.2.1) := ⟨_, rfl⟩
         rw [← gX]
         have hx := stored3 hr9 hra1 (by omega) gX
         have hst : Sf wF B kb G D pp t x T T X := HS1.out.upd hx.1 (fun b _ e => by have e' : b = w3.heap.size := e; rw [e']; exact HOT.out) (fun b e => by have e' : b = w3.heap.size := e; have := HS3.out.up.size; omega)
         have hha := hx.2.1
         have hhb := hx.2.2
         clear gX hx hr9 HROW HOT hr0 hr1 hr2 hf0 hf1 hf2
         obtain ⟨b, gb⟩ : ∃ b, b = w3.heap.size := ⟨_, rfl⟩
         rw [← gb] at hhb ⊢
         clear gb
         generalize X = w4 at hst hha hhb ⊢
         have HST := hid hst
         have HHA := hid hha
         have HHB := hid hhb
         clear hst hha hhb)
      | (obtain ⟨X, gX⟩ : ∃ X, X = w1.alloc (.cells #[.int .i64 R.1, .int .i64 R.2.1, .int .i64 R.2.2.1] 87) := ⟨_, rfl⟩
         rw [← gX]
         have hx := boxed3 hra1 gX
         have hst : Sf wF B kb G D pp t x T T X := HS1.out.grow hx.1
         have hha := hx.2.1
         have hhb := hx.2.2
         clear gX hx
         obtain ⟨b, gb⟩ : ∃ b, b = w1.heap.size := ⟨_, rfl⟩
         rw [← gb] at hhb ⊢
         clear gb
         generalize X = w4 at hst hha hhb ⊢
         have HST := hid hst
         have HHA := hid hha
         have HHB := hid hhb
         clear hst hha hhb)
      clear hra1 HAL HRA HS1
    all_goals
      have c0 : w4.cell? ⟨a, 0, none⟩ = some (.int .i64 R.1) := by rw [cell_of_row _ _ 0 _ _ _ HHA.out]; rfl
      have c1 : w4.cell? ⟨a, 1, none⟩ = some (.int .i64 R.2.1) := by rw [cell_of_row _ _ 1 _ _ _ HHA.out]; rfl
      have c2 : w4.cell? ⟨a, 2, none⟩ = some (.int .i64 R.2.2.1) := by rw [cell_of_row _ _ 2 _ _ _ HHA.out]; rfl
      have d0 : w4.cell? ⟨b, 0, none⟩ = some (.int .i64 R.1) := by rw [cell_of_row _ _ 0 _ _ _ HHB.out]; rfl
      have d1 : w4.cell? ⟨b, 1, none⟩ = some (.int .i64 R.2.1) := by rw [cell_of_row _ _ 1 _ _ _ HHB.out]; rfl
      have d2 : w4.cell? ⟨b, 2, none⟩ = some (.int .i64 R.2.2.1) := by rw [cell_of_row _ _ 2 _ _ _ HHB.out]; rfl
      go_wp2_with fail
      go_ret
      first
      | exact HST.out.done HWF.out HB.out HE.out
      | exact HST.out.drew.done HWF.out HB.out HE.out

end Go.Proofs.YtoknhcjneliboaaGreat

/- What the files' 'does' does. -/
namespace Go.Proofs.YtoknhcjneliboaaGreat
open Go.RowKit Go.ChangeMaps Go.MapKept
set_option linter.unusedVariables false

theorem dof_any (pp t x B : Nat) (G D : Nat → Prop) (T : Ft) (m : Int) (x0 x1 x2 x3 : Int) (t4 t5 : ByteArray) (ab : Option Addr) (lb cb : Nat) (bz : List Int) (w : World) (H : Pt w B G D pp t x T T) (hT : TOk T) (hL : LB T.F m) (hm : 1 ≤ m ∧ m ≤ 900000)
    (h4 : t4.size ≤ 1048576) (h5 : t5.size ≤ 1048576) (hx3n : -9223372036854775808 ≤ x3) (hx3 : x3 ≤ 9223372036854775807) (hb : Src w ab lb bz) (hbz : ∀ z ∈ bz, 0 ≤ z ∧ z < 256) (hlb : lb ≤ 140737488355328) (hcb : lb ≤ cb) (hbn : ab = none → lb = 0 ∧ cb = 0) (hbB : 0 < lb → ∀ b o, ab = some ⟨b, o, none⟩ → b < B) :
    Calls Tryz.prog 7 #[.pointer (some ⟨pp, 0, none⟩), .agg #[.int .i64 x0, .int .i64 x1, .int .i64 x2, .int .i64 x3, .string t4, .string t5, .slice ab lb cb]] w (DoF w B pp t x m T) := by
  obtain ⟨s, hq, h12⟩ : ∃ s : Nat, wrap64 ((IntKind.u64.wrap x0).tmod 12) = (s : Int) ∧ s < 12 := by
    have h0 : 0 ≤ IntKind.u64.wrap x0 ∧ IntKind.u64.wrap x0 < 18446744073709551616 := by rw [IntKind.wrap_u64]; omega
    rw [Int.tmod_eq_emod_of_nonneg h0.1]
    refine ⟨(IntKind.u64.wrap x0 % 12).toNat, ?_, by omega⟩
    unfold wrap64; omega
  rcases (show s = 0 ∨ s = 1 ∨ s = 2 ∨ s = 3 ∨ s = 4 ∨ s = 5 ∨ s = 6 ∨ s = 7 ∨ s = 8 ∨ s = 9 ∨ s = 10 ∨ s = 11 by omega) with rfl | rfl | rfl | rfl | rfl | rfl | rfl | rfl | rfl | rfl | rfl | rfl
  · exact dof_0 pp t x B G D T m x0 x1 x2 x3 t4 t5 ab lb cb bz w H hT hL hm h4 h5 hx3n hx3 hb hbz hlb hcb hbn hbB hq
  · exact dof_1 pp t x B G D T m x0 x1 x2 x3 t4 t5 ab lb cb bz w H hT hL hm h4 h5 hx3n hx3 hb hbz hlb hcb hbn hbB hq
  · exact dof_2 pp t x B G D T m x0 x1 x2 x3 t4 t5 ab lb cb bz w H hT hL hm h4 h5 hx3n hx3 hb hbz hlb hcb hbn hbB hq
  · exact dof_3 pp t x B G D T m x0 x1 x2 x3 t4 t5 ab lb cb bz w H hT hL hm h4 h5 hx3n hx3 hb hbz hlb hcb hbn hbB hq
  · exact dof_4 pp t x B G D T m x0 x1 x2 x3 t4 t5 ab lb cb bz w H hT hL hm h4 h5 hx3n hx3 hb hbz hlb hcb hbn hbB hq
  · exact dof_5 pp t x B G D T m x0 x1 x2 x3 t4 t5 ab lb cb bz w H hT hL hm h4 h5 hx3n hx3 hb hbz hlb hcb hbn hbB hq
  · exact dof_6 pp t x B G D T m x0 x1 x2 x3 t4 t5 ab lb cb bz w H hT hL hm h4 h5 hx3n hx3 hb hbz hlb hcb hbn hbB hq
  · exact dof_7 pp t x B G D T m x0 x1 x2 x3 t4 t5 ab lb cb bz w H hT hL hm h4 h5 hx3n hx3 hb hbz hlb hcb hbn hbB hq
  · exact dof_8 pp t x B G D T m x0 x1 x2 x3 t4 t5 ab lb cb bz w H hT hL hm h4 h5 hx3n hx3 hb hbz hlb hcb hbn hbB hq
  · exact dof_9 pp t x B G D T m x0 x1 x2 x3 t4 t5 ab lb cb bz w H hT hL hm h4 h5 hx3n hx3 hb hbz hlb hcb hbn hbB hq
  · exact dof_10 pp t x B G D T m x0 x1 x2 x3 t4 t5 ab lb cb bz w H hT hL hm h4 h5 hx3n hx3 hb hbz hlb hcb hbn hbB hq
  · exact dof_11 pp t x B G D T m x0 x1 x2 x3 t4 t5 ab lb cb bz w H hT hL hm h4 h5 hx3n hx3 hb hbz hlb hcb hbn hbB hq

end Go.Proofs.YtoknhcjneliboaaGreat

/- The road of FilesLives. -/
namespace Go.Proofs.YtoknhcjneliboaaGreat
open Go.RowKit Go.ChangeMaps Go.MapKept
set_option linter.unusedVariables false
set_option maxRecDepth 20000

/-- Both tables behind so many calls. -/
def Lvf (w wr : World) (pp t x : Nat) (d : Int) (i : Nat) : Prop :=
  (∃ G D T, Pt wr w.heap.size G D pp t x T T ∧ TOk T ∧ LB T.F ((i : Int) + 1) ∧ T.F.d = d) ∧ Below w.heap.size w wr

/-- Both are made. -/
theorem Lvf.made {w w1 w2 : World} {t x : Nat} {d : Int} (h1 : Tp w1 t (newT d) (fun b => w.heap.size ≤ b)) (b1 : Below w.heap.size w w1) (h2 : Td w2 x (newT d) (fun b => w1.heap.size ≤ b)) (b2 : Below w1.heap.size w1 w2) :
    Lvf w (w2.alloc (Obj.cells #[.pointer (some ⟨t, 0, none⟩), .pointer (some ⟨x, 0, none⟩)] 29)) w2.heap.size t x d 0 := by
  have b3 : Below w2.heap.size w2 (w2.alloc (Obj.cells #[.pointer (some ⟨t, 0, none⟩), .pointer (some ⟨x, 0, none⟩)] 29)) := (Below.refl _ _).alloc (Nat.le_refl _) _
  have s1 := b1.size
  have s2 := b2.size
  have s3 : (w2.alloc (Obj.cells #[.pointer (some ⟨t, 0, none⟩), .pointer (some ⟨x, 0, none⟩)] 29)).heap.size = w2.heap.size + 1 := by simp
  refine ⟨⟨fun b => w.heap.size ≤ b ∧ b < w1.heap.size, fun b => w1.heap.size ≤ b ∧ b < w2.heap.size, newT d, ⟨heap_alloc_new _ _, ((h1.mono (fun b hb hG => ⟨hG, hb⟩)).grow b2).grow b3, (h2.mono (fun b hb hD => ⟨hD, hb⟩)).grow b3, ?_, ?_, Nat.le_trans s1 s2⟩, TOk.new d, ?_, rfl⟩, (b1.trans (b2.mono s1)).trans (b3.mono (Nat.le_trans s1 s2))⟩
  · intro b hb
    exact ⟨hb.1, by omega, by omega, fun q => by omega⟩
  · intro b hb
    exact ⟨by omega, by omega, by omega⟩
  · exact (LB.root d).mono (by simp)

theorem Lvf.c1 {w wr : World} {pp t x i : Nat} {d : Int} (h : Lvf w wr pp t x d i) : wr.cell? ⟨pp, 0, none⟩ = some (.pointer (some ⟨t, 0, none⟩)) := by
  obtain ⟨⟨G, D, T, h1, _⟩, _⟩ := h
  exact h1.c0

/-- One call more. -/
theorem Lvf.step {w wr : World} {pp t x i j b o : Nat} {d : Int} (h : Lvf w wr pp t x d i) (hi : i ≤ 60) {x0 x1 x2 x3 : Int} {t4 t5 : ByteArray} {ab : Option Addr} {lb cb : Nat} {zs : List Int} (D : Doat w b o j x0 x1 x2 x3 t4 t5 ab lb cb zs) (h4 : t4.size ≤ 1048576) (h5 : t5.size ≤ 1048576) (hz : ∀ z ∈ zs, 0 ≤ z ∧ z < 256) :
    ∀ W, Below wr.heap.size wr W → Calls Tryz.prog 7 #[.pointer (some ⟨pp, 0, none⟩), .agg #[.int .i64 x0, .int .i64 x1, .int .i64 x2, .int .i64 x3, .string t4, .string t5, .slice ab lb cb]] W fun e w' => e = .returned (.bool true) ∧ Lvf w w' pp t x d (i + 1) := by
  intro W hW
  obtain ⟨⟨G, D8, T, h1, h2, h3, h6⟩, hb⟩ := h
  have hbW : Below w.heap.size w W := hb.trans (hW.mono hb.size)
  refine (dof_any pp t x w.heap.size G D8 T ((i : Int) + 1) x0 x1 x2 x3 t4 t5 ab lb cb zs W (h1.grow hW) h2 h3 (by omega) h4 h5 D.b3.1 D.b3.2 (D.src.below hbW) hz D.reach D.le D.nil ?_).mono ?_
  · intro h0 b o e
    obtain ⟨b', o', e', hl, _⟩ := D.src.2 h0
    rw [e] at e'
    cases e'
    exact hl
  · rintro e w' ⟨rfl, G', D', T', q1, ⟨q2, q3, q4⟩, q5⟩
    exact ⟨rfl, ⟨G', D', T', q1, q2, q3.mono (by omega), q4.trans h6⟩, hbW.trans q5⟩

theorem Lvf.same {w wr : World} {pp t x i : Nat} {d : Int} (h : Lvf w wr pp t x d i) : Calls Tryz.prog 8 #[.pointer (some ⟨pp, 0, none⟩)] wr fun e w' => e = .returned (.bool true) ∧ Lvf w w' pp t x d i := by
  obtain ⟨⟨G, D, T, h1, h2, h3, h6⟩, hb⟩ := h
  refine (same_yes8 wr _ G D pp t x T h1 h2).mono ?_
  rintro e w' ⟨rfl, q⟩
  exact ⟨rfl, ⟨G, D, T, h1.grow q, h2, h3, h6⟩, hb.trans (q.mono hb.size)⟩

theorem Lvf.grow {w wr w' : World} {pp t x i : Nat} {d : Int} (h : Lvf w wr pp t x d i) (q : Below wr.heap.size wr w') : Lvf w w' pp t x d i := by
  obtain ⟨⟨G, D, T, h1, h2, h3, h6⟩, hb⟩ := h
  exact ⟨⟨G, D, T, h1.grow q, h2, h3, h6⟩, hb.trans (q.mono hb.size)⟩

set_option maxHeartbeats 4000000 in
theorem flives_road (d : Int) (al : Option Addr) (ll cl : Nat) (w : World) (hd : DosS w al ll) (hll : ll ≤ cl) (hcl : cl ≤ 9223372036854775807) :
    Calls Tryz.prog 3 #[.int .i64 d, .slice al ll cl] w fun e w' => e = .returned (.bool true) ∧ Below w.heap.size w w' := by
  have k1 := hid (tpnew w d)
  have k2 := hid (fun W => tdnew W d)
  have HD := hid hd
  clear hd
  go_enter Tryz.func3, Tryz.ntmps3
  go_wp2_with fail
  refine k1.out.mono ?_
  rintro e w1 ⟨t, rfl, hp1, hb1⟩
  have HP1 := hid hp1
  have HB1 := hid hb1
  clear hp1 hb1 k1
  go_wp2_with fail
  refine (k2.out w1).mono ?_
  rintro e w2 ⟨x, rfl, hr2, hb2⟩
  have HL := hid (Lvf.made HP1.out HB1.out hr2 hb2)
  clear hr2 hb2 k2 HP1 HB1
  go_wp2_with fail
  generalize w2.alloc (Obj.cells #[.pointer (some ⟨t, 0, none⟩), .pointer (some ⟨x, 0, none⟩)] 29) = w3 at HL ⊢
  generalize w2.heap.size = pp at HL ⊢
  go_loopw [16] (fun v16 wr => ∃ i : Nat, i ≤ ll ∧ i ≤ 61 ∧ v16 = .int .i64 (i : Int) ∧ Hid (Lvf w wr pp t x d i)) (fun v16 _ => ll - (intOf v16).toNat)
  case atStart => exact ⟨0, by omega, by omega, rfl, HL⟩
  case round =>
    clear HL
    obtain ⟨i, hil, hi61, rfl, HQ⟩ := hrel
    by_cases h : i < ll
    · obtain ⟨b, o, rfl, hbl, hat⟩ := HD.out (by omega)
      obtain ⟨x0, x1, x2, x3, t4, t5, ab, lb, cb, zs, D0, h4, h5, hz, hc⟩ := hat i h
      have D := D0.below HQ.out.2
      have c0 := D.c0
      have c1 := D.c1
      have c2 := D.c2
      have c3 := D.c3
      have c4 := D.c4
      have c5 := D.c5
      have c6 := D.c6
      obtain ⟨W1, g1⟩ : ∃ W1, W1 = wr.alloc (Obj.cells #[.int .i64 x0, .int .i64 x1, .int .i64 x2, .int .i64 x3, .string t4, .string t5, .slice ab lb cb] 32) := ⟨_, rfl⟩
      have b1 : Below wr.heap.size wr W1 := by rw [g1]; exact (Below.refl _ _).alloc (Nat.le_refl _) _
      have r1 : W1.heap[wr.heap.size]? = some (.cells #[.int .i64 x0, .int .i64 x1, .int .i64 x2, .int .i64 x3, .string t4, .string t5, .slice ab lb cb] 32 (0, 0)) := by rw [g1]; exact heap_alloc_new _ _
      by_cases h60 : 60 < i
      · have i60 : (60 : Int) < (i : Int) := by omega
        have kS := hid (HQ.out.grow b1).same
        have GA := hid g1
        clear g1 D D0 hat h4 h5 hz hc b1 r1 HQ
        go_wp2_with fail
        rw [← GA.out]
        refine kS.out.mono ?_
        rintro e w4 ⟨rfl, h4⟩
        go_wp2_with fail
        go_ret
        exact ⟨rfl, h4.2⟩
      · have i60 : ¬ (60 : Int) < (i : Int) := by omega
        have kD := hid (HQ.out.step (by omega) D0 h4 h5 hz W1 b1)
        have d0 : W1.cell? ⟨wr.heap.size, 0, none⟩ = some (.int .i64 x0) := by rw [cell_of_row W1 _ 0 _ _ _ r1]; rfl
        have d1 : W1.cell? ⟨wr.heap.size, 1, none⟩ = some (.int .i64 x1) := by rw [cell_of_row W1 _ 1 _ _ _ r1]; rfl
        have d2 : W1.cell? ⟨wr.heap.size, 2, none⟩ = some (.int .i64 x2) := by rw [cell_of_row W1 _ 2 _ _ _ r1]; rfl
        have d3 : W1.cell? ⟨wr.heap.size, 3, none⟩ = some (.int .i64 x3) := by rw [cell_of_row W1 _ 3 _ _ _ r1]; rfl
        have d4 : W1.cell? ⟨wr.heap.size, 4, none⟩ = some (.string t4) := by rw [cell_of_row W1 _ 4 _ _ _ r1]; rfl
        have d5 : W1.cell? ⟨wr.heap.size, 5, none⟩ = some (.string t5) := by rw [cell_of_row W1 _ 5 _ _ _ r1]; rfl
        have d6 : W1.cell? ⟨wr.heap.size, 6, none⟩ = some (.slice ab lb cb) := by rw [cell_of_row W1 _ 6 _ _ _ r1]; rfl
        have GA := hid g1
        clear g1 D D0 hat h4 h5 hz hc b1 r1 HQ
        go_wp2_with fail
        rw [← GA.out]
        go_wp2_with fail
        refine kD.out.mono ?_
        rintro e w4 ⟨rfl, h4⟩
        have kS := hid h4.same
        clear h4 kD
        go_wp2_with fail
        refine kS.out.mono ?_
        rintro e w5 ⟨rfl, h5⟩
        have H5 := hid h5
        clear h5 kS
        go_wp2_with fail
        go_roundw
        case rel => exact ⟨i + 1, by omega, by omega, by go_num, H5⟩
        case measure => simp [intOf]; omega
    · obtain rfl : i = ll := by omega
      have kS := hid HQ.out.same
      clear HQ
      go_wp2_with fail
      refine kS.out.mono ?_
      rintro e w4 ⟨rfl, h4⟩
      go_wp2_with fail
      go_ret
      exact ⟨rfl, h4.2⟩

end Go.Proofs.YtoknhcjneliboaaGreat
