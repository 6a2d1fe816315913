/- Texts of this seat, merged. -/
import Derived.Test.YtliekndkjjaldaaGreatNMg25
import Derived.Test.YtliekndkjjaldaaGreatNMg31
import Derived.Test.YtliekndkjjaldaaGreatNMg32
import Derived.Test.YtliekndkjjaldaaGreatNMg18
import Derived.Test.YtliekndkjjaldaaGreatNMg35
import Derived.Deep.RegionHeld3
import Derived.Deep.DeepCutAuto
import Derived.Deep.CutBlock
import Derived.Test.YtliekndkjjaldaaGreatNMg19
import Derived.Test.YtliekndkjjaldaaGreatNMg34

/- What 'does' does: cases 6, 9 (written by gen_do.py). -/
namespace Go.Proofs.YtliekndkjjaldaaGreat
open Go.RowKit Go.ChangeMaps Go.MapKept
set_option linter.unusedVariables false
set_option maxRecDepth 20000

set_option maxHeartbeats 8000000 in
theorem does_6 (pp p x g u B : Nat) (G : Nat → Prop) (V : Nat → Value) (F : Fs) (m : Int) (x0 x1 x2 x3 : Int) (t4 t5 : ByteArray) (ab : Option Addr) (lb cb : Nat) (bz : List Int) (w : World) (H : Pr w B G pp p x g u V F F) (hF : FOk F) (hL : LB F m) (hm : 1 ≤ m ∧ m ≤ 900000)
    (h4 : t4.size ≤ 1048576) (h5 : t5.size ≤ 1048576) (hx2 : x2 ≤ 9223372036854775807) (hx3 : x3 ≤ 9223372036854775807) (hb : Src w ab lb bz) (hbz : ∀ z ∈ bz, 0 ≤ z ∧ z < 256) (hlb : lb ≤ 140737488355328) (hcb : lb ≤ cb) (hcb2 : cb ≤ 9223372036854775807) (hbn : ab = none → lb = 0 ∧ cb = 0) (hbB : 0 < lb → ∀ b o, ab = some ⟨b, o, none⟩ → b < B)
    (hq : wrap64 ((IntKind.u64.wrap x0).tmod 13) = 6) :
    Calls Tryz.prog 8 #[.pointer (some ⟨pp, 0, none⟩), .agg #[.int .i64 x0, .int .i64 x1, .int .i64 x2, .int .i64 x3, .string t4, .string t5, .slice ab lb cb]] w (DoP w B pp p x g u m F) := by
  have hpl := H.lt
  have HB : Hid (B ≤ w.heap.size) := hid (Nat.le_trans H.gp (Nat.le_of_lt hpl))
  have HF := hid hF
  have HL := hid hL
  have HM := hid hm
  have H4 := hid h4
  have H5 := hid h5
  have HX2 := hid hx2
  have HX3 := hid hx3
  have HSB := hid hb
  have HBZ := hid hbz
  have HBB := hid hbB
  have HLC := hid hcb
  have HLL := hid hlb
  have HML : Hid (∀ i, (F.P i).l ≤ 1000000) := hid (fun i => Int.le_trans (hL i) (by omega))
  have HQ := hid hq
  have HP := hid H
  have kc : Hid (∀ wx, Below w.heap.size w wx → Calls Tryz.prog 18 #[.slice ab lb cb] wx fun e w' => ∃ (av : Option Addr) (cv : Nat), e = .returned (.slice av lb cv) ∧ w'.ownsRow wx.heap.size 5 1 (.slice av lb cv) lb (bz.map (Value.int .u8)) ∧ Below wx.heap.size wx w') := hid (fun wx hbx => clone_opt ab lb cb bz wx (hb.below hbx) hlb hbn)
  clear H hF hL hm h4 h5 hx2 hx3 hb hbz hlb hcb hcb2 hbn hbB hq
  go_enter Tryz.func8, Tryz.ntmps8
  go_upto_region 1 with fail
  obtain ⟨W1, gW1⟩ : ∃ W1, W1 = w.alloc (.cells #[.int .i64 x0, .int .i64 x1, .int .i64 x2, .int .i64 x3, .string t4, .string t5, .slice ab lb cb] 32) := ⟨_, rfl⟩
  rw [← gW1]
  have hb1 : Below w.heap.size w W1 := by rw [gW1]; exact (Below.refl _ _).alloc (Nat.le_refl _) _
  have hs1 : w.heap.size < W1.heap.size := by rw [gW1]; simp
  have e0 : W1.cell? ⟨w.heap.size, 0, none⟩ = some (.int .i64 x0) := by rw [gW1]; simp [go_sem]
  have e1 : W1.cell? ⟨w.heap.size, 1, none⟩ = some (.int .i64 x1) := by rw [gW1]; simp [go_sem]
  have e2 : W1.cell? ⟨w.heap.size, 2, none⟩ = some (.int .i64 x2) := by rw [gW1]; simp [go_sem]
  have e3 : W1.cell? ⟨w.heap.size, 3, none⟩ = some (.int .i64 x3) := by rw [gW1]; simp [go_sem]
  have e4 : W1.cell? ⟨w.heap.size, 4, none⟩ = some (.string t4) := by rw [gW1]; simp [go_sem]
  have e5 : W1.cell? ⟨w.heap.size, 5, none⟩ = some (.string t5) := by rw [gW1]; simp [go_sem]
  have e6 : W1.cell? ⟨w.heap.size, 6, none⟩ = some (.slice ab lb cb) := by rw [gW1]; simp [go_sem]
  have HB1 := hid hb1
  clear gW1 hb1
  go_upto_block 0 with (go_at_call 18; refine (kc.out _ HB1.out).mono ?_; rintro e wF ⟨av, cv, rfl, hG, hbF⟩; have f0 := (hbF.cell (p := ⟨w.heap.size, 0, none⟩) hs1).trans e0; have HG := hid hG; have HBF := hid hbF; clear hG hbF)
  rw [HQ.out]
  have hsF : w.heap.size < wF.heap.size := Nat.lt_of_lt_of_le hs1 HBF.out.size
  have f1 := (HBF.out.cell (p := ⟨w.heap.size, 1, none⟩) hs1).trans e1
  have f2 := (HBF.out.cell (p := ⟨w.heap.size, 2, none⟩) hs1).trans e2
  have f3 := (HBF.out.cell (p := ⟨w.heap.size, 3, none⟩) hs1).trans e3
  have f4 := (HBF.out.cell (p := ⟨w.heap.size, 4, none⟩) hs1).trans e4
  have f5 := (HBF.out.cell (p := ⟨w.heap.size, 5, none⟩) hs1).trans e5
  have f6 := (HBF.out.cell (p := ⟨w.heap.size, 6, none⟩) hs1).trans e6
  have HWF : Hid (Below w.heap.size w wF) := hid (HB1.out.trans (HBF.out.mono HB1.out.size))
  obtain ⟨kb, gkb⟩ : ∃ kb, kb = w.heap.size := ⟨_, rfl⟩
  rw [← gkb] at f0 f1 f2 f3 f4 f5 f6 hsF ⊢
  have hS0 : St wF B kb G pp p x g u V F F wF := by
    have h := HP.out.grow HWF.out
    refine ⟨h, Upd.refl _ _, fun b hk hb => ⟨hb, fun e => ?_, fun hG => ?_, fun hR => ?_⟩⟩
    · omega
    · have := HP.out.pf
      have h1 := (HP.out.gG b hG).2.1
      omega
    · have h1 := HP.out.rf.foot_lt b hR
      omega
  have q0 := hS0.c0
  have q1 := hS0.c1
  have HS0 := hid hS0
  have GKB := hid gkb
  have HKB : Hid (kb ≤ kb) := hid (Nat.le_refl _)
  clear e0 e1 e2 e3 e4 e5 e6 kc hS0 gkb
  obtain ⟨R, gR⟩ : ∃ R, R = F.rename (bl t4) (bl t5) := ⟨_, rfl⟩
  have HE : Hid (FOk R.1 ∧ LB R.1 (m + 1) ∧ (FSh F → FSh R.1)) := by rw [gR]; exact hid ⟨HF.out.rename _ _, (HL.out.rename HM.out.1 _ _).mono (by omega), fun s => s.rename HF.out _ _⟩
  have KP : Hid (∀ W G V Fd, St wF B kb G pp p x g u V F Fd W → Calls Tryz.prog 29 #[.pointer (some ⟨p, 0, none⟩), .string t4, .string t5] W fun e w' => e = .returned (.int .i64 R.2) ∧ ∃ G', St wF B kb G' pp p x g u V R.1 Fd w') := by
    rw [gR]
    exact hid (fun W G V Fd hs => (prename p F G W hs.pr.pf HF.out t4 t5 (Nat.le_trans H4.out (by omega)) (Nat.le_trans H5.out (by omega)) HML.out).mono (by rintro e w' ⟨he, t⟩; exact ⟨he, hs.prog t⟩))
  have KD : Hid (∀ W G V Fp, St wF B kb G pp p x g u V Fp F W → Calls Tryz.prog 30 #[.pointer (some ⟨x, 0, none⟩), .string t4, .string t5] W fun e w' => e = .returned (.int .i64 R.2) ∧ ∃ V', St wF B kb G pp p x g u V' Fp R.1 w') := by
    rw [gR]
    exact hid (fun W G V Fp hs => (rrename_any x g u V F W hs.pr.rf HF.out HML.out t4 t5 H4.out H5.out).mono (by rintro e w' ⟨he, t⟩; exact ⟨he, hs.doc t⟩))
  clear gR
  go_wp2_with fail
  go_region_held3 (fun W => W.cell? ⟨pp, 0, none⟩ = some (.pointer (some ⟨p, 0, none⟩)) ∧ W.cell? ⟨pp, 1, none⟩ = some (.pointer (some ⟨x, 0, none⟩)) ∧ W.cell? ⟨kb, 4, none⟩ = some (.string t4) ∧ W.cell? ⟨kb, 5, none⟩ = some (.string t5)) (first | (refine ⟨?_, ?_, ?_, ?_⟩ <;> assumption) | go_keep) (first
    | (go_at_call 29; refine (KP.out _ _ _ _ (by first | exact HS2.out | exact HS0.out.drew | exact HS0.out)).mono ?_; rintro e w1 ⟨rfl, G1, hS1⟩; have z0 := hS1.c0; have z1 := hS1.c1; have zk4 := hS1.k HKB.out hsF f4; have zk5 := hS1.k HKB.out hsF f5; have HS1 := hid hS1; clear hS1)
    | (go_at_call 30; refine (KD.out _ _ _ _ (by first | exact HS1.out | exact HS0.out.drew | exact HS0.out)).mono ?_; rintro e w2 ⟨rfl, V2, hS2⟩; have y0 := hS2.c0; have y1 := hS2.c1; have yk4 := hS2.k HKB.out hsF f4; have yk5 := hS2.k HKB.out hsF f5; have HS2 := hid hS2; clear hS2)
    | fail)
  all_goals
    go_wp2_with fail
    go_ret
    first
    | exact HS1.out.done HWF.out HB.out HE.out
    | exact HS2.out.done HWF.out HB.out HE.out
    | exact HS1.out.drew.done HWF.out HB.out HE.out
    | exact HS2.out.drew.done HWF.out HB.out HE.out

set_option maxHeartbeats 8000000 in
theorem does_9 (pp p x g u B : Nat) (G : Nat → Prop) (V : Nat → Value) (F : Fs) (m : Int) (x0 x1 x2 x3 : Int) (t4 t5 : ByteArray) (ab : Option Addr) (lb cb : Nat) (bz : List Int) (w : World) (H : Pr w B G pp p x g u V F F) (hF : FOk F) (hL : LB F m) (hm : 1 ≤ m ∧ m ≤ 900000)
    (h4 : t4.size ≤ 1048576) (h5 : t5.size ≤ 1048576) (hx2 : x2 ≤ 9223372036854775807) (hx3 : x3 ≤ 9223372036854775807) (hb : Src w ab lb bz) (hbz : ∀ z ∈ bz, 0 ≤ z ∧ z < 256) (hlb : lb ≤ 140737488355328) (hcb : lb ≤ cb) (hcb2 : cb ≤ 9223372036854775807) (hbn : ab = none → lb = 0 ∧ cb = 0) (hbB : 0 < lb → ∀ b o, ab = some ⟨b, o, none⟩ → b < B)
    (hq : wrap64 ((IntKind.u64.wrap x0).tmod 13) = 9) :
    Calls Tryz.prog 8 #[.pointer (some ⟨pp, 0, none⟩), .agg #[.int .i64 x0, .int .i64 x1, .int .i64 x2, .int .i64 x3, .string t4, .string t5, .slice ab lb cb]] w (DoP w B pp p x g u m F) := by
  have hpl := H.lt
  have HB : Hid (B ≤ w.heap.size) := hid (Nat.le_trans H.gp (Nat.le_of_lt hpl))
  have HF := hid hF
  have HL := hid hL
  have HM := hid hm
  have H4 := hid h4
  have H5 := hid h5
  have HX2 := hid hx2
  have HX3 := hid hx3
  have HSB := hid hb
  have HBZ := hid hbz
  have HBB := hid hbB
  have HLC := hid hcb
  have HLL := hid hlb
  have HML : Hid (∀ i, (F.P i).l ≤ 1000000) := hid (fun i => Int.le_trans (hL i) (by omega))
  have HQ := hid hq
  have HP := hid H
  have kc : Hid (∀ wx, Below w.heap.size w wx → Calls Tryz.prog 18 #[.slice ab lb cb] wx fun e w' => ∃ (av : Option Addr) (cv : Nat), e = .returned (.slice av lb cv) ∧ w'.ownsRow wx.heap.size 5 1 (.slice av lb cv) lb (bz.map (Value.int .u8)) ∧ Below wx.heap.size wx w') := hid (fun wx hbx => clone_opt ab lb cb bz wx (hb.below hbx) hlb hbn)
  clear H hF hL hm h4 h5 hx2 hx3 hb hbz hlb hcb hcb2 hbn hbB hq
  go_enter Tryz.func8, Tryz.ntmps8
  go_upto_region 1 with fail
  obtain ⟨W1, gW1⟩ : ∃ W1, W1 = w.alloc (.cells #[.int .i64 x0, .int .i64 x1, .int .i64 x2, .int .i64 x3, .string t4, .string t5, .slice ab lb cb] 32) := ⟨_, rfl⟩
  rw [← gW1]
  have hb1 : Below w.heap.size w W1 := by rw [gW1]; exact (Below.refl _ _).alloc (Nat.le_refl _) _
  have hs1 : w.heap.size < W1.heap.size := by rw [gW1]; simp
  have e0 : W1.cell? ⟨w.heap.size, 0, none⟩ = some (.int .i64 x0) := by rw [gW1]; simp [go_sem]
  have e1 : W1.cell? ⟨w.heap.size, 1, none⟩ = some (.int .i64 x1) := by rw [gW1]; simp [go_sem]
  have e2 : W1.cell? ⟨w.heap.size, 2, none⟩ = some (.int .i64 x2) := by rw [gW1]; simp [go_sem]
  have e3 : W1.cell? ⟨w.heap.size, 3, none⟩ = some (.int .i64 x3) := by rw [gW1]; simp [go_sem]
  have e4 : W1.cell? ⟨w.heap.size, 4, none⟩ = some (.string t4) := by rw [gW1]; simp [go_sem]
  have e5 : W1.cell? ⟨w.heap.size, 5, none⟩ = some (.string t5) := by rw [gW1]; simp [go_sem]
  have e6 : W1.cell? ⟨w.heap.size, 6, none⟩ = some (.slice ab lb cb) := by rw [gW1]; simp [go_sem]
  have HB1 := hid hb1
  clear gW1 hb1
  go_upto_block 0 with (go_at_call 18; refine (kc.out _ HB1.out).mono ?_; rintro e wF ⟨av, cv, rfl, hG, hbF⟩; have f0 := (hbF.cell (p := ⟨w.heap.size, 0, none⟩) hs1).trans e0; have HG := hid hG; have HBF := hid hbF; clear hG hbF)
  rw [HQ.out]
  have hsF : w.heap.size < wF.heap.size := Nat.lt_of_lt_of_le hs1 HBF.out.size
  have f1 := (HBF.out.cell (p := ⟨w.heap.size, 1, none⟩) hs1).trans e1
  have f2 := (HBF.out.cell (p := ⟨w.heap.size, 2, none⟩) hs1).trans e2
  have f3 := (HBF.out.cell (p := ⟨w.heap.size, 3, none⟩) hs1).trans e3
  have f4 := (HBF.out.cell (p := ⟨w.heap.size, 4, none⟩) hs1).trans e4
  have f5 := (HBF.out.cell (p := ⟨w.heap.size, 5, none⟩) hs1).trans e5
  have f6 := (HBF.out.cell (p := ⟨w.heap.size, 6, none⟩) hs1).trans e6
  have HWF : Hid (Below w.heap.size w wF) := hid (HB1.out.trans (HBF.out.mono HB1.out.size))
  obtain ⟨kb, gkb⟩ : ∃ kb, kb = w.heap.size := ⟨_, rfl⟩
  rw [← gkb] at f0 f1 f2 f3 f4 f5 f6 hsF ⊢
  have hS0 : St wF B kb G pp p x g u V F F wF := by
    have h := HP.out.grow HWF.out
    refine ⟨h, Upd.refl _ _, fun b hk hb => ⟨hb, fun e => ?_, fun hG => ?_, fun hR => ?_⟩⟩
    · omega
    · have := HP.out.pf
      have h1 := (HP.out.gG b hG).2.1
      omega
    · have h1 := HP.out.rf.foot_lt b hR
      omega
  have q0 := hS0.c0
  have q1 := hS0.c1
  have HS0 := hid hS0
  have GKB := hid gkb
  have HKB : Hid (kb ≤ kb) := hid (Nat.le_refl _)
  clear e0 e1 e2 e3 e4 e5 e6 kc hS0 gkb
  obtain ⟨R, gR⟩ : ∃ R, R = F.resize x1 x3 := ⟨_, rfl⟩
  have HE : Hid (FOk R.1 ∧ LB R.1 (m + 1) ∧ (FSh F → FSh R.1)) := by rw [gR]; exact hid ⟨HF.out.resize _ _, (HL.out.resize _ _).mono (by omega), fun s => s.resize HF.out _ _⟩
  have KP : Hid (∀ W G V Fd, St wF B kb G pp p x g u V F Fd W → Calls Tryz.prog 37 #[.pointer (some ⟨p, 0, none⟩), .int .i64 x1, .int .i64 x3] W fun e w' => e = .returned (.int .i64 R.2) ∧ ∃ G', St wF B kb G' pp p x g u V R.1 Fd w') := by
    rw [gR]
    exact hid (fun W G V Fd hs => (presize p F G W hs.pr.pf HF.out x1 x3).mono (by rintro e w' ⟨he, t⟩; exact ⟨he, hs.prog t⟩))
  have KD : Hid (∀ W G V Fp, St wF B kb G pp p x g u V Fp F W → Calls Tryz.prog 38 #[.pointer (some ⟨x, 0, none⟩), .int .i64 x1, .int .i64 x3] W fun e w' => e = .returned (.int .i64 R.2) ∧ ∃ V', St wF B kb G pp p x g u V' Fp R.1 w') := by
    rw [gR]
    exact hid (fun W G V Fp hs => (rresize_any x g u V F W hs.pr.rf HF.out x1 x3 HX3.out).mono (by rintro e w' ⟨he, t⟩; exact ⟨he, hs.doc t⟩))
  clear gR
  go_wp2_with fail
  go_region_held3 (fun W => W.cell? ⟨pp, 0, none⟩ = some (.pointer (some ⟨p, 0, none⟩)) ∧ W.cell? ⟨pp, 1, none⟩ = some (.pointer (some ⟨x, 0, none⟩)) ∧ W.cell? ⟨kb, 1, none⟩ = some (.int .i64 x1) ∧ W.cell? ⟨kb, 3, none⟩ = some (.int .i64 x3)) (first | (refine ⟨?_, ?_, ?_, ?_⟩ <;> assumption) | go_keep) (first
    | (go_at_call 37; refine (KP.out _ _ _ _ (by first | exact HS2.out | exact HS0.out.drew | exact HS0.out)).mono ?_; rintro e w1 ⟨rfl, G1, hS1⟩; have z0 := hS1.c0; have z1 := hS1.c1; have zk1 := hS1.k HKB.out hsF f1; have zk3 := hS1.k HKB.out hsF f3; have HS1 := hid hS1; clear hS1)
    | (go_at_call 38; refine (KD.out _ _ _ _ (by first | exact HS1.out | exact HS0.out.drew | exact HS0.out)).mono ?_; rintro e w2 ⟨rfl, V2, hS2⟩; have y0 := hS2.c0; have y1 := hS2.c1; have yk1 := hS2.k HKB.out hsF f1; have yk3 := hS2.k HKB.out hsF f3; have HS2 := hid hS2; clear hS2)
    | fail)
  all_goals
    go_wp2_with fail
    go_ret
    first
    | exact HS1.out.done HWF.out HB.out HE.out
    | exact HS2.out.done HWF.out HB.out HE.out
    | exact HS1.out.drew.done HWF.out HB.out HE.out
    | exact HS2.out.drew.done HWF.out HB.out HE.out

end Go.Proofs.YtliekndkjjaldaaGreat

/- What 'does' does: cases 7, 8 (written by gen_do.py). -/
namespace Go.Proofs.YtliekndkjjaldaaGreat
open Go.RowKit Go.ChangeMaps Go.MapKept
set_option linter.unusedVariables false
set_option maxRecDepth 20000

set_option maxHeartbeats 8000000 in
theorem does_7 (pp p x g u B : Nat) (G : Nat → Prop) (V : Nat → Value) (F : Fs) (m : Int) (x0 x1 x2 x3 : Int) (t4 t5 : ByteArray) (ab : Option Addr) (lb cb : Nat) (bz : List Int) (w : World) (H : Pr w B G pp p x g u V F F) (hF : FOk F) (hL : LB F m) (hm : 1 ≤ m ∧ m ≤ 900000)
    (h4 : t4.size ≤ 1048576) (h5 : t5.size ≤ 1048576) (hx2 : x2 ≤ 9223372036854775807) (hx3 : x3 ≤ 9223372036854775807) (hb : Src w ab lb bz) (hbz : ∀ z ∈ bz, 0 ≤ z ∧ z < 256) (hlb : lb ≤ 140737488355328) (hcb : lb ≤ cb) (hcb2 : cb ≤ 9223372036854775807) (hbn : ab = none → lb = 0 ∧ cb = 0) (hbB : 0 < lb → ∀ b o, ab = some ⟨b, o, none⟩ → b < B)
    (hq : wrap64 ((IntKind.u64.wrap x0).tmod 13) = 7) :
    Calls Tryz.prog 8 #[.pointer (some ⟨pp, 0, none⟩), .agg #[.int .i64 x0, .int .i64 x1, .int .i64 x2, .int .i64 x3, .string t4, .string t5, .slice ab lb cb]] w (DoP w B pp p x g u m F) := by
  have hpl := H.lt
  have HB : Hid (B ≤ w.heap.size) := hid (Nat.le_trans H.gp (Nat.le_of_lt hpl))
  have HF := hid hF
  have HL := hid hL
  have HM := hid hm
  have H4 := hid h4
  have H5 := hid h5
  have HX2 := hid hx2
  have HX3 := hid hx3
  have HSB := hid hb
  have HBZ := hid hbz
  have HBB := hid hbB
  have HLC := hid hcb
  have HLL := hid hlb
  have HML : Hid (∀ i, (F.P i).l ≤ 1000000) := hid (fun i => Int.le_trans (hL i) (by omega))
  have HQ := hid hq
  have HP := hid H
  have kc : Hid (∀ wx, Below w.heap.size w wx → Calls Tryz.prog 18 #[.slice ab lb cb] wx fun e w' => ∃ (av : Option Addr) (cv : Nat), e = .returned (.slice av lb cv) ∧ w'.ownsRow wx.heap.size 5 1 (.slice av lb cv) lb (bz.map (Value.int .u8)) ∧ Below wx.heap.size wx w') := hid (fun wx hbx => clone_opt ab lb cb bz wx (hb.below hbx) hlb hbn)
  clear H hF hL hm h4 h5 hx2 hx3 hb hbz hlb hcb hcb2 hbn hbB hq
  go_enter Tryz.func8, Tryz.ntmps8
  go_upto_region 1 with fail
  obtain ⟨W1, gW1⟩ : ∃ W1, W1 = w.alloc (.cells #[.int .i64 x0, .int .i64 x1, .int .i64 x2, .int .i64 x3, .string t4, .string t5, .slice ab lb cb] 32) := ⟨_, rfl⟩
  rw [← gW1]
  have hb1 : Below w.heap.size w W1 := by rw [gW1]; exact (Below.refl _ _).alloc (Nat.le_refl _) _
  have hs1 : w.heap.size < W1.heap.size := by rw [gW1]; simp
  have e0 : W1.cell? ⟨w.heap.size, 0, none⟩ = some (.int .i64 x0) := by rw [gW1]; simp [go_sem]
  have e1 : W1.cell? ⟨w.heap.size, 1, none⟩ = some (.int .i64 x1) := by rw [gW1]; simp [go_sem]
  have e2 : W1.cell? ⟨w.heap.size, 2, none⟩ = some (.int .i64 x2) := by rw [gW1]; simp [go_sem]
  have e3 : W1.cell? ⟨w.heap.size, 3, none⟩ = some (.int .i64 x3) := by rw [gW1]; simp [go_sem]
  have e4 : W1.cell? ⟨w.heap.size, 4, none⟩ = some (.string t4) := by rw [gW1]; simp [go_sem]
  have e5 : W1.cell? ⟨w.heap.size, 5, none⟩ = some (.string t5) := by rw [gW1]; simp [go_sem]
  have e6 : W1.cell? ⟨w.heap.size, 6, none⟩ = some (.slice ab lb cb) := by rw [gW1]; simp [go_sem]
  have HB1 := hid hb1
  clear gW1 hb1
  go_upto_block 0 with (go_at_call 18; refine (kc.out _ HB1.out).mono ?_; rintro e wF ⟨av, cv, rfl, hG, hbF⟩; have f0 := (hbF.cell (p := ⟨w.heap.size, 0, none⟩) hs1).trans e0; have HG := hid hG; have HBF := hid hbF; clear hG hbF)
  rw [HQ.out]
  have hsF : w.heap.size < wF.heap.size := Nat.lt_of_lt_of_le hs1 HBF.out.size
  have f1 := (HBF.out.cell (p := ⟨w.heap.size, 1, none⟩) hs1).trans e1
  have f2 := (HBF.out.cell (p := ⟨w.heap.size, 2, none⟩) hs1).trans e2
  have f3 := (HBF.out.cell (p := ⟨w.heap.size, 3, none⟩) hs1).trans e3
  have f4 := (HBF.out.cell (p := ⟨w.heap.size, 4, none⟩) hs1).trans e4
  have f5 := (HBF.out.cell (p := ⟨w.heap.size, 5, none⟩) hs1).trans e5
  have f6 := (HBF.out.cell (p := ⟨w.heap.size, 6, none⟩) hs1).trans e6
  have HWF : Hid (Below w.heap.size w wF) := hid (HB1.out.trans (HBF.out.mono HB1.out.size))
  obtain ⟨kb, gkb⟩ : ∃ kb, kb = w.heap.size := ⟨_, rfl⟩
  rw [← gkb] at f0 f1 f2 f3 f4 f5 f6 hsF ⊢
  have hS0 : St wF B kb G pp p x g u V F F wF := by
    have h := HP.out.grow HWF.out
    refine ⟨h, Upd.refl _ _, fun b hk hb => ⟨hb, fun e => ?_, fun hG => ?_, fun hR => ?_⟩⟩
    · omega
    · have := HP.out.pf
      have h1 := (HP.out.gG b hG).2.1
      omega
    · have h1 := HP.out.rf.foot_lt b hR
      omega
  have q0 := hS0.c0
  have q1 := hS0.c1
  have HS0 := hid hS0
  have GKB := hid gkb
  have HKB : Hid (kb ≤ kb) := hid (Nat.le_refl _)
  clear e0 e1 e2 e3 e4 e5 e6 kc hS0 gkb
  obtain ⟨R, gR⟩ : ∃ R, R = F.read x1 x2 x3 := ⟨_, rfl⟩
  have hR96 : R.1.length ≤ 96 := by rw [gR]; exact read_len HF.out _ _ _
  obtain ⟨n, gn⟩ : ∃ n, n = R.1.length := ⟨_, rfl⟩
  have hn : n ≤ 140737488355328 := by omega
  have HE : Hid (FOk F ∧ LB F (m + 1) ∧ (FSh F → FSh F)) := hid ⟨HF.out, HL.out.mono (by omega), fun s => s⟩
  have KP : Hid (∀ W G V Fd, St wF B kb G pp p x g u V F Fd W → Calls Tryz.prog 31 #[.pointer (some ⟨p, 0, none⟩), .int .i64 x1, .int .i64 x2, .int .i64 x3] W fun e w' => (∃ a c, e = .returned (.tuple #[.slice a n c, .int .i64 R.2]) ∧ w'.ownsRow W.heap.size 5 1 (.slice a n c) n (R.1.map (Value.int .u8))) ∧ Below W.heap.size W w') := by
    rw [gn, gR]
    exact hid (fun W G V Fd hs => (pread2 p F G W hs.pr.pf HF.out x1 x2 x3 HX2.out HX3.out).mono (by rintro e w' ⟨⟨v, rfl, h1⟩, h3⟩; obtain ⟨a, c, rfl, _⟩ := own_shp h1; exact ⟨⟨a, c, rfl, h1⟩, h3⟩))
  have KD : Hid (∀ W G V Fp, St wF B kb G pp p x g u V Fp F W → Calls Tryz.prog 32 #[.pointer (some ⟨x, 0, none⟩), .int .i64 x1, .int .i64 x2, .int .i64 x3] W fun e w' => (∃ a c, e = .returned (.tuple #[.slice a n c, .int .i64 R.2]) ∧ w'.ownsRow W.heap.size 5 1 (.slice a n c) n (R.1.map (Value.int .u8))) ∧ Below W.heap.size W w') := by
    rw [gn, gR]
    exact hid (fun W G V Fp hs => (rread_any x g u V F W hs.pr.rf HF.out x1 x2 x3 HX2.out HX3.out).mono (by rintro e w' ⟨⟨v, rfl, h1⟩, h3⟩; obtain ⟨a, c, rfl, _⟩ := own_shp h1; exact ⟨⟨a, c, rfl, h1⟩, h3⟩))
  have HN := hid hn
  clear gR gn hR96 hn
  go_wp2_with fail
  go_region_held3 (fun W => W.cell? ⟨pp, 0, none⟩ = some (.pointer (some ⟨p, 0, none⟩)) ∧ W.cell? ⟨pp, 1, none⟩ = some (.pointer (some ⟨x, 0, none⟩)) ∧ W.cell? ⟨kb, 1, none⟩ = some (.int .i64 x1) ∧ W.cell? ⟨kb, 2, none⟩ = some (.int .i64 x2) ∧ W.cell? ⟨kb, 3, none⟩ = some (.int .i64 x3)) (first | (refine ⟨?_, ?_, ?_, ?_, ?_⟩ <;> assumption) | go_keep) (first
    | (go_at_call 31; refine (KP.out _ _ _ _ (by first | exact HS0.out.drew | exact HS0.out)).mono ?_; rintro e w1 ⟨⟨a1, d1, rfl, hO1⟩, hb1⟩; have hS1 : St wF B kb G pp p x g u V F F w1 := (by first | exact HS0.out.drew.grow hb1 | exact HS0.out.grow hb1); have HN1 : Hid (∀ b, (Value.slice a1 n d1).ownBlock = some b → Oth w1 G pp x g u V b ∧ B ≤ b) := hid (fun b hb => ⟨HS0.out.new (hO1.lt b hb).1 (hO1.lt b hb).2, Nat.le_trans (Nat.le_trans HB.out HWF.out.size) (hO1.lt b hb).1⟩); have z0 := hS1.c0; have z1 := hS1.c1; have zk1 := hS1.k HKB.out hsF f1; have zk2 := hS1.k HKB.out hsF f2; have zk3 := hS1.k HKB.out hsF f3; have HS1 := hid hS1; have HO1 := hid hO1; clear hS1 hO1 hb1)
    | fail)
  go_wp2_with fail
  go_region_held3 (fun W => W.cell? ⟨pp, 0, none⟩ = some (.pointer (some ⟨p, 0, none⟩)) ∧ W.cell? ⟨pp, 1, none⟩ = some (.pointer (some ⟨x, 0, none⟩)) ∧ W.cell? ⟨kb, 1, none⟩ = some (.int .i64 x1) ∧ W.cell? ⟨kb, 2, none⟩ = some (.int .i64 x2) ∧ W.cell? ⟨kb, 3, none⟩ = some (.int .i64 x3)) (first | (refine ⟨?_, ?_, ?_, ?_, ?_⟩ <;> assumption) | go_keep) (first
    | (go_at_call 32; refine (KD.out _ _ _ _ (by first | exact HS1.out.drew | exact HS1.out)).mono ?_; rintro e w2 ⟨⟨a2, d2, rfl, hO2⟩, hb2⟩; have hS2 : St wF B kb G pp p x g u V F F w2 := (by first | exact HS1.out.drew.grow hb2 | exact HS1.out.grow hb2); have HU2 : Hid (Upd (fun _ => False) w1 w2) := hid ⟨hb2.os, hb2.tape, hb2.output, hb2.size, fun k hk _ => hb2.block k hk⟩; have y0 := hS2.c0; have y1 := hS2.c1; have yk1 := hS2.k HKB.out hsF f1; have yk2 := hS2.k HKB.out hsF f2; have yk3 := hS2.k HKB.out hsF f3; have HS2 := hid hS2; have HO2 := hid hO2; clear hS2 hO2 hb2)
    | fail)
  have HO3 := hid (HU2.out.own HO1.out (fun _ _ h => h))
  have HN3 : Hid (∀ b, (Value.slice a1 n d1).ownBlock = some b → Oth w2 G pp x g u V b ∧ B ≤ b) := hid (fun b hb => ⟨⟨Nat.lt_of_lt_of_le (HN1.out b hb).1.1 HU2.out.size, (HN1.out b hb).1.2⟩, (HN1.out b hb).2⟩)
  go_wp2_with (first
    | (go_at_call 33; first
        | (refine (equal_yes a1 a2 n d1 n d2 R.1 w2.drew (own_src (own_below HO3.out (Below.refl _ _).drew)) (own_src (own_below HO2.out (Below.refl _ _).drew))).mono ?_; rintro e wz ⟨rfl, hwz⟩; subst wz)
        | (refine (equal_yes a1 a2 n d1 n d2 R.1 w2 (own_src HO3.out) (own_src HO2.out)).mono ?_; rintro e wz ⟨rfl, hwz⟩; subst wz))
    | (go_at_call 34; first
        | (refine (spoil_any _ n d1 a1 R.1 w2.drew _ rfl (own_below HO3.out (Below.refl _ _).drew) HN.out).mono ?_; rintro e w4 ⟨rfl, hu4⟩; have HU4 := hid hu4; clear hu4)
        | (refine (spoil_any _ n d1 a1 R.1 w2 _ rfl HO3.out HN.out).mono ?_; rintro e w4 ⟨rfl, hu4⟩; have HU4 := hid hu4; clear hu4)))
  go_ret
  first
  | exact HS2.out.drew.doneU HU4.out (fun b _ hu => (HN3.out b hu).1) (fun b hu => (HN3.out b hu).2) HWF.out HB.out HE.out
  | exact HS2.out.doneU HU4.out (fun b _ hu => (HN3.out b hu).1) (fun b hu => (HN3.out b hu).2) HWF.out HB.out HE.out

set_option maxHeartbeats 8000000 in
theorem does_8 (pp p x g u B : Nat) (G : Nat → Prop) (V : Nat → Value) (F : Fs) (m : Int) (x0 x1 x2 x3 : Int) (t4 t5 : ByteArray) (ab : Option Addr) (lb cb : Nat) (bz : List Int) (w : World) (H : Pr w B G pp p x g u V F F) (hF : FOk F) (hL : LB F m) (hm : 1 ≤ m ∧ m ≤ 900000)
    (h4 : t4.size ≤ 1048576) (h5 : t5.size ≤ 1048576) (hx2 : x2 ≤ 9223372036854775807) (hx3 : x3 ≤ 9223372036854775807) (hb : Src w ab lb bz) (hbz : ∀ z ∈ bz, 0 ≤ z ∧ z < 256) (hlb : lb ≤ 140737488355328) (hcb : lb ≤ cb) (hcb2 : cb ≤ 9223372036854775807) (hbn : ab = none → lb = 0 ∧ cb = 0) (hbB : 0 < lb → ∀ b o, ab = some ⟨b, o, none⟩ → b < B)
    (hq : wrap64 ((IntKind.u64.wrap x0).tmod 13) = 8) :
    Calls Tryz.prog 8 #[.pointer (some ⟨pp, 0, none⟩), .agg #[.int .i64 x0, .int .i64 x1, .int .i64 x2, .int .i64 x3, .string t4, .string t5, .slice ab lb cb]] w (DoP w B pp p x g u m F) := by
  have hpl := H.lt
  have HB : Hid (B ≤ w.heap.size) := hid (Nat.le_trans H.gp (Nat.le_of_lt hpl))
  have HF := hid hF
  have HL := hid hL
  have HM := hid hm
  have H4 := hid h4
  have H5 := hid h5
  have HX2 := hid hx2
  have HX3 := hid hx3
  have HSB := hid hb
  have HBZ := hid hbz
  have HBB := hid hbB
  have HLC := hid hcb
  have HLL := hid hlb
  have HML : Hid (∀ i, (F.P i).l ≤ 1000000) := hid (fun i => Int.le_trans (hL i) (by omega))
  have HQ := hid hq
  have HP := hid H
  have kc : Hid (∀ wx, Below w.heap.size w wx → Calls Tryz.prog 18 #[.slice ab lb cb] wx fun e w' => ∃ (av : Option Addr) (cv : Nat), e = .returned (.slice av lb cv) ∧ w'.ownsRow wx.heap.size 5 1 (.slice av lb cv) lb (bz.map (Value.int .u8)) ∧ Below wx.heap.size wx w') := hid (fun wx hbx => clone_opt ab lb cb bz wx (hb.below hbx) hlb hbn)
  clear H hF hL hm h4 h5 hx2 hx3 hb hbz hlb hcb hcb2 hbn hbB hq
  go_enter Tryz.func8, Tryz.ntmps8
  go_upto_region 1 with fail
  obtain ⟨W1, gW1⟩ : ∃ W1, W1 = w.alloc (.cells #[.int .i64 x0, .int .i64 x1, .int .i64 x2, .int .i64 x3, .string t4, .string t5, .slice ab lb cb] 32) := ⟨_, rfl⟩
  rw [← gW1]
  have hb1 : Below w.heap.size w W1 := by rw [gW1]; exact (Below.refl _ _).alloc (Nat.le_refl _) _
  have hs1 : w.heap.size < W1.heap.size := by rw [gW1]; simp
  have e0 : W1.cell? ⟨w.heap.size, 0, none⟩ = some (.int .i64 x0) := by rw [gW1]; simp [go_sem]
  have e1 : W1.cell? ⟨w.heap.size, 1, none⟩ = some (.int .i64 x1) := by rw [gW1]; simp [go_sem]
  have e2 : W1.cell? ⟨w.heap.size, 2, none⟩ = some (.int .i64 x2) := by rw [gW1]; simp [go_sem]
  have e3 : W1.cell? ⟨w.heap.size, 3, none⟩ = some (.int .i64 x3) := by rw [gW1]; simp [go_sem]
  have e4 : W1.cell? ⟨w.heap.size, 4, none⟩ = some (.string t4) := by rw [gW1]; simp [go_sem]
  have e5 : W1.cell? ⟨w.heap.size, 5, none⟩ = some (.string t5) := by rw [gW1]; simp [go_sem]
  have e6 : W1.cell? ⟨w.heap.size, 6, none⟩ = some (.slice ab lb cb) := by rw [gW1]; simp [go_sem]
  have HB1 := hid hb1
  clear gW1 hb1
  go_upto_block 0 with (go_at_call 18; refine (kc.out _ HB1.out).mono ?_; rintro e wF ⟨av, cv, rfl, hG, hbF⟩; have f0 := (hbF.cell (p := ⟨w.heap.size, 0, none⟩) hs1).trans e0; have HG := hid hG; have HBF := hid hbF; clear hG hbF)
  rw [HQ.out]
  have hsF : w.heap.size < wF.heap.size := Nat.lt_of_lt_of_le hs1 HBF.out.size
  have f1 := (HBF.out.cell (p := ⟨w.heap.size, 1, none⟩) hs1).trans e1
  have f2 := (HBF.out.cell (p := ⟨w.heap.size, 2, none⟩) hs1).trans e2
  have f3 := (HBF.out.cell (p := ⟨w.heap.size, 3, none⟩) hs1).trans e3
  have f4 := (HBF.out.cell (p := ⟨w.heap.size, 4, none⟩) hs1).trans e4
  have f5 := (HBF.out.cell (p := ⟨w.heap.size, 5, none⟩) hs1).trans e5
  have f6 := (HBF.out.cell (p := ⟨w.heap.size, 6, none⟩) hs1).trans e6
  have HWF : Hid (Below w.heap.size w wF) := hid (HB1.out.trans (HBF.out.mono HB1.out.size))
  obtain ⟨kb, gkb⟩ : ∃ kb, kb = w.heap.size := ⟨_, rfl⟩
  rw [← gkb] at f0 f1 f2 f3 f4 f5 f6 hsF ⊢
  have hS0 : St wF B kb G pp p x g u V F F wF := by
    have h := HP.out.grow HWF.out
    refine ⟨h, Upd.refl _ _, fun b hk hb => ⟨hb, fun e => ?_, fun hG => ?_, fun hR => ?_⟩⟩
    · omega
    · have := HP.out.pf
      have h1 := (HP.out.gG b hG).2.1
      omega
    · have h1 := HP.out.rf.foot_lt b hR
      omega
  have q0 := hS0.c0
  have q1 := hS0.c1
  have HS0 := hid hS0
  have GKB := hid gkb
  have HKB : Hid (kb ≤ kb) := hid (Nat.le_refl _)
  clear e0 e1 e2 e3 e4 e5 e6 kc hS0 gkb
  obtain ⟨R, gR⟩ : ∃ R, R = F.write x1 x2 bz := ⟨_, rfl⟩
  have HE : Hid (FOk R.1 ∧ LB R.1 (m + 1) ∧ (FSh F → FSh R.1)) := by rw [gR]; exact hid ⟨HF.out.write _ _ _ HBZ.out, (HL.out.write _ _ _).mono (by omega), fun s => s.write _ _ _⟩
  have hkW : kb ≤ W1.heap.size := by rw [GKB.out]; exact Nat.le_of_lt hs1
  have HKW := hid hkW
  have HGV : Hid (∀ W G V Fp Fd, St wF B kb G pp p x g u V Fp Fd W → W.ownsRow W1.heap.size 5 1 (.slice av lb cv) lb (bz.map (Value.int .u8))) := hid (fun W G V Fp Fd hs => hs.up.own HG.out (fun b hb q => by have := (HG.out.lt b hb).1; have := q.2; omega))
  have HSW : Hid (∀ W G V Fp Fd, St wF B kb G pp p x g u V Fp Fd W → Src W ab lb bz) := hid (fun W G V Fp Fd hs => Src.updL hs.up (HSB.out.below HWF.out) (fun hl b o e q => absurd q.1 (Nat.not_le_of_lt (HBB.out hl b o e))))
  have KP : Hid (∀ W G V Fd, St wF B kb G pp p x g u V F Fd W → Calls Tryz.prog 35 #[.pointer (some ⟨p, 0, none⟩), .int .i64 x1, .int .i64 x2, .slice av lb cv] W fun e w' => e = .returned (.tuple #[.int .i64 R.2.1, .int .i64 R.2.2]) ∧ ∃ G', St wF B kb G' pp p x g u V R.1 Fd w') := by
    rw [gR]
    exact hid (fun W G V Fd hs => (pwrite p F G W hs.pr.pf HF.out x1 x2 av lb cv bz (own_src (HGV.out _ _ _ _ _ hs)) (fun b o e => (hs.ot b (Nat.le_trans HKW.out (own_at HG.out b o e).1) (own_at HG.out b o e).2).2.2.1)).mono (by rintro e w' ⟨he, t⟩; exact ⟨he, hs.prog t⟩))
  have KD : Hid (∀ W G V Fp, St wF B kb G pp p x g u V Fp F W → Calls Tryz.prog 36 #[.pointer (some ⟨x, 0, none⟩), .int .i64 x1, .int .i64 x2, .slice ab lb cb] W fun e w' => e = .returned (.tuple #[.int .i64 R.2.1, .int .i64 R.2.2]) ∧ ∃ V', St wF B kb G pp p x g u V' Fp R.1 w') := by
    rw [gR]
    refine hid (fun W G V Fp hs => ?_)
    have hll := HLL.out
    rcases Nat.eq_zero_or_pos lb with h0 | h0
    · refine (rwrite_no x g u V F W hs.pr.rf x1 x2 ab lb cb bz HSB.out.1 (.inr (.inr (.inl h0))) (by omega) HX2.out).mono ?_
      rintro e w' ⟨he, h1, h3⟩
      exact ⟨he, V, by rw [h1]; exact hs.grow h3⟩
    · refine (rwrite_any x g u V F W hs.pr.rf HF.out x1 x2 ab lb cb bz (HSW.out _ _ _ _ _ hs) (fun b o e hR => absurd (hs.pr.gR b hR).1 (Nat.not_le_of_lt (HBB.out h0 b o e))) HLC.out (by omega) HX2.out).mono ?_
      rintro e w' ⟨he, t⟩
      exact ⟨he, hs.doc t⟩
  clear gR hkW
  go_wp2_with fail
  go_region_held3 (fun W => W.cell? ⟨pp, 0, none⟩ = some (.pointer (some ⟨p, 0, none⟩)) ∧ W.cell? ⟨pp, 1, none⟩ = some (.pointer (some ⟨x, 0, none⟩)) ∧ W.cell? ⟨kb, 1, none⟩ = some (.int .i64 x1) ∧ W.cell? ⟨kb, 2, none⟩ = some (.int .i64 x2) ∧ W.cell? ⟨kb, 6, none⟩ = some (.slice ab lb cb)) (first | (refine ⟨?_, ?_, ?_, ?_, ?_⟩ <;> assumption) | go_keep) (first
    | (go_at_call 35; refine (KP.out _ _ _ _ (by first | exact HS0.out.drew | exact HS0.out)).mono ?_; rintro e w1 ⟨rfl, G1, hS1⟩; have z0 := hS1.c0; have z1 := hS1.c1; have zk1 := hS1.k HKB.out hsF f1; have zk2 := hS1.k HKB.out hsF f2; have zk6 := hS1.k HKB.out hsF f6; have HS1 := hid hS1; clear hS1)
    | fail)
  go_wp2_with fail
  go_region_held3 (fun W => W.cell? ⟨pp, 0, none⟩ = some (.pointer (some ⟨p, 0, none⟩)) ∧ W.cell? ⟨pp, 1, none⟩ = some (.pointer (some ⟨x, 0, none⟩)) ∧ W.cell? ⟨kb, 1, none⟩ = some (.int .i64 x1) ∧ W.cell? ⟨kb, 2, none⟩ = some (.int .i64 x2) ∧ W.cell? ⟨kb, 6, none⟩ = some (.slice ab lb cb)) (first | (refine ⟨?_, ?_, ?_, ?_, ?_⟩ <;> assumption) | go_keep) (first
    | (go_at_call 36; refine (KD.out _ _ _ _ (by first | exact HS1.out.drew | exact HS1.out)).mono ?_; rintro e w2 ⟨rfl, V2, hS2⟩; have y0 := hS2.c0; have y1 := hS2.c1; have yk1 := hS2.k HKB.out hsF f1; have yk2 := hS2.k HKB.out hsF f2; have yk6 := hS2.k HKB.out hsF f6; have HS2 := hid hS2; clear hS2)
    | fail)
  have HO3 := hid (HGV.out _ _ _ _ _ HS2.out)
  have HO4 := hid (HGV.out _ _ _ _ _ HS2.out.drew)
  have HN3 : Hid (∀ b, (Value.slice av lb cv).ownBlock = some b → kb ≤ b ∧ b < wF.heap.size ∧ B ≤ b) := hid (fun b hb => ⟨Nat.le_trans HKW.out (HG.out.lt b hb).1, (HG.out.lt b hb).2, Nat.le_trans HB.out (by rw [← GKB.out]; exact Nat.le_trans HKW.out (HG.out.lt b hb).1)⟩)
  go_wp2_with (first
    | (go_at_call 33; first
        | (refine (equal_yes av ab lb cv lb cb bz w2.drew (own_src HO4.out) (HSW.out _ _ _ _ _ HS2.out.drew)).mono ?_; rintro e wz ⟨rfl, hwz⟩; subst wz)
        | (refine (equal_yes av ab lb cv lb cb bz w2 (own_src HO3.out) (HSW.out _ _ _ _ _ HS2.out)).mono ?_; rintro e wz ⟨rfl, hwz⟩; subst wz))
    | (go_at_call 34; first
        | (refine (spoil_any _ lb cv av bz w2.drew _ rfl HO4.out HLL.out).mono ?_; rintro e w4 ⟨rfl, hu4⟩; have HU4 := hid hu4; clear hu4)
        | (refine (spoil_any _ lb cv av bz w2 _ rfl HO3.out HLL.out).mono ?_; rintro e w4 ⟨rfl, hu4⟩; have HU4 := hid hu4; clear hu4)))
  go_ret
  first
  | exact HS2.out.drew.doneU HU4.out (fun b _ hu => HS2.out.drew.ot b (HN3.out b hu).1 (HN3.out b hu).2.1) (fun b hu => (HN3.out b hu).2.2) HWF.out HB.out HE.out
  | exact HS2.out.doneU HU4.out (fun b _ hu => HS2.out.ot b (HN3.out b hu).1 (HN3.out b hu).2.1) (fun b hu => (HN3.out b hu).2.2) HWF.out HB.out HE.out

end Go.Proofs.YtliekndkjjaldaaGreat
