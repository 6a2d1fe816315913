/- Texts of this seat, merged. -/
import Derived.Test.YtliekndkjjaldaaGreatNMg25
import Derived.Test.YtliekndkjjaldaaGreatNMg16
import Derived.Test.YtliekndkjjaldaaGreatNMg15
import Derived.Test.YtliekndkjjaldaaGreatNMg27
import Derived.Deep.RegionHeld3
import Derived.Deep.DeepCutAuto
import Derived.Deep.CutBlock
import Derived.Test.YtliekndkjjaldaaGreatNMg4

/- What 'does' does: cases 3, 4, 5 (written by gen_do.py). -/
namespace Go.Proofs.YtliekndkjjaldaaGreat
open Go.RowKit Go.ChangeMaps Go.MapKept
set_option linter.unusedVariables false
set_option maxRecDepth 20000

set_option maxHeartbeats 8000000 in
theorem does_3 (pp p x g u B : Nat) (G : Nat → Prop) (V : Nat → Value) (F : Fs) (m : Int) (x0 x1 x2 x3 : Int) (t4 t5 : ByteArray) (ab : Option Addr) (lb cb : Nat) (bz : List Int) (w : World) (H : Pr w B G pp p x g u V F F) (hF : FOk F) (hL : LB F m) (hm : 1 ≤ m ∧ m ≤ 900000)
    (h4 : t4.size ≤ 1048576) (h5 : t5.size ≤ 1048576) (hx2 : x2 ≤ 9223372036854775807) (hx3 : x3 ≤ 9223372036854775807) (hb : Src w ab lb bz) (hbz : ∀ z ∈ bz, 0 ≤ z ∧ z < 256) (hlb : lb ≤ 140737488355328) (hcb : lb ≤ cb) (hcb2 : cb ≤ 9223372036854775807) (hbn : ab = none → lb = 0 ∧ cb = 0) (hbB : 0 < lb → ∀ b o, ab = some ⟨b, o, none⟩ → b < B)
    (hq : wrap64 ((IntKind.u64.wrap x0).tmod 13) = 3) :
    Calls Tryz.prog 8 #[.pointer (some ⟨pp, 0, none⟩), .agg #[.int .i64 x0, .int .i64 x1, .int .i64 x2, .int .i64 x3, .string t4, .string t5, .slice ab lb cb]] w (DoP w B pp p x g u m F) := by
  have hpl := H.lt
  have HB : Hid (B ≤ w.heap.size) := hid (Nat.le_trans H.gp (Nat.le_of_lt hpl))
  have HF := hid hF
  have HL := hid hL
  have HM := hid hm
  have H4 := hid h4
  have H5 := hid h5
  have HX2 := hid hx2
  have HX3 := hid hx3
  have HSB := hid hb
  have HBZ := hid hbz
  have HBB := hid hbB
  have HLC := hid hcb
  have HLL := hid hlb
  have HML : Hid (∀ i, (F.P i).l ≤ 1000000) := hid (fun i => Int.le_trans (hL i) (by omega))
  have HQ := hid hq
  have HP := hid H
  have kc : Hid (∀ wx, Below w.heap.size w wx → Calls Tryz.prog 18 #[.slice ab lb cb] wx fun e w' => ∃ (av : Option Addr) (cv : Nat), e = .returned (.slice av lb cv) ∧ w'.ownsRow wx.heap.size 5 1 (.slice av lb cv) lb (bz.map (Value.int .u8)) ∧ Below wx.heap.size wx w') := hid (fun wx hbx => clone_opt ab lb cb bz wx (hb.below hbx) hlb hbn)
  clear H hF hL hm h4 h5 hx2 hx3 hb hbz hlb hcb hcb2 hbn hbB hq
  go_enter Tryz.func8, Tryz.ntmps8
  go_upto_region 1 with fail
  obtain ⟨W1, gW1⟩ : ∃ W1, W1 = w.alloc (.cells #[.int .i64 x0, .int .i64 x1, .int .i64 x2, .int .i64 x3, .string t4, .string t5, .slice ab lb cb] 32) := ⟨_, rfl⟩
  rw [← gW1]
  have hb1 : Below w.heap.size w W1 := by rw [gW1]; exact (Below.refl _ _).alloc (Nat.le_refl _) _
  have hs1 : w.heap.size < W1.heap.size := by rw [gW1]; simp
  have e0 : W1.cell? ⟨w.heap.size, 0, none⟩ = some (.int .i64 x0) := by rw [gW1]; simp [go_sem]
  have e1 : W1.cell? ⟨w.heap.size, 1, none⟩ = some (.int .i64 x1) := by rw [gW1]; simp [go_sem]
  have e2 : W1.cell? ⟨w.heap.size, 2, none⟩ = some (.int .i64 x2) := by rw [gW1]; simp [go_sem]
  have e3 : W1.cell? ⟨w.heap.size, 3, none⟩ = some (.int .i64 x3) := by rw [gW1]; simp [go_sem]
  have e4 : W1.cell? ⟨w.heap.size, 4, none⟩ = some (.string t4) := by rw [gW1]; simp [go_sem]
  have e5 : W1.cell? ⟨w.heap.size, 5, none⟩ = some (.string t5) := by rw [gW1]; simp [go_sem]
  have e6 : W1.cell? ⟨w.heap.size, 6, none⟩ = some (.slice ab lb cb) := by rw [gW1]; simp [go_sem]
  have HB1 := hid hb1
  clear gW1 hb1
  go_upto_block 0 with (go_at_call 18; refine (kc.out _ HB1.out).mono ?_; rintro e wF ⟨av, cv, rfl, hG, hbF⟩; have f0 := (hbF.cell (p := ⟨w.heap.size, 0, none⟩) hs1).trans e0; have HG := hid hG; have HBF := hid hbF; clear hG hbF)
  rw [HQ.out]
  have hsF : w.heap.size < wF.heap.size := Nat.lt_of_lt_of_le hs1 HBF.out.size
  have f1 := (HBF.out.cell (p := ⟨w.heap.size, 1, none⟩) hs1).trans e1
  have f2 := (HBF.out.cell (p := ⟨w.heap.size, 2, none⟩) hs1).trans e2
  have f3 := (HBF.out.cell (p := ⟨w.heap.size, 3, none⟩) hs1).trans e3
  have f4 := (HBF.out.cell (p := ⟨w.heap.size, 4, none⟩) hs1).trans e4
  have f5 := (HBF.out.cell (p := ⟨w.heap.size, 5, none⟩) hs1).trans e5
  have f6 := (HBF.out.cell (p := ⟨w.heap.size, 6, none⟩) hs1).trans e6
  have HWF : Hid (Below w.heap.size w wF) := hid (HB1.out.trans (HBF.out.mono HB1.out.size))
  obtain ⟨kb, gkb⟩ : ∃ kb, kb = w.heap.size := ⟨_, rfl⟩
  rw [← gkb] at f0 f1 f2 f3 f4 f5 f6 hsF ⊢
  have hS0 : St wF B kb G pp p x g u V F F wF := by
    have h := HP.out.grow HWF.out
    refine ⟨h, Upd.refl _ _, fun b hk hb => ⟨hb, fun e => ?_, fun hG => ?_, fun hR => ?_⟩⟩
    · omega
    · have := HP.out.pf
      have h1 := (HP.out.gG b hG).2.1
      omega
    · have h1 := HP.out.rf.foot_lt b hR
      omega
  have q0 := hS0.c0
  have q1 := hS0.c1
  have HS0 := hid hS0
  have GKB := hid gkb
  have HKB : Hid (kb ≤ kb) := hid (Nat.le_refl _)
  clear e0 e1 e2 e3 e4 e5 e6 kc hS0 gkb
  obtain ⟨R, gR⟩ : ∃ R, R = F.unlink (bl t4) := ⟨_, rfl⟩
  have HE : Hid (FOk R.1 ∧ LB R.1 (m + 1) ∧ (FSh F → FSh R.1)) := by rw [gR]; exact hid ⟨HF.out.unlink _, (HL.out.unlink HM.out.1 _).mono (by omega), fun s => s.unlink HF.out _⟩
  have KP : Hid (∀ W G V Fd, St wF B kb G pp p x g u V F Fd W → Calls Tryz.prog 23 #[.pointer (some ⟨p, 0, none⟩), .string t4] W fun e w' => e = .returned (.int .i64 R.2) ∧ ∃ G', St wF B kb G' pp p x g u V R.1 Fd w') := by
    rw [gR]
    exact hid (fun W G V Fd hs => (punlink p F G W hs.pr.pf HF.out t4 (Nat.le_trans H4.out (by omega)) HML.out).mono (by rintro e w' ⟨he, t⟩; exact ⟨he, hs.prog t⟩))
  have KD : Hid (∀ W G V Fp, St wF B kb G pp p x g u V Fp F W → Calls Tryz.prog 24 #[.pointer (some ⟨x, 0, none⟩), .string t4] W fun e w' => e = .returned (.int .i64 R.2) ∧ ∃ V', St wF B kb G pp p x g u V' Fp R.1 w') := by
    rw [gR]
    exact hid (fun W G V Fp hs => (runlink_any x g u V F W hs.pr.rf HF.out HML.out t4 H4.out).mono (by rintro e w' ⟨he, t⟩; exact ⟨he, hs.doc t⟩))
  clear gR
  go_wp2_with fail
  go_region_held3 (fun W => W.cell? ⟨pp, 0, none⟩ = some (.pointer (some ⟨p, 0, none⟩)) ∧ W.cell? ⟨pp, 1, none⟩ = some (.pointer (some ⟨x, 0, none⟩)) ∧ W.cell? ⟨kb, 4, none⟩ = some (.string t4)) (first | (refine ⟨?_, ?_, ?_⟩ <;> assumption) | go_keep) (first
    | (go_at_call 23; refine (KP.out _ _ _ _ (by first | exact HS2.out | exact HS0.out.drew | exact HS0.out)).mono ?_; rintro e w1 ⟨rfl, G1, hS1⟩; have z0 := hS1.c0; have z1 := hS1.c1; have zk4 := hS1.k HKB.out hsF f4; have HS1 := hid hS1; clear hS1)
    | (go_at_call 24; refine (KD.out _ _ _ _ (by first | exact HS1.out | exact HS0.out.drew | exact HS0.out)).mono ?_; rintro e w2 ⟨rfl, V2, hS2⟩; have y0 := hS2.c0; have y1 := hS2.c1; have yk4 := hS2.k HKB.out hsF f4; have HS2 := hid hS2; clear hS2)
    | fail)
  all_goals
    go_wp2_with fail
    go_ret
    first
    | exact HS1.out.done HWF.out HB.out HE.out
    | exact HS2.out.done HWF.out HB.out HE.out
    | exact HS1.out.drew.done HWF.out HB.out HE.out
    | exact HS2.out.drew.done HWF.out HB.out HE.out

set_option maxHeartbeats 8000000 in
theorem does_4 (pp p x g u B : Nat) (G : Nat → Prop) (V : Nat → Value) (F : Fs) (m : Int) (x0 x1 x2 x3 : Int) (t4 t5 : ByteArray) (ab : Option Addr) (lb cb : Nat) (bz : List Int) (w : World) (H : Pr w B G pp p x g u V F F) (hF : FOk F) (hL : LB F m) (hm : 1 ≤ m ∧ m ≤ 900000)
    (h4 : t4.size ≤ 1048576) (h5 : t5.size ≤ 1048576) (hx2 : x2 ≤ 9223372036854775807) (hx3 : x3 ≤ 9223372036854775807) (hb : Src w ab lb bz) (hbz : ∀ z ∈ bz, 0 ≤ z ∧ z < 256) (hlb : lb ≤ 140737488355328) (hcb : lb ≤ cb) (hcb2 : cb ≤ 9223372036854775807) (hbn : ab = none → lb = 0 ∧ cb = 0) (hbB : 0 < lb → ∀ b o, ab = some ⟨b, o, none⟩ → b < B)
    (hq : wrap64 ((IntKind.u64.wrap x0).tmod 13) = 4) :
    Calls Tryz.prog 8 #[.pointer (some ⟨pp, 0, none⟩), .agg #[.int .i64 x0, .int .i64 x1, .int .i64 x2, .int .i64 x3, .string t4, .string t5, .slice ab lb cb]] w (DoP w B pp p x g u m F) := by
  have hpl := H.lt
  have HB : Hid (B ≤ w.heap.size) := hid (Nat.le_trans H.gp (Nat.le_of_lt hpl))
  have HF := hid hF
  have HL := hid hL
  have HM := hid hm
  have H4 := hid h4
  have H5 := hid h5
  have HX2 := hid hx2
  have HX3 := hid hx3
  have HSB := hid hb
  have HBZ := hid hbz
  have HBB := hid hbB
  have HLC := hid hcb
  have HLL := hid hlb
  have HML : Hid (∀ i, (F.P i).l ≤ 1000000) := hid (fun i => Int.le_trans (hL i) (by omega))
  have HQ := hid hq
  have HP := hid H
  have kc : Hid (∀ wx, Below w.heap.size w wx → Calls Tryz.prog 18 #[.slice ab lb cb] wx fun e w' => ∃ (av : Option Addr) (cv : Nat), e = .returned (.slice av lb cv) ∧ w'.ownsRow wx.heap.size 5 1 (.slice av lb cv) lb (bz.map (Value.int .u8)) ∧ Below wx.heap.size wx w') := hid (fun wx hbx => clone_opt ab lb cb bz wx (hb.below hbx) hlb hbn)
  clear H hF hL hm h4 h5 hx2 hx3 hb hbz hlb hcb hcb2 hbn hbB hq
  go_enter Tryz.func8, Tryz.ntmps8
  go_upto_region 1 with fail
  obtain ⟨W1, gW1⟩ : ∃ W1, W1 = w.alloc (.cells #[.int .i64 x0, .int .i64 x1, .int .i64 x2, .int .i64 x3, .string t4, .string t5, .slice ab lb cb] 32) := ⟨_, rfl⟩
  rw [← gW1]
  have hb1 : Below w.heap.size w W1 := by rw [gW1]; exact (Below.refl _ _).alloc (Nat.le_refl _) _
  have hs1 : w.heap.size < W1.heap.size := by rw [gW1]; simp
  have e0 : W1.cell? ⟨w.heap.size, 0, none⟩ = some (.int .i64 x0) := by rw [gW1]; simp [go_sem]
  have e1 : W1.cell? ⟨w.heap.size, 1, none⟩ = some (.int .i64 x1) := by rw [gW1]; simp [go_sem]
  have e2 : W1.cell? ⟨w.heap.size, 2, none⟩ = some (.int .i64 x2) := by rw [gW1]; simp [go_sem]
  have e3 : W1.cell? ⟨w.heap.size, 3, none⟩ = some (.int .i64 x3) := by rw [gW1]; simp [go_sem]
  have e4 : W1.cell? ⟨w.heap.size, 4, none⟩ = some (.string t4) := by rw [gW1]; simp [go_sem]
  have e5 : W1.cell? ⟨w.heap.size, 5, none⟩ = some (.string t5) := by rw [gW1]; simp [go_sem]
  have e6 : W1.cell? ⟨w.heap.size, 6, none⟩ = some (.slice ab lb cb) := by rw [gW1]; simp [go_sem]
  have HB1 := hid hb1
  clear gW1 hb1
  go_upto_block 0 with (go_at_call 18; refine (kc.out _ HB1.out).mono ?_; rintro e wF ⟨av, cv, rfl, hG, hbF⟩; have f0 := (hbF.cell (p := ⟨w.heap.size, 0, none⟩) hs1).trans e0; have HG := hid hG; have HBF := hid hbF; clear hG hbF)
  rw [HQ.out]
  have hsF : w.heap.size < wF.heap.size := Nat.lt_of_lt_of_le hs1 HBF.out.size
  have f1 := (HBF.out.cell (p := ⟨w.heap.size, 1, none⟩) hs1).trans e1
  have f2 := (HBF.out.cell (p := ⟨w.heap.size, 2, none⟩) hs1).trans e2
  have f3 := (HBF.out.cell (p := ⟨w.heap.size, 3, none⟩) hs1).trans e3
  have f4 := (HBF.out.cell (p := ⟨w.heap.size, 4, none⟩) hs1).trans e4
  have f5 := (HBF.out.cell (p := ⟨w.heap.size, 5, none⟩) hs1).trans e5
  have f6 := (HBF.out.cell (p := ⟨w.heap.size, 6, none⟩) hs1).trans e6
  have HWF : Hid (Below w.heap.size w wF) := hid (HB1.out.trans (HBF.out.mono HB1.out.size))
  obtain ⟨kb, gkb⟩ : ∃ kb, kb = w.heap.size := ⟨_, rfl⟩
  rw [← gkb] at f0 f1 f2 f3 f4 f5 f6 hsF ⊢
  have hS0 : St wF B kb G pp p x g u V F F wF := by
    have h := HP.out.grow HWF.out
    refine ⟨h, Upd.refl _ _, fun b hk hb => ⟨hb, fun e => ?_, fun hG => ?_, fun hR => ?_⟩⟩
    · omega
    · have := HP.out.pf
      have h1 := (HP.out.gG b hG).2.1
      omega
    · have h1 := HP.out.rf.foot_lt b hR
      omega
  have q0 := hS0.c0
  have q1 := hS0.c1
  have HS0 := hid hS0
  have GKB := hid gkb
  have HKB : Hid (kb ≤ kb) := hid (Nat.le_refl _)
  clear e0 e1 e2 e3 e4 e5 e6 kc hS0 gkb
  obtain ⟨R, gR⟩ : ∃ R, R = F.rmdir (bl t4) := ⟨_, rfl⟩
  have HE : Hid (FOk R.1 ∧ LB R.1 (m + 1) ∧ (FSh F → FSh R.1)) := by rw [gR]; exact hid ⟨HF.out.rmdir _, (HL.out.rmdir HM.out.1 _).mono (by omega), fun s => s.rmdir HF.out _⟩
  have KP : Hid (∀ W G V Fd, St wF B kb G pp p x g u V F Fd W → Calls Tryz.prog 25 #[.pointer (some ⟨p, 0, none⟩), .string t4] W fun e w' => e = .returned (.int .i64 R.2) ∧ ∃ G', St wF B kb G' pp p x g u V R.1 Fd w') := by
    rw [gR]
    exact hid (fun W G V Fd hs => (prmdir p F G W hs.pr.pf HF.out t4 (Nat.le_trans H4.out (by omega))).mono (by rintro e w' ⟨he, t⟩; exact ⟨he, hs.prog t⟩))
  have KD : Hid (∀ W G V Fp, St wF B kb G pp p x g u V Fp F W → Calls Tryz.prog 26 #[.pointer (some ⟨x, 0, none⟩), .string t4] W fun e w' => e = .returned (.int .i64 R.2) ∧ ∃ V', St wF B kb G pp p x g u V' Fp R.1 w') := by
    rw [gR]
    exact hid (fun W G V Fp hs => (rrmdir_any x g u V F W hs.pr.rf HF.out HML.out t4 H4.out).mono (by rintro e w' ⟨he, t⟩; exact ⟨he, hs.doc t⟩))
  clear gR
  go_wp2_with fail
  go_region_held3 (fun W => W.cell? ⟨pp, 0, none⟩ = some (.pointer (some ⟨p, 0, none⟩)) ∧ W.cell? ⟨pp, 1, none⟩ = some (.pointer (some ⟨x, 0, none⟩)) ∧ W.cell? ⟨kb, 4, none⟩ = some (.string t4)) (first | (refine ⟨?_, ?_, ?_⟩ <;> assumption) | go_keep) (first
    | (go_at_call 25; refine (KP.out _ _ _ _ (by first | exact HS2.out | exact HS0.out.drew | exact HS0.out)).mono ?_; rintro e w1 ⟨rfl, G1, hS1⟩; have z0 := hS1.c0; have z1 := hS1.c1; have zk4 := hS1.k HKB.out hsF f4; have HS1 := hid hS1; clear hS1)
    | (go_at_call 26; refine (KD.out _ _ _ _ (by first | exact HS1.out | exact HS0.out.drew | exact HS0.out)).mono ?_; rintro e w2 ⟨rfl, V2, hS2⟩; have y0 := hS2.c0; have y1 := hS2.c1; have yk4 := hS2.k HKB.out hsF f4; have HS2 := hid hS2; clear hS2)
    | fail)
  all_goals
    go_wp2_with fail
    go_ret
    first
    | exact HS1.out.done HWF.out HB.out HE.out
    | exact HS2.out.done HWF.out HB.out HE.out
    | exact HS1.out.drew.done HWF.out HB.out HE.out
    | exact HS2.out.drew.done HWF.out HB.out HE.out

set_option maxHeartbeats 8000000 in
theorem does_5 (pp p x g u B : Nat) (G : Nat → Prop) (V : Nat → Value) (F : Fs) (m : Int) (x0 x1 x2 x3 : Int) (t4 t5 : ByteArray) (ab : Option Addr) (lb cb : Nat) (bz : List Int) (w : World) (H : Pr w B G pp p x g u V F F) (hF : FOk F) (hL : LB F m) (hm : 1 ≤ m ∧ m ≤ 900000)
    (h4 : t4.size ≤ 1048576) (h5 : t5.size ≤ 1048576) (hx2 : x2 ≤ 9223372036854775807) (hx3 : x3 ≤ 9223372036854775807) (hb : Src w ab lb bz) (hbz : ∀ z ∈ bz, 0 ≤ z ∧ z < 256) (hlb : lb ≤ 140737488355328) (hcb : lb ≤ cb) (hcb2 : cb ≤ 9223372036854775807) (hbn : ab = none → lb = 0 ∧ cb = 0) (hbB : 0 < lb → ∀ b o, ab = some ⟨b, o, none⟩ → b < B)
    (hq : wrap64 ((IntKind.u64.wrap x0).tmod 13) = 5) :
    Calls Tryz.prog 8 #[.pointer (some ⟨pp, 0, none⟩), .agg #[.int .i64 x0, .int .i64 x1, .int .i64 x2, .int .i64 x3, .string t4, .string t5, .slice ab lb cb]] w (DoP w B pp p x g u m F) := by
  have hpl := H.lt
  have HB : Hid (B ≤ w.heap.size) := hid (Nat.le_trans H.gp (Nat.le_of_lt hpl))
  have HF := hid hF
  have HL := hid hL
  have HM := hid hm
  have H4 := hid h4
  have H5 := hid h5
  have HX2 := hid hx2
  have HX3 := hid hx3
  have HSB := hid hb
  have HBZ := hid hbz
  have HBB := hid hbB
  have HLC := hid hcb
  have HLL := hid hlb
  have HML : Hid (∀ i, (F.P i).l ≤ 1000000) := hid (fun i => Int.le_trans (hL i) (by omega))
  have HQ := hid hq
  have HP := hid H
  have kc : Hid (∀ wx, Below w.heap.size w wx → Calls Tryz.prog 18 #[.slice ab lb cb] wx fun e w' => ∃ (av : Option Addr) (cv : Nat), e = .returned (.slice av lb cv) ∧ w'.ownsRow wx.heap.size 5 1 (.slice av lb cv) lb (bz.map (Value.int .u8)) ∧ Below wx.heap.size wx w') := hid (fun wx hbx => clone_opt ab lb cb bz wx (hb.below hbx) hlb hbn)
  clear H hF hL hm h4 h5 hx2 hx3 hb hbz hlb hcb hcb2 hbn hbB hq
  go_enter Tryz.func8, Tryz.ntmps8
  go_upto_region 1 with fail
  obtain ⟨W1, gW1⟩ : ∃ W1, W1 = w.alloc (.cells #[.int .i64 x0, .int .i64 x1, .int .i64 x2, .int .i64 x3, .string t4, .string t5, .slice ab lb cb] 32) := ⟨_, rfl⟩
  rw [← gW1]
  have hb1 : Below w.heap.size w W1 := by rw [gW1]; exact (Below.refl _ _).alloc (Nat.le_refl _) _
  have hs1 : w.heap.size < W1.heap.size := by rw [gW1]; simp
  have e0 : W1.cell? ⟨w.heap.size, 0, none⟩ = some (.int .i64 x0) := by rw [gW1]; simp [go_sem]
  have e1 : W1.cell? ⟨w.heap.size, 1, none⟩ = some (.int .i64 x1) := by rw [gW1]; simp [go_sem]
  have e2 : W1.cell? ⟨w.heap.size, 2, none⟩ = some (.int .i64 x2) := by rw [gW1]; simp [go_sem]
  have e3 : W1.cell? ⟨w.heap.size, 3, none⟩ = some (.int .i64 x3) := by rw [gW1]; simp [go_sem]
  have e4 : W1.cell? ⟨w.heap.size, 4, none⟩ = some (.string t4) := by rw [gW1]; simp [go_sem]
  have e5 : W1.cell? ⟨w.heap.size, 5, none⟩ = some (.string t5) := by rw [gW1]; simp [go_sem]
  have e6 : W1.cell? ⟨w.heap.size, 6, none⟩ = some (.slice ab lb cb) := by rw [gW1]; simp [go_sem]
  have HB1 := hid hb1
  clear gW1 hb1
  go_upto_block 0 with (go_at_call 18; refine (kc.out _ HB1.out).mono ?_; rintro e wF ⟨av, cv, rfl, hG, hbF⟩; have f0 := (hbF.cell (p := ⟨w.heap.size, 0, none⟩) hs1).trans e0; have HG := hid hG; have HBF := hid hbF; clear hG hbF)
  rw [HQ.out]
  have hsF : w.heap.size < wF.heap.size := Nat.lt_of_lt_of_le hs1 HBF.out.size
  have f1 := (HBF.out.cell (p := ⟨w.heap.size, 1, none⟩) hs1).trans e1
  have f2 := (HBF.out.cell (p := ⟨w.heap.size, 2, none⟩) hs1).trans e2
  have f3 := (HBF.out.cell (p := ⟨w.heap.size, 3, none⟩) hs1).trans e3
  have f4 := (HBF.out.cell (p := ⟨w.heap.size, 4, none⟩) hs1).trans e4
  have f5 := (HBF.out.cell (p := ⟨w.heap.size, 5, none⟩) hs1).trans e5
  have f6 := (HBF.out.cell (p := ⟨w.heap.size, 6, none⟩) hs1).trans e6
  have HWF : Hid (Below w.heap.size w wF) := hid (HB1.out.trans (HBF.out.mono HB1.out.size))
  obtain ⟨kb, gkb⟩ : ∃ kb, kb = w.heap.size := ⟨_, rfl⟩
  rw [← gkb] at f0 f1 f2 f3 f4 f5 f6 hsF ⊢
  have hS0 : St wF B kb G pp p x g u V F F wF := by
    have h := HP.out.grow HWF.out
    refine ⟨h, Upd.refl _ _, fun b hk hb => ⟨hb, fun e => ?_, fun hG => ?_, fun hR => ?_⟩⟩
    · omega
    · have := HP.out.pf
      have h1 := (HP.out.gG b hG).2.1
      omega
    · have h1 := HP.out.rf.foot_lt b hR
      omega
  have q0 := hS0.c0
  have q1 := hS0.c1
  have HS0 := hid hS0
  have GKB := hid gkb
  have HKB : Hid (kb ≤ kb) := hid (Nat.le_refl _)
  clear e0 e1 e2 e3 e4 e5 e6 kc hS0 gkb
  obtain ⟨R, gR⟩ : ∃ R, R = F.link (bl t4) (bl t5) := ⟨_, rfl⟩
  have HE : Hid (FOk R.1 ∧ LB R.1 (m + 1) ∧ (FSh F → FSh R.1)) := by rw [gR]; exact hid ⟨HF.out.link _ _, HL.out.link _ _, fun s => s.link HF.out _ _⟩
  have KP : Hid (∀ W G V Fd, St wF B kb G pp p x g u V F Fd W → Calls Tryz.prog 27 #[.pointer (some ⟨p, 0, none⟩), .string t4, .string t5] W fun e w' => e = .returned (.int .i64 R.2) ∧ ∃ G', St wF B kb G' pp p x g u V R.1 Fd w') := by
    rw [gR]
    exact hid (fun W G V Fd hs => (plink p F G W hs.pr.pf HF.out t4 t5 (Nat.le_trans H4.out (by omega)) (Nat.le_trans H5.out (by omega)) HML.out).mono (by rintro e w' ⟨he, t⟩; exact ⟨he, hs.prog t⟩))
  have KD : Hid (∀ W G V Fp, St wF B kb G pp p x g u V Fp F W → Calls Tryz.prog 28 #[.pointer (some ⟨x, 0, none⟩), .string t4, .string t5] W fun e w' => e = .returned (.int .i64 R.2) ∧ ∃ V', St wF B kb G pp p x g u V' Fp R.1 w') := by
    rw [gR]
    exact hid (fun W G V Fp hs => (rlink_any x g u V F W hs.pr.rf HF.out HML.out t4 t5 H4.out H5.out).mono (by rintro e w' ⟨he, t⟩; exact ⟨he, hs.doc t⟩))
  clear gR
  go_wp2_with fail
  go_region_held3 (fun W => W.cell? ⟨pp, 0, none⟩ = some (.pointer (some ⟨p, 0, none⟩)) ∧ W.cell? ⟨pp, 1, none⟩ = some (.pointer (some ⟨x, 0, none⟩)) ∧ W.cell? ⟨kb, 4, none⟩ = some (.string t4) ∧ W.cell? ⟨kb, 5, none⟩ = some (.string t5)) (first | (refine ⟨?_, ?_, ?_, ?_⟩ <;> assumption) | go_keep) (first
    | (go_at_call 27; refine (KP.out _ _ _ _ (by first | exact HS2.out | exact HS0.out.drew | exact HS0.out)).mono ?_; rintro e w1 ⟨rfl, G1, hS1⟩; have z0 := hS1.c0; have z1 := hS1.c1; have zk4 := hS1.k HKB.out hsF f4; have zk5 := hS1.k HKB.out hsF f5; have HS1 := hid hS1; clear hS1)
    | (go_at_call 28; refine (KD.out _ _ _ _ (by first | exact HS1.out | exact HS0.out.drew | exact HS0.out)).mono ?_; rintro e w2 ⟨rfl, V2, hS2⟩; have y0 := hS2.c0; have y1 := hS2.c1; have yk4 := hS2.k HKB.out hsF f4; have yk5 := hS2.k HKB.out hsF f5; have HS2 := hid hS2; clear hS2)
    | fail)
  all_goals
    go_wp2_with fail
    go_ret
    first
    | exact HS1.out.done HWF.out HB.out HE.out
    | exact HS2.out.done HWF.out HB.out HE.out
    | exact HS1.out.drew.done HWF.out HB.out HE.out
    | exact HS2.out.drew.done HWF.out HB.out HE.out

end Go.Proofs.YtliekndkjjaldaaGreat

/- Whether a number stands in a list of numbers (slices.Contains). -/
namespace Go.Proofs.YtliekndkjjaldaaGreat
open Go.RowKit
set_option linter.unusedVariables false
set_option maxRecDepth 20000

set_option maxHeartbeats 4000000 in
theorem nindex_any (g n c : Nat) (l : List Nat) (v : Nat) (w : World) (h : ∀ j, j < n → w.cell? ⟨g, j, none⟩ = some (.int .i64 ((l.getD j 0 : Nat) : Int))) (hn : l.length = n) (hc : n ≤ 9223372036854775807) :
    Calls Tryz.prog 127 #[.slice (some ⟨g, 0, none⟩) n c, .int .i64 (v : Int)] w fun e w' => ∃ r : Int, e = .returned (.int .i64 r) ∧ decide (0 ≤ r) = decide (v ∈ l) ∧ w' = w := by
  have HE := hid h
  have HN := hid hn
  clear h hn
  go_enter Tryz.func127, Tryz.ntmps127
  go_wp2_with fail
  go_loop [8] (fun k => ∃ j : Nat, j ≤ n ∧ k = .int .i64 j ∧ Hid (v ∉ l.take j)) (fun k => n - (intOf k).toNat)
  case atStart => exact ⟨0, Nat.zero_le _, rfl, hid (by simp)⟩
  case round =>
    obtain ⟨j, hj, rfl, HA⟩ := hrel
    by_cases hlt : j < n
    · have hjl : j < l.length := by rw [HN.out]; exact hlt
      have hci := HE.out j hlt
      have hx0 : l.getD j 0 = l[j] := by rw [List.getD_eq_getElem?_getD, List.getElem?_eq_getElem hjl]; rfl
      have H1 : Hid (l.getD j 0 ≠ v → v ∉ l.take (j + 1)) := hid (fun hne h => by
        rw [List.take_succ_eq_append_getElem hjl] at h
        rcases List.mem_append.1 h with h | h
        · exact HA.out h
        · simp at h; exact hne (hx0.trans h.symm))
      have H2 : Hid (l.getD j 0 = v → v ∈ l) := hid (fun e => by rw [← e, hx0]; exact List.getElem_mem _)
      clear hx0
      generalize l.getD j 0 = x at hci H1 H2
      by_cases hx : x = v
      · subst hx
        go_wp2_with fail
        go_ret
        exact ⟨_, rfl, by have hm : x ∈ l := H2.out (by trivial); simp [hm], rfl⟩
      · have hx2 : ¬ (v : Int) = (x : Int) := by omega
        have hx3 : ¬ (x : Int) = (v : Int) := by omega
        go_wp2_with fail
        go_round
        case rel => exact ⟨j + 1, by omega, by go_num, hid (H1.out hx)⟩
        case measure => simp [intOf]; omega
    · obtain rfl : j = n := by omega
      go_wp2_with fail
      go_ret
      refine ⟨_, rfl, ?_, rfl⟩
      have := HA.out
      rw [← HN.out, List.take_length] at this
      simp [this]

theorem ret_bool {a b : Bool} (h : a = b) : Ending.returned (.bool a) = .returned (.bool b) := by rw [h]
theorem ncont_any (g n c : Nat) (l : List Nat) (v : Nat) (w : World) (h : ∀ j, j < n → w.cell? ⟨g, j, none⟩ = some (.int .i64 ((l.getD j 0 : Nat) : Int))) (hn : l.length = n) (hc : n ≤ 9223372036854775807) :
    Calls Tryz.prog 110 #[.slice (some ⟨g, 0, none⟩) n c, .int .i64 (v : Int)] w fun e w' => e = .returned (.bool (decide (v ∈ l))) ∧ w' = w := by
  have k1 := hid (nindex_any g n c l v w h hn hc)
  clear h hn
  go_enter Tryz.func110, Tryz.ntmps110
  go_wp2_with fail
  refine k1.out.mono ?_
  rintro e w1 ⟨r, rfl, hr, rfl⟩
  have HR := hid hr
  clear hr
  go_wp2_with fail
  go_ret
  exact ⟨ret_bool HR.out, rfl⟩

end Go.Proofs.YtliekndkjjaldaaGreat

/- What mayReplace and mayRename tell. -/
namespace Go.Proofs.YtliekndkjjaldaaGreat
open Go.RowKit Go.ChangeMaps Go.MapKept
set_option linter.unusedVariables false
set_option maxRecDepth 20000

set_option maxHeartbeats 2000000 in
theorem mayrep_any (p : Nat) (S : Sg) (F : Fs) (w : World) (H : Sy w p S) (R : Rel S F) (hF : FOk F) (n m : Nat) (hn : n < 17) (hm : m < 17) :
    Calls Tryz.prog 109 #[.pointer (some ⟨p, 1 + n * 107, none⟩), .pointer (some ⟨p, 1 + m * 107, none⟩)] w fun e w' => e = .returned (.int .i64 (F.over n m)) ∧ w' = w := by
  have cn := H.k n hn
  have cm := H.k m hm
  rw [(R.P n hn).k] at cn
  rw [(R.P m hm).k] at cm
  have kn := hid (isdir_any p (1 + n * 107) _ w cn)
  have km := hid (isdir_any p (1 + m * 107) _ w cm)
  have ks := hid (maygo_any p S F w H R hF m hm)
  unfold Fs.over
  obtain ⟨E, gE⟩ : ∃ E, E = F.stays m := ⟨_, rfl⟩
  rw [← gE] at ks ⊢
  clear H R hF cn cm gE
  by_cases q1 : (F.P m).k = 2 <;> by_cases q2 : (F.P n).k = 2
  · rw [if_pos q1, if_pos q2]
    rw [show decide ((F.P m).k = 2) = true by simp [q1]] at km
    rw [show decide ((F.P n).k = 2) = true by simp [q2]] at kn
    clear q1 q2
    go_enter Tryz.func109, Tryz.ntmps109
    go_wp2_with (first | (go_at_call 63; first | (refine km.out.mono ?_; rintro e w' ⟨rfl, rfl⟩) | (refine kn.out.mono ?_; rintro e w' ⟨rfl, rfl⟩)) | (go_at_call 70; refine ks.out.mono ?_; rintro e w' ⟨rfl, rfl⟩))
    go_ret
    exact ⟨rfl, rfl⟩
  · rw [if_pos q1, if_neg q2]
    rw [show decide ((F.P m).k = 2) = true by simp [q1]] at km
    rw [show decide ((F.P n).k = 2) = false by simp [q2]] at kn
    clear q1 q2
    go_enter Tryz.func109, Tryz.ntmps109
    go_wp2_with (first | (go_at_call 63; first | (refine km.out.mono ?_; rintro e w' ⟨rfl, rfl⟩) | (refine kn.out.mono ?_; rintro e w' ⟨rfl, rfl⟩)) | (go_at_call 70; refine ks.out.mono ?_; rintro e w' ⟨rfl, rfl⟩))
    go_ret
    exact ⟨rfl, rfl⟩
  · rw [if_neg q1, if_pos q2]
    rw [show decide ((F.P m).k = 2) = false by simp [q1]] at km
    rw [show decide ((F.P n).k = 2) = true by simp [q2]] at kn
    clear q1 q2
    go_enter Tryz.func109, Tryz.ntmps109
    go_wp2_with (first | (go_at_call 63; first | (refine km.out.mono ?_; rintro e w' ⟨rfl, rfl⟩) | (refine kn.out.mono ?_; rintro e w' ⟨rfl, rfl⟩)) | (go_at_call 70; refine ks.out.mono ?_; rintro e w' ⟨rfl, rfl⟩))
    go_ret
    exact ⟨rfl, rfl⟩
  · rw [if_neg q1, if_neg q2]
    rw [show decide ((F.P m).k = 2) = false by simp [q1]] at km
    rw [show decide ((F.P n).k = 2) = false by simp [q2]] at kn
    clear q1 q2
    go_enter Tryz.func109, Tryz.ntmps109
    go_wp2_with (first | (go_at_call 63; first | (refine km.out.mono ?_; rintro e w' ⟨rfl, rfl⟩) | (refine kn.out.mono ?_; rintro e w' ⟨rfl, rfl⟩)) | (go_at_call 70; refine ks.out.mono ?_; rintro e w' ⟨rfl, rfl⟩))
    go_ret
    exact ⟨rfl, rfl⟩

/-- A place as it is handed on: a way that lies in its own block, a name, a node. -/
def plcV (g n c : Nat) (nm : ByteArray) (i : Nat) : Value := .agg #[.slice (some ⟨g, 0, none⟩) n c, .string nm, .int .i64 (i : Int)]
structure Wy (w : World) (g n c : Nat) (y : List Nat) : Prop where
  at_ : ∀ j, j < n → w.cell? ⟨g, j, none⟩ = some (.int .i64 ((y.getD j 0 : Nat) : Int))
  len : y.length = n
  pos : 0 < n
  lt : g < w.heap.size
  cap : n ≤ c
  max : c ≤ 9223372036854775807
theorem Wy.grow {w w' : World} {g n c : Nat} {y : List Nat} (h : Wy w g n c y) (u : Below w.heap.size w w') : Wy w' g n c y :=
  ⟨fun j hj => (u.cell (p := ⟨g, j, none⟩) h.lt).trans (h.at_ j hj), h.len, h.pos, Nat.lt_of_lt_of_le h.lt u.size, h.cap, h.max⟩
theorem Wy.last {w : World} {g n c : Nat} {y : List Nat} (h : Wy w g n c y) : w.cell? ⟨g, n - 1, none⟩ = some (.int .i64 ((Fs.dirOf y : Nat) : Int)) := by
  rw [h.at_ (n - 1) (by have := h.pos; omega)]
  unfold Fs.dirOf
  have hl := h.len
  have hp := h.pos
  rw [List.getLastD_eq_getLast?, List.getLast?_eq_getElem?, hl, List.getD_eq_getElem?_getD]
theorem Wy.dir {w : World} {g n c : Nat} {y : List Nat} (h : Wy w g n c y) (nm : ByteArray) (i : Nat) :
    Calls Tryz.prog 104 #[plcV g n c nm i] w fun e w' => e = .returned (.int .i64 ((Fs.dirOf y : Nat) : Int)) ∧ Below w.heap.size w w' :=
  dir_any w g n c (Fs.dirOf y) nm (i : Int) h.pos h.last h.lt h.cap h.max

/-- What keeps a rename away. -/
def Fs.mayR (F : Fs) (y : List Nat) (i : Nat) (y2 : List Nat) (m : Nat) : Int :=
  if m ≠ 0 ∧ F.over i m ≠ 0 then F.over i m else if i ∈ y2 then 22 else if m = 0 ∧ Fs.dirOf y2 ≠ Fs.dirOf y ∧ 6 ≤ (F.P (Fs.dirOf y2)).Q.length then 28 else 0

theorem two_boxes {w : World} (a b : Obj) : Below w.heap.size w ((w.alloc a).alloc b) := ((Below.refl _ _).alloc (Nat.le_refl _) _).alloc (by simp) _

end Go.Proofs.YtliekndkjjaldaaGreat
