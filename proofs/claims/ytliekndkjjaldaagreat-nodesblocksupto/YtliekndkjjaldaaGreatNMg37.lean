/- Texts of this seat, merged. -/
import Derived.Test.YtliekndkjjaldaaGreatNMg25
import Derived.Test.YtliekndkjjaldaaGreatNMg15
import Derived.Test.YtliekndkjjaldaaGreatNMg27
import Derived.Test.YtliekndkjjaldaaGreatNMg16
import Derived.Deep.RegionHeld3
import Derived.Deep.DeepCutAuto
import Derived.Deep.CutBlock
import Derived.Test.YtliekndkjjaldaaGreatNMg17
import Derived.Test.YtliekndkjjaldaaGreatNMg26
import Derived.Test.YtliekndkjjaldaaGreatNMg28
import Derived.Test.YtliekndkjjaldaaGreatNMg36

/- What 'does' does: cases 10, 11 (written by gen_do.py). -/
namespace Go.Proofs.YtliekndkjjaldaaGreat
open Go.RowKit Go.ChangeMaps Go.MapKept
set_option linter.unusedVariables false
set_option maxRecDepth 20000

set_option maxHeartbeats 8000000 in
theorem does_10 (pp p x g u B : Nat) (G : Nat → Prop) (V : Nat → Value) (F : Fs) (m : Int) (x0 x1 x2 x3 : Int) (t4 t5 : ByteArray) (ab : Option Addr) (lb cb : Nat) (bz : List Int) (w : World) (H : Pr w B G pp p x g u V F F) (hF : FOk F) (hL : LB F m) (hm : 1 ≤ m ∧ m ≤ 900000)
    (h4 : t4.size ≤ 1048576) (h5 : t5.size ≤ 1048576) (hx2 : x2 ≤ 9223372036854775807) (hx3 : x3 ≤ 9223372036854775807) (hb : Src w ab lb bz) (hbz : ∀ z ∈ bz, 0 ≤ z ∧ z < 256) (hlb : lb ≤ 140737488355328) (hcb : lb ≤ cb) (hcb2 : cb ≤ 9223372036854775807) (hbn : ab = none → lb = 0 ∧ cb = 0) (hbB : 0 < lb → ∀ b o, ab = some ⟨b, o, none⟩ → b < B)
    (hq : wrap64 ((IntKind.u64.wrap x0).tmod 13) = 10) :
    Calls Tryz.prog 8 #[.pointer (some ⟨pp, 0, none⟩), .agg #[.int .i64 x0, .int .i64 x1, .int .i64 x2, .int .i64 x3, .string t4, .string t5, .slice ab lb cb]] w (DoP w B pp p x g u m F) := by
  have hpl := H.lt
  have HB : Hid (B ≤ w.heap.size) := hid (Nat.le_trans H.gp (Nat.le_of_lt hpl))
  have HF := hid hF
  have HL := hid hL
  have HM := hid hm
  have H4 := hid h4
  have H5 := hid h5
  have HX2 := hid hx2
  have HX3 := hid hx3
  have HSB := hid hb
  have HBZ := hid hbz
  have HBB := hid hbB
  have HLC := hid hcb
  have HLL := hid hlb
  have HML : Hid (∀ i, (F.P i).l ≤ 1000000) := hid (fun i => Int.le_trans (hL i) (by omega))
  have HQ := hid hq
  have HP := hid H
  have kc : Hid (∀ wx, Below w.heap.size w wx → Calls Tryz.prog 18 #[.slice ab lb cb] wx fun e w' => ∃ (av : Option Addr) (cv : Nat), e = .returned (.slice av lb cv) ∧ w'.ownsRow wx.heap.size 5 1 (.slice av lb cv) lb (bz.map (Value.int .u8)) ∧ Below wx.heap.size wx w') := hid (fun wx hbx => clone_opt ab lb cb bz wx (hb.below hbx) hlb hbn)
  clear H hF hL hm h4 h5 hx2 hx3 hb hbz hlb hcb hcb2 hbn hbB hq
  go_enter Tryz.func8, Tryz.ntmps8
  go_upto_region 1 with fail
  obtain ⟨W1, gW1⟩ : ∃ W1, W1 = w.alloc (.cells #[.int .i64 x0, .int .i64 x1, .int .i64 x2, .int .i64 x3, .string t4, .string t5, .slice ab lb cb] 32) := ⟨_, rfl⟩
  rw [← gW1]
  have hb1 : Below w.heap.size w W1 := by rw [gW1]; exact (Below.refl _ _).alloc (Nat.le_refl _) _
  have hs1 : w.heap.size < W1.heap.size := by rw [gW1]; simp
  have e0 : W1.cell? ⟨w.heap.size, 0, none⟩ = some (.int .i64 x0) := by rw [gW1]; simp [go_sem]
  have e1 : W1.cell? ⟨w.heap.size, 1, none⟩ = some (.int .i64 x1) := by rw [gW1]; simp [go_sem]
  have e2 : W1.cell? ⟨w.heap.size, 2, none⟩ = some (.int .i64 x2) := by rw [gW1]; simp [go_sem]
  have e3 : W1.cell? ⟨w.heap.size, 3, none⟩ = some (.int .i64 x3) := by rw [gW1]; simp [go_sem]
  have e4 : W1.cell? ⟨w.heap.size, 4, none⟩ = some (.string t4) := by rw [gW1]; simp [go_sem]
  have e5 : W1.cell? ⟨w.heap.size, 5, none⟩ = some (.string t5) := by rw [gW1]; simp [go_sem]
  have e6 : W1.cell? ⟨w.heap.size, 6, none⟩ = some (.slice ab lb cb) := by rw [gW1]; simp [go_sem]
  have HB1 := hid hb1
  clear gW1 hb1
  go_upto_block 0 with (go_at_call 18; refine (kc.out _ HB1.out).mono ?_; rintro e wF ⟨av, cv, rfl, hG, hbF⟩; have f0 := (hbF.cell (p := ⟨w.heap.size, 0, none⟩) hs1).trans e0; have HG := hid hG; have HBF := hid hbF; clear hG hbF)
  rw [HQ.out]
  have hsF : w.heap.size < wF.heap.size := Nat.lt_of_lt_of_le hs1 HBF.out.size
  have f1 := (HBF.out.cell (p := ⟨w.heap.size, 1, none⟩) hs1).trans e1
  have f2 := (HBF.out.cell (p := ⟨w.heap.size, 2, none⟩) hs1).trans e2
  have f3 := (HBF.out.cell (p := ⟨w.heap.size, 3, none⟩) hs1).trans e3
  have f4 := (HBF.out.cell (p := ⟨w.heap.size, 4, none⟩) hs1).trans e4
  have f5 := (HBF.out.cell (p := ⟨w.heap.size, 5, none⟩) hs1).trans e5
  have f6 := (HBF.out.cell (p := ⟨w.heap.size, 6, none⟩) hs1).trans e6
  have HWF : Hid (Below w.heap.size w wF) := hid (HB1.out.trans (HBF.out.mono HB1.out.size))
  obtain ⟨kb, gkb⟩ : ∃ kb, kb = w.heap.size := ⟨_, rfl⟩
  rw [← gkb] at f0 f1 f2 f3 f4 f5 f6 hsF ⊢
  have hS0 : St wF B kb G pp p x g u V F F wF := by
    have h := HP.out.grow HWF.out
    refine ⟨h, Upd.refl _ _, fun b hk hb => ⟨hb, fun e => ?_, fun hG => ?_, fun hR => ?_⟩⟩
    · omega
    · have := HP.out.pf
      have h1 := (HP.out.gG b hG).2.1
      omega
    · have h1 := HP.out.rf.foot_lt b hR
      omega
  have q0 := hS0.c0
  have q1 := hS0.c1
  have HS0 := hid hS0
  have GKB := hid gkb
  have HKB : Hid (kb ≤ kb) := hid (Nat.le_refl _)
  clear e0 e1 e2 e3 e4 e5 e6 kc hS0 gkb
  obtain ⟨R, gR⟩ : ∃ R, R = F.hold x1 := ⟨_, rfl⟩
  have HE : Hid (FOk R.1 ∧ LB R.1 (m + 1) ∧ (FSh F → FSh R.1)) := by rw [gR]; exact hid ⟨HF.out.hold _, (HL.out.hold _).mono (by omega), fun s => s.hold _⟩
  have KP : Hid (∀ W G V Fd, St wF B kb G pp p x g u V F Fd W → Calls Tryz.prog 39 #[.pointer (some ⟨p, 0, none⟩), .int .i64 x1] W fun e w' => e = .returned (.int .i64 R.2) ∧ ∃ G', St wF B kb G' pp p x g u V R.1 Fd w') := by
    rw [gR]
    exact hid (fun W G V Fd hs => (phold p F G W hs.pr.pf HF.out x1).mono (by rintro e w' ⟨he, t⟩; exact ⟨he, hs.prog t⟩))
  have KD : Hid (∀ W G V Fp, St wF B kb G pp p x g u V Fp F W → Calls Tryz.prog 40 #[.pointer (some ⟨x, 0, none⟩), .int .i64 x1] W fun e w' => e = .returned (.int .i64 R.2) ∧ ∃ V', St wF B kb G pp p x g u V' Fp R.1 w') := by
    rw [gR]
    exact hid (fun W G V Fp hs => (rhold_any x g u V F W hs.pr.rf HF.out x1).mono (by rintro e w' ⟨he, t⟩; exact ⟨he, hs.doc t⟩))
  clear gR
  go_wp2_with fail
  go_region_held3 (fun W => W.cell? ⟨pp, 0, none⟩ = some (.pointer (some ⟨p, 0, none⟩)) ∧ W.cell? ⟨pp, 1, none⟩ = some (.pointer (some ⟨x, 0, none⟩)) ∧ W.cell? ⟨kb, 1, none⟩ = some (.int .i64 x1)) (first | (refine ⟨?_, ?_, ?_⟩ <;> assumption) | go_keep) (first
    | (go_at_call 39; refine (KP.out _ _ _ _ (by first | exact HS2.out | exact HS0.out.drew | exact HS0.out)).mono ?_; rintro e w1 ⟨rfl, G1, hS1⟩; have z0 := hS1.c0; have z1 := hS1.c1; have zk1 := hS1.k HKB.out hsF f1; have HS1 := hid hS1; clear hS1)
    | (go_at_call 40; refine (KD.out _ _ _ _ (by first | exact HS1.out | exact HS0.out.drew | exact HS0.out)).mono ?_; rintro e w2 ⟨rfl, V2, hS2⟩; have y0 := hS2.c0; have y1 := hS2.c1; have yk1 := hS2.k HKB.out hsF f1; have HS2 := hid hS2; clear hS2)
    | fail)
  all_goals
    go_wp2_with fail
    go_ret
    first
    | exact HS1.out.done HWF.out HB.out HE.out
    | exact HS2.out.done HWF.out HB.out HE.out
    | exact HS1.out.drew.done HWF.out HB.out HE.out
    | exact HS2.out.drew.done HWF.out HB.out HE.out

set_option maxHeartbeats 8000000 in
theorem does_11 (pp p x g u B : Nat) (G : Nat → Prop) (V : Nat → Value) (F : Fs) (m : Int) (x0 x1 x2 x3 : Int) (t4 t5 : ByteArray) (ab : Option Addr) (lb cb : Nat) (bz : List Int) (w : World) (H : Pr w B G pp p x g u V F F) (hF : FOk F) (hL : LB F m) (hm : 1 ≤ m ∧ m ≤ 900000)
    (h4 : t4.size ≤ 1048576) (h5 : t5.size ≤ 1048576) (hx2 : x2 ≤ 9223372036854775807) (hx3 : x3 ≤ 9223372036854775807) (hb : Src w ab lb bz) (hbz : ∀ z ∈ bz, 0 ≤ z ∧ z < 256) (hlb : lb ≤ 140737488355328) (hcb : lb ≤ cb) (hcb2 : cb ≤ 9223372036854775807) (hbn : ab = none → lb = 0 ∧ cb = 0) (hbB : 0 < lb → ∀ b o, ab = some ⟨b, o, none⟩ → b < B)
    (hq : wrap64 ((IntKind.u64.wrap x0).tmod 13) = 11) :
    Calls Tryz.prog 8 #[.pointer (some ⟨pp, 0, none⟩), .agg #[.int .i64 x0, .int .i64 x1, .int .i64 x2, .int .i64 x3, .string t4, .string t5, .slice ab lb cb]] w (DoP w B pp p x g u m F) := by
  have hpl := H.lt
  have HB : Hid (B ≤ w.heap.size) := hid (Nat.le_trans H.gp (Nat.le_of_lt hpl))
  have HF := hid hF
  have HL := hid hL
  have HM := hid hm
  have H4 := hid h4
  have H5 := hid h5
  have HX2 := hid hx2
  have HX3 := hid hx3
  have HSB := hid hb
  have HBZ := hid hbz
  have HBB := hid hbB
  have HLC := hid hcb
  have HLL := hid hlb
  have HML : Hid (∀ i, (F.P i).l ≤ 1000000) := hid (fun i => Int.le_trans (hL i) (by omega))
  have HQ := hid hq
  have HP := hid H
  have kc : Hid (∀ wx, Below w.heap.size w wx → Calls Tryz.prog 18 #[.slice ab lb cb] wx fun e w' => ∃ (av : Option Addr) (cv : Nat), e = .returned (.slice av lb cv) ∧ w'.ownsRow wx.heap.size 5 1 (.slice av lb cv) lb (bz.map (Value.int .u8)) ∧ Below wx.heap.size wx w') := hid (fun wx hbx => clone_opt ab lb cb bz wx (hb.below hbx) hlb hbn)
  clear H hF hL hm h4 h5 hx2 hx3 hb hbz hlb hcb hcb2 hbn hbB hq
  go_enter Tryz.func8, Tryz.ntmps8
  go_upto_region 1 with fail
  obtain ⟨W1, gW1⟩ : ∃ W1, W1 = w.alloc (.cells #[.int .i64 x0, .int .i64 x1, .int .i64 x2, .int .i64 x3, .string t4, .string t5, .slice ab lb cb] 32) := ⟨_, rfl⟩
  rw [← gW1]
  have hb1 : Below w.heap.size w W1 := by rw [gW1]; exact (Below.refl _ _).alloc (Nat.le_refl _) _
  have hs1 : w.heap.size < W1.heap.size := by rw [gW1]; simp
  have e0 : W1.cell? ⟨w.heap.size, 0, none⟩ = some (.int .i64 x0) := by rw [gW1]; simp [go_sem]
  have e1 : W1.cell? ⟨w.heap.size, 1, none⟩ = some (.int .i64 x1) := by rw [gW1]; simp [go_sem]
  have e2 : W1.cell? ⟨w.heap.size, 2, none⟩ = some (.int .i64 x2) := by rw [gW1]; simp [go_sem]
  have e3 : W1.cell? ⟨w.heap.size, 3, none⟩ = some (.int .i64 x3) := by rw [gW1]; simp [go_sem]
  have e4 : W1.cell? ⟨w.heap.size, 4, none⟩ = some (.string t4) := by rw [gW1]; simp [go_sem]
  have e5 : W1.cell? ⟨w.heap.size, 5, none⟩ = some (.string t5) := by rw [gW1]; simp [go_sem]
  have e6 : W1.cell? ⟨w.heap.size, 6, none⟩ = some (.slice ab lb cb) := by rw [gW1]; simp [go_sem]
  have HB1 := hid hb1
  clear gW1 hb1
  go_upto_block 0 with (go_at_call 18; refine (kc.out _ HB1.out).mono ?_; rintro e wF ⟨av, cv, rfl, hG, hbF⟩; have f0 := (hbF.cell (p := ⟨w.heap.size, 0, none⟩) hs1).trans e0; have HG := hid hG; have HBF := hid hbF; clear hG hbF)
  rw [HQ.out]
  have hsF : w.heap.size < wF.heap.size := Nat.lt_of_lt_of_le hs1 HBF.out.size
  have f1 := (HBF.out.cell (p := ⟨w.heap.size, 1, none⟩) hs1).trans e1
  have f2 := (HBF.out.cell (p := ⟨w.heap.size, 2, none⟩) hs1).trans e2
  have f3 := (HBF.out.cell (p := ⟨w.heap.size, 3, none⟩) hs1).trans e3
  have f4 := (HBF.out.cell (p := ⟨w.heap.size, 4, none⟩) hs1).trans e4
  have f5 := (HBF.out.cell (p := ⟨w.heap.size, 5, none⟩) hs1).trans e5
  have f6 := (HBF.out.cell (p := ⟨w.heap.size, 6, none⟩) hs1).trans e6
  have HWF : Hid (Below w.heap.size w wF) := hid (HB1.out.trans (HBF.out.mono HB1.out.size))
  obtain ⟨kb, gkb⟩ : ∃ kb, kb = w.heap.size := ⟨_, rfl⟩
  rw [← gkb] at f0 f1 f2 f3 f4 f5 f6 hsF ⊢
  have hS0 : St wF B kb G pp p x g u V F F wF := by
    have h := HP.out.grow HWF.out
    refine ⟨h, Upd.refl _ _, fun b hk hb => ⟨hb, fun e => ?_, fun hG => ?_, fun hR => ?_⟩⟩
    · omega
    · have := HP.out.pf
      have h1 := (HP.out.gG b hG).2.1
      omega
    · have h1 := HP.out.rf.foot_lt b hR
      omega
  have q0 := hS0.c0
  have q1 := hS0.c1
  have HS0 := hid hS0
  have GKB := hid gkb
  have HKB : Hid (kb ≤ kb) := hid (Nat.le_refl _)
  clear e0 e1 e2 e3 e4 e5 e6 kc hS0 gkb
  obtain ⟨R, gR⟩ : ∃ R, R = F.drop x1 := ⟨_, rfl⟩
  have HE : Hid (FOk R.1 ∧ LB R.1 (m + 1) ∧ (FSh F → FSh R.1)) := by rw [gR]; exact hid ⟨HF.out.drop _, (HL.out.drop HM.out.1 _).mono (by omega), fun s => s.drop HF.out _⟩
  have KP : Hid (∀ W G V Fd, St wF B kb G pp p x g u V F Fd W → Calls Tryz.prog 41 #[.pointer (some ⟨p, 0, none⟩), .int .i64 x1] W fun e w' => e = .returned (.int .i64 R.2) ∧ ∃ G', St wF B kb G' pp p x g u V R.1 Fd w') := by
    rw [gR]
    exact hid (fun W G V Fd hs => (pdrop p F G W hs.pr.pf HF.out x1).mono (by rintro e w' ⟨he, t⟩; exact ⟨he, hs.prog t⟩))
  have KD : Hid (∀ W G V Fp, St wF B kb G pp p x g u V Fp F W → Calls Tryz.prog 42 #[.pointer (some ⟨x, 0, none⟩), .int .i64 x1] W fun e w' => e = .returned (.int .i64 R.2) ∧ ∃ V', St wF B kb G pp p x g u V' Fp R.1 w') := by
    rw [gR]
    exact hid (fun W G V Fp hs => (rdrop_any x g u V F W hs.pr.rf HF.out x1).mono (by rintro e w' ⟨he, t⟩; exact ⟨he, hs.doc t⟩))
  clear gR
  go_wp2_with fail
  go_region_held3 (fun W => W.cell? ⟨pp, 0, none⟩ = some (.pointer (some ⟨p, 0, none⟩)) ∧ W.cell? ⟨pp, 1, none⟩ = some (.pointer (some ⟨x, 0, none⟩)) ∧ W.cell? ⟨kb, 1, none⟩ = some (.int .i64 x1)) (first | (refine ⟨?_, ?_, ?_⟩ <;> assumption) | go_keep) (first
    | (go_at_call 41; refine (KP.out _ _ _ _ (by first | exact HS2.out | exact HS0.out.drew | exact HS0.out)).mono ?_; rintro e w1 ⟨rfl, G1, hS1⟩; have z0 := hS1.c0; have z1 := hS1.c1; have zk1 := hS1.k HKB.out hsF f1; have HS1 := hid hS1; clear hS1)
    | (go_at_call 42; refine (KD.out _ _ _ _ (by first | exact HS1.out | exact HS0.out.drew | exact HS0.out)).mono ?_; rintro e w2 ⟨rfl, V2, hS2⟩; have y0 := hS2.c0; have y1 := hS2.c1; have yk1 := hS2.k HKB.out hsF f1; have HS2 := hid hS2; clear hS2)
    | fail)
  all_goals
    go_wp2_with fail
    go_ret
    first
    | exact HS1.out.done HWF.out HB.out HE.out
    | exact HS2.out.done HWF.out HB.out HE.out
    | exact HS1.out.drew.done HWF.out HB.out HE.out
    | exact HS2.out.drew.done HWF.out HB.out HE.out

end Go.Proofs.YtliekndkjjaldaaGreat

/- What 'does' does: cases 12 (written by gen_do.py). -/
namespace Go.Proofs.YtliekndkjjaldaaGreat
open Go.RowKit Go.ChangeMaps Go.MapKept
set_option linter.unusedVariables false
set_option maxRecDepth 20000

theorem box_kept {w w1 : World} {Z : Obj} {a : Nat} (hal : a < w.heap.size) (hb : Below (w.alloc Z).drew.heap.size (w.alloc Z).drew w1) : w1.heap[a]? = w.heap[a]? ∧ w1.heap[w.heap.size]? = some Z ∧ w.heap.size < w1.heap.size := by
  have e : (w.alloc Z).drew.heap = (w.alloc Z).heap := rfl
  have hs : (w.alloc Z).heap.size = w.heap.size + 1 := by simp
  have hz : (w.alloc Z).drew.heap.size = w.heap.size + 1 := by rw [e]; exact hs
  refine ⟨?_, ?_, ?_⟩
  · rw [hb.block a (by omega), e]
    exact ((Below.refl w.heap.size w).alloc (Nat.le_refl _) Z).block a hal
  · rw [hb.block w.heap.size (by omega), e]
    exact heap_alloc_new w Z
  · have := hb.size; omega

theorem stored3 {w1 X : World} {g a : Nat} {ty : TypeId} {x y z v0 v1 v2 : Value} {ra : Obj} (h : w1.heap[g]? = some (.cells #[x, y, z] ty (0, 0))) (ha : w1.heap[a]? = some ra) (hne : a ≠ g) (e : X = ((w1.setCell ⟨g, 0, none⟩ v0).setCell ⟨g, 1, none⟩ v1).setCell ⟨g, 2, none⟩ v2) : Upd (· = g) w1 X ∧ X.heap[a]? = some ra ∧ X.heap[g]? = some (.cells #[v0, v1, v2] ty (0, 0)) := by
  subst e
  have hu : Upd (· = g) w1 (((w1.setCell ⟨g, 0, none⟩ v0).setCell ⟨g, 1, none⟩ v1).setCell ⟨g, 2, none⟩ v2) := ((Upd.setCell (F := (· = g)) w1 ⟨g, 0, none⟩ v0 rfl).trans (Upd.setCell (F := (· = g)) _ ⟨g, 1, none⟩ v1 rfl) (fun _ _ h => h)).trans (Upd.setCell (F := (· = g)) _ ⟨g, 2, none⟩ v2 rfl) (fun _ _ h => h)
  exact ⟨hu, hu.heap ha hne, heap_setCell_same _ g 2 _ _ v2 (heap_setCell_same _ g 1 _ _ v1 (heap_setCell_same w1 g 0 _ _ v0 h))⟩

theorem boxed3 {w1 X : World} {a : Nat} {ty : TypeId} {cs : Array Value} {ra : Obj} (ha : w1.heap[a]? = some ra) (e : X = w1.alloc (.cells cs ty)) : Below w1.heap.size w1 X ∧ X.heap[a]? = some ra ∧ X.heap[w1.heap.size]? = some (.cells cs ty (0, 0)) := by
  subst e
  have hb : Below w1.heap.size w1 (w1.alloc (.cells cs ty)) := (Below.refl _ _).alloc (Nat.le_refl _) _
  exact ⟨hb, (hb.block a (Array.getElem?_eq_some_iff.1 ha).1).trans ha, heap_alloc_new _ _⟩

theorem cell_set_other (w : World) (g j : Nat) (v : Value) (a : Addr) (h : a.block ≠ g) : (w.setCell ⟨g, j, none⟩ v).cell? a = w.cell? a :=
  World.cell?_of_block (heap_setCell_other w ⟨g, j, none⟩ a.block v h)

set_option maxHeartbeats 8000000 in
theorem does_12 (pp p x g u B : Nat) (G : Nat → Prop) (V : Nat → Value) (F : Fs) (m : Int) (x0 x1 x2 x3 : Int) (t4 t5 : ByteArray) (ab : Option Addr) (lb cb : Nat) (bz : List Int) (w : World) (H : Pr w B G pp p x g u V F F) (hF : FOk F) (hL : LB F m) (hm : 1 ≤ m ∧ m ≤ 900000)
    (h4 : t4.size ≤ 1048576) (h5 : t5.size ≤ 1048576) (hx2 : x2 ≤ 9223372036854775807) (hx3 : x3 ≤ 9223372036854775807) (hb : Src w ab lb bz) (hbz : ∀ z ∈ bz, 0 ≤ z ∧ z < 256) (hlb : lb ≤ 140737488355328) (hcb : lb ≤ cb) (hcb2 : cb ≤ 9223372036854775807) (hbn : ab = none → lb = 0 ∧ cb = 0) (hbB : 0 < lb → ∀ b o, ab = some ⟨b, o, none⟩ → b < B)
    (hq : wrap64 ((IntKind.u64.wrap x0).tmod 13) = 12) :
    Calls Tryz.prog 8 #[.pointer (some ⟨pp, 0, none⟩), .agg #[.int .i64 x0, .int .i64 x1, .int .i64 x2, .int .i64 x3, .string t4, .string t5, .slice ab lb cb]] w (DoP w B pp p x g u m F) := by
  have hpl := H.lt
  have HB : Hid (B ≤ w.heap.size) := hid (Nat.le_trans H.gp (Nat.le_of_lt hpl))
  have HF := hid hF
  have HL := hid hL
  have HM := hid hm
  have H4 := hid h4
  have H5 := hid h5
  have HX2 := hid hx2
  have HX3 := hid hx3
  have HSB := hid hb
  have HBZ := hid hbz
  have HBB := hid hbB
  have HLC := hid hcb
  have HLL := hid hlb
  have HML : Hid (∀ i, (F.P i).l ≤ 1000000) := hid (fun i => Int.le_trans (hL i) (by omega))
  have HQ := hid hq
  have HP := hid H
  have kc : Hid (∀ wx, Below w.heap.size w wx → Calls Tryz.prog 18 #[.slice ab lb cb] wx fun e w' => ∃ (av : Option Addr) (cv : Nat), e = .returned (.slice av lb cv) ∧ w'.ownsRow wx.heap.size 5 1 (.slice av lb cv) lb (bz.map (Value.int .u8)) ∧ Below wx.heap.size wx w') := hid (fun wx hbx => clone_opt ab lb cb bz wx (hb.below hbx) hlb hbn)
  clear H hF hL hm h4 h5 hx2 hx3 hb hbz hlb hcb hcb2 hbn hbB hq
  go_enter Tryz.func8, Tryz.ntmps8
  go_upto_region 1 with fail
  obtain ⟨W1, gW1⟩ : ∃ W1, W1 = w.alloc (.cells #[.int .i64 x0, .int .i64 x1, .int .i64 x2, .int .i64 x3, .string t4, .string t5, .slice ab lb cb] 32) := ⟨_, rfl⟩
  rw [← gW1]
  have hb1 : Below w.heap.size w W1 := by rw [gW1]; exact (Below.refl _ _).alloc (Nat.le_refl _) _
  have hs1 : w.heap.size < W1.heap.size := by rw [gW1]; simp
  have e0 : W1.cell? ⟨w.heap.size, 0, none⟩ = some (.int .i64 x0) := by rw [gW1]; simp [go_sem]
  have e1 : W1.cell? ⟨w.heap.size, 1, none⟩ = some (.int .i64 x1) := by rw [gW1]; simp [go_sem]
  have e2 : W1.cell? ⟨w.heap.size, 2, none⟩ = some (.int .i64 x2) := by rw [gW1]; simp [go_sem]
  have e3 : W1.cell? ⟨w.heap.size, 3, none⟩ = some (.int .i64 x3) := by rw [gW1]; simp [go_sem]
  have e4 : W1.cell? ⟨w.heap.size, 4, none⟩ = some (.string t4) := by rw [gW1]; simp [go_sem]
  have e5 : W1.cell? ⟨w.heap.size, 5, none⟩ = some (.string t5) := by rw [gW1]; simp [go_sem]
  have e6 : W1.cell? ⟨w.heap.size, 6, none⟩ = some (.slice ab lb cb) := by rw [gW1]; simp [go_sem]
  have HB1 := hid hb1
  clear gW1 hb1
  go_upto_block 0 with (go_at_call 18; refine (kc.out _ HB1.out).mono ?_; rintro e wF ⟨av, cv, rfl, hG, hbF⟩; have f0 := (hbF.cell (p := ⟨w.heap.size, 0, none⟩) hs1).trans e0; have HG := hid hG; have HBF := hid hbF; clear hG hbF)
  rw [HQ.out]
  have hsF : w.heap.size < wF.heap.size := Nat.lt_of_lt_of_le hs1 HBF.out.size
  have f1 := (HBF.out.cell (p := ⟨w.heap.size, 1, none⟩) hs1).trans e1
  have f2 := (HBF.out.cell (p := ⟨w.heap.size, 2, none⟩) hs1).trans e2
  have f3 := (HBF.out.cell (p := ⟨w.heap.size, 3, none⟩) hs1).trans e3
  have f4 := (HBF.out.cell (p := ⟨w.heap.size, 4, none⟩) hs1).trans e4
  have f5 := (HBF.out.cell (p := ⟨w.heap.size, 5, none⟩) hs1).trans e5
  have f6 := (HBF.out.cell (p := ⟨w.heap.size, 6, none⟩) hs1).trans e6
  have HWF : Hid (Below w.heap.size w wF) := hid (HB1.out.trans (HBF.out.mono HB1.out.size))
  obtain ⟨kb, gkb⟩ : ∃ kb, kb = w.heap.size := ⟨_, rfl⟩
  rw [← gkb] at f0 f1 f2 f3 f4 f5 f6 hsF ⊢
  have hS0 : St wF B kb G pp p x g u V F F wF := by
    have h := HP.out.grow HWF.out
    refine ⟨h, Upd.refl _ _, fun b hk hb => ⟨hb, fun e => ?_, fun hG => ?_, fun hR => ?_⟩⟩
    · omega
    · have := HP.out.pf
      have h1 := (HP.out.gG b hG).2.1
      omega
    · have h1 := HP.out.rf.foot_lt b hR
      omega
  have q0 := hS0.c0
  have q1 := hS0.c1
  have HS0 := hid hS0
  have GKB := hid gkb
  have HKB : Hid (kb ≤ kb) := hid (Nat.le_refl _)
  clear e0 e1 e2 e3 e4 e5 e6 kc hS0 gkb
  obtain ⟨R, gR⟩ : ∃ R, R = F.stat x1 := ⟨_, rfl⟩
  have HE : Hid (FOk F ∧ LB F (m + 1) ∧ (FSh F → FSh F)) := hid ⟨HF.out, HL.out.mono (by omega), fun s => s⟩
  have KP : Hid (∀ W G V Fd, St wF B kb G pp p x g u V F Fd W → Calls Tryz.prog 43 #[.pointer (some ⟨p, 0, none⟩), .int .i64 x1] W fun e w' => e = .returned (.tuple #[.agg #[.int .i64 R.1, .int .i64 R.2.1, .int .i64 R.2.2.1], .int .i64 R.2.2.2]) ∧ ∃ G', St wF B kb G' pp p x g u V F Fd w' ∧ ∀ b, Oth W G pp x g u V b → w'.heap[b]? = W.heap[b]? ∧ Oth w' G' pp x g u V b) := by
    rw [gR]
    refine hid (fun W G V Fd hs => (pstat p F G W hs.pr.pf HF.out x1).mono ?_)
    rintro e w' ⟨he, t⟩
    obtain ⟨a, b, c⟩ := hs.pr.prog t
    exact ⟨he, _, ⟨a, hs.up.trans t.2 (fun b hb hG => ⟨(hs.pr.gG b hG).1, Nat.lt_of_not_le fun hk => (hs.ot b hk hb).2.2.1 hG⟩), fun b hk hb => (c b (hs.ot b hk hb)).2⟩, c⟩
  have KD : Hid (∀ W G V Fp, St wF B kb G pp p x g u V Fp F W → Calls Tryz.prog 44 #[.pointer (some ⟨x, 0, none⟩), .int .i64 x1] W fun e w' => e = .returned (.tuple #[.agg #[.int .i64 R.1, .int .i64 R.2.1, .int .i64 R.2.2.1], .int .i64 R.2.2.2]) ∧ St wF B kb G pp p x g u V Fp F w' ∧ Below W.heap.size W w') := by
    rw [gR]
    exact hid (fun W G V Fp hs => (rstat_any x g u V F W hs.pr.rf HF.out x1).mono (by rintro e w' ⟨he, t⟩; exact ⟨he, hs.grow t, t⟩))
  clear gR
  go_wp2_with fail
  go_cut [24, 25] (fun v24 v25 wx => ∃ a, v24 = .pointer (some ⟨a, 0, none⟩) ∧ v25 = .int .i64 R.2.2.2 ∧ Hid (∃ G1, St wF B kb G1 pp p x g u V F F wx) ∧ Hid (wx.heap[a]? = some (.cells #[.int .i64 R.1, .int .i64 R.2.1, .int .i64 R.2.2.1] 83 (0, 0))))
  case first =>
    have hnp : pp ≠ wF.heap.size := by have := HS0.out.pr.lt; omega
    have hnk : kb ≠ wF.heap.size := by omega
    have HA : Hid (St wF B kb G pp p x g u V F F (wF.alloc (.cells #[.int .i64 0, .int .i64 0, .int .i64 0] 83)).drew) := hid (HS0.out.grow ((Below.refl _ _).alloc (Nat.le_refl _) (.cells #[.int .i64 0, .int .i64 0, .int .i64 0] 83))).drew
    go_region_held3 (fun W => W.cell? ⟨pp, 0, none⟩ = some (.pointer (some ⟨p, 0, none⟩)) ∧ W.cell? ⟨pp, 1, none⟩ = some (.pointer (some ⟨x, 0, none⟩)) ∧ W.cell? ⟨kb, 1, none⟩ = some (.int .i64 x1)) (first | (refine ⟨?_, ?_, ?_⟩ <;> assumption) | (refine ⟨?_, ?_, ?_⟩ <;> first | exact HA.out.c0 | exact HA.out.c1 | exact HA.out.k HKB.out hsF f1) | (refine ⟨?_, ?_, ?_⟩ <;> first | (rw [cell_set_other _ _ _ _ _ hnp, cell_set_other _ _ _ _ _ hnp, cell_set_other _ _ _ _ _ hnp]; assumption) | (rw [cell_set_other _ _ _ _ _ hnk, cell_set_other _ _ _ _ _ hnk, cell_set_other _ _ _ _ _ hnk]; assumption)) | go_keep) (first
      | (go_at_call 43; refine (KP.out _ _ _ _ (by first | exact HS0.out.drew | exact HS0.out)).mono ?_; rintro e w1 ⟨rfl, G1, hS1, hO⟩; have z0 := hS1.c0; have z1 := hS1.c1; have zk1 := hS1.k HKB.out hsF f1; have HS1 := hid hS1; clear hS1 hO)
      | (go_at_call 43; refine (KP.out _ _ _ _ HA.out).mono ?_; rintro e w1 ⟨rfl, G1, hS1, hO⟩; have HOT := hid (hO wF.heap.size (HS0.out.new (Nat.le_refl _) (by simp))).2; have hrow := (hO wF.heap.size (HS0.out.new (Nat.le_refl _) (by simp))).1.trans (heap_alloc_new wF (.cells #[.int .i64 0, .int .i64 0, .int .i64 0] 83)); have hr0 : w1.cell? ⟨wF.heap.size, 0, none⟩ = some (.int .i64 0) := (by rw [cell_of_row _ _ 0 _ _ _ hrow]; rfl); have hr1 : w1.cell? ⟨wF.heap.size, 1, none⟩ = some (.int .i64 0) := (by rw [cell_of_row _ _ 1 _ _ _ hrow]; rfl); have hr2 : w1.cell? ⟨wF.heap.size, 2, none⟩ = some (.int .i64 0) := (by rw [cell_of_row _ _ 2 _ _ _ hrow]; rfl); have hf0 : w1.frozen? ⟨wF.heap.size, 0, none⟩ = false := (by simp [World.frozen?, hrow]); have hf1 : w1.frozen? ⟨wF.heap.size, 1, none⟩ = false := (by simp [World.frozen?, hrow]); have hf2 : w1.frozen? ⟨wF.heap.size, 2, none⟩ = false := (by simp [World.frozen?, hrow]); have HROW := hid hrow; clear hrow; have z0 := hS1.c0; have z1 := hS1.c1; have zk1 := hS1.k HKB.out hsF f1; have HS1 := hid hS1; clear hS1 hO)
      | fail)
    all_goals
      go_wp2_with fail
      go_meet
      case rel =>
        first
        | exact ⟨wF.heap.size, rfl, rfl, hid ⟨G1, (HS1.out.upd (U := (· = wF.heap.size)) (((Upd.setCell (F := (· = wF.heap.size)) w1 ⟨wF.heap.size, 0, none⟩ _ rfl).trans (Upd.setCell (F := (· = wF.heap.size)) _ ⟨wF.heap.size, 1, none⟩ _ rfl) (fun _ _ h => h)).trans (Upd.setCell (F := (· = wF.heap.size)) _ ⟨wF.heap.size, 2, none⟩ _ rfl) (fun _ _ h => h)) (fun b _ e => e ▸ HOT.out) (fun b e => Nat.le_of_eq e.symm))⟩, hid (heap_setCell_same _ wF.heap.size 2 _ _ (.int .i64 R.2.2.1) (heap_setCell_same _ wF.heap.size 1 _ _ (.int .i64 R.2.1) (heap_setCell_same w1 wF.heap.size 0 _ _ (.int .i64 R.1) HROW.out)))⟩
        | exact ⟨wF.heap.size, rfl, rfl, hid ⟨G1, (HS1.out.upd (U := (· = wF.heap.size)) (((Upd.setCell (F := (· = wF.heap.size)) w1 ⟨wF.heap.size, 0, none⟩ _ rfl).trans (Upd.setCell (F := (· = wF.heap.size)) _ ⟨wF.heap.size, 1, none⟩ _ rfl) (fun _ _ h => h)).trans (Upd.setCell (F := (· = wF.heap.size)) _ ⟨wF.heap.size, 2, none⟩ _ rfl) (fun _ _ h => h)) (fun b _ e => e ▸ HOT.out) (fun b e => Nat.le_of_eq e.symm)).drew⟩, hid (heap_setCell_same _ wF.heap.size 2 _ _ (.int .i64 R.2.2.1) (heap_setCell_same _ wF.heap.size 1 _ _ (.int .i64 R.2.1) (heap_setCell_same w1 wF.heap.size 0 _ _ (.int .i64 R.1) HROW.out)))⟩
        | exact ⟨w1.heap.size, rfl, rfl, hid ⟨G1, (HS1.out.grow ((Below.refl _ _).alloc (Nat.le_refl _) _))⟩, hid (heap_alloc_new _ _)⟩
        | exact ⟨w1.heap.size, rfl, rfl, hid ⟨G1, (HS1.out.grow ((Below.refl _ _).alloc (Nat.le_refl _) _)).drew⟩, hid (heap_alloc_new _ _)⟩
  case rest =>
    obtain ⟨a, rfl, rfl, HX, HRA⟩ := hcut
    obtain ⟨w3, gw3⟩ : ∃ w3, w3 = wc := ⟨_, rfl⟩
    rw [← gw3] at HX HRA ⊢
    clear gw3
    obtain ⟨G3, hS3⟩ := HX.out
    have v0 := hS3.c0
    have v1 := hS3.c1
    have vk1 := hS3.k HKB.out hsF f1
    have hal : a < w3.heap.size := (Array.getElem?_eq_some_iff.1 HRA.out).1
    have HS3 := hid hS3
    clear hS3 HX
    go_wp2_with fail
    have hnp : pp ≠ w3.heap.size := by have := HS3.out.pr.lt; omega
    have hnk : kb ≠ w3.heap.size := by have := HS3.out.up.size; omega
    have HA : Hid (St wF B kb G3 pp p x g u V F F (w3.alloc (.cells #[.int .i64 0, .int .i64 0, .int .i64 0] 83)).drew) := hid (HS3.out.grow ((Below.refl _ _).alloc (Nat.le_refl _) (.cells #[.int .i64 0, .int .i64 0, .int .i64 0] 83))).drew
    go_region_held3 (fun W => W.cell? ⟨pp, 0, none⟩ = some (.pointer (some ⟨p, 0, none⟩)) ∧ W.cell? ⟨pp, 1, none⟩ = some (.pointer (some ⟨x, 0, none⟩)) ∧ W.cell? ⟨kb, 1, none⟩ = some (.int .i64 x1)) (first | (refine ⟨?_, ?_, ?_⟩ <;> assumption) | (refine ⟨?_, ?_, ?_⟩ <;> first | exact HA.out.c0 | exact HA.out.c1 | exact HA.out.k HKB.out hsF f1) | (refine ⟨?_, ?_, ?_⟩ <;> first | (rw [cell_set_other _ _ _ _ _ hnp, cell_set_other _ _ _ _ _ hnp, cell_set_other _ _ _ _ _ hnp]; assumption) | (rw [cell_set_other _ _ _ _ _ hnk, cell_set_other _ _ _ _ _ hnk, cell_set_other _ _ _ _ _ hnk]; assumption)) | go_keep) (first
      | (go_at_call 44; refine (KD.out _ _ _ _ (by first | exact HS3.out.drew | exact HS3.out)).mono ?_; rintro e w1 ⟨rfl, hS1, hb⟩; have HAL : Hid (w1.heap[a]? = w3.heap[a]?) := hid (hb.block a hal); have HAW : Hid (a < w1.heap.size) := hid (Nat.lt_of_lt_of_le hal hb.size); have z0 := hS1.c0; have z1 := hS1.c1; have zk1 := hS1.k HKB.out hsF f1; have HS1 := hid hS1; clear hS1 hb)
      | (go_at_call 44; refine (KD.out _ _ _ _ HA.out).mono ?_; rintro e w1 ⟨rfl, hS1, hb⟩; obtain ⟨hal1, hrow, hlz⟩ := box_kept hal hb; have HAL : Hid (w1.heap[a]? = w3.heap[a]?) := hid hal1; have HOT : Hid (Oth w1 G3 pp x g u V w3.heap.size) := hid (HS3.out.new (Nat.le_refl _) hlz); have hr0 : w1.cell? ⟨w3.heap.size, 0, none⟩ = some (.int .i64 0) := (by rw [cell_of_row _ _ 0 _ _ _ hrow]; rfl); have hr1 : w1.cell? ⟨w3.heap.size, 1, none⟩ = some (.int .i64 0) := (by rw [cell_of_row _ _ 1 _ _ _ hrow]; rfl); have hr2 : w1.cell? ⟨w3.heap.size, 2, none⟩ = some (.int .i64 0) := (by rw [cell_of_row _ _ 2 _ _ _ hrow]; rfl); have hf0 : w1.frozen? ⟨w3.heap.size, 0, none⟩ = false := (by simp [World.frozen?, hrow]); have hf1 : w1.frozen? ⟨w3.heap.size, 1, none⟩ = false := (by simp [World.frozen?, hrow]); have hf2 : w1.frozen? ⟨w3.heap.size, 2, none⟩ = false := (by simp [World.frozen?, hrow]); have HROW := hid hrow; clear hrow; have z0 := hS1.c0; have z1 := hS1.c1; have zk1 := hS1.k HKB.out hsF f1; have HS1 := hid hS1; clear hS1 hb hlz hal1)
      | fail)
    all_goals
      have hra1 := HAL.out.trans HRA.out
      first
      | (have hr9 := HROW.out
         obtain ⟨X, gX⟩ : ∃ X, X = ((w1.setCell ⟨w3.heap.size, 0, none⟩ (.int .i64 R.1)).setCell ⟨w3.heap.size, 1, none⟩ (.int .i64 R.2.1)).setCell ⟨w3.heap.size, 2, none⟩ (.int .i64 R.2.2.1) := ⟨_, rfl⟩
         rw [← gX]
         have hx := stored3 hr9 hra1 (by omega) gX
         have hst : St wF B kb G3 pp p x g u V F F X := HS1.out.upd hx.1 (fun b _ e => by have e' : b = w3.heap.size := e; rw [e']; exact HOT.out) (fun b e => by have e' : b = w3.heap.size := e; have := HS3.out.up.size; omega)
         have hha := hx.2.1
         have hhb := hx.2.2
         clear gX hx hr9 HROW HOT hr0 hr1 hr2 hf0 hf1 hf2
         obtain ⟨b, gb⟩ : ∃ b, b = w3.heap.size := ⟨_, rfl⟩
         rw [← gb] at hhb ⊢
         clear gb
         generalize X = w4 at hst hha hhb ⊢
         have HST := hid hst
         have HHA := hid hha
         have HHB := hid hhb
         clear hst hha hhb)
      | (obtain ⟨X, gX⟩ : ∃ X, X = w1.alloc (.cells #[.int .i64 R.1, .int .i64 R.2.1, .int .i64 R.2.2.1] 83) := ⟨_, rfl⟩
         rw [← gX]
         have hx := boxed3 hra1 gX
         have hst : St wF B kb G3 pp p x g u V F F X := HS1.out.grow hx.1
         have hha := hx.2.1
         have hhb := hx.2.2
         clear gX hx
         obtain ⟨b, gb⟩ : ∃ b, b = w1.heap.size := ⟨_, rfl⟩
         rw [← gb] at hhb ⊢
         clear gb
         generalize X = w4 at hst hha hhb ⊢
         have HST := hid hst
         have HHA := hid hha
         have HHB := hid hhb
         clear hst hha hhb)
      clear hra1 HAL HRA HS1
    all_goals
      have c0 : w4.cell? ⟨a, 0, none⟩ = some (.int .i64 R.1) := by rw [cell_of_row _ _ 0 _ _ _ HHA.out]; rfl
      have c1 : w4.cell? ⟨a, 1, none⟩ = some (.int .i64 R.2.1) := by rw [cell_of_row _ _ 1 _ _ _ HHA.out]; rfl
      have c2 : w4.cell? ⟨a, 2, none⟩ = some (.int .i64 R.2.2.1) := by rw [cell_of_row _ _ 2 _ _ _ HHA.out]; rfl
      have d0 : w4.cell? ⟨b, 0, none⟩ = some (.int .i64 R.1) := by rw [cell_of_row _ _ 0 _ _ _ HHB.out]; rfl
      have d1 : w4.cell? ⟨b, 1, none⟩ = some (.int .i64 R.2.1) := by rw [cell_of_row _ _ 1 _ _ _ HHB.out]; rfl
      have d2 : w4.cell? ⟨b, 2, none⟩ = some (.int .i64 R.2.2.1) := by rw [cell_of_row _ _ 2 _ _ _ HHB.out]; rfl
      go_wp2_with fail
      go_ret
      first
      | exact HST.out.done HWF.out HB.out HE.out
      | exact HST.out.drew.done HWF.out HB.out HE.out

end Go.Proofs.YtliekndkjjaldaaGreat

/- What 'does' does. -/
namespace Go.Proofs.YtliekndkjjaldaaGreat
open Go.RowKit Go.ChangeMaps Go.MapKept
set_option linter.unusedVariables false

theorem does_any (pp p x g u B : Nat) (G : Nat → Prop) (V : Nat → Value) (F : Fs) (m : Int) (x0 x1 x2 x3 : Int) (t4 t5 : ByteArray) (ab : Option Addr) (lb cb : Nat) (bz : List Int) (w : World) (H : Pr w B G pp p x g u V F F) (hF : FOk F) (hL : LB F m) (hm : 1 ≤ m ∧ m ≤ 900000)
    (h4 : t4.size ≤ 1048576) (h5 : t5.size ≤ 1048576) (hx2 : x2 ≤ 9223372036854775807) (hx3 : x3 ≤ 9223372036854775807) (hb : Src w ab lb bz) (hbz : ∀ z ∈ bz, 0 ≤ z ∧ z < 256) (hlb : lb ≤ 140737488355328) (hcb : lb ≤ cb) (hcb2 : cb ≤ 9223372036854775807) (hbn : ab = none → lb = 0 ∧ cb = 0) (hbB : 0 < lb → ∀ b o, ab = some ⟨b, o, none⟩ → b < B) :
    Calls Tryz.prog 8 #[.pointer (some ⟨pp, 0, none⟩), .agg #[.int .i64 x0, .int .i64 x1, .int .i64 x2, .int .i64 x3, .string t4, .string t5, .slice ab lb cb]] w (DoP w B pp p x g u m F) := by
  obtain ⟨s, hq, h13⟩ : ∃ s : Nat, wrap64 ((IntKind.u64.wrap x0).tmod 13) = (s : Int) ∧ s < 13 := by
    have h0 : 0 ≤ IntKind.u64.wrap x0 ∧ IntKind.u64.wrap x0 < 18446744073709551616 := by rw [IntKind.wrap_u64]; omega
    rw [Int.tmod_eq_emod_of_nonneg h0.1]
    refine ⟨(IntKind.u64.wrap x0 % 13).toNat, ?_, by omega⟩
    unfold wrap64; omega
  rcases (show s = 0 ∨ s = 1 ∨ s = 2 ∨ s = 3 ∨ s = 4 ∨ s = 5 ∨ s = 6 ∨ s = 7 ∨ s = 8 ∨ s = 9 ∨ s = 10 ∨ s = 11 ∨ s = 12 by omega) with rfl | rfl | rfl | rfl | rfl | rfl | rfl | rfl | rfl | rfl | rfl | rfl | rfl
  · exact does_0 pp p x g u B G V F m x0 x1 x2 x3 t4 t5 ab lb cb bz w H hF hL hm h4 h5 hx2 hx3 hb hbz hlb hcb hcb2 hbn hbB hq
  · exact does_1 pp p x g u B G V F m x0 x1 x2 x3 t4 t5 ab lb cb bz w H hF hL hm h4 h5 hx2 hx3 hb hbz hlb hcb hcb2 hbn hbB hq
  · exact does_2 pp p x g u B G V F m x0 x1 x2 x3 t4 t5 ab lb cb bz w H hF hL hm h4 h5 hx2 hx3 hb hbz hlb hcb hcb2 hbn hbB hq
  · exact does_3 pp p x g u B G V F m x0 x1 x2 x3 t4 t5 ab lb cb bz w H hF hL hm h4 h5 hx2 hx3 hb hbz hlb hcb hcb2 hbn hbB hq
  · exact does_4 pp p x g u B G V F m x0 x1 x2 x3 t4 t5 ab lb cb bz w H hF hL hm h4 h5 hx2 hx3 hb hbz hlb hcb hcb2 hbn hbB hq
  · exact does_5 pp p x g u B G V F m x0 x1 x2 x3 t4 t5 ab lb cb bz w H hF hL hm h4 h5 hx2 hx3 hb hbz hlb hcb hcb2 hbn hbB hq
  · exact does_6 pp p x g u B G V F m x0 x1 x2 x3 t4 t5 ab lb cb bz w H hF hL hm h4 h5 hx2 hx3 hb hbz hlb hcb hcb2 hbn hbB hq
  · exact does_7 pp p x g u B G V F m x0 x1 x2 x3 t4 t5 ab lb cb bz w H hF hL hm h4 h5 hx2 hx3 hb hbz hlb hcb hcb2 hbn hbB hq
  · exact does_8 pp p x g u B G V F m x0 x1 x2 x3 t4 t5 ab lb cb bz w H hF hL hm h4 h5 hx2 hx3 hb hbz hlb hcb hcb2 hbn hbB hq
  · exact does_9 pp p x g u B G V F m x0 x1 x2 x3 t4 t5 ab lb cb bz w H hF hL hm h4 h5 hx2 hx3 hb hbz hlb hcb hcb2 hbn hbB hq
  · exact does_10 pp p x g u B G V F m x0 x1 x2 x3 t4 t5 ab lb cb bz w H hF hL hm h4 h5 hx2 hx3 hb hbz hlb hcb hcb2 hbn hbB hq
  · exact does_11 pp p x g u B G V F m x0 x1 x2 x3 t4 t5 ab lb cb bz w H hF hL hm h4 h5 hx2 hx3 hb hbz hlb hcb hcb2 hbn hbB hq
  · exact does_12 pp p x g u B G V F m x0 x1 x2 x3 t4 t5 ab lb cb bz w H hF hL hm h4 h5 hx2 hx3 hb hbz hlb hcb hcb2 hbn hbB hq

end Go.Proofs.YtliekndkjjaldaaGreat
