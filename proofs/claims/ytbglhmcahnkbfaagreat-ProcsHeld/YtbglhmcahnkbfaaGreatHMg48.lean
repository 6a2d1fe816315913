/- Texts of this seat, merged. -/
import Derived.Test.YtbglhmcahnkbfaaGreatHMg47
import Derived.Deep.RegionHeld3
import Derived.Deep.DeepCutAuto
import Derived.Deep.CutBlock
import Derived.BigQuiet
import Derived.Test.YtbglhmcahnkbfaaGreatHMg44
import Derived.Test.YtbglhmcahnkbfaaGreatHMg40

/- What the processes' 'does' does where the sides may differ: cases 2, 8 (written by gen_gdox.py). -/
namespace Go.Proofs.YtbglhmcahnkbfaaGreat
open Go.RowKit Go.ChangeMaps Go.MapKept
set_option linter.unusedVariables false
set_option maxRecDepth 20000

set_option maxHeartbeats 8000000 in
theorem dox_2 (pp f x t y L B : Nat) (G D : Nat → Prop) (g gd : Gt) (x0 x1 x2 x3 : Int) (w : World) (H : P9 w B G D pp f x t y L g gd) (H0 : LOk g) (H1 : GOk gd)
    (hq : wrap64 ((IntKind.u64.wrap x0).tmod 11) = 2) :
    Calls Tryz.prog 8 #[.pointer (some ⟨pp, 0, none⟩), .agg #[.int .i64 x0, .int .i64 x1, .int .i64 x2, .int .i64 x3]] w (Dx9 w B pp f x t y L) := by
  have hpl := H.lt
  have HB : Hid (B ≤ w.heap.size) := hid (Nat.le_trans H.gp (Nat.le_of_lt hpl))
  have HO := hid H0
  have HP0 := hid H1
  have HQ := hid hq
  have HP := hid H
  clear H H0 H1 hq
  go_enter Tryz.func8, Tryz.ntmps8
  go_upto_region 1 with fail
  obtain ⟨wF, gwF⟩ : ∃ wF, wF = w.alloc (.cells #[.int .i64 x0, .int .i64 x1, .int .i64 x2, .int .i64 x3] 26) := ⟨_, rfl⟩
  rw [← gwF]
  have hb1 : Below w.heap.size w wF := by rw [gwF]; exact (Below.refl _ _).alloc (Nat.le_refl _) _
  have hsF : w.heap.size < wF.heap.size := by rw [gwF]; simp
  have f0 : wF.cell? ⟨w.heap.size, 0, none⟩ = some (.int .i64 x0) := by rw [gwF]; simp [go_sem]
  have f1 : wF.cell? ⟨w.heap.size, 1, none⟩ = some (.int .i64 x1) := by rw [gwF]; simp [go_sem]
  have f2 : wF.cell? ⟨w.heap.size, 2, none⟩ = some (.int .i64 x2) := by rw [gwF]; simp [go_sem]
  have f3 : wF.cell? ⟨w.heap.size, 3, none⟩ = some (.int .i64 x3) := by rw [gwF]; simp [go_sem]
  have HWF := hid hb1
  clear gwF hb1
  go_upto_block 0 with fail
  rw [HQ.out]
  obtain ⟨kb, gkb⟩ : ∃ kb, kb = w.heap.size := ⟨_, rfl⟩
  rw [← gkb] at f0 f1 f2 f3 hsF ⊢
  have hS0 : S9 wF B kb G D pp f x t y L g gd wF := by
    have h := HP.out.grow HWF.out
    refine ⟨h, Upd.refl _ _, fun b hk hb => ⟨hb, fun e => ?_, fun hG => ?_, fun hR => ?_⟩⟩
    · omega
    · have h1 := (HP.out.gG b hG).2.1
      omega
    · have h1 := (HP.out.gD b hR).2.1
      omega
  have q0 := hS0.c0
  have q1 := hS0.c1
  have q2 := hS0.c2
  have q3 := hS0.c3
  have HS0 := hid hS0
  have GKB := hid gkb
  have HKB : Hid (kb ≤ kb) := hid (Nat.le_refl _)
  clear hS0 gkb
  obtain ⟨R, gR⟩ : ∃ R, R = g.wait x1 := ⟨_, rfl⟩
  obtain ⟨Z, gZ⟩ : ∃ Z, Z = gd.wait x1 := ⟨_, rfl⟩
  have HE : Hid (LOk R.1 ∧ GOk Z.1) := by rw [gR, gZ]; exact hid ⟨HO.out.wait _, HP0.out.wait _⟩
  have KP : Hid (∀ W G D gD, S9 wF B kb G D pp f x t y L g gD W → Calls Tryz.prog 29 #[.pointer (some ⟨t, 0, none⟩), .int .i64 x1] W fun e w' => e = .returned (.tuple #[.int .i64 R.2.1, .int .i64 R.2.2.1, .bool R.2.2.2.1, .int .i64 R.2.2.2.2]) ∧ ∃ G', S9 wF B kb G' D pp f x t y L R.1 gD w') := by
    rw [gR]
    exact hid (fun W G D gD hs => (gwait_any hs.pr.tp.to HO.out.ok x1).mono (by rintro e w' ⟨he, k⟩; exact ⟨he, hs.prog k⟩))
  have KD : Hid (∀ W G D gP, S9 wF B kb G D pp f x t y L gP gd W → Calls Tryz.prog 30 #[.pointer (some ⟨y, 0, none⟩), .int .i64 x1] W fun e w' => e = .returned (.tuple #[.int .i64 Z.2.1, .int .i64 Z.2.2.1, .bool Z.2.2.2.1, .int .i64 Z.2.2.2.2]) ∧ ∃ D', S9 wF B kb G D' pp f x t y L gP Z.1 w') := by
    rw [gZ]
    exact hid (fun W G D gP hs => (r9wait_any hs.pr.td.to HP0.out x1).mono (by rintro e w' ⟨he, k⟩; exact ⟨he, hs.doc1 k⟩))
  clear gR gZ
  go_wp2_with fail
  go_region_held3 (fun W => W.cell? ⟨pp, 0, none⟩ = some (.pointer (some ⟨f, 0, none⟩)) ∧ W.cell? ⟨pp, 1, none⟩ = some (.pointer (some ⟨x, 0, none⟩)) ∧ W.cell? ⟨pp, 2, none⟩ = some (.pointer (some ⟨t, 0, none⟩)) ∧ W.cell? ⟨pp, 3, none⟩ = some (.pointer (some ⟨y, 0, none⟩)) ∧ W.cell? ⟨kb, 1, none⟩ = some (.int .i64 x1)) (first | (refine ⟨?_, ?_, ?_, ?_, ?_⟩ <;> assumption) | go_keep) (first
    | (go_at_call 29; refine (KP.out _ _ _ _ (by first | exact HS0.out.drew | exact HS0.out)).mono ?_; rintro e w1 ⟨rfl, G1, hS1⟩; have zq0 := hS1.c0; have zq1 := hS1.c1; have zq2 := hS1.c2; have zq3 := hS1.c3; have zk1 := hS1.k HKB.out hsF f1; have HS1 := hid hS1; clear hS1)
    | fail)
  go_wp2_with fail
  go_region_held3 (fun W => W.cell? ⟨pp, 0, none⟩ = some (.pointer (some ⟨f, 0, none⟩)) ∧ W.cell? ⟨pp, 1, none⟩ = some (.pointer (some ⟨x, 0, none⟩)) ∧ W.cell? ⟨pp, 2, none⟩ = some (.pointer (some ⟨t, 0, none⟩)) ∧ W.cell? ⟨pp, 3, none⟩ = some (.pointer (some ⟨y, 0, none⟩)) ∧ W.cell? ⟨kb, 1, none⟩ = some (.int .i64 x1)) (first | (refine ⟨?_, ?_, ?_, ?_, ?_⟩ <;> assumption) | go_keep) (first
    | (go_at_call 30; refine (KD.out _ _ _ _ (by first | exact HS1.out.drew | exact HS1.out)).mono ?_; rintro e w2 ⟨rfl, D2, hS2⟩; have yq0 := hS2.c0; have yq1 := hS2.c1; have yq2 := hS2.c2; have yq3 := hS2.c3; have yk1 := hS2.k HKB.out hsF f1; have HS2 := hid hS2; clear hS2)
    | fail)
  by_cases e0 : R.2.1 = Z.2.1
  · have eb0 : (R.2.1 == Z.2.1) = true := by simp [e0]
    clear e0
    by_cases e1 : R.2.2.1 = Z.2.2.1
    · have eb1 : (R.2.2.1 == Z.2.2.1) = true := by simp [e1]
      clear e1
      by_cases e2 : R.2.2.2.1 = Z.2.2.2.1
      · have eb2 : (R.2.2.2.1 == Z.2.2.2.1) = true := by simp [e2]
        clear e2
        go_wp2_with fail
        all_goals
          go_ret
          first
          | exact HS1.out.donex HWF.out HB.out HE.out
          | exact HS2.out.donex HWF.out HB.out HE.out
          | exact HS1.out.drew.donex HWF.out HB.out HE.out
          | exact HS2.out.drew.donex HWF.out HB.out HE.out
      · have eb2 : (R.2.2.2.1 == Z.2.2.2.1) = false := by simp [e2]
        clear e2
        go_wp2_with fail
        all_goals
          go_ret
          first
          | exact HS1.out.donex HWF.out HB.out HE.out
          | exact HS2.out.donex HWF.out HB.out HE.out
          | exact HS1.out.drew.donex HWF.out HB.out HE.out
          | exact HS2.out.drew.donex HWF.out HB.out HE.out
    · have eb1 : (R.2.2.1 == Z.2.2.1) = false := by simp [e1]
      clear e1
      go_wp2_with fail
      all_goals
        go_ret
        first
        | exact HS1.out.donex HWF.out HB.out HE.out
        | exact HS2.out.donex HWF.out HB.out HE.out
        | exact HS1.out.drew.donex HWF.out HB.out HE.out
        | exact HS2.out.drew.donex HWF.out HB.out HE.out
  · have eb0 : (R.2.1 == Z.2.1) = false := by simp [e0]
    clear e0
    go_wp2_with fail
    all_goals
      go_ret
      first
      | exact HS1.out.donex HWF.out HB.out HE.out
      | exact HS2.out.donex HWF.out HB.out HE.out
      | exact HS1.out.drew.donex HWF.out HB.out HE.out
      | exact HS2.out.drew.donex HWF.out HB.out HE.out

set_option maxHeartbeats 8000000 in
theorem dox_8 (pp f x t y L B : Nat) (G D : Nat → Prop) (g gd : Gt) (x0 x1 x2 x3 : Int) (w : World) (H : P9 w B G D pp f x t y L g gd) (H0 : LOk g) (H1 : GOk gd)
    (hq : wrap64 ((IntKind.u64.wrap x0).tmod 11) = 8) :
    Calls Tryz.prog 8 #[.pointer (some ⟨pp, 0, none⟩), .agg #[.int .i64 x0, .int .i64 x1, .int .i64 x2, .int .i64 x3]] w (Dx9 w B pp f x t y L) := by
  have hpl := H.lt
  have HB : Hid (B ≤ w.heap.size) := hid (Nat.le_trans H.gp (Nat.le_of_lt hpl))
  have HO := hid H0
  have HP0 := hid H1
  have HQ := hid hq
  have HP := hid H
  clear H H0 H1 hq
  go_enter Tryz.func8, Tryz.ntmps8
  go_upto_region 1 with fail
  obtain ⟨wF, gwF⟩ : ∃ wF, wF = w.alloc (.cells #[.int .i64 x0, .int .i64 x1, .int .i64 x2, .int .i64 x3] 26) := ⟨_, rfl⟩
  rw [← gwF]
  have hb1 : Below w.heap.size w wF := by rw [gwF]; exact (Below.refl _ _).alloc (Nat.le_refl _) _
  have hsF : w.heap.size < wF.heap.size := by rw [gwF]; simp
  have f0 : wF.cell? ⟨w.heap.size, 0, none⟩ = some (.int .i64 x0) := by rw [gwF]; simp [go_sem]
  have f1 : wF.cell? ⟨w.heap.size, 1, none⟩ = some (.int .i64 x1) := by rw [gwF]; simp [go_sem]
  have f2 : wF.cell? ⟨w.heap.size, 2, none⟩ = some (.int .i64 x2) := by rw [gwF]; simp [go_sem]
  have f3 : wF.cell? ⟨w.heap.size, 3, none⟩ = some (.int .i64 x3) := by rw [gwF]; simp [go_sem]
  have HWF := hid hb1
  clear gwF hb1
  go_upto_block 0 with fail
  rw [HQ.out]
  obtain ⟨kb, gkb⟩ : ∃ kb, kb = w.heap.size := ⟨_, rfl⟩
  rw [← gkb] at f0 f1 f2 f3 hsF ⊢
  have hS0 : S9 wF B kb G D pp f x t y L g gd wF := by
    have h := HP.out.grow HWF.out
    refine ⟨h, Upd.refl _ _, fun b hk hb => ⟨hb, fun e => ?_, fun hG => ?_, fun hR => ?_⟩⟩
    · omega
    · have h1 := (HP.out.gG b hG).2.1
      omega
    · have h1 := (HP.out.gD b hR).2.1
      omega
  have q0 := hS0.c0
  have q1 := hS0.c1
  have q2 := hS0.c2
  have q3 := hS0.c3
  have HS0 := hid hS0
  have GKB := hid gkb
  have HKB : Hid (kb ≤ kb) := hid (Nat.le_refl _)
  clear hS0 gkb
  obtain ⟨R, gR⟩ : ∃ R, R = g.close x1 x2 := ⟨_, rfl⟩
  obtain ⟨Z, gZ⟩ : ∃ Z, Z = gd.close x1 x2 := ⟨_, rfl⟩
  have HE : Hid (LOk R.1 ∧ GOk Z.1) := by rw [gR, gZ]; exact hid ⟨HO.out.close _ _, HP0.out.close _ _⟩
  have KP : Hid (∀ W G D gD, S9 wF B kb G D pp f x t y L g gD W → Calls Tryz.prog 20 #[.pointer (some ⟨t, 0, none⟩), .int .i64 x1, .int .i64 x2] W fun e w' => e = .returned (.int .i64 R.2) ∧ ∃ G', S9 wF B kb G' D pp f x t y L R.1 gD w') := by
    rw [gR]
    exact hid (fun W G D gD hs => (gclose_any hs.pr.tp.to HO.out.ok x1 x2).mono (by rintro e w' ⟨he, k⟩; exact ⟨he, hs.prog k⟩))
  have KD : Hid (∀ W G D gP, S9 wF B kb G D pp f x t y L gP gd W → Calls Tryz.prog 36 #[.pointer (some ⟨y, 0, none⟩), .int .i64 x1, .int .i64 x2] W fun e w' => e = .returned (.int .i64 Z.2) ∧ ∃ D', S9 wF B kb G D' pp f x t y L gP Z.1 w') := by
    rw [gZ]
    exact hid (fun W G D gP hs => (r9close_any hs.pr.td.to HP0.out x1 x2).mono (by rintro e w' ⟨he, k⟩; exact ⟨he, hs.doc1 k⟩))
  clear gR gZ
  go_wp2_with fail
  go_region_held3 (fun W => W.cell? ⟨pp, 0, none⟩ = some (.pointer (some ⟨f, 0, none⟩)) ∧ W.cell? ⟨pp, 1, none⟩ = some (.pointer (some ⟨x, 0, none⟩)) ∧ W.cell? ⟨pp, 2, none⟩ = some (.pointer (some ⟨t, 0, none⟩)) ∧ W.cell? ⟨pp, 3, none⟩ = some (.pointer (some ⟨y, 0, none⟩)) ∧ W.cell? ⟨kb, 1, none⟩ = some (.int .i64 x1) ∧ W.cell? ⟨kb, 2, none⟩ = some (.int .i64 x2)) (first | (refine ⟨?_, ?_, ?_, ?_, ?_, ?_⟩ <;> assumption) | go_keep) (first
    | (go_at_call 20; refine (KP.out _ _ _ _ (by first | exact HS2.out | exact HS0.out.drew | exact HS0.out)).mono ?_; rintro e w1 ⟨rfl, G1, hS1⟩; have zq0 := hS1.c0; have zq1 := hS1.c1; have zq2 := hS1.c2; have zq3 := hS1.c3; have zk1 := hS1.k HKB.out hsF f1; have zk2 := hS1.k HKB.out hsF f2; have HS1 := hid hS1; clear hS1)
    | (go_at_call 36; refine (KD.out _ _ _ _ (by first | exact HS1.out | exact HS0.out.drew | exact HS0.out)).mono ?_; rintro e w2 ⟨rfl, D2, hS2⟩; have yq0 := hS2.c0; have yq1 := hS2.c1; have yq2 := hS2.c2; have yq3 := hS2.c3; have yk1 := hS2.k HKB.out hsF f1; have yk2 := hS2.k HKB.out hsF f2; have HS2 := hid hS2; clear hS2)
    | fail)
  all_goals
    go_wp2_with fail
    go_ret
    first
    | exact HS1.out.donex HWF.out HB.out HE.out
    | exact HS2.out.donex HWF.out HB.out HE.out
    | exact HS1.out.drew.donex HWF.out HB.out HE.out
    | exact HS2.out.drew.donex HWF.out HB.out HE.out

end Go.Proofs.YtbglhmcahnkbfaaGreat

/- What the processes' 'does' does where the sides may differ: cases 9, 10 (written by gen_gdox.py). -/
namespace Go.Proofs.YtbglhmcahnkbfaaGreat
open Go.RowKit Go.ChangeMaps Go.MapKept
set_option linter.unusedVariables false
set_option maxRecDepth 20000

set_option maxHeartbeats 8000000 in
theorem dox_9 (pp f x t y L B : Nat) (G D : Nat → Prop) (g gd : Gt) (x0 x1 x2 x3 : Int) (w : World) (H : P9 w B G D pp f x t y L g gd) (H0 : LOk g) (H1 : GOk gd)
    (hq : wrap64 ((IntKind.u64.wrap x0).tmod 11) = 9) :
    Calls Tryz.prog 8 #[.pointer (some ⟨pp, 0, none⟩), .agg #[.int .i64 x0, .int .i64 x1, .int .i64 x2, .int .i64 x3]] w (Dx9 w B pp f x t y L) := by
  have hpl := H.lt
  have HB : Hid (B ≤ w.heap.size) := hid (Nat.le_trans H.gp (Nat.le_of_lt hpl))
  have HO := hid H0
  have HP0 := hid H1
  have HQ := hid hq
  have HP := hid H
  clear H H0 H1 hq
  go_enter Tryz.func8, Tryz.ntmps8
  go_upto_region 1 with fail
  obtain ⟨wF, gwF⟩ : ∃ wF, wF = w.alloc (.cells #[.int .i64 x0, .int .i64 x1, .int .i64 x2, .int .i64 x3] 26) := ⟨_, rfl⟩
  rw [← gwF]
  have hb1 : Below w.heap.size w wF := by rw [gwF]; exact (Below.refl _ _).alloc (Nat.le_refl _) _
  have hsF : w.heap.size < wF.heap.size := by rw [gwF]; simp
  have f0 : wF.cell? ⟨w.heap.size, 0, none⟩ = some (.int .i64 x0) := by rw [gwF]; simp [go_sem]
  have f1 : wF.cell? ⟨w.heap.size, 1, none⟩ = some (.int .i64 x1) := by rw [gwF]; simp [go_sem]
  have f2 : wF.cell? ⟨w.heap.size, 2, none⟩ = some (.int .i64 x2) := by rw [gwF]; simp [go_sem]
  have f3 : wF.cell? ⟨w.heap.size, 3, none⟩ = some (.int .i64 x3) := by rw [gwF]; simp [go_sem]
  have HWF := hid hb1
  clear gwF hb1
  go_upto_block 0 with fail
  rw [HQ.out]
  obtain ⟨kb, gkb⟩ : ∃ kb, kb = w.heap.size := ⟨_, rfl⟩
  rw [← gkb] at f0 f1 f2 f3 hsF ⊢
  have hS0 : S9 wF B kb G D pp f x t y L g gd wF := by
    have h := HP.out.grow HWF.out
    refine ⟨h, Upd.refl _ _, fun b hk hb => ⟨hb, fun e => ?_, fun hG => ?_, fun hR => ?_⟩⟩
    · omega
    · have h1 := (HP.out.gG b hG).2.1
      omega
    · have h1 := (HP.out.gD b hR).2.1
      omega
  have q0 := hS0.c0
  have q1 := hS0.c1
  have q2 := hS0.c2
  have q3 := hS0.c3
  have HS0 := hid hS0
  have GKB := hid gkb
  have HKB : Hid (kb ≤ kb) := hid (Nat.le_refl _)
  clear hS0 gkb
  obtain ⟨R, gR⟩ : ∃ R, R = g.dup x1 x2 := ⟨_, rfl⟩
  obtain ⟨Z, gZ⟩ : ∃ Z, Z = gd.dup x1 x2 := ⟨_, rfl⟩
  have HE : Hid (LOk R.1 ∧ GOk Z.1) := by rw [gR, gZ]; exact hid ⟨HO.out.dup _ _, HP0.out.dup _ _⟩
  have KP : Hid (∀ W G D gD, S9 wF B kb G D pp f x t y L g gD W → Calls Tryz.prog 18 #[.pointer (some ⟨t, 0, none⟩), .int .i64 x1, .int .i64 x2] W fun e w' => e = .returned (.tuple #[.int .i64 R.2.1, .int .i64 R.2.2]) ∧ ∃ G', S9 wF B kb G' D pp f x t y L R.1 gD w') := by
    rw [gR]
    exact hid (fun W G D gD hs => (gdup_any hs.pr.tp.to HO.out.ok x1 x2).mono (by rintro e w' ⟨he, k⟩; exact ⟨he, hs.prog k⟩))
  have KD : Hid (∀ W G D gP, S9 wF B kb G D pp f x t y L gP gd W → Calls Tryz.prog 37 #[.pointer (some ⟨y, 0, none⟩), .int .i64 x1, .int .i64 x2] W fun e w' => e = .returned (.tuple #[.int .i64 Z.2.1, .int .i64 Z.2.2]) ∧ ∃ D', S9 wF B kb G D' pp f x t y L gP Z.1 w') := by
    rw [gZ]
    exact hid (fun W G D gP hs => (r9dup_any hs.pr.td.to HP0.out x1 x2).mono (by rintro e w' ⟨he, k⟩; exact ⟨he, hs.doc1 k⟩))
  clear gR gZ
  go_wp2_with fail
  go_region_held3 (fun W => W.cell? ⟨pp, 0, none⟩ = some (.pointer (some ⟨f, 0, none⟩)) ∧ W.cell? ⟨pp, 1, none⟩ = some (.pointer (some ⟨x, 0, none⟩)) ∧ W.cell? ⟨pp, 2, none⟩ = some (.pointer (some ⟨t, 0, none⟩)) ∧ W.cell? ⟨pp, 3, none⟩ = some (.pointer (some ⟨y, 0, none⟩)) ∧ W.cell? ⟨kb, 1, none⟩ = some (.int .i64 x1) ∧ W.cell? ⟨kb, 2, none⟩ = some (.int .i64 x2)) (first | (refine ⟨?_, ?_, ?_, ?_, ?_, ?_⟩ <;> assumption) | go_keep) (first
    | (go_at_call 18; refine (KP.out _ _ _ _ (by first | exact HS0.out.drew | exact HS0.out)).mono ?_; rintro e w1 ⟨rfl, G1, hS1⟩; have zq0 := hS1.c0; have zq1 := hS1.c1; have zq2 := hS1.c2; have zq3 := hS1.c3; have zk1 := hS1.k HKB.out hsF f1; have zk2 := hS1.k HKB.out hsF f2; have HS1 := hid hS1; clear hS1)
    | fail)
  go_wp2_with fail
  go_region_held3 (fun W => W.cell? ⟨pp, 0, none⟩ = some (.pointer (some ⟨f, 0, none⟩)) ∧ W.cell? ⟨pp, 1, none⟩ = some (.pointer (some ⟨x, 0, none⟩)) ∧ W.cell? ⟨pp, 2, none⟩ = some (.pointer (some ⟨t, 0, none⟩)) ∧ W.cell? ⟨pp, 3, none⟩ = some (.pointer (some ⟨y, 0, none⟩)) ∧ W.cell? ⟨kb, 1, none⟩ = some (.int .i64 x1) ∧ W.cell? ⟨kb, 2, none⟩ = some (.int .i64 x2)) (first | (refine ⟨?_, ?_, ?_, ?_, ?_, ?_⟩ <;> assumption) | go_keep) (first
    | (go_at_call 37; refine (KD.out _ _ _ _ (by first | exact HS1.out.drew | exact HS1.out)).mono ?_; rintro e w2 ⟨rfl, D2, hS2⟩; have yq0 := hS2.c0; have yq1 := hS2.c1; have yq2 := hS2.c2; have yq3 := hS2.c3; have yk1 := hS2.k HKB.out hsF f1; have yk2 := hS2.k HKB.out hsF f2; have HS2 := hid hS2; clear hS2)
    | fail)
  by_cases e0 : R.2.1 = Z.2.1
  · have eb0 : (R.2.1 == Z.2.1) = true := by simp [e0]
    clear e0
    go_wp2_with fail
    all_goals
      go_ret
      first
      | exact HS1.out.donex HWF.out HB.out HE.out
      | exact HS2.out.donex HWF.out HB.out HE.out
      | exact HS1.out.drew.donex HWF.out HB.out HE.out
      | exact HS2.out.drew.donex HWF.out HB.out HE.out
  · have eb0 : (R.2.1 == Z.2.1) = false := by simp [e0]
    clear e0
    go_wp2_with fail
    all_goals
      go_ret
      first
      | exact HS1.out.donex HWF.out HB.out HE.out
      | exact HS2.out.donex HWF.out HB.out HE.out
      | exact HS1.out.drew.donex HWF.out HB.out HE.out
      | exact HS2.out.drew.donex HWF.out HB.out HE.out

set_option maxHeartbeats 8000000 in
theorem dox_10 (pp f x t y L B : Nat) (G D : Nat → Prop) (g gd : Gt) (x0 x1 x2 x3 : Int) (w : World) (H : P9 w B G D pp f x t y L g gd) (H0 : LOk g) (H1 : GOk gd)
    (hq : wrap64 ((IntKind.u64.wrap x0).tmod 11) = 10) :
    Calls Tryz.prog 8 #[.pointer (some ⟨pp, 0, none⟩), .agg #[.int .i64 x0, .int .i64 x1, .int .i64 x2, .int .i64 x3]] w (Dx9 w B pp f x t y L) := by
  have hpl := H.lt
  have HB : Hid (B ≤ w.heap.size) := hid (Nat.le_trans H.gp (Nat.le_of_lt hpl))
  have HO := hid H0
  have HP0 := hid H1
  have HQ := hid hq
  have HP := hid H
  clear H H0 H1 hq
  go_enter Tryz.func8, Tryz.ntmps8
  go_upto_region 1 with fail
  obtain ⟨wF, gwF⟩ : ∃ wF, wF = w.alloc (.cells #[.int .i64 x0, .int .i64 x1, .int .i64 x2, .int .i64 x3] 26) := ⟨_, rfl⟩
  rw [← gwF]
  have hb1 : Below w.heap.size w wF := by rw [gwF]; exact (Below.refl _ _).alloc (Nat.le_refl _) _
  have hsF : w.heap.size < wF.heap.size := by rw [gwF]; simp
  have f0 : wF.cell? ⟨w.heap.size, 0, none⟩ = some (.int .i64 x0) := by rw [gwF]; simp [go_sem]
  have f1 : wF.cell? ⟨w.heap.size, 1, none⟩ = some (.int .i64 x1) := by rw [gwF]; simp [go_sem]
  have f2 : wF.cell? ⟨w.heap.size, 2, none⟩ = some (.int .i64 x2) := by rw [gwF]; simp [go_sem]
  have f3 : wF.cell? ⟨w.heap.size, 3, none⟩ = some (.int .i64 x3) := by rw [gwF]; simp [go_sem]
  have HWF := hid hb1
  clear gwF hb1
  go_upto_block 0 with fail
  rw [HQ.out]
  obtain ⟨kb, gkb⟩ : ∃ kb, kb = w.heap.size := ⟨_, rfl⟩
  rw [← gkb] at f0 f1 f2 f3 hsF ⊢
  have hS0 : S9 wF B kb G D pp f x t y L g gd wF := by
    have h := HP.out.grow HWF.out
    refine ⟨h, Upd.refl _ _, fun b hk hb => ⟨hb, fun e => ?_, fun hG => ?_, fun hR => ?_⟩⟩
    · omega
    · have h1 := (HP.out.gG b hG).2.1
      omega
    · have h1 := (HP.out.gD b hR).2.1
      omega
  have q0 := hS0.c0
  have q1 := hS0.c1
  have q2 := hS0.c2
  have q3 := hS0.c3
  have HS0 := hid hS0
  have GKB := hid gkb
  have HKB : Hid (kb ≤ kb) := hid (Nat.le_refl _)
  clear hS0 gkb
  obtain ⟨R, gR⟩ : ∃ R, R = g.dup2 x1 x2 x3 := ⟨_, rfl⟩
  obtain ⟨Z, gZ⟩ : ∃ Z, Z = gd.dup2 x1 x2 x3 := ⟨_, rfl⟩
  have HE : Hid (LOk R.1 ∧ GOk Z.1) := by rw [gR, gZ]; exact hid ⟨HO.out.dup2 _ _ _, HP0.out.dup2 _ _ _⟩
  have KP : Hid (∀ W G D gD, S9 wF B kb G D pp f x t y L g gD W → Calls Tryz.prog 19 #[.pointer (some ⟨t, 0, none⟩), .int .i64 x1, .int .i64 x2, .int .i64 x3] W fun e w' => e = .returned (.tuple #[.int .i64 R.2.1, .int .i64 R.2.2]) ∧ ∃ G', S9 wF B kb G' D pp f x t y L R.1 gD w') := by
    rw [gR]
    exact hid (fun W G D gD hs => (gdup2_any hs.pr.tp.to HO.out.ok x1 x2 x3).mono (by rintro e w' ⟨he, k⟩; exact ⟨he, hs.prog k⟩))
  have KD : Hid (∀ W G D gP, S9 wF B kb G D pp f x t y L gP gd W → Calls Tryz.prog 38 #[.pointer (some ⟨y, 0, none⟩), .int .i64 x1, .int .i64 x2, .int .i64 x3] W fun e w' => e = .returned (.tuple #[.int .i64 Z.2.1, .int .i64 Z.2.2]) ∧ ∃ D', S9 wF B kb G D' pp f x t y L gP Z.1 w') := by
    rw [gZ]
    exact hid (fun W G D gP hs => (r9dup2_any hs.pr.td.to HP0.out x1 x2 x3).mono (by rintro e w' ⟨he, k⟩; exact ⟨he, hs.doc1 k⟩))
  clear gR gZ
  go_wp2_with fail
  go_region_held3 (fun W => W.cell? ⟨pp, 0, none⟩ = some (.pointer (some ⟨f, 0, none⟩)) ∧ W.cell? ⟨pp, 1, none⟩ = some (.pointer (some ⟨x, 0, none⟩)) ∧ W.cell? ⟨pp, 2, none⟩ = some (.pointer (some ⟨t, 0, none⟩)) ∧ W.cell? ⟨pp, 3, none⟩ = some (.pointer (some ⟨y, 0, none⟩)) ∧ W.cell? ⟨kb, 1, none⟩ = some (.int .i64 x1) ∧ W.cell? ⟨kb, 2, none⟩ = some (.int .i64 x2) ∧ W.cell? ⟨kb, 3, none⟩ = some (.int .i64 x3)) (first | (refine ⟨?_, ?_, ?_, ?_, ?_, ?_, ?_⟩ <;> assumption) | go_keep) (first
    | (go_at_call 19; refine (KP.out _ _ _ _ (by first | exact HS0.out.drew | exact HS0.out)).mono ?_; rintro e w1 ⟨rfl, G1, hS1⟩; have zq0 := hS1.c0; have zq1 := hS1.c1; have zq2 := hS1.c2; have zq3 := hS1.c3; have zk1 := hS1.k HKB.out hsF f1; have zk2 := hS1.k HKB.out hsF f2; have zk3 := hS1.k HKB.out hsF f3; have HS1 := hid hS1; clear hS1)
    | fail)
  go_wp2_with fail
  go_region_held3 (fun W => W.cell? ⟨pp, 0, none⟩ = some (.pointer (some ⟨f, 0, none⟩)) ∧ W.cell? ⟨pp, 1, none⟩ = some (.pointer (some ⟨x, 0, none⟩)) ∧ W.cell? ⟨pp, 2, none⟩ = some (.pointer (some ⟨t, 0, none⟩)) ∧ W.cell? ⟨pp, 3, none⟩ = some (.pointer (some ⟨y, 0, none⟩)) ∧ W.cell? ⟨kb, 1, none⟩ = some (.int .i64 x1) ∧ W.cell? ⟨kb, 2, none⟩ = some (.int .i64 x2) ∧ W.cell? ⟨kb, 3, none⟩ = some (.int .i64 x3)) (first | (refine ⟨?_, ?_, ?_, ?_, ?_, ?_, ?_⟩ <;> assumption) | go_keep) (first
    | (go_at_call 38; refine (KD.out _ _ _ _ (by first | exact HS1.out.drew | exact HS1.out)).mono ?_; rintro e w2 ⟨rfl, D2, hS2⟩; have yq0 := hS2.c0; have yq1 := hS2.c1; have yq2 := hS2.c2; have yq3 := hS2.c3; have yk1 := hS2.k HKB.out hsF f1; have yk2 := hS2.k HKB.out hsF f2; have yk3 := hS2.k HKB.out hsF f3; have HS2 := hid hS2; clear hS2)
    | fail)
  by_cases e0 : R.2.1 = Z.2.1
  · have eb0 : (R.2.1 == Z.2.1) = true := by simp [e0]
    clear e0
    go_wp2_with fail
    all_goals
      go_ret
      first
      | exact HS1.out.donex HWF.out HB.out HE.out
      | exact HS2.out.donex HWF.out HB.out HE.out
      | exact HS1.out.drew.donex HWF.out HB.out HE.out
      | exact HS2.out.drew.donex HWF.out HB.out HE.out
  · have eb0 : (R.2.1 == Z.2.1) = false := by simp [e0]
    clear e0
    go_wp2_with fail
    all_goals
      go_ret
      first
      | exact HS1.out.donex HWF.out HB.out HE.out
      | exact HS2.out.donex HWF.out HB.out HE.out
      | exact HS1.out.drew.donex HWF.out HB.out HE.out
      | exact HS2.out.drew.donex HWF.out HB.out HE.out

end Go.Proofs.YtbglhmcahnkbfaaGreat

/- What the processes' 'does' does where the sides may differ: cases 7 (written by gen_gdox.py). -/
namespace Go.Proofs.YtbglhmcahnkbfaaGreat
open Go.RowKit Go.ChangeMaps Go.MapKept
set_option linter.unusedVariables false
set_option maxRecDepth 20000

theorem S9.drewN {wF w : World} {B kb : Nat} {G D : Nat → Prop} {pp f x t y L : Nat} {TP TD : Gt} (h : S9 wF B kb G D pp f x t y L TP TD w) (n : Nat) : S9 wF B kb G D pp f x t y L TP TD (w.drewN n) := h.grow ⟨rfl, rfl, rfl, Nat.le_refl _, fun _ _ => rfl⟩

set_option maxHeartbeats 8000000 in
theorem dox_7 (pp f x t y L B : Nat) (G D : Nat → Prop) (g gd : Gt) (x0 x1 x2 x3 : Int) (w : World) (H : P9 w B G D pp f x t y L g gd) (H0 : LOk g) (H1 : GOk gd)
    (hq : wrap64 ((IntKind.u64.wrap x0).tmod 11) = 7) :
    Calls Tryz.prog 8 #[.pointer (some ⟨pp, 0, none⟩), .agg #[.int .i64 x0, .int .i64 x1, .int .i64 x2, .int .i64 x3]] w (Dx9 w B pp f x t y L) := by
  have hpl := H.lt
  have HB : Hid (B ≤ w.heap.size) := hid (Nat.le_trans H.gp (Nat.le_of_lt hpl))
  have HO := hid H0
  have HP0 := hid H1
  have HQ := hid hq
  have HP := hid H
  clear H H0 H1 hq
  go_enter Tryz.func8, Tryz.ntmps8
  go_upto_region 1 with fail
  obtain ⟨wF, gwF⟩ : ∃ wF, wF = w.alloc (.cells #[.int .i64 x0, .int .i64 x1, .int .i64 x2, .int .i64 x3] 26) := ⟨_, rfl⟩
  rw [← gwF]
  have hb1 : Below w.heap.size w wF := by rw [gwF]; exact (Below.refl _ _).alloc (Nat.le_refl _) _
  have hsF : w.heap.size < wF.heap.size := by rw [gwF]; simp
  have f0 : wF.cell? ⟨w.heap.size, 0, none⟩ = some (.int .i64 x0) := by rw [gwF]; simp [go_sem]
  have f1 : wF.cell? ⟨w.heap.size, 1, none⟩ = some (.int .i64 x1) := by rw [gwF]; simp [go_sem]
  have f2 : wF.cell? ⟨w.heap.size, 2, none⟩ = some (.int .i64 x2) := by rw [gwF]; simp [go_sem]
  have f3 : wF.cell? ⟨w.heap.size, 3, none⟩ = some (.int .i64 x3) := by rw [gwF]; simp [go_sem]
  have HWF := hid hb1
  clear gwF hb1
  go_upto_block 0 with fail
  rw [HQ.out]
  obtain ⟨kb, gkb⟩ : ∃ kb, kb = w.heap.size := ⟨_, rfl⟩
  rw [← gkb] at f0 f1 f2 f3 hsF ⊢
  have hS0 : S9 wF B kb G D pp f x t y L g gd wF := by
    have h := HP.out.grow HWF.out
    refine ⟨h, Upd.refl _ _, fun b hk hb => ⟨hb, fun e => ?_, fun hG => ?_, fun hR => ?_⟩⟩
    · omega
    · have h1 := (HP.out.gG b hG).2.1
      omega
    · have h1 := (HP.out.gD b hR).2.1
      omega
  have q0 := hS0.c0
  have q1 := hS0.c1
  have q2 := hS0.c2
  have q3 := hS0.c3
  have HS0 := hid hS0
  have GKB := hid gkb
  have HKB : Hid (kb ≤ kb) := hid (Nat.le_refl _)
  clear hS0 gkb
  obtain ⟨U, gU⟩ : ∃ U, U = g.file x1 x2 := ⟨_, rfl⟩
  obtain ⟨V, gV⟩ : ∃ V, V = gd.file x1 x2 := ⟨_, rfl⟩
  have KF : Hid (∀ W G D gD, S9 wF B kb G D pp f x t y L g gD W → Calls Tryz.prog 21 #[.pointer (some ⟨t, 0, none⟩), .int .i64 x1, .int .i64 x2] W fun e w' => e = .returned (.tuple #[.int .i64 U.1, .int .i64 U.2]) ∧ S9 wF B kb G D pp f x t y L g gD w') := by
    rw [gU]
    exact hid (fun W G D gD hs => (gfile_any t f g x1 x2 W hs.pr.tp.tab).mono (by rintro e w' ⟨he, k⟩; exact ⟨he, hs.grow k⟩))
  have KE : Hid (∀ W G D gP, S9 wF B kb G D pp f x t y L gP gd W → Calls Tryz.prog 35 #[.pointer (some ⟨y, 0, none⟩), .int .i64 x1, .int .i64 x2] W fun e w' => e = .returned (.tuple #[.int .i64 V.1, .int .i64 V.2]) ∧ S9 wF B kb G D pp f x t y L gP gd w') := by
    rw [gV]
    exact hid (fun W G D gP hs => (r9file_any hs.pr.td x1 x2).mono (by rintro e w' ⟨he, k⟩; subst w'; exact ⟨he, hs⟩))
  clear gU gV
  go_wp2_with fail
  go_region_held3 (fun W => W.cell? ⟨pp, 0, none⟩ = some (.pointer (some ⟨f, 0, none⟩)) ∧ W.cell? ⟨pp, 1, none⟩ = some (.pointer (some ⟨x, 0, none⟩)) ∧ W.cell? ⟨pp, 2, none⟩ = some (.pointer (some ⟨t, 0, none⟩)) ∧ W.cell? ⟨pp, 3, none⟩ = some (.pointer (some ⟨y, 0, none⟩)) ∧ W.cell? ⟨kb, 1, none⟩ = some (.int .i64 x1) ∧ W.cell? ⟨kb, 2, none⟩ = some (.int .i64 x2) ∧ W.cell? ⟨kb, 3, none⟩ = some (.int .i64 x3)) (first | (refine ⟨?_, ?_, ?_, ?_, ?_, ?_, ?_⟩ <;> assumption) | go_keep) (first
    | (go_at_call 21; refine (KF.out _ _ _ _ (by first | exact HS0.out.drew | exact HS0.out)).mono ?_; rintro e w1 ⟨rfl, hS1⟩; have zq0 := hS1.c0; have zq1 := hS1.c1; have zq2 := hS1.c2; have zq3 := hS1.c3; have zk1 := hS1.k HKB.out hsF f1; have zk2 := hS1.k HKB.out hsF f2; have zk3 := hS1.k HKB.out hsF f3; have HSa := hid hS1; clear hS1)
    | fail)
  go_wp2_with fail
  go_region_held3 (fun W => W.cell? ⟨pp, 0, none⟩ = some (.pointer (some ⟨f, 0, none⟩)) ∧ W.cell? ⟨pp, 1, none⟩ = some (.pointer (some ⟨x, 0, none⟩)) ∧ W.cell? ⟨pp, 2, none⟩ = some (.pointer (some ⟨t, 0, none⟩)) ∧ W.cell? ⟨pp, 3, none⟩ = some (.pointer (some ⟨y, 0, none⟩)) ∧ W.cell? ⟨kb, 1, none⟩ = some (.int .i64 x1) ∧ W.cell? ⟨kb, 2, none⟩ = some (.int .i64 x2) ∧ W.cell? ⟨kb, 3, none⟩ = some (.int .i64 x3)) (first | (refine ⟨?_, ?_, ?_, ?_, ?_, ?_, ?_⟩ <;> assumption) | go_keep) (first
    | (go_at_call 35; refine (KE.out _ _ _ _ (by first | exact HSa.out.drew | exact HSa.out)).mono ?_; rintro e w2 ⟨rfl, hS2⟩; have yq0 := hS2.c0; have yq1 := hS2.c1; have yq2 := hS2.c2; have yq3 := hS2.c3; have yk1 := hS2.k HKB.out hsF f1; have yk2 := hS2.k HKB.out hsF f2; have yk3 := hS2.k HKB.out hsF f3; have HSb := hid hS2; clear hS2)
    | fail)
  obtain ⟨R, gR⟩ : ∃ R, R = g.close x1 x3 := ⟨_, rfl⟩
  obtain ⟨Z, gZ⟩ : ∃ Z, Z = gd.close x1 x3 := ⟨_, rfl⟩
  have HE : Hid (LOk R.1 ∧ GOk Z.1) := by rw [gR, gZ]; exact hid ⟨HO.out.close _ _, HP0.out.close _ _⟩
  have KP : Hid (∀ W G D gD, S9 wF B kb G D pp f x t y L g gD W → Calls Tryz.prog 20 #[.pointer (some ⟨t, 0, none⟩), .int .i64 x1, .int .i64 x3] W fun e w' => e = .returned (.int .i64 R.2) ∧ ∃ G', S9 wF B kb G' D pp f x t y L R.1 gD w') := by
    rw [gR]
    exact hid (fun W G D gD hs => (gclose_any hs.pr.tp.to HO.out.ok x1 x3).mono (by rintro e w' ⟨he, k⟩; exact ⟨he, hs.prog k⟩))
  have KD : Hid (∀ W G D gP, S9 wF B kb G D pp f x t y L gP gd W → Calls Tryz.prog 36 #[.pointer (some ⟨y, 0, none⟩), .int .i64 x1, .int .i64 x3] W fun e w' => e = .returned (.int .i64 Z.2) ∧ ∃ D', S9 wF B kb G D' pp f x t y L gP Z.1 w') := by
    rw [gZ]
    exact hid (fun W G D gP hs => (r9close_any hs.pr.td.to HP0.out x1 x3).mono (by rintro e w' ⟨he, k⟩; exact ⟨he, hs.doc1 k⟩))
  clear gR gZ
  by_cases e0 : U.1 = V.1
  · by_cases e1 : U.2 = V.2
    · have eb0 : (U.1 == V.1) = true := by simp [e0]
      have eb1 : (U.2 == V.2) = true := by simp [e1]
      clear e0 e1
      go_wp2_with fail
      go_region_held3 (fun W => W.cell? ⟨pp, 0, none⟩ = some (.pointer (some ⟨f, 0, none⟩)) ∧ W.cell? ⟨pp, 1, none⟩ = some (.pointer (some ⟨x, 0, none⟩)) ∧ W.cell? ⟨pp, 2, none⟩ = some (.pointer (some ⟨t, 0, none⟩)) ∧ W.cell? ⟨pp, 3, none⟩ = some (.pointer (some ⟨y, 0, none⟩)) ∧ W.cell? ⟨kb, 1, none⟩ = some (.int .i64 x1) ∧ W.cell? ⟨kb, 2, none⟩ = some (.int .i64 x2) ∧ W.cell? ⟨kb, 3, none⟩ = some (.int .i64 x3)) (first | (refine ⟨?_, ?_, ?_, ?_, ?_, ?_, ?_⟩ <;> assumption) | go_keep) (first
        | (go_at_call 20; refine (KP.out _ _ _ _ (by first | exact HS2.out | exact HSb.out.drew | exact HSb.out)).mono ?_; rintro e w1 ⟨rfl, G1, hS1⟩; have zq0 := hS1.c0; have zq1 := hS1.c1; have zq2 := hS1.c2; have zq3 := hS1.c3; have zk1 := hS1.k HKB.out hsF f1; have zk2 := hS1.k HKB.out hsF f2; have zk3 := hS1.k HKB.out hsF f3; have HS1 := hid hS1; clear hS1)
        | (go_at_call 36; refine (KD.out _ _ _ _ (by first | exact HS1.out | exact HSb.out.drew | exact HSb.out)).mono ?_; rintro e w2 ⟨rfl, D2, hS2⟩; have yq0 := hS2.c0; have yq1 := hS2.c1; have yq2 := hS2.c2; have yq3 := hS2.c3; have yk1 := hS2.k HKB.out hsF f1; have yk2 := hS2.k HKB.out hsF f2; have yk3 := hS2.k HKB.out hsF f3; have HS2 := hid hS2; clear hS2)
        | fail)
      all_goals
        go_wp2_with fail
        go_ret
        first
        | exact HS1.out.donex HWF.out HB.out HE.out
        | exact HS2.out.donex HWF.out HB.out HE.out
        | exact HS1.out.drew.donex HWF.out HB.out HE.out
        | exact HS2.out.drew.donex HWF.out HB.out HE.out
    · have eb0 : (U.1 == V.1) = true := by simp [e0]
      have eb1 : (U.2 == V.2) = false := by simp [e1]
      clear e0 e1
      go_wp2_with fail
      go_quiet (fail)
      go_wp2_with fail
      go_ret
      first
      | exact HSb.out.donex HWF.out HB.out ⟨HO.out, HP0.out⟩
      | exact (HSb.out.drewN _).donex HWF.out HB.out ⟨HO.out, HP0.out⟩
  · have eb0 : (U.1 == V.1) = false := by simp [e0]
    clear e0
    go_wp2_with fail
    go_quiet (fail)
    go_wp2_with fail
    go_ret
    first
    | exact HSb.out.donex HWF.out HB.out ⟨HO.out, HP0.out⟩
    | exact (HSb.out.drewN _).donex HWF.out HB.out ⟨HO.out, HP0.out⟩

end Go.Proofs.YtbglhmcahnkbfaaGreat

/- What the processes' 'does' does: cases 0, 1 (written by gen_gdo.py). -/
namespace Go.Proofs.YtbglhmcahnkbfaaGreat
open Go.RowKit Go.ChangeMaps Go.MapKept
set_option linter.unusedVariables false
set_option maxRecDepth 20000

end Go.Proofs.YtbglhmcahnkbfaaGreat

/- What the processes' 'does' does: cases 2, 3 (written by gen_gdo.py). -/
namespace Go.Proofs.YtbglhmcahnkbfaaGreat
open Go.RowKit Go.ChangeMaps Go.MapKept
set_option linter.unusedVariables false
set_option maxRecDepth 20000

end Go.Proofs.YtbglhmcahnkbfaaGreat

/- What the processes' 'does' does: cases 6, 8 (written by gen_gdo.py). -/
namespace Go.Proofs.YtbglhmcahnkbfaaGreat
open Go.RowKit Go.ChangeMaps Go.MapKept
set_option linter.unusedVariables false
set_option maxRecDepth 20000

end Go.Proofs.YtbglhmcahnkbfaaGreat

/- What the processes' 'does' does: cases 9, 10 (written by gen_gdo.py). -/
namespace Go.Proofs.YtbglhmcahnkbfaaGreat
open Go.RowKit Go.ChangeMaps Go.MapKept
set_option linter.unusedVariables false
set_option maxRecDepth 20000

end Go.Proofs.YtbglhmcahnkbfaaGreat

/- What the processes' 'does' does: cases 7 (written by gen_gdo.py). -/
namespace Go.Proofs.YtbglhmcahnkbfaaGreat
open Go.RowKit Go.ChangeMaps Go.MapKept
set_option linter.unusedVariables false
set_option maxRecDepth 20000

end Go.Proofs.YtbglhmcahnkbfaaGreat

/- How many processes run, behind an Exit; what is left when none runs. -/
namespace Go.Proofs.YtbglhmcahnkbfaaGreat
open Go.RowKit Go.ChangeMaps Go.MapKept
set_option linter.unusedVariables false
set_option maxRecDepth 20000

def b1 (Q : Nat → Gp) (i : Nat) : Nat := if qrn Q (i : Int) = true then 1 else 0
theorem rnL_len (Q : Nat → Gp) : ∀ n, (rnL Q (n + 1)).length = (rnL Q n).length + b1 Q n := fun n => by
  unfold b1
  rw [rnL]
  split
  · simp
  · simp
theorem rn_sum (Q : Nat → Gp) : (rnL Q 5).length = b1 Q 0 + b1 Q 1 + b1 Q 2 + b1 Q 3 + b1 Q 4 := by
  rw [rnL_len, rnL_len, rnL_len, rnL_len, rnL_len]
  show 0 + _ + _ + _ + _ + _ = _
  omega
theorem mem_rnL {Q : Nat → Gp} {r : Nat} : ∀ n, r ∈ rnL Q n → r < n ∧ qrn Q (r : Int) = true
  | 0, h => by simp [rnL] at h
  | n + 1, h => by
    unfold rnL at h
    split at h
    · rename_i a
      rcases List.mem_append.1 h with h | h
      · have := mem_rnL n h; exact ⟨by omega, this.2⟩
      · rw [List.mem_singleton] at h
        subst h
        exact ⟨by omega, a⟩
    · have := mem_rnL n h; exact ⟨by omega, this.2⟩
theorem rn_less {Q Q' : Nat → Gp} {q : Nat} (h1 : 1 ≤ q) (h4 : q ≤ 4) (hq : qrn Q (q : Int) = true) (hq' : qrn Q' (q : Int) = false) (h : ∀ i : Nat, qrn Q' (i : Int) = true → qrn Q (i : Int) = true) : (rnL Q' 5).length < (rnL Q 5).length := by
  have k : ∀ i, b1 Q' i ≤ b1 Q i := fun i => by
    unfold b1
    split
    · rename_i a
      rw [if_pos (h i a)]
      omega
    · omega
  have e1 : b1 Q q = 1 := by unfold b1; rw [if_pos hq]
  have e2 : b1 Q' q = 0 := by unfold b1; rw [if_neg (by rw [hq']; decide)]
  rw [rn_sum, rn_sum]
  have k0 := k 0
  have k1 := k 1
  have k2 := k 2
  have k3 := k 3
  have k4 := k 4
  obtain rfl | rfl | rfl | rfl : q = 1 ∨ q = 2 ∨ q = 3 ∨ q = 4 := by omega
  all_goals omega
theorem empties_st (g : Gt) (q : Nat) : ∀ n i, ((g.empties q n).Q i).st = (g.Q i).st
  | 0, i => rfl
  | n + 1, i => by
    show (((g.empties q n).empty q n).Q i).st = _
    rw [empty_Q, (keep_fd _ q _ i).1]
    exact empties_st g q n i
theorem ended_st {g : Gt} (p : Nat) (co : Int) (i : Nat) (h : ((g.ended p co).Q i).st = 1) : i ≠ p ∧ (g.Q i).st = 1 := by
  obtain ⟨Q0, gQ0⟩ : ∃ Q0, Q0 = updG g.Q p { g.Q p with st := 2, co := co } := ⟨_, rfl⟩
  have hp : (Gt.leave Q0 p p).st ≠ 1 := by
    have e : (Q0 p).st = 2 := by rw [gQ0, updG_same]
    unfold Gt.leave
    rw [if_pos e]
    split
    · show (0 : Int) ≠ 1
      decide
    · rw [e]; decide
  have hn : i ≠ p → (Gt.leave Q0 p i).st = 1 → (g.Q i).st = 1 := fun hi hs => by
    have e : Q0 i = g.Q i := by rw [gQ0, updG_ne _ _ _ _ hi]
    unfold Gt.leave at hs
    rw [e] at hs
    split at hs
    · split at hs
      · exact absurd (show (0 : Int) = 1 from hs) (by decide)
      · exact hs
    · exact hs
  have h' : ((if qrn (Gt.leave Q0 p) (Gt.leave Q0 p p).pa = true then Gt.leave Q0 p else updG (Gt.leave Q0 p) p noGp) i).st = 1 := by
    rw [gQ0]
    exact h
  by_cases e : i = p
  · subst e
    split at h'
    · exact absurd h' hp
    · rw [updG_same] at h'
      exact absurd (show (0 : Int) = 1 from h') (by decide)
  · refine ⟨e, hn e ?_⟩
    split at h'
    · exact h'
    · rw [updG_ne _ _ _ _ e] at h'
      exact h'
theorem exit_less {g : Gt} {q : Nat} (co : Int) (h : qrn g.Q (q : Int) = true) : (g.exit (q : Int) co).2 = 0 ∧ (rnL (g.exit (q : Int) co).1.Q 5).length < (rnL g.Q 5).length := by
  obtain ⟨q', e, h1, h4, hs⟩ := qrn_lt h
  obtain rfl : q' = q := by omega
  have e : g.exit (q' : Int) co = ((g.empties q' 6).ended q' (co % 256), 0) := by unfold Gt.exit; rw [if_neg (by rw [qrn_runs, h]; decide), Int.toNat_natCast]
  rw [e]
  refine ⟨rfl, rn_less h1 h4 h ?_ (fun i hi => ?_)⟩
  · cases hq : qrn ((g.empties q' 6).ended q' (co % 256)).Q (q' : Int)
    · rfl
    · obtain ⟨r, e, _, _, hr⟩ := qrn_lt hq
      obtain rfl : r = q' := by omega
      exact absurd rfl (ended_st _ _ _ hr).1
  · obtain ⟨r, e, r1, r4, hr⟩ := qrn_lt hi
    obtain rfl : r = i := by omega
    have := (ended_st _ _ _ hr).2
    rw [empties_st] at this
    exact qrn_of r1 r4 this
/-- Nobody runs. -/
theorem none_left {g : Gt} (H : LOk g) (h : (rnL g.Q 5).length = 0) : piN g.Q 5 = 0 ∧ oiN g.T.O 11 = 0 := by
  rw [rn_sum] at h
  have hr : ∀ i : Nat, qrn g.Q (i : Int) = false := fun i => by
    cases hq : qrn g.Q (i : Int)
    · rfl
    · obtain ⟨r, e, r1, r4, _⟩ := qrn_lt hq
      obtain rfl : r = i := by omega
      have : b1 g.Q r = 1 := by unfold b1; rw [if_pos hq]
      obtain rfl | rfl | rfl | rfl : r = 1 ∨ r = 2 ∨ r = 3 ∨ r = 4 := by omega
      all_goals omega
  have hq0 : ∀ i, (g.Q i).st = 0 := fun i => by
    by_cases hi : 1 ≤ i ∧ i ≤ 4
    · rcases H.ok.st i with e | e | e
      · exact e
      · have := qrn_of hi.1 hi.2 e
        rw [hr i] at this
        exact absurd this (by decide)
      · obtain ⟨r, e2, r1, r4, rs⟩ := qrn_lt (H.j i e)
        have := qrn_of r1 r4 rs
        rw [hr r] at this
        exact absurd this (by decide)
    · rw [H.ok.out i (by omega)]; rfl
  have hn : ∀ i, g.Q i = noGp := fun i => H.ok.none i (hq0 i)
  have hp : ∀ n, piN g.Q n = 0 := fun n => by
    induction n with
    | zero => rfl
    | succ n ih => rw [piN, if_pos (hq0 n)]; exact ih
  have hh : ∀ i, i < 11 → (g.T.O i).h = 0 := fun i hi => by
    by_cases h0 : i = 0
    · rw [h0, H.ok.T.out 0 (.inl rfl)]; rfl
    · rw [H.h i (by omega) (by omega)]
      have : cP g.Q (i : Int) = 0 := by
        unfold cP c6
        rw [hn 1, hn 2, hn 3, hn 4]
        have e : ¬ (noGp.fd 0 : Int) = (i : Int) := by show ¬ (0 : Int) = (i : Int); omega
        rw [show noGp.fd 1 = noGp.fd 0 from rfl, show noGp.fd 2 = noGp.fd 0 from rfl, show noGp.fd 3 = noGp.fd 0 from rfl, show noGp.fd 4 = noGp.fd 0 from rfl, show noGp.fd 5 = noGp.fd 0 from rfl, if_neg e]
      rw [this]; rfl
  have ho : ∀ n, n ≤ 11 → oiN g.T.O n = 0 := fun n => by
    induction n with
    | zero => intro _; rfl
    | succ n ih => intro hn; rw [oiN, if_pos (hh n (by omega))]; exact ih (by omega)
  exact ⟨hp 5, ho 11 (Nat.le_refl _)⟩
theorem new_runs : rnL (newG 0).Q 5 = [1] := by kernel_rfl

end Go.Proofs.YtbglhmcahnkbfaaGreat
