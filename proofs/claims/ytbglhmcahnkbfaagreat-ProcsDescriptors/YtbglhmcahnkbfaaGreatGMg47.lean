/- Texts of this seat, merged. -/
import Derived.Test.YtbglhmcahnkbfaaGreatGMg46
import Derived.Test.YtbglhmcahnkbfaaGreatGMg10
import Derived.Deep.RegionWith
import Derived.Deep.RegionHeld3
import Derived.Deep.DeepCutAuto
import Derived.Deep.CutBlock

/- What the processes' 'open' does. -/
namespace Go.Proofs.YtbglhmcahnkbfaaGreat
open Go.RowKit Go.ChangeMaps Go.MapKept
set_option linter.unusedVariables false
set_option maxRecDepth 20000

theorem own_one (W : World) (c : Int) : Src (W.alloc (.cells #[.int .u8 c] 5)).drew (some ⟨W.heap.size, 0, none⟩) 1 [c] := by
  refine ⟨rfl, fun _ => ⟨W.heap.size, 0, rfl, by simp, fun j hj => ?_⟩⟩
  obtain rfl : j = 0 := by simpa using hj
  simp [go_sem]

theorem own_one2 (W : World) (c : Int) : Src (W.alloc (.cells #[.int .u8 c] 5)) (some ⟨W.heap.size, 0, none⟩) 1 [c] := by
  refine ⟨rfl, fun _ => ⟨W.heap.size, 0, rfl, by simp, fun j hj => ?_⟩⟩
  obtain rfl : j = 0 := by simpa using hj
  simp [go_sem]

set_option maxHeartbeats 8000000 in
theorem gopen_any (pp f x t y L B : Nat) (G D : Nat → Prop) (g : Gt) (x0 x1 x2 x3 : Int) (w : World) (H : P9 w B G D pp f x t y L g g) (H0 : GOk g) :
    Calls Tryz.prog 33 #[.pointer (some ⟨pp, 0, none⟩), .agg #[.int .i64 x0, .int .i64 x1, .int .i64 x2, .int .i64 x3]] w (Do9 w B pp f x t y L g) := by
  have hpl := H.lt
  have HB : Hid (B ≤ w.heap.size) := hid (Nat.le_trans H.gp (Nat.le_of_lt hpl))
  have HO := hid H0
  have HP := hid H
  clear H H0
  go_enter Tryz.func33, Tryz.ntmps33
  go_upto_region 1 with fail
  obtain ⟨wF, gwF⟩ : ∃ wF, wF = w.alloc (.cells #[.int .i64 x0, .int .i64 x1, .int .i64 x2, .int .i64 x3] 26) := ⟨_, rfl⟩
  rw [← gwF]
  have hb1 : Below w.heap.size w wF := by rw [gwF]; exact (Below.refl _ _).alloc (Nat.le_refl _) _
  have hsF : w.heap.size < wF.heap.size := by rw [gwF]; simp
  have f0 : wF.cell? ⟨w.heap.size, 0, none⟩ = some (.int .i64 x0) := by rw [gwF]; simp [go_sem]
  have f1 : wF.cell? ⟨w.heap.size, 1, none⟩ = some (.int .i64 x1) := by rw [gwF]; simp [go_sem]
  have f2 : wF.cell? ⟨w.heap.size, 2, none⟩ = some (.int .i64 x2) := by rw [gwF]; simp [go_sem]
  have f3 : wF.cell? ⟨w.heap.size, 3, none⟩ = some (.int .i64 x3) := by rw [gwF]; simp [go_sem]
  have HWF := hid hb1
  clear gwF hb1
  obtain ⟨kb, gkb⟩ : ∃ kb, kb = w.heap.size := ⟨_, rfl⟩
  rw [← gkb] at f0 f1 f2 f3 hsF ⊢
  have hS0 : S9 wF B kb G D pp f x t y L g g wF := by
    have h := HP.out.grow HWF.out
    refine ⟨h, Upd.refl _ _, fun b hk hb => ⟨hb, fun e => ?_, fun hG => ?_, fun hR => ?_⟩⟩
    · omega
    · have h1 := (HP.out.gG b hG).2.1
      omega
    · have h1 := (HP.out.gD b hR).2.1
      omega
  have q0 := hS0.c0
  have q1 := hS0.c1
  have q2 := hS0.c2
  have q3 := hS0.c3
  have HS0 := hid hS0
  have GKB := hid gkb
  have HKB : Hid (kb ≤ kb) := hid (Nat.le_refl _)
  clear hS0 gkb
  obtain ⟨c, gc⟩ : ∃ c, c = IntKind.u8.wrap (IntKind.u64.wrap (97 + (IntKind.u64.wrap x2).tmod 3)) := ⟨_, rfl⟩
  obtain ⟨S, gS⟩ : ∃ S, S = strOfNums [c] := ⟨_, rfl⟩
  have hcv : ∀ W : World, (convert 104 9 (.slice (some ⟨W.heap.size, 0, none⟩) 1 1)).run Tryz.prog (W.alloc (.cells #[.int .u8 c] 5)).drew = .ok (.string S) (W.alloc (.cells #[.int .u8 c] 5)).drew := fun W => by
    rw [gS]
    exact (own_one W c).convert (P := Tryz.prog) 1 104 5 9 Tryz.underlying104 Tryz.underlying5 Tryz.underlying9
  have hcv2 : ∀ W : World, (convert 104 9 (.slice (some ⟨W.heap.size, 0, none⟩) 1 1)).run Tryz.prog (W.alloc (.cells #[.int .u8 c] 5)) = .ok (.string S) (W.alloc (.cells #[.int .u8 c] 5)) := fun W => by
    rw [gS]
    exact (own_one2 W c).convert (P := Tryz.prog) 1 104 5 9 Tryz.underlying104 Tryz.underlying5 Tryz.underlying9
  have hcv3 : ∀ W : World, (convert 104 9 (.slice (some ⟨W.heap.size, 0, none⟩) 1 1)).run Tryz.prog (W.drew.alloc (.cells #[.int .u8 c] 5)) = .ok (.string S) (W.drew.alloc (.cells #[.int .u8 c] 5)) := fun W => hcv2 W.drew
  rw [gc] at hcv hcv2 hcv3
  have hS1 : S.size = 1 := by rw [gS, strOfNums_size]; rfl
  obtain ⟨l, gl⟩ : ∃ l : ByteArray, l = (⟨#[47, 102]⟩ : ByteArray) ++ S := ⟨_, rfl⟩
  have hl : l.size ≤ 1048576 := by rw [gl, ByteArray.size_append, hS1]; exact (by decide : 2 + 1 ≤ 1048576)
  clear gS gc
  have GL := hid gl.symm
  have HL := hid hl
  clear gl hl
  obtain ⟨R, gR⟩ : ∃ R, R = g.T.open_ (bl l) 11 := ⟨_, rfl⟩
  obtain ⟨g1, gg1⟩ : ∃ g1 : Gt, g1 = { g with T := (g.T.open_ (bl l) 11).1 } := ⟨_, rfl⟩
  have HE1 : Hid (K3 g g1) := by rw [gg1]; exact hid (K3.open_ HO.out _ _)
  obtain ⟨A, gA⟩ : ∃ A : Nat, A = R.2.1 := ⟨_, rfl⟩
  obtain ⟨E, gE⟩ : ∃ E : Int, E = R.2.2 := ⟨_, rfl⟩
  have KP : Hid (∀ W G D gD, S9 wF B kb G D pp f x t y L g gD W → Calls Tryz.prog 16 #[.pointer (some ⟨f, 0, none⟩), .string l, .int .i64 11] W fun e w' => e = .returned (.tuple #[.int .i64 (A : Int), .int .i64 E]) ∧ ∃ G', S9 wF B kb G' D pp f x t y L g1 gD w') := by
    rw [gA, gE, gR, gg1]
    exact hid (fun W G D gD hs => (hs.pr.tp.to.open_ HO.out.T l (Nat.le_trans HL.out (by omega)) 11).mono (by rintro e w' ⟨he, k⟩; exact ⟨he, hs.prog k⟩))
  have KD : Hid (∀ W G D gP, S9 wF B kb G D pp f x t y L gP g W → Calls Tryz.prog 73 #[.pointer (some ⟨x, 0, none⟩), .string l, .int .i64 11] W fun e w' => e = .returned (.tuple #[.int .i64 (A : Int), .int .i64 E]) ∧ ∃ D', S9 wF B kb G D' pp f x t y L gP g1 w') := by
    rw [gA, gE, gR, gg1]
    exact hid (fun W G D gP hs => (hs.pr.td.to.open_ HO.out.T l HL.out 11 (by decide) (by decide)).mono (by rintro e w' ⟨he, k⟩; exact ⟨he, hs.doc1 k⟩))
  clear gR gg1 gA gE R
  have hpF : pp < wF.heap.size := HS0.out.pr.lt
  have hne1 : ¬ pp = wF.heap.size := by omega
  have hne2 : ¬ kb = wF.heap.size := by omega
  have hne3 : ¬ wF.heap.size = pp := by omega
  have hne4 : ¬ wF.heap.size = kb := by omega
  go_wp2_with fail
  go_cut [5, 6] (fun v5 v6 wx => v5 = .int .i64 (A : Int) ∧ v6 = .int .i64 E ∧ Hid (∃ G1, S9 wF B kb G1 D pp f x t y L g1 g wx))
  case first =>
    go_region_with (first | (go_at_call 16; (try rw [GL.out]); refine (KP.out _ _ _ _ (by first | exact (HS0.out.grow (one_new _ _)).drew | exact HS0.out.grow (one_new _ _) | exact HS0.out.drew.grow (one_new _ _))).mono ?_; rintro e w1 ⟨rfl, hS1⟩; have HS1 := hid hS1; clear hS1))
    all_goals
      go_wp2_with fail
      go_meet
      case rel =>
        first
        | exact ⟨rfl, rfl, HS1⟩
        | exact ⟨rfl, rfl, hid (by obtain ⟨G1, h⟩ := HS1.out; exact ⟨G1, h.drew⟩)⟩
  case rest =>
  obtain ⟨rfl, rfl, HX⟩ := hcut
  obtain ⟨w1, gw1⟩ : ∃ w1, w1 = wc := ⟨_, rfl⟩
  rw [← gw1] at HX ⊢
  clear gw1
  obtain ⟨G1, hS1⟩ := HX.out
  have HS1 := hid hS1
  have zq0 := hS1.c0
  have zq1 := hS1.c1
  have zq2 := hS1.c2
  have zq3 := hS1.c3
  have zk1 := hS1.k HKB.out hsF f1
  have zk2 := hS1.k HKB.out hsF f2
  have zk3 := hS1.k HKB.out hsF f3
  have hpF1 : pp < w1.heap.size := hS1.pr.lt
  have hsz : wF.heap.size ≤ w1.heap.size := hS1.up.size
  have hme1 : ¬ pp = w1.heap.size := by omega
  have hme2 : ¬ kb = w1.heap.size := by omega
  have hme3 : ¬ w1.heap.size = pp := by omega
  have hme4 : ¬ w1.heap.size = kb := by omega
  clear hS1 HX
  go_wp2_with fail
  go_cut [7, 8] (fun v7 v8 wx => v7 = .int .i64 (A : Int) ∧ v8 = .int .i64 E ∧ Hid (∃ D2, S9 wF B kb G1 D2 pp f x t y L g1 g1 wx))
  case first =>
    go_region_with (first | (go_at_call 73; (try rw [GL.out]); refine (KD.out _ _ _ _ (by first | exact (HS1.out.grow (one_new _ _)).drew | exact HS1.out.grow (one_new _ _) | exact HS1.out.drew.grow (one_new _ _))).mono ?_; rintro e w2 ⟨rfl, hS2⟩; have HS2 := hid hS2; clear hS2))
    all_goals
      go_wp2_with fail
      go_meet
      case rel =>
        first
        | exact ⟨rfl, rfl, HS2⟩
        | exact ⟨rfl, rfl, hid (by obtain ⟨D2, h⟩ := HS2.out; exact ⟨D2, h.drew⟩)⟩
  case rest =>
  obtain ⟨rfl, rfl, HX⟩ := hcut
  obtain ⟨w2, gw2⟩ : ∃ w2, w2 = wc := ⟨_, rfl⟩
  rw [← gw2] at HX ⊢
  clear gw2
  obtain ⟨D2, hS2⟩ := HX.out
  have HS2 := hid hS2
  have yq0 := hS2.c0
  have yq1 := hS2.c1
  have yq2 := hS2.c2
  have yq3 := hS2.c3
  have yk1 := hS2.k HKB.out hsF f1
  have yk2 := hS2.k HKB.out hsF f2
  have yk3 := hS2.k HKB.out hsF f3
  clear hS2 HX
  by_cases hp : x3.tmod 2 = 0
  · obtain ⟨g2, gg2⟩ : ∃ g2 : Gt, g2 = { g1 with T := g1.T.pipe.1 } := ⟨_, rfl⟩
    have HE2 : Hid (K3 g g2) := by rw [gg2]; exact hid (HE1.out.trans (K3.pipe HE1.out.1))
    obtain ⟨R, gR⟩ : ∃ R, R = g1.T.pipe := ⟨_, rfl⟩
    obtain ⟨A2, gA⟩ : ∃ A2 : Nat, A2 = R.2.1 := ⟨_, rfl⟩
    obtain ⟨A3, gA3⟩ : ∃ A3 : Nat, A3 = R.2.2.1 := ⟨_, rfl⟩
    obtain ⟨E2, gE⟩ : ∃ E2 : Int, E2 = R.2.2.2 := ⟨_, rfl⟩
    have KPp : Hid (∀ W G D gD, S9 wF B kb G D pp f x t y L g1 gD W → Calls Tryz.prog 74 #[.pointer (some ⟨f, 0, none⟩)] W fun e w' => e = .returned (.tuple #[.int .i64 (A2 : Int), .int .i64 (A3 : Int), .int .i64 E2]) ∧ ∃ G', S9 wF B kb G' D pp f x t y L g2 gD w') := by
      rw [gA, gA3, gE, gR, gg2]
      exact hid (fun W G D gD hs => (hs.pr.tp.to.pipe HE1.out.1.T).mono (by rintro e w' ⟨he, k⟩; exact ⟨he, hs.prog k⟩))
    have KDp : Hid (∀ W G D gP, S9 wF B kb G D pp f x t y L gP g1 W → Calls Tryz.prog 75 #[.pointer (some ⟨x, 0, none⟩)] W fun e w' => e = .returned (.tuple #[.int .i64 (A2 : Int), .int .i64 (A3 : Int), .int .i64 E2]) ∧ ∃ D', S9 wF B kb G D' pp f x t y L gP g2 w') := by
      rw [gA, gA3, gE, gR, gg2]
      exact hid (fun W G D gP hs => (hs.pr.td.to.pipe HE1.out.1.T).mono (by rintro e w' ⟨he, k⟩; exact ⟨he, hs.doc1 k⟩))
    clear gA gA3 gE gR gg2 R
    have k5 := hid (And.intro (KPp.out _ _ _ _ HS2.out) (KPp.out _ _ _ _ HS2.out.drew))
    go_wp2_with fail
    first
    | refine k5.out.1.mono ?_
    | refine k5.out.2.mono ?_
    rintro e w5 ⟨rfl, G5, hS5⟩
    have u0 := hS5.c0
    have u1 := hS5.c1
    have u2 := hS5.c2
    have u3 := hS5.c3
    have uk1 := hS5.k HKB.out hsF f1
    have uk2 := hS5.k HKB.out hsF f2
    have uk3 := hS5.k HKB.out hsF f3
    have k6 := hid (KDp.out _ _ _ _ hS5)
    clear hS5 k5
    go_wp2_with fail
    refine k6.out.mono ?_
    rintro e w6 ⟨rfl, D6, hS6⟩
    have v0 := hS6.c0
    have v1 := hS6.c1
    have v2 := hS6.c2
    have v3 := hS6.c3
    have vk1 := hS6.k HKB.out hsF f1
    have vk2 := hS6.k HKB.out hsF f2
    have vk3 := hS6.k HKB.out hsF f3
    have HSx := hid hS6
    clear hS6 k6
    by_cases hE : E2 = 0
    · subst hE
      obtain ⟨R, gR⟩ : ∃ R, R = g2.install x1 (A2 : Int) := ⟨_, rfl⟩
      have HE3 : Hid (K3 g R.1) := by rw [gR]; exact hid (HE2.out.trans (K3.install HE2.out.1 _ _))
      have KPi : Hid (∀ W G D gD, S9 wF B kb G D pp f x t y L g2 gD W → Calls Tryz.prog 17 #[.pointer (some ⟨t, 0, none⟩), .int .i64 x1, .int .i64 (A2 : Int)] W fun e w' => e = .returned (.tuple #[.int .i64 R.2.1, .int .i64 R.2.2]) ∧ ∃ G', S9 wF B kb G' D pp f x t y L R.1 gD w') := by
        rw [gR]
        exact hid (fun W G D gD hs => (ginstall_any hs.pr.tp.to HE2.out.1.T x1 (A2 : Int)).mono (by rintro e w' ⟨he, k⟩; exact ⟨he, hs.prog k⟩))
      have KDi : Hid (∀ W G D gP, S9 wF B kb G D pp f x t y L gP g2 W → Calls Tryz.prog 34 #[.pointer (some ⟨y, 0, none⟩), .int .i64 x1, .int .i64 (A2 : Int)] W fun e w' => e = .returned (.tuple #[.int .i64 R.2.1, .int .i64 R.2.2]) ∧ ∃ D', S9 wF B kb G D' pp f x t y L gP R.1 w') := by
        rw [gR]
        exact hid (fun W G D gP hs => (r9install_any hs.pr.td.to HE2.out.1.T x1 (A2 : Int)).mono (by rintro e w' ⟨he, k⟩; exact ⟨he, hs.doc1 k⟩))
      clear gR
      go_wp2_with fail
      go_region_held3 (fun W => W.cell? ⟨pp, 0, none⟩ = some (.pointer (some ⟨f, 0, none⟩)) ∧ W.cell? ⟨pp, 1, none⟩ = some (.pointer (some ⟨x, 0, none⟩)) ∧ W.cell? ⟨pp, 2, none⟩ = some (.pointer (some ⟨t, 0, none⟩)) ∧ W.cell? ⟨pp, 3, none⟩ = some (.pointer (some ⟨y, 0, none⟩)) ∧ W.cell? ⟨kb, 1, none⟩ = some (.int .i64 x1) ∧ W.cell? ⟨kb, 2, none⟩ = some (.int .i64 x2) ∧ W.cell? ⟨kb, 3, none⟩ = some (.int .i64 x3)) (first | (refine ⟨?_, ?_, ?_, ?_, ?_, ?_, ?_⟩ <;> assumption) | go_keep) (first
        | (go_at_call 17; refine (KPi.out _ _ _ _ (by first | exact HSx.out.drew | exact HSx.out)).mono ?_; rintro e w3 ⟨rfl, G3, hS3⟩; have aq0 := hS3.c0; have aq1 := hS3.c1; have aq2 := hS3.c2; have aq3 := hS3.c3; have ak1 := hS3.k HKB.out hsF f1; have ak2 := hS3.k HKB.out hsF f2; have ak3 := hS3.k HKB.out hsF f3; have HS3 := hid hS3; clear hS3)
        | fail)
      go_wp2_with fail
      go_region_held3 (fun W => W.cell? ⟨pp, 0, none⟩ = some (.pointer (some ⟨f, 0, none⟩)) ∧ W.cell? ⟨pp, 1, none⟩ = some (.pointer (some ⟨x, 0, none⟩)) ∧ W.cell? ⟨pp, 2, none⟩ = some (.pointer (some ⟨t, 0, none⟩)) ∧ W.cell? ⟨pp, 3, none⟩ = some (.pointer (some ⟨y, 0, none⟩)) ∧ W.cell? ⟨kb, 1, none⟩ = some (.int .i64 x1) ∧ W.cell? ⟨kb, 2, none⟩ = some (.int .i64 x2) ∧ W.cell? ⟨kb, 3, none⟩ = some (.int .i64 x3)) (first | (refine ⟨?_, ?_, ?_, ?_, ?_, ?_, ?_⟩ <;> assumption) | go_keep) (first
        | (go_at_call 34; refine (KDi.out _ _ _ _ (by first | exact HS3.out.drew | exact HS3.out)).mono ?_; rintro e w4 ⟨rfl, D4, hS4⟩; have bq0 := hS4.c0; have bq1 := hS4.c1; have bq2 := hS4.c2; have bq3 := hS4.c3; have bk1 := hS4.k HKB.out hsF f1; have bk2 := hS4.k HKB.out hsF f2; have bk3 := hS4.k HKB.out hsF f3; have HS4 := hid hS4; clear hS4)
        | fail)
      go_wp2_with fail
      go_ret
      first
      | exact HS4.out.done HWF.out HB.out HE3.out
      | exact HS4.out.drew.done HWF.out HB.out HE3.out
    · go_wp2_with fail
      go_ret
      first
      | exact HSx.out.done HWF.out HB.out HE2.out
      | exact HSx.out.drew.done HWF.out HB.out HE2.out
  · have HSx := HS2
    by_cases hE : E = 0
    · subst hE
      obtain ⟨R, gR⟩ : ∃ R, R = g1.install x1 (A : Int) := ⟨_, rfl⟩
      have HE3 : Hid (K3 g R.1) := by rw [gR]; exact hid (HE1.out.trans (K3.install HE1.out.1 _ _))
      have KPi : Hid (∀ W G D gD, S9 wF B kb G D pp f x t y L g1 gD W → Calls Tryz.prog 17 #[.pointer (some ⟨t, 0, none⟩), .int .i64 x1, .int .i64 (A : Int)] W fun e w' => e = .returned (.tuple #[.int .i64 R.2.1, .int .i64 R.2.2]) ∧ ∃ G', S9 wF B kb G' D pp f x t y L R.1 gD w') := by
        rw [gR]
        exact hid (fun W G D gD hs => (ginstall_any hs.pr.tp.to HE1.out.1.T x1 (A : Int)).mono (by rintro e w' ⟨he, k⟩; exact ⟨he, hs.prog k⟩))
      have KDi : Hid (∀ W G D gP, S9 wF B kb G D pp f x t y L gP g1 W → Calls Tryz.prog 34 #[.pointer (some ⟨y, 0, none⟩), .int .i64 x1, .int .i64 (A : Int)] W fun e w' => e = .returned (.tuple #[.int .i64 R.2.1, .int .i64 R.2.2]) ∧ ∃ D', S9 wF B kb G D' pp f x t y L gP R.1 w') := by
        rw [gR]
        exact hid (fun W G D gP hs => (r9install_any hs.pr.td.to HE1.out.1.T x1 (A : Int)).mono (by rintro e w' ⟨he, k⟩; exact ⟨he, hs.doc1 k⟩))
      clear gR
      go_wp2_with fail
      go_region_held3 (fun W => W.cell? ⟨pp, 0, none⟩ = some (.pointer (some ⟨f, 0, none⟩)) ∧ W.cell? ⟨pp, 1, none⟩ = some (.pointer (some ⟨x, 0, none⟩)) ∧ W.cell? ⟨pp, 2, none⟩ = some (.pointer (some ⟨t, 0, none⟩)) ∧ W.cell? ⟨pp, 3, none⟩ = some (.pointer (some ⟨y, 0, none⟩)) ∧ W.cell? ⟨kb, 1, none⟩ = some (.int .i64 x1) ∧ W.cell? ⟨kb, 2, none⟩ = some (.int .i64 x2) ∧ W.cell? ⟨kb, 3, none⟩ = some (.int .i64 x3)) (first | (refine ⟨?_, ?_, ?_, ?_, ?_, ?_, ?_⟩ <;> assumption) | go_keep) (first
        | (go_at_call 17; refine (KPi.out _ _ _ _ (by first | exact HSx.out.drew | exact HSx.out)).mono ?_; rintro e w3 ⟨rfl, G3, hS3⟩; have aq0 := hS3.c0; have aq1 := hS3.c1; have aq2 := hS3.c2; have aq3 := hS3.c3; have ak1 := hS3.k HKB.out hsF f1; have ak2 := hS3.k HKB.out hsF f2; have ak3 := hS3.k HKB.out hsF f3; have HS3 := hid hS3; clear hS3)
        | fail)
      go_wp2_with fail
      go_region_held3 (fun W => W.cell? ⟨pp, 0, none⟩ = some (.pointer (some ⟨f, 0, none⟩)) ∧ W.cell? ⟨pp, 1, none⟩ = some (.pointer (some ⟨x, 0, none⟩)) ∧ W.cell? ⟨pp, 2, none⟩ = some (.pointer (some ⟨t, 0, none⟩)) ∧ W.cell? ⟨pp, 3, none⟩ = some (.pointer (some ⟨y, 0, none⟩)) ∧ W.cell? ⟨kb, 1, none⟩ = some (.int .i64 x1) ∧ W.cell? ⟨kb, 2, none⟩ = some (.int .i64 x2) ∧ W.cell? ⟨kb, 3, none⟩ = some (.int .i64 x3)) (first | (refine ⟨?_, ?_, ?_, ?_, ?_, ?_, ?_⟩ <;> assumption) | go_keep) (first
        | (go_at_call 34; refine (KDi.out _ _ _ _ (by first | exact HS3.out.drew | exact HS3.out)).mono ?_; rintro e w4 ⟨rfl, D4, hS4⟩; have bq0 := hS4.c0; have bq1 := hS4.c1; have bq2 := hS4.c2; have bq3 := hS4.c3; have bk1 := hS4.k HKB.out hsF f1; have bk2 := hS4.k HKB.out hsF f2; have bk3 := hS4.k HKB.out hsF f3; have HS4 := hid hS4; clear hS4)
        | fail)
      go_wp2_with fail
      go_ret
      first
      | exact HS4.out.done HWF.out HB.out HE3.out
      | exact HS4.out.drew.done HWF.out HB.out HE3.out
    · go_wp2_with fail
      go_ret
      first
      | exact HSx.out.done HWF.out HB.out HE1.out
      | exact HSx.out.drew.done HWF.out HB.out HE1.out

end Go.Proofs.YtbglhmcahnkbfaaGreat

/- What the processes' 'does' does: cases 4, 5 (written by gen_gdo.py). -/
namespace Go.Proofs.YtbglhmcahnkbfaaGreat
open Go.RowKit Go.ChangeMaps Go.MapKept
set_option linter.unusedVariables false
set_option maxRecDepth 20000

set_option maxHeartbeats 8000000 in
theorem do9_4 (pp f x t y L B : Nat) (G D : Nat → Prop) (g : Gt) (x0 x1 x2 x3 : Int) (w : World) (H : P9 w B G D pp f x t y L g g) (H0 : GOk g)
    (hq : wrap64 ((IntKind.u64.wrap x0).tmod 11) = 4) :
    Calls Tryz.prog 8 #[.pointer (some ⟨pp, 0, none⟩), .agg #[.int .i64 x0, .int .i64 x1, .int .i64 x2, .int .i64 x3]] w (Do9 w B pp f x t y L g) := by
  have hpl := H.lt
  have HB : Hid (B ≤ w.heap.size) := hid (Nat.le_trans H.gp (Nat.le_of_lt hpl))
  have HO := hid H0
  have HQ := hid hq
  have HP := hid H
  clear H H0 hq
  go_enter Tryz.func8, Tryz.ntmps8
  go_upto_region 1 with fail
  obtain ⟨wF, gwF⟩ : ∃ wF, wF = w.alloc (.cells #[.int .i64 x0, .int .i64 x1, .int .i64 x2, .int .i64 x3] 26) := ⟨_, rfl⟩
  rw [← gwF]
  have hb1 : Below w.heap.size w wF := by rw [gwF]; exact (Below.refl _ _).alloc (Nat.le_refl _) _
  have hsF : w.heap.size < wF.heap.size := by rw [gwF]; simp
  have f0 : wF.cell? ⟨w.heap.size, 0, none⟩ = some (.int .i64 x0) := by rw [gwF]; simp [go_sem]
  have f1 : wF.cell? ⟨w.heap.size, 1, none⟩ = some (.int .i64 x1) := by rw [gwF]; simp [go_sem]
  have f2 : wF.cell? ⟨w.heap.size, 2, none⟩ = some (.int .i64 x2) := by rw [gwF]; simp [go_sem]
  have f3 : wF.cell? ⟨w.heap.size, 3, none⟩ = some (.int .i64 x3) := by rw [gwF]; simp [go_sem]
  have HWF := hid hb1
  clear gwF hb1
  go_upto_block 0 with fail
  rw [HQ.out]
  obtain ⟨kb, gkb⟩ : ∃ kb, kb = w.heap.size := ⟨_, rfl⟩
  rw [← gkb] at f0 f1 f2 f3 hsF ⊢
  have hS0 : S9 wF B kb G D pp f x t y L g g wF := by
    have h := HP.out.grow HWF.out
    refine ⟨h, Upd.refl _ _, fun b hk hb => ⟨hb, fun e => ?_, fun hG => ?_, fun hR => ?_⟩⟩
    · omega
    · have h1 := (HP.out.gG b hG).2.1
      omega
    · have h1 := (HP.out.gD b hR).2.1
      omega
  have q0 := hS0.c0
  have q1 := hS0.c1
  have q2 := hS0.c2
  have q3 := hS0.c3
  have HS0 := hid hS0
  have GKB := hid gkb
  have HKB : Hid (kb ≤ kb) := hid (Nat.le_refl _)
  clear hS0 gkb
  have k1 := hid (gopen_any pp f x t y L B G D g x0 x1 x2 x3 wF HS0.out.pr HO.out)
  go_wp2_with fail
  refine k1.out.mono ?_
  rintro e w1 ⟨rfl, h1⟩
  have H1 := hid h1
  clear h1 k1
  go_wp2_with fail
  go_ret
  obtain ⟨G', D', g', a, b, c⟩ := H1.out
  exact ⟨rfl, G', D', g', a, b, (HWF.out.mono HB.out).trans c⟩

set_option maxHeartbeats 8000000 in
theorem do9_5 (pp f x t y L B : Nat) (G D : Nat → Prop) (g : Gt) (x0 x1 x2 x3 : Int) (w : World) (H : P9 w B G D pp f x t y L g g) (H0 : GOk g)
    (hq : wrap64 ((IntKind.u64.wrap x0).tmod 11) = 5) :
    Calls Tryz.prog 8 #[.pointer (some ⟨pp, 0, none⟩), .agg #[.int .i64 x0, .int .i64 x1, .int .i64 x2, .int .i64 x3]] w (Do9 w B pp f x t y L g) := by
  have hpl := H.lt
  have HB : Hid (B ≤ w.heap.size) := hid (Nat.le_trans H.gp (Nat.le_of_lt hpl))
  have HO := hid H0
  have HQ := hid hq
  have HP := hid H
  clear H H0 hq
  go_enter Tryz.func8, Tryz.ntmps8
  go_upto_region 1 with fail
  obtain ⟨wF, gwF⟩ : ∃ wF, wF = w.alloc (.cells #[.int .i64 x0, .int .i64 x1, .int .i64 x2, .int .i64 x3] 26) := ⟨_, rfl⟩
  rw [← gwF]
  have hb1 : Below w.heap.size w wF := by rw [gwF]; exact (Below.refl _ _).alloc (Nat.le_refl _) _
  have hsF : w.heap.size < wF.heap.size := by rw [gwF]; simp
  have f0 : wF.cell? ⟨w.heap.size, 0, none⟩ = some (.int .i64 x0) := by rw [gwF]; simp [go_sem]
  have f1 : wF.cell? ⟨w.heap.size, 1, none⟩ = some (.int .i64 x1) := by rw [gwF]; simp [go_sem]
  have f2 : wF.cell? ⟨w.heap.size, 2, none⟩ = some (.int .i64 x2) := by rw [gwF]; simp [go_sem]
  have f3 : wF.cell? ⟨w.heap.size, 3, none⟩ = some (.int .i64 x3) := by rw [gwF]; simp [go_sem]
  have HWF := hid hb1
  clear gwF hb1
  go_upto_block 0 with fail
  rw [HQ.out]
  obtain ⟨kb, gkb⟩ : ∃ kb, kb = w.heap.size := ⟨_, rfl⟩
  rw [← gkb] at f0 f1 f2 f3 hsF ⊢
  have hS0 : S9 wF B kb G D pp f x t y L g g wF := by
    have h := HP.out.grow HWF.out
    refine ⟨h, Upd.refl _ _, fun b hk hb => ⟨hb, fun e => ?_, fun hG => ?_, fun hR => ?_⟩⟩
    · omega
    · have h1 := (HP.out.gG b hG).2.1
      omega
    · have h1 := (HP.out.gD b hR).2.1
      omega
  have q0 := hS0.c0
  have q1 := hS0.c1
  have q2 := hS0.c2
  have q3 := hS0.c3
  have HS0 := hid hS0
  have GKB := hid gkb
  have HKB : Hid (kb ≤ kb) := hid (Nat.le_refl _)
  clear hS0 gkb
  have k1 := hid (gopen_any pp f x t y L B G D g x0 x1 x2 x3 wF HS0.out.pr HO.out)
  go_wp2_with fail
  refine k1.out.mono ?_
  rintro e w1 ⟨rfl, h1⟩
  have H1 := hid h1
  clear h1 k1
  go_wp2_with fail
  go_ret
  obtain ⟨G', D', g', a, b, c⟩ := H1.out
  exact ⟨rfl, G', D', g', a, b, (HWF.out.mono HB.out).trans c⟩

end Go.Proofs.YtbglhmcahnkbfaaGreat

/- What the processes' 'does' does. -/
namespace Go.Proofs.YtbglhmcahnkbfaaGreat
open Go.RowKit Go.ChangeMaps Go.MapKept
set_option linter.unusedVariables false

theorem do9_any (pp f x t y L B : Nat) (G D : Nat → Prop) (g : Gt) (x0 x1 x2 x3 : Int) (w : World) (H : P9 w B G D pp f x t y L g g) (H0 : GOk g) :
    Calls Tryz.prog 8 #[.pointer (some ⟨pp, 0, none⟩), .agg #[.int .i64 x0, .int .i64 x1, .int .i64 x2, .int .i64 x3]] w (Do9 w B pp f x t y L g) := by
  obtain ⟨s, hq, h12⟩ : ∃ s : Nat, wrap64 ((IntKind.u64.wrap x0).tmod 11) = (s : Int) ∧ s < 11 := by
    have h0 : 0 ≤ IntKind.u64.wrap x0 ∧ IntKind.u64.wrap x0 < 18446744073709551616 := by rw [IntKind.wrap_u64]; omega
    rw [Int.tmod_eq_emod_of_nonneg h0.1]
    refine ⟨(IntKind.u64.wrap x0 % 11).toNat, ?_, by omega⟩
    unfold wrap64; omega
  rcases (show s = 0 ∨ s = 1 ∨ s = 2 ∨ s = 3 ∨ s = 4 ∨ s = 5 ∨ s = 6 ∨ s = 7 ∨ s = 8 ∨ s = 9 ∨ s = 10 by omega) with rfl | rfl | rfl | rfl | rfl | rfl | rfl | rfl | rfl | rfl | rfl
  · exact do9_0 pp f x t y L B G D g x0 x1 x2 x3 w H H0 hq
  · exact do9_1 pp f x t y L B G D g x0 x1 x2 x3 w H H0 hq
  · exact do9_2 pp f x t y L B G D g x0 x1 x2 x3 w H H0 hq
  · exact do9_3 pp f x t y L B G D g x0 x1 x2 x3 w H H0 hq
  · exact do9_4 pp f x t y L B G D g x0 x1 x2 x3 w H H0 hq
  · exact do9_5 pp f x t y L B G D g x0 x1 x2 x3 w H H0 hq
  · exact do9_6 pp f x t y L B G D g x0 x1 x2 x3 w H H0 hq
  · exact do9_7 pp f x t y L B G D g x0 x1 x2 x3 w H H0 hq
  · exact do9_8 pp f x t y L B G D g x0 x1 x2 x3 w H H0 hq
  · exact do9_9 pp f x t y L B G D g x0 x1 x2 x3 w H H0 hq
  · exact do9_10 pp f x t y L B G D g x0 x1 x2 x3 w H H0 hq

end Go.Proofs.YtbglhmcahnkbfaaGreat
