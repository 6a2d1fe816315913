/- The road of KernelNobody. -/
import Derived.Test.YtdkkohbkihaojaaGreatKCall
namespace Go.Proofs.YtdkkohbkihaojaaGreat
open Go.RowKit
set_option linter.unusedVariables false

/-- A kernel that no call made. -/
def Nob (w : World) (x : Option Addr) : Prop := x = none ∨ ∃ p, x = some ⟨p, 0, none⟩ ∧ p < w.heap.size ∧ w.cell? ⟨p, 0, none⟩ = some (.pointer none)
theorem Nob.usable {w : World} {x : Option Addr} (h : Nob w x) : Calls Tryz.prog 9 #[.pointer x] w fun e w' => e = .returned (.bool false) ∧ w' = w := by
  rcases h with rfl | ⟨p, rfl, _, h⟩
  · exact kusable_nil w
  · exact kusable_no p w h
theorem Nob.below {w w' : World} {x : Option Addr} (h : Nob w x) (u : Below w.heap.size w w') : Nob w' x := by
  rcases h with rfl | ⟨p, rfl, hl, h⟩
  · exact .inl rfl
  · exact .inr ⟨p, rfl, Nat.lt_of_lt_of_le hl u.size, (u.cell (p := ⟨p, 0, none⟩) hl).trans h⟩

set_option maxHeartbeats 4000000 in
set_option maxRecDepth 20000 in
theorem nobody_road (a0 a1 : Int) (w : World) : Calls Tryz.prog 3 #[.int .i64 a0, .int .i64 a1] w fun e w' => e = .returned (.bool true) ∧ Below w.heap.size w w' := by
  go_enter Tryz.func3, Tryz.ntmps3
  go_wp2_with fail
  obtain ⟨W, gW⟩ : ∃ W, W = (w.alloc (Obj.cells #[Value.pointer none, Value.pointer none, Value.pointer none, Value.pointer none, Value.pointer none, Value.pointer none, Value.pointer none] 28)).alloc (Obj.cells #[Value.pointer none, Value.pointer (some ⟨w.heap.size, 0, none⟩)] 22) := ⟨_, rfl⟩
  have hbW : Below w.heap.size w W := by rw [gW]; exact ((Below.refl _ _).alloc (Nat.le_refl _) _).alloc (by simp) _
  have hsW : W.heap.size = w.heap.size + 2 := by rw [gW]; simp
  have x2 : W.cell? ⟨w.heap.size, 0, none⟩ = some (.pointer none) := by rw [gW]; simp [go_sem]
  have y0 : W.cell? ⟨w.heap.size + 1, 0, none⟩ = some (.pointer none) := by rw [gW]; simp [go_sem]
  have y1 : W.cell? ⟨w.heap.size + 1, 1, none⟩ = some (.pointer (some ⟨w.heap.size, 0, none⟩)) := by rw [gW]; simp [go_sem]
  rw [← gW]
  have HS := hid hsW
  have HBW := hid hbW
  clear gW hsW hbW
  go_loopw [18] (fun k wr => ∃ i : Nat, i ≤ 2 ∧ k = .int .i64 i ∧ Below (w.heap.size + 2) W wr) (fun k _ => 2 - (intOf k).toNat)
  case atStart => exact ⟨0, by omega, rfl, Below.refl _ _⟩
  case round =>
    obtain ⟨i, hi, rfl, hb⟩ := hrel
    have z2 := (hb.cell (p := ⟨w.heap.size, 0, none⟩) (by simp)).trans x2
    have q0 := (hb.cell (p := ⟨w.heap.size + 1, 0, none⟩) (by simp)).trans y0
    have q1 := (hb.cell (p := ⟨w.heap.size + 1, 1, none⟩) (by simp)).trans y1
    clear x2 y0 y1
    rcases (show i = 2 ∨ i = 0 ∨ i = 1 by omega) with rfl | h01
    · have hbw : Below w.heap.size w wr := HBW.out.trans (hb.mono (by omega))
      have HBw := hid hbw
      clear q0 q1 z2 hbw hb
      go_wp2_with fail
      refine (knew wr).mono ?_
      rintro e w1 ⟨k, f, t, rfl, hk, hk0, ht0, hb1⟩
      have HB1 := hid (HBw.out.trans (hb1.mono HBw.out.size))
      have hkw : w.heap.size ≤ k := Nat.le_trans HBw.out.size hk0
      have k2 := hid (kcall_getpid k f t w1 hk)
      clear hk hk0 ht0 hb1
      go_wp2_with fail
      refine k2.out.mono ?_
      rintro e w2 ⟨rfl, ⟨s, hk2⟩, hu2⟩
      have HB2 := hid (HB1.out.trans (hu2.below HB1.out.size (fun x hx => by omega)))
      have HK2 := hid hk2
      have k3 := hid (kspace_one k f t s w2 hk2)
      clear hk2 hu2 k2
      go_wp2_with fail
      refine k3.out.mono ?_
      rintro e w3 ⟨rfl, hb3⟩
      have HB3 := hid (HB2.out.trans (hb3.mono HB2.out.size))
      have hk3 := HK2.out.below hb3 HK2.out.lt HK2.out.2.1.lt
      have k4 := hid (kfiles_yes k f t _ w3 hk3)
      have k5 := hid (kprocs_yes k f t _ w3 hk3)
      clear hk3 hb3 k3
      go_wp2_with fail
      refine k4.out.mono ?_
      rintro e w4 ⟨rfl, rfl⟩
      go_wp2_with fail
      refine k5.out.mono ?_
      rintro e w4 ⟨rfl, rfl⟩
      go_wp2_with fail
      go_ret
      exact ⟨rfl, HB3.out⟩
    · obtain ⟨x, hv, hnob⟩ : ∃ x, wr.cell? ⟨w.heap.size + 1, i, none⟩ = some (.pointer x) ∧ Nob wr x := by
        have := hb.size
        have := HS.out
        rcases h01 with rfl | rfl
        · exact ⟨_, q0, .inl rfl⟩
        · exact ⟨_, q1, .inr ⟨_, rfl, by omega, z2⟩⟩
      have hi2 : i < 2 := by omega
      have HN := hid hnob
      clear q0 q1 z2 h01 hnob
      go_wp2_with fail
      have hb1 : Below wr.heap.size wr (wr.alloc (Obj.cells #[Value.int .i64 1] 3)) := (Below.refl _ _).alloc (Nat.le_refl _) _
      have HN2 := hid (HN.out.below hb1)
      have hsz := hb.size
      have hb2 : Below (w.heap.size + 2) W (wr.alloc (Obj.cells #[Value.int .i64 1] 3)) := hb.trans (hb1.mono (by have := HS.out; omega))
      have HB2 := hid hb2
      clear hb2 hb1
      refine (kcall_nobody x a0 a1 _ _ _ _ HN2.out.usable).mono ?_
      rintro e w1 ⟨rfl, rfl⟩
      go_wp2_with fail
      refine (kspace_nobody x a0 _ HN2.out.usable).mono ?_
      rintro e w1 ⟨rfl, rfl⟩
      go_wp2_with fail
      refine (kfiles_nobody x _ HN2.out.usable).mono ?_
      rintro e w1 ⟨rfl, rfl⟩
      go_wp2_with fail
      refine (kprocs_nobody x _ HN2.out.usable).mono ?_
      rintro e w1 ⟨rfl, rfl⟩
      go_wp2_with fail
      go_roundw
      case rel => exact ⟨i + 1, by omega, by go_num, HB2.out⟩
      case measure => simp [intOf]; omega

end Go.Proofs.YtdkkohbkihaojaaGreat
