/- What the calls of a table that no call made answer, and the road of PipesNobody. -/
import Derived.Test.YtemdckmnedlfcaaPLook
import Derived.Test.YtemdckmnedlfcaaPCount
namespace Go.Proofs.Ytemdckmnedlfcaa
open Go.RowKit Lend
set_option linter.unusedVariables false

set_option maxHeartbeats 1000000 in
theorem look_nobody (x : Option Addr) (w : World) (h : Calls Try.prog 27 #[.pointer x] w fun e w' => e = .returned (.bool false) ∧ w' = w) :
    Calls Try.prog 24 #[.pointer x] w fun e w' => e = .returned (.slice none 0 0) ∧ w' = w := by
  have k1 := hid h
  clear h
  go_enter Try.func24, Try.ntmps24
  go_wp2_with fail
  refine k1.out.mono ?_
  rintro e w1 ⟨rfl, rfl⟩
  go_wp2_with fail
  go_ret
  exact ⟨rfl, rfl⟩

/-- A table that no call made. -/
def Nob (w : World) (x : Option Addr) : Prop := x = none ∨ ∃ p, x = some ⟨p, 0, none⟩ ∧ p < w.heap.size ∧ w.cell? ⟨p, 0, none⟩ = some (.bool false)
theorem Nob.usable {w : World} {x : Option Addr} (h : Nob w x) : Calls Try.prog 27 #[.pointer x] w fun e w' => e = .returned (.bool false) ∧ w' = w := by
  rcases h with rfl | ⟨p, rfl, _, h⟩
  · exact usable_nil w
  · exact usable_no p w h
theorem Nob.below {w w' : World} {x : Option Addr} (h : Nob w x) (u : Below w.heap.size w w') : Nob w' x := by
  rcases h with rfl | ⟨p, rfl, hl, h⟩
  · exact .inl rfl
  · exact .inr ⟨p, rfl, Nat.lt_of_lt_of_le hl u.size, (u.cell (p := ⟨p, 0, none⟩) hl).trans h⟩

set_option maxHeartbeats 4000000 in
set_option maxRecDepth 20000 in
theorem nobody_road (a0 : Int) (w : World) : Calls Try.prog 7 #[.int .i64 a0] w fun e w' => e = .returned (.bool true) ∧ Below w.heap.size w w' := by
  go_enter Try.func7, Try.ntmps7
  go_wp2_with fail
  obtain ⟨W, gW⟩ : ∃ W, W = (w.alloc (Obj.cells #[Value.bool false, Value.bool false, Value.int IntKind.i64 0, Value.int IntKind.i64 0, Value.int IntKind.i64 0, Value.int IntKind.u8 0, Value.int IntKind.u8 0, Value.int IntKind.u8 0, Value.int IntKind.u8 0, Value.int IntKind.u8 0, Value.int IntKind.u8 0, Value.int IntKind.u8 0, Value.int IntKind.u8 0, Value.int IntKind.i64 0, Value.int IntKind.i64 0, Value.int IntKind.i64 0, Value.int IntKind.u8 0, Value.int IntKind.u8 0, Value.int IntKind.u8 0, Value.int IntKind.u8 0, Value.int IntKind.u8 0, Value.int IntKind.u8 0, Value.int IntKind.u8 0, Value.int IntKind.u8 0, Value.int IntKind.i64 0, Value.int IntKind.i64 0, Value.int IntKind.i64 0, Value.int IntKind.u8 0, Value.int IntKind.u8 0, Value.int IntKind.u8 0, Value.int IntKind.u8 0, Value.int IntKind.u8 0, Value.int IntKind.u8 0, Value.int IntKind.u8 0, Value.int IntKind.u8 0, Value.int IntKind.i64 0, Value.int IntKind.i64 0, Value.int IntKind.i64 0, Value.int IntKind.u8 0, Value.int IntKind.u8 0, Value.int IntKind.u8 0, Value.int IntKind.u8 0, Value.int IntKind.u8 0, Value.int IntKind.u8 0, Value.int IntKind.u8 0, Value.int IntKind.u8 0, Value.int IntKind.i64 0, Value.int IntKind.i64 0, Value.int IntKind.i64 0, Value.int IntKind.u8 0, Value.int IntKind.u8 0, Value.int IntKind.u8 0, Value.int IntKind.u8 0, Value.int IntKind.u8 0, Value.int IntKind.u8 0, Value.int IntKind.u8 0, Value.int IntKind.u8 0] 58)).alloc (Obj.cells #[Value.pointer none, Value.pointer (some ⟨w.heap.size, 0, none⟩)] 23) := ⟨_, rfl⟩
  have hbW : Below w.heap.size w W := by rw [gW]; exact ((Below.refl _ _).alloc (Nat.le_refl _) _).alloc (by simp) _
  have hsW : W.heap.size = w.heap.size + 2 := by rw [gW]; simp
  have x2 : W.cell? ⟨w.heap.size, 0, none⟩ = some (.bool false) := by rw [gW]; simp [go_sem]
  have y0 : W.cell? ⟨w.heap.size + 1, 0, none⟩ = some (.pointer none) := by rw [gW]; simp [go_sem]
  have y1 : W.cell? ⟨w.heap.size + 1, 1, none⟩ = some (.pointer (some ⟨w.heap.size, 0, none⟩)) := by rw [gW]; simp [go_sem]
  rw [← gW]
  have HS := hid hsW
  have HBW := hid hbW
  clear gW hsW hbW
  go_loopw [19] (fun k wr => ∃ i : Nat, i ≤ 2 ∧ k = .int .i64 i ∧ Below (w.heap.size + 2) W wr) (fun k _ => 2 - (intOf k).toNat)
  case atStart => exact ⟨0, by omega, rfl, Below.refl _ _⟩
  case round =>
    obtain ⟨i, hi, rfl, hb⟩ := hrel
    have z2 := (hb.cell (p := ⟨w.heap.size, 0, none⟩) (by simp)).trans x2
    have q0 := (hb.cell (p := ⟨w.heap.size + 1, 0, none⟩) (by simp)).trans y0
    have q1 := (hb.cell (p := ⟨w.heap.size + 1, 1, none⟩) (by simp)).trans y1
    clear x2 y0 y1
    rcases (show i = 2 ∨ i = 0 ∨ i = 1 by omega) with rfl | h01
    · have hsz := hb.size
      have hbw : Below w.heap.size w wr := HBW.out.trans (hb.mono (by omega))
      have HBw := hid hbw
      clear q0 q1 z2 hbw hb hsz
      go_wp2_with fail
      have hal : Below w.heap.size w (wr.alloc (Obj.cells #[Value.int IntKind.i64 0, Value.int IntKind.i64 0] 3)) := HBw.out.trans (((Below.refl _ _).alloc (Nat.le_refl _) _).mono HBw.out.size)
      refine (count_any (some ⟨wr.heap.size, 0, none⟩) 2 2 [0, 0] _ ⟨rfl, fun _ => ⟨wr.heap.size, 0, rfl, by simp, fun j hj => ?_⟩, fun j => ?_⟩ (by omega)).mono ?_
      · rcases (show j = 0 ∨ j = 1 by omega) with rfl | rfl <;> simp [go_sem]
      · rcases j with _ | _ | j <;> simp
      rintro e w1 ⟨rfl, hb1⟩
      go_wp2_with fail
      go_ret
      exact ⟨rfl, hal.trans (hb1.mono hal.size)⟩
    · obtain ⟨x, hv, hnob⟩ : ∃ x, wr.cell? ⟨w.heap.size + 1, i, none⟩ = some (.pointer x) ∧ Nob wr x := by
        have := hb.size
        have := HS.out
        rcases h01 with rfl | rfl
        · exact ⟨_, q0, .inl rfl⟩
        · exact ⟨_, q1, .inr ⟨_, rfl, by omega, z2⟩⟩
      have hi2 : i < 2 := by omega
      have HN := hid hnob
      clear q0 q1 z2 h01 hnob
      go_wp2_with fail
      refine (make_nobody x _ HN.out.usable).mono ?_
      rintro e w1 ⟨rfl, rfl⟩
      go_wp2_with fail
      refine (read_err x a0 22 1 _ (pipe_nobody x a0 _ HN.out.usable) (by omega)).mono ?_
      rintro e w1 ⟨rfl, rfl⟩
      go_wp2_with fail
      refine (write_err x none 0 0 a0 22 _ (pipe_nobody x a0 _ HN.out.usable) (by omega)).mono ?_
      rintro e w1 ⟨rfl, rfl⟩
      go_wp2_with fail
      refine (hold_err x a0 22 true _ (pipe_nobody x a0 _ HN.out.usable) (by omega)).mono ?_
      rintro e w1 ⟨rfl, rfl⟩
      go_wp2_with fail
      refine (drop_err x a0 22 false _ (pipe_nobody x a0 _ HN.out.usable) (by omega)).mono ?_
      rintro e w1 ⟨rfl, rfl⟩
      go_wp2_with fail
      obtain ⟨W2, g2⟩ : ∃ W2, W2 = w1.alloc (Obj.cells #[Value.int IntKind.i64 22, Value.int IntKind.i64 22, Value.int IntKind.i64 22, Value.int IntKind.i64 22, Value.int IntKind.i64 22] 32) := ⟨_, rfl⟩
      have hb1 : Below w1.heap.size w1 W2 := by rw [g2]; exact (Below.refl _ _).alloc (Nat.le_refl _) _
      have hsz := hb.size
      have hb2 : Below (w.heap.size + 2) W W2 := hb.trans (hb1.mono (by have := HS.out; omega))
      have hc : ∀ j : Nat, j < 5 → W2.cell? ⟨w1.heap.size, j, none⟩ = some (.int .i64 22) := by
        intro j hj
        rcases (show j = 0 ∨ j = 1 ∨ j = 2 ∨ j = 3 ∨ j = 4 by omega) with rfl | rfl | rfl | rfl | rfl <;> rw [g2] <;> simp [go_sem]
      have HN2 := hid (HN.out.below hb1)
      rw [← g2]
      have HC := hid hc
      clear hc g2
      go_loop [53] (fun k => ∃ j : Nat, j ≤ 5 ∧ k = .int .i64 j) (fun k => 5 - (intOf k).toNat)
      case atStart => exact ⟨0, by omega, rfl⟩
      case round =>
        obtain ⟨j, hj, rfl⟩ := hrel
        by_cases hlt : j < 5
        · have hcj := HC.out j hlt
          go_wp2_with fail
          go_round
          case rel => exact ⟨j + 1, by omega, by go_num⟩
          case measure => simp [intOf]; omega
        · obtain rfl : j = 5 := by omega
          go_wp2_with fail
          refine (look_nobody x _ HN2.out.usable).mono ?_
          rintro e w3 ⟨rfl, rfl⟩
          go_wp2_with fail
          go_roundw
          case rel => exact ⟨i + 1, by omega, by go_num, hb2⟩
          case measure => simp [intOf]; omega

end Go.Proofs.Ytemdckmnedlfcaa
