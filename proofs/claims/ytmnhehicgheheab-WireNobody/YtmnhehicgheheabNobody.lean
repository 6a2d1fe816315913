/- What wire's reader does where no call made it (nil, or a plain one): it answers the error, and nothing turns. -/
import Derived.Test.YtmnhehicgheheabReader
namespace Go.Proofs.Ytmnhehicgheheab
open Go.RowKit Num

/-- A reader that no call made. -/
def Nob (w : World) (v : Value) : Prop := v = .pointer none ∨ ∃ p, v = .pointer (some ⟨p, 0, none⟩) ∧ w.cell? ⟨p, 2, none⟩ = some (.bool false)

theorem usable_no (v : Value) (w : World) (h : Nob w v) : Calls Try.prog 32 #[v] w fun e w' => e = .returned (.bool false) ∧ w' = w := by
  rcases h with rfl | ⟨p, rfl, hc⟩
  · go_enter Try.func32, Try.ntmps32
    go_wp2
    go_ret
    exact ⟨rfl, rfl⟩
  · go_enter Try.func32, Try.ntmps32
    go_wp2
    go_ret
    exact ⟨rfl, rfl⟩

theorem uint_no (v : Value) (w : World) (h : Nob w v) : Calls Try.prog 9 #[v] w fun e w' => e = .returned (.tuple #[.int .i64 0, .int .i64 2]) ∧ w' = w := by
  have k := hid (usable_no v w h)
  clear h
  go_enter Try.func9, Try.ntmps9
  go_wp2_with fail
  refine k.out.mono ?_
  rintro e w1 ⟨rfl, rfl⟩
  go_wp2_with fail
  go_ret2
  exact ⟨rfl, rfl⟩

theorem signed_no (v : Value) (w : World) (h : Nob w v) : Calls Try.prog 10 #[v] w fun e w' => e = .returned (.tuple #[.int .i64 0, .int .i64 2]) ∧ w' = w := by
  have k := hid (uint_no v w h)
  clear h
  go_enter Try.func10, Try.ntmps10
  go_wp2_with fail
  refine k.out.mono ?_
  rintro e w1 ⟨rfl, rfl⟩
  go_wp2
  go_ret2
  exact ⟨rfl, rfl⟩

theorem byte_no (v : Value) (w : World) (h : Nob w v) : Calls Try.prog 11 #[v] w fun e w' => e = .returned (.tuple #[.int .u8 0, .int .i64 2]) ∧ w' = w := by
  have k := hid (usable_no v w h)
  clear h
  go_enter Try.func11, Try.ntmps11
  go_wp2_with fail
  refine k.out.mono ?_
  rintro e w1 ⟨rfl, rfl⟩
  go_wp2_with fail
  go_ret2
  exact ⟨rfl, rfl⟩

theorem text_no (v : Value) (m : Int) (w : World) (h : Nob w v) : Calls Try.prog 12 #[v, .int .i64 m] w fun e w' => e = .returned (.tuple #[.string ByteArray.empty, .int .i64 2]) ∧ w' = w := by
  have k := hid (usable_no v w h)
  clear h
  go_enter Try.func12, Try.ntmps12
  go_wp2_with fail
  refine k.out.mono ?_
  rintro e w1 ⟨rfl, rfl⟩
  go_wp2_with fail
  go_ret2
  exact ⟨rfl, rfl⟩

theorem end_no (v : Value) (w : World) (h : Nob w v) : Calls Try.prog 13 #[v] w fun e w' => e = .returned (.int .i64 2) ∧ w' = w := by
  have k := hid (usable_no v w h)
  clear h
  go_enter Try.func13, Try.ntmps13
  go_wp2_with fail
  refine k.out.mono ?_
  rintro e w1 ⟨rfl, rfl⟩
  go_wp2_with fail
  go_ret
  exact ⟨rfl, rfl⟩

theorem left_no (v : Value) (w : World) (h : Nob w v) : Calls Try.prog 14 #[v] w fun e w' => e = .returned (.int .i64 0) ∧ w' = w := by
  have k := hid (usable_no v w h)
  clear h
  go_enter Try.func14, Try.ntmps14
  go_wp2_with fail
  refine k.out.mono ?_
  rintro e w1 ⟨rfl, rfl⟩
  go_wp2_with fail
  go_ret
  exact ⟨rfl, rfl⟩

theorem Nob.below {w w' : World} {v : Value} (h : Nob w v) (hb : Below w.heap.size w w') : Nob w' v := by
  rcases h with rfl | ⟨p, rfl, hc⟩
  · exact .inl rfl
  · exact .inr ⟨p, rfl, (hb.cell (p := ⟨p, 2, none⟩) (World.block_lt_of_cell? _ _ hc)).trans hc⟩

set_option maxHeartbeats 1000000 in
theorem nobody_road (a0 : Int) (w : World) : Calls Try.prog 3 #[.int .i64 a0] w fun e w' => e = .returned (.bool true) ∧ Below w.heap.size w w' := by
  go_enter Try.func3, Try.ntmps3
  go_wp2_with fail
  obtain ⟨W, gW⟩ : ∃ W, W = (w.alloc (Obj.cells #[Value.slice none 0 0, Value.int IntKind.i64 0, Value.bool false] 27)).alloc (Obj.cells #[Value.pointer none, Value.pointer (some ⟨w.heap.size, 0, none⟩)] 22) := ⟨_, rfl⟩
  have hbW : Below w.heap.size w W := by rw [gW]; exact ((Below.refl _ _).alloc (Nat.le_refl _) _).alloc (by simp) _
  have hsW : W.heap.size = w.heap.size + 2 := by rw [gW]; simp
  have x2 : W.cell? ⟨w.heap.size, 2, none⟩ = some (.bool false) := by rw [gW]; simp [go_sem]
  have y0 : W.cell? ⟨w.heap.size + 1, 0, none⟩ = some (.pointer none) := by rw [gW]; simp [go_sem]
  have y1 : W.cell? ⟨w.heap.size + 1, 1, none⟩ = some (.pointer (some ⟨w.heap.size, 0, none⟩)) := by rw [gW]; simp [go_sem]
  rw [← gW]
  have HS := hid hsW
  clear gW hsW
  go_loopw [19] (fun k wr => ∃ i : Nat, i ≤ 2 ∧ k = .int .i64 i ∧ Below (w.heap.size + 2) W wr) (fun k _ => 2 - (intOf k).toNat)
  case atStart => exact ⟨0, by omega, rfl, Below.refl _ _⟩
  case round =>
    obtain ⟨i, hi, rfl, hb⟩ := hrel
    have z2 := (hb.cell (p := ⟨w.heap.size, 2, none⟩) (by simp)).trans x2
    have q0 := (hb.cell (p := ⟨w.heap.size + 1, 0, none⟩) (by simp)).trans y0
    have q1 := (hb.cell (p := ⟨w.heap.size + 1, 1, none⟩) (by simp)).trans y1
    clear x2 y0 y1
    rcases (show i = 2 ∨ i = 0 ∨ i = 1 by omega) with rfl | h01
    · have hsz := hb.size
      have hbw : Below w.heap.size w wr := hbW.trans (hb.mono (by omega))
      clear q0 q1 z2
      have hs : Src (wr.alloc (Obj.cells #[Value.int .u8 1, Value.int .u8 2] 5)) (some ⟨wr.heap.size, 0, none⟩) 2 [1, 2] := by
        refine ⟨rfl, fun _ => ⟨_, _, rfl, by simp, fun j hj => ?_⟩⟩
        rcases (show j = 0 ∨ j = 1 by omega) with rfl | rfl <;> simp [go_sem]
      have HS2 := hid hs
      have hb3 : Below w.heap.size w (wr.alloc (Obj.cells #[Value.int .u8 1, Value.int .u8 2] 5)) := hbw.alloc hbw.size _
      clear hs
      go_wp2_with fail
      refine (over_any _ 2 2 [1, 2] _ HS2.out (by omega)).mono ?_
      rintro e w2 ⟨p, rfl, hr, hp, hb4⟩
      have HR := hid hr
      clear hr
      go_wp2_with fail
      refine (left_any _ p _ 2 0 [1, 2] _ HR.out).mono ?_
      rintro e w3 ⟨rfl, n, rfl⟩
      go_wp2_with fail
      go_ret
      exact ⟨rfl, below_drewN (hb3.trans (hb4.mono hb3.size)) n⟩
    · obtain ⟨v, hv, hnob⟩ : ∃ v, wr.cell? ⟨w.heap.size + 1, i, none⟩ = some v ∧ Nob wr v := by
        rcases h01 with rfl | rfl
        · exact ⟨_, q0, .inl rfl⟩
        · exact ⟨_, q1, .inr ⟨_, rfl, z2⟩⟩
      have hi2 : i < 2 := by omega
      have HN := hid hnob
      clear q0 q1 z2 h01 hnob
      go_wp2_with fail
      refine (uint_no v _ HN.out).mono ?_
      rintro e w1 ⟨rfl, rfl⟩
      go_wp2_with fail
      refine (signed_no v _ HN.out).mono ?_
      rintro e w1 ⟨rfl, rfl⟩
      go_wp2_with fail
      refine (byte_no v _ HN.out).mono ?_
      rintro e w1 ⟨rfl, rfl⟩
      go_wp2_with fail
      refine (text_no v _ _ HN.out).mono ?_
      rintro e w1 ⟨rfl, rfl⟩
      go_wp2_with fail
      refine (end_no v _ HN.out).mono ?_
      rintro e w1 ⟨rfl, rfl⟩
      go_wp2_with fail
      obtain ⟨W2, g2⟩ : ∃ W2, W2 = w1.alloc (Obj.cells #[Value.int IntKind.i64 2, Value.int IntKind.i64 2, Value.int IntKind.i64 2, Value.int IntKind.i64 2, Value.int IntKind.i64 2] 29) := ⟨_, rfl⟩
      have hb1 : Below w1.heap.size w1 W2 := by rw [g2]; exact (Below.refl _ _).alloc (Nat.le_refl _) _
      have hsz := hb.size
      have hb2 : Below (w.heap.size + 2) W W2 := hb.trans (hb1.mono (by have := HS.out; omega))
      have hc : ∀ j : Nat, j < 5 → W2.cell? ⟨w1.heap.size, j, none⟩ = some (.int .i64 2) := by
        intro j hj
        rcases (show j = 0 ∨ j = 1 ∨ j = 2 ∨ j = 3 ∨ j = 4 by omega) with rfl | rfl | rfl | rfl | rfl <;> rw [g2] <;> simp [go_sem]
      have HN2 := hid (HN.out.below hb1)
      rw [← g2]
      have HC := hid hc
      clear hc g2
      go_loop [52] (fun k => ∃ j : Nat, j ≤ 5 ∧ k = .int .i64 j) (fun k => 5 - (intOf k).toNat)
      case atStart => exact ⟨0, by omega, rfl⟩
      case round =>
        obtain ⟨j, hj, rfl⟩ := hrel
        by_cases hlt : j < 5
        · have hcj := HC.out j hlt
          go_wp2_with fail
          go_round
          case rel => exact ⟨j + 1, by omega, by go_num⟩
          case measure => simp [intOf]; omega
        · obtain rfl : j = 5 := by omega
          go_wp2_with fail
          refine (left_no v _ HN2.out).mono ?_
          rintro e w3 ⟨rfl, rfl⟩
          go_wp2_with fail
          go_roundw
          case rel => exact ⟨i + 1, by omega, by go_num, hb2⟩
          case measure => simp [intOf]; omega

end Go.Proofs.Ytmnhehicgheheab
