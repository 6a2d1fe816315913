/- The road of DiskNobody: it returns true for every int, and leaves what was there. -/
import Derived.Test.YtmnhehicgheheacDNobody
import Derived.Test.YtmnhehicgheheacDNew
namespace Go.Proofs.Ytmnhehicgheheac
open Go.RowKit

set_option maxHeartbeats 1600000 in
theorem dnobody_road (a0 : Int) (w : World) : Calls Try.prog 3 #[.int .i64 a0] w fun e w' => e = .returned (.bool true) ∧ Below w.heap.size w w' := by
  go_enter Try.func3, Try.ntmps3
  go_wp2_with fail
  obtain ⟨W, gW⟩ : ∃ W, W = (w.alloc (Obj.cells #[Value.slice none 0 0, Value.slice none 0 0, Value.slice none 0 0, Value.bool false] 26)).alloc (Obj.cells #[Value.pointer none, Value.pointer (some ⟨w.heap.size, 0, none⟩)] 22) := ⟨_, rfl⟩
  have hbW : Below w.heap.size w W := by rw [gW]; exact ((Below.refl _ _).alloc (Nat.le_refl _) _).alloc (by simp) _
  have hsW : W.heap.size = w.heap.size + 2 := by rw [gW]; simp
  have x2 : W.cell? ⟨w.heap.size, 0, none⟩ = some (.slice none 0 0) := by rw [gW]; simp [go_sem]
  have y0 : W.cell? ⟨w.heap.size + 1, 0, none⟩ = some (.pointer none) := by rw [gW]; simp [go_sem]
  have y1 : W.cell? ⟨w.heap.size + 1, 1, none⟩ = some (.pointer (some ⟨w.heap.size, 0, none⟩)) := by rw [gW]; simp [go_sem]
  rw [← gW]
  have HS := hid hsW
  clear gW hsW
  go_loopw [15] (fun k wr => ∃ i : Nat, i ≤ 2 ∧ k = .int .i64 i ∧ Below (w.heap.size + 2) W wr) (fun k _ => 2 - (intOf k).toNat)
  case atStart => exact ⟨0, by omega, rfl, Below.refl _ _⟩
  case round =>
    obtain ⟨i, hi, rfl, hb⟩ := hrel
    have z2 := (hb.cell (p := ⟨w.heap.size, 0, none⟩) (by simp)).trans x2
    have q0 := (hb.cell (p := ⟨w.heap.size + 1, 0, none⟩) (by simp)).trans y0
    have q1 := (hb.cell (p := ⟨w.heap.size + 1, 1, none⟩) (by simp)).trans y1
    clear x2 y0 y1
    rcases (show i = 2 ∨ i = 0 ∨ i = 1 by omega) with rfl | h01
    · have hsz := hb.size
      have hbw : Below w.heap.size w wr := hbW.trans (hb.mono (by omega))
      clear q0 q1 z2
      go_wp2_with fail
      refine (new_any 3 _ (by omega) (by omega)).mono ?_
      rintro e w1 ⟨p, g, c, rfl, hp, _, _, _, _, hb1⟩
      have hc := cell_of_row w1 p 0 _ _ _ hp
      simp at hc
      clear hp
      go_wp2_with fail
      refine (sectors_yes p _ (3 * 128) (3 * 128) 3 _ hc (by omega) (by omega) (by omega)).mono ?_
      rintro e w2 ⟨rfl, rfl⟩
      go_wp2_with fail
      go_ret
      exact ⟨rfl, hbw.trans (hb1.mono hbw.size)⟩
    · obtain ⟨v, hv, hnob⟩ : ∃ v, wr.cell? ⟨w.heap.size + 1, i, none⟩ = some v ∧ Nob wr v := by
        rcases h01 with rfl | rfl
        · exact ⟨_, q0, .inl rfl⟩
        · exact ⟨_, q1, .inr ⟨_, rfl, z2⟩⟩
      have hi2 : i < 2 := by omega
      have HN := hid hnob
      clear q0 q1 z2 h01 hnob
      go_wp2_with fail
      refine (read_no v _ _ HN.out).mono ?_
      rintro e w1 ⟨rfl, rfl⟩
      go_wp2_with fail
      refine (write_no v _ _ HN.out).mono ?_
      rintro e w1 ⟨rfl, rfl⟩
      go_wp2_with fail
      refine (barrier_no v _ HN.out).mono ?_
      rintro e w1 ⟨rfl, rfl⟩
      go_wp2_with fail
      refine (flush_no v _ HN.out).mono ?_
      rintro e w1 ⟨rfl, rfl⟩
      go_wp2_with fail
      refine (crash_no v _ _ HN.out).mono ?_
      rintro e w1 ⟨rfl, rfl⟩
      go_wp2_with fail
      obtain ⟨W2, g2⟩ : ∃ W2, W2 = w1.alloc (Obj.cells #[Value.int IntKind.i64 2, Value.int IntKind.i64 2, Value.int IntKind.i64 2, Value.int IntKind.i64 2, Value.int IntKind.i64 2] 28) := ⟨_, rfl⟩
      have hb1 : Below w1.heap.size w1 W2 := by rw [g2]; exact (Below.refl _ _).alloc (Nat.le_refl _) _
      have hsz := hb.size
      have hb2 : Below (w.heap.size + 2) W W2 := hb.trans (hb1.mono (by have := HS.out; omega))
      have hc : ∀ j : Nat, j < 5 → W2.cell? ⟨w1.heap.size, j, none⟩ = some (.int .i64 2) := by
        intro j hj
        rcases (show j = 0 ∨ j = 1 ∨ j = 2 ∨ j = 3 ∨ j = 4 by omega) with rfl | rfl | rfl | rfl | rfl <;> rw [g2] <;> simp [go_sem]
      have HN2 := hid (HN.out.below hb1)
      rw [← g2]
      have HC := hid hc
      clear hc g2
      go_loop [38] (fun k => ∃ j : Nat, j ≤ 5 ∧ k = .int .i64 j) (fun k => 5 - (intOf k).toNat)
      case atStart => exact ⟨0, by omega, rfl⟩
      case round =>
        obtain ⟨j, hj, rfl⟩ := hrel
        by_cases hlt : j < 5
        · have hcj := HC.out j hlt
          go_wp2_with fail
          go_round
          case rel => exact ⟨j + 1, by omega, by go_num⟩
          case measure => simp [intOf]; omega
        · obtain rfl : j = 5 := by omega
          go_wp2_with fail
          refine (sectors_no v _ HN2.out).mono ?_
          rintro e w3 ⟨rfl, rfl⟩
          go_wp2_with fail
          refine (epochs_no v _ HN2.out).mono ?_
          rintro e w3 ⟨rfl, rfl⟩
          go_wp2_with fail
          refine (image_no v _ HN2.out).mono ?_
          rintro e w3 ⟨rfl, rfl⟩
          go_wp2_with fail
          refine (copy_no v _ HN2.out).mono ?_
          rintro e w3 ⟨rfl, rfl⟩
          go_wp2_with fail
          go_roundw
          case rel => exact ⟨i + 1, by omega, by go_num, hb2⟩
          case measure => simp [intOf]; omega

end Go.Proofs.Ytmnhehicgheheac
