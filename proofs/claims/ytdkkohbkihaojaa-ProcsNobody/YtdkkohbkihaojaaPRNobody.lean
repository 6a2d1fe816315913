/- The road of ProcsNobody. -/
import Derived.Test.YtdkkohbkihaojaaQNob
import Derived.Test.YtdkkohbkihaojaaRNews
import Derived.Test.YtdkkohbkihaojaaQRunning
namespace Go.Proofs.Ytdkkohbkihaojaa
open Go.RowKit
set_option linter.unusedVariables false

theorem builtQZ : Try.prog.built 75 [] = some #[.pointer none, .int .i64 0, .int .i64 0, .int .i64 0, .int .i64 0, .int .i64 0, .int .i64 0, .int .i64 0, .int .i64 0, .int .i64 0, .int .i64 0, .int .i64 0, .int .i64 0, .int .i64 0, .int .i64 0, .int .i64 0, .int .i64 0, .int .i64 0, .int .i64 0, .int .i64 0, .int .i64 0, .int .i64 0, .int .i64 0, .int .i64 0, .int .i64 0, .int .i64 0, .int .i64 0, .int .i64 0, .int .i64 0, .int .i64 0, .int .i64 0, .int .i64 0, .int .i64 0, .int .i64 0, .int .i64 0, .int .i64 0, .int .i64 0, .int .i64 0, .int .i64 0, .int .i64 0, .int .i64 0, .int .i64 0, .int .i64 0, .int .i64 0, .int .i64 0, .int .i64 0, .int .i64 0] := by kernel_rfl

theorem own_shape {w : World} {B e size n : Nat} {v : Value} {xs : List Value} (h : w.ownsRow B e size v n xs) : ∃ ae c, v = .slice ae n c ∧ n ≤ c ∧ c ≤ 9223372036854775807 := by
  rcases h.2 with ⟨rfl, rfl⟩ | ⟨g, c, cur, rfl, _, _, h1, h2, _⟩
  · exact ⟨none, 0, rfl, by omega, by omega⟩
  · exact ⟨_, c, rfl, h1, by unfold maxLen at h2; omega⟩

/-- Processes that no call made. -/
def Nob (w : World) (x : Option Addr) : Prop := x = none ∨ ∃ p, x = some ⟨p, 0, none⟩ ∧ p < w.heap.size ∧ w.cell? ⟨p, 0, none⟩ = some (.pointer none)
theorem Nob.usable {w : World} {x : Option Addr} (h : Nob w x) : Calls Try.prog 68 #[.pointer x] w fun e w' => e = .returned (.bool false) ∧ w' = w := by
  rcases h with rfl | ⟨p, rfl, _, h⟩
  · exact qusable_nil w
  · exact qusable_no p w h
theorem Nob.below {w w' : World} {x : Option Addr} (h : Nob w x) (u : Below w.heap.size w w') : Nob w' x := by
  rcases h with rfl | ⟨p, rfl, hl, h⟩
  · exact .inl rfl
  · exact .inr ⟨p, rfl, Nat.lt_of_lt_of_le hl u.size, (u.cell (p := ⟨p, 0, none⟩) hl).trans h⟩

set_option maxHeartbeats 4000000 in
set_option maxRecDepth 20000 in
theorem nobody_road (a0 a1 : Int) (w : World) : Calls Try.prog 5 #[.int .i64 a0, .int .i64 a1] w fun e w' => e = .returned (.bool true) ∧ Below w.heap.size w w' := by
  obtain ⟨Z, gZ⟩ : ∃ Z : Array Value, Z = #[.pointer none, .int .i64 0, .int .i64 0, .int .i64 0, .int .i64 0, .int .i64 0, .int .i64 0, .int .i64 0, .int .i64 0, .int .i64 0, .int .i64 0, .int .i64 0, .int .i64 0, .int .i64 0, .int .i64 0, .int .i64 0, .int .i64 0, .int .i64 0, .int .i64 0, .int .i64 0, .int .i64 0, .int .i64 0, .int .i64 0, .int .i64 0, .int .i64 0, .int .i64 0, .int .i64 0, .int .i64 0, .int .i64 0, .int .i64 0, .int .i64 0, .int .i64 0, .int .i64 0, .int .i64 0, .int .i64 0, .int .i64 0, .int .i64 0, .int .i64 0, .int .i64 0, .int .i64 0, .int .i64 0, .int .i64 0, .int .i64 0, .int .i64 0, .int .i64 0, .int .i64 0, .int .i64 0] := ⟨_, rfl⟩
  have HB : Hid (Try.prog.built 75 [] = some Z) := by rw [gZ]; exact hid builtQZ
  have z0 : Hid (Z[0]? = some (.pointer none)) := by rw [gZ]; exact hid rfl
  clear gZ
  go_enter Try.func5, Try.ntmps5
  go_wp2_with (refine wpList_build_is rfl 75 #[] rfl Z (by simpa using HB.out) ?_)
  obtain ⟨W, gW⟩ : ∃ W, W = (w.alloc (Obj.cells Z 75)).alloc (Obj.cells #[Value.pointer none, Value.pointer (some ⟨w.heap.size, 0, none⟩)] 60) := ⟨_, rfl⟩
  have hbW : Below w.heap.size w W := by rw [gW]; exact two_allocs _ _ _
  have hsW : W.heap.size = w.heap.size + 2 := by rw [gW]; simp
  have x2 : W.cell? ⟨w.heap.size, 0, none⟩ = some (.pointer none) := by
    rw [gW, cell_of_row _ w.heap.size 0 Z 75 (0, 0) (by exact (((Below.refl _ (w.alloc (.cells Z 75))).alloc (Nat.le_refl _) _).block w.heap.size (by simp)).trans (heap_alloc_new w _))]
    exact z0.out
  have y0 : W.cell? ⟨w.heap.size + 1, 0, none⟩ = some (.pointer none) := by rw [gW]; simp [go_sem]
  have y1 : W.cell? ⟨w.heap.size + 1, 1, none⟩ = some (.pointer (some ⟨w.heap.size, 0, none⟩)) := by rw [gW]; simp [go_sem]
  rw [← gW]
  have HS := hid hsW
  have HBW := hid hbW
  clear gW hsW hbW
  go_loopw [27] (fun k wr => ∃ i : Nat, i ≤ 2 ∧ k = .int .i64 i ∧ Below (w.heap.size + 2) W wr) (fun k _ => 2 - (intOf k).toNat)
  case atStart => exact ⟨0, by omega, rfl, Below.refl _ _⟩
  case round =>
    obtain ⟨i, hi, rfl, hb⟩ := hrel
    have z2 := (hb.cell (p := ⟨w.heap.size, 0, none⟩) (by simp)).trans x2
    have q0 := (hb.cell (p := ⟨w.heap.size + 1, 0, none⟩) (by simp)).trans y0
    have q1 := (hb.cell (p := ⟨w.heap.size + 1, 1, none⟩) (by simp)).trans y1
    clear x2 y0 y1
    rcases (show i = 2 ∨ i = 0 ∨ i = 1 by omega) with rfl | h01
    · have hsz := hb.size
      have hbw : Below w.heap.size w wr := HBW.out.trans (hb.mono (by omega))
      have HBw := hid hbw
      have k1 := hid (qnew_nobody none a1 wr (fusable_nil wr))
      clear q0 q1 z2 hbw hb hsz
      go_wp2_with fail
      refine k1.out.mono ?_
      rintro e w1 ⟨rfl, rfl⟩
      clear k1
      go_wp2_with fail
      refine (qnew_nobody (some ⟨w1.heap.size, 0, none⟩) a1 _ (fusable_no w1.heap.size _ (by simp [go_sem]))).mono ?_
      rintro e w2 ⟨rfl, hw2⟩
      have hb2 : Below w.heap.size w w2 := by rw [hw2]; exact HBw.out.alloc HBw.out.size _
      have HB2 := hid hb2
      clear hw2 hb2
      go_wp2_with fail
      refine (fresh_any w2).mono ?_
      rintro e w3 ⟨b, t, f, rfl, hc, hq, h1, h2, h3, h4, h5⟩
      have HB3 := hid h5
      have k4 := hid (qrunning_any t f 0 first w3 hq)
      clear hq h1 h2 h3 h4 h5
      go_wp2_with fail
      refine k4.out.mono ?_
      rintro e w4 ⟨v, rfl, hr, hv, h5⟩
      obtain ⟨ae, c, rfl, _, _⟩ := own_shape hr
      have hlen : (runL first 5).length = 1 := by decide
      rw [hlen] at *
      have HB4 := hid h5
      clear hr hv h5 hlen k4
      go_wp2_with fail
      go_ret
      exact ⟨rfl, (HB2.out.trans (HB3.out.mono HB2.out.size)).trans (HB4.out.mono (Nat.le_trans HB2.out.size HB3.out.size))⟩
    · obtain ⟨x, hv, hnob⟩ : ∃ x, wr.cell? ⟨w.heap.size + 1, i, none⟩ = some (.pointer x) ∧ Nob wr x := by
        have := hb.size
        have := HS.out
        rcases h01 with rfl | rfl
        · exact ⟨_, q0, .inl rfl⟩
        · exact ⟨_, q1, .inr ⟨_, rfl, by omega, z2⟩⟩
      have hi2 : i < 2 := by omega
      have HN := hid hnob
      clear q0 q1 z2 h01 hnob
      go_wp2_with fail
      refine (qfork_nobody x a0 _ HN.out.usable).mono ?_
      rintro e w1 ⟨rfl, rfl⟩
      go_wp2_with fail
      refine (qwait_nobody x a0 _ HN.out.usable).mono ?_
      rintro e w1 ⟨rfl, rfl⟩
      go_wp2_with fail
      refine (qinstall_nobody x a0 a1 _ HN.out.usable).mono ?_
      rintro e w1 ⟨rfl, rfl⟩
      go_wp2_with fail
      refine (qfile_nobody x a0 a1 _ HN.out.usable).mono ?_
      rintro e w1 ⟨rfl, rfl⟩
      go_wp2_with fail
      refine (qdup_nobody x a0 a1 _ HN.out.usable).mono ?_
      rintro e w1 ⟨rfl, rfl⟩
      go_wp2_with fail
      refine (qdup2_nobody x a0 a1 a1 _ HN.out.usable).mono ?_
      rintro e w1 ⟨rfl, rfl⟩
      go_wp2_with fail
      refine (qexit_nobody x a0 a1 _ HN.out.usable).mono ?_
      rintro e w1 ⟨rfl, rfl⟩
      go_wp2_with fail
      refine (qkill_nobody x a0 a1 _ HN.out.usable).mono ?_
      rintro e w1 ⟨rfl, rfl⟩
      go_wp2_with fail
      refine (qclose_nobody x a0 a1 _ HN.out.usable).mono ?_
      rintro e w1 ⟨rfl, rfl⟩
      go_wp2_with fail
      obtain ⟨W2, g2⟩ : ∃ W2, W2 = w1.alloc (Obj.cells #[.int .i64 22, .int .i64 22, .int .i64 22, .int .i64 22, .int .i64 22, .int .i64 22, .int .i64 22, .int .i64 22, .int .i64 22] 33) := ⟨_, rfl⟩
      have hb1 : Below w1.heap.size w1 W2 := by rw [g2]; exact (Below.refl _ _).alloc (Nat.le_refl _) _
      have hsz := hb.size
      have hb2 : Below (w.heap.size + 2) W W2 := hb.trans (hb1.mono (by have := HS.out; omega))
      have hc : ∀ j : Nat, j < 9 → W2.cell? ⟨w1.heap.size, j, none⟩ = some (.int .i64 22) := by
        intro j hj
        rcases (show j = 0 ∨ j = 1 ∨ j = 2 ∨ j = 3 ∨ j = 4 ∨ j = 5 ∨ j = 6 ∨ j = 7 ∨ j = 8 by omega) with rfl | rfl | rfl | rfl | rfl | rfl | rfl | rfl | rfl <;> rw [g2] <;> simp [go_sem]
      have HN2 := hid (HN.out.below hb1)
      rw [← g2]
      have HC := hid hc
      clear hc g2
      go_loop [94] (fun k => ∃ j : Nat, j ≤ 9 ∧ k = .int .i64 j) (fun k => 9 - (intOf k).toNat)
      case atStart => exact ⟨0, by omega, rfl⟩
      case round =>
        obtain ⟨j, hj, rfl⟩ := hrel
        by_cases hlt : j < 9
        · have hcj := HC.out j hlt
          go_wp2_with fail
          go_round
          case rel => exact ⟨j + 1, by omega, by go_num⟩
          case measure => simp [intOf]; omega
        · obtain rfl : j = 9 := by omega
          go_wp2_with fail
          refine (qlook_nobody x _ HN2.out.usable).mono ?_
          rintro e w3 ⟨rfl, rfl⟩
          go_wp2_with fail
          refine (qrunning_nobody x _ HN2.out.usable).mono ?_
          rintro e w3 ⟨rfl, rfl⟩
          go_wp2_with fail
          go_roundw
          case rel => exact ⟨i + 1, by omega, by go_num, hb2⟩
          case measure => simp [intOf]; omega

end Go.Proofs.Ytdkkohbkihaojaa
