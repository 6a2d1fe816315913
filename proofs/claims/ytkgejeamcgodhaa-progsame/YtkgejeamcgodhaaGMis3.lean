/- What is wrong with an argument itself: the program's. -/
import Derived.Test.YtkgejeamcgodhaaGMis2
import Derived.Deep.RegionHeld3
import Derived.Deep.QuietTactic
import Derived.BigQuiet
namespace Go.Proofs.Ytkgejeamcgodhaa
open Go.RowKit
set_option linter.unusedVariables false
set_option maxRecDepth 20000

theorem below_hp {B : Nat} {w a b : World} (h : Below B w a) (e1 : b.os = a.os) (e2 : b.tape = a.tape) (e3 : b.output = a.output) (e4 : b.heap = a.heap) : Below B w b :=
  ⟨e1.trans h.os, e2.trans h.tape, e3.trans h.output, by rw [e4]; exact h.size, fun k hk => by rw [e4]; exact h.block k hk⟩
theorem cell_like {W X w1 : World} (hb : Below W.heap.size W w1) (e : W.heap = X.heap) : ∀ b o, b < X.heap.size → w1.cell? ⟨b, o, none⟩ = X.cell? ⟨b, o, none⟩ := fun b o h =>
  (hb.cell (p := ⟨b, o, none⟩) (by rw [e]; exact h)).trans (World.cell?_of_block (by rw [e]))

set_option maxHeartbeats 8000000 in
theorem misfit_any (b o : Nat) (n : Int) (T : Ty) (h : Hd) (ra : Option Addr) (rn rc : Nat) (ua : Option Addr) (un uc : Nat) (xa : Option Addr) (xn xc : Nat) (w : World) (hT : T.Ok w) (hk : h.Ok w) (hb : b < w.heap.size) (ha : HdAt w b o h) :
    Calls Try.prog 33 #[.agg #[.pointer (some ⟨b, o, none⟩), .int .i64 n, .int .i64 T.k, .int .i64 T.s, .int .i64 T.lo, .int .i64 T.hi, .int .i64 T.d, .string T.o, .slice T.va T.vn T.vc, .slice T.ta T.tn T.tc, .slice T.ea T.en T.ec, .slice T.na T.nn T.nc, .slice ra rn rc, .slice ua un uc, .slice xa xn xc]] w fun e w' => e = .returned (.int .i64 (mis T h)) ∧ Below w.heap.size w w' := by
  have k1 := hid (fun wx (hb : Below w.heap.size w wx) => kind_any T h wx (hk.below hb))
  have k2 := hid (fun wx => count_any T h.kn wx)
  have k3 := hid (fun wx (hb : Below w.heap.size w wx) => pvalue_any T h wx (hT.below hb) (hk.below hb))
  obtain ⟨R, gR⟩ : ∃ R, R = mis T h := ⟨_, rfl⟩
  rw [← gR]
  have HR := hid gR
  clear gR
  unfold mis at HR
  generalize kindB T h = B1 at *
  generalize countB T h.kn = B2 at *
  generalize valueB T h = B3 at *
  have hkm := hk.km
  have hkb := hk.kb
  clear hk hT
  obtain ⟨k, s, lo, hi, d, to', va, vn, vc, vs, ta, tn, tc, ts, ea, en, ec, es, na, nn, nc⟩ := T
  obtain ⟨ak, av, ka, kn, kc, ba, bn, bc, bs⟩ := h
  obtain ⟨q0, q1, q2, q3⟩ := ha
  dsimp only at *
  go_enter Try.func33, Try.ntmps33
  go_wp2_with fail
  obtain ⟨X, gX⟩ : ∃ X, X = w.alloc (.cells #[.pointer (some ⟨b, o, none⟩), .int .i64 n, .int .i64 k, .int .i64 s, .int .i64 lo, .int .i64 hi, .int .i64 d, .string to', .slice va vn vc, .slice ta tn tc, .slice ea en ec, .slice na nn nc, .slice ra rn rc, .slice ua un uc, .slice xa xn xc] 81) := ⟨_, rfl⟩
  rw [← gX]
  have HX : Hid (Below w.heap.size w X) := hid (by rw [gX]; exact below_box _ _)
  have hXs : w.heap.size < X.heap.size := by rw [gX]; simp
  have hbX : b < X.heap.size := by omega
  have q0' := (HX.out.cell (p := ⟨b, o, none⟩) hb).trans q0
  have q1' := (HX.out.cell (p := ⟨b, o + 1, none⟩) hb).trans q1
  have q2' := (HX.out.cell (p := ⟨b, o + 2, none⟩) hb).trans q2
  have q3' := (HX.out.cell (p := ⟨b, o + 3, none⟩) hb).trans q3
  have x0 : X.cell? ⟨w.heap.size, 0, none⟩ = some (.pointer (some ⟨b, o, none⟩)) := by rw [gX]; simp
  have x2 : X.cell? ⟨w.heap.size, 2, none⟩ = some (.int .i64 k) := by rw [gX]; simp
  have x3 : X.cell? ⟨w.heap.size, 3, none⟩ = some (.int .i64 s) := by rw [gX]; simp
  have x4 : X.cell? ⟨w.heap.size, 4, none⟩ = some (.int .i64 lo) := by rw [gX]; simp
  have x5 : X.cell? ⟨w.heap.size, 5, none⟩ = some (.int .i64 hi) := by rw [gX]; simp
  have x6 : X.cell? ⟨w.heap.size, 6, none⟩ = some (.int .i64 d) := by rw [gX]; simp
  have x7 : X.cell? ⟨w.heap.size, 7, none⟩ = some (.string to') := by rw [gX]; simp
  have x8 : X.cell? ⟨w.heap.size, 8, none⟩ = some (.slice va vn vc) := by rw [gX]; simp
  have x9 : X.cell? ⟨w.heap.size, 9, none⟩ = some (.slice ta tn tc) := by rw [gX]; simp
  have x10 : X.cell? ⟨w.heap.size, 10, none⟩ = some (.slice ea en ec) := by rw [gX]; simp
  have x11 : X.cell? ⟨w.heap.size, 11, none⟩ = some (.slice na nn nc) := by rw [gX]; simp
  clear gX q0 q1 q2 q3
  go_region_held3 (fun wx => wx.cell? ⟨w.heap.size, 0, none⟩ = some (.pointer (some ⟨b, o, none⟩)) ∧ wx.cell? ⟨w.heap.size, 2, none⟩ = some (.int .i64 k) ∧ wx.cell? ⟨w.heap.size, 3, none⟩ = some (.int .i64 s) ∧ wx.cell? ⟨w.heap.size, 4, none⟩ = some (.int .i64 lo) ∧ wx.cell? ⟨w.heap.size, 5, none⟩ = some (.int .i64 hi) ∧ wx.cell? ⟨w.heap.size, 6, none⟩ = some (.int .i64 d) ∧ wx.cell? ⟨w.heap.size, 7, none⟩ = some (.string to') ∧ wx.cell? ⟨w.heap.size, 8, none⟩ = some (.slice va vn vc) ∧ wx.cell? ⟨w.heap.size, 9, none⟩ = some (.slice ta tn tc) ∧ wx.cell? ⟨w.heap.size, 10, none⟩ = some (.slice ea en ec) ∧ wx.cell? ⟨w.heap.size, 11, none⟩ = some (.slice na nn nc) ∧ wx.cell? ⟨b, o, none⟩ = some (.int .i64 ak) ∧ wx.cell? ⟨b, o + 1, none⟩ = some (.int .i64 av) ∧ wx.cell? ⟨b, o + 2, none⟩ = some (.slice ka kn kc) ∧ wx.cell? ⟨b, o + 3, none⟩ = some (.slice ba bn bc)) (go_keep) ((go_at_call 61; refine (k1.out _ (below_hp HX.out (by rfl) (by rfl) (by rfl) (by rfl))).mono ?_; rintro e w1 ⟨rfl, hb1⟩; have y1 : ∀ b o, b < X.heap.size → w1.cell? ⟨b, o, none⟩ = X.cell? ⟨b, o, none⟩ := cell_like hb1 (by rfl); have HB1 := hid ((below_hp HX.out (by rfl) (by rfl) (by rfl) (by rfl)).trans (hb1.mono HX.out.size)); have hs1 : X.heap.size ≤ w1.heap.size := hb1.size; clear hb1))
  cases B1
  · go_wp2_with fail
    go_ret
    exact ⟨ret_int (by rw [HR.out]; rfl), HB1.out⟩
  · replace HR : Hid (R = if B2 = false then 151 else if ak ≠ 2 ∧ B3 = false then 153 else 0) := hid (by rw [HR.out]; rfl)
    go_wp2_with fail
    go_region_held3 (fun wx => wx.cell? ⟨w.heap.size, 0, none⟩ = some (.pointer (some ⟨b, o, none⟩)) ∧ wx.cell? ⟨w.heap.size, 2, none⟩ = some (.int .i64 k) ∧ wx.cell? ⟨w.heap.size, 3, none⟩ = some (.int .i64 s) ∧ wx.cell? ⟨w.heap.size, 4, none⟩ = some (.int .i64 lo) ∧ wx.cell? ⟨w.heap.size, 5, none⟩ = some (.int .i64 hi) ∧ wx.cell? ⟨w.heap.size, 6, none⟩ = some (.int .i64 d) ∧ wx.cell? ⟨w.heap.size, 7, none⟩ = some (.string to') ∧ wx.cell? ⟨w.heap.size, 8, none⟩ = some (.slice va vn vc) ∧ wx.cell? ⟨w.heap.size, 9, none⟩ = some (.slice ta tn tc) ∧ wx.cell? ⟨w.heap.size, 10, none⟩ = some (.slice ea en ec) ∧ wx.cell? ⟨w.heap.size, 11, none⟩ = some (.slice na nn nc) ∧ wx.cell? ⟨b, o, none⟩ = some (.int .i64 ak) ∧ wx.cell? ⟨b, o + 1, none⟩ = some (.int .i64 av) ∧ wx.cell? ⟨b, o + 2, none⟩ = some (.slice ka kn kc) ∧ wx.cell? ⟨b, o + 3, none⟩ = some (.slice ba bn bc)) (go_keep) ((go_at_call 62; refine (k2.out _).mono ?_; rintro e w2 ⟨rfl, hb2⟩; have y2 : ∀ b o, b < X.heap.size → w2.cell? ⟨b, o, none⟩ = X.cell? ⟨b, o, none⟩ := fun b o h => (cell_like (X := w1) hb2 (by rfl) b o (Nat.lt_of_lt_of_le h hs1)).trans (y1 b o h); have HB2 := hid ((below_hp HB1.out (by rfl) (by rfl) (by rfl) (by rfl)).trans (hb2.mono HB1.out.size)); have hs2 : X.heap.size ≤ w2.heap.size := Nat.le_trans hs1 hb2.size; clear hb2))
    cases B2
    · go_wp2_with fail
      go_ret
      exact ⟨ret_int (by rw [HR.out]; rfl), HB2.out⟩
    · replace HR : Hid (R = if ak ≠ 2 ∧ B3 = false then 153 else 0) := hid (by rw [HR.out]; rfl)
      by_cases hk2 : ak = 2
      · have hk3 : (ak != 2) = false := by simp [hk2]
        have hk4 : (ak == 2) = true := by simp [hk2]
        have HK2 := hid hk2
        clear hk2
        have z0 := (y2 w.heap.size 0 hXs).trans x0
        have z1 := (y2 b o hbX).trans q0'
        clear y1 y2 x0 x2 x3 x4 x5 x6 x7 x8 x9 x10 x11 q0' q1' q2' q3'
        go_wp2_with fail
        go_quiet ((fail))
        go_wp2_with fail
        go_ret
        exact ⟨ret_int (by rw [HR.out]; simp [HK2.out]), below_hp HB2.out (by rfl) (by rfl) (by rfl) (by rfl)⟩
      · have hk3 : (ak != 2) = true := by simpa using hk2
        have hk4 : (ak == 2) = false := by simpa using hk2
        go_wp2_with fail
        go_region_held3 (fun wx => wx.cell? ⟨w.heap.size, 0, none⟩ = some (.pointer (some ⟨b, o, none⟩)) ∧ wx.cell? ⟨w.heap.size, 2, none⟩ = some (.int .i64 k) ∧ wx.cell? ⟨w.heap.size, 3, none⟩ = some (.int .i64 s) ∧ wx.cell? ⟨w.heap.size, 4, none⟩ = some (.int .i64 lo) ∧ wx.cell? ⟨w.heap.size, 5, none⟩ = some (.int .i64 hi) ∧ wx.cell? ⟨w.heap.size, 6, none⟩ = some (.int .i64 d) ∧ wx.cell? ⟨w.heap.size, 7, none⟩ = some (.string to') ∧ wx.cell? ⟨w.heap.size, 8, none⟩ = some (.slice va vn vc) ∧ wx.cell? ⟨w.heap.size, 9, none⟩ = some (.slice ta tn tc) ∧ wx.cell? ⟨w.heap.size, 10, none⟩ = some (.slice ea en ec) ∧ wx.cell? ⟨w.heap.size, 11, none⟩ = some (.slice na nn nc) ∧ wx.cell? ⟨b, o, none⟩ = some (.int .i64 ak) ∧ wx.cell? ⟨b, o + 1, none⟩ = some (.int .i64 av) ∧ wx.cell? ⟨b, o + 2, none⟩ = some (.slice ka kn kc) ∧ wx.cell? ⟨b, o + 3, none⟩ = some (.slice ba bn bc)) (go_keep) ((go_at_call 63; refine (k3.out _ (below_hp HB2.out (by rfl) (by rfl) (by rfl) (by rfl))).mono ?_; rintro e w3 ⟨rfl, hb3⟩; have y3 : ∀ b o, b < X.heap.size → w3.cell? ⟨b, o, none⟩ = X.cell? ⟨b, o, none⟩ := fun b o h => (cell_like (X := w2) hb3 (by rfl) b o (Nat.lt_of_lt_of_le h hs2)).trans (y2 b o h); have HB3 := hid ((below_hp HB2.out (by rfl) (by rfl) (by rfl) (by rfl)).trans (hb3.mono HB2.out.size)); have hs3 : X.heap.size ≤ w3.heap.size := Nat.le_trans hs2 hb3.size; clear hb3))
        cases B3
        · go_wp2_with fail
          go_ret
          exact ⟨ret_int (by rw [HR.out]; simp [hk2]), HB3.out⟩
        · go_wp2_with fail
          go_ret
          exact ⟨ret_int (by rw [HR.out]; simp), HB3.out⟩

end Go.Proofs.Ytkgejeamcgodhaa
