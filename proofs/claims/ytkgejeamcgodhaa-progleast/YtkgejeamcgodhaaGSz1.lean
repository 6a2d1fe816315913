/- The visitors that ask what is wrong, and how many bytes there are. -/
import Derived.Test.YtkgejeamcgodhaaGThru
namespace Go.Proofs.Ytkgejeamcgodhaa
open Go.RowKit
set_option linter.unusedVariables false
set_option maxRecDepth 20000

/-- The first number but 0. -/
def fst1 (s : Int) (T : Ty) (h : Hd) : Int × Bool := if s = 0 then (mis T h, decide (mis T h = 0)) else (s, false)
/-- The bytes. -/
def sz1 (s : Int) (T : Ty) (h : Hd) : Int × Bool :=
  if T.k = 7 ∨ T.k = 8 ∨ T.k = 9 then (s, true) else if T.k = 10 then (wrap64 (s + wrap64 ((h.bn : Int) + 1)), false) else if T.k = 11 then (wrap64 (s + (h.bn : Int)), false) else (wrap64 (s + T.s), false)

theorem Num.cell {w : World} {p : Nat} {tp : TypeId} {s : Int} (h : Num w p tp s) : w.cell? ⟨p, 0, none⟩ = some (.int .i64 s) := cell_of_row w p 0 _ _ _ h
theorem Num.fz {w : World} {p : Nat} {tp : TypeId} {s : Int} (h : Num w p tp s) : w.frozen? ⟨p, 0, none⟩ = false := by unfold Num at h; simp [World.frozen?, h]
theorem Num.lt {w : World} {p : Nat} {tp : TypeId} {s : Int} (h : Num w p tp s) : p < w.heap.size := (Array.getElem?_eq_some_iff.1 h).1
theorem Num.below {w w' : World} {p : Nat} {tp : TypeId} {s : Int} (h : Num w p tp s) (hb : Below w.heap.size w w') : Num w' p tp s := by
  have := h.lt
  unfold Num at *
  rw [hb.block p this]; exact h
theorem Num.set {w : World} {p : Nat} {tp : TypeId} {s : Int} (h : Num w p tp s) (v : Int) : Num (w.setCell ⟨p, 0, none⟩ (.int .i64 v)) p tp v := by
  unfold Num at *
  rw [heap_setCell_same _ _ _ _ _ _ h]; rfl

set_option maxHeartbeats 8000000 in
theorem visits_first (w0 : World) (p p5 : Nat) : Visits w0 (fun W => W.cell? ⟨p5, 0, none⟩ = some (.func (.func 33) #[] #[]) ∧ p5 ≠ p ∧ p5 < W.heap.size) p 31 60 #[.pointer (some ⟨p, 0, none⟩), .pointer (some ⟨p5, 0, none⟩)] fst1 := by
  refine ⟨fun _ _ => by kernel_rfl, ?_⟩
  intro W s b o n T h ra rn rc ua un uc xa xn xc hW hJ hs hT hk hb hbp ha
  obtain ⟨j1, j2, j3⟩ := hJ
  have hpl := hs.lt
  have q0 := hs.cell
  have q1 := hs.fz
  have HS := hid hs
  unfold fst1
  by_cases h0 : s = 0
  · subst h0
    rw [if_pos rfl]
    dsimp only
    have k1 := hid (fun o' => misfit_any b o n T h ra rn rc ua un uc xa xn xc (W.alloc o') (hT.below (below_box W o')) (hk.below (below_box W o')) (Nat.lt_of_lt_of_le hb (below_box W o').size) (ha.blk ((below_box W o').block b hb)))
    generalize mis T h = M at *
    have hp1 : p < W.heap.size + 1 := by omega
    clear hT hk ha hs hW
    show Calls Try.prog 60 #[.agg #[.pointer (some ⟨b, o, none⟩), .int .i64 n, .int .i64 T.k, .int .i64 T.s, .int .i64 T.lo, .int .i64 T.hi, .int .i64 T.d, .string T.o, .slice T.va T.vn T.vc, .slice T.ta T.tn T.tc, .slice T.ea T.en T.ec, .slice T.na T.nn T.nc, .slice ra rn rc, .slice ua un uc, .slice xa xn xc], .pointer (some ⟨p, 0, none⟩), .pointer (some ⟨p5, 0, none⟩)] W _
    go_enter Try.func60, Try.ntmps60
    go_wp2_with fail
    refine (k1.out _).mono ?_
    rintro e w1 ⟨rfl, hb1⟩
    obtain ⟨hc1, hf1⟩ := bcell hb1
    have u1 : Hid (Below W.heap.size W w1) := hid ((below_box W _).trans (hb1.mono (below_box W _).size))
    have n1 := hid (HS.out.below u1.out)
    have c1 := n1.out.cell
    have f1 := n1.out.fz
    clear hb1 hc1 hf1
    go_wp2_with fail
    go_ret
    refine ⟨ret_bool (by rw [Bool.eq_iff_iff]; simp), n1.out.set M, (Upd.of_below u1.out).trans (Upd.setCell (F := (· = p)) w1 _ _ rfl) (fun _ _ h => h)⟩
  · rw [if_neg h0]
    dsimp only
    have h1 : (s == 0) = false := by simpa using h0
    clear hT hk ha hs hW
    show Calls Try.prog 60 #[.agg #[.pointer (some ⟨b, o, none⟩), .int .i64 n, .int .i64 T.k, .int .i64 T.s, .int .i64 T.lo, .int .i64 T.hi, .int .i64 T.d, .string T.o, .slice T.va T.vn T.vc, .slice T.ta T.tn T.tc, .slice T.ea T.en T.ec, .slice T.na T.nn T.nc, .slice ra rn rc, .slice ua un uc, .slice xa xn xc], .pointer (some ⟨p, 0, none⟩), .pointer (some ⟨p5, 0, none⟩)] W _
    go_enter Try.func60, Try.ntmps60
    go_wp2_with fail
    go_ret
    exact ⟨ret_bool (by simp), HS.out.below (below_box W _), Upd.of_below (below_box W _)⟩

set_option maxHeartbeats 8000000 in
theorem visits_size (w0 : World) (p : Nat) : Visits w0 (fun _ => True) p 3 64 #[.pointer (some ⟨p, 0, none⟩)] sz1 := by
  refine ⟨fun _ _ => by kernel_rfl, ?_⟩
  intro W s b o n T h ra rn rc ua un uc xa xn xc hW hJ hs hT hk hb hbp ha
  have hpl := hs.lt
  have q0 := hs.cell
  have q1 := hs.fz
  have HS := hid hs
  obtain ⟨a0, a1, a2, a3⟩ := ha
  have hp0 : p ≠ W.heap.size := by omega
  have hp1 : p < W.heap.size + 1 := by omega
  have hb0 : b ≠ W.heap.size := by omega
  have hb1 : b < W.heap.size + 1 := by omega
  have hkm := hk.bm
  have hkb := hk.bb
  clear hs hW hT hk
  show Calls Try.prog 64 #[.agg #[.pointer (some ⟨b, o, none⟩), .int .i64 n, .int .i64 T.k, .int .i64 T.s, .int .i64 T.lo, .int .i64 T.hi, .int .i64 T.d, .string T.o, .slice T.va T.vn T.vc, .slice T.ta T.tn T.tc, .slice T.ea T.en T.ec, .slice T.na T.nn T.nc, .slice ra rn rc, .slice ua un uc, .slice xa xn xc], .pointer (some ⟨p, 0, none⟩)] W _
  unfold sz1
  by_cases e7 : T.k = 7 ∨ T.k = 8 ∨ T.k = 9
  · rw [if_pos e7]
    dsimp only
    obtain ⟨k, s', lo, hi, d, to', va, vn, vc, vs, ta, tn, tc, ts, ea, en, ec, es, na, nn, nc⟩ := T
    dsimp only at *
    rcases e7 with rfl | rfl | rfl
    all_goals
      go_enter Try.func64, Try.ntmps64
      go_wp2_with fail
      go_ret
      exact ⟨rfl, HS.out.below (below_box W _), Upd.of_below (below_box W _)⟩
  · rw [if_neg e7]
    have e7' : T.k ≠ 7 := fun e => e7 (.inl e)
    have e8' : T.k ≠ 8 := fun e => e7 (.inr (.inl e))
    have e9' : T.k ≠ 9 := fun e => e7 (.inr (.inr e))
    clear e7
    by_cases e10 : T.k = 10
    · rw [if_pos e10]
      dsimp only
      obtain ⟨k, s', lo, hi, d, to', va, vn, vc, vs, ta, tn, tc, ts, ea, en, ec, es, na, nn, nc⟩ := T
      obtain ⟨ak, av, ka, kn, kc, ba, bn, bc, bs⟩ := h
      dsimp only at *
      subst e10
      clear e7' e8' e9'
      go_enter Try.func64, Try.ntmps64
      go_wp2_with fail
      go_region
      go_wp2_with fail
      go_ret
      exact ⟨rfl, (HS.out.set _).below (below_drew (below_box _ _)), (Upd.setCell (F := (· = p)) W _ _ rfl).trans (Upd.of_below (below_drew (below_box _ _))) (fun _ _ h => h)⟩
    · rw [if_neg e10]
      by_cases e11 : T.k = 11
      · rw [if_pos e11]
        dsimp only
        obtain ⟨k, s', lo, hi, d, to', va, vn, vc, vs, ta, tn, tc, ts, ea, en, ec, es, na, nn, nc⟩ := T
        obtain ⟨ak, av, ka, kn, kc, ba, bn, bc, bs⟩ := h
        dsimp only at *
        subst e11
        clear e7' e8' e9' e10
        go_enter Try.func64, Try.ntmps64
        go_wp2_with fail
        go_region
        go_wp2_with fail
        go_ret
        exact ⟨rfl, (HS.out.set _).below (below_drew (below_box _ _)), (Upd.setCell (F := (· = p)) W _ _ rfl).trans (Upd.of_below (below_drew (below_box _ _))) (fun _ _ h => h)⟩
      · rw [if_neg e11]
        dsimp only
        obtain ⟨k, s', lo, hi, d, to', va, vn, vc, vs, ta, tn, tc, ts, ea, en, ec, es, na, nn, nc⟩ := T
        dsimp only at *
        have g7 : (k == 7) = false := by simpa using e7'
        have g8 : (k == 8) = false := by simpa using e8'
        have g9 : (k == 9) = false := by simpa using e9'
        have g10 : (k == 10) = false := by simpa using e10
        have g11 : (k == 11) = false := by simpa using e11
        go_enter Try.func64, Try.ntmps64
        go_wp2_with fail
        go_ret
        exact ⟨rfl, (HS.out.set _).below (below_box _ _), (Upd.setCell (F := (· = p)) W _ _ rfl).trans (Upd.of_below (below_box _ _)) (fun _ _ h => h)⟩

end Go.Proofs.Ytkgejeamcgodhaa
