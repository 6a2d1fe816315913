/- The least arguments of types: the program's leastTimes. -/
import Derived.Test.YtkgejeamcgodhaaGLeast3
namespace Go.Proofs.Ytkgejeamcgodhaa
open Go.RowKit
set_option linter.unusedVariables false
set_option maxRecDepth 20000

set_option maxHeartbeats 8000000 in
theorem times_any (a : Option Addr) (m c : Nat) (a2 : Option Addr) (m2 c2 : Nat) (l : List Ty) (N : Nat) (ih : ∀ t, t < N → LeastAt a m c a2 m2 c2 l 37 t) (hN : N ≤ l.length) (t pn : Nat) (htN : t < N) (w : World)
    (hT : Tys w a l) (hpn : pn ≤ 1048576) :
    Calls Try.prog 72 #[.agg #[.slice a m c, .slice a2 m2 c2], .int .i64 t, .int .i64 pn] w fun e w' => ∃ g qs, e = .returned (.slice (some ⟨g, 0, none⟩) pn pn) ∧ Kids w.heap.size N w' l (List.replicate pn (t : Int)) g qs ∧ Below w.heap.size w w' := by
  obtain ⟨i0, hi0, hz0, hz1, hz2⟩ := info_parts infoA
  have hby : i0.bytes * pn ≤ 281474976710656 := by rw [hz2]; omega
  have hmx : pn ≤ maxLen := by unfold maxLen; omega
  have HT := hid hT
  obtain ⟨ps, hps⟩ : ∃ ps, ps = List.replicate pn (t : Int) := ⟨_, rfl⟩
  rw [← hps]
  have HPS := hid hps
  have HPL : Hid (ps.length = pn) := hid (by rw [hps]; simp)
  have IH := hid ih
  clear hT hps ih
  go_enter Try.func72, Try.ntmps72
  go_wp2_with (at_make; go_must (refine wpList_make_lc _ rfl _ _ 27 rfl 30 i0 _ 4 Try.underlying27 hi0 hz0 hz1 _ _ _ _ pn pn rfl rfl rfl rfl (Nat.le_refl _) hby hmx ?_))
  obtain ⟨X, gX⟩ : ∃ X, X = (w.alloc (.cells #[.slice a m c, .slice a2 m2 c2] 25)).alloc (.cells (madeCells (Value.agg #[.int .i64 0, .int .i64 0, .slice none 0 0, .slice none 0 0]).cells (pn * 4)) 30) := ⟨_, rfl⟩
  have gX' := gX
  simp only [Value.cells] at gX'
  first | rw [← gX] | rw [← gX']
  have hXB : Below w.heap.size w X := by rw [gX]; exact below_box2 _ _ _
  have hXs : X.heap.size = w.heap.size + 1 + 1 := by rw [gX]; simp
  have x0 : X.heap[w.heap.size]? = some (.cells #[.slice a m c, .slice a2 m2 c2] 25 (0, 0)) := by
    rw [gX, (below_box _ _).block _ (by simp)]; exact heap_alloc_new _ _
  have x1 : X.heap[w.heap.size + 1]? = some (.cells (madeCells (Value.agg #[.int .i64 0, .int .i64 0, .slice none 0 0, .slice none 0 0]).cells (pn * 4)).toList.toArray 30 (0, 0)) := by
    rw [gX]; exact heap2 w _ _
  have HS := hid (Part.start (N := N) (l := l) (ps := ps) x1 (by rw [Array.length_toList, size_madeCells]))
  have HX0 := hid x0
  have HXB := hid hXB
  have HXs := hid hXs
  clear gX gX' hXB hXs x0 x1
  go_loopw [13] (fun k wr => ∃ (i : Nat) (qs : List Ar), i ≤ pn ∧ k = .int .i64 i ∧ Hid (Part X wr (w.heap.size + 1) pn N l ps i qs)) (fun k _ => pn - (intOf k).toNat)
  case atStart => exact ⟨0, [], Nat.zero_le _, rfl, HS⟩
  case round =>
    obtain ⟨i, qs, hi, rfl, HPt⟩ := hrel
    have hsz := HPt.out.upd.size
    have HBw : Hid (Below w.heap.size w wr) := hid (HXB.out.trans (HPt.out.upd.below HXB.out.size (fun x hx => by omega)))
    by_cases hlt : i < pn
    · have hil : i < ps.length := by rw [HPL.out]; exact hlt
      have HTt : Hid (ps.getD i 0 = (t : Int)) := hid (by rw [HPS.out]; simp [List.getD, hlt])
      have y0 := HPt.out.upd.heap HX0.out (show ¬ w.heap.size = w.heap.size + 1 by omega)
      have e0 : wr.cell? ⟨w.heap.size, 0, none⟩ = some (.slice a m c) := cell_of_row _ _ 0 _ _ _ y0
      have e1 : wr.cell? ⟨w.heap.size, 1, none⟩ = some (.slice a2 m2 c2) := cell_of_row _ _ 1 _ _ _ y0
      have k1 := hid (IH.out t htN wr (HT.out.below HBw.out) (by omega))
      obtain ⟨C, c1, c2, _⟩ := HPt.out.blk
      clear y0
      go_wp2_with fail
      refine k1.out.mono ?_
      rintro e w1 ⟨A, rfl, hA, hL, hb1⟩
      have hg : w.heap.size + 1 < wr.heap.size := (Array.getElem?_eq_some_iff.1 c1).1
      have c1' := (hb1.block _ hg).trans c1
      have HN := hid (HPt.out.step hlt HPL.out hb1 (Okb.more (t + 1) A hA N (by omega)) (by rw [HTt.out]; exact Lst.more (t + 1) t A hL N (by omega)))
      have HTH : Hid (w1.there (w.heap.size + 1) (i * 4) 4) := hid (there_of_block c1' (i * 4) 4 (by rw [c2]; omega))
      have HBl := hid hb1
      clear c1 c1' hA hL hb1 k1
      go_wp2_with (refine wpList_store_mid rfl 30 (.tmp 21) (.tmp 20) rfl (w.heap.size + 1) (i * 4) _ rfl rfl HTH.out csizeA (by simp [Value.oneCell']) ?_)
      go_roundw
      case rel => exact ⟨i + 1, qs ++ [A], by omega, by go_num, HN⟩
      case measure => simp [intOf]; omega
    · obtain rfl : i = pn := by omega
      obtain ⟨C, c1, _, _⟩ := HPt.out.blk
      have hg : w.heap.size + 1 < wr.heap.size := (Array.getElem?_eq_some_iff.1 c1).1
      have hf := HPt.out.full HPL.out hg
      have HF := hid hf
      clear c1 hf
      go_wp2_with fail
      go_ret
      refine ⟨w.heap.size + 1, qs, rfl, ⟨by rw [HF.out.1, HPL.out], HF.out.2.1, by omega, HF.out.2.2⟩, HBw.out⟩

end Go.Proofs.Ytkgejeamcgodhaa
