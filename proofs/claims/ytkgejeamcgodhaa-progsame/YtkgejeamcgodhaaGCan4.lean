/- Whether the types of a table may be: the program's. -/
import Derived.Test.YtkgejeamcgodhaaGCan3
import Derived.OwnWalk
namespace Go.Proofs.Ytkgejeamcgodhaa
open Go.RowKit
set_option linter.unusedVariables false
set_option maxRecDepth 20000

theorem bcell {W w1 : World} (hb : Below W.heap.size W w1) : (∀ b o, b < W.heap.size → w1.cell? ⟨b, o, none⟩ = W.cell? ⟨b, o, none⟩) ∧ (∀ b o, b < W.heap.size → w1.frozen? ⟨b, o, none⟩ = W.frozen? ⟨b, o, none⟩) :=
  ⟨fun b o h => hb.cell (p := ⟨b, o, none⟩) h, fun b o h => hb.frozen (p := ⟨b, o, none⟩) h⟩

theorem infoInt : (Try.prog.info? 3).map (fun i => (i.zero, i.size, i.bytes)) = some (some (.int .i64 0), 1, 8) := by kernel_rfl

/-- A row of numbers that is a block. -/
def Row (w : World) (p : Nat) (g : List Int) : Prop := w.heap[p]? = some (.cells (g.map (Value.int .i64)).toArray 3 (0, 0))
theorem Row.ints {w : World} {p : Nat} {g : List Int} (h : Row w p g) : Ints w (some ⟨p, 0, none⟩) g := fun h0 => by
  refine ⟨p, 0, rfl, (Array.getElem?_eq_some_iff.1 h).1, fun j hj => ?_⟩
  rw [cell_of_row w p (0 + j) _ 3 (0, 0) h]
  simp [List.getD, hj]
theorem Row.below {w w' : World} {p : Nat} {g : List Int} (h : Row w p g) (hb : Below w.heap.size w w') : Row w' p g := by
  unfold Row at *
  rw [hb.block p (Array.getElem?_eq_some_iff.1 h).1]; exact h
theorem Row.fz {w : World} {p : Nat} {g : List Int} (h : Row w p g) (j : Nat) : w.frozen? ⟨p, j, none⟩ = false := by
  unfold Row at h; simp [World.frozen?, h]
theorem Row.set {w : World} {p i n : Nat} {g : List Int} {x : Int} (h : Row w p (g ++ List.replicate (n - i) 0)) (hg : g.length = i) (hi : i < n) : Row (w.setCell ⟨p, i, none⟩ (.int .i64 x)) p ((g ++ [x]) ++ List.replicate (n - (i + 1)) 0) := by
  unfold Row at *
  rw [heap_setCell_same w p i _ 3 _ h]
  congr 2
  obtain ⟨k, hk⟩ : ∃ k, n - i = k + 1 := ⟨n - i - 1, by omega⟩
  have hk2 : n - (i + 1) = k := by omega
  rw [hk, hk2, List.replicate_succ]
  apply Array.ext'
  subst hg
  simp

theorem getD_noughts (g : List Int) (m k : Nat) : (g ++ List.replicate m 0).getD k 0 = g.getD k 0 := by
  simp only [List.getD_eq_getElem?_getD, List.getElem?_append]
  split
  · rfl
  · rename_i h
    rw [List.getElem?_eq_none (l := g) (by omega), List.getElem?_replicate]
    split <;> rfl
theorem sumG_noughts (g l : List Int) (m : Nat) : sumG (g ++ List.replicate m 0) l = sumG g l := by
  unfold sumG; simp only [getD_noughts]
theorem mostG_noughts (g l : List Int) (m : Nat) : mostG (g ++ List.replicate m 0) l = mostG g l := by
  unfold mostG; simp only [getD_noughts]
theorem greatG_noughts (T : Ty) (g : List Int) (m : Nat) : greatG T (g ++ List.replicate m 0) = greatG T g := by
  unfold greatG; rw [sumG_noughts, mostG_noughts]

set_option maxHeartbeats 4000000 in
theorem ptypes_any (a : Option Addr) (n c : Nat) (l : List Ty) (w : World) (h : Tys w a l) (hn : l.length = n) (h4 : n ≤ 400) :
    Calls Try.prog 25 #[.slice a n c] w fun e w' => e = .returned (.bool (runG [] l).isSome) ∧ Below w.heap.size w w' := by
  obtain ⟨i0, hi0, hz0, hz1, hz2⟩ := info_parts infoInt
  have hby : i0.bytes * n ≤ 281474976710656 := by rw [hz2]; omega
  have hmx : n ≤ maxLen := by unfold maxLen; omega
  have HT := hid h
  have HN := hid hn
  obtain ⟨R, gR⟩ : ∃ R, R = (runG [] l).isSome := ⟨_, rfl⟩
  rw [← gR]
  have HR := hid gR
  clear gR h hn
  have hr0 : Row (w.alloc (.cells (madeCells #[Value.int .i64 0] n) 3)) w.heap.size ([] ++ List.replicate (n - 0) 0) := by
    unfold Row
    rw [heap_alloc_new w _]
    congr 2
    apply Array.ext'
    rw [toList_madeCells_one]
    simp
  have HR0 := hid hr0
  clear hr0
  go_enter Try.func25, Try.ntmps25
  go_wp2_with (at_make; go_must (refine wpList_make_lc _ rfl _ _ 44 rfl 3 i0 (.int .i64 0) 1 Try.underlying44 hi0 hz0 hz1 _ _ _ _ n n rfl rfl rfl rfl (Nat.le_refl _) hby hmx ?_))
  go_loopw [11] (fun k wr => ∃ (i : Nat) (g : List Int), i ≤ n ∧ k = .int .i64 i ∧ Hid (runG [] (l.take i) = some g) ∧ Hid (Row wr w.heap.size (g ++ List.replicate (n - i) 0)) ∧ Hid (Below w.heap.size w wr)) (fun k _ => n - (intOf k).toNat)
  case atStart => exact ⟨0, [], Nat.zero_le _, rfl, hid rfl, HR0, hid (below_box _ _)⟩
  case round =>
    obtain ⟨i, g, hi, rfl, HG, HW, HB⟩ := hrel
    by_cases hlt : i < n
    · have hil : i < l.length := by rw [HN.out]; exact hlt
      have HGL : Hid (g.length = i) := hid (by have := runG_len _ _ _ HG.out; simp at this; omega)
      obtain ⟨b, o, rfl, hbl, hcs⟩ := HT.out.below HB.out (by omega)
      obtain ⟨⟨c0, c1, c2, c3, c4, c5, c6, c7, c8, c9⟩, ok⟩ := hcs i hil
      have HM := hid (runG_more l i hil g HG.out)
      have HS := hid (runG_stop l i hil g HG.out)
      generalize l[i] = T at c0 c1 c2 c3 c4 c5 c6 c7 c8 c9 ok HM HS
      clear hcs hil
      have HO := hid ok
      clear ok
      have hsz := HB.out.size
      have hp := (Array.getElem?_eq_some_iff.1 HW.out).1
      generalize hB1 : (ahead i T.es && partsN T) = B1
      generalize hB2 : fitsB T = B2
      have k1 := hid (fun o => helems_any T i (wr.alloc o) (HO.out.below (below_box wr o)) (by omega))
      rw [hB1] at k1
      have HB1 := hid hB1
      have HB2 := hid hB2
      clear hB1 hB2
      go_wp2_with fail
      refine (k1.out _).mono ?_
      rintro e w1 ⟨rfl, hb1⟩
      obtain ⟨hc1, hf1⟩ := bcell hb1
      have hs1 : wr.heap.size < w1.heap.size := by have := hb1.size; simp at this; omega
      have u1 := hid (below_box wr _ |>.trans (hb1.mono (below_box wr _).size))
      have k2 := hid (hparts_any T w1 (HO.out.below u1.out))
      rw [HB2.out] at k2
      cases B1
      · go_wp2_with fail
        go_ret
        refine ⟨ret_bool ?_, HB.out.trans (u1.out.mono HB.out.size)⟩
        rw [HR.out, HS.out (by unfold okG; rw [HGL.out, HB1.out]; rfl)]
        rfl
      · go_wp2_with fail
        refine k2.out.mono ?_
        rintro e w2 ⟨rfl, hb2⟩
        obtain ⟨hc2, hf2⟩ := bcell hb2
        have hs2 : wr.heap.size < w2.heap.size := by have := hb2.size; omega
        have u2 := hid (u1.out.trans (hb2.mono u1.out.size))
        cases B2
        · go_wp2_with fail
          go_ret
          refine ⟨ret_bool ?_, HB.out.trans (u2.out.mono HB.out.size)⟩
          rw [HR.out, HS.out (by unfold okG; rw [HGL.out, HB1.out, HB2.out]; rfl)]
          rfl
        · have hah : ahead i T.es = true := by have := HB1.out; simp at this; exact this.1
          have k3 := hid (pgreat_any T (some ⟨w.heap.size, 0, none⟩) n n _ w2 (HO.out.below u2.out) (HW.out.below u2.out).ints (by simp; have := HGL.out; omega) (by
            unfold ahead at hah ⊢
            rw [List.all_eq_true] at hah ⊢
            intro x hx
            have := hah x hx
            simp at this ⊢
            omega) (by omega))
          rw [greatG_noughts] at k3
          clear hah
          go_wp2_with fail
          refine k3.out.mono ?_
          rintro e w3 ⟨rfl, hb3⟩
          have u3 := hid (u2.out.trans (hb3.mono u2.out.size))
          have W3 := hid (HW.out.below u3.out)
          have f3 := W3.out.fz i
          have d3 : w3.cell? ⟨w.heap.size, i, none⟩ = some (.int .i64 0) := by
            obtain ⟨_, _, e, _, hx⟩ := W3.out.ints (by simp; omega)
            cases e
            have := hx i (by simp; have := HGL.out; omega)
            rw [Nat.zero_add, getD_noughts] at this
            rw [this, List.getD_eq_getElem?_getD, List.getElem?_eq_none (by have := HGL.out; omega)]
            rfl
          have r3 := hid (Row.set (x := greatG T g) W3.out HGL.out hlt)
          have hp3 : w.heap.size < w3.heap.size := (Array.getElem?_eq_some_iff.1 W3.out).1
          by_cases hgt : greatG T g ≤ 300
          · have hgt2 : ¬ (300 < greatG T g) := by omega
            have HOK : Hid (okG g T = true) := hid (by unfold okG; rw [HGL.out, HB1.out, HB2.out]; simp [hgt])
            generalize greatG T g = G at *
            go_wp2_with fail
            go_roundw
            case rel => exact ⟨i + 1, g ++ [G], by omega, by go_num, hid (HM.out HOK.out), r3, hid ((HB.out.trans (u3.out.mono HB.out.size)).setCell (Nat.le_refl _) _)⟩
            case measure => simp [intOf]; omega
          · have hgt2 : 300 < greatG T g := by omega
            have HOK : Hid (okG g T = false) := hid (by unfold okG; rw [HGL.out, HB1.out, HB2.out]; simp [hgt])
            generalize greatG T g = G at *
            go_wp2_with fail
            go_ret
            refine ⟨ret_bool ?_, (HB.out.trans (u3.out.mono HB.out.size)).setCell (Nat.le_refl _) _⟩
            rw [HR.out, HS.out HOK.out]
            rfl
    · obtain rfl : i = n := by omega
      go_wp2_with fail
      go_ret
      refine ⟨ret_bool ?_, HB.out⟩
      have := HG.out
      rw [← HN.out, List.take_length] at this
      rw [HR.out, this]
      rfl

end Go.Proofs.Ytkgejeamcgodhaa
