/- Texts of this seat, merged. -/
import Derived.Test.YtbglhmcahnkbfaaGreatGMg47
import Derived.Test.YtbglhmcahnkbfaaGreatGMg49
import Derived.Test.YtbglhmcahnkbfaaGreatGMg4
import Derived.WalkMore

/- The road of ProcsLives. -/
namespace Go.Proofs.YtbglhmcahnkbfaaGreat
open Go.RowKit Go.ChangeMaps Go.MapKept
set_option linter.unusedVariables false
set_option maxRecDepth 20000

/-- A pair that is made anew. -/
theorem fresh_join {w w1 w2 w3 w4 : World} {f x t y L : Nat} {d : Int} (h1 : Tp w1 f (newT d) (fun b => w.heap.size ≤ b)) (b1 : Below w.heap.size w w1) (h2 : Td w2 x (newT d) (fun b => w1.heap.size ≤ b)) (b2 : Below w1.heap.size w1 w2)
    (h3 : Zp w3 t f (newG d) (fun b => (w.heap.size ≤ b ∧ b < w1.heap.size) ∨ w2.heap.size ≤ b)) (u3 : Upd (fun b => w.heap.size ≤ b ∧ b < w1.heap.size) w2 w3)
    (h4 : Yp w4 y x L (newG d) (fun b => (w1.heap.size ≤ b ∧ b < w2.heap.size) ∨ w3.heap.size ≤ b)) (b4 : Below w3.heap.size w3 w4) :
    ∃ G D, P9 (w4.alloc (Obj.cells #[.pointer (some ⟨f, 0, none⟩), .pointer (some ⟨x, 0, none⟩), .pointer (some ⟨t, 0, none⟩), .pointer (some ⟨y, 0, none⟩)] 38)) w.heap.size G D w4.heap.size f x t y L (newG d) (newG d) ∧ Below w.heap.size w (w4.alloc (Obj.cells #[.pointer (some ⟨f, 0, none⟩), .pointer (some ⟨x, 0, none⟩), .pointer (some ⟨t, 0, none⟩), .pointer (some ⟨y, 0, none⟩)] 38)) := by
  have b5 : Below w4.heap.size w4 (w4.alloc (Obj.cells #[.pointer (some ⟨f, 0, none⟩), .pointer (some ⟨x, 0, none⟩), .pointer (some ⟨t, 0, none⟩), .pointer (some ⟨y, 0, none⟩)] 38)) := (Below.refl _ _).alloc (Nat.le_refl _) _
  have s1 := b1.size
  have s2 := b2.size
  have s3 := u3.size
  have s4 := b4.size
  have s5 : (w4.alloc (Obj.cells #[.pointer (some ⟨f, 0, none⟩), .pointer (some ⟨x, 0, none⟩), .pointer (some ⟨t, 0, none⟩), .pointer (some ⟨y, 0, none⟩)] 38)).heap.size = w4.heap.size + 1 := by simp
  refine ⟨fun b => ((w.heap.size ≤ b ∧ b < w1.heap.size) ∨ w2.heap.size ≤ b) ∧ b < w3.heap.size, fun b => ((w1.heap.size ≤ b ∧ b < w2.heap.size) ∨ w3.heap.size ≤ b) ∧ b < w4.heap.size, ⟨heap_alloc_new _ _, ((h3.mono (fun b hb hG => ⟨hG, hb⟩)).grow b4).grow b5, (h4.mono (fun b hb hG => ⟨hG, hb⟩)).grow b5, fun b hb => ?_, fun b hb => ?_, by omega⟩, ?_⟩
  · exact ⟨by omega, by omega, by omega, fun q => by omega⟩
  · exact ⟨by omega, by omega, by omega⟩
  · exact (((b1.trans (b2.mono s1)).trans (u3.below (Nat.le_trans s1 s2) (fun b hb => hb.1))).trans (b4.mono (by omega))).trans (b5.mono (by omega))

set_option maxHeartbeats 4000000 in
theorem fresh9 (w : World) (d : Int) : Calls Tryz.prog 7 #[.int .i64 d] w fun e w' => ∃ pp f x t y L G D, e = .returned (.pointer (some ⟨pp, 0, none⟩)) ∧ P9 w' w.heap.size G D pp f x t y L (newG d) (newG d) ∧ Below w.heap.size w w' := by
  have k1 := hid (tpnew w d)
  have k2 := hid (fun W => tdnew W d)
  go_enter Tryz.func7, Tryz.ntmps7
  go_wp2_with fail
  refine k1.out.mono ?_
  rintro e w1 ⟨f, rfl, hp1, hb1⟩
  have HP1 := hid hp1
  have HB1 := hid hb1
  clear hp1 hb1 k1
  go_wp2_with fail
  refine (k2.out w1).mono ?_
  rintro e w2 ⟨x, rfl, hr2, hb2⟩
  have HP2 := hid hr2
  have HB2 := hid hb2
  have k3 := hid (gnew_any w2 f (newT d) (fun b => w.heap.size ≤ b ∧ b < w1.heap.size) ((HP1.out.mono (fun b hb hG => ⟨hG, hb⟩)).grow hb2) (TOk.new d) d)
  clear hr2 hb2 k2
  go_wp2_with fail
  refine k3.out.mono ?_
  rintro e w3 ⟨t, rfl, h3, u3⟩
  have H3 := hid (h3 rfl)
  have U3 := hid u3
  have k4 := hid (r9new_any w3 x (newT d) (fun b => w1.heap.size ≤ b ∧ b < w2.heap.size) ((HP2.out.mono (fun b hb hG => ⟨hG, hb⟩)).upd u3 (fun b _ hD hG => by omega)) d)
  clear h3 u3 k3
  go_wp2_with fail
  refine k4.out.mono ?_
  rintro e w4 ⟨y, L, rfl, h4, b4⟩
  have HJ := hid (fresh_join HP1.out HB1.out HP2.out HB2.out H3.out U3.out (h4 rfl) b4)
  clear h4 b4 k4
  go_wp2_with fail
  go_ret
  obtain ⟨G, D, a, b⟩ := HJ.out
  exact ⟨_, _, _, _, _, _, _, _, rfl, a, b⟩

/-- Both sides behind so many calls. -/
def Lv9 (w wr : World) (pp f x t y L : Nat) : Prop := (∃ G D g, P9 wr w.heap.size G D pp f x t y L g g ∧ GOk g) ∧ Below w.heap.size w wr
theorem Lv9.grow {w wr w' : World} {pp f x t y L : Nat} (h : Lv9 w wr pp f x t y L) (q : Below wr.heap.size wr w') : Lv9 w w' pp f x t y L := by
  obtain ⟨⟨G, D, g, h1, h2⟩, hb⟩ := h
  exact ⟨⟨G, D, g, h1.grow q, h2⟩, hb.trans (q.mono hb.size)⟩
theorem Lv9.same {w wr : World} {pp f x t y L : Nat} (h : Lv9 w wr pp f x t y L) : Calls Tryz.prog 9 #[.pointer (some ⟨pp, 0, none⟩)] wr fun e w' => e = .returned (.bool true) ∧ Lv9 w w' pp f x t y L := by
  have h0 := h
  obtain ⟨⟨G, D, g, h1, h2⟩, hb⟩ := h
  refine (same_yes9 wr _ G D pp f x t y L g h1 h2).mono ?_
  rintro e w' ⟨rfl, q⟩
  exact ⟨rfl, h0.grow q⟩
theorem Lv9.step {w wr : World} {pp f x t y L : Nat} (h : Lv9 w wr pp f x t y L) (x0 x1 x2 x3 : Int) :
    ∀ W, Below wr.heap.size wr W → Calls Tryz.prog 8 #[.pointer (some ⟨pp, 0, none⟩), .agg #[.int .i64 x0, .int .i64 x1, .int .i64 x2, .int .i64 x3]] W fun e w' => e = .returned (.bool true) ∧ Lv9 w w' pp f x t y L := by
  intro W hW
  obtain ⟨⟨G, D, g, h1, h2⟩, hb⟩ := h.grow hW
  refine (do9_any pp f x t y L w.heap.size G D g x0 x1 x2 x3 W h1 h2).mono ?_
  rintro e w' ⟨rfl, G', D', g', q1, q2, q3⟩
  exact ⟨rfl, ⟨G', D', g', q1, q2.1⟩, hb.trans q3⟩

set_option maxHeartbeats 4000000 in
theorem glives_road (d : Int) (al : Option Addr) (ll cl : Nat) (w : World) (hd : Dos9 w al ll) (hll : ll ≤ cl) (hcl : cl ≤ 9223372036854775807) :
    Calls Tryz.prog 3 #[.int .i64 d, .slice al ll cl] w fun e w' => e = .returned (.bool true) ∧ Below w.heap.size w w' := by
  have k1 := hid (fresh9 w d)
  have HD := hid hd
  clear hd
  go_enter Tryz.func3, Tryz.ntmps3
  go_wp2_with fail
  refine k1.out.mono ?_
  rintro e w1 ⟨pp, f, x, t, y, L, G, D, rfl, hp1, hb1⟩
  have HL : Hid (Lv9 w w1 pp f x t y L) := hid ⟨⟨G, D, _, hp1, GOk.new d⟩, hb1⟩
  clear hp1 hb1 k1
  go_wp2_with fail
  go_loopw [12] (fun v12 wr => ∃ i : Nat, i ≤ ll ∧ i ≤ 61 ∧ v12 = .int .i64 (i : Int) ∧ Hid (Lv9 w wr pp f x t y L)) (fun v12 _ => ll - (intOf v12).toNat)
  case atStart => exact ⟨0, by omega, by omega, rfl, HL⟩
  case round =>
    clear HL
    obtain ⟨i, hil, hi61, rfl, HQ⟩ := hrel
    by_cases h : i < ll
    · obtain ⟨b, o, rfl, hbl, hat⟩ := HD.out (by omega)
      obtain ⟨x0, x1, x2, x3, e0, e1, e2, e3⟩ := hat i h
      have c0 := (HQ.out.2.cell (p := ⟨b, o + i * 4, none⟩) hbl).trans e0
      have c1 := (HQ.out.2.cell (p := ⟨b, o + i * 4 + 1, none⟩) hbl).trans e1
      have c2 := (HQ.out.2.cell (p := ⟨b, o + i * 4 + 2, none⟩) hbl).trans e2
      have c3 := (HQ.out.2.cell (p := ⟨b, o + i * 4 + 3, none⟩) hbl).trans e3
      obtain ⟨W1, g1⟩ : ∃ W1, W1 = wr.alloc (Obj.cells #[.int .i64 x0, .int .i64 x1, .int .i64 x2, .int .i64 x3] 26) := ⟨_, rfl⟩
      have b1 : Below wr.heap.size wr W1 := by rw [g1]; exact (Below.refl _ _).alloc (Nat.le_refl _) _
      have r1 : W1.heap[wr.heap.size]? = some (.cells #[.int .i64 x0, .int .i64 x1, .int .i64 x2, .int .i64 x3] 26 (0, 0)) := by rw [g1]; exact heap_alloc_new _ _
      by_cases h60 : 60 < i
      · have i60 : (60 : Int) < (i : Int) := by omega
        have kS := hid (HQ.out.grow b1).same
        have GA := hid g1
        clear g1 hat e0 e1 e2 e3 b1 r1 HQ
        go_wp2_with fail
        rw [← GA.out]
        refine kS.out.mono ?_
        rintro e w4 ⟨rfl, h4⟩
        go_wp2_with fail
        go_ret
        exact ⟨rfl, h4.2⟩
      · have i60 : ¬ (60 : Int) < (i : Int) := by omega
        have kD := hid (HQ.out.step x0 x1 x2 x3 W1 b1)
        have d0 : W1.cell? ⟨wr.heap.size, 0, none⟩ = some (.int .i64 x0) := by rw [cell_of_row W1 _ 0 _ _ _ r1]; rfl
        have d1 : W1.cell? ⟨wr.heap.size, 1, none⟩ = some (.int .i64 x1) := by rw [cell_of_row W1 _ 1 _ _ _ r1]; rfl
        have d2 : W1.cell? ⟨wr.heap.size, 2, none⟩ = some (.int .i64 x2) := by rw [cell_of_row W1 _ 2 _ _ _ r1]; rfl
        have d3 : W1.cell? ⟨wr.heap.size, 3, none⟩ = some (.int .i64 x3) := by rw [cell_of_row W1 _ 3 _ _ _ r1]; rfl
        have GA := hid g1
        clear g1 hat e0 e1 e2 e3 b1 r1 HQ
        go_wp2_with fail
        rw [← GA.out]
        go_wp2_with fail
        refine kD.out.mono ?_
        rintro e w4 ⟨rfl, h4⟩
        have kS := hid h4.same
        clear h4 kD
        go_wp2_with fail
        refine kS.out.mono ?_
        rintro e w5 ⟨rfl, h5⟩
        have H5 := hid h5
        clear h5 kS
        go_wp2_with fail
        go_roundw
        case rel => exact ⟨i + 1, by omega, by omega, by go_num, H5⟩
        case measure => simp [intOf]; omega
    · obtain rfl : i = ll := by omega
      have kS := hid HQ.out.same
      clear HQ
      go_wp2_with fail
      refine kS.out.mono ?_
      rintro e w4 ⟨rfl, h4⟩
      go_wp2_with fail
      go_ret
      exact ⟨rfl, h4.2⟩

end Go.Proofs.YtbglhmcahnkbfaaGreat
