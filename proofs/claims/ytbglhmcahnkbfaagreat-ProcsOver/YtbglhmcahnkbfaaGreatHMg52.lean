/- Texts of this seat, merged. -/
import Derived.Test.YtbglhmcahnkbfaaGreatHMg49
import Derived.Test.YtbglhmcahnkbfaaGreatHMg51
import Derived.Test.YtbglhmcahnkbfaaGreatHMg4
import Derived.WalkMore
import Derived.Test.YtbglhmcahnkbfaaGreatHMg47
import Derived.Test.YtbglhmcahnkbfaaGreatHMg48
import Derived.Deep.RegionHeld3

/- The road of ProcsLives. -/
namespace Go.Proofs.YtbglhmcahnkbfaaGreat
open Go.RowKit Go.ChangeMaps Go.MapKept
set_option linter.unusedVariables false
set_option maxRecDepth 20000

/-- A pair that is made anew. -/
theorem fresh_join {w w1 w2 w3 w4 : World} {f x t y L : Nat} {d : Int} (h1 : Tp w1 f (newT d) (fun b => w.heap.size ≤ b)) (b1 : Below w.heap.size w w1) (h2 : Td w2 x (newT d) (fun b => w1.heap.size ≤ b)) (b2 : Below w1.heap.size w1 w2)
    (h3 : Zp w3 t f (newG d) (fun b => (w.heap.size ≤ b ∧ b < w1.heap.size) ∨ w2.heap.size ≤ b)) (u3 : Upd (fun b => w.heap.size ≤ b ∧ b < w1.heap.size) w2 w3)
    (h4 : Yp w4 y x L (newG d) (fun b => (w1.heap.size ≤ b ∧ b < w2.heap.size) ∨ w3.heap.size ≤ b)) (b4 : Below w3.heap.size w3 w4) :
    ∃ G D, P9 (w4.alloc (Obj.cells #[.pointer (some ⟨f, 0, none⟩), .pointer (some ⟨x, 0, none⟩), .pointer (some ⟨t, 0, none⟩), .pointer (some ⟨y, 0, none⟩)] 38)) w.heap.size G D w4.heap.size f x t y L (newG d) (newG d) ∧ Below w.heap.size w (w4.alloc (Obj.cells #[.pointer (some ⟨f, 0, none⟩), .pointer (some ⟨x, 0, none⟩), .pointer (some ⟨t, 0, none⟩), .pointer (some ⟨y, 0, none⟩)] 38)) := by
  have b5 : Below w4.heap.size w4 (w4.alloc (Obj.cells #[.pointer (some ⟨f, 0, none⟩), .pointer (some ⟨x, 0, none⟩), .pointer (some ⟨t, 0, none⟩), .pointer (some ⟨y, 0, none⟩)] 38)) := (Below.refl _ _).alloc (Nat.le_refl _) _
  have s1 := b1.size
  have s2 := b2.size
  have s3 := u3.size
  have s4 := b4.size
  have s5 : (w4.alloc (Obj.cells #[.pointer (some ⟨f, 0, none⟩), .pointer (some ⟨x, 0, none⟩), .pointer (some ⟨t, 0, none⟩), .pointer (some ⟨y, 0, none⟩)] 38)).heap.size = w4.heap.size + 1 := by simp
  refine ⟨fun b => ((w.heap.size ≤ b ∧ b < w1.heap.size) ∨ w2.heap.size ≤ b) ∧ b < w3.heap.size, fun b => ((w1.heap.size ≤ b ∧ b < w2.heap.size) ∨ w3.heap.size ≤ b) ∧ b < w4.heap.size, ⟨heap_alloc_new _ _, ((h3.mono (fun b hb hG => ⟨hG, hb⟩)).grow b4).grow b5, (h4.mono (fun b hb hG => ⟨hG, hb⟩)).grow b5, fun b hb => ?_, fun b hb => ?_, by omega⟩, ?_⟩
  · exact ⟨by omega, by omega, by omega, fun q => by omega⟩
  · exact ⟨by omega, by omega, by omega⟩
  · exact (((b1.trans (b2.mono s1)).trans (u3.below (Nat.le_trans s1 s2) (fun b hb => hb.1))).trans (b4.mono (by omega))).trans (b5.mono (by omega))

set_option maxHeartbeats 4000000 in
theorem fresh9 (w : World) (d : Int) : Calls Tryz.prog 7 #[.int .i64 d] w fun e w' => ∃ pp f x t y L G D, e = .returned (.pointer (some ⟨pp, 0, none⟩)) ∧ P9 w' w.heap.size G D pp f x t y L (newG d) (newG d) ∧ Below w.heap.size w w' := by
  have k1 := hid (tpnew w d)
  have k2 := hid (fun W => tdnew W d)
  go_enter Tryz.func7, Tryz.ntmps7
  go_wp2_with fail
  refine k1.out.mono ?_
  rintro e w1 ⟨f, rfl, hp1, hb1⟩
  have HP1 := hid hp1
  have HB1 := hid hb1
  clear hp1 hb1 k1
  go_wp2_with fail
  refine (k2.out w1).mono ?_
  rintro e w2 ⟨x, rfl, hr2, hb2⟩
  have HP2 := hid hr2
  have HB2 := hid hb2
  have k3 := hid (gnew_any w2 f (newT d) (fun b => w.heap.size ≤ b ∧ b < w1.heap.size) ((HP1.out.mono (fun b hb hG => ⟨hG, hb⟩)).grow hb2) (TOk.new d) d)
  clear hr2 hb2 k2
  go_wp2_with fail
  refine k3.out.mono ?_
  rintro e w3 ⟨t, rfl, h3, u3⟩
  have H3 := hid (h3 rfl)
  have U3 := hid u3
  have k4 := hid (r9new_any w3 x (newT d) (fun b => w1.heap.size ≤ b ∧ b < w2.heap.size) ((HP2.out.mono (fun b hb hG => ⟨hG, hb⟩)).upd u3 (fun b _ hD hG => by omega)) d)
  clear h3 u3 k3
  go_wp2_with fail
  refine k4.out.mono ?_
  rintro e w4 ⟨y, L, rfl, h4, b4⟩
  have HJ := hid (fresh_join HP1.out HB1.out HP2.out HB2.out H3.out U3.out (h4 rfl) b4)
  clear h4 b4 k4
  go_wp2_with fail
  go_ret
  obtain ⟨G, D, a, b⟩ := HJ.out
  exact ⟨_, _, _, _, _, _, _, _, rfl, a, b⟩

end Go.Proofs.YtbglhmcahnkbfaaGreat

/- The program's processes alone, in a pair. -/
namespace Go.Proofs.YtbglhmcahnkbfaaGreat
open Go.RowKit Go.ChangeMaps Go.MapKept
set_option linter.unusedVariables false
set_option maxRecDepth 20000

/-- The program's side of the pair has g behind w. -/
def Pg (w wr : World) (pp f t : Nat) (g : Gt) : Prop := (∃ G D x y L gD, P9 wr w.heap.size G D pp f x t y L g gD) ∧ Below w.heap.size w wr
section
variable {w wr w' : World} {pp f t : Nat} {g g' : Gt}
theorem Pg.grow (h : Pg w wr pp f t g) (q : Below wr.heap.size wr w') : Pg w w' pp f t g := by
  obtain ⟨⟨G, D, x, y, L, gD, h1⟩, hb⟩ := h
  exact ⟨⟨G, D, x, y, L, gD, h1.grow q⟩, hb.trans (q.mono hb.size)⟩
theorem Pg.c0 (h : Pg w wr pp f t g) : wr.cell? ⟨pp, 0, none⟩ = some (.pointer (some ⟨f, 0, none⟩)) := by
  obtain ⟨⟨G, D, x, y, L, gD, h1⟩, hb⟩ := h; exact h1.c0
theorem Pg.c2 (h : Pg w wr pp f t g) : wr.cell? ⟨pp, 2, none⟩ = some (.pointer (some ⟨t, 0, none⟩)) := by
  obtain ⟨⟨G, D, x, y, L, gD, h1⟩, hb⟩ := h; exact h1.c2
theorem Pg.tab (h : Pg w wr pp f t g) : Th wr t f g.T.F.d g.Q := by
  obtain ⟨⟨G, D, x, y, L, gD, h1⟩, hb⟩ := h; exact h1.tp.tab
theorem Pg.tp (h : Pg w wr pp f t g) : ∃ Gn, Tp wr f g.T Gn := by
  obtain ⟨⟨G, D, x, y, L, gD, h1⟩, hb⟩ := h
  obtain ⟨Gn, h2, _⟩ := h1.tp
  exact ⟨Gn, h2.tp⟩
theorem Pg.prog (h : Pg w wr pp f t g) {fn : Nat} {args : Array Value} {R : Ending → Prop} (k : ∀ G, ZpTo wr t f g G wr → Calls Tryz.prog fn args wr fun e w' => R e ∧ ZpTo wr t f g' G w') :
    Calls Tryz.prog fn args wr fun e w' => R e ∧ Pg w w' pp f t g' := by
  obtain ⟨⟨G, D, x, y, L, gD, h1⟩, hb⟩ := h
  refine (k G h1.tp.to).mono ?_
  rintro e w' ⟨he, hk⟩
  obtain ⟨a, b, _⟩ := h1.prog hk
  exact ⟨he, ⟨_, D, x, y, L, gD, a⟩, hb.trans b⟩
end
theorem fresh_pg (w : World) (d : Int) : Calls Tryz.prog 7 #[.int .i64 d] w fun e w' => ∃ pp f t, e = .returned (.pointer (some ⟨pp, 0, none⟩)) ∧ Pg w w' pp f t (newG d) := by
  refine (fresh9 w d).mono ?_
  rintro e w' ⟨pp, f, x, t, y, L, G, D, rfl, h, b⟩
  exact ⟨pp, f, t, rfl, ⟨G, D, x, y, L, _, h⟩, b⟩
/-- A pair, however the world behind is told. -/
theorem fresh_pg_in {w wr : World} {pp f t : Nat} {g : Gt} (h : Pg w wr pp f t g) (d : Int) : Calls Tryz.prog 7 #[.int .i64 d] wr fun e w' => ∃ p2 f2 t2, e = .returned (.pointer (some ⟨p2, 0, none⟩)) ∧ Pg wr w' p2 f2 t2 (newG d) ∧ Pg w w' pp f t g := by
  refine (fresh_pg wr d).mono ?_
  rintro e w' ⟨p2, f2, t2, rfl, h2⟩
  exact ⟨p2, f2, t2, rfl, h2, h.grow h2.2⟩

end Go.Proofs.YtbglhmcahnkbfaaGreat

/- What 'legal' makes. -/
namespace Go.Proofs.YtbglhmcahnkbfaaGreat
open Go.RowKit Go.ChangeMaps Go.MapKept
set_option linter.unusedVariables false
set_option maxRecDepth 20000

theorem gindex_gen (a : Option Addr) (n c : Nat) (zs : List Int) (v : Int) (w : World) (h : Rdv w a n (zs.map (Value.int .i64))) (hn : n ≤ 1000000) :
    Calls Tryz.prog 82 #[.slice a n c, .int .i64 v] w fun e w' => (∃ r : Int, e = .returned (.int .i64 r)) ∧ w' = w := by
  have hl : zs.length = n := by have := h.1; simpa using this
  have H := hid h
  have HL := hid hl
  clear h hl
  go_enter Tryz.func82, Tryz.ntmps82
  go_wp2_with fail
  go_loop [8] (fun s => ∃ j : Nat, j ≤ n ∧ s = .int .i64 (j : Int)) (fun s => n - (intOf s).toNat)
  case atStart => exact ⟨0, by omega, rfl⟩
  case round =>
    obtain ⟨j, hj, rfl⟩ := hrel
    by_cases e : j = n
    · subst e
      go_wp2_with fail
      go_ret
      exact ⟨⟨_, rfl⟩, rfl⟩
    · have hjn : j < n := by omega
      obtain ⟨q, o, rfl, hq, hc⟩ := H.out.2 (by omega)
      have hjl : j < zs.length := by have := HL.out; omega
      have c0 := hc j (by simpa using hjl)
      rw [List.getElem_map] at c0
      generalize zs[j] = u at c0
      clear hc
      by_cases hv : v = u
      · subst hv
        go_wp2_with fail
        go_ret
        exact ⟨⟨_, rfl⟩, rfl⟩
      · go_wp2_with fail
        go_round
        case rel => exact ⟨j + 1, by omega, by go_num⟩
        case measure => simp [intOf]; omega
theorem gcontains_gen (a : Option Addr) (n c : Nat) (zs : List Int) (v : Int) (w : World) (h : Rdv w a n (zs.map (Value.int .i64))) (hn : n ≤ 1000000) :
    Calls Tryz.prog 47 #[.slice a n c, .int .i64 v] w fun e w' => (∃ b : Bool, e = .returned (.bool b)) ∧ w' = w := by
  have k1 := hid (gindex_gen a n c zs v w h hn)
  clear h
  go_enter Tryz.func47, Tryz.ntmps47
  go_wp2_with fail
  refine k1.out.mono ?_
  rintro e w1 ⟨⟨r, rfl⟩, hw⟩
  subst w1
  go_wp2_with fail
  go_ret
  exact ⟨⟨_, rfl⟩, rfl⟩

/-- The pair behind legal calls. -/
def Lg (w wr : World) (pp f t : Nat) : Prop := (∃ G D x y L g gd, P9 wr w.heap.size G D pp f x t y L g gd ∧ LOk g ∧ GOk gd) ∧ Below w.heap.size w wr
theorem Lg.grow {w wr w' : World} {pp f t : Nat} (h : Lg w wr pp f t) (q : Below wr.heap.size wr w') : Lg w w' pp f t := by
  obtain ⟨⟨G, D, x, y, L, g, gd, h1, h2⟩, hb⟩ := h
  exact ⟨⟨G, D, x, y, L, g, gd, h1.grow q, h2⟩, hb.trans (q.mono hb.size)⟩
theorem Lg.pg {w wr : World} {pp f t : Nat} (h : Lg w wr pp f t) : ∃ g, LOk g ∧ Pg w wr pp f t g := by
  obtain ⟨⟨G, D, x, y, L, g, gd, h1, h2, h3⟩, hb⟩ := h
  exact ⟨g, h2, ⟨G, D, x, y, L, gd, h1⟩, hb⟩
theorem dox_any (pp f x t y L B : Nat) (G D : Nat → Prop) (g gd : Gt) (x0 x1 x2 x3 : Int) (s : Nat) (w : World) (H : P9 w B G D pp f x t y L g gd) (H0 : LOk g) (H1 : GOk gd) (hq : wrap64 ((IntKind.u64.wrap x0).tmod 11) = (s : Int)) (hs : s < 11) (n4 : s ≠ 4) (n5 : s ≠ 5) (n6 : s ≠ 6) :
    Calls Tryz.prog 8 #[.pointer (some ⟨pp, 0, none⟩), .agg #[.int .i64 x0, .int .i64 x1, .int .i64 x2, .int .i64 x3]] w (Dx9 w B pp f x t y L) := by
  rcases (show s = 0 ∨ s = 1 ∨ s = 2 ∨ s = 3 ∨ s = 7 ∨ s = 8 ∨ s = 9 ∨ s = 10 by omega) with rfl | rfl | rfl | rfl | rfl | rfl | rfl | rfl
  · exact dox_0 pp f x t y L B G D g gd x0 x1 x2 x3 w H H0 H1 hq
  · exact dox_1 pp f x t y L B G D g gd x0 x1 x2 x3 w H H0 H1 hq
  · exact dox_2 pp f x t y L B G D g gd x0 x1 x2 x3 w H H0 H1 hq
  · exact dox_3 pp f x t y L B G D g gd x0 x1 x2 x3 w H H0 H1 hq
  · exact dox_7 pp f x t y L B G D g gd x0 x1 x2 x3 w H H0 H1 hq
  · exact dox_8 pp f x t y L B G D g gd x0 x1 x2 x3 w H H0 H1 hq
  · exact dox_9 pp f x t y L B G D g gd x0 x1 x2 x3 w H H0 H1 hq
  · exact dox_10 pp f x t y L B G D g gd x0 x1 x2 x3 w H H0 H1 hq

end Go.Proofs.YtbglhmcahnkbfaaGreat

/- The walk of 'legal'. -/
namespace Go.Proofs.YtbglhmcahnkbfaaGreat
open Go.RowKit Go.ChangeMaps Go.MapKept
set_option linter.unusedVariables false
set_option maxRecDepth 20000

theorem Lg.step {w wr : World} {pp f t : Nat} (h : Lg w wr pp f t) (x0 x1 x2 x3 : Int) (s : Nat) (hq : wrap64 ((IntKind.u64.wrap x0).tmod 11) = (s : Int)) (hs : s < 11) (n4 : s ≠ 4) (n5 : s ≠ 5) (n6 : s ≠ 6) :
    Calls Tryz.prog 8 #[.pointer (some ⟨pp, 0, none⟩), .agg #[.int .i64 x0, .int .i64 x1, .int .i64 x2, .int .i64 x3]] wr fun e w' => (∃ b : Bool, e = .returned (.bool b)) ∧ Lg w w' pp f t := by
  obtain ⟨⟨G, D, x, y, L, g, gd, h1, h2, h3⟩, hb⟩ := h
  refine (dox_any pp f x t y L w.heap.size G D g gd x0 x1 x2 x3 s wr h1 h2 h3 hq hs n4 n5 n6).mono ?_
  rintro e w' ⟨⟨b, rfl⟩, G', D', g', gd', q1, ⟨q2, q3⟩, q4⟩
  exact ⟨⟨b, rfl⟩, ⟨G', D', x, y, L, g', gd', q1, q2, q3⟩, hb.trans q4⟩

theorem rd_box {W : World} {b : Nat} {x0 x1 x2 x3 : Int} (h : W.heap[b]? = some (.cells #[.int .i64 x0, .int .i64 x1, .int .i64 x2, .int .i64 x3] 26 (0, 0))) : W.cell? ⟨b, 0, none⟩ = some (.int .i64 x0) ∧ W.cell? ⟨b, 1, none⟩ = some (.int .i64 x1) ∧ W.cell? ⟨b, 2, none⟩ = some (.int .i64 x2) ∧ W.cell? ⟨b, 3, none⟩ = some (.int .i64 x3) :=
  ⟨by rw [cell_of_row W b 0 _ _ _ h]; rfl, by rw [cell_of_row W b 1 _ _ _ h]; rfl, by rw [cell_of_row W b 2 _ _ _ h]; rfl, by rw [cell_of_row W b 3 _ _ _ h]; rfl⟩

theorem S9.lg {w wF W : World} {kb : Nat} {G D : Nat → Prop} {pp f x t y L : Nat} {g gd : Gt} (h : S9 wF w.heap.size kb G D pp f x t y L g gd W) (hb : Below w.heap.size w wF) (hk : LOk g) (h3 : GOk gd) : Lg w W pp f t :=
  ⟨⟨G, D, x, y, L, g, gd, h.pr, hk, h3⟩, hb.trans (h.up.below hb.size (fun b hb => hb.1))⟩

set_option maxHeartbeats 16000000 in
theorem glegal_any (al : Option Addr) (ll cl : Nat) (w : World) (hd : Dos9 w al ll) (hll : ll ≤ cl) (hcl : cl ≤ 9223372036854775807) :
    Calls Tryz.prog 10 #[.slice al ll cl] w fun e w' => ∃ pp f t, e = .returned (.pointer (some ⟨pp, 0, none⟩)) ∧ Lg w w' pp f t := by
  have k1 := hid (fresh9 w 0)
  have HD := hid hd
  clear hd
  go_enter Tryz.func10, Tryz.ntmps10
  go_wp2_with fail
  refine k1.out.mono ?_
  rintro e w1 ⟨pp, f, x0', t, y0', L0, G0, D0, rfl, hp1, hb1⟩
  have HL : Hid (Lg w w1 pp f t) := hid ⟨⟨G0, D0, x0', y0', L0, _, _, hp1, LOk.new, GOk.new 0⟩, hb1⟩
  clear hp1 hb1 k1
  go_wp2_with fail
  go_loopw [13] (fun v13 wr => ∃ i : Nat, i ≤ ll ∧ i ≤ 61 ∧ v13 = .int .i64 (i : Int) ∧ Hid (Lg w wr pp f t)) (fun v13 _ => ll - (intOf v13).toNat)
  case atStart => exact ⟨0, by omega, by omega, rfl, HL⟩
  case round =>
    clear HL
    obtain ⟨i, hil, hi61, rfl, HQ⟩ := hrel
    by_cases h : i < ll
    · obtain ⟨b, o, rfl, hbl, hat⟩ := HD.out (by omega)
      obtain ⟨x0, x1, x2, x3, e0, e1, e2, e3⟩ := hat i h
      have c0 := (HQ.out.2.cell (p := ⟨b, o + i * 4, none⟩) hbl).trans e0
      have c1 := (HQ.out.2.cell (p := ⟨b, o + i * 4 + 1, none⟩) hbl).trans e1
      have c2 := (HQ.out.2.cell (p := ⟨b, o + i * 4 + 2, none⟩) hbl).trans e2
      have c3 := (HQ.out.2.cell (p := ⟨b, o + i * 4 + 3, none⟩) hbl).trans e3
      obtain ⟨wF, gF⟩ : ∃ wF, wF = wr.alloc (Obj.cells #[.int .i64 x0, .int .i64 x1, .int .i64 x2, .int .i64 x3] 26) := ⟨_, rfl⟩
      have b1 : Below wr.heap.size wr wF := by rw [gF]; exact (Below.refl _ _).alloc (Nat.le_refl _) _
      have hsF : wr.heap.size < wF.heap.size := by rw [gF]; simp
      have r1 : wF.heap[wr.heap.size]? = some (.cells #[.int .i64 x0, .int .i64 x1, .int .i64 x2, .int .i64 x3] 26 (0, 0)) := by rw [gF]; exact heap_alloc_new _ _
      obtain ⟨f0, f1, f2, f3⟩ := rd_box r1
      have HLF := hid (HQ.out.grow b1)
      have GA := hid gF
      by_cases h60 : 60 < i
      · have i60 : (60 : Int) < (i : Int) := by omega
        clear gF hat e0 e1 e2 e3 b1 r1 HQ f0 f1 f2 f3
        go_wp2_with fail
        go_ret
        rw [← GA.out]
        exact ⟨_, _, _, rfl, HLF.out⟩
      · have i60 : ¬ (60 : Int) < (i : Int) := by omega
        obtain ⟨s, hq, h11⟩ : ∃ s : Nat, wrap64 ((IntKind.u64.wrap x0).tmod 11) = (s : Int) ∧ s < 11 := by
          have h0 : 0 ≤ IntKind.u64.wrap x0 ∧ IntKind.u64.wrap x0 < 18446744073709551616 := by rw [IntKind.wrap_u64]; omega
          rw [Int.tmod_eq_emod_of_nonneg h0.1]
          refine ⟨(IntKind.u64.wrap x0 % 11).toNat, ?_, by omega⟩
          unfold wrap64; omega
        by_cases s6 : s = 6
        · have eb6 : (wrap64 ((IntKind.u64.wrap x0).tmod 11) == 6) = true := by rw [hq, s6]; rfl
          clear gF hat e0 e1 e2 e3 b1 r1 HQ hq
          go_wp2_with fail
          rw [← GA.out]
          go_roundw
          case rel => exact ⟨i + 1, by omega, by omega, by go_num, HLF⟩
          case measure => simp [intOf]; omega
        · have eb6 : (wrap64 ((IntKind.u64.wrap x0).tmod 11) == 6) = false := by rw [hq]; simp; omega
          by_cases s45 : s = 4 ∨ s = 5
          · by_cases s4 : s = 4
            · have eb4 : (wrap64 ((IntKind.u64.wrap x0).tmod 11) == 4) = true := by rw [hq, s4]; rfl
              clear gF hat e0 e1 e2 e3 hq HLF
              obtain ⟨⟨G, D, x, y, L, g, gd, h1, h2, h3⟩, hb⟩ := HQ.out
              have HWF : Hid (Below w.heap.size w wF) := hid (hb.trans (b1.mono hb.size))
              obtain ⟨kb, gkb⟩ : ∃ kb, kb = wr.heap.size := ⟨_, rfl⟩
              have hS0 : S9 wF w.heap.size kb G D pp f x t y L g gd wF := by
                refine ⟨h1.grow b1, Upd.refl _ _, fun b hk hb => ⟨hb, fun e => ?_, fun hG => ?_, fun hR => ?_⟩⟩
                · have := h1.lt; omega
                · have h1 := (h1.gG b hG).2.1
                  omega
                · have h1 := (h1.gD b hR).2.1
                  omega
              have HL := hid h2
              have HG := hid h3
              have HKB : Hid (kb ≤ kb) := hid (Nat.le_refl _)
              rw [← gkb] at f0 f1 f2 f3 hsF
              have q0 := hS0.c0
              have q2 := hS0.c2
              have HS0 := hid hS0
              have KR : Hid (∀ W G D gD, S9 wF w.heap.size kb G D pp f x t y L g gD W → Calls Tryz.prog 14 #[.pointer (some ⟨t, 0, none⟩)] W fun e w' => (∃ (a : Option Addr) (n c : Nat) (zs : List Int), e = .returned (.slice a n c) ∧ Rdv w' a n (zs.map (Value.int .i64)) ∧ n ≤ 5) ∧ S9 wF w.heap.size kb G D pp f x t y L g gD w') := hid (fun W G D gD hs => (grunning_any hs.pr.tp.tab).mono (by
                rintro e w' ⟨⟨v, rfl, h1⟩, h3⟩
                obtain ⟨a, c, rfl, _⟩ := own_shp h1
                have e1 : (rnL g.Q 5).map natV = ((rnL g.Q 5).map fun b : Nat => (b : Int)).map (Value.int .i64) := by rw [List.map_map]; rfl
                rw [e1] at h1
                exact ⟨⟨a, _, c, _, rfl, Rdv.of h1, rnL_le g.Q 5⟩, hs.grow h3⟩))
              obtain ⟨R0, gR0⟩ : ∃ R0, R0 = g.T.open_ [47, 102] 11 := ⟨_, rfl⟩
              obtain ⟨g1, gg1⟩ : ∃ g1 : Gt, g1 = { g with T := (g.T.open_ [47, 102] 11).1 } := ⟨_, rfl⟩
              obtain ⟨A, gA⟩ : ∃ A : Nat, A = R0.2.1 := ⟨_, rfl⟩
              obtain ⟨E, gE⟩ : ∃ E : Int, E = R0.2.2 := ⟨_, rfl⟩
              have HE1 : Hid (E ≠ 0 → LOk g1) := by rw [gE, gR0, gg1]; exact hid (fun he => h2.open_err _ _ he)
              have HT1 : Hid (TOk g1.T) := by rw [gg1]; exact hid (h2.ok.T.open_ _ _)
              have KO : Hid (∀ W G D gD, S9 wF w.heap.size kb G D pp f x t y L g gD W → Calls Tryz.prog 16 #[.pointer (some ⟨f, 0, none⟩), .string ⟨#[47, 102]⟩, .int .i64 11] W fun e w' => e = .returned (.tuple #[.int .i64 (A : Int), .int .i64 E]) ∧ ∃ G', S9 wF w.heap.size kb G' D pp f x t y L g1 gD w') := by
                rw [gA, gE, gR0, gg1]
                exact hid (fun W G D gD hs => (hs.pr.tp.to.open_ HL.out.ok.T ⟨#[47, 102]⟩ (by decide) 11).mono (by rintro e w' ⟨he, k⟩; exact ⟨he, hs.prog k⟩))
              obtain ⟨R, gR⟩ : ∃ R, R = g1.install x1 (A : Int) := ⟨_, rfl⟩
              have HE2 : Hid (E = 0 → (R.2.2 = 0 → LOk R.1) ∧ (R.2.2 ≠ 0 → LOk { R.1 with T := (R.1.T.drop (A : Int)).1 })) := by
                rw [gR, gA, gE, gR0, gg1]
                exact hid (fun he => h2.opened _ _ x1 he)
              have HT2 : Hid (TOk R.1.T) := by
                rw [gR]
                rcases install_cases g1 x1 (A : Int) (by rw [gg1]; exact h2.ok.tbl (h2.ok.T.open_ _ _)) with ⟨_, e⟩ | ⟨_, q, j, _, _, _, _, e⟩
                · rw [e]; exact HT1
                · rw [e]; exact HT1
              have KI : Hid (∀ W G D gD, S9 wF w.heap.size kb G D pp f x t y L g1 gD W → Calls Tryz.prog 17 #[.pointer (some ⟨t, 0, none⟩), .int .i64 x1, .int .i64 (A : Int)] W fun e w' => e = .returned (.tuple #[.int .i64 R.2.1, .int .i64 R.2.2]) ∧ ∃ G', S9 wF w.heap.size kb G' D pp f x t y L R.1 gD w') := by
                rw [gR]
                exact hid (fun W G D gD hs => (ginstall_any hs.pr.tp.to HT1.out x1 (A : Int)).mono (by rintro e w' ⟨he, k⟩; exact ⟨he, hs.prog k⟩))
              have KX : Hid (∀ W G D gD, S9 wF w.heap.size kb G D pp f x t y L R.1 gD W → Calls Tryz.prog 48 #[.pointer (some ⟨f, 0, none⟩), .int .i64 (A : Int)] W fun e w' => (∃ z : Int, e = .returned (.int .i64 z)) ∧ ∃ G', S9 wF w.heap.size kb G' D pp f x t y L { R.1 with T := (R.1.T.drop (A : Int)).1 } gD w') := hid (fun W G D gD hs => (hs.pr.tp.to.dropf HT2.out (A : Int)).mono (by rintro e w' ⟨he, k⟩; exact ⟨⟨_, he⟩, hs.prog k⟩))
              clear gR gA gE gR0 gg1 h1 h2 h3 hb hS0 HQ b1 r1 HT1 HT2
              clear R0
              go_wp2_with fail
              rw [← GA.out]
              rw [← gkb]
              clear gkb GA
              go_wp2_with fail
              go_region_held3 (fun W => W.cell? ⟨pp, 0, none⟩ = some (.pointer (some ⟨f, 0, none⟩)) ∧ W.cell? ⟨pp, 2, none⟩ = some (.pointer (some ⟨t, 0, none⟩)) ∧ W.cell? ⟨kb, 1, none⟩ = some (.int .i64 x1)) (first | (refine ⟨?_, ?_, ?_⟩ <;> assumption) | go_keep) (first
                | (go_at_call 14; refine (KR.out _ _ _ _ (by first | exact HS0.out.drew | exact HS0.out)).mono ?_; rintro e w1 ⟨⟨a1, n1, d1, zs1, rfl, hr1, hn1⟩, hS1⟩; have zq0 := hS1.c0; have zq2 := hS1.c2; have zk1 := hS1.k HKB.out hsF f1; have HS1 := hid hS1; have HR1 := hid hr1; clear hS1 hr1)
                | (go_at_call 47; refine (gcontains_gen a1 n1 d1 zs1 x1 _ HR1.out (by omega)).mono ?_; rintro e w2 ⟨⟨bb, rfl⟩, hw⟩; subst w2)
                | fail)
              cases bb
              · go_wp2_with fail
                go_roundw
                case rel => exact ⟨i + 1, by omega, by omega, by go_num, hid (by first | exact HS1.out.lg HWF.out HL.out HG.out | exact HS1.out.drew.lg HWF.out HL.out HG.out)⟩
                case measure => simp [intOf]; omega
              · have k2 := hid (KO.out _ _ _ _ HS1.out)
                by_cases hE : E = 0
                · subst hE
                  go_wp2_with fail
                  refine k2.out.mono ?_
                  rintro e w3 ⟨rfl, G3, hS3⟩
                  have aq0 := hS3.c0
                  have aq2 := hS3.c2
                  have ak1 := hS3.k HKB.out hsF f1
                  have HS3 := hid hS3
                  clear hS3 k2
                  go_wp2_with fail
                  go_region_held3 (fun W => W.cell? ⟨pp, 0, none⟩ = some (.pointer (some ⟨f, 0, none⟩)) ∧ W.cell? ⟨pp, 2, none⟩ = some (.pointer (some ⟨t, 0, none⟩)) ∧ W.cell? ⟨kb, 1, none⟩ = some (.int .i64 x1)) (first | (refine ⟨?_, ?_, ?_⟩ <;> assumption) | go_keep) (first
                    | (go_at_call 17; refine (KI.out _ _ _ _ (by first | exact HS3.out.drew | exact HS3.out)).mono ?_; rintro e w4 ⟨rfl, G4, hS4⟩; have bq0 := hS4.c0; have bq2 := hS4.c2; have bk1 := hS4.k HKB.out hsF f1; have HS4 := hid hS4; clear hS4)
                    | fail)
                  by_cases hR : R.2.2 = 0
                  · have ebr : (R.2.2 != 0) = false := by simp [hR]
                    have HX := hid ((HE2.out (by simp)).1 hR)
                    clear hR
                    go_wp2_with fail
                    go_roundw
                    case rel => exact ⟨i + 1, by omega, by omega, by go_num, hid (by first | exact HS4.out.lg HWF.out HX.out HG.out | exact HS4.out.drew.lg HWF.out HX.out HG.out)⟩
                    case measure => simp [intOf]; omega
                  · have ebr : (R.2.2 != 0) = true := by simp [hR]
                    have HX := hid ((HE2.out (by simp)).2 hR)
                    have k5 := hid (KX.out _ _ _ _ HS4.out)
                    clear hR
                    go_wp2_with fail
                    refine k5.out.mono ?_
                    rintro e w5 ⟨⟨z5, rfl⟩, G5, hS5⟩
                    have HS5 := hid hS5
                    clear hS5 k5
                    go_wp2_with fail
                    go_roundw
                    case rel => exact ⟨i + 1, by omega, by omega, by go_num, hid (by first | exact HS5.out.lg HWF.out HX.out HG.out | exact HS5.out.drew.lg HWF.out HX.out HG.out)⟩
                    case measure => simp [intOf]; omega
                · have HX := hid (HE1.out hE)
                  go_wp2_with fail
                  refine k2.out.mono ?_
                  rintro e w3 ⟨rfl, G3, hS3⟩
                  have HS3 := hid hS3
                  clear hS3 k2
                  go_wp2_with fail
                  go_roundw
                  case rel => exact ⟨i + 1, by omega, by omega, by go_num, hid (by first | exact HS3.out.lg HWF.out HX.out HG.out | exact HS3.out.drew.lg HWF.out HX.out HG.out)⟩
                  case measure => simp [intOf]; omega
            · have eb4 : (wrap64 ((IntKind.u64.wrap x0).tmod 11) == 4) = false := by rw [hq]; simp; omega
              have eb5 : (wrap64 ((IntKind.u64.wrap x0).tmod 11) == 5) = true := by rw [hq, show s = 5 by omega]; rfl
              clear gF hat e0 e1 e2 e3 hq HLF
              obtain ⟨⟨G, D, x, y, L, g, gd, h1, h2, h3⟩, hb⟩ := HQ.out
              have HWF : Hid (Below w.heap.size w wF) := hid (hb.trans (b1.mono hb.size))
              obtain ⟨kb, gkb⟩ : ∃ kb, kb = wr.heap.size := ⟨_, rfl⟩
              have hS0 : S9 wF w.heap.size kb G D pp f x t y L g gd wF := by
                refine ⟨h1.grow b1, Upd.refl _ _, fun b hk hb => ⟨hb, fun e => ?_, fun hG => ?_, fun hR => ?_⟩⟩
                · have := h1.lt; omega
                · have h1 := (h1.gG b hG).2.1
                  omega
                · have h1 := (h1.gD b hR).2.1
                  omega
              have HL := hid h2
              have HG := hid h3
              have HKB : Hid (kb ≤ kb) := hid (Nat.le_refl _)
              rw [← gkb] at f0 f1 f2 f3 hsF
              have q0 := hS0.c0
              have q2 := hS0.c2
              have HS0 := hid hS0
              have KR : Hid (∀ W G D gD, S9 wF w.heap.size kb G D pp f x t y L g gD W → Calls Tryz.prog 14 #[.pointer (some ⟨t, 0, none⟩)] W fun e w' => (∃ (a : Option Addr) (n c : Nat) (zs : List Int), e = .returned (.slice a n c) ∧ Rdv w' a n (zs.map (Value.int .i64)) ∧ n ≤ 5) ∧ S9 wF w.heap.size kb G D pp f x t y L g gD w') := hid (fun W G D gD hs => (grunning_any hs.pr.tp.tab).mono (by
                rintro e w' ⟨⟨v, rfl, h1⟩, h3⟩
                obtain ⟨a, c, rfl, _⟩ := own_shp h1
                have e1 : (rnL g.Q 5).map natV = ((rnL g.Q 5).map fun b : Nat => (b : Int)).map (Value.int .i64) := by rw [List.map_map]; rfl
                rw [e1] at h1
                exact ⟨⟨a, _, c, _, rfl, Rdv.of h1, rnL_le g.Q 5⟩, hs.grow h3⟩))
              obtain ⟨R0, gR0⟩ : ∃ R0, R0 = g.T.open_ [47, 102] 11 := ⟨_, rfl⟩
              obtain ⟨g1, gg1⟩ : ∃ g1 : Gt, g1 = { g with T := (g.T.open_ [47, 102] 11).1 } := ⟨_, rfl⟩
              obtain ⟨A, gA⟩ : ∃ A : Nat, A = R0.2.1 := ⟨_, rfl⟩
              obtain ⟨E, gE⟩ : ∃ E : Int, E = R0.2.2 := ⟨_, rfl⟩
              have HE1 : Hid (E ≠ 0 → LOk g1) := by rw [gE, gR0, gg1]; exact hid (fun he => h2.open_err _ _ he)
              have HT1 : Hid (TOk g1.T) := by rw [gg1]; exact hid (h2.ok.T.open_ _ _)
              have KO : Hid (∀ W G D gD, S9 wF w.heap.size kb G D pp f x t y L g gD W → Calls Tryz.prog 16 #[.pointer (some ⟨f, 0, none⟩), .string ⟨#[47, 102]⟩, .int .i64 11] W fun e w' => e = .returned (.tuple #[.int .i64 (A : Int), .int .i64 E]) ∧ ∃ G', S9 wF w.heap.size kb G' D pp f x t y L g1 gD w') := by
                rw [gA, gE, gR0, gg1]
                exact hid (fun W G D gD hs => (hs.pr.tp.to.open_ HL.out.ok.T ⟨#[47, 102]⟩ (by decide) 11).mono (by rintro e w' ⟨he, k⟩; exact ⟨he, hs.prog k⟩))
              obtain ⟨R, gR⟩ : ∃ R, R = g1.install x1 (A : Int) := ⟨_, rfl⟩
              have HE2 : Hid (E = 0 → (R.2.2 = 0 → LOk R.1) ∧ (R.2.2 ≠ 0 → LOk { R.1 with T := (R.1.T.drop (A : Int)).1 })) := by
                rw [gR, gA, gE, gR0, gg1]
                exact hid (fun he => h2.opened _ _ x1 he)
              have HT2 : Hid (TOk R.1.T) := by
                rw [gR]
                rcases install_cases g1 x1 (A : Int) (by rw [gg1]; exact h2.ok.tbl (h2.ok.T.open_ _ _)) with ⟨_, e⟩ | ⟨_, q, j, _, _, _, _, e⟩
                · rw [e]; exact HT1
                · rw [e]; exact HT1
              have KI : Hid (∀ W G D gD, S9 wF w.heap.size kb G D pp f x t y L g1 gD W → Calls Tryz.prog 17 #[.pointer (some ⟨t, 0, none⟩), .int .i64 x1, .int .i64 (A : Int)] W fun e w' => e = .returned (.tuple #[.int .i64 R.2.1, .int .i64 R.2.2]) ∧ ∃ G', S9 wF w.heap.size kb G' D pp f x t y L R.1 gD w') := by
                rw [gR]
                exact hid (fun W G D gD hs => (ginstall_any hs.pr.tp.to HT1.out x1 (A : Int)).mono (by rintro e w' ⟨he, k⟩; exact ⟨he, hs.prog k⟩))
              have KX : Hid (∀ W G D gD, S9 wF w.heap.size kb G D pp f x t y L R.1 gD W → Calls Tryz.prog 48 #[.pointer (some ⟨f, 0, none⟩), .int .i64 (A : Int)] W fun e w' => (∃ z : Int, e = .returned (.int .i64 z)) ∧ ∃ G', S9 wF w.heap.size kb G' D pp f x t y L { R.1 with T := (R.1.T.drop (A : Int)).1 } gD w') := hid (fun W G D gD hs => (hs.pr.tp.to.dropf HT2.out (A : Int)).mono (by rintro e w' ⟨he, k⟩; exact ⟨⟨_, he⟩, hs.prog k⟩))
              clear gR gA gE gR0 gg1 h1 h2 h3 hb hS0 HQ b1 r1 HT1 HT2
              clear R0
              go_wp2_with fail
              rw [← GA.out]
              rw [← gkb]
              clear gkb GA
              go_wp2_with fail
              go_region_held3 (fun W => W.cell? ⟨pp, 0, none⟩ = some (.pointer (some ⟨f, 0, none⟩)) ∧ W.cell? ⟨pp, 2, none⟩ = some (.pointer (some ⟨t, 0, none⟩)) ∧ W.cell? ⟨kb, 1, none⟩ = some (.int .i64 x1)) (first | (refine ⟨?_, ?_, ?_⟩ <;> assumption) | go_keep) (first
                | (go_at_call 14; refine (KR.out _ _ _ _ (by first | exact HS0.out.drew | exact HS0.out)).mono ?_; rintro e w1 ⟨⟨a1, n1, d1, zs1, rfl, hr1, hn1⟩, hS1⟩; have zq0 := hS1.c0; have zq2 := hS1.c2; have zk1 := hS1.k HKB.out hsF f1; have HS1 := hid hS1; have HR1 := hid hr1; clear hS1 hr1)
                | (go_at_call 47; refine (gcontains_gen a1 n1 d1 zs1 x1 _ HR1.out (by omega)).mono ?_; rintro e w2 ⟨⟨bb, rfl⟩, hw⟩; subst w2)
                | fail)
              cases bb
              · go_wp2_with fail
                go_roundw
                case rel => exact ⟨i + 1, by omega, by omega, by go_num, hid (by first | exact HS1.out.lg HWF.out HL.out HG.out | exact HS1.out.drew.lg HWF.out HL.out HG.out)⟩
                case measure => simp [intOf]; omega
              · have k2 := hid (KO.out _ _ _ _ HS1.out)
                by_cases hE : E = 0
                · subst hE
                  go_wp2_with fail
                  refine k2.out.mono ?_
                  rintro e w3 ⟨rfl, G3, hS3⟩
                  have aq0 := hS3.c0
                  have aq2 := hS3.c2
                  have ak1 := hS3.k HKB.out hsF f1
                  have HS3 := hid hS3
                  clear hS3 k2
                  go_wp2_with fail
                  go_region_held3 (fun W => W.cell? ⟨pp, 0, none⟩ = some (.pointer (some ⟨f, 0, none⟩)) ∧ W.cell? ⟨pp, 2, none⟩ = some (.pointer (some ⟨t, 0, none⟩)) ∧ W.cell? ⟨kb, 1, none⟩ = some (.int .i64 x1)) (first | (refine ⟨?_, ?_, ?_⟩ <;> assumption) | go_keep) (first
                    | (go_at_call 17; refine (KI.out _ _ _ _ (by first | exact HS3.out.drew | exact HS3.out)).mono ?_; rintro e w4 ⟨rfl, G4, hS4⟩; have bq0 := hS4.c0; have bq2 := hS4.c2; have bk1 := hS4.k HKB.out hsF f1; have HS4 := hid hS4; clear hS4)
                    | fail)
                  by_cases hR : R.2.2 = 0
                  · have ebr : (R.2.2 != 0) = false := by simp [hR]
                    have HX := hid ((HE2.out (by simp)).1 hR)
                    clear hR
                    go_wp2_with fail
                    go_roundw
                    case rel => exact ⟨i + 1, by omega, by omega, by go_num, hid (by first | exact HS4.out.lg HWF.out HX.out HG.out | exact HS4.out.drew.lg HWF.out HX.out HG.out)⟩
                    case measure => simp [intOf]; omega
                  · have ebr : (R.2.2 != 0) = true := by simp [hR]
                    have HX := hid ((HE2.out (by simp)).2 hR)
                    have k5 := hid (KX.out _ _ _ _ HS4.out)
                    clear hR
                    go_wp2_with fail
                    refine k5.out.mono ?_
                    rintro e w5 ⟨⟨z5, rfl⟩, G5, hS5⟩
                    have HS5 := hid hS5
                    clear hS5 k5
                    go_wp2_with fail
                    go_roundw
                    case rel => exact ⟨i + 1, by omega, by omega, by go_num, hid (by first | exact HS5.out.lg HWF.out HX.out HG.out | exact HS5.out.drew.lg HWF.out HX.out HG.out)⟩
                    case measure => simp [intOf]; omega
                · have HX := hid (HE1.out hE)
                  go_wp2_with fail
                  refine k2.out.mono ?_
                  rintro e w3 ⟨rfl, G3, hS3⟩
                  have HS3 := hid hS3
                  clear hS3 k2
                  go_wp2_with fail
                  go_roundw
                  case rel => exact ⟨i + 1, by omega, by omega, by go_num, hid (by first | exact HS3.out.lg HWF.out HX.out HG.out | exact HS3.out.drew.lg HWF.out HX.out HG.out)⟩
                  case measure => simp [intOf]; omega
          · have eb4 : (wrap64 ((IntKind.u64.wrap x0).tmod 11) == 4) = false := by rw [hq]; simp; omega
            have eb5 : (wrap64 ((IntKind.u64.wrap x0).tmod 11) == 5) = false := by rw [hq]; simp; omega
            have kD := hid (HLF.out.step x0 x1 x2 x3 s hq h11 (by omega) (by omega) s6)
            clear gF hat e0 e1 e2 e3 b1 r1 HQ hq
            go_wp2_with fail
            rw [← GA.out]
            go_wp2_with fail
            refine kD.out.mono ?_
            rintro e w4 ⟨⟨bb, rfl⟩, h4⟩
            have H4 := hid h4
            clear h4 kD
            go_wp2_with fail
            go_roundw
            case rel => exact ⟨i + 1, by omega, by omega, by go_num, H4⟩
            case measure => simp [intOf]; omega
    · obtain rfl : i = ll := by omega
      go_wp2_with fail
      go_ret
      exact ⟨_, _, _, rfl, HQ.out⟩

end Go.Proofs.YtbglhmcahnkbfaaGreat
