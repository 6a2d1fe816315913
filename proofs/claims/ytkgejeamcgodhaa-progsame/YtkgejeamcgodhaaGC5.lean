/- Bytes that were cloned; the visitor that clones what an argument names. (Written by gen_copy.py.) -/
import Derived.Test.YtkgejeamcgodhaaGC4
import Derived.Test.YtkgejeamcgodhaaGU1
import Derived.Deep.RegionLaw
namespace Go.Proofs.Ytkgejeamcgodhaa
open Go.RowKit
set_option linter.unusedVariables false
set_option maxRecDepth 20000

theorem bcl_any (ba : Option Addr) (bn bc : Nat) (bs : List Int) (w : World) (h : Src w ba bn bs) (hr : bn ≤ 140737488355328) :
    Calls Try.prog 75 #[.slice ba bn bc] w fun e w' => ∃ a c, e = .returned (.slice a bn c) ∧ bn ≤ c ∧ c ≤ 9223372036854775807 ∧ Src w' a bn bs ∧ BytS (w.heap.size ≤ ·) w' a bn ∧ Below w.heap.size w w' := by
  cases ba with
  | none =>
    have h0 : bn = 0 := by
      rcases Nat.eq_zero_or_pos bn with z | z
      · exact z
      · obtain ⟨_, _, e, _⟩ := h.2 z; cases e
    subst h0
    refine (bsclone_nil 0 bc w).mono ?_
    rintro e w' ⟨rfl, rfl⟩
    exact ⟨none, 0, rfl, Nat.le_refl _, by omega, ⟨h.1, fun z => absurd z (by omega)⟩, fun z => absurd z (by omega), Below.refl _ _⟩
  | some ad =>
    refine (bsclone_any ad bn bc (bs.map (Value.int .u8)) w (by simp [h.1]) (fun u hu => by obtain ⟨z, _, rfl⟩ := List.mem_map.1 hu; rfl) (fun j u hj => ?_) hr).mono ?_
    · have hjl : j < bs.length := by have := (List.getElem?_eq_some_iff.1 hj).1; simpa using this
      have hbl := h.1
      obtain ⟨b, o, e, hlt, hc⟩ := h.2 (by omega)
      injection e with e
      subst e
      refine ⟨b, o, rfl, hlt, ?_⟩
      rw [hc j (by omega), ← hj]
      simp [List.getD, List.getElem?_eq_getElem hjl]
    · rintro e w' ⟨g, c, rfl, ho, hb⟩
      have hbl := h.1
      rcases ho.2 with ⟨e, _⟩ | ⟨g', cap, cur, e, hg', hcur, hcap, hmx, hcs, htk⟩
      · cases e
      · injection e with e1 e2 e3
        injection e1 with e1
        injection e1 with e1
        subst e1; subst e3
        have f : ∀ j, j < bn → cur[j]? = some (.int .u8 (bs.getD j 0)) := fun j hj => by
          have : (bs.map (Value.int .u8))[j]? = some (.int .u8 (bs.getD j 0)) := by
            rw [List.getElem?_map, List.getD_eq_getElem?_getD, List.getElem?_eq_getElem (by omega)]
            rfl
          rw [← this, ← htk, List.getElem?_take, if_pos (by omega)]
          simp
        refine ⟨_, c, rfl, hcap, by unfold maxLen at hmx; omega, ⟨h.1, fun h0 => ⟨g, 0, rfl, (Array.getElem?_eq_some_iff.1 hcur).1, fun j hj => ?_⟩⟩, fun h0 => ⟨g, cur, rfl, hg', hcur, fun j hj => ⟨_, f j hj⟩⟩, hb⟩
        rw [Nat.zero_add, cell_of_row w' g j _ 5 (0, 0) hcur]
        exact f j hj

theorem bcl2_any (ba : Option Addr) (bn bc : Nat) (bs : List Int) (w : World) (h : Src w ba bn bs) (hr : bn ≤ 140737488355328) :
    Calls Try.prog 77 #[.slice ba bn bc] w fun e w' => ∃ a c, e = .returned (.slice a bn c) ∧ bn ≤ c ∧ c ≤ 9223372036854775807 ∧ Src w' a bn bs ∧ BytS (w.heap.size ≤ ·) w' a bn ∧ Below w.heap.size w w' := by
  cases ba with
  | none =>
    have h0 : bn = 0 := by
      rcases Nat.eq_zero_or_pos bn with z | z
      · exact z
      · obtain ⟨_, _, e, _⟩ := h.2 z; cases e
    subst h0
    refine (bclone_nil 0 bc w).mono ?_
    rintro e w' ⟨rfl, rfl⟩
    exact ⟨none, 0, rfl, Nat.le_refl _, by omega, ⟨h.1, fun z => absurd z (by omega)⟩, fun z => absurd z (by omega), Below.refl _ _⟩
  | some ad =>
    refine (bclone_any ad bn bc (bs.map (Value.int .u8)) w (by simp [h.1]) (fun u hu => by obtain ⟨z, _, rfl⟩ := List.mem_map.1 hu; rfl) (fun j u hj => ?_) hr).mono ?_
    · have hjl : j < bs.length := by have := (List.getElem?_eq_some_iff.1 hj).1; simpa using this
      have hbl := h.1
      obtain ⟨b, o, e, hlt, hc⟩ := h.2 (by omega)
      injection e with e
      subst e
      refine ⟨b, o, rfl, hlt, ?_⟩
      rw [hc j (by omega), ← hj]
      simp [List.getD, List.getElem?_eq_getElem hjl]
    · rintro e w' ⟨g, c, rfl, ho, hb⟩
      have hbl := h.1
      rcases ho.2 with ⟨e, _⟩ | ⟨g', cap, cur, e, hg', hcur, hcap, hmx, hcs, htk⟩
      · cases e
      · injection e with e1 e2 e3
        injection e1 with e1
        injection e1 with e1
        subst e1; subst e3
        have f : ∀ j, j < bn → cur[j]? = some (.int .u8 (bs.getD j 0)) := fun j hj => by
          have : (bs.map (Value.int .u8))[j]? = some (.int .u8 (bs.getD j 0)) := by
            rw [List.getElem?_map, List.getD_eq_getElem?_getD, List.getElem?_eq_getElem (by omega)]
            rfl
          rw [← this, ← htk, List.getElem?_take, if_pos (by omega)]
          simp
        refine ⟨_, c, rfl, hcap, by unfold maxLen at hmx; omega, ⟨h.1, fun h0 => ⟨g, 0, rfl, (Array.getElem?_eq_some_iff.1 hcur).1, fun j hj => ?_⟩⟩, fun h0 => ⟨g, cur, rfl, hg', hcur, fun j hj => ⟨_, f j hj⟩⟩, hb⟩
        rw [Nat.zero_add, cell_of_row w' g j _ 5 (0, 0) hcur]
        exact f j hj

theorem OwnR.upd {B g : Nat} {w w' : World} {a : Option Addr} {qs : List Ar} (h : OwnR B w a qs) (u : Upd (· = g) w w') (hg : g < B) : OwnR B w' a qs := fun h0 => by
  obtain ⟨g', C, e, hB, hg', hc⟩ := h h0
  have ne : ¬ g' = g := by omega
  exact ⟨g', C, e, hB, u.heap hg' ne, fun j hj => (hc j hj).blk (u.block g' (Array.getElem?_eq_some_iff.1 hg').1 ne)⟩
theorem OwnR.below {B : Nat} {w w' : World} {a : Option Addr} {qs : List Ar} (h : OwnR B w a qs) (u : Below w.heap.size w w') : OwnR B w' a qs := fun h0 => by
  obtain ⟨g', C, e, hB, hg', hc⟩ := h h0
  have hl := (Array.getElem?_eq_some_iff.1 hg').1
  exact ⟨g', C, e, hB, (u.block g' hl).trans hg', fun j hj => (hc j hj).blk (u.block g' hl)⟩
theorem OwnR.base {B B' : Nat} {w : World} {a : Option Addr} {qs : List Ar} (h : OwnR B w a qs) (hb : B' ≤ B) : OwnR B' w a qs := fun h0 => by
  obtain ⟨g', C, e, hB, r⟩ := h h0
  exact ⟨g', C, e, by omega, r⟩

/-- What the visitor leaves: the argument names clones. -/
structure Cpd (W W' : World) (g i : Nat) (C : Array Value) (A : Ar) (ka : Option Addr) (kc : Nat) (ba : Option Addr) (bc : Nat) : Prop where
  blk : W'.heap[g]? = some (.cells ((C.setIfInBounds (i * 4 + 2) (.slice ka A.h.kn kc)).setIfInBounds (i * 4 + 3) (.slice ba A.h.bn bc)) 30 (0, 0))
  km : A.h.kn ≤ kc
  kb : kc ≤ 9223372036854775807
  bm : A.h.bn ≤ bc
  bb : bc ≤ 9223372036854775807
  row : OwnR W.heap.size W' ka A.ks
  src : Src W' ba A.h.bn A.h.bs
  byt : BytS (W.heap.size ≤ ·) W' ba A.h.bn
  upd : Upd (· = g) W W'

set_option maxHeartbeats 8000000 in
theorem copy1_any (d : Nat) (W : World) (g i : Nat) (C : Array Value) (A : Ar) (ra : Option Addr) (rn rc : Nat) (hg : W.heap[g]? = some (.cells C 30 (0, 0))) (hat : HdAt W g (i * 4) A.h) (hA : A.h.Ok W) (hK : Krow d W A.h.ka A.ks) (hl : A.ks.length = A.h.kn) (h1 : A.h.kn ≤ 2199023255552) (h2 : A.h.bn ≤ 140737488355328)
    (hne : 0 < A.h.bn → ∀ b o, A.h.ba = some ⟨b, o, none⟩ → b ≠ g) :
    Calls Try.prog 74 #[.agg (spZ g (i * 4) ra rn rc).toArray] W fun e W' => e = .returned (.bool true) ∧ ∃ ka kc ba bc, Cpd W W' g i C A ka kc ba bc := by
  obtain ⟨X, gX⟩ : ∃ X, W.alloc (.cells (spZ g (i * 4) ra rn rc).toArray 81) = X := ⟨_, rfl⟩
  have hBX : Below W.heap.size W X := by rw [← gX]; exact below_box W _
  have x0 : X.heap[W.heap.size]? = some (.cells (spZ g (i * 4) ra rn rc).toArray 81 (0, 0)) := by rw [← gX]; exact heap_alloc_new _ _
  have s0 : X.cell? ⟨W.heap.size, 0, none⟩ = some (.pointer (some ⟨g, i * 4, none⟩)) := by rw [cell_of_row _ _ 0 _ _ _ x0]; rfl
  have hgW : g < W.heap.size := (Array.getElem?_eq_some_iff.1 hg).1
  have hsX : X.heap.size = W.heap.size + 1 := by rw [← gX]; simp
  have xg : X.heap[g]? = some (.cells C 30 (0, 0)) := (hBX.block g hgW).trans hg
  obtain ⟨c0, c1, c2, c3⟩ := hd_cells hg hat
  have q2 : X.cell? ⟨g, i * 4 + 2, none⟩ = some (.slice A.h.ka A.h.kn A.h.kc) := (cell_of_row _ _ (i * 4 + 2) _ _ _ xg).trans c2
  have k1 := hid (fun wx (hb : Below X.heap.size X wx) => kclone_any d A.h.ka A.h.kn A.h.kc A.ks wx (hK.below (hBX.trans (hb.mono hBX.size))) hl h1)
  have HX0 : Hid (W.alloc (.cells #[.pointer (some ⟨g, i * 4, none⟩), .int .i64 (-1), .int .i64 0, .int .i64 0, .int .i64 0, .int .i64 0, .int .i64 0, .string .empty, .slice none 0 0, .slice none 0 0, .slice none 0 0, .slice none 0 0, .slice ra rn rc, .slice none 0 0, .slice none 0 0] 81) = X) := hid gX
  have HBX := hid hBX
  have HXG := hid xg
  have HX00 := hid x0
  have HC3 := hid c3
  have HA := hid hA
  have HSX := hid hsX
  have hgX : g < X.heap.size := by omega
  have hwX : W.heap.size < X.heap.size := by omega
  have hgw : g ≠ W.heap.size := by omega
  clear hg hat hA hK gX x0 xg c0 c1 c2 c3 hBX hsX
  unfold spZ
  rw [← HX0.out] at s0 q2
  go_enter Try.func74, Try.ntmps74
  go_wp2_with fail
  rw [HX0.out]
  rw [HX0.out] at s0 q2
  go_region_law (go_simp; go_at_call 73; refine (k1.out _ (below_hp (Below.refl _ X) (by rfl) (by rfl) (by rfl) (by rfl))).mono ?_; rintro e w1 ⟨ka, kc, rfl, hkm, hkb, hOR, hb1⟩; have hb1' : Below X.heap.size X w1 := (below_hp (Below.refl _ X) (by rfl) (by rfl) (by rfl) (by rfl)).trans hb1; have HB1 := hid hb1'; have HOR : Hid (OwnR X.heap.size w1 ka A.ks) := hid hOR; have s1 : w1.cell? ⟨W.heap.size, 0, none⟩ = some (.pointer (some ⟨g, i * 4, none⟩)) := (HB1.out.cell (p := ⟨W.heap.size, 0, none⟩) hwX).trans s0; have g1 : w1.heap[g]? = some (.cells C 30 (0, 0)) := (HB1.out.block g hgX).trans HXG.out; have p2 : w1.cell? ⟨g, i * 4 + 2, none⟩ = some (.slice A.h.ka A.h.kn A.h.kc) := (HB1.out.cell (p := ⟨g, i * 4 + 2, none⟩) hgX).trans q2; have f2 : w1.frozen? ⟨g, i * 4 + 2, none⟩ = false := (by simp [World.frozen?, g1]); have HG1 := hid g1; clear hb1 hb1' hOR g1)
  all_goals
    obtain ⟨Y, gY⟩ : ∃ Y, w1.setCell ⟨g, i * 4 + 2, none⟩ (.slice ka A.h.kn kc) = Y := ⟨_, rfl⟩
    rw [gY]
    have hs1 := HB1.out.size
    have uY : Upd (· = g) w1 Y := by rw [← gY]; exact Upd.setCell w1 _ _ rfl
    have yg : Y.heap[g]? = some (.cells (C.setIfInBounds (i * 4 + 2) (.slice ka A.h.kn kc)) 30 (0, 0)) := by rw [← gY]; exact heap_setCell_same w1 g (i * 4 + 2) C _ _ HG1.out
    have sY : Y.cell? ⟨W.heap.size, 0, none⟩ = some (.pointer (some ⟨g, i * 4, none⟩)) := (World.cell?_of_block (a := ⟨W.heap.size, 0, none⟩) (uY.block W.heap.size (by omega) (fun e => hgw e.symm))).trans s1
    have q3 : Y.cell? ⟨g, i * 4 + 3, none⟩ = some (.slice A.h.ba A.h.bn A.h.bc) := (cell_of_row _ _ (i * 4 + 3) _ _ _ yg).trans (by rw [Array.getElem?_setIfInBounds_ne (by omega)]; exact HC3.out)
    have uWY : Upd (· = g) W Y := ((Upd.of_below HBX.out).trans (Upd.of_below (F := (· = g)) HB1.out) (fun _ _ h => h)).trans uY (fun _ _ h => h)
    have hsrc : Src Y A.h.ba A.h.bn A.h.bs := by
      rcases Nat.eq_zero_or_pos A.h.bn with hz | hp
      · exact ⟨HA.out.bs.1, fun h0 => absurd h0 (by omega)⟩
      · exact uWY.src HA.out.bs (fun b o e f => hne hp b o e f)
    have k2 := hid (fun wx (hb : Below Y.heap.size Y wx) => bcl_any A.h.ba A.h.bn A.h.bc A.h.bs wx (hsrc.below hb) h2)
    have hORY := HOR.out.upd uY hgX
    have HORY := hid hORY
    have HYG := hid yg
    have HUWY := hid uWY
    have hgY : g < Y.heap.size := (Array.getElem?_eq_some_iff.1 yg).1
    have hwY : W.heap.size < Y.heap.size := by have := uY.size; omega
    have hWY := uWY.size
    have HXY : Hid (X.heap.size ≤ Y.heap.size) := hid (by have := uY.size; omega)
    clear gY uY yg hsrc uWY hORY f2 p2 s1 hs1
    go_wp2_with fail
    go_region_law (go_simp; go_at_call 75; refine (k2.out _ (below_hp (Below.refl _ Y) (by rfl) (by rfl) (by rfl) (by rfl))).mono ?_; rintro e w2 ⟨ba, bc, rfl, hbm, hbb, hSr, hBy, hb2⟩; have hb2' : Below Y.heap.size Y w2 := (below_hp (Below.refl _ Y) (by rfl) (by rfl) (by rfl) (by rfl)).trans hb2; have HB2 := hid hb2'; have HSr := hid hSr; have HBy : Hid (BytS (Y.heap.size ≤ ·) w2 ba A.h.bn) := hid hBy; have s2 : w2.cell? ⟨W.heap.size, 0, none⟩ = some (.pointer (some ⟨g, i * 4, none⟩)) := (HB2.out.cell (p := ⟨W.heap.size, 0, none⟩) hwY).trans sY; have g2 : w2.heap[g]? = some (.cells (C.setIfInBounds (i * 4 + 2) (.slice ka A.h.kn kc)) 30 (0, 0)) := (HB2.out.block g hgY).trans HYG.out; have p3 : w2.cell? ⟨g, i * 4 + 3, none⟩ = some (.slice A.h.ba A.h.bn A.h.bc) := (HB2.out.cell (p := ⟨g, i * 4 + 3, none⟩) hgY).trans q3; have f3 : w2.frozen? ⟨g, i * 4 + 3, none⟩ = false := (by simp [World.frozen?, g2]); have HG2 := hid g2; clear hb2 hb2' hSr hBy g2)
    all_goals
      obtain ⟨Z, gZ⟩ : ∃ Z, w2.setCell ⟨g, i * 4 + 3, none⟩ (.slice ba A.h.bn bc) = Z := ⟨_, rfl⟩
      rw [gZ]
      have uZ : Upd (· = g) w2 Z := by rw [← gZ]; exact Upd.setCell w2 _ _ rfl
      have hs2 := HB2.out.size
      have HF : Hid (Cpd W Z g i C A ka kc ba bc) := hid ⟨by rw [← gZ]; exact heap_setCell_same w2 g (i * 4 + 3) _ _ _ HG2.out, hkm, hkb, hbm, hbb,
        ((HORY.out.below HB2.out).upd uZ hgX).base (by omega), (by
          rcases Nat.eq_zero_or_pos A.h.bn with hz | hp
          · exact ⟨HSr.out.1, fun h0 => absurd h0 (by omega)⟩
          · obtain ⟨g', _, e', hP', _⟩ := HBy.out hp
            exact uZ.src HSr.out (fun b o e f => by
              rw [e'] at e
              injection e with e
              injection e with e1
              have hP2 : Y.heap.size ≤ g' := hP'
              omega)),
        fun h0 => by
          obtain ⟨g', C', e', hP', hg', r⟩ := (HBy.out.upd uZ (fun x (hx : Y.heap.size ≤ x) e => by omega)) h0
          have hP2 : Y.heap.size ≤ g' := hP'
          exact ⟨g', C', e', by show W.heap.size ≤ g'; omega, hg', r⟩,
        (HUWY.out.trans (Upd.of_below (F := (· = g)) HB2.out) (fun _ _ h => h)).trans uZ (fun _ _ h => h)⟩
      clear gZ uZ f3 p3 s2
      go_wp2_with fail
      go_ret
      exact ⟨rfl, ka, kc, ba, bc, HF.out⟩

end Go.Proofs.Ytkgejeamcgodhaa
