/- The road of WireWrites: it returns true for every slice of bytes, int and text within reach, where the table is laid; and leaves what was there. -/
import Derived.Test.YtmnhehicgheheaaDoorRWritten
import Derived.Test.YtmnhehicgheheaaDoorSum
import Derived.Test.YtmnhehicgheheaaDoorClone
import Derived.Test.YtmnhehicgheheaaDoorEqual
namespace Go.Proofs.YtmnhehicgheheaaDoor
open Go.RowKit Num

/-- Of the blocks that were there nothing but 'p' has turned. -/
structure Touch (p : Nat) (w w' : World) : Prop where
  os : w'.os = w.os
  tape : w'.tape = w.tape
  output : w'.output = w.output
  size : w.heap.size ≤ w'.heap.size
  block : ∀ k, k < w.heap.size → k ≠ p → w'.heap[k]? = w.heap[k]?
theorem Touch.refl (p : Nat) (w : World) : Touch p w w := ⟨rfl, rfl, rfl, Nat.le_refl _, fun _ _ _ => rfl⟩
theorem Touch.trans {p : Nat} {a b c : World} (h : Touch p a b) (k : Touch p b c) : Touch p a c :=
  ⟨k.os.trans h.os, k.tape.trans h.tape, k.output.trans h.output, Nat.le_trans h.size k.size, fun i hi hp => (k.block i (Nat.lt_of_lt_of_le hi h.size) hp).trans (h.block i hi hp)⟩
theorem Touch.alloc (p : Nat) (w : World) (o : Obj) : Touch p w (w.alloc o) := ⟨rfl, rfl, rfl, by simp, fun k hk _ => Below.heap_alloc _ _ _ hk⟩
theorem Touch.setCell (p i : Nat) (w : World) (v : Value) : Touch p w (w.setCell ⟨p, i, none⟩ v) := ⟨rfl, rfl, rfl, by simp [World.setCell], fun k _ hp => heap_setCell_other w _ k v hp⟩
theorem Touch.drewN (p n : Nat) (w : World) : Touch p w (w.drewN n) := ⟨rfl, rfl, rfl, Nat.le_refl _, fun _ _ _ => rfl⟩
theorem Touch.below {p B : Nat} {w w' : World} (h : Touch p w w') (hp : B ≤ p) (hB : B ≤ w.heap.size) : Below B w w' := ⟨h.os, h.tape, h.output, h.size, fun k hk => h.block k (by omega) (by omega)⟩
theorem Touch.own {p : Nat} {w w' : World} (h : Touch p w w') {B e size g n c : Nat} {xs : List Value} (ho : w.ownsRow B e size (.slice (some ⟨g, 0, none⟩) n c) n xs) (hg : g ≠ p) : w'.ownsRow B e size (.slice (some ⟨g, 0, none⟩) n c) n xs := by
  have hlt := (ho.lt g rfl).2
  obtain ⟨h1, h2⟩ := ho
  refine ⟨h1, ?_⟩
  rcases h2 with h2 | ⟨g', cap, cur, hv, hb, hh, r⟩
  · exact .inl h2
  · simp only [Value.slice.injEq, Option.some.injEq, Addr.mk.injEq, and_true, true_and] at hv
    obtain ⟨rfl, rfl⟩ := hv
    exact .inr ⟨g, c, cur, rfl, hb, by rw [h.block g hlt hg]; exact hh, r⟩

theorem clone_all (a0 : Option Addr) (len cap : Nat) (zs : List Int) (w : World) (hs : Src w a0 len zs) (hnil : a0 = none → cap = 0) (hr : len ≤ 140737488355328) :
    Calls Tryd.prog 5 #[.slice a0 len cap] w fun e w' => ∃ a1 c, e = .returned (.slice a1 len c) ∧ Src w' a1 len zs ∧ (a1 = none → c = 0) ∧ Below w.heap.size w w' := by
  cases a0 with
  | none =>
    obtain rfl : len = 0 := by
      rcases Nat.eq_zero_or_pos len with h | h
      · exact h
      · obtain ⟨_, _, e, _⟩ := hs.2 h; cases e
    exact (clone_nil 0 cap w).mono fun e w' ⟨he, hw⟩ => ⟨none, 0, he, by rw [hw]; exact hs, fun _ => rfl, by rw [hw]; exact Below.refl _ _⟩
  | some a => exact (clone_any a len cap zs w hs hr).mono fun e w' ⟨g, c, he, ho, hb⟩ => ⟨_, c, he, Src.own ho, fun h => (by cases h), hb⟩

/-- One of three. -/
def at3 {α : Type} (a b c : α) (i : Nat) : α := if i = 0 then a else if i = 1 then b else c

set_option maxHeartbeats 2000000 in
theorem writes_road (a0 : Option Addr) (len cap : Nat) (n : Int) (S : ByteArray) (zs : List Int) (w : World) (hs : Src w a0 len zs) (hz : Bytes zs) (hnil : a0 = none → cap = 0) (hT : Tab w)
    (hn0 : -9223372036854775808 ≤ n) (hn : n ≤ 9223372036854775807) (hl : len ≤ 1099511627776) (hS : S.size ≤ 1099511627776) :
    Calls Tryd.prog 3 #[.slice a0 len cap, .int .i64 n, .string S] w fun e w' => e = .returned (.bool true) ∧ Below w.heap.size w w' := by
  have kc := hid (clone_all a0 len cap zs w hs hnil (by omega))
  obtain ⟨E0, g0⟩ : ∃ E0, E0 = enc n.toNat := ⟨_, rfl⟩
  obtain ⟨E1, g1⟩ : ∃ E1, E1 = enc (fld (clip n)).toNat := ⟨_, rfl⟩
  obtain ⟨E2, g2⟩ : ∃ E2, E2 = enc S.size := ⟨_, rfl⟩
  have k0 := hid (fun (a1 : Option Addr) (c : Nat) (wx : World) (hx : Src wx a1 len zs) => put_any a1 len c n zs wx hx (by omega) hn)
  have k0' := hid (fun (wx : World) (hx : Src wx a0 len zs) => rput_any a0 len cap n n.toNat zs wx hx hnil (by omega) (by omega) hn)
  have k1 := hid (fun (a1 : Option Addr) (c : Nat) (wx : World) (hx : Src wx a1 len zs) => signed_any a1 len c n zs wx hx (by omega))
  have k1' := hid (fun (wx : World) (hx : Src wx a0 len zs) => rsigned_any a0 len cap n zs wx hx hnil (by omega))
  have k2 := hid (fun (a1 : Option Addr) (c : Nat) (wx : World) (hx : Src wx a1 len zs) => text_any a1 len c S zs wx hx (by omega))
  have k2' := hid (fun (wx : World) (hx : Src wx a0 len zs) => rtext_any a0 len cap S zs wx hx hnil (by omega))
  have l0 : E0.length ≤ 9 := by rw [g0, length_enc]; have := cnt_8 n.toNat (by omega); omega
  have f0 : 0 ≤ fld (clip n) ∧ fld (clip n) ≤ 9223372036854775807 := by
    have : -4611686018427387904 ≤ clip n ∧ clip n ≤ 4611686018427387903 := by unfold clip; omega
    unfold fld; split <;> omega
  have l1 : E1.length ≤ 9 := by rw [g1, length_enc]; have := cnt_8 (fld (clip n)).toNat (by omega); omega
  have l2 : E2.length ≤ 9 := by rw [g2, length_enc]; have := cnt_8 S.size (by omega); omega
  rw [← g0] at k0 k0'
  rw [← g1] at k1 k1'
  rw [← g2] at k2 k2'
  have HS := hid hs
  have HZ := hid hz
  have HT := hid hT
  clear g0 g1 g2 hs hz hT f0
  go_enter Tryd.func3, Tryd.ntmps3
  go_wp2_with fail
  refine kc.out.mono ?_
  rintro e w1 ⟨a1, c1, rfl, s1, hnil1, hb1⟩
  have V1 := hid s1
  have N1 := hid hnil1
  have B1 := hid (HS.out.below hb1)
  clear s1 hnil1
  go_wp2_with fail
  refine (k0.out _ _ _ V1.out).mono ?_
  rintro e w2 ⟨rfl, o2, hb2⟩
  have G0 := hid o2
  have V2 := hid (V1.out.below hb2)
  have B2 := hid (B1.out.below hb2)
  have z2 := o2.lt _ rfl
  clear o2
  go_wp2_with fail
  refine (k0'.out _ B2.out).mono ?_
  rintro e w3 ⟨r0, cr0, rfl, o3, hb3⟩
  have R0 := hid o3
  have V3 := hid (V2.out.below hb3)
  have B3 := hid (B2.out.below hb3)
  have z3 := o3.lt _ rfl
  clear o3
  go_wp2_with fail
  refine (k1.out _ _ _ V3.out).mono ?_
  rintro e w4 ⟨rfl, o4, hb4⟩
  have G1 := hid o4
  have V4 := hid (V3.out.below hb4)
  have B4 := hid (B3.out.below hb4)
  have z4 := o4.lt _ rfl
  clear o4
  go_wp2_with fail
  refine (k1'.out _ B4.out).mono ?_
  rintro e w5 ⟨r1, cr1, rfl, o5, hb5⟩
  have R1 := hid o5
  have V5 := hid (V4.out.below hb5)
  have B5 := hid (B4.out.below hb5)
  have z5 := o5.lt _ rfl
  clear o5
  go_wp2_with fail
  refine (k2.out _ _ _ V5.out).mono ?_
  rintro e w6 ⟨c2, rfl, o6, hb6⟩
  have G2 := hid o6
  have V6 := hid (V5.out.below hb6)
  have B6 := hid (B5.out.below hb6)
  have z6 := o6.lt _ rfl
  clear o6
  go_wp2_with fail
  refine (k2'.out _ B6.out).mono ?_
  rintro e w7 ⟨r2, cr2, rfl, o7, hb7⟩
  have R2 := hid o7
  have z7 := o7.lt _ rfl
  clear o7
  go_wp2_with fail
  obtain ⟨W, gW⟩ : ∃ W, W = w7.alloc (Obj.cells #[Value.slice (some ⟨w1.heap.size, 0, none⟩) (len + E0.length) (len + 9), Value.slice (some ⟨r0, 0, none⟩) (len + E0.length) cr0, Value.slice (some ⟨w3.heap.size, 0, none⟩) (len + E1.length) (len + 9), Value.slice (some ⟨r1, 0, none⟩) (len + E1.length) cr1, Value.slice (some ⟨w5.heap.size, 0, none⟩) (len + E2.length + S.size) c2, Value.slice (some ⟨r2, 0, none⟩) (len + E2.length + S.size) cr2] 25) := ⟨_, rfl⟩
  have hbW : Below w7.heap.size w7 W := by rw [gW]; exact (Below.refl _ _).alloc (Nat.le_refl _) _
  have y2 := hb2.size; have y3 := hb3.size; have y4 := hb4.size; have y5 := hb5.size; have y6 := hb6.size; have y7 := hb7.size; have y1 := hb1.size
  have hsW : W.heap.size = w7.heap.size + 1 := by rw [gW]; simp
  obtain ⟨G, gG⟩ : ∃ G : Nat → Nat, G = at3 w1.heap.size w3.heap.size w5.heap.size := ⟨_, rfl⟩
  obtain ⟨R, gR⟩ : ∃ R : Nat → Nat, R = at3 r0 r1 r2 := ⟨_, rfl⟩
  obtain ⟨C, gC⟩ : ∃ C : Nat → Nat, C = at3 (len + 9) (len + 9) c2 := ⟨_, rfl⟩
  obtain ⟨D, gD⟩ : ∃ D : Nat → Nat, D = at3 cr0 cr1 cr2 := ⟨_, rfl⟩
  obtain ⟨L, gL⟩ : ∃ L : Nat → Nat, L = at3 (len + E0.length) (len + E1.length) (len + E2.length + S.size) := ⟨_, rfl⟩
  obtain ⟨Y, gY⟩ : ∃ Y : Nat → List Int, Y = at3 (zs ++ E0) (zs ++ E1) (zs ++ E2 ++ str S) := ⟨_, rfl⟩
  have b37 : Below w3.heap.size w3 W := hb4.trans ((hb5.mono y4).trans ((hb6.mono (by omega)).trans ((hb7.mono (by omega)).trans (hbW.mono (by omega)))))
  have b57 : Below w5.heap.size w5 W := hb6.trans ((hb7.mono (by omega)).trans (hbW.mono (by omega)))
  have b27 : Below w2.heap.size w2 W := hb3.trans (b37.mono y3)
  have b47 : Below w4.heap.size w4 W := hb5.trans (b57.mono y5)
  have b67 : Below w6.heap.size w6 W := hb7.trans (hbW.mono y7)
  have b17 : Below w1.heap.size w1 W := hb2.trans (b27.mono y2)
  have P1 : ∀ j, j < 3 → W.ownsRow w.heap.size 5 1 (.slice (some ⟨G j, 0, none⟩) (L j) (C j)) (L j) ((Y j).map (Value.int .u8)) ∧ W.ownsRow w.heap.size 5 1 (.slice (some ⟨R j, 0, none⟩) (L j) (D j)) (L j) ((Y j).map (Value.int .u8)) := by
    intro j hj
    rw [gG, gR, gC, gD, gL, gY]
    rcases (show j = 0 ∨ j = 1 ∨ j = 2 by omega) with rfl | rfl | rfl
    · exact ⟨own_base (own_below G0.out b27) (by omega), own_base (own_below R0.out b37) (by omega)⟩
    · exact ⟨own_base (own_below G1.out b47) (by omega), own_base (own_below R1.out b57) (by omega)⟩
    · exact ⟨own_base (own_below G2.out b67) (by omega), own_base (own_below R2.out hbW) (by omega)⟩
  have P2 : ∀ j, j < 3 → W.cell? ⟨w7.heap.size, j * 2, none⟩ = some (.slice (some ⟨G j, 0, none⟩) (L j) (C j)) ∧ W.cell? ⟨w7.heap.size, j * 2 + 1, none⟩ = some (.slice (some ⟨R j, 0, none⟩) (L j) (D j)) := by
    intro j hj
    rw [gG, gR, gC, gD, gL, gW]
    rcases (show j = 0 ∨ j = 1 ∨ j = 2 by omega) with rfl | rfl | rfl <;> exact ⟨by simp [go_sem, at3], by simp [go_sem, at3]⟩
  have P3 : ∀ j, j < 3 → w1.heap.size ≤ G j ∧ G j < w7.heap.size ∧ L j ≤ 4398046511104 ∧ (∀ k, k < 3 → (j < k → G j ≠ G k) ∧ G j ≠ R k) := by
    intro j hj
    rw [gG, gR, gL]
    rcases (show j = 0 ∨ j = 1 ∨ j = 2 by omega) with rfl | rfl | rfl
    all_goals
      refine ⟨by simp [at3]; try omega, by simp [at3]; try omega, by simp [at3]; try omega, fun k hk => ?_⟩
      rcases (show k = 0 ∨ k = 1 ∨ k = 2 by omega) with rfl | rfl | rfl <;> (simp [at3]; try omega)
  obtain ⟨BS, gB⟩ : ∃ BS, BS = w7.heap.size := ⟨_, rfl⟩
  rw [← gW]
  rw [← gB] at P2 P3 hsW ⊢
  have Q1 := hid P1
  have Q2 := hid P2
  have Q3 := hid P3
  have V1' := hid V1.out
  have B1' := hid B1.out
  have hb1' := hb1
  clear gG gR gC gD gL gY gW P1 P2 P3 b27 b37 b47 b57 b67 G0 R0 G1 R1 G2 R2 V2 V3 V4 V5 V6 B2 B3 B4 B5 B6 z2 z3 z4 z5 z6 z7 hb2 hb3 hb4 hb5 hb6 hb7 y2 y3 y4 y5 y6 y7 hbW k0 k0' k1 k1' k2 k2' kc gB
  have hBS : BS < W.heap.size := by omega
  go_loopw [36] (fun k wr => ∃ i : Nat, i ≤ 3 ∧ k = .int .i64 i ∧
      Hid (∀ j, i ≤ j → j < 3 → wr.ownsRow w.heap.size 5 1 (.slice (some ⟨G j, 0, none⟩) (L j) (C j)) (L j) ((Y j).map (Value.int .u8)) ∧ wr.ownsRow w.heap.size 5 1 (.slice (some ⟨R j, 0, none⟩) (L j) (D j)) (L j) ((Y j).map (Value.int .u8))) ∧
      Hid (∀ j, j < 3 → wr.cell? ⟨BS, j * 2, none⟩ = some (.slice (some ⟨G j, 0, none⟩) (L j) (C j)) ∧ wr.cell? ⟨BS, j * 2 + 1, none⟩ = some (.slice (some ⟨R j, 0, none⟩) (L j) (D j))) ∧ Below w1.heap.size w1 wr ∧ BS < wr.heap.size) (fun k _ => 3 - (intOf k).toNat)
  case atStart => exact ⟨0, by omega, rfl, fun j _ hj => Q1.out j hj, Q2, b17, hBS⟩
  case round =>
    rename World => wo
    obtain ⟨i, hi3, rfl, HI, HCc, hbr, hBr⟩ := hrel
    by_cases hlt : i < 3
    · have e0 := (HCc.out i hlt).1
      have e1 := (HCc.out i hlt).2
      have hi := HI.out i (Nat.le_refl _) hlt
      have h3 := Q3.out i hlt
      obtain ⟨g, gg⟩ : ∃ g, g = G i := ⟨_, rfl⟩
      obtain ⟨r, gr⟩ : ∃ r, r = R i := ⟨_, rfl⟩
      obtain ⟨l, gl⟩ : ∃ l, l = L i := ⟨_, rfl⟩
      obtain ⟨cg, gcg⟩ : ∃ cg, cg = C i := ⟨_, rfl⟩
      obtain ⟨cr, gcr⟩ : ∃ cr, cr = D i := ⟨_, rfl⟩
      obtain ⟨y, gy⟩ : ∃ y, y = Y i := ⟨_, rfl⟩
      rw [← gg, ← gl, ← gcg] at e0
      rw [← gr, ← gl, ← gcr] at e1
      rw [← gg, ← gr, ← gl, ← gcg, ← gcr, ← gy] at hi
      rw [← gg, ← gl] at h3
      have hgl := (hi.1.lt g rfl).2
      have hrl := (hi.2.lt r rfl).2
      obtain ⟨WX, gWX⟩ : ∃ WX, WX = wo.alloc (Obj.cells #[Value.slice (some ⟨g, 0, none⟩) l cg, Value.slice (some ⟨r, 0, none⟩) l cr] 25) := ⟨_, rfl⟩
      have hbX : Below wo.heap.size wo WX := by rw [gWX]; exact (Below.refl _ _).alloc (Nat.le_refl _) _
      have hsX : WX.heap.size = wo.heap.size + 1 := by rw [gWX]; simp
      have x0 : WX.cell? ⟨wo.heap.size, 0, none⟩ = some (.slice (some ⟨g, 0, none⟩) l cg) := by rw [gWX]; simp [go_sem]
      have x1 : WX.cell? ⟨wo.heap.size, 1, none⟩ = some (.slice (some ⟨r, 0, none⟩) l cr) := by rw [gWX]; simp [go_sem]
      have O1 := hid (own_below hi.1 hbX)
      have O2 := hid (own_below hi.2 hbX)
      have GG := hid (And.intro gg (And.intro gr (And.intro gl (And.intro gcg (And.intro gcr gy)))))
      have H3 := hid h3
      have hl3 := h3.2.2.1
      have SX := hid hsX
      clear gg gr gl gcg gcr gy hi h3 hsX
      go_wp2_with fail
      rw [← gWX]
      clear gWX
      refine (equal_yes _ _ _ _ _ _ y _ (Src.own O1.out) (Src.own O2.out)).mono ?_
      rintro e wy ⟨rfl, rfl⟩
      go_wp2_with fail
      have tX : Touch g wo wy := ⟨hbX.os, hbX.tape, hbX.output, hbX.size, fun k hk _ => hbX.block k hk⟩
      have hgne : wo.heap.size ≠ g := by omega
      go_loopw [49] (fun k wi => ∃ j : Nat, j ≤ l ∧ k = .int .i64 j ∧ Hid (∃ ys : List Int, wi.ownsRow w.heap.size 5 1 (.slice (some ⟨g, 0, none⟩) l cg) l (ys.map (Value.int .u8))) ∧ Touch g wy wi) (fun k _ => l - (intOf k).toNat)
      case atStart => exact ⟨0, Nat.zero_le _, rfl, hid ⟨y, O1.out⟩, Touch.refl _ _⟩
      case round =>
        obtain ⟨j, hj, rfl, HY, ht⟩ := hrel
        have hsz := SX.out
        have hts := ht.size
        by_cases hjl : j < l
        · obtain ⟨ys, hys⟩ := HY.out
          have x0' : wr.cell? ⟨wo.heap.size, 0, none⟩ = some (.slice (some ⟨g, 0, none⟩) l cg) := (World.cell?_of_block (w := wy) (ht.block wo.heap.size (by omega) hgne)).trans x0
          have hyl : ys.length = l := by have := hys.1; simpa using this
          have hcj : wr.cell? ⟨g, j, none⟩ = some (.int .u8 (ys.getD j 0)) := by
            rw [hys.cellAt j (by omega)]
            simp [List.getD, List.getElem?_eq_getElem (show j < ys.length by omega)]
          obtain ⟨v, gv⟩ : ∃ v, v = ys.getD j 0 := ⟨_, rfl⟩
          rw [← gv] at hcj
          have hfr : wr.frozen? ⟨g, j, none⟩ = false := hys.frozenAt j
          have HYS := hid hys
          clear gv hys hyl
          go_wp2_with fail
          go_roundw
          case rel =>
            have key : ∀ u : Int, ∃ ys' : List Int, (wr.setCell ⟨g, j, none⟩ (.int .u8 u)).ownsRow w.heap.size 5 1 (.slice (some ⟨g, 0, none⟩) l cg) l (ys'.map (Value.int .u8)) :=
              fun u => ⟨ys.set j u, by rw [List.map_set]; exact (HYS.out.stored j _).1⟩
            exact ⟨j + 1, by omega, by go_num, key _, ht.trans (Touch.setCell g j _ _)⟩
          case measure => simp [intOf]; omega
        · obtain rfl : j = l := by omega
          have htt : Touch g wo wr := tX.trans ht
          have hgg := GG.out
          have h3 := H3.out
          have HI' : Hid (∀ k, i + 1 ≤ k → k < 3 → wr.ownsRow w.heap.size 5 1 (.slice (some ⟨G k, 0, none⟩) (L k) (C k)) (L k) ((Y k).map (Value.int .u8)) ∧ wr.ownsRow w.heap.size 5 1 (.slice (some ⟨R k, 0, none⟩) (L k) (D k)) (L k) ((Y k).map (Value.int .u8))) := by
            intro k hk hk3
            have hne := h3.2.2.2 k hk3
            have ho := HI.out k (by omega) hk3
            exact ⟨htt.own ho.1 (Ne.symm (hne.1 (by omega))), htt.own ho.2 (Ne.symm hne.2)⟩
          have HC' : Hid (∀ k, k < 3 → wr.cell? ⟨BS, k * 2, none⟩ = some (.slice (some ⟨G k, 0, none⟩) (L k) (C k)) ∧ wr.cell? ⟨BS, k * 2 + 1, none⟩ = some (.slice (some ⟨R k, 0, none⟩) (L k) (D k))) := by
            intro k hk
            have hc := HCc.out k hk
            have hbk := htt.block BS hBr (by omega)
            exact ⟨(World.cell?_of_block (w := wo) hbk).trans hc.1, (World.cell?_of_block (w := wo) hbk).trans hc.2⟩
          have hb' : Below w1.heap.size w1 wr := hbr.trans (htt.below h3.1 hbr.size)
          have hBr' : BS < wr.heap.size := by omega
          clear hgg h3 htt
          go_wp2_with fail
          go_roundw
          case rel => exact ⟨i + 1, by omega, by go_num, HI', HC', hb', hBr'⟩
          case measure => simp [intOf]; omega
    · obtain rfl : i = 3 := by omega
      have hT1 := HT.out.below hb1' (World.block_lt_of_cell? _ _ (HT.out 0 (by omega)))
      have hp1 : 0 < w1.heap.size := World.block_lt_of_cell? _ _ (hT1 0 (by omega))
      have hT3 := hT1.below hbr hp1
      have sV := V1'.out.below hbr
      have sB := B1'.out.below hbr
      have q1 := hid (equal_yes a1 a0 len c1 len cap zs wo sV sB)
      have q2 := hid (sum_any a1 len c1 zs wo sV HZ.out hT3 (by omega))
      have q3 := hid (rsum_any a0 len cap zs wo sB HZ.out (by omega))
      obtain ⟨sm, gs⟩ : ∃ sm, sm = Crc.crc zs := ⟨_, rfl⟩
      rw [← gs] at q2 q3
      clear gs hT1 hT3 sV sB
      go_wp2_with fail
      refine q1.out.mono ?_
      rintro e wz ⟨rfl, rfl⟩
      go_wp2_with fail
      refine q2.out.mono ?_
      rintro e wz ⟨rfl, rfl⟩
      go_wp2_with fail
      refine q3.out.mono ?_
      rintro e wz ⟨rfl, rfl⟩
      go_wp2_with fail
      go_ret
      exact ⟨rfl, hb1'.trans (hbr.mono hb1'.size)⟩

end Go.Proofs.YtmnhehicgheheaaDoor
