/- Texts of this seat, merged. -/
import Derived.Test.YtoknhcjneliboaaGreatFMg34
import Derived.Test.YtoknhcjneliboaaGreatFMg35
import Derived.Test.YtoknhcjneliboaaGreatFMg1
import Derived.WalkMore

/- What the files' 'does' does. -/
namespace Go.Proofs.YtoknhcjneliboaaGreat
open Go.RowKit Go.ChangeMaps Go.MapKept
set_option linter.unusedVariables false

theorem dof_any (pp t x B : Nat) (G D : Nat → Prop) (T : Ft) (m : Int) (x0 x1 x2 x3 : Int) (t4 t5 : ByteArray) (ab : Option Addr) (lb cb : Nat) (bz : List Int) (w : World) (H : Pt w B G D pp t x T T) (hT : TOk T) (hL : LB T.F m) (hm : 1 ≤ m ∧ m ≤ 900000)
    (h4 : t4.size ≤ 1048576) (h5 : t5.size ≤ 1048576) (hx3n : -9223372036854775808 ≤ x3) (hx3 : x3 ≤ 9223372036854775807) (hb : Src w ab lb bz) (hbz : ∀ z ∈ bz, 0 ≤ z ∧ z < 256) (hlb : lb ≤ 140737488355328) (hcb : lb ≤ cb) (hbn : ab = none → lb = 0 ∧ cb = 0) (hbB : 0 < lb → ∀ b o, ab = some ⟨b, o, none⟩ → b < B) :
    Calls Tryz.prog 7 #[.pointer (some ⟨pp, 0, none⟩), .agg #[.int .i64 x0, .int .i64 x1, .int .i64 x2, .int .i64 x3, .string t4, .string t5, .slice ab lb cb]] w (DoF w B pp t x m T) := by
  obtain ⟨s, hq, h12⟩ : ∃ s : Nat, wrap64 ((IntKind.u64.wrap x0).tmod 12) = (s : Int) ∧ s < 12 := by
    have h0 : 0 ≤ IntKind.u64.wrap x0 ∧ IntKind.u64.wrap x0 < 18446744073709551616 := by rw [IntKind.wrap_u64]; omega
    rw [Int.tmod_eq_emod_of_nonneg h0.1]
    refine ⟨(IntKind.u64.wrap x0 % 12).toNat, ?_, by omega⟩
    unfold wrap64; omega
  rcases (show s = 0 ∨ s = 1 ∨ s = 2 ∨ s = 3 ∨ s = 4 ∨ s = 5 ∨ s = 6 ∨ s = 7 ∨ s = 8 ∨ s = 9 ∨ s = 10 ∨ s = 11 by omega) with rfl | rfl | rfl | rfl | rfl | rfl | rfl | rfl | rfl | rfl | rfl | rfl
  · exact dof_0 pp t x B G D T m x0 x1 x2 x3 t4 t5 ab lb cb bz w H hT hL hm h4 h5 hx3n hx3 hb hbz hlb hcb hbn hbB hq
  · exact dof_1 pp t x B G D T m x0 x1 x2 x3 t4 t5 ab lb cb bz w H hT hL hm h4 h5 hx3n hx3 hb hbz hlb hcb hbn hbB hq
  · exact dof_2 pp t x B G D T m x0 x1 x2 x3 t4 t5 ab lb cb bz w H hT hL hm h4 h5 hx3n hx3 hb hbz hlb hcb hbn hbB hq
  · exact dof_3 pp t x B G D T m x0 x1 x2 x3 t4 t5 ab lb cb bz w H hT hL hm h4 h5 hx3n hx3 hb hbz hlb hcb hbn hbB hq
  · exact dof_4 pp t x B G D T m x0 x1 x2 x3 t4 t5 ab lb cb bz w H hT hL hm h4 h5 hx3n hx3 hb hbz hlb hcb hbn hbB hq
  · exact dof_5 pp t x B G D T m x0 x1 x2 x3 t4 t5 ab lb cb bz w H hT hL hm h4 h5 hx3n hx3 hb hbz hlb hcb hbn hbB hq
  · exact dof_6 pp t x B G D T m x0 x1 x2 x3 t4 t5 ab lb cb bz w H hT hL hm h4 h5 hx3n hx3 hb hbz hlb hcb hbn hbB hq
  · exact dof_7 pp t x B G D T m x0 x1 x2 x3 t4 t5 ab lb cb bz w H hT hL hm h4 h5 hx3n hx3 hb hbz hlb hcb hbn hbB hq
  · exact dof_8 pp t x B G D T m x0 x1 x2 x3 t4 t5 ab lb cb bz w H hT hL hm h4 h5 hx3n hx3 hb hbz hlb hcb hbn hbB hq
  · exact dof_9 pp t x B G D T m x0 x1 x2 x3 t4 t5 ab lb cb bz w H hT hL hm h4 h5 hx3n hx3 hb hbz hlb hcb hbn hbB hq
  · exact dof_10 pp t x B G D T m x0 x1 x2 x3 t4 t5 ab lb cb bz w H hT hL hm h4 h5 hx3n hx3 hb hbz hlb hcb hbn hbB hq
  · exact dof_11 pp t x B G D T m x0 x1 x2 x3 t4 t5 ab lb cb bz w H hT hL hm h4 h5 hx3n hx3 hb hbz hlb hcb hbn hbB hq

end Go.Proofs.YtoknhcjneliboaaGreat

/- The road of FilesLives. -/
namespace Go.Proofs.YtoknhcjneliboaaGreat
open Go.RowKit Go.ChangeMaps Go.MapKept
set_option linter.unusedVariables false
set_option maxRecDepth 20000

/-- Both tables behind so many calls. -/
def Lvf (w wr : World) (pp t x : Nat) (d : Int) (i : Nat) : Prop :=
  (∃ G D T, Pt wr w.heap.size G D pp t x T T ∧ TOk T ∧ LB T.F ((i : Int) + 1) ∧ T.F.d = d) ∧ Below w.heap.size w wr

/-- Both are made. -/
theorem Lvf.made {w w1 w2 : World} {t x : Nat} {d : Int} (h1 : Tp w1 t (newT d) (fun b => w.heap.size ≤ b)) (b1 : Below w.heap.size w w1) (h2 : Td w2 x (newT d) (fun b => w1.heap.size ≤ b)) (b2 : Below w1.heap.size w1 w2) :
    Lvf w (w2.alloc (Obj.cells #[.pointer (some ⟨t, 0, none⟩), .pointer (some ⟨x, 0, none⟩)] 29)) w2.heap.size t x d 0 := by
  have b3 : Below w2.heap.size w2 (w2.alloc (Obj.cells #[.pointer (some ⟨t, 0, none⟩), .pointer (some ⟨x, 0, none⟩)] 29)) := (Below.refl _ _).alloc (Nat.le_refl _) _
  have s1 := b1.size
  have s2 := b2.size
  have s3 : (w2.alloc (Obj.cells #[.pointer (some ⟨t, 0, none⟩), .pointer (some ⟨x, 0, none⟩)] 29)).heap.size = w2.heap.size + 1 := by simp
  refine ⟨⟨fun b => w.heap.size ≤ b ∧ b < w1.heap.size, fun b => w1.heap.size ≤ b ∧ b < w2.heap.size, newT d, ⟨heap_alloc_new _ _, ((h1.mono (fun b hb hG => ⟨hG, hb⟩)).grow b2).grow b3, (h2.mono (fun b hb hD => ⟨hD, hb⟩)).grow b3, ?_, ?_, Nat.le_trans s1 s2⟩, TOk.new d, ?_, rfl⟩, (b1.trans (b2.mono s1)).trans (b3.mono (Nat.le_trans s1 s2))⟩
  · intro b hb
    exact ⟨hb.1, by omega, by omega, fun q => by omega⟩
  · intro b hb
    exact ⟨by omega, by omega, by omega⟩
  · exact (LB.root d).mono (by simp)

theorem Lvf.c1 {w wr : World} {pp t x i : Nat} {d : Int} (h : Lvf w wr pp t x d i) : wr.cell? ⟨pp, 0, none⟩ = some (.pointer (some ⟨t, 0, none⟩)) := by
  obtain ⟨⟨G, D, T, h1, _⟩, _⟩ := h
  exact h1.c0

/-- One call more. -/
theorem Lvf.step {w wr : World} {pp t x i j b o : Nat} {d : Int} (h : Lvf w wr pp t x d i) (hi : i ≤ 60) {x0 x1 x2 x3 : Int} {t4 t5 : ByteArray} {ab : Option Addr} {lb cb : Nat} {zs : List Int} (D : Doat w b o j x0 x1 x2 x3 t4 t5 ab lb cb zs) (h4 : t4.size ≤ 1048576) (h5 : t5.size ≤ 1048576) (hz : ∀ z ∈ zs, 0 ≤ z ∧ z < 256) :
    ∀ W, Below wr.heap.size wr W → Calls Tryz.prog 7 #[.pointer (some ⟨pp, 0, none⟩), .agg #[.int .i64 x0, .int .i64 x1, .int .i64 x2, .int .i64 x3, .string t4, .string t5, .slice ab lb cb]] W fun e w' => e = .returned (.bool true) ∧ Lvf w w' pp t x d (i + 1) := by
  intro W hW
  obtain ⟨⟨G, D8, T, h1, h2, h3, h6⟩, hb⟩ := h
  have hbW : Below w.heap.size w W := hb.trans (hW.mono hb.size)
  refine (dof_any pp t x w.heap.size G D8 T ((i : Int) + 1) x0 x1 x2 x3 t4 t5 ab lb cb zs W (h1.grow hW) h2 h3 (by omega) h4 h5 D.b3.1 D.b3.2 (D.src.below hbW) hz D.reach D.le D.nil ?_).mono ?_
  · intro h0 b o e
    obtain ⟨b', o', e', hl, _⟩ := D.src.2 h0
    rw [e] at e'
    cases e'
    exact hl
  · rintro e w' ⟨rfl, G', D', T', q1, ⟨q2, q3, q4⟩, q5⟩
    exact ⟨rfl, ⟨G', D', T', q1, q2, q3.mono (by omega), q4.trans h6⟩, hbW.trans q5⟩

theorem Lvf.same {w wr : World} {pp t x i : Nat} {d : Int} (h : Lvf w wr pp t x d i) : Calls Tryz.prog 8 #[.pointer (some ⟨pp, 0, none⟩)] wr fun e w' => e = .returned (.bool true) ∧ Lvf w w' pp t x d i := by
  obtain ⟨⟨G, D, T, h1, h2, h3, h6⟩, hb⟩ := h
  refine (same_yes8 wr _ G D pp t x T h1 h2).mono ?_
  rintro e w' ⟨rfl, q⟩
  exact ⟨rfl, ⟨G, D, T, h1.grow q, h2, h3, h6⟩, hb.trans (q.mono hb.size)⟩

theorem Lvf.grow {w wr w' : World} {pp t x i : Nat} {d : Int} (h : Lvf w wr pp t x d i) (q : Below wr.heap.size wr w') : Lvf w w' pp t x d i := by
  obtain ⟨⟨G, D, T, h1, h2, h3, h6⟩, hb⟩ := h
  exact ⟨⟨G, D, T, h1.grow q, h2, h3, h6⟩, hb.trans (q.mono hb.size)⟩

set_option maxHeartbeats 4000000 in
theorem flives_road (d : Int) (al : Option Addr) (ll cl : Nat) (w : World) (hd : DosS w al ll) (hll : ll ≤ cl) (hcl : cl ≤ 9223372036854775807) :
    Calls Tryz.prog 3 #[.int .i64 d, .slice al ll cl] w fun e w' => e = .returned (.bool true) ∧ Below w.heap.size w w' := by
  have k1 := hid (tpnew w d)
  have k2 := hid (fun W => tdnew W d)
  have HD := hid hd
  clear hd
  go_enter Tryz.func3, Tryz.ntmps3
  go_wp2_with fail
  refine k1.out.mono ?_
  rintro e w1 ⟨t, rfl, hp1, hb1⟩
  have HP1 := hid hp1
  have HB1 := hid hb1
  clear hp1 hb1 k1
  go_wp2_with fail
  refine (k2.out w1).mono ?_
  rintro e w2 ⟨x, rfl, hr2, hb2⟩
  have HL := hid (Lvf.made HP1.out HB1.out hr2 hb2)
  clear hr2 hb2 k2 HP1 HB1
  go_wp2_with fail
  generalize w2.alloc (Obj.cells #[.pointer (some ⟨t, 0, none⟩), .pointer (some ⟨x, 0, none⟩)] 29) = w3 at HL ⊢
  generalize w2.heap.size = pp at HL ⊢
  go_loopw [16] (fun v16 wr => ∃ i : Nat, i ≤ ll ∧ i ≤ 61 ∧ v16 = .int .i64 (i : Int) ∧ Hid (Lvf w wr pp t x d i)) (fun v16 _ => ll - (intOf v16).toNat)
  case atStart => exact ⟨0, by omega, by omega, rfl, HL⟩
  case round =>
    clear HL
    obtain ⟨i, hil, hi61, rfl, HQ⟩ := hrel
    by_cases h : i < ll
    · obtain ⟨b, o, rfl, hbl, hat⟩ := HD.out (by omega)
      obtain ⟨x0, x1, x2, x3, t4, t5, ab, lb, cb, zs, D0, h4, h5, hz, hc⟩ := hat i h
      have D := D0.below HQ.out.2
      have c0 := D.c0
      have c1 := D.c1
      have c2 := D.c2
      have c3 := D.c3
      have c4 := D.c4
      have c5 := D.c5
      have c6 := D.c6
      obtain ⟨W1, g1⟩ : ∃ W1, W1 = wr.alloc (Obj.cells #[.int .i64 x0, .int .i64 x1, .int .i64 x2, .int .i64 x3, .string t4, .string t5, .slice ab lb cb] 32) := ⟨_, rfl⟩
      have b1 : Below wr.heap.size wr W1 := by rw [g1]; exact (Below.refl _ _).alloc (Nat.le_refl _) _
      have r1 : W1.heap[wr.heap.size]? = some (.cells #[.int .i64 x0, .int .i64 x1, .int .i64 x2, .int .i64 x3, .string t4, .string t5, .slice ab lb cb] 32 (0, 0)) := by rw [g1]; exact heap_alloc_new _ _
      by_cases h60 : 60 < i
      · have i60 : (60 : Int) < (i : Int) := by omega
        have kS := hid (HQ.out.grow b1).same
        have GA := hid g1
        clear g1 D D0 hat h4 h5 hz hc b1 r1 HQ
        go_wp2_with fail
        rw [← GA.out]
        refine kS.out.mono ?_
        rintro e w4 ⟨rfl, h4⟩
        go_wp2_with fail
        go_ret
        exact ⟨rfl, h4.2⟩
      · have i60 : ¬ (60 : Int) < (i : Int) := by omega
        have kD := hid (HQ.out.step (by omega) D0 h4 h5 hz W1 b1)
        have d0 : W1.cell? ⟨wr.heap.size, 0, none⟩ = some (.int .i64 x0) := by rw [cell_of_row W1 _ 0 _ _ _ r1]; rfl
        have d1 : W1.cell? ⟨wr.heap.size, 1, none⟩ = some (.int .i64 x1) := by rw [cell_of_row W1 _ 1 _ _ _ r1]; rfl
        have d2 : W1.cell? ⟨wr.heap.size, 2, none⟩ = some (.int .i64 x2) := by rw [cell_of_row W1 _ 2 _ _ _ r1]; rfl
        have d3 : W1.cell? ⟨wr.heap.size, 3, none⟩ = some (.int .i64 x3) := by rw [cell_of_row W1 _ 3 _ _ _ r1]; rfl
        have d4 : W1.cell? ⟨wr.heap.size, 4, none⟩ = some (.string t4) := by rw [cell_of_row W1 _ 4 _ _ _ r1]; rfl
        have d5 : W1.cell? ⟨wr.heap.size, 5, none⟩ = some (.string t5) := by rw [cell_of_row W1 _ 5 _ _ _ r1]; rfl
        have d6 : W1.cell? ⟨wr.heap.size, 6, none⟩ = some (.slice ab lb cb) := by rw [cell_of_row W1 _ 6 _ _ _ r1]; rfl
        have GA := hid g1
        clear g1 D D0 hat h4 h5 hz hc b1 r1 HQ
        go_wp2_with fail
        rw [← GA.out]
        go_wp2_with fail
        refine kD.out.mono ?_
        rintro e w4 ⟨rfl, h4⟩
        have kS := hid h4.same
        clear h4 kD
        go_wp2_with fail
        refine kS.out.mono ?_
        rintro e w5 ⟨rfl, h5⟩
        have H5 := hid h5
        clear h5 kS
        go_wp2_with fail
        go_roundw
        case rel => exact ⟨i + 1, by omega, by omega, by go_num, H5⟩
        case measure => simp [intOf]; omega
    · obtain rfl : i = ll := by omega
      have kS := hid HQ.out.same
      clear HQ
      go_wp2_with fail
      refine kS.out.mono ?_
      rintro e w4 ⟨rfl, h4⟩
      go_wp2_with fail
      go_ret
      exact ⟨rfl, h4.2⟩

end Go.Proofs.YtoknhcjneliboaaGreat
