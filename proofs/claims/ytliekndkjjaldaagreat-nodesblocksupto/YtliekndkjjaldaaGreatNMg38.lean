/- Texts of this seat, merged. -/
import Derived.Test.YtliekndkjjaldaaGreatNMg15
import Derived.Test.YtliekndkjjaldaaGreatNMg37
import Derived.Test.YtliekndkjjaldaaGreatNMg1
import Derived.WalkMore
import Derived.Test.YtliekndkjjaldaaGreatNMg22
import Derived.Test.YtliekndkjjaldaaGreatChecked
import Derived.Maps.OwnOps
import Derived.Maps.OwnSet
import Derived.Maps.RangeWalk

/- The document's New with any defects. -/
namespace Go.Proofs.YtliekndkjjaldaaGreat
open Go.RowKit
set_option linter.unusedVariables false
set_option maxRecDepth 20000

def noU6 : List Value := (madeCells (Value.bool false).cells (25 * 1)).toList
theorem noU6_len : noU6.length = 25 := by simp [noU6, size_madeCells]
theorem noU6_at (b : Nat) (hb : b < 25) : noU6[b]? = some (.bool false) := by
  rcases (show b = 0 ∨ b = 1 ∨ b = 2 ∨ b = 3 ∨ b = 4 ∨ b = 5 ∨ b = 6 ∨ b = 7 ∨ b = 8 ∨ b = 9 ∨ b = 10 ∨ b = 11 ∨ b = 12 ∨ b = 13 ∨ b = 14 ∨ b = 15 ∨ b = 16 ∨ b = 17 ∨ b = 18 ∨ b = 19 ∨ b = 20 ∨ b = 21 ∨ b = 22 ∨ b = 23 ∨ b = 24 by omega) with rfl | rfl | rfl | rfl | rfl | rfl | rfl | rfl | rfl | rfl | rfl | rfl | rfl | rfl | rfl | rfl | rfl | rfl | rfl | rfl | rfl | rfl | rfl | rfl | rfl <;> kernel_rfl
theorem noR6_at (i : Nat) (hi : i < 17) : noR6[i * 6]? = some (.int .i64 0) ∧ noR6[i * 6 + 1]? = some (.int .i64 0) ∧ noR6[i * 6 + 2]? = some (.int .i64 0) ∧ noR6[i * 6 + 3]? = some (.slice none 0 0) ∧ noR6[i * 6 + 4]? = some (.slice none 0 0) ∧ noR6[i * 6 + 5]? = some (.slice none 0 0) := by
  rcases (show i = 0 ∨ i = 1 ∨ i = 2 ∨ i = 3 ∨ i = 4 ∨ i = 5 ∨ i = 6 ∨ i = 7 ∨ i = 8 ∨ i = 9 ∨ i = 10 ∨ i = 11 ∨ i = 12 ∨ i = 13 ∨ i = 14 ∨ i = 15 ∨ i = 16 by omega) with rfl | rfl | rfl | rfl | rfl | rfl | rfl | rfl | rfl | rfl | rfl | rfl | rfl | rfl | rfl | rfl | rfl <;> exact ⟨by kernel_rfl, by kernel_rfl, by kernel_rfl, by kernel_rfl, by kernel_rfl, by kernel_rfl⟩

/-- The root is laid. -/
theorem Rf.made {w : World} {x g u : Nat} {d : Int} (h1 : w.heap[x]? = some (.cells #[.slice (some ⟨g, 0, none⟩) 17 17, .slice (some ⟨u, 0, none⟩) 25 25, .int .i64 d] 63 (0, 0))) (h2 : w.heap[g]? = some (.cells noR6.toArray 66 (0, 0))) (h3 : w.heap[u]? = some (.cells noU6.toArray 4 (0, 0))) (hn : x ≠ g ∧ x ≠ u ∧ g ≠ u)
    {N : List Value} (hN : N = [.int .i64 2, .int .i64 1, .int .i64 0, .slice none 0 0, .slice none 0 0, .slice none 0 0]) : Rf (w.setCells g 6 N) x g u (noV (fun _ => .slice none 0 0) 1) (rootF d) := by
  have H : Rf w x g u (fun _ => .slice none 0 0) ⟨d, fun _ => Fn.no, fun _ => false⟩ :=
    ⟨h1, ⟨noR6, h2, noR6_len, fun i hi => noR6_at i hi⟩, ⟨noU6, h3, noU6_len, fun b hb => noU6_at b hb⟩, fun i hi => World.ownsRow_nil _ _ _ _, fun i hi => World.ownsRow_nil _ _ _ _, fun i hi => World.ownsRow_nil _ _ _ _,
      fun i j b _ _ h => by simp [Value.ownBlock] at h, fun i b _ h => by simp [Value.ownBlock] at h, hn⟩
  rw [hN]
  exact H.node 1 (by omega) (Fn.nu 2) rfl rfl rfl
theorem root_foot {x g u b : Nat} (h : RfFoot x g u (noV (fun _ => Value.slice none 0 0) 1) b) : b = x ∨ b = g ∨ b = u := by
  rcases h with h | h | h | ⟨i, _, h⟩
  · exact .inl h
  · exact .inr (.inl h)
  · exact .inr (.inr h)
  · exact absurd (noV_own h).2 (by simp [Value.ownBlock])

set_option maxHeartbeats 2000000 in
set_option maxRecDepth 20000 in
theorem rnew_any (w : World) (d : Int) :
    Calls Tryz.prog 7 #[.int .i64 d] w fun e w' => ∃ x g u V, e = .returned (.pointer (some ⟨x, 0, none⟩)) ∧ Rf w' x g u V (rootF d) ∧ Below w.heap.size w w' ∧ ∀ b, RfFoot x g u V b → w.heap.size ≤ b := by
  obtain ⟨C, gC⟩ : ∃ C, C = noR6 := ⟨_, rfl⟩
  have hm' : ∀ W : World, (Instr.makeSlice 60 (.int .i64 17) (.int .i64 17)).run Tryz.prog W = .ok (.slice (some ⟨W.heap.size, 0, none⟩) 17 17) (W.alloc (.cells C.toArray 66)) := by
    rw [gC]
    exact made_zs (P := Tryz.prog) 60 66 17 _ _ _ Tryz.underlying60 infoR6 (by omega) (by omega)
  obtain ⟨D, gD⟩ : ∃ D, D = noU6.toArray := ⟨_, rfl⟩
  have hk' : ∀ W : World, (Instr.makeSlice 61 (.int .i64 25) (.int .i64 25)).run Tryz.prog W = .ok (.slice (some ⟨W.heap.size, 0, none⟩) 25 25) (W.alloc (.cells D 4)) := by
    rw [gD, show noU6.toArray = madeCells (Value.bool false).cells (25 * 1) by simp [noU6]]
    exact made_zs (P := Tryz.prog) 61 4 25 _ _ _ Tryz.underlying61 infoR6b (by omega) (by omega)
  have HL : Hid (C.length = 102) := by rw [gC]; exact hid noR6_len
  obtain ⟨N, gN⟩ : ∃ N : List Value, N = [.int .i64 2, .int .i64 1, .int .i64 0, .slice none 0 0, .slice none 0 0, .slice none 0 0] := ⟨_, rfl⟩
  have H1 : Hid (N.toArray.all (·.oneCell') = true) := by rw [gN]; exact hid (by simp [Value.oneCell'])
  have HSZ : Hid ((Tryz.prog.info? 66).map (·.size) = some N.toArray.size) := by rw [gN]; exact hid csizeR6
  have HB : Hid (Tryz.prog.built 66 [(0, .int .i64 2), (1, .int .i64 1)] = some N.toArray) := by rw [gN]; exact hid builtR6
  have HT : Hid (6 = N.toArray.size) := by rw [gN]; exact hid rfl
  have HN := hid gN
  have HC := hid gC
  have HD := hid gD
  clear gN gD gC
  go_enter Tryz.func7, Tryz.ntmps7
  go_wp2_with fail
  go_region_held3 (fun _ => True) (trivial) (fail)
  all_goals go_wp2_with (first
    | (refine wpList_build_is rfl 66 #[(0, .const (.int .i64 2)), (1, .const (.int .i64 1))] rfl N.toArray (by simpa [Act.eval] using HB.out) ?_)
    | (refine wpList_store_mid rfl 66 (.tmp 14) (.tmp 13) rfl w.heap.size 6 N.toArray rfl rfl (by rw [← HT.out]; exact there_of_block (C := C) (t := 66) (by exact first_block w C 66 _ _) 6 6 (by rw [HL.out]; omega)) HSZ.out H1.out ?_)
    | (refine wpList_store_mid rfl 66 (.tmp 14) (.tmp 13) rfl (w.heap.size + 1) 6 N.toArray rfl rfl (by rw [← HT.out]; exact there_of_block (C := C) (t := 66) (by exact second_block w C 66 _ _) 6 6 (by rw [HL.out]; omega)) HSZ.out H1.out ?_))
  all_goals go_ret
  · obtain ⟨W, gW⟩ : ∃ W, W = (((w.alloc (.cells C.toArray 66)).alloc (.cells D 4)).alloc (.cells #[.slice (some ⟨w.heap.size, 0, none⟩) 17 17, .slice (some ⟨w.heap.size + 1, 0, none⟩) 25 25, .int .i64 d] 63)).drew := ⟨_, rfl⟩
    have hb : Below w.heap.size w W := by rw [gW]; exact (three_allocs w _ _ _).drew
    have hp : W.heap[w.heap.size + 2]? = some (.cells #[.slice (some ⟨w.heap.size, 0, none⟩) 17 17, .slice (some ⟨w.heap.size + 1, 0, none⟩) 25 25, .int .i64 d] 63 (0, 0)) := by
      rw [gW]
      have k := heap_alloc_new ((w.alloc (.cells C.toArray 66)).alloc (.cells D 4)) (.cells #[.slice (some ⟨w.heap.size, 0, none⟩) 17 17, .slice (some ⟨w.heap.size + 1, 0, none⟩) 25 25, .int .i64 d] 63)
      rw [show ((w.alloc (.cells C.toArray 66)).alloc (.cells D 4)).heap.size = w.heap.size + 2 by simp] at k
      exact k
    have hq : W.heap[w.heap.size]? = some (.cells noR6.toArray 66 (0, 0)) := by rw [gW, ← HC.out]; exact first_block w C 66 _ _
    have hu : W.heap[w.heap.size + 1]? = some (.cells noU6.toArray 4 (0, 0)) := by rw [gW, HD.out]; exact second_block w noU6 4 _ _
    rw [← gW]
    exact ⟨_, _, _, _, rfl, Rf.made hp hq hu ⟨by omega, by omega, by omega⟩ HN.out, hb.trans ((upd_setCells w.heap.size _ _ _).below hb.size (fun x hx => by omega)), fun b h => by rcases root_foot h with h | h | h <;> omega⟩
  · obtain ⟨W, gW⟩ : ∃ W, W = (((w.alloc (.cells D 4)).alloc (.cells C.toArray 66)).alloc (.cells #[.slice (some ⟨w.heap.size + 1, 0, none⟩) 17 17, .slice (some ⟨w.heap.size, 0, none⟩) 25 25, .int .i64 d] 63)).drew := ⟨_, rfl⟩
    have hb : Below w.heap.size w W := by rw [gW]; exact (three_allocs w _ _ _).drew
    have hp : W.heap[w.heap.size + 2]? = some (.cells #[.slice (some ⟨w.heap.size + 1, 0, none⟩) 17 17, .slice (some ⟨w.heap.size, 0, none⟩) 25 25, .int .i64 d] 63 (0, 0)) := by
      rw [gW]
      have k := heap_alloc_new ((w.alloc (.cells D 4)).alloc (.cells C.toArray 66)) (.cells #[.slice (some ⟨w.heap.size + 1, 0, none⟩) 17 17, .slice (some ⟨w.heap.size, 0, none⟩) 25 25, .int .i64 d] 63)
      rw [show ((w.alloc (.cells D 4)).alloc (.cells C.toArray 66)).heap.size = w.heap.size + 2 by simp] at k
      exact k
    have hq : W.heap[w.heap.size + 1]? = some (.cells noR6.toArray 66 (0, 0)) := by rw [gW, ← HC.out]; exact second_block w C 66 _ _
    have hu : W.heap[w.heap.size]? = some (.cells noU6.toArray 4 (0, 0)) := by rw [gW, HD.out]; exact first_block w noU6 4 _ _
    rw [← gW]
    exact ⟨_, _, _, _, rfl, Rf.made hp hq hu ⟨by omega, by omega, by omega⟩ HN.out, hb.trans ((upd_setCells (w.heap.size + 1) _ _ _).below hb.size (fun x hx => by omega)), fun b h => by rcases root_foot h with h | h | h <;> omega⟩

end Go.Proofs.YtliekndkjjaldaaGreat

/- The road of NodesLives, and what 'played' leaves. -/
namespace Go.Proofs.YtliekndkjjaldaaGreat
open Go.RowKit Go.ChangeMaps Go.MapKept
set_option linter.unusedVariables false
set_option maxRecDepth 20000

/-- Both systems behind so many calls. -/
def Liv (w wr : World) (pp p x g u : Nat) (d : Int) (i : Nat) : Prop :=
  (∃ G V F, Pr wr w.heap.size G pp p x g u V F F ∧ FOk F ∧ LB F ((i : Int) + 1) ∧ (d = 0 → FSh F)) ∧ Below w.heap.size w wr

/-- Both are made. -/
theorem Liv.made {w w1 w2 : World} {p x g u : Nat} {V : Nat → Value} {d : Int} (h1 : Pf w1 p (rootF d) (fun x => w.heap.size ≤ x)) (b1 : Below w.heap.size w w1) (h2 : Rf w2 x g u V (rootF d)) (b2 : Below w1.heap.size w1 w2) (hf : ∀ b, RfFoot x g u V b → w1.heap.size ≤ b) :
    Liv w (w2.alloc (Obj.cells #[.pointer (some ⟨p, 0, none⟩), .pointer (some ⟨x, 0, none⟩)] 29)) w2.heap.size p x g u d 0 := by
  have b3 : Below w2.heap.size w2 (w2.alloc (Obj.cells #[.pointer (some ⟨p, 0, none⟩), .pointer (some ⟨x, 0, none⟩)] 29)) := (Below.refl _ _).alloc (Nat.le_refl _) _
  have s1 := b1.size
  have s2 := b2.size
  have s3 : (w2.alloc (Obj.cells #[.pointer (some ⟨p, 0, none⟩), .pointer (some ⟨x, 0, none⟩)] 29)).heap.size = w2.heap.size + 1 := by simp
  refine ⟨⟨fun b => w.heap.size ≤ b ∧ b < w1.heap.size, V, rootF d, ⟨heap_alloc_new _ _, ((h1.mono (fun b hb hG => ⟨hG, hb⟩)).grow b2).grow b3, h2.grow b3, ?_, ?_, Nat.le_trans s1 s2⟩, rootF_ok d, ?_, ?_⟩, (b1.trans (b2.mono s1)).trans (b3.mono (Nat.le_trans s1 s2))⟩
  · intro b hb
    refine ⟨hb.1, by omega, by omega, fun q => ?_⟩
    have := hf b q
    omega
  · intro b hb
    have := hf b hb
    have := h2.foot_lt b hb
    exact ⟨by omega, by omega⟩
  · exact (LB.root d).mono (by simp)
  · rintro rfl
    exact rootF_sh

theorem Liv.c1 {w wr : World} {pp p x g u i : Nat} {d : Int} (h : Liv w wr pp p x g u d i) : wr.cell? ⟨pp, 0, none⟩ = some (.pointer (some ⟨p, 0, none⟩)) := by
  obtain ⟨⟨G, V, F, h1, _⟩, _⟩ := h
  exact h1.c0

/-- One call more. -/
theorem Liv.step {w wr : World} {pp p x g u i j b o : Nat} {d : Int} (h : Liv w wr pp p x g u d i) (hi : i ≤ 60) {x0 x1 x2 x3 : Int} {t4 t5 : ByteArray} {ab : Option Addr} {lb cb : Nat} {zs : List Int} (D : Doat w b o j x0 x1 x2 x3 t4 t5 ab lb cb zs) (h4 : t4.size ≤ 1048576) (h5 : t5.size ≤ 1048576) (hz : ∀ z ∈ zs, 0 ≤ z ∧ z < 256) (hc : cb ≤ 9223372036854775807) :
    ∀ W, Below wr.heap.size wr W → Calls Tryz.prog 8 #[.pointer (some ⟨pp, 0, none⟩), .agg #[.int .i64 x0, .int .i64 x1, .int .i64 x2, .int .i64 x3, .string t4, .string t5, .slice ab lb cb]] W fun e w' => e = .returned (.bool true) ∧ Liv w w' pp p x g u d (i + 1) := by
  intro W hW
  obtain ⟨⟨G, V, F, h1, h2, h3, h6⟩, hb⟩ := h
  have hbW : Below w.heap.size w W := hb.trans (hW.mono hb.size)
  refine (does_any pp p x g u w.heap.size G V F ((i : Int) + 1) x0 x1 x2 x3 t4 t5 ab lb cb zs W (h1.grow hW) h2 h3 (by omega) h4 h5 D.b2.2 D.b3.2 (D.src.below hbW) hz D.reach D.le hc D.nil ?_).mono ?_
  · intro h0 b o e
    obtain ⟨b', o', e', hl, _⟩ := D.src.2 h0
    rw [e] at e'
    cases e'
    exact hl
  · rintro e w' ⟨rfl, G', V', F', q1, q2, q3, q4, q5⟩
    exact ⟨rfl, ⟨G', V', F', q1, q2, q3.mono (by omega), fun e => q4 (h6 e)⟩, hbW.trans q5⟩

theorem Liv.same {w wr : World} {pp p x g u i : Nat} {d : Int} (h : Liv w wr pp p x g u d i) : Calls Tryz.prog 9 #[.pointer (some ⟨pp, 0, none⟩)] wr fun e w' => e = .returned (.bool true) ∧ Liv w w' pp p x g u d i := by
  obtain ⟨⟨G, V, F, h1, h2, h3, h6⟩, hb⟩ := h
  refine (same_yes2 wr _ G pp p x g u V F h1 h2).mono ?_
  rintro e w' ⟨rfl, q⟩
  exact ⟨rfl, ⟨G, V, F, h1.grow q, h2, h3, h6⟩, hb.trans (q.mono hb.size)⟩

theorem Liv.grow {w wr w' : World} {pp p x g u i : Nat} {d : Int} (h : Liv w wr pp p x g u d i) (q : Below wr.heap.size wr w') : Liv w w' pp p x g u d i := by
  obtain ⟨⟨G, V, F, h1, h2, h3, h6⟩, hb⟩ := h
  exact ⟨⟨G, V, F, h1.grow q, h2, h3, h6⟩, hb.trans (q.mono hb.size)⟩

set_option maxHeartbeats 4000000 in
theorem lives_road (d : Int) (al : Option Addr) (ll cl : Nat) (w : World) (hd : DosS w al ll) (hll : ll ≤ cl) (hcl : cl ≤ 9223372036854775807) :
    Calls Tryz.prog 3 #[.int .i64 d, .slice al ll cl] w fun e w' => e = .returned (.bool true) ∧ Below w.heap.size w w' := by
  have k1 := hid (npnew_any w d)
  have k2 := hid (fun W => rnew_any W d)
  have HD := hid hd
  clear hd
  go_enter Tryz.func3, Tryz.ntmps3
  go_wp2_with fail
  refine k1.out.mono ?_
  rintro e w1 ⟨p, rfl, hp1, hb1⟩
  have HP1 := hid hp1
  have HB1 := hid hb1
  clear hp1 hb1 k1
  go_wp2_with fail
  refine (k2.out w1).mono ?_
  rintro e w2 ⟨x, g, u, V, rfl, hr2, hb2, hf2⟩
  have HL := hid (Liv.made HP1.out HB1.out hr2 hb2 hf2)
  clear hr2 hb2 hf2 k2 HP1 HB1
  go_wp2_with fail
  generalize w2.alloc (Obj.cells #[.pointer (some ⟨p, 0, none⟩), .pointer (some ⟨x, 0, none⟩)] 29) = w3 at HL ⊢
  generalize w2.heap.size = pp at HL ⊢
  go_loopw [16] (fun v16 wr => ∃ i : Nat, i ≤ ll ∧ i ≤ 61 ∧ v16 = .int .i64 (i : Int) ∧ Hid (Liv w wr pp p x g u d i)) (fun v16 _ => ll - (intOf v16).toNat)
  case atStart => exact ⟨0, by omega, by omega, rfl, HL⟩
  case round =>
    clear HL
    obtain ⟨i, hil, hi61, rfl, HQ⟩ := hrel
    by_cases h : i < ll
    · obtain ⟨b, o, rfl, hbl, hat⟩ := HD.out (by omega)
      obtain ⟨x0, x1, x2, x3, t4, t5, ab, lb, cb, zs, D0, h4, h5, hz, hc⟩ := hat i h
      have D := D0.below HQ.out.2
      have c0 := D.c0
      have c1 := D.c1
      have c2 := D.c2
      have c3 := D.c3
      have c4 := D.c4
      have c5 := D.c5
      have c6 := D.c6
      obtain ⟨W1, g1⟩ : ∃ W1, W1 = wr.alloc (Obj.cells #[.int .i64 x0, .int .i64 x1, .int .i64 x2, .int .i64 x3, .string t4, .string t5, .slice ab lb cb] 32) := ⟨_, rfl⟩
      have b1 : Below wr.heap.size wr W1 := by rw [g1]; exact (Below.refl _ _).alloc (Nat.le_refl _) _
      have r1 : W1.heap[wr.heap.size]? = some (.cells #[.int .i64 x0, .int .i64 x1, .int .i64 x2, .int .i64 x3, .string t4, .string t5, .slice ab lb cb] 32 (0, 0)) := by rw [g1]; exact heap_alloc_new _ _
      by_cases h60 : 60 < i
      · have i60 : (60 : Int) < (i : Int) := by omega
        have kS := hid (HQ.out.grow b1).same
        have GA := hid g1
        clear g1 D D0 hat h4 h5 hz hc b1 r1 HQ
        go_wp2_with fail
        rw [← GA.out]
        refine kS.out.mono ?_
        rintro e w4 ⟨rfl, h4⟩
        go_wp2_with fail
        go_ret
        exact ⟨rfl, h4.2⟩
      · have i60 : ¬ (60 : Int) < (i : Int) := by omega
        have kD := hid (HQ.out.step (by omega) D0 h4 h5 hz hc W1 b1)
        have d0 : W1.cell? ⟨wr.heap.size, 0, none⟩ = some (.int .i64 x0) := by rw [cell_of_row W1 _ 0 _ _ _ r1]; rfl
        have d1 : W1.cell? ⟨wr.heap.size, 1, none⟩ = some (.int .i64 x1) := by rw [cell_of_row W1 _ 1 _ _ _ r1]; rfl
        have d2 : W1.cell? ⟨wr.heap.size, 2, none⟩ = some (.int .i64 x2) := by rw [cell_of_row W1 _ 2 _ _ _ r1]; rfl
        have d3 : W1.cell? ⟨wr.heap.size, 3, none⟩ = some (.int .i64 x3) := by rw [cell_of_row W1 _ 3 _ _ _ r1]; rfl
        have d4 : W1.cell? ⟨wr.heap.size, 4, none⟩ = some (.string t4) := by rw [cell_of_row W1 _ 4 _ _ _ r1]; rfl
        have d5 : W1.cell? ⟨wr.heap.size, 5, none⟩ = some (.string t5) := by rw [cell_of_row W1 _ 5 _ _ _ r1]; rfl
        have d6 : W1.cell? ⟨wr.heap.size, 6, none⟩ = some (.slice ab lb cb) := by rw [cell_of_row W1 _ 6 _ _ _ r1]; rfl
        have GA := hid g1
        clear g1 D D0 hat h4 h5 hz hc b1 r1 HQ
        go_wp2_with fail
        rw [← GA.out]
        go_wp2_with fail
        refine kD.out.mono ?_
        rintro e w4 ⟨rfl, h4⟩
        have kS := hid h4.same
        clear h4 kD
        go_wp2_with fail
        refine kS.out.mono ?_
        rintro e w5 ⟨rfl, h5⟩
        have H5 := hid h5
        clear h5 kS
        go_wp2_with fail
        go_roundw
        case rel => exact ⟨i + 1, by omega, by omega, by go_num, H5⟩
        case measure => simp [intOf]; omega
    · obtain rfl : i = ll := by omega
      have kS := hid HQ.out.same
      clear HQ
      go_wp2_with fail
      refine kS.out.mono ?_
      rintro e w4 ⟨rfl, h4⟩
      go_wp2_with fail
      go_ret
      exact ⟨rfl, h4.2⟩

end Go.Proofs.YtliekndkjjaldaaGreat

/- A look of a file system, as it is read. -/
namespace Go.Proofs.YtliekndkjjaldaaGreat
open Go.RowKit
set_option linter.unusedVariables false
set_option maxRecDepth 20000

/-- A node of a look as it is read. -/
structure Nda (w : World) (q o i : Nat) (y : Fn) (ba : Option Addr) (bc : Nat) (na : Option Addr) (nc : Nat) (ma : Option Addr) (mc : Nat) : Prop where
  c0 : w.cell? ⟨q, o, none⟩ = some (.int .i64 (i : Int))
  c1 : w.cell? ⟨q, o + 1, none⟩ = some (.int .i64 y.k)
  c2 : w.cell? ⟨q, o + 2, none⟩ = some (.int .i64 y.l)
  c3 : w.cell? ⟨q, o + 3, none⟩ = some (.int .i64 ((y.c.length : Int) + (y.Q.length : Int)))
  c4 : w.cell? ⟨q, o + 4, none⟩ = some (.int .i64 y.h)
  c5 : w.cell? ⟨q, o + 5, none⟩ = some (.slice ba y.B.length bc)
  c6 : w.cell? ⟨q, o + 6, none⟩ = some (.slice na y.Q.length nc)
  c7 : w.cell? ⟨q, o + 7, none⟩ = some (.slice ma y.Q.length mc)
  rB : Rdv w ba y.B.length (y.B.map natV)
  rM : Rdv w ma y.Q.length (y.Q.map ndV)
  nB : ba = none → bc = 0
theorem Nda.below {w w' : World} {q o i : Nat} {y : Fn} {ba na ma : Option Addr} {bc nc mc : Nat} (h : Nda w q o i y ba bc na nc ma mc) (u : Below w.heap.size w w') (hq : q < w.heap.size) : Nda w' q o i y ba bc na nc ma mc :=
  ⟨(u.cell (p := ⟨q, _, none⟩) hq).trans h.c0, (u.cell (p := ⟨q, _, none⟩) hq).trans h.c1, (u.cell (p := ⟨q, _, none⟩) hq).trans h.c2, (u.cell (p := ⟨q, _, none⟩) hq).trans h.c3, (u.cell (p := ⟨q, _, none⟩) hq).trans h.c4, (u.cell (p := ⟨q, _, none⟩) hq).trans h.c5, (u.cell (p := ⟨q, _, none⟩) hq).trans h.c6, (u.cell (p := ⟨q, _, none⟩) hq).trans h.c7, h.rB.below u, h.rM.below u, h.nB⟩

/-- The nodes of a look as they are read. -/
def Nds (w : World) (a : Option Addr) (F : Fs) (is : List Nat) : Prop :=
  0 < is.length → ∃ q o, a = some ⟨q, o, none⟩ ∧ q < w.heap.size ∧ ∀ t, ∀ h : t < is.length, ∃ ba bc na nc ma mc, Nda w q (o + t * 8) is[t] (F.P is[t]) ba bc na nc ma mc
theorem Nds.below {w w' : World} {a : Option Addr} {F : Fs} {is : List Nat} (h : Nds w a F is) (u : Below w.heap.size w w') : Nds w' a F is := fun h0 => by
  obtain ⟨q, o, e, hq, hh⟩ := h h0
  refine ⟨q, o, e, Nat.lt_of_lt_of_le hq u.size, fun t ht => ?_⟩
  obtain ⟨ba, bc, na, nc, ma, mc, hn⟩ := hh t ht
  exact ⟨ba, bc, na, nc, ma, mc, hn.below u hq⟩

theorem own_nil {w : World} {B e size n c : Nat} {xs : List Value} (h : w.ownsRow B e size (.slice none n c) n xs) : c = 0 := by
  rcases h.2 with ⟨q, _⟩ | ⟨g, cap, cur, q, _⟩
  · injection q with _ _ q3
  · injection q with q1
    cases q1

theorem nds_of {w : World} {a : Option Addr} {n c : Nat} {F : Fs} {G : Nat → Prop} {is : List Nat} {cs : List Value} (hn : n = is.length) (h : w.ownsRow 0 44 8 (.slice a n c) n cs) (hL : LkL w G F is cs) : Nds w a F is := fun h0 => by
  obtain ⟨a', c', e', _, _, hc⟩ := own_shp h
  injection e' with e1 _ _
  subst e1
  obtain ⟨q, rfl, _, hq, hcc⟩ := hc (by omega)
  refine ⟨q, 0, rfl, hq, fun t ht => ?_⟩
  obtain ⟨c8, ⟨vB, vN, vM, rfl, h1, h2, h3, _⟩, _, hx⟩ := hL.get t ht
  obtain ⟨ba, bc, rfl, _⟩ := own_shp h1
  obtain ⟨na, nc, rfl, _⟩ := own_shp h2
  obtain ⟨ma, mc, rfl, _⟩ := own_shp h3
  have hh : ∀ j, j < 8 → ∀ v, (lkC is[t] (F.P is[t]) (.slice ba (F.P is[t]).B.length bc) (.slice na (F.P is[t]).Q.length nc) (.slice ma (F.P is[t]).Q.length mc))[j]? = some v → w.cell? ⟨q, 0 + t * 8 + j, none⟩ = some v := fun j hj v hv => by
    rw [Nat.zero_add]
    exact hcc (t * 8 + j) v (by rw [hx j hj]; exact hv)
  exact ⟨ba, bc, na, nc, ma, mc, by simpa using hh 0 (by omega) _ rfl, hh 1 (by omega) _ rfl, hh 2 (by omega) _ rfl, hh 3 (by omega) _ rfl, hh 4 (by omega) _ rfl, hh 5 (by omega) _ rfl, hh 6 (by omega) _ rfl, hh 7 (by omega) _ rfl, Rdv.of h1, Rdv.of h3, fun e => by subst e; exact own_nil h1⟩

end Go.Proofs.YtliekndkjjaldaaGreat

/- What 'played' leaves: a system without defects, which what is true of it. -/
namespace Go.Proofs.YtliekndkjjaldaaGreat
open Go.RowKit Go.ChangeMaps Go.MapKept
set_option linter.unusedVariables false
set_option maxRecDepth 20000

set_option maxHeartbeats 4000000 in
theorem played_any (al : Option Addr) (ll cl : Nat) (w : World) (hd : DosS w al ll) (hll : ll ≤ cl) (hcl : cl ≤ 9223372036854775807) :
    Calls Tryz.prog 10 #[.slice al ll cl] w fun e w' => (∃ p G F, e = .returned (.pointer (some ⟨p, 0, none⟩)) ∧ Pf w' p F G ∧ FOk F ∧ FSh F ∧ LB F 100) ∧ Below w.heap.size w w' := by
  have k1 := hid (npnew_any w 0)
  have k2 := hid (fun W => rnew_any W 0)
  have HD := hid hd
  clear hd
  go_enter Tryz.func10, Tryz.ntmps10
  go_wp2_with fail
  refine k1.out.mono ?_
  rintro e w1 ⟨p, rfl, hp1, hb1⟩
  have HP1 := hid hp1
  have HB1 := hid hb1
  clear hp1 hb1 k1
  go_wp2_with fail
  refine (k2.out w1).mono ?_
  rintro e w2 ⟨x, g, u, V, rfl, hr2, hb2, hf2⟩
  have HL := hid (Liv.made HP1.out HB1.out hr2 hb2 hf2)
  clear hr2 hb2 hf2 k2 HP1 HB1
  go_wp2_with fail
  generalize w2.alloc (Obj.cells #[.pointer (some ⟨p, 0, none⟩), .pointer (some ⟨x, 0, none⟩)] 29) = w3 at HL ⊢
  generalize w2.heap.size = pp at HL ⊢
  go_loopw [12] (fun v12 wr => ∃ i : Nat, i ≤ ll ∧ v12 = .int .i64 (i : Int) ∧ Hid (Liv w wr pp p x g u 0 (min i 60))) (fun v12 _ => ll - (intOf v12).toNat)
  case atStart => exact ⟨0, by omega, rfl, HL⟩
  case round =>
    clear HL
    obtain ⟨i, hil, rfl, HQ⟩ := hrel
    by_cases h : i < ll
    · obtain ⟨b, o, rfl, hbl, hat⟩ := HD.out (by omega)
      obtain ⟨x0, x1, x2, x3, t4, t5, ab, lb, cb, zs, D0, h4, h5, hz, hc⟩ := hat i h
      have D := D0.below HQ.out.2
      have c0 := D.c0
      have c1 := D.c1
      have c2 := D.c2
      have c3 := D.c3
      have c4 := D.c4
      have c5 := D.c5
      have c6 := D.c6
      obtain ⟨W1, g1⟩ : ∃ W1, W1 = wr.alloc (Obj.cells #[.int .i64 x0, .int .i64 x1, .int .i64 x2, .int .i64 x3, .string t4, .string t5, .slice ab lb cb] 32) := ⟨_, rfl⟩
      have b1 : Below wr.heap.size wr W1 := by rw [g1]; exact (Below.refl _ _).alloc (Nat.le_refl _) _
      have r1 : W1.heap[wr.heap.size]? = some (.cells #[.int .i64 x0, .int .i64 x1, .int .i64 x2, .int .i64 x3, .string t4, .string t5, .slice ab lb cb] 32 (0, 0)) := by rw [g1]; exact heap_alloc_new _ _
      by_cases h60 : i < 60
      · have i60 : (i : Int) < 60 := by omega
        have e0 : min i 60 = i := by omega
        have e1 : min (i + 1) 60 = i + 1 := by omega
        have kD := hid (HQ.out.step (by omega) D0 h4 h5 hz hc W1 b1)
        rw [e0] at kD
        have d0 : W1.cell? ⟨wr.heap.size, 0, none⟩ = some (.int .i64 x0) := by rw [cell_of_row W1 _ 0 _ _ _ r1]; rfl
        have d1 : W1.cell? ⟨wr.heap.size, 1, none⟩ = some (.int .i64 x1) := by rw [cell_of_row W1 _ 1 _ _ _ r1]; rfl
        have d2 : W1.cell? ⟨wr.heap.size, 2, none⟩ = some (.int .i64 x2) := by rw [cell_of_row W1 _ 2 _ _ _ r1]; rfl
        have d3 : W1.cell? ⟨wr.heap.size, 3, none⟩ = some (.int .i64 x3) := by rw [cell_of_row W1 _ 3 _ _ _ r1]; rfl
        have d4 : W1.cell? ⟨wr.heap.size, 4, none⟩ = some (.string t4) := by rw [cell_of_row W1 _ 4 _ _ _ r1]; rfl
        have d5 : W1.cell? ⟨wr.heap.size, 5, none⟩ = some (.string t5) := by rw [cell_of_row W1 _ 5 _ _ _ r1]; rfl
        have d6 : W1.cell? ⟨wr.heap.size, 6, none⟩ = some (.slice ab lb cb) := by rw [cell_of_row W1 _ 6 _ _ _ r1]; rfl
        have GA := hid g1
        have E1 := hid e1
        clear g1 D D0 hat h4 h5 hz hc b1 r1 HQ e0 e1
        go_wp2_with fail
        rw [← GA.out]
        go_wp2_with fail
        refine kD.out.mono ?_
        rintro e w4 ⟨rfl, h4⟩
        have H4 := hid h4
        clear h4 kD
        go_wp2_with fail
        go_roundw
        case rel => exact ⟨i + 1, by omega, by go_num, by rw [E1.out]; exact H4⟩
        case measure => simp [intOf]; omega
      · have i60 : ¬ (i : Int) < 60 := by omega
        have H4 : Hid (Liv w W1 pp p x g u 0 (min (i + 1) 60)) := hid (by
          rw [show min (i + 1) 60 = min i 60 by omega]
          exact HQ.out.grow b1)
        have GA := hid g1
        clear g1 D D0 hat h4 h5 hz hc b1 r1 HQ
        go_wp2_with fail
        rw [← GA.out]
        go_roundw
        case rel => exact ⟨i + 1, by omega, by go_num, H4⟩
        case measure => simp [intOf]; omega
    · obtain rfl : i = ll := by omega
      have hc1 := HQ.out.c1
      go_wp2_with fail
      go_ret
      obtain ⟨⟨G, V, F, q1, q2, q3, q4⟩, q5⟩ := HQ.out
      exact ⟨⟨p, G, F, rfl, q1.pf, q2, q4 rfl, q3.mono (by omega)⟩, q5⟩

/-- What Look of it tells, as it is read. -/
theorem look_read (p : Nat) (F : Fs) (G : Nat → Prop) (w : World) (H : Pf w p F G) (hF : FOk F) :
    Calls Tryz.prog 11 #[.pointer (some ⟨p, 0, none⟩)] w fun e w' => (∃ a c, e = .returned (.slice a (thr F 17).length c) ∧ Nds w' a F (thr F 17)) ∧ Below w.heap.size w w' := by
  refine (plooks_any p F G w H hF).mono ?_
  rintro e w' ⟨⟨v, cs, rfl, h1, h2⟩, h3⟩
  obtain ⟨a, c, rfl, _⟩ := own_shp h1
  exact ⟨⟨a, c, rfl, nds_of rfl h1 h2⟩, h3⟩

end Go.Proofs.YtliekndkjjaldaaGreat

/- A map of numbers to counts, and one of numbers to true: what a look-up and one more do. -/
namespace Go.Proofs.YtliekndkjjaldaaGreat
open Go.RowKit Go.MapKept
set_option linter.unusedVariables false
set_option maxRecDepth 20000

theorem kint : Maps.Keyed Tryz.prog 3 := Maps.int_keyed Tryz.underlying3
/-- A number of 64 bits. -/
def W64 (k : Int) : Prop := -9223372036854775808 ≤ k ∧ k ≤ 9223372036854775807
theorem W64.wf {k : Int} (h : W64 k) : (Lit.int .i64 k).wf = true := by
  have e1 : IntKind.i64.min = -9223372036854775808 := by decide
  have e2 : IntKind.i64.max = 9223372036854775807 := by decide
  simp only [Lit.wf, e1, e2, Bool.and_eq_true, decide_eq_true_eq]
  exact h
theorem W64.of {k : Int} (h : (Lit.int .i64 k).wf = true) : W64 k := by
  have e1 : IntKind.i64.min = -9223372036854775808 := by decide
  have e2 : IntKind.i64.max = 9223372036854775807 := by decide
  simp only [Lit.wf, e1, e2, Bool.and_eq_true, decide_eq_true_eq] at h
  exact h
theorem key3 {k : Int} (h : W64 k) : keyOf Tryz.prog 3 (.int .i64 k) = some (.int .i64 k) := by
  simp [keyOf, Tryz.underlying3, mapKey, h.wf]
theorem zero3 (w : World) : (zeroValue 3).run Tryz.prog w = .ok (.int .i64 0) w := by
  have e : Tryz.t3.zero = some (.int .i64 0) := by kernel_rfl
  simp [zeroValue, Result.andThen, e]

/-- The counts that a map tells, and how many numbers have one. -/
def OcD (D : DataW Unit) (N : Nat) (F : Int → Nat) : Prop :=
  Maps.size D = N ∧ ∀ x, W64 x → Maps.has D (.int .i64 x) = decide (F x ≠ 0) ∧ D.atKey (.int .i64 x) (.lit (.int .i64 0)) = .lit (.int .i64 (F x : Nat))
def Oc (w : World) (m n N : Nat) (F : Int → Nat) : Prop := ∃ D : DataW Unit, w.ownsMap Tryz.prog 3 (plainElem Tryz.prog 3) m n D ∧ OcD D N F

theorem Oc.none (w : World) : Oc (w.alloc (.map #[] 0)) w.heap.size 0 0 (fun _ => 0) :=
  ⟨.map [], World.ownsMap_made w _ _ _, rfl, fun x _ => ⟨rfl, rfl⟩⟩
theorem Oc.lt {w : World} {m n N : Nat} {F : Int → Nat} (h : Oc w m n N F) : m < w.heap.size := by
  obtain ⟨D, h1, _⟩ := h; exact h1.lt
theorem Oc.upd {G : Nat → Prop} {w w' : World} {m n N : Nat} {F : Int → Nat} (h : Oc w m n N F) (u : Upd G w w') (hG : ¬ G m) : Oc w' m n N F := by
  obtain ⟨D, ⟨es, cl, hb, r⟩, h2⟩ := h
  exact ⟨D, ⟨es, cl, u.heap hb hG, r⟩, h2⟩
theorem Oc.mono {w : World} {m n n' N : Nat} {F : Int → Nat} (h : Oc w m n N F) (hn : n ≤ n') : Oc w m n' N F := by
  obtain ⟨D, h1, h2⟩ := h; exact ⟨D, h1.mono hn, h2⟩

theorem isKey3 (k : Int) : WideAt.IsKeyLit (.int .i64 k) := by trivial

/-- One more. -/
def inc (F : Int → Nat) (k : Int) : Int → Nat := fun x => if x = k then F x + 1 else F x
/-- None any more. -/
def dele (F : Int → Nat) (k : Int) : Int → Nat := fun x => if x = k then 0 else F x
theorem lit_ne {x k : Int} (h : x ≠ k) : Lit.int .i64 x ≠ Lit.int .i64 k := fun e => h (by injection e)

theorem oc_look {w : World} {m n N : Nat} {F : Int → Nat} (h : Oc w m n N F) {k : Int} (hk : W64 k) :
    (Instr.lookup 39 (.map (some m)) (.int .i64 k) false).run Tryz.prog w = .ok (.int .i64 (F k : Nat)) w := by
  obtain ⟨D, h1, h2⟩ := h
  obtain ⟨c, hr, ha, _⟩ := h1.lookup_int kint Tryz.underlying39 Tryz.underlying3 (zero3 w) (key3 hk)
  rw [(h2.2 k hk).2] at ha
  injection ha with ha
  injection ha with _ ha
  rw [hr, ha]

theorem oc_inc {w : World} {m n N : Nat} {F : Int → Nat} (h : Oc w m n N F) {k : Int} (hk : W64 k) (hn : n < maxLen) (hF : F k + 1 ≤ 9223372036854775807) :
    ∃ w', (Instr.mapUpdate 39 (.map (some m)) (.int .i64 k) (.int .i64 ((F k : Nat) + 1))).run Tryz.prog w = .ok () w' ∧ Oc w' m (n + 1) (if F k = 0 then N + 1 else N) (inc F k) ∧ Upd (· = m) w w' := by
  obtain ⟨D, h1, h2⟩ := h
  have ht := h1.tidy kint
  obtain ⟨w', hr, h3, hg⟩ := h1.update kint Tryz.underlying39 hn (key3 hk) (plainElem_int Tryz.underlying3 (a := (F k : Nat) + 1) (W64.wf ⟨by omega, by omega⟩))
  refine ⟨w', hr, ⟨_, h3, ?_, fun x hx => ?_⟩, (Upd.of_grown hg).mono (fun x _ hx => by injection hx)⟩
  · rw [Maps.size_put ht, (h2.2 k hk).1, h2.1]
    by_cases q : F k = 0 <;> simp [q]
  · by_cases q : x = k
    · subst q
      rw [Maps.has_put_same ht.isMap (isKey3 _), Maps.atKey_put_same ht.isMap (isKey3 _)]
      simp [inc]
    · rw [Maps.has_put_other (lit_ne q), Maps.atKey_put_other (lit_ne q)]
      simpa [inc, q] using h2.2 x hx

theorem Oc.le {w : World} {m n N : Nat} {F : Int → Nat} (h : Oc w m n N F) : N ≤ n := by
  obtain ⟨D, h1, h2⟩ := h
  rw [← h2.1]; exact h1.size_le

/-- A map of numbers to true: the numbers that it has. -/
def ObD (D : DataW Unit) (L : List Int) : Prop := ∀ x, W64 x → D.atKey (.int .i64 x) (.lit (.bool false)) = .lit (.bool (decide (x ∈ L)))
def Ob (w : World) (m n : Nat) (L : List Int) : Prop := ∃ D : DataW Unit, w.ownsMap Tryz.prog 3 (plainElem Tryz.prog 4) m n D ∧ ObD D L
theorem Ob.none (w : World) : Ob (w.alloc (.map #[] 0)) w.heap.size 0 [] :=
  ⟨.map [], World.ownsMap_made w _ _ _, fun x _ => rfl⟩
theorem Ob.lt {w : World} {m n : Nat} {L : List Int} (h : Ob w m n L) : m < w.heap.size := by
  obtain ⟨D, h1, _⟩ := h; exact h1.lt
theorem Ob.upd {G : Nat → Prop} {w w' : World} {m n : Nat} {L : List Int} (h : Ob w m n L) (u : Upd G w w') (hG : ¬ G m) : Ob w' m n L := by
  obtain ⟨D, ⟨es, cl, hb, r⟩, h2⟩ := h
  exact ⟨D, ⟨es, cl, u.heap hb hG, r⟩, h2⟩
theorem zero4 (w : World) : (zeroValue 4).run Tryz.prog w = .ok (.bool false) w := by
  have e : Tryz.t4.zero = some (.bool false) := by kernel_rfl
  simp [zeroValue, Result.andThen, e]
theorem plainElem_bool_inv {v : Value} {x : Bool} {ps : List MemPlace} (h : plainElem (H := Unit) Tryz.prog 4 v = some (.lit (.bool x), ps)) : v = .bool x := by
  unfold plainElem at h
  rw [Tryz.underlying4] at h
  cases v <;> simp at h
  rw [h.1]
theorem ob_look {w : World} {m n : Nat} {L : List Int} (h : Ob w m n L) {k : Int} (hk : W64 k) :
    (Instr.lookup 40 (.map (some m)) (.int .i64 k) false).run Tryz.prog w = .ok (.bool (decide (k ∈ L))) w := by
  obtain ⟨D, h1, h2⟩ := h
  obtain ⟨v, ps, hr, ha⟩ := h1.lookup kint Tryz.underlying40 (zero4 w) (plainElem_bool Tryz.underlying4 false) (key3 hk)
  rw [h2 k hk] at ha
  rw [hr, plainElem_bool_inv ha]
theorem ob_put {w : World} {m n : Nat} {L : List Int} (h : Ob w m n L) {k : Int} (hk : W64 k) (hn : n < maxLen) :
    ∃ w', (Instr.mapUpdate 40 (.map (some m)) (.int .i64 k) (.bool true)).run Tryz.prog w = .ok () w' ∧ Ob w' m (n + 1) (L ++ [k]) ∧ Upd (· = m) w w' := by
  obtain ⟨D, h1, h2⟩ := h
  have ht := h1.tidy kint
  obtain ⟨w', hr, h3, hg⟩ := h1.update kint Tryz.underlying40 hn (key3 hk) (plainElem_bool Tryz.underlying4 true)
  refine ⟨w', hr, ⟨_, h3, fun x hx => ?_⟩, (Upd.of_grown hg).mono (fun x _ hx => by injection hx)⟩
  by_cases q : x = k
  · subst q
    rw [Maps.atKey_put_same ht.isMap (isKey3 _)]
    simp
  · rw [Maps.atKey_put_other (lit_ne q)]
    simpa [q] using h2 x hx

end Go.Proofs.YtliekndkjjaldaaGreat
