/- What Read and Stat tell of a file. -/
import Derived.Test.YtdnblbahecpmkaaGreatNWrite
namespace Go.Proofs.YtdnblbahecpmkaaGreat
open Go.RowKit Go.ChangeMaps Go.MapKept
set_option linter.unusedVariables false
set_option maxRecDepth 20000

/-- A file's bytes from an offset on, at most so many. -/
def rd (x : Nd) (off cnt : Nat) : List Int := ((x.b.take x.s).drop off).take cnt

theorem rd_len (x : Nd) (hb : x.b.length = 96) (hs : x.s ≤ 96) (off cnt : Nat) : (rd x off cnt).length = min cnt (x.s - off) := by
  unfold rd
  simp [hb]
  omega

theorem rd_getD (x : Nd) (hb : x.b.length = 96) (hs : x.s ≤ 96) (off cnt j : Nat) (hj : j < min cnt (x.s - off)) : (rd x off cnt).getD j 0 = x.b.getD (off + j) 0 := by
  unfold rd
  rw [List.getD_eq_getElem?_getD, List.getElem?_take_of_lt (by omega), List.getElem?_drop, List.getElem?_take_of_lt (by omega), List.getD_eq_getElem?_getD]

set_option maxHeartbeats 4000000 in
set_option maxRecDepth 20000 in
theorem read_ok (p : Nat) (S : Sg) (w : World) (i : Nat) (h1 : 1 ≤ i) (hi : i < 17) (x : Nd) (T : Nat → Bool) (H : Sy w p (S.bl i x T)) (hk : x.k = 1) (hs : x.s ≤ 96) (off count : Nat) (hoff : off ≤ 9223372036854775807) (hc : count ≤ 9223372036854775807) :
    Calls Tryz.prog 156 #[.pointer (some ⟨p, 0, none⟩), .int .i64 (i : Int), .int .i64 (off : Int), .int .i64 (count : Int)] w fun e w' => (∃ g c, e = .returned (.tuple #[.slice (some ⟨g, 0, none⟩) (min count (x.s - off)) c, .int .i64 0]) ∧
      w'.ownsRow w.heap.size 5 1 (.slice (some ⟨g, 0, none⟩) (min count (x.s - off)) c) (min count (x.s - off)) ((rd x off count).map (Value.int .u8))) ∧ Below w.heap.size w w' := by
  have hP : (S.bl i x T).P i = x := updN_same _ _ _
  have k1 := hid (file_yes p (S.bl i x T) w H i h1 hi (by rw [hP]; exact hk))
  have c3 := H.s i hi
  rw [hP] at c3
  have hb96 := (H.ok i hi).b
  rw [hP] at hb96
  have hby : ∀ j, j < 96 → w.cell? ⟨p, 1 + i * 107 + (4 + j), none⟩ = some (.int .u8 (x.b.getD j 0)) := fun j hj => by
    have := H.b i hi j hj
    rw [hP] at this
    exact this
  obtain ⟨s, gs⟩ : ∃ s, s = x.s := ⟨_, rfl⟩
  have HRL := hid (fun off cnt => rd_len x hb96 hs off cnt)
  have HRD := hid (fun off cnt j => rd_getD x hb96 hs off cnt j)
  rw [← gs] at c3 hs HRL HRD ⊢
  have HY := hid hby
  have hpl := H.lt
  have a1 : ¬ (off : Int) < 0 := by omega
  have a2 : ¬ (count : Int) < 0 := by omega
  obtain ⟨m, gm⟩ : ∃ m, m = min off s := ⟨_, rfl⟩
  have hmin : min (off : Int) (s : Int) = (m : Int) := by omega
  have b1 : (0 : Int) ≤ (m : Int) := by omega
  have b2 : (m : Int) ≤ (s : Int) := by omega
  have b3 : (s : Int) ≤ 96 := by omega
  have hms : m ≤ s := by omega
  obtain ⟨r, gr⟩ : ∃ r, r = min count (s - off) := ⟨_, rfl⟩
  rw [← gr]
  have hmin2 : min (count : Int) ((s - m : Nat) : Int) = (r : Int) := by omega
  have b4 : (0 : Int) ≤ (r : Int) := by omega
  have b5 : r ≤ s - m := by omega
  have b6 : (r : Int) ≤ ((96 - m : Nat) : Int) := by omega
  have HM := hid (And.intro gm gr)
  have kc : Hid (∀ (o c : Nat), (0 < r → o = 1 + i * 107 + 4 + m) → Calls Tryz.prog 149 #[.slice (some ⟨p, o, none⟩) r c] w.drew fun e w' => ∃ g c', e = .returned (.slice (some ⟨g, 0, none⟩) r c') ∧ Hid (w'.ownsRow w.heap.size 5 1 (.slice (some ⟨g, 0, none⟩) r c') r ((rd x off count).map (Value.int .u8)) ∧ Below w.heap.size w w')) := by
    refine hid (fun o c ho => ?_)
    have hsrc : Src w.drew (some ⟨p, o, none⟩) r (rd x off count) := by
      refine ⟨by rw [HRL.out, ← gr], fun h0 => ⟨p, o, rfl, hpl, fun j hj => ?_⟩⟩
      have hom : m = off := by omega
      rw [ho h0, HRD.out off count j (by rw [← gr]; exact hj), hom]
      have := HY.out (off + j) (by omega)
      rw [show 1 + i * 107 + (4 + (off + j)) = 1 + i * 107 + 4 + off + j by omega] at this
      exact this
    refine (clone_any ⟨p, o, none⟩ r c (rd x off count) w.drew hsrc (by omega)).mono ?_
    rintro e w' ⟨g, c', rfl, h1, h2⟩
    exact ⟨g, c', rfl, hid ⟨h1, (Below.refl _ w).drew.trans h2⟩⟩
  clear H hP gs hby hk hb96 gm gr
  go_enter Tryz.func156, Tryz.ntmps156
  go_wp2_with fail
  refine k1.out.mono ?_
  rintro e w1 ⟨rfl, rfl⟩
  clear k1
  go_wp2_with fail
  go_region
  go_wp2_with fail
  all_goals
    refine (kc.out _ _ (fun h => by omega)).mono ?_
    rintro e w2 ⟨g, c', rfl, H2⟩
    go_wp2_with fail
    go_ret2
    exact ⟨⟨g, c', rfl, H2.out.1⟩, H2.out.2⟩

theorem cell_three (w : World) (g : Nat) (v0 v1 v2 : Value) (a : Addr) (h : a.block ≠ g) : ((((w.setCell ⟨g, 0, none⟩ v0).setCell ⟨g, 1, none⟩ v1).setCell ⟨g, 2, none⟩ v2).drew).cell? a = w.cell? a := by
  have one : ∀ (w : World) (j : Nat) (v : Value), (w.setCell ⟨g, j, none⟩ v).cell? a = w.cell? a := fun w j v => World.cell?_of_block (heap_setCell_other w ⟨g, j, none⟩ a.block v h)
  exact ((one _ 2 v2).trans (one _ 1 v1)).trans (one _ 0 v0)

theorem builtInfo (k l s : Int) : Tryz.prog.built 32 [(0, .int .i64 k), (1, .int .i64 l), (2, .int .i64 s)] = some #[.int .i64 k, .int .i64 l, .int .i64 s] := congrFun (congrFun (congrFun (show (fun (k l s : Int) => Tryz.prog.built 32 [(0, .int .i64 k), (1, .int .i64 l), (2, .int .i64 s)]) = (fun k l s => some #[.int .i64 k, .int .i64 l, .int .i64 s]) by kernel_rfl) k) l) s
theorem csizeInfo : (Tryz.prog.info? 32).map (·.size) = some 3 := by kernel_rfl

set_option maxHeartbeats 4000000 in
set_option maxRecDepth 20000 in
theorem stat_file (p : Nat) (S : Sg) (w : World) (i : Nat) (h1 : 1 ≤ i) (hi : i < 17) (x : Nd) (T : Nat → Bool) (H : Sy w p (S.bl i x T)) (hk : x.k = 1) :
    Calls Tryz.prog 33 #[.pointer (some ⟨p, 0, none⟩), .int .i64 (i : Int)] w fun e w' => e = .returned (.tuple #[.agg #[.int .i64 1, .int .i64 x.l, .int .i64 (x.s : Int)], .int .i64 0]) ∧ Below w.heap.size w w' := by
  have hP : (S.bl i x T).P i = x := updN_same _ _ _
  obtain ⟨W, gW⟩ : ∃ W, W = w.alloc (Obj.cells #[.int .i64 0, .int .i64 0, .int .i64 0] 32) := ⟨_, rfl⟩
  have hB : Below w.heap.size w W := by rw [gW]; exact one_new _ _
  have hN : W.heap[w.heap.size]? = some (.cells #[.int .i64 0, .int .i64 0, .int .i64 0] 32 (0, 0)) := by rw [gW]; exact heap_alloc_new _ _
  have hS : Sy W p (S.bl i x T) := H.grow hB
  have k1 := hid (node_yes p (S.bl i x T) W hS i h1 hi (by rw [hP, hk]; omega))
  have c0 := hS.k i hi
  have c1 := hS.l i hi
  have c3 := hS.s i hi
  have c6 := hS.m i hi
  have hnm := hS.nms i hi
  rw [hP] at c0 c1 c3 c6 hnm
  have kl : Hid (∀ W', W' = W ∨ W' = W.drew → Calls Tryz.prog 50 #[.pointer (some ⟨p, 1 + i * 107, none⟩)] W' fun e w' => e = .returned (.int .i64 (x.s : Int)) ∧ w' = W') := by
    refine hid (fun W' hW' => ?_)
    have := fun W' (hw : W'.heap = W.heap) => length_any p (1 + i * 107) x.k x.s x.m _ _ W' ((World.cell?_of_block (a := ⟨p, 1 + i * 107, none⟩) (show W'.heap[p]? = W.heap[p]? by rw [hw])).trans c0) ((World.cell?_of_block (a := ⟨p, 1 + i * 107 + 3, none⟩) (show W'.heap[p]? = W.heap[p]? by rw [hw])).trans c3) ((World.cell?_of_block (a := ⟨p, 1 + i * 107 + 106, none⟩) (show W'.heap[p]? = W.heap[p]? by rw [hw])).trans c6) (hnm.block (fun b _ => by rw [hw]))
    rw [if_neg (by rw [hk]; omega)] at this
    rcases hW' with rfl | rfl
    · exact this _ rfl
    · exact this _ rfl
  rw [hk] at c0
  have r0 : W.cell? ⟨w.heap.size, 0, none⟩ = some (.int .i64 0) := by rw [cell_of_row W _ 0 _ _ _ hN]; rfl
  have r1 : W.cell? ⟨w.heap.size, 1, none⟩ = some (.int .i64 0) := by rw [cell_of_row W _ 1 _ _ _ hN]; rfl
  have r2 : W.cell? ⟨w.heap.size, 2, none⟩ = some (.int .i64 0) := by rw [cell_of_row W _ 2 _ _ _ hN]; rfl
  have f0 : ∀ j, W.frozen? ⟨w.heap.size, j, none⟩ = false := fun j => by simp [World.frozen?, hN]
  have f1 := f0 0
  have f2 := f0 1
  have f3 := f0 2
  obtain ⟨l, gl⟩ : ∃ l, l = x.l := ⟨_, rfl⟩
  obtain ⟨s, gs⟩ : ∃ s, s = x.s := ⟨_, rfl⟩
  rw [← gl] at c1 ⊢
  rw [← gs] at c3 kl ⊢
  have hpn : p ≠ w.heap.size := Nat.ne_of_lt H.lt
  have HN := hid hN
  have HB := hid hB
  clear H hP hS hnm c6 hk hN hB gl gs f0
  go_enter Tryz.func33, Tryz.ntmps33
  go_wp2_with fail
  rw [← gW]
  clear gW
  refine k1.out.mono ?_
  rintro e w1 ⟨rfl, rfl⟩
  clear k1
  go_wp2_with fail
  go_region_held3 (fun W' => W'.cell? ⟨p, 1 + i * 107, none⟩ = some (.int .i64 1) ∧ W'.cell? ⟨p, 1 + i * 107 + 1, none⟩ = some (.int .i64 l)) (first | (refine ⟨?_, ?_⟩ <;> assumption) | (refine ⟨(cell_three _ _ _ _ _ ⟨p, _, none⟩ hpn).trans ?_, (cell_three _ _ _ _ _ ⟨p, _, none⟩ hpn).trans ?_⟩ <;> assumption) | go_keep) ((go_at_call 50; refine (kl.out _ (by first | exact .inl rfl | exact .inr rfl)).mono ?_; rintro e w' ⟨rfl, rfl⟩))
  go_wp2_with fail
  have q3 : ((((w1.setCell ⟨w.heap.size, 0, none⟩ (.int .i64 1)).setCell ⟨w.heap.size, 1, none⟩ (.int .i64 l)).setCell ⟨w.heap.size, 2, none⟩ (.int .i64 (s : Int))).drew).heap[w.heap.size]? = some (.cells (List.toArray [.int .i64 1, .int .i64 l, .int .i64 (s : Int)]) 32 (0, 0)) := by
    have g1 := heap_setCell_same w1 w.heap.size 0 _ _ (.int .i64 1) HN.out
    have g2 := heap_setCell_same _ w.heap.size 1 _ _ (.int .i64 l) g1
    have g3 := heap_setCell_same _ w.heap.size 2 _ _ (.int .i64 (s : Int)) g2
    exact g3
  have uu : Upd (· = w.heap.size) w1 ((((w1.setCell ⟨w.heap.size, 0, none⟩ (.int .i64 1)).setCell ⟨w.heap.size, 1, none⟩ (.int .i64 l)).setCell ⟨w.heap.size, 2, none⟩ (.int .i64 (s : Int))).drew) := by
    have u1 : Upd (· = w.heap.size) w1 (w1.setCell ⟨w.heap.size, 0, none⟩ (.int .i64 1)) := Upd.setCell (F := (· = w.heap.size)) w1 ⟨_, _, none⟩ _ rfl
    have u2 : Upd (· = w.heap.size) (w1.setCell ⟨w.heap.size, 0, none⟩ (.int .i64 1)) ((w1.setCell ⟨w.heap.size, 0, none⟩ (.int .i64 1)).setCell ⟨w.heap.size, 1, none⟩ (.int .i64 l)) := Upd.setCell (F := (· = w.heap.size)) _ ⟨_, _, none⟩ _ rfl
    have u3 : Upd (· = w.heap.size) ((w1.setCell ⟨w.heap.size, 0, none⟩ (.int .i64 1)).setCell ⟨w.heap.size, 1, none⟩ (.int .i64 l)) (((w1.setCell ⟨w.heap.size, 0, none⟩ (.int .i64 1)).setCell ⟨w.heap.size, 1, none⟩ (.int .i64 l)).setCell ⟨w.heap.size, 2, none⟩ (.int .i64 (s : Int))) := Upd.setCell (F := (· = w.heap.size)) _ ⟨_, _, none⟩ _ rfl
    exact ((u1.trans u2 (fun _ _ h => h)).trans u3 (fun _ _ h => h)).drewN 1
  refine bodyPost_ret (cell_result2 rfl _ _ w.heap.size 0 rfl [.int .i64 1, .int .i64 l, .int .i64 (s : Int)] _ (rangeAt_block q3) Tryz.underlying32 rfl csizeInfo) rfl ?_
  exact ⟨rfl, HB.out.trans (uu.below HB.out.size (fun x hx => by omega))⟩

end Go.Proofs.YtdnblbahecpmkaaGreat
