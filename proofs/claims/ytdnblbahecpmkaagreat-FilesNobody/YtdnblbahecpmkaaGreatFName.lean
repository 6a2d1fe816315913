/- What Name of Unlink, Stat of what isn't there and Blocks come to. -/
import Derived.Test.YtdnblbahecpmkaaGreatNUnl2
import Derived.Test.YtdnblbahecpmkaaGreatFTab
namespace Go.Proofs.YtdnblbahecpmkaaGreat
open Go.RowKit Go.ChangeMaps Go.MapKept
set_option linter.unusedVariables false
set_option maxRecDepth 20000

set_option maxHeartbeats 1000000 in
theorem ofone_unlink (t p : Nat) (w : World) (c0 : w.cell? ⟨t, 0, none⟩ = some (.pointer (some ⟨p, 0, none⟩))) :
    Calls Tryz.prog 30 #[.pointer (some ⟨t, 0, none⟩), .int .i64 7] w fun e w' => e = .returned (.func (.func 45) #[.pointer (some ⟨p, 0, none⟩)] #[]) ∧ w' = w := by
  go_enter Tryz.func30, Tryz.ntmps30
  go_wp2_with fail
  go_ret
  exact ⟨rfl, rfl⟩

set_option maxHeartbeats 1000000 in
theorem name_unlink (t p : Nat) (path : ByteArray) (w : World) (c0 : w.cell? ⟨t, 0, none⟩ = some (.pointer (some ⟨p, 0, none⟩))) (Q : World → Prop) (k : Calls Tryz.prog 45 #[.pointer (some ⟨p, 0, none⟩), .string path] w fun e w' => e = .returned (.int .i64 0) ∧ Q w') :
    Calls Tryz.prog 8 #[.pointer (some ⟨t, 0, none⟩), .int .i64 7, .string path, .string ⟨#[]⟩] w fun e w' => e = .returned (.int .i64 0) ∧ Q w' := by
  have k0 := hid (fusable_yes t p w c0)
  have k1 := hid (ofone_unlink t p w c0)
  have k2 := hid k
  have hne : ∀ W : World, (binOp BinOp.neq 73 (.func (.func 45) #[.pointer (some ⟨p, 0, none⟩)] #[]) .nilFunc).run Tryz.prog W = .ok (.bool true) W := fun W => by kernel_rfl
  clear k
  go_enter Tryz.func8, Tryz.ntmps8
  go_wp2_with fail
  refine k0.out.mono ?_
  rintro e w1 ⟨rfl, rfl⟩
  go_wp2_with fail
  refine k1.out.mono ?_
  rintro e w1 ⟨rfl, rfl⟩
  go_wp2_with fail
  refine k2.out.mono ?_
  rintro e w2 ⟨rfl, hq⟩
  have HQ := hid hq
  clear k2 hq hne
  go_wp2_with fail
  go_ret
  exact ⟨rfl, HQ.out⟩

set_option maxHeartbeats 1000000 in
theorem fblocks_none (t p : Nat) (S : Sg) (w : World) (H : Sy w p S) (hc : cnt S.T 25 = 0) (c0 : w.cell? ⟨t, 0, none⟩ = some (.pointer (some ⟨p, 0, none⟩))) :
    Calls Tryz.prog 14 #[.pointer (some ⟨t, 0, none⟩)] w fun e w' => (∃ a c, e = .returned (.slice a 0 c)) ∧ Below w.heap.size w w' := by
  have k0 := hid (fusable_yes t p w c0)
  have k1 : Hid (Calls Tryz.prog 35 #[.pointer (some ⟨p, 0, none⟩)] w fun e w' => (∃ a c, e = .returned (.slice a 0 c)) ∧ Below w.heap.size w w') := by
    have k2 := hid H.usable
    have k3 := hid (alloc_any p S w H)
    rw [hc] at k3
    refine hid ?_
    clear k0
    go_enter Tryz.func35, Tryz.ntmps35
    go_wp2_with fail
    refine k2.out.mono ?_
    rintro e w1 ⟨rfl, rfl⟩
    go_wp2_with fail
    refine k3.out.mono ?_
    rintro e w2 ⟨⟨a, c, rfl⟩, hb⟩
    have HB := hid hb
    clear k2 k3 hb
    go_wp2_with fail
    go_ret
    exact ⟨⟨a, c, rfl⟩, HB.out⟩
  go_enter Tryz.func14, Tryz.ntmps14
  go_wp2_with fail
  refine k0.out.mono ?_
  rintro e w1 ⟨rfl, rfl⟩
  go_wp2_with fail
  refine k1.out.mono ?_
  rintro e w2 ⟨⟨a, c, rfl⟩, hb⟩
  have HB := hid hb
  clear k0 k1 hb
  go_wp2_with fail
  go_ret
  exact ⟨⟨a, c, rfl⟩, HB.out⟩

set_option maxHeartbeats 1000000 in
theorem ffind_any (t p : Nat) (S : Sg) (path : ByteArray) (w : World) (H : Sy w p S) (hT : Tree S) (hs : path.size ≤ 140737488355328) (c0 : w.cell? ⟨t, 0, none⟩ = some (.pointer (some ⟨p, 0, none⟩))) :
    Calls Tryz.prog 32 #[.pointer (some ⟨t, 0, none⟩), .string path] w fun e w' => e = .returned (.tuple #[.int .i64 ((findS S path).1 : Int), .int .i64 (findS S path).2]) ∧ Below w.heap.size w w' := by
  have k0 := hid (fusable_yes t p w c0)
  have k1 := hid (find_any p S path w H hT hs)
  obtain ⟨R1, R2, gR⟩ : ∃ R1 R2, findS S path = (R1, R2) := ⟨_, _, rfl⟩
  rw [gR] at k1 ⊢
  clear H hT gR
  go_enter Tryz.func32, Tryz.ntmps32
  go_wp2_with fail
  refine k0.out.mono ?_
  rintro e w1 ⟨rfl, rfl⟩
  go_wp2_with fail
  refine k1.out.mono ?_
  rintro e w2 ⟨rfl, hb⟩
  have HB := hid hb
  clear k0 k1 hb
  go_wp2_with fail
  go_ret2
  exact ⟨rfl, HB.out⟩

theorem builtInfo0 : Tryz.prog.built 32 [] = some #[.int .i64 0, .int .i64 0, .int .i64 0] := by kernel_rfl
set_option maxHeartbeats 1000000 in
theorem fstat_none (t p : Nat) (S : Sg) (path : ByteArray) (w : World) (H : Sy w p S) (hT : Tree S) (hs : path.size ≤ 140737488355328) (c0 : w.cell? ⟨t, 0, none⟩ = some (.pointer (some ⟨p, 0, none⟩))) (ht : t < w.heap.size) (n : Nat) (E : Int) (hf : findS S path = (n, E)) (hE : ¬ E = 0) :
    Calls Tryz.prog 9 #[.pointer (some ⟨t, 0, none⟩), .string path] w fun e w' => e = .returned (.tuple #[.agg #[.int .i64 0, .int .i64 0, .int .i64 0], .int .i64 E]) ∧ Below w.heap.size w w' := by
  obtain ⟨W, gW⟩ : ∃ W, W = w.alloc (Obj.cells #[.int .i64 0, .int .i64 0, .int .i64 0] 32) := ⟨_, rfl⟩
  have hB : Below w.heap.size w W := by rw [gW]; exact one_new _ _
  have hN : W.heap[w.heap.size]? = some (.cells #[.int .i64 0, .int .i64 0, .int .i64 0] 32 (0, 0)) := by rw [gW]; exact heap_alloc_new _ _
  have hZ : w.heap.size < W.heap.size := by rw [gW]; simp
  have k1 := hid (ffind_any t p S path W (H.grow hB) hT hs ((hB.cell (p := ⟨t, 0, none⟩) ht).trans c0))
  rw [hf] at k1
  have HB := hid hB
  have HN := hid hN
  have HZ := hid hZ
  clear H hT hf hB hN hZ c0
  go_enter Tryz.func9, Tryz.ntmps9
  go_wp2_with fail
  rw [← gW]
  refine k1.out.mono ?_
  rintro e w2 ⟨rfl, hb⟩
  have h2 : w2.heap[w.heap.size]? = some (.cells #[.int .i64 0, .int .i64 0, .int .i64 0] 32 (0, 0)) := (hb.block _ HZ.out).trans HN.out
  have r0 : w2.cell? ⟨w.heap.size, 0, none⟩ = some (.int .i64 0) := by rw [cell_of_row w2 _ 0 _ _ _ h2]; rfl
  have r1 : w2.cell? ⟨w.heap.size, 1, none⟩ = some (.int .i64 0) := by rw [cell_of_row w2 _ 1 _ _ _ h2]; rfl
  have r2 : w2.cell? ⟨w.heap.size, 2, none⟩ = some (.int .i64 0) := by rw [cell_of_row w2 _ 2 _ _ _ h2]; rfl
  have f0 : ∀ j, w2.frozen? ⟨w.heap.size, j, none⟩ = false := fun j => by simp [World.frozen?, h2]
  have f1 := f0 0
  have f2 := f0 1
  have f3 := f0 2
  have HB2 := hid hb
  have H2 := hid h2
  clear k1 hb h2 f0
  go_wp2_with (refine wpList_build_is rfl 32 #[] rfl _ (by simpa [Act.eval] using builtInfo0) ?_)
  have q3 : (((w2.setCell ⟨w.heap.size, 0, none⟩ (.int .i64 0)).setCell ⟨w.heap.size, 1, none⟩ (.int .i64 0)).setCell ⟨w.heap.size, 2, none⟩ (.int .i64 0)).heap[w.heap.size]? = some (.cells (List.toArray [.int .i64 0, .int .i64 0, .int .i64 0]) 32 (0, 0)) := by
    have g1 := heap_setCell_same w2 w.heap.size 0 _ _ (.int .i64 0) H2.out
    have g2 := heap_setCell_same _ w.heap.size 1 _ _ (.int .i64 0) g1
    have g3 := heap_setCell_same _ w.heap.size 2 _ _ (.int .i64 0) g2
    exact g3
  refine bodyPost_ret (cell_result2 rfl _ _ w.heap.size 0 rfl [.int .i64 0, .int .i64 0, .int .i64 0] _ (rangeAt_block q3) Tryz.underlying32 rfl csizeInfo) rfl ?_
  have b2 := HB.out.trans (HB2.out.mono HB.out.size)
  exact ⟨rfl, ((b2.setCell (Nat.le_refl _) _).setCell (Nat.le_refl _) _).setCell (Nat.le_refl _) _⟩

end Go.Proofs.YtdnblbahecpmkaaGreat
