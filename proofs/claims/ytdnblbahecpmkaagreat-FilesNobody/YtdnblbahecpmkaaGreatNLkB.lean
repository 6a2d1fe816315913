/- What a node's look tells of the root alone. (Written by gen_nlk2.py.) -/
import Derived.Test.YtdnblbahecpmkaaGreatNLkA
namespace Go.Proofs.YtdnblbahecpmkaaGreat
open Go.RowKit
set_option linter.unusedVariables false

theorem csizeN : (Tryz.prog.info? 113).map (·.size) = some 8 := by kernel_rfl

set_option maxHeartbeats 4000000 in
set_option maxRecDepth 20000 in
theorem nlook_root (p m : Nat) (w : World) (H : Root w p m) (hp : p < w.heap.size) (hm : m < w.heap.size) :
    Calls Tryz.prog 54 #[.pointer (some ⟨p, 108, none⟩), .int .i64 1] w fun e w' => e = .returned (.agg #[.int .i64 1, .int .i64 2, .int .i64 1, .int .i64 0, .int .i64 0, .slice none 0 0, .slice none 0 0, .slice none 0 0]) ∧ Below w.heap.size w w' := by
  have HH : Hid (∀ W, Below w.heap.size w W → Root W p m) := hid (fun W u => H.below u hp hm)
  have c0 := H.k
  have c1 := H.l
  have c2 := H.h
  clear H
  go_enter Tryz.func54, Tryz.ntmps54
  go_wp2_with fail
  go_region_held3 (fun wx => wx.cell? ⟨p, 108, none⟩ = some (.int .i64 2) ∧ wx.cell? ⟨p, 109, none⟩ = some (.int .i64 1) ∧ wx.cell? ⟨p, 110, none⟩ = some (.int .i64 0)) (go_keep) ((go_at_call 50; refine ((HH.out _ (by first | exact ((Below.refl _ _).alloc (Nat.le_refl _) _).drew | exact (((Below.refl _ _).alloc (Nat.le_refl _) _).alloc (by simp) _).drew)).len).mono ?_; rintro e w2 ⟨rfl, rfl⟩))
  all_goals (
    clear c0 c1 c2
    obtain ⟨W1, g1⟩ : ∃ W1, W1 = ((w.alloc (Obj.cells #[.int .i64 0, .int .i64 0, .int .i64 0, .int .i64 0, .int .i64 0, .slice none 0 0, .slice none 0 0, .slice none 0 0] 113)).alloc (Obj.cells #[.int .i64 1, .int .i64 2, .int .i64 1, .int .i64 0, .int .i64 0, .slice none 0 0, .slice none 0 0, .slice none 0 0] 113)).drew := ⟨_, rfl⟩
    rw [← g1]
    have hb1 : Below w.heap.size w W1 := by rw [g1]; exact (((Below.refl _ _).alloc (Nat.le_refl _) _).alloc (by simp) _).drew
    have hs1 : W1.heap.size = w.heap.size + 2 := by rw [g1]; simp
    have hz : W1.heap[w.heap.size]? = some (.cells (List.toArray [.int .i64 0, .int .i64 0, .int .i64 0, .int .i64 0, .int .i64 0, .slice none 0 0, .slice none 0 0, .slice none 0 0]) 113 (0, 0)) := by
      rw [g1]
      exact (Below.heap_alloc _ _ _ (by simp)).trans (heap_alloc_new w _)
    have hn : W1.heap[w.heap.size + 1]? = some (.cells (List.toArray [.int .i64 1, .int .i64 2, .int .i64 1, .int .i64 0, .int .i64 0, .slice none 0 0, .slice none 0 0, .slice none 0 0]) 113 (0, 0)) := by
      rw [g1]
      have := heap_alloc_new (w.alloc (Obj.cells #[.int .i64 0, .int .i64 0, .int .i64 0, .int .i64 0, .int .i64 0, .slice none 0 0, .slice none 0 0, .slice none 0 0] 113)) (Obj.cells #[.int .i64 1, .int .i64 2, .int .i64 1, .int .i64 0, .int .i64 0, .slice none 0 0, .slice none 0 0, .slice none 0 0] 113)
      have e1 : (w.alloc (Obj.cells #[.int .i64 0, .int .i64 0, .int .i64 0, .int .i64 0, .int .i64 0, .slice none 0 0, .slice none 0 0, .slice none 0 0] 113)).heap.size = w.heap.size + 1 := by simp
      rw [e1] at this
      exact this
    have R1 := HH.out W1 hb1
    have k1 := hid (isdir_any p 108 2 W1 R1.k)
    have k2 := hid (sorted_none m W1 R1.m)
    have c6 := R1.n
    have HZ := hid hz
    have HN := hid hn
    have HS := hid hs1
    have HB := hid hb1
    clear g1 hb1 hs1 hz hn R1 HH
    go_wp2_with fail
    refine k1.out.mono ?_
    rintro e w2 ⟨rfl, rfl⟩
    clear k1
    go_wp2_with fail
    refine (keys_any m _).mono ?_
    rintro e w3 ⟨rfl, rfl⟩
    go_wp2_with fail
    refine k2.out.mono ?_
    rintro e w4 ⟨rfl, hb4⟩
    clear k2 c6
    have hz4 := (hb4.block _ (by have := HS.out; omega)).trans HZ.out
    have hn4 := (hb4.block _ (by have := HS.out; omega)).trans HN.out
    have hB4 : Below w.heap.size w w4 := HB.out.trans (hb4.mono HB.out.size)
    have HB4 := hid hB4
    have HS4 := hid hb4.size
    have z0 := cell_list hz4 (j := 0) rfl
    have n0 := cell_list hn4 (j := 0) rfl
    have f0 : w4.frozen? ⟨w.heap.size, 0, none⟩ = false := by simp [World.frozen?, hz4]
    have z1 := cell_list hz4 (j := 1) rfl
    have n1 := cell_list hn4 (j := 1) rfl
    have f1 : w4.frozen? ⟨w.heap.size, 1, none⟩ = false := by simp [World.frozen?, hz4]
    have z2 := cell_list hz4 (j := 2) rfl
    have n2 := cell_list hn4 (j := 2) rfl
    have f2 : w4.frozen? ⟨w.heap.size, 2, none⟩ = false := by simp [World.frozen?, hz4]
    have z3 := cell_list hz4 (j := 3) rfl
    have n3 := cell_list hn4 (j := 3) rfl
    have f3 : w4.frozen? ⟨w.heap.size, 3, none⟩ = false := by simp [World.frozen?, hz4]
    have z4 := cell_list hz4 (j := 4) rfl
    have n4 := cell_list hn4 (j := 4) rfl
    have f4 : w4.frozen? ⟨w.heap.size, 4, none⟩ = false := by simp [World.frozen?, hz4]
    have z5 := cell_list hz4 (j := 5) rfl
    have n5 := cell_list hn4 (j := 5) rfl
    have f5 : w4.frozen? ⟨w.heap.size, 5, none⟩ = false := by simp [World.frozen?, hz4]
    have z6 := cell_list hz4 (j := 6) rfl
    have n6 := cell_list hn4 (j := 6) rfl
    have f6 : w4.frozen? ⟨w.heap.size, 6, none⟩ = false := by simp [World.frozen?, hz4]
    have z7 := cell_list hz4 (j := 7) rfl
    have n7 := cell_list hn4 (j := 7) rfl
    have f7 : w4.frozen? ⟨w.heap.size, 7, none⟩ = false := by simp [World.frozen?, hz4]
    have g6 : w4.frozen? ⟨w.heap.size + 1, 6, none⟩ = false := by simp [World.frozen?, hn4]
    have HZ4 := hid hz4
    clear hz4 hn4 hB4 hb4
    go_wp2_with fail
    go_loop [42] (fun k => k = .int .i64 0) (fun _ => 0)
    case atStart => rfl
    case round =>
      subst hrel
      go_wp2_with fail
      have hz5 : (w4.setCell ⟨w.heap.size + 1, 6, none⟩ (.slice none 0 0)).heap[w.heap.size]? = some (.cells (List.toArray [.int .i64 0, .int .i64 0, .int .i64 0, .int .i64 0, .int .i64 0, .slice none 0 0, .slice none 0 0, .slice none 0 0]) 113 (0, 0)) := (Below.heap_setCell _ _ _ _ (by simp)).trans HZ4.out
      have h5 := heap_setCells w.heap.size 113 [.int .i64 1, .int .i64 2, .int .i64 1, .int .i64 0, .int .i64 0, .slice none 0 0, .slice none 0 0, .slice none 0 0] 0 _ _ hz5 (by simp)
      rw [splice_all _ _ (by simp)] at h5
      (try simp only [Exit.inBlock, Exit.then])
      refine bodyPost_ret (cell_result rfl _ _ w.heap.size 0 rfl [.int .i64 1, .int .i64 2, .int .i64 1, .int .i64 0, .int .i64 0, .slice none 0 0, .slice none 0 0, .slice none 0 0] _ (rangeAt_block h5) Tryz.underlying113 rfl csizeN) rfl ?_
      refine ⟨rfl, HB4.out.trans (Below.trans (Below.setCell (Below.refl _ _) (by simp) _) ((upd_setCells w.heap.size [.int .i64 1, .int .i64 2, .int .i64 1, .int .i64 0, .int .i64 0, .slice none 0 0, .slice none 0 0, .slice none 0 0] 0 _).below (by simpa using HB4.out.size) (fun x hx => by omega)))⟩)

end Go.Proofs.YtdnblbahecpmkaaGreat
