/- What disk.New does: a disk of so many sectors of noughts, in new memory; the error of any other number. -/
import Derived.Test.YtkmnhpnlkmiiiaaGreatDoorSClone
namespace Go.Proofs.YtkmnhpnlkmiiiaaGreatDoor
open Go.RowKit
set_option linter.unusedVariables false

set_option maxHeartbeats 1000000 in
set_option maxRecDepth 20000 in
theorem of_any (a : Addr) (len cap : Nat) (zs : List Int) (w : World) (hs : Src w (some a) len zs) (hr : len ≤ 140737488355328) :
    Calls Tryz.prog 44 #[.slice (some a) len cap] w fun e w' => ∃ p g c, e = .returned (.pointer (some ⟨p, 0, none⟩)) ∧ w'.heap[p]? = some (.cells #[.slice (some a) len cap, .slice (some ⟨g, 0, none⟩) len c, .slice none 0 0, .bool false] 64 (0, 0)) ∧
      w'.ownsRow w.heap.size 5 1 (.slice (some ⟨g, 0, none⟩) len c) len (zs.map (Value.int .u8)) ∧ w.heap.size ≤ p ∧ g < p ∧ Below w.heap.size w w' := by
  have k := hid (sclone_any a len cap zs w hs hr)
  clear hs
  go_enter Tryz.func44, Tryz.ntmps44
  go_wp2_with fail
  refine k.out.mono ?_
  rintro e w1 ⟨g, c, rfl, hown, hb⟩
  have HO := hid hown
  clear hown
  go_wp2_with fail
  go_ret
  have hlt := HO.out.lt g rfl
  have hb2 := hb.alloc hb.size (.cells #[.slice (some a) len cap, .slice (some ⟨g, 0, none⟩) len c, .slice none 0 0, .bool false] 64)
  exact ⟨w1.heap.size, g, c, rfl, heap_alloc_new w1 _, own_below HO.out ((Below.refl _ _).alloc (Nat.le_refl _) _), hb.size, hlt.2, hb2⟩

theorem noughts (w : World) (n : Nat) : (w.alloc (.cells (madeCells #[Value.int .u8 0] n) 5)).ownsRow w.heap.size 5 1 (.slice (some ⟨w.heap.size, 0, none⟩) n n) n ((List.replicate n (0 : Int)).map (Value.int .u8)) ∨ ¬ n ≤ maxLen := by
  rcases Nat.lt_or_ge maxLen n with h | h
  · exact .inr (by omega)
  · refine .inl ⟨by simp, .inr ⟨w.heap.size, n, _, rfl, Nat.le_refl _, heap_alloc_new w _, Nat.le_refl _, h, by simp [size_madeCells], ?_⟩⟩
    rw [toList_madeCells_one]
    simp

set_option maxHeartbeats 1000000 in
set_option maxRecDepth 20000 in
theorem new_any (n : Nat) (w : World) (h1 : 1 ≤ n) (h2 : n ≤ 2048) :
    Calls Tryz.prog 29 #[.int .i64 n] w fun e w' => ∃ p g c, e = .returned (.tuple #[.pointer (some ⟨p, 0, none⟩), .int .i64 0]) ∧ w'.heap[p]? = some (.cells #[.slice (some ⟨w.heap.size, 0, none⟩) (n * 128) (n * 128), .slice (some ⟨g, 0, none⟩) (n * 128) c, .slice none 0 0, .bool false] 64 (0, 0)) ∧
      w'.ownsRow w.heap.size 5 1 (.slice (some ⟨w.heap.size, 0, none⟩) (n * 128) (n * 128)) (n * 128) ((List.replicate (n * 128) (0 : Int)).map (Value.int .u8)) ∧
      w'.ownsRow (w.heap.size + 1) 5 1 (.slice (some ⟨g, 0, none⟩) (n * 128) c) (n * 128) ((List.replicate (n * 128) (0 : Int)).map (Value.int .u8)) ∧ w.heap.size + 1 ≤ p ∧ g < p ∧ Below w.heap.size w w' := by
  obtain ⟨i0, hi, hz0, hz1, hz2⟩ := info_parts Tryz.scinfo5
  obtain ⟨N, gN⟩ : ∃ N, N = n * 128 := ⟨_, rfl⟩
  rw [← gN]
  have hN1 : n * 128 ≤ N := by omega
  have hN2 : N ≤ n * 128 := by omega
  have hmx : N ≤ maxLen := by unfold maxLen; omega
  have hby : i0.bytes * N ≤ 281474976710656 := by rw [hz2]; omega
  have hown := (noughts w N).resolve_right (fun h => h hmx)
  have hb0 : Below w.heap.size w (w.alloc (.cells (madeCells #[Value.int .u8 0] N) 5)) := (Below.refl _ _).alloc (Nat.le_refl _) _
  have k := hid (of_any ⟨w.heap.size, 0, none⟩ N N (List.replicate N 0) _ (Src.own hown) (by omega))
  have HO := hid hown
  have HB := hid hb0
  clear gN hown hb0
  go_enter Tryz.func29, Tryz.ntmps29
  go_wp2_with (at_make; go_must (refine wpList_make_lc _ rfl _ _ 29 rfl 5 i0 (.int .u8 0) 1 Tryz.underlying29 hi hz0 hz1 _ _ _ _ N N rfl rfl (by omega) (by omega) (Nat.le_refl _) hby hmx ?_))
  refine k.out.mono ?_
  rintro e w1 ⟨p, g, c, rfl, hp, hg, hlt, hgp, hb⟩
  have HP := hid hp
  have HG := hid hg
  clear hp hg
  simp at hlt
  go_wp2_with fail
  go_ret2
  refine ⟨p, g, c, rfl, HP.out, own_below HO.out hb, ?_, hlt, hgp, HB.out.trans (hb.mono (by simp))⟩
  have := HG.out
  simp at this
  simpa using this

end Go.Proofs.YtkmnhpnlkmiiiaaGreatDoor
