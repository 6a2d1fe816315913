/- What Look tells of a file system with the root alone. -/
import Derived.Test.YtdnblbahecpmkaaGreatNLkB
namespace Go.Proofs.YtdnblbahecpmkaaGreat
open Go.RowKit
set_option linter.unusedVariables false

theorem infoN : (Tryz.prog.info? 113).map (fun i => (i.zero, i.size, i.bytes)) = some (some (.agg #[.int .i64 0, .int .i64 0, .int .i64 0, .int .i64 0, .int .i64 0, .slice none 0 0, .slice none 0 0, .slice none 0 0]), 8, 112) := by kernel_rfl
theorem one_alloc (w : World) (a : Obj) : Below w.heap.size w (w.alloc a) := (Below.refl _ _).alloc (Nat.le_refl _) _

theorem isthere_no (p o : Nat) (w : World) (h : w.cell? ⟨p, o, none⟩ = some (.int .i64 0)) : Calls Tryz.prog 53 #[.pointer (some ⟨p, o, none⟩)] w fun e w' => e = .returned (.bool false) ∧ w' = w := by
  go_enter Tryz.func53, Tryz.ntmps53
  go_wp2_with fail
  go_ret
  exact ⟨rfl, rfl⟩
theorem isthere_yes (p o : Nat) (w : World) (h : w.cell? ⟨p, o, none⟩ = some (.int .i64 2)) : Calls Tryz.prog 53 #[.pointer (some ⟨p, o, none⟩)] w fun e w' => e = .returned (.bool true) ∧ w' = w := by
  go_enter Tryz.func53, Tryz.ntmps53
  go_wp2_with fail
  go_ret
  exact ⟨rfl, rfl⟩

set_option maxHeartbeats 4000000 in
set_option maxRecDepth 20000 in
theorem look_root (p m : Nat) (w : World) (H : Root w p m) (hp : p < w.heap.size) (hm : m < w.heap.size) :
    Calls Tryz.prog 36 #[.pointer (some ⟨p, 0, none⟩)] w fun e w' => (∃ a c, e = .returned (.slice a 1 c)) ∧ Below w.heap.size w w' := by
  obtain ⟨i0, hi0, hz0, hz1, hz2⟩ := info_parts infoN
  have k1 := hid H.usable
  have HH : Hid (∀ W, Below w.heap.size w W → Root W p m ∧ p < W.heap.size ∧ m < W.heap.size) := hid (fun W u => ⟨H.below u hp hm, Nat.lt_of_lt_of_le hp u.size, Nat.lt_of_lt_of_le hm u.size⟩)
  clear H
  go_enter Tryz.func36, Tryz.ntmps36
  go_wp2_with fail
  refine k1.out.mono ?_
  rintro e w1 ⟨rfl, rfl⟩
  clear k1
  go_wp2_with fail
  rename World => w
  go_loopw [3, 8] (fun v k wr => ∃ j : Nat, j ≤ 17 ∧ k = .int .i64 j ∧ Hid (j ≤ 1 → v = .slice none 0 0) ∧ Hid (2 ≤ j → ∃ a c, v = .slice a 1 c) ∧ Hid (Below w.heap.size w wr)) (fun _ k _ => 17 - (intOf k).toNat)
  case atStart => exact ⟨0, by omega, rfl, hid (fun _ => rfl), hid (fun h => by omega), hid (Below.refl _ _)⟩
  case round =>
    obtain ⟨j, hj5, rfl, H1, H2, HB⟩ := hrel
    rcases (show j = 17 ∨ j = 1 ∨ (j < 17 ∧ j ≠ 1) by omega) with rfl | h1 | h
    · obtain ⟨a, c, rfl⟩ := H2.out (by omega)
      go_wp2_with fail
      go_ret
      exact ⟨⟨_, _, rfl⟩, HB.out⟩
    · obtain ⟨HR, hpr, hmr⟩ := HH.out wr HB.out
      have k2 : Hid (Calls Tryz.prog 53 #[.pointer (some ⟨p, 1 + j * 107, none⟩)] wr fun e w' => e = .returned (.bool true) ∧ w' = wr) := by subst h1; exact hid (isthere_yes p 108 wr HR.k)
      have k3 : Hid (Calls Tryz.prog 54 #[.pointer (some ⟨p, 1 + j * 107, none⟩), .int .i64 j] wr fun e w' => e = .returned (.agg #[.int .i64 1, .int .i64 2, .int .i64 1, .int .i64 0, .int .i64 0, .slice none 0 0, .slice none 0 0, .slice none 0 0]) ∧ Below wr.heap.size wr w') := by subst h1; exact hid (nlook_root p m wr HR hpr hmr)
      obtain rfl := H1.out (by omega)
      have hj6 : (j : Int) < 17 := by omega
      have b0 : (0 : Int) ≤ j := by omega
      have HJ := hid h1
      clear h1 HR hpr hmr
      go_wp2_with fail
      refine k2.out.mono ?_
      rintro e w2 ⟨rfl, rfl⟩
      clear k2
      go_wp2_with fail
      refine k3.out.mono ?_
      rintro e w3 ⟨rfl, hb3⟩
      have HB3 := hid (HB.out.trans (hb3.mono HB.out.size))
      clear k3 hb3
      go_wp2_with (at_builtin; go_must (refine wpList_append_where rfl _ _ 42 rfl 113 i0 _ 8 112 Tryz.underlying42 hi0 hz0 hz1 hz2 rfl (by decide) (.slice none 0 0) 0 [] rfl (World.ownsRow_nil _ _ _ _) ⟨_, 0, none⟩ 1 1 [.int .i64 1, .int .i64 2, .int .i64 1, .int .i64 0, .int .i64 0, .slice none 0 0, .slice none 0 0, .slice none 0 0] rfl rfl (by intro a u hj; rw [Addr.add_lit, Nat.zero_add, cell_of_row _ _ a _ 113 (0, 0) (by exact heap_alloc_new _ _)]; simpa using hj) (by simp [Value.oneCell']) (by unfold maxLen; omega) (by omega) ?_))
      intro v' w4 hO3 hU3 hN3 hW3
      obtain ⟨ae, c, rfl⟩ : ∃ ae c, v' = .slice ae 1 c := by
        rcases hO3.out.2 with ⟨_, h0⟩ | ⟨g, c, cur, rfl, _⟩
        · simp at h0
        · exact ⟨_, c, rfl⟩
      have hb4 : Below w.heap.size w w4 := by
        have hs := HB3.out.size
        refine (HB3.out.trans ((one_alloc w3 _).mono hs)).trans (hU3.below ?_ (fun x hx => by simp [Value.ownBlock] at hx))
        simp; omega
      have HB4 := hid hb4
      clear hb4 hO3 hU3 hN3 hW3
      go_wp2_with fail
      go_roundw
      case rel => exact ⟨j + 1, by omega, by go_num, hid (fun h => by have := HJ.out; omega), hid (fun _ => ⟨_, _, rfl⟩), HB4⟩
      case measure => simp [intOf]; omega
    · have k2 := hid (isthere_no p (1 + j * 107) wr ((HH.out wr HB.out).1.none j h.1 h.2))
      have hj6 : (j : Int) < 17 := by omega
      have HA : Hid ((j + 1 ≤ 1 → j ≤ 1) ∧ (2 ≤ j + 1 → 2 ≤ j)) := hid ⟨by omega, by omega⟩
      have hj7 := h.1
      clear h
      go_wp2_with fail
      refine k2.out.mono ?_
      rintro e w2 ⟨rfl, rfl⟩
      clear k2
      go_wp2_with fail
      go_roundw
      case rel => exact ⟨j + 1, by omega, by go_num, hid (fun h => H1.out (HA.out.1 h)), hid (fun h => H2.out (HA.out.2 h)), HB⟩
      case measure => simp [intOf]; omega

end Go.Proofs.YtdnblbahecpmkaaGreat
