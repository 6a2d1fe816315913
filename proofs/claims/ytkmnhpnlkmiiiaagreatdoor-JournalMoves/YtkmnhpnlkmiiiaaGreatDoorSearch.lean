/- What slices.BinarySearchFunc does with disk.find's order, for every row of writes whose sectors rise. -/
import Derived.Test.YtkmnhpnlkmiiiaaGreatDoorFind
namespace Go.Proofs.YtkmnhpnlkmiiiaaGreatDoor
open Go.RowKit

set_option maxHeartbeats 1000000 in
set_option maxRecDepth 4000 in
theorem search_any (ae : Option Addr) (n c : Nat) (sec : Nat → Int) (bv : Nat → Value) (i : Int) (w : World) (hs : Sents w ae n sec bv) (hr : ∀ j k, j < k → k < n → sec j < sec k) (hn : n ≤ 1152921504606846976) :
    Calls Tryz.prog 79 #[.slice ae n c, .int .i64 i, .func (.func 80) #[] #[]] w fun e w' => ∃ (k : Nat) (f : Bool), e = .returned (.tuple #[.int .i64 k, .bool f]) ∧ k ≤ n ∧ (∀ j, j < k → sec j < i) ∧ (∀ j, k ≤ j → j < n → i ≤ sec j) ∧ (f = true ↔ k < n ∧ sec k = i) ∧ Below w.heap.size w w' := by
  have HS := hid hs
  have HR := hid hr
  clear hs hr
  go_enter Tryz.func79, Tryz.ntmps79
  go_wp2_with fail
  go_loopw [9, 10] (fun a b wr => ∃ x y : Nat, a = .int .i64 x ∧ b = .int .i64 y ∧ x ≤ y ∧ y ≤ n ∧ Hid (∀ j, j < x → sec j < i) ∧ Hid (∀ j, y ≤ j → j < n → i ≤ sec j) ∧ Below w.heap.size w wr) (fun a b _ => (intOf b - intOf a).toNat)
  case atStart => exact ⟨0, n, rfl, rfl, Nat.zero_le _, Nat.le_refl _, hid (by intro j hj; omega), hid (by intro j h1 h2; omega), Below.refl _ _⟩
  case round =>
    obtain ⟨x, y, rfl, rfl, hxy, hyn, HL, HG, hb⟩ := hrel
    have HN := hid hn
    clear hn
    by_cases h : x < y
    · have h' : (x : Int) < y := by omega
      have hN := HN.out
      have hmn : (x + y) / 2 < n := by omega
      obtain ⟨b, o, rfl, hlt, hc⟩ := HS.out.below hb (by omega)
      obtain ⟨c0, c1⟩ := hc ((x + y) / 2) hmn
      clear hc
      have KO := hid (fun wx => order_any (sec ((x + y) / 2)) i (bv ((x + y) / 2)) wx)
      go_wp2_with fail
      refine (KO.out _).mono ?_
      rintro e w1 ⟨rfl, hb1⟩
      have hbw : Below w.heap.size w w1 := hb.trans (hb1.mono hb.size)
      clear c0 c1
      unfold cmpI
      rcases (show sec ((x + y) / 2) < i ∨ i ≤ sec ((x + y) / 2) by omega) with hl | hl
      · rw [if_pos hl]
        go_wp2_with fail
        rw [show ((x : Int) + y) / 2 + 1 = (((x + y) / 2 + 1 : Nat) : Int) by omega]
        refine ⟨⟨(x + y) / 2 + 1, y, rfl, rfl, by omega, hyn, hid (fun j hj => ?_), HG, hbw⟩, by simp only [intOf]; omega⟩
        rcases (show j = (x + y) / 2 ∨ j < (x + y) / 2 by omega) with rfl | hj'
        · exact hl
        · exact Int.lt_trans (HR.out j _ hj' hmn) hl
      · have hz : ¬ (if sec ((x + y) / 2) < i then (-1 : Int) else if i < sec ((x + y) / 2) then 1 else 0) < 0 := by
          rw [if_neg (by omega)]; split <;> omega
        obtain ⟨z, gz⟩ : ∃ z, z = (if sec ((x + y) / 2) < i then (-1 : Int) else if i < sec ((x + y) / 2) then 1 else 0) := ⟨_, rfl⟩
        rw [← gz] at hz ⊢
        clear gz
        go_wp2_with fail
        rw [show ((x : Int) + y) / 2 = (((x + y) / 2 : Nat) : Int) by omega]
        refine ⟨⟨x, (x + y) / 2, rfl, rfl, by omega, by omega, HL, hid (fun j hj hjn => ?_), hbw⟩, by simp only [intOf]; omega⟩
        rcases (show j = (x + y) / 2 ∨ (x + y) / 2 < j by omega) with rfl | hj'
        · exact hl
        · exact Int.le_of_lt (Int.lt_of_le_of_lt hl (HR.out _ j hj' hjn))
    · obtain rfl : x = y := by omega
      rcases Nat.lt_or_ge x n with hn' | hn'
      · obtain ⟨b, o, rfl, hlt, hc⟩ := HS.out.below hb (by omega)
        obtain ⟨c0, c1⟩ := hc x hn'
        clear hc
        have KO := hid (fun wx => order_any (sec x) i (bv x) wx)
        go_wp2_with fail
        refine (KO.out _).mono ?_
        rintro e w1 ⟨rfl, hb1⟩
        have hbw : Below w.heap.size w w1 := hb.trans (hb1.mono hb.size)
        clear c0 c1
        have hge := HG.out x (Nat.le_refl _) hn'
        rcases (show sec x = i ∨ i < sec x by omega) with he | he
        · rw [show cmpI (sec x) i = 0 by unfold cmpI; rw [if_neg (by omega), if_neg (by omega)]]
          go_wp2_with fail
          go_ret2
          exact ⟨x, true, rfl, by omega, HL.out, HG.out, ⟨fun _ => ⟨hn', he⟩, fun _ => rfl⟩, hbw⟩
        · rw [show cmpI (sec x) i = 1 by unfold cmpI; rw [if_neg (by omega), if_pos he]]
          go_wp2_with fail
          go_ret2
          exact ⟨x, false, rfl, by omega, HL.out, HG.out, ⟨fun hh => by simp at hh, fun hh => by omega⟩, hbw⟩
      · obtain rfl : x = n := by omega
        go_wp2_with fail
        go_ret2
        exact ⟨x, false, rfl, Nat.le_refl _, HL.out, HG.out, ⟨fun hh => by simp at hh, fun hh => by omega⟩, hb⟩

end Go.Proofs.YtkmnhpnlkmiiiaaGreatDoor
