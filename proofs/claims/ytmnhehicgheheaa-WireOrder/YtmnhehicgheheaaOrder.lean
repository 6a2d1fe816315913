/- The road of WireOrder: it returns true for every two ints, and leaves what was there. -/
import Derived.Test.YtmnhehicgheheaaPut
import Derived.Test.YtmnhehicgheheaaCmp
import Derived.ProofKit
import Derived.OpenShut
namespace Go.Proofs.Ytmnhehicgheheaa.wireOrder
open Go.RowKit Num

theorem ret_true {x : Bool} (h : x = true) : Ending.returned (.bool x) = .returned (.bool true) := by rw [h]

theorem put_nil (n : Int) (w : World) (hn : n ≤ 9223372036854775807) :
    Calls Try.prog 21 #[.slice none 0 0, .int .i64 n] w fun e w' => e = .returned (.slice (some ⟨w.heap.size, 0, none⟩) (enc n.toNat).length 9) ∧
      Src w' (some ⟨w.heap.size, 0, none⟩) (enc n.toNat).length (enc n.toNat) ∧ Below w.heap.size w w' := by
  have h := put_any none 0 0 n [] w (Src.nil _ _) (by omega) hn
  simp only [Nat.zero_add, List.nil_append] at h
  exact h.mono fun e w' ⟨he, ho, hb⟩ => ⟨he, Src.own ho, hb⟩

set_option maxHeartbeats 1600000 in
/-- The law's road, once the numbers are not below 0. -/
theorem road (a0 a1 n m : Int) (w : World) (h0 : 0 ≤ n) (h1 : 0 ≤ m) (hn : n ≤ 9223372036854775807) (hm : m ≤ 9223372036854775807)
    (e0 : (0 ≤ a0 ∧ n = a0) ∨ (a0 < 0 ∧ n = 0)) (e1 : (0 ≤ a1 ∧ m = a1) ∨ (a1 < 0 ∧ m = 0)) :
    Calls Try.prog 6 #[.int .i64 a0, .int .i64 a1] w fun e w' => e = .returned (.bool true) ∧ Below w.heap.size w w' := by
  have ho := order n.toNat m.toNat (by omega) (by omega)
  have hl1 := length_enc n.toNat
  have hl2 := length_enc m.toNat
  have hc1 := cnt_8 n.toNat (by omega)
  have hc2 := cnt_8 m.toNat (by omega)
  obtain ⟨l1, g1⟩ : ∃ l1, l1 = (enc n.toNat).length := ⟨_, rfl⟩
  obtain ⟨l2, g2⟩ : ∃ l2, l2 = (enc m.toNat).length := ⟨_, rfl⟩
  obtain ⟨c, gc⟩ : ∃ c, c = Lib.compareBytes (Lib.bytesOf (enc n.toNat)) (Lib.bytesOf (enc m.toNat)) := ⟨_, rfl⟩
  have k1 := hid (fun wx => put_nil n wx hn)
  have k2 := hid (fun wx => put_nil m wx hm)
  have k3 := hid (fun (xs ys : Option Addr) (wx : World) (q1 : Src wx xs l1 (enc n.toNat)) (q2 : Src wx ys l2 (enc m.toNat)) => gc ▸ cmp_any xs ys l1 9 l2 9 (enc n.toNat) (enc m.toNat) wx q1 q2)
  rw [← g1] at k1 ho hl1
  rw [← g2] at k2 ho hl2
  rw [← gc] at ho
  have b1 : 0 < l1 := by omega
  have b2 : 0 < l2 := by omega
  have b3 : l1 < 10 := by omega
  have b4 : l2 < 10 := by omega
  clear hl1 hl2 hc1 hc2 g1 g2 gc
  have b5 : decide ((l1 : Int) < 10) = true := by simp; omega
  have HO := hid ho
  clear ho
  rcases e0 with ⟨s0, rfl⟩ | ⟨s0, rfl⟩ <;> rcases e1 with ⟨s1, rfl⟩ | ⟨s1, rfl⟩
  all_goals
    go_enter Try.func6, Try.ntmps6
    go_wp2_with fail
    refine (k1.out _).mono ?_
    rintro e w1 ⟨rfl, q1, hb1⟩
    have Q1 := hid q1
    clear q1
    go_wp2_with fail
    refine (k2.out _).mono ?_
    rintro e w2 ⟨rfl, q2, hb2⟩
    have Q1' := hid (Q1.out.below hb2)
    have Q2 := hid q2
    have hb : Below w.heap.size w w2 := hb1.trans (hb2.mono hb1.size)
    clear q2 Q1
    have ho := HO.out
    rcases Nat.lt_trichotomy l1 l2 with hl | hl | hl
    · have hh := ho.1 (.inl hl)
      clear ho
      first | (exfalso; omega) | skip
      all_goals go_wp2_with fail
      all_goals go_ret
      all_goals exact ⟨ret_true (by first | rfl | (simp; omega)), hb⟩
    · subst hl
      by_cases hc : c < 0
      · have hh := ho.1 (.inr ⟨rfl, hc⟩)
        clear ho
        first | (exfalso; omega) | skip
        all_goals go_wp2_with (go_at_call 24; refine (k3.out _ _ _ Q1'.out Q2.out).mono ?_; rintro e w3 ⟨rfl, rfl⟩)
        all_goals go_ret
        all_goals exact ⟨ret_true (by first | rfl | (simp; omega)), hb⟩
      · have hh : ¬ (_ : Nat) < _ := fun h => (ho.2 h).elim (fun h => Nat.lt_irrefl _ h) (fun h => hc h.2)
        have hc' : decide (c < 0) = false := by simp; omega
        clear ho
        first | (exfalso; omega) | skip
        all_goals go_wp2_with (go_at_call 24; refine (k3.out _ _ _ Q1'.out Q2.out).mono ?_; rintro e w3 ⟨rfl, rfl⟩)
        all_goals go_ret
        all_goals exact ⟨ret_true (by first | rfl | (simp; omega)), hb⟩
    · have hh : ¬ (_ : Nat) < _ := fun h => (ho.2 h).elim (fun h => by omega) (fun h => by omega)
      clear ho
      first | (exfalso; omega) | skip
      all_goals go_wp2_with fail
      all_goals go_ret
      all_goals exact ⟨ret_true (by first | rfl | (simp; omega)), hb⟩

theorem walk (a0 : Int) (a1 : Int) (w0 : (Lit.int .i64 a0).wf = true) (w1 : (Lit.int .i64 a1).wf = true) (w : World) :
    Calls Try.prog 6 #[.int .i64 a0, .int .i64 a1] w fun e w' => e = .returned (.bool true) ∧ Below w.heap.size w w' := by
  have b0 := bounds_i64 w0
  have b1 := bounds_i64 w1
  exact road a0 a1 (max a0 0) (max a1 0) w (by omega) (by omega) (by omega) (by omega) (by omega) (by omega)


end Go.Proofs.Ytmnhehicgheheaa.wireOrder
