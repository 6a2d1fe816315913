/- What a journal on an image is when it is opened, and opened again: no program here. -/
import Derived.Test.YtkmnhpnlkmiiiaaGreatDoorJLeft
namespace Go.Proofs.YtkmnhpnlkmiiiaaGreatDoor
open Go.RowKit Num Jr
set_option linter.unusedVariables false

namespace Jr
def newest (S : Nat → List Int) : Nat := max (rightH (S 0) 0) (rightH (S 1) 1)
def szOf (n : Nat) : Nat := (n - 2) / 2
/-- Records, groups and used sectors of the newest generation. -/
def opened (n : Nat) (S : Nat → List Int) : List (List Int) × Nat × Nat := if newest S = 0 then ([], 0, 0) else grps S (firstOf (newest S) n) (newest S) (szOf n)
def openGen (S : Nat → List Int) : Nat := if newest S = 0 then 1 else newest S
/-- The image that Open leaves. -/
def openS (n : Nat) (S : Nat → List Int) : Nat → List Int :=
  if newest S = 0 then upS (wipeS S (0 :: List.range' (firstOf 1 n) (szOf n))) 1 (headB 1)
  else wipeS S (leftL (newest S) (firstOf (newest S) n) (szOf n) (opened n S).2.2 (rightH (S 0) 0) (rightH (S 1) 1))

theorem rightH_zero (i : Nat) : rightH zero128 i = 0 := by
  unfold rightH
  have h : lowI ((zero128.drop 4).take 8) = 0 := by
    unfold lowI zero128
    rfl
  rw [h, if_neg (by omega)]

theorem rightS_zero (place gen num : Nat) : rightS zero128 place gen num = false := by
  unfold rightS
  have h : zero128.getD 1 0 = 0 := rfl
  rw [h]
  simp

theorem rightH_mod {zs : List Int} {i : Nat} (h : rightH zs i ≠ 0) : rightH zs i % 2 = i ∧ rightH zs i ≤ 2147483648 := by
  unfold rightH at h ⊢
  split at h
  · rename_i hc
    rw [if_pos hc]
    omega
  · exact absurd rfl h

theorem rightH_head (g : Nat) (h1 : 1 ≤ g) (h2 : g ≤ 2147483648) : rightH (headB g) (g % 2) = g := by
  unfold rightH
  have hd : ((headB g).drop 4).take 8 = le g 8 := by
    have h3 : headB g = [72, 0, 0, 0] ++ (le g 8 ++ (List.replicate 111 0 ++ le (Crc.crc ([72, 0, 0, 0] ++ le g 8 ++ List.replicate 111 0)) 4 ++ [165])) := by simp [headB, seald]
    rw [h3]
    show (le g 8 ++ _).take 8 = _
    rw [List.take_left' (length_le g 8)]
  have hl : lowI (le g 8) = (g : Int) := by
    unfold lowI
    rw [num_le, Nat.mod_eq_of_lt (by omega), IntKind.wrap_i64]
    omega
  rw [hd, hl, if_pos ⟨by omega, by omega, by rw [Int.toNat_natCast], by rw [Int.toNat_natCast]⟩, Int.toNat_natCast]

/-- A load is read alike where the sectors are alike, up to the last one that is read. -/
theorem loadGo_eq (S T : Nat → List Int) (first gen num : Nat) (hS : ∀ i, (S i).length = 128) : ∀ (k place : Nat) (acc : List Int), loadGo S first gen num k place acc ≠ [] →
    ((loadGo S first gen num k place acc).length ≤ acc.length + 100 * k) ∧ (∀ m : Nat, (∀ i, place ≤ i → 100 * (i - place) < (loadGo S first gen num k place acc).length - acc.length → T (first + i) = S (first + i)) → loadGo T first gen num k place acc = loadGo S first gen num k place acc)
  | 0, place, acc => fun h => absurd rfl h
  | k + 1, place, acc => by
    intro h
    have hlen := loadGo_len S first gen num hS (k + 1) place acc h
    refine ⟨hlen.2, fun m hT => ?_⟩
    have h0 : T (first + place) = S (first + place) := hT place (Nat.le_refl _) (by omega)
    revert h hT hlen
    unfold loadGo
    intro h hlen hT
    rw [h0]
    by_cases h1 : rightS (S (first + place)) place gen num = true
    · have hl := rightS_len h1 (hS _)
      rw [if_pos h1] at h hT hlen
      rw [if_pos h1, if_pos h1]
      by_cases h2 : (S (first + place)).getD 12 0 = 1
      · rw [if_pos h2, if_pos h2]
      · rw [if_neg h2] at h hT hlen
        rw [if_neg h2, if_neg h2]
        by_cases h3 : (S (first + place)).getD 1 0 < 100
        · rw [if_pos h3, if_pos h3]
        · rw [if_neg h3] at h hT hlen
          rw [if_neg h3, if_neg h3]
          have hl2 := loadGo_len S first gen num hS k (place + 1) (acc ++ ldOf (S (first + place))) h
          refine (loadGo_eq S T first gen num hS k (place + 1) _ h).2 0 (fun i hi hl => ?_)
          refine hT i (by omega) ?_
          rw [List.length_append] at hl hl2
          omega
    · rw [if_neg h1] at h; exact absurd rfl h

/-- Where the sector is wiped no load begins. -/
theorem loadGo_zero (T : Nat → List Int) (first gen num k place : Nat) (h : T (first + place) = zero128) : loadGo T first gen num k place [] = [] := by
  cases k with
  | zero => rfl
  | succ k => unfold loadGo; rw [h, rightS_zero]; rfl

theorem needN_le (k m : Nat) (h : k ≤ 100 * m) : needN k ≤ m := by unfold needN; omega
theorem needN_pos (k : Nat) (h : 0 < k) : 1 ≤ needN k ∧ k ≤ 100 * needN k ∧ 100 * (needN k - 1) < k := by unfold needN; omega

/-- The groups' end is behind their begin, within the area. -/
theorem grpsGo_le (S : Nat → List Int) (first gen size : Nat) (hS : ∀ i, (S i).length = 128) : ∀ (f g u : Nat) (acc : List (List Int)), u ≤ size → u ≤ (grpsGo S first gen size f g u acc).2.2 ∧ (grpsGo S first gen size f g u acc).2.2 ≤ size
  | 0, g, u, acc, hu => ⟨Nat.le_refl _, hu⟩
  | f + 1, g, u, acc, hu => by
    unfold grpsGo
    by_cases h : recsOf (loadGo S first gen (g + 1) (size - u) u []) = []
    · rw [if_pos h]; exact ⟨Nat.le_refl _, hu⟩
    · rw [if_neg h]
      have hn : loadGo S first gen (g + 1) (size - u) u [] ≠ [] := fun e => h (by rw [e]; exact recsOf_nil)
      have hl := loadGo_len S first gen (g + 1) hS (size - u) u [] hn
      simp only [List.length_nil, Nat.zero_add] at hl
      have h1 := needN_le _ _ hl.2
      have ih := grpsGo_le S first gen size hS f (g + 1) (u + needN (loadGo S first gen (g + 1) (size - u) u []).length) (acc ++ recsOf (loadGo S first gen (g + 1) (size - u) u [])) (by omega)
      omega

/-- Groups are read alike where the sectors up to their end are alike, and the rest is wiped. -/
theorem grpsGo_eq (S T : Nat → List Int) (first gen size : Nat) (hS : ∀ i, (S i).length = 128) : ∀ (f g u : Nat) (acc : List (List Int)), u ≤ size → size - u < f →
    (∀ i, i < (grpsGo S first gen size f g u acc).2.2 → T (first + i) = S (first + i)) → (∀ i, (grpsGo S first gen size f g u acc).2.2 ≤ i → i < size → T (first + i) = zero128) → grpsGo T first gen size f g u acc = grpsGo S first gen size f g u acc
  | 0, g, u, acc, hu, hf => fun _ _ => rfl
  | f + 1, g, u, acc, hu, hf => by
    intro hT hZ
    by_cases h : recsOf (loadGo S first gen (g + 1) (size - u) u []) = []
    · have e : grpsGo S first gen size (f + 1) g u acc = (acc, g, u) := by rw [grpsGo, if_pos h]
      rw [e] at hT hZ ⊢
      have hz : loadGo T first gen (g + 1) (size - u) u [] = [] := by
        rcases Nat.lt_or_ge u size with hlt | hge
        · exact loadGo_zero T first gen (g + 1) (size - u) u (hZ u (Nat.le_refl _) hlt)
        · rw [show size - u = 0 by omega]; rfl
      rw [grpsGo, hz, if_pos recsOf_nil]
    · have hn : loadGo S first gen (g + 1) (size - u) u [] ≠ [] := fun e => h (by rw [e]; exact recsOf_nil)
      have hl := loadGo_len S first gen (g + 1) hS (size - u) u [] hn
      simp only [List.length_nil, Nat.zero_add] at hl
      have h1 := needN_le _ _ hl.2
      have h2 := needN_pos _ hl.1
      have e : grpsGo S first gen size (f + 1) g u acc = grpsGo S first gen size f (g + 1) (u + needN (loadGo S first gen (g + 1) (size - u) u []).length) (acc ++ recsOf (loadGo S first gen (g + 1) (size - u) u [])) := by rw [grpsGo, if_neg h]
      rw [e] at hT hZ ⊢
      have hle := grpsGo_le S first gen size hS f (g + 1) (u + needN (loadGo S first gen (g + 1) (size - u) u []).length) (acc ++ recsOf (loadGo S first gen (g + 1) (size - u) u [])) (by omega)
      have hload : loadGo T first gen (g + 1) (size - u) u [] = loadGo S first gen (g + 1) (size - u) u [] := (loadGo_eq S T first gen (g + 1) hS (size - u) u [] hn).2 0 (fun i hi hl' => hT i (by
        simp only [List.length_nil, Nat.sub_zero] at hl'
        omega))
      rw [grpsGo, hload, if_neg h]
      exact grpsGo_eq S T first gen size hS f (g + 1) _ _ (by omega) (by omega) hT hZ

theorem newest_mod (S : Nat → List Int) (h : newest S ≠ 0) : newest S ≤ 2147483648 ∧ rightH (S (newest S % 2)) (newest S % 2) = newest S := by
  unfold newest at h ⊢
  rcases Nat.le_total (rightH (S 0) 0) (rightH (S 1) 1) with hle | hle
  · rw [Nat.max_eq_right hle] at h ⊢
    have := rightH_mod h
    rw [this.1]
    exact ⟨this.2, rfl⟩
  · rw [Nat.max_eq_left hle] at h ⊢
    have := rightH_mod h
    rw [this.1]
    exact ⟨this.2, rfl⟩

theorem firstOf_ge (g n : Nat) : 2 ≤ firstOf g n := by unfold firstOf; omega

/-- Opened again, an image tells the same. -/
theorem opened_again (n : Nat) (S : Nat → List Int) (hS : ∀ i, (S i).length = 128) : openGen (openS n S) = openGen S ∧ opened n (openS n S) = opened n S := by
  by_cases h0 : newest S = 0
  · have e : openS n S = upS (wipeS S (0 :: List.range' (firstOf 1 n) (szOf n))) 1 (headB 1) := by unfold openS; rw [if_pos h0]
    obtain ⟨T, gT⟩ : ∃ T, T = openS n S := ⟨_, rfl⟩
    rw [← gT] at e ⊢
    have t0 : T 0 = zero128 := by rw [e]; simp [upS, wipeS]
    have t1 : T 1 = headB 1 := by rw [e]; simp [upS]
    have hn : newest T = 1 := by unfold newest; rw [t0, t1, rightH_zero, rightH_head 1 (by omega) (by omega)]; rfl
    have hg : opened n T = ([], 0, 0) := by
      unfold opened grps
      rw [hn, if_neg (by omega), grpsGo]
      have hz : loadGo T (firstOf 1 n) 1 (0 + 1) (szOf n - 0) 0 [] = [] := by
        rcases Nat.eq_zero_or_pos (szOf n) with hs | hs
        · rw [hs]; rfl
        · refine loadGo_zero T _ _ _ _ 0 ?_
          have hf := firstOf_ge 1 n
          rw [e]
          unfold upS wipeS
          rw [if_neg (by omega), if_pos]
          simp only [List.mem_cons, List.mem_range'_1]
          omega
      rw [hz, if_pos recsOf_nil]
    refine ⟨?_, ?_⟩
    · unfold openGen; rw [hn, h0]; rfl
    · rw [hg]; unfold opened; rw [if_pos h0]
  · obtain ⟨N, gN⟩ : ∃ N, N = newest S := ⟨_, rfl⟩
    have hN := newest_mod S h0
    have ho : opened n S = grps S (firstOf N n) N (szOf n) := by unfold opened; rw [if_neg h0, gN]
    have e : openS n S = wipeS S (leftL N (firstOf N n) (szOf n) (opened n S).2.2 (rightH (S 0) 0) (rightH (S 1) 1)) := by unfold openS; rw [if_neg h0, gN]
    obtain ⟨T, gT⟩ : ∃ T, T = openS n S := ⟨_, rfl⟩
    rw [← gT] at e ⊢
    rw [← gN] at hN
    obtain ⟨U, gU⟩ : ∃ U, U = (opened n S).2.2 := ⟨_, rfl⟩
    rw [← gU] at e
    have hf := firstOf_ge N n
    have hmem : ∀ j, j ∈ leftL N (firstOf N n) (szOf n) U (rightH (S 0) 0) (rightH (S 1) 1) ↔ ((j = (N + 1) % 2 ∧ (if (N + 1) % 2 = 0 then rightH (S 0) 0 else rightH (S 1) 1) = 0) ∨ (firstOf N n + U ≤ j ∧ j < firstOf N n + U + (szOf n - U))) := by
      intro j
      unfold leftL
      rw [List.mem_append, List.mem_range'_1]
      refine or_congr ?_ Iff.rfl
      split
      · rename_i hc; simp; exact and_comm
      · rename_i hc; simp; exact and_comm
    have tw : ∀ j, T j = if ((j = (N + 1) % 2 ∧ (if (N + 1) % 2 = 0 then rightH (S 0) 0 else rightH (S 1) 1) = 0) ∨ (firstOf N n + U ≤ j ∧ j < firstOf N n + U + (szOf n - U))) then zero128 else S j := by
      intro j
      rw [e]
      unfold wipeS
      by_cases hj : j ∈ leftL N (firstOf N n) (szOf n) U (rightH (S 0) 0) (rightH (S 1) 1)
      · rw [if_pos hj, if_pos ((hmem j).1 hj)]
      · rw [if_neg hj, if_neg (fun h => hj ((hmem j).2 h))]
    have hhead : ∀ i, i < 2 → rightH (T i) i = rightH (S i) i := by
      intro i hi
      rw [tw i]
      by_cases hc : (i = (N + 1) % 2 ∧ (if (N + 1) % 2 = 0 then rightH (S 0) 0 else rightH (S 1) 1) = 0) ∨ (firstOf N n + U ≤ i ∧ i < firstOf N n + U + (szOf n - U))
      · rw [if_pos hc, rightH_zero]
        rcases hc with ⟨h1, h2⟩ | h2
        · rcases (show i = 0 ∨ i = 1 by omega) with rfl | rfl
          · rw [if_pos h1.symm] at h2; exact h2.symm
          · rw [if_neg (by omega)] at h2; exact h2.symm
        · omega
      · rw [if_neg hc]
    have hn : newest T = N := by rw [gN]; unfold newest; rw [hhead 0 (by omega), hhead 1 (by omega)]
    have hu := grpsGo_le S (firstOf N n) N (szOf n) hS (szOf n + 1) 0 0 [] (Nat.zero_le _)
    have hgr : grps T (firstOf N n) N (szOf n) = grps S (firstOf N n) N (szOf n) := by
      have hUe : (grpsGo S (firstOf N n) N (szOf n) (szOf n + 1) 0 0 []).2.2 = U := by rw [gU, ho]; rfl
      refine grpsGo_eq S T (firstOf N n) N (szOf n) hS (szOf n + 1) 0 0 [] (Nat.zero_le _) (by omega) (fun i hi => ?_) (fun i hi hi2 => ?_)
      · rw [hUe] at hi
        rw [tw, if_neg (by omega)]
      · rw [hUe] at hi
        rw [tw, if_pos (.inr (by omega))]
    refine ⟨?_, ?_⟩
    · unfold openGen; rw [hn, ← gN]
    · rw [ho]; unfold opened; rw [hn, if_neg (by omega), hgr]
end Jr

end Go.Proofs.YtkmnhpnlkmiiiaaGreatDoor
