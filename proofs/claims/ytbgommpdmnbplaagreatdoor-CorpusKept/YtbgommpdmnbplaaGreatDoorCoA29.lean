/- The corpus and what it stands on, merged. -/
import Derived.Test.YtbgommpdmnbplaaGreatDoorCoA18
import Derived.Test.YtbgommpdmnbplaaGreatDoorCoA27
import Derived.Test.YtbgommpdmnbplaaGreatDoorCoA28

/- Lists of bytes that part at a place: EqualFunc tells so. -/
namespace Go.Proofs.YtbgommpdmnbplaaGreatDoor
open Go.RowKit Num Jr
set_option linter.unusedVariables false
set_option maxRecDepth 20000

set_option maxHeartbeats 1000000 in
theorem eqf_diff (a1 a2 : Option Addr) (n c1 c2 : Nat) (L1 L2 : List (List Int)) (w : World) (h1 : Img w a1 L1) (h2 : Img w a2 L2) (hn1 : L1.length = n) (hn2 : L2.length = n) (k1 : n ≤ c1) (k2 : c1 ≤ 9223372036854775807) (k3 : n ≤ c2) (k4 : c2 ≤ 9223372036854775807)
    (hB1 : ∀ l ∈ L1, Bytes l) (hB2 : ∀ l ∈ L2, Bytes l) (j : Nat) (hj : j < n) (hne : L1[j]? ≠ L2[j]?) :
    Calls Tryz.prog 82 #[.slice a1 n c1, .slice a2 n c2, .func (.func 83) #[] #[]] w fun e w' => e = .returned (.bool false) ∧ w' = w := by
  have H1 := hid h1
  have H2 := hid h2
  have HN1 := hid hn1
  have HN2 := hid hn2
  have HB1 := hid hB1
  have HB2 := hid hB2
  have HNE := hid hne
  clear h1 h2 hn1 hn2 hB1 hB2 hne
  go_enter Tryz.func82, Tryz.ntmps82
  go_wp2_with fail
  go_loop [17] (fun k => ∃ i : Nat, k = .int .i64 i ∧ i ≤ j) (fun k => n - (intOf k).toNat)
  case atStart => exact ⟨0, rfl, Nat.zero_le _⟩
  case round =>
    obtain ⟨i, rfl, hi⟩ := hrel
    have hlt : i < n := by omega
    have hil : i < L1.length := by rw [HN1.out]; exact hlt
    have hil2 : i < L2.length := by rw [HN2.out]; exact hlt
    obtain ⟨b1, o1, e1, hb1, hc1⟩ := H1.out (by omega)
    obtain ⟨b2, o2, e2, hb2, hc2⟩ := H2.out (by omega)
    subst e1
    subst e2
    obtain ⟨u, hu, a, cc, eu, hs, _⟩ := hc1 i hil
    obtain ⟨u2, hu2, a', cc2, eu2, hs2, _⟩ := hc2 i hil2
    subst eu
    subst eu2
    have ke := hid (equal_dec a a' L1[i].length cc L2[i].length cc2 L1[i] L2[i] w hs hs2 (HB1.out _ (List.getElem_mem hil)) (HB2.out _ (List.getElem_mem hil2)))
    have hij : L1[i] = L2[i] → i < j := fun e => by
      rcases Nat.lt_or_ge i j with h | h
      · exact h
      · obtain rfl : i = j := by omega
        exact absurd (by rw [List.getElem?_eq_getElem hil, List.getElem?_eq_getElem hil2, e]) HNE.out
    obtain ⟨B, gB⟩ : ∃ B, B = decide (L1[i] = L2[i]) := ⟨_, rfl⟩
    have hij' : B = true → i < j := fun e => hij (of_decide_eq_true (gB ▸ e))
    rw [← gB] at ke
    have HIJ := hid hij'
    obtain ⟨m, gm⟩ : ∃ m, m = L1[i].length := ⟨_, rfl⟩
    obtain ⟨m2, gm2⟩ : ∃ m2, m2 = L2[i].length := ⟨_, rfl⟩
    rw [← gm, ← gm2] at ke
    rw [← gm] at hu
    rw [← gm2] at hu2
    clear hc1 hc2 hs hs2 gm gm2 gB hij hij'
    go_wp2_with fail
    refine ke.out.mono ?_
    rintro r w2 ⟨rfl, h⟩
    subst w2
    cases B with
    | true =>
      have hlj := HIJ.out rfl
      go_wp2_with fail
      go_round
      case rel => exact ⟨i + 1, by go_num, by omega⟩
      case measure => simp [intOf]; omega
    | false =>
      go_wp2_with fail
      go_ret
      exact ⟨rfl, rfl⟩

theorem same_no (a1 a2 : Option Addr) (n c1 c2 : Nat) (L1 L2 : List (List Int)) (w : World) (h1 : Img w a1 L1) (h2 : Img w a2 L2) (hn1 : L1.length = n) (hn2 : L2.length = n) (k1 : n ≤ c1) (k2 : c1 ≤ 9223372036854775807) (k3 : n ≤ c2) (k4 : c2 ≤ 9223372036854775807)
    (hB1 : ∀ l ∈ L1, Bytes l) (hB2 : ∀ l ∈ L2, Bytes l) (j : Nat) (hj : j < n) (hne : L1[j]? ≠ L2[j]?) :
    Calls Tryz.prog 29 #[.slice a1 n c1, .slice a2 n c2] w fun e w' => e = .returned (.bool false) ∧ w' = w := by
  have k := hid (eqf_diff a1 a2 n c1 c2 L1 L2 w h1 h2 hn1 hn2 k1 k2 k3 k4 hB1 hB2 j hj hne)
  clear h1 h2 hn1 hn2 hB1 hB2 hne
  go_enter Tryz.func29, Tryz.ntmps29
  go_wp2_with fail
  refine k.out.mono ?_
  rintro r w2 ⟨rfl, h⟩
  subst w2
  go_wp2_with fail
  go_ret
  exact ⟨rfl, rfl⟩
end Go.Proofs.YtbgommpdmnbplaaGreatDoor

/- What a mixed image of a corpus opens as. -/
namespace Go.Proofs.YtbgommpdmnbplaaGreatDoor
open Go.RowKit Co Num Jr
set_option linter.unusedVariables false
set_option maxRecDepth 20000

theorem kept_core {n : Nat} {S : Nat → List Int} {gen : Nat} {done : List (List Int)} {groups used : Nat} {F F2 : Sta} (h : JI n S gen done groups used) (hr : replay done = F) (zs : List Int) (hf : Fits n used zs) (hfol : folR F zs = F2) (T : Nat → List Int)
    (hT : ∀ i, T i = S i ∨ T i = cmtS n gen groups used S [zs] i ∨ ∃ t, t < 128 ∧ T i = (cmtS n gen groups used S [zs] i).take t ++ (S i).drop t) : replay (opened n T).1 = F ∨ replay (opened n T).1 = F2 := by
  have hl : loadOf [zs] = txtB zs := by simp [loadOf]
  have hroom : needN (loadOf [zs]).length ≤ szOf n - used := by rw [hl]; exact hf.2
  rcases h.whole [zs] (by simp) (fun r hr => by rw [List.mem_singleton.1 hr]; exact hf.1) hroom (needN (loadOf [zs]).length) (Nat.le_refl _) T (fun i => by
    have := hT i
    unfold cmtS at this
    simpa using this) with q | q
  · left; rw [q]; exact hr
  · right; rw [q, replay_snoc, hr]; exact hfol
end Go.Proofs.YtbgommpdmnbplaaGreatDoor
