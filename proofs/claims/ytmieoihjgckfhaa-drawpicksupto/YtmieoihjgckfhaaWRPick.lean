/- What the document's Pick answers. -/
import Derived.Test.YtmieoihjgckfhaaWRAny
import Derived.Test.YtmieoihjgckfhaaWPickZ
namespace Go.Proofs.Ytmieoihjgckfhaa
open Go.RowKit
set_option linter.unusedVariables false
set_option maxRecDepth 20000

set_option maxHeartbeats 4000000 in
theorem rpick_none (w : World) (p pd : Nat) (a2 : Option Addr) (N c2 : Nat) (h : w.cell? ⟨p, 1, none⟩ = some (.slice a2 N c2)) (a : Int) (hn : ¬ (a < N ∧ 0 < N)) :
    Calls Try.prog 21 #[.pointer (some ⟨p, 0, none⟩), .pointer (some ⟨pd, 0, none⟩), .int .i64 a] w fun e w' => e = .returned (.tuple #[.int .i64 0, .bool false]) ∧ w' = w := by
  have k1 := hid (rcalls w p a2 N c2 h)
  by_cases h0 : N = 0
  · subst h0
    clear hn
    go_enter Try.func21, Try.ntmps21
    go_wp2_with fail
    refine k1.out.mono ?_
    rintro e w1 ⟨rfl, rfl⟩
    clear k1
    go_wp2_with fail
    go_ret2
    exact ⟨rfl, rfl⟩
  · have h1 : (N : Int) ≤ a := by omega
    have h2 : ¬ (N : Int) = 0 := by omega
    clear hn
    go_enter Try.func21, Try.ntmps21
    go_wp2_with fail
    refine k1.out.mono ?_
    rintro e w1 ⟨rfl, rfl⟩
    go_wp2_with fail
    refine k1.out.mono ?_
    rintro e w1 ⟨rfl, rfl⟩
    clear k1
    go_wp2_with fail
    go_ret2
    exact ⟨rfl, rfl⟩

set_option maxHeartbeats 8000000 in
theorem rpick_any (w : World) (p B2 pd : Nat) (a2 : Option Addr) (N c2 : Nat) (hc : w.cell? ⟨p, 1, none⟩ = some (.slice a2 N c2)) (hp : p < w.heap.size) (hpd : p ≠ pd) (a : Int) (ha : a < N) (h0 : 0 < N) (hN : N ≤ 1099511627776)
    (l : List Int) (u : Nat) (hD : Rw w B2 pd l u) (f : Nat → Int) (g0 : ∀ k, 0 ≤ f k) (g1 : ∀ k, f k ≤ 25) (hpos : 0 < sumW f N)
    (hK : ∀ W, Upd (· = pd) w W → ∀ k : Nat, Calls Try.prog 19 #[.pointer (some ⟨p, 0, none⟩), .int .i64 a, .int .i64 (k : Int)] W fun e w' => e = .returned (.int .i64 (f k)) ∧ Below W.heap.size W w') :
    Calls Try.prog 21 #[.pointer (some ⟨p, 0, none⟩), .pointer (some ⟨pd, 0, none⟩), .int .i64 a] w fun e w' => ∃ b : Nat, e = .returned (.tuple #[.int .i64 b, .bool true]) ∧ b < N ∧ sumW f b ≤ nx (sumW f N) l u ∧ nx (sumW f N) l u < sumW f (b + 1) ∧ Rw w' B2 pd l (nu (sumW f N) l u) ∧ Upd (· = pd) w w' := by
  have HS := hid (sumW_ge f g0 g1)
  have HMO := hid (sumW_mono f g0)
  have k1 := hid (rcalls w p a2 N c2 hc)
  have KN : Hid (∀ W, Upd (· = pd) w W → Calls Try.prog 28 #[.pointer (some ⟨p, 0, none⟩)] W fun e w' => e = .returned (.int .i64 (N : Int)) ∧ w' = W) := hid fun W hW =>
    rcalls W p a2 N c2 ((World.cell?_of_block (a := ⟨p, 1, none⟩) (hW.block p hp hpd)).trans hc)
  have KW := hid hK
  have HD := hid hD
  have h1 : ¬ (N : Int) ≤ a := by omega
  have h2 : ¬ (N : Int) = 0 := by omega
  have h3 : ¬ N = 0 := by omega
  have h4 : decide ((N : Int) ≤ a) = false := decide_eq_false h1
  have hSN := HS.out N
  clear hK hD hc
  go_enter Try.func21, Try.ntmps21
  go_wp2_with fail
  refine k1.out.mono ?_
  rintro e w1 ⟨rfl, rfl⟩
  go_wp2_with fail
  refine k1.out.mono ?_
  rintro e w1 ⟨rfl, rfl⟩
  go_wp2_with fail
  refine k1.out.mono ?_
  rintro e w1 ⟨rfl, rfl⟩
  clear k1
  go_wp2_with fail
  rename World => w1
  go_loopw [8, 27] (fun v k wr => ∃ i : Nat, i ≤ N ∧ k = .int .i64 i ∧ v = .int .i64 (sumW f i) ∧ Hid (Below w1.heap.size w1 wr)) (fun _ k _ => N - (intOf k).toNat)
  case atStart => exact ⟨0, by omega, rfl, rfl, hid (Below.refl _ _)⟩
  case round =>
    obtain ⟨i, hi, rfl, rfl, HW⟩ := hrel
    rename World => wr
    by_cases hlt : i < N
    · have k3 := hid (KW.out wr (Upd.of_below HW.out) i)
      have hs1 := HS.out i
      have hs2 := HS.out (i + 1)
      have HE : Hid (sumW f (i + 1) = sumW f i + f i) := hid rfl
      have hfi := g0 i
      have hfj := g1 i
      generalize f i = fi at k3 HE hfi hfj
      generalize sumW f i = si at HE hs1 ⊢
      have hwr : IntKind.i64.wrap (si + fi) = si + fi := by rw [IntKind.wrap_i64]; omega
      go_wp2_with fail
      refine k3.out.mono ?_
      rintro e w3 ⟨rfl, hb3⟩
      have HB3 := hid (HW.out.trans (hb3.mono HW.out.size))
      clear k3 hb3
      go_wp2_with fail
      go_roundw
      case rel => exact ⟨i + 1, by omega, by go_num, by rw [HE.out], HB3⟩
      case measure => simp [intOf]; omega
    · obtain rfl : i = N := by omega
      have HUW : Hid (Upd (· = pd) w1 wr) := hid (Upd.of_below HW.out)
      have k4 := hid (rnext_any wr B2 pd l u (sumW f i) (HD.out.below HW.out) (by omega))
      have r0 : 0 ≤ nx (sumW f i) l u := by
        unfold nx
        by_cases q : sumW f i < 1 ∨ u = l.length
        · rw [if_pos q]; omega
        · rw [if_neg q]; exact Int.emod_nonneg _ (by omega)
      have r1 : nx (sumW f i) l u < sumW f i := by
        unfold nx
        by_cases q : sumW f i < 1 ∨ u = l.length
        · rw [if_pos q]; omega
        · rw [if_neg q]; exact Int.emod_lt_of_pos _ (by omega)
      obtain ⟨r, gr⟩ : ∃ r, nx (sumW f i) l u = r := ⟨_, rfl⟩
      obtain ⟨u', gu⟩ : ∃ u', nu (sumW f i) l u = u' := ⟨_, rfl⟩
      rw [gr] at k4 r0 r1
      rw [gu] at k4
      have GR := hid gr
      have GU := hid gu
      clear gr gu
      go_wp2_with fail
      refine k4.out.mono ?_
      rintro e w4 ⟨rfl, hD4, hU4⟩
      have HD4 := hid hD4
      have HU4 := hid (HUW.out.trans hU4 (fun _ _ h => h))
      have k5 := hid (KN.out w4 HU4.out)
      clear k4 hD4 hU4
      go_wp2_with fail
      refine k5.out.mono ?_
      rintro e w5 ⟨rfl, rfl⟩
      clear k5
      rename World => w4
      go_wp2_with fail
      go_loopw [10, 42] (fun v k wr => ∃ b : Nat, b < i ∧ k = .int .i64 b ∧ v = .int .i64 (r - sumW f b) ∧ sumW f b ≤ r ∧ Hid (Below w4.heap.size w4 wr)) (fun _ k _ => i - (intOf k).toNat)
      case atStart => exact ⟨0, by omega, rfl, by simp [sumW], by simpa [sumW] using r0, hid (Below.refl _ _)⟩
      case round =>
        obtain ⟨b, hb, rfl, rfl, hle, HB⟩ := hrel
        rename World => wz
        have HUZ : Hid (Upd (· = pd) w1 wz) := hid (HU4.out.trans (Upd.of_below HB.out) (fun _ _ h => h))
        have k5 := hid (KW.out wz HUZ.out b)
        have hs1 := HS.out b
        have HE : Hid (sumW f (b + 1) = sumW f b + f b) := hid rfl
        have HM1 : Hid (b + 1 = i → r < sumW f (b + 1)) := hid (fun e => by rw [e]; exact r1)
        have hfi := g0 b
        have hfj := g1 b
        have hbi : (b : Int) < (i : Int) := by omega
        have hwr : IntKind.i64.wrap (r - sumW f b - f b) = r - sumW f b - f b := by rw [IntKind.wrap_i64]; omega
        by_cases hge : f b ≤ r - sumW f b
        · have hb1 : b + 1 < i := by
            rcases Nat.lt_or_ge (b + 1) i with q | q
            · exact q
            · have := HM1.out (by omega)
              rw [HE.out] at this
              omega
          have hle2 : sumW f (b + 1) ≤ r := by rw [HE.out]; omega
          have hng : ¬ r - sumW f b - f b < 0 := by omega
          go_wp2_with fail
          refine k5.out.mono ?_
          rintro e w5 ⟨rfl, hb5⟩
          have HB5 := hid (HB.out.trans (hb5.mono HB.out.size))
          clear k5 hb5
          go_wp2_with fail
          go_roundw
          case rel => exact ⟨b + 1, hb1, by go_num, by rw [HE.out]; congr 1; omega, hle2, HB5⟩
          case measure => simp [intOf]; omega
        · have hng : r - sumW f b - f b < 0 := by omega
          have hr2 : r < sumW f (b + 1) := by rw [HE.out]; omega
          go_wp2_with fail
          refine k5.out.mono ?_
          rintro e w5 ⟨rfl, hb5⟩
          have HB5 := hid (HB.out.trans (hb5.mono HB.out.size))
          have HN5 := hid (HU4.out.trans (Upd.of_below HB5.out) (fun _ _ h => h))
          have HD5 := hid (HD4.out.below HB5.out)
          clear k5 hb5
          go_wp2_with fail
          go_ret2
          exact ⟨b, rfl, hb, by rw [GR.out]; exact hle, by rw [GR.out]; exact hr2, by rw [GU.out]; exact HD5.out, HN5.out⟩

end Go.Proofs.Ytmieoihjgckfhaa
