/- Which call draws pick: what the program's Pick answers. -/
import Derived.Test.YtmieoihjgckfhaaWWeight
namespace Go.Proofs.Ytmieoihjgckfhaa
open Go.RowKit
set_option linter.unusedVariables false
set_option maxRecDepth 20000

/-- What Weight answers. -/
theorem weight_any (w : World) (B p m : Nat) (cs : List Cc) (F : Int → Int → Nat) (a b : Int) (hC : Cw w B p m cs) (hM : Mp w m F) (hn : cs.length ≤ 1099511627776) (hs : ∀ x ∈ cs, x.n ≤ 9223372036854775807) :
    Calls Try.prog 18 #[.pointer (some ⟨p, 0, none⟩), .int .i64 a, .int .i64 b] w fun e w' => e = .returned (.int .i64 (wtC cs F a b)) ∧ Below w.heap.size w w' := by
  by_cases h : hasB cs.length b = false ∨ (0 ≤ a ∧ hasB cs.length a = false)
  · rw [wtC_none cs F a b h]
    refine (weight_none w B p m cs F a b hC h).mono ?_
    rintro e w' ⟨rfl, rfl⟩
    exact ⟨rfl, Below.refl _ _⟩
  · have hb : hasB cs.length b = true := by
      cases q : hasB cs.length b
      · exact absurd (.inl q) h
      · rfl
    by_cases ha : a < 0
    · exact weight_neg w B p m cs F a b hC hM hn ha hb
    · have hha : hasB cs.length a = true := by
        cases q : hasB cs.length a
        · exact absurd (.inr ⟨by omega, q⟩) h
        · rfl
      simp only [hasB, Bool.and_eq_true, decide_eq_true_eq] at hb hha
      obtain ⟨x, rfl⟩ : ∃ x : Nat, a = (x : Int) := ⟨a.toNat, by omega⟩
      obtain ⟨y, rfl⟩ : ∃ y : Nat, b = (y : Int) := ⟨b.toNat, by omega⟩
      exact weight_pos w B p m cs F x y hC hM hn (by omega) (by omega) hs

/-- A choice stays, whatever is done to a block of another kind. -/
theorem Cw.tag {w w' : World} {B p m d : Nat} {cs : List Cc} (h : Cw w B p m cs) (u : Upd (· = d) w w') {C : Array Value} (hd : w.heap[d]? = some (.cells C 51 (0, 0))) : Cw w' B p m cs := by
  obtain ⟨v, h1, h2⟩ := h.ex
  have far : ∀ {e s n : Nat} {v : Value} {xs : List Value}, w.ownsRow B e s v n xs → e ≠ 51 → ∀ k, v.ownBlock = some k → ¬ k = d := fun {e s n v xs} ho he k hk q => by
    obtain ⟨cur, hc⟩ := own_tag ho hk
    rw [q, hd] at hc
    injection hc with hc
    injection hc with _ g _
    exact he g.symm
  refine ⟨⟨v, u.heap h1 (fun q => ?_), u.own h2 (far h2 (by decide))⟩, fun x hx => u.own (h.ok x hx) (far (h.ok x hx) (by decide)), h.lt⟩
  rw [q, hd] at h1
  injection h1 with h1
  injection h1 with _ g _
  exact absurd g (by decide)
theorem Mp.tag {w w' : World} {m d : Nat} {F : Int → Int → Nat} (h : Mp w m F) (u : Upd (· = d) w w') {C : Array Value} {t : TypeId} (hd : w.heap[d]? = some (.cells C t (0, 0))) : Mp w' m F :=
  h.upd u (fun q => by
    obtain ⟨es, cl, h1, _⟩ := h
    rw [q, hd] at h1
    cases h1)

/-- The sum of the first weights. -/
def sumW (f : Nat → Int) : Nat → Int
  | 0 => 0
  | k + 1 => sumW f k + f k
theorem sumW_mono (f : Nat → Int) (h : ∀ k, 0 ≤ f k) : ∀ i j, i ≤ j → sumW f i ≤ sumW f j := by
  intro i j hij
  induction j with
  | zero =>
    obtain rfl : i = 0 := by omega
    exact Int.le_refl _
  | succ j ih =>
    by_cases e : i = j + 1
    · rw [e]; exact Int.le_refl _
    · have := ih (by omega); have := h j; simp only [sumW]; omega
theorem sumW_ge (f : Nat → Int) (h : ∀ k, 0 ≤ f k) (h2 : ∀ k, f k ≤ 25) : ∀ k, 0 ≤ sumW f k ∧ sumW f k ≤ 25 * k
  | 0 => by simp [sumW]
  | k + 1 => by have := sumW_ge f h h2 k; have := h k; have := h2 k; simp only [sumW]; omega

set_option maxHeartbeats 8000000 in
theorem pick_any (w : World) (B p m : Nat) (cs : List Cc) (F : Int → Int → Nat) (a : Int) (hC : Cw w B p m cs) (hM : Mp w m F) (hmp : m < p) (hn : cs.length ≤ 1099511627776) (hs : ∀ x ∈ cs, x.n ≤ 9223372036854775807)
    (B2 pd : Nat) (l : List Int) (u : Nat) (hD : Dw w B2 pd l u) (f : Nat → Int) (hf : ∀ k : Nat, f k = wtC cs F a k) (hpos : 0 < sumW f cs.length) :
    Calls Try.prog 20 #[.pointer (some ⟨p, 0, none⟩), .pointer (some ⟨pd, 0, none⟩), .int .i64 a] w fun e w' => ∃ b : Nat, e = .returned (.tuple #[.int .i64 b, .bool true]) ∧ b < cs.length ∧ sumW f b ≤ nx (sumW f cs.length) l u ∧ nx (sumW f cs.length) l u < sumW f (b + 1) ∧ Dw w' B2 pd l (nu (sumW f cs.length) l u) ∧ Upd (· = pd) w w' := by
  have g0 : ∀ k, 0 ≤ f k := fun k => by rw [hf]; exact (wtC_ge cs F a k).1
  have g1 : ∀ k, f k ≤ 25 := fun k => by rw [hf]; exact (wtC_ge cs F a k).2
  have HS := hid (sumW_ge f g0 g1)
  have HMO := hid (sumW_mono f g0)
  obtain ⟨ca, cc, hc1⟩ := hC.c1
  have k1 := hid (cmade_of w p true hC.c0)
  have k2 := hid (made_of w pd true hD.c0)
  have hpl := hC.pl
  have KW : Hid (∀ W, Upd (· = pd) w W → ∀ k : Nat, Calls Try.prog 18 #[.pointer (some ⟨p, 0, none⟩), .int .i64 a, .int .i64 (k : Int)] W fun e w' => e = .returned (.int .i64 (f k)) ∧ Below W.heap.size W w') := hid fun W hW k => by
    rw [hf]
    obtain ⟨da, dc, hdb, _⟩ := hD.ex
    exact weight_any W B p m cs F a k (hC.tag hW hdb) (hM.tag hW hdb) hn hs
  have HD := hid hD
  have hN : cs.length ≤ 1099511627776 := hn
  generalize cs.length = N at *
  clear hC hM hf hs hD
  have hSN := HS.out N
  go_enter Try.func20, Try.ntmps20
  go_wp2_with fail
  refine k1.out.mono ?_
  rintro e w1 ⟨rfl, rfl⟩
  clear k1
  go_wp2_with fail
  refine k2.out.mono ?_
  rintro e w1 ⟨rfl, rfl⟩
  clear k2
  go_wp2_with fail
  rename World => w1
  go_loopw [8, 25] (fun v k wr => ∃ i : Nat, i ≤ N ∧ k = .int .i64 i ∧ v = .int .i64 (sumW f i) ∧ Hid (Below w1.heap.size w1 wr)) (fun _ k _ => N - (intOf k).toNat)
  case atStart => exact ⟨0, by omega, rfl, rfl, hid (Below.refl _ _)⟩
  case round =>
    obtain ⟨i, hi, rfl, rfl, HW⟩ := hrel
    rename World => wr
    by_cases hlt : i < N
    · have k3 := hid (KW.out wr (Upd.of_below HW.out) i)
      have hs1 := HS.out i
      have hs2 := HS.out (i + 1)
      have HE : Hid (sumW f (i + 1) = sumW f i + f i) := hid rfl
      have hfi := g0 i
      have hfj := g1 i
      generalize f i = fi at k3 HE hfi hfj
      generalize sumW f i = si at HE hs1 ⊢
      have hwr : IntKind.i64.wrap (si + fi) = si + fi := by rw [IntKind.wrap_i64]; omega
      go_wp2_with fail
      refine k3.out.mono ?_
      rintro e w3 ⟨rfl, hb3⟩
      have HB3 := hid (HW.out.trans (hb3.mono HW.out.size))
      clear k3 hb3
      go_wp2_with fail
      go_roundw
      case rel => exact ⟨i + 1, by omega, by go_num, by rw [HE.out], HB3⟩
      case measure => simp [intOf]; omega
    · obtain rfl : i = N := by omega
      have HUW : Hid (Upd (· = pd) w1 wr) := hid (Upd.of_below HW.out)
      have k4 := hid (next_any wr B2 pd l u (sumW f i) (HD.out.below HW.out) (by omega))
      have hne : ¬ sumW f i = 0 := by omega
      have r0 : 0 ≤ nx (sumW f i) l u := by
        unfold nx
        by_cases q : sumW f i < 1 ∨ u = l.length
        · rw [if_pos q]; omega
        · rw [if_neg q]; exact Int.emod_nonneg _ (by omega)
      have r1 : nx (sumW f i) l u < sumW f i := by
        unfold nx
        by_cases q : sumW f i < 1 ∨ u = l.length
        · rw [if_pos q]; omega
        · rw [if_neg q]; exact Int.emod_lt_of_pos _ (by omega)
      obtain ⟨r, gr⟩ : ∃ r, nx (sumW f i) l u = r := ⟨_, rfl⟩
      obtain ⟨u', gu⟩ : ∃ u', nu (sumW f i) l u = u' := ⟨_, rfl⟩
      rw [gr] at k4 r0 r1
      rw [gu] at k4
      have GR := hid gr
      have GU := hid gu
      clear gr gu
      go_wp2_with fail
      refine k4.out.mono ?_
      rintro e w4 ⟨rfl, hD4, hU4⟩
      have HD4 := hid hD4
      have HU4 := hid (HUW.out.trans hU4 (fun _ _ h => h))
      clear k4 hD4 hU4
      go_wp2_with fail
      go_loopw [10, 11] (fun v k wr => ∃ b : Nat, b < i ∧ k = .int .i64 b ∧ v = .int .i64 (r - sumW f b) ∧ sumW f b ≤ r ∧ Hid (Below w4.heap.size w4 wr)) (fun _ k _ => i - (intOf k).toNat)
      case atStart =>
        refine ⟨0, ?_, rfl, by simp [sumW], by simpa [sumW] using r0, hid (Below.refl _ _)⟩
        rcases Nat.eq_zero_or_pos i with q | q
        · rw [q] at r1; simp only [sumW] at r1; omega
        · exact q
      case round =>
        obtain ⟨b, hb, rfl, rfl, hle, HB⟩ := hrel
        rename World => wz
        have HUZ : Hid (Upd (· = pd) w1 wz) := hid (HU4.out.trans (Upd.of_below HB.out) (fun _ _ h => h))
        have k5 := hid (KW.out wz HUZ.out b)
        have hs1 := HS.out b
        have HE : Hid (sumW f (b + 1) = sumW f b + f b) := hid rfl
        have HM1 : Hid (b + 1 = i → r < sumW f (b + 1)) := hid (fun e => by rw [e]; exact r1)
        have hfi := g0 b
        have hfj := g1 b
        by_cases hge : f b ≤ r - sumW f b
        · have hb1 : b + 1 < i := by
            rcases Nat.lt_or_ge (b + 1) i with q | q
            · exact q
            · have := HM1.out (by omega)
              rw [HE.out] at this
              omega
          have hle2 : sumW f (b + 1) ≤ r := by rw [HE.out]; omega
          have hwr : IntKind.i64.wrap (r - sumW f b - f b) = r - sumW f b - f b := by rw [IntKind.wrap_i64]; omega
          go_wp2_with fail
          refine k5.out.mono ?_
          rintro e w5 ⟨rfl, hb5⟩
          have k6 := hid (KW.out w5 (HUZ.out.trans (Upd.of_below hb5) (fun _ _ h => h)) b)
          have HB5 := hid (HB.out.trans (hb5.mono HB.out.size))
          clear k5 hb5
          go_wp2_with fail
          refine k6.out.mono ?_
          rintro e w6 ⟨rfl, hb6⟩
          have HB6 := hid (HB5.out.trans (hb6.mono HB5.out.size))
          clear k6 hb6
          go_wp2_with fail
          go_roundw
          case rel => exact ⟨b + 1, hb1, by go_num, by rw [HE.out]; congr 1; omega, hle2, HB6⟩
          case measure => simp [intOf]; omega
        · go_wp2_with fail
          refine k5.out.mono ?_
          rintro e w5 ⟨rfl, hb5⟩
          have HB5 := hid (HB.out.trans (hb5.mono HB.out.size))
          have hr2 : r < sumW f (b + 1) := by rw [HE.out]; omega
          have HN5 := hid (HU4.out.trans (Upd.of_below HB5.out) (fun _ _ h => h))
          have HD5 := hid (HD4.out.below HB5.out)
          clear k5 hb5
          go_wp2_with fail
          go_ret2
          exact ⟨b, rfl, hb, by rw [GR.out]; exact hle, by rw [GR.out]; exact hr2, by rw [GU.out]; exact HD5.out, HN5.out⟩

end Go.Proofs.Ytmieoihjgckfhaa
