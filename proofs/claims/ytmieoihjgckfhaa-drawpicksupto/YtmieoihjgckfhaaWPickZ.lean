/- Pick where nothing is wanted; when that is; what stays. -/
import Derived.Test.YtmieoihjgckfhaaWPick
import Derived.Test.YtmieoihjgckfhaaWRef
namespace Go.Proofs.Ytmieoihjgckfhaa
open Go.RowKit
set_option linter.unusedVariables false
set_option maxRecDepth 20000

/-- A choice stays, whatever is done to the document's draws. -/
theorem Cw.tagR {w w' : World} {B p m d : Nat} {cs : List Cc} (h : Cw w B p m cs) (u : Upd (· = d) w w') {C : Array Value} (hd : w.heap[d]? = some (.cells C 63 (0, 0))) : Cw w' B p m cs := by
  obtain ⟨v, h1, h2⟩ := h.ex
  have far : ∀ {e s n : Nat} {v : Value} {xs : List Value}, w.ownsRow B e s v n xs → e ≠ 63 → ∀ k, v.ownBlock = some k → ¬ k = d := fun {e s n v xs} ho he k hk q => by
    obtain ⟨cur, hc⟩ := own_tag ho hk
    rw [q, hd] at hc
    injection hc with hc
    injection hc with _ g _
    exact he g.symm
  refine ⟨⟨v, u.heap h1 (fun q => ?_), u.own h2 (far h2 (by decide))⟩, fun x hx => u.own (h.ok x hx) (far (h.ok x hx) (by decide)), h.lt⟩
  rw [q, hd] at h1
  injection h1 with h1
  injection h1 with _ g _
  exact absurd g (by decide)

theorem wt_low (cs : List Cc) (F : Int → Int → Nat) (a : Int) (b : Nat) (ha : a < cs.length) (hb : b < cs.length) : 1 ≤ wtC cs F a b := by
  have h2 : hasB cs.length (b : Int) = true := by simp [hasB]; omega
  by_cases h : a < 0
  · rw [wtC_neg cs F a b h h2]; omega
  · obtain ⟨x, rfl⟩ : ∃ x : Nat, a = (x : Int) := ⟨a.toNat, by omega⟩
    rw [wtC_pos cs F x b (by omega) hb]
    split <;> omega
/-- There is something to pick just where there is a call, and the one before is one. -/
theorem sum_pos (cs : List Cc) (F : Int → Int → Nat) (a : Int) (f : Nat → Int) (hf : ∀ k : Nat, f k = wtC cs F a k) (ha : a < cs.length) (h0 : 0 < cs.length) : 0 < sumW f cs.length := by
  have g0 : ∀ k, 0 ≤ f k := fun k => by rw [hf]; exact (wtC_ge cs F a k).1
  have h1 := sumW_mono f g0 1 cs.length h0
  have h2 := wt_low cs F a 0 ha h0
  have h3 := hf 0
  simp only [sumW] at h1
  omega
theorem sum_zero (cs : List Cc) (F : Int → Int → Nat) (a : Int) (f : Nat → Int) (hf : ∀ k : Nat, f k = wtC cs F a k) (h : ¬ (a < cs.length ∧ 0 < cs.length)) : sumW f cs.length = 0 := by
  have z : ∀ k : Nat, k < cs.length → f k = 0 := fun k hk => by
    rw [hf]
    refine wtC_none cs F a k (.inr ⟨by omega, ?_⟩)
    simp only [hasB, Bool.and_eq_false_iff, decide_eq_false_iff_not]
    omega
  have : ∀ n, n ≤ cs.length → sumW f n = 0 := fun n => by
    induction n with
    | zero => intro _; rfl
    | succ n ih => intro hn; simp only [sumW]; rw [ih (by omega), z n (by omega)]; rfl
  exact this _ (Nat.le_refl _)
/-- One call alone is picked. -/
theorem pick_one (f : Nat → Int) (h : ∀ k, 0 ≤ f k) (r : Int) (b c : Nat) (h1 : sumW f b ≤ r) (h2 : r < sumW f (b + 1)) (h3 : sumW f c ≤ r) (h4 : r < sumW f (c + 1)) : b = c := by
  rcases Nat.lt_trichotomy b c with x | x | x
  · have := sumW_mono f h (b + 1) c x; omega
  · exact x
  · have := sumW_mono f h (c + 1) b x; omega

set_option maxHeartbeats 8000000 in
theorem pick_zero (w : World) (B p m : Nat) (cs : List Cc) (F : Int → Int → Nat) (a : Int) (hC : Cw w B p m cs) (hM : Mp w m F) (hmp : m < p) (hn : cs.length ≤ 1099511627776) (hs : ∀ x ∈ cs, x.n ≤ 9223372036854775807)
    (B2 pd : Nat) (l : List Int) (u : Nat) (hD : Dw w B2 pd l u) (f : Nat → Int) (hf : ∀ k : Nat, f k = wtC cs F a k) (hz : sumW f cs.length = 0) :
    Calls Try.prog 20 #[.pointer (some ⟨p, 0, none⟩), .pointer (some ⟨pd, 0, none⟩), .int .i64 a] w fun e w' => e = .returned (.tuple #[.int .i64 0, .bool false]) ∧ Below w.heap.size w w' := by
  have g0 : ∀ k, 0 ≤ f k := fun k => by rw [hf]; exact (wtC_ge cs F a k).1
  have g1 : ∀ k, f k ≤ 25 := fun k => by rw [hf]; exact (wtC_ge cs F a k).2
  have HS := hid (sumW_ge f g0 g1)
  have HMO := hid (sumW_mono f g0)
  obtain ⟨ca, cc, hc1⟩ := hC.c1
  have k1 := hid (cmade_of w p true hC.c0)
  have k2 := hid (made_of w pd true hD.c0)
  have hpl := hC.pl
  have KW : Hid (∀ W, Upd (· = pd) w W → ∀ k : Nat, Calls Try.prog 18 #[.pointer (some ⟨p, 0, none⟩), .int .i64 a, .int .i64 (k : Int)] W fun e w' => e = .returned (.int .i64 (f k)) ∧ Below W.heap.size W w') := hid fun W hW k => by
    rw [hf]
    obtain ⟨da, dc, hdb, _⟩ := hD.ex
    exact weight_any W B p m cs F a k (hC.tag hW hdb) (hM.tag hW hdb) hn hs
  have HD := hid hD
  have hN : cs.length ≤ 1099511627776 := hn
  generalize cs.length = N at *
  clear hC hM hf hs hD
  have hSN := HS.out N
  go_enter Try.func20, Try.ntmps20
  go_wp2_with fail
  refine k1.out.mono ?_
  rintro e w1 ⟨rfl, rfl⟩
  clear k1
  go_wp2_with fail
  refine k2.out.mono ?_
  rintro e w1 ⟨rfl, rfl⟩
  clear k2
  go_wp2_with fail
  rename World => w1
  go_loopw [8, 25] (fun v k wr => ∃ i : Nat, i ≤ N ∧ k = .int .i64 i ∧ v = .int .i64 (sumW f i) ∧ Hid (Below w1.heap.size w1 wr)) (fun _ k _ => N - (intOf k).toNat)
  case atStart => exact ⟨0, by omega, rfl, rfl, hid (Below.refl _ _)⟩
  case round =>
    obtain ⟨i, hi, rfl, rfl, HW⟩ := hrel
    rename World => wr
    by_cases hlt : i < N
    · have k3 := hid (KW.out wr (Upd.of_below HW.out) i)
      have hs1 := HS.out i
      have hs2 := HS.out (i + 1)
      have HE : Hid (sumW f (i + 1) = sumW f i + f i) := hid rfl
      have hfi := g0 i
      have hfj := g1 i
      generalize f i = fi at k3 HE hfi hfj
      generalize sumW f i = si at HE hs1 ⊢
      have hwr : IntKind.i64.wrap (si + fi) = si + fi := by rw [IntKind.wrap_i64]; omega
      go_wp2_with fail
      refine k3.out.mono ?_
      rintro e w3 ⟨rfl, hb3⟩
      have HB3 := hid (HW.out.trans (hb3.mono HW.out.size))
      clear k3 hb3
      go_wp2_with fail
      go_roundw
      case rel => exact ⟨i + 1, by omega, by go_num, by rw [HE.out], HB3⟩
      case measure => simp [intOf]; omega
    · obtain rfl : i = N := by omega
      have HZ0 := hid hz
      rw [hz]
      clear hz
      go_wp2_with fail
      go_ret2
      exact ⟨rfl, HW.out⟩

end Go.Proofs.Ytmieoihjgckfhaa
