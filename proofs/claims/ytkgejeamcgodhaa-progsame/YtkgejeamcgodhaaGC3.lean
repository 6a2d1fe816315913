/- Arguments and programs of a call's own, written over. -/
import Derived.Test.YtkgejeamcgodhaaGC2
namespace Go.Proofs.Ytkgejeamcgodhaa
open Go.RowKit
set_option linter.unusedVariables false
set_option maxRecDepth 20000

set_option maxHeartbeats 4000000 in
theorem spoila_any (P : Nat → Prop) : ∀ (d : Nat) (a : Option Addr) (n c : Nat) (w : World), RowS P d w a n → n ≤ c → c ≤ 9223372036854775807 →
    Calls Try.prog 49 #[.slice a n c] w fun e w' => e = .returned (.tuple #[]) ∧ Sp P w w' := by
  intro d
  induction d with
  | zero =>
    intro a n c w h hl hb
    obtain rfl : n = 0 := h
    go_enter Try.func49, Try.ntmps49
    go_wp2_with fail
    go_loop [5] (fun k => k = .int .i64 0) (fun _ => 0)
    case atStart => rfl
    case round =>
      subst hrel
      go_wp2_with fail
      go_end0
      exact ⟨rfl, Sp.refl _ _⟩
  | succ d ih =>
    intro a n c w h hl hb
    have HH := hid h
    have IH := hid ih
    clear h ih
    go_enter Try.func49, Try.ntmps49
    go_wp2_with fail
    go_loopw [5] (fun k wr => ∃ i : Nat, i ≤ n ∧ k = .int .i64 i ∧ Hid (Sp P w wr)) (fun k _ => n - (intOf k).toNat)
    case atStart => exact ⟨0, Nat.zero_le _, rfl, hid (Sp.refl _ _)⟩
    case round =>
      obtain ⟨i, hi, rfl, HS⟩ := hrel
      by_cases hlt : i < n
      · obtain ⟨g, C, rfl, hP, hg, hc⟩ := (RowS.sp HS.out _ _ _ HH.out) (by omega)
        obtain ⟨k, v, ka, kn, kc, ba, bn, bc, c0, c1, c2, c3, l1, l2, l3, l4, hr, hbb⟩ := hc i hlt
        have q2 : wr.cell? ⟨g, i * 4 + 2, none⟩ = some (.slice ka kn kc) := (cell_of_row _ _ (i * 4 + 2) _ _ _ hg).trans c2
        have k1 := hid (IH.out ka kn kc wr hr l1 l2)
        have HG := hid hg
        have HP := hid hP
        have HBB := hid hbb
        have C0 := hid c0
        have C1 := hid c1
        have C3 := hid c3
        clear hg hc c0 c1 c2 c3 hr hbb hP
        go_wp2_with fail
        refine k1.out.mono ?_
        rintro e w1 ⟨rfl, hs1⟩
        obtain ⟨D1, hg1, r1⟩ := hs1.args g C HG.out
        obtain ⟨_, r13, r10, r11⟩ := r1 i
        have q3 : w1.cell? ⟨g, i * 4 + 3, none⟩ = some (.slice ba bn bc) := (cell_of_row _ _ (i * 4 + 3) _ _ _ hg1).trans (r13.trans C3.out)
        have k2 := hid (spoilb_any P ba bn bc w1 (HBB.out.sp hs1) l3 l4)
        obtain ⟨ka1, hk1⟩ := r10 k C0.out
        obtain ⟨va1, hv1⟩ := r11 v C1.out
        have HG1 := hid hg1
        have HK1 := hid hk1
        have HV1 := hid hv1
        have HS1 := hid (HS.out.trans hs1)
        clear k1 hs1 hg1 r1 r13 r10 r11 hk1 hv1 q2
        go_wp2_with fail
        refine k2.out.mono ?_
        rintro e w2 ⟨rfl, hs2⟩
        obtain ⟨D2, hg2, r2⟩ := hs2.args g D1 HG1.out
        obtain ⟨_, _, r20, r21⟩ := r2 i
        obtain ⟨kk, hk2⟩ := r20 ka1 HK1.out
        obtain ⟨vv, hv2⟩ := r21 va1 HV1.out
        have y0 : w2.cell? ⟨g, i * 4, none⟩ = some (.int .i64 kk) := (cell_of_row _ _ (i * 4) _ _ _ hg2).trans hk2
        have y1 : w2.cell? ⟨g, i * 4 + 1, none⟩ = some (.int .i64 vv) := (cell_of_row _ _ (i * 4 + 1) _ _ _ hg2).trans hv2
        have f0 : w2.frozen? ⟨g, i * 4, none⟩ = false := by simp [World.frozen?, hg2]
        have f1 : w2.frozen? ⟨g, i * 4 + 1, none⟩ = false := by simp [World.frozen?, hg2]
        have HG2 := hid hg2
        have HS2 := hid (HS1.out.trans hs2)
        clear k2 hs2 hg2 r2 r20 r21 hk2 hv2 q3
        go_wp2_with fail
        go_roundw
        case rel => exact ⟨i + 1, by omega, by go_num, hid (HS2.out.trans ((Sp.arg (t := 1) HG2.out HP.out (.inr rfl)).trans (Sp.arg (t := 0) (heap_setCell_same w2 g _ _ _ _ HG2.out) HP.out (.inl rfl))))⟩
        case measure => simp [intOf]; omega
      · obtain rfl : i = n := by omega
        go_wp2_with fail
        go_end0
        exact ⟨rfl, HS.out⟩

/-- Steps in a block of steps, with all within. -/
def PgS (P : Nat → Prop) (d : Nat) (w : World) (a : Option Addr) (n : Nat) : Prop :=
  0 < n → ∃ (g : Nat) (C : Array Value), a = some ⟨g, 0, none⟩ ∧ P g ∧ w.heap[g]? = some (.cells C 73 (0, 0)) ∧ ∀ j, j < n → ∃ (k : Int) (ra : Option Addr) (rn rc : Nat), C[j * 2]? = some (Value.int .i64 k) ∧ C[j * 2 + 1]? = some (Value.slice ra rn rc) ∧ rn ≤ rc ∧ rc ≤ 9223372036854775807 ∧ RowS P d w ra rn
theorem BytS.step {P : Nat → Prop} {w : World} {g o : Nat} {v : Value} {C : Array Value} (hg : w.heap[g]? = some (.cells C 73 (0, 0))) {ba : Option Addr} {bn : Nat} (h : BytS P w ba bn) : BytS P (w.setCell ⟨g, o, none⟩ v) ba bn := fun h0 => by
  obtain ⟨g', C', e, hP, hg', hc⟩ := h h0
  have ne : g' ≠ g := fun e => by subst e; rw [hg] at hg'; injection hg' with h; injection h with _ h; exact absurd h (by decide)
  exact ⟨g', C', e, hP, by rw [heap_other ne]; exact hg', hc⟩
theorem RowS.step {P : Nat → Prop} {w : World} {g o : Nat} {v : Value} {C : Array Value} (hg : w.heap[g]? = some (.cells C 73 (0, 0))) : ∀ (d : Nat) (a : Option Addr) (n : Nat), RowS P d w a n → RowS P d (w.setCell ⟨g, o, none⟩ v) a n
  | 0, _, _, h => h
  | d + 1, a, n, h => fun h0 => by
    obtain ⟨g', C', e, hP, hg', hc⟩ := h h0
    have ne : g' ≠ g := fun e => by subst e; rw [hg] at hg'; injection hg' with h; injection h with _ h; exact absurd h (by decide)
    refine ⟨g', C', e, hP, by rw [heap_other ne]; exact hg', fun j hj => ?_⟩
    obtain ⟨k, v', ka, kn, kc, ba, bn, bc, c0, c1, c2, c3, l1, l2, l3, l4, hr, hb⟩ := hc j hj
    exact ⟨k, v', ka, kn, kc, ba, bn, bc, c0, c1, c2, c3, l1, l2, l3, l4, RowS.step hg d ka kn hr, hb.step hg⟩

set_option maxHeartbeats 4000000 in
theorem spoilp_any (P : Nat → Prop) (d : Nat) (a : Option Addr) (n c : Nat) (w : World) (h : PgS P d w a n) (hl : n ≤ c) (hb : c ≤ 9223372036854775807) :
    Calls Try.prog 20 #[.slice a n c] w fun e w' => e = .returned (.tuple #[]) ∧ Upd P w w' := by
  have HH := hid h
  clear h
  go_enter Try.func20, Try.ntmps20
  go_wp2_with fail
  go_loopw [5] (fun k wr => ∃ i : Nat, i ≤ n ∧ k = .int .i64 i ∧ Hid (PgS P d wr a n) ∧ Hid (Upd P w wr)) (fun k _ => n - (intOf k).toNat)
  case atStart => exact ⟨0, Nat.zero_le _, rfl, HH, hid (Upd.refl _ _)⟩
  case round =>
    obtain ⟨i, hi, rfl, HQ, HU⟩ := hrel
    by_cases hlt : i < n
    · obtain ⟨g, C, rfl, hP, hg, hc⟩ := HQ.out (by omega)
      obtain ⟨k, ra, rn, rc, c0, c1, l1, l2, hr⟩ := hc i hlt
      have q1 : wr.cell? ⟨g, i * 2 + 1, none⟩ = some (.slice ra rn rc) := (cell_of_row _ _ (i * 2 + 1) _ _ _ hg).trans c1
      have k1 := hid (spoila_any P d ra rn rc wr hr l1 l2)
      have HG := hid hg
      have HP := hid hP
      have HC := hid hc
      have C0 := hid c0
      clear hg hc c0 c1 hr hP
      go_wp2_with fail
      refine k1.out.mono ?_
      rintro e w1 ⟨rfl, hs1⟩
      have hg1 := (hs1.oth g C 73 HG.out (by decide) (by decide)).trans HG.out
      have y0 : w1.cell? ⟨g, i * 2, none⟩ = some (.int .i64 k) := (cell_of_row _ _ (i * 2) _ _ _ hg1).trans C0.out
      have f0 : w1.frozen? ⟨g, i * 2, none⟩ = false := by simp [World.frozen?, hg1]
      have HG1 := hid hg1
      have HS1 := hid hs1
      clear k1 hs1 hg1 q1
      go_wp2_with fail
      go_roundw
      case rel =>
        refine ⟨i + 1, by omega, by go_num, hid (fun h0 => ⟨g, _, rfl, HP.out, heap_setCell_same w1 g (i * 2) C 73 _ HG1.out, fun j hj => ?_⟩), hid ((HU.out.trans HS1.out.upd (fun _ _ h => h)).trans (Upd.setCell w1 _ _ HP.out) (fun _ _ h => h))⟩
        obtain ⟨k', ra', rn', rc', c0, c1, l1, l2, hr⟩ := HC.out j hj
        have e1 : ∀ v, (C.setIfInBounds (i * 2) v)[j * 2 + 1]? = some (Value.slice ra' rn' rc') := fun v => by rw [Array.getElem?_setIfInBounds_ne (by omega)]; exact c1
        have e2 : ∀ z : Int, ∃ k2 : Int, (C.setIfInBounds (i * 2) (Value.int .i64 z))[j * 2]? = some (Value.int .i64 k2) := fun z => by
          by_cases e : i * 2 = j * 2
          · exact ⟨z, by rw [e, Array.getElem?_setIfInBounds_self_of_lt (Array.getElem?_eq_some_iff.1 c0).1]⟩
          · exact ⟨k', by rw [Array.getElem?_setIfInBounds_ne e]; exact c0⟩
        obtain ⟨k2, hk2⟩ := e2 (wrap64 (k + 1000))
        exact ⟨k2, ra', rn', rc', hk2, e1 _, l1, l2, RowS.step HG1.out d ra' rn' (RowS.sp HS1.out d ra' rn' hr)⟩
      case measure => simp [intOf]; omega
    · obtain rfl : i = n := by omega
      go_wp2_with fail
      go_end0
      exact ⟨rfl, HU.out⟩

end Go.Proofs.Ytkgejeamcgodhaa
