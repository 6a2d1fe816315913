/- Whether arguments are the same, wherever they lie: dredgerplain.SameArgs of such that are. -/
import Derived.Test.YtkgejeamcgodhaaGLst
import Derived.Test.YtkgejeamcgodhaaGWalk1
namespace Go.Proofs.Ytkgejeamcgodhaa
open Go.RowKit
set_option linter.unusedVariables false
set_option maxRecDepth 20000

/-- Arguments lie from an address on. -/
def Krow (d : Nat) (w : World) (a : Option Addr) (qs : List Ar) : Prop :=
  0 < qs.length → ∃ b o, a = some ⟨b, o, none⟩ ∧ b < w.heap.size ∧ ∀ j, ∀ h : j < qs.length, HdAt w b (o + j * 4) qs[j].h ∧ Okd d w qs[j]
theorem Krow.below {d : Nat} {w w' : World} {a : Option Addr} {qs : List Ar} (h : Krow d w a qs) (hb : Below w.heap.size w w') : Krow d w' a qs := fun h0 => by
  obtain ⟨b, o, e, hl, hc⟩ := h h0
  exact ⟨b, o, e, Nat.lt_of_lt_of_le hl hb.size, fun j hj => ⟨(hc j hj).1.blk (hb.block b hl), Okd.below hb d _ (hc j hj).2⟩⟩

/-- What SameArgs answers of such that are the same. -/
def SaysSame (f : Nat) : Prop := ∀ (d d' : Nat) (ra : Option Addr) (rn rc : Nat) (sa : Option Addr) (sn sc : Nat) (qs rs : List Ar) (w : World), Krow d w ra qs → qs.length = rn → rn ≤ rc → rc ≤ 9223372036854775807 → Krow d' w sa rs → rs.length = sn → sn ≤ sc → sc ≤ 9223372036854775807 → AllS (SameA f) qs rs →
  Calls Try.prog 14 #[.slice ra rn rc, .slice sa sn sc] w fun e w' => e = .returned (.bool true) ∧ Below w.heap.size w w'

set_option maxHeartbeats 8000000 in
theorem same_one (f : Nat) (ih : SaysSame f) (d d' : Nat) (A B : Ar) (w : World) (hA : Okd (d + 1) w A) (hB : Okd (d' + 1) w B) (hs : SameA (f + 1) A B) :
    Calls Try.prog 40 #[.agg #[.int .i64 A.h.k, .int .i64 A.h.v, .slice A.h.ka A.h.kn A.h.kc, .slice A.h.ba A.h.bn A.h.bc], .agg #[.int .i64 B.h.k, .int .i64 B.h.v, .slice B.h.ka B.h.kn B.h.kc, .slice B.h.ba B.h.bn B.h.bc]] w fun e w' => e = .returned (.bool true) ∧ Below w.heap.size w w' := by
  obtain ⟨s1, s2, s3, s4⟩ := hs
  obtain ⟨a1, a2, a3⟩ := hA
  obtain ⟨b1, b2, b3⟩ := hB
  have k1 := hid (fun wx (hb : Below w.heap.size w wx) => equal_yes A.h.ba B.h.ba A.h.bn A.h.bc B.h.bn B.h.bc A.h.bs wx (a1.bs.below hb) (by rw [s3]; exact b1.bs.below hb))
  have k2 := hid (fun wx (hb : Below w.heap.size w wx) => ih d d' A.h.ka A.h.kn A.h.kc B.h.ka B.h.kn B.h.kc A.ks B.ks wx (Krow.below a3 hb) a2 a1.km a1.kb (Krow.below b3 hb) b2 b1.km b1.kb s4)
  clear a1 a2 a3 b1 b2 b3 s3 s4
  generalize A.h = ah at *
  generalize B.h = bh at *
  obtain ⟨ak, av, ka, kn, kc, ba, bn, bc, bs⟩ := ah
  obtain ⟨bk, bv, la, ln, lc, da, dn, dc, ds⟩ := bh
  dsimp only at *
  subst s1
  subst s2
  go_enter Try.func40, Try.ntmps40
  go_wp2_with fail
  refine (k1.out _ (below_box2 w _ _)).mono ?_
  rintro e w1 ⟨rfl, h1⟩
  subst w1
  go_wp2_with fail
  refine (k2.out _ (below_box2 w _ _)).mono ?_
  rintro e w2 ⟨rfl, hb2⟩
  go_wp2_with fail
  go_ret
  exact ⟨rfl, (below_box2 w _ _).trans (hb2.mono (below_box2 w _ _).size)⟩

set_option maxHeartbeats 8000000 in
theorem eqf_yes (f : Nat) (hf : ∀ (d d' : Nat) (A B : Ar) (w : World), Okd d w A → Okd d' w B → SameA f A B → Calls Try.prog 40 #[.agg #[.int .i64 A.h.k, .int .i64 A.h.v, .slice A.h.ka A.h.kn A.h.kc, .slice A.h.ba A.h.bn A.h.bc], .agg #[.int .i64 B.h.k, .int .i64 B.h.v, .slice B.h.ka B.h.kn B.h.kc, .slice B.h.ba B.h.bn B.h.bc]] w fun e w' => e = .returned (.bool true) ∧ Below w.heap.size w w')
    (d d' : Nat) (ra : Option Addr) (rn rc : Nat) (sa : Option Addr) (sc : Nat) (qs rs : List Ar) (w : World) (h1 : Krow d w ra qs) (hl1 : qs.length = rn) (hc1 : rn ≤ rc) (hb1 : rc ≤ 9223372036854775807) (h2 : Krow d' w sa rs) (hl2 : rs.length = rn) (hc2 : rn ≤ sc) (hb2 : sc ≤ 9223372036854775807) (hS : AllS (SameA f) qs rs) :
    Calls Try.prog 39 #[.slice ra rn rc, .slice sa rn sc, .func (.func 40) #[] #[]] w fun e w' => e = .returned (.bool true) ∧ Below w.heap.size w w' := by
  have H1 := hid h1
  have H2 := hid h2
  have HL1 := hid hl1
  have HL2 := hid hl2
  have HS := hid hS
  have HF := hid hf
  clear h1 h2 hl1 hl2 hS hf
  go_enter Try.func39, Try.ntmps39
  go_wp2_with fail
  go_loopw [17] (fun k wr => ∃ i : Nat, i ≤ rn ∧ k = .int .i64 i ∧ Hid (Below w.heap.size w wr)) (fun k _ => rn - (intOf k).toNat)
  case atStart => exact ⟨0, Nat.zero_le _, rfl, hid (Below.refl _ _)⟩
  case round =>
    obtain ⟨i, hi, rfl, HB⟩ := hrel
    by_cases hlt : i < rn
    · have hi1 : i < qs.length := by rw [HL1.out]; exact hlt
      have hi2 : i < rs.length := by rw [HL2.out]; exact hlt
      obtain ⟨b, o, rfl, hbl, hcs⟩ := H1.out (by omega)
      obtain ⟨b2, o2, rfl, hbl2, hcs2⟩ := H2.out (by omega)
      obtain ⟨x0, x1, x2, x3⟩ := (hcs i hi1).1.blk (HB.out.block b hbl)
      obtain ⟨z0, z1, z2, z3⟩ := (hcs2 i hi2).1.blk (HB.out.block b2 hbl2)
      have hsz := HB.out.size
      have bt : ∀ o1 o2, Below w.heap.size w ((wr.alloc o1).alloc o2) := fun o1 o2 => (HB.out.alloc hsz o1).alloc (by simp; omega) o2
      have k1 := hid (fun o1 o2 => HF.out d d' qs[i] rs[i] ((wr.alloc o1).alloc o2) (Okd.below (bt o1 o2) d _ (hcs i hi1).2) (Okd.below (bt o1 o2) d' _ (hcs2 i hi2).2) (allS_at qs rs HS.out i hi1 hi2))
      have hb1' : b < wr.heap.size := by omega
      have hb2' : b2 < wr.heap.size := by omega
      have hb3' : b2 < wr.heap.size + 1 := by omega
      generalize qs[i].h = ah at *
      generalize rs[i].h = bh at *
      have BT := hid bt
      clear hcs hcs2 bt hi1 hi2
      go_wp2_with fail
      refine (k1.out _ _).mono ?_
      rintro e w1 ⟨rfl, hb⟩
      have HB2 := hid ((BT.out _ _).trans (hb.mono (BT.out _ _).size))
      clear hb
      go_wp2_with fail
      go_roundw
      case rel => exact ⟨i + 1, by omega, by go_num, HB2⟩
      case measure => simp [intOf]; omega
    · obtain rfl : i = rn := by omega
      go_wp2_with fail
      go_ret
      exact ⟨rfl, HB.out⟩

theorem says_same : ∀ f, SaysSame f := by
  intro f
  induction f with
  | zero =>
    intro d d' ra rn rc sa sn sc qs rs w h1 hl1 hc1 hb1 h2 hl2 hc2 hb2 hS
    have hq : qs = [] := by
      match qs, rs, hS with
      | [], _, _ => rfl
      | a :: qs, b :: rs, ⟨h, _⟩ => exact h.elim
    have hln := allS_len _ _ hS
    obtain rfl : sn = rn := by omega
    have k1 := hid (eqf_yes 0 (fun d d' A B w _ _ h => h.elim) d d' ra sn rc sa sc qs rs w h1 hl1 hc1 hb1 h2 hl2 hc2 hb2 hS)
    clear h1 h2 hS hq hl1 hl2 hln
    go_enter Try.func14, Try.ntmps14
    go_wp2_with fail
    refine k1.out.mono ?_
    rintro e w1 ⟨rfl, hb⟩
    go_wp2_with fail
    go_ret
    exact ⟨rfl, hb⟩
  | succ f ih =>
    intro d d' ra rn rc sa sn sc qs rs w h1 hl1 hc1 hb1 h2 hl2 hc2 hb2 hS
    have hln := allS_len _ _ hS
    obtain rfl : sn = rn := by omega
    have k1 := hid (eqf_yes (f + 1) (fun d d' A B w hA hB h => by
      cases d with
      | zero => exact hA.elim
      | succ d =>
        cases d' with
        | zero => exact hB.elim
        | succ d' => exact same_one f ih d d' A B w hA hB h) d d' ra sn rc sa sc qs rs w h1 hl1 hc1 hb1 h2 hl2 hc2 hb2 hS)
    clear h1 h2 hS hl1 hl2 hln ih
    go_enter Try.func14, Try.ntmps14
    go_wp2_with fail
    refine k1.out.mono ?_
    rintro e w1 ⟨rfl, hb⟩
    go_wp2_with fail
    go_ret
    exact ⟨rfl, hb⟩

end Go.Proofs.Ytkgejeamcgodhaa
