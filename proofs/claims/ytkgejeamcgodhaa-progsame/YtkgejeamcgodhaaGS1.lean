/- Whether arguments are the same, whatever they are: the program's, the verifier's and the document's answer. (Written by gen_same.py.) -/
import Derived.Test.YtkgejeamcgodhaaGSame
namespace Go.Proofs.Ytkgejeamcgodhaa
open Go.RowKit
set_option linter.unusedVariables false
set_option maxRecDepth 20000

/-- Lists, one by one. -/
def sameQ (g : Ar → Ar → Bool) : List Ar → List Ar → Bool
  | [], [] => true
  | a :: qs, b :: rs => g a b && sameQ g qs rs
  | _, _ => false
/-- Whether two texts are the same, byte for byte. -/
def eqS (S R : ByteArray) : Bool := S.toList == R.toList
/-- Whether two arguments are the same. -/
def sameB : Nat → Ar → Ar → Bool
  | 0, _, _ => true
  | d + 1, A, B => decide (A.h.k = B.h.k) && (decide (A.h.v = B.h.v) && (eqS (strOfNums A.h.bs) (strOfNums B.h.bs) && sameQ (sameB d) A.ks B.ks))
theorem sameQ_ne (g : Ar → Ar → Bool) : ∀ (qs rs : List Ar), qs.length ≠ rs.length → sameQ g qs rs = false
  | [], [], h => absurd rfl h
  | [], _ :: _, _ => rfl
  | _ :: _, [], _ => rfl
  | a :: qs, b :: rs, h => by simp only [sameQ]; rw [sameQ_ne g qs rs (by simpa using h)]; simp
theorem sameQ_drop (g : Ar → Ar → Bool) : ∀ (qs rs : List Ar) (i : Nat) (h1 : i < qs.length) (h2 : i < rs.length), sameQ g (qs.drop i) (rs.drop i) = (g qs[i] rs[i] && sameQ g (qs.drop (i + 1)) (rs.drop (i + 1))) := fun qs rs i h1 h2 => by
  rw [List.drop_eq_getElem_cons h1, List.drop_eq_getElem_cons h2]
  rfl
theorem sameQ_end (g : Ar → Ar → Bool) (qs rs : List Ar) (i : Nat) (h1 : qs.length ≤ i) (h2 : rs.length ≤ i) : sameQ g (qs.drop i) (rs.drop i) = true := by
  rw [List.drop_of_length_le h1, List.drop_of_length_le h2]
  rfl
theorem sameQ_all {g : Ar → Ar → Bool} {s : Ar → Ar → Prop} (h : ∀ a b, s a b → g a b = true) : ∀ (qs rs : List Ar), AllS s qs rs → sameQ g qs rs = true
  | [], [], _ => rfl
  | a :: qs, b :: rs, ⟨h1, h2⟩ => by simp only [sameQ]; rw [h a b h1, sameQ_all h qs rs h2]; rfl
theorem same_yes : ∀ (d : Nat) (A B : Ar), SameA d A B → sameB d A B = true
  | 0, _, _, h => h.elim
  | d + 1, A, B, ⟨h1, h2, h3, h4⟩ => by
    simp only [sameB]
    rw [h1, h2, h3, sameQ_all (same_yes d) _ _ h4]
    simp [eqS]

/-- Bytes, held against each other as texts. -/
theorem equal_any (a0 a1 : Option Addr) (n c m d : Nat) (xs ys : List Int) (w : World) (h0 : Src w a0 n xs) (h1 : Src w a1 m ys) :
    Calls Try.prog 41 #[.slice a0 n c, .slice a1 m d] w fun e w' => e = .returned (.bool (eqS (strOfNums xs) (strOfNums ys))) ∧ w' = w := by
  have e0 := h0.convert (P := Try.prog) c 28 5 9 Try.underlying28 Try.underlying5 Try.underlying9
  have e1 := h1.convert (P := Try.prog) d 28 5 9 Try.underlying28 Try.underlying5 Try.underlying9
  generalize strOfNums xs = S at *
  generalize strOfNums ys = R at *
  clear h0 h1
  go_enter Try.func41, Try.ntmps41
  go_wp2
  go_ret
  exact ⟨rfl, rfl⟩

/-- What a function of two arguments answers. -/
def Tells (K d : Nat) : Prop := ∀ (d' : Nat) (A B : Ar) (w : World), Okd d w A → Okd d' w B → Calls Try.prog K #[.agg #[.int .i64 A.h.k, .int .i64 A.h.v, .slice A.h.ka A.h.kn A.h.kc, .slice A.h.ba A.h.bn A.h.bc], .agg #[.int .i64 B.h.k, .int .i64 B.h.v, .slice B.h.ka B.h.kn B.h.kc, .slice B.h.ba B.h.bn B.h.bc]] w fun e w' => e = .returned (.bool (sameB d A B)) ∧ Below w.heap.size w w'

set_option maxHeartbeats 8000000 in
theorem eqf_any (K : Nat) (hgo : ∀ (args : Array Value) (w : World), (callFunc K args).run Try.prog w = .ok (.enter K args) w) (d : Nat) (hf : Tells K d) (d' : Nat) (ra : Option Addr) (rn rc : Nat) (sa : Option Addr) (sn sc : Nat) (qs rs : List Ar) (w : World) (h1 : Krow d w ra qs) (hl1 : qs.length = rn) (hc1 : rn ≤ rc) (hb1 : rc ≤ 9223372036854775807) (h2 : Krow d' w sa rs) (hl2 : rs.length = sn) (hc2 : sn ≤ sc) (hb2 : sc ≤ 9223372036854775807) :
    Calls Try.prog 39 #[.slice ra rn rc, .slice sa sn sc, .func (.func K) #[] #[]] w fun e w' => e = .returned (.bool (sameQ (sameB d) qs rs)) ∧ Below w.heap.size w w' := by
  have H1 := hid h1
  have H2 := hid h2
  have HL1 := hid hl1
  have HL2 := hid hl2
  have HF := hid hf
  clear h1 h2 hf
  by_cases hne : rn = sn
  · subst hne
    go_enter Try.func39, Try.ntmps39
    go_wp2_with fail
    go_loopw [17] (fun k wr => ∃ i : Nat, i ≤ rn ∧ k = .int .i64 i ∧ Hid (sameQ (sameB d) qs rs = sameQ (sameB d) (qs.drop i) (rs.drop i)) ∧ Hid (Below w.heap.size w wr)) (fun k _ => rn - (intOf k).toNat)
    case atStart => exact ⟨0, Nat.zero_le _, rfl, hid rfl, hid (Below.refl _ _)⟩
    case round =>
      obtain ⟨i, hi, rfl, HD, HB⟩ := hrel
      by_cases hlt : i < rn
      · have hi1 : i < qs.length := by rw [HL1.out]; exact hlt
        have hi2 : i < rs.length := by rw [HL2.out]; exact hlt
        obtain ⟨b, o, rfl, hbl, hcs⟩ := H1.out (by omega)
        obtain ⟨b2, o2, rfl, hbl2, hcs2⟩ := H2.out (by omega)
        obtain ⟨x0, x1, x2, x3⟩ := (hcs i hi1).1.blk (HB.out.block b hbl)
        obtain ⟨z0, z1, z2, z3⟩ := (hcs2 i hi2).1.blk (HB.out.block b2 hbl2)
        have hsz := HB.out.size
        have bt : ∀ o1 o2, Below w.heap.size w ((wr.alloc o1).alloc o2) := fun o1 o2 => (HB.out.alloc hsz o1).alloc (by simp; omega) o2
        have k1 := hid (fun o1 o2 => HF.out d' qs[i] rs[i] ((wr.alloc o1).alloc o2) (Okd.below (bt o1 o2) d _ (hcs i hi1).2) (Okd.below (bt o1 o2) d' _ (hcs2 i hi2).2))
        have hb1' : b < wr.heap.size := by omega
        have hb2' : b2 < wr.heap.size := by omega
        have hb3' : b2 < wr.heap.size + 1 := by omega
        have HDr := hid (sameQ_drop (sameB d) qs rs i hi1 hi2)
        generalize sameB d qs[i] rs[i] = r at *
        generalize qs[i].h = ah at *
        generalize rs[i].h = bh at *
        have BT := hid bt
        clear hcs hcs2 bt hi1 hi2
        go_wp2_with fail
        refine (k1.out _ _).mono ?_
        rintro e w1 ⟨rfl, hb⟩
        have HB2 := hid ((BT.out _ _).trans (hb.mono (BT.out _ _).size))
        clear hb
        cases r with
        | false =>
          go_wp2_with fail
          go_ret
          refine ⟨?_, HB2.out⟩
          rw [HD.out, HDr.out]
          rfl
        | true =>
          go_wp2_with fail
          go_roundw
          case rel => exact ⟨i + 1, by omega, by go_num, hid (by rw [HD.out, HDr.out]; rfl), HB2⟩
          case measure => simp [intOf]; omega
      · obtain rfl : i = rn := by omega
        go_wp2_with fail
        go_ret
        refine ⟨?_, HB.out⟩
        rw [HD.out, sameQ_end _ _ _ _ (by rw [HL1.out]; exact Nat.le_refl _) (by rw [HL2.out]; exact Nat.le_refl _)]
        rfl

  · have hnz : ¬ (rn : Int) = (sn : Int) := by omega
    have hq := sameQ_ne (sameB d) qs rs (by omega)
    go_enter Try.func39, Try.ntmps39
    go_wp2_with fail
    go_ret
    exact ⟨by rw [hq]; rfl, Below.refl _ _⟩

theorem psarg_go (args : Array Value) (w : World) : (callFunc 76 args).run Try.prog w = .ok (.enter 76 args) w := by kernel_rfl
theorem plsarg_go (args : Array Value) (w : World) : (callFunc 40 args).run Try.prog w = .ok (.enter 40 args) w := by kernel_rfl

set_option maxHeartbeats 8000000 in
theorem psarg_tells : ∀ d, Tells 76 d := by
  intro d
  induction d with
  | zero => exact fun _ _ _ _ hA _ => hA.elim
  | succ d ih =>
    intro d' A B w hA hB
    cases d' with
    | zero => exact hB.elim
    | succ d' =>
    obtain ⟨a1, a2, a3⟩ := hA
    obtain ⟨b1, b2, b3⟩ := hB
    have k1 := hid (fun wx (hb : Below w.heap.size w wx) => equal_any A.h.ba B.h.ba A.h.bn A.h.bc B.h.bn B.h.bc A.h.bs B.h.bs wx (a1.bs.below hb) (b1.bs.below hb))
    have k2 := hid (fun wx (hb : Below w.heap.size w wx) => eqf_any 76 psarg_go d ih d' A.h.ka A.h.kn A.h.kc B.h.ka B.h.kn B.h.kc A.ks B.ks wx (Krow.below a3 hb) a2 a1.km a1.kb (Krow.below b3 hb) b2 b1.km b1.kb)
    have HS : Hid (sameB (d + 1) A B = (decide (A.h.k = B.h.k) && (decide (A.h.v = B.h.v) && (eqS (strOfNums A.h.bs) (strOfNums B.h.bs) && sameQ (sameB d) A.ks B.ks)))) := hid rfl
    rw [HS.out]
    clear a1 a2 a3 b1 b2 b3 HS ih
    generalize sameQ (sameB d) A.ks B.ks = R at *
    generalize A.h = ah at *
    generalize B.h = bh at *
    obtain ⟨ak, av, ka, kn, kc, ba, bn, bc, bs⟩ := ah
    obtain ⟨bk, bv, la, ln, lc, da, dn, dc, ds⟩ := bh
    dsimp only at *
    generalize eqS (strOfNums bs) (strOfNums ds) = Q at *
    by_cases h1 : ak = bk
    · subst h1
      by_cases h2 : av = bv
      · subst h2
        go_enter Try.func76, Try.ntmps76
        go_wp2_with fail
        refine (k1.out _ (below_box2 w _ _)).mono ?_
        rintro e w1 ⟨rfl, h1⟩
        subst w1
        cases Q with
        | false =>
          go_wp2_with fail
          go_ret
          exact ⟨by simp, below_box2 w _ _⟩
        | true =>
          go_wp2_with fail
          refine (k2.out _ (below_box2 w _ _)).mono ?_
          rintro e w2 ⟨rfl, hb2⟩
          go_wp2_with fail
          go_ret
          exact ⟨by simp, (below_box2 w _ _).trans (hb2.mono (below_box2 w _ _).size)⟩
      · go_enter Try.func76, Try.ntmps76
        go_wp2_with fail
        go_ret
        exact ⟨by simp [h2], below_box2 w _ _⟩
    · go_enter Try.func76, Try.ntmps76
      go_wp2_with fail
      go_ret
      exact ⟨by simp [h1], below_box2 w _ _⟩

set_option maxHeartbeats 2000000 in
theorem sameargs_of (d : Nat) (hf : Tells 40 d) (d' : Nat) (ra : Option Addr) (rn rc : Nat) (sa : Option Addr) (sn sc : Nat) (qs rs : List Ar) (w : World) (h1 : Krow d w ra qs) (hl1 : qs.length = rn) (hc1 : rn ≤ rc) (hb1 : rc ≤ 9223372036854775807) (h2 : Krow d' w sa rs) (hl2 : rs.length = sn) (hc2 : sn ≤ sc) (hb2 : sc ≤ 9223372036854775807) :
    Calls Try.prog 14 #[.slice ra rn rc, .slice sa sn sc] w fun e w' => e = .returned (.bool (sameQ (sameB d) qs rs)) ∧ Below w.heap.size w w' := by
  have k1 := hid (eqf_any 40 plsarg_go d hf d' ra rn rc sa sn sc qs rs w h1 hl1 hc1 hb1 h2 hl2 hc2 hb2)
  clear h1 h2 hf
  generalize sameQ (sameB d) qs rs = R at *
  go_enter Try.func14, Try.ntmps14
  go_wp2_with fail
  refine k1.out.mono ?_
  rintro e w1 ⟨rfl, hb⟩
  go_wp2_with fail
  go_ret
  exact ⟨rfl, hb⟩

set_option maxHeartbeats 8000000 in
theorem plsarg_tells : ∀ d, Tells 40 d := by
  intro d
  induction d with
  | zero => exact fun _ _ _ _ hA _ => hA.elim
  | succ d ih =>
    intro d' A B w hA hB
    cases d' with
    | zero => exact hB.elim
    | succ d' =>
    obtain ⟨a1, a2, a3⟩ := hA
    obtain ⟨b1, b2, b3⟩ := hB
    have k1 := hid (fun wx (hb : Below w.heap.size w wx) => equal_any A.h.ba B.h.ba A.h.bn A.h.bc B.h.bn B.h.bc A.h.bs B.h.bs wx (a1.bs.below hb) (b1.bs.below hb))
    have k2 := hid (fun wx (hb : Below w.heap.size w wx) => sameargs_of d ih d' A.h.ka A.h.kn A.h.kc B.h.ka B.h.kn B.h.kc A.ks B.ks wx (Krow.below a3 hb) a2 a1.km a1.kb (Krow.below b3 hb) b2 b1.km b1.kb)
    have HS : Hid (sameB (d + 1) A B = (decide (A.h.k = B.h.k) && (decide (A.h.v = B.h.v) && (eqS (strOfNums A.h.bs) (strOfNums B.h.bs) && sameQ (sameB d) A.ks B.ks)))) := hid rfl
    rw [HS.out]
    clear a1 a2 a3 b1 b2 b3 HS ih
    generalize sameQ (sameB d) A.ks B.ks = R at *
    generalize A.h = ah at *
    generalize B.h = bh at *
    obtain ⟨ak, av, ka, kn, kc, ba, bn, bc, bs⟩ := ah
    obtain ⟨bk, bv, la, ln, lc, da, dn, dc, ds⟩ := bh
    dsimp only at *
    generalize eqS (strOfNums bs) (strOfNums ds) = Q at *
    by_cases h1 : ak = bk
    · subst h1
      by_cases h2 : av = bv
      · subst h2
        go_enter Try.func40, Try.ntmps40
        go_wp2_with fail
        refine (k1.out _ (below_box2 w _ _)).mono ?_
        rintro e w1 ⟨rfl, h1⟩
        subst w1
        cases Q with
        | false =>
          go_wp2_with fail
          go_ret
          exact ⟨by simp, below_box2 w _ _⟩
        | true =>
          go_wp2_with fail
          refine (k2.out _ (below_box2 w _ _)).mono ?_
          rintro e w2 ⟨rfl, hb2⟩
          go_wp2_with fail
          go_ret
          exact ⟨by simp, (below_box2 w _ _).trans (hb2.mono (below_box2 w _ _).size)⟩
      · go_enter Try.func40, Try.ntmps40
        go_wp2_with fail
        go_ret
        exact ⟨by simp [h2], below_box2 w _ _⟩
    · go_enter Try.func40, Try.ntmps40
      go_wp2_with fail
      go_ret
      exact ⟨by simp [h1], below_box2 w _ _⟩

end Go.Proofs.Ytkgejeamcgodhaa
