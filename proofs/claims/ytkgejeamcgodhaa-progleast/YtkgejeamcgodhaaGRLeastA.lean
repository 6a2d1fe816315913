/- The least argument of a type: the document's least, and its Default. -/
import Derived.Test.YtkgejeamcgodhaaGRLeast2
import Derived.Test.YtkgejeamcgodhaaGRLeast3
import Derived.Test.YtkgejeamcgodhaaGRLeast6
import Derived.Test.YtkgejeamcgodhaaGRLeast7
import Derived.Test.YtkgejeamcgodhaaGRLeast9
import Derived.Test.YtkgejeamcgodhaaGLeast12
import Derived.Test.YtkgejeamcgodhaaGCan6
namespace Go.Proofs.Ytkgejeamcgodhaa
open Go.RowKit
set_option linter.unusedVariables false
set_option maxRecDepth 20000

theorem rleast_any (a : Option Addr) (m c : Nat) (a2 : Option Addr) (m2 c2 : Nat) (l : List Ty) (hm : l.length = m) (hmb : m ≤ 9223372036854775807) (hG : Good l) (hE : ∀ n, ∀ h : n < l.length, l[n].k = 8 → l[n].en ≤ 1048576) : ∀ n, RLeastAt a m c a2 m2 c2 l n := by
  intro n
  induction n using Nat.strongRecOn with
  | _ n ih =>
    intro w hT hn
    obtain ⟨tb, to', e, htb, hts⟩ := hT (by omega)
    have hO := (hts n hn).2
    obtain ⟨h1, h2, h3⟩ := hG n hn
    have hen := hE n hn
    generalize hTT : l[n] = T at *
    rcases fits_kinds h3 with hk | hk | hk | hk | hk | hk | hk | hk | hk | hk | hk
    · exact rleast_1 a m c a2 m2 c2 l n hm hmb w hT hn T hTT hk (by simpa [partsN, hk] using h2)
    · exact rleast_2 a m c a2 m2 c2 l n hm hmb w hT hn T hTT hk (by simpa [partsN, hk] using h2)
    · exact rleast_3 a m c a2 m2 c2 l n hm hmb w hT hn T hTT hk (by simpa [partsN, hk] using h2)
    · exact rleast_4 a m c a2 m2 c2 l n hm hmb w hT hn T hTT hk (by simpa [partsN, hk] using h2)
    · exact rleast_5 a m c a2 m2 c2 l n hm hmb w hT hn T hTT hk (by simpa [partsN, hk] using h2) (by simp [fitsB, hk] at h3; exact h3.2)
    · exact rleast_6 a m c a2 m2 c2 l n ih hm hmb w hT hn T hTT hk (by simpa [partsN, hk] using h2) h1
    · exact rleast_7 a m c a2 m2 c2 l n ih hm hmb w hT hn T hTT hk (by simpa [partsN, hk] using h2) (by simp [fitsB, rangeB, hk] at h3; omega) h1
    · exact rleast_8 a m c a2 m2 c2 l n ih hm hmb w hT hn T hTT hk (hen hk) (by simp [partsN, hk] at h2; exact h2.1) h1
    · exact rleast_9 a m c a2 m2 c2 l n ih hm hmb w hT hn T hTT hk (by simp [partsN, hk] at h2; exact h2.1) h1
    · have h4 : 0 < T.tn ∧ ∀ t ∈ T.ts, t.size ≤ 24 := by simpa [fitsB, hk] using h3
      refine rleast_10 a m c a2 m2 c2 l n hm hmb w hT hn T hTT hk (by simpa [partsN, hk] using h2) h4.1 (h4.2 _ ?_)
      have : 0 < T.ts.length := by rw [hO.tl]; exact h4.1
      rw [List.getD_eq_getElem?_getD, List.getElem?_eq_getElem this]
      exact List.getElem_mem _
    · exact rleast_11 a m c a2 m2 c2 l n hm hmb w hT hn T hTT hk (by simpa [partsN, hk] using h2) (by simp [fitsB, rangeB, hk] at h3; omega)

set_option maxHeartbeats 8000000 in
theorem rdef_any (a : Option Addr) (m c : Nat) (a2 : Option Addr) (m2 c2 : Nat) (l : List Ty) (q : List Cl) (n : Int) (w : World) (h : Tys w a l) (hm : l.length = m) (h2 : Cls w a2 q) (hm2 : q.length = m2) (hc : m ≤ 9223372036854775807) (hc2 : m2 ≤ 9223372036854775807) (hE : canB l q = true → ∀ n, ∀ h : n < l.length, l[n].k = 8 → l[n].en ≤ 1048576) (ok : Bool) (hok : ok = (canB l q && decide (0 ≤ n ∧ n < (m : Int)))) :
    Calls Try.prog 13 #[.agg #[.slice a m c, .slice a2 m2 c2], .int .i64 n] w fun e w' => ∃ A : Ar, e = .returned (.tuple #[.agg #[.int .i64 A.h.k, .int .i64 A.h.v, .slice A.h.ka A.h.kn A.h.kc, .slice A.h.ba A.h.bn A.h.bc], .int .i64 (if ok = true then 0 else 1)]) ∧ Oka (w.heap.size ≤ ·) (n.toNat + 1) w' A ∧ DefA l ok n A ∧ Below w.heap.size w w' := by
  have k1 := hid (fun o o' => rcan_any a m c a2 m2 c2 l q ((w.alloc o).alloc o') (h.below (below_box2 w o o')) hm (h2.below (below_box2 w o o')) hm2 hc hc2)
  have kL : Hid (ok = true → ∀ wx, Below w.heap.size w wx → Calls Try.prog 38 #[.agg #[.slice a m c, .slice a2 m2 c2], .int .i64 n] wx fun e w' => ∃ A : Ar, e = .returned (.agg #[.int .i64 A.h.k, .int .i64 A.h.v, .slice A.h.ka A.h.kn A.h.kc, .slice A.h.ba A.h.bn A.h.bc]) ∧ Oka (wx.heap.size ≤ ·) (n.toNat + 1) w' A ∧ Lst l (n.toNat + 1) n A ∧ Below wx.heap.size wx w') := hid (by
    intro ht wx hb
    rw [hok] at ht
    simp only [Bool.and_eq_true, decide_eq_true_eq] at ht
    obtain ⟨t, rfl⟩ : ∃ t : Nat, n = (t : Int) := ⟨n.toNat, by omega⟩
    have := rleast_any a m c a2 m2 c2 l hm hc (can_good ht.1) (hE ht.1) t wx (h.below hb) (by omega)
    simpa using this)
  clear hE h hm h2 hm2
  generalize canB l q = cb at *
  go_enter Try.func13, Try.ntmps13
  go_wp2_with fail
  refine (k1.out _ _).mono ?_
  rintro e w1 ⟨rfl, hb1⟩
  have hB1 : Below w.heap.size w w1 := (below_box2 w _ _).trans (hb1.mono (below_box2 w _ _).size)
  have hs1 : w.heap.size + 1 < w1.heap.size := by have := hb1.size; simp at this; omega
  have c0 : w1.heap[w.heap.size]? = some (.cells #[.slice a m c, .slice a2 m2 c2] 25 (0, 0)) := by
    rw [hb1.block _ (by simp; omega), (below_box _ _).block _ (by simp)]; exact heap_alloc_new _ _
  have c1 : w1.heap[w.heap.size + 1]? = some (.cells [Value.int .i64 0, .int .i64 0, .slice none 0 0, .slice none 0 0].toArray 30 (0, 0)) := by
    rw [hb1.block _ (by simp)]
    exact heap2 w _ _
  have f0 : w1.cell? ⟨w.heap.size, 0, none⟩ = some (.slice a m c) := cell_of_row _ _ 0 _ _ _ c0
  have f1 : w1.cell? ⟨w.heap.size, 1, none⟩ = some (.slice a2 m2 c2) := cell_of_row _ _ 1 _ _ _ c0
  have HB1 := hid hB1
  have HC1 := hid c1
  clear c0 c1 hb1 hB1 k1
  by_cases hcb : cb = true ∧ 0 ≤ n ∧ n < (m : Int)
  · obtain ⟨rfl, hn0, hnm⟩ := hcb
    obtain rfl : ok = true := by rw [hok]; simp [hn0, hnm]
    have hn1 : ¬ (n < 0) := by omega
    have hn2 : ¬ ((m : Int) ≤ n) := by omega
    clear hok
    go_wp2_with fail
    refine (kL.out (by first | rfl | trivial) _ HB1.out).mono ?_
    rintro e w2 ⟨A, rfl, hA, hL, hb2⟩
    have hB2 : Below w.heap.size w w2 := HB1.out.trans (hb2.mono HB1.out.size)
    have c2 := (hb2.block _ hs1).trans HC1.out
    have HC2 := hid c2
    obtain ⟨W, gW⟩ : ∃ W, w2.setCells (w.heap.size + 1) 0 (arC A.h) = W := ⟨_, rfl⟩
    have HE := hid (rleast_end (n := n.toNat) hB2 c2 rfl (A := A) (Oka.mono (fun x _ hx => by omega) _ _ hA))
    simp only [gW] at HE
    have GW := hid gW
    have HL := hid hL
    clear gW hA hL hb2 hB2 c2
    go_wp2_with (refine wpList_store_as rfl 30 (.tmp 4) (.tmp 23) rfl (w.heap.size + 1) 0 (arC A.h).toArray rfl rfl (there_of_block HC2.out 0 4 (by simp)) csizeA (by simp [arC, Value.oneCell']) W GW.out ?_)
    refine bodyPost_ret (cell_result2 rfl _ _ (w.heap.size + 1) 0 rfl (.int .i64 0) rfl (arC A.h) _ HE.out.1 Try.underlying30 rfl csizeA) rfl ?_
    exact ⟨A, rfl, HE.out.2.1, ⟨fun _ => HL.out, (fun h => nomatch h)⟩, HE.out.2.2⟩
  · obtain rfl : ok = false := by
      rw [hok]
      cases cb with
      | false => rfl
      | true =>
        have h0 : ¬ (0 ≤ n ∧ n < (m : Int)) := fun h => hcb ⟨rfl, h⟩
        simp [h0]
    obtain ⟨W, gW⟩ : ∃ W, w1.setCells (w.heap.size + 1) 0 (arC ⟨0, 0, none, 0, 0, none, 0, 0, []⟩) = W := ⟨_, rfl⟩
    have HE := hid (rleast_end (n := n.toNat) HB1.out HC1.out rfl (A := .mk ⟨0, 0, none, 0, 0, none, 0, 0, []⟩ []) (Okb.oka _ _ (none_okb _ _)))
    simp only [Ar.h, gW] at HE
    have GW := hid gW
    clear gW hok
    by_cases h1 : cb = false
    · subst h1
      clear hcb
      go_wp2_with (refine wpList_store_as rfl 30 (.tmp 4) (.tmp 20) rfl (w.heap.size + 1) 0 (arC ⟨0, 0, none, 0, 0, none, 0, 0, []⟩).toArray rfl rfl (there_of_block HC1.out 0 4 (by simp)) csizeA (by simp [arC, Value.oneCell']) W GW.out ?_)
      refine bodyPost_ret (cell_result2 rfl _ _ (w.heap.size + 1) 0 rfl (.int .i64 1) rfl (arC ⟨0, 0, none, 0, 0, none, 0, 0, []⟩) _ HE.out.1 Try.underlying30 rfl csizeA) rfl ?_
      exact ⟨.mk ⟨0, 0, none, 0, 0, none, 0, 0, []⟩ [], rfl, HE.out.2.1, ⟨(fun h => nomatch h), fun _ => rfl⟩, HE.out.2.2⟩
    · obtain rfl : cb = true := by cases cb with
        | false => exact absurd rfl h1
        | true => rfl
      by_cases hn1 : n < 0
      · clear hcb h1
        go_wp2_with (refine wpList_store_as rfl 30 (.tmp 4) (.tmp 20) rfl (w.heap.size + 1) 0 (arC ⟨0, 0, none, 0, 0, none, 0, 0, []⟩).toArray rfl rfl (there_of_block HC1.out 0 4 (by simp)) csizeA (by simp [arC, Value.oneCell']) W GW.out ?_)
        refine bodyPost_ret (cell_result2 rfl _ _ (w.heap.size + 1) 0 rfl (.int .i64 1) rfl (arC ⟨0, 0, none, 0, 0, none, 0, 0, []⟩) _ HE.out.1 Try.underlying30 rfl csizeA) rfl ?_
        exact ⟨.mk ⟨0, 0, none, 0, 0, none, 0, 0, []⟩ [], rfl, HE.out.2.1, ⟨(fun h => nomatch h), fun _ => rfl⟩, HE.out.2.2⟩
      · have hn2 : (m : Int) ≤ n := by
          rcases Int.lt_or_le n (m : Int) with h | h
          · exact absurd ⟨rfl, by omega, h⟩ hcb
          · exact h
        clear hcb h1
        go_wp2_with (refine wpList_store_as rfl 30 (.tmp 4) (.tmp 20) rfl (w.heap.size + 1) 0 (arC ⟨0, 0, none, 0, 0, none, 0, 0, []⟩).toArray rfl rfl (there_of_block HC1.out 0 4 (by simp)) csizeA (by simp [arC, Value.oneCell']) W GW.out ?_)
        refine bodyPost_ret (cell_result2 rfl _ _ (w.heap.size + 1) 0 rfl (.int .i64 1) rfl (arC ⟨0, 0, none, 0, 0, none, 0, 0, []⟩) _ HE.out.1 Try.underlying30 rfl csizeA) rfl ?_
        exact ⟨.mk ⟨0, 0, none, 0, 0, none, 0, 0, []⟩ [], rfl, HE.out.2.1, ⟨(fun h => nomatch h), fun _ => rfl⟩, HE.out.2.2⟩

end Go.Proofs.Ytkgejeamcgodhaa
