/- The row of what an argument is made of. -/
import Derived.Test.YtkgejeamcgodhaaGWalk2
namespace Go.Proofs.Ytkgejeamcgodhaa
open Go.RowKit
set_option linter.unusedVariables false
set_option maxRecDepth 20000

theorem mis_kind {T : Ty} {h : Hd} (hm : mis T h = 0) : kindB T h = true ∧ countB T h.kn = true ∧ (h.k ≠ 2 → valueB T h = true) := by
  unfold mis at hm
  split at hm
  · cases hm
  · rename_i hk
    split at hm
    · cases hm
    · rename_i hc
      split at hm
      · cases hm
      · rename_i hv
        refine ⟨by simpa using hk, by simpa using hc, fun h2 => ?_⟩
        cases hq : valueB T h with
        | true => rfl
        | false => exact absurd ⟨h2, hq⟩ hv

theorem below_drew {B : Nat} {w X : World} (h : Below B w X) : Below B w X.drew := ⟨h.os, h.tape, h.output, h.size, h.block⟩
/-- Three cells of a block, stored one by one. -/
theorem fin3 {B : Nat} {w W : World} {p : Nat} {C : Array Value} {t : TypeId} (hB : Below B w W) (hp : W.heap[p]? = some (.cells C t (0, 0))) (hs : C.size = 3) (hBp : B ≤ p) (x y z : Value) :
    (((W.setCell ⟨p, 0, none⟩ x).setCell ⟨p, 1, none⟩ y).setCell ⟨p, 2, none⟩ z).rangeAt p 0 [x, y, z] ∧ Below B w (((W.setCell ⟨p, 0, none⟩ x).setCell ⟨p, 1, none⟩ y).setCell ⟨p, 2, none⟩ z) ∧ ∀ k, k ≠ p → (((W.setCell ⟨p, 0, none⟩ x).setCell ⟨p, 1, none⟩ y).setCell ⟨p, 2, none⟩ z).heap[k]? = W.heap[k]? := by
  refine ⟨?_, ((hB.setCell hBp _).setCell hBp _).setCell hBp _, fun k hk => ?_⟩
  · have h1 := heap_setCell_same W p 0 C t x hp
    have h2 := heap_setCell_same _ p 1 _ t y h1
    have h3 := heap_setCell_same _ p 2 _ t z h2
    match C, hs with
    | ⟨[c0, c1, c2]⟩, _ =>
      refine rangeAt_block (t := t) ?_
      rw [h3]
      simp
  · rw [heap_setCell_other _ _ _ _ hk, heap_setCell_other _ _ _ _ hk, heap_setCell_other _ _ _ _ hk]
theorem csizeR : (Try.prog.info? 58).map (·.size) = some 3 := by kernel_rfl
theorem heap3 (w : World) (o1 o2 o3 : Obj) : (((w.alloc o1).alloc o2).alloc o3).heap[w.heap.size]? = some o1 ∧ (((w.alloc o1).alloc o2).alloc o3).heap[w.heap.size + 1]? = some o2 ∧ (((w.alloc o1).alloc o2).alloc o3).heap[w.heap.size + 1 + 1]? = some o3 := by
  have h := heap4 w o1 o2 o3 o3
  have b4 := below_box (((w.alloc o1).alloc o2).alloc o3) o3
  have s3 : (((w.alloc o1).alloc o2).alloc o3).heap.size = w.heap.size + 1 + 1 + 1 := by simp
  refine ⟨?_, ?_, ?_⟩
  · rw [← b4.block _ (by omega)]; exact h.1
  · rw [← b4.block _ (by omega)]; exact h.2.1
  · rw [← b4.block _ (by omega)]; exact h.2.2.1

set_option maxHeartbeats 8000000 in
theorem kids_any (b o : Nat) (n : Int) (T : Ty) (h : Hd) (ra : Option Addr) (rn rc : Nat) (ua : Option Addr) (un uc : Nat) (xa : Option Addr) (xn xc : Nat) (w : World) (hT : T.Ok w) (hk : h.Ok w) (hb : b < w.heap.size) (ha : HdAt w b o h)
    (hp : partsN T = true) (hf : fitsB T = true) (hm : mis T h = 0) :
    Calls Try.prog 80 #[.agg #[.pointer (some ⟨b, o, none⟩), .int .i64 n, .int .i64 T.k, .int .i64 T.s, .int .i64 T.lo, .int .i64 T.hi, .int .i64 T.d, .string T.o, .slice T.va T.vn T.vc, .slice T.ta T.tn T.tc, .slice T.ea T.en T.ec, .slice T.na T.nn T.nc, .slice ra rn rc, .slice ua un uc, .slice xa xn xc]] w fun e w' => ∃ ta tn tc ya yn yc, e = .returned (.agg #[.slice h.ka h.kn h.kc, .slice ta tn tc, .slice ya yn yc]) ∧ Ints w' ta (kidTy T h) ∧ (kidTy T h).length = tn ∧ tn ≤ 9223372036854775807 ∧ (∀ b' o', ta = some ⟨b', o', none⟩ → w.heap.size ≤ b' ∨ (0 < T.es.length ∧ ∃ o'', T.ea = some ⟨b', o'', none⟩)) ∧ Below w.heap.size w w' := by
  obtain ⟨m1, m2, m3⟩ := mis_kind hm
  have hem := hT.em
  have heb := hT.eb
  have hkm := hk.km
  have hkb := hk.kb
  have hel := hT.el
  have HE := hid hT.es
  clear hT hk hm
  obtain ⟨q0, q1, q2, q3⟩ := ha
  have b3 : ∀ o1 o2 o3, Below w.heap.size w (((w.alloc o1).alloc o2).alloc o3) := fun o1 o2 o3 => ((below_box2 w o1 o2).alloc (by simp; omega) o3)
  by_cases e6 : T.k = 6 ∨ T.k = 7
  · have he1 : T.en = 1 := by
      unfold partsN at hp
      rw [if_pos e6] at hp
      simpa using hp
    have hkn : h.kn ≤ 8 := by
      rcases e6 with e | e
      · unfold countB at m2
        simp [e] at m2
        omega
      · unfold countB at m2
        simp [e] at m2
        unfold fitsB rangeB at hf
        simp [e] at hf
        omega
    have HK : Hid (kidTy T h = List.replicate h.kn (T.es.getD 0 0)) := hid (by unfold kidTy; rw [if_pos e6])
    have hes : T.es = [T.es.getD 0 0] := by
      rw [he1] at hel
      match T.es, hel with
      | [x], _ => rfl
    have k1 := hid (fun wx (hb : Below w.heap.size w wx) => irep_any (T.es.getD 0 0) T.ea T.ec h.kn wx (by rw [← hes]; exact HE.out.below hb) hkn)
    obtain ⟨K, gK⟩ : ∃ K, K = kidTy T h := ⟨_, rfl⟩
    rw [← gK]
    rw [← gK] at HK
    clear gK hes hp hf m1 m2 m3 HE hel
    generalize T.es.getD 0 0 = x at *
    obtain ⟨k, s, lo, hi, d, to', va, vn, vc, vs, ta, tn, tc, ts, ea, en, ec, es, na, nn, nc⟩ := T
    obtain ⟨ak, av, ka, kn, kc, ba, bn, bc, bs⟩ := h
    dsimp only at *
    subst he1
    have hkk : (k == 6 || k == 7) = true := by rcases e6 with e | e <;> simp [e]
    rcases e6 with e | e
    · subst e
      go_enter Try.func80, Try.ntmps80
      go_wp2_with fail
      refine (k1.out _ (b3 _ _ _)).mono ?_
      rintro e w1 ⟨g, rfl, hg, hR, hb1⟩
      obtain ⟨hc1, hf1⟩ := bcell hb1
      have HB1 := hid hb1
      have HRw := hid hR
      have HG := hid hg
      clear hb1 hR hg
      go_wp2_with fail
      have hs3 : ∀ o1 o2 o3 : Obj, (((w.alloc o1).alloc o2).alloc o3).heap.size = w.heap.size + 1 + 1 + 1 := fun _ _ _ => by simp
      have hp1 : ∃ C : Array Value, C.size = 3 ∧ w1.heap[w.heap.size + 1]? = some (.cells C 58 (0, 0)) := ⟨_, rfl, (HB1.out.block _ (by rw [hs3]; omega)).trans (heap3 w _ _ _).2.1⟩
      obtain ⟨C, hC, hp1⟩ := hp1
      have hg3 : w.heap.size + 1 + 1 + 1 ≤ g := by have := HG.out; rw [hs3] at this; exact this
      have hW : Below w.heap.size w w1 := (b3 _ _ _).trans (HB1.out.mono (b3 _ _ _).size)
      have fin := fin3 (hW.setCell (p := ⟨w.heap.size + 1 + 1, 1, none⟩) (by show w.heap.size ≤ w.heap.size + 1 + 1; omega) (.slice (some ⟨g, 0, none⟩) kn kn)) (p := w.heap.size + 1) (C := C) (t := 58) (by rw [heap_setCell_other _ _ _ _ (by simp)]; exact hp1) hC (by omega) (.slice ka kn kc) (.slice (some ⟨g, 0, none⟩) kn kn) (.slice none 0 0)
      refine bodyPost_ret (cell_result rfl _ _ (w.heap.size + 1) 0 rfl _ _ fin.1 Try.underlying58 rfl csizeR) rfl ?_
      refine ⟨some ⟨g, 0, none⟩, kn, kn, none, 0, 0, rfl, ?_, ?_, by omega, fun b' o' e => ?_, fin.2.1⟩
      · rw [HK.out]
        refine Row.ints ?_
        unfold Row
        rw [fin.2.2 g (by omega), heap_setCell_other _ _ _ _ (by show g ≠ w.heap.size + 1 + 1; omega)]
        exact HRw.out
      · rw [HK.out]; simp
      · cases e
        exact .inl (by omega)
    · subst e
      go_enter Try.func80, Try.ntmps80
      go_wp2_with fail
      refine (k1.out _ (b3 _ _ _)).mono ?_
      rintro e w1 ⟨g, rfl, hg, hR, hb1⟩
      obtain ⟨hc1, hf1⟩ := bcell hb1
      have HB1 := hid hb1
      have HRw := hid hR
      have HG := hid hg
      clear hb1 hR hg
      go_wp2_with fail
      have hs3 : ∀ o1 o2 o3 : Obj, (((w.alloc o1).alloc o2).alloc o3).heap.size = w.heap.size + 1 + 1 + 1 := fun _ _ _ => by simp
      have hp1 : ∃ C : Array Value, C.size = 3 ∧ w1.heap[w.heap.size + 1]? = some (.cells C 58 (0, 0)) := ⟨_, rfl, (HB1.out.block _ (by rw [hs3]; omega)).trans (heap3 w _ _ _).2.1⟩
      obtain ⟨C, hC, hp1⟩ := hp1
      have hg3 : w.heap.size + 1 + 1 + 1 ≤ g := by have := HG.out; rw [hs3] at this; exact this
      have hW : Below w.heap.size w w1 := (b3 _ _ _).trans (HB1.out.mono (b3 _ _ _).size)
      have fin := fin3 (hW.setCell (p := ⟨w.heap.size + 1 + 1, 1, none⟩) (by show w.heap.size ≤ w.heap.size + 1 + 1; omega) (.slice (some ⟨g, 0, none⟩) kn kn)) (p := w.heap.size + 1) (C := C) (t := 58) (by rw [heap_setCell_other _ _ _ _ (by simp)]; exact hp1) hC (by omega) (.slice ka kn kc) (.slice (some ⟨g, 0, none⟩) kn kn) (.slice none 0 0)
      refine bodyPost_ret (cell_result rfl _ _ (w.heap.size + 1) 0 rfl _ _ fin.1 Try.underlying58 rfl csizeR) rfl ?_
      refine ⟨some ⟨g, 0, none⟩, kn, kn, none, 0, 0, rfl, ?_, ?_, by omega, fun b' o' e => ?_, fin.2.1⟩
      · rw [HK.out]
        refine Row.ints ?_
        unfold Row
        rw [fin.2.2 g (by omega), heap_setCell_other _ _ _ _ (by show g ≠ w.heap.size + 1 + 1; omega)]
        exact HRw.out
      · rw [HK.out]; simp
      · cases e
        exact .inl (by omega)
  · clear hf
    obtain ⟨K, gK⟩ : ∃ K, K = kidTy T h := ⟨_, rfl⟩
    rw [← gK]
    unfold kidTy at gK
    rw [if_neg e6] at gK
    have e6' : T.k ≠ 6 := fun e => e6 (.inl e)
    have e7' : T.k ≠ 7 := fun e => e6 (.inr e)
    clear e6
    by_cases e8 : T.k = 8
    · rw [if_pos e8] at gK
      have HK := hid gK
      have hen : 0 < T.es.length := by unfold partsN at hp; simp [e8] at hp; omega
      clear gK hp m1 m2 m3 e6' e7'
      have HL := hid hel
      clear hel
      obtain ⟨k, s, lo, hi, d, to', va, vn, vc, vs, ta, tn, tc, ts, ea, en, ec, es, na, nn, nc⟩ := T
      obtain ⟨ak, av, ka, kn, kc, ba, bn, bc, bs⟩ := h
      dsimp only at *
      subst e8
      go_enter Try.func80, Try.ntmps80
      go_wp2_with fail
      go_region
      go_wp2_with fail
      refine bodyPost_ret (cell_result rfl _ _ (w.heap.size + 1) 0 rfl [.slice ka kn kc, .slice ea en ec, .slice na nn nc] _ (rangeAt_block (t := 58) (heap3 w _ _ _).2.1) Try.underlying58 rfl csizeR) rfl ?_
      refine ⟨ea, en, ec, na, nn, nc, rfl, ?_, ?_, by omega, fun b' o' e => .inr ⟨hen, o', e⟩, ?_⟩
      · rw [HK.out]
        refine HE.out.below ?_
        exact below_drew (b3 _ _ _)
      · rw [HK.out]; exact HL.out
      · exact below_drew (b3 _ _ _)
    · rw [if_neg e8] at gK
      by_cases e9 : T.k = 9
      · rw [if_pos e9] at gK
        have hv := m3 (by unfold kindB at m1; simp [e9] at m1; omega)
        unfold valueB at hv
        simp [e9] at hv
        have hu := HE.out (by omega)
        have HK := hid gK
        clear gK hp m1 m2 m3 e6' e7' e8
        have HL := hid hel
        clear hel
        obtain ⟨k, s, lo, hi, d, to', va, vn, vc, vs, ta, tn, tc, ts, ea, en, ec, es, na, nn, nc⟩ := T
        obtain ⟨ak, av, ka, kn, kc, ba, bn, bc, bs⟩ := h
        dsimp only at *
        subst e9
        obtain ⟨av, rfl⟩ : ∃ m : Nat, av = (m : Int) := ⟨av.toNat, by omega⟩
        have hv1 : av < en := by omega
        obtain ⟨eb, eo, rfl, hel, hec⟩ := hu
        have hb0 : b ≠ w.heap.size := by omega
        have hb1 : b ≠ w.heap.size + 1 := by omega
        have hb2 : b ≠ w.heap.size + 1 + 1 := by omega
        have hb3 : b < w.heap.size + 1 := by omega
        have hb4 : b < w.heap.size + 1 + 1 := by omega
        have hb5 : b < w.heap.size + 2 := by omega
        go_enter Try.func80, Try.ntmps80
        go_wp2_with fail
        refine bodyPost_ret (cell_result rfl _ _ (w.heap.size + 1) 0 rfl [.slice ka kn kc, .slice (some ⟨eb, eo + av, none⟩) 1 (ec - av), .slice none 0 0] _ (rangeAt_block (t := 58) (heap3 w _ _ _).2.1) Try.underlying58 rfl csizeR) rfl ?_
        refine ⟨some ⟨eb, eo + av, none⟩, 1, ec - av, none, 0, 0, rfl, ?_, ?_, by omega, fun b' o' e => ?_, b3 _ _ _⟩
        · rw [HK.out]
          refine Ints.below (w := w) (fun _ => ⟨eb, eo + av, rfl, hel, fun j hj => ?_⟩) (b3 _ _ _)
          obtain rfl : j = 0 := by simpa using hj
          have := hec av (by rw [HL.out]; exact hv1)
          simpa using this
        · rw [HK.out]; rfl
        · cases e
          exact .inr ⟨by rw [HL.out]; omega, eo, rfl⟩
      · rw [if_neg e9] at gK
        have HK := hid gK
        clear gK hp m1 m2 m3 hel
        obtain ⟨k, s, lo, hi, d, to', va, vn, vc, vs, ta, tn, tc, ts, ea, en, ec, es, na, nn, nc⟩ := T
        obtain ⟨ak, av, ka, kn, kc, ba, bn, bc, bs⟩ := h
        dsimp only at *
        go_enter Try.func80, Try.ntmps80
        go_wp2_with fail
        refine bodyPost_ret (cell_result rfl _ _ (w.heap.size + 1) 0 rfl [.slice ka kn kc, .slice none 0 0, .slice none 0 0] _ (rangeAt_block (t := 58) (heap3 w _ _ _).2.1) Try.underlying58 rfl csizeR) rfl ?_
        refine ⟨none, 0, 0, none, 0, 0, rfl, ?_, ?_, by omega, fun b' o' e => (by cases e), b3 _ _ _⟩
        · rw [HK.out]
          exact fun h => absurd h (Nat.lt_irrefl 0)
        · rw [HK.out]; rfl

end Go.Proofs.Ytkgejeamcgodhaa
