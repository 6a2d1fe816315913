/- How many bytes an argument has: the document's Size; the road of ProgSizes. -/
import Derived.Test.YtoohihlpjodhaaaGRef4
import Derived.Test.YtoohihlpjodhaaaGRef5
import Derived.Test.YtoohihlpjodhaaaGSz3
namespace Go.Proofs.Ytoohihlpjodhaaa
open Go.RowKit
set_option linter.unusedVariables false
set_option maxRecDepth 20000

set_option maxHeartbeats 16000000 in
theorem rsize_any (a : Option Addr) (m c : Nat) (a2 : Option Addr) (m2 c2 : Nat) (l : List Ty) (q : List Cl) (d : Nat) (n : Int) (A : Ar) (w : World) (h : Tys w a l) (hm : l.length = m) (h2 : Cls w a2 q) (hm2 : q.length = m2) (hc : m ≤ 9223372036854775807) (hc2 : m2 ≤ 9223372036854775807) (hA : Okd d w A) :
    Calls Try.prog 11 #[.agg #[.slice a m c, .slice a2 m2 c2], .int .i64 n, .agg #[.int .i64 A.h.k, .int .i64 A.h.v, .slice A.h.ka A.h.kn A.h.kc, .slice A.h.ba A.h.bn A.h.bc]] w fun e w' => e = .returned (.tuple #[.int .i64 (sizeR l q d n A).1, .int .i64 (sizeR l q d n A).2]) ∧ Below w.heap.size w w' := by
  have k1 := hid (fun o o' => rcan_any a m c a2 m2 c2 l q ((w.alloc o).alloc o') (h.below (below_box2 w o o')) hm (h2.below (below_box2 w o o')) hm2 hc hc2)
  by_cases hok : canB l q = true ∧ 0 ≤ n ∧ n < (m : Int)
  · obtain ⟨hcan, hn0, hnm⟩ := hok
    rw [hcan] at k1
    have hG := can_good hcan
    have HSR : Hid (sizeR l q d n A = if chk l d n A = 0 then (wrap64 (szA l d n A), 0) else (0, chk l d n A)) := hid (by
      unfold sizeR
      rw [if_pos (by rw [hm]; exact ⟨hcan, hn0, hnm⟩)])
    generalize sizeR l q d n A = SR at *
    obtain ⟨R1, R2⟩ := SR
    dsimp only
    obtain ⟨n, rfl⟩ : ∃ k : Nat, n = (k : Int) := ⟨n.toNat, by omega⟩
    have hnl : n < l.length := by omega
    have k3 := hid (fun wx pc (hb : Below w.heap.size w wx) (e1 : pc < wx.heap.size) (e2 : wx.cell? ⟨pc, 0, none⟩ = some (.slice a m c)) (e3 : wx.cell? ⟨pc, 4, none⟩ = some (.bool true)) => rarg_any a m c l hm hc hG pc d n A wx (h.below hb) hnl (Okd.below hb d A hA) e1 e2 e3)
    have k4 := hid (fun (h0 : chk l d (n : Int) A = 0) wx (hb : Below w.heap.size w wx) => rmeas_any a m c a2 m2 c2 l hm hc hG d n A wx (h.below hb) hnl (Okd.below hb d A hA) h0)
    generalize chk l d (n : Int) A = CH at *
    generalize wrap64 (szA l d (n : Int) A) = SZ at *
    clear h hm h2 hm2 hA hG
    generalize A.h = hh at *
    have hn1 : ¬ ((n : Int) < 0) := by omega
    have hn2 : ¬ ((m : Int) ≤ (n : Int)) := by omega
    go_enter Try.func11, Try.ntmps11
    go_wp2_with fail
    refine (k1.out _ _).mono ?_
    rintro e w1 ⟨rfl, hb1⟩
    have u1 : Hid (Below w.heap.size w w1) := hid ((below_box2 w _ _).trans (hb1.mono (below_box2 w _ _).size))
    have hs1 : w.heap.size + 1 < w1.heap.size := by have := hb1.size; simp at this; omega
    have c0 : w1.heap[w.heap.size]? = some (.cells #[.slice a m c, .slice a2 m2 c2] 25 (0, 0)) := by
      rw [hb1.block _ (by simp; omega), (below_box _ _).block _ (by simp)]; exact heap_alloc_new _ _
    have c1 : w1.heap[w.heap.size + 1]? = some (.cells #[.int .i64 hh.k, .int .i64 hh.v, .slice hh.ka hh.kn hh.kc, .slice hh.ba hh.bn hh.bc] 30 (0, 0)) := by
      rw [hb1.block _ (by simp)]
      have := heap_alloc_new (w.alloc (.cells #[.slice a m c, .slice a2 m2 c2] 25)) (.cells #[.int .i64 hh.k, .int .i64 hh.v, .slice hh.ka hh.kn hh.kc, .slice hh.ba hh.bn hh.bc] 30)
      simpa using this
    have d0 : w1.cell? ⟨w.heap.size + 1, 0, none⟩ = some (.int .i64 hh.k) := cell_of_row _ _ 0 _ _ _ c1
    have d1 : w1.cell? ⟨w.heap.size + 1, 1, none⟩ = some (.int .i64 hh.v) := cell_of_row _ _ 1 _ _ _ c1
    have d2 : w1.cell? ⟨w.heap.size + 1, 2, none⟩ = some (.slice hh.ka hh.kn hh.kc) := cell_of_row _ _ 2 _ _ _ c1
    have d3 : w1.cell? ⟨w.heap.size + 1, 3, none⟩ = some (.slice hh.ba hh.bn hh.bc) := cell_of_row _ _ 3 _ _ _ c1
    have f0 : w1.cell? ⟨w.heap.size, 0, none⟩ = some (.slice a m c) := cell_of_row _ _ 0 _ _ _ c0
    have f1 : w1.cell? ⟨w.heap.size, 1, none⟩ = some (.slice a2 m2 c2) := cell_of_row _ _ 1 _ _ _ c0
    have C0 := hid c0
    have C1 := hid c1
    have hsz1 : w.heap.size < w1.heap.size := by omega
    clear c0 c1 hb1 k1
    go_wp2_with fail
    refine (k3.out _ w1.heap.size (u1.out.trans ((below_box w1 _).mono u1.out.size)) (by simp) (cell_of_row _ _ 0 _ _ _ (heap_alloc_new w1 _)) (cell_of_row _ _ 4 _ _ _ (heap_alloc_new w1 _))).mono ?_
    rintro e w2 ⟨rfl, hb2⟩
    have U2 : Hid (Below w1.heap.size w1 w2) := hid ((below_box w1 _).trans (hb2.mono (below_box w1 _).size))
    have U02 : Hid (Below w.heap.size w w2) := hid (u1.out.trans (U2.out.mono u1.out.size))
    have e0 := (U2.out.block _ hsz1).trans C0.out
    have e1 := (U2.out.block _ hs1).trans C1.out
    have g0 : w2.cell? ⟨w.heap.size + 1, 0, none⟩ = some (.int .i64 hh.k) := cell_of_row _ _ 0 _ _ _ e1
    have g1 : w2.cell? ⟨w.heap.size + 1, 1, none⟩ = some (.int .i64 hh.v) := cell_of_row _ _ 1 _ _ _ e1
    have g2 : w2.cell? ⟨w.heap.size + 1, 2, none⟩ = some (.slice hh.ka hh.kn hh.kc) := cell_of_row _ _ 2 _ _ _ e1
    have g3 : w2.cell? ⟨w.heap.size + 1, 3, none⟩ = some (.slice hh.ba hh.bn hh.bc) := cell_of_row _ _ 3 _ _ _ e1
    have g4 : w2.cell? ⟨w.heap.size, 0, none⟩ = some (.slice a m c) := cell_of_row _ _ 0 _ _ _ e0
    have g5 : w2.cell? ⟨w.heap.size, 1, none⟩ = some (.slice a2 m2 c2) := cell_of_row _ _ 1 _ _ _ e0
    clear hb2 e0 e1 d0 d1 d2 d3 f0 f1 k3
    by_cases h0 : CH = 0
    · subst h0
      have k5 := hid (k4.out rfl w2 U02.out)
      clear k4
      have hr : (R1, R2) = (SZ, (0 : Int)) := by simpa using HSR.out
      injection hr with hr1 hr2
      have HR1 := hid hr1
      have HR2 := hid hr2
      clear hr1 hr2 HSR
      go_wp2_with fail
      refine k5.out.mono ?_
      rintro e w4 ⟨rfl, hb4⟩
      go_wp2_with fail
      go_ret2
      exact ⟨by rw [HR1.out, HR2.out]; rfl, U02.out.trans (hb4.mono U02.out.size)⟩
    · have h1 : (CH != 0) = true := by simpa using h0
      have hr := HSR.out
      rw [if_neg h0] at hr
      injection hr with hr1 hr2
      have HR1 := hid hr1
      have HR2 := hid hr2
      clear hr1 hr2 HSR k4
      go_wp2_with fail
      go_ret2
      exact ⟨by rw [HR1.out, HR2.out]; rfl, U02.out⟩
  · have HSR : Hid (sizeR l q d n A = (0, 1)) := hid (by
      unfold sizeR
      rw [if_neg (by rw [hm]; exact hok)])
    generalize sizeR l q d n A = SR at *
    obtain ⟨R1, R2⟩ := SR
    dsimp only
    have hr := HSR.out
    injection hr with hr1 hr2
    have HR1 := hid hr1
    have HR2 := hid hr2
    have HOK := hid hok
    clear hr1 hr2 HSR h hm h2 hm2 hA hok
    generalize A.h = hh at *
    generalize canB l q = B at *
    go_enter Try.func11, Try.ntmps11
    go_wp2_with fail
    refine (k1.out _ _).mono ?_
    rintro e w1 ⟨rfl, hb1⟩
    have u1 : Hid (Below w.heap.size w w1) := hid ((below_box2 w _ _).trans (hb1.mono (below_box2 w _ _).size))
    obtain ⟨hc1, hf1⟩ := bcell hb1
    clear hb1
    cases B
    · go_wp2_with fail
      go_ret2
      exact ⟨by rw [HR1.out, HR2.out]; rfl, u1.out⟩
    · by_cases hn0 : n < 0
      · go_wp2_with fail
        go_ret2
        exact ⟨by rw [HR1.out, HR2.out]; rfl, u1.out⟩
      · have hn1 : (m : Int) ≤ n := by
          by_cases hh' : n < (m : Int)
          · exact absurd ⟨rfl, by omega, hh'⟩ HOK.out
          · omega
        go_wp2_with fail
        go_ret2
        exact ⟨by rw [HR1.out, HR2.out]; rfl, u1.out⟩

end Go.Proofs.Ytoohihlpjodhaaa
