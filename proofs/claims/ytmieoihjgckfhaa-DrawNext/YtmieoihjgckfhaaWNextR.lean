/- The road of DrawNext: whatever list and numbers came in, it returns true, and what was there stays. -/
import Derived.Test.YtmieoihjgckfhaaWRef
namespace Go.Proofs.Ytmieoihjgckfhaa
open Go.RowKit
set_option maxRecDepth 20000
set_option linter.unusedVariables false

theorem nx_ge (n : Int) (l : List Int) (u : Nat) : 0 ≤ nx n l u := by
  unfold nx
  by_cases h : n < 1 ∨ u = l.length
  · rw [if_pos h]; omega
  · rw [if_neg h]; exact Int.emod_nonneg _ (by omega)
theorem nx_lt (n : Int) (l : List Int) (u : Nat) (hn : 0 < n) : nx n l u < n := by
  unfold nx
  by_cases h : n < 1 ∨ u = l.length
  · rw [if_pos h]; exact hn
  · rw [if_neg h]; exact Int.emod_lt_of_pos _ hn

theorem own_store {w : World} {g : Nat} {cur : Array Value} {t : TypeId} (h : w.heap[g]? = some (.cells cur t (0, 0))) (i : Nat) (v : Value) : ∃ cur', (w.setCell ⟨g, i, none⟩ v).heap[g]? = some (.cells cur' t (0, 0)) ∧ cur'.size = cur.size :=
  ⟨_, heap_setCell_same w g i _ _ _ h, by simp⟩

set_option maxHeartbeats 8000000 in
theorem next_road (a : Option Addr) (n c : Nat) (l : List Int) (b : Option Addr) (m d : Nat) (ks : List Int) (w : World) (h : Ilst w a n c l) (q : Ilst w b m d ks) (hk : ∀ z ∈ ks, z ≤ 9223372036854775807) (hn : n ≤ 17592186044416) (hm : m ≤ 17592186044416) :
    Calls Try.prog 3 #[.slice a n c, .slice b m d] w fun e w' => e = .returned (.bool true) ∧ Below w.heap.size w w' := by
  have k1 := hid (iclone a n c l w h hn)
  have HA := hid h
  have HQ := hid q
  obtain rfl := h.size
  obtain rfl := q.size
  clear h q
  go_enter Try.func3, Try.ntmps3
  go_wp2_with fail
  refine k1.out.mono ?_
  rintro e w1 ⟨v, rfl, ho, hb⟩
  obtain ⟨a1, c1, rfl, _, hnil, hI⟩ := own_il ho
  have A1 := hid (HA.out.below hb)
  have k2 := hid (dnew a1 l.length c1 l w1 (hI.ilst hnil) hn)
  have HO1 := hid ho
  have HG0 : Hid (∀ g, a1 = some ⟨g, 0, none⟩ → g < w1.heap.size) := hid fun g e => by subst e; exact (ho.lt g rfl).2
  have HB1 := hid hb
  clear k1 HA ho hI hb
  go_wp2_with fail
  refine k2.out.mono ?_
  rintro e w2 ⟨p1, rfl, hD, hb⟩
  have k3 := hid (rnew a l.length c l w2 (A1.out.below hb) hn)
  have HD2 := hid hD
  have HO2 := hid (own_below HO1.out hb)
  have HB2 := hid (HB1.out.trans (hb.mono HB1.out.size))
  have s1 := HB1.out.size
  have s2 := hb.size
  clear k2 A1 HO1 HB1 hD hb
  go_wp2_with fail
  refine k3.out.mono ?_
  rintro e w3 ⟨p2, rfl, hR, hb⟩
  have HD3 := hid (HD2.out.below hb)
  have HO3 := hid (own_below HO2.out hb)
  have HB3 := hid (HB2.out.trans (hb.mono HB2.out.size))
  have HR3 := hid hR
  have q1 := HD2.out.lt
  have q2 := HD2.out.base
  have q3 := hR.base
  clear k3 HD2 HO2 HB2 hR hb
  go_wp2_with fail
  go_loopw [20] (fun k wr => ∃ (i : Nat), i ≤ l.length ∧ k = .int .i64 i ∧ Hid (Dw wr w1.heap.size p1 l 0) ∧ Hid (Rw wr w2.heap.size p2 l 0) ∧ Hid (Below w.heap.size w wr) ∧ Hid (0 < l.length → ∃ g cur, a1 = some ⟨g, 0, none⟩ ∧ w.heap.size ≤ g ∧ g < w1.heap.size ∧ wr.heap[g]? = some (.cells cur 3 (0, 0)) ∧ l.length ≤ cur.size)) (fun k _ => l.length - (intOf k).toNat)
  case atStart =>
    refine ⟨0, by omega, rfl, HD3, HR3, HB3, hid fun hl => ?_⟩
    rcases HO3.out.2 with ⟨_, h0⟩ | ⟨g, cap, cur, e, hB, hg, h1, h2, h3, _⟩
    · omega
    · injection e with e1 e2 e3
      refine ⟨g, cur, e1, hB, HG0.out g e1, hg, by omega⟩
  case round =>
    obtain ⟨i, hi, rfl, HD, HR, HB, HG⟩ := hrel
    by_cases hlt : i < l.length
    · obtain ⟨g, cur, rfl, g1, g2, g3, g4⟩ := HG.out (by omega)
      rename World => wr
      have hc : ∃ x, wr.cell? ⟨g, i, none⟩ = some x := ⟨_, by rw [cell_of_row wr g i _ 3 (0, 0) g3]; exact Array.getElem?_eq_getElem (by omega)⟩
      obtain ⟨x, hc⟩ := hc
      have hf : wr.frozen? ⟨g, i, none⟩ = false := by simp [World.frozen?, g3]
      obtain ⟨cur', e1, e2⟩ := own_store g3 i (.int .i64 (-3))
      have hU : Upd (· = g) wr (wr.setCell ⟨g, i, none⟩ (.int .i64 (-3))) := Upd.setCell _ _ _ rfl
      have ND := hid (HD.out.upd hU (fun x h1 h2 => by omega))
      have NR := hid (HR.out.upd hU (fun x h1 h2 => by omega))
      have NB := hid (HB.out.trans (hU.below HB.out.size (fun x hx => by omega)))
      have NG : Hid (0 < l.length → ∃ g' cur, (some ⟨g, 0, none⟩ : Option Addr) = some ⟨g', 0, none⟩ ∧ w.heap.size ≤ g' ∧ g' < w1.heap.size ∧ (wr.setCell ⟨g, i, none⟩ (.int .i64 (-3))).heap[g']? = some (.cells cur 3 (0, 0)) ∧ l.length ≤ cur.size) := hid fun _ => ⟨g, cur', rfl, g1, g2, e1, by omega⟩
      clear HD HR HB HG g3 g4 e1 e2 hU
      go_wp2_with fail
      go_roundw
      case rel => exact ⟨i + 1, by omega, by go_num, ND, NR, NB, NG⟩
      case measure => simp [intOf]; omega
    · obtain rfl : i = l.length := by omega
      clear HG HO3 HG0
      go_wp2_with fail
      go_loopw [29] (fun k wr => ∃ (j u : Nat), j ≤ ks.length ∧ k = .int .i64 j ∧ Hid (Dw wr w1.heap.size p1 l u) ∧ Hid (Rw wr w2.heap.size p2 l u) ∧ Hid (Below w.heap.size w wr)) (fun k _ => ks.length - (intOf k).toNat)
      case atStart => exact ⟨0, 0, by omega, rfl, HD, HR, HB⟩
      case round =>
        clear HD HR HB
        obtain ⟨j, u, hj, rfl, HD, HR, HB⟩ := hrel
        by_cases hjl : j < ks.length
        · rename World => wr
          obtain ⟨b0, o0, rfl, hbl, hc⟩ := (HQ.out.below HB.out).cells (by omega)
          have hcj := hc j hjl
          have hz : ks.getD j 0 ≤ 9223372036854775807 := by
            rw [List.getD_eq_getElem?_getD, List.getElem?_eq_getElem hjl]; exact hk _ (List.getElem_mem hjl)
          generalize ks.getD j 0 = z at hcj hz
          have k4 := hid (next_any wr w1.heap.size p1 l u z HD.out hz)
          have HQ' := hid HQ.out.size
          clear hc hbl
          go_wp2_with fail
          refine k4.out.mono ?_
          rintro e w4 ⟨rfl, hD, hU⟩
          have HR4 := hid (HR.out.upd hU (fun x h1 h2 => by omega))
          have HD4 := hid hD
          have HB4 := hid (HB.out.trans (hU.below HB.out.size (fun x hx => by omega)))
          have k5 := hid (rnext_any w4 w2.heap.size p2 l u z HR4.out hz)
          have x1 := nx_ge z l u
          have x2 := nx_lt z l u
          generalize nx z l u = X at x1 x2 k5 ⊢
          generalize nu z l u = u' at HD4 k5
          clear HD HR HB k4 hD hU
          go_wp2_with fail
          refine k5.out.mono ?_
          rintro e w5 ⟨rfl, hR, hU⟩
          have HD5 := hid (HD4.out.upd hU (fun x h1 h2 => by omega))
          have HR5 := hid hR
          have HB5 := hid (HB4.out.trans (hU.below HB4.out.size (fun x hx => by omega)))
          have k6 := hid (used_any w5 w1.heap.size p1 l u' HD5.out)
          have k7 := hid (rused_any w5 w2.heap.size p2 l u' HR5.out)
          have d1 : ¬ X < 0 := by omega
          clear k5 HD4 HR4 HB4 hR hU
          go_wp2_with fail
          refine k6.out.mono ?_
          rintro e w6 ⟨rfl, rfl⟩
          clear k6
          go_wp2_with fail
          refine k7.out.mono ?_
          rintro e w6 ⟨rfl, rfl⟩
          clear k7
          by_cases hz0 : 0 < z
          · have d2 : ¬ z ≤ X := by have := x2 hz0; omega
            go_wp2_with fail
            go_roundw
            case rel => exact ⟨j + 1, u', by omega, by go_num, HD5, HR5, HB5⟩
            case measure => simp [intOf]; omega
          · go_wp2_with fail
            go_roundw
            case rel => exact ⟨j + 1, u', by omega, by go_num, HD5, HR5, HB5⟩
            case measure => simp [intOf]; omega
        · obtain rfl : j = ks.length := by omega
          rename World => wr
          have k6 := hid (used_any wr w1.heap.size p1 l u HD.out)
          have hle := HD.out.le
          clear HR
          go_wp2_with fail
          refine k6.out.mono ?_
          rintro e w6 ⟨rfl, rfl⟩
          clear k6
          go_wp2_with fail
          go_ret
          exact ⟨by simp, HB.out⟩

end Go.Proofs.Ytmieoihjgckfhaa
