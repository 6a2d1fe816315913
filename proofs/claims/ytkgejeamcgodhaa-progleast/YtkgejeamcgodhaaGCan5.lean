/- Whether the calls of a table may be; whether it may be: the program's. -/
import Derived.Test.YtkgejeamcgodhaaGCan4
namespace Go.Proofs.Ytkgejeamcgodhaa
open Go.RowKit
set_option linter.unusedVariables false
set_option maxRecDepth 20000

theorem take_cl (l : List Cl) (i : Nat) (h : i < l.length) : l.take (i + 1) = l.take i ++ [l[i]] := by
  rw [List.take_add_one, List.getElem?_eq_getElem h]; rfl

set_option maxHeartbeats 4000000 in
theorem pcalls_any (a : Option Addr) (n c : Nat) (a2 : Option Addr) (m c2 : Nat) (l : List Cl) (w : World) (h : Cls w a2 l) (hm : l.length = m) (h4 : n ≤ 400) (hm4 : m ≤ 64) :
    Calls Try.prog 26 #[.agg #[.slice a n c, .slice a2 m c2]] w fun e w' => e = .returned (.bool (l.all (callB n))) ∧ Below w.heap.size w w' := by
  have HT := hid h
  have HN := hid hm
  obtain ⟨R, gR⟩ : ∃ R, R = l.all (callB n) := ⟨_, rfl⟩
  rw [← gR]
  have HR := hid gR
  clear gR h hm
  go_enter Try.func26, Try.ntmps26
  go_wp2_with fail
  go_loopw [10] (fun k wr => ∃ i : Nat, i ≤ m ∧ k = .int .i64 i ∧ Hid ((l.take i).all (callB n) = true) ∧ Hid (Below w.heap.size w wr) ∧ Hid (w.heap.size < wr.heap.size) ∧ Hid (wr.cell? ⟨w.heap.size, 0, none⟩ = some (.slice a n c))) (fun k _ => m - (intOf k).toNat)
  case atStart => exact ⟨0, Nat.zero_le _, rfl, hid rfl, hid (below_box _ _), hid (by simp), hid (by simp)⟩
  case round =>
    obtain ⟨i, hi, rfl, HG, HB, HZ, HC⟩ := hrel
    by_cases hlt : i < m
    · have hil : i < l.length := by rw [HN.out]; exact hlt
      obtain ⟨b, o, rfl, hbl, hcs⟩ := HT.out.below HB.out (by omega)
      obtain ⟨⟨c0, c1, c2', c3, c4⟩, ok⟩ := hcs i hil
      have HM : Hid (l.take (i + 1) = l.take i ++ [l[i]]) := hid (take_cl l i hil)
      have HMem : Hid (l[i] ∈ l) := hid (List.getElem_mem hil)
      generalize l[i] = C at c0 c1 c2' c3 c4 ok HM HMem
      clear hcs hil
      have hal := ok.al
      have ham := ok.am
      have hab := ok.ab
      have hnm := ok.nm
      have hnb := ok.nb
      have HO := hid ok
      have HAL := hid hal
      clear ok hal
      have hz := HZ.out
      have hc := HC.out
      have hsz := HB.out.size
      by_cases hC : C.an ≤ 6 ∧ C.nn = C.an ∧ 0 ≤ C.no ∧ C.no ≤ 63
      · obtain ⟨q1, q2, q3, q4⟩ := hC
        have q1' : ¬ (6 < (C.an : Int)) := by omega
        have q3' : ¬ (C.no < 0) := by omega
        have q4' : ¬ (63 < C.no) := by omega
        have HE := hid (HO.out.ag.below (below_box wr (.cells #[.string C.nm, .int .i64 C.no, .slice C.aa C.an C.ac, .slice C.na C.nn C.nc, .string C.rt] 56)))
        have HX := hid (HB.out.alloc HB.out.size (.cells #[.string C.nm, .int .i64 C.no, .slice C.aa C.an C.ac, .slice C.na C.nn C.nc, .string C.rt] 56))
        have hq : (C.nn : Int) = (C.an : Int) := by omega
        obtain ⟨nm, no, aa, an, ac, ags, na, nn, nc, rt⟩ := C
        dsimp only at *
        subst q2
        have HCB : Hid (∀ x, ahead n ags = x → callB n ⟨nm, no, aa, nn, ac, ags, na, nn, nc, rt⟩ = x) := hid (by
          intro x hx
          unfold callB
          dsimp only
          rw [hx, decide_eq_true ⟨q1, rfl, q3, q4⟩]
          rfl)
        go_wp2_with fail
        go_loop [40] (fun k => ∃ j : Nat, j ≤ nn ∧ k = .int .i64 j ∧ Hid (ahead n (ags.take j) = true)) (fun k => nn - (intOf k).toNat)
        case atStart => exact ⟨0, Nat.zero_le _, rfl, hid rfl⟩
        case round =>
          obtain ⟨j, hj, rfl, HA⟩ := hrel
          by_cases hjt : j < nn
          · have hjl : j < ags.length := by rw [HAL.out]; exact hjt
            obtain ⟨b2, o2, rfl, hbl2, hcs2⟩ := HE.out (by omega)
            have hci := hcs2 j hjl
            have HM2 := hid (ahead_more n ags j hjl)
            have HS2 := hid (ahead_stop n ags j hjl)
            generalize ags.getD j 0 = x at hci HM2 HS2
            clear hcs2 hbl2 hjl
            by_cases hx : 0 ≤ x ∧ x < (n : Int)
            · have hx1 := hx.1
              have hx2 := hx.2
              go_wp2_with fail
              go_round
              case rel => exact ⟨j + 1, by omega, by go_num, hid (by rw [HM2.out, HA.out]; simp; omega)⟩
              case measure => simp [intOf]; omega
            · have HF : Hid (l.all (callB n) = false) := hid (by
                rw [List.all_eq_false]
                exact ⟨_, HMem.out, by rw [HCB.out _ (HS2.out hx)]; simp⟩)
              by_cases hx0 : x < 0
              · go_wp2_with fail
                go_ret
                exact ⟨ret_bool (by rw [HR.out, HF.out]), HX.out⟩
              · have hx1 : (n : Int) ≤ x := by omega
                go_wp2_with fail
                go_ret
                exact ⟨ret_bool (by rw [HR.out, HF.out]), HX.out⟩
          · obtain rfl : j = nn := by omega
            have HF : Hid (ahead n ags = true) := hid (by have := HA.out; rw [← HAL.out, List.take_length] at this; exact this)
            go_wp2_with fail
            go_roundw
            case rel => exact ⟨i + 1, by omega, by go_num, hid (by rw [HM.out, List.all_append, HG.out]; simp [HCB.out _ HF.out]), HX, hid (by simp; omega), hid (by first | exact hc | (simp [hc]; done) | (rw [World.cell?_alloc_lt _ _ _ hz]; exact hc))⟩
            case measure => simp [intOf]; omega
      · have HF : Hid (l.all (callB n) = false) := hid (by
          rw [List.all_eq_false]
          refine ⟨C, HMem.out, ?_⟩
          unfold callB
          rw [decide_eq_false hC]
          simp)
        have HX := hid (fun o => HB.out.alloc HB.out.size o)
        have HCn := hid hC
        clear hC
        go_wp2_with fail
        all_goals
          first
          | (go_ret
             exact ⟨ret_bool (by rw [HR.out, HF.out]), HX.out _⟩)
          | (exfalso
             exact HCn.out ⟨by omega, by first | omega | (simp_all; done) | (simp_all; omega), by omega, by omega⟩)
    · obtain rfl : i = m := by omega
      go_wp2_with fail
      go_ret
      refine ⟨ret_bool ?_, HB.out⟩
      have := HG.out
      rw [← HN.out, List.take_length] at this
      rw [HR.out, this]

set_option maxHeartbeats 4000000 in
theorem pcan_any (a : Option Addr) (n c : Nat) (a2 : Option Addr) (m c2 : Nat) (l : List Ty) (q : List Cl) (w : World) (h : Tys w a l) (hn : l.length = n) (h2 : Cls w a2 q) (hm : q.length = m) (hc : n ≤ 9223372036854775807) (hc2 : m ≤ 9223372036854775807) :
    Calls Try.prog 8 #[.agg #[.slice a n c, .slice a2 m c2]] w fun e w' => e = .returned (.bool (canB l q)) ∧ Below w.heap.size w w' := by
  have HT := hid h
  have HC := hid h2
  have HN := hid hn
  have HM := hid hm
  obtain ⟨R, gR⟩ : ∃ R, R = canB l q := ⟨_, rfl⟩
  rw [← gR]
  have HR := hid gR
  clear gR h hn h2 hm
  unfold canB at HR
  by_cases h4 : n ≤ 400
  · by_cases h5 : m ≤ 64
    · have k1 := hid (fun o => ptypes_any a n c l (w.alloc o) (HT.out.below (below_box w o)) HN.out h4)
      have k2 := hid (fun wx (hb : Below w.heap.size w wx) => pcalls_any a n c a2 m c2 q wx (HC.out.below hb) HM.out h4 h5)
      have h4' : (n : Int) ≤ 400 := by omega
      have h5' : (m : Int) ≤ 64 := by omega
      rw [decide_eq_true ⟨HN.out ▸ h4, HM.out ▸ h5⟩, HN.out] at HR
      generalize (runG [] l).isSome = B1 at *
      generalize q.all (callB n) = B2 at *
      go_enter Try.func8, Try.ntmps8
      go_wp2_with fail
      refine (k1.out _).mono ?_
      rintro e w1 ⟨rfl, hb1⟩
      obtain ⟨hc1, hf1⟩ := bcell hb1
      have hs1 : w.heap.size < w1.heap.size := by have := hb1.size; simp at this; omega
      have u1 := hid ((below_box w _).trans (hb1.mono (below_box w _).size))
      have k2' := hid (k2.out w1 u1.out)
      clear k2
      cases B1
      · go_wp2_with fail
        go_ret
        exact ⟨ret_bool (by rw [HR.out]; rfl), u1.out⟩
      · go_wp2_with fail
        refine k2'.out.mono ?_
        rintro e w2 ⟨rfl, hb2⟩
        go_wp2_with fail
        go_ret
        exact ⟨ret_bool (by rw [HR.out]; simp), u1.out.trans (hb2.mono u1.out.size)⟩
    · have h4' : (n : Int) ≤ 400 := by omega
      have h5' : ¬ (m : Int) ≤ 64 := by omega
      rw [decide_eq_false (by rw [HM.out]; omega)] at HR
      go_enter Try.func8, Try.ntmps8
      go_wp2_with fail
      go_ret
      exact ⟨ret_bool (by rw [HR.out]; rfl), below_box _ _⟩
  · have h4' : ¬ (n : Int) ≤ 400 := by omega
    rw [decide_eq_false (by rw [HN.out]; omega)] at HR
    go_enter Try.func8, Try.ntmps8
    go_wp2_with fail
    go_ret
    exact ⟨ret_bool (by rw [HR.out]; rfl), below_box _ _⟩

end Go.Proofs.Ytkgejeamcgodhaa
