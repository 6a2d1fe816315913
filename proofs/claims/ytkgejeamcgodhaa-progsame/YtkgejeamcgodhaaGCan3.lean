/- How great a type is; which numbers and texts a type may have, as the document asks it. -/
import Derived.Test.YtkgejeamcgodhaaGCan2
namespace Go.Proofs.Ytkgejeamcgodhaa
open Go.RowKit
set_option linter.unusedVariables false
set_option maxRecDepth 20000

set_option maxHeartbeats 4000000 in
theorem pgreat_any (T : Ty) (a : Option Addr) (n c : Nat) (g : List Int) (w : World) (h : T.Ok w) (hg : Ints w a g) (hn : g.length = n) (hah : ahead n T.es = true) (hc : n ≤ 9223372036854775807) :
    Calls Try.prog 58 #[.agg #[.int .i64 T.k, .int .i64 T.s, .int .i64 T.lo, .int .i64 T.hi, .int .i64 T.d, .string T.o, .slice T.va T.vn T.vc, .slice T.ta T.tn T.tc, .slice T.ea T.en T.ec, .slice T.na T.nn T.nc], .slice a n c] w fun e w' => e = .returned (.int .i64 (greatG T g)) ∧ Below w.heap.size w w' := by
  have HE := hid (h.es.below (below_box w (.cells #[.int .i64 T.k, .int .i64 T.s, .int .i64 T.lo, .int .i64 T.hi, .int .i64 T.d, .string T.o, .slice T.va T.vn T.vc, .slice T.ta T.tn T.tc, .slice T.ea T.en T.ec, .slice T.na T.nn T.nc] 52)))
  have HG := hid (hg.below (below_box w (.cells #[.int .i64 T.k, .int .i64 T.s, .int .i64 T.lo, .int .i64 T.hi, .int .i64 T.d, .string T.o, .slice T.va T.vn T.vc, .slice T.ta T.tn T.tc, .slice T.ea T.en T.ec, .slice T.na T.nn T.nc] 52)))
  have HN := hid h.el
  have HGN := hid hn
  have HA := hid hah
  have hem := h.em
  have heb := h.eb
  clear h hg hn hah
  obtain ⟨R, gR⟩ : ∃ R, R = greatG T g := ⟨_, rfl⟩
  rw [← gR]
  have HR := hid gR
  clear gR
  unfold greatG at HR
  obtain ⟨k, s, lo, hi, d, o, va, vn, vc, vs, ta, tn, tc, ts, ea, en, ec, es, na, nn, nc⟩ := T
  dsimp only at *
  go_enter Try.func58, Try.ntmps58
  go_wp2_with fail
  go_loop [5, 6, 12] (fun u v k => ∃ j : Nat, ∃ S M : Int, j ≤ en ∧ k = .int .i64 j ∧ u = .int .i64 S ∧ v = .int .i64 M ∧ Hid (S = sumG g (es.take j)) ∧ Hid (M = mostG g (es.take j))) (fun _ _ k => en - (intOf k).toNat)
  case atStart => exact ⟨0, 0, 0, Nat.zero_le _, rfl, rfl, rfl, hid rfl, hid rfl⟩
  case round =>
    obtain ⟨j, S, M, hj, rfl, rfl, rfl, HS, HM⟩ := hrel
    by_cases hlt : j < en
    · have hjl : j < es.length := by rw [HN.out]; exact hlt
      obtain ⟨b, o', rfl, hbl, hcs⟩ := HE.out (by omega)
      have hci := hcs j hjl
      have hx := ahead_at HA.out j hjl
      have HS2 := hid (sumG_more g es j hjl)
      have HM2 := hid (mostG_more g es j hjl)
      generalize es.getD j 0 = x at hci hx HS2 HM2
      clear hcs hbl hjl
      obtain ⟨x, rfl⟩ : ∃ m : Nat, x = (m : Int) := ⟨x.toNat, by omega⟩
      have hxn : x < n := by omega
      have hxl : x < g.length := by rw [HGN.out]; exact hxn
      obtain ⟨b2, o2, rfl, hbl2, hcs2⟩ := HG.out (by omega)
      have hci2 := hcs2 x hxl
      simp only [Int.toNat_natCast] at HS2 HM2
      generalize g.getD x 0 = y at hci2 HS2 HM2
      rw [← HS.out] at HS2
      rw [← HM.out] at HM2
      clear hcs2 hbl2 hxl
      go_wp2_with fail
      all_goals
        go_round
        case rel => exact ⟨j + 1, _, _, by omega, by go_num, rfl, rfl, hid HS2.out.symm, hid (by rw [HM2.out])⟩
        case measure => simp [intOf]; omega
    · obtain rfl : j = en := by omega
      have HS3 : Hid (S = sumG g es) := hid (by have := HS.out; rw [← HN.out, List.take_length] at this; exact this)
      have HM3 : Hid (M = mostG g es) := hid (by have := HM.out; rw [← HN.out, List.take_length] at this; exact this)
      rw [← HS3.out, ← HM3.out] at HR
      clear HS HM HE HG HA HS3 HM3
      go_wp2_with fail
      all_goals
        go_ret
        refine ⟨ret_int ?_, below_box _ _⟩
        rw [HR.out]
        clear HR
        simp only [beq_iff_eq, beq_eq_false_iff_ne] at *
        first | rfl | (simp [*]; done)

set_option maxHeartbeats 4000000 in
theorem rgreat_any (T : Ty) (a : Option Addr) (n c : Nat) (g : List Int) (w : World) (h : T.Ok w) (hg : Ints w a g) (hn : g.length = n) (hah : ahead n T.es = true) (hc : n ≤ 9223372036854775807) :
    Calls Try.prog 29 #[.agg #[.int .i64 T.k, .int .i64 T.s, .int .i64 T.lo, .int .i64 T.hi, .int .i64 T.d, .string T.o, .slice T.va T.vn T.vc, .slice T.ta T.tn T.tc, .slice T.ea T.en T.ec, .slice T.na T.nn T.nc], .slice a n c] w fun e w' => e = .returned (.int .i64 (greatG T g)) ∧ Below w.heap.size w w' := by
  have HE := hid (h.es.below (below_box w (.cells #[.int .i64 T.k, .int .i64 T.s, .int .i64 T.lo, .int .i64 T.hi, .int .i64 T.d, .string T.o, .slice T.va T.vn T.vc, .slice T.ta T.tn T.tc, .slice T.ea T.en T.ec, .slice T.na T.nn T.nc] 52)))
  have HG := hid (hg.below (below_box w (.cells #[.int .i64 T.k, .int .i64 T.s, .int .i64 T.lo, .int .i64 T.hi, .int .i64 T.d, .string T.o, .slice T.va T.vn T.vc, .slice T.ta T.tn T.tc, .slice T.ea T.en T.ec, .slice T.na T.nn T.nc] 52)))
  have HN := hid h.el
  have HGN := hid hn
  have HA := hid hah
  have hem := h.em
  have heb := h.eb
  clear h hg hn hah
  obtain ⟨R, gR⟩ : ∃ R, R = greatG T g := ⟨_, rfl⟩
  rw [← gR]
  have HR := hid gR
  clear gR
  unfold greatG at HR
  obtain ⟨k, s, lo, hi, d, o, va, vn, vc, vs, ta, tn, tc, ts, ea, en, ec, es, na, nn, nc⟩ := T
  dsimp only at *
  go_enter Try.func29, Try.ntmps29
  go_wp2_with fail
  go_loop [5, 6, 12] (fun u v k => ∃ j : Nat, ∃ S M : Int, j ≤ en ∧ k = .int .i64 j ∧ u = .int .i64 S ∧ v = .int .i64 M ∧ Hid (S = sumG g (es.take j)) ∧ Hid (M = mostG g (es.take j))) (fun _ _ k => en - (intOf k).toNat)
  case atStart => exact ⟨0, 0, 0, Nat.zero_le _, rfl, rfl, rfl, hid rfl, hid rfl⟩
  case round =>
    obtain ⟨j, S, M, hj, rfl, rfl, rfl, HS, HM⟩ := hrel
    by_cases hlt : j < en
    · have hjl : j < es.length := by rw [HN.out]; exact hlt
      obtain ⟨b, o', rfl, hbl, hcs⟩ := HE.out (by omega)
      have hci := hcs j hjl
      have hx := ahead_at HA.out j hjl
      have HS2 := hid (sumG_more g es j hjl)
      have HM2 := hid (mostG_more g es j hjl)
      generalize es.getD j 0 = x at hci hx HS2 HM2
      clear hcs hbl hjl
      obtain ⟨x, rfl⟩ : ∃ m : Nat, x = (m : Int) := ⟨x.toNat, by omega⟩
      have hxn : x < n := by omega
      have hxl : x < g.length := by rw [HGN.out]; exact hxn
      obtain ⟨b2, o2, rfl, hbl2, hcs2⟩ := HG.out (by omega)
      have hci2 := hcs2 x hxl
      simp only [Int.toNat_natCast] at HS2 HM2
      generalize g.getD x 0 = y at hci2 HS2 HM2
      rw [← HS.out] at HS2
      rw [← HM.out] at HM2
      clear hcs2 hbl2 hxl
      go_wp2_with fail
      all_goals
        go_round
        case rel => exact ⟨j + 1, _, _, by omega, by go_num, rfl, rfl, hid HS2.out.symm, hid (by rw [HM2.out])⟩
        case measure => simp [intOf]; omega
    · obtain rfl : j = en := by omega
      have HS3 : Hid (S = sumG g es) := hid (by have := HS.out; rw [← HN.out, List.take_length] at this; exact this)
      have HM3 : Hid (M = mostG g es) := hid (by have := HM.out; rw [← HN.out, List.take_length] at this; exact this)
      rw [← HS3.out, ← HM3.out] at HR
      clear HS HM HE HG HA HS3 HM3
      go_wp2_with fail
      all_goals
        go_ret
        refine ⟨ret_int ?_, below_box _ _⟩
        rw [HR.out]
        clear HR
        simp only [beq_iff_eq, beq_eq_false_iff_ne] at *
        first | rfl | (simp [*]; done)

set_option maxHeartbeats 4000000 in
theorem rfits_any (T : Ty) (w : World) (h : T.Ok w) :
    Calls Try.prog 28 #[.agg #[.int .i64 T.k, .int .i64 T.s, .int .i64 T.lo, .int .i64 T.hi, .int .i64 T.d, .string T.o, .slice T.va T.vn T.vc, .slice T.ta T.tn T.tc, .slice T.ea T.en T.ec, .slice T.na T.nn T.nc]] w fun e w' => e = .returned (.bool (fitsB T)) ∧ Below w.heap.size w w' := by
  have k1 := hid (fun n wx => rsz_any n wx)
  have HE := hid (h.ts.below (below_box w (.cells #[.int .i64 T.k, .int .i64 T.s, .int .i64 T.lo, .int .i64 T.hi, .int .i64 T.d, .string T.o, .slice T.va T.vn T.vc, .slice T.ta T.tn T.tc, .slice T.ea T.en T.ec, .slice T.na T.nn T.nc] 52)))
  have HN := hid h.tl
  have hvm := h.vm
  have hvb := h.vb
  have htm := h.tm
  have htb := h.tb
  clear h
  obtain ⟨R, gR⟩ : ∃ R, R = fitsB T := ⟨_, rfl⟩
  rw [← gR]
  have HR := hid gR
  clear gR
  unfold fitsB rangeB at HR
  obtain ⟨k, s, lo, hi, d, o, va, vn, vc, vs, ta, tn, tc, ts, ea, en, ec, es, na, nn, nc⟩ := T
  dsimp only at *
  by_cases h10 : k = 10
  · subst h10
    replace HR : Hid (R = (decide (0 < tn) && ts.all fun t => decide (t.size ≤ 24))) := hid (by rw [HR.out]; rfl)
    go_enter Try.func28, Try.ntmps28
    go_wp2_with fail
    go_loop [91] (fun k => ∃ i : Nat, i ≤ tn ∧ k = .int .i64 i ∧ Hid ((ts.take i).all (fun t => decide (t.size ≤ 24)) = true)) (fun k => tn - (intOf k).toNat)
    case atStart => exact ⟨0, Nat.zero_le _, rfl, hid rfl⟩
    case round =>
      obtain ⟨i, hi', rfl, HA⟩ := hrel
      by_cases hlt : i < tn
      · have hil : i < ts.length := by rw [HN.out]; exact hlt
        obtain ⟨b, o', rfl, hbl, hcs⟩ := HE.out (by omega)
        have hci := hcs i hil
        have HT : Hid (ts.take (i + 1) = ts.take i ++ [ts.getD i .empty]) := hid (by rw [List.take_add_one, List.getD_eq_getElem?_getD, List.getElem?_eq_getElem hil]; rfl)
        have HM : Hid (ts.getD i .empty ∈ ts) := hid (by rw [List.getD_eq_getElem?_getD, List.getElem?_eq_getElem hil]; exact List.getElem_mem hil)
        generalize ts.getD i .empty = t at hci HT HM
        clear hcs hbl hil
        by_cases ht : 24 < t.size
        · have ht2 : (24 : Int) < (t.size : Int) := by omega
          go_wp2_with fail
          go_ret
          refine ⟨ret_bool ?_, below_box _ _⟩
          have : ts.all (fun t => decide (t.size ≤ 24)) = false := by
            rw [List.all_eq_false]
            exact ⟨t, HM.out, by simp; omega⟩
          rw [HR.out, this]
          simp
        · have ht2 : ¬ (24 : Int) < (t.size : Int) := by omega
          go_wp2_with fail
          go_round
          case rel => exact ⟨i + 1, by omega, by go_num, hid (by rw [HT.out, List.all_append, HA.out]; simp; omega)⟩
          case measure => simp [intOf]; omega
      · obtain rfl : i = tn := by omega
        have HF : Hid (ts.all (fun t => decide (t.size ≤ 24)) = true) := hid (by have := HA.out; rw [← HN.out, List.take_length] at this; exact this)
        go_wp2_with fail
        go_ret
        refine ⟨ret_bool ?_, below_box _ _⟩
        rw [HR.out, HF.out]
        simp
  · go_enter Try.func28, Try.ntmps28
    go_wp2_with (refine (k1.out _ _).mono ?_; rintro e w1 ⟨rfl, rfl⟩)
    all_goals
      go_ret
      refine ⟨ret_bool ?_, below_box _ _⟩
      rw [HR.out]
      clear HR k1 HE HN
      simp only [beq_iff_eq, beq_eq_false_iff_ne] at *
      rw [Bool.eq_iff_iff]
      first | (simp [*]; done) | (simp [*]; omega) | (simp_all; done) | (simp_all; omega)

end Go.Proofs.Ytkgejeamcgodhaa
