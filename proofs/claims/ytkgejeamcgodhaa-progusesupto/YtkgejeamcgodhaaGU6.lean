/- The document's Uses; a list that is sorted. (Written by gen_uses.py.) -/
import Derived.Test.YtkgejeamcgodhaaGU4
import Derived.Test.YtkgejeamcgodhaaGU5
namespace Go.Proofs.Ytkgejeamcgodhaa
open Go.RowKit
set_option linter.unusedVariables false
set_option maxRecDepth 20000

theorem ruses_out (a : Option Addr) (n c : Nat) (i : Int) (w : World) (h : i < 0 ∨ (n : Int) ≤ i) :
    Calls Try.prog 23 #[.slice a n c, .int .i64 i] w fun e w' => e = .returned (.slice none 0 0) ∧ w' = w := by
  by_cases h0 : i < 0
  · clear h
    go_enter Try.func23, Try.ntmps23
    go_wp2_with fail
    go_ret
    exact ⟨rfl, rfl⟩
  · have h1 : (n : Int) ≤ i := by omega
    clear h
    go_enter Try.func23, Try.ntmps23
    go_wp2_with fail
    go_ret
    exact ⟨rfl, rfl⟩

set_option maxHeartbeats 4000000 in
theorem ruses_any (a0 : Option Addr) (n0 c0 i0' : Nat) (d : Nat) (ra : Option Addr) (rn rc : Nat) (qs : List Ar) (w : World) (hi0' : i0' < n0) (hn0 : n0 ≤ 9223372036854775807) (h : StepAt d w a0 i0' ra rn rc qs) :
    Calls Try.prog 23 #[.slice a0 n0 c0, .int .i64 i0'] w fun e w' => ∃ a' n' c' r, e = .returned (.slice a' n' c') ∧ Ilst w' a' n' c' r ∧ Rises (refsL d qs) r ∧ Below w.heap.size w w' := by
  obtain ⟨i0, hi0, hz0, hz1, hz2⟩ := info_parts infoInt
  obtain ⟨b0, o0, rfl, hbl, hc, hK, hrn, hrc, hrb, hcn⟩ := h
  have k1 := hid (rrefs_any d ra rn rc qs w hK hrn hrc hrb hcn)
  have hlen := refsL_le d qs
  have hi1 : ¬ (i0' : Int) < 0 := by omega
  have hi2 : ¬ (n0 : Int) ≤ (i0' : Int) := by omega
  clear hK
  go_enter Try.func23, Try.ntmps23
  go_wp2_with fail
  refine k1.out.mono ?_
  rintro e w1 ⟨a, n, c, rfl, hI, hb1⟩
  have HL := hid hI
  have hlen2 := hI.size
  have HB1 := hid hb1
  clear k1 hI hb1 hc hbl
  generalize hLL : refsL d qs = L at *
  have HLL := hid hLL
  have hn : n * 8 ≤ 140737488355328 := by omega
  clear hLL
  go_wp2_with fail
  go_loopw [5, 27] (fun v k wr => ∃ (i : Nat) (a' : Option Addr) (n' c' : Nat) (out : List Int), i ≤ n ∧ k = .int .i64 i ∧ v = .slice a' n' c' ∧ Hid (Ilst wr a' n' c' out) ∧ Hid (Rises (L.take i) out) ∧ Hid (n' ≤ i) ∧ Hid (Below w1.heap.size w1 wr)) (fun _ k _ => n - (intOf k).toNat)
  case atStart => exact ⟨0, none, 0, 0, [], by omega, rfl, rfl, hid ⟨rfl, fun h => by omega, fun _ => rfl⟩, hid ⟨List.Pairwise.nil, fun x => by simp⟩, hid (Nat.le_refl _), hid (Below.refl _ _)⟩
  case round =>
    obtain ⟨i, a', n', c', out, hi, rfl, rfl, HO, HR, HN, HB⟩ := hrel
    by_cases hlt : i < n
    · obtain ⟨b, o, rfl, hbl, hc⟩ := (HL.out.below HB.out).cells (by omega)
      have hci := hc i hlt
      have HX := hid (take_more L i (by omega))
      generalize L.getD i 0 = x at hci HX
      clear hc hbl
      have hnn := HN.out
      go_wp2_with fail
      rename World => wo
      go_loopw [8, 9, 33] (fun vn pt k wr => ∃ j : Nat, j ≤ n' ∧ k = .int .i64 j ∧ pt = .bool (isPut x (out.take j)) ∧ Hid (wr.ownsRow wo.heap.size 3 1 vn (nextL x (out.take j)).length ((nextL x (out.take j)).map (Value.int .i64))) ∧ Hid (Below wo.heap.size wo wr)) (fun _ _ k _ => n' - (intOf k).toNat)
      case atStart => exact ⟨0, by omega, rfl, rfl, hid (World.ownsRow_nil _ _ _ _), hid (Below.refl _ _)⟩
      case round =>
        obtain ⟨j, hj, rfl, rfl, HW, HV⟩ := hrel
        have hol := HO.out.size
        have hnl := next_length x (out.take j)
        have htl : (out.take j).length = j := by rw [List.length_take]; omega
        by_cases hjn : j < n'
        · obtain ⟨b2, o2, rfl, hbl2, hc2⟩ := (HO.out.below HV.out).cells (by omega)
          have hcj := hc2 j hjn
          have HY := hid (take_more out j (by omega))
          have HP : Hid ((out.take j ++ [out.getD j 0]).Pairwise (· < ·)) := by rw [← HY.out]; exact hid (List.Pairwise.sublist (List.take_sublist _ _) HR.out.1)
          generalize out.getD j 0 = m at hcj HY HP
          clear hc2 hbl2
          have hvs := HV.out.size
          generalize hT : out.take j = T at *
          cases hput : isPut x T with
          | true =>
            have hm := put_gt hput HP.out
            have HE := hid (next_more hput hm)
            have HQ : Hid (isPut x (T ++ [m]) = true) := by rw [isPut_snoc, hput]; exact hid rfl
            have h1 : m ≠ x := by omega
            clear HP
            go_wp2_with (at_builtin; go_must (refine wpList_append_own _ rfl (.tmp 51) (.tmp 53) 44 rfl wo.heap.size 3 i0 _ 1 8 Try.underlying44 hi0 hz0 hz1 hz2 rfl (by decide) _ (nextL x T).length ((nextL x T).map (Value.int .i64)) rfl (HW.out.alloc _) ⟨_, 0, none⟩ 1 1 [.int .i64 m] rfl rfl (cell_one_new _ _ _) (by simp [Value.oneCell']) (by unfold maxLen; omega) (by omega) (by simp; omega) ?_))
            intro v' w3 hO3 hG3 hN3
            have HO3 : Hid (w3.ownsRow wo.heap.size 3 1 v' (nextL x (T ++ [m])).length ((nextL x (T ++ [m])).map (Value.int .i64))) := by rw [HE.out]; simpa using hid hO3
            have HB3 := hid (((HV.out.alloc HV.out.size _).grown hG3 (by simp; omega) (fun k hk => (HW.out.lt k hk).1)))
            clear hO3 hG3 hN3
            go_wp2_with fail
            go_roundw
            case rel => exact ⟨j + 1, by omega, by go_num, by rw [HY.out, HQ.out], by rw [HY.out]; exact HO3, HB3⟩
            case measure => simp [intOf]; omega
          | false =>
            rcases (show m < x ∨ m = x ∨ x < m by omega) with hm | hm | hm
            · have HE := hid (next_lt hput hm)
              have HQ : Hid (isPut x (T ++ [m]) = false) := by rw [isPut_snoc, hput]; exact hid (by simp; omega)
              have h1 : m ≠ x := by omega
              have h2 : ¬ x ≤ m := by omega
              clear HP
              go_wp2_with (at_builtin; go_must (refine wpList_append_own _ rfl (.tmp 51) (.tmp 53) 44 rfl wo.heap.size 3 i0 _ 1 8 Try.underlying44 hi0 hz0 hz1 hz2 rfl (by decide) _ (nextL x T).length ((nextL x T).map (Value.int .i64)) rfl (HW.out.alloc _) ⟨_, 0, none⟩ 1 1 [.int .i64 m] rfl rfl (cell_one_new _ _ _) (by simp [Value.oneCell']) (by unfold maxLen; omega) (by omega) (by simp; omega) ?_))
              intro v' w3 hO3 hG3 hN3
              have HO3 : Hid (w3.ownsRow wo.heap.size 3 1 v' (nextL x (T ++ [m])).length ((nextL x (T ++ [m])).map (Value.int .i64))) := by rw [HE.out]; simpa using hid hO3
              have HB3 := hid (((HV.out.alloc HV.out.size _).grown hG3 (by simp; omega) (fun k hk => (HW.out.lt k hk).1)))
              clear hO3 hG3 hN3
              go_wp2_with fail
              go_roundw
              case rel => exact ⟨j + 1, by omega, by go_num, by rw [HY.out, HQ.out], by rw [HY.out]; exact HO3, HB3⟩
              case measure => simp [intOf]; omega
            · subst hm
              have HE := hid (next_eq hput)
              have HQ : Hid (isPut m (T ++ [m]) = true) := by rw [isPut_snoc, hput]; exact hid (by simp)
              clear HP
              go_wp2_with (at_builtin; go_must (refine wpList_append_own _ rfl (.tmp 44) (.tmp 46) 44 rfl wo.heap.size 3 i0 _ 1 8 Try.underlying44 hi0 hz0 hz1 hz2 rfl (by decide) _ (nextL m T).length ((nextL m T).map (Value.int .i64)) rfl (HW.out.alloc _) ⟨_, 0, none⟩ 1 1 [.int .i64 m] rfl rfl (cell_one_new _ _ _) (by simp [Value.oneCell']) (by unfold maxLen; omega) (by omega) (by simp; omega) ?_))
              intro v' w3 hO3 hG3 hN3
              have HO3 : Hid (w3.ownsRow wo.heap.size 3 1 v' (nextL m (T ++ [m])).length ((nextL m (T ++ [m])).map (Value.int .i64))) := by rw [HE.out]; simpa using hid hO3
              have HB3 := hid (((HV.out.alloc HV.out.size _).grown hG3 (by simp; omega) (fun k hk => (HW.out.lt k hk).1)))
              clear hO3 hG3 hN3
              go_wp2_with fail
              go_roundw
              case rel => exact ⟨j + 1, by omega, by go_num, by rw [HY.out, HQ.out], by rw [HY.out]; exact HO3, HB3⟩
              case measure => simp [intOf]; omega
            · have HE := hid (next_gt hput hm)
              have HQ : Hid (isPut x (T ++ [m]) = true) := by rw [isPut_snoc, hput]; exact hid (by simp; omega)
              have h1 : m ≠ x := by omega
              have h2 : x ≤ m := by omega
              have hnl2 := next_length_no hput
              clear HP
              go_wp2_with (at_builtin; go_must (refine wpList_append_own _ rfl (.tmp 44) (.tmp 46) 44 rfl wo.heap.size 3 i0 _ 1 8 Try.underlying44 hi0 hz0 hz1 hz2 rfl (by decide) _ (nextL x T).length ((nextL x T).map (Value.int .i64)) rfl (HW.out.alloc _) ⟨_, 0, none⟩ 1 1 [.int .i64 x] rfl rfl (cell_one_new _ _ _) (by simp [Value.oneCell']) (by unfold maxLen; omega) (by omega) (by simp; omega) ?_))
              intro v' w3 hO3 hG3 hN3
              have HO3 : Hid (w3.ownsRow wo.heap.size 3 1 v' (nextL x T ++ [x]).length ((nextL x T ++ [x]).map (Value.int .i64))) := by simpa using hid hO3
              have hb3 : Below wo.heap.size wo w3 := (((HV.out.alloc HV.out.size _).grown hG3 (by simp; omega) (fun k hk => (HW.out.lt k hk).1)))
              have HB3 := hid hb3
              have hs3 := hb3.size
              have hl3 : (nextL x T ++ [x]).length = (nextL x T).length + 1 := by simp
              clear hO3 hG3 hN3 hb3
              go_wp2_with (at_builtin; go_must (refine wpList_append_own _ rfl (.tmp 51) (.tmp 53) 44 rfl wo.heap.size 3 i0 _ 1 8 Try.underlying44 hi0 hz0 hz1 hz2 rfl (by decide) _ (nextL x T ++ [x]).length ((nextL x T ++ [x]).map (Value.int .i64)) rfl (HO3.out.alloc _) ⟨_, 0, none⟩ 1 1 [.int .i64 m] rfl rfl (cell_one_new _ _ _) (by simp [Value.oneCell']) (by unfold maxLen; omega) (by omega) (by simp; omega) ?_))
              intro v2 w4 hO4 hG4 hN4
              have HO4 : Hid (w4.ownsRow wo.heap.size 3 1 v2 (nextL x (T ++ [m])).length ((nextL x (T ++ [m])).map (Value.int .i64))) := by rw [HE.out]; simpa using hid hO4
              have HB4 := hid (((HB3.out.alloc HB3.out.size _).grown hG4 (by simp; omega) (fun k hk => (HO3.out.lt k hk).1)))
              clear hO4 hG4 hN4
              go_wp2_with fail
              go_roundw
              case rel => exact ⟨j + 1, by omega, by go_num, by rw [HY.out, HQ.out], by rw [HY.out]; exact HO4, HB4⟩
              case measure => simp [intOf]; omega
        · obtain rfl : j = n' := by omega
          have hT : out.take j = out := List.take_of_length_le (by omega)
          simp only [hT] at HW hnl ⊢
          have HPI := hid (HR.out.putIn x)
          have HPL := hid (putIn_length x out)
          have hvs := HV.out.size
          have HB3 := hid (HB.out.trans (HV.out.mono HB.out.size))
          cases hput : isPut x out with
          | true =>
            have HQ : Hid (nextL x out = putIn x out) := hid (putIn_yes hput)
            obtain ⟨a3, c3, rfl, hc3, hI⟩ := own_lst HW.out
            rw [HQ.out] at hI
            have HI := hid hI
            clear hI hput
            go_wp2_with fail
            go_roundw
            case rel => exact ⟨i + 1, a3, _, c3, putIn x out, by omega, by go_num, rfl, by rw [HQ.out]; exact HI, by rw [HX.out]; exact HPI, hid (by rw [HQ.out]; have := HPL.out; omega), HB3⟩
            case measure => simp [intOf]; omega
          | false =>
            have HQ : Hid (nextL x out ++ [x] = putIn x out) := hid (putIn_no hput)
            have hnl2 := next_length_no hput
            go_wp2_with (at_builtin; go_must (refine wpList_append_own _ rfl (.tmp 58) (.tmp 60) 44 rfl wo.heap.size 3 i0 _ 1 8 Try.underlying44 hi0 hz0 hz1 hz2 rfl (by decide) _ (nextL x out).length ((nextL x out).map (Value.int .i64)) rfl (HW.out.alloc _) ⟨_, 0, none⟩ 1 1 [.int .i64 x] rfl rfl (cell_one_new _ _ _) (by simp [Value.oneCell']) (by unfold maxLen; omega) (by omega) (by simp; omega) ?_))
            intro v' w3 hO3 hG3 hN3
            have hO4 : w3.ownsRow wo.heap.size 3 1 v' (putIn x out).length ((putIn x out).map (Value.int .i64)) := by rw [← HQ.out]; simpa using hO3
            obtain ⟨a3, c3, rfl, hc3, hI⟩ := own_lst hO4
            have HI := hid hI
            have HB4 := hid (HB.out.trans ((((HV.out.alloc HV.out.size _).grown hG3 (by simp; omega) (fun k hk => (HW.out.lt k hk).1))).mono HB.out.size))
            clear hI hO4 hO3 hG3 hN3
            go_wp2_with fail
            go_roundw
            case rel => exact ⟨i + 1, a3, _, c3, putIn x out, by omega, by go_num, rfl, HI, by rw [HX.out]; exact HPI, hid (by have := HPL.out; omega), HB4⟩
            case measure => simp [intOf]; omega
    · obtain rfl : i = n := by omega
      have hT : L.take i = L := List.take_of_length_le (by omega)
      have HR' := HR.out
      rw [hT] at HR'
      have HRR := hid HR'
      clear HR'
      go_wp2_with fail
      go_ret
      exact ⟨_, _, _, out, rfl, HO.out, by rw [HLL.out]; exact HRR.out, HB1.out.trans (HB.out.mono HB1.out.size)⟩

/-- A list that rises is sorted. -/
theorem sorted_yes (a : Option Addr) (n c : Nat) (xs : List Int) (w : World) (h : Ilst w a n c xs) (hs : xs.Pairwise (· < ·)) (hn : n ≤ 9223372036854775807) :
    Calls Try.prog 24 #[.slice a n c] w fun e w' => e = .returned (.bool true) ∧ Below w.heap.size w w' := by
  have HL := hid h
  have hlen := h.size
  have HS := hid hs
  clear h hs
  go_enter Try.func24, Try.ntmps24
  go_wp2_with fail
  go_loopw [3] (fun k wr => ∃ j : Int, -1 ≤ j ∧ j < (n : Int) ∧ k = .int .i64 j ∧ Hid (Below w.heap.size w wr)) (fun k _ => (intOf k + 1).toNat)
  case atStart => exact ⟨(n : Int) - 1, by omega, by omega, by first | rfl | go_num, hid (Below.refl _ _)⟩
  case round =>
    obtain ⟨j, hj1, hj2, rfl, HB⟩ := hrel
    by_cases hj : 0 < j
    · obtain ⟨t, rfl⟩ : ∃ t : Nat, j = ((t + 1 : Nat) : Int) := ⟨(j - 1).toNat, by omega⟩
      have htn : t + 1 < n := by omega
      obtain ⟨b, o, rfl, hbl, hcs⟩ := (HL.out.below HB.out).cells (by omega)
      have q1 := hcs (t + 1) htn
      have q0 := hcs t (by omega)
      have hlt : ¬ xs.getD (t + 1) 0 < xs.getD t 0 := by
        have := (List.pairwise_iff_getElem.1 HS.out) t (t + 1) (by omega) (by omega) (by omega)
        rw [List.getD_eq_getElem?_getD, List.getD_eq_getElem?_getD, List.getElem?_eq_getElem (by omega), List.getElem?_eq_getElem (by omega)]
        simp only [Option.getD_some]
        omega
      have kl := hid (fun wx => Try.cmp_Less_int2 (xs.getD (t + 1) 0) (xs.getD t 0) wx)
      have hd : decide (xs.getD (t + 1) 0 < xs.getD t 0) = false := by simp only [decide_eq_false_iff_not]; exact hlt
      rw [hd] at kl
      generalize xs.getD (t + 1) 0 = x1 at *
      generalize xs.getD t 0 = x0 at *
      have ht1 : ((t + 1 : Nat) : Int) - 1 = (t : Int) := by omega
      have htn2 : t < n := by omega
      have hz1 : (0 : Int) ≤ (t : Int) + 1 := by omega
      have hz2 : (t : Int) + 1 < (n : Int) := by omega
      have hz3 : (0 : Int) ≤ (t : Int) := by omega
      have hz4 : (t : Int) < (n : Int) := by omega
      have hz5 : ((t : Int) + 1).toNat = t + 1 := by omega
      have hz6 : ¬ (t : Int) + 1 < 0 := by omega
      have hz7 : ¬ (n : Int) ≤ (t : Int) + 1 := by omega
      have hz8 : ¬ (n : Int) ≤ (t : Int) := by omega
      have hz9 : ¬ (t : Int) < 0 := by omega
      have hz10 : ¬ n ≤ t := by omega
      have hw1 : IntKind.i64.wrap ((t : Int) + 1 - 1) = (t : Int) := by rw [IntKind.wrap_i64]; omega
      have hw2 : IntKind.i64.wrap (t : Int) = (t : Int) := by rw [IntKind.wrap_i64]; omega
      clear hcs hd hlt
      go_wp2_with fail
      go_region_held3 (fun wx => wx.cell? ⟨b, o + (t + 1), none⟩ = some (.int .i64 x1) ∧ wx.cell? ⟨b, o + t, none⟩ = some (.int .i64 x0)) (go_keep) (first
        | (go_at_call 55; refine (kl.out _).mono ?_; rintro e w3 ⟨rfl, rfl⟩))
      go_wp2_with fail
      go_roundw
      case rel => exact ⟨(t : Int), by omega, by omega, by go_num, hid (below_hp HB.out (by rfl) (by rfl) (by rfl) (by rfl))⟩
      case measure => simp [intOf]; omega
    · have hj0 : ¬ 0 < j := hj
      go_wp2_with fail
      go_ret
      exact ⟨rfl, HB.out⟩

end Go.Proofs.Ytkgejeamcgodhaa
