/- What the document's rising does: a list's numbers, rising, each once. (Written by gen_crise.py.) -/
import Derived.Test.YtbeicpfjehbbpaaCPure
import Derived.Test.YtbeicpfjehbbpaaChecked
import Derived.Test.YtbeicpfjehbbpaaLaw
import Derived.Laws.AppendOwn
import Derived.Laws.AppendOwnNone
import Derived.WalkSpells
import Derived.Deep.RegionHeld3
namespace Go.Proofs.Ytbeicpfjehbbpaa
open Go.RowKit
set_option linter.unusedVariables false

/-- Numbers that lie somewhere in memory. -/
structure Ilst (w : World) (a : Option Addr) (n c : Nat) (xs : List Int) : Prop where
  size : xs.length = n
  cells : 0 < n → ∃ b o, a = some ⟨b, o, none⟩ ∧ b < w.heap.size ∧ ∀ j, j < n → w.cell? ⟨b, o + j, none⟩ = some (.int .i64 (xs.getD j 0))
  nil : a = none → c = 0

theorem Ilst.below {w w' : World} {a : Option Addr} {n c : Nat} {xs : List Int} (h : Ilst w a n c xs) (u : Below w.heap.size w w') : Ilst w' a n c xs :=
  ⟨h.size, fun hl => by
    obtain ⟨b, o, e, hlt, hc⟩ := h.cells hl
    exact ⟨b, o, e, Nat.lt_of_lt_of_le hlt u.size, fun j hj => (u.cell (p := ⟨b, o + j, none⟩) hlt).trans (hc j hj)⟩, h.nil⟩

theorem own_lst {w : World} {B : Nat} {v : Value} {xs : List Int} (h : w.ownsRow B 3 1 v xs.length (xs.map (Value.int .i64))) : ∃ a c, v = .slice a xs.length c ∧ xs.length ≤ c ∧ Ilst w a xs.length c xs := by
  have h0 := h
  rcases h.2 with ⟨rfl, hn⟩ | ⟨g, c, cur, rfl, _, _, h1, h2, _⟩
  · rw [hn]
    exact ⟨none, 0, rfl, Nat.le_refl _, hn, fun h => by omega, fun _ => rfl⟩
  · refine ⟨_, c, rfl, h1, rfl, fun hl => ⟨g, 0, rfl, (h0.lt g rfl).2, fun j hj => ?_⟩, fun h => by cases h⟩
    rw [Nat.zero_add, h0.cellAt j (by simpa using hj), List.getElem?_map, List.getElem?_eq_getElem hj, List.getD_eq_getElem?_getD, List.getElem?_eq_getElem hj]
    rfl

theorem take_more (l : List Int) (j : Nat) (h : j < l.length) : l.take (j + 1) = l.take j ++ [l.getD j 0] := by
  rw [List.take_add_one, List.getD_eq_getElem?_getD, List.getElem?_eq_getElem h]; rfl

theorem infoInt : (Try.prog.info? 3).map (fun i => (i.zero, i.size, i.bytes)) = some (some (.int .i64 0), 1, 8) := by kernel_rfl

set_option maxHeartbeats 4000000 in
set_option maxRecDepth 20000 in
theorem rrise (a : Option Addr) (n c : Nat) (l : List Int) (w : World) (h : Ilst w a n c l) (hn : n * 8 ≤ 140737488355328) :
    Calls Try.prog 15 #[.slice a n c] w fun e w' => ∃ a' n' c' r, e = .returned (.slice a' n' c') ∧ Ilst w' a' n' c' r ∧ Rises l r ∧ r.length ≤ l.length ∧ Below w.heap.size w w' := by
  obtain ⟨i0, hi0, hz0, hz1, hz2⟩ := info_parts infoInt
  have HL := hid h
  have hlen := h.size
  clear h
  go_enter Try.func15, Try.ntmps15
  go_wp2_with fail
  go_loopw [3, 12] (fun v k wr => ∃ (i : Nat) (a' : Option Addr) (n' c' : Nat) (out : List Int), i ≤ n ∧ k = .int .i64 i ∧ v = .slice a' n' c' ∧ Hid (Ilst wr a' n' c' out) ∧ Hid (Rises (l.take i) out) ∧ Hid (n' ≤ i) ∧ Hid (Below w.heap.size w wr)) (fun _ k _ => n - (intOf k).toNat)
  case atStart => exact ⟨0, none, 0, 0, [], by omega, rfl, rfl, hid ⟨rfl, fun h => by omega, fun _ => rfl⟩, hid ⟨List.Pairwise.nil, fun x => by simp⟩, hid (Nat.le_refl _), hid (Below.refl _ _)⟩
  case round =>
    obtain ⟨i, a', n', c', out, hi, rfl, rfl, HO, HR, HN, HB⟩ := hrel
    by_cases hlt : i < n
    · obtain ⟨b, o, rfl, hbl, hc⟩ := (HL.out.below HB.out).cells (by omega)
      have hci := hc i hlt
      have HX := hid (take_more l i (by omega))
      generalize l.getD i 0 = x at hci HX
      clear hc hbl
      have hnn := HN.out
      go_wp2_with fail
      rename World => wo
      go_loopw [6, 7, 18] (fun vn pt k wr => ∃ j : Nat, j ≤ n' ∧ k = .int .i64 j ∧ pt = .bool (isPut x (out.take j)) ∧ Hid (wr.ownsRow wo.heap.size 3 1 vn (nextL x (out.take j)).length ((nextL x (out.take j)).map (Value.int .i64))) ∧ Hid (Below wo.heap.size wo wr)) (fun _ _ k _ => n' - (intOf k).toNat)
      case atStart => exact ⟨0, by omega, rfl, rfl, hid (World.ownsRow_nil _ _ _ _), hid (Below.refl _ _)⟩
      case round =>
        obtain ⟨j, hj, rfl, rfl, HW, HV⟩ := hrel
        have hol := HO.out.size
        have hnl := next_length x (out.take j)
        have htl : (out.take j).length = j := by rw [List.length_take]; omega
        by_cases hjn : j < n'
        · obtain ⟨b2, o2, rfl, hbl2, hc2⟩ := (HO.out.below HV.out).cells (by omega)
          have hcj := hc2 j hjn
          have HY := hid (take_more out j (by omega))
          have HP : Hid ((out.take j ++ [out.getD j 0]).Pairwise (· < ·)) := by rw [← HY.out]; exact hid (List.Pairwise.sublist (List.take_sublist _ _) HR.out.1)
          generalize out.getD j 0 = m at hcj HY HP
          clear hc2 hbl2
          have hvs := HV.out.size
          generalize hT : out.take j = T at *
          cases hput : isPut x T with
          | true =>
            have hm := put_gt hput HP.out
            have HE := hid (next_more hput hm)
            have HQ : Hid (isPut x (T ++ [m]) = true) := by rw [isPut_snoc, hput]; exact hid rfl
            have h1 : m ≠ x := by omega
            clear HP
            go_wp2_with (at_builtin; go_must (refine wpList_append_own _ rfl (.tmp 36) (.tmp 38) 22 rfl wo.heap.size 3 i0 _ 1 8 Try.underlying22 hi0 hz0 hz1 hz2 rfl (by decide) _ (nextL x T).length ((nextL x T).map (Value.int .i64)) rfl (HW.out.alloc _) ⟨_, 0, none⟩ 1 1 [.int .i64 m] rfl rfl (cell_one_new _ _ _) (by simp [Value.oneCell']) (by unfold maxLen; omega) (by omega) (by simp; omega) ?_))
            intro v' w3 hO3 hG3 hN3
            have HO3 : Hid (w3.ownsRow wo.heap.size 3 1 v' (nextL x (T ++ [m])).length ((nextL x (T ++ [m])).map (Value.int .i64))) := by rw [HE.out]; simpa using hid hO3
            have HB3 := hid (((HV.out.alloc HV.out.size _).grown hG3 (by simp; omega) (fun k hk => (HW.out.lt k hk).1)))
            clear hO3 hG3 hN3
            go_wp2_with fail
            go_roundw
            case rel => exact ⟨j + 1, by omega, by go_num, by rw [HY.out, HQ.out], by rw [HY.out]; exact HO3, HB3⟩
            case measure => simp [intOf]; omega
          | false =>
            rcases (show m < x ∨ m = x ∨ x < m by omega) with hm | hm | hm
            · have HE := hid (next_lt hput hm)
              have HQ : Hid (isPut x (T ++ [m]) = false) := by rw [isPut_snoc, hput]; exact hid (by simp; omega)
              have h1 : m ≠ x := by omega
              have h2 : ¬ x ≤ m := by omega
              clear HP
              go_wp2_with (at_builtin; go_must (refine wpList_append_own _ rfl (.tmp 36) (.tmp 38) 22 rfl wo.heap.size 3 i0 _ 1 8 Try.underlying22 hi0 hz0 hz1 hz2 rfl (by decide) _ (nextL x T).length ((nextL x T).map (Value.int .i64)) rfl (HW.out.alloc _) ⟨_, 0, none⟩ 1 1 [.int .i64 m] rfl rfl (cell_one_new _ _ _) (by simp [Value.oneCell']) (by unfold maxLen; omega) (by omega) (by simp; omega) ?_))
              intro v' w3 hO3 hG3 hN3
              have HO3 : Hid (w3.ownsRow wo.heap.size 3 1 v' (nextL x (T ++ [m])).length ((nextL x (T ++ [m])).map (Value.int .i64))) := by rw [HE.out]; simpa using hid hO3
              have HB3 := hid (((HV.out.alloc HV.out.size _).grown hG3 (by simp; omega) (fun k hk => (HW.out.lt k hk).1)))
              clear hO3 hG3 hN3
              go_wp2_with fail
              go_roundw
              case rel => exact ⟨j + 1, by omega, by go_num, by rw [HY.out, HQ.out], by rw [HY.out]; exact HO3, HB3⟩
              case measure => simp [intOf]; omega
            · subst hm
              have HE := hid (next_eq hput)
              have HQ : Hid (isPut m (T ++ [m]) = true) := by rw [isPut_snoc, hput]; exact hid (by simp)
              clear HP
              go_wp2_with (at_builtin; go_must (refine wpList_append_own _ rfl (.tmp 29) (.tmp 31) 22 rfl wo.heap.size 3 i0 _ 1 8 Try.underlying22 hi0 hz0 hz1 hz2 rfl (by decide) _ (nextL m T).length ((nextL m T).map (Value.int .i64)) rfl (HW.out.alloc _) ⟨_, 0, none⟩ 1 1 [.int .i64 m] rfl rfl (cell_one_new _ _ _) (by simp [Value.oneCell']) (by unfold maxLen; omega) (by omega) (by simp; omega) ?_))
              intro v' w3 hO3 hG3 hN3
              have HO3 : Hid (w3.ownsRow wo.heap.size 3 1 v' (nextL m (T ++ [m])).length ((nextL m (T ++ [m])).map (Value.int .i64))) := by rw [HE.out]; simpa using hid hO3
              have HB3 := hid (((HV.out.alloc HV.out.size _).grown hG3 (by simp; omega) (fun k hk => (HW.out.lt k hk).1)))
              clear hO3 hG3 hN3
              go_wp2_with fail
              go_roundw
              case rel => exact ⟨j + 1, by omega, by go_num, by rw [HY.out, HQ.out], by rw [HY.out]; exact HO3, HB3⟩
              case measure => simp [intOf]; omega
            · have HE := hid (next_gt hput hm)
              have HQ : Hid (isPut x (T ++ [m]) = true) := by rw [isPut_snoc, hput]; exact hid (by simp; omega)
              have h1 : m ≠ x := by omega
              have h2 : x ≤ m := by omega
              have hnl2 := next_length_no hput
              clear HP
              go_wp2_with (at_builtin; go_must (refine wpList_append_own _ rfl (.tmp 29) (.tmp 31) 22 rfl wo.heap.size 3 i0 _ 1 8 Try.underlying22 hi0 hz0 hz1 hz2 rfl (by decide) _ (nextL x T).length ((nextL x T).map (Value.int .i64)) rfl (HW.out.alloc _) ⟨_, 0, none⟩ 1 1 [.int .i64 x] rfl rfl (cell_one_new _ _ _) (by simp [Value.oneCell']) (by unfold maxLen; omega) (by omega) (by simp; omega) ?_))
              intro v' w3 hO3 hG3 hN3
              have HO3 : Hid (w3.ownsRow wo.heap.size 3 1 v' (nextL x T ++ [x]).length ((nextL x T ++ [x]).map (Value.int .i64))) := by simpa using hid hO3
              have hb3 : Below wo.heap.size wo w3 := (((HV.out.alloc HV.out.size _).grown hG3 (by simp; omega) (fun k hk => (HW.out.lt k hk).1)))
              have HB3 := hid hb3
              have hs3 := hb3.size
              have hl3 : (nextL x T ++ [x]).length = (nextL x T).length + 1 := by simp
              clear hO3 hG3 hN3 hb3
              go_wp2_with (at_builtin; go_must (refine wpList_append_own _ rfl (.tmp 36) (.tmp 38) 22 rfl wo.heap.size 3 i0 _ 1 8 Try.underlying22 hi0 hz0 hz1 hz2 rfl (by decide) _ (nextL x T ++ [x]).length ((nextL x T ++ [x]).map (Value.int .i64)) rfl (HO3.out.alloc _) ⟨_, 0, none⟩ 1 1 [.int .i64 m] rfl rfl (cell_one_new _ _ _) (by simp [Value.oneCell']) (by unfold maxLen; omega) (by omega) (by simp; omega) ?_))
              intro v2 w4 hO4 hG4 hN4
              have HO4 : Hid (w4.ownsRow wo.heap.size 3 1 v2 (nextL x (T ++ [m])).length ((nextL x (T ++ [m])).map (Value.int .i64))) := by rw [HE.out]; simpa using hid hO4
              have HB4 := hid (((HB3.out.alloc HB3.out.size _).grown hG4 (by simp; omega) (fun k hk => (HO3.out.lt k hk).1)))
              clear hO4 hG4 hN4
              go_wp2_with fail
              go_roundw
              case rel => exact ⟨j + 1, by omega, by go_num, by rw [HY.out, HQ.out], by rw [HY.out]; exact HO4, HB4⟩
              case measure => simp [intOf]; omega
        · obtain rfl : j = n' := by omega
          have hT : out.take j = out := List.take_of_length_le (by omega)
          simp only [hT] at HW hnl ⊢
          have HPI := hid (HR.out.putIn x)
          have HPL := hid (putIn_length x out)
          have hvs := HV.out.size
          have HB3 := hid (HB.out.trans (HV.out.mono HB.out.size))
          cases hput : isPut x out with
          | true =>
            have HQ : Hid (nextL x out = putIn x out) := hid (putIn_yes hput)
            obtain ⟨a3, c3, rfl, hc3, hI⟩ := own_lst HW.out
            rw [HQ.out] at hI
            have HI := hid hI
            clear hI hput
            go_wp2_with fail
            go_roundw
            case rel => exact ⟨i + 1, a3, _, c3, putIn x out, by omega, by go_num, rfl, by rw [HQ.out]; exact HI, by rw [HX.out]; exact HPI, hid (by rw [HQ.out]; have := HPL.out; omega), HB3⟩
            case measure => simp [intOf]; omega
          | false =>
            have HQ : Hid (nextL x out ++ [x] = putIn x out) := hid (putIn_no hput)
            have hnl2 := next_length_no hput
            go_wp2_with (at_builtin; go_must (refine wpList_append_own _ rfl (.tmp 43) (.tmp 45) 22 rfl wo.heap.size 3 i0 _ 1 8 Try.underlying22 hi0 hz0 hz1 hz2 rfl (by decide) _ (nextL x out).length ((nextL x out).map (Value.int .i64)) rfl (HW.out.alloc _) ⟨_, 0, none⟩ 1 1 [.int .i64 x] rfl rfl (cell_one_new _ _ _) (by simp [Value.oneCell']) (by unfold maxLen; omega) (by omega) (by simp; omega) ?_))
            intro v' w3 hO3 hG3 hN3
            have hO4 : w3.ownsRow wo.heap.size 3 1 v' (putIn x out).length ((putIn x out).map (Value.int .i64)) := by rw [← HQ.out]; simpa using hO3
            obtain ⟨a3, c3, rfl, hc3, hI⟩ := own_lst hO4
            have HI := hid hI
            have HB4 := hid (HB.out.trans ((((HV.out.alloc HV.out.size _).grown hG3 (by simp; omega) (fun k hk => (HW.out.lt k hk).1))).mono HB.out.size))
            clear hI hO4 hO3 hG3 hN3
            go_wp2_with fail
            go_roundw
            case rel => exact ⟨i + 1, a3, _, c3, putIn x out, by omega, by go_num, rfl, HI, by rw [HX.out]; exact HPI, hid (by have := HPL.out; omega), HB4⟩
            case measure => simp [intOf]; omega
    · obtain rfl : i = n := by omega
      go_wp2_with fail
      go_ret
      have hT : l.take i = l := List.take_of_length_le (by omega)
      have HR' := HR.out
      rw [hT] at HR'
      exact ⟨_, _, _, out, rfl, HO.out, HR', by have := HO.out.size; have := HN.out; omega, HB.out⟩

end Go.Proofs.Ytbeicpfjehbbpaa
