/- What strings.Cut does at a nought: the bytes ahead of the first nought of a text, all of it if there is none. -/
import Derived.Test.YtnmgapnblmikeaaMPath
import Derived.Deep.RegionHeld3
namespace Go.Proofs.Ytnmgapnblmikeaa
open Go.RowKit Lend
set_option linter.unusedVariables false

/-- The bytes of a text, as numbers. -/
def numsOf (s : ByteArray) : List Int := s.data.toList.map fun b => (b.toNat : Int)
theorem length_numsOf (s : ByteArray) : (numsOf s).length = s.size := by simp [numsOf]
theorem numsOf_bytes (s : ByteArray) : Bytes (numsOf s) := by
  intro z hz
  obtain ⟨b, _, rfl⟩ := List.mem_map.1 hz
  have := b.toNat_lt
  omega
theorem bytesOf_numsOf (s : ByteArray) : Lib.bytesOf (numsOf s) = s.data.toList := by
  unfold Lib.bytesOf numsOf
  rw [List.map_map]
  conv => rhs; rw [← List.map_id s.data.toList]
  apply List.map_congr_left
  intro b _
  simp
theorem strOfNums_numsOf (s : ByteArray) : strOfNums (numsOf s) = s := by
  apply ByteArray.ext
  apply Array.toList_inj.1
  rw [strOfNums_data]
  exact bytesOf_numsOf s
theorem numsOf_strOfNums {zs : List Int} (h : Bytes zs) : numsOf (strOfNums zs) = zs := by
  unfold numsOf
  rw [strOfNums_data, List.map_map]
  conv => rhs; rw [← List.map_id zs]
  apply List.map_congr_left
  intro z hz
  have := h z hz
  simp
  omega
/-- What stands ahead of the first nought. -/
def pre (s : ByteArray) : ByteArray := if ahead (numsOf s) < s.size then s.extract 0 (ahead (numsOf s)) else s
theorem numsOf_pre (s : ByteArray) : numsOf (pre s) = (numsOf s).take (ahead (numsOf s)) := by
  unfold pre
  split
  · simp [numsOf, ByteArray.data_extract, List.map_take]
  · have := ahead_le (numsOf s)
    rw [List.take_of_length_le (by rw [length_numsOf] at *; omega)]

theorem index_nought (s : ByteArray) : Lib.indexByte s.data.toList 0 = if ahead (numsOf s) < s.size then (ahead (numsOf s) : Int) else -1 := by
  rw [← bytesOf_numsOf s, index_ahead (numsOf_bytes s), length_numsOf]

set_option maxHeartbeats 1000000 in
theorem slibyte_any (s : ByteArray) (w : World) :
    Calls Try.prog 36 #[.string s, .int .u8 0] w fun e w' => e = .returned (.int .i64 (Lib.indexByte s.data.toList 0)) ∧ w' = w := by
  have hrun := Lib.run_indexByteString (P := Try.prog) s 0 w
  rw [show ((0 : Int).toNat.toUInt8) = 0 by rfl] at hrun
  obtain ⟨X, gX⟩ : ∃ X : Int, X = Lib.indexByte s.data.toList 0 := ⟨_, rfl⟩
  rw [← gX] at hrun ⊢
  clear gX
  go_enter Try.func36, Try.ntmps36
  go_wp2
  rw [run_callFunc_extern Try.func40 (by kernel_rfl) (by kernel_rfl) (by kernel_rfl) (e := Extern.BytealgIndexByte.indexByte) (by kernel_rfl), hrun]
  simp only [Result.andThen]
  rw [Oper.upon_value]
  go_wp2
  go_ret
  exact ⟨rfl, rfl⟩

set_option maxHeartbeats 2000000 in
set_option maxRecDepth 20000 in
theorem slindex_any (s : ByteArray) (w : World) :
    Calls Try.prog 35 #[.string s, .string ⟨#[0]⟩] w fun e w' => e = .returned (.int .i64 (Lib.indexByte s.data.toList 0)) ∧ w' = w := by
  go_enter Try.func35, Try.ntmps35
  go_wp2_with (go_at_call 36; refine (slibyte_any _ _).mono ?_; rintro e w' ⟨rfl, rfl⟩)
  · have h : ([0] == s.toList) = true := by assumption
    go_ret
    refine ⟨?_, rfl⟩
    have e : s.data.toList = [0] := by rw [← Lib.toList_data]; exact (beq_iff_eq.1 h).symm
    rw [e]
    simp [Lib.indexByte]
  · go_ret
    exact ⟨rfl, rfl⟩

theorem pre_no {s : ByteArray} (h : ¬ ahead (numsOf s) < s.size) : pre s = s := if_neg h
theorem pre_yes {s : ByteArray} (h : ahead (numsOf s) < s.size) : pre s = s.extract 0 (ahead (numsOf s)) := if_pos h

set_option maxHeartbeats 2000000 in
theorem lcut_any (s : ByteArray) (w : World) (hs : s.size ≤ 140737488355328) :
    Calls Try.prog 33 #[.string s, .string ⟨#[0]⟩] w fun e w' => ∃ v2 v3, e = .returned (.tuple #[.string (pre s), v2, v3]) ∧ ∃ n, w' = w.drewN n := by
  have k := hid (slindex_any s w)
  rw [index_nought] at k
  by_cases h : ahead (numsOf s) < s.size
  · rw [pre_yes h]
    rw [if_pos h] at k
    obtain ⟨m, gm⟩ : ∃ m, m = ahead (numsOf s) := ⟨_, rfl⟩
    rw [← gm] at k h ⊢
    clear gm
    have c1 : (0 : Int) ≤ (m : Int) := by omega
    have c2 : (m : Int) ≤ (s.size : Int) := by omega
    have c3 : (0 : Int) ≤ (m : Int) + 1 := by omega
    have c4 : (m : Int) + 1 ≤ (s.size : Int) := by omega
    have c5 : IntKind.i64.wrap ((m : Int) + 1) = (m : Int) + 1 := by rw [IntKind.wrap_i64]; omega
    have c6 : wrap64 ((m : Int) + 1) = (m : Int) + 1 := by unfold wrap64; omega
    go_enter Try.func33, Try.ntmps33
    go_wp2_with fail
    refine k.out.mono ?_
    rintro e w1 ⟨rfl, rfl⟩
    go_wp2_with fail
    go_region_held3 (fun _ => True) (trivial) (fail)
    go_wp2
    go_ret3
    exact ⟨_, _, rfl, 1, rfl⟩
  · rw [pre_no h]
    rw [if_neg h] at k
    go_enter Try.func33, Try.ntmps33
    go_wp2_with fail
    refine k.out.mono ?_
    rintro e w1 ⟨rfl, rfl⟩
    go_wp2_with fail
    go_ret3
    exact ⟨_, _, rfl, 0, rfl⟩

set_option maxHeartbeats 2000000 in
theorem cut_any (s : ByteArray) (w : World) (hs : s.size ≤ 140737488355328) :
    Calls Try.prog 27 #[.string s, .string ⟨#[0]⟩] w fun e w' => ∃ v2 v3, e = .returned (.tuple #[.string (pre s), v2, v3]) ∧ ∃ n, w' = w.drewN n := by
  have k := hid (lcut_any s w hs)
  obtain ⟨S, gS⟩ : ∃ S, S = pre s := ⟨_, rfl⟩
  rw [← gS] at k ⊢
  clear gS
  go_enter Try.func27, Try.ntmps27
  go_wp2_with fail
  refine k.out.mono ?_
  rintro e w1 ⟨v2, v3, rfl, n, rfl⟩
  go_wp2_with fail
  go_ret3
  exact ⟨_, _, rfl, n, rfl⟩

theorem ahead_append (T R : List Int) (h : ∀ z ∈ T, z ≠ 0) : ahead (T ++ 0 :: R) = T.length := by
  induction T with
  | nil => simp [ahead]
  | cons z r ih =>
    rw [List.cons_append, ahead, if_neg (h z (by simp)), ih (fun y hy => h y (by simp [hy]))]; rfl
theorem take_ahead_ne (L : List Int) : ∀ z ∈ L.take (ahead L), z ≠ 0 := by
  intro z hz
  obtain ⟨j, hj, rfl⟩ := List.getElem_of_mem hz
  rw [List.getElem_take]
  have h1 : j < ahead L := by rw [List.length_take] at hj; omega
  have := ahead_ne L j h1
  rwa [List.getD_eq_getElem?_getD, List.getElem?_eq_getElem (by rw [List.length_take] at hj; omega)] at this

/-- What Path tells of a text with a nought behind, whatever stands behind that. -/
theorem told_text (S : ByteArray) (R : List Int) (h : ∀ z ∈ numsOf S, z ≠ 0) : told (numsOf S ++ 0 :: R) = if 24 < S.size then (⟨#[]⟩, 36) else (S, 0) := by
  unfold told
  rw [ahead_append _ _ h, if_pos (by simp), length_numsOf, ← length_numsOf, List.take_left, strOfNums_numsOf]

end Go.Proofs.Ytnmgapnblmikeaa
