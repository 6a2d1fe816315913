/- Texts of this seat, merged. -/
import Derived.Test.YtbglhmcahnkbfaaGreatHMg14
import Derived.Lib.Bytealg
import Derived.Lib.BytesEntry
import Derived.Lib.Bytes
import Derived.Laws.Externs
import Derived.Deep.RegionHeld3

/- What strings.Cut at a slash, strings.HasPrefix of a slash and strings.Clone do. -/
namespace Go.Proofs.YtbglhmcahnkbfaaGreat
open Go.RowKit
set_option linter.unusedVariables false
set_option maxRecDepth 20000

/-- A text's bytes. -/
def bl (s : ByteArray) : List UInt8 := s.data.toList
theorem bl_len (s : ByteArray) : (bl s).length = s.size := by simp [bl]
theorem bl_take (s : ByteArray) (m : Nat) : bl (s.extract 0 m) = (bl s).take m := by simp [bl, ByteArray.data_extract]
theorem bl_drop (s : ByteArray) (m : Nat) : bl (s.extract m s.size) = (bl s).drop m := by
  simp only [bl, ByteArray.data_extract, Array.toList_extract]
  rw [List.extract_eq_take_drop]
  apply List.take_of_length_le
  simp

theorem index_slash : ∀ l : List UInt8, Lib.indexByte l 47 = if upto l < l.length then (upto l : Int) else -1
  | [] => rfl
  | c :: r => by
    have ih := index_slash r
    have hle := upto_le r
    rw [Lib.indexByte, ih]
    by_cases h0 : c = 47
    · subst h0; simp [upto]
    · have hne : (c == 47) = false := by simpa using h0
      simp only [upto, h0, hne, if_false, List.length_cons]
      by_cases h : upto r < r.length
      · simp [h]
      · simp [h]

set_option maxHeartbeats 1000000 in
theorem slibyte_any (s : ByteArray) (w : World) :
    Calls Tryz.prog 176 #[.string s, .int .u8 47] w fun e w' => e = .returned (.int .i64 (Lib.indexByte s.data.toList 47)) ∧ w' = w := by
  have hrun := Lib.run_indexByteString (P := Tryz.prog) s 47 w
  rw [show ((47 : Int).toNat.toUInt8) = 47 by rfl] at hrun
  obtain ⟨X, gX⟩ : ∃ X : Int, X = Lib.indexByte s.data.toList 47 := ⟨_, rfl⟩
  rw [← gX] at hrun ⊢
  clear gX
  go_enter Tryz.func176, Tryz.ntmps176
  go_wp2
  rw [run_callFunc_extern Tryz.func181 (by kernel_rfl) (by kernel_rfl) (by kernel_rfl) (e := Extern.BytealgIndexByte.indexByte) (by kernel_rfl), hrun]
  simp only [Result.andThen]
  rw [Oper.upon_value]
  go_wp2
  go_ret
  exact ⟨rfl, rfl⟩

set_option maxHeartbeats 2000000 in
set_option maxRecDepth 20000 in
theorem slindex_any (s : ByteArray) (w : World) :
    Calls Tryz.prog 169 #[.string s, .string ⟨#[47]⟩] w fun e w' => e = .returned (.int .i64 (Lib.indexByte s.data.toList 47)) ∧ w' = w := by
  go_enter Tryz.func169, Tryz.ntmps169
  go_wp2_with (go_at_call 176; refine (slibyte_any _ _).mono ?_; rintro e w' ⟨rfl, rfl⟩)
  · have h : ([47] == s.toList) = true := by assumption
    go_ret
    refine ⟨?_, rfl⟩
    have e : s.data.toList = [47] := by rw [← Lib.toList_data]; exact (beq_iff_eq.1 h).symm
    rw [e]
    simp [Lib.indexByte]
  · go_ret
    exact ⟨rfl, rfl⟩

/-- What Cut tells of a text. -/
def cutV (s : ByteArray) : Value := if upto (bl s) < s.size then .tuple #[.string (s.extract 0 (upto (bl s))), .string (s.extract (upto (bl s) + 1) s.size), .bool true] else .tuple #[.string s, .string ⟨#[]⟩, .bool false]

set_option maxHeartbeats 2000000 in
theorem lcut_any (s : ByteArray) (w : World) (hs : s.size ≤ 140737488355328) :
    Calls Tryz.prog 157 #[.string s, .string ⟨#[47]⟩] w fun e w' => e = .returned (cutV s) ∧ ∃ n, w' = w.drewN n := by
  have k := hid (slindex_any s w)
  rw [index_slash] at k
  have hl := bl_len s
  unfold bl at hl
  rw [hl] at k
  unfold cutV
  by_cases h : upto (bl s) < s.size
  · rw [if_pos h]
    unfold bl at h ⊢
    rw [if_pos h] at k
    obtain ⟨m, gm⟩ : ∃ m, m = upto s.data.toList := ⟨_, rfl⟩
    rw [← gm] at k h ⊢
    clear gm hl
    have c1 : (0 : Int) ≤ (m : Int) := by omega
    have c2 : (m : Int) ≤ (s.size : Int) := by omega
    have c3 : (0 : Int) ≤ (m : Int) + 1 := by omega
    have c4 : (m : Int) + 1 ≤ (s.size : Int) := by omega
    have c5 : IntKind.i64.wrap ((m : Int) + 1) = (m : Int) + 1 := by rw [IntKind.wrap_i64]; omega
    have c6 : wrap64 ((m : Int) + 1) = (m : Int) + 1 := by unfold wrap64; omega
    go_enter Tryz.func157, Tryz.ntmps157
    go_wp2_with fail
    refine k.out.mono ?_
    rintro e w1 ⟨rfl, rfl⟩
    go_wp2_with fail
    go_region_held3 (fun _ => True) (trivial) (fail)
    go_wp2
    go_ret3
    exact ⟨rfl, 1, rfl⟩
  · rw [if_neg h]
    unfold bl at h
    rw [if_neg h] at k
    clear hl
    go_enter Tryz.func157, Tryz.ntmps157
    go_wp2_with fail
    refine k.out.mono ?_
    rintro e w1 ⟨rfl, rfl⟩
    go_wp2_with fail
    go_ret3
    exact ⟨rfl, 0, rfl⟩

set_option maxHeartbeats 2000000 in
theorem scut_any (s : ByteArray) (w : World) (hs : s.size ≤ 140737488355328) :
    Calls Tryz.prog 148 #[.string s, .string ⟨#[47]⟩] w fun e w' => e = .returned (cutV s) ∧ ∃ n, w' = w.drewN n := by
  have k := hid (lcut_any s w hs)
  unfold cutV at k ⊢
  by_cases h : upto (bl s) < s.size
  · rw [if_pos h] at k ⊢
    go_enter Tryz.func148, Tryz.ntmps148
    go_wp2_with fail
    refine k.out.mono ?_
    rintro e w1 ⟨rfl, n, rfl⟩
    go_wp2_with fail
    go_ret3
    exact ⟨rfl, n, rfl⟩
  · rw [if_neg h] at k ⊢
    go_enter Tryz.func148, Tryz.ntmps148
    go_wp2_with fail
    refine k.out.mono ?_
    rintro e w1 ⟨rfl, n, rfl⟩
    go_wp2_with fail
    go_ret3
    exact ⟨rfl, n, rfl⟩

end Go.Proofs.YtbglhmcahnkbfaaGreat
