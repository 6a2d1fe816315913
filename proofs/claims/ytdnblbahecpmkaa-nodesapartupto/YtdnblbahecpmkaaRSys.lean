/- The document's file system with a root alone: New, named, look, walk, end. -/
import Derived.Test.YtdnblbahecpmkaaRSplit
import Derived.Test.YtdnblbahecpmkaaNTake
namespace Go.Proofs.Ytdnblbahecpmkaa
open Go.RowKit
set_option linter.unusedVariables false

/-- A root alone. -/
structure R6 (w : World) (p b : Nat) : Prop where
  at0 : ∃ u d, w.heap[p]? = some (.cells #[.slice (some ⟨b, 0, none⟩) 17 17, u, d] 81 (0, 0))
  row : ∃ C : List Value, w.heap[b]? = some (.cells C.toArray 84 (0, 0)) ∧ C.length = 102 ∧ C[6]? = some (.int .i64 2) ∧ C[11]? = some (.slice none 0 0) ∧ C[12]? = some (.int .i64 0)
  ne : p ≠ b

theorem R6.c0 {w : World} {p b : Nat} (h : R6 w p b) : w.cell? ⟨p, 0, none⟩ = some (.slice (some ⟨b, 0, none⟩) 17 17) := by
  obtain ⟨u, d, h⟩ := h.at0
  rw [cell_of_row w _ 0 _ _ _ h]; rfl
theorem R6.cb {w : World} {p b : Nat} (h : R6 w p b) : w.cell? ⟨b, 6, none⟩ = some (.int .i64 2) ∧ w.cell? ⟨b, 11, none⟩ = some (.slice none 0 0) ∧ w.cell? ⟨b, 12, none⟩ = some (.int .i64 0) := by
  obtain ⟨C, h1, h2, h3, h4, h5⟩ := h.row
  exact ⟨cell_list h1 h3, cell_list h1 h4, cell_list h1 h5⟩
theorem R6.lt {w : World} {p b : Nat} (h : R6 w p b) : p < w.heap.size ∧ b < w.heap.size := by
  obtain ⟨u, d, h1⟩ := h.at0
  obtain ⟨C, h2, _⟩ := h.row
  exact ⟨(Array.getElem?_eq_some_iff.1 h1).1, (Array.getElem?_eq_some_iff.1 h2).1⟩
theorem R6.below {w w' : World} {p b : Nat} (h : R6 w p b) (u : Below w.heap.size w w') : R6 w' p b := by
  obtain ⟨l1, l2⟩ := h.lt
  obtain ⟨x, d, h1⟩ := h.at0
  obtain ⟨C, h2, h3⟩ := h.row
  exact ⟨⟨x, d, (u.block p l1).trans h1⟩, ⟨C, (u.block b l2).trans h2, h3⟩, h.ne⟩

/-- The error of a name at the root. -/
def nmE (s : ByteArray) : Int := if s.size = 0 then 22 else if 6 < s.size then 36 else 0

set_option maxHeartbeats 1000000 in
theorem named_any (p b : Nat) (s : ByteArray) (w : World) (H : R6 w p b) :
    Calls Try.prog 58 #[.pointer (some ⟨p, 0, none⟩), .int .i64 1, .string s] w fun e w' => e = .returned (.int .i64 (nmE s)) ∧ w' = w := by
  have c0 := H.c0
  obtain ⟨c1, _, _⟩ := H.cb
  clear H
  by_cases h : s.size = 0
  · have e : nmE s = 22 := by simp [nmE, h]
    rw [e]
    have h3 : (s.toList == []) = true := by
      rw [Lib.toList_data]
      have := bl_len s
      rw [h] at this
      have := List.eq_nil_of_length_eq_zero this
      simpa [bl] using this
    clear h e
    go_enter Try.func58, Try.ntmps58
    go_wp2_with fail
    go_ret
    exact ⟨rfl, rfl⟩
  · have h3 : (s.toList == []) = false := by
      rw [Lib.toList_data]
      have := bl_len s
      cases e : s.data.toList with
      | nil => unfold bl at this; rw [e] at this; simp at this; omega
      | cons x y => rfl
    by_cases h6 : 6 < s.size
    · have e : nmE s = 36 := by simp [nmE, h, h6]
      rw [e]
      have h4 : (6 : Int) < (s.size : Int) := by omega
      clear h e h6
      go_enter Try.func58, Try.ntmps58
      go_wp2_with fail
      go_ret
      exact ⟨rfl, rfl⟩
    · have e : nmE s = 0 := by simp [nmE, h, h6]
      rw [e]
      have h4 : ¬ (6 : Int) < (s.size : Int) := by omega
      clear h e h6
      go_enter Try.func58, Try.ntmps58
      go_wp2_with fail
      go_ret
      exact ⟨rfl, rfl⟩

set_option maxHeartbeats 1000000 in
theorem look_none (p b : Nat) (s : ByteArray) (w : World) (H : R6 w p b) :
    Calls Try.prog 34 #[.pointer (some ⟨p, 0, none⟩), .int .i64 1, .string s] w fun e w' => e = .returned (.int .i64 0) ∧ w' = w := by
  have c0 := H.c0
  obtain ⟨_, c1, _⟩ := H.cb
  clear H
  go_enter Try.func34, Try.ntmps34
  go_wp2_with fail
  go_loopw [18] (fun v18 wr => v18 = .int .i64 0 ∧ wr = w) (fun _ _ => 0)
  case atStart => exact ⟨rfl, rfl⟩
  case round =>
    obtain ⟨rfl, rfl⟩ := hrel
    go_wp2_with fail
    go_ret
    exact ⟨rfl, rfl⟩

set_option maxHeartbeats 1000000 in
theorem walk_root (p b : Nat) (a : Option Addr) (c : Nat) (w : World) :
    Calls Try.prog 57 #[.pointer (some ⟨p, 0, none⟩), .slice a 0 c] w fun e w' => e = .returned (.tuple #[.int .i64 1, .int .i64 0]) ∧ w' = w := by
  go_enter Try.func57, Try.ntmps57
  go_wp2_with fail
  go_loopw [6, 12] (fun v6 v12 wr => v6 = .int .i64 1 ∧ v12 = .int .i64 0 ∧ wr = w) (fun _ _ _ => 0)
  case atStart => exact ⟨rfl, rfl, rfl⟩
  case round =>
    obtain ⟨rfl, rfl, rfl⟩ := hrel
    go_wp2_with fail
    go_ret2
    exact ⟨rfl, rfl⟩

set_option maxHeartbeats 1000000 in
theorem walk_some (p b : Nat) (g o n c : Nat) (s : ByteArray) (w : World) (H : R6 w p b) (hn : 0 < n) (hs : w.cell? ⟨g, o, none⟩ = some (.string s)) :
    Calls Try.prog 57 #[.pointer (some ⟨p, 0, none⟩), .slice (some ⟨g, o, none⟩) n c] w fun e w' => e = .returned (.tuple #[.int .i64 0, .int .i64 (if nmE s = 0 then 2 else nmE s)]) ∧ w' = w := by
  have k1 := hid (named_any p b s w H)
  have k2 := hid (look_none p b s w H)
  have hn' : (0 : Int) < (n : Int) := by omega
  by_cases h : nmE s = 0
  · rw [if_pos h]
    rw [h] at k1
    clear H h
    go_enter Try.func57, Try.ntmps57
    go_wp2_with fail
    go_loopw [6, 12] (fun v6 v12 wr => v6 = .int .i64 1 ∧ v12 = .int .i64 0 ∧ wr = w) (fun _ _ _ => 0)
    case atStart => exact ⟨rfl, rfl, rfl⟩
    case round =>
      obtain ⟨rfl, rfl, rfl⟩ := hrel
      go_wp2_with fail
      refine k1.out.mono ?_
      rintro e w1 ⟨rfl, rfl⟩
      go_wp2_with fail
      refine k2.out.mono ?_
      rintro e w1 ⟨rfl, rfl⟩
      go_wp2_with fail
      go_ret2
      exact ⟨rfl, rfl⟩
  · rw [if_neg h]
    obtain ⟨E, gE⟩ : ∃ E, E = nmE s := ⟨_, rfl⟩
    rw [← gE] at k1 h ⊢
    clear H gE
    go_enter Try.func57, Try.ntmps57
    go_wp2_with fail
    go_loopw [6, 12] (fun v6 v12 wr => v6 = .int .i64 1 ∧ v12 = .int .i64 0 ∧ wr = w) (fun _ _ _ => 0)
    case atStart => exact ⟨rfl, rfl, rfl⟩
    case round =>
      obtain ⟨rfl, rfl, rfl⟩ := hrel
      go_wp2_with fail
      refine k1.out.mono ?_
      rintro e w1 ⟨rfl, rfl⟩
      go_wp2_with fail
      go_ret2
      exact ⟨rfl, rfl⟩

end Go.Proofs.Ytdnblbahecpmkaa
