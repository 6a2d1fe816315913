/- A map that holds the first numbers: one more, or one of them again, is put into it. -/
import Derived.Test.YtmieoihjgckfhaaWMap
namespace Go.Proofs.Ytmieoihjgckfhaa
open Go.RowKit Go.MapKept
set_option linter.unusedVariables false
set_option maxRecDepth 20000

/-- The entries of the first k numbers. -/
def Es (k : Nat) : Array MapEntry := ((List.range k).map fun i : Nat => (⟨.int .i64 (i : Int), .bool true, i⟩ : MapEntry)).toArray
theorem Es_list (k : Nat) : (Es k).toList = (List.range k).map fun i : Nat => (⟨.int .i64 (i : Int), .bool true, i⟩ : MapEntry) := rfl
theorem Es_size (k : Nat) : (Es k).size = k := by simp [Es]
theorem Es_push (k : Nat) : (Es k).push ⟨.int .i64 (k : Int), .bool true, k⟩ = Es (k + 1) := by
  apply Array.ext'
  rw [Array.toList_push, Es_list, Es_list, List.range_succ, List.map_append]
  rfl
theorem Es_keys (k : Nat) : ∀ x ∈ (Es k).toList, IsKey (.int .i64) x.key := fun x hx => by
  rw [Es_list] at hx
  obtain ⟨i, _, rfl⟩ := List.mem_map.1 hx
  rfl

theorem met_put {w : World} {m k b : Nat} (hb : w.heap[m]? = some (.map (Es k) k)) (hk : b = k ∨ b + 1 = k) :
    ∃ w2 k', (Instr.mapUpdate 46 (.map (some m)) (.int .i64 (b : Int)) (.bool true)).run Try.prog w = .ok () w2 ∧ k' = b + 1 ∧ w2.heap[m]? = some (.map (Es k') k') ∧ Upd (· = m) w w2 := by
  have hd : IsKey (.int .i64) (Value.int .i64 (b : Int)) := rfl
  have hc := run_checkKey (P := Try.prog) (w := w) Try.underlying3 hd false 9999
  rcases findNow_spec hd (Es k).toList 0 (Es_keys k) with ⟨h1, h2⟩ | ⟨j, e, h1, h2, h3⟩
  · have hbk : b = k := by
      rcases hk with h | h
      · exact h
      · exact absurd rfl (h2 ⟨.int .i64 (b : Int), .bool true, b⟩ (by rw [Es_list]; exact List.mem_map.2 ⟨b, List.mem_range.2 (by omega), rfl⟩))
    subst hbk
    have hf := run_findKey (P := Try.prog) (w := w) Try.underlying3 h1
    refine ⟨{ w with heap := w.heap.setIfInBounds m (.map (Es (b + 1)) (b + 1)) }, b + 1, ?_, rfl, heap_setBlock hb, upd_setBlock _ _ _⟩
    simp [Instr.mapUpdate, run_underlying Try.underlying46, Go.MapKept.run_getObj_map hb, hc, hf, Go.MapKept.run_setObj_map _ hb, Result.andThen, Es_push]
  · rw [Es_list] at h2
    obtain ⟨hjl, he⟩ := List.getElem?_eq_some_iff.1 h2
    have hjk : j < k := by simpa using hjl
    have he2 : e = ⟨.int .i64 (j : Int), .bool true, j⟩ := by rw [← he]; simp
    subst he2
    have hjb : j = b := by
      injection h3 with _ h3
      omega
    subst hjb
    have hf := run_findKey (P := Try.prog) (w := w) Try.underlying3 h1
    have hk1 : k = j + 1 := by omega
    subst hk1
    have hj2 : (Es (j + 1))[j]? = some ⟨.int .i64 (j : Int), .bool true, j⟩ := by
      rw [← Array.getElem?_toList, Es_list]
      simp
    have hsame : (Es (j + 1)).modify j (fun e => { e with key := Value.int .i64 (j : Int), val := Value.bool true }) = Es (j + 1) := by
      apply Array.ext'
      have hj3 : (Es (j + 1)).toList[j]? = some ⟨.int .i64 (j : Int), .bool true, j⟩ := by rw [Es_list]; simp
      rw [Array.toList_modify, Go.ChangeMaps.modify_eq_set _ _ _ _ hj3]
      exact WideElems.set_self _ _ _ hj3
    have hst := run_keyThatStays (P := Try.prog) (w := w) hd
    refine ⟨{ w with heap := w.heap.setIfInBounds m (.map (Es (j + 1)) (j + 1)) }, j + 1, ?_, rfl, heap_setBlock hb, upd_setBlock _ _ _⟩
    simp [Instr.mapUpdate, run_underlying Try.underlying46, Go.MapKept.run_getObj_map hb, hc, hf, hj2, hst, hsame, Go.MapKept.run_setObj_map _ hb, Result.andThen]

theorem met_len {w : World} {m k : Nat} (hb : w.heap[m]? = some (.map (Es k) k)) (ty : TypeId) : (Builtin.len_ #[46] ty #[.map (some m)]).run Try.prog w = .ok (.int .i64 (k : Int)) w := by
  simp [Builtin.len_, run_underlying Try.underlying46, Go.MapKept.run_getObj_map hb, Es_size, goInt, Result.andThen]

end Go.Proofs.Ytmieoihjgckfhaa
