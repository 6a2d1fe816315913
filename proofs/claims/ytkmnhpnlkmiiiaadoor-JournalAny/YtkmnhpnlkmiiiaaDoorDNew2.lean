/- What disk.New does: a disk of so many sectors of noughts, in new memory; the error of any other number. -/
import Derived.Test.YtkmnhpnlkmiiiaaDoorSClone
namespace Go.Proofs.YtkmnhpnlkmiiiaaDoor
open Go.RowKit
set_option linter.unusedVariables false

set_option maxHeartbeats 1000000 in
set_option maxRecDepth 20000 in
theorem of_any (a : Addr) (len cap : Nat) (zs : List Int) (w : World) (hs : Src w (some a) len zs) (hr : len ≤ 140737488355328) :
    Calls Tryd.prog 12 #[.slice (some a) len cap] w fun e w' => ∃ p g c, e = .returned (.pointer (some ⟨p, 0, none⟩)) ∧ w'.heap[p]? = some (.cells #[.slice (some a) len cap, .slice (some ⟨g, 0, none⟩) len c, .slice none 0 0, .bool false] 56 (0, 0)) ∧
      w'.ownsRow w.heap.size 5 1 (.slice (some ⟨g, 0, none⟩) len c) len (zs.map (Value.int .u8)) ∧ w.heap.size ≤ p ∧ g < p ∧ Below w.heap.size w w' := by
  have k := hid (sclone_any a len cap zs w hs hr)
  clear hs
  go_enter Tryd.func12, Tryd.ntmps12
  go_wp2_with fail
  refine k.out.mono ?_
  rintro e w1 ⟨g, c, rfl, hown, hb⟩
  have HO := hid hown
  clear hown
  go_wp2_with fail
  go_ret
  have hlt := HO.out.lt g rfl
  have hb2 := hb.alloc hb.size (.cells #[.slice (some a) len cap, .slice (some ⟨g, 0, none⟩) len c, .slice none 0 0, .bool false] 56)
  exact ⟨w1.heap.size, g, c, rfl, heap_alloc_new w1 _, own_below HO.out ((Below.refl _ _).alloc (Nat.le_refl _) _), hb.size, hlt.2, hb2⟩

theorem noughts (w : World) (n : Nat) : (w.alloc (.cells (madeCells #[Value.int .u8 0] n) 5)).ownsRow w.heap.size 5 1 (.slice (some ⟨w.heap.size, 0, none⟩) n n) n ((List.replicate n (0 : Int)).map (Value.int .u8)) ∨ ¬ n ≤ maxLen := by
  rcases Nat.lt_or_ge maxLen n with h | h
  · exact .inr (by omega)
  · refine .inl ⟨by simp, .inr ⟨w.heap.size, n, _, rfl, Nat.le_refl _, heap_alloc_new w _, Nat.le_refl _, h, by simp [size_madeCells], ?_⟩⟩
    rw [toList_madeCells_one]
    simp

end Go.Proofs.YtkmnhpnlkmiiiaaDoor
