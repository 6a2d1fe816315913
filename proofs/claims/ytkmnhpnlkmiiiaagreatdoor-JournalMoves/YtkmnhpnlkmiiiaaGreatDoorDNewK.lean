/- What disk.New does, in the words of a disk. -/
import Derived.Test.YtkmnhpnlkmiiiaaGreatDoorDNew2
import Derived.Test.YtkmnhpnlkmiiiaaGreatDoorDsk
namespace Go.Proofs.YtkmnhpnlkmiiiaaGreatDoor
open Go.RowKit
set_option linter.unusedVariables false

theorem new_dk (n : Nat) (w : World) (h1 : 1 ≤ n) (h2 : n ≤ 2048) :
    Calls Tryz.prog 29 #[.int .i64 n] w fun e w' => ∃ p d, e = .returned (.tuple #[.pointer (some ⟨p, 0, none⟩), .int .i64 0]) ∧ Dk.ok d w' p ∧ d.n = n ∧ d.dur = List.replicate (n * 128) 0 ∧ d.wr = d.dur ∧ d.eps = [] ∧ d.opn = false ∧ (∀ x ∈ d.foot p, w.heap.size ≤ x) ∧ Below w.heap.size w w' := by
  refine (new_any n w h1 h2).mono ?_
  rintro e w' ⟨p, g, c, rfl, hp, ho1, ho2, hlt, hgp, hb⟩
  have l1 := ho1.lt w.heap.size rfl
  have l2 := ho2.lt g rfl
  refine ⟨p, ⟨n, w.heap.size, n * 128, g, c, List.replicate (n * 128) 0, List.replicate (n * 128) 0, .slice none 0 0, [], false⟩, rfl, ⟨hp, own_base ho1 (Nat.zero_le _), own_base ho2 (Nat.zero_le _), World.ownsRow_nil _ _ _ _, fun e he => by simp at he, ?_, h1, h2, fun h => by simp at h⟩, rfl, rfl, rfl, rfl, rfl, ?_, hb⟩
  · simp [Dk.foot, vb, Value.ownBlock]
    omega
  · intro x hx
    simp [Dk.foot, vb, Value.ownBlock] at hx
    omega

end Go.Proofs.YtkmnhpnlkmiiiaaGreatDoor
