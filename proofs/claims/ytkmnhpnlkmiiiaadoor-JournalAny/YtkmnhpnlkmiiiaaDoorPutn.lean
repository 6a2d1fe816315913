/- What wire.putNumber does, for every number and every row of its caller's own with room for nine bytes more: the number's bytes stand behind; nothing else turns. -/
import Derived.Test.YtkmnhpnlkmiiiaaDoorRoom
import Derived.Test.YtkmnhpnlkmiiiaaDoorNum
namespace Go.Proofs.YtkmnhpnlkmiiiaaDoor
open Go.RowKit Num
set_option maxRecDepth 20000

theorem div_pow (n j : Nat) : (n : Int) / 2 ^ (7 * j) = ((n / 128 ^ j : Nat) : Int) := by
  rw [Int.pow_mul]; simp
theorem or_128 (x : Nat) : bits BinOp.or IntKind.u8 ((x : Int) % 256) 128 = ((x % 128 + 128 : Nat) : Int) := by
  have h : ∀ a : Fin 256, bits BinOp.or IntKind.u8 (a.val : Int) 128 = ((a.val % 128 + 128 : Nat) : Int) := by decide +kernel
  have := h ⟨x % 256, Nat.mod_lt _ (by omega)⟩
  simp only at this
  rw [show (x : Int) % 256 = ((x % 256 : Nat) : Int) by omega, this]
  omega
theorem and_127 (x : Nat) : bits BinOp.and IntKind.u8 ((x : Int) % 256) 127 = ((x % 128 : Nat) : Int) := by
  have h : ∀ a : Fin 256, bits BinOp.and IntKind.u8 (a.val : Int) 127 = ((a.val % 128 : Nat) : Int) := by decide +kernel
  have := h ⟨x % 256, Nat.mod_lt _ (by omega)⟩
  simp only at this
  rw [show (x : Int) % 256 = ((x % 256 : Nat) : Int) by omega, this]
  omega
/-- One byte more in a row with room. -/
theorem own_snoc {w' : World} {B g k cap : Nat} {xs T : List Int} (y z : Int) (hy : y = z) (h : w'.ownsRow B 5 1 (.slice (some ⟨g, 0, none⟩) (k + 1) cap) (k + 1) (xs.map (Value.int .u8) ++ (T.map (Value.int .u8) ++ [.int .u8 y]))) : w'.ownsRow B 5 1 (.slice (some ⟨g, 0, none⟩) (k + 1) cap) (k + 1) ((xs ++ T ++ [z]).map (Value.int .u8)) := by
  subst hy; simpa using h

end Go.Proofs.YtkmnhpnlkmiiiaaDoor
