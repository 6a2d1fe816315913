/- What wire.Put does, for every slice of bytes and every int: the bytes, and behind them those of the number (0, if it is below 0), in a new row; nothing old turns. -/
import Derived.Test.YtkmnhpnlkmiiiaaGreatDoorPutn
namespace Go.Proofs.YtkmnhpnlkmiiiaaGreatDoor
open Go.RowKit Num
set_option maxRecDepth 20000

theorem putn_int (B g k cap : Nat) (n : Int) (xs : List Int) (w : World) (hown : w.ownsRow B 5 1 (.slice (some ⟨g, 0, none⟩) k cap) k (xs.map (Value.int .u8))) (hroom : k + 9 ≤ cap) (h0 : 0 ≤ n) (hn : n ≤ 9223372036854775807) :
    Calls Tryz.prog 84 #[.slice (some ⟨g, 0, none⟩) k cap, .int .i64 n] w fun e w' => e = .returned (.slice (some ⟨g, 0, none⟩) (k + (enc n.toNat).length) cap) ∧
      w'.ownsRow B 5 1 (.slice (some ⟨g, 0, none⟩) (k + (enc n.toNat).length) cap) (k + (enc n.toNat).length) ((xs ++ enc n.toNat).map (Value.int .u8)) ∧ Below B w w' := by
  obtain ⟨m, rfl⟩ := Int.eq_ofNat_of_zero_le h0
  rw [Int.toNat_natCast]
  exact putn_any B g k cap m xs w hown hroom (by omega)

end Go.Proofs.YtkmnhpnlkmiiiaaGreatDoor
