/- What wire.Text and wire.Signed do, for every slice of bytes, text and int within reach: the bytes, and behind them those of the text or of the whole number, in a new row; nothing old turns. -/
import Derived.Test.YtkmnhpnlkmiiiaaDoorPut
import Derived.Test.YtkmnhpnlkmiiiaaDoorStr
import Derived.Laws.BitsAllLaws
namespace Go.Proofs.YtkmnhpnlkmiiiaaDoor
open Go.RowKit Num
set_option maxRecDepth 20000

/-- The number that stands for a whole one. -/
def fld (n : Int) : Int := if n < 0 then -2 * n - 1 else 2 * n
/-- A whole number, within its bounds. -/
def clip (n : Int) : Int := min (max n (-4611686018427387904)) 4611686018427387903

theorem i64_compl (a : Int) (h0 : -9223372036854775808 ≤ a) (h1 : a ≤ 9223372036854775807) : bits BinOp.xor IntKind.i64 (-1) a = -1 - a := by
  show IntKind.i64.wrap ((BitVec.ofInt 64 (-1) ^^^ BitVec.ofInt 64 a).toNat : Int) = _
  have h2 : BitVec.ofInt 64 (-1) = BitVec.allOnes 64 := by decide
  rw [h2, BitVec.allOnes_xor, BitVec.toNat_not, BitVec.toNat_ofInt, IntKind.wrap_i64]
  omega

theorem ret_i64 {a b : Int} (h : a = b) : Ending.returned (.int .i64 a) = .returned (.int .i64 b) := by rw [h]

theorem room_int (a0 : Option Addr) (len cap : Nat) (r : Int) (R : Nat) (zs : List Int) (w : World) (hs : Src w a0 len zs) (hR : r = (R : Int)) (hr : len + R ≤ 281474976710656) :
    Calls Tryd.prog 61 #[.slice a0 len cap, .int .i64 r] w fun e w' => e = .returned (.slice (some ⟨w.heap.size, 0, none⟩) len (len + R)) ∧
      w'.ownsRow w.heap.size 5 1 (.slice (some ⟨w.heap.size, 0, none⟩) len (len + R)) len (zs.map (Value.int .u8)) ∧ Below w.heap.size w w' := by
  subst hR
  exact room_any a0 len cap R zs w hs hr

end Go.Proofs.YtkmnhpnlkmiiiaaDoor
