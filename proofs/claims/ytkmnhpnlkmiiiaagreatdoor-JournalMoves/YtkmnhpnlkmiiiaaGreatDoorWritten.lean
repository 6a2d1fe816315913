/- What wire.Text and wire.Signed do, for every slice of bytes, text and int within reach: the bytes, and behind them those of the text or of the whole number, in a new row; nothing old turns. -/
import Derived.Test.YtkmnhpnlkmiiiaaGreatDoorPut
import Derived.Test.YtkmnhpnlkmiiiaaGreatDoorStr
import Derived.Laws.BitsAllLaws
namespace Go.Proofs.YtkmnhpnlkmiiiaaGreatDoor
open Go.RowKit Num
set_option maxRecDepth 20000

/-- The number that stands for a whole one. -/
def fld (n : Int) : Int := if n < 0 then -2 * n - 1 else 2 * n
/-- A whole number, within its bounds. -/
def clip (n : Int) : Int := min (max n (-4611686018427387904)) 4611686018427387903

theorem i64_compl (a : Int) (h0 : -9223372036854775808 ≤ a) (h1 : a ≤ 9223372036854775807) : bits BinOp.xor IntKind.i64 (-1) a = -1 - a := by
  show IntKind.i64.wrap ((BitVec.ofInt 64 (-1) ^^^ BitVec.ofInt 64 a).toNat : Int) = _
  have h2 : BitVec.ofInt 64 (-1) = BitVec.allOnes 64 := by decide
  rw [h2, BitVec.allOnes_xor, BitVec.toNat_not, BitVec.toNat_ofInt, IntKind.wrap_i64]
  omega

theorem ret_i64 {a b : Int} (h : a = b) : Ending.returned (.int .i64 a) = .returned (.int .i64 b) := by rw [h]

theorem room_int (a0 : Option Addr) (len cap : Nat) (r : Int) (R : Nat) (zs : List Int) (w : World) (hs : Src w a0 len zs) (hR : r = (R : Int)) (hr : len + R ≤ 281474976710656) :
    Calls Tryz.prog 85 #[.slice a0 len cap, .int .i64 r] w fun e w' => e = .returned (.slice (some ⟨w.heap.size, 0, none⟩) len (len + R)) ∧
      w'.ownsRow w.heap.size 5 1 (.slice (some ⟨w.heap.size, 0, none⟩) len (len + R)) len (zs.map (Value.int .u8)) ∧ Below w.heap.size w w' := by
  subst hR
  exact room_any a0 len cap R zs w hs hr

set_option maxHeartbeats 400000 in
theorem text_any (a0 : Option Addr) (len cap : Nat) (S : ByteArray) (zs : List Int) (w : World) (hs : Src w a0 len zs) (hr : len + 9 + S.size ≤ 281474976710656) :
    Calls Tryz.prog 64 #[.slice a0 len cap, .string S] w fun e w' => ∃ c, e = .returned (.slice (some ⟨w.heap.size, 0, none⟩) (len + (enc S.size).length + S.size) c) ∧
      w'.ownsRow w.heap.size 5 1 (.slice (some ⟨w.heap.size, 0, none⟩) (len + (enc S.size).length + S.size) c) (len + (enc S.size).length + S.size) ((zs ++ enc S.size ++ str S).map (Value.int .u8)) ∧ Below w.heap.size w w' := by
  obtain ⟨i0, hi, hz0, hz1, hz2⟩ := info_parts Tryz.info5
  have hroom := hid (fun wx hx => room_int a0 len cap (9 + (S.size : Int)) (9 + S.size) zs wx hx (by omega) (by omega))
  have hl := length_enc S.size
  have hc8 := cnt_8 S.size (by omega)
  obtain ⟨L, gL⟩ : ∃ L, L = (enc S.size).length := ⟨_, rfl⟩
  have hL9 : L ≤ 9 := by omega
  have hputn := hid (fun wx hx => putn_any w.heap.size w.heap.size len (len + (9 + S.size)) S.size zs wx hx (by omega) (by omega))
  rw [← gL] at hputn ⊢
  have HS := hid hs
  clear hs gL hl hc8
  go_enter Tryz.func64, Tryz.ntmps64
  go_wp2_with fail
  refine (hroom.out _ HS.out).mono ?_
  rintro e w1 ⟨rfl, hown, hb⟩
  have HO := hid hown
  clear hown
  go_wp2_with fail
  refine (hputn.out _ HO.out).mono ?_
  rintro e w2 ⟨rfl, hown2, hb2⟩
  have HO2 := hid hown2
  have hlt := hown2.lt w.heap.size rfl
  clear hown2
  go_wp2_with (at_builtin; go_must (refine wpList_append_fits_str _ rfl (.tmp 12) (.tmp 13) 29 9 rfl w.heap.size 5 i0 Tryz.underlying29 Tryz.underlying9 hi hz1 w.heap.size (len + L) (len + (9 + S.size)) _ rfl HO2.out S rfl (by omega) ?_))
  intro w3 hown3 hgrow3
  rw [str_cells] at hown3
  have hb3 := (hb.trans hb2).grown hgrow3 (by omega) (by intro q hq; simp at hq; omega)
  have HO3 := hid hown3
  clear hown3 hgrow3
  go_wp2_with fail
  go_ret
  refine ⟨_, rfl, ?_, hb3⟩
  have := HO3.out
  simpa using this

end Go.Proofs.YtkmnhpnlkmiiiaaGreatDoor
