/- What wire.Put does, for every slice of bytes and every int: the bytes, and behind them those of the number (0, if it is below 0), in a new row; nothing old turns. -/
import Derived.Test.YtpbhcmfbcnihiaaGreatPutn
namespace Go.Proofs.YtpbhcmfbcnihiaaGreat
open Go.RowKit Num
set_option maxRecDepth 20000

theorem putn_int (B g k cap : Nat) (n : Int) (xs : List Int) (w : World) (hown : w.ownsRow B 5 1 (.slice (some ⟨g, 0, none⟩) k cap) k (xs.map (Value.int .u8))) (hroom : k + 9 ≤ cap) (h0 : 0 ≤ n) (hn : n ≤ 9223372036854775807) :
    Calls Tryz.prog 100 #[.slice (some ⟨g, 0, none⟩) k cap, .int .i64 n] w fun e w' => e = .returned (.slice (some ⟨g, 0, none⟩) (k + (enc n.toNat).length) cap) ∧
      w'.ownsRow B 5 1 (.slice (some ⟨g, 0, none⟩) (k + (enc n.toNat).length) cap) (k + (enc n.toNat).length) ((xs ++ enc n.toNat).map (Value.int .u8)) ∧ Below B w w' := by
  obtain ⟨m, rfl⟩ := Int.eq_ofNat_of_zero_le h0
  rw [Int.toNat_natCast]
  exact putn_any B g k cap m xs w hown hroom (by omega)

set_option maxHeartbeats 400000 in
theorem put_any (a0 : Option Addr) (len cap : Nat) (n : Int) (zs : List Int) (w : World) (hs : Src w a0 len zs) (hr : len + 9 ≤ 281474976710656) (hn : n ≤ 9223372036854775807) :
    Calls Tryz.prog 66 #[.slice a0 len cap, .int .i64 n] w fun e w' => e = .returned (.slice (some ⟨w.heap.size, 0, none⟩) (len + (enc n.toNat).length) (len + 9)) ∧
      w'.ownsRow w.heap.size 5 1 (.slice (some ⟨w.heap.size, 0, none⟩) (len + (enc n.toNat).length) (len + 9)) (len + (enc n.toNat).length) ((zs ++ enc n.toNat).map (Value.int .u8)) ∧ Below w.heap.size w w' := by
  have hroom := hid (fun wx hx => room_any a0 len cap 9 zs wx hx hr)
  have HS := hid hs
  clear hs
  go_enter Tryz.func66, Tryz.ntmps66
  go_wp2_with fail
  refine (hroom.out _ HS.out).mono ?_
  rintro e w1 ⟨rfl, hown, hb⟩
  have HO := hid hown
  clear hown
  rcases Int.lt_or_le n 0 with h0 | h0
  · go_wp2_with fail
    refine (putn_int w.heap.size _ _ _ 0 zs _ HO.out (by omega) (by omega) (by omega)).mono ?_
    rintro e w2 ⟨rfl, hown2, hb2⟩
    have H2 := hid hown2
    clear hown2
    go_wp2_with fail
    go_ret
    rw [show n.toNat = (0 : Int).toNat by omega]
    exact ⟨rfl, H2.out, hb.trans hb2⟩
  · go_wp2_with fail
    refine (putn_int w.heap.size _ _ _ n zs _ HO.out (by omega) (by omega) (by omega)).mono ?_
    rintro e w2 ⟨rfl, hown2, hb2⟩
    have H2 := hid hown2
    clear hown2
    go_wp2_with fail
    go_ret
    exact ⟨rfl, H2.out, hb.trans hb2⟩

end Go.Proofs.YtpbhcmfbcnihiaaGreat
