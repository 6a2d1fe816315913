/- What wire.Sum and the document's answer do, for every slice of bytes: both tell the sum of the bytes; nothing turns. -/
import Derived.Test.YtkmnhpnlkmiiiaaGreatDoorChecked
import Derived.Test.YtkmnhpnlkmiiiaaGreatDoorLaw
import Derived.Test.YtkmnhpnlkmiiiaaGreatDoorCrc
import Derived.Test.YtkmnhpnlkmiiiaaGreatDoorDec
import Derived.Laws.BitsAllLaws
namespace Go.Proofs.YtkmnhpnlkmiiiaaGreatDoor
open Go.RowKit Num

/-- The table of wire, where the program lays it. -/
def Tab (w : World) : Prop := ∀ j, j < 16 → w.cell? ⟨1, j, none⟩ = some (.int .u32 ((Crc.t j : Nat) : Int))
theorem Tab.below {B : Nat} {w w' : World} (h : Tab w) (hb : Below B w w') (hB : 1 < B) : Tab w' := fun j hj => (hb.cell (p := ⟨1, j, none⟩) hB).trans (h j hj)

theorem u32_15 (a : Nat) (ha : a < 4294967296) : bits BinOp.and IntKind.u32 (a : Int) 15 = ((a % 16 : Nat) : Int) := by
  have h15 := u32_and_nat a 15 ha (by omega)
  rw [show ((15 : Nat) : Int) = 15 from rfl] at h15
  rw [h15]
  have : a &&& 15 = a % 16 := by
    have := Nat.and_two_pow_sub_one_eq_mod a 4
    simpa using this
  rw [this]

theorem u32_not (a : Nat) (ha : a < 4294967296) : bits BinOp.xor IntKind.u32 IntKind.u32.max (a : Int) = ((4294967295 - a : Nat) : Int) := by
  show IntKind.u32.wrap ((BitVec.ofInt 32 IntKind.u32.max ^^^ BitVec.ofInt 32 (a : Int)).toNat : Int) = _
  have h1 : BitVec.ofInt 32 IntKind.u32.max = BitVec.allOnes 32 := by decide
  rw [h1, BitVec.allOnes_xor, BitVec.toNat_not, ofInt_u32 a ha]
  simp [IntKind.wrap, IntKind.bits, IntKind.signed]
  omega
theorem ret_u32 {a b : Int} (h : a = b) : Ending.returned (.int .u32 a) = .returned (.int .u32 b) := by rw [h]
theorem u32_1 (a : Nat) (ha : a < 4294967296) : bits BinOp.and IntKind.u32 (a : Int) 1 = ((a % 2 : Nat) : Int) := by
  have h1 := u32_and_nat a 1 ha (by omega)
  rw [show ((1 : Nat) : Int) = 1 from rfl] at h1
  rw [h1]
  have : a &&& 1 = a % 2 := Nat.and_two_pow_sub_one_eq_mod a 1
  rw [this]

set_option maxHeartbeats 800000 in
theorem sum_any (a0 : Option Addr) (len cap : Nat) (zs : List Int) (w : World) (hs : Src w a0 len zs) (hz : Bytes zs) (hT : Tab w) (hm : len ≤ 9223372036854775807) :
    Calls Tryz.prog 89 #[.slice a0 len cap] w fun e w' => e = .returned (.int .u32 ((Crc.crc zs : Nat) : Int)) ∧ w' = w := by
  have HS := hid hs
  have HZ := hid hz
  have HT := hid hT
  clear hs hz hT
  go_enter Tryz.func89, Tryz.ntmps89
  go_wp2
  go_loop [3, 8] (fun s k => ∃ (i S : Nat), i ≤ len ∧ k = .int .i64 i ∧ s = .int .u32 S ∧ S < 4294967296 ∧ Hid (S = Crc.run 4294967295 (zs.take i))) (fun _ k => len - (intOf k).toNat)
  case atStart => exact ⟨0, 4294967295, by omega, rfl, rfl, by omega, rfl⟩
  case round =>
    obtain ⟨i, S, hi, rfl, rfl, hS, HR⟩ := hrel
    by_cases hlt : i < len
    · obtain ⟨b, o, rfl, hbl, hcell⟩ := HS.out.2 (by omega)
      have hci := hcell i hlt
      have hbi := HZ.out.at i
      obtain ⟨c, gc⟩ : ∃ c, c = zs.getD i 0 := ⟨_, rfl⟩
      rw [← gc] at hci hbi
      obtain ⟨C, rfl⟩ := Int.eq_ofNat_of_zero_le hbi.1
      have hC : C < 256 := by omega
      have hl := HS.out.1
      have htk : zs.take (i + 1) = zs.take i ++ [(C : Int)] := by
        rw [List.take_succ_eq_append_getElem (by omega), gc, List.getD_eq_getElem?_getD, List.getElem?_eq_getElem (by omega)]; rfl
      have HK := hid htk
      clear hcell gc hbi hl htk
      obtain ⟨S1, g1⟩ : ∃ S1, S1 = S ^^^ C := ⟨_, rfl⟩
      have l1 : S1 < 4294967296 := by rw [g1]; exact Crc.xor_lt _ _ hS (by omega)
      have e1 : bits BinOp.xor IntKind.u32 (S : Int) (C : Int) = (S1 : Int) := by rw [g1]; exact u32_xor_nat S C hS (by omega)
      obtain ⟨j1, gj1⟩ : ∃ j1, j1 = S1 % 16 := ⟨_, rfl⟩
      have f1 : bits BinOp.and IntKind.u32 (S1 : Int) 15 = (j1 : Int) := by rw [gj1]; exact u32_15 S1 l1
      have lj1 : j1 < 16 := by omega
      have t1 := HT.out j1 lj1
      obtain ⟨T1, gt1⟩ : ∃ T1, T1 = Crc.t j1 := ⟨_, rfl⟩
      rw [← gt1] at t1
      have lt1 : T1 < 4294967296 := by rw [gt1]; exact Crc.t_lt ⟨j1, lj1⟩
      obtain ⟨S2, g2⟩ : ∃ S2, S2 = S1 / 16 ^^^ T1 := ⟨_, rfl⟩
      have l2 : S2 < 4294967296 := by rw [g2]; exact Crc.xor_lt _ _ (by omega) lt1
      have e2 : bits BinOp.xor IntKind.u32 ((S1 : Int) / 16) (T1 : Int) = (S2 : Int) := by
        rw [g2, show (S1 : Int) / 16 = ((S1 / 16 : Nat) : Int) by omega]; exact u32_xor_nat _ _ (by omega) lt1
      obtain ⟨j2, gj2⟩ : ∃ j2, j2 = S2 % 16 := ⟨_, rfl⟩
      have f2 : bits BinOp.and IntKind.u32 (S2 : Int) 15 = (j2 : Int) := by rw [gj2]; exact u32_15 S2 l2
      have lj2 : j2 < 16 := by omega
      have t2 := HT.out j2 lj2
      obtain ⟨T2, gt2⟩ : ∃ T2, T2 = Crc.t j2 := ⟨_, rfl⟩
      rw [← gt2] at t2
      have lt2 : T2 < 4294967296 := by rw [gt2]; exact Crc.t_lt ⟨j2, lj2⟩
      obtain ⟨S3, g3⟩ : ∃ S3, S3 = S2 / 16 ^^^ T2 := ⟨_, rfl⟩
      have l3 : S3 < 4294967296 := by rw [g3]; exact Crc.xor_lt _ _ (by omega) lt2
      have e3 : bits BinOp.xor IntKind.u32 ((S2 : Int) / 16) (T2 : Int) = (S3 : Int) := by
        rw [g3, show (S2 : Int) / 16 = ((S2 / 16 : Nat) : Int) by omega]; exact u32_xor_nat _ _ (by omega) lt2
      have hrun : S3 = Crc.run 4294967295 (zs.take (i + 1)) := by
        rw [HK.out, Crc.run_append, ← HR.out, g3, gt2, gj2, g2, gt1, gj1, g1]; rfl
      have HN := hid hrun
      clear g1 gj1 gt1 g2 gj2 gt2 g3 hrun
      go_wp2
      go_round
      case rel => exact ⟨i + 1, S3, by omega, by go_num, rfl, l3, HN⟩
      case measure => simp [intOf]; omega
    · have hrun : S = Crc.run 4294967295 zs := by
        rw [HR.out, List.take_of_length_le (by have := HS.out.1; omega)]
      have HN := hid hrun
      clear hrun
      go_wp2
      go_ret
      exact ⟨ret_u32 (by rw [u32_not S hS, Crc.crc, ← HN.out]), rfl⟩

theorem bits8_lt (s x : Nat) (hs : s < 4294967296) : ∀ i, Crc.bits8 s x i < 4294967296
  | 0 => hs
  | i + 1 => by
    have := bits8_lt s x hs i
    rw [Crc.bits8, Crc.bit]
    split
    · omega
    · exact Crc.xor_lt _ _ (by omega) (by omega)

end Go.Proofs.YtkmnhpnlkmiiiaaGreatDoor
