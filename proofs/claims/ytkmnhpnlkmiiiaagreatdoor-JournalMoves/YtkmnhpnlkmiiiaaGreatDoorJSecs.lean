/- The journal's sectors: their bytes, and what putLow, low, sealed, head, rightHead, sector.bytes, areaOf, rightSector do. -/
import Derived.Test.YtkmnhpnlkmiiiaaGreatDoorSum
import Derived.Test.YtkmnhpnlkmiiiaaGreatDoorLit
import Derived.Test.YtkmnhpnlkmiiiaaGreatDoorUpd
import Derived.Test.YtkmnhpnlkmiiiaaGreatDoorReader
import Derived.Test.YtkmnhpnlkmiiiaaGreatDoorDPut2
import Derived.Deep.RegionHeld3
import Derived.Test.YtkmnhpnlkmiiiaaGreatDoorEqual
import Derived.Test.YtkmnhpnlkmiiiaaGreatDoorGMid

/- The journal's sectors as bytes, and the numbers in them: no program here. -/
namespace Go.Proofs.YtkmnhpnlkmiiiaaGreatDoor.Jr
set_option linter.unusedVariables false
open Num

/-- The low bytes of a number, the lowest first. -/
def le (n : Nat) : Nat → List Int
  | 0 => []
  | k + 1 => le n k ++ [((n / 256 ^ k % 256 : Nat) : Int)]

theorem length_le (n : Nat) : ∀ k, (le n k).length = k
  | 0 => rfl
  | k + 1 => by simp [le, length_le n k]

theorem bytes_le (n : Nat) : ∀ k, Bytes (le n k)
  | 0 => by intro x hx; simp [le] at hx
  | k + 1 => by
    intro x hx
    simp only [le, List.mem_append, List.mem_singleton] at hx
    rcases hx with hx | hx
    · exact bytes_le n k x hx
    · omega

/-- The number that bytes are, the lowest first. -/
def num : List Int → Nat
  | [] => 0
  | x :: r => x.toNat + 256 * num r

theorem num_append (a b : List Int) : num (a ++ b) = num a + 256 ^ a.length * num b := by
  induction a with
  | nil => simp [num]
  | cons x a ih => simp only [List.cons_append, num, ih, List.length_cons, Nat.pow_succ, Nat.mul_add]; rw [Nat.mul_comm (256 ^ a.length) 256, Nat.mul_assoc]; omega

theorem num_le (n : Nat) : ∀ k, num (le n k) = n % 256 ^ k
  | 0 => by simp [le, num, Nat.mod_one]
  | k + 1 => by
    rw [le, num_append, num_le n k, length_le]
    simp only [num, Int.toNat_natCast, Nat.mul_zero, Nat.add_zero]
    have h := Nat.mod_mul (x := n) (a := 256 ^ k) (b := 256)
    rw [Nat.pow_succ, h]

theorem num_lt (zs : List Int) (hz : Bytes zs) : num zs < 256 ^ zs.length := by
  induction zs with
  | nil => simp [num]
  | cons x r ih =>
    have h1 := ih (fun y hy => hz y (by simp [hy]))
    have h2 := hz x (by simp)
    simp only [num, List.length_cons, Nat.pow_succ]
    omega

/-- Bytes, their sum and the last mark. -/
def seald (b : List Int) : List Int := b ++ le (Crc.crc b) 4 ++ [165]

/-- The head of a generation. -/
def headB (g : Nat) : List Int := seald ([72, 0, 0, 0] ++ le g 8 ++ List.replicate 111 0)

/-- A sector of a group. -/
def sectB (place gen number : Nat) (last : Bool) (load : List Int) : List Int :=
  seald ([74, ((load.length : Nat) : Int)] ++ le place 2 ++ le gen 8 ++ [if last then 1 else 0] ++ le number 8 ++ load ++ List.replicate (102 - load.length) 0)

theorem length_seal (b : List Int) : (seald b).length = b.length + 5 := by simp [seald, length_le]
theorem length_headB (g : Nat) : (headB g).length = 128 := by simp [headB, length_seal, length_le]
theorem length_sectB (place gen number : Nat) (last : Bool) (load : List Int) (h : load.length ≤ 100) : (sectB place gen number last load).length = 128 := by
  simp [sectB, length_seal, length_le]; omega

end Go.Proofs.YtkmnhpnlkmiiiaaGreatDoor.Jr

/- What journal's putLow and low do: the low bytes of a number into a piece of a row of the caller's own; the number that eight bytes are. -/
namespace Go.Proofs.YtkmnhpnlkmiiiaaGreatDoor
open Go.RowKit Num
set_option linter.unusedVariables false
set_option maxRecDepth 20000

namespace Jr
/-- Bytes laid over a row from a place on. -/
def lay (xs : List Int) (o : Nat) (ys : List Int) : List Int := xs.take o ++ ys ++ xs.drop (o + ys.length)
theorem length_lay (xs : List Int) (o : Nat) (ys : List Int) (h : o + ys.length ≤ xs.length) : (lay xs o ys).length = xs.length := by simp [lay]; omega
theorem lay_nil (xs : List Int) (o : Nat) : lay xs o [] = xs := by simp [lay]
theorem lay_set (xs : List Int) (o i : Nat) (ys : List Int) (y : Int) (hl : ys.length = i) (h : o + i < xs.length) : (lay xs o ys).set (o + i) y = lay xs o (ys ++ [y]) := by
  subst hl
  unfold lay
  rw [List.drop_eq_getElem_cons h, List.set_append_right _ _ (by simp; omega)]
  have e : o + ys.length - (List.take o xs ++ ys).length = 0 := by simp; omega
  rw [e]
  simp [Nat.add_assoc]
theorem lay_at (xs : List Int) (o i : Nat) (ys : List Int) (hl : ys.length = i) (h : o + i < xs.length) : (lay xs o ys)[o + i]? = xs[o + i]? := by
  subst hl
  unfold lay
  rw [List.getElem?_append_right (by simp; omega)]
  have e : o + ys.length - (List.take o xs ++ ys).length = 0 := by simp; omega
  rw [e]
  simp
theorem shr8 (n i : Nat) : (n : Int) / 2 ^ (8 * i) % 256 = ((n / 256 ^ i % 256 : Nat) : Int) := by
  rw [Int.pow_mul]; simp
end Jr
open Jr

set_option maxHeartbeats 400000 in
theorem putlow_any (g o k kc c cap nn : Nat) (xs : List Int) (B : Nat) (w : World) (ho : w.ownsRow B 5 1 (.slice (some ⟨g, 0, none⟩) c cap) c (xs.map (Value.int .u8))) (hk : o + k ≤ c) (hk8 : k ≤ 8) (hn : nn < 9223372036854775808) :
    Calls Tryz.prog 71 #[.slice (some ⟨g, o, none⟩) k kc, .int .i64 nn] w fun e w' => e = .returned (.tuple #[]) ∧
      w'.ownsRow B 5 1 (.slice (some ⟨g, 0, none⟩) c cap) c ((lay xs o (le nn k)).map (Value.int .u8)) ∧ Upd (· = g) w w' := by
  have HO := hid ho
  have hxl : xs.length = c := by have := ho.1; simpa using this
  clear ho
  go_enter Tryz.func71, Tryz.ntmps71
  go_wp2_with fail
  go_loopw [7] (fun s wr => ∃ i : Nat, i ≤ k ∧ s = .int .i64 i ∧ Hid (wr.ownsRow B 5 1 (.slice (some ⟨g, 0, none⟩) c cap) c ((lay xs o (le nn i)).map (Value.int .u8))) ∧ Upd (· = g) w wr) (fun s _ => k - (intOf s).toNat)
  case atStart => exact ⟨0, by omega, rfl, hid (by rw [le, lay_nil]; exact HO.out), Upd.refl _ _⟩
  case round =>
    obtain ⟨i, hik, rfl, HW, hu⟩ := hrel
    by_cases h : i < k
    · have hcell : wr.cell? ⟨g, o + i, none⟩ = some (.int .u8 (xs.getD (o + i) 0)) := by
        rw [HW.out.cellAt (o + i) (by omega), List.getElem?_map, lay_at _ _ _ _ (length_le _ _) (by omega), List.getD_eq_getElem?_getD, List.getElem?_eq_getElem (by omega)]; rfl
      have hfr : wr.frozen? ⟨g, o + i, none⟩ = false := HW.out.frozenAt (o + i)
      obtain ⟨z, gz⟩ : ∃ z, z = xs.getD (o + i) 0 := ⟨_, rfl⟩
      rw [← gz] at hcell
      have HN : Hid ((wr.setCell ⟨g, o + i, none⟩ (.int .u8 ((nn : Int) / 2 ^ (8 * i) % 256))).ownsRow B 5 1 (.slice (some ⟨g, 0, none⟩) c cap) c ((lay xs o (le nn (i + 1))).map (Value.int .u8))) := by
        refine hid ?_
        have := HW.out.stored (o + i) (.int .u8 ((nn : Int) / 2 ^ (8 * i) % 256))
        rw [le, ← lay_set _ _ _ _ _ (length_le _ _) (by omega), ← shr8, List.map_set]
        exact this.1
      clear gz
      go_wp2_with fail
      go_roundw
      case rel => exact ⟨i + 1, by omega, by go_num, HN, hu.trans (Upd.setCell (F := (· = g)) wr ⟨g, o + i, none⟩ _ rfl) (fun _ _ h => h)⟩
      case measure => simp [intOf]; omega
    · obtain rfl : i = k := by omega
      go_wp2_with fail
      go_end0
      exact ⟨rfl, HW.out, hu⟩

/-- A number of eight bytes, as the program's int. -/
def lowI (zs : List Int) : Int := IntKind.i64.wrap (num zs : Nat)

theorem i64_or (a i : Nat) (c : Int) (ha : a < 256 ^ i) (hc0 : 0 ≤ c) (hc : c ≤ 255) (hi : i < 8) :
    bits BinOp.or IntKind.i64 (IntKind.i64.wrap (a : Int)) (IntKind.i64.wrap (c * 2 ^ (8 * i))) = IntKind.i64.wrap ((a + 256 ^ i * c.toNat : Nat) : Int) := by
  have hw : ∀ x : Int, BitVec.ofInt 64 (IntKind.i64.wrap x) = BitVec.ofInt 64 x := by
    intro x
    apply BitVec.eq_of_toInt_eq
    rw [BitVec.toInt_ofInt, BitVec.toInt_ofInt, IntKind.wrap_i64]
    simp only [Int.bmod]
    omega
  have h := Lend.or_step a i c ha hc0 hc hi
  show IntKind.i64.wrap ((BitVec.ofInt 64 (IntKind.i64.wrap (a : Int)) ||| BitVec.ofInt 64 (IntKind.i64.wrap (c * 2 ^ (8 * i)))).toNat : Int) = _
  rw [hw, hw]
  have h' : IntKind.u64.wrap ((BitVec.ofInt 64 (a : Int) ||| BitVec.ofInt 64 (c * 2 ^ (8 * i))).toNat : Int) = ((a + 256 ^ i * c.toNat : Nat) : Int) := h
  rw [← h']
  have hlt := (BitVec.ofInt 64 (a : Int) ||| BitVec.ofInt 64 (c * 2 ^ (8 * i))).isLt
  rw [IntKind.wrap_u64]
  congr 1
  omega

theorem wrap64_of (x : Int) : wrap64 x = IntKind.i64.wrap x := by first | rfl | simp [wrap64, IntKind.wrap_i64]

set_option maxHeartbeats 400000 in
theorem low_any (b o cap : Nat) (zs : List Int) (w : World) (hs : Src w (some ⟨b, o, none⟩) 8 zs) (hz : Bytes zs) :
    Calls Tryz.prog 86 #[.slice (some ⟨b, o, none⟩) 8 cap] w fun e w' => e = .returned (.int .i64 (lowI zs)) ∧ w' = w := by
  obtain ⟨b', o', e, hlt, hcell⟩ := hs.2 (by omega)
  simp only [Option.some.injEq, Addr.mk.injEq, and_true] at e
  obtain ⟨rfl, rfl⟩ := e
  have hl := hs.1
  have HZ := hid hz
  have HC := hid hcell
  clear hs hz hcell
  go_enter Tryz.func86, Tryz.ntmps86
  go_wp2
  go_loop [3, 8] (fun n k => ∃ i : Nat, i ≤ 8 ∧ k = .int .i64 i ∧ n = .int .i64 (lowI (zs.take i))) (fun _ k => 8 - (intOf k).toNat)
  case atStart => exact ⟨0, by omega, rfl, by simp [lowI, num, IntKind.wrap_i64]⟩
  case round =>
    obtain ⟨i, hi, rfl, rfl⟩ := hrel
    by_cases h : i < 8
    · have hci := HC.out i h
      have hbi := HZ.out.at i
      have hst : lowI (zs.take (i + 1)) = bits BinOp.or IntKind.i64 (lowI (zs.take i)) (IntKind.i64.wrap (zs.getD i 0 * 2 ^ (8 * i))) := by
        rw [Lend.take_step zs i (by omega)]
        unfold lowI
        rw [i64_or (num (zs.take i)) i (zs.getD i 0) (by have := num_lt (zs.take i) (HZ.out.take i); rwa [List.length_take, Nat.min_eq_left (by omega)] at this) hbi.1 hbi.2 h, num_append, List.length_take, Nat.min_eq_left (by omega)]
        simp [num]
      obtain ⟨c, gc⟩ : ∃ c, c = zs.getD i 0 := ⟨_, rfl⟩
      obtain ⟨n0, gn⟩ : ∃ n0, n0 = lowI (zs.take i) := ⟨_, rfl⟩
      rw [← gc, ← gn] at hst
      rw [← gc] at hci hbi
      rw [← gn]
      have HST := hid hst
      clear gc gn hst
      go_wp2
      go_round
      case rel => exact ⟨i + 1, by omega, by go_num, by rw [HST.out, wrap64_of]⟩
      case measure => simp [intOf]; omega
    · have hn : ¬ (i : Int) < 8 := by omega
      go_wp2
      go_ret
      exact ⟨by rw [List.take_of_length_le (by omega)]; rfl, rfl⟩

end Go.Proofs.YtkmnhpnlkmiiiaaGreatDoor

/- What journal's sealed and head do. -/
namespace Go.Proofs.YtkmnhpnlkmiiiaaGreatDoor
open Go.RowKit Num Jr
set_option linter.unusedVariables false
set_option maxRecDepth 20000

namespace Jr
/-- 128 bytes of which the first 123 are b: sealed. -/
theorem seal_lay (b t : List Int) (hb : b.length = 123) (ht : t.length = 5) : (lay (b ++ t) 123 (le (Crc.crc b) 4)).set 127 165 = seald b := by
  have h := lay_set (b ++ t) 123 4 (le (Crc.crc b) 4) 165 (length_le _ _) (by simp; omega)
  rw [h]
  unfold lay seald
  simp [length_le, hb, ht]
end Jr

theorem Tab.upd {F : Nat → Prop} {w w' : World} (h : Tab w) (u : Upd F w w') (hF : ¬ F 1) : Tab w' := fun j hj => by
  have h0 := h j hj
  exact (World.cell?_of_block (a := ⟨1, j, none⟩) (u.block 1 (World.block_lt_of_cell? _ _ h0) hF)).trans h0

set_option maxHeartbeats 1000000 in
theorem sealed_any (g cap : Nat) (b t : List Int) (B : Nat) (w : World) (ho : w.ownsRow B 5 1 (.slice (some ⟨g, 0, none⟩) 128 cap) 128 ((b ++ t).map (Value.int .u8))) (hb : b.length = 123) (hz : Bytes b) (hT : Tab w) (hB : 1 < B) :
    Calls Tryz.prog 72 #[.slice (some ⟨g, 0, none⟩) 128 cap] w fun e w' => e = .returned (.slice (some ⟨g, 0, none⟩) 128 cap) ∧
      w'.ownsRow B 5 1 (.slice (some ⟨g, 0, none⟩) 128 cap) 128 ((seald b).map (Value.int .u8)) ∧ Upd (· = g) w w' := by
  have ht : t.length = 5 := by have := ho.1; simp at this; omega
  have hcrc : Crc.crc b < 4294967296 := by unfold Crc.crc; omega
  obtain ⟨_, _, hc1, hc2, _, _⟩ := own_heap ho
  have hc3 : cap ≤ 9223372036854775807 := by unfold maxLen at hc2; omega
  have hsrc : Src w (some ⟨g, 0, none⟩) 123 b := by
    have h := (Src.own ho).take 123 (by omega)
    rwa [List.take_append_of_le_length (by omega), List.take_of_length_le (by omega)] at h
  have k1 := hid (sum_any (some ⟨g, 0, none⟩) 123 cap b w.drew hsrc hz hT (by omega))
  have k2 := hid (fun kc : Nat => putlow_any g 123 4 kc 128 cap (Crc.crc b) (b ++ t) B w.drew ho (by omega) (by omega) (by omega))
  obtain ⟨C, gC⟩ : ∃ C, C = Crc.crc b := ⟨_, rfl⟩
  have HS := hid (seal_lay b t hb ht)
  rw [← gC] at k1 k2 HS hcrc
  have hwr : IntKind.i64.wrap (C : Int) = (C : Int) := by rw [IntKind.wrap_i64]; omega
  have k3 : ∀ kc : Nat, Calls Tryz.prog 71 #[.slice (some ⟨g, 123, none⟩) 4 kc, .int .i64 (IntKind.i64.wrap (C : Int))] w.drew fun e w' => e = .returned (.tuple #[]) ∧
      w'.ownsRow B 5 1 (.slice (some ⟨g, 0, none⟩) 128 cap) 128 ((lay (b ++ t) 123 (le C 4)).map (Value.int .u8)) ∧ Upd (· = g) w.drew w' := fun kc => by rw [hwr]; exact k2.out kc
  have k4 := hid k3
  have hn3 : ¬ cap = 123 := by omega
  clear ho hz hT hsrc gC hc2 hwr k2 k3
  have i0 : (0 : Int) ≤ (cap : Int) := by omega
  have i1 : (123 : Int) ≤ (cap : Int) := by omega
  have i2 : (127 : Int) ≤ (cap : Int) := by omega
  have i3 : (128 : Int) ≤ (cap : Int) := by omega
  go_enter Tryz.func72, Tryz.ntmps72
  go_wp2_with fail
  go_region_held3 (fun _ => True) (trivial) (first | (go_at_call 89; refine k1.out.mono ?_; rintro r w4 ⟨rfl, h⟩; subst w4) | (go_at_call 71; refine (k4.out _).mono ?_; rintro r w4 ⟨rfl, ho4, hu4⟩))
  have hc7 : w4.cell? ⟨g, 127, none⟩ = some (.int .u8 (t.getD 4 0)) := by
    rw [ho4.cellAt 127 (by omega), List.getElem?_map]
    have := lay_at (b ++ t) 123 4 (le C 4) (length_le _ _) (by simp; omega)
    rw [show (127 : Nat) = 123 + 4 by rfl, this, List.getElem?_append_right (by omega), hb]
    rw [List.getD_eq_getElem?_getD, List.getElem?_eq_getElem (by omega)]; rfl
  have hf7 : w4.frozen? ⟨g, 127, none⟩ = false := ho4.frozenAt 127
  have hs := (ho4.stored 127 (.int .u8 165)).1
  rw [← List.map_set, HS.out] at hs
  have HF := hid hs
  have HU : Hid (Upd (· = g) w (w4.setCell ⟨g, 127, none⟩ (.int .u8 165))) := hid ((show Upd (· = g) w w4 from ⟨hu4.os, hu4.tape, hu4.output, hu4.size, hu4.block⟩).trans (Upd.setCell (F := (· = g)) w4 ⟨g, 127, none⟩ _ rfl) (fun _ _ h => h))
  clear ho4 hs hu4
  go_wp2_with fail
  go_ret
  exact ⟨rfl, HF.out, HU.out⟩

end Go.Proofs.YtkmnhpnlkmiiiaaGreatDoor

/- What journal's head, headOf, areaOf, need, and below's Wrap of no error do. -/
namespace Go.Proofs.YtkmnhpnlkmiiiaaGreatDoor
open Go.RowKit Num Jr
set_option linter.unusedVariables false
set_option maxRecDepth 20000

theorem Tryz.jinfo5 : (Tryz.prog.info? 5).map (fun i => (i.zero, i.size, i.bytes)) = some (some (.int .u8 0), 1, 1) := by kernel_rfl

namespace Jr
theorem zeros_map (n : Nat) : (madeCells #[Value.int .u8 0] n).toList = (List.replicate n (0 : Int)).map (Value.int .u8) := by
  simp [madeCells, Nat.mod_one, List.map_const']
def headBody (g : Nat) : List Int := [72, 0, 0, 0] ++ le g 8 ++ List.replicate 111 0
theorem length_headBody (g : Nat) : (headBody g).length = 123 := by simp [headBody, length_le]
theorem bytes_rep (n : Nat) : Bytes (List.replicate n (0 : Int)) := fun x hx => by rw [List.eq_of_mem_replicate hx]; omega
theorem bytes_headBody (g : Nat) : Bytes (headBody g) := ((by intro x hx; simp at hx; omega : Bytes [72, 0, 0, 0]).append (bytes_le g 8)).append (bytes_rep 111)
theorem head_lay (g : Nat) : lay ((List.replicate 128 (0 : Int)).set 0 72) 4 (le g 8) = headBody g ++ List.replicate 5 0 := by
  have e : (List.replicate 128 (0 : Int)).set 0 72 = [72, 0, 0, 0] ++ List.replicate 124 0 := rfl
  rw [e, lay, length_le, headBody]
  rfl
theorem bytes_seald {b : List Int} (h : Bytes b) : Bytes (seald b) := (h.append (bytes_le _ _)).append (by intro x hx; simp at hx; omega)
theorem bytes_headB (g : Nat) : Bytes (headB g) := bytes_seald (bytes_headBody g)
end Jr

set_option maxHeartbeats 1000000 in
theorem head_any (n : Nat) (w : World) (hT : Tab w) (hn : n < 9223372036854775808) :
    Calls Tryz.prog 83 #[.int .i64 n] w fun e w' => e = .returned (.slice (some ⟨w.heap.size, 0, none⟩) 128 128) ∧
      w'.ownsRow w.heap.size 5 1 (.slice (some ⟨w.heap.size, 0, none⟩) 128 128) 128 ((headB n).map (Value.int .u8)) ∧ Below w.heap.size w w' := by
  obtain ⟨i0, hi, hz0, hz1, hz2⟩ := info_parts Tryz.jinfo5
  have hTl : 1 < w.heap.size := World.block_lt_of_cell? _ _ (hT 0 (by omega))
  have HT := hid hT
  clear hT
  go_enter Tryz.func83, Tryz.ntmps83
  go_wp2_with (at_make; go_must (refine wpList_make_full _ rfl _ _ 29 rfl w.heap.size 5 i0 (.int .u8 0) 1 Tryz.underlying29 hi hz0 hz1 .i64 .i64 128 128 128 rfl rfl rfl rfl (by rw [hz2]; omega) (by unfold maxLen; omega) (Nat.le_refl _) ?_))
  intro w1 hown hgrow
  rw [zeros_map] at hown
  have hb1 : Below w.heap.size w w1 := (Below.refl _ _).grown hgrow (by simp) (by intro q hq; cases hq)
  have hc0 : w1.cell? ⟨w.heap.size, 0, none⟩ = some (.int .u8 0) := by rw [hown.cellAt 0 (by omega)]; rfl
  have hf0 : w1.frozen? ⟨w.heap.size, 0, none⟩ = false := hown.frozenAt 0
  have h2 := (hown.stored 0 (.int .u8 72)).1
  obtain ⟨W2, g2⟩ : ∃ W2, W2 = w1.setCell ⟨w.heap.size, 0, none⟩ (.int .u8 72) := ⟨_, rfl⟩
  rw [← g2, ← List.map_set] at h2
  have hb2 : Below w.heap.size w W2 := by rw [g2]; exact hb1.setCell (p := ⟨w.heap.size, 0, none⟩) (Nat.le_refl _) _
  have G2 := hid g2
  have kp := hid (putlow_any w.heap.size 4 8 124 128 128 n _ w.heap.size W2 h2 (by omega) (by omega) hn)
  have hsz : w.heap.size < W2.heap.size := (h2.lt _ rfl).2
  rw [head_lay] at kp
  clear hown hgrow h2 g2
  go_wp2_with fail
  rw [← G2.out]
  refine kp.out.mono ?_
  rintro r w3 ⟨rfl, ho3, hu3⟩
  have hb3 : Below w.heap.size w w3 := hb2.trans (hu3.below (by omega) (by intro x hx; omega))
  have ks := hid (sealed_any w.heap.size 128 (headBody n) (List.replicate 5 0) w.heap.size w3 ho3 (length_headBody n) (bytes_headBody n) (HT.out.below hb3 hTl) hTl)
  have hsz3 : w.heap.size < w3.heap.size := (ho3.lt _ rfl).2
  clear ho3 hu3 kp
  go_wp2_with fail
  refine ks.out.mono ?_
  rintro r w4 ⟨rfl, ho4, hu4⟩
  have hb4 : Below w.heap.size w w4 := hb3.trans (hu4.below (by omega) (by intro x hx; omega))
  have HO := hid ho4
  clear ho4 hu4 ks
  go_wp2_with fail
  go_ret
  exact ⟨rfl, HO.out, hb4⟩

theorem headof_any (n : Nat) (w : World) (hn : n < 9223372036854775808) : Calls Tryz.prog 82 #[.int .i64 n] w fun e w' => e = .returned (.int .i64 ((n % 2 : Nat) : Int)) ∧ w' = w := by
  go_enter Tryz.func82, Tryz.ntmps82
  go_wp2_with fail
  go_ret
  exact ⟨by simp, rfl⟩

theorem need_any (n : Nat) (w : World) (hn : n < 1000000000000) : Calls Tryz.prog 36 #[.int .i64 n] w fun e w' => e = .returned (.int .i64 (((n + 99) / 100 : Nat) : Int)) ∧ w' = w := by
  go_enter Tryz.func36, Tryz.ntmps36
  go_wp2_with fail
  go_ret
  exact ⟨by simp; omega, rfl⟩

theorem wrap_ok (s : Value) (w : World) : Calls Tryz.prog 65 #[s, .int .i64 0] w fun e w' => e = .returned .nilIface ∧ w' = w := by
  go_enter Tryz.func65, Tryz.ntmps65
  go_wp2_with fail
  go_ret
  exact ⟨rfl, rfl⟩

end Go.Proofs.YtkmnhpnlkmiiiaaGreatDoor

/- What journal's rightHead tells. -/
namespace Go.Proofs.YtkmnhpnlkmiiiaaGreatDoor
open Go.RowKit Num Jr
set_option linter.unusedVariables false
set_option maxRecDepth 20000

theorem Src.mid {w : World} {b o len : Nat} {zs : List Int} (h : Src w (some ⟨b, o, none⟩) len zs) (q n : Nat) (hq : q + n ≤ len) : Src w (some ⟨b, o + q, none⟩) n ((zs.drop q).take n) := by
  have hl := h.1
  refine ⟨by simp; omega, fun hn => ?_⟩
  obtain ⟨b', o', e, hlt, hc⟩ := h.2 (by omega)
  simp only [Option.some.injEq, Addr.mk.injEq, and_true] at e
  obtain ⟨rfl, rfl⟩ := e
  refine ⟨b, o + q, rfl, hlt, fun j hj => ?_⟩
  have := hc (q + j) (by omega)
  rw [Nat.add_assoc, this]
  congr 2
  rw [List.getD_eq_getElem?_getD, List.getD_eq_getElem?_getD, List.getElem?_take, if_pos hj, List.getElem?_drop]

/-- Bytes, held against each other. -/
theorem str_inj {xs ys : List Int} (hx : Bytes xs) (hy : Bytes ys) (h : strOfNums xs = strOfNums ys) : xs = ys := by
  have h1 : xs.map (fun n => UInt8.ofNat n.toNat) = ys.map (fun n => UInt8.ofNat n.toNat) := by
    rw [← strOfNums_data, ← strOfNums_data, h]
  have key : ∀ {zs : List Int}, Bytes zs → (zs.map (fun n => UInt8.ofNat n.toNat)).map (fun u => ((u.toNat : Nat) : Int)) = zs := by
    intro zs hz
    rw [List.map_map]
    conv => rhs; rw [← List.map_id zs]
    refine List.map_congr_left fun z hz' => ?_
    have := hz z hz'
    simp only [Function.comp, UInt8.toNat_ofNat', id]
    omega
  rw [← key hx, h1, key hy]

theorem equal_dec (a0 a1 : Option Addr) (n c m d : Nat) (xs ys : List Int) (w : World) (h0 : Src w a0 n xs) (h1 : Src w a1 m ys) (hx : Bytes xs) (hy : Bytes ys) :
    Calls Tryz.prog 12 #[.slice a0 n c, .slice a1 m d] w fun e w' => e = .returned (.bool (decide (xs = ys))) ∧ w' = w := by
  have e0 := h0.convert (P := Tryz.prog) c 29 5 9 Tryz.underlying29 Tryz.underlying5 Tryz.underlying9
  have e1 := h1.convert (P := Tryz.prog) d 29 5 9 Tryz.underlying29 Tryz.underlying5 Tryz.underlying9
  have hd : ((strOfNums xs).toList == (strOfNums ys).toList) = decide (xs = ys) := by
    by_cases h : xs = ys
    · subst h; simp
    · have hne : ¬ (strOfNums xs).toList = (strOfNums ys).toList := by
        intro hh
        refine h (str_inj hx hy ?_)
        have h2 : (strOfNums xs).data.toList = (strOfNums ys).data.toList := by simpa [ByteArray.toList_eq] using hh
        cases hA : strOfNums xs with
        | mk A => cases hB : strOfNums ys with
          | mk B => rw [hA, hB] at h2; simp only at h2; congr 1; exact Array.ext' h2
      simp [h, hne]
  rw [← hd]
  generalize strOfNums xs = S at *
  generalize strOfNums ys = R at *
  clear h0 h1 hd
  go_enter Tryz.func12, Tryz.ntmps12
  go_wp2
  go_ret
  exact ⟨rfl, rfl⟩

/-- The generation of a right head, or 0. -/
def rightH (zs : List Int) (i : Nat) : Nat :=
  if 1 ≤ lowI ((zs.drop 4).take 8) ∧ lowI ((zs.drop 4).take 8) ≤ 2147483648 ∧ (lowI ((zs.drop 4).take 8)).toNat % 2 = i ∧ zs = headB (lowI ((zs.drop 4).take 8)).toNat then (lowI ((zs.drop 4).take 8)).toNat else 0

set_option maxHeartbeats 1000000 in
theorem righthead_any (b o cap i : Nat) (zs : List Int) (w : World) (hs : Src w (some ⟨b, o, none⟩) 128 zs) (hz : Bytes zs) (hT : Tab w) (hcap : 128 ≤ cap) (hcm : cap ≤ 9223372036854775807) (hi2 : i < 2) :
    Calls Tryz.prog 66 #[.slice (some ⟨b, o, none⟩) 128 cap, .int .i64 i] w fun e w' => e = .returned (.int .i64 ((rightH zs i : Nat) : Int)) ∧ Below w.heap.size w w' := by
  have kl := hid (fun kc : Nat => low_any b (o + 4) kc ((zs.drop 4).take 8) w (hs.mid 4 8 (by omega)) ((hz.drop 4).take 8))
  have hR : rightH zs i = if 1 ≤ lowI ((zs.drop 4).take 8) ∧ lowI ((zs.drop 4).take 8) ≤ 2147483648 ∧ (lowI ((zs.drop 4).take 8)).toNat % 2 = i ∧ zs = headB (lowI ((zs.drop 4).take 8)).toNat then (lowI ((zs.drop 4).take 8)).toNat else 0 := rfl
  obtain ⟨L, gL⟩ : ∃ L, L = lowI ((zs.drop 4).take 8) := ⟨_, rfl⟩
  rw [← gL] at kl hR
  clear gL
  have i1 : (4 : Int) ≤ (cap : Int) := by omega
  have i2 : (12 : Int) ≤ (cap : Int) := by omega
  have hn4 : ¬ cap = 4 := by omega
  by_cases h1 : L < 1
  · rw [if_neg (by omega)] at hR
    rw [hR]
    clear hs hz hT hR
    go_enter Tryz.func66, Tryz.ntmps66
    go_wp2_with (go_at_call 86; refine (kl.out _).mono ?_; rintro r w1 ⟨rfl, h⟩; subst w1)
    go_ret
    exact ⟨rfl, Below.refl _ _⟩
  by_cases h2 : 2147483648 < L
  · rw [if_neg (by omega)] at hR
    rw [hR]
    clear hs hz hT hR
    go_enter Tryz.func66, Tryz.ntmps66
    go_wp2_with (go_at_call 86; refine (kl.out _).mono ?_; rintro r w1 ⟨rfl, h⟩; subst w1)
    go_ret
    exact ⟨rfl, Below.refl _ _⟩
  obtain ⟨n, rfl⟩ := Int.eq_ofNat_of_zero_le (show 0 ≤ L by omega)
  rw [Int.toNat_natCast] at hR
  have kh := hid (headof_any n w (by omega))
  by_cases h3 : n % 2 = i
  · have hh := head_any n w hT (by omega)
    have HE : Hid (∀ w', w'.ownsRow w.heap.size 5 1 (.slice (some ⟨w.heap.size, 0, none⟩) 128 128) 128 ((headB n).map (Value.int .u8)) → Below w.heap.size w w' → Calls Tryz.prog 12 #[.slice (some ⟨b, o, none⟩) 128 cap, .slice (some ⟨w.heap.size, 0, none⟩) 128 128] w' fun e w'' => e = .returned (.bool (decide (zs = headB n))) ∧ w'' = w') :=
      hid fun w' ho hb => equal_dec _ _ 128 cap 128 128 zs (headB n) w' (hs.below hb) (Src.own ho) hz (bytes_headB n)
    have HH := hid hh
    have h3' : ((n % 2 : Nat) : Int) = (i : Int) := by omega
    have h3i : (n : Int) % 2 = (i : Int) := by omega
    by_cases h4 : zs = headB n
    · have hd : decide (zs = headB n) = true := by simp [h4]
      rw [if_pos ⟨by omega, by omega, h3, h4⟩] at hR
      rw [hR]
      rw [hd] at HE
      clear hs hz hT hR hh hd h4
      go_enter Tryz.func66, Tryz.ntmps66
      go_wp2_with (first | (go_at_call 86; refine (kl.out _).mono ?_; rintro r w1 ⟨rfl, h⟩; subst w1) | (go_at_call 82; refine kh.out.mono ?_; rintro r w1 ⟨rfl, h⟩; subst w1) | (go_at_call 83; refine HH.out.mono ?_; rintro r w2 ⟨rfl, ho2, hb2⟩; have HB := hid hb2; have ke := hid (HE.out w2 ho2 hb2); clear ho2 hb2) | (go_at_call 12; refine ke.out.mono ?_; rintro r w3 ⟨rfl, h⟩; subst w3))
      go_ret
      exact ⟨rfl, HB.out⟩
    · have hd : decide (zs = headB n) = false := by simp [h4]
      rw [if_neg (by intro h; exact h4 h.2.2.2)] at hR
      rw [hR]
      rw [hd] at HE
      clear hs hz hT hR hh hd h4
      go_enter Tryz.func66, Tryz.ntmps66
      go_wp2_with (first | (go_at_call 86; refine (kl.out _).mono ?_; rintro r w1 ⟨rfl, h⟩; subst w1) | (go_at_call 82; refine kh.out.mono ?_; rintro r w1 ⟨rfl, h⟩; subst w1) | (go_at_call 83; refine HH.out.mono ?_; rintro r w2 ⟨rfl, ho2, hb2⟩; have HB := hid hb2; have ke := hid (HE.out w2 ho2 hb2); clear ho2 hb2) | (go_at_call 12; refine ke.out.mono ?_; rintro r w3 ⟨rfl, h⟩; subst w3))
      go_ret
      exact ⟨rfl, HB.out⟩
  · rw [if_neg (by intro h; exact h3 h.2.2.1)] at hR
    rw [hR]
    have h3i : ¬ (n : Int) % 2 = (i : Int) := by omega
    clear hs hz hT hR
    go_enter Tryz.func66, Tryz.ntmps66
    go_wp2_with (first | (go_at_call 86; refine (kl.out _).mono ?_; rintro r w1 ⟨rfl, h⟩; subst w1) | (go_at_call 82; refine kh.out.mono ?_; rintro r w1 ⟨rfl, h⟩; subst w1))
    go_ret
    exact ⟨rfl, Below.refl _ _⟩

end Go.Proofs.YtkmnhpnlkmiiiaaGreatDoor

/- What journal's sector.bytes does. -/
namespace Go.Proofs.YtkmnhpnlkmiiiaaGreatDoor
open Go.RowKit Num Jr
set_option linter.unusedVariables false
set_option maxRecDepth 20000

namespace Jr
/-- Bytes, and noughts behind, up to 128. -/
def pad (P : List Int) : List Int := P ++ List.replicate (128 - P.length) 0
theorem length_pad (P : List Int) (h : P.length ≤ 128) : (pad P).length = 128 := by simp [pad]; omega
theorem lay_pad (P ys : List Int) (k : Nat) (hk : P.length = k) (h : k + ys.length ≤ 128) : lay (pad P) k ys = pad (P ++ ys) := by
  subst hk
  unfold lay pad
  simp only [List.take_left', List.drop_append, List.length_append]
  rw [List.drop_eq_nil_of_le (by omega), List.nil_append, List.drop_replicate]
  congr 2
  omega
theorem set_pad (P : List Int) (y : Int) (k : Nat) (hk : P.length = k) (h : k < 128) : (pad P).set k y = pad (P ++ [y]) := by
  have h1 := lay_set (pad P) k 0 [] y rfl (by rw [length_pad P (by omega)]; omega)
  rw [lay_nil, Nat.add_zero] at h1
  rw [h1, List.nil_append, lay_pad P [y] k hk (by simp; omega)]
theorem pad_zero (P : List Int) (h : P.length < 128) : pad P = pad (P ++ [0]) := by
  unfold pad
  rw [List.append_assoc, List.length_append]
  congr 1
  rw [show 128 - P.length = (128 - (P.length + [(0 : Int)].length)) + 1 by simp; omega, List.replicate_succ]
  rfl
def sectBody (place gen number : Nat) (last : Bool) (load : List Int) : List Int :=
  [74, ((load.length : Nat) : Int)] ++ le place 2 ++ le gen 8 ++ [if last then 1 else 0] ++ le number 8 ++ load ++ List.replicate (102 - load.length) 0
theorem length_sectBody (place gen number : Nat) (last : Bool) (load : List Int) (h : load.length ≤ 100) : (sectBody place gen number last load).length = 123 := by
  simp [sectBody, length_le]; omega
theorem bytes_sectBody (place gen number : Nat) (last : Bool) (load : List Int) (h : load.length ≤ 100) (hz : Bytes load) : Bytes (sectBody place gen number last load) := by
  have h1 : Bytes [74, ((load.length : Nat) : Int)] := by intro x hx; simp at hx; omega
  have h2 : Bytes [if last then (1 : Int) else 0] := by intro x hx; simp at hx; subst hx; cases last <;> simp
  exact (((((h1.append (bytes_le place 2)).append (bytes_le gen 8)).append h2).append (bytes_le number 8)).append hz).append (bytes_rep _)
theorem pad_sect (place gen number : Nat) (last : Bool) (load : List Int) (h : load.length ≤ 100) :
    pad ([74, ((load.length : Nat) : Int)] ++ le place 2 ++ le gen 8 ++ [if last then 1 else 0] ++ le number 8 ++ load) = sectBody place gen number last load ++ List.replicate 5 0 := by
  unfold pad sectBody
  have hX : ([74, ((load.length : Nat) : Int)] ++ le place 2 ++ le gen 8 ++ [if last then 1 else 0] ++ le number 8 ++ load).length = 21 + load.length := by simp [length_le]; omega
  generalize ([74, ((load.length : Nat) : Int)] ++ le place 2 ++ le gen 8 ++ [if last then 1 else 0] ++ le number 8 ++ load) = X at hX ⊢
  rw [List.append_assoc X, List.replicate_append_replicate, hX]
  congr 2
  omega
theorem pad_sect2 (place gen number : Nat) (last : Bool) (load : List Int) (y : Int) (h : load.length ≤ 100) (hy : y = if last then 1 else 0) :
    pad ([74, ((load.length : Nat) : Int)] ++ le place 2 ++ le gen 8 ++ [y] ++ le number 8 ++ load) = sectBody place gen number last load ++ List.replicate 5 0 := by subst hy; exact pad_sect place gen number last load h
theorem bytes_sectB (place gen number : Nat) (last : Bool) (load : List Int) (h : load.length ≤ 100) (hz : Bytes load) : Bytes (sectB place gen number last load) := bytes_seald (bytes_sectBody place gen number last load h hz)
end Jr

/-- A row of 128 bytes of our own: some, and noughts behind. -/
structure Rw (W0 : World) (G : Nat) (P : List Int) (wx : World) : Prop where
  own : wx.ownsRow G 5 1 (.slice (some ⟨G, 0, none⟩) 128 128) 128 ((pad P).map (Value.int .u8))
  bel : Below G W0 wx
theorem Rw.drew {W0 : World} {G : Nat} {P : List Int} {wx : World} (h : Rw W0 G P wx) : Rw W0 G P wx.drew := ⟨h.own, below_drewN h.bel 1⟩
theorem putlow_pad (W0 : World) (G : Nat) (P : List Int) (k m nn kc : Nat) (wx : World) (h : Rw W0 G P wx) (hk : P.length = k) (hm : k + m ≤ 128) (hm8 : m ≤ 8) (hn : nn < 9223372036854775808) :
    Calls Tryz.prog 71 #[.slice (some ⟨G, k, none⟩) m kc, .int .i64 nn] wx fun e w' => e = .returned (.tuple #[]) ∧ Rw W0 G (P ++ le nn m) w' := by
  refine (putlow_any G k m kc 128 128 nn (pad P) G wx h.own hm hm8 hn).mono ?_
  rintro r w1 ⟨rfl, ho, hu⟩
  rw [lay_pad P (le nn m) k hk (by rw [length_le]; omega)] at ho
  have hsz := (h.own.lt G rfl).2
  exact ⟨rfl, ho, h.bel.trans (hu.below (by omega) (by intro x hx; omega))⟩

theorem Rw.copied {W0 : World} {G : Nat} {P : List Int} {wx : World} (h : Rw W0 G P wx) (k : Nat) (hk : P.length = k) (ys : List Int) (hy : k + ys.length ≤ 128) {cur : List Value} (hc : wx.heap[G]? = some (.cells cur.toArray 5 (0, 0))) (hct : cur = (pad P).map (Value.int .u8)) :
    Rw W0 G (P ++ ys) (wx.setRow G (cur.toArray.toList.take k ++ ys.map (Value.int .u8) ++ cur.toArray.toList.drop (k + (ys.map (Value.int .u8)).length)).toArray) := by
  have e : cur.toArray.toList.take k ++ ys.map (Value.int .u8) ++ cur.toArray.toList.drop (k + (ys.map (Value.int .u8)).length) = (pad (P ++ ys)).map (Value.int .u8) := by
    rw [← lay_pad P ys k hk hy, lay, hct]
    simp [List.map_take, List.map_drop]
  rw [e]
  have hl : (pad (P ++ ys)).length = 128 := length_pad _ (by simp; omega)
  refine ⟨⟨by simp [hl], .inr ⟨G, 128, _, rfl, Nat.le_refl _, setRow_heap wx G _ _ _ _ hc, by omega, by unfold maxLen; omega, by simp [hl], ?_⟩⟩, ?_⟩
  · show List.take _ ((pad (P ++ ys)).map (Value.int .u8)) = _
    rw [List.take_of_length_le (by simp [hl])]
  · exact h.bel.trans ⟨rfl, rfl, rfl, by simp, fun j hj => setRow_other wx G j _ (by omega)⟩

set_option maxHeartbeats 2000000 in
theorem sbytes_any (place gen num : Nat) (last : Bool) (lb lo ln lc : Nat) (load : List Int) (w : World) (hs : Src w (some ⟨lb, lo, none⟩) ln load) (hz : Bytes load) (hT : Tab w) (hln : ln ≤ 100) (hlc : ln ≤ lc) (hlm : lc ≤ 9223372036854775807)
    (hp : place < 9223372036854775808) (hg : gen < 9223372036854775808) (hn : num < 9223372036854775808) :
    Calls Tryz.prog 54 #[.agg #[.int .i64 place, .int .i64 gen, .int .i64 num, .bool last, .slice (some ⟨lb, lo, none⟩) ln lc]] w fun e w' => e = .returned (.slice (some ⟨w.heap.size + 1, 0, none⟩) 128 128) ∧
      w'.ownsRow (w.heap.size + 1) 5 1 (.slice (some ⟨w.heap.size + 1, 0, none⟩) 128 128) 128 ((sectB place gen num last load).map (Value.int .u8)) ∧ Below w.heap.size w w' := by
  obtain ⟨i0, hi, hz0, hz1, hz2⟩ := info_parts Tryz.jinfo5
  have hll : load.length = ln := hs.1
  have hTl : 1 < w.heap.size := World.block_lt_of_cell? _ _ (hT 0 (by omega))
  have HT := hid hT
  have HS := hid hs
  have HZ := hid hz
  obtain ⟨W0, g0⟩ : ∃ W0, W0 = w.alloc (.cells #[.int .i64 place, .int .i64 gen, .int .i64 num, .bool last, .slice (some ⟨lb, lo, none⟩) ln lc] 98) := ⟨_, rfl⟩
  have hs0 : W0.heap.size = w.heap.size + 1 := by rw [g0]; simp
  have hb0 : Below w.heap.size w W0 := by rw [g0]; exact (Below.refl _ _).alloc (Nat.le_refl _) _
  have hbox : W0.heap[w.heap.size]? = some (.cells #[.int .i64 place, .int .i64 gen, .int .i64 num, .bool last, .slice (some ⟨lb, lo, none⟩) ln lc] 98 (0, 0)) := by rw [g0]; exact heap_alloc_new _ _
  have G0 := hid g0
  clear hT hs hz g0
  go_enter Tryz.func54, Tryz.ntmps54
  go_wp2_with (at_make; rw [← G0.out]; go_must (refine wpList_make_full _ rfl _ _ 29 rfl W0.heap.size 5 i0 (.int .u8 0) 1 Tryz.underlying29 hi hz0 hz1 .i64 .i64 128 128 128 rfl rfl rfl rfl (by rw [hz2]; omega) (by unfold maxLen; omega) (Nat.le_refl _) ?_))
  intro w1 hown hgrow
  rw [zeros_map] at hown
  obtain ⟨G, gG⟩ : ∃ G, G = w.heap.size + 1 := ⟨_, rfl⟩
  rw [← gG] at hown hs0 ⊢
  obtain ⟨q, gq⟩ : ∃ q, q = w.heap.size := ⟨_, rfl⟩
  have hb1 : Below G W0 w1 := by rw [← hs0]; exact (Below.refl _ _).grown hgrow (by simp) (by intro q hq; cases hq)
  have hqG : q < G := by omega
  have hbx : ∀ (wx : World), Below G W0 wx → wx.heap[q]? = some (.cells #[.int .i64 place, .int .i64 gen, .int .i64 num, .bool last, .slice (some ⟨lb, lo, none⟩) ln lc] 98 (0, 0)) := by
    intro wx hb; rw [hb.block q hqG, gq]; exact hbox
  have HBX := hid hbx
  have hne : ¬ q = G := by omega
  have hne' : ¬ G = q := by omega
  have c4 : w1.cell? ⟨q, 4, none⟩ = some (.slice (some ⟨lb, lo, none⟩) ln lc) := heap_cells (hbx w1 hb1) 4 _ rfl
  have hc0 : w1.cell? ⟨G, 0, none⟩ = some (.int .u8 0) := by rw [hown.cellAt 0 (by omega)]; rfl
  have hf0 : w1.frozen? ⟨G, 0, none⟩ = false := hown.frozenAt 0
  have hc1 : w1.cell? ⟨G, 1, none⟩ = some (.int .u8 0) := by rw [hown.cellAt 1 (by omega)]; rfl
  have hf1 : w1.frozen? ⟨G, 1, none⟩ = false := hown.frozenAt 1
  have hw8 : IntKind.u8.wrap (ln : Int) = (ln : Int) := by rw [IntKind.wrap_u8]; omega
  have h2 := ((hown.stored 0 (.int .u8 74)).1.stored 1 (.int .u8 (ln : Int))).1
  obtain ⟨W2, g2⟩ : ∃ W2, W2 = (w1.setCell ⟨G, 0, none⟩ (.int .u8 74)).setCell ⟨G, 1, none⟩ (.int .u8 (ln : Int)) := ⟨_, rfl⟩
  rw [← g2, ← List.map_set, ← List.map_set] at h2
  have e2 : ((List.replicate 128 (0 : Int)).set 0 74).set 1 (ln : Int) = pad [74, (ln : Int)] := rfl
  rw [e2] at h2
  have hb2 : Below G W0 W2 := by rw [g2]; exact (hb1.setCell (p := ⟨G, 0, none⟩) (Nat.le_refl _) _).setCell (p := ⟨G, 1, none⟩) (Nat.le_refl _) _
  have G2 := hid g2
  have H2 := hid h2
  rw [← gq]
  have GG := hid gG
  have GQ := hid gq
  have HB := hid hbox
  have HB0 := hid hb0
  clear hown hgrow h2 g2 hbx e2 gG gq hbox hb0 hTl
  go_wp2_with fail
  rw [← G2.out]
  have R2 : Rw W0 G [74, (ln : Int)] W2 := ⟨H2.out, hb2⟩
  have q0 : W2.cell? ⟨q, 0, none⟩ = some (.int .i64 place) := heap_cells (HBX.out W2 hb2) 0 _ rfl
  have k3 := hid (fun kc : Nat => putlow_pad W0 G _ 2 2 place kc W2.drew R2.drew rfl (by omega) (by omega) hp)
  clear G2 H2 hb2 hb1 c4 hc0 hf0 hc1 hf1 hw8 R2
  go_region_held3 (fun wx => wx.cell? ⟨q, 0, none⟩ = some (.int .i64 place)) (go_keep) (first | (go_at_call 71; refine (k3.out _).mono ?_; rintro r w3 ⟨rfl, R3⟩; have q3 : w3.cell? ⟨q, 0, none⟩ = some (.int .i64 place) := heap_cells (HBX.out w3 R3.bel) 0 _ rfl))
  have k4 := hid (fun kc : Nat => putlow_pad W0 G _ 4 8 gen kc w3.drew R3.drew (by simp [length_le]) (by omega) (by omega) hg)
  have q4 : w3.cell? ⟨q, 1, none⟩ = some (.int .i64 gen) := heap_cells (HBX.out w3 R3.bel) 1 _ rfl
  clear k3 q0 q3 R3
  go_wp2_with fail
  go_region_held3 (fun wx => wx.cell? ⟨q, 1, none⟩ = some (.int .i64 gen)) (go_keep) (first | (go_at_call 71; refine (k4.out _).mono ?_; rintro r w4 ⟨rfl, R4⟩; have q5 : w4.cell? ⟨q, 1, none⟩ = some (.int .i64 gen) := heap_cells (HBX.out w4 R4.bel) 1 _ rfl))
  have c3 : w4.cell? ⟨q, 3, none⟩ = some (.bool last) := heap_cells (HBX.out w4 R4.bel) 3 _ rfl
  have hl4 : ([74, (ln : Int)] ++ le place 2 ++ le gen 8).length = 12 := by simp [length_le]
  have hc12 : w4.cell? ⟨G, 12, none⟩ = some (.int .u8 0) := by
    rw [R4.own.cellAt 12 (by omega), List.getElem?_map, pad, List.getElem?_append_right (by omega), hl4]; rfl
  have hf12 : w4.frozen? ⟨G, 12, none⟩ = false := R4.own.frozenAt 12
  have R5t : Rw W0 G ([74, (ln : Int)] ++ le place 2 ++ le gen 8 ++ [1]) (w4.setCell ⟨G, 12, none⟩ (.int .u8 1)) := by
    refine ⟨?_, R4.bel.setCell (p := ⟨G, 12, none⟩) (Nat.le_refl _) _⟩
    have := (R4.own.stored 12 (.int .u8 1)).1
    rwa [← List.map_set, set_pad _ _ 12 hl4 (by omega)] at this
  have R5f : Rw W0 G ([74, (ln : Int)] ++ le place 2 ++ le gen 8 ++ [0]) w4 := by
    refine ⟨?_, R4.bel⟩
    rw [← pad_zero _ (by omega)]
    exact R4.own
  clear k4 q4 q5 R4
  cases last with
  | true =>
    have R5 : Rw W0 G ([74, (ln : Int)] ++ le place 2 ++ le gen 8 ++ [1]) (w4.setCell ⟨G, 12, none⟩ (.int .u8 1)) := R5t
    obtain ⟨W5, g5⟩ : ∃ W5, W5 = w4.setCell ⟨G, 12, none⟩ (.int .u8 1) := ⟨_, rfl⟩
    rw [← g5] at R5
    have G5 := hid g5
    clear g5 R5t R5f
    go_wp2_with fail
    rw [← G5.out]
    have k6 := hid (fun kc : Nat => putlow_pad W0 G _ 13 8 num kc W5.drew R5.drew (by simp [length_le]) (by omega) (by omega) hn)
    have q6 : W5.cell? ⟨q, 2, none⟩ = some (.int .i64 num) := heap_cells (HBX.out W5 R5.bel) 2 _ rfl
    clear R5
    go_region_held3 (fun wx => wx.cell? ⟨q, 2, none⟩ = some (.int .i64 num)) (go_keep) (first | (go_at_call 71; refine (k6.out _).mono ?_; rintro r w6 ⟨rfl, R6⟩; have q7 : w6.cell? ⟨q, 2, none⟩ = some (.int .i64 num) := heap_cells (HBX.out w6 R6.bel) 2 _ rfl))
    have c6 : w6.cell? ⟨q, 4, none⟩ = some (.slice (some ⟨lb, lo, none⟩) ln lc) := heap_cells (HBX.out w6 R6.bel) 4 _ rfl
    obtain ⟨cur, hcur, _, _, hk3, hk4⟩ := own_heap R6.own
    have hcl : cur = (pad ([74, (ln : Int)] ++ le place 2 ++ le gen 8 ++ [1] ++ le num 8)).map (Value.int .u8) := by
      rw [← hk4, List.take_of_length_le (by omega)]
    have hbw : Below w.heap.size w w6 := HB0.out.trans (R6.bel.mono (by have := GG.out; omega))
    have hsw : Src w6.drew (some ⟨lb, lo, none⟩) ln load := HS.out.below (below_drewN hbw 1)
    have crun := run_copy_row2 (P := Tryz.prog) w6.drew 29 29 3 5 1 G 21 107 107 ⟨lb, lo, none⟩ ln lc ln cur.toArray 5 (load.map (Value.int .u8)) Tryz.underlying29 Tryz.psz5 hcur (by simp only [Nat.min_def]; split <;> omega) (by simp [hll]) (src_cells hsw) (by simp [hll]; omega) (u8_one _)
    have R7 := R6.drew.copied 21 (by simp [length_le]) load (by omega) (cur := cur) hcur hcl
    obtain ⟨W7, g7⟩ : ∃ W7, W7 = w6.drew.setRow G (cur.toArray.toList.take 21 ++ load.map (Value.int .u8) ++ cur.toArray.toList.drop (21 + (load.map (Value.int .u8)).length)).toArray := ⟨_, rfl⟩
    rw [← g7] at crun R7
    have q8 : W7.cell? ⟨q, 4, none⟩ = some (.slice (some ⟨lb, lo, none⟩) ln lc) := heap_cells (HBX.out W7 R7.bel) 4 _ rfl
    have hbw7 : Below w.heap.size w W7 := HB0.out.trans (R7.bel.mono (by have := GG.out; omega))
    have ho7 := R7.own
    rw [← hll, pad_sect2 place gen num true load 1 (by omega) rfl] at ho7
    have hTl : 1 < w.heap.size := World.block_lt_of_cell? _ _ (HT.out 0 (by omega))
    have ks := hid (sealed_any G 128 (sectBody place gen num true load) (List.replicate 5 0) G W7 ho7 (length_sectBody _ _ _ _ _ (by omega)) (bytes_sectBody _ _ _ _ _ (by omega) HZ.out) (HT.out.below hbw7 hTl) (by have := GG.out; omega))
    have hG7 : G < W7.heap.size := (ho7.lt G rfl).2
    have HB7 := hid hbw7
    clear k6 q6 q7 R6 hcur hk3 hk4 hcl hbw hsw R7 g7 ho7 hTl hbw7
    go_wp2_with fail
    go_region_held3 (fun wx => wx.cell? ⟨q, 4, none⟩ = some (.slice (some ⟨lb, lo, none⟩) ln lc)) (first | go_keep | exact q8) (fail)
    go_wp2_with fail
    refine ks.out.mono ?_
    rintro r w8 ⟨rfl, ho8, hu8⟩
    have HO := hid ho8
    have HB8 := hid (HB7.out.trans (hu8.below (B := w.heap.size) HB7.out.size (by intro x hx; have := GG.out; omega)))
    clear ho8 hu8 ks
    go_wp2_with fail
    go_ret
    have hG := GG.out
    subst hG
    exact ⟨rfl, HO.out, HB8.out⟩
  | false =>
    have R5 : Rw W0 G ([74, (ln : Int)] ++ le place 2 ++ le gen 8 ++ [0]) w4 := R5f
    obtain ⟨W5, g5⟩ : ∃ W5, W5 = w4 := ⟨_, rfl⟩
    clear R5t R5f
    go_wp2_with fail
    subst g5
    have k6 := hid (fun kc : Nat => putlow_pad W0 G _ 13 8 num kc W5.drew R5.drew (by simp [length_le]) (by omega) (by omega) hn)
    have q6 : W5.cell? ⟨q, 2, none⟩ = some (.int .i64 num) := heap_cells (HBX.out W5 R5.bel) 2 _ rfl
    clear R5
    go_region_held3 (fun wx => wx.cell? ⟨q, 2, none⟩ = some (.int .i64 num)) (go_keep) (first | (go_at_call 71; refine (k6.out _).mono ?_; rintro r w6 ⟨rfl, R6⟩; have q7 : w6.cell? ⟨q, 2, none⟩ = some (.int .i64 num) := heap_cells (HBX.out w6 R6.bel) 2 _ rfl))
    have c6 : w6.cell? ⟨q, 4, none⟩ = some (.slice (some ⟨lb, lo, none⟩) ln lc) := heap_cells (HBX.out w6 R6.bel) 4 _ rfl
    obtain ⟨cur, hcur, _, _, hk3, hk4⟩ := own_heap R6.own
    have hcl : cur = (pad ([74, (ln : Int)] ++ le place 2 ++ le gen 8 ++ [0] ++ le num 8)).map (Value.int .u8) := by
      rw [← hk4, List.take_of_length_le (by omega)]
    have hbw : Below w.heap.size w w6 := HB0.out.trans (R6.bel.mono (by have := GG.out; omega))
    have hsw : Src w6.drew (some ⟨lb, lo, none⟩) ln load := HS.out.below (below_drewN hbw 1)
    have crun := run_copy_row2 (P := Tryz.prog) w6.drew 29 29 3 5 1 G 21 107 107 ⟨lb, lo, none⟩ ln lc ln cur.toArray 5 (load.map (Value.int .u8)) Tryz.underlying29 Tryz.psz5 hcur (by simp only [Nat.min_def]; split <;> omega) (by simp [hll]) (src_cells hsw) (by simp [hll]; omega) (u8_one _)
    have R7 := R6.drew.copied 21 (by simp [length_le]) load (by omega) (cur := cur) hcur hcl
    obtain ⟨W7, g7⟩ : ∃ W7, W7 = w6.drew.setRow G (cur.toArray.toList.take 21 ++ load.map (Value.int .u8) ++ cur.toArray.toList.drop (21 + (load.map (Value.int .u8)).length)).toArray := ⟨_, rfl⟩
    rw [← g7] at crun R7
    have q8 : W7.cell? ⟨q, 4, none⟩ = some (.slice (some ⟨lb, lo, none⟩) ln lc) := heap_cells (HBX.out W7 R7.bel) 4 _ rfl
    have hbw7 : Below w.heap.size w W7 := HB0.out.trans (R7.bel.mono (by have := GG.out; omega))
    have ho7 := R7.own
    rw [← hll, pad_sect2 place gen num false load 0 (by omega) rfl] at ho7
    have hTl : 1 < w.heap.size := World.block_lt_of_cell? _ _ (HT.out 0 (by omega))
    have ks := hid (sealed_any G 128 (sectBody place gen num false load) (List.replicate 5 0) G W7 ho7 (length_sectBody _ _ _ _ _ (by omega)) (bytes_sectBody _ _ _ _ _ (by omega) HZ.out) (HT.out.below hbw7 hTl) (by have := GG.out; omega))
    have hG7 : G < W7.heap.size := (ho7.lt G rfl).2
    have HB7 := hid hbw7
    clear k6 q6 q7 R6 hcur hk3 hk4 hcl hbw hsw R7 g7 ho7 hTl hbw7
    go_wp2_with fail
    go_region_held3 (fun wx => wx.cell? ⟨q, 4, none⟩ = some (.slice (some ⟨lb, lo, none⟩) ln lc)) (first | go_keep | exact q8) (fail)
    go_wp2_with fail
    refine ks.out.mono ?_
    rintro r w8 ⟨rfl, ho8, hu8⟩
    have HO := hid ho8
    have HB8 := hid (HB7.out.trans (hu8.below (B := w.heap.size) HB7.out.size (by intro x hx; have := GG.out; omega)))
    clear ho8 hu8 ks
    go_wp2_with fail
    go_ret
    have hG := GG.out
    subst hG
    exact ⟨rfl, HO.out, HB8.out⟩

end Go.Proofs.YtkmnhpnlkmiiiaaGreatDoor

/- What journal's areaOf does. -/
namespace Go.Proofs.YtkmnhpnlkmiiiaaGreatDoor
open Go.RowKit Num Jr
set_option linter.unusedVariables false
set_option maxRecDepth 20000

theorem asize : (Tryz.prog.info? 57).map (·.size) = some 3 := by kernel_rfl

/-- The first sector of a generation's area, of so many sectors. -/
def firstOf (g n : Nat) : Nat := 2 + g % 2 * ((n - 2) / 2)

theorem areaof_any (g n : Nat) (w : World) (hg : g ≤ 4294967296) (h2 : 2 ≤ n) (hn : n ≤ 2048) :
    Calls Tryz.prog 60 #[.int .i64 g, .int .i64 n] w fun e w' => e = .returned (.agg #[.int .i64 g, .int .i64 ((firstOf g n : Nat) : Int), .int .i64 (((n - 2) / 2 : Nat) : Int)]) ∧ Below w.heap.size w w' := by
  have e0 : (g : Int) % 2 * (((n : Int) - 2) / 2) = ((g % 2 * ((n - 2) / 2) : Nat) : Int) := by
    rw [show ((n : Int) - 2) / 2 = (((n - 2) / 2 : Nat) : Int) by omega]; simp
  have hm : g % 2 * ((n - 2) / 2) ≤ 1 * 1023 := Nat.mul_le_mul (by omega) (by omega)
  have m1 : (0 : Int) ≤ (g : Int) % 2 * (((n : Int) - 2) / 2) := by rw [e0]; omega
  have m2 : (g : Int) % 2 * (((n : Int) - 2) / 2) ≤ 1023 := by rw [e0]; omega
  have E0 := hid e0
  clear e0 hm
  go_enter Tryz.func60, Tryz.ntmps60
  go_wp2_with fail
  refine bodyPost_ret (cell_result rfl _ _ w.heap.size 0 rfl [.int .i64 g, .int .i64 (2 + (g : Int) % 2 * (((n : Int) - 2) / 2)), .int .i64 (((n : Int) - 2) / 2)] _ (rangeAt_block (t := 57) (heap_alloc_new _ _)) Tryz.underlying57 rfl asize) rfl ?_
  refine ⟨?_, (Below.refl _ _).alloc (Nat.le_refl _) _⟩
  have f1 : (2 + (g : Int) % 2 * (((n : Int) - 2) / 2)) = ((firstOf g n : Nat) : Int) := by rw [E0.out, firstOf]; omega
  have f2 : ((n : Int) - 2) / 2 = (((n - 2) / 2 : Nat) : Int) := by omega
  rw [f1, f2]

end Go.Proofs.YtkmnhpnlkmiiiaaGreatDoor

/- What journal's rightSector tells. -/
namespace Go.Proofs.YtkmnhpnlkmiiiaaGreatDoor
open Go.RowKit Num Jr
set_option linter.unusedVariables false
set_option maxRecDepth 20000

theorem jsize : (Tryz.prog.info? 98).map (·.size) = some 5 := by kernel_rfl
theorem cell_result2 {P : Program} {fn : Func} {t s : Tmp} {ty : TypeId} (h : fn.results = #[.cell t ty, .tmp s]) (tmps : Array Value) (w : World) (b o : Nat) (ht : tmps.getD t undef = .pointer (some ⟨b, o, none⟩)) (v : Value) (hs : tmps.getD s undef = v) (cs : List Value) (d : TypeDesc) (hc : w.rangeAt b o cs)
    (hu : P.underlying ty = some d) (hd : d.isRow = true) (hi : (P.info? ty).map (·.size) = some cs.length) :
    (results fn tmps).run P w = .ok (.tuple #[.agg cs.toArray, v]) w := by
  have hl := run_loadVar_mid (P := P) w b o ty cs d hc hu hd hi
  rw [Array.getD_eq_getD_getElem?] at ht hs
  simp [results, h, ht, hs, asAddr, hl]

theorem jstore_as {P : Program} {ops : Array Oper} {rest : List Oper} {op : Oper} {a : Act} {w : World} {Q : Exit → Act → World → Prop} (hgd : op.guard = none) (ty : TypeId) (x y : Operand) (ho : op.op = .store ty x y)
    (b o : Nat) (cells : Array Value) (hx : a.eval x = .pointer (some ⟨b, o, none⟩)) (hy : a.eval y = .agg cells)
    (ht : w.there b o cells.size) (hi : (P.info? ty).map (·.size) = some cells.size) (h1 : cells.all (·.oneCell') = true)
    (W : World) (hW : w.setCells b o cells.toList = W)
    (h : wpList P ops Q rest (a.put op.dst undef) W) : wpList P ops Q (op :: rest) a w :=
  wpList_store_mid hgd ty x y ho b o cells hx hy ht hi h1 (hW ▸ h)

/-- Whether bytes are a right sector of a place, a generation and a group. -/
def rightS (zs : List Int) (place gen num : Nat) : Bool :=
  decide (1 ≤ zs.getD 1 0 ∧ zs.getD 1 0 ≤ 100 ∧ zs = sectB place gen num (decide (zs.getD 12 0 = 1)) ((zs.drop 21).take (zs.getD 1 0).toNat))

/-- What rightSector answers. -/
def RSP (zs : List Int) (place gen num b o : Nat) (e : Ending) : Prop :=
  if rightS zs place gen num then ∃ c, (zs.getD 1 0).toNat ≤ c ∧ c ≤ 9223372036854775807 ∧ e = .returned (.tuple #[.agg #[.int .i64 place, .int .i64 gen, .int .i64 num, .bool (decide (zs.getD 12 0 = 1)), .slice (some ⟨b, o + 21, none⟩) (zs.getD 1 0).toNat c], .bool true])
  else e = .returned (.tuple #[.agg #[.int .i64 0, .int .i64 0, .int .i64 0, .bool false, .slice none 0 0], .bool false])

set_option maxHeartbeats 2000000 in
theorem rightsector_any (b o cap place gen num : Nat) (zs : List Int) (w : World) (hs : Src w (some ⟨b, o, none⟩) 128 zs) (hz : Bytes zs) (hT : Tab w) (hcap : 128 ≤ cap) (hcm : cap ≤ 9223372036854775807)
    (hp : place < 9223372036854775808) (hg : gen < 9223372036854775808) (hn : num < 9223372036854775808) :
    Calls Tryz.prog 95 #[.slice (some ⟨b, o, none⟩) 128 cap, .int .i64 place, .int .i64 gen, .int .i64 num] w fun e w' => Below w.heap.size w w' ∧
      RSP zs place gen num b o e := by
  obtain ⟨b', o', e, hlt, hcell⟩ := hs.2 (by omega)
  simp only [Option.some.injEq, Addr.mk.injEq, and_true] at e
  obtain ⟨rfl, rfl⟩ := e
  have c1 := hcell 1 (by omega)
  have c12 := hcell 12 (by omega)
  have b1 := hz.at 1
  have hF : ∀ e, rightS zs place gen num = false → e = .returned (.tuple #[.agg #[.int .i64 0, .int .i64 0, .int .i64 0, .bool false, .slice none 0 0], .bool false]) → RSP zs place gen num b o e := by
    intro e h1 h2; unfold RSP; rw [h1]; exact h2
  have hG : ∀ e c, rightS zs place gen num = true → (zs.getD 1 0).toNat ≤ c → c ≤ 9223372036854775807 → e = .returned (.tuple #[.agg #[.int .i64 place, .int .i64 gen, .int .i64 num, .bool (decide (zs.getD 12 0 = 1)), .slice (some ⟨b, o + 21, none⟩) (zs.getD 1 0).toNat c], .bool true]) → RSP zs place gen num b o e := by
    intro e c h1 h2 h3 h4; unfold RSP; rw [h1]; exact ⟨c, h2, h3, h4⟩
  have hR : rightS zs place gen num = decide (1 ≤ zs.getD 1 0 ∧ zs.getD 1 0 ≤ 100 ∧ zs = sectB place gen num (decide (zs.getD 12 0 = 1)) ((zs.drop 21).take (zs.getD 1 0).toNat)) := rfl
  obtain ⟨u, gu⟩ : ∃ u : Int, u = zs.getD 1 0 := ⟨_, rfl⟩
  obtain ⟨l, gl⟩ : ∃ l : Int, l = zs.getD 12 0 := ⟨_, rfl⟩
  rw [← gu] at c1 b1 hR hG
  rw [← gl] at c12 hR hG
  obtain ⟨U, rfl⟩ := Int.eq_ofNat_of_zero_le b1.1
  rw [Int.toNat_natCast] at hR hG
  clear gu gl hcell
  have HF0 := hid hF
  have HG0 := hid hG
  clear hF hG
  by_cases h1 : U < 1 ∨ 100 < U
  · have hf : rightS zs place gen num = false := by rw [hR]; simp; omega
    have HF := hid hf
    clear hR hf hs hz hT
    rcases h1 with h1 | h1
    · go_enter Tryz.func95, Tryz.ntmps95
      go_wp2_with fail
      refine bodyPost_ret (cell_result2 rfl _ _ w.heap.size 0 rfl _ rfl [.int .i64 0, .int .i64 0, .int .i64 0, .bool false, .slice none 0 0] _ (rangeAt_block (t := 98) (heap_alloc_new _ _)) Tryz.underlying98 rfl jsize) rfl ?_
      exact ⟨(Below.refl _ _).alloc (Nat.le_refl _) _, HF0.out _ HF.out rfl⟩
    · go_enter Tryz.func95, Tryz.ntmps95
      go_wp2_with fail
      refine bodyPost_ret (cell_result2 rfl _ _ w.heap.size 0 rfl _ rfl [.int .i64 0, .int .i64 0, .int .i64 0, .bool false, .slice none 0 0] _ (rangeAt_block (t := 98) (heap_alloc_new _ _)) Tryz.underlying98 rfl jsize) rfl ?_
      exact ⟨(Below.refl _ _).alloc (Nat.le_refl _) _, HF0.out _ HF.out rfl⟩
  · have u1 : (1 : Int) ≤ (U : Int) := by omega
    have u2 : (U : Int) ≤ 100 := by omega
    have hblt : b < w.heap.size := hlt
    obtain ⟨W0, g0⟩ : ∃ W0, W0 = w.alloc (.cells #[.int .i64 0, .int .i64 0, .int .i64 0, .bool false, .slice none 0 0] 98) := ⟨_, rfl⟩
    have hs0 : W0.heap.size = w.heap.size + 1 := by rw [g0]; simp
    have hb0 : Below w.heap.size w W0 := by rw [g0]; exact (Below.refl _ _).alloc (Nat.le_refl _) _
    have d12 : W0.cell? ⟨b, o + 12, none⟩ = some (.int .u8 l) := (hb0.cell (p := ⟨b, o + 12, none⟩) hlt).trans c12
    have d1 : W0.cell? ⟨b, o + 1, none⟩ = some (.int .u8 U) := (hb0.cell (p := ⟨b, o + 1, none⟩) hlt).trans c1
    have i1 : (21 : Int) ≤ (cap : Int) := by omega
    have i2 : (21 : Int) + (U : Int) ≤ (cap : Int) := by omega
    have i3 : ¬ cap = 21 := by omega
    have i4 : (21 : Int) ≤ 21 + (U : Int) := by omega
    have i5 : (0 : Int) ≤ 21 + (U : Int) := by omega
    have i6 : IntKind.i64.wrap (21 + (U : Int)) = 21 + (U : Int) := by rw [IntKind.wrap_i64]; omega
    have i7 : (21 : Int) + (U : Int) ≤ 9223372036854775807 := by omega
    have i8 : 21 + U ≤ cap := by omega
    have hnn := World.new_ne W0 ⟨b, o + 12, none⟩ d12
    have G0 := hid g0
    have HS := hid hs
    have HZ := hid hz
    have HT := hid hT
    have HR := hid hR
    clear hs hz hT hR g0
    go_enter Tryz.func95, Tryz.ntmps95
    go_wp2_with fail
    rw [← G0.out]
    go_region_held3 (fun wx => wx.cell? ⟨b, o + 12, none⟩ = some (.int .u8 l)) (go_keep) (fail)
    have hU : (21 + (U : Int)).toNat - 21 = U := by omega
    have hl1 : (l == 1) = decide (l = 1) := rfl
    rw [hU, hl1]
    obtain ⟨D, gD⟩ : ∃ D, D = decide (l = 1) := ⟨_, rfl⟩
    obtain ⟨c, gc⟩ : ∃ c, c = cap - 21 := ⟨_, rfl⟩
    rw [← gD, ← gc]
    have hc1 : U ≤ c := by omega
    have hc2 : c ≤ 9223372036854775807 := by omega
    obtain ⟨W1, g1⟩ : ∃ W1, W1 = (W0.alloc (.cells #[.int .i64 place, .int .i64 gen, .int .i64 num, .bool D, .slice (some ⟨b, o + 21, none⟩) U c] 98)).drew := ⟨_, rfl⟩
    rw [← g1]
    obtain ⟨q, gq⟩ : ∃ q, q = w.heap.size := ⟨_, rfl⟩
    have hs1 : W1.heap.size = q + 2 := by rw [g1, gq]; simp [hs0]
    have hbx : W1.heap[q + 1]? = some (.cells #[.int .i64 place, .int .i64 gen, .int .i64 num, .bool D, .slice (some ⟨b, o + 21, none⟩) U c] 98 (0, 0)) := by
      rw [g1, gq, ← hs0]; exact heap_alloc_new W0 _
    have hb1 : Below w.heap.size w W1 := by rw [g1]; exact (hb0.alloc (by omega) _).drew
    have hz0 : W1.heap[q]? = some (.cells #[.int .i64 0, .int .i64 0, .int .i64 0, .bool false, .slice none 0 0] 98 (0, 0)) := by
      have hbW : Below W0.heap.size W0 W1 := by rw [g1]; exact ((Below.refl _ _).alloc (Nat.le_refl _) _).drew
      rw [hbW.block q (by omega), G0.out, gq]; exact heap_alloc_new w _
    have x0 : W1.cell? ⟨q + 1, 0, none⟩ = some (.int .i64 place) := heap_cells hbx 0 _ rfl
    have x1 : W1.cell? ⟨q + 1, 1, none⟩ = some (.int .i64 gen) := heap_cells hbx 1 _ rfl
    have x2 : W1.cell? ⟨q + 1, 2, none⟩ = some (.int .i64 num) := heap_cells hbx 2 _ rfl
    have x3 : W1.cell? ⟨q + 1, 3, none⟩ = some (.bool D) := heap_cells hbx 3 _ rfl
    have x4 : W1.cell? ⟨q + 1, 4, none⟩ = some (.slice (some ⟨b, o + 21, none⟩) U c) := heap_cells hbx 4 _ rfl
    have hsub : Src W1 (some ⟨b, o + 21, none⟩) U ((zs.drop 21).take U) := (HS.out.mid 21 U (by omega)).below hb1
    have kb := hid (sbytes_any place gen num D b (o + 21) U c _ W1 hsub ((HZ.out.drop 21).take U) (HT.out.below hb1 (World.block_lt_of_cell? _ _ (HT.out 0 (by omega)))) (by omega) hc1 hc2 hp hg hn)
    have GQ := hid gq
    have HB1 := hid hb1
    have GD := hid gD
    rw [← gq]
    clear hnn d12 d1 c1 c12 hsub g1 gq gD gc hb1 hb0 hs0 G0 hU hl1 hcap hcm i1 i2 i3 i4 i5 i6 i7 i8
    go_wp2_with (first | (go_at_call 54; refine kb.out.mono ?_; rintro r w2 ⟨rfl, ho2, hb2⟩))
    have hbx2 : w2.heap[q + 1]? = some (.cells #[.int .i64 place, .int .i64 gen, .int .i64 num, .bool D, .slice (some ⟨b, o + 21, none⟩) U c] 98 (0, 0)) := by
      rw [hb2.block (q + 1) (by omega)]; exact hbx
    have hz2 : w2.heap[q]? = some (.cells #[.int .i64 0, .int .i64 0, .int .i64 0, .bool false, .slice none 0 0] 98 (0, 0)) := by
      rw [hb2.block q (by omega)]; exact hz0
    have hbw : Below w.heap.size w w2 := HB1.out.trans (hb2.mono (by have := GQ.out; omega))
    have ke := hid (equal_dec _ _ 128 cap 128 128 zs _ w2 (HS.out.below hbw) (Src.own ho2) HZ.out (bytes_sectB place gen num D _ (by simp; omega) ((HZ.out.drop 21).take U)))
    rw [hs1] at ke
    have HBW := hid hbw
    clear kb hbx hz0 x0 x1 x2 x3 x4 ho2 hb2 hbw HB1
    by_cases hE : zs = sectB place gen num D ((zs.drop 21).take U)
    · have hd : decide (zs = sectB place gen num D ((zs.drop 21).take U)) = true := decide_eq_true hE
      rw [hd] at ke
      have hf : rightS zs place gen num = true := by rw [HR.out, ← GD.out]; exact decide_eq_true ⟨u1, u2, hE⟩
      have HF := hid hf
      have y0 : w2.cell? ⟨q + 1, 0, none⟩ = some (.int .i64 place) := heap_cells hbx2 0 _ rfl
      have y1 : w2.cell? ⟨q + 1, 1, none⟩ = some (.int .i64 gen) := heap_cells hbx2 1 _ rfl
      have y2 : w2.cell? ⟨q + 1, 2, none⟩ = some (.int .i64 num) := heap_cells hbx2 2 _ rfl
      have y3 : w2.cell? ⟨q + 1, 3, none⟩ = some (.bool D) := heap_cells hbx2 3 _ rfl
      have y4 : w2.cell? ⟨q + 1, 4, none⟩ = some (.slice (some ⟨b, o + 21, none⟩) U c) := heap_cells hbx2 4 _ rfl
      clear hE hd hf
      have hth := there_of_block (C := [.int .i64 0, .int .i64 0, .int .i64 0, .bool false, .slice none 0 0]) hz2 0 5 (by simp)
      obtain ⟨W3, g3⟩ : ∃ W3, w2.setCells q 0 [.int .i64 place, .int .i64 gen, .int .i64 num, .bool D, .slice (some ⟨b, o + 21, none⟩) U c] = W3 := ⟨_, rfl⟩
      have hW3 : W3.heap[q]? = some (.cells ([.int .i64 place, .int .i64 gen, .int .i64 num, .bool D, .slice (some ⟨b, o + 21, none⟩) U c] : List Value).toArray 98 (0, 0)) := by
        rw [← g3, heap_setCells q 98 _ 0 w2 [.int .i64 0, .int .i64 0, .int .i64 0, .bool false, .slice none 0 0] hz2 (by simp)]; simp [splice]
      have HB3 : Hid (Below w.heap.size w W3) := hid (by
        rw [← g3]
        exact HBW.out.trans ((upd_setCells q _ 0 w2).below HBW.out.size (by intro x hx; have := GQ.out; omega)))
      have G3 := hid g3
      have HTH := hid hth
      clear g3 hth
      go_wp2_with (first | (go_at_call 12; refine ke.out.mono ?_; rintro r w3 ⟨rfl, h⟩; subst w3) | (refine jstore_as rfl 98 (.tmp 8) (.tmp 41) rfl q 0 ([.int .i64 place, .int .i64 gen, .int .i64 num, .bool D, .slice (some ⟨b, o + 21, none⟩) U c] : List Value).toArray rfl rfl HTH.out jsize (by simp [Value.oneCell']) W3 G3.out ?_))
      refine bodyPost_ret (cell_result2 rfl _ _ q 0 rfl _ rfl [.int .i64 place, .int .i64 gen, .int .i64 num, .bool D, .slice (some ⟨b, o + 21, none⟩) U c] _ (rangeAt_block (t := 98) hW3) Tryz.underlying98 rfl jsize) rfl ?_
      refine ⟨HB3.out, ?_⟩
      exact HG0.out _ c HF.out hc1 hc2 (by rw [← GD.out]; rfl)
    · have hd : decide (zs = sectB place gen num D ((zs.drop 21).take U)) = false := decide_eq_false hE
      rw [hd] at ke
      have hf : rightS zs place gen num = false := by rw [HR.out, ← GD.out]; exact decide_eq_false (fun h => hE h.2.2)
      have HF := hid hf
      clear hE hd hf
      have hth := there_of_block (C := [.int .i64 0, .int .i64 0, .int .i64 0, .bool false, .slice none 0 0]) hz2 0 5 (by simp)
      obtain ⟨W3, g3⟩ : ∃ W3, w2.setCells q 0 [.int .i64 0, .int .i64 0, .int .i64 0, .bool false, .slice none 0 0] = W3 := ⟨_, rfl⟩
      have hW3 : W3.heap[q]? = some (.cells ([.int .i64 0, .int .i64 0, .int .i64 0, .bool false, .slice none 0 0] : List Value).toArray 98 (0, 0)) := by
        rw [← g3, heap_setCells q 98 _ 0 w2 [.int .i64 0, .int .i64 0, .int .i64 0, .bool false, .slice none 0 0] hz2 (by simp)]; simp [splice]
      have HB3 : Hid (Below w.heap.size w W3) := hid (by
        rw [← g3]
        exact HBW.out.trans ((upd_setCells q _ 0 w2).below HBW.out.size (by intro x hx; have := GQ.out; omega)))
      have G3 := hid g3
      have HTH := hid hth
      clear g3 hth
      go_wp2_with (first | (go_at_call 12; refine ke.out.mono ?_; rintro r w3 ⟨rfl, h⟩; subst w3) | (refine jstore_as rfl 98 (.tmp 8) (.tmp 40) rfl q 0 ([.int .i64 0, .int .i64 0, .int .i64 0, .bool false, .slice none 0 0] : List Value).toArray rfl rfl HTH.out jsize (by simp [Value.oneCell']) W3 G3.out ?_))
      refine bodyPost_ret (cell_result2 rfl _ _ q 0 rfl _ rfl [.int .i64 0, .int .i64 0, .int .i64 0, .bool false, .slice none 0 0] _ (rangeAt_block (t := 98) hW3) Tryz.underlying98 rfl jsize) rfl ?_
      refine ⟨HB3.out, ?_⟩
      exact HF0.out _ HF.out rfl

end Go.Proofs.YtkmnhpnlkmiiiaaGreatDoor
