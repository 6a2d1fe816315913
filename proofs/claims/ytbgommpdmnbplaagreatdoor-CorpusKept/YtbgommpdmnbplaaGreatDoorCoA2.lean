/- The corpus and what it stands on, merged. -/
import Derived.Test.YtbgommpdmnbplaaGreatDoorChecked
import Derived.Test.YtbgommpdmnbplaaGreatDoorCoA1
import Derived.Laws.BytesArg
import Derived.Deep.MidRow
import Derived.Deep.WholeRow
import Derived.Carry
import Derived.Deep.RegionHeld3

/- What bytes.Equal does with bytes that are the same: it tells so; nothing turns. -/
namespace Go.Proofs.YtbgommpdmnbplaaGreatDoor
open Go.RowKit
set_option maxRecDepth 20000

/-- Bytes, turned into a text. -/
theorem Src.convert {P : Program} {w : World} {a0 : Option Addr} {len : Nat} {zs : List Int} (h : Src w a0 len zs) (c : Nat) (src e dst : TypeId)
    (hs : P.underlying src = some (.slice e)) (he : P.underlying e = some (.int .u8)) (hd : P.underlying dst = some .string) :
    (convert src dst (.slice a0 len c)).run P w = .ok (.string (strOfNums zs)) w := by
  rcases Nat.eq_zero_or_pos len with h0 | h0
  · subst h0
    obtain rfl : zs = [] := List.eq_nil_of_length_eq_zero h.1
    cases a0 with
    | none =>
      rw [run_convert_bytes_nil w src e hs he 0 c dst hd]
      rfl
    | some a =>
      rw [run_convert_bytes_string w src dst e _ 0 c hs he hd, run_bytesToString w _ 0 c [] (by rfl)]
      rfl
  · obtain ⟨b, o, rfl, _, hc⟩ := h.2 h0
    exact run_convert_bytes_arg (P := P) w src e hs he b o len c zs h.1 hc dst hd

set_option maxHeartbeats 400000 in
theorem equal_yes (a0 a1 : Option Addr) (n c m d : Nat) (xs : List Int) (w : World) (h0 : Src w a0 n xs) (h1 : Src w a1 m xs) :
    Calls Tryz.prog 83 #[.slice a0 n c, .slice a1 m d] w fun e w' => e = .returned (.bool true) ∧ w' = w := by
  have e0 := h0.convert (P := Tryz.prog) c 81 5 9 Tryz.underlying81 Tryz.underlying5 Tryz.underlying9
  have e1 := h1.convert (P := Tryz.prog) d 81 5 9 Tryz.underlying81 Tryz.underlying5 Tryz.underlying9
  obtain ⟨S, gS⟩ : ∃ S, S = strOfNums xs := ⟨_, rfl⟩
  rw [← gS] at e0 e1
  clear gS h0 h1
  go_enter Tryz.func83, Tryz.ntmps83
  go_wp2
  go_ret
  exact ⟨rfl, rfl⟩

end Go.Proofs.YtbgommpdmnbplaaGreatDoor

/- Cells in the middle of a block: what a store of some of them leaves; a result that lies in a cell. -/
namespace Go.Proofs.YtbgommpdmnbplaaGreatDoor
open Go.RowKit
set_option linter.unusedVariables false

theorem getElem?_splice_in {α : Type} (xs ys : List α) (o j : Nat) (h : o + ys.length ≤ xs.length) (hj : j < ys.length) : (splice xs o ys)[o + j]? = ys[j]? := by
  unfold splice
  rw [List.getElem?_append_right (by simp; omega), List.getElem?_append_left (by simp; omega)]
  congr 1; simp; omega
theorem getElem?_splice_out {α : Type} (xs ys : List α) (o j : Nat) (h : o + ys.length ≤ xs.length) (hj : j < o ∨ o + ys.length ≤ j) : (splice xs o ys)[j]? = xs[j]? := by
  unfold splice
  rcases hj with hj | hj
  · rw [List.getElem?_append_left (by simp; omega), List.getElem?_take_of_lt hj]
  · rw [List.getElem?_append_right (by simp; omega), List.getElem?_append_right (by simp; omega), List.getElem?_drop]
    congr 1; simp; omega
theorem length_splice {α : Type} (xs ys : List α) (o : Nat) (h : o + ys.length ≤ xs.length) : (splice xs o ys).length = xs.length := by
  unfold splice; simp; omega

theorem heap_setCells (p : Nat) (t : TypeId) : ∀ (vs : List Value) (o : Nat) (w : World) (C : List Value), w.heap[p]? = some (.cells C.toArray t (0, 0)) → o + vs.length ≤ C.length →
    (w.setCells p o vs).heap[p]? = some (.cells (splice C o vs).toArray t (0, 0))
  | [], o, w, C, h, _ => by simpa [World.setCells, splice] using h
  | v :: r, o, w, C, h, hl => by
    simp only [List.length_cons] at hl
    have h1 := heap_setCell_same w p o C.toArray t v h
    have e : (C.toArray.set! o v) = (C.set o v).toArray := by simp
    rw [World.setCells, heap_setCells p t r (o + 1) (w.setCell ⟨p, o, none⟩ v) (C.set o v) (by rw [h1]; simp) (by simp; omega)]
    congr 3
    apply List.ext_getElem?
    intro j
    rcases Nat.lt_or_ge j o with a | a
    · rw [getElem?_splice_out _ _ _ _ (by simp; omega) (by omega), getElem?_splice_out _ _ _ _ (by simp; omega) (by omega), List.getElem?_set_ne (by omega)]
    · rcases Nat.lt_or_ge j (o + (r.length + 1)) with b | b
      · obtain ⟨m, rfl⟩ := Nat.exists_eq_add_of_le a
        rw [getElem?_splice_in _ _ _ m (by simp; omega) (by simp; omega)]
        cases m with
        | zero => rw [getElem?_splice_out _ _ _ _ (by simp; omega) (by omega), Nat.add_zero, List.getElem?_set_self (by omega)]; simp
        | succ m => rw [show o + (m + 1) = o + 1 + m by omega, getElem?_splice_in _ _ _ m (by simp; omega) (by omega)]; simp
      · rw [getElem?_splice_out _ _ _ _ (by simp; omega) (by omega), getElem?_splice_out _ _ _ _ (by simp; omega) (by simp; omega), List.getElem?_set_ne (by omega)]

theorem upd_setCells (p : Nat) : ∀ (vs : List Value) (o : Nat) (w : World), Upd (· = p) w (w.setCells p o vs)
  | [], o, w => Upd.refl _ _
  | v :: r, o, w => by
    rw [World.setCells]
    exact (Upd.setCell (F := (· = p)) w ⟨p, o, none⟩ v rfl).trans (upd_setCells p r (o + 1) _) (fun _ _ h => h)

theorem size_setCells (p : Nat) : ∀ (vs : List Value) (o : Nat) (w : World), (w.setCells p o vs).heap.size = w.heap.size
  | [], _, _ => rfl
  | v :: r, o, w => by rw [World.setCells, size_setCells p r (o + 1)]; simp

theorem there_of_block {w : World} {p : Nat} {C : List Value} {t : TypeId} (h : w.heap[p]? = some (.cells C.toArray t (0, 0))) (o n : Nat) (hn : o + n ≤ C.length) : w.there p o n := fun j hj => by
  refine ⟨?_, ?_⟩
  · rw [cell_of_row w p (o + j) _ t (0, 0) h]; simp; omega
  · simp [World.frozen?, h]

theorem splice_all {α : Type} (xs ys : List α) (h : xs.length = ys.length) : splice xs 0 ys = ys := by
  unfold splice; simp; omega

theorem cell_result {P : Program} {fn : Func} {t : Tmp} {ty : TypeId} (h : fn.results = #[.cell t ty]) (tmps : Array Value) (w : World) (b o : Nat) (ht : tmps.getD t undef = .pointer (some ⟨b, o, none⟩)) (cs : List Value) (d : TypeDesc) (hc : w.rangeAt b o cs)
    (hu : P.underlying ty = some d) (hd : d.isRow = true) (hi : (P.info? ty).map (·.size) = some cs.length) :
    (results fn tmps).run P w = .ok (.agg cs.toArray) w := by
  have hl := run_loadVar_mid (P := P) w b o ty cs d hc hu hd hi
  rw [Array.getD_eq_getD_getElem?] at ht
  simp [results, h, ht, asAddr, hl]

theorem rangeAt_block {w : World} {b : Nat} {C : List Value} {t : TypeId} (h : w.heap[b]? = some (.cells C.toArray t (0, 0))) : w.rangeAt b 0 C := fun j v hv => by
  rw [Nat.zero_add, cell_of_row w b j _ t (0, 0) h]; simpa using hv

theorem run_cells_mid {P : Program} (w : World) (b o : Nat) (cs : List Value) (ht : w.there b o cs.length) (h1 : cs.toArray.all (·.oneCell') = true) :
    (storeCells ⟨b, o, none⟩ cs).run P w = .ok () (w.setCells b o cs) := by
  have := run_storeCells_cells (P := P) b o cs 0 w (fun j hj => by simpa using (ht j hj).1) (fun j hj => by simpa using (ht j hj).2) (fun v hv => (Array.all_eq_true_iff_forall_mem.1 h1) v (by simpa using hv))
  simpa using this

/-- A row of numbers of cells, as cells one by one. -/
theorem rangeAt_mk {w : World} {b o : Nat} {cs : List Value} (h : ∀ j, ∀ h : j < cs.length, w.cell? ⟨b, o + j, none⟩ = some cs[j]) : w.rangeAt b o cs := fun j v hv => by
  obtain ⟨hj, rfl⟩ := List.getElem?_eq_some_iff.1 hv
  exact h j hj

end Go.Proofs.YtbgommpdmnbplaaGreatDoor

/- The journal's sectors: their bytes, and what putLow, low, sealed, head, rightHead, sector.bytes, areaOf, rightSector do. -/
/- The journal's sectors as bytes, and the numbers in them: no program here. -/
namespace Go.Proofs.YtbgommpdmnbplaaGreatDoor.Jr
set_option linter.unusedVariables false
open Num

/-- The low bytes of a number, the lowest first. -/
def le (n : Nat) : Nat → List Int
  | 0 => []
  | k + 1 => le n k ++ [((n / 256 ^ k % 256 : Nat) : Int)]

theorem length_le (n : Nat) : ∀ k, (le n k).length = k
  | 0 => rfl
  | k + 1 => by simp [le, length_le n k]

theorem bytes_le (n : Nat) : ∀ k, Bytes (le n k)
  | 0 => by intro x hx; simp [le] at hx
  | k + 1 => by
    intro x hx
    simp only [le, List.mem_append, List.mem_singleton] at hx
    rcases hx with hx | hx
    · exact bytes_le n k x hx
    · omega

/-- The number that bytes are, the lowest first. -/
def num : List Int → Nat
  | [] => 0
  | x :: r => x.toNat + 256 * num r

theorem num_append (a b : List Int) : num (a ++ b) = num a + 256 ^ a.length * num b := by
  induction a with
  | nil => simp [num]
  | cons x a ih => simp only [List.cons_append, num, ih, List.length_cons, Nat.pow_succ, Nat.mul_add]; rw [Nat.mul_comm (256 ^ a.length) 256, Nat.mul_assoc]; omega

theorem num_le (n : Nat) : ∀ k, num (le n k) = n % 256 ^ k
  | 0 => by simp [le, num, Nat.mod_one]
  | k + 1 => by
    rw [le, num_append, num_le n k, length_le]
    simp only [num, Int.toNat_natCast, Nat.mul_zero, Nat.add_zero]
    have h := Nat.mod_mul (x := n) (a := 256 ^ k) (b := 256)
    rw [Nat.pow_succ, h]

theorem num_lt (zs : List Int) (hz : Bytes zs) : num zs < 256 ^ zs.length := by
  induction zs with
  | nil => simp [num]
  | cons x r ih =>
    have h1 := ih (fun y hy => hz y (by simp [hy]))
    have h2 := hz x (by simp)
    simp only [num, List.length_cons, Nat.pow_succ]
    omega

/-- Bytes, their sum and the last mark. -/
def seald (b : List Int) : List Int := b ++ le (Crc.crc b) 4 ++ [165]

/-- The head of a generation. -/
def headB (g : Nat) : List Int := seald ([72, 0, 0, 0] ++ le g 8 ++ List.replicate 111 0)

/-- A sector of a group. -/
def sectB (place gen number : Nat) (last : Bool) (load : List Int) : List Int :=
  seald ([74, ((load.length : Nat) : Int)] ++ le place 2 ++ le gen 8 ++ [if last then 1 else 0] ++ le number 8 ++ load ++ List.replicate (102 - load.length) 0)

theorem length_seal (b : List Int) : (seald b).length = b.length + 5 := by simp [seald, length_le]
theorem length_headB (g : Nat) : (headB g).length = 128 := by simp [headB, length_seal, length_le]
theorem length_sectB (place gen number : Nat) (last : Bool) (load : List Int) (h : load.length ≤ 100) : (sectB place gen number last load).length = 128 := by
  simp [sectB, length_seal, length_le]; omega

end Go.Proofs.YtbgommpdmnbplaaGreatDoor.Jr

/- What journal's putLow and low do: the low bytes of a number into a piece of a row of the caller's own; the number that eight bytes are. -/
namespace Go.Proofs.YtbgommpdmnbplaaGreatDoor
open Go.RowKit Num
set_option linter.unusedVariables false
set_option maxRecDepth 20000

namespace Jr
/-- Bytes laid over a row from a place on. -/
def lay (xs : List Int) (o : Nat) (ys : List Int) : List Int := xs.take o ++ ys ++ xs.drop (o + ys.length)
theorem length_lay (xs : List Int) (o : Nat) (ys : List Int) (h : o + ys.length ≤ xs.length) : (lay xs o ys).length = xs.length := by simp [lay]; omega
theorem lay_nil (xs : List Int) (o : Nat) : lay xs o [] = xs := by simp [lay]
theorem lay_set (xs : List Int) (o i : Nat) (ys : List Int) (y : Int) (hl : ys.length = i) (h : o + i < xs.length) : (lay xs o ys).set (o + i) y = lay xs o (ys ++ [y]) := by
  subst hl
  unfold lay
  rw [List.drop_eq_getElem_cons h, List.set_append_right _ _ (by simp; omega)]
  have e : o + ys.length - (List.take o xs ++ ys).length = 0 := by simp; omega
  rw [e]
  simp [Nat.add_assoc]
theorem lay_at (xs : List Int) (o i : Nat) (ys : List Int) (hl : ys.length = i) (h : o + i < xs.length) : (lay xs o ys)[o + i]? = xs[o + i]? := by
  subst hl
  unfold lay
  rw [List.getElem?_append_right (by simp; omega)]
  have e : o + ys.length - (List.take o xs ++ ys).length = 0 := by simp; omega
  rw [e]
  simp
theorem shr8 (n i : Nat) : (n : Int) / 2 ^ (8 * i) % 256 = ((n / 256 ^ i % 256 : Nat) : Int) := by
  rw [Int.pow_mul]; simp
end Jr
open Jr

set_option maxHeartbeats 400000 in
theorem putlow_any (g o k kc c cap nn : Nat) (xs : List Int) (B : Nat) (w : World) (ho : w.ownsRow B 5 1 (.slice (some ⟨g, 0, none⟩) c cap) c (xs.map (Value.int .u8))) (hk : o + k ≤ c) (hk8 : k ≤ 8) (hn : nn < 9223372036854775808) :
    Calls Tryz.prog 224 #[.slice (some ⟨g, o, none⟩) k kc, .int .i64 nn] w fun e w' => e = .returned (.tuple #[]) ∧
      w'.ownsRow B 5 1 (.slice (some ⟨g, 0, none⟩) c cap) c ((lay xs o (le nn k)).map (Value.int .u8)) ∧ Upd (· = g) w w' := by
  have HO := hid ho
  have hxl : xs.length = c := by have := ho.1; simpa using this
  clear ho
  go_enter Tryz.func224, Tryz.ntmps224
  go_wp2_with fail
  go_loopw [7] (fun s wr => ∃ i : Nat, i ≤ k ∧ s = .int .i64 i ∧ Hid (wr.ownsRow B 5 1 (.slice (some ⟨g, 0, none⟩) c cap) c ((lay xs o (le nn i)).map (Value.int .u8))) ∧ Upd (· = g) w wr) (fun s _ => k - (intOf s).toNat)
  case atStart => exact ⟨0, by omega, rfl, hid (by rw [le, lay_nil]; exact HO.out), Upd.refl _ _⟩
  case round =>
    obtain ⟨i, hik, rfl, HW, hu⟩ := hrel
    by_cases h : i < k
    · have hcell : wr.cell? ⟨g, o + i, none⟩ = some (.int .u8 (xs.getD (o + i) 0)) := by
        rw [HW.out.cellAt (o + i) (by omega), List.getElem?_map, lay_at _ _ _ _ (length_le _ _) (by omega), List.getD_eq_getElem?_getD, List.getElem?_eq_getElem (by omega)]; rfl
      have hfr : wr.frozen? ⟨g, o + i, none⟩ = false := HW.out.frozenAt (o + i)
      obtain ⟨z, gz⟩ : ∃ z, z = xs.getD (o + i) 0 := ⟨_, rfl⟩
      rw [← gz] at hcell
      have HN : Hid ((wr.setCell ⟨g, o + i, none⟩ (.int .u8 ((nn : Int) / 2 ^ (8 * i) % 256))).ownsRow B 5 1 (.slice (some ⟨g, 0, none⟩) c cap) c ((lay xs o (le nn (i + 1))).map (Value.int .u8))) := by
        refine hid ?_
        have := HW.out.stored (o + i) (.int .u8 ((nn : Int) / 2 ^ (8 * i) % 256))
        rw [le, ← lay_set _ _ _ _ _ (length_le _ _) (by omega), ← shr8, List.map_set]
        exact this.1
      clear gz
      go_wp2_with fail
      go_roundw
      case rel => exact ⟨i + 1, by omega, by go_num, HN, hu.trans (Upd.setCell (F := (· = g)) wr ⟨g, o + i, none⟩ _ rfl) (fun _ _ h => h)⟩
      case measure => simp [intOf]; omega
    · obtain rfl : i = k := by omega
      go_wp2_with fail
      go_end0
      exact ⟨rfl, HW.out, hu⟩

/-- A number of eight bytes, as the program's int. -/
def lowI (zs : List Int) : Int := IntKind.i64.wrap (num zs : Nat)

theorem i64_or (a i : Nat) (c : Int) (ha : a < 256 ^ i) (hc0 : 0 ≤ c) (hc : c ≤ 255) (hi : i < 8) :
    bits BinOp.or IntKind.i64 (IntKind.i64.wrap (a : Int)) (IntKind.i64.wrap (c * 2 ^ (8 * i))) = IntKind.i64.wrap ((a + 256 ^ i * c.toNat : Nat) : Int) := by
  have hw : ∀ x : Int, BitVec.ofInt 64 (IntKind.i64.wrap x) = BitVec.ofInt 64 x := by
    intro x
    apply BitVec.eq_of_toInt_eq
    rw [BitVec.toInt_ofInt, BitVec.toInt_ofInt, IntKind.wrap_i64]
    simp only [Int.bmod]
    omega
  have h := Lend.or_step a i c ha hc0 hc hi
  show IntKind.i64.wrap ((BitVec.ofInt 64 (IntKind.i64.wrap (a : Int)) ||| BitVec.ofInt 64 (IntKind.i64.wrap (c * 2 ^ (8 * i)))).toNat : Int) = _
  rw [hw, hw]
  have h' : IntKind.u64.wrap ((BitVec.ofInt 64 (a : Int) ||| BitVec.ofInt 64 (c * 2 ^ (8 * i))).toNat : Int) = ((a + 256 ^ i * c.toNat : Nat) : Int) := h
  rw [← h']
  have hlt := (BitVec.ofInt 64 (a : Int) ||| BitVec.ofInt 64 (c * 2 ^ (8 * i))).isLt
  rw [IntKind.wrap_u64]
  congr 1
  omega

theorem wrap64_of (x : Int) : wrap64 x = IntKind.i64.wrap x := by first | rfl | simp [wrap64, IntKind.wrap_i64]

set_option maxHeartbeats 400000 in
theorem low_any (b o cap : Nat) (zs : List Int) (w : World) (hs : Src w (some ⟨b, o, none⟩) 8 zs) (hz : Bytes zs) :
    Calls Tryz.prog 183 #[.slice (some ⟨b, o, none⟩) 8 cap] w fun e w' => e = .returned (.int .i64 (lowI zs)) ∧ w' = w := by
  obtain ⟨b', o', e, hlt, hcell⟩ := hs.2 (by omega)
  simp only [Option.some.injEq, Addr.mk.injEq, and_true] at e
  obtain ⟨rfl, rfl⟩ := e
  have hl := hs.1
  have HZ := hid hz
  have HC := hid hcell
  clear hs hz hcell
  go_enter Tryz.func183, Tryz.ntmps183
  go_wp2
  go_loop [3, 8] (fun n k => ∃ i : Nat, i ≤ 8 ∧ k = .int .i64 i ∧ n = .int .i64 (lowI (zs.take i))) (fun _ k => 8 - (intOf k).toNat)
  case atStart => exact ⟨0, by omega, rfl, by simp [lowI, num, IntKind.wrap_i64]⟩
  case round =>
    obtain ⟨i, hi, rfl, rfl⟩ := hrel
    by_cases h : i < 8
    · have hci := HC.out i h
      have hbi := HZ.out.at i
      have hst : lowI (zs.take (i + 1)) = bits BinOp.or IntKind.i64 (lowI (zs.take i)) (IntKind.i64.wrap (zs.getD i 0 * 2 ^ (8 * i))) := by
        rw [Lend.take_step zs i (by omega)]
        unfold lowI
        rw [i64_or (num (zs.take i)) i (zs.getD i 0) (by have := num_lt (zs.take i) (HZ.out.take i); rwa [List.length_take, Nat.min_eq_left (by omega)] at this) hbi.1 hbi.2 h, num_append, List.length_take, Nat.min_eq_left (by omega)]
        simp [num]
      obtain ⟨c, gc⟩ : ∃ c, c = zs.getD i 0 := ⟨_, rfl⟩
      obtain ⟨n0, gn⟩ : ∃ n0, n0 = lowI (zs.take i) := ⟨_, rfl⟩
      rw [← gc, ← gn] at hst
      rw [← gc] at hci hbi
      rw [← gn]
      have HST := hid hst
      clear gc gn hst
      go_wp2
      go_round
      case rel => exact ⟨i + 1, by omega, by go_num, by rw [HST.out, wrap64_of]⟩
      case measure => simp [intOf]; omega
    · have hn : ¬ (i : Int) < 8 := by omega
      go_wp2
      go_ret
      exact ⟨by rw [List.take_of_length_le (by omega)]; rfl, rfl⟩

end Go.Proofs.YtbgommpdmnbplaaGreatDoor

/- What journal's sealed and head do. -/
namespace Go.Proofs.YtbgommpdmnbplaaGreatDoor
open Go.RowKit Num Jr
set_option linter.unusedVariables false
set_option maxRecDepth 20000

namespace Jr
/-- 128 bytes of which the first 123 are b: sealed. -/
theorem seal_lay (b t : List Int) (hb : b.length = 123) (ht : t.length = 5) : (lay (b ++ t) 123 (le (Crc.crc b) 4)).set 127 165 = seald b := by
  have h := lay_set (b ++ t) 123 4 (le (Crc.crc b) 4) 165 (length_le _ _) (by simp; omega)
  rw [h]
  unfold lay seald
  simp [length_le, hb, ht]
end Jr

theorem Tab.upd {F : Nat → Prop} {w w' : World} (h : Tab w) (u : Upd F w w') (hF : ¬ F 1) : Tab w' := fun j hj => by
  have h0 := h j hj
  exact (World.cell?_of_block (a := ⟨1, j, none⟩) (u.block 1 (World.block_lt_of_cell? _ _ h0) hF)).trans h0

set_option maxHeartbeats 1000000 in
theorem sealed_any (g cap : Nat) (b t : List Int) (B : Nat) (w : World) (ho : w.ownsRow B 5 1 (.slice (some ⟨g, 0, none⟩) 128 cap) 128 ((b ++ t).map (Value.int .u8))) (hb : b.length = 123) (hz : Bytes b) (hT : Tab w) (hB : 1 < B) :
    Calls Tryz.prog 225 #[.slice (some ⟨g, 0, none⟩) 128 cap] w fun e w' => e = .returned (.slice (some ⟨g, 0, none⟩) 128 cap) ∧
      w'.ownsRow B 5 1 (.slice (some ⟨g, 0, none⟩) 128 cap) 128 ((seald b).map (Value.int .u8)) ∧ Upd (· = g) w w' := by
  have ht : t.length = 5 := by have := ho.1; simp at this; omega
  have hcrc : Crc.crc b < 4294967296 := by unfold Crc.crc; omega
  obtain ⟨_, _, hc1, hc2, _, _⟩ := own_heap ho
  have hc3 : cap ≤ 9223372036854775807 := by unfold maxLen at hc2; omega
  have hsrc : Src w (some ⟨g, 0, none⟩) 123 b := by
    have h := (Src.own ho).take 123 (by omega)
    rwa [List.take_append_of_le_length (by omega), List.take_of_length_le (by omega)] at h
  have k1 := hid (sum_any (some ⟨g, 0, none⟩) 123 cap b w.drew hsrc hz hT (by omega))
  have k2 := hid (fun kc : Nat => putlow_any g 123 4 kc 128 cap (Crc.crc b) (b ++ t) B w.drew ho (by omega) (by omega) (by omega))
  obtain ⟨C, gC⟩ : ∃ C, C = Crc.crc b := ⟨_, rfl⟩
  have HS := hid (seal_lay b t hb ht)
  rw [← gC] at k1 k2 HS hcrc
  have hwr : IntKind.i64.wrap (C : Int) = (C : Int) := by rw [IntKind.wrap_i64]; omega
  have k3 : ∀ kc : Nat, Calls Tryz.prog 224 #[.slice (some ⟨g, 123, none⟩) 4 kc, .int .i64 (IntKind.i64.wrap (C : Int))] w.drew fun e w' => e = .returned (.tuple #[]) ∧
      w'.ownsRow B 5 1 (.slice (some ⟨g, 0, none⟩) 128 cap) 128 ((lay (b ++ t) 123 (le C 4)).map (Value.int .u8)) ∧ Upd (· = g) w.drew w' := fun kc => by rw [hwr]; exact k2.out kc
  have k4 := hid k3
  have hn3 : ¬ cap = 123 := by omega
  clear ho hz hT hsrc gC hc2 hwr k2 k3
  have i0 : (0 : Int) ≤ (cap : Int) := by omega
  have i1 : (123 : Int) ≤ (cap : Int) := by omega
  have i2 : (127 : Int) ≤ (cap : Int) := by omega
  have i3 : (128 : Int) ≤ (cap : Int) := by omega
  go_enter Tryz.func225, Tryz.ntmps225
  go_wp2_with fail
  go_region_held3 (fun _ => True) (trivial) (first | (go_at_call 244; refine k1.out.mono ?_; rintro r w4 ⟨rfl, h⟩; subst w4) | (go_at_call 224; refine (k4.out _).mono ?_; rintro r w4 ⟨rfl, ho4, hu4⟩))
  have hc7 : w4.cell? ⟨g, 127, none⟩ = some (.int .u8 (t.getD 4 0)) := by
    rw [ho4.cellAt 127 (by omega), List.getElem?_map]
    have := lay_at (b ++ t) 123 4 (le C 4) (length_le _ _) (by simp; omega)
    rw [show (127 : Nat) = 123 + 4 by rfl, this, List.getElem?_append_right (by omega), hb]
    rw [List.getD_eq_getElem?_getD, List.getElem?_eq_getElem (by omega)]; rfl
  have hf7 : w4.frozen? ⟨g, 127, none⟩ = false := ho4.frozenAt 127
  have hs := (ho4.stored 127 (.int .u8 165)).1
  rw [← List.map_set, HS.out] at hs
  have HF := hid hs
  have HU : Hid (Upd (· = g) w (w4.setCell ⟨g, 127, none⟩ (.int .u8 165))) := hid ((show Upd (· = g) w w4 from ⟨hu4.os, hu4.tape, hu4.output, hu4.size, hu4.block⟩).trans (Upd.setCell (F := (· = g)) w4 ⟨g, 127, none⟩ _ rfl) (fun _ _ h => h))
  clear ho4 hs hu4
  go_wp2_with fail
  go_ret
  exact ⟨rfl, HF.out, HU.out⟩

end Go.Proofs.YtbgommpdmnbplaaGreatDoor

/- What journal's head, headOf, areaOf, need, and below's Wrap of no error do. -/
namespace Go.Proofs.YtbgommpdmnbplaaGreatDoor
open Go.RowKit Num Jr
set_option linter.unusedVariables false
set_option maxRecDepth 20000

theorem Tryz.jinfo5 : (Tryz.prog.info? 5).map (fun i => (i.zero, i.size, i.bytes)) = some (some (.int .u8 0), 1, 1) := by kernel_rfl

namespace Jr
theorem zeros_map (n : Nat) : (madeCells #[Value.int .u8 0] n).toList = (List.replicate n (0 : Int)).map (Value.int .u8) := by
  simp [madeCells, Nat.mod_one, List.map_const']
def headBody (g : Nat) : List Int := [72, 0, 0, 0] ++ le g 8 ++ List.replicate 111 0
theorem length_headBody (g : Nat) : (headBody g).length = 123 := by simp [headBody, length_le]
theorem bytes_rep (n : Nat) : Bytes (List.replicate n (0 : Int)) := fun x hx => by rw [List.eq_of_mem_replicate hx]; omega
theorem bytes_headBody (g : Nat) : Bytes (headBody g) := ((by intro x hx; simp at hx; omega : Bytes [72, 0, 0, 0]).append (bytes_le g 8)).append (bytes_rep 111)
theorem head_lay (g : Nat) : lay ((List.replicate 128 (0 : Int)).set 0 72) 4 (le g 8) = headBody g ++ List.replicate 5 0 := by
  have e : (List.replicate 128 (0 : Int)).set 0 72 = [72, 0, 0, 0] ++ List.replicate 124 0 := rfl
  rw [e, lay, length_le, headBody]
  rfl
theorem bytes_seald {b : List Int} (h : Bytes b) : Bytes (seald b) := (h.append (bytes_le _ _)).append (by intro x hx; simp at hx; omega)
theorem bytes_headB (g : Nat) : Bytes (headB g) := bytes_seald (bytes_headBody g)
end Jr

set_option maxHeartbeats 1000000 in
theorem head_any (n : Nat) (w : World) (hT : Tab w) (hn : n < 9223372036854775808) :
    Calls Tryz.prog 185 #[.int .i64 n] w fun e w' => e = .returned (.slice (some ⟨w.heap.size, 0, none⟩) 128 128) ∧
      w'.ownsRow w.heap.size 5 1 (.slice (some ⟨w.heap.size, 0, none⟩) 128 128) 128 ((headB n).map (Value.int .u8)) ∧ Below w.heap.size w w' := by
  obtain ⟨i0, hi, hz0, hz1, hz2⟩ := info_parts Tryz.jinfo5
  have hTl : 1 < w.heap.size := World.block_lt_of_cell? _ _ (hT 0 (by omega))
  have HT := hid hT
  clear hT
  go_enter Tryz.func185, Tryz.ntmps185
  go_wp2_with (at_make; go_must (refine wpList_make_full _ rfl _ _ 81 rfl w.heap.size 5 i0 (.int .u8 0) 1 Tryz.underlying81 hi hz0 hz1 .i64 .i64 128 128 128 rfl rfl rfl rfl (by rw [hz2]; omega) (by unfold maxLen; omega) (Nat.le_refl _) ?_))
  intro w1 hown hgrow
  rw [zeros_map] at hown
  have hb1 : Below w.heap.size w w1 := (Below.refl _ _).grown hgrow (by simp) (by intro q hq; cases hq)
  have hc0 : w1.cell? ⟨w.heap.size, 0, none⟩ = some (.int .u8 0) := by rw [hown.cellAt 0 (by omega)]; rfl
  have hf0 : w1.frozen? ⟨w.heap.size, 0, none⟩ = false := hown.frozenAt 0
  have h2 := (hown.stored 0 (.int .u8 72)).1
  obtain ⟨W2, g2⟩ : ∃ W2, W2 = w1.setCell ⟨w.heap.size, 0, none⟩ (.int .u8 72) := ⟨_, rfl⟩
  rw [← g2, ← List.map_set] at h2
  have hb2 : Below w.heap.size w W2 := by rw [g2]; exact hb1.setCell (p := ⟨w.heap.size, 0, none⟩) (Nat.le_refl _) _
  have G2 := hid g2
  have kp := hid (putlow_any w.heap.size 4 8 124 128 128 n _ w.heap.size W2 h2 (by omega) (by omega) hn)
  have hsz : w.heap.size < W2.heap.size := (h2.lt _ rfl).2
  rw [head_lay] at kp
  clear hown hgrow h2 g2
  go_wp2_with fail
  rw [← G2.out]
  refine kp.out.mono ?_
  rintro r w3 ⟨rfl, ho3, hu3⟩
  have hb3 : Below w.heap.size w w3 := hb2.trans (hu3.below (by omega) (by intro x hx; omega))
  have ks := hid (sealed_any w.heap.size 128 (headBody n) (List.replicate 5 0) w.heap.size w3 ho3 (length_headBody n) (bytes_headBody n) (HT.out.below hb3 hTl) hTl)
  have hsz3 : w.heap.size < w3.heap.size := (ho3.lt _ rfl).2
  clear ho3 hu3 kp
  go_wp2_with fail
  refine ks.out.mono ?_
  rintro r w4 ⟨rfl, ho4, hu4⟩
  have hb4 : Below w.heap.size w w4 := hb3.trans (hu4.below (by omega) (by intro x hx; omega))
  have HO := hid ho4
  clear ho4 hu4 ks
  go_wp2_with fail
  go_ret
  exact ⟨rfl, HO.out, hb4⟩

theorem headof_any (n : Nat) (w : World) (hn : n < 9223372036854775808) : Calls Tryz.prog 184 #[.int .i64 n] w fun e w' => e = .returned (.int .i64 ((n % 2 : Nat) : Int)) ∧ w' = w := by
  go_enter Tryz.func184, Tryz.ntmps184
  go_wp2_with fail
  go_ret
  exact ⟨by simp, rfl⟩

theorem need_any (n : Nat) (w : World) (hn : n < 1000000000000) : Calls Tryz.prog 190 #[.int .i64 n] w fun e w' => e = .returned (.int .i64 (((n + 99) / 100 : Nat) : Int)) ∧ w' = w := by
  go_enter Tryz.func190, Tryz.ntmps190
  go_wp2_with fail
  go_ret
  exact ⟨by simp; omega, rfl⟩

theorem wrap_ok (s : Value) (w : World) : Calls Tryz.prog 132 #[s, .int .i64 0] w fun e w' => e = .returned .nilIface ∧ w' = w := by
  go_enter Tryz.func132, Tryz.ntmps132
  go_wp2_with fail
  go_ret
  exact ⟨rfl, rfl⟩

end Go.Proofs.YtbgommpdmnbplaaGreatDoor

/- What journal's rightHead tells. -/
namespace Go.Proofs.YtbgommpdmnbplaaGreatDoor
open Go.RowKit Num Jr
set_option linter.unusedVariables false
set_option maxRecDepth 20000

theorem Src.mid {w : World} {b o len : Nat} {zs : List Int} (h : Src w (some ⟨b, o, none⟩) len zs) (q n : Nat) (hq : q + n ≤ len) : Src w (some ⟨b, o + q, none⟩) n ((zs.drop q).take n) := by
  have hl := h.1
  refine ⟨by simp; omega, fun hn => ?_⟩
  obtain ⟨b', o', e, hlt, hc⟩ := h.2 (by omega)
  simp only [Option.some.injEq, Addr.mk.injEq, and_true] at e
  obtain ⟨rfl, rfl⟩ := e
  refine ⟨b, o + q, rfl, hlt, fun j hj => ?_⟩
  have := hc (q + j) (by omega)
  rw [Nat.add_assoc, this]
  congr 2
  rw [List.getD_eq_getElem?_getD, List.getD_eq_getElem?_getD, List.getElem?_take, if_pos hj, List.getElem?_drop]

/-- Bytes, held against each other. -/
theorem str_inj {xs ys : List Int} (hx : Bytes xs) (hy : Bytes ys) (h : strOfNums xs = strOfNums ys) : xs = ys := by
  have h1 : xs.map (fun n => UInt8.ofNat n.toNat) = ys.map (fun n => UInt8.ofNat n.toNat) := by
    rw [← strOfNums_data, ← strOfNums_data, h]
  have key : ∀ {zs : List Int}, Bytes zs → (zs.map (fun n => UInt8.ofNat n.toNat)).map (fun u => ((u.toNat : Nat) : Int)) = zs := by
    intro zs hz
    rw [List.map_map]
    conv => rhs; rw [← List.map_id zs]
    refine List.map_congr_left fun z hz' => ?_
    have := hz z hz'
    simp only [Function.comp, UInt8.toNat_ofNat', id]
    omega
  rw [← key hx, h1, key hy]

theorem equal_dec (a0 a1 : Option Addr) (n c m d : Nat) (xs ys : List Int) (w : World) (h0 : Src w a0 n xs) (h1 : Src w a1 m ys) (hx : Bytes xs) (hy : Bytes ys) :
    Calls Tryz.prog 83 #[.slice a0 n c, .slice a1 m d] w fun e w' => e = .returned (.bool (decide (xs = ys))) ∧ w' = w := by
  have e0 := h0.convert (P := Tryz.prog) c 81 5 9 Tryz.underlying81 Tryz.underlying5 Tryz.underlying9
  have e1 := h1.convert (P := Tryz.prog) d 81 5 9 Tryz.underlying81 Tryz.underlying5 Tryz.underlying9
  have hd : ((strOfNums xs).toList == (strOfNums ys).toList) = decide (xs = ys) := by
    by_cases h : xs = ys
    · subst h; simp
    · have hne : ¬ (strOfNums xs).toList = (strOfNums ys).toList := by
        intro hh
        refine h (str_inj hx hy ?_)
        have h2 : (strOfNums xs).data.toList = (strOfNums ys).data.toList := by simpa [ByteArray.toList_eq] using hh
        cases hA : strOfNums xs with
        | mk A => cases hB : strOfNums ys with
          | mk B => rw [hA, hB] at h2; simp only at h2; congr 1; exact Array.ext' h2
      simp [h, hne]
  rw [← hd]
  generalize strOfNums xs = S at *
  generalize strOfNums ys = R at *
  clear h0 h1 hd
  go_enter Tryz.func83, Tryz.ntmps83
  go_wp2
  go_ret
  exact ⟨rfl, rfl⟩

/-- The generation of a right head, or 0. -/
def rightH (zs : List Int) (i : Nat) : Nat :=
  if 1 ≤ lowI ((zs.drop 4).take 8) ∧ lowI ((zs.drop 4).take 8) ≤ 2147483648 ∧ (lowI ((zs.drop 4).take 8)).toNat % 2 = i ∧ zs = headB (lowI ((zs.drop 4).take 8)).toNat then (lowI ((zs.drop 4).take 8)).toNat else 0

set_option maxHeartbeats 1000000 in
theorem righthead_any (b o cap i : Nat) (zs : List Int) (w : World) (hs : Src w (some ⟨b, o, none⟩) 128 zs) (hz : Bytes zs) (hT : Tab w) (hcap : 128 ≤ cap) (hcm : cap ≤ 9223372036854775807) (hi2 : i < 2) :
    Calls Tryz.prog 134 #[.slice (some ⟨b, o, none⟩) 128 cap, .int .i64 i] w fun e w' => e = .returned (.int .i64 ((rightH zs i : Nat) : Int)) ∧ Below w.heap.size w w' := by
  have kl := hid (fun kc : Nat => low_any b (o + 4) kc ((zs.drop 4).take 8) w (hs.mid 4 8 (by omega)) ((hz.drop 4).take 8))
  have hR : rightH zs i = if 1 ≤ lowI ((zs.drop 4).take 8) ∧ lowI ((zs.drop 4).take 8) ≤ 2147483648 ∧ (lowI ((zs.drop 4).take 8)).toNat % 2 = i ∧ zs = headB (lowI ((zs.drop 4).take 8)).toNat then (lowI ((zs.drop 4).take 8)).toNat else 0 := rfl
  obtain ⟨L, gL⟩ : ∃ L, L = lowI ((zs.drop 4).take 8) := ⟨_, rfl⟩
  rw [← gL] at kl hR
  clear gL
  have i1 : (4 : Int) ≤ (cap : Int) := by omega
  have i2 : (12 : Int) ≤ (cap : Int) := by omega
  have hn4 : ¬ cap = 4 := by omega
  by_cases h1 : L < 1
  · rw [if_neg (by omega)] at hR
    rw [hR]
    clear hs hz hT hR
    go_enter Tryz.func134, Tryz.ntmps134
    go_wp2_with (go_at_call 183; refine (kl.out _).mono ?_; rintro r w1 ⟨rfl, h⟩; subst w1)
    go_ret
    exact ⟨rfl, Below.refl _ _⟩
  by_cases h2 : 2147483648 < L
  · rw [if_neg (by omega)] at hR
    rw [hR]
    clear hs hz hT hR
    go_enter Tryz.func134, Tryz.ntmps134
    go_wp2_with (go_at_call 183; refine (kl.out _).mono ?_; rintro r w1 ⟨rfl, h⟩; subst w1)
    go_ret
    exact ⟨rfl, Below.refl _ _⟩
  obtain ⟨n, rfl⟩ := Int.eq_ofNat_of_zero_le (show 0 ≤ L by omega)
  rw [Int.toNat_natCast] at hR
  have kh := hid (headof_any n w (by omega))
  by_cases h3 : n % 2 = i
  · have hh := head_any n w hT (by omega)
    have HE : Hid (∀ w', w'.ownsRow w.heap.size 5 1 (.slice (some ⟨w.heap.size, 0, none⟩) 128 128) 128 ((headB n).map (Value.int .u8)) → Below w.heap.size w w' → Calls Tryz.prog 83 #[.slice (some ⟨b, o, none⟩) 128 cap, .slice (some ⟨w.heap.size, 0, none⟩) 128 128] w' fun e w'' => e = .returned (.bool (decide (zs = headB n))) ∧ w'' = w') :=
      hid fun w' ho hb => equal_dec _ _ 128 cap 128 128 zs (headB n) w' (hs.below hb) (Src.own ho) hz (bytes_headB n)
    have HH := hid hh
    have h3' : ((n % 2 : Nat) : Int) = (i : Int) := by omega
    have h3i : (n : Int) % 2 = (i : Int) := by omega
    by_cases h4 : zs = headB n
    · have hd : decide (zs = headB n) = true := by simp [h4]
      rw [if_pos ⟨by omega, by omega, h3, h4⟩] at hR
      rw [hR]
      rw [hd] at HE
      clear hs hz hT hR hh hd h4
      go_enter Tryz.func134, Tryz.ntmps134
      go_wp2_with (first | (go_at_call 183; refine (kl.out _).mono ?_; rintro r w1 ⟨rfl, h⟩; subst w1) | (go_at_call 184; refine kh.out.mono ?_; rintro r w1 ⟨rfl, h⟩; subst w1) | (go_at_call 185; refine HH.out.mono ?_; rintro r w2 ⟨rfl, ho2, hb2⟩; have HB := hid hb2; have ke := hid (HE.out w2 ho2 hb2); clear ho2 hb2) | (go_at_call 83; refine ke.out.mono ?_; rintro r w3 ⟨rfl, h⟩; subst w3))
      go_ret
      exact ⟨rfl, HB.out⟩
    · have hd : decide (zs = headB n) = false := by simp [h4]
      rw [if_neg (by intro h; exact h4 h.2.2.2)] at hR
      rw [hR]
      rw [hd] at HE
      clear hs hz hT hR hh hd h4
      go_enter Tryz.func134, Tryz.ntmps134
      go_wp2_with (first | (go_at_call 183; refine (kl.out _).mono ?_; rintro r w1 ⟨rfl, h⟩; subst w1) | (go_at_call 184; refine kh.out.mono ?_; rintro r w1 ⟨rfl, h⟩; subst w1) | (go_at_call 185; refine HH.out.mono ?_; rintro r w2 ⟨rfl, ho2, hb2⟩; have HB := hid hb2; have ke := hid (HE.out w2 ho2 hb2); clear ho2 hb2) | (go_at_call 83; refine ke.out.mono ?_; rintro r w3 ⟨rfl, h⟩; subst w3))
      go_ret
      exact ⟨rfl, HB.out⟩
  · rw [if_neg (by intro h; exact h3 h.2.2.1)] at hR
    rw [hR]
    have h3i : ¬ (n : Int) % 2 = (i : Int) := by omega
    clear hs hz hT hR
    go_enter Tryz.func134, Tryz.ntmps134
    go_wp2_with (first | (go_at_call 183; refine (kl.out _).mono ?_; rintro r w1 ⟨rfl, h⟩; subst w1) | (go_at_call 184; refine kh.out.mono ?_; rintro r w1 ⟨rfl, h⟩; subst w1))
    go_ret
    exact ⟨rfl, Below.refl _ _⟩

end Go.Proofs.YtbgommpdmnbplaaGreatDoor

/- What journal's sector.bytes does. -/
namespace Go.Proofs.YtbgommpdmnbplaaGreatDoor
open Go.RowKit Num Jr
set_option linter.unusedVariables false
set_option maxRecDepth 20000

namespace Jr
/-- Bytes, and noughts behind, up to 128. -/
def pad (P : List Int) : List Int := P ++ List.replicate (128 - P.length) 0
theorem length_pad (P : List Int) (h : P.length ≤ 128) : (pad P).length = 128 := by simp [pad]; omega
theorem lay_pad (P ys : List Int) (k : Nat) (hk : P.length = k) (h : k + ys.length ≤ 128) : lay (pad P) k ys = pad (P ++ ys) := by
  subst hk
  unfold lay pad
  simp only [List.take_left', List.drop_append, List.length_append]
  rw [List.drop_eq_nil_of_le (by omega), List.nil_append, List.drop_replicate]
  congr 2
  omega
theorem set_pad (P : List Int) (y : Int) (k : Nat) (hk : P.length = k) (h : k < 128) : (pad P).set k y = pad (P ++ [y]) := by
  have h1 := lay_set (pad P) k 0 [] y rfl (by rw [length_pad P (by omega)]; omega)
  rw [lay_nil, Nat.add_zero] at h1
  rw [h1, List.nil_append, lay_pad P [y] k hk (by simp; omega)]
theorem pad_zero (P : List Int) (h : P.length < 128) : pad P = pad (P ++ [0]) := by
  unfold pad
  rw [List.append_assoc, List.length_append]
  congr 1
  rw [show 128 - P.length = (128 - (P.length + [(0 : Int)].length)) + 1 by simp; omega, List.replicate_succ]
  rfl
def sectBody (place gen number : Nat) (last : Bool) (load : List Int) : List Int :=
  [74, ((load.length : Nat) : Int)] ++ le place 2 ++ le gen 8 ++ [if last then 1 else 0] ++ le number 8 ++ load ++ List.replicate (102 - load.length) 0
theorem length_sectBody (place gen number : Nat) (last : Bool) (load : List Int) (h : load.length ≤ 100) : (sectBody place gen number last load).length = 123 := by
  simp [sectBody, length_le]; omega
theorem bytes_sectBody (place gen number : Nat) (last : Bool) (load : List Int) (h : load.length ≤ 100) (hz : Bytes load) : Bytes (sectBody place gen number last load) := by
  have h1 : Bytes [74, ((load.length : Nat) : Int)] := by intro x hx; simp at hx; omega
  have h2 : Bytes [if last then (1 : Int) else 0] := by intro x hx; simp at hx; subst hx; cases last <;> simp
  exact (((((h1.append (bytes_le place 2)).append (bytes_le gen 8)).append h2).append (bytes_le number 8)).append hz).append (bytes_rep _)
theorem pad_sect (place gen number : Nat) (last : Bool) (load : List Int) (h : load.length ≤ 100) :
    pad ([74, ((load.length : Nat) : Int)] ++ le place 2 ++ le gen 8 ++ [if last then 1 else 0] ++ le number 8 ++ load) = sectBody place gen number last load ++ List.replicate 5 0 := by
  unfold pad sectBody
  have hX : ([74, ((load.length : Nat) : Int)] ++ le place 2 ++ le gen 8 ++ [if last then 1 else 0] ++ le number 8 ++ load).length = 21 + load.length := by simp [length_le]; omega
  generalize ([74, ((load.length : Nat) : Int)] ++ le place 2 ++ le gen 8 ++ [if last then 1 else 0] ++ le number 8 ++ load) = X at hX ⊢
  rw [List.append_assoc X, List.replicate_append_replicate, hX]
  congr 2
  omega
theorem pad_sect2 (place gen number : Nat) (last : Bool) (load : List Int) (y : Int) (h : load.length ≤ 100) (hy : y = if last then 1 else 0) :
    pad ([74, ((load.length : Nat) : Int)] ++ le place 2 ++ le gen 8 ++ [y] ++ le number 8 ++ load) = sectBody place gen number last load ++ List.replicate 5 0 := by subst hy; exact pad_sect place gen number last load h
theorem bytes_sectB (place gen number : Nat) (last : Bool) (load : List Int) (h : load.length ≤ 100) (hz : Bytes load) : Bytes (sectB place gen number last load) := bytes_seald (bytes_sectBody place gen number last load h hz)
end Jr

/-- A row of 128 bytes of our own: some, and noughts behind. -/
structure Rw (W0 : World) (G : Nat) (P : List Int) (wx : World) : Prop where
  own : wx.ownsRow G 5 1 (.slice (some ⟨G, 0, none⟩) 128 128) 128 ((pad P).map (Value.int .u8))
  bel : Below G W0 wx
theorem Rw.drew {W0 : World} {G : Nat} {P : List Int} {wx : World} (h : Rw W0 G P wx) : Rw W0 G P wx.drew := ⟨h.own, below_drewN h.bel 1⟩
theorem putlow_pad (W0 : World) (G : Nat) (P : List Int) (k m nn kc : Nat) (wx : World) (h : Rw W0 G P wx) (hk : P.length = k) (hm : k + m ≤ 128) (hm8 : m ≤ 8) (hn : nn < 9223372036854775808) :
    Calls Tryz.prog 224 #[.slice (some ⟨G, k, none⟩) m kc, .int .i64 nn] wx fun e w' => e = .returned (.tuple #[]) ∧ Rw W0 G (P ++ le nn m) w' := by
  refine (putlow_any G k m kc 128 128 nn (pad P) G wx h.own hm hm8 hn).mono ?_
  rintro r w1 ⟨rfl, ho, hu⟩
  rw [lay_pad P (le nn m) k hk (by rw [length_le]; omega)] at ho
  have hsz := (h.own.lt G rfl).2
  exact ⟨rfl, ho, h.bel.trans (hu.below (by omega) (by intro x hx; omega))⟩

theorem Rw.copied {W0 : World} {G : Nat} {P : List Int} {wx : World} (h : Rw W0 G P wx) (k : Nat) (hk : P.length = k) (ys : List Int) (hy : k + ys.length ≤ 128) {cur : List Value} (hc : wx.heap[G]? = some (.cells cur.toArray 5 (0, 0))) (hct : cur = (pad P).map (Value.int .u8)) :
    Rw W0 G (P ++ ys) (wx.setRow G (cur.toArray.toList.take k ++ ys.map (Value.int .u8) ++ cur.toArray.toList.drop (k + (ys.map (Value.int .u8)).length)).toArray) := by
  have e : cur.toArray.toList.take k ++ ys.map (Value.int .u8) ++ cur.toArray.toList.drop (k + (ys.map (Value.int .u8)).length) = (pad (P ++ ys)).map (Value.int .u8) := by
    rw [← lay_pad P ys k hk hy, lay, hct]
    simp [List.map_take, List.map_drop]
  rw [e]
  have hl : (pad (P ++ ys)).length = 128 := length_pad _ (by simp; omega)
  refine ⟨⟨by simp [hl], .inr ⟨G, 128, _, rfl, Nat.le_refl _, setRow_heap wx G _ _ _ _ hc, by omega, by unfold maxLen; omega, by simp [hl], ?_⟩⟩, ?_⟩
  · show List.take _ ((pad (P ++ ys)).map (Value.int .u8)) = _
    rw [List.take_of_length_le (by simp [hl])]
  · exact h.bel.trans ⟨rfl, rfl, rfl, by simp, fun j hj => setRow_other wx G j _ (by omega)⟩

set_option maxHeartbeats 2000000 in
theorem sbytes_any (place gen num : Nat) (last : Bool) (lb lo ln lc : Nat) (load : List Int) (w : World) (hs : Src w (some ⟨lb, lo, none⟩) ln load) (hz : Bytes load) (hT : Tab w) (hln : ln ≤ 100) (hlc : ln ≤ lc) (hlm : lc ≤ 9223372036854775807)
    (hp : place < 9223372036854775808) (hg : gen < 9223372036854775808) (hn : num < 9223372036854775808) :
    Calls Tryz.prog 229 #[.agg #[.int .i64 place, .int .i64 gen, .int .i64 num, .bool last, .slice (some ⟨lb, lo, none⟩) ln lc]] w fun e w' => e = .returned (.slice (some ⟨w.heap.size + 1, 0, none⟩) 128 128) ∧
      w'.ownsRow (w.heap.size + 1) 5 1 (.slice (some ⟨w.heap.size + 1, 0, none⟩) 128 128) 128 ((sectB place gen num last load).map (Value.int .u8)) ∧ Below w.heap.size w w' := by
  obtain ⟨i0, hi, hz0, hz1, hz2⟩ := info_parts Tryz.jinfo5
  have hll : load.length = ln := hs.1
  have hTl : 1 < w.heap.size := World.block_lt_of_cell? _ _ (hT 0 (by omega))
  have HT := hid hT
  have HS := hid hs
  have HZ := hid hz
  obtain ⟨W0, g0⟩ : ∃ W0, W0 = w.alloc (.cells #[.int .i64 place, .int .i64 gen, .int .i64 num, .bool last, .slice (some ⟨lb, lo, none⟩) ln lc] 289) := ⟨_, rfl⟩
  have hs0 : W0.heap.size = w.heap.size + 1 := by rw [g0]; simp
  have hb0 : Below w.heap.size w W0 := by rw [g0]; exact (Below.refl _ _).alloc (Nat.le_refl _) _
  have hbox : W0.heap[w.heap.size]? = some (.cells #[.int .i64 place, .int .i64 gen, .int .i64 num, .bool last, .slice (some ⟨lb, lo, none⟩) ln lc] 289 (0, 0)) := by rw [g0]; exact heap_alloc_new _ _
  have G0 := hid g0
  clear hT hs hz g0
  go_enter Tryz.func229, Tryz.ntmps229
  go_wp2_with (at_make; rw [← G0.out]; go_must (refine wpList_make_full _ rfl _ _ 81 rfl W0.heap.size 5 i0 (.int .u8 0) 1 Tryz.underlying81 hi hz0 hz1 .i64 .i64 128 128 128 rfl rfl rfl rfl (by rw [hz2]; omega) (by unfold maxLen; omega) (Nat.le_refl _) ?_))
  intro w1 hown hgrow
  rw [zeros_map] at hown
  obtain ⟨G, gG⟩ : ∃ G, G = w.heap.size + 1 := ⟨_, rfl⟩
  rw [← gG] at hown hs0 ⊢
  obtain ⟨q, gq⟩ : ∃ q, q = w.heap.size := ⟨_, rfl⟩
  have hb1 : Below G W0 w1 := by rw [← hs0]; exact (Below.refl _ _).grown hgrow (by simp) (by intro q hq; cases hq)
  have hqG : q < G := by omega
  have hbx : ∀ (wx : World), Below G W0 wx → wx.heap[q]? = some (.cells #[.int .i64 place, .int .i64 gen, .int .i64 num, .bool last, .slice (some ⟨lb, lo, none⟩) ln lc] 289 (0, 0)) := by
    intro wx hb; rw [hb.block q hqG, gq]; exact hbox
  have HBX := hid hbx
  have hne : ¬ q = G := by omega
  have hne' : ¬ G = q := by omega
  have c4 : w1.cell? ⟨q, 4, none⟩ = some (.slice (some ⟨lb, lo, none⟩) ln lc) := heap_cells (hbx w1 hb1) 4 _ rfl
  have hc0 : w1.cell? ⟨G, 0, none⟩ = some (.int .u8 0) := by rw [hown.cellAt 0 (by omega)]; rfl
  have hf0 : w1.frozen? ⟨G, 0, none⟩ = false := hown.frozenAt 0
  have hc1 : w1.cell? ⟨G, 1, none⟩ = some (.int .u8 0) := by rw [hown.cellAt 1 (by omega)]; rfl
  have hf1 : w1.frozen? ⟨G, 1, none⟩ = false := hown.frozenAt 1
  have hw8 : IntKind.u8.wrap (ln : Int) = (ln : Int) := by rw [IntKind.wrap_u8]; omega
  have h2 := ((hown.stored 0 (.int .u8 74)).1.stored 1 (.int .u8 (ln : Int))).1
  obtain ⟨W2, g2⟩ : ∃ W2, W2 = (w1.setCell ⟨G, 0, none⟩ (.int .u8 74)).setCell ⟨G, 1, none⟩ (.int .u8 (ln : Int)) := ⟨_, rfl⟩
  rw [← g2, ← List.map_set, ← List.map_set] at h2
  have e2 : ((List.replicate 128 (0 : Int)).set 0 74).set 1 (ln : Int) = pad [74, (ln : Int)] := rfl
  rw [e2] at h2
  have hb2 : Below G W0 W2 := by rw [g2]; exact (hb1.setCell (p := ⟨G, 0, none⟩) (Nat.le_refl _) _).setCell (p := ⟨G, 1, none⟩) (Nat.le_refl _) _
  have G2 := hid g2
  have H2 := hid h2
  rw [← gq]
  have GG := hid gG
  have GQ := hid gq
  have HB := hid hbox
  have HB0 := hid hb0
  clear hown hgrow h2 g2 hbx e2 gG gq hbox hb0 hTl
  go_wp2_with fail
  rw [← G2.out]
  have R2 : Rw W0 G [74, (ln : Int)] W2 := ⟨H2.out, hb2⟩
  have q0 : W2.cell? ⟨q, 0, none⟩ = some (.int .i64 place) := heap_cells (HBX.out W2 hb2) 0 _ rfl
  have k3 := hid (fun kc : Nat => putlow_pad W0 G _ 2 2 place kc W2.drew R2.drew rfl (by omega) (by omega) hp)
  clear G2 H2 hb2 hb1 c4 hc0 hf0 hc1 hf1 hw8 R2
  go_region_held3 (fun wx => wx.cell? ⟨q, 0, none⟩ = some (.int .i64 place)) (go_keep) (first | (go_at_call 224; refine (k3.out _).mono ?_; rintro r w3 ⟨rfl, R3⟩; have q3 : w3.cell? ⟨q, 0, none⟩ = some (.int .i64 place) := heap_cells (HBX.out w3 R3.bel) 0 _ rfl))
  have k4 := hid (fun kc : Nat => putlow_pad W0 G _ 4 8 gen kc w3.drew R3.drew (by simp [length_le]) (by omega) (by omega) hg)
  have q4 : w3.cell? ⟨q, 1, none⟩ = some (.int .i64 gen) := heap_cells (HBX.out w3 R3.bel) 1 _ rfl
  clear k3 q0 q3 R3
  go_wp2_with fail
  go_region_held3 (fun wx => wx.cell? ⟨q, 1, none⟩ = some (.int .i64 gen)) (go_keep) (first | (go_at_call 224; refine (k4.out _).mono ?_; rintro r w4 ⟨rfl, R4⟩; have q5 : w4.cell? ⟨q, 1, none⟩ = some (.int .i64 gen) := heap_cells (HBX.out w4 R4.bel) 1 _ rfl))
  have c3 : w4.cell? ⟨q, 3, none⟩ = some (.bool last) := heap_cells (HBX.out w4 R4.bel) 3 _ rfl
  have hl4 : ([74, (ln : Int)] ++ le place 2 ++ le gen 8).length = 12 := by simp [length_le]
  have hc12 : w4.cell? ⟨G, 12, none⟩ = some (.int .u8 0) := by
    rw [R4.own.cellAt 12 (by omega), List.getElem?_map, pad, List.getElem?_append_right (by omega), hl4]; rfl
  have hf12 : w4.frozen? ⟨G, 12, none⟩ = false := R4.own.frozenAt 12
  have R5t : Rw W0 G ([74, (ln : Int)] ++ le place 2 ++ le gen 8 ++ [1]) (w4.setCell ⟨G, 12, none⟩ (.int .u8 1)) := by
    refine ⟨?_, R4.bel.setCell (p := ⟨G, 12, none⟩) (Nat.le_refl _) _⟩
    have := (R4.own.stored 12 (.int .u8 1)).1
    rwa [← List.map_set, set_pad _ _ 12 hl4 (by omega)] at this
  have R5f : Rw W0 G ([74, (ln : Int)] ++ le place 2 ++ le gen 8 ++ [0]) w4 := by
    refine ⟨?_, R4.bel⟩
    rw [← pad_zero _ (by omega)]
    exact R4.own
  clear k4 q4 q5 R4
  cases last with
  | true =>
    have R5 : Rw W0 G ([74, (ln : Int)] ++ le place 2 ++ le gen 8 ++ [1]) (w4.setCell ⟨G, 12, none⟩ (.int .u8 1)) := R5t
    obtain ⟨W5, g5⟩ : ∃ W5, W5 = w4.setCell ⟨G, 12, none⟩ (.int .u8 1) := ⟨_, rfl⟩
    rw [← g5] at R5
    have G5 := hid g5
    clear g5 R5t R5f
    go_wp2_with fail
    rw [← G5.out]
    have k6 := hid (fun kc : Nat => putlow_pad W0 G _ 13 8 num kc W5.drew R5.drew (by simp [length_le]) (by omega) (by omega) hn)
    have q6 : W5.cell? ⟨q, 2, none⟩ = some (.int .i64 num) := heap_cells (HBX.out W5 R5.bel) 2 _ rfl
    clear R5
    go_region_held3 (fun wx => wx.cell? ⟨q, 2, none⟩ = some (.int .i64 num)) (go_keep) (first | (go_at_call 224; refine (k6.out _).mono ?_; rintro r w6 ⟨rfl, R6⟩; have q7 : w6.cell? ⟨q, 2, none⟩ = some (.int .i64 num) := heap_cells (HBX.out w6 R6.bel) 2 _ rfl))
    have c6 : w6.cell? ⟨q, 4, none⟩ = some (.slice (some ⟨lb, lo, none⟩) ln lc) := heap_cells (HBX.out w6 R6.bel) 4 _ rfl
    obtain ⟨cur, hcur, _, _, hk3, hk4⟩ := own_heap R6.own
    have hcl : cur = (pad ([74, (ln : Int)] ++ le place 2 ++ le gen 8 ++ [1] ++ le num 8)).map (Value.int .u8) := by
      rw [← hk4, List.take_of_length_le (by omega)]
    have hbw : Below w.heap.size w w6 := HB0.out.trans (R6.bel.mono (by have := GG.out; omega))
    have hsw : Src w6.drew (some ⟨lb, lo, none⟩) ln load := HS.out.below (below_drewN hbw 1)
    have crun := run_copy_row2 (P := Tryz.prog) w6.drew 81 81 3 5 1 G 21 107 107 ⟨lb, lo, none⟩ ln lc ln cur.toArray 5 (load.map (Value.int .u8)) Tryz.underlying81 Tryz.psz5 hcur (by simp only [Nat.min_def]; split <;> omega) (by simp [hll]) (src_cells hsw) (by simp [hll]; omega) (u8_one _)
    have R7 := R6.drew.copied 21 (by simp [length_le]) load (by omega) (cur := cur) hcur hcl
    obtain ⟨W7, g7⟩ : ∃ W7, W7 = w6.drew.setRow G (cur.toArray.toList.take 21 ++ load.map (Value.int .u8) ++ cur.toArray.toList.drop (21 + (load.map (Value.int .u8)).length)).toArray := ⟨_, rfl⟩
    rw [← g7] at crun R7
    have q8 : W7.cell? ⟨q, 4, none⟩ = some (.slice (some ⟨lb, lo, none⟩) ln lc) := heap_cells (HBX.out W7 R7.bel) 4 _ rfl
    have hbw7 : Below w.heap.size w W7 := HB0.out.trans (R7.bel.mono (by have := GG.out; omega))
    have ho7 := R7.own
    rw [← hll, pad_sect2 place gen num true load 1 (by omega) rfl] at ho7
    have hTl : 1 < w.heap.size := World.block_lt_of_cell? _ _ (HT.out 0 (by omega))
    have ks := hid (sealed_any G 128 (sectBody place gen num true load) (List.replicate 5 0) G W7 ho7 (length_sectBody _ _ _ _ _ (by omega)) (bytes_sectBody _ _ _ _ _ (by omega) HZ.out) (HT.out.below hbw7 hTl) (by have := GG.out; omega))
    have hG7 : G < W7.heap.size := (ho7.lt G rfl).2
    have HB7 := hid hbw7
    clear k6 q6 q7 R6 hcur hk3 hk4 hcl hbw hsw R7 g7 ho7 hTl hbw7
    go_wp2_with fail
    go_region_held3 (fun wx => wx.cell? ⟨q, 4, none⟩ = some (.slice (some ⟨lb, lo, none⟩) ln lc)) (first | go_keep | exact q8) (fail)
    go_wp2_with fail
    refine ks.out.mono ?_
    rintro r w8 ⟨rfl, ho8, hu8⟩
    have HO := hid ho8
    have HB8 := hid (HB7.out.trans (hu8.below (B := w.heap.size) HB7.out.size (by intro x hx; have := GG.out; omega)))
    clear ho8 hu8 ks
    go_wp2_with fail
    go_ret
    have hG := GG.out
    subst hG
    exact ⟨rfl, HO.out, HB8.out⟩
  | false =>
    have R5 : Rw W0 G ([74, (ln : Int)] ++ le place 2 ++ le gen 8 ++ [0]) w4 := R5f
    obtain ⟨W5, g5⟩ : ∃ W5, W5 = w4 := ⟨_, rfl⟩
    clear R5t R5f
    go_wp2_with fail
    subst g5
    have k6 := hid (fun kc : Nat => putlow_pad W0 G _ 13 8 num kc W5.drew R5.drew (by simp [length_le]) (by omega) (by omega) hn)
    have q6 : W5.cell? ⟨q, 2, none⟩ = some (.int .i64 num) := heap_cells (HBX.out W5 R5.bel) 2 _ rfl
    clear R5
    go_region_held3 (fun wx => wx.cell? ⟨q, 2, none⟩ = some (.int .i64 num)) (go_keep) (first | (go_at_call 224; refine (k6.out _).mono ?_; rintro r w6 ⟨rfl, R6⟩; have q7 : w6.cell? ⟨q, 2, none⟩ = some (.int .i64 num) := heap_cells (HBX.out w6 R6.bel) 2 _ rfl))
    have c6 : w6.cell? ⟨q, 4, none⟩ = some (.slice (some ⟨lb, lo, none⟩) ln lc) := heap_cells (HBX.out w6 R6.bel) 4 _ rfl
    obtain ⟨cur, hcur, _, _, hk3, hk4⟩ := own_heap R6.own
    have hcl : cur = (pad ([74, (ln : Int)] ++ le place 2 ++ le gen 8 ++ [0] ++ le num 8)).map (Value.int .u8) := by
      rw [← hk4, List.take_of_length_le (by omega)]
    have hbw : Below w.heap.size w w6 := HB0.out.trans (R6.bel.mono (by have := GG.out; omega))
    have hsw : Src w6.drew (some ⟨lb, lo, none⟩) ln load := HS.out.below (below_drewN hbw 1)
    have crun := run_copy_row2 (P := Tryz.prog) w6.drew 81 81 3 5 1 G 21 107 107 ⟨lb, lo, none⟩ ln lc ln cur.toArray 5 (load.map (Value.int .u8)) Tryz.underlying81 Tryz.psz5 hcur (by simp only [Nat.min_def]; split <;> omega) (by simp [hll]) (src_cells hsw) (by simp [hll]; omega) (u8_one _)
    have R7 := R6.drew.copied 21 (by simp [length_le]) load (by omega) (cur := cur) hcur hcl
    obtain ⟨W7, g7⟩ : ∃ W7, W7 = w6.drew.setRow G (cur.toArray.toList.take 21 ++ load.map (Value.int .u8) ++ cur.toArray.toList.drop (21 + (load.map (Value.int .u8)).length)).toArray := ⟨_, rfl⟩
    rw [← g7] at crun R7
    have q8 : W7.cell? ⟨q, 4, none⟩ = some (.slice (some ⟨lb, lo, none⟩) ln lc) := heap_cells (HBX.out W7 R7.bel) 4 _ rfl
    have hbw7 : Below w.heap.size w W7 := HB0.out.trans (R7.bel.mono (by have := GG.out; omega))
    have ho7 := R7.own
    rw [← hll, pad_sect2 place gen num false load 0 (by omega) rfl] at ho7
    have hTl : 1 < w.heap.size := World.block_lt_of_cell? _ _ (HT.out 0 (by omega))
    have ks := hid (sealed_any G 128 (sectBody place gen num false load) (List.replicate 5 0) G W7 ho7 (length_sectBody _ _ _ _ _ (by omega)) (bytes_sectBody _ _ _ _ _ (by omega) HZ.out) (HT.out.below hbw7 hTl) (by have := GG.out; omega))
    have hG7 : G < W7.heap.size := (ho7.lt G rfl).2
    have HB7 := hid hbw7
    clear k6 q6 q7 R6 hcur hk3 hk4 hcl hbw hsw R7 g7 ho7 hTl hbw7
    go_wp2_with fail
    go_region_held3 (fun wx => wx.cell? ⟨q, 4, none⟩ = some (.slice (some ⟨lb, lo, none⟩) ln lc)) (first | go_keep | exact q8) (fail)
    go_wp2_with fail
    refine ks.out.mono ?_
    rintro r w8 ⟨rfl, ho8, hu8⟩
    have HO := hid ho8
    have HB8 := hid (HB7.out.trans (hu8.below (B := w.heap.size) HB7.out.size (by intro x hx; have := GG.out; omega)))
    clear ho8 hu8 ks
    go_wp2_with fail
    go_ret
    have hG := GG.out
    subst hG
    exact ⟨rfl, HO.out, HB8.out⟩

end Go.Proofs.YtbgommpdmnbplaaGreatDoor

/- What journal's areaOf does. -/
namespace Go.Proofs.YtbgommpdmnbplaaGreatDoor
open Go.RowKit Num Jr
set_option linter.unusedVariables false
set_option maxRecDepth 20000

theorem asize : (Tryz.prog.info? 136).map (·.size) = some 3 := by kernel_rfl

/-- The first sector of a generation's area, of so many sectors. -/
def firstOf (g n : Nat) : Nat := 2 + g % 2 * ((n - 2) / 2)

theorem areaof_any (g n : Nat) (w : World) (hg : g ≤ 4294967296) (h2 : 2 ≤ n) (hn : n ≤ 2048) :
    Calls Tryz.prog 136 #[.int .i64 g, .int .i64 n] w fun e w' => e = .returned (.agg #[.int .i64 g, .int .i64 ((firstOf g n : Nat) : Int), .int .i64 (((n - 2) / 2 : Nat) : Int)]) ∧ Below w.heap.size w w' := by
  have e0 : (g : Int) % 2 * (((n : Int) - 2) / 2) = ((g % 2 * ((n - 2) / 2) : Nat) : Int) := by
    rw [show ((n : Int) - 2) / 2 = (((n - 2) / 2 : Nat) : Int) by omega]; simp
  have hm : g % 2 * ((n - 2) / 2) ≤ 1 * 1023 := Nat.mul_le_mul (by omega) (by omega)
  have m1 : (0 : Int) ≤ (g : Int) % 2 * (((n : Int) - 2) / 2) := by rw [e0]; omega
  have m2 : (g : Int) % 2 * (((n : Int) - 2) / 2) ≤ 1023 := by rw [e0]; omega
  have E0 := hid e0
  clear e0 hm
  go_enter Tryz.func136, Tryz.ntmps136
  go_wp2_with fail
  refine bodyPost_ret (cell_result rfl _ _ w.heap.size 0 rfl [.int .i64 g, .int .i64 (2 + (g : Int) % 2 * (((n : Int) - 2) / 2)), .int .i64 (((n : Int) - 2) / 2)] _ (rangeAt_block (t := 136) (heap_alloc_new _ _)) Tryz.underlying136 rfl asize) rfl ?_
  refine ⟨?_, (Below.refl _ _).alloc (Nat.le_refl _) _⟩
  have f1 : (2 + (g : Int) % 2 * (((n : Int) - 2) / 2)) = ((firstOf g n : Nat) : Int) := by rw [E0.out, firstOf]; omega
  have f2 : ((n : Int) - 2) / 2 = (((n - 2) / 2 : Nat) : Int) := by omega
  rw [f1, f2]

end Go.Proofs.YtbgommpdmnbplaaGreatDoor

/- What journal's rightSector tells. -/
namespace Go.Proofs.YtbgommpdmnbplaaGreatDoor
open Go.RowKit Num Jr
set_option linter.unusedVariables false
set_option maxRecDepth 20000

theorem jsize : (Tryz.prog.info? 289).map (·.size) = some 5 := by kernel_rfl
theorem cell_result2 {P : Program} {fn : Func} {t s : Tmp} {ty : TypeId} (h : fn.results = #[.cell t ty, .tmp s]) (tmps : Array Value) (w : World) (b o : Nat) (ht : tmps.getD t undef = .pointer (some ⟨b, o, none⟩)) (v : Value) (hs : tmps.getD s undef = v) (cs : List Value) (d : TypeDesc) (hc : w.rangeAt b o cs)
    (hu : P.underlying ty = some d) (hd : d.isRow = true) (hi : (P.info? ty).map (·.size) = some cs.length) :
    (results fn tmps).run P w = .ok (.tuple #[.agg cs.toArray, v]) w := by
  have hl := run_loadVar_mid (P := P) w b o ty cs d hc hu hd hi
  rw [Array.getD_eq_getD_getElem?] at ht hs
  simp [results, h, ht, hs, asAddr, hl]

theorem jstore_as {P : Program} {ops : Array Oper} {rest : List Oper} {op : Oper} {a : Act} {w : World} {Q : Exit → Act → World → Prop} (hgd : op.guard = none) (ty : TypeId) (x y : Operand) (ho : op.op = .store ty x y)
    (b o : Nat) (cells : Array Value) (hx : a.eval x = .pointer (some ⟨b, o, none⟩)) (hy : a.eval y = .agg cells)
    (ht : w.there b o cells.size) (hi : (P.info? ty).map (·.size) = some cells.size) (h1 : cells.all (·.oneCell') = true)
    (W : World) (hW : w.setCells b o cells.toList = W)
    (h : wpList P ops Q rest (a.put op.dst undef) W) : wpList P ops Q (op :: rest) a w :=
  wpList_store_mid hgd ty x y ho b o cells hx hy ht hi h1 (hW ▸ h)

/-- Whether bytes are a right sector of a place, a generation and a group. -/
def rightS (zs : List Int) (place gen num : Nat) : Bool :=
  decide (1 ≤ zs.getD 1 0 ∧ zs.getD 1 0 ≤ 100 ∧ zs = sectB place gen num (decide (zs.getD 12 0 = 1)) ((zs.drop 21).take (zs.getD 1 0).toNat))

/-- What rightSector answers. -/
def RSP (zs : List Int) (place gen num b o : Nat) (e : Ending) : Prop :=
  if rightS zs place gen num then ∃ c, (zs.getD 1 0).toNat ≤ c ∧ c ≤ 9223372036854775807 ∧ e = .returned (.tuple #[.agg #[.int .i64 place, .int .i64 gen, .int .i64 num, .bool (decide (zs.getD 12 0 = 1)), .slice (some ⟨b, o + 21, none⟩) (zs.getD 1 0).toNat c], .bool true])
  else e = .returned (.tuple #[.agg #[.int .i64 0, .int .i64 0, .int .i64 0, .bool false, .slice none 0 0], .bool false])

set_option maxHeartbeats 2000000 in
theorem rightsector_any (b o cap place gen num : Nat) (zs : List Int) (w : World) (hs : Src w (some ⟨b, o, none⟩) 128 zs) (hz : Bytes zs) (hT : Tab w) (hcap : 128 ≤ cap) (hcm : cap ≤ 9223372036854775807)
    (hp : place < 9223372036854775808) (hg : gen < 9223372036854775808) (hn : num < 9223372036854775808) :
    Calls Tryz.prog 226 #[.slice (some ⟨b, o, none⟩) 128 cap, .int .i64 place, .int .i64 gen, .int .i64 num] w fun e w' => Below w.heap.size w w' ∧
      RSP zs place gen num b o e := by
  obtain ⟨b', o', e, hlt, hcell⟩ := hs.2 (by omega)
  simp only [Option.some.injEq, Addr.mk.injEq, and_true] at e
  obtain ⟨rfl, rfl⟩ := e
  have c1 := hcell 1 (by omega)
  have c12 := hcell 12 (by omega)
  have b1 := hz.at 1
  have hF : ∀ e, rightS zs place gen num = false → e = .returned (.tuple #[.agg #[.int .i64 0, .int .i64 0, .int .i64 0, .bool false, .slice none 0 0], .bool false]) → RSP zs place gen num b o e := by
    intro e h1 h2; unfold RSP; rw [h1]; exact h2
  have hG : ∀ e c, rightS zs place gen num = true → (zs.getD 1 0).toNat ≤ c → c ≤ 9223372036854775807 → e = .returned (.tuple #[.agg #[.int .i64 place, .int .i64 gen, .int .i64 num, .bool (decide (zs.getD 12 0 = 1)), .slice (some ⟨b, o + 21, none⟩) (zs.getD 1 0).toNat c], .bool true]) → RSP zs place gen num b o e := by
    intro e c h1 h2 h3 h4; unfold RSP; rw [h1]; exact ⟨c, h2, h3, h4⟩
  have hR : rightS zs place gen num = decide (1 ≤ zs.getD 1 0 ∧ zs.getD 1 0 ≤ 100 ∧ zs = sectB place gen num (decide (zs.getD 12 0 = 1)) ((zs.drop 21).take (zs.getD 1 0).toNat)) := rfl
  obtain ⟨u, gu⟩ : ∃ u : Int, u = zs.getD 1 0 := ⟨_, rfl⟩
  obtain ⟨l, gl⟩ : ∃ l : Int, l = zs.getD 12 0 := ⟨_, rfl⟩
  rw [← gu] at c1 b1 hR hG
  rw [← gl] at c12 hR hG
  obtain ⟨U, rfl⟩ := Int.eq_ofNat_of_zero_le b1.1
  rw [Int.toNat_natCast] at hR hG
  clear gu gl hcell
  have HF0 := hid hF
  have HG0 := hid hG
  clear hF hG
  by_cases h1 : U < 1 ∨ 100 < U
  · have hf : rightS zs place gen num = false := by rw [hR]; simp; omega
    have HF := hid hf
    clear hR hf hs hz hT
    rcases h1 with h1 | h1
    · go_enter Tryz.func226, Tryz.ntmps226
      go_wp2_with fail
      refine bodyPost_ret (cell_result2 rfl _ _ w.heap.size 0 rfl _ rfl [.int .i64 0, .int .i64 0, .int .i64 0, .bool false, .slice none 0 0] _ (rangeAt_block (t := 289) (heap_alloc_new _ _)) Tryz.underlying289 rfl jsize) rfl ?_
      exact ⟨(Below.refl _ _).alloc (Nat.le_refl _) _, HF0.out _ HF.out rfl⟩
    · go_enter Tryz.func226, Tryz.ntmps226
      go_wp2_with fail
      refine bodyPost_ret (cell_result2 rfl _ _ w.heap.size 0 rfl _ rfl [.int .i64 0, .int .i64 0, .int .i64 0, .bool false, .slice none 0 0] _ (rangeAt_block (t := 289) (heap_alloc_new _ _)) Tryz.underlying289 rfl jsize) rfl ?_
      exact ⟨(Below.refl _ _).alloc (Nat.le_refl _) _, HF0.out _ HF.out rfl⟩
  · have u1 : (1 : Int) ≤ (U : Int) := by omega
    have u2 : (U : Int) ≤ 100 := by omega
    have hblt : b < w.heap.size := hlt
    obtain ⟨W0, g0⟩ : ∃ W0, W0 = w.alloc (.cells #[.int .i64 0, .int .i64 0, .int .i64 0, .bool false, .slice none 0 0] 289) := ⟨_, rfl⟩
    have hs0 : W0.heap.size = w.heap.size + 1 := by rw [g0]; simp
    have hb0 : Below w.heap.size w W0 := by rw [g0]; exact (Below.refl _ _).alloc (Nat.le_refl _) _
    have d12 : W0.cell? ⟨b, o + 12, none⟩ = some (.int .u8 l) := (hb0.cell (p := ⟨b, o + 12, none⟩) hlt).trans c12
    have d1 : W0.cell? ⟨b, o + 1, none⟩ = some (.int .u8 U) := (hb0.cell (p := ⟨b, o + 1, none⟩) hlt).trans c1
    have i1 : (21 : Int) ≤ (cap : Int) := by omega
    have i2 : (21 : Int) + (U : Int) ≤ (cap : Int) := by omega
    have i3 : ¬ cap = 21 := by omega
    have i4 : (21 : Int) ≤ 21 + (U : Int) := by omega
    have i5 : (0 : Int) ≤ 21 + (U : Int) := by omega
    have i6 : IntKind.i64.wrap (21 + (U : Int)) = 21 + (U : Int) := by rw [IntKind.wrap_i64]; omega
    have i7 : (21 : Int) + (U : Int) ≤ 9223372036854775807 := by omega
    have i8 : 21 + U ≤ cap := by omega
    have hnn := World.new_ne W0 ⟨b, o + 12, none⟩ d12
    have G0 := hid g0
    have HS := hid hs
    have HZ := hid hz
    have HT := hid hT
    have HR := hid hR
    clear hs hz hT hR g0
    go_enter Tryz.func226, Tryz.ntmps226
    go_wp2_with fail
    rw [← G0.out]
    go_region_held3 (fun wx => wx.cell? ⟨b, o + 12, none⟩ = some (.int .u8 l)) (go_keep) (fail)
    have hU : (21 + (U : Int)).toNat - 21 = U := by omega
    have hl1 : (l == 1) = decide (l = 1) := rfl
    rw [hU, hl1]
    obtain ⟨D, gD⟩ : ∃ D, D = decide (l = 1) := ⟨_, rfl⟩
    obtain ⟨c, gc⟩ : ∃ c, c = cap - 21 := ⟨_, rfl⟩
    rw [← gD, ← gc]
    have hc1 : U ≤ c := by omega
    have hc2 : c ≤ 9223372036854775807 := by omega
    obtain ⟨W1, g1⟩ : ∃ W1, W1 = (W0.alloc (.cells #[.int .i64 place, .int .i64 gen, .int .i64 num, .bool D, .slice (some ⟨b, o + 21, none⟩) U c] 289)).drew := ⟨_, rfl⟩
    rw [← g1]
    obtain ⟨q, gq⟩ : ∃ q, q = w.heap.size := ⟨_, rfl⟩
    have hs1 : W1.heap.size = q + 2 := by rw [g1, gq]; simp [hs0]
    have hbx : W1.heap[q + 1]? = some (.cells #[.int .i64 place, .int .i64 gen, .int .i64 num, .bool D, .slice (some ⟨b, o + 21, none⟩) U c] 289 (0, 0)) := by
      rw [g1, gq, ← hs0]; exact heap_alloc_new W0 _
    have hb1 : Below w.heap.size w W1 := by rw [g1]; exact (hb0.alloc (by omega) _).drew
    have hz0 : W1.heap[q]? = some (.cells #[.int .i64 0, .int .i64 0, .int .i64 0, .bool false, .slice none 0 0] 289 (0, 0)) := by
      have hbW : Below W0.heap.size W0 W1 := by rw [g1]; exact ((Below.refl _ _).alloc (Nat.le_refl _) _).drew
      rw [hbW.block q (by omega), G0.out, gq]; exact heap_alloc_new w _
    have x0 : W1.cell? ⟨q + 1, 0, none⟩ = some (.int .i64 place) := heap_cells hbx 0 _ rfl
    have x1 : W1.cell? ⟨q + 1, 1, none⟩ = some (.int .i64 gen) := heap_cells hbx 1 _ rfl
    have x2 : W1.cell? ⟨q + 1, 2, none⟩ = some (.int .i64 num) := heap_cells hbx 2 _ rfl
    have x3 : W1.cell? ⟨q + 1, 3, none⟩ = some (.bool D) := heap_cells hbx 3 _ rfl
    have x4 : W1.cell? ⟨q + 1, 4, none⟩ = some (.slice (some ⟨b, o + 21, none⟩) U c) := heap_cells hbx 4 _ rfl
    have hsub : Src W1 (some ⟨b, o + 21, none⟩) U ((zs.drop 21).take U) := (HS.out.mid 21 U (by omega)).below hb1
    have kb := hid (sbytes_any place gen num D b (o + 21) U c _ W1 hsub ((HZ.out.drop 21).take U) (HT.out.below hb1 (World.block_lt_of_cell? _ _ (HT.out 0 (by omega)))) (by omega) hc1 hc2 hp hg hn)
    have GQ := hid gq
    have HB1 := hid hb1
    have GD := hid gD
    rw [← gq]
    clear hnn d12 d1 c1 c12 hsub g1 gq gD gc hb1 hb0 hs0 G0 hU hl1 hcap hcm i1 i2 i3 i4 i5 i6 i7 i8
    go_wp2_with (first | (go_at_call 229; refine kb.out.mono ?_; rintro r w2 ⟨rfl, ho2, hb2⟩))
    have hbx2 : w2.heap[q + 1]? = some (.cells #[.int .i64 place, .int .i64 gen, .int .i64 num, .bool D, .slice (some ⟨b, o + 21, none⟩) U c] 289 (0, 0)) := by
      rw [hb2.block (q + 1) (by omega)]; exact hbx
    have hz2 : w2.heap[q]? = some (.cells #[.int .i64 0, .int .i64 0, .int .i64 0, .bool false, .slice none 0 0] 289 (0, 0)) := by
      rw [hb2.block q (by omega)]; exact hz0
    have hbw : Below w.heap.size w w2 := HB1.out.trans (hb2.mono (by have := GQ.out; omega))
    have ke := hid (equal_dec _ _ 128 cap 128 128 zs _ w2 (HS.out.below hbw) (Src.own ho2) HZ.out (bytes_sectB place gen num D _ (by simp; omega) ((HZ.out.drop 21).take U)))
    rw [hs1] at ke
    have HBW := hid hbw
    clear kb hbx hz0 x0 x1 x2 x3 x4 ho2 hb2 hbw HB1
    by_cases hE : zs = sectB place gen num D ((zs.drop 21).take U)
    · have hd : decide (zs = sectB place gen num D ((zs.drop 21).take U)) = true := decide_eq_true hE
      rw [hd] at ke
      have hf : rightS zs place gen num = true := by rw [HR.out, ← GD.out]; exact decide_eq_true ⟨u1, u2, hE⟩
      have HF := hid hf
      have y0 : w2.cell? ⟨q + 1, 0, none⟩ = some (.int .i64 place) := heap_cells hbx2 0 _ rfl
      have y1 : w2.cell? ⟨q + 1, 1, none⟩ = some (.int .i64 gen) := heap_cells hbx2 1 _ rfl
      have y2 : w2.cell? ⟨q + 1, 2, none⟩ = some (.int .i64 num) := heap_cells hbx2 2 _ rfl
      have y3 : w2.cell? ⟨q + 1, 3, none⟩ = some (.bool D) := heap_cells hbx2 3 _ rfl
      have y4 : w2.cell? ⟨q + 1, 4, none⟩ = some (.slice (some ⟨b, o + 21, none⟩) U c) := heap_cells hbx2 4 _ rfl
      clear hE hd hf
      have hth := there_of_block (C := [.int .i64 0, .int .i64 0, .int .i64 0, .bool false, .slice none 0 0]) hz2 0 5 (by simp)
      obtain ⟨W3, g3⟩ : ∃ W3, w2.setCells q 0 [.int .i64 place, .int .i64 gen, .int .i64 num, .bool D, .slice (some ⟨b, o + 21, none⟩) U c] = W3 := ⟨_, rfl⟩
      have hW3 : W3.heap[q]? = some (.cells ([.int .i64 place, .int .i64 gen, .int .i64 num, .bool D, .slice (some ⟨b, o + 21, none⟩) U c] : List Value).toArray 289 (0, 0)) := by
        rw [← g3, heap_setCells q 289 _ 0 w2 [.int .i64 0, .int .i64 0, .int .i64 0, .bool false, .slice none 0 0] hz2 (by simp)]; simp [splice]
      have HB3 : Hid (Below w.heap.size w W3) := hid (by
        rw [← g3]
        exact HBW.out.trans ((upd_setCells q _ 0 w2).below HBW.out.size (by intro x hx; have := GQ.out; omega)))
      have G3 := hid g3
      have HTH := hid hth
      clear g3 hth
      go_wp2_with (first | (go_at_call 83; refine ke.out.mono ?_; rintro r w3 ⟨rfl, h⟩; subst w3) | (refine jstore_as rfl 289 (.tmp 8) (.tmp 41) rfl q 0 ([.int .i64 place, .int .i64 gen, .int .i64 num, .bool D, .slice (some ⟨b, o + 21, none⟩) U c] : List Value).toArray rfl rfl HTH.out jsize (by simp [Value.oneCell']) W3 G3.out ?_))
      refine bodyPost_ret (cell_result2 rfl _ _ q 0 rfl _ rfl [.int .i64 place, .int .i64 gen, .int .i64 num, .bool D, .slice (some ⟨b, o + 21, none⟩) U c] _ (rangeAt_block (t := 289) hW3) Tryz.underlying289 rfl jsize) rfl ?_
      refine ⟨HB3.out, ?_⟩
      exact HG0.out _ c HF.out hc1 hc2 (by rw [← GD.out]; rfl)
    · have hd : decide (zs = sectB place gen num D ((zs.drop 21).take U)) = false := decide_eq_false hE
      rw [hd] at ke
      have hf : rightS zs place gen num = false := by rw [HR.out, ← GD.out]; exact decide_eq_false (fun h => hE h.2.2)
      have HF := hid hf
      clear hE hd hf
      have hth := there_of_block (C := [.int .i64 0, .int .i64 0, .int .i64 0, .bool false, .slice none 0 0]) hz2 0 5 (by simp)
      obtain ⟨W3, g3⟩ : ∃ W3, w2.setCells q 0 [.int .i64 0, .int .i64 0, .int .i64 0, .bool false, .slice none 0 0] = W3 := ⟨_, rfl⟩
      have hW3 : W3.heap[q]? = some (.cells ([.int .i64 0, .int .i64 0, .int .i64 0, .bool false, .slice none 0 0] : List Value).toArray 289 (0, 0)) := by
        rw [← g3, heap_setCells q 289 _ 0 w2 [.int .i64 0, .int .i64 0, .int .i64 0, .bool false, .slice none 0 0] hz2 (by simp)]; simp [splice]
      have HB3 : Hid (Below w.heap.size w W3) := hid (by
        rw [← g3]
        exact HBW.out.trans ((upd_setCells q _ 0 w2).below HBW.out.size (by intro x hx; have := GQ.out; omega)))
      have G3 := hid g3
      have HTH := hid hth
      clear g3 hth
      go_wp2_with (first | (go_at_call 83; refine ke.out.mono ?_; rintro r w3 ⟨rfl, h⟩; subst w3) | (refine jstore_as rfl 289 (.tmp 8) (.tmp 40) rfl q 0 ([.int .i64 0, .int .i64 0, .int .i64 0, .bool false, .slice none 0 0] : List Value).toArray rfl rfl HTH.out jsize (by simp [Value.oneCell']) W3 G3.out ?_))
      refine bodyPost_ret (cell_result2 rfl _ _ q 0 rfl _ rfl [.int .i64 0, .int .i64 0, .int .i64 0, .bool false, .slice none 0 0] _ (rangeAt_block (t := 289) hW3) Tryz.underlying289 rfl jsize) rfl ?_
      refine ⟨HB3.out, ?_⟩
      exact HF0.out _ HF.out rfl

end Go.Proofs.YtbgommpdmnbplaaGreatDoor

/- What disk's usable, Sectors, has and sector do, of a disk that a call made. -/
namespace Go.Proofs.YtbgommpdmnbplaaGreatDoor
open Go.RowKit
set_option linter.unusedVariables false

theorem usable_yes (p : Nat) (a : Addr) (n c : Nat) (w : World) (h0 : w.cell? ⟨p, 0, none⟩ = some (.slice (some a) n c)) (hn : 0 < n) (_hm : n ≤ 9223372036854775807) : Calls Tryz.prog 64 #[.pointer (some ⟨p, 0, none⟩)] w fun e w' => e = .returned (.bool true) ∧ w' = w := by
  have hd : decide ((0 : Int) < (n : Int)) = true := by simp; omega
  go_enter Tryz.func64, Tryz.ntmps64
  go_wp2
  go_ret
  exact ⟨rfl, rfl⟩

theorem sectors_yes (p : Nat) (a : Addr) (n c k : Nat) (w : World) (h0 : w.cell? ⟨p, 0, none⟩ = some (.slice (some a) n c)) (hn : 0 < n) (hm : n ≤ 9223372036854775807) (hk : k = n / 128) : Calls Tryz.prog 74 #[.pointer (some ⟨p, 0, none⟩)] w fun e w' => e = .returned (.int .i64 (k : Int)) ∧ w' = w := by
  have q := hid (usable_yes p a n c w h0 hn hm)
  have K := hid hk
  clear hk
  go_enter Tryz.func74, Tryz.ntmps74
  go_wp2_with fail
  refine q.out.mono ?_
  rintro e w1 ⟨rfl, rfl⟩
  go_wp2_with fail
  go_ret
  rw [K.out]
  exact ⟨rfl, rfl⟩

theorem Dk.ok.cell {d : Dk} {w : World} {p : Nat} (h : d.ok w p) : w.cell? ⟨p, 0, none⟩ = some (.slice (some ⟨d.gd, 0, none⟩) (d.n * 128) d.cd) ∧ w.cell? ⟨p, 1, none⟩ = some (.slice (some ⟨d.gw, 0, none⟩) (d.n * 128) d.cw) ∧ w.cell? ⟨p, 2, none⟩ = some d.ve ∧ w.cell? ⟨p, 3, none⟩ = some (.bool d.opn) := by
  refine ⟨?_, ?_, ?_, ?_⟩ <;> rw [cell_of_row w p _ _ _ _ h.cells] <;> rfl

theorem Dk.ok.frozen {d : Dk} {w : World} {p : Nat} (h : d.ok w p) (j : Nat) : w.frozen? ⟨p, j, none⟩ = false := frozen_of_row w p j _ _ h.cells

theorem dusable (d : Dk) (p : Nat) (w : World) (h : d.ok w p) : Calls Tryz.prog 64 #[.pointer (some ⟨p, 0, none⟩)] w fun e w' => e = .returned (.bool true) ∧ w' = w :=
  usable_yes p _ _ _ w h.cell.1 (by have := h.n1; omega) (by have := h.n2; omega)

theorem dsectors (d : Dk) (p : Nat) (w : World) (h : d.ok w p) : Calls Tryz.prog 74 #[.pointer (some ⟨p, 0, none⟩)] w fun e w' => e = .returned (.int .i64 (d.n : Int)) ∧ w' = w :=
  sectors_yes p _ _ _ d.n w h.cell.1 (by have := h.n1; omega) (by have := h.n2; omega) (by omega)

theorem dhas (d : Dk) (p : Nat) (i : Int) (w : World) (h : d.ok w p) : Calls Tryz.prog 178 #[.pointer (some ⟨p, 0, none⟩), .int .i64 i] w fun e w' => e = .returned (.bool (decide (0 ≤ i ∧ i < d.n))) ∧ w' = w := by
  have k := hid (dsectors d p w h)
  clear h
  by_cases h0 : 0 ≤ i
  · go_enter Tryz.func178, Tryz.ntmps178
    go_wp2_with fail
    refine k.out.mono ?_
    rintro e w1 ⟨rfl, rfl⟩
    go_wp2_with fail
    go_ret
    refine ⟨?_, rfl⟩
    simp [h0]
  · go_enter Tryz.func178, Tryz.ntmps178
    go_wp2_with fail
    go_ret
    refine ⟨?_, rfl⟩
    have h1 : decide ((0 : Int) ≤ i) = false := decide_eq_false (by omega)
    simp [h1]

set_option maxHeartbeats 400000 in
theorem sector_any (g n i c : Nat) (w : World) (hi : i < n) (hn : n ≤ 2048) (hc : n * 128 ≤ c) (hc2 : c ≤ 9223372036854775807) : Calls Tryz.prog 81 #[.slice (some ⟨g, 0, none⟩) (n * 128) c, .int .i64 i] w fun e w' => e = .returned (.slice (some ⟨g, i * 128, none⟩) 128 128) ∧ w' = w := by
  obtain ⟨N, gN⟩ : ∃ N, N = n * 128 := ⟨_, rfl⟩
  rw [← gN]
  rw [← gN] at hc
  have hN : (i + 1) * 128 ≤ N := by omega
  clear gN
  go_enter Tryz.func81, Tryz.ntmps81
  go_wp2
  go_ret
  refine ⟨?_, rfl⟩
  simp [show (i + 1) * 128 - i * 128 = 128 by omega]

end Go.Proofs.YtbgommpdmnbplaaGreatDoor

/- What bytes.Clone (and slices.Clone of bytes) does: nil of nil; else a new row with the same bytes; nothing old turns. -/
namespace Go.Proofs.YtbgommpdmnbplaaGreatDoor
open Go.RowKit
set_option maxRecDepth 20000

theorem Tryz.cinfo5 : (Tryz.prog.info? 5).map (fun i => (i.zero, i.size, i.bytes)) = some (some (.int .u8 0), 1, 1) := by kernel_rfl

theorem clone_nil (len cap : Nat) (w : World) :
    Calls Tryz.prog 84 #[.slice none len cap] w fun e w' => e = .returned (.slice none 0 0) ∧ w' = w := by
  have hq := Lib.run_eql_slice_nil (P := Tryz.prog) w 81 5 none len cap 0 0 Tryz.underlying81
  simp only [Option.isNone_none] at hq
  go_enter Tryz.func84, Tryz.ntmps84
  go_wp2
  go_ret
  exact ⟨rfl, rfl⟩

set_option maxHeartbeats 400000 in
theorem clone_any (a : Addr) (len cap : Nat) (zs : List Int) (w : World) (hs : Src w (some a) len zs) (hr : len ≤ 140737488355328) :
    Calls Tryz.prog 84 #[.slice (some a) len cap] w fun e w' => ∃ g c, e = .returned (.slice (some ⟨g, 0, none⟩) len c) ∧
      w'.ownsRow w.heap.size 5 1 (.slice (some ⟨g, 0, none⟩) len c) len (zs.map (Value.int .u8)) ∧ Below w.heap.size w w' := by
  obtain ⟨i0, hi, hz0, hz1, hz2⟩ := info_parts Tryz.cinfo5
  have hb0 : Below w.heap.size w (w.alloc (.cells #[] 5)) := (Below.refl _ _).alloc (Nat.le_refl _) _
  obtain ⟨cs, hcs⟩ : ∃ cs, cs = zs.map (Value.int .u8) := ⟨_, rfl⟩
  have HL : Hid (cs.length = len * 1) := by show _ = _; rw [hcs]; simp [hs.1]
  have H1 : Hid (∀ u ∈ cs, u.oneCell' = true) := by rw [hcs]; exact ints_oneCell _ _
  have HN : Hid (∀ j u, cs[j]? = some u → (w.alloc (.cells #[] 5)).cell? (a.add j) = some u) := by
    intro j u hj
    have hjl : j < cs.length := (List.getElem?_eq_some_iff.1 hj).1
    have hl : cs.length = len := by rw [hcs]; simp [hs.1]
    obtain ⟨b, o, e, hlt, hc⟩ := hs.2 (by omega)
    obtain rfl := Option.some.inj e
    rw [Addr.add_lit, hb0.cell (p := ⟨b, o + j, none⟩) hlt, hc j (by omega), ← hj, hcs]
    simp [List.getD, List.getElem?_eq_getElem (show j < zs.length by have := hs.1; omega)]
  have HO : Hid ((w.alloc (.cells #[] 5)).ownsRow w.heap.size 5 1 (.slice (some ⟨w.heap.size, 0, none⟩) 0 0) 0 []) := World.ownsRow_made w #[] 0 (Nat.le_refl _) (by unfold maxLen; omega) rfl
  have HC := hid hcs
  have HB := hid hb0
  clear hcs hb0 hs
  have hq := Lib.run_eql_slice_nil (P := Tryz.prog) w 81 5 (some a) len cap 0 0 Tryz.underlying81
  simp only [Option.isNone_some] at hq
  go_enter Tryz.func84, Tryz.ntmps84
  go_wp2_with (at_builtin; go_must (refine wpList_append_own _ rfl (.tmp 5) (.tmp 6) 81 rfl w.heap.size 5 i0 (.int .u8 0) 1 1 Tryz.underlying81 hi hz0 hz1 hz2 rfl (by decide) (.slice (some ⟨w.heap.size, 0, none⟩) 0 0) 0 [] rfl HO.out a len cap cs rfl HL.out HN.out H1.out (by unfold maxLen; omega) (by omega) (by simp) ?_))
  intro v' w1 hown hgrow hnil
  rw [HC.out] at hown
  have hb1 := HB.out.grown hgrow (by simp) (by intro q hq; simp [Value.ownBlock] at hq; omega)
  obtain ⟨g, c, rfl⟩ : ∃ g c, v' = .slice (some ⟨g, 0, none⟩) len c := by
    rcases hown.2 with ⟨h, _⟩ | ⟨g, c, _, h, _⟩
    · exact absurd h (by simpa using hnil)
    · exact ⟨g, c, h⟩
  have H1 := hid hown
  clear hown hgrow hnil
  go_wp2_with fail
  go_ret
  exact ⟨g, c, rfl, H1.out, hb1⟩

end Go.Proofs.YtbgommpdmnbplaaGreatDoor

/- Images: rows of sectors, as they lie; and what disk.Image, dredgerplain.Image and SameImage do with them. -/
namespace Go.Proofs.YtbgommpdmnbplaaGreatDoor
open Go.RowKit
set_option linter.unusedVariables false

/-- Bytes of a sector, in a block that is none of M. -/
def Byt (w : World) (M : List Nat) (u : Value) (bs : List Int) : Prop := ∃ a c, u = .slice (some a) 128 c ∧ Src w (some a) 128 bs ∧ a.block ∉ M ∧ 128 ≤ c ∧ c ≤ 9223372036854775807

/-- A row of sectors. -/
def Pic (w : World) (M : List Nat) (v : Value) (n : Nat) (f : Nat → List Int) : Prop := ∃ vs, w.ownsRow 0 81 1 v n vs ∧ ∀ j, j < n → ∃ u, vs[j]? = some u ∧ Byt w M u (f j)

def Grew' (w : World) (F F' : List Nat) : Prop := ∀ x ∈ F', x ∈ F ∨ w.heap.size ≤ x

theorem src_lt {w : World} {a : Addr} {n : Nat} {zs : List Int} (h : Src w (some a) n zs) (hn : 0 < n) : a.block < w.heap.size := by
  obtain ⟨b, o, e0, hlt, _⟩ := h.2 hn
  rw [Option.some.inj e0]; exact hlt

theorem own_cap {w : World} {B e size n c : Nat} {a : Option Addr} {xs : List Value} (h : w.ownsRow B e size (.slice a n c) n xs) : n ≤ c ∧ c ≤ 9223372036854775807 := by
  obtain ⟨ae, c', e, h1, h2⟩ := own_shape h
  injection e with _ _ e3
  subst e3
  exact ⟨h1, h2⟩

theorem Byt.weaken {w : World} {M M' : List Nat} {u : Value} {bs : List Int} (h : Byt w M u bs) (hs : ∀ x ∈ M', x ∈ M) : Byt w M' u bs := by
  obtain ⟨a, c, h1, h2, h3, h4⟩ := h
  exact ⟨a, c, h1, h2, fun hx => h3 (hs _ hx), h4⟩

theorem Byt.upd {w w' : World} {M M' : List Nat} {u : Value} {bs : List Int} (h : Byt w M u bs) (hu : Upd (· ∈ M) w w') (hg : Grew' w M M') : Byt w' M' u bs := by
  obtain ⟨a, c, rfl, hs, hm, hc⟩ := h
  refine ⟨a, c, rfl, hu.src hs (fun b o e => ?_), fun hx => ?_, hc⟩
  · have := Option.some.inj e
    subst this
    exact hm
  · rcases hg _ hx with h | h
    · exact hm h
    · have := src_lt hs (by omega); omega

theorem Pic.weaken {w : World} {M M' : List Nat} {v : Value} {n : Nat} {f : Nat → List Int} (h : Pic w M v n f) (hs : ∀ x ∈ M', x ∈ M) : Pic w M' v n f := by
  obtain ⟨vs, hr, hj⟩ := h
  refine ⟨vs, hr, fun j hl => ?_⟩
  obtain ⟨u, h1, h2⟩ := hj j hl
  exact ⟨u, h1, h2.weaken hs⟩

theorem Pic.upd {w w' : World} {M M' : List Nat} {v : Value} {n : Nat} {f : Nat → List Int} (h : Pic w M v n f) (hu : Upd (· ∈ M) w w') (hg : Grew' w M M') (hv : ∀ k, v.ownBlock = some k → k ∉ M) : Pic w' M' v n f := by
  obtain ⟨vs, hr, hj⟩ := h
  refine ⟨vs, hu.own hr hv, fun j hl => ?_⟩
  obtain ⟨u, h1, h2⟩ := hj j hl
  exact ⟨u, h1, h2.upd hu hg⟩

theorem Tryz.infoTB : (Tryz.prog.info? 81).map (fun i => (i.zero, i.size, i.bytes)) = some (some (.slice none 0 0), 1, 24) := by kernel_rfl

/-- What a sector of a row of bytes is. -/
theorem src_sec {w : World} {g len c n i : Nat} {zs : List Int} (h : w.ownsRow 0 5 1 (.slice (some ⟨g, 0, none⟩) len c) len (zs.map (Value.int .u8))) (hl : len = n * 128) (hi : i < n) : Src w (some ⟨g, i * 128, none⟩) 128 (sec zs i) := by
  have hz : zs.length = len := by have := h.1; simpa using this
  have hin : (i + 1) * 128 ≤ n * 128 := Nat.mul_le_mul_right _ hi
  refine ⟨length_sec zs n i (by omega) hi, fun _ => ⟨g, i * 128, rfl, (h.lt g rfl).2, fun j hj => ?_⟩⟩
  rw [h.cellAt _ (by omega)]
  have := getElem?_sec zs i j hj
  rw [List.getElem?_map, ← this]
  simp [List.getD, List.getElem?_eq_getElem (show j < (sec zs i).length by rw [length_sec zs n i (by omega) hi]; exact hj)]

def vsAt (gb i n : Nat) : List Value := (List.range n).map fun j => if j < i then .slice (some ⟨gb, j * 128, none⟩) 128 128 else .slice none 0 0

theorem vsAt_zero (gb n : Nat) : vsAt gb 0 n = List.replicate n (.slice none 0 0) := by
  apply List.ext_getElem?
  intro j
  simp only [vsAt, List.getElem?_map, List.getElem?_replicate]
  by_cases h : j < n <;> simp [h]

theorem vsAt_set (gb i n : Nat) (h : i < n) : (vsAt gb i n).set i (.slice (some ⟨gb, i * 128, none⟩) 128 128) = vsAt gb (i + 1) n := by
  apply List.ext_getElem?
  intro j
  simp only [vsAt, List.getElem?_set, List.length_map, List.length_range, List.getElem?_map]
  by_cases hj : i = j
  · subst hj; simp [h]
  · rw [if_neg hj]
    by_cases hn : j < n
    · simp [hn]
      by_cases h1 : j < i
      · rw [if_pos h1, if_pos (by omega)]
      · rw [if_neg h1, if_neg (by omega)]
    · simp [hn]

set_option maxHeartbeats 1000000 in
set_option maxRecDepth 20000 in
theorem image_any (d : Dk) (p : Nat) (w : World) (hok : d.ok w p) (M : List Nat) (hM : ∀ x ∈ M, x < w.heap.size) :
    Calls Tryz.prog 28 #[.pointer (some ⟨p, 0, none⟩)] w fun e w' => ∃ g, e = .returned (.slice (some ⟨g, 0, none⟩) d.n d.n) ∧ Pic w' (g :: M) (.slice (some ⟨g, 0, none⟩) d.n d.n) d.n (sec d.dur) ∧ w.heap.size ≤ g ∧ Below w.heap.size w w' := by
  obtain ⟨i0, hi0, hz0, hz1, hz2⟩ := info_parts Tryz.infoTB
  have k1 := hid (dusable d p w hok)
  have k2 := hid (sclone_any ⟨d.gd, 0, none⟩ (d.n * 128) d.cd d.dur w (Src.own hok.dur) (by have := hok.n2; omega))
  have k3 : Hid (∀ w', Below w.heap.size w w' → Calls Tryz.prog 74 #[.pointer (some ⟨p, 0, none⟩)] w' fun e w'' => e = .returned (.int .i64 (d.n : Int)) ∧ w'' = w') := fun w' hb => dsectors d p w' (hok.frame fun k hk => hb.block k (hok.lt k hk))
  obtain ⟨c0, -, -, -⟩ := hok.cell
  have hn1 := hok.n1
  have hn2 := hok.n2
  clear hok
  go_enter Tryz.func28, Tryz.ntmps28
  go_wp2_with fail
  refine k1.out.mono ?_
  rintro r w1 ⟨rfl, h⟩
  subst w1
  go_wp2_with fail
  refine k2.out.mono ?_
  rintro r w1 ⟨gb, cb, rfl, hown, hb⟩
  have HO := hid hown
  clear hown c0
  go_wp2_with fail
  refine (k3.out _ hb).mono ?_
  rintro r w2 ⟨rfl, h⟩
  subst w2
  have hmx : d.n ≤ maxLen := by unfold maxLen; omega
  have hby : i0.bytes * d.n ≤ 281474976710656 := by rw [hz2]; omega
  go_wp2_with (at_make; go_must (refine wpList_make_lc _ rfl _ _ 22 rfl 81 i0 (.slice none 0 0) 1 Tryz.underlying22 hi0 hz0 hz1 _ _ _ _ d.n d.n rfl rfl rfl rfl (Nat.le_refl _) hby hmx ?_))
  have hw0 : (w1.alloc (.cells (madeCells #[Value.slice none 0 0] d.n) 81)).ownsRow 0 81 1 (.slice (some ⟨w1.heap.size, 0, none⟩) d.n d.n) d.n (vsAt gb 0 d.n) := by
    refine ⟨by simp [vsAt], .inr ⟨w1.heap.size, d.n, _, rfl, Nat.zero_le _, heap_alloc_new w1 _, Nat.le_refl _, hmx, by simp [size_madeCells], ?_⟩⟩
    rw [toList_madeCells_one, vsAt_zero]
    simp
  have hb0 : Below w1.heap.size w1 (w1.alloc (.cells (madeCells #[Value.slice none 0 0] d.n) 81)) := (Below.refl _ _).alloc (Nat.le_refl _) _
  have HW := hid hw0
  have HB := hid hb0
  clear hw0 hb0
  go_loopw [19] (fun k wr => ∃ i : Nat, k = .int .i64 i ∧ i ≤ d.n ∧ Hid (wr.ownsRow 0 81 1 (.slice (some ⟨w1.heap.size, 0, none⟩) d.n d.n) d.n (vsAt gb i d.n)) ∧ Below w1.heap.size w1 wr) (fun k _ => d.n - (intOf k).toNat)
  case atStart => exact ⟨0, rfl, Nat.zero_le _, HW.out, HB.out⟩
  case round =>
    obtain ⟨i, rfl, hi, HR, hbr⟩ := hrel
    by_cases hlt : i < d.n
    · have hc : wr.cell? ⟨w1.heap.size, i, none⟩ = some (.slice none 0 0) := by
        rw [HR.out.cellAt _ (by omega)]
        simp [vsAt, hlt]
      have hf := HR.out.frozenAt i
      have hst := HR.out.stored i (.slice (some ⟨gb, i * 128, none⟩) 128 128)
      rw [vsAt_set gb i d.n hlt] at hst
      have HS := hid hst
      clear hst
      have ks := hid (sector_any gb d.n i cb wr hlt hn2 (by rcases HO.out.2 with ⟨h, _⟩ | ⟨g', c', cur, h, _, _, h1, _⟩; cases h; injection h with _ _ h3; subst h3; exact h1) (by rcases HO.out.2 with ⟨h, _⟩ | ⟨g', c', cur, h, _, _, _, h1, _⟩; cases h; injection h with _ _ h3; subst h3; unfold maxLen at h1; omega))
      go_wp2_with fail
      refine ks.out.mono ?_
      rintro r w2 ⟨rfl, h⟩
      subst w2
      go_wp2_with fail
      go_roundw
      case rel => exact ⟨i + 1, by go_num, by omega, HS.out.1, hbr.grown HS.out.2 hbr.size (by intro q hq; simp at hq; omega)⟩
      case measure => simp [intOf]; omega
    · obtain rfl : i = d.n := by omega
      go_wp2_with fail
      go_ret
      refine ⟨w1.heap.size, rfl, ⟨_, HR.out, fun j hj => ⟨.slice (some ⟨gb, j * 128, none⟩) 128 128, by simp [vsAt, hj], _, _, rfl, ?_, ?_, by omega, by omega⟩⟩, hb.size, hb.trans (hbr.mono hb.size)⟩
      · exact (src_sec (own_base HO.out (Nat.zero_le _)) rfl hj).below hbr
      · have := HO.out.lt gb rfl
        intro hx
        rcases List.mem_cons.1 hx with h | h
        · simp at h; omega
        · have := hM _ h; simp at this; omega

end Go.Proofs.YtbgommpdmnbplaaGreatDoor

/- What dredgerplain.Image (a copy of sectors) and SameImage (of two that are the same) do. -/
namespace Go.Proofs.YtbgommpdmnbplaaGreatDoor
open Go.RowKit
set_option linter.unusedVariables false

theorem grew_refl (w : World) (F : List Nat) : Grew' w F F := fun _ h => .inl h

/-- Entries of a row that is made. -/
def Ent (w : World) (M : List Nat) (v : Value) (i : Nat) (f : Nat → List Int) : Prop := ∃ vs, w.ownsRow 0 81 1 v i vs ∧ ∀ j, j < i → ∃ u, vs[j]? = some u ∧ Byt w (vb v ++ M) u (f j)

set_option maxHeartbeats 1000000 in
set_option maxRecDepth 20000 in
theorem pimage_any (v : Value) (n : Nat) (f : Nat → List Int) (M0 M : List Nat) (w : World) (hp : Pic w M0 v n f) (hn : n ≤ 2048) (hM : ∀ x ∈ M, x < w.heap.size) :
    Calls Tryz.prog 37 #[v] w fun e w' => ∃ v', e = .returned v' ∧ Pic w' (vb v' ++ M) v' n f ∧ (∀ x, v'.ownBlock = some x → w.heap.size ≤ x) ∧ Below w.heap.size w w' := by
  obtain ⟨i0, hi0, hz0, hz1, hz2⟩ := info_parts Tryz.infoTB
  obtain ⟨vs, hrow, hent⟩ := hp
  obtain ⟨ae, c, rfl, hc1, hc2⟩ := own_shape hrow
  have HROW := hid hrow
  have HENT := hid hent
  have HM := hid hM
  clear hrow hent hM
  go_enter Tryz.func37, Tryz.ntmps37
  go_wp2_with fail
  go_loopw [3, 8] (fun vo k wr => ∃ i : Nat, k = .int .i64 i ∧ i ≤ n ∧ Hid (Ent wr M vo i f) ∧ Hid (∀ x, vo.ownBlock = some x → w.heap.size ≤ x) ∧ Below w.heap.size w wr) (fun _ k _ => n - (intOf k).toNat)
  case atStart => exact ⟨0, rfl, Nat.zero_le _, ⟨[], World.ownsRow_nil _ _ _ _, fun j hj => absurd hj (Nat.not_lt_zero j)⟩, (fun x hx => by simp [Value.ownBlock] at hx), Below.refl _ _⟩
  case round =>
    obtain ⟨i, rfl, hi, HE, HV, hbr⟩ := hrel
    obtain ⟨vo, hvo⟩ : ∃ vo, vo = u3 := ⟨_, rfl⟩
    rw [← hvo] at HE HV ⊢
    clear hvo
    by_cases hlt : i < n
    · obtain ⟨u, hu, a, cc, rfl, hs, hm⟩ := HENT.out i hlt
      obtain ⟨g, rfl⟩ : ∃ g, ae = some ⟨g, 0, none⟩ := by
        rcases HROW.out.2 with ⟨_, h⟩ | ⟨g, c, cur, h, _⟩
        · omega
        · injection h with h1 h2 h3; exact ⟨g, h1⟩
      have hc : wr.cell? ⟨g, i, none⟩ = some (.slice (some a) 128 cc) := by
        rw [(own_below HROW.out hbr).cellAt _ (by omega)]
        exact hu
      have kc := hid (clone_any a 128 cc (f i) wr (hs.below hbr) (by omega))
      clear hu hs
      go_wp2_with fail
      refine kc.out.mono ?_
      rintro r w2 ⟨gb, cb, rfl, hown, hb2⟩
      have HO := hid hown
      have HB2 := hid hb2
      clear hown hb2 hc
      obtain ⟨us, huo, hue⟩ := HE.out
      have huo2 := own_below huo HB2.out
      have HUO := hid huo2
      have HUE := hid hue
      clear huo huo2 hue
      have hsz := hbr.size
      have hsz2 := HB2.out.size
      have hgb := HO.out.lt gb rfl
      go_wp2_with (at_builtin; go_must (refine wpList_append_where rfl _ _ 22 rfl 81 i0 _ 1 24 Tryz.underlying22 hi0 hz0 hz1 hz2 rfl (by decide) vo i us rfl (HUO.out.alloc _) ⟨_, 0, none⟩ 1 1 [.slice (some ⟨gb, 0, none⟩) 128 cb] rfl rfl (by intro j u hj; rw [Addr.add_lit]; refine heap_cells (heap_alloc_new _ _) _ u ?_; simpa using hj) (by simp [Value.oneCell']) (by unfold maxLen; omega) (by omega) ?_))
      intro v' w3 hO3 hU3 hN3 hW3
      have hbw3 : Below w.heap.size w w3 := by
        refine (hbr.trans (HB2.out.mono hsz)).trans ((((Below.refl w2.heap.size w2).alloc (Nat.le_refl _) _).mono (by omega)).trans (hU3.below (by simp; omega) (fun x hx => HV.out x hx)))
      have hent' : Ent w3 M v' (i + 1) f := by
        refine ⟨_, hO3.out, fun j hj => ?_⟩
        have hgr : Grew' (w2.alloc (.cells #[.slice (some ⟨gb, 0, none⟩) 128 cb] 81)) (vb vo ++ M) (vb v' ++ M) := by
          intro x hx
          rcases List.mem_append.1 hx with h | h
          · have hx' : v'.ownBlock = some x := by simpa [vb] using h
            rcases hW3.out with h' | h'
            · exact .inl (List.mem_append.2 (.inl (by simp [vb, ← h', hx'])))
            · exact .inr (by have := h' x hx'; simpa using this)
          · exact .inl (List.mem_append.2 (.inr h))
        have hU3' : Upd (· ∈ vb vo ++ M) (w2.alloc (.cells #[.slice (some ⟨gb, 0, none⟩) 128 cb] 81)) w3 := hU3.mono (fun x _ hx => List.mem_append.2 (.inl (by simp [vb, hx])))
        rcases (show j < i ∨ j = i by omega) with hj' | rfl
        · obtain ⟨u, h1, h2⟩ := HUE.out j hj'
          refine ⟨u, by rw [List.getElem?_append_left (List.getElem?_eq_some_iff.1 h1).1]; exact h1, ?_⟩
          exact ((h2.upd (Upd.of_below HB2.out) (grew_refl _ _)).upd (Upd.alloc _ w2 _) (grew_refl _ _)).upd hU3' hgr
        · have hul : us.length = j := by have := HUO.out.1; omega
          refine ⟨.slice (some ⟨gb, 0, none⟩) 128 cb, by rw [← hul]; simp, ?_⟩
          have hb : Byt (w2.alloc (.cells #[.slice (some ⟨gb, 0, none⟩) 128 cb] 81)) (vb vo ++ M) (.slice (some ⟨gb, 0, none⟩) 128 cb) (f j) := by
            refine ⟨⟨gb, 0, none⟩, cb, rfl, (Src.own HO.out).below ((Below.refl _ _).alloc (Nat.le_refl _) _), fun hx => ?_, own_cap HO.out⟩
            rcases List.mem_append.1 hx with h | h
            · have := own_lt HE.out.choose_spec.1 h
              simp at this
              omega
            · have := HM.out _ h
              simp at this
              omega
          exact hb.upd hU3' hgr
      have hv' : ∀ x, v'.ownBlock = some x → w.heap.size ≤ x := by
        intro x hx
        rcases hW3.out with h' | h'
        · exact HV.out x (h' ▸ hx)
        · have := h' x hx; omega
      have HE3 := hid hent'
      have HV3 := hid hv'
      clear hent' hv' hU3
      go_wp2_with fail
      go_roundw
      case rel => exact ⟨i + 1, by go_num, by omega, HE3.out, HV3.out, hbw3⟩
      case measure => simp [intOf]; omega
    · obtain rfl : i = n := by omega
      go_wp2_with fail
      go_ret
      exact ⟨vo, rfl, HE.out, HV.out, hbr⟩

set_option maxHeartbeats 1000000 in
set_option maxRecDepth 20000 in
theorem eqf_yes (v1 v2 : Value) (n : Nat) (f g : Nat → List Int) (M1 M2 : List Nat) (w : World) (h1 : Pic w M1 v1 n f) (h2 : Pic w M2 v2 n g) (hn : n ≤ 2048) (hfg : ∀ j, j < n → f j = g j) :
    Calls Tryz.prog 82 #[v1, v2, .func (.func 83) #[] #[]] w fun e w' => e = .returned (.bool true) ∧ w' = w := by
  obtain ⟨vs, hrow, hent⟩ := h1
  obtain ⟨ae, c, rfl, hc1, hc2⟩ := own_shape hrow
  obtain ⟨us, hrow2, hent2⟩ := h2
  obtain ⟨be, c', rfl, hc3, hc4⟩ := own_shape hrow2
  have HROW := hid hrow
  have HENT := hid hent
  have HROW2 := hid hrow2
  have HENT2 := hid hent2
  have HF := hid hfg
  clear hrow hent hrow2 hent2 hfg
  go_enter Tryz.func82, Tryz.ntmps82
  go_wp2_with fail
  go_loop [17] (fun k => ∃ i : Nat, k = .int .i64 i ∧ i ≤ n) (fun k => n - (intOf k).toNat)
  case atStart => exact ⟨0, rfl, Nat.zero_le _⟩
  case round =>
    obtain ⟨i, rfl, hi⟩ := hrel
    by_cases hlt : i < n
    · obtain ⟨u, hu, a, cc, rfl, hs, hm⟩ := HENT.out i hlt
      obtain ⟨u2, hu2, a2, cc2, rfl, hs2, hm2⟩ := HENT2.out i hlt
      obtain ⟨g1, rfl⟩ : ∃ g, ae = some ⟨g, 0, none⟩ := by
        rcases HROW.out.2 with ⟨_, h⟩ | ⟨g, c, cur, h, _⟩
        · omega
        · injection h with h1 h2 h3; exact ⟨g, h1⟩
      obtain ⟨g2, rfl⟩ : ∃ g, be = some ⟨g, 0, none⟩ := by
        rcases HROW2.out.2 with ⟨_, h⟩ | ⟨g, c, cur, h, _⟩
        · omega
        · injection h with h1 h2 h3; exact ⟨g, h1⟩
      have e1 : w.cell? ⟨g1, i, none⟩ = some (.slice (some a) 128 cc) := by rw [HROW.out.cellAt _ (by omega)]; exact hu
      have e2 : w.cell? ⟨g2, i, none⟩ = some (.slice (some a2) 128 cc2) := by rw [HROW2.out.cellAt _ (by omega)]; exact hu2
      rw [← HF.out i hlt] at hs2
      have ke := hid (equal_yes (some a) (some a2) 128 cc 128 cc2 (f i) w hs hs2)
      clear hu hu2 hs hs2
      go_wp2_with fail
      refine ke.out.mono ?_
      rintro r w2 ⟨rfl, h⟩
      subst w2
      go_wp2_with fail
      go_round
      case rel => exact ⟨i + 1, by go_num, by omega⟩
      case measure => simp [intOf]; omega
    · obtain rfl : i = n := by omega
      go_wp2_with fail
      go_ret
      exact ⟨rfl, rfl⟩

theorem same_yes (v1 v2 : Value) (n : Nat) (f g : Nat → List Int) (M1 M2 : List Nat) (w : World) (h1 : Pic w M1 v1 n f) (h2 : Pic w M2 v2 n g) (hn : n ≤ 2048) (hfg : ∀ j, j < n → f j = g j) :
    Calls Tryz.prog 29 #[v1, v2] w fun e w' => e = .returned (.bool true) ∧ w' = w := by
  have k := hid (eqf_yes v1 v2 n f g M1 M2 w h1 h2 hn hfg)
  obtain ⟨_, hr1, _⟩ := h1
  obtain ⟨_, hr2, _⟩ := h2
  obtain ⟨ae, c, rfl, _, _⟩ := own_shape hr1
  obtain ⟨be, c', rfl, _, _⟩ := own_shape hr2
  clear hr1 hr2
  go_enter Tryz.func29, Tryz.ntmps29
  go_wp2_with fail
  refine k.out.mono ?_
  rintro r w2 ⟨rfl, h⟩
  subst w2
  go_wp2_with fail
  go_ret
  exact ⟨rfl, rfl⟩

end Go.Proofs.YtbgommpdmnbplaaGreatDoor

/- What becomes of a disk's memory when it is written to: the steps of Write, without the walk. -/
namespace Go.Proofs.YtbgommpdmnbplaaGreatDoor
open Go.RowKit
set_option linter.unusedVariables false

theorem nodup_swap {A B B' : List Nat} {N : Nat} (h : (A ++ B).Nodup) (hB : B'.Nodup) (hs : ∀ x ∈ B', x ∈ B ∨ N ≤ x) (hA : ∀ x ∈ A, x < N) : (A ++ B').Nodup := by
  rw [List.nodup_append] at h ⊢
  refine ⟨h.1, hB, fun a ha b hb e => ?_⟩
  subst e
  rcases hs a hb with h' | h'
  · exact h.2.2 a ha a h' rfl
  · have := hA a ha; omega

theorem foot_split (d : Dk) (p : Nat) (init : List Ep) (e : Ep) (h : d.eps = init ++ [e]) : d.foot p = (p :: d.gd :: d.gw :: (vb d.ve ++ init.flatMap Ep.foot)) ++ e.foot := by
  simp [Dk.foot, h]

/-- Which blocks an object has behind a call: those that it had, or new ones. -/
def Grew (w : World) (F F' : List Nat) : Prop := ∀ x ∈ F', x ∈ F ∨ w.heap.size ≤ x

theorem Grew.refl (w : World) (F : List Nat) : Grew w F F := fun _ h => .inl h

theorem Dk.ok.wrote {d : Dk} {w1 w2 w4 : World} {p i ge ce : Nat} {init : List Ep} {e e' : Ep} {bs : List Int} (hok : d.ok w1 p) (heps : d.eps = init ++ [e]) (hve : d.ve = .slice (some ⟨ge, 0, none⟩) (init.length + 1) ce)
    (he' : e'.ok w2 d.n) (hU2 : Upd (· ∈ e.foot) w1 w2) (hf : ∀ x ∈ e'.foot, x ∈ e.foot ∨ w1.heap.size ≤ x) (hnd : e'.foot.Nodup)
    (hU4 : Upd (fun x => x = ge ∨ x = d.gw) w2 w4) (hrow : w4.ownsRow 0 110 1 d.ve (init.length + 1) (init.map Ep.v ++ [e'.v]))
    (hw : w4.ownsRow 0 5 1 (.slice (some ⟨d.gw, 0, none⟩) (d.n * 128) d.cw) (d.n * 128) ((splice d.wr (i * 128) bs).map (Value.int .u8))) (hopn : d.opn = true) :
    ({ d with eps := init ++ [e'], wr := splice d.wr (i * 128) bs } : Dk).ok w4 p ∧ Upd (· ∈ d.foot p) w1 w4 ∧ Grew w1 (d.foot p) (({ d with eps := init ++ [e'], wr := splice d.wr (i * 128) bs } : Dk).foot p) := by
  have hfs := foot_split d p init e heps
  have hlt := hok.lt
  have hnd0 := hok.nodup
  rw [hfs] at hnd0 hlt
  have hfs' : ({ d with eps := init ++ [e'], wr := splice d.wr (i * 128) bs } : Dk).foot p = (p :: d.gd :: d.gw :: (vb d.ve ++ init.flatMap Ep.foot)) ++ e'.foot := foot_split _ p init e' rfl
  have hA : ∀ x ∈ p :: d.gd :: d.gw :: (vb d.ve ++ init.flatMap Ep.foot), x < w1.heap.size := fun x hx => hlt x (List.mem_append.2 (.inl hx))
  have hge : ge ∈ vb d.ve := by simp [hve, vb, Value.ownBlock]
  have hvbe : vb d.ve = [ge] := by simp [hve, vb, Value.ownBlock]
  have hnd1 := nodup_swap hnd0 hnd hf hA
  have hU : Upd (· ∈ d.foot p) w1 w4 := by
    rw [hfs]
    refine (hU2.mono (fun x _ hx => List.mem_append.2 (.inr hx))).trans hU4 (fun x _ hx => ?_)
    rcases hx with rfl | rfl
    · simp [hvbe]
    · simp
  rw [hvbe] at hnd0 hnd1 hA hfs'
  -- blocks that stay
  have hstay : ∀ x ∈ p :: d.gd :: init.flatMap Ep.foot, w4.heap[x]? = w1.heap[x]? := by
    intro x hx
    have hxA : x ∈ p :: d.gd :: d.gw :: ([ge] ++ init.flatMap Ep.foot) := by
      simp only [List.mem_cons, List.mem_append] at hx ⊢
      rcases hx with rfl | rfl | hx
      · simp
      · simp
      · exact .inr (.inr (.inr (.inr hx)))
    have hxl := hA x hxA
    have hxe : x ∉ e.foot := fun hxe => (List.nodup_append.1 hnd0).2.2 x hxA x hxe rfl
    have hne : x ≠ ge ∧ x ≠ d.gw := by
      have h1 := (List.nodup_append.1 hnd0).1
      simp only [List.nodup_cons, List.mem_cons, List.singleton_append, not_or] at h1
      simp only [List.mem_cons] at hx
      rcases hx with rfl | rfl | hx
      · exact ⟨h1.1.2.2.1, h1.1.2.1⟩
      · exact ⟨h1.2.1.2.1, h1.2.1.1⟩
      · exact ⟨fun e => h1.2.2.2.1 (e ▸ hx), fun e => h1.2.2.1.2 (e ▸ hx)⟩
    rw [hU4.block x (Nat.lt_of_lt_of_le hxl hU2.size) (by simp [hne.1, hne.2]), hU2.block x hxl hxe]
  have he4 : e'.ok w4 d.n := by
    refine he'.frame fun k hk => hU4.block k (he'.lt k hk) ?_
    have h3 := (List.nodup_append.1 hnd1).2.2
    rintro (rfl | rfl)
    · exact h3 k (by simp) k hk rfl
    · exact h3 d.gw (by simp) d.gw hk rfl
  refine ⟨⟨(hstay p (by simp)).trans hok.cells, own_of_heap hok.dur ?_, hw, ?_, ?_, by rw [hfs']; exact hnd1, hok.n1, hok.n2, fun _ => by simp⟩, hU, ?_⟩
  · intro k hk; simp [Value.ownBlock] at hk; subst hk; exact hstay _ (by simp)
  · simpa using hrow
  · intro u hu
    simp only [List.mem_append, List.mem_singleton] at hu
    rcases hu with hu | rfl
    · exact (hok.eps u (by rw [heps]; simp [hu])).frame fun k hk => hstay k (by simp only [List.mem_cons, List.mem_flatMap]; exact .inr (.inr ⟨u, hu, hk⟩))
    · exact he4
  · intro x hx
    rw [hfs'] at hx
    rw [hfs, hvbe]
    rcases List.mem_append.1 hx with hx | hx
    · exact .inl (List.mem_append.2 (.inl hx))
    · rcases hf x hx with h | h
      · exact .inl (List.mem_append.2 (.inr h))
      · exact .inr h

theorem Dk.ok.opened {d : Dk} {w w1 : World} {p : Nat} {v' : Value} (hok : d.ok w p) (hU : Upd (fun x => d.ve.ownBlock = some x) w w1) (hrow : w1.ownsRow 0 110 1 v' (d.eps.length + 1) (d.eps.map Ep.v ++ [.slice none 0 0]))
    (hv : v'.ownBlock = d.ve.ownBlock ∨ ∀ x, v'.ownBlock = some x → w.heap.size ≤ x) :
    ({ d with ve := v', eps := d.eps ++ [⟨.slice none 0 0, []⟩], opn := true } : Dk).ok ((w1.setCell ⟨p, 2, none⟩ v').setCell ⟨p, 3, none⟩ (.bool true)) p ∧ Upd (· ∈ d.foot p) w ((w1.setCell ⟨p, 2, none⟩ v').setCell ⟨p, 3, none⟩ (.bool true)) ∧
      Grew w (d.foot p) (({ d with ve := v', eps := d.eps ++ [⟨.slice none 0 0, []⟩], opn := true } : Dk).foot p) := by
  have hlt := hok.lt
  have hnd := hok.nodup
  have hUw : Upd (· = p) w1 ((w1.setCell ⟨p, 2, none⟩ v').setCell ⟨p, 3, none⟩ (.bool true)) := (Upd.setCell (F := (· = p)) w1 ⟨p, 2, none⟩ v' rfl).trans (Upd.setCell (F := (· = p)) _ ⟨p, 3, none⟩ _ rfl) (fun x _ hx => hx)
  have hU2 : Upd (· ∈ d.foot p) w ((w1.setCell ⟨p, 2, none⟩ v').setCell ⟨p, 3, none⟩ (.bool true)) := by
    refine (hU.mono (fun x _ hx => ?_)).trans hUw (fun x _ hx => ?_)
    · simp [Dk.foot, vb, hx]
    · simp [Dk.foot, hx]
  have hfoot : ({ d with ve := v', eps := d.eps ++ [⟨.slice none 0 0, []⟩], opn := true } : Dk).foot p = p :: d.gd :: d.gw :: (vb v' ++ d.eps.flatMap Ep.foot) := by
    simp [Dk.foot, Ep.foot, vb, Value.ownBlock]
  simp only [Dk.foot, List.nodup_cons, List.mem_cons, List.mem_append, not_or] at hnd
  have hpv : d.ve.ownBlock ≠ some p := fun h => hnd.1.2.2.1 (by simp [vb, h])
  have hp1 := hU.heap hok.cells hpv
  have hpl : p < w.heap.size := hlt p (by simp [Dk.foot])
  have hstay : ∀ x ∈ d.gd :: d.gw :: d.eps.flatMap Ep.foot, ((w1.setCell ⟨p, 2, none⟩ v').setCell ⟨p, 3, none⟩ (.bool true)).heap[x]? = w.heap[x]? := by
    intro x hx
    have hxF : x ∈ d.foot p := by
      simp only [Dk.foot, List.mem_cons, List.mem_append] at hx ⊢
      rcases hx with rfl | rfl | hx
      · simp
      · simp
      · exact .inr (.inr (.inr (.inr hx)))
    have hxl := hlt x hxF
    have hne : x ≠ p ∧ d.ve.ownBlock ≠ some x := by
      simp only [List.mem_cons] at hx
      rcases hx with rfl | rfl | hx
      · exact ⟨fun e => hnd.1.1 e.symm, fun h => hnd.2.1.2.1 (by simp [vb, h])⟩
      · exact ⟨fun e => hnd.1.2.1 e.symm, fun h => hnd.2.2.1.1 (by simp [vb, h])⟩
      · exact ⟨fun e => hnd.1.2.2.2 (e ▸ hx), fun h => (List.nodup_append.1 hnd.2.2.2).2.2 x (by simp [vb, h]) x hx rfl⟩
    rw [hUw.block x (Nat.lt_of_lt_of_le hxl hU.size) hne.1, hU.block x hxl hne.2]
  have hv'p : ∀ x, v'.ownBlock = some x → x ≠ p := by
    intro x hx e
    subst e
    rcases hv with hv | hv
    · exact hpv (hv ▸ hx)
    · have := hv x hx; omega
  refine ⟨⟨?_, own_of_heap hok.dur ?_, own_of_heap hok.wr ?_, ?_, ?_, ?_, hok.n1, hok.n2, fun _ => by simp⟩, hU2, ?_⟩
  · have h1 := heap_setCell_same w1 p 2 _ _ v' hp1
    have h2 := heap_setCell_same _ p 3 _ _ (.bool true) h1
    rw [h2]
    rfl
  · intro k hk; simp [Value.ownBlock] at hk; subst hk; exact hstay _ (by simp)
  · intro k hk; simp [Value.ownBlock] at hk; subst hk; exact hstay _ (by simp)
  · have : ((w1.setCell ⟨p, 2, none⟩ v').setCell ⟨p, 3, none⟩ (.bool true)).ownsRow 0 110 1 v' (d.eps.length + 1) (d.eps.map Ep.v ++ [.slice none 0 0]) := hUw.own hrow hv'p
    simpa using this
  · intro u hu
    simp only [List.mem_append, List.mem_singleton] at hu
    rcases hu with hu | rfl
    · exact (hok.eps u hu).frame fun k hk => hstay k (by simp only [List.mem_cons, List.mem_flatMap]; exact .inr (.inr ⟨u, hu, hk⟩))
    · exact ⟨World.ownsRow_nil _ _ _ _, fun s hs => by simp at hs, ⟨by simp, fun x hx => by simp at hx⟩⟩
  · rw [hfoot]
    simp only [List.nodup_cons, List.mem_cons, List.mem_append, not_or, List.nodup_append]
    have hvin : ∀ x, x ∈ vb v' → x ∈ vb d.ve ∨ w.heap.size ≤ x := by
      intro x hx
      have hx' : v'.ownBlock = some x := by simpa [vb] using hx
      rcases hv with hv | hv
      · exact .inl (by simp [vb, ← hv, hx'])
      · exact .inr (hv x hx')
    have hgd := hlt d.gd (by simp [Dk.foot])
    have hgw := hlt d.gw (by simp [Dk.foot])
    have hnd3 := List.nodup_append.1 hnd.2.2.2
    refine ⟨⟨hnd.1.1, hnd.1.2.1, fun h => ?_, hnd.1.2.2.2⟩, ⟨hnd.2.1.1, fun h => ?_, hnd.2.1.2.2⟩, ⟨fun h => ?_, hnd.2.2.1.2⟩, by simp only [vb]; cases v'.ownBlock <;> simp, hnd3.2.1, ?_⟩
    · rcases hvin p h with h' | h'
      · exact hnd.1.2.2.1 h'
      · omega
    · rcases hvin _ h with h' | h'
      · exact hnd.2.1.2.1 h'
      · omega
    · rcases hvin _ h with h' | h'
      · exact hnd.2.2.1.1 h'
      · omega
    · intro a ha b hb e
      subst e
      rcases hvin a ha with h' | h'
      · exact hnd3.2.2 a h' a hb rfl
      · have := hlt a (by simp only [Dk.foot, List.mem_cons, List.mem_append]; exact .inr (.inr (.inr (.inr hb))))
        omega
  · intro x hx
    rw [hfoot] at hx
    simp only [List.mem_cons, List.mem_append] at hx
    simp only [Dk.foot, List.mem_cons, List.mem_append]
    rcases hx with rfl | rfl | rfl | hx | hx
    · simp
    · simp
    · simp
    · have hx' : v'.ownBlock = some x := by simpa [vb] using hx
      rcases hv with hv | hv
      · exact .inl (.inr (.inr (.inr (.inl (by simp [vb, ← hv, hx'])))))
      · exact .inr (hv x hx')
    · exact .inl (.inr (.inr (.inr (.inr hx))))

end Go.Proofs.YtbgommpdmnbplaaGreatDoor

/- What disk.Write does with a sector that the disk has and 128 bytes: the write is put into the last epoch, or into a new one, and what is written turns. -/
namespace Go.Proofs.YtbgommpdmnbplaaGreatDoor
open Go.RowKit
set_option linter.unusedVariables false

theorem Tryz.infoSL : (Tryz.prog.info? 110).map (fun i => (i.zero, i.size, i.bytes)) = some (some (.slice none 0 0), 1, 24) := by kernel_rfl

/-- What Write leaves. -/
def Wrote (w : World) (d : Dk) (p i : Nat) (bs : List Int) (r : Ending) (w' : World) : Prop :=
  r = .returned (.int .i64 0) ∧ ∃ d' : Dk, d'.ok w' p ∧ d'.n = d.n ∧ d'.gd = d.gd ∧ d'.dur = d.dur ∧ d'.wr = splice d.wr (i * 128) bs ∧ d'.ab = writeE d.ab d.opn i bs ∧ d'.opn = true ∧ Upd (· ∈ d.foot p) w w' ∧ Grew w (d.foot p) (d'.foot p)

theorem slices_one (l : List Value) (h : ∀ u ∈ l, ∃ a n c, u = .slice a n c) : ∀ u ∈ l, u.oneCell' = true := by
  intro u hu
  obtain ⟨a, n, c, rfl⟩ := h u hu
  rfl

theorem splice_map {α β : Type} (f : α → β) (L cs : List α) (off : Nat) : (splice L off cs).map f = splice (L.map f) off (cs.map f) := by
  simp [splice, List.map_take, List.map_drop]

theorem take_splice {α : Type} (L cs : List α) (off m : Nat) (h : off + cs.length ≤ m) (hm : m ≤ L.length) : (splice L off cs).take m = splice (L.take m) off cs := by
  apply List.ext_getElem?
  intro j
  simp only [splice, List.getElem?_take, List.getElem?_append, List.length_take, List.getElem?_drop]
  grind

theorem cell_setCell_block (w : World) (g j : Nat) (v : Value) (a : Addr) (h : a.block ≠ g) : (w.setCell ⟨g, j, none⟩ v).cell? a = w.cell? a :=
  World.cell?_of_block (heap_setCell_other w ⟨g, j, none⟩ a.block v h)

theorem Upd.comp {A B : List Nat} {a b c : World} (h : Upd (· ∈ A) a b) (k : Upd (· ∈ B) b c) (hg : Grew a A B) : Upd (· ∈ A) a c :=
  h.trans k (fun x hx hB => by
    rcases hg x hB with h' | h'
    · exact h'
    · omega)

theorem Grew.comp {A B C : List Nat} {a b : World} (h : Grew a A B) (hs : a.heap.size ≤ b.heap.size) (k : Grew b B C) : Grew a A C := fun x hx => by
  rcases k x hx with h' | h'
  · exact h x h'
  · exact .inr (Nat.le_trans hs h')

set_option maxHeartbeats 2000000 in
set_option maxRecDepth 20000 in
theorem write_any (d : Dk) (p i : Nat) (ab : Addr) (cb : Nat) (bs : List Int) (w : World) (hok : d.ok w p) (hi : i < d.n) (hs : Src w (some ab) 128 bs) (hab : ab.block ∉ d.foot p) (hsz : d.eps.length ≤ 5000000000000) :
    Calls Tryz.prog 227 #[.pointer (some ⟨p, 0, none⟩), .int .i64 i, .slice (some ab) 128 cb] w (Wrote w d p i bs) := by
  have k1 := hid (dusable d p w hok)
  have k2 := hid (dhas d p i w hok)
  rw [show decide ((0 : Int) ≤ (i : Int) ∧ (i : Int) < (d.n : Int)) = true from decide_eq_true ⟨by omega, by omega⟩] at k2
  obtain ⟨c0, c1, c2, c3⟩ := hok.cell
  obtain ⟨ae, ce, hve, hce1, hce2⟩ := own_shape hok.row
  rw [hve] at c2
  have HK := hid hok
  have HR := hid hs
  have HA := hid hab
  have HV := hid hve
  clear hok hs hab hve
  cases ho : d.opn
  · rw [ho] at c3
    have f2 := HK.out.frozen 2
    have f3 := HK.out.frozen 3
    obtain ⟨i0, hi0, hz0, hz1, hz2⟩ := info_parts Tryz.infoSL
    have HRow := HK.out.row
    rw [HV.out] at HRow
    have HRw := hid HRow
    clear HRow
    go_enter Tryz.func227, Tryz.ntmps227
    go_wp2_with fail
    refine k1.out.mono ?_
    rintro r w1 ⟨rfl, h⟩
    subst w1
    go_wp2_with fail
    refine k2.out.mono ?_
    rintro r w1 ⟨rfl, h⟩
    subst w1
    go_wp2_with (at_builtin; go_must (refine wpList_append_where rfl _ _ 82 rfl 110 i0 _ 1 24 Tryz.underlying82 hi0 hz0 hz1 hz2 rfl (by decide) (.slice ae d.eps.length ce) d.eps.length (d.eps.map Ep.v) rfl (HRw.out.alloc _) ⟨_, 0, none⟩ 1 1 [.slice none 0 0] rfl rfl (by intro j u hj; rw [Addr.add_lit]; refine heap_cells (heap_alloc_new _ _) _ u ?_; simpa using hj) (by simp [Value.oneCell']) (by unfold maxLen; omega) (by omega) ?_))
    intro v' w2 hO hU hN hW
    have hU0 : Upd (fun x => d.ve.ownBlock = some x) w w2 := (Upd.alloc _ w _).trans hU (fun x _ hx => by rw [HV.out]; exact hx)
    have hW0 : v'.ownBlock = d.ve.ownBlock ∨ ∀ x, v'.ownBlock = some x → w.heap.size ≤ x := by
      rcases hW.out with h | h
      · exact .inl (by rw [HV.out]; exact h)
      · exact .inr fun x hx => Nat.le_trans (by simp) (h x hx)
    obtain ⟨ae', ce', hv', hc1', hc2'⟩ := own_shape hO.out
    have hopd := HK.out.opened hU0 hO.out hW0
    have hpv : d.ve.ownBlock ≠ some p := fun h => by
      have := HK.out.nodup
      simp only [Dk.foot, List.nodup_cons, List.mem_cons, List.mem_append, not_or] at this
      exact this.1.2.2.1 (by simp [vb, h])
    have hp2 := hU0.heap HK.out.cells hpv
    have d2 : w2.cell? ⟨p, 2, none⟩ = some d.ve := by rw [cell_of_row w2 p 2 _ _ _ hp2]; rfl
    have d3 : w2.cell? ⟨p, 3, none⟩ = some (.bool d.opn) := by rw [cell_of_row w2 p 3 _ _ _ hp2]; rfl
    have e2 : w2.frozen? ⟨p, 2, none⟩ = false := frozen_of_row w2 p 2 _ _ hp2
    have e3 : w2.frozen? ⟨p, 3, none⟩ = false := frozen_of_row w2 p 3 _ _ hp2
    have HOP := hid hopd
    clear hopd hp2 hU hU0 hW0 c0 c1 c2 c3 f2 f3
    subst hv'
    go_wp2_with fail
    obtain ⟨W3, gW3⟩ : ∃ W3, W3 = (w2.setCell ⟨p, 2, none⟩ (.slice ae' (d.eps.length + 1) ce')).setCell ⟨p, 3, none⟩ (.bool true) := ⟨_, rfl⟩
    rw [← gW3] at HOP ⊢
    obtain ⟨ge, rfl⟩ : ∃ ge, ae' = some ⟨ge, 0, none⟩ := by
      rcases hO.out.2 with ⟨_, h⟩ | ⟨g, c, cur, h, _⟩
      · omega
      · injection h with h1 h2 h3; exact ⟨g, h1⟩
    obtain ⟨d1, hd1⟩ : ∃ d1 : Dk, d1 = { d with ve := .slice (some ⟨ge, 0, none⟩) (d.eps.length + 1) ce', eps := d.eps ++ [⟨.slice none 0 0, []⟩], opn := true } := ⟨_, rfl⟩
    rw [← hd1] at HOP
    obtain ⟨init, gi⟩ : ∃ init, init = d.eps := ⟨_, rfl⟩
    obtain ⟨e, hed⟩ : ∃ e : Ep, e = ⟨.slice none 0 0, []⟩ := ⟨_, rfl⟩
    have hi1 : d1.eps = init ++ [e] := by rw [hd1, gi, hed]
    have hve1 : d1.ve = .slice (some ⟨ge, 0, none⟩) (init.length + 1) ce' := by rw [hd1, gi]
    have hn1 : d1.n = d.n := by rw [hd1]
    have hx1 : d1.gd = d.gd ∧ d1.dur = d.dur ∧ d1.wr = d.wr ∧ d1.opn = true := by rw [hd1]; exact ⟨rfl, rfl, rfl, rfl⟩
    have hab1e : ∀ e' : Ep, e'.ab = putE i bs e.ab → (init ++ [e']).map Ep.ab = writeE d.ab d.opn i bs := by
      intro e' h
      rw [show e.ab = [] by rw [hed]; rfl] at h
      simp [writeE, ho, gi, Dk.ab, h, putE]
    rw [← gi]
    clear gW3 hd1 gi hed
    -- the tail: the last epoch, and what is written
    obtain ⟨hok1, hU1, hG1⟩ := HOP.out
    have hpos : init.length < d1.eps.length := by rw [hi1]; simp
    have hfs := foot_split d1 p init e hi1
    have hnd1 := hok1.nodup
    rw [hfs] at hnd1
    have hndA := List.nodup_append.1 hnd1
    have heok : e.ok W3 d1.n := hok1.eps e (by rw [hi1]; simp)
    obtain ⟨ae2, ce2, hev, hev1, hev2⟩ := own_shape heok.row
    have habl : ab.block < w.heap.size := by
      obtain ⟨b, o, e0, hlt, _⟩ := HR.out.2 (by omega)
      rw [Option.some.inj e0]; exact hlt
    have hab1 : ab.block ∉ d1.foot p := fun hx => by
      rcases hG1 _ hx with h | h
      · exact HA.out h
      · omega
    have habe : ab.block ∉ e.foot := fun hx => hab1 (by rw [hfs]; exact List.mem_append.2 (.inr hx))
    have hs3 : Src W3 (some ab) 128 bs := hU1.src HR.out (fun b o e0 => by have := Option.some.inj e0; subst this; exact HA.out)
    have hrow3 := hok1.row
    rw [hve1, hi1] at hrow3
    have hvbe : vb d1.ve = [ge] := by simp [hve1, vb, Value.ownBlock]
    have hpge : p ≠ ge := by
      have := hndA.1
      simp only [hvbe, List.nodup_cons, List.mem_cons, List.singleton_append, not_or] at this
      exact this.1.2.2.1
    have hpe : p ∉ e.foot := fun hx => hndA.2.2 p (by simp) p hx rfl
    have hgee : ge ∉ e.foot := fun hx => hndA.2.2 ge (by simp [hvbe]) ge hx rfl
    have hgwe : d1.gw ∉ e.foot := fun hx => hndA.2.2 d1.gw (by simp) d1.gw hx rfl
    have hgwge : d1.gw ≠ ge := by
      have := hndA.1
      simp only [hvbe, List.nodup_cons, List.mem_cons, List.singleton_append, not_or] at this
      exact this.2.2.1.1
    obtain ⟨t0, t1, t2, t3⟩ := hok1.cell
    rw [hve1] at t2
    have hl3 : (List.map Ep.v (init ++ [e])).length = init.length + 1 := by simp
    have hlen3 : (init ++ [e]).length = init.length + 1 := by simp
    rw [hlen3] at hrow3
    have tl : W3.cell? ⟨ge, init.length, none⟩ = some (.slice ae2 e.es.length ce2) := by
      rw [hrow3.cellAt _ (by omega), ← hev]; simp
    have fl : W3.frozen? ⟨ge, init.length, none⟩ = false := hrow3.frozenAt _
    obtain ⟨cw, hcw, hcw1, hcw2, hcw3, hcw4⟩ := own_heap hok1.wr
    have hplt : p < W3.heap.size := hok1.lt p (by simp [Dk.foot])
    have hgelt : ge < W3.heap.size := hok1.lt ge (by rw [hfs]; simp [hvbe])
    have hgwlt : d1.gw < W3.heap.size := hok1.lt d1.gw (by simp [Dk.foot])
    have kp := hid (dput_any e d1.n i ab cb bs W3.drew (heok.frame fun _ _ => rfl) hndA.2.1 hok1.n2 (by rw [hn1]; exact hi) ⟨hs3.1, hs3.2⟩ habe)
    rw [hev] at kp
    have HOK := hid hok1
    have HU1 := hid hU1
    have HG1 := hid hG1
    have HS3 := hid hs3
    have HROW := hid hrow3
    have HCW := hid hcw
    have hi2 := hid hi1
    have hve2 := hid hve1
    have hev3 := hid hev
    have hfin : ∀ (w5 : World) (e' : Ep), e'.ok w5 d1.n → Upd (· ∈ e.foot) W3.drew w5 → (∀ x ∈ e'.foot, x ∈ e.foot ∨ W3.drew.heap.size ≤ x) → e'.foot.Nodup → e'.ab = putE i bs e.ab →
        ∃ R : List Value, (Builtin.copy_ #[81, 81] 3 #[.slice (some ⟨d1.gw, i * 128, none⟩) 128 128, .slice (some ab) 128 cb]).run Tryz.prog (w5.setCell ⟨ge, init.length, none⟩ e'.v) = .ok (goInt 128) ((w5.setCell ⟨ge, init.length, none⟩ e'.v).setRow d1.gw R.toArray) ∧
          Wrote w d p i bs (.returned (.int .i64 0)) ((w5.setCell ⟨ge, init.length, none⟩ e'.v).setRow d1.gw R.toArray) := by
      intro w5 e' he' hU5 hf5 hnd5 hab5
      have hU5' : Upd (· ∈ e.foot) W3 w5 := ⟨hU5.os, hU5.tape, hU5.output, hU5.size, hU5.block⟩
      have hrow5 := (hU5'.own HROW.out (fun k hk => by simp [Value.ownBlock] at hk; subst hk; exact hgee)).stored init.length e'.v
      have hcw5 := hU5'.heap HCW.out hgwe
      have hcw6 : (w5.setCell ⟨ge, init.length, none⟩ e'.v).heap[d1.gw]? = some (.cells cw.toArray 5 (0, 0)) := by rw [heap_setCell_other _ _ _ _ hgwge]; exact hcw5
      have hbl := HS3.out.1
      have hs6 : Src (w5.setCell ⟨ge, init.length, none⟩ e'.v) (some ab) 128 bs := by
        have hU6 : Upd (· ∈ ge :: e.foot) W3 (w5.setCell ⟨ge, init.length, none⟩ e'.v) := (hU5'.mono (fun x _ hx => by simp [hx])).trans (Upd.setCell (F := (· = ge)) w5 ⟨ge, init.length, none⟩ e'.v rfl) (fun x _ hx => by simp [hx])
        refine hU6.src HS3.out (fun b o e0 => ?_)
        have := Option.some.inj e0
        subst this
        intro hx
        rcases List.mem_cons.1 hx with h | h
        · exact hab1 (by rw [hfs]; simp [hvbe, h])
        · exact habe h
      have hin : (i + 1) * 128 ≤ d1.n * 128 := Nat.mul_le_mul_right _ (by omega)
      refine ⟨splice cw (i * 128) (bs.map (Value.int .u8)), ?_, ?_⟩
      · have crun := run_copy_row2 (P := Tryz.prog) _ 81 81 3 5 1 d1.gw (i * 128) 128 128 ab 128 cb 128 cw.toArray 5 (bs.map (Value.int .u8)) Tryz.underlying81 Tryz.psz5 hcw6 (by decide) (by simp [hbl]) (src_cells hs6) (by simp [hbl]; omega) (u8_one bs)
        rw [crun]
        simp [splice]
      · have hU4 : Upd (fun x => x = ge ∨ x = d1.gw) w5 ((w5.setCell ⟨ge, init.length, none⟩ e'.v).setRow d1.gw (splice cw (i * 128) (bs.map (Value.int .u8))).toArray) := (Upd.setCell (F := fun x => x = ge ∨ x = d1.gw) w5 ⟨ge, init.length, none⟩ e'.v (.inl rfl)).trans (Upd.setRow (F := fun x => x = ge ∨ x = d1.gw) _ d1.gw _ (.inr rfl)) (fun x _ h => h)
        have hrow7 := (Upd.setRow (F := (· = d1.gw)) (w5.setCell ⟨ge, init.length, none⟩ e'.v) d1.gw (splice cw (i * 128) (bs.map (Value.int .u8))).toArray rfl).own hrow5.1 (fun k hk => by simp [Value.ownBlock] at hk; subst hk; exact fun h => hgwge h.symm)
        rw [show (List.map Ep.v (init ++ [e])).set init.length e'.v = init.map Ep.v ++ [e'.v] by simp] at hrow7
        have hcl : cw.length = d1.cw := by omega
        have hsl : (splice cw (i * 128) (bs.map (Value.int .u8))).length = cw.length := length_splice _ _ _ (by simp [hbl]; omega)
        have hwl := HOK.out.wr.1
        have hw7 : ((w5.setCell ⟨ge, init.length, none⟩ e'.v).setRow d1.gw (splice cw (i * 128) (bs.map (Value.int .u8))).toArray).ownsRow 0 5 1 (.slice (some ⟨d1.gw, 0, none⟩) (d1.n * 128) d1.cw) (d1.n * 128) ((splice d1.wr (i * 128) bs).map (Value.int .u8)) := by
          refine ⟨?_, .inr ⟨d1.gw, d1.cw, (splice cw (i * 128) (bs.map (Value.int .u8))).toArray, rfl, Nat.zero_le _, setRow_heap _ _ _ _ _ _ hcw6, hcw1, hcw2, by simp [hsl, hcl], ?_⟩⟩
          · rw [splice_map, length_splice _ _ _ (by rw [hwl]; simp [hbl]; omega), hwl]
          · rw [splice_map, ← hcw4, List.toList_toArray, take_splice _ _ _ _ (by simp [hbl]; omega) (by omega)]
        obtain ⟨hA, hB, hC⟩ := HOK.out.wrote (w2 := w5) (i := i) (bs := bs) (ce := ce') hi2.out hve2.out he' hU5' hf5 hnd5 hU4 (by rw [hve2.out]; exact hrow7) hw7 hx1.2.2.2
        refine ⟨rfl, _, hA, hn1, hx1.1, hx1.2.1, by rw [show ({ d1 with eps := init ++ [e'], wr := splice d1.wr (i * 128) bs } : Dk).wr = splice d1.wr (i * 128) bs from rfl, hx1.2.2.1], hab1e e' hab5, hx1.2.2.2, HU1.out.comp hB HG1.out, HG1.out.comp HU1.out.size hC⟩
    have HFIN := hid hfin
    clear hfin
    have hcap : d1.n * 128 ≤ d1.cw := hcw1
    have hcap2 : d1.cw ≤ 9223372036854775807 := by unfold maxLen at hcw2; omega
    have hid1 : i < d1.n := by omega
    clear hn1 hx1 hab1e hok1 hU1 hG1 hs3 hrow3 hcw hi1 hve1 hev heok hnd1 hndA hfs hcw4 t0 t3 hl3 hlen3
    have b1 : (0 : Int) ≤ (init.length : Int) := by omega
    have b2 : (init.length : Int) < (init.length : Int) + 1 := by omega
    go_region_with (first | (go_at_call 245; refine kp.out.mono ?_; rintro r w5 ⟨e', rfl, he5, hab5, hU5, hf5, hnd5, _⟩; have u2 : w5.cell? ⟨p, 2, none⟩ = some (.slice (some ⟨ge, 0, none⟩) (init.length + 1) ce') := (World.cell?_of_block (w := W3) (a := ⟨p, 2, none⟩) (hU5.block p hplt hpe)).trans t2; have ul : w5.cell? ⟨ge, init.length, none⟩ = some (.slice ae2 e.es.length ce2) := (World.cell?_of_block (w := W3) (a := ⟨ge, init.length, none⟩) (hU5.block ge hgelt hgee)).trans tl; have fl5 : w5.frozen? ⟨ge, init.length, none⟩ = false := (World.frozen?_of_block (w := W3) (a := ⟨ge, init.length, none⟩) (hU5.block ge hgelt hgee)).trans fl; have u1 : w5.cell? ⟨p, 1, none⟩ = some (.slice (some ⟨d1.gw, 0, none⟩) (d1.n * 128) d1.cw) := (World.cell?_of_block (w := W3) (a := ⟨p, 1, none⟩) (hU5.block p hplt hpe)).trans t1; obtain ⟨ae5, ce5, hv5, _, _⟩ := own_shape he5.row; have HF5 := hid (HFIN.out w5 e' he5 hU5 hf5 hnd5 hab5); clear he5 hab5 hU5 hf5 hnd5))
    all_goals
      obtain ⟨R, hrun, hwr⟩ := HF5.out
      rw [hv5] at hrun hwr
      have v1 : (w5.setCell ⟨ge, init.length, none⟩ (.slice ae5 e'.es.length ce5)).cell? ⟨p, 1, none⟩ = some (.slice (some ⟨d1.gw, 0, none⟩) (d1.n * 128) d1.cw) := (cell_setCell_block _ _ _ _ _ hpge).trans u1
      have HWR := hid hwr
      clear hwr HF5
      obtain ⟨W6, gW6⟩ : ∃ W6, W6 = w5.setCell ⟨ge, init.length, none⟩ (.slice ae5 e'.es.length ce5) := ⟨_, rfl⟩
      rw [← gW6] at hrun HWR v1 ⊢
      clear gW6 u1 u2 ul fl5 t1 t2 tl fl kp
      go_wp2_with fail
      refine (sector_any d1.gw d1.n i d1.cw _ hid1 HOK.out.n2 hcap hcap2).mono ?_
      rintro r w6 ⟨rfl, h⟩
      subst w6
      go_wp2_with fail
      go_ret
      exact HWR.out
  · rw [ho] at c3
    obtain ⟨init, e, hi1⟩ : ∃ init e, d.eps = init ++ [e] := by
      have := HK.out.last ho
      exact ⟨d.eps.dropLast, d.eps.getLast this, (List.dropLast_concat_getLast this).symm⟩
    have hlen1 : d.eps.length = init.length + 1 := by rw [hi1]; simp
    obtain ⟨ge, rfl⟩ : ∃ ge, ae = some ⟨ge, 0, none⟩ := by
      rcases HK.out.row.2 with ⟨_, h⟩ | ⟨g, c, cur, h, _⟩
      · omega
      · rw [HV.out] at h; injection h with h1 h2 h3; exact ⟨g, h1⟩
    obtain ⟨ce', gce⟩ : ∃ ce', ce' = ce := ⟨_, rfl⟩
    obtain ⟨d1, hd1⟩ : ∃ d1 : Dk, d1 = d := ⟨_, rfl⟩
    have HOP : Hid (d1.ok w p ∧ Upd (· ∈ d.foot p) w w ∧ Grew w (d.foot p) (d1.foot p)) := by
      rw [hd1]; exact ⟨HK.out, Upd.refl _ _, Grew.refl _ _⟩
    have hve1 : d1.ve = .slice (some ⟨ge, 0, none⟩) (init.length + 1) ce' := by rw [hd1, HV.out, gce, hlen1]
    have hn1 : d1.n = d.n := by rw [hd1]
    have hx1 : d1.gd = d.gd ∧ d1.dur = d.dur ∧ d1.wr = d.wr ∧ d1.opn = true := by rw [hd1]; exact ⟨rfl, rfl, rfl, ho⟩
    have hab1e : ∀ e' : Ep, e'.ab = putE i bs e.ab → (init ++ [e']).map Ep.ab = writeE d.ab d.opn i bs := by
      intro e' h
      simp [writeE, ho, Dk.ab, h, hi1]
    rw [hlen1, ← gce] at c2
    rw [hlen1] at hce1 hsz
    rw [← gce] at hce1 hce2
    rw [← hd1] at hi1
    obtain ⟨W3, gW3⟩ : ∃ W3, W3 = w := ⟨_, rfl⟩
    rw [show (Hid (d1.ok w p ∧ Upd (· ∈ d.foot p) w w ∧ Grew w (d.foot p) (d1.foot p))) = (Hid (d1.ok W3 p ∧ Upd (· ∈ d.foot p) w W3 ∧ Grew w (d.foot p) (d1.foot p))) by rw [gW3]] at HOP
    clear hd1 gce hlen1
    go_enter Tryz.func227, Tryz.ntmps227
    go_wp2_with fail
    refine k1.out.mono ?_
    rintro r w1 ⟨rfl, h⟩
    subst w1
    go_wp2_with fail
    refine k2.out.mono ?_
    rintro r w1 ⟨rfl, h⟩
    subst w1
    go_wp2_with fail
    clear c0 c1 c2 c3
    rw [← gW3]
    clear gW3
    -- the tail: the last epoch, and what is written
    obtain ⟨hok1, hU1, hG1⟩ := HOP.out
    have hpos : init.length < d1.eps.length := by rw [hi1]; simp
    have hfs := foot_split d1 p init e hi1
    have hnd1 := hok1.nodup
    rw [hfs] at hnd1
    have hndA := List.nodup_append.1 hnd1
    have heok : e.ok W3 d1.n := hok1.eps e (by rw [hi1]; simp)
    obtain ⟨ae2, ce2, hev, hev1, hev2⟩ := own_shape heok.row
    have habl : ab.block < w.heap.size := by
      obtain ⟨b, o, e0, hlt, _⟩ := HR.out.2 (by omega)
      rw [Option.some.inj e0]; exact hlt
    have hab1 : ab.block ∉ d1.foot p := fun hx => by
      rcases hG1 _ hx with h | h
      · exact HA.out h
      · omega
    have habe : ab.block ∉ e.foot := fun hx => hab1 (by rw [hfs]; exact List.mem_append.2 (.inr hx))
    have hs3 : Src W3 (some ab) 128 bs := hU1.src HR.out (fun b o e0 => by have := Option.some.inj e0; subst this; exact HA.out)
    have hrow3 := hok1.row
    rw [hve1, hi1] at hrow3
    have hvbe : vb d1.ve = [ge] := by simp [hve1, vb, Value.ownBlock]
    have hpge : p ≠ ge := by
      have := hndA.1
      simp only [hvbe, List.nodup_cons, List.mem_cons, List.singleton_append, not_or] at this
      exact this.1.2.2.1
    have hpe : p ∉ e.foot := fun hx => hndA.2.2 p (by simp) p hx rfl
    have hgee : ge ∉ e.foot := fun hx => hndA.2.2 ge (by simp [hvbe]) ge hx rfl
    have hgwe : d1.gw ∉ e.foot := fun hx => hndA.2.2 d1.gw (by simp) d1.gw hx rfl
    have hgwge : d1.gw ≠ ge := by
      have := hndA.1
      simp only [hvbe, List.nodup_cons, List.mem_cons, List.singleton_append, not_or] at this
      exact this.2.2.1.1
    obtain ⟨t0, t1, t2, t3⟩ := hok1.cell
    rw [hve1] at t2
    have hl3 : (List.map Ep.v (init ++ [e])).length = init.length + 1 := by simp
    have hlen3 : (init ++ [e]).length = init.length + 1 := by simp
    rw [hlen3] at hrow3
    have tl : W3.cell? ⟨ge, init.length, none⟩ = some (.slice ae2 e.es.length ce2) := by
      rw [hrow3.cellAt _ (by omega), ← hev]; simp
    have fl : W3.frozen? ⟨ge, init.length, none⟩ = false := hrow3.frozenAt _
    obtain ⟨cw, hcw, hcw1, hcw2, hcw3, hcw4⟩ := own_heap hok1.wr
    have hplt : p < W3.heap.size := hok1.lt p (by simp [Dk.foot])
    have hgelt : ge < W3.heap.size := hok1.lt ge (by rw [hfs]; simp [hvbe])
    have hgwlt : d1.gw < W3.heap.size := hok1.lt d1.gw (by simp [Dk.foot])
    have kp := hid (dput_any e d1.n i ab cb bs W3.drew (heok.frame fun _ _ => rfl) hndA.2.1 hok1.n2 (by rw [hn1]; exact hi) ⟨hs3.1, hs3.2⟩ habe)
    rw [hev] at kp
    have HOK := hid hok1
    have HU1 := hid hU1
    have HG1 := hid hG1
    have HS3 := hid hs3
    have HROW := hid hrow3
    have HCW := hid hcw
    have hi2 := hid hi1
    have hve2 := hid hve1
    have hev3 := hid hev
    have hfin : ∀ (w5 : World) (e' : Ep), e'.ok w5 d1.n → Upd (· ∈ e.foot) W3.drew w5 → (∀ x ∈ e'.foot, x ∈ e.foot ∨ W3.drew.heap.size ≤ x) → e'.foot.Nodup → e'.ab = putE i bs e.ab →
        ∃ R : List Value, (Builtin.copy_ #[81, 81] 3 #[.slice (some ⟨d1.gw, i * 128, none⟩) 128 128, .slice (some ab) 128 cb]).run Tryz.prog (w5.setCell ⟨ge, init.length, none⟩ e'.v) = .ok (goInt 128) ((w5.setCell ⟨ge, init.length, none⟩ e'.v).setRow d1.gw R.toArray) ∧
          Wrote w d p i bs (.returned (.int .i64 0)) ((w5.setCell ⟨ge, init.length, none⟩ e'.v).setRow d1.gw R.toArray) := by
      intro w5 e' he' hU5 hf5 hnd5 hab5
      have hU5' : Upd (· ∈ e.foot) W3 w5 := ⟨hU5.os, hU5.tape, hU5.output, hU5.size, hU5.block⟩
      have hrow5 := (hU5'.own HROW.out (fun k hk => by simp [Value.ownBlock] at hk; subst hk; exact hgee)).stored init.length e'.v
      have hcw5 := hU5'.heap HCW.out hgwe
      have hcw6 : (w5.setCell ⟨ge, init.length, none⟩ e'.v).heap[d1.gw]? = some (.cells cw.toArray 5 (0, 0)) := by rw [heap_setCell_other _ _ _ _ hgwge]; exact hcw5
      have hbl := HS3.out.1
      have hs6 : Src (w5.setCell ⟨ge, init.length, none⟩ e'.v) (some ab) 128 bs := by
        have hU6 : Upd (· ∈ ge :: e.foot) W3 (w5.setCell ⟨ge, init.length, none⟩ e'.v) := (hU5'.mono (fun x _ hx => by simp [hx])).trans (Upd.setCell (F := (· = ge)) w5 ⟨ge, init.length, none⟩ e'.v rfl) (fun x _ hx => by simp [hx])
        refine hU6.src HS3.out (fun b o e0 => ?_)
        have := Option.some.inj e0
        subst this
        intro hx
        rcases List.mem_cons.1 hx with h | h
        · exact hab1 (by rw [hfs]; simp [hvbe, h])
        · exact habe h
      have hin : (i + 1) * 128 ≤ d1.n * 128 := Nat.mul_le_mul_right _ (by omega)
      refine ⟨splice cw (i * 128) (bs.map (Value.int .u8)), ?_, ?_⟩
      · have crun := run_copy_row2 (P := Tryz.prog) _ 81 81 3 5 1 d1.gw (i * 128) 128 128 ab 128 cb 128 cw.toArray 5 (bs.map (Value.int .u8)) Tryz.underlying81 Tryz.psz5 hcw6 (by decide) (by simp [hbl]) (src_cells hs6) (by simp [hbl]; omega) (u8_one bs)
        rw [crun]
        simp [splice]
      · have hU4 : Upd (fun x => x = ge ∨ x = d1.gw) w5 ((w5.setCell ⟨ge, init.length, none⟩ e'.v).setRow d1.gw (splice cw (i * 128) (bs.map (Value.int .u8))).toArray) := (Upd.setCell (F := fun x => x = ge ∨ x = d1.gw) w5 ⟨ge, init.length, none⟩ e'.v (.inl rfl)).trans (Upd.setRow (F := fun x => x = ge ∨ x = d1.gw) _ d1.gw _ (.inr rfl)) (fun x _ h => h)
        have hrow7 := (Upd.setRow (F := (· = d1.gw)) (w5.setCell ⟨ge, init.length, none⟩ e'.v) d1.gw (splice cw (i * 128) (bs.map (Value.int .u8))).toArray rfl).own hrow5.1 (fun k hk => by simp [Value.ownBlock] at hk; subst hk; exact fun h => hgwge h.symm)
        rw [show (List.map Ep.v (init ++ [e])).set init.length e'.v = init.map Ep.v ++ [e'.v] by simp] at hrow7
        have hcl : cw.length = d1.cw := by omega
        have hsl : (splice cw (i * 128) (bs.map (Value.int .u8))).length = cw.length := length_splice _ _ _ (by simp [hbl]; omega)
        have hwl := HOK.out.wr.1
        have hw7 : ((w5.setCell ⟨ge, init.length, none⟩ e'.v).setRow d1.gw (splice cw (i * 128) (bs.map (Value.int .u8))).toArray).ownsRow 0 5 1 (.slice (some ⟨d1.gw, 0, none⟩) (d1.n * 128) d1.cw) (d1.n * 128) ((splice d1.wr (i * 128) bs).map (Value.int .u8)) := by
          refine ⟨?_, .inr ⟨d1.gw, d1.cw, (splice cw (i * 128) (bs.map (Value.int .u8))).toArray, rfl, Nat.zero_le _, setRow_heap _ _ _ _ _ _ hcw6, hcw1, hcw2, by simp [hsl, hcl], ?_⟩⟩
          · rw [splice_map, length_splice _ _ _ (by rw [hwl]; simp [hbl]; omega), hwl]
          · rw [splice_map, ← hcw4, List.toList_toArray, take_splice _ _ _ _ (by simp [hbl]; omega) (by omega)]
        obtain ⟨hA, hB, hC⟩ := HOK.out.wrote (w2 := w5) (i := i) (bs := bs) (ce := ce') hi2.out hve2.out he' hU5' hf5 hnd5 hU4 (by rw [hve2.out]; exact hrow7) hw7 hx1.2.2.2
        refine ⟨rfl, _, hA, hn1, hx1.1, hx1.2.1, by rw [show ({ d1 with eps := init ++ [e'], wr := splice d1.wr (i * 128) bs } : Dk).wr = splice d1.wr (i * 128) bs from rfl, hx1.2.2.1], hab1e e' hab5, hx1.2.2.2, HU1.out.comp hB HG1.out, HG1.out.comp HU1.out.size hC⟩
    have HFIN := hid hfin
    clear hfin
    have hcap : d1.n * 128 ≤ d1.cw := hcw1
    have hcap2 : d1.cw ≤ 9223372036854775807 := by unfold maxLen at hcw2; omega
    have hid1 : i < d1.n := by omega
    clear hn1 hx1 hab1e hok1 hU1 hG1 hs3 hrow3 hcw hi1 hve1 hev heok hnd1 hndA hfs hcw4 t0 t3 hl3 hlen3
    have b1 : (0 : Int) ≤ (init.length : Int) := by omega
    have b2 : (init.length : Int) < (init.length : Int) + 1 := by omega
    go_region_with (first | (go_at_call 245; refine kp.out.mono ?_; rintro r w5 ⟨e', rfl, he5, hab5, hU5, hf5, hnd5, _⟩; have u2 : w5.cell? ⟨p, 2, none⟩ = some (.slice (some ⟨ge, 0, none⟩) (init.length + 1) ce') := (World.cell?_of_block (w := W3) (a := ⟨p, 2, none⟩) (hU5.block p hplt hpe)).trans t2; have ul : w5.cell? ⟨ge, init.length, none⟩ = some (.slice ae2 e.es.length ce2) := (World.cell?_of_block (w := W3) (a := ⟨ge, init.length, none⟩) (hU5.block ge hgelt hgee)).trans tl; have fl5 : w5.frozen? ⟨ge, init.length, none⟩ = false := (World.frozen?_of_block (w := W3) (a := ⟨ge, init.length, none⟩) (hU5.block ge hgelt hgee)).trans fl; have u1 : w5.cell? ⟨p, 1, none⟩ = some (.slice (some ⟨d1.gw, 0, none⟩) (d1.n * 128) d1.cw) := (World.cell?_of_block (w := W3) (a := ⟨p, 1, none⟩) (hU5.block p hplt hpe)).trans t1; obtain ⟨ae5, ce5, hv5, _, _⟩ := own_shape he5.row; have HF5 := hid (HFIN.out w5 e' he5 hU5 hf5 hnd5 hab5); clear he5 hab5 hU5 hf5 hnd5))
    all_goals
      obtain ⟨R, hrun, hwr⟩ := HF5.out
      rw [hv5] at hrun hwr
      have v1 : (w5.setCell ⟨ge, init.length, none⟩ (.slice ae5 e'.es.length ce5)).cell? ⟨p, 1, none⟩ = some (.slice (some ⟨d1.gw, 0, none⟩) (d1.n * 128) d1.cw) := (cell_setCell_block _ _ _ _ _ hpge).trans u1
      have HWR := hid hwr
      clear hwr HF5
      obtain ⟨W6, gW6⟩ : ∃ W6, W6 = w5.setCell ⟨ge, init.length, none⟩ (.slice ae5 e'.es.length ce5) := ⟨_, rfl⟩
      rw [← gW6] at hrun HWR v1 ⊢
      clear gW6 u1 u2 ul fl5 t1 t2 tl fl kp
      go_wp2_with fail
      refine (sector_any d1.gw d1.n i d1.cw _ hid1 HOK.out.n2 hcap hcap2).mono ?_
      rintro r w6 ⟨rfl, h⟩
      subst w6
      go_wp2_with fail
      go_ret
      exact HWR.out

end Go.Proofs.YtbgommpdmnbplaaGreatDoor

/- What disk.Read does, of a disk that a call made; and Write, where it refuses. -/
namespace Go.Proofs.YtbgommpdmnbplaaGreatDoor
open Go.RowKit
set_option linter.unusedVariables false

set_option maxHeartbeats 1000000 in
theorem dread (d : Dk) (p i : Nat) (w : World) (hok : d.ok w p) (hi : i < d.n) :
    Calls Tryz.prog 131 #[.pointer (some ⟨p, 0, none⟩), .int .i64 i] w fun e w' => ∃ g c, e = .returned (.tuple #[.slice (some ⟨g, 0, none⟩) 128 c, .int .i64 0]) ∧
      w'.ownsRow w.heap.size 5 1 (.slice (some ⟨g, 0, none⟩) 128 c) 128 ((sec d.wr i).map (Value.int .u8)) ∧ Below w.heap.size w w' := by
  have k1 := hid (dusable d p w hok)
  have k2 := hid (dhas d p i w hok)
  rw [show decide ((0 : Int) ≤ (i : Int) ∧ (i : Int) < (d.n : Int)) = true from decide_eq_true ⟨by omega, by omega⟩] at k2
  obtain ⟨c0, c1, c2, c3⟩ := hok.cell
  obtain ⟨hce1, hce2⟩ : d.n * 128 ≤ d.cw ∧ d.cw ≤ 9223372036854775807 := by
    obtain ⟨ae, ce, hve, h1, h2⟩ := own_shape hok.wr
    injection hve with _ _ e
    subst e
    exact ⟨h1, h2⟩
  have k3 := hid (sector_any d.gw d.n i d.cw w hi hok.n2 hce1 hce2)
  have k4 := hid (sclone_any ⟨d.gw, i * 128, none⟩ 128 128 (sec d.wr i) w (src_sec hok.wr rfl hi) (by omega))
  obtain ⟨N, gN⟩ : ∃ N, N = d.n * 128 := ⟨_, rfl⟩
  rw [← gN] at k3 c1
  obtain ⟨S, gS⟩ : ∃ S, S = sec d.wr i := ⟨_, rfl⟩
  rw [← gS] at k4 ⊢
  clear c0 c2 c3 hok gN gS hce1 hce2
  go_enter Tryz.func131, Tryz.ntmps131
  go_wp2_with fail
  refine k1.out.mono ?_
  rintro r w1 ⟨rfl, rfl⟩
  go_wp2_with fail
  refine k2.out.mono ?_
  rintro r w1 ⟨rfl, rfl⟩
  go_wp2_with fail
  refine k3.out.mono ?_
  rintro r w1 ⟨rfl, rfl⟩
  go_wp2_with fail
  refine k4.out.mono ?_
  rintro r w1 ⟨g, c, rfl, hown, hb⟩
  have HO := hid hown
  clear hown
  go_wp2_with fail
  go_ret2
  exact ⟨g, c, rfl, HO.out, hb⟩

theorem dread_no (d : Dk) (p : Nat) (i : Int) (w : World) (hok : d.ok w p) (hi : ¬ (0 ≤ i ∧ i < d.n)) :
    Calls Tryz.prog 131 #[.pointer (some ⟨p, 0, none⟩), .int .i64 i] w fun e w' => e = .returned (.tuple #[.slice none 0 0, .int .i64 1]) ∧ w' = w := by
  have k1 := hid (dusable d p w hok)
  have k2 := hid (dhas d p i w hok)
  rw [show decide ((0 : Int) ≤ i ∧ i < (d.n : Int)) = false from decide_eq_false hi] at k2
  clear hok hi
  go_enter Tryz.func131, Tryz.ntmps131
  go_wp2_with fail
  refine k1.out.mono ?_
  rintro r w1 ⟨rfl, rfl⟩
  go_wp2_with fail
  refine k2.out.mono ?_
  rintro r w1 ⟨rfl, rfl⟩
  go_wp2_with fail
  go_ret2
  exact ⟨rfl, rfl⟩

theorem write_no (d : Dk) (p : Nat) (i : Int) (ab : Option Addr) (lb cb : Nat) (w : World) (hok : d.ok w p) (hi : ¬ (0 ≤ i ∧ i < d.n)) :
    Calls Tryz.prog 227 #[.pointer (some ⟨p, 0, none⟩), .int .i64 i, .slice ab lb cb] w fun e w' => e = .returned (.int .i64 1) ∧ w' = w := by
  have k1 := hid (dusable d p w hok)
  have k2 := hid (dhas d p i w hok)
  rw [show decide ((0 : Int) ≤ i ∧ i < (d.n : Int)) = false from decide_eq_false hi] at k2
  clear hok hi
  go_enter Tryz.func227, Tryz.ntmps227
  go_wp2_with fail
  refine k1.out.mono ?_
  rintro r w1 ⟨rfl, rfl⟩
  go_wp2_with fail
  refine k2.out.mono ?_
  rintro r w1 ⟨rfl, rfl⟩
  go_wp2_with fail
  go_ret
  exact ⟨rfl, rfl⟩

theorem write_len (d : Dk) (p i : Nat) (ab : Option Addr) (lb cb : Nat) (w : World) (hok : d.ok w p) (hi : i < d.n) (hl : lb ≠ 128) :
    Calls Tryz.prog 227 #[.pointer (some ⟨p, 0, none⟩), .int .i64 i, .slice ab lb cb] w fun e w' => e = .returned (.int .i64 1) ∧ w' = w := by
  have k1 := hid (dusable d p w hok)
  have k2 := hid (dhas d p i w hok)
  rw [show decide ((0 : Int) ≤ (i : Int) ∧ (i : Int) < (d.n : Int)) = true from decide_eq_true ⟨by omega, by omega⟩] at k2
  have hl2 : ¬ ((lb : Int) = 128) := by omega
  clear hok hi
  go_enter Tryz.func227, Tryz.ntmps227
  go_wp2_with fail
  refine k1.out.mono ?_
  rintro r w1 ⟨rfl, rfl⟩
  go_wp2_with fail
  refine k2.out.mono ?_
  rintro r w1 ⟨rfl, rfl⟩
  go_wp2_with fail
  go_ret
  exact ⟨rfl, rfl⟩

end Go.Proofs.YtbgommpdmnbplaaGreatDoor

/- What disk.land does: it lays writes (whole ones, or torn ones) over what is durable. -/
namespace Go.Proofs.YtbgommpdmnbplaaGreatDoor
open Go.RowKit
set_option linter.unusedVariables false

/-- A write, whole or torn, as it is read. -/
structure Cut where
  sec : Nat
  a : Addr
  len : Nat
  cap : Nat
  bs : List Int

/-- A row of writes that is read: none of it lies in block gd. -/
structure Cuts (w : World) (gd N : Nat) (ae : Option Addr) (c : Nat) (es : List Cut) : Prop where
  c1 : es.length ≤ c
  c2 : c ≤ 9223372036854775807
  row : 0 < es.length → ∃ b o, ae = some ⟨b, o, none⟩ ∧ b ≠ gd ∧ b < w.heap.size ∧ ∀ j (h : j < es.length), w.cell? ⟨b, o + j * 2, none⟩ = some (.int .i64 es[j].sec) ∧ w.cell? ⟨b, o + j * 2 + 1, none⟩ = some (.slice (some es[j].a) es[j].len es[j].cap)
  es : ∀ s ∈ es, s.sec < N ∧ s.len ≤ 128 ∧ Src w (some s.a) s.len s.bs ∧ s.a.block ≠ gd

theorem Cuts.upd {w w' : World} {gd N : Nat} {ae : Option Addr} {c : Nat} {es : List Cut} (h : Cuts w gd N ae c es) (u : Upd (· = gd) w w') : Cuts w' gd N ae c es := by
  refine ⟨h.c1, h.c2, fun h0 => ?_, fun s hs => ?_⟩
  · obtain ⟨b, o, e, hb, hl, hc⟩ := h.row h0
    refine ⟨b, o, e, hb, Nat.lt_of_lt_of_le hl u.size, fun j hj => ?_⟩
    have := u.block b hl hb
    exact ⟨(World.cell?_of_block (a := ⟨b, o + j * 2, none⟩) this).trans (hc j hj).1, (World.cell?_of_block (a := ⟨b, o + j * 2 + 1, none⟩) this).trans (hc j hj).2⟩
  · obtain ⟨h1, h2, h3, h4⟩ := h.es s hs
    refine ⟨h1, h2, u.src h3 (fun b o e => ?_), h4⟩
    have := Option.some.inj e
    rw [this] at h4
    exact h4

def landL (L : List Int) (es : List (Nat × List Int)) : List Int := es.foldl (fun L s => splice L (s.1 * 128) s.2) L

def Cut.ab (s : Cut) : Nat × List Int := (s.sec, s.bs)

theorem landL_len (N : Nat) (es : List (Nat × List Int)) : ∀ L : List Int, L.length = N * 128 → (∀ s ∈ es, s.1 < N ∧ s.2.length ≤ 128) → (landL L es).length = N * 128 := by
  induction es with
  | nil => intro L h _; exact h
  | cons s es ih =>
    intro L h hs
    have h1 := hs s (by simp)
    have : (s.1 + 1) * 128 ≤ N * 128 := Nat.mul_le_mul_right _ h1.1
    exact ih _ (by rw [length_splice _ _ _ (by omega)]; exact h) (fun t ht => hs t (by simp [ht]))

theorem landL_snoc (L : List Int) (es : List (Nat × List Int)) (s : Nat × List Int) : landL L (es ++ [s]) = splice (landL L es) (s.1 * 128) s.2 := by simp [landL]

/-- Behind writes each sector is what they make of it. -/
theorem sec_landL (N : Nat) (es : List (Nat × List Int)) : ∀ L : List Int, L.length = N * 128 → (∀ s ∈ es, s.1 < N ∧ s.2.length ≤ 128) → ∀ j, sec (landL L es) j = overE (sec L) es j := by
  induction es with
  | nil => intro L _ _ j; rfl
  | cons s es ih =>
    intro L h hs j
    have h1 := hs s (by simp)
    have : (s.1 + 1) * 128 ≤ N * 128 := Nat.mul_le_mul_right _ h1.1
    have e1 : landL L (s :: es) = landL (splice L (s.1 * 128) s.2) es := rfl
    rw [e1, ih _ (by rw [length_splice _ _ _ (by omega)]; exact h) (fun t ht => hs t (by simp [ht])) j, overE_cons]
    refine overE_cong _ _ _ _ ?_
    rw [sec_splice L s.2 N s.1 j h h1.2 h1.1]
    by_cases hj : j = s.1
    · subst hj; simp
    · rw [if_neg hj, if_neg hj]

/-- What a row of bytes is. -/
def Dur (w : World) (gd N cd : Nat) (L : List Int) : Prop := w.ownsRow 0 5 1 (.slice (some ⟨gd, 0, none⟩) (N * 128) cd) (N * 128) (L.map (Value.int .u8))

theorem Dur.put {w w' : World} {gd N cd i : Nat} {L bs : List Int} {cur : List Value} (h : Dur w gd N cd L) (hg : w.heap[gd]? = some (.cells cur.toArray 5 (0, 0))) (hi : i < N) (hb : bs.length ≤ 128) (hw' : w'.heap[gd]? = some (.cells (splice cur (i * 128) (bs.map (Value.int .u8))).toArray 5 (0, 0))) : Dur w' gd N cd (splice L (i * 128) bs) := by
  obtain ⟨cur', hg', h1, h2, h3, h4⟩ := own_heap h
  have : cur' = cur := by
    rw [hg] at hg'
    injection hg' with e
    injection e with e
    simpa using e.symm
  subst this
  have hin : (i + 1) * 128 ≤ N * 128 := Nat.mul_le_mul_right _ hi
  have hl := h.1
  refine ⟨?_, .inr ⟨gd, cd, _, rfl, Nat.zero_le _, hw', h1, h2, ?_, ?_⟩⟩
  · rw [splice_map, length_splice _ _ _ (by rw [hl]; simp; omega), hl]
  · rw [List.size_toArray, length_splice _ _ _ (by simp; omega), h3]
  · rw [splice_map, ← h4, List.toList_toArray, take_splice _ _ _ _ (by simp; omega) (by omega)]

theorem cell_setRow_block (w : World) (g : Nat) (cs : Array Value) (a : Addr) (h : a.block ≠ g) : (w.setRow g cs).cell? a = w.cell? a :=
  World.cell?_of_block (setRow_other w g a.block cs h)

set_option maxHeartbeats 1000000 in
set_option maxRecDepth 20000 in
theorem land_any (p gd N cd : Nat) (L : List Int) (ae : Option Addr) (c : Nat) (es : List Cut) (w : World) (hp : w.cell? ⟨p, 0, none⟩ = some (.slice (some ⟨gd, 0, none⟩) (N * 128) cd)) (hpg : p ≠ gd) (hN : N ≤ 2048) (hd : Dur w gd N cd L) (hc : Cuts w gd N ae c es) (hel : es.length ≤ 4096) :
    Calls Tryz.prog 122 #[.pointer (some ⟨p, 0, none⟩), .slice ae es.length c] w fun e w' => e = .returned (.tuple #[]) ∧ Dur w' gd N cd (landL L (es.map Cut.ab)) ∧ Upd (· = gd) w w' := by
  have HD := hid hd
  have HC := hid hc
  have hc1 := hc.c1
  have hc2 := hc.c2
  obtain ⟨_, _, hcd1, hcd2, _, _⟩ := own_heap hd
  have hcd3 : cd ≤ 9223372036854775807 := by unfold maxLen at hcd2; omega
  have hplt : p < w.heap.size := World.block_lt_of_cell? _ _ hp
  have hglt : gd < w.heap.size := (hd.lt gd rfl).2
  have HP := hid hp
  clear hd hc hp
  go_enter Tryz.func122, Tryz.ntmps122
  go_wp2_with fail
  go_loopw [8] (fun k wr => ∃ i : Nat, k = .int .i64 i ∧ i ≤ es.length ∧ Hid (Dur wr gd N cd (landL L ((es.take i).map Cut.ab))) ∧ Upd (· = gd) w wr) (fun k _ => es.length - (intOf k).toNat)
  case atStart => exact ⟨0, rfl, Nat.zero_le _, HD.out, Upd.refl _ _⟩
  case round =>
    obtain ⟨i, rfl, hi, HR, hur⟩ := hrel
    by_cases hlt : i < es.length
    · have hcr := HC.out.upd hur
      obtain ⟨b, o, rfl, hb, hbl, hcell⟩ := hcr.row (by omega)
      obtain ⟨c0, c1⟩ := hcell i hlt
      obtain ⟨hs1, hs2, hs3, hs4⟩ := hcr.es es[i] (List.getElem_mem hlt)
      have hpr : wr.cell? ⟨p, 0, none⟩ = some (.slice (some ⟨gd, 0, none⟩) (N * 128) cd) := (World.cell?_of_block (w := w) (a := ⟨p, 0, none⟩) (hur.block p hplt hpg)).trans HP.out
      have HS3 := hid hs3
      clear hcell hs3 hcr
      go_wp2_with fail
      obtain ⟨W2, gW2⟩ : ∃ W2, W2 = wr.alloc (.cells #[.int .i64 es[i].sec, .slice (some es[i].a) es[i].len es[i].cap] 120) := ⟨_, rfl⟩
      have hb2 : Below wr.heap.size wr W2 := by rw [gW2]; exact (Below.refl _ _).alloc (Nat.le_refl _) _
      have hsz := hur.size
      have q0 : W2.cell? ⟨p, 0, none⟩ = some (.slice (some ⟨gd, 0, none⟩) (N * 128) cd) := (hb2.cell (p := ⟨p, 0, none⟩) (by show p < _; omega)).trans hpr
      have q1 : W2.cell? ⟨wr.heap.size, 0, none⟩ = some (.int .i64 es[i].sec) := by rw [gW2]; simp [go_sem]
      have q2 : W2.cell? ⟨wr.heap.size, 1, none⟩ = some (.slice (some es[i].a) es[i].len es[i].cap) := by rw [gW2]; simp [go_sem]
      obtain ⟨cur, hcur, hk1, hk2, hk3, hk4⟩ := own_heap (own_below HR.out hb2)
      have hl := HS3.out.1
      have hin : (es[i].sec + 1) * 128 ≤ N * 128 := Nat.mul_le_mul_right _ hs1
      have crun := run_copy_row2 (P := Tryz.prog) W2.drew 81 81 3 5 1 gd (es[i].sec * 128) 128 128 es[i].a es[i].len es[i].cap es[i].len cur.toArray 5 (es[i].bs.map (Value.int .u8)) Tryz.underlying81 Tryz.psz5 hcur (by simp only [Nat.min_def]; split <;> omega) (by simp [hl]) (src_cells ((HS3.out.below hb2.drew))) (by simp [hl]; omega) (u8_one _)
      obtain ⟨R, hR⟩ : ∃ R, R = splice cur (es[i].sec * 128) (es[i].bs.map (Value.int .u8)) := ⟨_, rfl⟩
      rw [show (cur.toArray.toList.take (es[i].sec * 128) ++ es[i].bs.map (Value.int .u8) ++ cur.toArray.toList.drop (es[i].sec * 128 + (es[i].bs.map (Value.int .u8)).length)) = R by rw [hR]; simp [splice]] at crun
      have hdn : Dur (W2.drew.setRow gd R.toArray) gd N cd (landL L ((es.take (i + 1)).map Cut.ab)) := by
        have h0 : Dur W2 gd N cd (landL L ((es.take i).map Cut.ab)) := own_below HR.out hb2
        have h1 := h0.put (w' := W2.drew.setRow gd R.toArray) (i := es[i].sec) (bs := es[i].bs) hcur hs1 (by omega) (by rw [← hR]; exact setRow_heap W2.drew gd _ _ _ _ hcur)
        have h2 : (es.take (i + 1)).map Cut.ab = (es.take i).map Cut.ab ++ [(es[i].sec, es[i].bs)] := by
          rw [List.take_succ_eq_append_getElem hlt, List.map_append]
          rfl
        rw [h2, landL_snoc]
        exact h1
      have hup : Upd (· = gd) w (W2.drew.setRow gd R.toArray) := by
        refine (hur.trans (Upd.of_below (F := (· = gd)) hb2) (fun _ _ h => h)).trans (G := (· = gd)) ?_ (fun _ _ h => h)
        exact ⟨rfl, rfl, rfl, by simp, fun k _ hk => setRow_other W2.drew gd k _ hk⟩
      have HDN := hid hdn
      have HUP := hid hup
      have hne : wr.heap.size ≠ gd := by omega
      rw [← gW2]
      have ks := hid (sector_any gd N es[i].sec cd W2.drew hs1 hN hcd1 hcd3)
      clear gW2 hcur hk4 hR hdn hup hpr c0 c1 hb2
      go_region_held3 (fun wx => wx.cell? ⟨p, 0, none⟩ = some (.slice (some ⟨gd, 0, none⟩) (N * 128) cd) ∧ wx.cell? ⟨wr.heap.size, 0, none⟩ = some (.int .i64 es[i].sec) ∧ wx.cell? ⟨wr.heap.size, 1, none⟩ = some (.slice (some es[i].a) es[i].len es[i].cap)) (first | go_keep | (refine ⟨(cell_setRow_block _ _ _ _ hpg).trans ?_, (cell_setRow_block _ _ _ _ hne).trans ?_, (cell_setRow_block _ _ _ _ hne).trans ?_⟩ <;> go_keep)) (first | (go_at_call 81; refine ks.out.mono ?_; rintro r w4 ⟨rfl, h⟩; subst w4))
      go_wp2_with fail
      go_roundw
      case rel => exact ⟨i + 1, by go_num, by omega, HDN.out, HUP.out⟩
      case measure => simp [intOf]; omega
    · obtain rfl : i = es.length := by omega
      have hfin := HR.out
      rw [List.take_length] at hfin
      go_wp2_with fail
      go_end0
      exact ⟨rfl, hfin, hur⟩

end Go.Proofs.YtbgommpdmnbplaaGreatDoor

/- What disk.settle, Flush and Barrier do. -/
namespace Go.Proofs.YtbgommpdmnbplaaGreatDoor
open Go.RowKit
set_option linter.unusedVariables false

def Snt.cut (s : Snt) : Cut := ⟨s.sec, ⟨s.blk, 0, none⟩, 128, s.cap, s.bs⟩

theorem cut_ab (es : List Snt) : (es.map Snt.cut).map Cut.ab = es.map Snt.ab := by simp [Snt.cut, Cut.ab, Snt.ab]

theorem Ep.ok.cuts {e : Ep} {w : World} {N gd : Nat} {ae : Option Addr} {c : Nat} (h : e.ok w N) (hv : e.v = .slice ae e.es.length c) (hc1 : e.es.length ≤ c) (hc2 : c ≤ 9223372036854775807) (hg : gd ∉ e.foot) : Cuts w gd N ae c (e.es.map Snt.cut) := by
  have hrow := h.row
  rw [hv] at hrow
  refine ⟨by simpa using hc1, hc2, fun h0 => ?_, fun s hs => ?_⟩
  · obtain ⟨b, o, rfl, hlt, hc⟩ := sents_of hrow rfl (by simpa using h0)
    refine ⟨b, o, rfl, fun hb => hg ?_, hlt, fun j hj => ?_⟩
    · subst hb
      simp only [Ep.foot, List.mem_append]
      exact .inl (by rw [hv]; simp [vb, Value.ownBlock])
    · have hj' : j < e.es.length := by simpa using hj
      have := hc j hj'
      rw [secAt_eq _ _ hj', valAt_eq _ _ hj'] at this
      simpa [Snt.cut, Snt.val] using this
  · obtain ⟨t, ht, rfl⟩ := List.mem_map.1 hs
    obtain ⟨h1, h2⟩ := h.es t ht
    refine ⟨h.rise.2 _ (List.mem_map.2 ⟨t, ht, rfl⟩), Nat.le_refl _, Src.own h2, fun hb => hg ?_⟩
    simp only [Ep.foot, List.mem_append, List.mem_map]
    exact .inr ⟨t, ht, hb⟩

def landAll (L : List Int) (eps : List (List (Nat × List Int))) : List Int := eps.foldl landL L

theorem landAll_snoc (L : List Int) (eps : List (List (Nat × List Int))) (e : List (Nat × List Int)) : landAll L (eps ++ [e]) = landL (landAll L eps) e := by simp [landAll]

/-- What settle leaves. -/
def Settled (w : World) (d : Dk) (p : Nat) (D : List Int) (w' : World) : Prop :=
  ({ d with dur := D, wr := D, ve := .slice none 0 0, eps := [], opn := false } : Dk).ok w' p ∧ Upd (· ∈ d.foot p) w w'

theorem Dk.ok.settled {d : Dk} {w w6 w7 : World} {p : Nat} {D : List Int} {cur : List Value} (hok : d.ok w p) (hU6 : Upd (· = d.gd) w w6) (hD : Dur w6 d.gd d.n d.cd D) (hcur : w6.heap[d.gw]? = some (.cells cur.toArray 5 (0, 0))) (hgw : d.gw ≠ d.gd)
    (h7 : w7 = ((w6.drew.setRow d.gw (splice cur 0 (D.map (Value.int .u8))).toArray).setCell ⟨p, 2, none⟩ (.slice none 0 0)).setCell ⟨p, 3, none⟩ (.bool false)) : Settled w d p D w7 := by
  have hnd := hok.nodup
  simp only [Dk.foot, List.nodup_cons, List.mem_cons, List.mem_append, not_or] at hnd
  have hpgd : p ≠ d.gd := hnd.1.1
  have hpgw : p ≠ d.gw := hnd.1.2.1
  have hwr6 : w6.ownsRow 0 5 1 (.slice (some ⟨d.gw, 0, none⟩) (d.n * 128) d.cw) (d.n * 128) (d.wr.map (Value.int .u8)) := hU6.own hok.wr (fun k hk => by simp [Value.ownBlock] at hk; subst hk; exact hgw)
  obtain ⟨cur', hcur', k1, k2, k3, k4⟩ := own_heap hwr6
  have : cur' = cur := by
    rw [hcur] at hcur'
    injection hcur' with e
    injection e with e
    simpa using e.symm
  subst this
  have hDl : D.length = d.n * 128 := by have := hD.1; simpa using this
  have hU7 : Upd (fun x => x = p ∨ x = d.gw) w6 w7 := by
    subst h7
    refine Upd.trans (F := fun x => x = p ∨ x = d.gw) (G := (· = p)) (Upd.trans (F := fun x => x = p ∨ x = d.gw) (G := (· = p)) (b := w6.drew.setRow d.gw (splice cur' 0 (D.map (Value.int .u8))).toArray) ?_ (Upd.setCell _ _ _ rfl) (fun _ _ h => .inl h)) (Upd.setCell _ _ _ rfl) (fun _ _ h => .inl h)
    exact ⟨rfl, rfl, rfl, by simp, fun k _ hk => setRow_other w6.drew d.gw k _ (fun e => hk (.inr e))⟩
  have hp6 := hU6.heap hok.cells hpgd
  refine ⟨⟨?_, ?_, ?_, World.ownsRow_nil _ _ _ _, fun e he => by simp at he, ?_, hok.n1, hok.n2, fun h => by simp at h⟩, ?_⟩
  · subst h7
    have h0 : (w6.drew.setRow d.gw (splice cur' 0 (D.map (Value.int .u8))).toArray).heap[p]? = some (.cells #[.slice (some ⟨d.gd, 0, none⟩) (d.n * 128) d.cd, .slice (some ⟨d.gw, 0, none⟩) (d.n * 128) d.cw, d.ve, .bool d.opn] 84 (0, 0)) := (setRow_other w6.drew d.gw p _ hpgw).trans hp6
    have h1 := heap_setCell_same _ p 2 _ _ (.slice none 0 0) h0
    have h2 := heap_setCell_same _ p 3 _ _ (.bool false) h1
    rw [h2]
    rfl
  · exact hU7.own hD (fun k hk => by
      simp [Value.ownBlock] at hk; subst hk
      rintro (h | h)
      · exact hpgd h.symm
      · exact hgw h.symm)
  · refine ⟨by simp [hDl], .inr ⟨d.gw, d.cw, (splice cur' 0 (D.map (Value.int .u8))).toArray, rfl, Nat.zero_le _, ?_, k1, k2, ?_, ?_⟩⟩
    · subst h7
      rw [heap_setCell_other _ _ _ _ (fun e => hpgw e.symm), heap_setCell_other _ _ _ _ (fun e => hpgw e.symm)]
      exact setRow_heap w6.drew _ _ _ _ _ hcur
    · rw [List.size_toArray, length_splice _ _ _ (by simp [hDl]; omega), k3]
    · simp only [splice, List.take_zero, List.nil_append]
      rw [List.take_append_of_le_length (by simp [hDl]), List.take_of_length_le (by simp [hDl])]
  · simp [Dk.foot, vb, Value.ownBlock]
    exact ⟨⟨hpgd, hpgw⟩, fun e => hgw e.symm⟩
  · refine Upd.trans (F := (· ∈ d.foot p)) (hU6.mono (fun x _ hx => by simp [Dk.foot, hx])) hU7 (fun x _ hx => ?_)
    rcases hx with rfl | rfl <;> simp [Dk.foot]

set_option maxHeartbeats 1000000 in
set_option maxRecDepth 20000 in
theorem settle_any (d : Dk) (p k c' : Nat) (ae pa : Option Addr) (pc ce : Nat) (cs : List Cut) (w : World) (hok : d.ok w p) (hve : d.ve = .slice ae d.eps.length ce) (hk : k ≤ d.eps.length) (hc1 : k ≤ c') (hc2 : c' ≤ 9223372036854775807) (hcs : Cuts w d.gd d.n pa pc cs) (hcl : cs.length ≤ 4096) :
    Calls Tryz.prog 66 #[.pointer (some ⟨p, 0, none⟩), .slice ae k c', .slice pa cs.length pc] w fun e w' => e = .returned (.tuple #[]) ∧ Settled w d p (landL (landAll d.dur (d.ab.take k)) (cs.map Cut.ab)) w' := by
  have hnd := hok.nodup
  simp only [Dk.foot, List.nodup_cons, List.mem_cons, List.mem_append, not_or] at hnd
  have hpgd : p ≠ d.gd := hnd.1.1
  have hgw : d.gw ≠ d.gd := fun e => hnd.2.1.1 e.symm
  have hged : d.gd ∉ vb d.ve := hnd.2.1.2.1
  have hepd : ∀ e ∈ d.eps, d.gd ∉ e.foot := fun e he hx => hnd.2.1.2.2 (List.mem_flatMap.2 ⟨e, he, hx⟩)
  have hplt := hok.lt p (by simp [Dk.foot])
  obtain ⟨c0, c1, c2, c3⟩ := hok.cell
  have HK := hid hok
  have HCS := hid hcs
  have HEP := hid hepd
  have HVE := hid hve
  have hn2 := hok.n2
  clear hok hcs hepd hve hnd c2 c3
  go_enter Tryz.func66, Tryz.ntmps66
  go_wp2_with fail
  go_loopw [10] (fun kk wr => ∃ i : Nat, kk = .int .i64 i ∧ i ≤ k ∧ Hid (Dur wr d.gd d.n d.cd (landAll d.dur (d.ab.take i))) ∧ Upd (· = d.gd) w wr) (fun kk _ => k - (intOf kk).toNat)
  case atStart => exact ⟨0, rfl, Nat.zero_le _, HK.out.dur, Upd.refl _ _⟩
  case round =>
    obtain ⟨i, rfl, hi, HR, hur⟩ := hrel
    have u0 : wr.cell? ⟨p, 0, none⟩ = some (.slice (some ⟨d.gd, 0, none⟩) (d.n * 128) d.cd) := (World.cell?_of_block (w := w) (a := ⟨p, 0, none⟩) (hur.block p hplt hpgd)).trans c0
    have u1 : wr.cell? ⟨p, 1, none⟩ = some (.slice (some ⟨d.gw, 0, none⟩) (d.n * 128) d.cw) := (World.cell?_of_block (w := w) (a := ⟨p, 1, none⟩) (hur.block p hplt hpgd)).trans c1
    by_cases hlt : i < k
    · have hil : i < d.eps.length := by omega
      obtain ⟨e, he⟩ : ∃ e, e = d.eps[i] := ⟨_, rfl⟩
      have hem : e ∈ d.eps := by rw [he]; exact List.getElem_mem hil
      have heok : e.ok wr d.n := (HK.out.eps e hem).frame fun x hx => hur.block x ((HK.out.eps e hem).lt x hx) (fun h => HEP.out e hem (h ▸ hx))
      obtain ⟨ae2, ce2, hev, hev1, hev2⟩ := own_shape heok.row
      have hel := rise_len heok.rise
      obtain ⟨ge, rfl⟩ : ∃ ge, ae = some ⟨ge, 0, none⟩ := by
        rcases HK.out.row.2 with ⟨_, h⟩ | ⟨g, c, cur, h, _⟩
        · omega
        · rw [HVE.out] at h; injection h with h1 h2 h3; exact ⟨g, h1⟩
      have hrow := hur.own HK.out.row (fun x hx h => hged (by simp [vb, hx, ← h]))
      rw [HVE.out] at hrow
      have hc : wr.cell? ⟨ge, i, none⟩ = some (.slice ae2 e.es.length ce2) := by
        rw [hrow.cellAt _ (by omega), ← hev, he]
        simp [hil]
      have kl := hid (land_any p d.gd d.n d.cd _ ae2 ce2 (e.es.map Snt.cut) wr u0 hpgd hn2 HR.out (heok.cuts hev hev1 hev2 (HEP.out e hem)) (by simp; omega))
      rw [List.length_map, cut_ab] at kl
      have HE := hid he
      have HEM := hid hem
      have HEO := hid heok
      clear hrow he hem heok hev
      go_wp2_with fail
      refine kl.out.mono ?_
      rintro r w2 ⟨rfl, hd2, hu2⟩
      have HD2 := hid hd2
      clear hd2
      go_wp2_with fail
      go_roundw
      case rel =>
        refine ⟨i + 1, by go_num, by omega, ?_, hur.trans hu2 (fun _ _ h => h)⟩
        have h2 : d.ab.take (i + 1) = d.ab.take i ++ [e.ab] := by
          rw [List.take_succ_eq_append_getElem (by simpa [Dk.ab] using hil)]
          simp [Dk.ab, HE.out]
        show Dur _ _ _ _ _
        rw [h2, landAll_snoc]
        exact HD2.out
      case measure => simp [intOf]; omega
    · obtain rfl : i = k := by omega
      have kl := hid (land_any p d.gd d.n d.cd _ pa pc cs wr u0 hpgd hn2 HR.out (HCS.out.upd hur) hcl)
      go_wp2_with fail
      refine kl.out.mono ?_
      rintro r w2 ⟨rfl, hd2, hu2⟩
      have hU2 : Upd (· = d.gd) w w2 := hur.trans hu2 (fun _ _ h => h)
      have HD2 := hid hd2
      have q0 : w2.cell? ⟨p, 0, none⟩ = some (.slice (some ⟨d.gd, 0, none⟩) (d.n * 128) d.cd) := (World.cell?_of_block (w := w) (a := ⟨p, 0, none⟩) (hU2.block p hplt hpgd)).trans c0
      have q1 : w2.cell? ⟨p, 1, none⟩ = some (.slice (some ⟨d.gw, 0, none⟩) (d.n * 128) d.cw) := (World.cell?_of_block (w := w) (a := ⟨p, 1, none⟩) (hU2.block p hplt hpgd)).trans c1
      have hgwlt := HK.out.lt d.gw (by simp [Dk.foot])
      obtain ⟨cur, hcur, k1, k2, k3, k4⟩ := own_heap (hU2.own HK.out.wr (fun x hx => by simp [Value.ownBlock] at hx; subst hx; exact hgw))
      obtain ⟨D, hDD⟩ : ∃ D, D = landL (landAll d.dur (d.ab.take i)) (cs.map Cut.ab) := ⟨_, rfl⟩
      rw [← hDD] at HD2
      have HDD := hid hDD
      have hDl : D.length = d.n * 128 := by have := HD2.out.1; simpa using this
      have crun := run_copy_row2 (P := Tryz.prog) w2.drew 81 81 3 5 1 d.gw 0 (d.n * 128) d.cw ⟨d.gd, 0, none⟩ (d.n * 128) d.cd (d.n * 128) cur.toArray 5 (D.map (Value.int .u8)) Tryz.underlying81 Tryz.psz5 hcur (by simp) (by simp [hDl]) (src_cells (show Src w2.drew _ _ _ from Src.own (w := w2) HD2.out)) (by simp [hDl]; omega) (u8_one _)
      obtain ⟨R, hR⟩ : ∃ R, R = splice cur 0 (D.map (Value.int .u8)) := ⟨_, rfl⟩
      rw [show (cur.toArray.toList.take 0 ++ D.map (Value.int .u8) ++ cur.toArray.toList.drop (0 + (D.map (Value.int .u8)).length)) = R by rw [hR]; simp [splice]] at crun
      have hset := HK.out.settled hU2 HD2.out hcur hgw rfl
      rw [← hR] at hset
      have HSET := hid hset
      have hp2 := hU2.heap HK.out.cells hpgd
      have hpgw : p ≠ d.gw := by
        have hnd := HK.out.nodup
        simp only [Dk.foot, List.nodup_cons, List.mem_cons, List.mem_append, not_or] at hnd
        exact hnd.1.2.1
      obtain ⟨W3, gW3⟩ : ∃ W3, W3 = w2.drew.setRow d.gw R.toArray := ⟨_, rfl⟩
      have hp3 : W3.heap[p]? = some (.cells #[.slice (some ⟨d.gd, 0, none⟩) (d.n * 128) d.cd, .slice (some ⟨d.gw, 0, none⟩) (d.n * 128) d.cw, d.ve, .bool d.opn] 84 (0, 0)) := by rw [gW3]; exact (setRow_other w2.drew d.gw p _ hpgw).trans hp2
      have r2 : W3.cell? ⟨p, 2, none⟩ = some d.ve := by rw [cell_of_row W3 p 2 _ _ _ hp3]; rfl
      have r3 : W3.cell? ⟨p, 3, none⟩ = some (.bool d.opn) := by rw [cell_of_row W3 p 3 _ _ _ hp3]; rfl
      have r4 : W3.frozen? ⟨p, 2, none⟩ = false := frozen_of_row W3 p 2 _ _ hp3
      have r5 : W3.frozen? ⟨p, 3, none⟩ = false := frozen_of_row W3 p 3 _ _ hp3
      rw [← gW3] at crun HSET
      rw [HVE.out] at r2
      have q6 : W3.cell? ⟨p, 0, none⟩ = some (.slice (some ⟨d.gd, 0, none⟩) (d.n * 128) d.cd) := by rw [cell_of_row W3 p 0 _ _ _ hp3]; rfl
      have q7 : W3.cell? ⟨p, 1, none⟩ = some (.slice (some ⟨d.gw, 0, none⟩) (d.n * 128) d.cw) := by rw [cell_of_row W3 p 1 _ _ _ hp3]; rfl
      clear gW3 hp2 hp3 hR hcur k4 hset hDD hd2 u0 u1 c0 c1 kl
      go_wp2_with fail
      go_region_held3 (fun wx => wx.cell? ⟨p, 0, none⟩ = some (.slice (some ⟨d.gd, 0, none⟩) (d.n * 128) d.cd) ∧ wx.cell? ⟨p, 1, none⟩ = some (.slice (some ⟨d.gw, 0, none⟩) (d.n * 128) d.cw)) (go_keep) (fail)
      go_wp2_with fail
      go_end0
      have hs := HSET.out
      rw [HDD.out] at hs
      exact ⟨rfl, hs⟩

/-- What Flush does. -/
theorem flush_any (d : Dk) (p : Nat) (w : World) (hok : d.ok w p) :
    Calls Tryz.prog 228 #[.pointer (some ⟨p, 0, none⟩)] w fun e w' => e = .returned (.int .i64 0) ∧ Settled w d p (landAll d.dur d.ab) w' := by
  obtain ⟨ae, ce, hve, hce1, hce2⟩ := own_shape hok.row
  have k1 := hid (dusable d p w hok)
  have k2 := hid (settle_any d p d.eps.length ce ae none 0 ce [] w hok hve (Nat.le_refl _) hce1 hce2 ⟨Nat.le_refl _, by omega, fun h => by simp at h, fun s hs => by simp at hs⟩ (by simp))
  rw [show d.ab.take d.eps.length = d.ab by rw [List.take_of_length_le]; simp [Dk.ab]] at k2
  obtain ⟨c0, c1, c2, c3⟩ := hok.cell
  rw [hve] at c2
  clear hok hve
  go_enter Tryz.func228, Tryz.ntmps228
  go_wp2_with fail
  refine k1.out.mono ?_
  rintro r w1 ⟨rfl, h⟩
  subst w1
  go_wp2_with fail
  refine k2.out.mono ?_
  rintro r w1 ⟨rfl, h⟩
  have H := hid h
  clear h
  go_wp2_with fail
  go_ret
  exact ⟨rfl, H.out⟩

end Go.Proofs.YtbgommpdmnbplaaGreatDoor
