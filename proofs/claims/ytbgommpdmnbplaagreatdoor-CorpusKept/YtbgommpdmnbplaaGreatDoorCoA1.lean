/- The corpus and what it stands on, merged. -/
import Derived.WalkKit
import Derived.WalkSpells
import Derived.WalkLawsBesides
import Derived.Outline
import Derived.Laws.CopyOwn
import Derived.Laws.MakeOwn
import Derived.Laws.BitsAllLaws
import Derived.Lib.Bytealg
import Derived.Lib.Bytes
import Derived.Test.YtbgommpdmnbplaaGreatDoorChecked
import Derived.Lib.EndianBits
import Derived.RowKit
import Derived.Deep.QuietTactic
import Derived.BigQuiet
import Derived.Lib.Overlaps
import Derived.Lib.AppendZerosOnto
import Derived.Lib.AppendZeros
import Derived.Deep.RegionLaw
import Derived.Laws.IdiomCopy

/- Laws of the walk, for whatever program: 'make([]T, n, c)' with both numbers variables, and small facts on rows of bytes. -/
namespace Go.Proofs.YtbgommpdmnbplaaGreatDoor
open Go.RowKit
set_option maxRecDepth 20000

theorem hid {p : Prop} (h : p) : Hid p := h

/-- 'make([]T, n, c)': a new row of c cells; the world is known. -/
theorem wpList_make_lc {P : Program} (w : World) {ops : Array Oper} {rest : List Oper} {o : Oper} {a : Act} {Q : Exit → Act → World → Prop}
    (hg : o.guard = none) (l c : Operand) (t : TypeId) (hop : o.op = Op.makeSlice t l c)
    (e : TypeId) (i : TypeInfo) (z : Value) (size : Nat) (h1 : P.underlying t = some (.slice e)) (h2 : P.info? e = some i) (h3 : i.zero = some z) (h4 : i.size = size)
    (kl kc : IntKind) (L C : Int) (n m : Nat) (hl : a.eval l = .int kl L) (hc : a.eval c = .int kc C) (hL : L = (n : Int)) (hC : C = (m : Int)) (hnm : n ≤ m) (b2 : i.bytes * m ≤ 281474976710656) (b3 : m ≤ maxLen)
    (hK : wpList P ops Q rest (a.put o.dst (.slice (some ⟨w.heap.size, 0, none⟩) n m)) (w.alloc (.cells (madeCells z.cells (m * size)) e))) :
    wpList P ops Q (o :: rest) a w := by
  refine wpList_plain hg fun K hK' => ?_
  subst h4
  have b3' : (m : Int) ≤ 9223372036854775807 := by simp [maxLen] at b3; omega
  have hb' : (i.bytes : Int) * (m : Int) ≤ 281474976710656 := by
    have h : ((i.bytes * m : Nat) : Int) ≤ 281474976710656 := by omega
    rwa [Int.natCast_mul] at h
  have hrun := run_make (P := P) w t e i z h1 h2 h3 kl kc n m (by omega) (by omega) hb' b3'
  simp only [Int.toNat_natCast] at hrun
  subst hL
  subst hC
  unfold Oper.wp
  simp [execOp, hop, hl, hc, hrun, Result.andThen]
  exact hK' _ _ hK

theorem below_drewN {B : Nat} {w a : World} (h : Below B w a) (n : Nat) : Below B w (a.drewN n) := ⟨h.os, h.tape, h.output, h.size, h.block⟩

/-- Bytes that lie somewhere in memory (nil and empty ones too): the numbers 'zs'. -/
def Src (w : World) (a0 : Option Addr) (len : Nat) (zs : List Int) : Prop :=
  zs.length = len ∧ (0 < len → ∃ b o, a0 = some ⟨b, o, none⟩ ∧ b < w.heap.size ∧ ∀ j, j < len → w.cell? ⟨b, o + j, none⟩ = some (.int .u8 (zs.getD j 0)))

theorem Src.nil (w : World) (a0 : Option Addr) : Src w a0 0 [] := ⟨rfl, fun h => absurd h (Nat.lt_irrefl 0)⟩

theorem Src.below {w w' : World} {a0 : Option Addr} {len : Nat} {zs : List Int} (h : Src w a0 len zs) (hb : Below w.heap.size w w') : Src w' a0 len zs :=
  ⟨h.1, fun hl => by
    obtain ⟨b, o, e, hlt, hc⟩ := h.2 hl
    exact ⟨b, o, e, Nat.lt_of_lt_of_le hlt hb.size, fun j hj => (hb.cell (p := ⟨b, o + j, none⟩) hlt).trans (hc j hj)⟩⟩

/-- A row that is owned is bytes that lie somewhere. -/
theorem Src.own {w : World} {B e g n cap : Nat} {zs : List Int} (h : w.ownsRow B e 1 (.slice (some ⟨g, 0, none⟩) n cap) n (zs.map (Value.int .u8))) : Src w (some ⟨g, 0, none⟩) n zs := by
  have hl : zs.length = n := by have := h.1; simpa using this
  refine ⟨hl, fun hn => ⟨g, 0, rfl, (h.lt g rfl).2, fun j hj => ?_⟩⟩
  have := h.cellAt j (by omega)
  rw [Nat.zero_add, this]
  simp [List.getD, List.getElem?_eq_getElem (show j < zs.length by omega)]

/-- Whoever owns a row owns it behind whatever leaves old memory. -/
theorem own_below {w w' : World} {B e size : Nat} {v : Value} {n : Nat} {xs : List Value} (h : w.ownsRow B e size v n xs) (hb : Below w.heap.size w w') : w'.ownsRow B e size v n xs := by
  obtain ⟨h1, h2⟩ := h
  refine ⟨h1, ?_⟩
  rcases h2 with h2 | ⟨g, cap, cur, hv, hg, hh, r⟩
  · exact .inl h2
  · refine .inr ⟨g, cap, cur, hv, hg, ?_, r⟩
    have hlt : g < w.heap.size := by
      rcases Nat.lt_or_ge g w.heap.size with h | h
      · exact h
      · rw [Array.getElem?_eq_none h] at hh; cases hh
    rw [hb.block g hlt]; exact hh

theorem own_base {w : World} {B B' e size n : Nat} {v : Value} {xs : List Value} (h : w.ownsRow B' e size v n xs) (hB : B ≤ B') : w.ownsRow B e size v n xs := by
  obtain ⟨h1, h2⟩ := h
  refine ⟨h1, ?_⟩
  rcases h2 with h2 | ⟨g, cap, cur, a, b, c⟩
  · exact .inl h2
  · exact .inr ⟨g, cap, cur, a, Nat.le_trans hB b, c⟩

end Go.Proofs.YtbgommpdmnbplaaGreatDoor

/- Plain facts about the check sum CRC-32C over numbers (no program in sight): four bits at a time and bit by bit are the same, and bytes of which up to four neighbours were turned have another sum. -/
namespace Go.Proofs.YtbgommpdmnbplaaGreatDoor.Crc

def tab : List Nat := [0, 274646895, 549293790, 820201905, 1098587580, 1361435347, 1640403810, 1905808397, 2197175160, 2460548119, 2722870694, 2987750089, 3280807620, 3553878443, 3811616794, 4084100981]
def t (i : Nat) : Nat := tab.getD i 0
/-- Four bits. -/
def nib (s : Nat) : Nat := s / 16 ^^^ t (s % 16)
/-- A byte. -/
def two (s : Nat) : Nat := nib (nib s)
def stp (s c : Nat) : Nat := two (s ^^^ c)
def run (s : Nat) (zs : List Int) : Nat := zs.foldl (fun s z => stp s z.toNat) s
def crc (zs : List Int) : Nat := 4294967295 - run 4294967295 zs

theorem t_xor : ∀ i j : Fin 16, t (i.val ^^^ j.val) = t i.val ^^^ t j.val := by decide +kernel
theorem t_lt : ∀ i : Fin 16, t i.val < 4294967296 := by decide +kernel
theorem t_ge : ∀ i : Fin 16, i.val = 0 ∨ 268435456 ≤ t i.val := by decide +kernel

theorem xor_div (a b : Nat) : (a ^^^ b) / 16 = a / 16 ^^^ b / 16 := by
  have := Nat.shiftRight_xor_distrib (a := a) (b := b) (i := 4)
  simpa [Nat.shiftRight_eq_div_pow] using this
theorem xor_mod (a b : Nat) : (a ^^^ b) % 16 = a % 16 ^^^ b % 16 := by
  have := Nat.xor_mod_two_pow (a := a) (b := b) (n := 4)
  simpa using this
theorem nib_xor (a b : Nat) : nib (a ^^^ b) = nib a ^^^ nib b := by
  unfold nib
  rw [xor_div, xor_mod, t_xor ⟨a % 16, by omega⟩ ⟨b % 16, by omega⟩]
  simp only [Nat.xor_assoc]
  congr 1
  rw [← Nat.xor_assoc, Nat.xor_comm (b / 16), Nat.xor_assoc]
theorem xor_lt (a b : Nat) (ha : a < 4294967296) (hb : b < 4294967296) : a ^^^ b < 4294967296 := by
  have := Nat.xor_lt_two_pow (n := 32) (x := a) (y := b) (by simpa using ha) (by simpa using hb)
  simpa using this
theorem nib_lt (s : Nat) (h : s < 4294967296) : nib s < 4294967296 := xor_lt _ _ (by omega) (t_lt ⟨s % 16, by omega⟩)
theorem xor_zero {a b : Nat} (h : a ^^^ b = 0) : a = b := by
  have : a ^^^ b ^^^ b = b := by rw [h, Nat.zero_xor]
  rwa [Nat.xor_assoc, Nat.xor_self, Nat.xor_zero] at this
theorem nib_zero (s : Nat) (h : s < 4294967296) (h0 : nib s = 0) : s = 0 := by
  have e := xor_zero h0
  rcases t_ge ⟨s % 16, by omega⟩ with h1 | h1
  · simp only at h1
    rw [h1] at e
    have : t 0 = 0 := by decide
    omega
  · simp only at h1
    omega
theorem two_lt (s : Nat) (h : s < 4294967296) : two s < 4294967296 := nib_lt _ (nib_lt _ h)
theorem two_xor (a b : Nat) : two (a ^^^ b) = two a ^^^ two b := by unfold two; rw [nib_xor, nib_xor]
theorem two_zero (s : Nat) (h : s < 4294967296) (h0 : two s = 0) : s = 0 := nib_zero s h (nib_zero _ (nib_lt s h) h0)
theorem stp_lt (s c : Nat) (hs : s < 4294967296) (hc : c < 256) : stp s c < 4294967296 := two_lt _ (xor_lt _ _ hs (by omega))
theorem stp_inj (s s' c : Nat) (hs : s < 4294967296) (hs' : s' < 4294967296) (h : stp s c = stp s' c) : s = s' := by
  unfold stp at h
  rw [two_xor, two_xor] at h
  have h2 : two s = two s' := by
    have := congrArg (· ^^^ two c) h
    simpa [Nat.xor_assoc] using this
  have h3 : two (s ^^^ s') = 0 := by rw [two_xor, h2, Nat.xor_self]
  exact xor_zero (two_zero _ (xor_lt _ _ hs hs') h3)

theorem run_lt : ∀ (zs : List Int) (s : Nat), s < 4294967296 → (∀ z ∈ zs, 0 ≤ z ∧ z ≤ 255) → run s zs < 4294967296
  | [], _, h, _ => h
  | z :: zs, s, h, hz => run_lt zs (stp s z.toNat) (stp_lt _ _ h (by have := hz z (by simp); omega)) fun y hy => hz y (by simp [hy])
theorem run_inj : ∀ (zs : List Int) (s s' : Nat), s < 4294967296 → s' < 4294967296 → (∀ z ∈ zs, 0 ≤ z ∧ z ≤ 255) → run s zs = run s' zs → s = s'
  | [], _, _, _, _, _, h => h
  | z :: zs, s, s', hs, hs', hz, h => by
    have hc : z.toNat < 256 := by have := hz z (by simp); omega
    exact stp_inj s s' z.toNat hs hs' (run_inj zs _ _ (stp_lt _ _ hs hc) (stp_lt _ _ hs' hc) (fun y hy => hz y (by simp [hy])) h)
theorem run_append (s : Nat) (xs ys : List Int) : run s (xs ++ ys) = run (run s xs) ys := by simp [run]

/-- A byte of a word: what is above it stays. -/
theorem two_split (y : Nat) : two y = two (y % 256) ^^^ y / 256 := by
  unfold two nib
  rw [xor_div, xor_div, xor_mod, xor_mod]
  have e1 : y % 256 / 16 / 16 = 0 := by omega
  have e2 : y / 16 / 16 = y / 256 := by omega
  have e3 : y % 256 / 16 % 16 = y / 16 % 16 := by omega
  have e4 : y % 256 % 16 = y % 16 := by omega
  rw [e1, e2, e3, e4, Nat.zero_xor]
  simp only [Nat.xor_assoc]
  rw [Nat.xor_comm (y / 256)]
  simp only [Nat.xor_assoc]

theorem stp_diff (s D x d : Nat) : stp (s ^^^ D) (x ^^^ d) = stp s x ^^^ two (D ^^^ d) := by
  unfold stp
  rw [← two_xor]
  congr 1
  simp only [Nat.xor_assoc]
  congr 1
  rw [← Nat.xor_assoc, Nat.xor_comm D, Nat.xor_assoc]

/-- What four bytes that were turned leave. -/
theorem diff4 (by_ : Nat) (h : by_ < 4294967296) : two (two (two (two (by_ % 256) ^^^ by_ / 256 % 256) ^^^ by_ / 65536 % 256) ^^^ by_ / 16777216 % 256) = two (two (two (two by_))) := by
  have s1 : two by_ = two (by_ % 256) ^^^ by_ / 256 := two_split by_
  generalize two (by_ % 256) = D1 at *
  have s2 : two (D1 ^^^ by_ / 256) = two (D1 ^^^ by_ / 256 % 256) ^^^ by_ / 65536 := by
    rw [two_xor, two_split (by_ / 256), two_xor, Nat.div_div_eq_div_mul, Nat.xor_assoc]
  rw [s1, s2]
  generalize two (D1 ^^^ by_ / 256 % 256) = D2 at *
  have s3 : two (D2 ^^^ by_ / 65536) = two (D2 ^^^ by_ / 65536 % 256) ^^^ by_ / 16777216 := by
    rw [two_xor, two_split (by_ / 65536), two_xor, Nat.div_div_eq_div_mul, Nat.xor_assoc]
  rw [s3]
  generalize two (D2 ^^^ by_ / 65536 % 256) = D3 at *
  rw [show by_ / 16777216 % 256 = by_ / 16777216 by omega]

theorem burst4 (s x0 x1 x2 x3 by_ : Nat) (h : by_ < 4294967296) (h0 : by_ ≠ 0) :
    stp (stp (stp (stp s (x0 ^^^ by_ % 256)) (x1 ^^^ by_ / 256 % 256)) (x2 ^^^ by_ / 65536 % 256)) (x3 ^^^ by_ / 16777216 % 256) ≠ stp (stp (stp (stp s x0) x1) x2) x3 := by
  have e1 : stp s (x0 ^^^ by_ % 256) = stp s x0 ^^^ two (by_ % 256) := by
    have := stp_diff s 0 x0 (by_ % 256)
    simpa using this
  rw [e1, stp_diff, stp_diff, stp_diff, diff4 by_ h]
  intro hh
  have h2 : two (two (two (two by_))) = 0 := by
    have := congrArg (stp (stp (stp (stp s x0) x1) x2) x3 ^^^ ·) hh
    simpa [← Nat.xor_assoc] using this
  have l1 := two_lt _ h
  have l2 := two_lt _ l1
  have l3 := two_lt _ l2
  exact h0 (two_zero _ h (two_zero _ l1 (two_zero _ l2 (two_zero _ l3 h2))))

/-- Bit by bit. -/
def bs (s : Nat) : Nat := s / 2 ^^^ (if s % 2 = 1 then 2197175160 else 0)
theorem xor_div2 (a b : Nat) : (a ^^^ b) / 2 = a / 2 ^^^ b / 2 := by
  have := Nat.shiftRight_xor_distrib (a := a) (b := b) (i := 1)
  simpa [Nat.shiftRight_eq_div_pow] using this
theorem xor_mod2 (a b : Nat) : (a ^^^ b) % 2 = a % 2 ^^^ b % 2 := by
  have := Nat.xor_mod_two_pow (a := a) (b := b) (n := 1)
  simpa using this
theorem xor_left (a b c : Nat) : a ^^^ (b ^^^ c) = b ^^^ (a ^^^ c) := by rw [← Nat.xor_assoc, Nat.xor_comm a b, Nat.xor_assoc]
theorem bs_xor (a b : Nat) : bs (a ^^^ b) = bs a ^^^ bs b := by
  unfold bs
  rw [xor_div2, xor_mod2]
  rcases Nat.mod_two_eq_zero_or_one a with ha | ha <;> rcases Nat.mod_two_eq_zero_or_one b with hb | hb <;> rw [ha, hb] <;> simp [Nat.xor_assoc, xor_left]
  · rw [Nat.xor_comm (b / 2)]
  · rw [Nat.xor_comm]
theorem bs_split (y : Nat) : bs y = bs (y % 2) ^^^ y / 2 := by
  unfold bs
  rw [show y % 2 / 2 = 0 by omega, show y % 2 % 2 = y % 2 by omega, Nat.zero_xor, Nat.xor_comm]
/-- One bit more, as the document tells it. -/
def bit (s b : Nat) : Nat := if s % 2 = b then s / 2 else s / 2 ^^^ 2197175160
theorem bit_bs (s b : Nat) (hb : b < 2) : bit s b = bs (s ^^^ b) := by
  unfold bit bs
  rw [xor_div2, xor_mod2, show b / 2 = 0 by omega, Nat.xor_zero]
  rcases Nat.mod_two_eq_zero_or_one s with ha | ha <;> rcases (show b = 0 ∨ b = 1 by omega) with rfl | rfl <;> simp [ha]
def bits8 (s x : Nat) : Nat → Nat
  | 0 => s
  | i + 1 => bit (bits8 s x i) (x / 2 ^ i % 2)
def it : Nat → Nat → Nat
  | 0, s => s
  | n + 1, s => bs (it n s)
theorem bits8_it (s x : Nat) : ∀ i, it i (s ^^^ x) = bits8 s x i ^^^ x / 2 ^ i
  | 0 => by simp [it, bits8]
  | i + 1 => by
    rw [it, bits8_it s x i, bits8, bit_bs _ _ (Nat.mod_lt _ (by omega)), bs_xor, bs_split (x / 2 ^ i), bs_xor, Nat.div_div_eq_div_mul, ← Nat.pow_succ, Nat.xor_assoc]
theorem bs4_split (y : Nat) : bs (bs (bs (bs y))) = bs (bs (bs (bs (y % 2)))) ^^^ (bs (bs (bs (y / 2 % 2))) ^^^ (bs (bs (y / 2 / 2 % 2)) ^^^ (bs (y / 2 / 2 / 2 % 2) ^^^ y / 2 / 2 / 2 / 2))) := by
  rw [bs_split y]
  simp only [bs_xor]
  rw [bs_split (y / 2)]
  simp only [bs_xor]
  rw [bs_split (y / 2 / 2)]
  simp only [bs_xor]
  rw [bs_split (y / 2 / 2 / 2)]
theorem it4 (y : Nat) : it 4 y = nib y := by
  have h : ∀ j : Fin 16, it 4 j.val = t j.val := by decide +kernel
  have e : it 4 y = it 4 (y % 16) ^^^ y / 16 := by
    simp only [it]
    rw [bs4_split y, bs4_split (y % 16)]
    rw [show y % 16 % 2 = y % 2 by omega, show y % 16 / 2 % 2 = y / 2 % 2 by omega, show y % 16 / 2 / 2 % 2 = y / 2 / 2 % 2 by omega, show y % 16 / 2 / 2 / 2 % 2 = y / 2 / 2 / 2 % 2 by omega, show y % 16 / 2 / 2 / 2 / 2 = 0 by omega, show y / 2 / 2 / 2 / 2 = y / 16 by omega]
    simp only [Nat.xor_zero, Nat.xor_assoc]
  rw [e, h ⟨y % 16, by omega⟩, nib, Nat.xor_comm]
theorem it8 (y : Nat) : it 8 y = two y := by
  show it 4 (it 4 y) = _
  rw [it4, it4]; rfl
theorem bits8_stp (s x : Nat) (hx : x < 256) : bits8 s x 8 = stp s x := by
  have := bits8_it s x 8
  rw [it8, show x / 2 ^ 8 = 0 by omega, Nat.xor_zero] at this
  exact this.symm

theorem known : crc [49, 50, 51, 52, 53, 54, 55, 56, 57] = 3808858755 := by decide +kernel

#print axioms burst4
#print axioms bits8_stp
end Go.Proofs.YtbgommpdmnbplaaGreatDoor.Crc

/- Plain facts about the bytes of numbers (no program in sight): how many bytes a number has, which they are, and that they stand in the numbers' order. No conditions but the numbers' range (below 2^63). -/
namespace Go.Proofs.YtbgommpdmnbplaaGreatDoor.Num
open Go.Lib (compareBytes bytesOf)

/-- How many bytes stand ahead of the last one. -/
def cnt : Nat → Nat → Nat
  | 0, _ => 0
  | f + 1, n => if n ≤ 127 then 0 else cnt f (n / 128) + 1
/-- These bytes. -/
def hi (n : Nat) : Nat → List Int
  | 0 => []
  | k + 1 => ((n / 128 ^ (k + 1) % 128 + 128 : Nat) : Int) :: hi n k
/-- The bytes of a number. -/
def enc (n : Nat) : List Int := hi n (cnt 9 n) ++ [((n % 128 : Nat) : Int)]

theorem length_hi (n : Nat) : ∀ k, (hi n k).length = k
  | 0 => rfl
  | k + 1 => by simp [hi, length_hi n k]
theorem length_enc (n : Nat) : (enc n).length = cnt 9 n + 1 := by simp [enc, length_hi]

theorem div_step (n k : Nat) : n / 128 / 128 ^ k = n / 128 ^ (k + 1) := by
  rw [Nat.div_div_eq_div_mul, Nat.pow_succ, Nat.mul_comm]

theorem cnt_top : ∀ f n, n < 128 ^ f → n / 128 ^ cnt f n ≤ 127
  | 0, n, h => by simp at h; simp [h]
  | f + 1, n, h => by
    unfold cnt
    split
    · simpa
    · rw [← div_step]
      exact cnt_top f (n / 128) (by rw [Nat.pow_succ] at h; exact Nat.div_lt_of_lt_mul (by omega))
theorem cnt_low : ∀ f n k, k < cnt f n → 127 < n / 128 ^ k
  | 0, n, k, h => by simp [cnt] at h
  | f + 1, n, k, h => by
    unfold cnt at h
    split at h
    · omega
    · cases k with
      | zero => simp; omega
      | succ k => rw [← div_step]; exact cnt_low f (n / 128) k (by omega)
theorem cnt_le : ∀ f n, n < 128 ^ (f + 1) → cnt (f + 1) n ≤ f
  | 0, n, h => by
    unfold cnt
    split
    · omega
    · omega
  | f + 1, n, h => by
    unfold cnt
    split
    · omega
    · have := cnt_le f (n / 128) (by rw [Nat.pow_succ] at h; exact Nat.div_lt_of_lt_mul (by omega))
      omega
theorem cnt_8 (n : Nat) (h : n < 9223372036854775808) : cnt 9 n ≤ 8 := cnt_le 8 n (by simpa using h)
theorem cnt_9 (n : Nat) (h : n < 9223372036854775808) : n / 128 ^ cnt 9 n ≤ 127 := cnt_top 9 n (by simpa using h)

theorem cnt_of_gt (n k : Nat) (h : n < 9223372036854775808) (hk : 127 < n / 128 ^ k) : k < cnt 9 n := by
  rcases Nat.lt_or_ge k (cnt 9 n) with h1 | h1
  · exact h1
  · exfalso
    have h2 := cnt_9 n h
    have h3 : n / 128 ^ k ≤ n / 128 ^ cnt 9 n := Nat.div_le_div_left (Nat.pow_le_pow_right (by omega) h1) (Nat.pow_pos (by omega))
    omega
theorem cnt_of_le (n k : Nat) (hk : n / 128 ^ k ≤ 127) : cnt 9 n ≤ k := by
  rcases Nat.lt_or_ge k (cnt 9 n) with h1 | h1
  · have := cnt_low 9 n k h1; omega
  · exact h1
theorem cnt_mono (n m : Nat) (h : n ≤ m) (hm : m < 9223372036854775808) : cnt 9 n ≤ cnt 9 m := by
  apply cnt_of_le
  exact Nat.le_trans (Nat.div_le_div_right h) (cnt_9 m hm)

theorem u8_lt (a b : Nat) (ha : a < 256) (hb : b < 256) : (UInt8.ofNat a < UInt8.ofNat b) ↔ a < b := by
  rw [UInt8.lt_iff_toNat_lt]
  simp [Nat.mod_eq_of_lt ha, Nat.mod_eq_of_lt hb]

theorem bytesOf_cons (a : Nat) (l : List Int) : bytesOf ((a : Int) :: l) = UInt8.ofNat a :: bytesOf l := rfl

theorem mix (h1 h2 r1 r2 p : Nat) (hr1 : r1 < p) (hr2 : r2 < p) : (r1 + p * h1 < r2 + p * h2) ↔ (h1 < h2 ∨ h1 = h2 ∧ r1 < r2) := by
  rcases Nat.lt_trichotomy h1 h2 with h | h | h
  · have := Nat.mul_le_mul_left p (show h1 + 1 ≤ h2 from h)
    rw [Nat.mul_add] at this
    constructor
    · intro _; exact .inl h
    · intro _; omega
  · subst h; constructor <;> intro h <;> omega
  · have := Nat.mul_le_mul_left p (show h2 + 1 ≤ h1 from h)
    rw [Nat.mul_add] at this
    constructor
    · intro h'; omega
    · intro h'; omega

theorem cmp_hi (n m : Nat) : ∀ k, compareBytes (bytesOf (hi n k ++ [((n % 128 : Nat) : Int)])) (bytesOf (hi m k ++ [((m % 128 : Nat) : Int)]))
    = if n % 128 ^ (k + 1) < m % 128 ^ (k + 1) then -1 else if m % 128 ^ (k + 1) < n % 128 ^ (k + 1) then 1 else 0
  | 0 => by
    simp only [hi, List.nil_append, bytesOf_cons]
    unfold compareBytes
    simp only [u8_lt (n % 128) (m % 128) (by omega) (by omega), u8_lt (m % 128) (n % 128) (by omega) (by omega), bytesOf, List.map_nil, compareBytes]
  | k + 1 => by
    have ih := cmp_hi n m k
    simp only [hi, List.cons_append, bytesOf_cons]
    unfold compareBytes
    rw [ih]
    simp only [u8_lt (n / 128 ^ (k + 1) % 128 + 128) (m / 128 ^ (k + 1) % 128 + 128) (by omega) (by omega), u8_lt (m / 128 ^ (k + 1) % 128 + 128) (n / 128 ^ (k + 1) % 128 + 128) (by omega) (by omega)]
    rw [Nat.mod_pow_succ (x := n) (b := 128) (k := k + 1), Nat.mod_pow_succ (x := m) (b := 128) (k := k + 1)]
    have hp : 0 < 128 ^ (k + 1) := Nat.pow_pos (by omega)
    have e1 := mix (n / 128 ^ (k + 1) % 128) (m / 128 ^ (k + 1) % 128) (n % 128 ^ (k + 1)) (m % 128 ^ (k + 1)) (128 ^ (k + 1)) (Nat.mod_lt _ hp) (Nat.mod_lt _ hp)
    have e2 := mix (m / 128 ^ (k + 1) % 128) (n / 128 ^ (k + 1) % 128) (m % 128 ^ (k + 1)) (n % 128 ^ (k + 1)) (128 ^ (k + 1)) (Nat.mod_lt _ hp) (Nat.mod_lt _ hp)
    generalize n / 128 ^ (k + 1) % 128 = a at *
    generalize m / 128 ^ (k + 1) % 128 = b at *
    generalize n % 128 ^ (k + 1) = c at *
    generalize m % 128 ^ (k + 1) = d at *
    simp only [e1, e2]
    split <;> split <;> first | (split <;> first | omega | rfl) | omega | skip
    all_goals first | (split <;> first | omega | rfl) | omega

theorem lt_pow (n k : Nat) (h : n / 128 ^ k ≤ 127) : n < 128 ^ (k + 1) := by
  rw [Nat.pow_succ, Nat.mul_comm]
  exact (Nat.div_lt_iff_lt_mul (Nat.pow_pos (by omega))).1 (by omega)

/-- The bytes of two numbers stand in the numbers' order: the shorter one is the smaller one; of two as long ones 'Compare' tells. -/
theorem order (n m : Nat) (hn : n < 9223372036854775808) (hm : m < 9223372036854775808) :
    ((enc n).length < (enc m).length ∨ (enc n).length = (enc m).length ∧ compareBytes (bytesOf (enc n)) (bytesOf (enc m)) < 0) ↔ n < m := by
  rw [length_enc, length_enc]
  constructor
  · rintro (h | ⟨h1, h2⟩)
    · rcases Nat.lt_or_ge n m with h3 | h3
      · exact h3
      · have := cnt_mono m n h3 hn; omega
    · have e : cnt 9 n = cnt 9 m := by omega
      unfold enc at h2
      rw [← e, cmp_hi] at h2
      have t1 := cnt_9 n hn
      have t2 := cnt_9 m hm
      rw [← e] at t2
      have l1 := lt_pow n _ t1
      have l2 := lt_pow m _ t2
      rw [Nat.mod_eq_of_lt l1, Nat.mod_eq_of_lt l2] at h2
      split at h2
      · assumption
      · split at h2 <;> simp at h2
  · intro h
    have hc := cnt_mono n m (by omega) hm
    rcases Nat.lt_or_ge (cnt 9 n) (cnt 9 m) with h1 | h1
    · exact .inl (by omega)
    · have e : cnt 9 n = cnt 9 m := by omega
      refine .inr ⟨by omega, ?_⟩
      unfold enc
      rw [← e, cmp_hi]
      have t1 := cnt_9 n hn
      have t2 := cnt_9 m hm
      rw [← e] at t2
      have l1 := lt_pow n _ t1
      have l2 := lt_pow m _ t2
      rw [Nat.mod_eq_of_lt l1, Nat.mod_eq_of_lt l2, if_pos h]
      decide

#print axioms order
end Go.Proofs.YtbgommpdmnbplaaGreatDoor.Num

/- Plain facts about reading a number off bytes (no program in sight): what is read, and that what is read, written again, is the bytes that were read. -/
namespace Go.Proofs.YtbgommpdmnbplaaGreatDoor.Num

/-- All of them are bytes. -/
def Bytes (zs : List Int) : Prop := ∀ z ∈ zs, 0 ≤ z ∧ z ≤ 255
theorem Bytes.at {zs : List Int} (h : Bytes zs) (i : Nat) : 0 ≤ zs.getD i 0 ∧ zs.getD i 0 ≤ 255 := by
  rcases Nat.lt_or_ge i zs.length with hi | hi
  · rw [List.getD_eq_getElem?_getD, List.getElem?_eq_getElem hi]; exact h _ (List.getElem_mem hi)
  · rw [List.getD_eq_getElem?_getD, List.getElem?_eq_none hi]; simp
theorem Bytes.drop {zs : List Int} (h : Bytes zs) (i : Nat) : Bytes (zs.drop i) := fun z hz => h z (List.mem_of_mem_drop hz)
theorem Bytes.take {zs : List Int} (h : Bytes zs) (i : Nat) : Bytes (zs.take i) := fun z hz => h z (List.mem_of_mem_take hz)
theorem Bytes.nil : Bytes [] := fun z hz => by cases hz
theorem Bytes.append {zs ys : List Int} (h : Bytes zs) (k : Bytes ys) : Bytes (zs ++ ys) := fun z hz => (List.mem_append.1 hz).elim (h z) (k z)
theorem hi_bytes (n : Nat) : ∀ k, Bytes (hi n k)
  | 0 => Bytes.nil
  | k + 1 => by
    intro z hz
    rcases List.mem_cons.1 hz with rfl | h
    · omega
    · exact hi_bytes n k z h
theorem enc_bytes (n : Nat) : Bytes (enc n) := by
  refine (hi_bytes n _).append ?_
  intro z hz
  rcases List.mem_singleton.1 hz with rfl
  omega

/-- What is read of the bytes 'zs' behind 'i' bytes that have told 'acc': the number, how many bytes it has in all, the error. -/
def scan : List Int → Nat → Nat → Nat × Nat × Nat
  | [], i, _ => (0, 0, if 9 ≤ i then 11 else 10)
  | c :: r, i, acc => if i = 9 then (0, 0, 11) else if c < 128 then (acc * 128 + c.toNat % 128, i + 1, 0) else scan r (i + 1) (acc * 128 + c.toNat % 128)
/-- What is read of bytes. -/
def dec (zs : List Int) : Nat × Nat × Nat := if zs.head? = some 128 then (0, 0, 5) else scan zs 0 0

/-- The same bytes, told from behind. -/
def lo (m : Nat) : Nat → List Int
  | 0 => []
  | i + 1 => lo (m / 128) i ++ [((m % 128 + 128 : Nat) : Int)]
theorem lo_cons (m : Nat) : ∀ i, lo m (i + 1) = ((m / 128 ^ i % 128 + 128 : Nat) : Int) :: lo m i
  | 0 => by simp [lo]
  | i + 1 => by
    rw [lo, lo_cons (m / 128) i, lo, div_step]; rfl
theorem hi_lo (n : Nat) : ∀ k, hi n k = lo (n / 128) k
  | 0 => rfl
  | k + 1 => by rw [hi, hi_lo n k, lo_cons, div_step]
theorem lo_snoc (acc d i : Nat) (h : d < 128) : lo (acc * 128 + d) (i + 1) = lo acc i ++ [((d + 128 : Nat) : Int)] := by
  rw [lo, show (acc * 128 + d) / 128 = acc by omega, show (acc * 128 + d) % 128 = d by omega]

/-- What holds of what was read so far. -/
structure Got (i acc : Nat) (T : List Int) : Prop where
  same : lo acc i = T
  small : acc < 128 ^ i
  great : i = 0 ∨ 128 ^ (i - 1) ≤ acc
theorem Got.zero : Got 0 0 [] := ⟨rfl, by simp, .inl rfl⟩
theorem Got.step {i acc : Nat} {T : List Int} (h : Got i acc T) (c : Int) (h1 : 128 ≤ c) (h2 : c ≤ 255) (h0 : i = 0 → c ≠ 128) : Got (i + 1) (acc * 128 + c.toNat % 128) (T ++ [c]) := by
  refine ⟨?_, ?_, .inr ?_⟩
  · rw [lo_snoc _ _ _ (Nat.mod_lt _ (by omega)), h.same, show ((c.toNat % 128 + 128 : Nat) : Int) = c by omega]
  · have := h.small
    rw [Nat.pow_succ]; omega
  · rw [Nat.add_sub_cancel]
    rcases h.great with h3 | h3
    · subst h3; have := h0 rfl; simp; omega
    · rcases Nat.eq_zero_or_pos i with h4 | h4
      · subst h4; have := h0 rfl; simp; omega
      · obtain ⟨q, rfl⟩ : ∃ q, i = q + 1 := ⟨i - 1, by omega⟩
        rw [Nat.add_sub_cancel] at h3
        rw [Nat.pow_succ]; omega
theorem pow_le_9 (i : Nat) (h : i ≤ 9) : 128 ^ i ≤ 9223372036854775808 := by
  have : (128 : Nat) ^ i ≤ 128 ^ 9 := Nat.pow_le_pow_right (by omega) h
  simpa using this
theorem Got.stop {i acc : Nat} {T : List Int} (h : Got i acc T) (hi : i < 9) (c : Int) (h0 : 0 ≤ c) (h1 : c < 128) :
    acc * 128 + c.toNat % 128 < 9223372036854775808 ∧ enc (acc * 128 + c.toNat % 128) = T ++ [c] := by
  have hs := h.small
  have hl : acc * 128 + c.toNat % 128 < 128 ^ (i + 1) := by rw [Nat.pow_succ]; omega
  have h9 := pow_le_9 (i + 1) (by omega)
  have hn : acc * 128 + c.toNat % 128 < 9223372036854775808 := by omega
  refine ⟨hn, ?_⟩
  have hc : cnt 9 (acc * 128 + c.toNat % 128) = i := by
    have a := cnt_of_le (acc * 128 + c.toNat % 128) i (by
      have := (Nat.div_lt_iff_lt_mul (Nat.pow_pos (a := 128) (n := i) (by omega))).2 (show acc * 128 + c.toNat % 128 < 128 * 128 ^ i by rw [Nat.pow_succ] at hl; omega)
      omega)
    rcases h.great with h3 | h3
    · omega
    · rcases Nat.eq_zero_or_pos i with h4 | h4
      · omega
      · obtain ⟨q, rfl⟩ : ∃ q, i = q + 1 := ⟨i - 1, by omega⟩
        rw [Nat.add_sub_cancel] at h3
        have b := cnt_of_gt (acc * 128 + c.toNat % 128) q hn (by
          have := (Nat.le_div_iff_mul_le (Nat.pow_pos (a := 128) (n := q) (by omega))).2 (show 128 * 128 ^ q ≤ acc * 128 + c.toNat % 128 by omega)
          omega)
        omega
  rw [enc, hc, hi_lo, show (acc * 128 + c.toNat % 128) / 128 = acc by omega, h.same, show (((acc * 128 + c.toNat % 128) % 128 : Nat) : Int) = c by omega]

theorem scan_got (zs : List Int) : ∀ (r : List Int) (i acc : Nat) (T : List Int), T ++ r = zs → T.length = i → i ≤ 9 → Bytes r → (i = 0 → r.head? ≠ some 128) → Got i acc T →
    ((scan r i acc).2.2 = 0 ∧ (scan r i acc).1 < 9223372036854775808 ∧ 1 ≤ (scan r i acc).2.1 ∧ (scan r i acc).2.1 ≤ 9 ∧ (scan r i acc).2.1 ≤ zs.length ∧ enc (scan r i acc).1 = zs.take (scan r i acc).2.1) ∨
    ((scan r i acc).2.2 ≠ 0 ∧ (scan r i acc).1 = 0 ∧ (scan r i acc).2.1 = 0)
  | [], i, acc, T, _, _, _, _, _, _ => by
    right
    unfold scan
    split <;> simp
  | c :: r, i, acc, T, hz, hT, hi, hb, h0, hg => by
    have hc := hb c (by simp)
    unfold scan
    split
    · right; simp
    · split
      · left
        have hst := hg.stop (by omega) c hc.1 (by omega)
        refine ⟨rfl, hst.1, by simp, by simp; omega, ?_, ?_⟩
        · rw [← hz]; simp; omega
        · show enc (acc * 128 + c.toNat % 128) = zs.take (i + 1)
          rw [hst.2, ← hz, ← hT]
          rw [List.take_append, List.take_of_length_le (by omega)]
          simp
      · refine scan_got zs r (i + 1) _ (T ++ [c]) (by simpa using hz) (by simp; omega) (by omega) (fun z hz => hb z (by simp [hz])) (by omega) (hg.step c (by omega) hc.2 ?_)
        intro hi0 hc0
        exact h0 hi0 (by simp [hc0])

/-- What is read of bytes: a number with its bytes, or an error. -/
theorem dec_got (zs : List Int) (hb : Bytes zs) :
    ((dec zs).2.2 = 0 ∧ (dec zs).1 < 9223372036854775808 ∧ 1 ≤ (dec zs).2.1 ∧ (dec zs).2.1 ≤ 9 ∧ (dec zs).2.1 ≤ zs.length ∧ enc (dec zs).1 = zs.take (dec zs).2.1) ∨
    ((dec zs).2.2 ≠ 0 ∧ (dec zs).1 = 0 ∧ (dec zs).2.1 = 0) := by
  unfold dec
  split
  · right; simp
  · rename_i h
    exact scan_got zs zs 0 0 [] rfl rfl (by omega) hb (fun _ => h) Got.zero

/-- Below the ninth byte what was read is small. -/
theorem scan_err (r : List Int) (i acc : Nat) : (scan r i acc).2.2 ≤ 11 := by
  induction r generalizing i acc with
  | nil => unfold scan; split <;> simp
  | cons c r ih =>
    unfold scan
    split
    · simp
    · split
      · simp
      · exact ih _ _

#print axioms dec_got
end Go.Proofs.YtbgommpdmnbplaaGreatDoor.Num

/- What wire.Sum and the document's answer do, for every slice of bytes: both tell the sum of the bytes; nothing turns. -/
namespace Go.Proofs.YtbgommpdmnbplaaGreatDoor
open Go.RowKit Num

/-- The table of wire, where the program lays it. -/
def Tab (w : World) : Prop := ∀ j, j < 16 → w.cell? ⟨1, j, none⟩ = some (.int .u32 ((Crc.t j : Nat) : Int))
theorem Tab.below {B : Nat} {w w' : World} (h : Tab w) (hb : Below B w w') (hB : 1 < B) : Tab w' := fun j hj => (hb.cell (p := ⟨1, j, none⟩) hB).trans (h j hj)

theorem u32_15 (a : Nat) (ha : a < 4294967296) : bits BinOp.and IntKind.u32 (a : Int) 15 = ((a % 16 : Nat) : Int) := by
  have h15 := u32_and_nat a 15 ha (by omega)
  rw [show ((15 : Nat) : Int) = 15 from rfl] at h15
  rw [h15]
  have : a &&& 15 = a % 16 := by
    have := Nat.and_two_pow_sub_one_eq_mod a 4
    simpa using this
  rw [this]

theorem u32_not (a : Nat) (ha : a < 4294967296) : bits BinOp.xor IntKind.u32 IntKind.u32.max (a : Int) = ((4294967295 - a : Nat) : Int) := by
  show IntKind.u32.wrap ((BitVec.ofInt 32 IntKind.u32.max ^^^ BitVec.ofInt 32 (a : Int)).toNat : Int) = _
  have h1 : BitVec.ofInt 32 IntKind.u32.max = BitVec.allOnes 32 := by decide
  rw [h1, BitVec.allOnes_xor, BitVec.toNat_not, ofInt_u32 a ha]
  simp [IntKind.wrap, IntKind.bits, IntKind.signed]
  omega
theorem ret_u32 {a b : Int} (h : a = b) : Ending.returned (.int .u32 a) = .returned (.int .u32 b) := by rw [h]
theorem u32_1 (a : Nat) (ha : a < 4294967296) : bits BinOp.and IntKind.u32 (a : Int) 1 = ((a % 2 : Nat) : Int) := by
  have h1 := u32_and_nat a 1 ha (by omega)
  rw [show ((1 : Nat) : Int) = 1 from rfl] at h1
  rw [h1]
  have : a &&& 1 = a % 2 := Nat.and_two_pow_sub_one_eq_mod a 1
  rw [this]

set_option maxHeartbeats 800000 in
theorem sum_any (a0 : Option Addr) (len cap : Nat) (zs : List Int) (w : World) (hs : Src w a0 len zs) (hz : Bytes zs) (hT : Tab w) (hm : len ≤ 9223372036854775807) :
    Calls Tryz.prog 244 #[.slice a0 len cap] w fun e w' => e = .returned (.int .u32 ((Crc.crc zs : Nat) : Int)) ∧ w' = w := by
  have HS := hid hs
  have HZ := hid hz
  have HT := hid hT
  clear hs hz hT
  go_enter Tryz.func244, Tryz.ntmps244
  go_wp2
  go_loop [3, 8] (fun s k => ∃ (i S : Nat), i ≤ len ∧ k = .int .i64 i ∧ s = .int .u32 S ∧ S < 4294967296 ∧ Hid (S = Crc.run 4294967295 (zs.take i))) (fun _ k => len - (intOf k).toNat)
  case atStart => exact ⟨0, 4294967295, by omega, rfl, rfl, by omega, rfl⟩
  case round =>
    obtain ⟨i, S, hi, rfl, rfl, hS, HR⟩ := hrel
    by_cases hlt : i < len
    · obtain ⟨b, o, rfl, hbl, hcell⟩ := HS.out.2 (by omega)
      have hci := hcell i hlt
      have hbi := HZ.out.at i
      obtain ⟨c, gc⟩ : ∃ c, c = zs.getD i 0 := ⟨_, rfl⟩
      rw [← gc] at hci hbi
      obtain ⟨C, rfl⟩ := Int.eq_ofNat_of_zero_le hbi.1
      have hC : C < 256 := by omega
      have hl := HS.out.1
      have htk : zs.take (i + 1) = zs.take i ++ [(C : Int)] := by
        rw [List.take_succ_eq_append_getElem (by omega), gc, List.getD_eq_getElem?_getD, List.getElem?_eq_getElem (by omega)]; rfl
      have HK := hid htk
      clear hcell gc hbi hl htk
      obtain ⟨S1, g1⟩ : ∃ S1, S1 = S ^^^ C := ⟨_, rfl⟩
      have l1 : S1 < 4294967296 := by rw [g1]; exact Crc.xor_lt _ _ hS (by omega)
      have e1 : bits BinOp.xor IntKind.u32 (S : Int) (C : Int) = (S1 : Int) := by rw [g1]; exact u32_xor_nat S C hS (by omega)
      obtain ⟨j1, gj1⟩ : ∃ j1, j1 = S1 % 16 := ⟨_, rfl⟩
      have f1 : bits BinOp.and IntKind.u32 (S1 : Int) 15 = (j1 : Int) := by rw [gj1]; exact u32_15 S1 l1
      have lj1 : j1 < 16 := by omega
      have t1 := HT.out j1 lj1
      obtain ⟨T1, gt1⟩ : ∃ T1, T1 = Crc.t j1 := ⟨_, rfl⟩
      rw [← gt1] at t1
      have lt1 : T1 < 4294967296 := by rw [gt1]; exact Crc.t_lt ⟨j1, lj1⟩
      obtain ⟨S2, g2⟩ : ∃ S2, S2 = S1 / 16 ^^^ T1 := ⟨_, rfl⟩
      have l2 : S2 < 4294967296 := by rw [g2]; exact Crc.xor_lt _ _ (by omega) lt1
      have e2 : bits BinOp.xor IntKind.u32 ((S1 : Int) / 16) (T1 : Int) = (S2 : Int) := by
        rw [g2, show (S1 : Int) / 16 = ((S1 / 16 : Nat) : Int) by omega]; exact u32_xor_nat _ _ (by omega) lt1
      obtain ⟨j2, gj2⟩ : ∃ j2, j2 = S2 % 16 := ⟨_, rfl⟩
      have f2 : bits BinOp.and IntKind.u32 (S2 : Int) 15 = (j2 : Int) := by rw [gj2]; exact u32_15 S2 l2
      have lj2 : j2 < 16 := by omega
      have t2 := HT.out j2 lj2
      obtain ⟨T2, gt2⟩ : ∃ T2, T2 = Crc.t j2 := ⟨_, rfl⟩
      rw [← gt2] at t2
      have lt2 : T2 < 4294967296 := by rw [gt2]; exact Crc.t_lt ⟨j2, lj2⟩
      obtain ⟨S3, g3⟩ : ∃ S3, S3 = S2 / 16 ^^^ T2 := ⟨_, rfl⟩
      have l3 : S3 < 4294967296 := by rw [g3]; exact Crc.xor_lt _ _ (by omega) lt2
      have e3 : bits BinOp.xor IntKind.u32 ((S2 : Int) / 16) (T2 : Int) = (S3 : Int) := by
        rw [g3, show (S2 : Int) / 16 = ((S2 / 16 : Nat) : Int) by omega]; exact u32_xor_nat _ _ (by omega) lt2
      have hrun : S3 = Crc.run 4294967295 (zs.take (i + 1)) := by
        rw [HK.out, Crc.run_append, ← HR.out, g3, gt2, gj2, g2, gt1, gj1, g1]; rfl
      have HN := hid hrun
      clear g1 gj1 gt1 g2 gj2 gt2 g3 hrun
      go_wp2
      go_round
      case rel => exact ⟨i + 1, S3, by omega, by go_num, rfl, l3, HN⟩
      case measure => simp [intOf]; omega
    · have hrun : S = Crc.run 4294967295 zs := by
        rw [HR.out, List.take_of_length_le (by have := HS.out.1; omega)]
      have HN := hid hrun
      clear hrun
      go_wp2
      go_ret
      exact ⟨ret_u32 (by rw [u32_not S hS, Crc.crc, ← HN.out]), rfl⟩

theorem bits8_lt (s x : Nat) (hs : s < 4294967296) : ∀ i, Crc.bits8 s x i < 4294967296
  | 0 => hs
  | i + 1 => by
    have := bits8_lt s x hs i
    rw [Crc.bits8, Crc.bit]
    split
    · omega
    · exact Crc.xor_lt _ _ (by omega) (by omega)

end Go.Proofs.YtbgommpdmnbplaaGreatDoor

/- Plain facts about numbers as bytes, the lowest first (no program in sight): the bytes of a number, the number of bytes, and that one is the other's way back. -/
namespace Go.Proofs.YtbgommpdmnbplaaGreatDoor.Lend

/-- All of them are bytes. -/
def Bytes (zs : List Int) : Prop := ∀ z ∈ zs, 0 ≤ z ∧ z ≤ 255
theorem Bytes.at {zs : List Int} (h : Bytes zs) (i : Nat) : 0 ≤ zs.getD i 0 ∧ zs.getD i 0 ≤ 255 := by
  rcases Nat.lt_or_ge i zs.length with hi | hi
  · rw [List.getD_eq_getElem?_getD, List.getElem?_eq_getElem hi]; exact h _ (List.getElem_mem hi)
  · rw [List.getD_eq_getElem?_getD, List.getElem?_eq_none hi]; simp
theorem Bytes.drop {zs : List Int} (h : Bytes zs) (i : Nat) : Bytes (zs.drop i) := fun z hz => h z (List.mem_of_mem_drop hz)
theorem Bytes.take {zs : List Int} (h : Bytes zs) (i : Nat) : Bytes (zs.take i) := fun z hz => h z (List.mem_of_mem_take hz)
theorem Bytes.nil : Bytes [] := fun z hz => by cases hz
theorem Bytes.append {zs ys : List Int} (h : Bytes zs) (k : Bytes ys) : Bytes (zs ++ ys) := fun z hz => (List.mem_append.1 hz).elim (h z) (k z)

/-- The lowest k bytes of a number, the lowest first. -/
def le (u : Nat) : Nat → List Int
  | 0 => []
  | k + 1 => le u k ++ [((u / 256 ^ k % 256 : Nat) : Int)]
theorem length_le (u : Nat) : ∀ k, (le u k).length = k
  | 0 => rfl
  | k + 1 => by simp [le, length_le u k]
theorem le_bytes (u : Nat) : ∀ k, Bytes (le u k)
  | 0 => Bytes.nil
  | k + 1 => (le_bytes u k).append (by intro z hz; rcases List.mem_singleton.1 hz with rfl; omega)

/-- The number that bytes are, the lowest first. -/
def num : List Int → Nat
  | [] => 0
  | z :: r => z.toNat + 256 * num r
theorem num_append (xs : List Int) : ∀ ys : List Int, num (xs ++ ys) = num xs + 256 ^ xs.length * num ys := by
  induction xs with
  | nil => simp [num]
  | cons a r ih =>
    intro ys
    rw [List.cons_append, num, ih, num, List.length_cons, Nat.pow_succ, Nat.mul_add]
    have : 256 * (256 ^ r.length * num ys) = 256 ^ r.length * 256 * num ys := by rw [Nat.mul_comm (256 ^ r.length) 256, Nat.mul_assoc]
    omega
theorem num_snoc (xs : List Int) (z : Int) : num (xs ++ [z]) = num xs + 256 ^ xs.length * z.toNat := by
  rw [num_append]; simp [num]
theorem num_lt : ∀ {zs : List Int}, Bytes zs → num zs < 256 ^ zs.length
  | [], _ => by simp [num]
  | z :: r, h => by
    have h1 := h z (by simp)
    have h2 := num_lt (zs := r) (fun y hy => h y (by simp [hy]))
    rw [num, List.length_cons, Nat.pow_succ]
    omega
theorem num_le (u : Nat) : ∀ k, num (le u k) = u % 256 ^ k
  | 0 => by simp [le, num, Nat.mod_one]
  | k + 1 => by
    rw [le, num_snoc, num_le u k, length_le, Nat.pow_succ, Nat.mod_mul, Int.toNat_natCast]
theorem take_step (zs : List Int) (i : Nat) (h : i < zs.length) : zs.take (i + 1) = zs.take i ++ [zs.getD i 0] := by
  rw [List.take_add_one, List.getD_eq_getElem?_getD, List.getElem?_eq_getElem h]; rfl
theorem drop_step (zs : List Int) (i : Nat) (h : i < zs.length) : zs.drop i = zs.getD i 0 :: zs.drop (i + 1) := by
  rw [List.getD_eq_getElem?_getD, List.getElem?_eq_getElem h, List.drop_eq_getElem_cons h]; rfl
theorem pow_256 (i : Nat) : (256 : Nat) ^ i = 2 ^ (8 * i) := by rw [Nat.pow_mul]

/-- 'n | c << (8 i)' where n has i bytes: the sum. -/
theorem or_step (a i : Nat) (c : Int) (ha : a < 256 ^ i) (hc0 : 0 ≤ c) (hc : c ≤ 255) (hi : i < 8) :
    bits BinOp.or IntKind.u64 (a : Int) (c * 2 ^ (8 * i)) = ((a + 256 ^ i * c.toNat : Nat) : Int) := by
  obtain ⟨d, rfl⟩ := Int.eq_ofNat_of_zero_le hc0
  have hd : d ≤ 255 := by omega
  have h0 : ((d : Int) * 2 ^ (8 * i)) = ((2 ^ (8 * i) * d : Nat) : Int) := by rw [Int.natCast_mul, Int.natCast_pow, Int.mul_comm]; rfl
  rw [h0, pow_256] at *
  have hle : 2 ^ (8 * i) * 256 ≤ 2 ^ 64 := by
    rw [show (256 : Nat) = 2 ^ 8 by rfl, ← Nat.pow_add]; exact Nat.pow_le_pow_right (by omega) (by omega)
  have hm : 2 ^ (8 * i) * d ≤ 2 ^ (8 * i) * 255 := Nat.mul_le_mul_left _ hd
  have hp : 0 < 2 ^ (8 * i) := Nat.pow_pos (by omega)
  have h := bits_join_low .u64 64 (by decide) wraps_u64 (8 * i) (a : Int) ((2 ^ (8 * i) * d : Nat) : Int) (by omega) (by exact_mod_cast ha) (by omega) (by omega)
    (by
      rw [show ((2 : Int) ^ (8 * i)) = ((2 ^ (8 * i) : Nat) : Int) by simp, ← Int.natCast_emod, Nat.mul_mod_right]; rfl) (by omega)
  rw [h]
  simp

/-- The number as an unsigned one of 64 bits. -/
def un (n : Int) : Nat := (n % 18446744073709551616).toNat
theorem un_lt (n : Int) : un n < 18446744073709551616 := by unfold un; omega
theorem un_cast (n : Int) : (un n : Int) = n % 18446744073709551616 := by unfold un; omega
/-- An unsigned number as one with a sign. -/
theorem back (n : Int) (h0 : -9223372036854775808 ≤ n) (h1 : n ≤ 9223372036854775807) : IntKind.i64.wrap (un n : Int) = n := by
  rw [un_cast, IntKind.wrap_i64]; omega

end Go.Proofs.YtbgommpdmnbplaaGreatDoor.Lend

/- Which blocks a call turns: words for it, for whatever program; and 'copy' of elements of two cells. -/
namespace Go.Proofs.YtbgommpdmnbplaaGreatDoor
open Go.RowKit
set_option maxRecDepth 20000
set_option linter.unusedVariables false

/-- Nothing but the blocks of F turns; there may be new ones. -/
structure Upd (F : Nat → Prop) (w w' : World) : Prop where
  os : w'.os = w.os
  tape : w'.tape = w.tape
  output : w'.output = w.output
  size : w.heap.size ≤ w'.heap.size
  block : ∀ k, k < w.heap.size → ¬ F k → w'.heap[k]? = w.heap[k]?

theorem Upd.refl (F : Nat → Prop) (w : World) : Upd F w w := ⟨rfl, rfl, rfl, Nat.le_refl _, fun _ _ _ => rfl⟩

theorem Upd.trans {F G : Nat → Prop} {a b c : World} (h : Upd F a b) (k : Upd G b c) (hG : ∀ x, x < a.heap.size → G x → F x) : Upd F a c :=
  ⟨k.os.trans h.os, k.tape.trans h.tape, k.output.trans h.output, Nat.le_trans h.size k.size, fun x hx hF =>
    (k.block x (Nat.lt_of_lt_of_le hx h.size) (fun g => hF (hG x hx g))).trans (h.block x hx hF)⟩

theorem Upd.mono {F G : Nat → Prop} {a b : World} (h : Upd F a b) (hF : ∀ x, x < a.heap.size → F x → G x) : Upd G a b :=
  ⟨h.os, h.tape, h.output, h.size, fun x hx hG => h.block x hx (fun f => hG (hF x hx f))⟩

theorem Upd.of_below {F : Nat → Prop} {w w' : World} (h : Below w.heap.size w w') : Upd F w w' := ⟨h.os, h.tape, h.output, h.size, fun k hk _ => h.block k hk⟩

theorem Upd.below {F : Nat → Prop} {B : Nat} {w w' : World} (h : Upd F w w') (hB : B ≤ w.heap.size) (hF : ∀ x, F x → B ≤ x) : Below B w w' :=
  ⟨h.os, h.tape, h.output, h.size, fun k hk => h.block k (Nat.lt_of_lt_of_le hk hB) (fun f => by have := hF k f; omega)⟩

theorem Upd.of_grown {w w' : World} {row : Option Nat} (h : w.grownBy w' row) : Upd (fun k => some k = row) w w' := ⟨h.os, h.tape, h.output, h.size, fun k hk hn => h.block k hk hn⟩

theorem Upd.alloc (F : Nat → Prop) (w : World) (o : Obj) : Upd F w (w.alloc o) := Upd.of_below ((Below.refl _ _).alloc (Nat.le_refl _) o)

theorem Upd.setCell {F : Nat → Prop} (w : World) (p : Addr) (u : Value) (hp : F p.block) : Upd F w (w.setCell p u) :=
  ⟨rfl, rfl, rfl, by simp, fun k _ hk => heap_setCell_other w p k u (fun e => hk (e ▸ hp))⟩

theorem Upd.setRow {F : Nat → Prop} (w : World) (g : Nat) (cs : Array Value) (hp : F g) : Upd F w (w.setRow g cs) :=
  ⟨rfl, rfl, rfl, by simp, fun k _ hk => setRow_other w g k cs (fun e => hk (e ▸ hp))⟩

theorem Upd.drewN {F : Nat → Prop} {w a : World} (h : Upd F w a) (n : Nat) : Upd F w (a.drewN n) := ⟨h.os, h.tape, h.output, h.size, h.block⟩

theorem Upd.own {F : Nat → Prop} {w w' : World} {B e size n : Nat} {v : Value} {xs : List Value} (u : Upd F w w') (h : w.ownsRow B e size v n xs) (hF : ∀ k, v.ownBlock = some k → ¬ F k) : w'.ownsRow B e size v n xs := by
  refine ⟨h.1, ?_⟩
  rcases h.2 with hn | ⟨g, cap, cur, rfl, hb, hgg, rest⟩
  · exact .inl hn
  · refine .inr ⟨g, cap, cur, rfl, hb, ?_, rest⟩
    rw [u.block g (Array.getElem?_eq_some_iff.1 hgg).1 (hF g rfl)]
    exact hgg

theorem Upd.src {F : Nat → Prop} {w w' : World} {a : Option Addr} {n : Nat} {zs : List Int} (u : Upd F w w') (h : Src w a n zs) (hF : ∀ b o, a = some ⟨b, o, none⟩ → ¬ F b) : Src w' a n zs :=
  ⟨h.1, fun hl => by
    obtain ⟨b, o, e, hlt, hc⟩ := h.2 hl
    exact ⟨b, o, e, Nat.lt_of_lt_of_le hlt u.size, fun j hj => (World.cell?_of_block (a := ⟨b, o + j, none⟩) (u.block b hlt (hF b o e))).trans (hc j hj)⟩⟩

theorem Upd.heap {F : Nat → Prop} {w w' : World} (u : Upd F w w') {k : Nat} {o : Obj} (h : w.heap[k]? = some o) (hF : ¬ F k) : w'.heap[k]? = some o := by
  rw [u.block k (Array.getElem?_eq_some_iff.1 h).1 hF]; exact h

/-- 'copy' of elements of so many cells: all of the source are read first. -/
theorem run_copy_row2 {P : Program} (w : World) (dT sT ty elem : TypeId) (size g o dLen dCap : Nat) (a : Addr) (sLen sCap m : Nat) (cur : Array Value) (t : TypeId) (cs : List Value)
    (hu : P.underlying dT = some (.slice elem)) (hs : (P.info? elem).map (·.size) = some size)
    (hg : w.heap[g]? = some (.cells cur t (0, 0))) (hm : m = Nat.min sLen dLen) (hn : cs.length = m * size)
    (hsrc : ∀ j v, cs[j]? = some v → w.cell? (a.add j) = some v) (hfit : o + cs.length ≤ cur.size) (h1 : ∀ v ∈ cs, v.oneCell' = true) :
    (Builtin.copy_ #[dT, sT] ty #[.slice (some ⟨g, o, none⟩) dLen dCap, .slice (some a) sLen sCap]).run P w =
      .ok (goInt m) (w.setRow g (cur.toList.take o ++ cs ++ cur.toList.drop (o + cs.length)).toArray) := by
  have hl := run_loadCells_list (P := P) w a cs hsrc
  have hst := run_storeCells_at P g o t cs 0 cur w hg (by simpa using hfit) h1
  cases hq : P.info? elem with
  | none => simp [hq] at hs
  | some i =>
    have hi : i.size = size := by simpa [hq] using hs
    rw [hn] at hl
    simp [Builtin.copy_, run_underlying hu, Builtin.lenOf, Builtin.firstCells, sizeOf, typeInfo, hq, hi, ← hm, hl, hst]

theorem run_copy_none2 {P : Program} (w : World) (dT sT ty elem : TypeId) (size : Nat) (dp sp : Option Addr) (dLen dCap sLen sCap : Nat)
    (hu : P.underlying dT = some (.slice elem)) (hs : (P.info? elem).map (·.size) = some size) (hn : Nat.min sLen dLen = 0) (hsp : sp.isSome = true) (hdp : dp.isSome = true) :
    (Builtin.copy_ #[dT, sT] ty #[.slice dp dLen dCap, .slice sp sLen sCap]).run P w = .ok (goInt 0) w := by
  obtain ⟨a, rfl⟩ := Option.isSome_iff_exists.1 hsp
  obtain ⟨b, rfl⟩ := Option.isSome_iff_exists.1 hdp
  cases hq : P.info? elem with
  | none => simp [hq] at hs
  | some i =>
    have hi : i.size = size := by simpa [hq] using hs
    simp [Builtin.copy_, run_underlying hu, Builtin.lenOf, Builtin.firstCells, sizeOf, typeInfo, hq, hn, loadCells, loadCellsFrom, storeCells]

/-- 'copy' as a step of the walk: so many elements of so many cells go over, from 'off' cells on. -/
theorem wpList_copy2 {P : Program} {w : World} {ops : Array Oper} {rest : List Oper} {o : Oper} {a : Act} {Q : Exit → Act → World → Prop} (hgd : o.guard = none) (d s : Operand) (dT sT : TypeId)
    (ho : o.op = .call { callee := .builtin .copy, args := #[d, s], argTypes := #[dT, sT] }) (elem : TypeId) (size : Nat) (hu : P.underlying dT = some (.slice elem)) (hsz : (P.info? elem).map (·.size) = some size)
    (dp : Option Addr) (dLen dCap : Nat) (ad : Addr) (sLen sCap : Nat) (hd : a.eval d = .slice dp dLen dCap) (hs : a.eval s = .slice (some ad) sLen sCap)
    (m g off : Nat) (hm : m = Nat.min sLen dLen) (hdp : dp = some ⟨g, off, none⟩) (cur : List Value) (t : TypeId) (hg : w.heap[g]? = some (.cells cur.toArray t (0, 0))) (cs : List Value) (hn : cs.length = m * size)
    (hsrc : ∀ j v, cs[j]? = some v → w.cell? (ad.add j) = some v)
    (hfit : off + cs.length ≤ cur.length) (h1 : ∀ v ∈ cs, v.oneCell' = true)
    (h : ∀ w', Hid (w'.heap[g]? = some (.cells (splice cur off cs).toArray t (0, 0))) → Upd (· = g) w w' → wpList P ops Q rest (a.put o.dst (goInt m)) w') :
    wpList P ops Q (o :: rest) a w := by
  subst hdp
  refine wpList_plain hgd fun K hK => ?_
  have hrun := run_copy_row2 (P := P) w dT sT o.type elem size g off dLen dCap ad sLen sCap m cur.toArray t cs hu hsz hg hm hn hsrc (by simpa using hfit) h1
  unfold Oper.wp
  simp [execOp, ho, resolve, invoke, builtin, hd, hs, hrun, Result.andThen]
  refine hK _ _ (h _ (show _ = _ by simpa [splice] using setRow_heap w g _ _ t _ hg) ?_)
  exact Upd.setRow w g _ rfl

/-- 'append' to a row that is owned: it stays where it was, or is new. -/
theorem run_append_where {P : Program} (w : World) (t ty e : TypeId) (i : TypeInfo) (z : Value) (size bytes : Nat) (ht : P.underlying t = some (.slice e)) (hi : P.info? e = some i) (hz : i.zero = some z)
    (hsize : i.size = size) (hby : i.bytes = bytes) (hzs : z.cells.size = size) (hsz : 0 < size)
    (v : Value) (n : Nat) (xs : List Value) (hown : w.ownsRow 0 e size v n xs)
    (a : Addr) (m c : Nat) (news : List Value) (hl : news.length = m * size) (hnews : ∀ j u, news[j]? = some u → w.cell? (a.add j) = some u) (h1 : ∀ u ∈ news, u.oneCell' = true)
    (h63 : n + m ≤ maxLen) (hbytes : (n + m) * bytes ≤ 140737488355328) :
    ∃ v' w', (Builtin.append_ #[t, t] ty #[v, .slice (some a) m c]).run P w = .ok v' w' ∧ w'.ownsRow 0 e size v' (n + m) (xs ++ news) ∧ w.grownBy w' v.ownBlock ∧
      (v' = .slice none 0 0 ↔ v = .slice none 0 0 ∧ m = 0) ∧ (v'.ownBlock = v.ownBlock ∨ ∀ x, v'.ownBlock = some x → w.heap.size ≤ x) := by
  obtain ⟨v', w', hr, h2, h3, h4⟩ := run_append_own (P := P) w 0 t ty e i z size bytes ht hi hz hsize hby hzs hsz v n xs hown a m c news hl hnews h1 h63 hbytes (Nat.zero_le _)
  refine ⟨v', w', hr, h2, h3, h4, ?_⟩
  rcases hown.2 with ⟨rfl, rfl⟩ | ⟨g, cap, cur, rfl, hbg, hg, hnc, hcm, hcs, htake⟩
  · have hx : xs = [] := List.eq_nil_of_length_eq_zero (by simpa using hown.1)
    subst hx
    obtain ⟨v2, w2, hr2, k2, _⟩ := run_append_own (P := P) w w.heap.size t ty e i z size bytes ht hi hz hsize hby hzs hsz _ 0 [] (World.ownsRow_nil w w.heap.size e size) a m c news hl hnews h1 h63 hbytes (Nat.le_refl _)
    rw [hr] at hr2
    injection hr2 with e1 e2
    subst e1
    exact .inr fun x hx => (k2.lt x hx).1
  · by_cases hroom : n + m ≤ cap
    · obtain ⟨w2, hr2, _⟩ := run_append_fits (P := P) w 0 t ty e i size ht hi hsize g n cap xs hown a m c news hl hnews h1 hroom
      rw [hr] at hr2
      injection hr2 with e1 e2
      subst e1
      exact .inl rfl
    · subst hsize
      have hr2 := run_append_grow (P := P) w t ty e i z ht hi hz ⟨g, 0, none⟩ n cap xs hown.1 (hown.cells (g := g) rfl) a m c news hl hnews (by omega) (by simp only [maxLen] at h63; omega) (by rw [hby]; exact growslice_fits (by omega) hbytes)
      rw [hr] at hr2
      injection hr2 with e1 e2
      subst e1
      refine .inr fun x hx => ?_
      simp [Value.ownBlock] at hx
      omega

theorem wpList_append_where {P : Program} {w : World} {ops : Array Oper} {rest : List Oper} {o : Oper} {a : Act} {Q : Exit → Act → World → Prop} (hgd : o.guard = none) (s x : Operand) (t : TypeId)
    (ho : o.op = .call { callee := .builtin .append, args := #[s, x], argTypes := #[t, t] })
    (e : TypeId) (i : TypeInfo) (z : Value) (size bytes : Nat) (ht : P.underlying t = some (.slice e)) (hi : P.info? e = some i) (hz : i.zero = some z)
    (hsize : i.size = size) (hby : i.bytes = bytes) (hzs : z.cells.size = size) (hsz : 0 < size)
    (v : Value) (n : Nat) (xs : List Value) (hs : a.eval s = v) (hown : w.ownsRow 0 e size v n xs)
    (ad : Addr) (m c : Nat) (news : List Value) (hx : a.eval x = .slice (some ad) m c) (hl : news.length = m * size) (hnews : ∀ j u, news[j]? = some u → w.cell? (ad.add j) = some u) (h1 : ∀ u ∈ news, u.oneCell' = true)
    (h63 : n + m ≤ maxLen) (hbytes : (n + m) * bytes ≤ 140737488355328)
    (h : ∀ v' w', Hid (w'.ownsRow 0 e size v' (n + m) (xs ++ news)) → Upd (fun x => v.ownBlock = some x) w w' → Hid (v' = .slice none 0 0 ↔ v = .slice none 0 0 ∧ m = 0) → Hid (v'.ownBlock = v.ownBlock ∨ ∀ x, v'.ownBlock = some x → w.heap.size ≤ x) → wpList P ops Q rest (a.put o.dst v') w') :
    wpList P ops Q (o :: rest) a w := by
  refine wpList_plain hgd fun K hK => ?_
  obtain ⟨v', w', hr, h2, h3, h4, h5⟩ := run_append_where (P := P) w t o.type e i z size bytes ht hi hz hsize hby hzs hsz v n xs hown ad m c news hl hnews h1 h63 hbytes
  unfold Oper.wp execOp
  simp only [ho, resolve, invoke, builtin, Sem.run_bind, Sem.run_pure, Result.andThen_ok, List.map_toArray, List.map_cons, List.map_nil, hs, hx, hr]
  exact hK _ _ (h v' w' h2 ((Upd.of_grown h3).mono fun x _ hx => hx.symm) h4 h5)

end Go.Proofs.YtbgommpdmnbplaaGreatDoor

/- What wire.withRoom does, for every slice of bytes and every room within reach: a new row with the same bytes; nothing old turns. -/
namespace Go.Proofs.YtbgommpdmnbplaaGreatDoor
open Go.RowKit
set_option maxRecDepth 20000

theorem Tryz.info5 : (Tryz.prog.info? 5).map (fun i => (i.zero, i.size, i.bytes)) = some (some (.int .u8 0), 1, 1) := by kernel_rfl

theorem own_splice {w : World} {B g n c : Nat} {zs : List Int} (hz : zs.length = n) (hB : B ≤ g) (hc : c ≤ maxLen) (hn : n ≤ c)
    (h : w.heap[g]? = some (.cells (splice (madeCells #[Value.int .u8 0] c).toList 0 (zs.map (Value.int .u8))).toArray 5 (0, 0))) :
    w.ownsRow B 5 1 (.slice (some ⟨g, 0, none⟩) n c) n (zs.map (Value.int .u8)) := by
  have hm : (madeCells #[Value.int .u8 0] c).size = c := by simp [size_madeCells]
  refine ⟨by simp [hz], .inr ⟨g, c, _, rfl, hB, h, hn, hc, ?_, ?_⟩⟩
  · rw [List.size_toArray, length_splice _ _ _ (by simp [hz, hm] at *; omega), Array.length_toList, hm, Nat.mul_one]
  · simp [splice, hz]

set_option maxHeartbeats 400000 in
theorem room_any (a0 : Option Addr) (len cap r : Nat) (zs : List Int) (w : World) (hs : Src w a0 len zs) (hr : len + r ≤ 281474976710656) :
    Calls Tryz.prog 140 #[.slice a0 len cap, .int .i64 r] w fun e w' => e = .returned (.slice (some ⟨w.heap.size, 0, none⟩) len (len + r)) ∧
      w'.ownsRow w.heap.size 5 1 (.slice (some ⟨w.heap.size, 0, none⟩) len (len + r)) len (zs.map (Value.int .u8)) ∧ Below w.heap.size w w' := by
  obtain ⟨i0, hi, hz0, hz1, hz2⟩ := info_parts Tryz.info5
  have hb0 : Below w.heap.size w (w.alloc (.cells (madeCells #[Value.int .u8 0] (len + r)) 5)) := (Below.refl _ _).alloc (Nat.le_refl _) _
  have hsz : (Tryz.prog.info? 5).map (·.size) = some 1 := by rw [hi]; simp [hz1]
  have hmx : len + r ≤ maxLen := by unfold maxLen; omega
  have hby : i0.bytes * (len + r) ≤ 281474976710656 := by rw [hz2]; omega
  obtain ⟨cs, hcs⟩ : ∃ cs, cs = zs.map (Value.int .u8) := ⟨_, rfl⟩
  have HC : Hid (cs = zs.map (Value.int .u8)) := hcs
  have hcl : cs.length = len := by rw [hcs]; simp [hs.1]
  have HL : Hid (cs.length = len) := hcl
  have hone : ∀ v ∈ cs, v.oneCell' = true := by rw [hcs]; exact ints_oneCell _ _
  have HP : Hid (0 < cs.length → (some (⟨w.heap.size, 0, none⟩ : Addr)) = some ⟨w.heap.size, 0, none⟩ ∧ ∃ ad, a0 = some ad ∧ ∀ j v, cs[j]? = some v → (w.alloc (.cells (madeCells #[Value.int .u8 0] (len + r)) 5)).cell? (ad.add j) = some v) := by
    intro h
    refine ⟨rfl, ?_⟩
    obtain ⟨b, o, e, hlt, hc⟩ := hs.2 (by omega)
    refine ⟨_, e, fun j v hj => ?_⟩
    have hjl : j < len := by
      have := (List.getElem?_eq_some_iff.1 hj).1
      omega
    rw [Addr.add_lit, hb0.cell (p := ⟨b, o + j, none⟩) hlt, hc j hjl, ← hj, hcs]
    simp [List.getD, List.getElem?_eq_getElem (show j < zs.length by have := hs.1; omega)]
  have HS := hid hs
  clear hs hcs hcl
  have hsm : (madeCells #[Value.int .u8 0] (len + r)).size = len + r := by simp [size_madeCells]
  obtain ⟨cur, hcur⟩ : ∃ cur, cur = (madeCells #[Value.int .u8 0] (len + r)).toList := ⟨_, rfl⟩
  have HG : Hid ((w.alloc (.cells (madeCells #[Value.int .u8 0] (len + r)) 5)).heap[w.heap.size]? = some (.cells cur.toArray 5 (0, 0))) := by
    rw [hcur]; exact heap_alloc_new w _
  have HF : Hid (0 + cs.length ≤ cur.length) := by
    show 0 + cs.length ≤ cur.length
    have h1 : cur.length = len + r := by rw [hcur, Array.length_toList, hsm]
    have h2 := HL.out
    omega
  have HM : Hid (cs.length = Nat.min len len) := by show _ = Nat.min len len; rw [HL.out]; exact (Nat.min_self len).symm
  have HU := hid hcur
  have HO := hid hone
  have HB := hid hb0
  have HZ := hid hsz
  clear hsm hcur hone hb0 hsz
  go_enter Tryz.func140, Tryz.ntmps140
  go_wp2_with (first | (at_make; refine wpList_make_lc _ rfl _ _ 81 rfl 5 i0 (.int .u8 0) 1 Tryz.underlying81 hi hz0 hz1 _ _ _ _ len (len + r) rfl rfl rfl (by omega) (by omega) hby hmx ?_) | (refine wpList_copy_splice rfl (.tmp 13) (.tmp 14) 81 81 rfl 5 Tryz.underlying81 HZ.out _ _ _ _ _ _ rfl rfl w.heap.size 0 cur 5 HG.out cs HM.out HP.out HF.out HO.out w.heap.size w HB.out (Nat.le_refl _) ?_))
  intro w2 HG2 hb2
  go_wp2_with fail
  go_ret
  refine ⟨rfl, ?_, hb2⟩
  refine own_splice (zs := zs) HS.out.1 (Nat.le_refl _) hmx (by omega) ?_
  rw [← HU.out, ← HC.out]
  exact HG2.out

end Go.Proofs.YtbgommpdmnbplaaGreatDoor

/- What wire.number does, for every slice of bytes: it answers what is read of them; nothing turns. -/
namespace Go.Proofs.YtbgommpdmnbplaaGreatDoor
open Go.RowKit Num
set_option maxRecDepth 20000

theorem u8_127 (c : Int) (h0 : 0 ≤ c) (h1 : c ≤ 255) : bits BinOp.and IntKind.u8 c 127 = ((c.toNat % 128 : Nat) : Int) := by
  have h : ∀ a : Fin 256, bits BinOp.and IntKind.u8 (a.val : Int) 127 = ((a.val % 128 : Nat) : Int) := by decide +kernel
  have := h ⟨c.toNat, by omega⟩
  simp only [Int.toNat_of_nonneg h0] at this
  exact this
theorem u8_128_no (c : Int) (h0 : 0 ≤ c) (h1 : c < 128) : bits BinOp.and IntKind.u8 c 128 = 0 := by
  have h : ∀ a : Fin 128, bits BinOp.and IntKind.u8 (a.val : Int) 128 = 0 := by decide +kernel
  have := h ⟨c.toNat, by omega⟩
  simp only [Int.toNat_of_nonneg h0] at this
  exact this
theorem u8_128_yes (c : Int) (h0 : 128 ≤ c) (h1 : c ≤ 255) : bits BinOp.and IntKind.u8 c 128 = 128 := by
  have h : ∀ a : Fin 128, bits BinOp.and IntKind.u8 ((a.val : Int) + 128) 128 = 128 := by decide +kernel
  have := h ⟨(c - 128).toNat, by omega⟩
  simp only at this
  rw [show ((c - 128).toNat : Int) + 128 = c by omega] at this
  exact this

theorem i64_or_low (a d : Nat) (ha : a < 72057594037927936) (hd : d < 128) : bits BinOp.or IntKind.i64 ((a : Int) * 128) (d : Int) = ((a * 128 + d : Nat) : Int) := by
  show IntKind.i64.wrap ((BitVec.ofInt 64 ((a : Int) * 128) ||| BitVec.ofInt 64 (d : Int)).toNat : Int) = _
  rw [show (a : Int) * 128 = ((a * 128 : Nat) : Int) by omega, BitVec.toNat_or, ofInt_u64 (a * 128) (by omega), ofInt_u64 d (by omega), IntKind.wrap_i64]
  have h : a * 128 ||| d = a * 128 + d := by
    have := Nat.shiftLeft_add_eq_or_of_lt (a := a) (i := 7) (b := d) (by omega)
    rw [Nat.shiftLeft_eq] at this
    exact this.symm
  rw [h]
  omega

set_option maxHeartbeats 400000 in
theorem number_any (a0 : Option Addr) (len cap : Nat) (zs : List Int) (w : World) (hs : Src w a0 len zs) (hb : Bytes zs) (hm : len ≤ cap) (hc : cap ≤ maxLen) (hn : a0 = none → cap = 0) :
    Calls Tryz.prog 194 #[.slice a0 len cap] w fun e w' => e = .returned (.tuple #[.int .i64 ((dec zs).1 : Nat), .int .i64 ((dec zs).2.1 : Nat), .int .i64 ((dec zs).2.2 : Nat)]) ∧ w' = w := by
  unfold maxLen at hc
  rcases Nat.eq_zero_or_pos len with h0 | h0
  · subst h0
    obtain rfl : zs = [] := List.eq_nil_of_length_eq_zero hs.1
    clear hs
    cases a0 with
    | none =>
      obtain rfl := hn rfl
      go_enter Tryz.func194, Tryz.ntmps194
      go_wp2
      refine wp_loop_rounds 1 ?_
      rw [rounds_succ]
      go_wp2
      go_ret3
      exact ⟨rfl, rfl⟩
    | some a =>
      go_enter Tryz.func194, Tryz.ntmps194
      go_wp2
      refine wp_loop_rounds 1 ?_
      rw [rounds_succ]
      go_wp2
      go_ret3
      exact ⟨rfl, rfl⟩
  · obtain ⟨b, o, rfl, hlt, hcell⟩ := hs.2 h0
    have hl := hs.1
    clear hs hn
    have hb0 := hb.at 0
    have hc0 := hcell 0 h0
    rw [Nat.add_zero] at hc0
    obtain ⟨c0, g0⟩ : ∃ c0, c0 = zs.getD 0 0 := ⟨_, rfl⟩
    have hh : zs.head? = some c0 := by
      rw [g0]; cases zs with
      | nil => simp at hl; omega
      | cons z r => rfl
    rw [← g0] at hc0 hb0
    clear g0
    have hp : (0 : Int) < (len : Int) := by omega
    have HH := hid hh
    have HC := hid hcell
    have HB := hid hb
    have HL := hid hl
    clear hh hcell hb hl
    by_cases h128 : c0 = 128
    · subst h128
      go_enter Tryz.func194, Tryz.ntmps194
      go_wp2
      go_ret3
      rw [dec, if_pos HH.out]
      exact ⟨rfl, rfl⟩
    · have h128' : (c0 == 128) = false := by simp [h128]
      have hd : dec zs = scan zs 0 0 := by
        rw [dec, if_neg]; rw [HH.out]; simpa using h128
      rw [hd]
      clear hd
      rcases Nat.lt_trichotomy len 9 with h9 | rfl | h9
      all_goals
        go_enter Tryz.func194, Tryz.ntmps194
        go_wp2
        go_loop [2, 22] (fun n k => ∃ i acc : Nat, i ≤ 9 ∧ i ≤ zs.length ∧ k = .int .i64 i ∧ n = .int .i64 acc ∧ Hid (acc < 128 ^ i) ∧ Hid (scan (zs.drop i) i acc = scan zs 0 0)) (fun _ k => 9 - (intOf k).toNat)
        case atStart => exact ⟨0, 0, by omega, by omega, rfl, rfl, hid (by decide), rfl⟩
        case round =>
          obtain ⟨i, acc, hi9, hil, rfl, rfl, HA, HD⟩ := hrel
          have hl := HL.out
          by_cases hlt : i < zs.length ∧ i < 9
          · obtain ⟨hlt, hi8⟩ := hlt
            have hlt' := hl ▸ hlt
            clear hl
            have hA : acc < 72057594037927936 := by
              have h1 := HA.out
              have h2 : (128 : Nat) ^ i ≤ 128 ^ 8 := Nat.pow_le_pow_right (by omega) (by omega)
              have h3 : (128 : Nat) ^ 8 = 72057594037927936 := by decide
              omega
            have hci := HC.out i hlt'
            have hbi := HB.out.at i
            obtain ⟨c, gc⟩ : ∃ c, c = zs.getD i 0 := ⟨_, rfl⟩
            rw [← gc] at hci hbi
            obtain ⟨d, gd⟩ : ∃ d : Nat, d = c.toNat % 128 := ⟨_, rfl⟩
            have e1 : bits BinOp.and IntKind.u8 c 127 = (d : Int) := by
              rw [gd]; exact u8_127 c hbi.1 hbi.2
            have hd8 : d < 128 := by omega
            have hdr : zs.drop i = c :: zs.drop (i + 1) := by
              rw [List.drop_eq_getElem_cons hlt, gc, List.getD_eq_getElem?_getD, List.getElem?_eq_getElem hlt]; rfl
            obtain ⟨m, gm⟩ : ∃ m : Nat, m = acc * 128 + d := ⟨_, rfl⟩
            have e3 : bits BinOp.or IntKind.i64 ((acc : Int) * 128) (d : Int) = (m : Int) := by rw [gm]; exact i64_or_low acc d (by omega) hd8
            have GM := hid gm
            clear gm
            have HR := hid hdr
            have HG := hid gd
            clear gc hdr gd
            by_cases h7 : c < 128
            · have e2 : bits BinOp.and IntKind.u8 c 128 = 0 := u8_128_no c hbi.1 h7
              have hsc : scan zs 0 0 = (m, i + 1, 0) := by
                rw [← HD.out, HR.out, scan, if_neg (by omega), if_pos h7, GM.out, HG.out]
              have HS := hid hsc
              clear hsc
              go_wp2
              go_ret3
              rw [HS.out]
              exact ⟨rfl, rfl⟩
            · have e2 : bits BinOp.and IntKind.u8 c 128 = 128 := u8_128_yes c (by omega) hbi.2
              have HS : Hid (scan (zs.drop (i + 1)) (i + 1) m = scan zs 0 0) := by
                show _ = _
                rw [← HD.out, HR.out]
                conv => rhs; rw [scan, if_neg (by omega : ¬ i = 9), if_neg h7, ← HG.out, ← GM.out]
              have HM : Hid (m < 128 ^ (i + 1)) := by
                have h1 := HA.out
                have h2 := GM.out
                show m < 128 ^ (i + 1)
                rw [Nat.pow_succ]; omega
              go_wp2
              go_round
              case rel => exact ⟨i + 1, m, by omega, by omega, by go_num, rfl, HM, HS⟩
              case measure => simp [intOf]; omega
          · have hsc : scan zs 0 0 = (0, 0, if 9 ≤ zs.length then 11 else 10) := by
              rw [← HD.out]
              rcases Nat.lt_or_ge i zs.length with h | h
              · have h9' : i = 9 := by omega
                subst h9'
                rw [List.drop_eq_getElem_cons h, scan, if_pos rfl, if_pos (by omega)]
              · rw [List.drop_eq_nil_of_le h, scan, show i = zs.length by omega]
            rw [hl] at hsc hlt hil
            have HS := hid hsc
            clear hsc hl
            go_wp2
            go_ret3
            rw [HS.out]
            first | (rw [if_pos (by omega)]; exact ⟨rfl, rfl⟩) | (rw [if_neg (by omega)]; exact ⟨rfl, rfl⟩)

end Go.Proofs.YtbgommpdmnbplaaGreatDoor

/- What wire's reader does: it is made over its own copy; it tells what is left; it reads a number, or stays where it was. -/
namespace Go.Proofs.YtbgommpdmnbplaaGreatDoor
open Go.RowKit Num
set_option maxRecDepth 20000

/-- Nothing but block 'p' has turned, and none is new. -/
structure Only (p : Nat) (w w' : World) : Prop where
  os : w'.os = w.os
  tape : w'.tape = w.tape
  output : w'.output = w.output
  size : w'.heap.size = w.heap.size
  block : ∀ k, k ≠ p → w'.heap[k]? = w.heap[k]?
theorem Only.refl (p : Nat) (w : World) : Only p w w := ⟨rfl, rfl, rfl, rfl, fun _ _ => rfl⟩
theorem Only.trans {p : Nat} {a b c : World} (h : Only p a b) (k : Only p b c) : Only p a c := ⟨k.os.trans h.os, k.tape.trans h.tape, k.output.trans h.output, k.size.trans h.size, fun i hi => (k.block i hi).trans (h.block i hi)⟩
theorem Only.drewN {p : Nat} {w : World} (n : Nat) : Only p w (w.drewN n) := ⟨rfl, rfl, rfl, rfl, fun _ _ => rfl⟩
theorem Only.setCell {p : Nat} {w : World} (i : Nat) (v : Value) : Only p w (w.setCell ⟨p, i, none⟩ v) := ⟨rfl, rfl, rfl, by simp [World.setCell], fun k hk => heap_setCell_other w _ k v hk⟩
theorem Only.below {p B : Nat} {w w' : World} (h : Only p w w') (hp : B ≤ p) : Below B w w' := ⟨h.os, h.tape, h.output, by rw [h.size]; exact Nat.le_refl _, fun k hk => h.block k (by omega)⟩

theorem Src.only {w w' : World} {p g len : Nat} {zs : List Int} (h : Src w (some ⟨g, 0, none⟩) len zs) (ho : Only p w w') (hg : g ≠ p) : Src w' (some ⟨g, 0, none⟩) len zs :=
  ⟨h.1, fun hl => by
    obtain ⟨b, o, e, hlt, hc⟩ := h.2 hl
    simp only [Option.some.injEq, Addr.mk.injEq] at e
    obtain ⟨rfl, rfl, _⟩ := e
    exact ⟨g, 0, rfl, by rw [ho.size]; exact hlt, fun j hj => (World.cell?_of_block (w := w) (ho.block g hg)).trans (hc j hj)⟩⟩

/-- A reader at block 'p', of the bytes 'zs' at block 'g', of which 'at' were read. -/
structure Rdr (w : World) (B p g len at_ : Nat) (zs : List Int) : Prop where
  own : w.heap[p]? = some (.cells #[.slice (some ⟨g, 0, none⟩) len len, .int .i64 at_, .bool true] 209 (0, 0))
  src : Src w (some ⟨g, 0, none⟩) len zs
  lo : B ≤ g
  mid : B ≤ p
  ne : g ≠ p
  fit : at_ ≤ len
  cap : len ≤ 281474976710656
  gl : g < w.heap.size

theorem Rdr.len {w : World} {B p g len at_ : Nat} {zs : List Int} (h : Rdr w B p g len at_ zs) : zs.length = len := h.src.1
theorem Rdr.c0 {w : World} {B p g len at_ : Nat} {zs : List Int} (h : Rdr w B p g len at_ zs) : w.cell? ⟨p, 0, none⟩ = some (.slice (some ⟨g, 0, none⟩) len len) := cell_of_row w p 0 _ _ _ h.own
theorem Rdr.c1 {w : World} {B p g len at_ : Nat} {zs : List Int} (h : Rdr w B p g len at_ zs) : w.cell? ⟨p, 1, none⟩ = some (.int .i64 at_) := cell_of_row w p 1 _ _ _ h.own
theorem Rdr.c2 {w : World} {B p g len at_ : Nat} {zs : List Int} (h : Rdr w B p g len at_ zs) : w.cell? ⟨p, 2, none⟩ = some (.bool true) := cell_of_row w p 2 _ _ _ h.own
theorem Rdr.f1 {w : World} {B p g len at_ : Nat} {zs : List Int} (h : Rdr w B p g len at_ zs) : w.frozen? ⟨p, 1, none⟩ = false := frozen_of_row w p 1 _ _ h.own

set_option maxHeartbeats 400000 in
theorem over_any (a0 : Option Addr) (len cap : Nat) (zs : List Int) (w : World) (hs : Src w a0 len zs) (hr : len ≤ 281474976710656) :
    Calls Tryz.prog 92 #[.slice a0 len cap] w fun e w' => ∃ p, e = .returned (.pointer (some ⟨p, 0, none⟩)) ∧ Rdr w' w.heap.size p w.heap.size len 0 zs ∧ p < w'.heap.size ∧ Below w.heap.size w w' := by
  have hroom := hid (fun wx hx => room_any a0 len cap 0 zs wx hx (by omega))
  have HS := hid hs
  clear hs
  go_enter Tryz.func92, Tryz.ntmps92
  go_wp2_with fail
  refine (hroom.out _ HS.out).mono ?_
  rintro e w1 ⟨rfl, hown, hb⟩
  rw [Nat.add_zero] at hown
  have HO := hid hown
  clear hown
  go_wp2_with fail
  go_ret
  have hlt := HO.out.lt w.heap.size rfl
  have hb2 := hb.alloc hb.size (.cells #[.slice (some ⟨w.heap.size, 0, none⟩) len len, .int .i64 0, .bool true] 209)
  exact ⟨w1.heap.size, rfl, ⟨heap_alloc_new w1 _, (Src.own HO.out).below ((Below.refl _ _).alloc (Nat.le_refl _) _), Nat.le_refl _, hb.size, by omega, Nat.zero_le _, hr, by simp; omega⟩, by simp, hb2⟩

theorem usable_any (p : Nat) (w : World) (h2 : w.cell? ⟨p, 2, none⟩ = some (.bool true)) :
    Calls Tryz.prog 193 #[.pointer (some ⟨p, 0, none⟩)] w fun e w' => e = .returned (.bool true) ∧ w' = w := by
  go_enter Tryz.func193, Tryz.ntmps193
  go_wp2
  go_ret
  exact ⟨rfl, rfl⟩

/-- What is left of a reader's bytes, as 'rest' hands it out. -/
theorem rest_any (B p g len at_ : Nat) (zs : List Int) (w : World) (h : Rdr w B p g len at_ zs) :
    Calls Tryz.prog 195 #[.pointer (some ⟨p, 0, none⟩)] w fun e w' => ∃ a0, e = .returned (.slice a0 (len - at_) (len - at_)) ∧ Src w a0 (len - at_) (zs.drop at_) ∧ a0 ≠ none ∧ ∃ n, w' = w.drewN n := by
  have c0 := h.c0
  have c1 := h.c1
  have hf := h.fit
  have hcp := h.cap
  have hlen := h.len
  have hsrc : ∀ a0, (at_ < len → a0 = some (⟨g, at_, none⟩ : Addr)) → Src w a0 (len - at_) (zs.drop at_) := by
    intro a0 ha
    refine ⟨by rw [List.length_drop, hlen], fun hl => ?_⟩
    obtain ⟨b, o, e, hlt, hc⟩ := h.src.2 (by omega)
    simp only [Option.some.injEq, Addr.mk.injEq] at e
    obtain ⟨rfl, rfl, _⟩ := e
    refine ⟨g, at_, ha (by omega), hlt, fun j hj => ?_⟩
    rw [← Nat.zero_add (at_ + j), hc (at_ + j) (by omega)]
    simp [List.getD, List.getElem?_drop]
  have HS := hid hsrc
  clear h hsrc hlen
  rcases Nat.eq_or_lt_of_le hf with h | h
  · subst h
    rw [Nat.sub_self] at HS ⊢
    go_enter Tryz.func195, Tryz.ntmps195
    go_wp2
    go_quiet (fail)
    go_wp2
    go_ret
    exact ⟨some ⟨g, 0, none⟩, rfl, HS.out _ (fun h => by omega), by simp, _, rfl⟩
  · have hne : ¬ len = at_ := by omega
    go_enter Tryz.func195, Tryz.ntmps195
    go_wp2
    go_quiet (fail)
    go_wp2
    go_ret
    exact ⟨some ⟨g, at_, none⟩, rfl, HS.out _ (fun _ => rfl), by simp, _, rfl⟩

theorem pass_any (p at_ n : Nat) (w : World) (h1 : w.cell? ⟨p, 1, none⟩ = some (.int .i64 at_)) (hf : w.frozen? ⟨p, 1, none⟩ = false) (hb : at_ + n ≤ 9223372036854775807) :
    Calls Tryz.prog 196 #[.pointer (some ⟨p, 0, none⟩), .int .i64 n] w fun e w' => e = .returned (.tuple #[]) ∧ w' = w.setCell ⟨p, 1, none⟩ (.int .i64 ((at_ + n : Nat) : Int)) := by
  go_enter Tryz.func196, Tryz.ntmps196
  go_wp2
  go_end0
  exact ⟨rfl, by rw [show ((at_ + n : Nat) : Int) = (at_ : Int) + n by omega]⟩

/-- A reader that passes bytes. -/
theorem Rdr.pass {w : World} {B p g len at_ : Nat} {zs : List Int} (h : Rdr w B p g len at_ zs) (n : Nat) (hn : at_ + n ≤ len) : Rdr (w.setCell ⟨p, 1, none⟩ (.int .i64 ((at_ + n : Nat) : Int))) B p g len (at_ + n) zs :=
  ⟨by rw [heap_setCell_same w p 1 _ _ _ h.own]; rfl, h.src.only (Only.setCell 1 _) h.ne, h.lo, h.mid, h.ne, hn, h.cap, by simpa using h.gl⟩
theorem Rdr.only {w w' : World} {B p q g len at_ : Nat} {zs : List Int} (h : Rdr w B p g len at_ zs) (ho : Only q w w') (hq : p ≠ q) (hg : g ≠ q) : Rdr w' B p g len at_ zs :=
  ⟨by rw [ho.block p hq]; exact h.own, h.src.only ho hg, h.lo, h.mid, h.ne, h.fit, h.cap, by rw [ho.size]; exact h.gl⟩
theorem Rdr.drewN {w : World} {B p g len at_ : Nat} {zs : List Int} (h : Rdr w B p g len at_ zs) (n : Nat) : Rdr (w.drewN n) B p g len at_ zs :=
  ⟨h.own, h.src.only (p := p) (Only.drewN n) h.ne, h.lo, h.mid, h.ne, h.fit, h.cap, h.gl⟩

theorem Src.heap {w w' : World} {a0 : Option Addr} {len : Nat} {zs : List Int} (h : Src w a0 len zs) (e : w'.heap = w.heap) : Src w' a0 len zs :=
  ⟨h.1, fun hl => by
    obtain ⟨b, o, q, hlt, hc⟩ := h.2 hl
    exact ⟨b, o, q, by rw [e]; exact hlt, fun j hj => (World.cell?_of_block (w := w) (by rw [e])).trans (hc j hj)⟩⟩
theorem Rdr.heap {w w' : World} {B p g len at_ : Nat} {zs : List Int} (h : Rdr w B p g len at_ zs) (e : w'.heap = w.heap) : Rdr w' B p g len at_ zs :=
  ⟨by rw [e]; exact h.own, h.src.heap e, h.lo, h.mid, h.ne, h.fit, h.cap, by rw [e]; exact h.gl⟩
theorem Src.take {w : World} {a0 : Option Addr} {len : Nat} {zs : List Int} (h : Src w a0 len zs) (k : Nat) (hk : k ≤ len) : Src w a0 k (zs.take k) :=
  ⟨by rw [List.length_take, h.1]; omega, fun hl => by
    obtain ⟨b, o, q, hlt, hc⟩ := h.2 (by omega)
    exact ⟨b, o, q, hlt, fun j hj => by rw [hc j (by omega)]; simp [List.getD, hj]⟩⟩

theorem left_any (B p g len at_ : Nat) (zs : List Int) (w : World) (h : Rdr w B p g len at_ zs) :
    Calls Tryz.prog 197 #[.pointer (some ⟨p, 0, none⟩)] w fun e w' => e = .returned (.int .i64 ((len - at_ : Nat) : Int)) ∧ ∃ n, w' = w.drewN n := by
  have k1 := hid (usable_any p w h.c2)
  have k2 := hid (rest_any B p g len at_ zs w h)
  clear h
  go_enter Tryz.func197, Tryz.ntmps197
  go_wp2_with fail
  refine k1.out.mono ?_
  rintro e w1 ⟨rfl, rfl⟩
  go_wp2_with fail
  refine k2.out.mono ?_
  rintro e w2 ⟨a0, rfl, _, _, n, rfl⟩
  go_wp2_with fail
  go_ret
  exact ⟨rfl, n, rfl⟩

set_option maxHeartbeats 400000 in
theorem uint_any (B p g len at_ : Nat) (zs : List Int) (w : World) (h : Rdr w B p g len at_ zs) (hz : Bytes zs) :
    Calls Tryz.prog 141 #[.pointer (some ⟨p, 0, none⟩)] w fun e w' => e = .returned (.tuple #[.int .i64 ((dec (zs.drop at_)).1 : Nat), .int .i64 ((dec (zs.drop at_)).2.2 : Nat)]) ∧
      Rdr w' B p g len (at_ + (dec (zs.drop at_)).2.1) zs ∧ Only p w w' := by
  have k1 := hid (usable_any p w h.c2)
  have k2 := hid (rest_any B p g len at_ zs w h)
  have hd := dec_got (zs.drop at_) (hz.drop at_)
  have hlen := h.len
  have hfit := h.fit
  have hcap := h.cap
  have hk : at_ + (dec (zs.drop at_)).2.1 ≤ len := by
    rw [List.length_drop, hlen] at hd
    rcases hd with hd | hd <;> omega
  have k3 := hid (fun (wx : World) (a0 : Option Addr) (hs : Src wx a0 (len - at_) (zs.drop at_)) (hn : a0 ≠ none) => number_any a0 (len - at_) (len - at_) (zs.drop at_) wx hs (hz.drop at_) (Nat.le_refl _) (by unfold maxLen; omega) (fun e => absurd e hn))
  obtain ⟨D, gD⟩ : ∃ D, D = dec (zs.drop at_) := ⟨_, rfl⟩
  rw [← gD] at k3 hk ⊢
  have HR := hid h
  clear gD hd h hlen hz
  obtain ⟨n, k, e⟩ := D
  simp only at k3 hk ⊢
  have hke : k ≤ len - at_ := by omega
  go_enter Tryz.func141, Tryz.ntmps141
  go_wp2_with fail
  refine k1.out.mono ?_
  rintro e w1 ⟨rfl, rfl⟩
  go_wp2_with fail
  refine k2.out.mono ?_
  rintro e w2 ⟨a0, rfl, hs, hn, m, rfl⟩
  have HS := hid hs
  have HN := hid hn
  clear hs hn
  go_wp2_with fail
  refine (k3.out _ _ (by exact HS.out.below ⟨rfl, rfl, rfl, Nat.le_refl _, fun _ _ => rfl⟩) HN.out).mono ?_
  rintro e w3 ⟨rfl, rfl⟩
  go_wp2_with fail
  refine (pass_any p at_ k _ (HR.out.drewN m).c1 (HR.out.drewN m).f1 (by omega)).mono ?_
  rintro e w4 ⟨rfl, rfl⟩
  go_wp2_with fail
  go_ret2
  exact ⟨rfl, (HR.out.drewN m).pass k hk, (Only.drewN m).trans (Only.setCell 1 _)⟩

end Go.Proofs.YtbgommpdmnbplaaGreatDoor

/- What disk.find does, for every row of writes whose sectors rise: where a sector stands, or would stand; nothing old turns. -/
namespace Go.Proofs.YtbgommpdmnbplaaGreatDoor
open Go.RowKit

/-- How two numbers stand. -/
def cmpI (x y : Int) : Int := if x < y then -1 else if y < x then 1 else 0

theorem nan_any (x : Int) (w : World) : Calls Tryz.prog 208 #[.int .i64 x] w fun e w' => e = .returned (.bool false) ∧ w' = w := by
  go_enter Tryz.func208, Tryz.ntmps208
  go_wp2
  go_ret
  exact ⟨rfl, rfl⟩

theorem compare_any (x y : Int) (w : World) : Calls Tryz.prog 171 #[.int .i64 x, .int .i64 y] w fun e w' => e = .returned (.int .i64 (cmpI x y)) ∧ w' = w := by
  have k1 := hid (nan_any x w)
  have k2 := hid (nan_any y w)
  unfold cmpI
  rcases Int.lt_trichotomy x y with h | h | h
  · rw [if_pos h]
    go_enter Tryz.func171, Tryz.ntmps171
    go_wp2_with fail
    refine k1.out.mono ?_
    rintro e w1 ⟨rfl, rfl⟩
    go_wp2_with fail
    refine k2.out.mono ?_
    rintro e w1 ⟨rfl, rfl⟩
    go_wp2_with fail
    go_ret
    exact ⟨rfl, rfl⟩
  · subst h
    rw [if_neg (by omega), if_neg (by omega)]
    go_enter Tryz.func171, Tryz.ntmps171
    go_wp2_with fail
    refine k1.out.mono ?_
    rintro e w1 ⟨rfl, rfl⟩
    go_wp2_with fail
    refine k2.out.mono ?_
    rintro e w1 ⟨rfl, rfl⟩
    go_wp2_with fail
    go_ret
    exact ⟨rfl, rfl⟩
  · rw [if_neg (by omega), if_pos h]
    go_enter Tryz.func171, Tryz.ntmps171
    go_wp2_with fail
    refine k1.out.mono ?_
    rintro e w1 ⟨rfl, rfl⟩
    go_wp2_with fail
    refine k2.out.mono ?_
    rintro e w1 ⟨rfl, rfl⟩
    go_wp2_with fail
    go_ret
    exact ⟨rfl, rfl⟩

theorem order_any (s i : Int) (v : Value) (w : World) : Calls Tryz.prog 170 #[.agg #[.int .i64 s, v], .int .i64 i] w fun e w' => e = .returned (.int .i64 (cmpI s i)) ∧ Below w.heap.size w w' := by
  have k := hid (fun wx => compare_any s i wx)
  go_enter Tryz.func170, Tryz.ntmps170
  go_wp2_with fail
  refine (k.out _).mono ?_
  rintro e w1 ⟨rfl, rfl⟩
  go_wp2_with fail
  go_ret
  exact ⟨rfl, (Below.refl _ _).alloc (Nat.le_refl _) _⟩

/-- A row of writes, as it lies: sector and bytes of each. -/
def Sents (w : World) (ae : Option Addr) (n : Nat) (sec : Nat → Int) (bv : Nat → Value) : Prop :=
  0 < n → ∃ b o, ae = some ⟨b, o, none⟩ ∧ b < w.heap.size ∧ ∀ i, i < n → w.cell? ⟨b, o + i * 2, none⟩ = some (.int .i64 (sec i)) ∧ w.cell? ⟨b, o + i * 2 + 1, none⟩ = some (bv i)
theorem Sents.below {w w' : World} {ae : Option Addr} {n : Nat} {sec : Nat → Int} {bv : Nat → Value} (h : Sents w ae n sec bv) (hb : Below w.heap.size w w') : Sents w' ae n sec bv := fun hn => by
  obtain ⟨b, o, e, hlt, hc⟩ := h hn
  exact ⟨b, o, e, Nat.lt_of_lt_of_le hlt hb.size, fun i hi => ⟨(hb.cell (p := ⟨b, o + i * 2, none⟩) hlt).trans (hc i hi).1, (hb.cell (p := ⟨b, o + i * 2 + 1, none⟩) hlt).trans (hc i hi).2⟩⟩

end Go.Proofs.YtbgommpdmnbplaaGreatDoor

/- What slices.BinarySearchFunc does with disk.find's order, for every row of writes whose sectors rise. -/
namespace Go.Proofs.YtbgommpdmnbplaaGreatDoor
open Go.RowKit

set_option maxHeartbeats 1000000 in
set_option maxRecDepth 4000 in
theorem search_any (ae : Option Addr) (n c : Nat) (sec : Nat → Int) (bv : Nat → Value) (i : Int) (w : World) (hs : Sents w ae n sec bv) (hr : ∀ j k, j < k → k < n → sec j < sec k) (hn : n ≤ 1152921504606846976) :
    Calls Tryz.prog 169 #[.slice ae n c, .int .i64 i, .func (.func 170) #[] #[]] w fun e w' => ∃ (k : Nat) (f : Bool), e = .returned (.tuple #[.int .i64 k, .bool f]) ∧ k ≤ n ∧ (∀ j, j < k → sec j < i) ∧ (∀ j, k ≤ j → j < n → i ≤ sec j) ∧ (f = true ↔ k < n ∧ sec k = i) ∧ Below w.heap.size w w' := by
  have HS := hid hs
  have HR := hid hr
  clear hs hr
  go_enter Tryz.func169, Tryz.ntmps169
  go_wp2_with fail
  go_loopw [9, 10] (fun a b wr => ∃ x y : Nat, a = .int .i64 x ∧ b = .int .i64 y ∧ x ≤ y ∧ y ≤ n ∧ Hid (∀ j, j < x → sec j < i) ∧ Hid (∀ j, y ≤ j → j < n → i ≤ sec j) ∧ Below w.heap.size w wr) (fun a b _ => (intOf b - intOf a).toNat)
  case atStart => exact ⟨0, n, rfl, rfl, Nat.zero_le _, Nat.le_refl _, hid (by intro j hj; omega), hid (by intro j h1 h2; omega), Below.refl _ _⟩
  case round =>
    obtain ⟨x, y, rfl, rfl, hxy, hyn, HL, HG, hb⟩ := hrel
    have HN := hid hn
    clear hn
    by_cases h : x < y
    · have h' : (x : Int) < y := by omega
      have hN := HN.out
      have hmn : (x + y) / 2 < n := by omega
      obtain ⟨b, o, rfl, hlt, hc⟩ := HS.out.below hb (by omega)
      obtain ⟨c0, c1⟩ := hc ((x + y) / 2) hmn
      clear hc
      have KO := hid (fun wx => order_any (sec ((x + y) / 2)) i (bv ((x + y) / 2)) wx)
      go_wp2_with fail
      refine (KO.out _).mono ?_
      rintro e w1 ⟨rfl, hb1⟩
      have hbw : Below w.heap.size w w1 := hb.trans (hb1.mono hb.size)
      clear c0 c1
      unfold cmpI
      rcases (show sec ((x + y) / 2) < i ∨ i ≤ sec ((x + y) / 2) by omega) with hl | hl
      · rw [if_pos hl]
        go_wp2_with fail
        rw [show ((x : Int) + y) / 2 + 1 = (((x + y) / 2 + 1 : Nat) : Int) by omega]
        refine ⟨⟨(x + y) / 2 + 1, y, rfl, rfl, by omega, hyn, hid (fun j hj => ?_), HG, hbw⟩, by simp only [intOf]; omega⟩
        rcases (show j = (x + y) / 2 ∨ j < (x + y) / 2 by omega) with rfl | hj'
        · exact hl
        · exact Int.lt_trans (HR.out j _ hj' hmn) hl
      · have hz : ¬ (if sec ((x + y) / 2) < i then (-1 : Int) else if i < sec ((x + y) / 2) then 1 else 0) < 0 := by
          rw [if_neg (by omega)]; split <;> omega
        obtain ⟨z, gz⟩ : ∃ z, z = (if sec ((x + y) / 2) < i then (-1 : Int) else if i < sec ((x + y) / 2) then 1 else 0) := ⟨_, rfl⟩
        rw [← gz] at hz ⊢
        clear gz
        go_wp2_with fail
        rw [show ((x : Int) + y) / 2 = (((x + y) / 2 : Nat) : Int) by omega]
        refine ⟨⟨x, (x + y) / 2, rfl, rfl, by omega, by omega, HL, hid (fun j hj hjn => ?_), hbw⟩, by simp only [intOf]; omega⟩
        rcases (show j = (x + y) / 2 ∨ (x + y) / 2 < j by omega) with rfl | hj'
        · exact hl
        · exact Int.le_of_lt (Int.lt_of_le_of_lt hl (HR.out _ j hj' hjn))
    · obtain rfl : x = y := by omega
      rcases Nat.lt_or_ge x n with hn' | hn'
      · obtain ⟨b, o, rfl, hlt, hc⟩ := HS.out.below hb (by omega)
        obtain ⟨c0, c1⟩ := hc x hn'
        clear hc
        have KO := hid (fun wx => order_any (sec x) i (bv x) wx)
        go_wp2_with fail
        refine (KO.out _).mono ?_
        rintro e w1 ⟨rfl, hb1⟩
        have hbw : Below w.heap.size w w1 := hb.trans (hb1.mono hb.size)
        clear c0 c1
        have hge := HG.out x (Nat.le_refl _) hn'
        rcases (show sec x = i ∨ i < sec x by omega) with he | he
        · rw [show cmpI (sec x) i = 0 by unfold cmpI; rw [if_neg (by omega), if_neg (by omega)]]
          go_wp2_with fail
          go_ret2
          exact ⟨x, true, rfl, by omega, HL.out, HG.out, ⟨fun _ => ⟨hn', he⟩, fun _ => rfl⟩, hbw⟩
        · rw [show cmpI (sec x) i = 1 by unfold cmpI; rw [if_neg (by omega), if_pos he]]
          go_wp2_with fail
          go_ret2
          exact ⟨x, false, rfl, by omega, HL.out, HG.out, ⟨fun hh => by simp at hh, fun hh => by omega⟩, hbw⟩
      · obtain rfl : x = n := by omega
        go_wp2_with fail
        go_ret2
        exact ⟨x, false, rfl, Nat.le_refl _, HL.out, HG.out, ⟨fun hh => by simp at hh, fun hh => by omega⟩, hb⟩

end Go.Proofs.YtbgommpdmnbplaaGreatDoor

/- A disk of the program, as it lies in memory: its cells, its rows, and which blocks are its own. -/
namespace Go.Proofs.YtbgommpdmnbplaaGreatDoor
open Go.RowKit
set_option linter.unusedVariables false

/-- A write of an epoch: its sector, where its bytes lie, and these. -/
structure Snt where
  sec : Nat
  blk : Nat
  cap : Nat
  bs : List Int

/-- An epoch: where its row lies, and its writes. -/
structure Ep where
  v : Value
  es : List Snt

/-- A disk. -/
structure Dk where
  n : Nat
  gd : Nat
  cd : Nat
  gw : Nat
  cw : Nat
  dur : List Int
  wr : List Int
  ve : Value
  eps : List Ep
  opn : Bool

def Snt.val (s : Snt) : Value := .slice (some ⟨s.blk, 0, none⟩) 128 s.cap
def Snt.ok (s : Snt) (w : World) : Prop := s.bs.length = 128 ∧ w.ownsRow 0 5 1 s.val 128 (s.bs.map (Value.int .u8))
def sentCells (es : List Snt) : List Value := es.flatMap fun s => [Value.int .i64 s.sec, s.val]

def vb (v : Value) : List Nat := v.ownBlock.toList
def Ep.foot (e : Ep) : List Nat := vb e.v ++ e.es.map Snt.blk

/-- Sectors that rise, below n. -/
def Rise (n : Nat) (l : List Nat) : Prop := l.Pairwise (· < ·) ∧ ∀ x ∈ l, x < n

structure Ep.ok (e : Ep) (w : World) (n : Nat) : Prop where
  row : w.ownsRow 0 120 2 e.v e.es.length (sentCells e.es)
  es : ∀ s ∈ e.es, s.ok w
  rise : Rise n (e.es.map Snt.sec)

def Dk.foot (d : Dk) (p : Nat) : List Nat := p :: d.gd :: d.gw :: (vb d.ve ++ d.eps.flatMap Ep.foot)

structure Dk.ok (d : Dk) (w : World) (p : Nat) : Prop where
  cells : w.heap[p]? = some (.cells #[.slice (some ⟨d.gd, 0, none⟩) (d.n * 128) d.cd, .slice (some ⟨d.gw, 0, none⟩) (d.n * 128) d.cw, d.ve, .bool d.opn] 84 (0, 0))
  dur : w.ownsRow 0 5 1 (.slice (some ⟨d.gd, 0, none⟩) (d.n * 128) d.cd) (d.n * 128) (d.dur.map (Value.int .u8))
  wr : w.ownsRow 0 5 1 (.slice (some ⟨d.gw, 0, none⟩) (d.n * 128) d.cw) (d.n * 128) (d.wr.map (Value.int .u8))
  row : w.ownsRow 0 110 1 d.ve d.eps.length (d.eps.map Ep.v)
  eps : ∀ e ∈ d.eps, e.ok w d.n
  nodup : (d.foot p).Nodup
  n1 : 1 ≤ d.n
  n2 : d.n ≤ 2048
  last : d.opn = true → d.eps ≠ []

theorem own_of_heap {w w' : World} {B e size n : Nat} {v : Value} {xs : List Value} (h : w.ownsRow B e size v n xs) (hh : ∀ k, v.ownBlock = some k → w'.heap[k]? = w.heap[k]?) : w'.ownsRow B e size v n xs := by
  refine ⟨h.1, ?_⟩
  rcases h.2 with hn | ⟨g, cap, cur, rfl, hb, hgg, rest⟩
  · exact .inl hn
  · refine .inr ⟨g, cap, cur, rfl, hb, ?_, rest⟩
    rw [hh g rfl]
    exact hgg

theorem own_lt {w : World} {B e size n : Nat} {v : Value} {xs : List Value} (h : w.ownsRow B e size v n xs) {k : Nat} (hk : k ∈ vb v) : k < w.heap.size := (h.lt k (by simpa [vb] using hk)).2

theorem Snt.ok.frame {s : Snt} {w w' : World} (h : s.ok w) (hh : w'.heap[s.blk]? = w.heap[s.blk]?) : s.ok w' :=
  ⟨h.1, own_of_heap h.2 (fun k hk => by simp [Snt.val, Value.ownBlock] at hk; subst hk; exact hh)⟩

theorem Ep.ok.frame {e : Ep} {w w' : World} {n : Nat} (h : e.ok w n) (hh : ∀ k ∈ e.foot, w'.heap[k]? = w.heap[k]?) : e.ok w' n :=
  ⟨own_of_heap h.row (fun k hk => hh k (by simp [Ep.foot, vb, hk])), fun s hs => (h.es s hs).frame (hh _ (by simp only [Ep.foot, List.mem_append, List.mem_map]; exact .inr ⟨s, hs, rfl⟩)), h.rise⟩

theorem Dk.ok.frame {d : Dk} {w w' : World} {p : Nat} (h : d.ok w p) (hh : ∀ k ∈ d.foot p, w'.heap[k]? = w.heap[k]?) : d.ok w' p := by
  refine ⟨(hh p (by simp [Dk.foot])).trans h.cells, own_of_heap h.dur ?_, own_of_heap h.wr ?_, own_of_heap h.row ?_, ?_, h.nodup, h.n1, h.n2, h.last⟩
  · intro k hk; simp [Value.ownBlock] at hk; subst hk; exact hh _ (by simp [Dk.foot])
  · intro k hk; simp [Value.ownBlock] at hk; subst hk; exact hh _ (by simp [Dk.foot])
  · intro k hk; exact hh _ (by simp [Dk.foot, vb, hk])
  · intro e he
    refine (h.eps e he).frame fun k hk => hh k ?_
    simp only [Dk.foot, List.mem_cons, List.mem_append, List.mem_flatMap]
    exact .inr (.inr (.inr (.inr ⟨e, he, hk⟩)))

theorem Snt.ok.lt {s : Snt} {w : World} (h : s.ok w) : s.blk < w.heap.size := own_lt h.2 (by simp [vb, Snt.val, Value.ownBlock])

theorem Ep.ok.lt {e : Ep} {w : World} {n : Nat} (h : e.ok w n) : ∀ k ∈ e.foot, k < w.heap.size := by
  intro k hk
  simp only [Ep.foot, List.mem_append, List.mem_map] at hk
  rcases hk with hk | ⟨s, hs, rfl⟩
  · exact own_lt h.row hk
  · exact (h.es s hs).lt

theorem Dk.ok.lt {d : Dk} {w : World} {p : Nat} (h : d.ok w p) : ∀ k ∈ d.foot p, k < w.heap.size := by
  intro k hk
  simp only [Dk.foot, List.mem_cons, List.mem_append, List.mem_flatMap] at hk
  rcases hk with rfl | rfl | rfl | hk | ⟨e, he, hk⟩
  · exact (Array.getElem?_eq_some_iff.1 h.cells).1
  · exact own_lt h.dur (by simp [vb, Value.ownBlock])
  · exact own_lt h.wr (by simp [vb, Value.ownBlock])
  · exact own_lt h.row hk
  · exact (h.eps e he).lt k hk

theorem Dk.ok.upd {d : Dk} {w w' : World} {p : Nat} {F : Nat → Prop} (h : d.ok w p) (u : Upd F w w') (hF : ∀ k ∈ d.foot p, ¬ F k) : d.ok w' p :=
  h.frame fun k hk => u.block k (h.lt k hk) (hF k hk)

/-- Where the writes of a row lie: cell by cell. -/
theorem sentCells_len (es : List Snt) : (sentCells es).length = es.length * 2 := by
  induction es with
  | nil => rfl
  | cons s es ih => simp [sentCells] at ih ⊢; omega

theorem sentCells_append (a b : List Snt) : sentCells (a ++ b) = sentCells a ++ sentCells b := by simp [sentCells]

theorem sentCells_at (es : List Snt) (i : Nat) (h : i < es.length) : (sentCells es)[i * 2]? = some (.int .i64 es[i].sec) ∧ (sentCells es)[i * 2 + 1]? = some es[i].val := by
  induction es generalizing i with
  | nil => simp at h
  | cons s es ih =>
    cases i with
    | zero => simp [sentCells]
    | succ i =>
      have := ih i (by simpa using h)
      have e1 : (i + 1) * 2 = i * 2 + 2 := by omega
      have e2 : sentCells (s :: es) = .int .i64 s.sec :: s.val :: sentCells es := by simp [sentCells]
      rw [e1, e2]
      simpa using this

theorem sentCells_one (es : List Snt) : ∀ u ∈ sentCells es, u.oneCell' = true := by
  intro u hu
  simp only [sentCells, List.mem_flatMap] at hu
  obtain ⟨s, _, hs⟩ := hu
  simp at hs
  rcases hs with rfl | rfl
  · rfl
  · rfl

theorem sentCells_take (es : List Snt) (k : Nat) : (sentCells es).take (k * 2) = sentCells (es.take k) := by
  induction es generalizing k with
  | nil => simp [sentCells]
  | cons s es ih =>
    cases k with
    | zero => simp [sentCells]
    | succ k =>
      have e1 : (k + 1) * 2 = k * 2 + 2 := by omega
      have e2 : sentCells (s :: es) = .int .i64 s.sec :: s.val :: sentCells es := by simp [sentCells]
      have e3 : sentCells (s :: es.take k) = .int .i64 s.sec :: s.val :: sentCells (es.take k) := by simp [sentCells]
      rw [e1, e2, List.take_succ_cons, List.take_succ_cons, List.take_succ_cons, e3]
      simp [ih]

theorem sentCells_drop (es : List Snt) (k : Nat) : (sentCells es).drop (k * 2) = sentCells (es.drop k) := by
  induction es generalizing k with
  | nil => simp [sentCells]
  | cons s es ih =>
    cases k with
    | zero => simp
    | succ k =>
      have e1 : (k + 1) * 2 = k * 2 + 2 := by omega
      have e2 : sentCells (s :: es) = .int .i64 s.sec :: s.val :: sentCells es := by simp [sentCells]
      rw [e1, e2]
      simp [ih]

end Go.Proofs.YtbgommpdmnbplaaGreatDoor

/- What a disk is, without memory: sectors, epochs of writes, what lands. -/
namespace Go.Proofs.YtbgommpdmnbplaaGreatDoor
open Go.RowKit
set_option linter.unusedVariables false

/-- Sector i of an image. -/
def sec (L : List Int) (i : Nat) : List Int := (L.drop (i * 128)).take 128

theorem length_sec (L : List Int) (n i : Nat) (hL : L.length = n * 128) (hi : i < n) : (sec L i).length = 128 := by
  simp only [sec, List.length_take, List.length_drop, hL]
  have : (i + 1) * 128 ≤ n * 128 := Nat.mul_le_mul_right _ hi
  omega

theorem getElem?_sec (L : List Int) (i j : Nat) (hj : j < 128) : (sec L i)[j]? = L[i * 128 + j]? := by
  simp [sec, hj, List.getElem?_drop]

/-- A sector of an image into which a beginning of another one was laid. -/
theorem sec_splice (L bs : List Int) (n i j : Nat) (hL : L.length = n * 128) (hb : bs.length ≤ 128) (hi : i < n) :
    sec (splice L (i * 128) bs) j = if j = i then bs ++ (sec L i).drop bs.length else sec L j := by
  have hin : (i + 1) * 128 ≤ n * 128 := Nat.mul_le_mul_right _ hi
  apply List.ext_getElem?
  intro k
  rcases Nat.lt_or_ge k 128 with hk | hk
  · rw [getElem?_sec _ _ _ hk]
    simp only [splice, List.getElem?_append, List.length_take, List.getElem?_take, List.getElem?_drop]
    rw [show min (i * 128) L.length = i * 128 by omega]
    by_cases hji : j = i
    · subst hji
      rw [if_pos rfl, if_neg (show ¬ j * 128 + k < j * 128 by omega)]
      rw [show j * 128 + k - j * 128 = k by omega, List.getElem?_append]
      split
      · rfl
      · rw [List.getElem?_drop, getElem?_sec _ _ _ (by omega)]
        congr 1
        omega
    · rw [if_neg hji, getElem?_sec _ _ _ hk]
      rcases Nat.lt_or_gt_of_ne hji with h | h
      · have : (j + 1) * 128 ≤ i * 128 := Nat.mul_le_mul_right _ h
        rw [if_pos (by omega), if_pos (by omega)]
      · have : (i + 1) * 128 ≤ j * 128 := Nat.mul_le_mul_right _ h
        rw [if_neg (by omega), if_neg (by omega)]
        congr 1
        omega
  · have h1 : (sec (splice L (i * 128) bs) j)[k]? = none := by
      apply List.getElem?_eq_none; simp [sec]; omega
    rw [h1]
    symm
    apply List.getElem?_eq_none
    split
    · simp [sec]; omega
    · simp [sec]; omega

theorem sec_inj (L M : List Int) (n : Nat) (hL : L.length = n * 128) (hM : M.length = n * 128) (h : ∀ i, i < n → sec L i = sec M i) : L = M := by
  apply List.ext_getElem?
  intro k
  rcases Nat.lt_or_ge k (n * 128) with hk | hk
  · have h1 : (sec L (k / 128))[k % 128]? = (sec M (k / 128))[k % 128]? := by rw [h (k / 128) (by omega)]
    rw [getElem?_sec _ _ _ (by omega), getElem?_sec _ _ _ (by omega), show k / 128 * 128 + k % 128 = k by omega] at h1
    exact h1
  · rw [List.getElem?_eq_none (by omega), List.getElem?_eq_none (by omega)]

/-- What a list of writes has for a sector. -/
def look (es : List (Nat × List Int)) (i : Nat) : Option (List Int) := (es.find? (fun s => s.1 == i)).map (·.2)

/-- Sectors behind some writes (bytes that are missing stay as they were). -/
def overE (f : Nat → List Int) (es : List (Nat × List Int)) : Nat → List Int := es.foldl (fun g s => fun i => if i = s.1 then s.2 ++ (g i).drop s.2.length else g i) f

def over (f : Nat → List Int) (eps : List (List (Nat × List Int))) : Nat → List Int := eps.foldl overE f

theorem over_append (f : Nat → List Int) (a b : List (List (Nat × List Int))) : over f (a ++ b) = over (over f a) b := by simp [over]

/-- A write put into an epoch. -/
def putE (i : Nat) (bs : List Int) : List (Nat × List Int) → List (Nat × List Int)
  | [] => [(i, bs)]
  | (j, c) :: l => if j < i then (j, c) :: putE i bs l else if j = i then (i, bs) :: l else (i, bs) :: (j, c) :: l

theorem putE_at (i : Nat) (bs : List Int) (es : List (Nat × List Int)) (k : Nat) (hk : k ≤ es.length) (h1 : ∀ j (h : j < es.length), j < k → (es[j]).1 < i) (h2 : ∀ j (h : j < es.length), k ≤ j → i < (es[j]).1) :
    putE i bs es = es.take k ++ (i, bs) :: es.drop k := by
  induction es generalizing k with
  | nil => simp at hk; subst hk; rfl
  | cons e es ih =>
    obtain ⟨j, c⟩ := e
    cases k with
    | zero =>
      have := h2 0 (by simp) (Nat.le_refl _)
      simp at this
      simp only [putE]
      rw [if_neg (by omega), if_neg (by omega)]
      rfl
    | succ k =>
      have := h1 0 (by simp) (by omega)
      simp at this
      simp only [putE]
      rw [if_pos this, ih k (by simpa using hk) (fun j h hj => h1 (j + 1) (Nat.succ_lt_succ h) (by omega)) (fun j h hj => h2 (j + 1) (Nat.succ_lt_succ h) (by omega))]
      simp

theorem putE_set (i : Nat) (bs : List Int) (es : List (Nat × List Int)) (k : Nat) (hk : k < es.length) (h1 : ∀ j (h : j < es.length), j < k → (es[j]).1 < i) (h2 : (es[k]).1 = i) :
    putE i bs es = es.set k (i, bs) := by
  induction es generalizing k with
  | nil => simp at hk
  | cons e es ih =>
    obtain ⟨j, c⟩ := e
    cases k with
    | zero =>
      simp at h2
      subst h2
      simp [putE]
    | succ k =>
      have := h1 0 (by simp) (by omega)
      simp at this
      simp only [putE]
      rw [if_pos this, ih k (by simpa using hk) (fun j h hj => h1 (j + 1) (Nat.succ_lt_succ h) (by omega)) (by simpa using h2)]
      simp

/-- A write put into the last epoch, or into a new one. -/
def writeE (eps : List (List (Nat × List Int))) (opn : Bool) (i : Nat) (bs : List Int) : List (List (Nat × List Int)) :=
  if opn then eps.dropLast ++ [putE i bs (eps.getLastD [])] else eps ++ [[(i, bs)]]

theorem overE_cons (f : Nat → List Int) (s : Nat × List Int) (es : List (Nat × List Int)) : overE f (s :: es) = overE (fun i => if i = s.1 then s.2 ++ (f i).drop s.2.length else f i) es := rfl

theorem overE_other (es : List (Nat × List Int)) (i : Nat) (h : ∀ s ∈ es, s.1 ≠ i) (f : Nat → List Int) : overE f es i = f i := by
  induction es generalizing f with
  | nil => rfl
  | cons s es ih =>
    rw [overE_cons, ih (fun t ht => h t (by simp [ht]))]
    rw [if_neg]
    intro e
    exact h s (by simp) e.symm

theorem overE_cong (es : List (Nat × List Int)) (i : Nat) (f g : Nat → List Int) (h : f i = g i) : overE f es i = overE g es i := by
  induction es generalizing f g with
  | nil => exact h
  | cons s es ih => rw [overE_cons, overE_cons]; exact ih _ _ (by simp only [h])

theorem over_cong (eps : List (List (Nat × List Int))) (i : Nat) (f g : Nat → List Int) (h : f i = g i) : over f eps i = over g eps i := by
  induction eps generalizing f g with
  | nil => exact h
  | cons e eps ih => exact ih _ _ (overE_cong e i f g h)

/-- Behind an epoch into which a write was put, that write is what is there. -/
theorem overE_put (i : Nat) (bs : List Int) (hb : bs.length = 128) (n : Nat) (es : List (Nat × List Int)) (hr : (es.map (·.1)).Pairwise (· < ·)) (he : ∀ s ∈ es, s.2.length = 128) (f : Nat → List Int) (hf : ∀ j, j < n → (f j).length = 128) (j : Nat) (hj : j < n) :
    overE f (putE i bs es) j = if j = i then bs else overE f es j := by
  induction es generalizing f with
  | nil =>
    simp only [putE, overE, List.foldl]
    split
    · rename_i h; subst h; rw [List.drop_of_length_le (by rw [hf j hj]; omega)]; simp
    · rfl
  | cons e es ih =>
    obtain ⟨k, c⟩ := e
    have hc : c.length = 128 := he (k, c) (by simp)
    simp only [List.map_cons, List.pairwise_cons] at hr
    have hf' : ∀ j, j < n → ((fun i => if i = k then c ++ (f i).drop c.length else f i) j).length = 128 := by
      intro j hj
      simp only
      split
      · rw [List.drop_of_length_le (by rw [hf j hj]; omega)]; simpa using hc
      · exact hf j hj
    simp only [putE]
    rcases Nat.lt_trichotomy k i with h | h | h
    · rw [if_pos h, overE_cons, overE_cons]
      exact ih hr.2 (fun s hs => he s (by simp [hs])) _ hf'
    · subst h
      rw [if_neg (by omega), if_pos rfl, overE_cons, overE_cons]
      by_cases hjk : j = k
      · subst hjk
        rw [if_pos rfl, overE_other _ _ (fun s hs e => by have := hr.1 s.1 (List.mem_map.2 ⟨s, hs, rfl⟩); omega)]
        simp only
        rw [if_pos trivial, List.drop_of_length_le (by rw [hf j hj]; omega)]
        simp
      · rw [if_neg hjk]
        exact overE_cong _ _ _ _ (by simp only; rw [if_neg hjk, if_neg hjk])
    · rw [if_neg (by omega), if_neg (by omega), overE_cons, overE_cons, overE_cons]
      by_cases hji : j = i
      · subst hji
        rw [if_pos rfl, overE_other _ _ (fun s hs e => by have := hr.1 s.1 (List.mem_map.2 ⟨s, hs, rfl⟩); omega)]
        simp only
        rw [if_neg (by omega), if_pos trivial, List.drop_of_length_le (by rw [hf j hj]; omega)]
        simp
      · rw [if_neg hji]
        exact overE_cong _ _ _ _ (by simp only; rw [if_neg hji])

def Snt.ab (s : Snt) : Nat × List Int := (s.sec, s.bs)
def Ep.ab (e : Ep) : List (Nat × List Int) := e.es.map Snt.ab
def Dk.ab (d : Dk) : List (List (Nat × List Int)) := d.eps.map Ep.ab

end Go.Proofs.YtbgommpdmnbplaaGreatDoor

/- What slices.Insert does with one write, for every row of writes that is owned: the row with it at its place; nothing turns but that row's block. -/
namespace Go.Proofs.YtbgommpdmnbplaaGreatDoor
open Go.RowKit
set_option linter.unusedVariables false

theorem Tryz.infoSE : (Tryz.prog.info? 120).map (fun i => (i.zero, i.size, i.bytes)) = some (some (.agg #[.int .i64 0, .slice none 0 0]), 2, 32) := by kernel_rfl

/-- What Insert leaves. -/
def Inserted (w : World) (v : Value) (n k : Nat) (xs : List Value) (a b : Value) (e : Ending) (w' : World) : Prop :=
  ∃ v', e = .returned v' ∧ w'.ownsRow 0 120 2 v' (n + 1) (xs.take (k * 2) ++ ([a, b] ++ xs.drop (k * 2))) ∧ Upd (fun x => v.ownBlock = some x) w w' ∧ (v'.ownBlock = v.ownBlock ∨ ∀ x, v'.ownBlock = some x → w.heap.size ≤ x) ∧ (∃ x, v'.ownBlock = some x)

theorem heap_cells {w : World} {g : Nat} {cur : Array Value} {t : TypeId} (h : w.heap[g]? = some (.cells cur t (0, 0))) (j : Nat) (v : Value) (hj : cur.toList[j]? = some v) : w.cell? ⟨g, j, none⟩ = some v := by
  rw [cell_of_row w g j cur t (0, 0) h]
  simpa using hj

set_option maxHeartbeats 1000000 in
set_option maxRecDepth 20000 in
theorem insert_end (v : Value) (n : Nat) (xs : List Value) (vb : Nat) (t : TypeId) (a b : Value) (w : World) (hown : w.ownsRow 0 120 2 v n xs) (hn : n ≤ 4096) (hv : w.heap[vb]? = some (.cells #[a, b] t (0, 0))) (ha : a.oneCell' = true) (hb : b.oneCell' = true) :
    Calls Tryz.prog 251 #[v, .int .i64 n, .slice (some ⟨vb, 0, none⟩) 1 1] w (Inserted w v n n xs a b) := by
  obtain ⟨i0, hi, hz0, hz1, hz2⟩ := info_parts Tryz.infoSE
  have HX : Hid (xs.take (n * 2) ++ ([a, b] ++ xs.drop (n * 2)) = xs ++ [a, b]) := by
    show _ = _
    rw [List.take_of_length_le (by rw [hown.1]; exact Nat.le_refl _), List.drop_of_length_le (by rw [hown.1]; exact Nat.le_refl _)]
    rfl
  have HN : Hid (∀ j u, [a, b][j]? = some u → w.cell? ((⟨vb, 0, none⟩ : Addr).add j) = some u) := fun j u hj => by
    rw [Addr.add_lit, Nat.zero_add]
    exact heap_cells hv j u hj
  have H1 : Hid (∀ u ∈ [a, b], u.oneCell' = true) := by
    intro u hu
    simp at hu
    rcases hu with rfl | rfl
    · exact ha
    · exact hb
  have HO := hid hown
  have HH := hid hown.lt
  have hv2 : (∃ c, v = .slice none n c ∧ n = 0) ∨ ∃ g c, v = .slice (some ⟨g, 0, none⟩) n c ∧ n ≤ c ∧ c ≤ 9223372036854775807 := by
    rcases hown.2 with ⟨rfl, rfl⟩ | ⟨g, c, cur, rfl, _, _, h1, h2, _⟩
    · exact .inl ⟨0, rfl, rfl⟩
    · exact .inr ⟨g, c, rfl, h1, by unfold maxLen at h2; omega⟩
  clear hown
  rcases hv2 with ⟨c, rfl, rfl⟩ | ⟨g, c, rfl, h1, h2⟩
  · go_enter Tryz.func251, Tryz.ntmps251
    go_wp2_with (at_builtin; go_must (refine wpList_append_where rfl _ _ 110 rfl 120 i0 _ 2 32 Tryz.underlying110 hi hz0 hz1 hz2 rfl (by decide) _ 0 xs rfl HO.out ⟨vb, 0, none⟩ 1 1 [a, b] rfl rfl HN.out H1.out (by unfold maxLen; omega) (by omega) ?_))
    intro v' w1 hO hU hnil hW
    go_wp2_with fail
    go_ret
    refine ⟨v', rfl, by rw [HX.out]; exact hO.out, hU, hW.out, ?_⟩
    rcases hO.out.2 with ⟨_, h0⟩ | ⟨g, cap, cur, rfl, _, hh, _⟩
    · omega
    · exact ⟨g, rfl⟩
  · go_enter Tryz.func251, Tryz.ntmps251
    go_wp2_with (at_builtin; go_must (refine wpList_append_where rfl _ _ 110 rfl 120 i0 _ 2 32 Tryz.underlying110 hi hz0 hz1 hz2 rfl (by decide) _ n xs rfl HO.out ⟨vb, 0, none⟩ 1 1 [a, b] rfl rfl HN.out H1.out (by unfold maxLen; omega) (by omega) ?_))
    all_goals
      intro v' w1 hO hU hnil hW
      go_wp2_with fail
      go_ret
      refine ⟨v', rfl, by rw [HX.out]; exact hO.out, hU, hW.out, ?_⟩
      rcases hO.out.2 with ⟨_, h0⟩ | ⟨g, cap, cur, rfl, _, hh, _⟩
      · omega
      · exact ⟨g, rfl⟩

/-- 'copy' as one step of a region that draws its order. -/
theorem step_copy2 {P : Program} {ops : Array Oper} {o : Oper} {a : Act} {w : World} {K : Act → World → Prop} {Q : Exit → Act → World → Prop} {E : Prop}
    (hg : o.guard = none) (d x : Operand) (dT sT : TypeId) (hop : o.op = Op.call { callee := Callee.builtin Builtin.copy, args := #[d, x], argTypes := #[dT, sT] })
    (v u : Value) (hd : a.eval d = v) (hx : a.eval x = u) {v' : Value} {w' : World} (hr : (Builtin.copy_ #[dT, sT] o.type #[v, u]).run P w = .ok v' w') (hK : K (a.put o.dst v') w') :
    if Region.wanted o (yielded ops a.tmps) = true then Oper.wp P o a w K Q else E := by
  have hw : Region.wanted o (yielded ops a.tmps) = true := by simp [Region.wanted, hg]
  rw [if_pos hw]
  unfold Oper.wp
  simp [execOp, hop, resolve, invoke, builtin, hd, hx, hr, Result.andThen]
  exact hK

theorem wpList_copy_is {P : Program} (w : World) {ops : Array Oper} {rest : List Oper} {o : Oper} {a : Act} {Q : Exit → Act → World → Prop} (hgd : o.guard = none) (d s : Operand) (t t' : TypeId)
    (ho : o.op = .call { callee := .builtin .copy, args := #[d, s], argTypes := #[t, t'] }) (v u : Value) (hd : a.eval d = v) (hs : a.eval s = u) {v' : Value} {w' : World}
    (hr : (Builtin.copy_ #[t, t'] o.type #[v, u]).run P w = .ok v' w') (h : wpList P ops Q rest (a.put o.dst v') w') : wpList P ops Q (o :: rest) a w := by
  refine wpList_plain hgd fun K hK => ?_
  unfold Oper.wp execOp
  simp only [ho, resolve, invoke, builtin, Sem.run_bind, Sem.run_pure, Result.andThen_ok, List.map_toArray, List.map_cons, List.map_nil, hd, hs, hr]
  exact hK _ _ h

theorem Tryz.zSE : ∀ w, (Go.sizeOf 120).run Tryz.prog w = .ok 2 w := by
  intro w
  obtain ⟨i0, hi, hz0, hz1, hz2⟩ := info_parts Tryz.infoSE
  simp [Go.sizeOf, typeInfo, hi, hz1]

theorem splice_take {α : Type} (L X cs : List α) (m k : Nat) (a : List α) (hX : L.take m = X) (hXl : X.length = m) (hk : k + a.length ≤ m + a.length) (hcs : cs = X.drop k) (hL : m + a.length ≤ L.length) (hkm : k ≤ m) :
    (splice (splice L (k + a.length) cs) k a).take (m + a.length) = X.take k ++ (a ++ X.drop k) := by
  subst hX
  subst hcs
  apply List.ext_getElem?
  intro j
  simp only [splice, List.getElem?_take, List.getElem?_append, List.length_take, List.getElem?_drop, List.length_append, List.length_drop]
  grind

set_option maxHeartbeats 1000000 in
set_option maxRecDepth 20000 in
theorem insert_room (g c n k : Nat) (xs : List Value) (vb : Nat) (t : TypeId) (a b : Value) (w : World) (hown : w.ownsRow 0 120 2 (.slice (some ⟨g, 0, none⟩) n c) n xs) (hn : n ≤ 4096) (hk : k < n) (hroom : n + 1 ≤ c) (hv : w.heap[vb]? = some (.cells #[a, b] t (0, 0))) (hvb : vb ≠ g) (ha : a.oneCell' = true) (hb : b.oneCell' = true) (h1 : ∀ u ∈ xs, u.oneCell' = true) :
    Calls Tryz.prog 251 #[.slice (some ⟨g, 0, none⟩) n c, .int .i64 k, .slice (some ⟨vb, 0, none⟩) 1 1] w (Inserted w (.slice (some ⟨g, 0, none⟩) n c) n k xs a b) := by
  obtain ⟨cur, hg, hcm, hcs, htake⟩ : ∃ cur, w.heap[g]? = some (.cells cur 120 (0, 0)) ∧ c ≤ maxLen ∧ cur.size = c * 2 ∧ cur.toList.take (n * 2) = xs := by
    rcases hown.2 with ⟨h, _⟩ | ⟨g', c', cur, h, _, hg, _, hcm, hcs, htake⟩
    · cases h
    · injection h with e1 e2 e3
      injection e1 with e1
      injection e1 with e1
      subst e1; subst e3
      exact ⟨cur, hg, hcm, hcs, htake⟩
  have hxl := hown.1
  have hc63 : c ≤ 9223372036854775807 := by unfold maxLen at hcm; omega
  have hsz : (Tryz.prog.info? 120).map (·.size) = some 2 := by
    obtain ⟨i0, hi0, h0, h1, h2⟩ := info_parts Tryz.infoSE
    rw [hi0]; simp [h1]
  have hov : ∀ lb cb, (callFunc 253 #[.slice (some ⟨vb, 0, none⟩) 1 1, .slice (some ⟨g, (k + 1) * 2, none⟩) lb cb]).run Tryz.prog w = .ok (.value (.bool false)) w := fun lb cb => by
    rw [run_callFunc_extern Tryz.func253 (by kernel_rfl) (by kernel_rfl) (by kernel_rfl) (e := Extern.SlicesOverlaps.overlaps #[110, 110] #[4]) (by kernel_rfl),
      Lib.run_overlaps_apart w 110 4 120 Tryz.underlying110 2 Tryz.zSE ⟨vb, 0, none⟩ ⟨g, (k + 1) * 2, none⟩ 1 1 lb cb hvb t 120 2 (c * 2) (by simp [World.shape?, hv]) (by simp [World.shape?, hg, hcs]) (by omega) (by simp [World.frozen?, hv]) (by simp [World.frozen?, hv])]
    rfl
  have hdl : (xs.drop (k * 2)).length = (n - k) * 2 := by rw [List.length_drop, hxl]; omega
  have hcurl : cur.toList.length = c * 2 := by rw [Array.length_toList, hcs]
  obtain ⟨L1, hL1⟩ : ∃ L1, L1 = splice cur.toList ((k + 1) * 2) (xs.drop (k * 2)) := ⟨_, rfl⟩
  have hL1l : L1.length = c * 2 := by rw [hL1, length_splice _ _ _ (by omega), hcurl]
  have hcp1 : ∀ ty dc sc, (Builtin.copy_ #[110, 110] ty #[.slice (some ⟨g, (k + 1) * 2, none⟩) (n - k) dc, .slice (some ⟨g, k * 2, none⟩) (n + 1 - k) sc]).run Tryz.prog w.drew = .ok (goInt ((n - k : Nat) : Int)) (w.drew.setRow g L1.toArray) := fun ty dc sc => by
    rw [run_copy_row2 w.drew 110 110 ty 120 2 g ((k + 1) * 2) (n - k) dc ⟨g, k * 2, none⟩ (n + 1 - k) sc (n - k) cur 120 (xs.drop (k * 2)) Tryz.underlying110 hsz hg (by simp only [Nat.min_def]; split <;> omega) hdl ?_ (by rw [hdl, hcs]; omega) (fun u hu => h1 u (List.mem_of_mem_drop hu))]
    · rw [hL1]; simp [splice]
    · intro j u hj
      rw [Addr.add_lit]
      refine heap_cells (w := w.drew) hg _ u ?_
      rw [List.getElem?_drop, ← htake, List.getElem?_take] at hj
      split at hj
      · exact hj
      · cases hj
  have hcp2 : ∀ (W : World), W.heap = (w.setRow g L1.toArray).heap → ∀ ty dc, (Builtin.copy_ #[110, 110] ty #[.slice (some ⟨g, k * 2, none⟩) (n + 1 - k) dc, .slice (some ⟨vb, 0, none⟩) 1 1]).run Tryz.prog W = .ok (goInt 1) (W.setRow g (splice L1 (k * 2) [a, b]).toArray) := fun W hW ty dc => by
    have hWg : W.heap[g]? = some (.cells L1.toArray 120 (0, 0)) := by rw [hW]; exact setRow_heap w g cur _ _ _ hg
    have hWv : W.heap[vb]? = some (.cells #[a, b] t (0, 0)) := by rw [hW, setRow_other w g vb _ hvb]; exact hv
    rw [run_copy_row2 W 110 110 ty 120 2 g (k * 2) (n + 1 - k) dc ⟨vb, 0, none⟩ 1 1 1 L1.toArray 120 [a, b] Tryz.underlying110 hsz hWg (by simp only [Nat.min_def]; split <;> omega) rfl ?_ (by simp [hL1l]; omega) ?_]
    · simp [splice]
    · intro j u hj
      rw [Addr.add_lit, Nat.zero_add]
      exact heap_cells hWv j u hj
    · intro u hu
      simp at hu
      rcases hu with rfl | rfl
      · exact ha
      · exact hb
  have hrow : (splice L1 (k * 2) [a, b]).take ((n + 1) * 2) = xs.take (k * 2) ++ ([a, b] ++ xs.drop (k * 2)) := by
    have := splice_take cur.toList xs (xs.drop (k * 2)) (n * 2) (k * 2) [a, b] htake hxl (by simp; omega) rfl (by simp [hcs]; omega) (by omega)
    rw [hL1, show (k + 1) * 2 = k * 2 + [a, b].length by simp; omega, show (n + 1) * 2 = n * 2 + [a, b].length by simp; omega]
    exact this
  have hfin : ∀ (W : World), W.heap = (w.setRow g L1.toArray).heap → W.os = w.os → W.tape = w.tape → W.output = w.output → Inserted w (.slice (some ⟨g, 0, none⟩) n c) n k xs a b (.returned (.slice (some ⟨g, 0, none⟩) (n + 1) c)) (W.setRow g (splice L1 (k * 2) [a, b]).toArray) := by
    intro W hW h1 h2 h3
    have hWg : W.heap[g]? = some (.cells L1.toArray 120 (0, 0)) := by rw [hW]; exact setRow_heap w g cur _ _ _ hg
    refine ⟨_, rfl, ⟨?_, .inr ⟨g, c, _, rfl, Nat.zero_le _, setRow_heap W g _ _ _ _ hWg, hroom, hcm, ?_, by simpa using hrow⟩⟩, ⟨h1, h2, h3, by rw [setRow_size, hW]; simp, ?_⟩, .inl rfl, ⟨g, rfl⟩⟩
    · rw [← hrow, List.length_take, length_splice _ _ _ (by simp [hL1l]; omega), hL1l]; omega
    · simp [length_splice _ _ [a, b] (show k * 2 + [a, b].length ≤ L1.length by simp [hL1l]; omega), hL1l]
    · intro x hx hne
      simp [Value.ownBlock] at hne
      rw [setRow_other W g x _ (fun e => hne e.symm), hW, setRow_other w g x _ (fun e => hne e.symm)]
  have HF := hid hfin
  have hb2 : ¬ (c = k + 1) := by omega
  have hb4 : ¬ (c = k) := by omega
  have hw1 : IntKind.i64.wrap ((k : Int) + 1) = (k : Int) + 1 := by rw [IntKind.wrap_i64]; omega
  have hb1 : (0 : Int) ≤ (k : Int) + 1 := by omega
  have hin : k ≤ n := by omega
  have htn : ((k : Int) + 1).toNat = k + 1 := by omega
  have hb3 : (k : Int) ≤ (n : Int) + 1 := by omega
  clear hown hL1 hrow hfin htake hcurl hdl
  go_enter Tryz.func251, Tryz.ntmps251
  go_wp2_with (simp only [hov])
  go_region_law (refine step_copy2 rfl _ _ 110 110 rfl _ _ (by simp [Act.eval, Act.put]) (by simp [Act.eval, Act.put]) (hcp1 _ _ _) ?_)
  have c2 := hcp2 (w.drew.setRow g L1.toArray) rfl 3 (c - k)
  go_wp2_with fail
  go_ret
  exact HF.out _ rfl rfl rfl rfl

theorem splice_grow {α : Type} (Z X : List α) (k m : Nat) (a : List α) (hX : X.length = m) (hk : k ≤ m) (hZ : X.take k ++ Z.drop k = Z) (hl : m + a.length ≤ Z.length) :
    (splice (splice Z k a) (k + a.length) (X.drop k)).take (m + a.length) = X.take k ++ (a ++ X.drop k) := by
  have hZk : ∀ j, j < k → Z[j]? = X[j]? := by
    intro j hj
    rw [← hZ, List.getElem?_append_left (by simp; omega), List.getElem?_take, if_pos hj]
  apply List.ext_getElem?
  intro j
  simp only [splice, List.getElem?_take, List.getElem?_append, List.length_take, List.getElem?_drop, List.length_append, List.length_drop]
  have := hZk j
  grind

set_option maxHeartbeats 1000000 in
set_option maxRecDepth 20000 in
theorem insert_grow (g c n k : Nat) (xs : List Value) (vb : Nat) (t : TypeId) (a b : Value) (w : World) (hown : w.ownsRow 0 120 2 (.slice (some ⟨g, 0, none⟩) n c) n xs) (hn : n ≤ 4096) (hk : k < n) (hroom : c < n + 1) (hv : w.heap[vb]? = some (.cells #[a, b] t (0, 0))) (ha : a.oneCell' = true) (hb : b.oneCell' = true) (h1 : ∀ u ∈ xs, u.oneCell' = true) :
    Calls Tryz.prog 251 #[.slice (some ⟨g, 0, none⟩) n c, .int .i64 k, .slice (some ⟨vb, 0, none⟩) 1 1] w (Inserted w (.slice (some ⟨g, 0, none⟩) n c) n k xs a b) := by
  obtain ⟨cur, hg, hnc, hcs, htake⟩ : ∃ cur, w.heap[g]? = some (.cells cur 120 (0, 0)) ∧ n ≤ c ∧ cur.size = c * 2 ∧ cur.toList.take (n * 2) = xs := by
    rcases hown.2 with ⟨h, _⟩ | ⟨g', c', cur, h, _, hg, hnc, hcm, hcs, htake⟩
    · cases h
    · injection h with e1 e2 e3
      injection e1 with e1
      injection e1 with e1
      subst e1; subst e3
      exact ⟨cur, hg, hnc, hcs, htake⟩
  have hxl := hown.1
  obtain ⟨i0, hi0, hz0, hzs, hzb⟩ := info_parts Tryz.infoSE
  have hsz : (Tryz.prog.info? 120).map (·.size) = some 2 := by rw [hi0]; simp [hzs]
  have hgl : g < w.heap.size := (Array.getElem?_eq_some_iff.1 hg).1
  have hvl : vb < w.heap.size := (Array.getElem?_eq_some_iff.1 hv).1
  have hsrc : ∀ j u, xs[j]? = some u → w.cell? ⟨g, j, none⟩ = some u := fun j u hj => by
    refine heap_cells hg j u ?_
    rw [← htake, List.getElem?_take] at hj
    split at hj
    · exact hj
    · cases hj
  have hkk : (n : Int) + 1 - (k : Int) = ((n + 1 - k : Nat) : Int) := by omega
  have hik : k + (n + 1 - k) = n + 1 := by omega
  have hold : (Builtin.firstCells i0.size k (.slice (some ⟨g, 0, none⟩) k c)).run Tryz.prog w.drew = .ok (xs.take (k * 2)).toArray w.drew := by
    rw [hzs]
    exact run_firstCells_some w.drew 2 k ⟨g, 0, none⟩ k c (xs.take (k * 2)) (by rw [List.length_take, hxl]; omega) (fun j v hj => by
      rw [Addr.add_lit, Nat.zero_add]
      rw [List.getElem?_take] at hj
      split at hj
      · exact hsrc j v hj
      · cases hj)
  obtain ⟨G, hG⟩ : ∃ G, G = grownCap w (n + 1) c 120 := ⟨_, rfl⟩
  have hGn : n + 1 ≤ G := by rw [hG]; exact grownCap_ge w _ _ _
  have hGm : G ≤ maxLen := by rw [hG]; exact grownCap_le_maxLen w _ _ _ (by unfold maxLen; omega)
  have hG63 : G ≤ 9223372036854775807 := by unfold maxLen at hGm; omega
  obtain ⟨ROW, hROW⟩ : ∃ ROW : List Value, ROW = ((xs.take (k * 2)).toArray ++ Builtin.zeroCells (Value.agg #[.int .i64 0, .slice none 0 0]).cells (n + 1 - k) ++ Builtin.zeroCells (Value.agg #[.int .i64 0, .slice none 0 0]).cells (G - (n + 1))).toList := ⟨_, rfl⟩
  have hrz : ∀ ty, (Builtin.append_ #[110, 3] ty #[.slice (some ⟨g, 0, none⟩) k c, .int .i64 ((n : Int) + 1 - (k : Int))]).run Tryz.prog w = .ok (.slice (some ⟨w.heap.size, 0, none⟩) (n + 1) G) (w.drew.alloc (.cells ROW.toArray 120)) := fun ty => by
    have h := Lib.run_append_grow_zeros w 110 3 ty 120 i0 _ .i64 .i64 Tryz.underlying110 Tryz.underlying3 hi0 hz0 (some ⟨g, 0, none⟩) k c (xs.take (k * 2)) hold (n + 1 - k) (by omega) (by omega) (by omega) (by omega) (by rw [hzb]; omega) (by rw [hzb, hik]; exact growslice_fits hroom (by omega))
    rw [hik] at h
    rw [hkk, hROW, hG, Array.toArray_toList]
    exact h
  have hROWl : ROW.length = G * 2 := by
    rw [hROW, Array.length_toList]
    simp only [Array.size_append, List.size_toArray, List.length_take, size_zeroCells, hxl]
    simp [Value.cells]
    omega
  have hROWk : xs.take (k * 2) ++ ROW.drop (k * 2) = ROW := by
    have : ROW.take (k * 2) = xs.take (k * 2) := by
      rw [hROW]
      simp only [Array.toList_append, List.append_assoc]
      rw [List.take_append_of_le_length (by rw [List.length_take, hxl]; omega), List.take_of_length_le (by rw [List.length_take]; omega)]
    rw [← this]
    exact List.take_append_drop _ _
  obtain ⟨R1, hR1⟩ : ∃ R1, R1 = splice ROW (k * 2) [a, b] := ⟨_, rfl⟩
  have hR1l : R1.length = G * 2 := by rw [hR1, length_splice _ _ _ (by simp [hROWl]; omega), hROWl]
  obtain ⟨R2, hR2⟩ : ∃ R2, R2 = splice R1 ((k + 1) * 2) (xs.drop (k * 2)) := ⟨_, rfl⟩
  have hdl : (xs.drop (k * 2)).length = (n - k) * 2 := by rw [List.length_drop, hxl]; omega
  have hR2l : R2.length = G * 2 := by rw [hR2, length_splice _ _ _ (by rw [hdl, hR1l]; omega), hR1l]
  have hrow : R2.take ((n + 1) * 2) = xs.take (k * 2) ++ ([a, b] ++ xs.drop (k * 2)) := by
    have := splice_grow ROW xs (k * 2) (n * 2) [a, b] hxl (by omega) hROWk (by simp [hROWl]; omega)
    rw [hR2, hR1, show (k + 1) * 2 = k * 2 + [a, b].length by simp; omega, show (n + 1) * 2 = n * 2 + [a, b].length by simp; omega]
    exact this
  have hcpA : ∀ (W : World), W.heap = (w.alloc (.cells ROW.toArray 120)).heap → ∀ ty dc, (Builtin.copy_ #[110, 110] ty #[.slice (some ⟨w.heap.size, k * 2, none⟩) (n + 1 - k) dc, .slice (some ⟨vb, 0, none⟩) 1 1]).run Tryz.prog W = .ok (goInt 1) (W.setRow w.heap.size R1.toArray) := fun W hW ty dc => by
    have hWg : W.heap[w.heap.size]? = some (.cells ROW.toArray 120 (0, 0)) := by rw [hW]; exact heap_alloc_new w _
    have hWv : W.heap[vb]? = some (.cells #[a, b] t (0, 0)) := by rw [hW, Below.heap_alloc w _ vb hvl]; exact hv
    rw [run_copy_row2 W 110 110 ty 120 2 w.heap.size (k * 2) (n + 1 - k) dc ⟨vb, 0, none⟩ 1 1 1 ROW.toArray 120 [a, b] Tryz.underlying110 hsz hWg (by simp only [Nat.min_def]; split <;> omega) rfl ?_ (by simp [hROWl]; omega) ?_]
    · rw [hR1]; simp [splice]
    · intro j u hj
      rw [Addr.add_lit, Nat.zero_add]
      exact heap_cells hWv j u hj
    · intro u hu
      simp at hu
      rcases hu with rfl | rfl
      · exact ha
      · exact hb
  have hcpB : ∀ (W : World), W.heap = ((w.alloc (.cells ROW.toArray 120)).setRow w.heap.size R1.toArray).heap → ∀ ty dc sc, (Builtin.copy_ #[110, 110] ty #[.slice (some ⟨w.heap.size, (k + 1) * 2, none⟩) (n - k) dc, .slice (some ⟨g, k * 2, none⟩) (n - k) sc]).run Tryz.prog W = .ok (goInt ((n - k : Nat) : Int)) (W.setRow w.heap.size R2.toArray) := fun W hW ty dc sc => by
    have hWg : W.heap[w.heap.size]? = some (.cells R1.toArray 120 (0, 0)) := by rw [hW]; exact setRow_heap _ _ _ _ _ _ (heap_alloc_new w _)
    have hWo : W.heap[g]? = w.heap[g]? := by rw [hW, setRow_other _ _ g _ (by omega), Below.heap_alloc w _ g hgl]
    rw [run_copy_row2 W 110 110 ty 120 2 w.heap.size ((k + 1) * 2) (n - k) dc ⟨g, k * 2, none⟩ (n - k) sc (n - k) R1.toArray 120 (xs.drop (k * 2)) Tryz.underlying110 hsz hWg (by simp) hdl ?_ (by rw [hdl]; simp [hR1l]; omega) (fun u hu => h1 u (List.mem_of_mem_drop hu))]
    · rw [hR2]; simp [splice]
    · intro j u hj
      rw [Addr.add_lit]
      rw [World.cell?_of_block (w := w) (a := ⟨g, k * 2 + j, none⟩) hWo]
      exact hsrc _ u (by rwa [List.getElem?_drop] at hj)
  have hfin : ∀ (W : World), W.heap = ((w.alloc (.cells ROW.toArray 120)).setRow w.heap.size R1.toArray).heap → W.os = w.os → W.tape = w.tape → W.output = w.output → Inserted w (.slice (some ⟨g, 0, none⟩) n c) n k xs a b (.returned (.slice (some ⟨w.heap.size, 0, none⟩) (n + 1) G)) (W.setRow w.heap.size R2.toArray) := by
    intro W hW h1 h2 h3
    have hWg : W.heap[w.heap.size]? = some (.cells R1.toArray 120 (0, 0)) := by rw [hW]; exact setRow_heap _ _ _ _ _ _ (heap_alloc_new w _)
    refine ⟨_, rfl, ⟨?_, .inr ⟨w.heap.size, G, _, rfl, Nat.zero_le _, setRow_heap W _ _ _ _ _ hWg, hGn, hGm, by simp [hR2l], by simpa using hrow⟩⟩, ⟨h1, h2, h3, by rw [setRow_size, hW, setRow_size]; simp, ?_⟩, .inr ?_, ⟨_, rfl⟩⟩
    · rw [← hrow, List.length_take, hR2l]; omega
    · intro x hx _
      rw [setRow_other W _ x _ (by omega), hW, setRow_other _ _ x _ (by omega), Below.heap_alloc w _ x hx]
    · intro x hx
      simp [Value.ownBlock] at hx
      omega
  have HF := hid hfin
  have hGk : ¬ (G = k) := by omega
  have hGk1 : ¬ (G = k + 1) := by omega
  have hck : ¬ (c = k) := by omega
  have hz2 : ¬ ((k : Int) = (n : Int)) := by omega
  have hz3 : (c : Int) < (n : Int) + 1 := by omega
  have hw1 : IntKind.i64.wrap ((k : Int) + 1) = (k : Int) + 1 := by rw [IntKind.wrap_i64]; omega
  have hb1 : (0 : Int) ≤ (k : Int) + 1 := by omega
  have hin : k ≤ n := by omega
  have htn : ((k : Int) + 1).toNat = k + 1 := by omega
  have hb3 : (k : Int) ≤ (n : Int) := by omega
  clear hown hfin hrow hR2l hR1l hROWk hROWl hold hkk hik htake hdl hROW hG hR1 hR2 hsrc h1
  go_enter Tryz.func251, Tryz.ntmps251
  have cA := hcpA ((w.alloc (.cells ROW.toArray 120)).drew) rfl 3 (G - k)
  go_wp2_with (at_builtin; refine Lib.wpList_append_run _ rfl _ _ _ _ rfl _ _ rfl rfl _ _ (hrz _) ?_)
  have cB := hcpB ((w.alloc (Obj.cells ROW.toArray 120)).drew.setRow w.heap.size R1.toArray).drew rfl 3 (G - (k + 1)) (c - k)
  go_region_law (refine step_copy2 rfl _ _ 110 110 rfl (.slice (some ⟨w.heap.size, (k + 1) * 2, none⟩) (n - k) (G - (k + 1))) (.slice (some ⟨g, k * 2, none⟩) (n - k) (c - k)) (by simp [Act.eval, Act.put]) (by simp [Act.eval, Act.put]) cB ?_)
  go_wp2_with fail
  go_ret
  exact HF.out _ rfl rfl rfl rfl

/-- slices.Insert with one write. -/
theorem insert_any (v : Value) (n k : Nat) (xs : List Value) (vb : Nat) (t : TypeId) (a b : Value) (w : World) (hown : w.ownsRow 0 120 2 v n xs) (hn : n ≤ 4096) (hk : k ≤ n) (hv : w.heap[vb]? = some (.cells #[a, b] t (0, 0))) (hvb : v.ownBlock ≠ some vb) (ha : a.oneCell' = true) (hb : b.oneCell' = true) (h1 : ∀ u ∈ xs, u.oneCell' = true) :
    Calls Tryz.prog 251 #[v, .int .i64 k, .slice (some ⟨vb, 0, none⟩) 1 1] w (Inserted w v n k xs a b) := by
  rcases (show k = n ∨ k < n by omega) with rfl | hlt
  · exact insert_end v k xs vb t a b w hown hn hv ha hb
  · rcases hown.2 with ⟨rfl, rfl⟩ | ⟨g, c, cur, rfl, _⟩
    · omega
    · rcases Nat.lt_or_ge c (n + 1) with h | h
      · exact insert_grow g c n k xs vb t a b w hown hn hlt h hv ha hb h1
      · exact insert_room g c n k xs vb t a b w hown hn hlt h hv (by simpa [Value.ownBlock, eq_comm] using hvb) ha hb h1

end Go.Proofs.YtbgommpdmnbplaaGreatDoor

/- What bytes.Clone (and slices.Clone of bytes) does: nil of nil; else a new row with the same bytes; nothing old turns. -/
namespace Go.Proofs.YtbgommpdmnbplaaGreatDoor
open Go.RowKit

theorem Tryz.scinfo5 : (Tryz.prog.info? 5).map (fun i => (i.zero, i.size, i.bytes)) = some (some (.int .u8 0), 1, 1) := by kernel_rfl

theorem sclone_nil (len cap : Nat) (w : World) :
    Calls Tryz.prog 80 #[.slice none len cap] w fun e w' => e = .returned (.slice none 0 0) ∧ w' = w := by
  have hq := Lib.run_eql_slice_nil (P := Tryz.prog) w 81 5 none len cap 0 0 Tryz.underlying81
  simp only [Option.isNone_none] at hq
  go_enter Tryz.func80, Tryz.ntmps80
  go_wp2
  go_ret
  exact ⟨rfl, rfl⟩

set_option maxHeartbeats 400000 in
theorem sclone_any (a : Addr) (len cap : Nat) (zs : List Int) (w : World) (hs : Src w (some a) len zs) (hr : len ≤ 140737488355328) :
    Calls Tryz.prog 80 #[.slice (some a) len cap] w fun e w' => ∃ g c, e = .returned (.slice (some ⟨g, 0, none⟩) len c) ∧
      w'.ownsRow w.heap.size 5 1 (.slice (some ⟨g, 0, none⟩) len c) len (zs.map (Value.int .u8)) ∧ Below w.heap.size w w' := by
  obtain ⟨i0, hi, hz0, hz1, hz2⟩ := info_parts Tryz.scinfo5
  have hb0 : Below w.heap.size w (w.alloc (.cells #[] 5)) := (Below.refl _ _).alloc (Nat.le_refl _) _
  obtain ⟨cs, hcs⟩ : ∃ cs, cs = zs.map (Value.int .u8) := ⟨_, rfl⟩
  have HL : Hid (cs.length = len * 1) := by show _ = _; rw [hcs]; simp [hs.1]
  have H1 : Hid (∀ u ∈ cs, u.oneCell' = true) := by rw [hcs]; exact ints_oneCell _ _
  have HN : Hid (∀ j u, cs[j]? = some u → (w.alloc (.cells #[] 5)).cell? (a.add j) = some u) := by
    intro j u hj
    have hjl : j < cs.length := (List.getElem?_eq_some_iff.1 hj).1
    have hl : cs.length = len := by rw [hcs]; simp [hs.1]
    obtain ⟨b, o, e, hlt, hc⟩ := hs.2 (by omega)
    obtain rfl := Option.some.inj e
    rw [Addr.add_lit, hb0.cell (p := ⟨b, o + j, none⟩) hlt, hc j (by omega), ← hj, hcs]
    simp [List.getD, List.getElem?_eq_getElem (show j < zs.length by have := hs.1; omega)]
  have HO : Hid ((w.alloc (.cells #[] 5)).ownsRow w.heap.size 5 1 (.slice (some ⟨w.heap.size, 0, none⟩) 0 0) 0 []) := World.ownsRow_made w #[] 0 (Nat.le_refl _) (by unfold maxLen; omega) rfl
  have HC := hid hcs
  have HB := hid hb0
  clear hcs hb0 hs
  have hq := Lib.run_eql_slice_nil (P := Tryz.prog) w 81 5 (some a) len cap 0 0 Tryz.underlying81
  simp only [Option.isNone_some] at hq
  go_enter Tryz.func80, Tryz.ntmps80
  go_wp2_with (at_builtin; go_must (refine wpList_append_own _ rfl (.tmp 5) (.tmp 6) 81 rfl w.heap.size 5 i0 (.int .u8 0) 1 1 Tryz.underlying81 hi hz0 hz1 hz2 rfl (by decide) (.slice (some ⟨w.heap.size, 0, none⟩) 0 0) 0 [] rfl HO.out a len cap cs rfl HL.out HN.out H1.out (by unfold maxLen; omega) (by omega) (by simp) ?_))
  intro v' w1 hown hgrow hnil
  rw [HC.out] at hown
  have hb1 := HB.out.grown hgrow (by simp) (by intro q hq; simp [Value.ownBlock] at hq; omega)
  obtain ⟨g, c, rfl⟩ : ∃ g c, v' = .slice (some ⟨g, 0, none⟩) len c := by
    rcases hown.2 with ⟨h, _⟩ | ⟨g, c, _, h, _⟩
    · exact absurd h (by simpa using hnil)
    · exact ⟨g, c, h⟩
  have H1 := hid hown
  clear hown hgrow hnil
  go_wp2_with fail
  go_ret
  exact ⟨g, c, rfl, H1.out, hb1⟩

end Go.Proofs.YtbgommpdmnbplaaGreatDoor

/- What disk.find and disk.put do, for every epoch: where a sector stands; the epoch with the write put into it. -/
namespace Go.Proofs.YtbgommpdmnbplaaGreatDoor
open Go.RowKit
set_option linter.unusedVariables false

set_option maxHeartbeats 400000 in
theorem find_any (ae : Option Addr) (n c : Nat) (sec : Nat → Int) (bv : Nat → Value) (i : Int) (w : World) (hs : Sents w ae n sec bv) (hr : ∀ j k, j < k → k < n → sec j < sec k) (hn : n ≤ 1152921504606846976) :
    Calls Tryz.prog 121 #[.slice ae n c, .int .i64 i] w fun e w' => ∃ (k : Nat) (f : Bool), e = .returned (.tuple #[.int .i64 k, .bool f]) ∧ k ≤ n ∧ (∀ j, j < k → sec j < i) ∧ (∀ j, k ≤ j → j < n → i ≤ sec j) ∧ (f = true ↔ k < n ∧ sec k = i) ∧ Below w.heap.size w w' := by
  have k := hid (search_any ae n c sec bv i w hs hr hn)
  clear hs hr
  go_enter Tryz.func121, Tryz.ntmps121
  go_wp2_with fail
  refine k.out.mono ?_
  rintro e w1 ⟨k, f, rfl, h1, h2, h3, h4, hb⟩
  have H := hid (And.intro h2 (And.intro h3 h4))
  clear h2 h3 h4
  go_wp2_with fail
  go_ret2
  exact ⟨k, f, rfl, h1, H.out.1, H.out.2.1, H.out.2.2, hb⟩

def secAt (es : List Snt) (j : Nat) : Int := ((es[j]?).map (fun s => (s.sec : Int))).getD 0
def valAt (es : List Snt) (j : Nat) : Value := ((es[j]?).map Snt.val).getD (.slice none 0 0)

theorem secAt_eq (es : List Snt) (j : Nat) (h : j < es.length) : secAt es j = (es[j].sec : Int) := by simp [secAt, h]
theorem valAt_eq (es : List Snt) (j : Nat) (h : j < es.length) : valAt es j = es[j].val := by simp [valAt, h]

theorem own_shape {w : World} {B e size n : Nat} {v : Value} {xs : List Value} (h : w.ownsRow B e size v n xs) : ∃ ae c, v = .slice ae n c ∧ n ≤ c ∧ c ≤ 9223372036854775807 := by
  rcases h.2 with ⟨rfl, rfl⟩ | ⟨g, c, cur, rfl, _, _, h1, h2, _⟩
  · exact ⟨none, 0, rfl, by omega, by omega⟩
  · exact ⟨_, c, rfl, h1, by unfold maxLen at h2; omega⟩

theorem sents_of {w : World} {ae : Option Addr} {n c : Nat} {es : List Snt} (h : w.ownsRow 0 120 2 (.slice ae n c) n (sentCells es)) (hn : n = es.length) : Sents w ae n (secAt es) (valAt es) := by
  intro h0
  rcases h.2 with ⟨_, e⟩ | ⟨g, c', cur, e, _, hg, _⟩
  · omega
  · injection e with e1 e2 e3
    subst e1; subst e3
    refine ⟨g, 0, rfl, (Array.getElem?_eq_some_iff.1 hg).1, fun i hi => ?_⟩
    have hl : i < es.length := by omega
    have := sentCells_at es i hl
    constructor
    · rw [show 0 + i * 2 = i * 2 by omega, h.cellAt _ (by omega), this.1, secAt_eq _ _ hl]
    · rw [show 0 + i * 2 + 1 = i * 2 + 1 by omega, h.cellAt _ (by omega), this.2, valAt_eq _ _ hl]

theorem rise_sec {es : List Snt} {n : Nat} (h : Rise n (es.map Snt.sec)) : ∀ j k, j < k → k < es.length → secAt es j < secAt es k := by
  intro j k hjk hk
  rw [secAt_eq _ _ (by omega), secAt_eq _ _ hk]
  have := List.pairwise_iff_getElem.1 h.1 j k (by simp; omega) (by simpa using hk) hjk
  simp at this
  omega

theorem rising_len (l : List Nat) (n : Nat) : ∀ m, m ≤ n → l.Pairwise (· < ·) → (∀ x ∈ l, m ≤ x ∧ x < n) → l.length + m ≤ n := by
  induction l with
  | nil => intro m hm _ _; simpa using hm
  | cons a l ih =>
    intro m hm hp hx
    rw [List.pairwise_cons] at hp
    have ha := hx a (by simp)
    have := ih (m + 1) (by omega) hp.2 (fun x hx' => ⟨by have := hp.1 x hx'; omega, (hx x (by simp [hx'])).2⟩)
    simp
    omega

theorem rise_len {es : List Snt} {n : Nat} (h : Rise n (es.map Snt.sec)) : es.length ≤ n := by
  have := rising_len (es.map Snt.sec) n 0 (Nat.zero_le _) h.1 (fun x hx => ⟨Nat.zero_le _, h.2 x hx⟩)
  simpa using this

/-- What put leaves. -/
def Put (w : World) (e : Ep) (n i : Nat) (bs : List Int) (r : Ending) (w' : World) : Prop :=
  ∃ e' : Ep, r = .returned e'.v ∧ e'.ok w' n ∧ e'.ab = putE i bs e.ab ∧ Upd (· ∈ e.foot) w w' ∧ (∀ x ∈ e'.foot, x ∈ e.foot ∨ w.heap.size ≤ x) ∧ e'.foot.Nodup ∧ e'.es ≠ []

theorem ab_fst (es : List Snt) (j : Nat) (h : j < (es.map Snt.ab).length) : ((es.map Snt.ab)[j]).1 = (es[j]'(by simpa using h)).sec := by simp [Snt.ab]

/-- A write that is there gets other bytes. -/
theorem put_set {w w' : World} {e : Ep} {n i k : Nat} {bs : List Int} (he : e.ok w n) (hnd : e.foot.Nodup) (hk : k < e.es.length) (hik : e.es[k].sec = i) (h1 : ∀ j, j < k → secAt e.es j < i) (hbl : bs.length = 128)
    (hU : Upd (· = e.es[k].blk) w w') (hw : w'.ownsRow 0 5 1 e.es[k].val 128 (bs.map (Value.int .u8))) : Put w e n i bs (.returned e.v) w' := by
  obtain ⟨s, hs⟩ : ∃ s, s = e.es[k] := ⟨_, rfl⟩
  rw [← hs] at hik hU hw
  have hmem : s ∈ e.es := by rw [hs]; exact List.getElem_mem hk
  have hsplit : e.es = e.es.take k ++ s :: e.es.drop (k + 1) := by rw [hs]; simp
  have hset : e.es.set k { s with bs := bs } = e.es.take k ++ { s with bs := bs } :: e.es.drop (k + 1) := by
    rw [List.set_eq_take_append_cons_drop, if_pos hk]
  have hmapb : (e.es.set k { s with bs := bs }).map Snt.blk = e.es.map Snt.blk := by
    rw [hset]
    conv => rhs; rw [hsplit]
    simp
  have hmaps : (e.es.set k { s with bs := bs }).map Snt.sec = e.es.map Snt.sec := by
    rw [hset]
    conv => rhs; rw [hsplit]
    simp
  have hcells : sentCells (e.es.set k { s with bs := bs }) = sentCells e.es := by
    rw [hset]
    conv => rhs; rw [hsplit]
    simp [sentCells, Snt.val]
  have hfoot : ({ v := e.v, es := e.es.set k { s with bs := bs } } : Ep).foot = e.foot := by simp only [Ep.foot, hmapb]
  have hblk : s.blk ∈ e.foot := by simp only [Ep.foot, List.mem_append, List.mem_map]; exact .inr ⟨s, hmem, rfl⟩
  have hnd2 := hnd
  simp only [Ep.foot, List.nodup_append] at hnd2
  refine ⟨{ v := e.v, es := e.es.set k { s with bs := bs } }, rfl, ⟨?_, ?_, by rw [show ({ v := e.v, es := e.es.set k { s with bs := bs } } : Ep).es = e.es.set k { s with bs := bs } from rfl, hmaps]; exact he.rise⟩, ?_, hU.mono (fun x _ hx => hx ▸ hblk), fun x hx => .inl (by rwa [hfoot] at hx), by rw [hfoot]; exact hnd, ?_⟩
  · simp only [List.length_set, hcells]
    refine hU.own he.row fun x hx he' => ?_
    have : x ∈ vb e.v := by simp [vb, hx]
    exact hnd2.2.2 x this s.blk (List.mem_map.2 ⟨s, hmem, rfl⟩) he'
  · intro u hu
    simp only [hset, List.mem_append, List.mem_cons] at hu
    have hother : ∀ u ∈ e.es, u.blk ≠ s.blk → u.ok w' := fun u hu hne => (he.es u hu).frame (hU.block _ (he.es u hu).lt hne)
    have hndb := hnd2.2.1
    rw [hsplit, List.map_append, List.map_cons, List.nodup_append, List.nodup_cons] at hndb
    rcases hu with hu | rfl | hu
    · exact hother u (List.mem_of_mem_take hu) (hndb.2.2 u.blk (List.mem_map.2 ⟨u, hu, rfl⟩) s.blk (by simp))
    · exact ⟨hbl, hw⟩
    · refine hother u (List.mem_of_mem_drop hu) (fun e => hndb.2.1.1 (List.mem_map.2 ⟨u, hu, e⟩))
  · have hki : (e.es.map Snt.ab).length = e.es.length := by simp
    rw [show e.ab = e.es.map Snt.ab from rfl, putE_set i bs (e.es.map Snt.ab) k (by omega) ?_ ?_]
    · simp only [Ep.ab, hset, List.map_append, List.map_cons]
      rw [List.set_eq_take_append_cons_drop, if_pos (by omega), List.map_take, List.map_drop]
      simp [Snt.ab, hik]
    · intro j h hj
      rw [ab_fst]
      have := h1 j hj
      rw [secAt_eq _ _ (by omega)] at this
      omega
    · rw [ab_fst, ← hs]; exact hik
  · intro h
    have : (e.es.set k { s with bs := bs }).length = 0 := by
      have := congrArg List.length h
      simpa using this
    simp at this
    rw [this] at hk
    simp at hk

/-- A write that is not there is put in. -/
theorem put_new {w w1 w' : World} {e : Ep} {n i k gb cb : Nat} {bs : List Int} {v' : Value} (he : e.ok w n) (hnd : e.foot.Nodup) (hi : i < n) (hk : k ≤ e.es.length) (h1 : ∀ j, j < k → secAt e.es j < i) (h2 : ∀ j, k ≤ j → j < e.es.length → (i : Int) < secAt e.es j) (hbl : bs.length = 128)
    (hB : Below w.heap.size w w1) (hgb : w.heap.size ≤ gb) (hgb1 : gb < w1.heap.size) (hgo : w1.ownsRow 0 5 1 (.slice (some ⟨gb, 0, none⟩) 128 cb) 128 (bs.map (Value.int .u8)))
    (hU : Upd (fun x => e.v.ownBlock = some x) w1 w') (hrow : w'.ownsRow 0 120 2 v' (e.es.length + 1) ((sentCells e.es).take (k * 2) ++ ([.int .i64 i, .slice (some ⟨gb, 0, none⟩) 128 cb] ++ (sentCells e.es).drop (k * 2))))
    (hv : v'.ownBlock = e.v.ownBlock ∨ ∀ x, v'.ownBlock = some x → w1.heap.size ≤ x) : Put w e n i bs (.returned v') w' := by
  have hnd2 := hnd
  simp only [Ep.foot, List.nodup_append] at hnd2
  have hU' : Upd (· ∈ e.foot) w w' := (Upd.of_below hB).trans hU (fun x _ hx => by simp [Ep.foot, vb, hx])
  have hlt := he.lt
  have hm : (e.es.take k ++ ⟨i, gb, cb, bs⟩ :: e.es.drop k).map Snt.blk = (e.es.map Snt.blk).take k ++ gb :: (e.es.map Snt.blk).drop k := by simp [List.map_take, List.map_drop]
  have hperm : ((e.es.take k ++ (⟨i, gb, cb, bs⟩ : Snt) :: e.es.drop k).map Snt.blk).Perm (gb :: e.es.map Snt.blk) := by
    rw [hm]
    refine List.perm_middle.trans (List.Perm.cons _ ?_)
    rw [List.take_append_drop]
  have hold : ∀ s ∈ e.es, s.ok w' := fun s hs => by
    have hl := (he.es s hs).lt
    refine (he.es s hs).frame ((hU.block _ (Nat.lt_of_lt_of_le hl hB.size) ?_).trans (hB.block _ hl))
    intro hx
    exact hnd2.2.2 s.blk (by simp [vb, hx]) s.blk (List.mem_map.2 ⟨s, hs, rfl⟩) rfl
  refine ⟨{ v := v', es := e.es.take k ++ ⟨i, gb, cb, bs⟩ :: e.es.drop k }, rfl, ⟨?_, ?_, ?_⟩, ?_, hU', ?_, ?_, by simp⟩
  · rw [sentCells_append, show sentCells ((⟨i, gb, cb, bs⟩ : Snt) :: e.es.drop k) = [.int .i64 i, .slice (some ⟨gb, 0, none⟩) 128 cb] ++ sentCells (e.es.drop k) by simp [sentCells, Snt.val], ← sentCells_take, ← sentCells_drop]
    have hl : (e.es.take k ++ (⟨i, gb, cb, bs⟩ : Snt) :: e.es.drop k).length = e.es.length + 1 := by simp; omega
    rw [hl]
    exact hrow
  · intro u hu
    simp only [List.mem_append, List.mem_cons] at hu
    rcases hu with hu | rfl | hu
    · exact hold u (List.mem_of_mem_take hu)
    · refine ⟨hbl, hU.own hgo fun x hx he' => ?_⟩
      simp [Value.ownBlock, Snt.val] at hx
      subst hx
      have := own_lt he.row (k := gb) (by simp [vb, he'])
      omega
    · exact hold u (List.mem_of_mem_drop hu)
  · have hr := he.rise
    constructor
    · simp only [List.map_append, List.map_cons]
      have hsp : e.es.map Snt.sec = (e.es.take k).map Snt.sec ++ (e.es.drop k).map Snt.sec := by rw [← List.map_append, List.take_append_drop]
      have hp := hr.1
      rw [hsp, List.pairwise_append] at hp
      have hA : ∀ x ∈ (e.es.take k).map Snt.sec, x < i := by
        intro x hx
        obtain ⟨s, hs, rfl⟩ := List.mem_map.1 hx
        obtain ⟨j, hj, rfl⟩ := List.getElem_of_mem hs
        simp at hj
        have := h1 j (by omega)
        rw [secAt_eq _ _ (by omega)] at this
        simp
        omega
      have hB' : ∀ x ∈ (e.es.drop k).map Snt.sec, i < x := by
        intro x hx
        obtain ⟨s, hs, rfl⟩ := List.mem_map.1 hx
        obtain ⟨j, hj, rfl⟩ := List.getElem_of_mem hs
        simp at hj
        have := h2 (k + j) (by omega) (by omega)
        rw [secAt_eq _ _ (by omega)] at this
        simp
        omega
      rw [List.pairwise_append, List.pairwise_cons]
      refine ⟨hp.1, ⟨hB', hp.2.1⟩, fun x hx y hy => ?_⟩
      rw [List.mem_cons] at hy
      rcases hy with rfl | hy
      · exact hA x hx
      · exact Nat.lt_trans (hA x hx) (hB' y hy)
    · intro x hx
      simp only [List.map_append, List.map_cons, List.mem_append, List.mem_cons] at hx
      rcases hx with hx | rfl | hx
      · exact hr.2 x (List.mem_map.2 (by obtain ⟨s, hs, h⟩ := List.mem_map.1 hx; exact ⟨s, List.mem_of_mem_take hs, h⟩))
      · exact hi
      · exact hr.2 x (List.mem_map.2 (by obtain ⟨s, hs, h⟩ := List.mem_map.1 hx; exact ⟨s, List.mem_of_mem_drop hs, h⟩))
  · rw [show e.ab = e.es.map Snt.ab from rfl, putE_at i bs (e.es.map Snt.ab) k (by simpa using hk) ?_ ?_]
    · simp [Ep.ab, Snt.ab, List.map_take, List.map_drop]
    · intro j h hj
      rw [ab_fst]
      have hj' : j < e.es.length := by simpa using h
      have := h1 j hj
      rw [secAt_eq _ _ hj'] at this
      omega
    · intro j h hj
      rw [ab_fst]
      have hj' : j < e.es.length := by simpa using h
      have := h2 j hj hj'
      rw [secAt_eq _ _ hj'] at this
      omega
  · intro x hx
    simp only [Ep.foot, List.mem_append] at hx
    rcases hx with hx | hx
    · have hx' : v'.ownBlock = some x := by simpa [vb] using hx
      rcases hv with hv | hv
      · exact .inl (by simp [Ep.foot, vb, ← hv, hx'])
      · exact .inr (Nat.le_trans hB.size (hv x hx'))
    · have := hperm.mem_iff.1 hx
      rw [List.mem_cons] at this
      rcases this with rfl | this
      · exact .inr hgb
      · exact .inl (by simp only [Ep.foot, List.mem_append]; exact .inr this)
  · simp only [Ep.foot, List.nodup_append]
    refine ⟨by simp only [vb]; cases v'.ownBlock <;> simp, hperm.nodup_iff.2 (List.nodup_cons.2 ⟨fun hx => ?_, hnd2.2.1⟩), fun x hx y hy he' => ?_⟩
    · have := hlt gb (by simp only [Ep.foot, List.mem_append]; exact .inr hx)
      omega
    · subst he'
      have hx' : v'.ownBlock = some x := by simpa [vb] using hx
      have := hperm.mem_iff.1 hy
      rw [List.mem_cons] at this
      rcases hv with hv | hv
      · have hx2 : x ∈ vb e.v := by simp [vb, ← hv, hx']
        rcases this with rfl | this
        · have := own_lt he.row hx2
          omega
        · exact hnd2.2.2 x hx2 x this rfl
      · have h3 := hv x hx'
        rcases this with rfl | this
        · omega
        · have := hlt x (by simp only [Ep.foot, List.mem_append]; exact .inr this)
          have := hB.size
          omega

end Go.Proofs.YtbgommpdmnbplaaGreatDoor

/- What disk.put does, for every epoch: the walk. -/
namespace Go.Proofs.YtbgommpdmnbplaaGreatDoor
open Go.RowKit
set_option linter.unusedVariables false

theorem Tryz.pinfo5 : (Tryz.prog.info? 5).map (fun i => (i.zero, i.size, i.bytes)) = some (some (.int .u8 0), 1, 1) := by kernel_rfl
theorem Tryz.psz5 : (Tryz.prog.info? 5).map (·.size) = some 1 := by
  obtain ⟨i0, hi0, h0, h1, h2⟩ := info_parts Tryz.pinfo5
  rw [hi0]; simp [h1]

theorem u8_one (bs : List Int) : ∀ u ∈ bs.map (Value.int .u8), u.oneCell' = true := ints_oneCell _ _

/-- A row that is known whole, of one that is owned. -/
theorem own_heap {w : World} {B e size n g cap : Nat} {xs : List Value} (h : w.ownsRow B e size (.slice (some ⟨g, 0, none⟩) n cap) n xs) : ∃ cur : List Value, w.heap[g]? = some (.cells cur.toArray e (0, 0)) ∧ n ≤ cap ∧ cap ≤ maxLen ∧ cur.length = cap * size ∧ cur.take (n * size) = xs := by
  rcases h.2 with ⟨h', _⟩ | ⟨g', c', cur, h', _, hg, h1, h2, h3, h4⟩
  · cases h'
  · injection h' with e1 e2 e3
    injection e1 with e1
    injection e1 with e1
    subst e1; subst e3
    exact ⟨cur.toList, by simpa using hg, h1, h2, by simpa using h3, h4⟩

theorem src_cells {w : World} {ab : Addr} {n : Nat} {bs : List Int} (h : Src w (some ab) n bs) : ∀ j u, (bs.map (Value.int .u8))[j]? = some u → w.cell? (ab.add j) = some u := by
  intro j u hj
  have hjl : j < bs.length := by have := (List.getElem?_eq_some_iff.1 hj).1; simpa using this
  have hl := h.1
  obtain ⟨b, o, e, hlt, hc⟩ := h.2 (by omega)
  obtain rfl := Option.some.inj e
  rw [Addr.add_lit, hc j (by omega), ← hj]
  simp [List.getD, List.getElem?_eq_getElem hjl]

set_option maxHeartbeats 1000000 in
set_option maxRecDepth 20000 in
theorem dput_any (e : Ep) (n i : Nat) (ab : Addr) (cb : Nat) (bs : List Int) (w : World) (he : e.ok w n) (hnd : e.foot.Nodup) (hn : n ≤ 2048) (hi : i < n) (hs : Src w (some ab) 128 bs) (hab : ab.block ∉ e.foot) :
    Calls Tryz.prog 245 #[e.v, .int .i64 i, .slice (some ab) 128 cb] w (Put w e n i bs) := by
  obtain ⟨ae, c, hv, hc1, hc2⟩ := own_shape he.row
  have hlen := rise_len he.rise
  have hrow := he.row
  rw [hv] at hrow
  have kf := hid (find_any ae e.es.length c (secAt e.es) (valAt e.es) i w (sents_of hrow rfl) (rise_sec he.rise) (by omega))
  have HS := hid (sents_of hrow rfl)
  have HE := hid he
  have HD := hid hnd
  have HR := hid hs
  have HA := hid hab
  have HV := hid hv
  rw [hv]
  clear hrow he hnd hs hab hv
  go_enter Tryz.func245, Tryz.ntmps245
  go_wp2_with fail
  refine kf.out.mono ?_
  rintro r w1 ⟨k, f, rfl, h1, h2, h3, h4, hb⟩
  have H2 := hid h2
  have H3 := hid h3
  have H4 := hid h4
  clear h2 h3 h4
  cases f
  · have hb1 := HR.out.below hb
    have kc := hid (sclone_any ab 128 cb bs w1 hb1 (by omega))
    clear hb1
    go_wp2_with fail
    refine kc.out.mono ?_
    rintro r w2 ⟨gb, cc, rfl, hown, hb2⟩
    have hB2 : Below w.heap.size w w2 := hb.trans (hb2.mono hb.size)
    have HO := hid hown
    have HB := hid hB2
    clear hown hB2 hb2
    go_wp2_with fail
    have hB3 : Below w.heap.size w (w2.alloc (.cells #[.int .i64 i, .slice (some ⟨gb, 0, none⟩) 128 cc] 120)) := HB.out.alloc HB.out.size _
    have hrow3 := own_below HE.out.row hB3
    rw [HV.out] at hrow3
    have hgl := HO.out.lt gb rfl
    have hbs := hb.size
    refine (insert_any _ e.es.length k (sentCells e.es) w2.heap.size 120 (.int .i64 i) (.slice (some ⟨gb, 0, none⟩) 128 cc) _ hrow3 (by omega) h1 (heap_alloc_new w2 _) (fun hx => ?_) rfl rfl (sentCells_one _)).mono ?_
    · have := HE.out.row.lt w2.heap.size (by rw [HV.out]; exact hx)
      have := HB.out.size
      omega
    rintro r w4 ⟨v', rfl, hrow4, hU4, hv4, _⟩
    have HW := hid hrow4
    have HU := hid hU4
    have HV4 := hid hv4
    have HB3 := hid hB3
    clear hrow4 hU4 hv4 hB3 hrow3
    go_wp2_with fail
    go_ret
    have hU := HU.out
    rw [← HV.out] at hU
    have hv := HV4.out
    rw [← HV.out] at hv
    refine put_new HE.out HD.out hi h1 H2.out ?_ HR.out.1 HB3.out (by omega) (by simp; omega) (own_base (own_below HO.out ((Below.refl _ _).alloc (Nat.le_refl _) _)) (Nat.zero_le _)) hU HW.out hv
    intro j hj hjl
    have := H3.out j hj hjl
    rcases Nat.lt_or_ge k j with hkj | hkj
    · have h5 := rise_sec HE.out.rise k j hkj hjl
      have h6 := H3.out k (Nat.le_refl _) (by omega)
      omega
    · obtain rfl : j = k := by omega
      have h7 : ¬ (j < e.es.length ∧ secAt e.es j = i) := fun h => by have := H4.out.2 h; cases this
      have h8 : secAt e.es j ≠ i := fun h => h7 ⟨hjl, h⟩
      omega
  · obtain ⟨hk, hki⟩ := H4.out.1 rfl
    obtain ⟨b, o, rfl, hlt, hc⟩ := HS.out.below hb (by omega)
    obtain ⟨c0, c1⟩ := hc k hk
    clear hc
    rw [valAt_eq _ _ hk] at c1
    simp only [Snt.val] at c1
    have hmem : e.es[k] ∈ e.es := List.getElem_mem hk
    obtain ⟨hbl, hso⟩ := HE.out.es _ hmem
    obtain ⟨cur, hg, hcap, _, hcl, _⟩ := own_heap (show w1.ownsRow 0 5 1 (.slice (some ⟨e.es[k].blk, 0, none⟩) 128 e.es[k].cap) 128 _ from own_below hso hb)
    obtain ⟨R, hR⟩ : ∃ R, R = splice cur 0 (bs.map (Value.int .u8)) := ⟨_, rfl⟩
    have hl := HR.out.1
    have crun := run_copy_row2 (P := Tryz.prog) w1 81 81 3 5 1 e.es[k].blk 0 128 e.es[k].cap ab 128 cb 128 cur.toArray 5 (bs.map (Value.int .u8)) Tryz.underlying81 Tryz.psz5 hg (by decide) (by simp [hl]) (src_cells (HR.out.below hb)) (by simp [hl]; omega) (u8_one bs)
    rw [show (cur.toArray.toList.take 0 ++ bs.map (Value.int .u8) ++ cur.toArray.toList.drop (0 + (bs.map (Value.int .u8)).length)) = R by rw [hR]; simp [splice]] at crun
    have hRl : R.length = e.es[k].cap := by rw [hR, length_splice _ _ _ (by simp [hl]; omega)]; omega
    have hRt : R.take (128 * 1) = bs.map (Value.int .u8) := by
      rw [hR]
      simp only [splice, List.take_zero, List.nil_append]
      rw [List.take_append_of_le_length (by simp [hl]), List.take_of_length_le (by simp [hl])]
    have hfin : (w1.setRow e.es[k].blk R.toArray).ownsRow 0 5 1 e.es[k].val 128 (bs.map (Value.int .u8)) :=
      ⟨by simp [hl], .inr ⟨e.es[k].blk, e.es[k].cap, R.toArray, rfl, Nat.zero_le _, setRow_heap w1 _ _ _ _ _ hg, hcap, by assumption, by simp [hRl], by simpa using hRt⟩⟩
    have HF := hid hfin
    clear hso hg hfin hRt hRl hR
    go_wp2_with fail
    go_ret
    have hki' : e.es[k].sec = i := by rw [secAt_eq _ _ hk] at hki; omega
    have hp := put_set (w' := w1.setRow e.es[k].blk R.toArray) HE.out HD.out hk hki' H2.out hl ((Upd.of_below hb).trans (Upd.setRow (F := (· = e.es[k].blk)) w1 _ _ rfl) (fun x _ hx => hx)) HF.out
    rw [HV.out] at hp
    exact hp

end Go.Proofs.YtbgommpdmnbplaaGreatDoor
