/- Plain facts about the check sum CRC-32C over numbers (no program in sight): four bits at a time and bit by bit are the same, and bytes of which up to four neighbours were turned have another sum. -/
import Derived.Laws.BitsAllLaws
namespace Go.Proofs.YtkmnhpnlkmiiiaaGreatDoor.Crc

def tab : List Nat := [0, 274646895, 549293790, 820201905, 1098587580, 1361435347, 1640403810, 1905808397, 2197175160, 2460548119, 2722870694, 2987750089, 3280807620, 3553878443, 3811616794, 4084100981]
def t (i : Nat) : Nat := tab.getD i 0
/-- Four bits. -/
def nib (s : Nat) : Nat := s / 16 ^^^ t (s % 16)
/-- A byte. -/
def two (s : Nat) : Nat := nib (nib s)
def stp (s c : Nat) : Nat := two (s ^^^ c)
def run (s : Nat) (zs : List Int) : Nat := zs.foldl (fun s z => stp s z.toNat) s
def crc (zs : List Int) : Nat := 4294967295 - run 4294967295 zs

theorem t_xor : ∀ i j : Fin 16, t (i.val ^^^ j.val) = t i.val ^^^ t j.val := by decide +kernel
theorem t_lt : ∀ i : Fin 16, t i.val < 4294967296 := by decide +kernel
theorem t_ge : ∀ i : Fin 16, i.val = 0 ∨ 268435456 ≤ t i.val := by decide +kernel

theorem xor_div (a b : Nat) : (a ^^^ b) / 16 = a / 16 ^^^ b / 16 := by
  have := Nat.shiftRight_xor_distrib (a := a) (b := b) (i := 4)
  simpa [Nat.shiftRight_eq_div_pow] using this
theorem xor_mod (a b : Nat) : (a ^^^ b) % 16 = a % 16 ^^^ b % 16 := by
  have := Nat.xor_mod_two_pow (a := a) (b := b) (n := 4)
  simpa using this
theorem nib_xor (a b : Nat) : nib (a ^^^ b) = nib a ^^^ nib b := by
  unfold nib
  rw [xor_div, xor_mod, t_xor ⟨a % 16, by omega⟩ ⟨b % 16, by omega⟩]
  simp only [Nat.xor_assoc]
  congr 1
  rw [← Nat.xor_assoc, Nat.xor_comm (b / 16), Nat.xor_assoc]
theorem xor_lt (a b : Nat) (ha : a < 4294967296) (hb : b < 4294967296) : a ^^^ b < 4294967296 := by
  have := Nat.xor_lt_two_pow (n := 32) (x := a) (y := b) (by simpa using ha) (by simpa using hb)
  simpa using this
theorem nib_lt (s : Nat) (h : s < 4294967296) : nib s < 4294967296 := xor_lt _ _ (by omega) (t_lt ⟨s % 16, by omega⟩)
theorem xor_zero {a b : Nat} (h : a ^^^ b = 0) : a = b := by
  have : a ^^^ b ^^^ b = b := by rw [h, Nat.zero_xor]
  rwa [Nat.xor_assoc, Nat.xor_self, Nat.xor_zero] at this
theorem nib_zero (s : Nat) (h : s < 4294967296) (h0 : nib s = 0) : s = 0 := by
  have e := xor_zero h0
  rcases t_ge ⟨s % 16, by omega⟩ with h1 | h1
  · simp only at h1
    rw [h1] at e
    have : t 0 = 0 := by decide
    omega
  · simp only at h1
    omega
theorem two_lt (s : Nat) (h : s < 4294967296) : two s < 4294967296 := nib_lt _ (nib_lt _ h)
theorem two_xor (a b : Nat) : two (a ^^^ b) = two a ^^^ two b := by unfold two; rw [nib_xor, nib_xor]
theorem two_zero (s : Nat) (h : s < 4294967296) (h0 : two s = 0) : s = 0 := nib_zero s h (nib_zero _ (nib_lt s h) h0)
theorem stp_lt (s c : Nat) (hs : s < 4294967296) (hc : c < 256) : stp s c < 4294967296 := two_lt _ (xor_lt _ _ hs (by omega))
theorem stp_inj (s s' c : Nat) (hs : s < 4294967296) (hs' : s' < 4294967296) (h : stp s c = stp s' c) : s = s' := by
  unfold stp at h
  rw [two_xor, two_xor] at h
  have h2 : two s = two s' := by
    have := congrArg (· ^^^ two c) h
    simpa [Nat.xor_assoc] using this
  have h3 : two (s ^^^ s') = 0 := by rw [two_xor, h2, Nat.xor_self]
  exact xor_zero (two_zero _ (xor_lt _ _ hs hs') h3)

theorem run_lt : ∀ (zs : List Int) (s : Nat), s < 4294967296 → (∀ z ∈ zs, 0 ≤ z ∧ z ≤ 255) → run s zs < 4294967296
  | [], _, h, _ => h
  | z :: zs, s, h, hz => run_lt zs (stp s z.toNat) (stp_lt _ _ h (by have := hz z (by simp); omega)) fun y hy => hz y (by simp [hy])
theorem run_inj : ∀ (zs : List Int) (s s' : Nat), s < 4294967296 → s' < 4294967296 → (∀ z ∈ zs, 0 ≤ z ∧ z ≤ 255) → run s zs = run s' zs → s = s'
  | [], _, _, _, _, _, h => h
  | z :: zs, s, s', hs, hs', hz, h => by
    have hc : z.toNat < 256 := by have := hz z (by simp); omega
    exact stp_inj s s' z.toNat hs hs' (run_inj zs _ _ (stp_lt _ _ hs hc) (stp_lt _ _ hs' hc) (fun y hy => hz y (by simp [hy])) h)
theorem run_append (s : Nat) (xs ys : List Int) : run s (xs ++ ys) = run (run s xs) ys := by simp [run]

/-- A byte of a word: what is above it stays. -/
theorem two_split (y : Nat) : two y = two (y % 256) ^^^ y / 256 := by
  unfold two nib
  rw [xor_div, xor_div, xor_mod, xor_mod]
  have e1 : y % 256 / 16 / 16 = 0 := by omega
  have e2 : y / 16 / 16 = y / 256 := by omega
  have e3 : y % 256 / 16 % 16 = y / 16 % 16 := by omega
  have e4 : y % 256 % 16 = y % 16 := by omega
  rw [e1, e2, e3, e4, Nat.zero_xor]
  simp only [Nat.xor_assoc]
  rw [Nat.xor_comm (y / 256)]
  simp only [Nat.xor_assoc]

theorem stp_diff (s D x d : Nat) : stp (s ^^^ D) (x ^^^ d) = stp s x ^^^ two (D ^^^ d) := by
  unfold stp
  rw [← two_xor]
  congr 1
  simp only [Nat.xor_assoc]
  congr 1
  rw [← Nat.xor_assoc, Nat.xor_comm D, Nat.xor_assoc]

/-- What four bytes that were turned leave. -/
theorem diff4 (by_ : Nat) (h : by_ < 4294967296) : two (two (two (two (by_ % 256) ^^^ by_ / 256 % 256) ^^^ by_ / 65536 % 256) ^^^ by_ / 16777216 % 256) = two (two (two (two by_))) := by
  have s1 : two by_ = two (by_ % 256) ^^^ by_ / 256 := two_split by_
  generalize two (by_ % 256) = D1 at *
  have s2 : two (D1 ^^^ by_ / 256) = two (D1 ^^^ by_ / 256 % 256) ^^^ by_ / 65536 := by
    rw [two_xor, two_split (by_ / 256), two_xor, Nat.div_div_eq_div_mul, Nat.xor_assoc]
  rw [s1, s2]
  generalize two (D1 ^^^ by_ / 256 % 256) = D2 at *
  have s3 : two (D2 ^^^ by_ / 65536) = two (D2 ^^^ by_ / 65536 % 256) ^^^ by_ / 16777216 := by
    rw [two_xor, two_split (by_ / 65536), two_xor, Nat.div_div_eq_div_mul, Nat.xor_assoc]
  rw [s3]
  generalize two (D2 ^^^ by_ / 65536 % 256) = D3 at *
  rw [show by_ / 16777216 % 256 = by_ / 16777216 by omega]

theorem burst4 (s x0 x1 x2 x3 by_ : Nat) (h : by_ < 4294967296) (h0 : by_ ≠ 0) :
    stp (stp (stp (stp s (x0 ^^^ by_ % 256)) (x1 ^^^ by_ / 256 % 256)) (x2 ^^^ by_ / 65536 % 256)) (x3 ^^^ by_ / 16777216 % 256) ≠ stp (stp (stp (stp s x0) x1) x2) x3 := by
  have e1 : stp s (x0 ^^^ by_ % 256) = stp s x0 ^^^ two (by_ % 256) := by
    have := stp_diff s 0 x0 (by_ % 256)
    simpa using this
  rw [e1, stp_diff, stp_diff, stp_diff, diff4 by_ h]
  intro hh
  have h2 : two (two (two (two by_))) = 0 := by
    have := congrArg (stp (stp (stp (stp s x0) x1) x2) x3 ^^^ ·) hh
    simpa [← Nat.xor_assoc] using this
  have l1 := two_lt _ h
  have l2 := two_lt _ l1
  have l3 := two_lt _ l2
  exact h0 (two_zero _ h (two_zero _ l1 (two_zero _ l2 (two_zero _ l3 h2))))

/-- Bit by bit. -/
def bs (s : Nat) : Nat := s / 2 ^^^ (if s % 2 = 1 then 2197175160 else 0)
theorem xor_div2 (a b : Nat) : (a ^^^ b) / 2 = a / 2 ^^^ b / 2 := by
  have := Nat.shiftRight_xor_distrib (a := a) (b := b) (i := 1)
  simpa [Nat.shiftRight_eq_div_pow] using this
theorem xor_mod2 (a b : Nat) : (a ^^^ b) % 2 = a % 2 ^^^ b % 2 := by
  have := Nat.xor_mod_two_pow (a := a) (b := b) (n := 1)
  simpa using this
theorem xor_left (a b c : Nat) : a ^^^ (b ^^^ c) = b ^^^ (a ^^^ c) := by rw [← Nat.xor_assoc, Nat.xor_comm a b, Nat.xor_assoc]
theorem bs_xor (a b : Nat) : bs (a ^^^ b) = bs a ^^^ bs b := by
  unfold bs
  rw [xor_div2, xor_mod2]
  rcases Nat.mod_two_eq_zero_or_one a with ha | ha <;> rcases Nat.mod_two_eq_zero_or_one b with hb | hb <;> rw [ha, hb] <;> simp [Nat.xor_assoc, xor_left]
  · rw [Nat.xor_comm (b / 2)]
  · rw [Nat.xor_comm]
theorem bs_split (y : Nat) : bs y = bs (y % 2) ^^^ y / 2 := by
  unfold bs
  rw [show y % 2 / 2 = 0 by omega, show y % 2 % 2 = y % 2 by omega, Nat.zero_xor, Nat.xor_comm]
/-- One bit more, as the document tells it. -/
def bit (s b : Nat) : Nat := if s % 2 = b then s / 2 else s / 2 ^^^ 2197175160
theorem bit_bs (s b : Nat) (hb : b < 2) : bit s b = bs (s ^^^ b) := by
  unfold bit bs
  rw [xor_div2, xor_mod2, show b / 2 = 0 by omega, Nat.xor_zero]
  rcases Nat.mod_two_eq_zero_or_one s with ha | ha <;> rcases (show b = 0 ∨ b = 1 by omega) with rfl | rfl <;> simp [ha]
def bits8 (s x : Nat) : Nat → Nat
  | 0 => s
  | i + 1 => bit (bits8 s x i) (x / 2 ^ i % 2)
def it : Nat → Nat → Nat
  | 0, s => s
  | n + 1, s => bs (it n s)
theorem bits8_it (s x : Nat) : ∀ i, it i (s ^^^ x) = bits8 s x i ^^^ x / 2 ^ i
  | 0 => by simp [it, bits8]
  | i + 1 => by
    rw [it, bits8_it s x i, bits8, bit_bs _ _ (Nat.mod_lt _ (by omega)), bs_xor, bs_split (x / 2 ^ i), bs_xor, Nat.div_div_eq_div_mul, ← Nat.pow_succ, Nat.xor_assoc]
theorem bs4_split (y : Nat) : bs (bs (bs (bs y))) = bs (bs (bs (bs (y % 2)))) ^^^ (bs (bs (bs (y / 2 % 2))) ^^^ (bs (bs (y / 2 / 2 % 2)) ^^^ (bs (y / 2 / 2 / 2 % 2) ^^^ y / 2 / 2 / 2 / 2))) := by
  rw [bs_split y]
  simp only [bs_xor]
  rw [bs_split (y / 2)]
  simp only [bs_xor]
  rw [bs_split (y / 2 / 2)]
  simp only [bs_xor]
  rw [bs_split (y / 2 / 2 / 2)]
theorem it4 (y : Nat) : it 4 y = nib y := by
  have h : ∀ j : Fin 16, it 4 j.val = t j.val := by decide +kernel
  have e : it 4 y = it 4 (y % 16) ^^^ y / 16 := by
    simp only [it]
    rw [bs4_split y, bs4_split (y % 16)]
    rw [show y % 16 % 2 = y % 2 by omega, show y % 16 / 2 % 2 = y / 2 % 2 by omega, show y % 16 / 2 / 2 % 2 = y / 2 / 2 % 2 by omega, show y % 16 / 2 / 2 / 2 % 2 = y / 2 / 2 / 2 % 2 by omega, show y % 16 / 2 / 2 / 2 / 2 = 0 by omega, show y / 2 / 2 / 2 / 2 = y / 16 by omega]
    simp only [Nat.xor_zero, Nat.xor_assoc]
  rw [e, h ⟨y % 16, by omega⟩, nib, Nat.xor_comm]
theorem it8 (y : Nat) : it 8 y = two y := by
  show it 4 (it 4 y) = _
  rw [it4, it4]; rfl
theorem bits8_stp (s x : Nat) (hx : x < 256) : bits8 s x 8 = stp s x := by
  have := bits8_it s x 8
  rw [it8, show x / 2 ^ 8 = 0 by omega, Nat.xor_zero] at this
  exact this.symm

theorem known : crc [49, 50, 51, 52, 53, 54, 55, 56, 57] = 3808858755 := by decide +kernel

#print axioms burst4
#print axioms bits8_stp
end Go.Proofs.YtkmnhpnlkmiiiaaGreatDoor.Crc
