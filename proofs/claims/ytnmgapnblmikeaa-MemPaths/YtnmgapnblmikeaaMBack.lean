/- The roads of MemBack and of MemNumbers: each returns true for every input, and leaves what was there. -/
import Derived.Test.YtnmgapnblmikeaaLittle
import Derived.Test.YtnmgapnblmikeaaNmbr
import Derived.Test.YtnmgapnblmikeaaEqual
import Derived.Deep.RegionHeld3
namespace Go.Proofs.Ytnmgapnblmikeaa
open Go.RowKit Lend

/-- A row that is owned, nil or not, is bytes that lie somewhere. -/
theorem Src.ofOwn {w : World} {B e n : Nat} {v : Value} {zs : List Int} (h : w.ownsRow B e 1 v n (zs.map (Value.int .u8))) : ∃ a c, v = .slice a n c ∧ Src w a n zs := by
  rcases h.2 with ⟨rfl, rfl⟩ | ⟨g, cap, cur, rfl, _⟩
  · have : zs = [] := by simpa using h.1
    subst this
    exact ⟨none, 0, rfl, Src.nil _ _⟩
  · exact ⟨_, cap, rfl, Src.own h⟩

theorem wid_small (x : Nat) (h : x < 8) : wid (1 + (x : Int)) = x + 1 := by unfold wid; omega

/-- What comes back of a number in so many bytes. -/
theorem comes_back (n : Int) (k : Nat) (h0 : -9223372036854775808 ≤ n) (h1 : n ≤ 9223372036854775807) (hk : k ≤ 8) (h : k = 8 ∨ 0 ≤ n ∧ n < 2 ^ (8 * k)) :
    wrap64 (num ((le (un n) k).take 8) : Nat) = n := by
  rw [List.take_of_length_le (by rw [length_le]; exact hk), num_le]
  rcases h with rfl | ⟨h2, h3⟩
  · rw [Nat.mod_eq_of_lt (by have := un_lt n; exact this)]
    have := back n h0 h1
    rw [IntKind.wrap_i64] at this
    unfold wrap64
    exact this
  · have hu : (un n : Int) = n := by rw [un_cast]; omega
    have : un n < 256 ^ k := by rw [pow_256]; have : (un n : Int) < ((2 ^ (8 * k) : Nat) : Int) := by rw [hu]; simpa using h3
                                omega
    rw [Nat.mod_eq_of_lt this, hu]
    unfold wrap64; omega

set_option maxHeartbeats 1000000 in
theorem numbers_road (n width : Int) (a0 : Option Addr) (len cap : Nat) (zs : List Int) (w : World) (hs : Src w a0 len zs) (hb : Bytes zs) (hm : len ≤ cap) (hc : cap ≤ maxLen) (hn : a0 = none → cap = 0) :
    Calls Try.prog 4 #[.int .i64 n, .int .i64 width, .slice a0 len cap] w fun e w' => e = .returned (.bool true) ∧ Below w.heap.size w w' := by
  have k1 := hid (little_any n width)
  have k2 := hid (rlittle_any n width)
  have k3 := hid (fun wx (h : Src wx a0 len zs) => mnumber_any a0 len cap zs wx h hb hm hc hn)
  have k4 := hid (fun wx (h : Src wx a0 len zs) => rnumber_any a0 len cap zs wx h hb hm hc)
  obtain ⟨X, gX⟩ : ∃ X, X = wrap64 (num (zs.take 8) : Nat) := ⟨_, rfl⟩
  obtain ⟨k, gk⟩ : ∃ k, k = wid width := ⟨_, rfl⟩
  rw [← gX] at k3 k4
  rw [← gk] at k1 k2
  have HS := hid hs
  clear gX gk hs hb hm hc hn
  go_enter Try.func4, Try.ntmps4
  go_wp2_with fail
  refine (k1.out w).mono ?_
  rintro e w1 ⟨rfl, ho1, hb1⟩
  have S1 := hid (Src.own ho1)
  clear ho1
  go_wp2_with fail
  refine (k2.out _).mono ?_
  rintro e w2 ⟨v, rfl, ho2, hb2⟩
  obtain ⟨a2, c2, rfl, hs2⟩ := Src.ofOwn ho2
  have S2 := hid hs2
  have T1 := hid (S1.out.below hb2)
  have hb : Below w.heap.size w w2 := hb1.trans (hb2.mono hb1.size)
  have T0 := hid (HS.out.below hb)
  clear ho2 hs2 hb1 hb2
  go_wp2_with fail
  refine (equal_yes _ _ _ _ _ _ (le (un n) k) _ T1.out S2.out).mono ?_
  rintro e w3 ⟨rfl, rfl⟩
  go_wp2_with fail
  refine (k3.out _ T0.out).mono ?_
  rintro e w4 ⟨rfl, rfl⟩
  go_wp2_with fail
  refine (k4.out _ T0.out).mono ?_
  rintro e w5 ⟨rfl, rfl⟩
  go_wp2_with fail
  go_ret
  exact ⟨rfl, hb⟩

set_option maxHeartbeats 1000000 in
theorem back_road (n width : Int) (h0 : -9223372036854775808 ≤ n) (h1 : n ≤ 9223372036854775807) (w : World) :
    Calls Try.prog 6 #[.int .i64 n, .int .i64 width] w fun e w' => e = .returned (.bool true) ∧ Below w.heap.size w w' := by
  obtain ⟨y, gy⟩ : ∃ y : Nat, (y : Int) = 1 + width % 18446744073709551616 % 8 := ⟨(1 + width % 18446744073709551616 % 8).toNat, by omega⟩
  have hy1 : 1 ≤ y := by omega
  have hy8 : y ≤ 8 := by omega
  have hw : wrap64 (1 + wrap64 ((IntKind.u64.wrap width).tmod 8)) = (y : Int) := by
    rw [IntKind.wrap_u64, Int.tmod_eq_emod_of_nonneg (by omega)]; unfold wrap64; omega
  clear gy
  have k1 := hid (fun wx => little_any n (y : Int) wx)
  rw [show wid (y : Int) = y by unfold wid; omega] at k1
  have k2 := hid (fun wx g (h : Src wx (some ⟨g, 0, none⟩) y (le (un n) y)) => mnumber_any _ y y _ wx h (le_bytes _ _) (Nat.le_refl _) (by unfold maxLen; omega) (by intro h; cases h))
  have hcb := comes_back n y h0 h1 hy8
  obtain ⟨X, gX⟩ : ∃ X, X = wrap64 (num ((le (un n) y).take 8) : Nat) := ⟨_, rfl⟩
  rw [← gX] at k2 hcb
  clear gX
  have hcase : (n < 0 ∧ y < 8) ∨ (n < 0 ∧ y = 8 ∧ X = n) ∨ (0 ≤ n ∧ y < 8 ∧ n / 2 ^ (8 * y) ≠ 0) ∨ (0 ≤ n ∧ y < 8 ∧ n / 2 ^ (8 * y) = 0 ∧ X = n) ∨ (0 ≤ n ∧ y = 8 ∧ X = n) := by
    rcases Nat.lt_or_ge y 8 with h8 | h8
    · by_cases hn : n < 0
      · exact .inl ⟨hn, h8⟩
      · by_cases hd : n / 2 ^ (8 * y) = 0
        · refine .inr (.inr (.inr (.inl ⟨by omega, h8, hd, hcb (.inr ⟨by omega, ?_⟩)⟩)))
          have hp : (0 : Int) < 2 ^ (8 * y) := Int.pow_pos (by omega)
          have := Int.lt_mul_ediv_self_add (x := n) hp
          rw [hd] at this
          omega
        · exact .inr (.inr (.inl ⟨by omega, h8, hd⟩))
    · have : y = 8 := by omega
      by_cases hn : n < 0
      · exact .inr (.inl ⟨hn, this, hcb (.inl this)⟩)
      · exact .inr (.inr (.inr (.inr ⟨by omega, this, hcb (.inl this)⟩)))
  clear hcb h0 h1
  have HW := hid hw
  clear hw
  go_enter Try.func6, Try.ntmps6
  go_wp2_with fail
  rw [HW.out]
  refine (k1.out w).mono ?_
  rintro e w1 ⟨rfl, ho1, hb1⟩
  have S1 := hid (Src.own ho1)
  clear ho1 HW
  rcases hcase with ⟨c1, c2⟩ | ⟨c1, c2, c3⟩ | ⟨c1, c2, c3⟩ | ⟨c1, c2, c3, c4⟩ | ⟨c1, c2, c3⟩
  · go_wp2_with fail
    go_ret
    exact ⟨rfl, hb1⟩
  · subst c2
    go_wp2_with fail
    refine (k2.out _ _ S1.out).mono ?_
    rintro e w2 ⟨rfl, rfl⟩
    go_wp2_with fail
    go_ret
    exact ⟨rfl, hb1⟩
  · have c5 : (n / 2 ^ (8 * y) != 0) = true := by simpa using c3
    have c6 : decide (n < 0) = false := by simpa using c1
    go_wp2_with fail
    go_ret
    exact ⟨rfl, hb1⟩
  · go_wp2_with fail
    refine (k2.out _ _ S1.out).mono ?_
    rintro e w2 ⟨rfl, rfl⟩
    go_wp2_with fail
    go_ret
    exact ⟨rfl, hb1⟩
  · subst c2
    go_wp2_with fail
    refine (k2.out _ _ S1.out).mono ?_
    rintro e w2 ⟨rfl, rfl⟩
    go_wp2_with fail
    go_ret
    exact ⟨rfl, hb1⟩

end Go.Proofs.Ytnmgapnblmikeaa
