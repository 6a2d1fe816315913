/- The road of WireBursts: it returns true for every slice of bytes within reach, every place and every word, where the table is laid; and leaves what was there. -/
import Derived.Test.YtmnhehicgheheaaDoorSum
import Derived.Test.YtmnhehicgheheaaDoorClone
import Derived.Lib.SlBytesConst
import Derived.BigRegion
namespace Go.Proofs.YtmnhehicgheheaaDoor
open Go.RowKit Num

/-- Four bytes of a list, turned one behind the other. -/
def turn4 (P : List Int) (x y : Nat → Int) (Q : List Int) (i : Nat) : List Int :=
  P ++ (if 0 < i then y 0 else x 0) :: (if 1 < i then y 1 else x 1) :: (if 2 < i then y 2 else x 2) :: (if 3 < i then y 3 else x 3) :: Q

theorem turn4_set (P : List Int) (x y : Nat → Int) (Q : List Int) (i : Nat) (hi : i < 4) : (turn4 P x y Q i).set (P.length + i) (y i) = turn4 P x y Q (i + 1) := by
  unfold turn4
  rw [List.set_append_right _ _ (by omega), Nat.add_sub_cancel_left]
  rcases (show i = 0 ∨ i = 1 ∨ i = 2 ∨ i = 3 by omega) with rfl | rfl | rfl | rfl <;> simp
theorem turn4_get (P : List Int) (x y : Nat → Int) (Q : List Int) (i : Nat) (hi : i < 4) : (turn4 P x y Q i)[P.length + i]? = some (x i) := by
  unfold turn4
  rw [List.getElem?_append_right (by omega), Nat.add_sub_cancel_left]
  rcases (show i = 0 ∨ i = 1 ∨ i = 2 ∨ i = 3 by omega) with rfl | rfl | rfl | rfl <;> simp
theorem turn4_len (P : List Int) (x y : Nat → Int) (Q : List Int) (i : Nat) : (turn4 P x y Q i).length = P.length + 4 + Q.length := by
  unfold turn4; simp; omega
theorem turn4_zero (P : List Int) (x y : Nat → Int) (Q : List Int) : turn4 P x y Q 0 = P ++ x 0 :: x 1 :: x 2 :: x 3 :: Q := by simp [turn4]
theorem turn4_four (P : List Int) (x y : Nat → Int) (Q : List Int) : turn4 P x y Q 4 = P ++ y 0 :: y 1 :: y 2 :: y 3 :: Q := by simp [turn4]

/-- The sums part. -/
theorem parts (P Q : List Int) (x y : Nat → Int) (by_ : Nat) (hP : Bytes P) (hQ : Bytes Q) (hx : ∀ i, i < 4 → 0 ≤ x i ∧ x i ≤ 255) (h : by_ < 4294967296) (h0 : by_ ≠ 0)
    (hy : ∀ i, i < 4 → y i = (((x i).toNat ^^^ by_ / 2 ^ (8 * i) % 256 : Nat) : Int)) : Crc.crc (turn4 P x y Q 4) ≠ Crc.crc (turn4 P x y Q 0) := by
  have hlt : ∀ i, i < 4 → (x i).toNat ^^^ by_ / 2 ^ (8 * i) % 256 < 256 := by
    intro i hi
    have := Nat.xor_lt_two_pow (n := 8) (x := (x i).toNat) (y := by_ / 2 ^ (8 * i) % 256) (by have := hx i hi; omega) (by omega)
    simpa using this
  have hs := Crc.run_lt P 4294967295 (by omega) hP
  rw [turn4_zero, turn4_four]
  unfold Crc.crc
  have hsplit : ∀ a b c d : Int, Crc.run 4294967295 (P ++ a :: b :: c :: d :: Q) = Crc.run (Crc.stp (Crc.stp (Crc.stp (Crc.stp (Crc.run 4294967295 P) a.toNat) b.toNat) c.toNat) d.toNat) Q := by
    intro a b c d; rw [Crc.run_append]; rfl
  rw [hsplit, hsplit]
  have l : ∀ a b c d : Nat, a < 256 → b < 256 → c < 256 → d < 256 → Crc.stp (Crc.stp (Crc.stp (Crc.stp (Crc.run 4294967295 P) a) b) c) d < 4294967296 := fun a b c d ha hb hc hd =>
    Crc.stp_lt _ _ (Crc.stp_lt _ _ (Crc.stp_lt _ _ (Crc.stp_lt _ _ hs ha) hb) hc) hd
  have hb := Crc.burst4 (Crc.run 4294967295 P) (x 0).toNat (x 1).toNat (x 2).toNat (x 3).toNat by_ h h0
  have y0 := hy 0 (by omega); have y1 := hy 1 (by omega); have y2 := hy 2 (by omega); have y3 := hy 3 (by omega)
  have m0 := hlt 0 (by omega); have m1 := hlt 1 (by omega); have m2 := hlt 2 (by omega); have m3 := hlt 3 (by omega)
  have x0 := hx 0 (by omega); have x1 := hx 1 (by omega); have x2 := hx 2 (by omega); have x3 := hx 3 (by omega)
  simp only [Nat.mul_zero, Nat.pow_zero, Nat.div_one, Nat.mul_one, show 8 * 2 = 16 from rfl, show 8 * 3 = 24 from rfl, show 2 ^ 8 = 256 from rfl, show 2 ^ 16 = 65536 from rfl, show 2 ^ 24 = 16777216 from rfl] at y0 y1 y2 y3 m0 m1 m2 m3
  rw [y0, y1, y2, y3]
  simp only [Int.toNat_natCast]
  intro hc
  apply hb
  have la := l _ _ _ _ m0 m1 m2 m3
  have lb := l (x 0).toNat (x 1).toNat (x 2).toNat (x 3).toNat (by omega) (by omega) (by omega) (by omega)
  refine Crc.run_inj Q _ _ la lb hQ ?_
  have ra := Crc.run_lt Q _ la hQ
  have rb := Crc.run_lt Q _ lb hQ
  omega

theorem Tab.pos {w : World} (h : Tab w) : 0 < w.heap.size := World.block_lt_of_cell? _ _ (h 0 (by omega))

theorem nine (w : World) : Src (w.alloc (.cells #[.int .u8 49, .int .u8 50, .int .u8 51, .int .u8 52, .int .u8 53, .int .u8 54, .int .u8 55, .int .u8 56, .int .u8 57] 5 (9, 10))) (some ⟨w.heap.size, 0, none⟩) 9 [49, 50, 51, 52, 53, 54, 55, 56, 57] := by
  refine ⟨rfl, fun _ => ⟨_, _, rfl, by simp, fun j hj => ?_⟩⟩
  rw [World.cell?_alloc_mark]
  rcases (show j = 0 ∨ j = 1 ∨ j = 2 ∨ j = 3 ∨ j = 4 ∨ j = 5 ∨ j = 6 ∨ j = 7 ∨ j = 8 by omega) with rfl | rfl | rfl | rfl | rfl | rfl | rfl | rfl | rfl <;> rfl

set_option maxHeartbeats 1000000 in
theorem bursts_small (a0 : Option Addr) (len cap : Nat) (zs : List Int) (k b : Int) (w : World) (hs : Src w a0 len zs) (hz : Bytes zs) (hT : Tab w) (hm : len ≤ 140737488355328) (hsm : len < 4 ∨ b = 0) :
    Calls Tryd.prog 4 #[.slice a0 len cap, .int .i64 k, .int .u32 b] w fun e w' => e = .returned (.bool true) ∧ Below w.heap.size w w' := by
  have k1 := hid (sum_any a0 len cap zs w hs hz hT (by omega))
  have k2 := hid (rsum_any a0 len cap zs w hs hz (by omega))
  have HT := hid hT
  have kc := fun (w : World) (C : Array Value) (n c : Nat) => Lib.run_convert_bytes_const (P := Tryd.prog) w 22 5 C n c Tryd.underlying22 Tryd.underlying5
  obtain ⟨s, gs⟩ : ∃ s, s = Crc.crc zs := ⟨_, rfl⟩
  rw [← gs] at k1 k2
  clear hs hz hT gs
  rcases (show len < 4 ∨ ¬ len < 4 by omega) with h4 | h4
  · go_enter Tryd.func4, Tryd.ntmps4
    go_wp2_with fail
    refine k1.out.mono ?_
    rintro e w1 ⟨rfl, rfl⟩
    go_wp2_with fail
    refine k2.out.mono ?_
    rintro e w1 ⟨rfl, rfl⟩
    go_wp2_with fail
    refine (sum_any _ 9 9 [49, 50, 51, 52, 53, 54, 55, 56, 57] _ (nine w1) (fun z hz => by simp at hz; omega) (HT.out.below ((Below.refl _ _).alloc (Nat.le_refl _) _) HT.out.pos) (by omega)).mono ?_
    rintro e w2 ⟨rfl, rfl⟩
    rw [Crc.known]
    go_wp2_with fail
    go_ret
    exact ⟨rfl, (Below.refl _ _).alloc (Nat.le_refl _) _⟩
  · obtain rfl : b = 0 := by omega
    go_enter Tryd.func4, Tryd.ntmps4
    go_wp2_with fail
    refine k1.out.mono ?_
    rintro e w1 ⟨rfl, rfl⟩
    go_wp2_with fail
    refine k2.out.mono ?_
    rintro e w1 ⟨rfl, rfl⟩
    go_wp2_with fail
    refine (sum_any _ 9 9 [49, 50, 51, 52, 53, 54, 55, 56, 57] _ (nine w1) (fun z hz => by simp at hz; omega) (HT.out.below ((Below.refl _ _).alloc (Nat.le_refl _) _) HT.out.pos) (by omega)).mono ?_
    rintro e w2 ⟨rfl, rfl⟩
    rw [Crc.known]
    go_wp2_with fail
    go_ret
    exact ⟨rfl, (Below.refl _ _).alloc (Nat.le_refl _) _⟩

set_option maxHeartbeats 1000000 in
theorem bursts_big (a0 : Option Addr) (len cap : Nat) (zs : List Int) (k : Int) (b : Nat) (w : World) (hs : Src w a0 len zs) (hz : Bytes zs) (hT : Tab w) (hm : len ≤ 140737488355328) (h4 : 4 ≤ len) (hb0 : b ≠ 0) (hbl : b < 4294967296) :
    Calls Tryd.prog 4 #[.slice a0 len cap, .int .i64 k, .int .u32 b] w fun e w' => e = .returned (.bool true) ∧ Below w.heap.size w w' := by
  have hb0' : ((b : Int) == 0) = false := by simp; omega
  have h4' : decide ((len : Int) < 4) = false := by simp; omega
  obtain ⟨U, hU⟩ : ∃ U : Nat, IntKind.u64.wrap k = (U : Int) := ⟨(IntKind.u64.wrap k).toNat, by rw [IntKind.wrap_u64]; omega⟩
  obtain ⟨K, gK⟩ : ∃ K : Nat, (U : Int) % ((len : Int) - 3) = (K : Int) := ⟨((U : Int) % ((len : Int) - 3)).toNat, by have := Int.emod_nonneg (U : Int) (show (len : Int) - 3 ≠ 0 by omega); omega⟩
  have hK : K + 4 ≤ len := by have := Int.emod_lt_of_pos (U : Int) (show (0 : Int) < (len : Int) - 3 by omega); omega
  have hU0 : (0 : Int) ≤ (U : Int) := by omega
  obtain ⟨b0, o, rfl, hlt, _⟩ := hs.2 (by omega)
  have kcl := hid (clone_any ⟨b0, o, none⟩ len cap zs w hs (by omega))
  have HS := hid hs
  have HZ := hid hz
  have HT := hid hT
  clear hs hz hT
  go_enter Tryd.func4, Tryd.ntmps4
  go_wp2_with fail
  refine kcl.out.mono ?_
  rintro e w1 ⟨g, c, rfl, hown, hb1⟩
  have HO := hid hown
  clear hown
  obtain ⟨P, gP⟩ : ∃ P, P = zs.take K := ⟨_, rfl⟩
  obtain ⟨Q, gQ⟩ : ∃ Q, Q = zs.drop (K + 4) := ⟨_, rfl⟩
  obtain ⟨x, gx⟩ : ∃ x : Nat → Int, x = fun i => zs.getD (K + i) 0 := ⟨_, rfl⟩
  obtain ⟨y, gy⟩ : ∃ y : Nat → Int, y = fun i => (((x i).toNat ^^^ b / 2 ^ (8 * i) % 256 : Nat) : Int) := ⟨_, rfl⟩
  have hl := HS.out.1
  have hPl : P.length = K := by rw [gP]; simp; omega
  have hzs : zs = turn4 P x y Q 0 := by
    rw [turn4_zero, gP, gQ, gx]
    have d : ∀ j, j < zs.length → zs.drop j = zs.getD j 0 :: zs.drop (j + 1) := fun j hj => by
      rw [List.drop_eq_getElem_cons hj, List.getD_eq_getElem?_getD, List.getElem?_eq_getElem hj]; rfl
    conv => lhs; rw [← List.take_append_drop K zs, d K (by omega), d (K + 1) (by omega), d (K + 1 + 1) (by omega), d (K + 1 + 1 + 1) (by omega)]
    rfl
  have hx : ∀ i, i < 4 → 0 ≤ x i ∧ x i ≤ 255 := fun i _ => by rw [gx]; exact HZ.out.at (K + i)
  have hne := parts P Q x y b (by rw [gP]; exact HZ.out.take K) (by rw [gQ]; exact HZ.out.drop (K + 4)) hx hbl hb0 (fun i _ => by rw [gy])
  have hy : ∀ i, i < 4 → bits BinOp.xor IntKind.u8 (x i) ((b : Int) / 2 ^ (8 * i) % 256) = y i := by
    intro i hi
    have h1 := hx i hi
    have h2 : (b : Int) / 2 ^ (8 * i) % 256 = ((b / 2 ^ (8 * i) % 256 : Nat) : Int) := by simp
    rw [h2, u8_xor (x i) _ h1.1 (by omega) (by omega) (by omega), gy, Int.toNat_natCast]
  have hyb : ∀ i, i < 4 → 0 ≤ y i ∧ y i ≤ 255 := by
    intro i hi
    have := Nat.xor_lt_two_pow (n := 8) (x := (x i).toNat) (y := b / 2 ^ (8 * i) % 256) (by have := hx i hi; omega) (by omega)
    rw [gy]
    simp at this ⊢
    omega
  have hbz : Bytes (turn4 P x y Q 4) := by
    rw [turn4_four]
    refine (gP ▸ HZ.out.take K : Bytes P).append ?_
    intro z hz
    simp only [List.mem_cons] at hz
    rcases hz with rfl | rfl | rfl | rfl | hz
    · exact hyb 0 (by omega)
    · exact hyb 1 (by omega)
    · exact hyb 2 (by omega)
    · exact hyb 3 (by omega)
    · exact (gQ ▸ HZ.out.drop (K + 4) : Bytes Q) z hz
  have HY := hid hy
  have HX := hid hzs
  have HP := hid hPl
  have HE := hid hne
  have HBZ := hid hbz
  have hg := HO.out.lt g rfl
  clear gP gQ gx gy hzs hPl hne hy hyb hbz hx hl
  go_wp2_with fail
  go_loopw [37] (fun k wr => ∃ i : Nat, i ≤ 4 ∧ k = .int .i64 i ∧ Hid (wr.ownsRow w.heap.size 5 1 (.slice (some ⟨g, 0, none⟩) len c) len ((turn4 P x y Q i).map (Value.int .u8))) ∧ Below w.heap.size w wr) (fun k _ => 4 - (intOf k).toNat)
  case atStart => exact ⟨0, by omega, rfl, (by rw [← HX.out]; exact HO), hb1⟩
  case round =>
    obtain ⟨i, hi, rfl, HW, hbr⟩ := hrel
    by_cases h : i < 4
    · obtain ⟨X, gX⟩ : ∃ X, X = x i := ⟨_, rfl⟩
      obtain ⟨Y, gY⟩ : ∃ Y, Y = y i := ⟨_, rfl⟩
      have hyi := HY.out i h
      rw [← gX, ← gY] at hyi
      have hcell : wr.cell? ⟨g, K + i, none⟩ = some (.int .u8 X) := by
        rw [HW.out.cellAt (K + i) (by omega), gX, List.getElem?_map, ← HP.out, turn4_get P x y Q i h]; rfl
      have hfr : wr.frozen? ⟨g, K + i, none⟩ = false := HW.out.frozenAt (K + i)
      have HN : Hid ((wr.setCell ⟨g, K + i, none⟩ (.int .u8 Y)).ownsRow w.heap.size 5 1 (.slice (some ⟨g, 0, none⟩) len c) len ((turn4 P x y Q (i + 1)).map (Value.int .u8))) := by
        have := HW.out.stored (K + i) (.int .u8 Y)
        rw [← turn4_set P x y Q i h, HP.out, ← gY, List.map_set]
        exact this.1
      have i1 : (0 : Int) ≤ (K : Int) + (i : Int) := by omega
      have i2 : (K : Int) + (i : Int) < (len : Int) := by omega
      clear gX gY
      go_wp2_with fail
      go_region
      all_goals go_wp2_with fail
      all_goals go_roundw
      case rel => exact ⟨i + 1, by omega, by go_num, HN, (hbr.setCell (p := ⟨g, K + i, none⟩) hg.1 _).drew⟩
      case measure => simp [intOf]; omega
    · obtain rfl : i = 4 := by omega
      have hs4 := Src.own HW.out
      have hT4 := HT.out.below hbr HT.out.pos
      have hs0 := HS.out.below hbr
      have k1 := hid (sum_any _ len c _ wr hs4 HBZ.out hT4 (by omega))
      have k2 := hid (sum_any _ len cap zs wr hs0 HZ.out hT4 (by omega))
      have hE := HE.out
      rw [← HX.out] at hE
      obtain ⟨s1, g1⟩ : ∃ s1, s1 = Crc.crc (turn4 P x y Q 4) := ⟨_, rfl⟩
      obtain ⟨s2, g2⟩ : ∃ s2, s2 = Crc.crc zs := ⟨_, rfl⟩
      rw [← g1] at k1 hE
      rw [← g2] at k2 hE
      have hE' : ((s1 : Int) != (s2 : Int)) = true := by simp; omega
      clear hs4 hT4 hs0 g1 g2 hE
      go_wp2_with fail
      refine k1.out.mono ?_
      rintro e w2 ⟨rfl, rfl⟩
      go_wp2_with fail
      refine k2.out.mono ?_
      rintro e w2 ⟨rfl, rfl⟩
      go_wp2_with fail
      go_ret
      exact ⟨rfl, hbr⟩

end Go.Proofs.YtmnhehicgheheaaDoor
