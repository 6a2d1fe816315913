/- What mem.Little and mem.Number do, for every number, width and slice of bytes: the lowest bytes of the number in new memory; the number of the first eight bytes. -/
import Derived.Test.YtnmgapnblmikeaaChecked
import Derived.Test.YtnmgapnblmikeaaLaw
import Derived.Test.YtnmgapnblmikeaaLit
namespace Go.Proofs.Ytnmgapnblmikeaa
open Go.RowKit Lend

theorem Try.linfo5 : (Try.prog.info? 5).map (fun i => (i.zero, i.size, i.bytes)) = some (some (.int .u8 0), 1, 1) := by kernel_rfl

/-- How many bytes a number of a width has. -/
def wid (width : Int) : Nat := (min (max width 0) 8).toNat
theorem wid_le (width : Int) : wid width ≤ 8 := by unfold wid; omega

theorem shr_byte (n : Int) (i : Nat) : (n % 18446744073709551616) / 2 ^ (8 * i) % 256 = ((un n / 256 ^ i % 256 : Nat) : Int) := by
  rw [← un_cast, pow_256]; simp

/-- The first i bytes, and noughts behind. -/
def part (u k i : Nat) : List Int := le u i ++ List.replicate (k - i) 0
theorem part_zero (u k : Nat) : part u k 0 = List.replicate k 0 := by simp [part, le]
theorem part_full (u k : Nat) : part u k k = le u k := by simp [part]
theorem part_set (u k i : Nat) (h : i < k) : (part u k i).set i ((u / 256 ^ i % 256 : Nat) : Int) = part u k (i + 1) := by
  obtain ⟨j, rfl⟩ : ∃ j, k = i + 1 + j := ⟨k - (i + 1), by omega⟩
  unfold part
  rw [show i + 1 + j - i = j + 1 by omega, show i + 1 + j - (i + 1) = j by omega, List.set_append_right i _ (by rw [length_le]; exact Nat.le_refl _), length_le, Nat.sub_self]
  simp [List.replicate_succ, le]
theorem part_get (u k i : Nat) (h : i < k) : (part u k i)[i]? = some 0 := by
  rw [part, List.getElem?_append_right (by rw [length_le]; exact Nat.le_refl _), length_le, Nat.sub_self, List.getElem?_replicate, if_pos (by omega)]

set_option maxHeartbeats 400000 in
theorem little_any (n width : Int) (w : World) :
    Calls Try.prog 23 #[.int .i64 n, .int .i64 width] w fun e w' => e = .returned (.slice (some ⟨w.heap.size, 0, none⟩) (wid width) (wid width)) ∧
      w'.ownsRow w.heap.size 5 1 (.slice (some ⟨w.heap.size, 0, none⟩) (wid width) (wid width)) (wid width) ((le (un n) (wid width)).map (Value.int .u8)) ∧ Below w.heap.size w w' := by
  obtain ⟨i0, hi, hz0, hz1, hz2⟩ := info_parts Try.linfo5
  obtain ⟨k, hk⟩ : ∃ k, k = wid width := ⟨_, rfl⟩
  have hk8 : k ≤ 8 := by rw [hk]; exact wid_le width
  rw [← hk]
  have hc : (width < 0 ∧ (0 : Int) = (k : Int)) ∨ (8 < width ∧ (8 : Int) = (k : Int)) ∨ (0 ≤ width ∧ width ≤ 8 ∧ width = (k : Int)) := by rw [hk]; unfold wid; omega
  clear hk
  have hm : (madeCells #[Value.int .u8 0] k).toList = (part (un n) k 0).map (Value.int .u8) := by
    rw [part_zero]; simp [madeCells, Nat.mod_one, List.map_const']
  rcases hc with ⟨h1, hk⟩ | ⟨h1, hk⟩ | ⟨h1, h2, hk⟩
  all_goals
    have HK := hid hk
    have HM := hid hm
    clear hk hm
    go_enter Try.func23, Try.ntmps23
    go_wp2_with (at_make; go_must (refine wpList_make_full _ rfl (.tmp 9) (.tmp 9) 27 rfl w.heap.size 5 i0 (.int .u8 0) 1 Try.underlying27 hi hz0 hz1 .i64 .i64 _ _ k rfl rfl HK.out HK.out (by rw [hz2]; omega) (by unfold maxLen; omega) (Nat.le_refl _) ?_))
    intro w1 hown hgrow
    rw [HM.out] at hown
    have HO := hid hown
    have hb1 : Below w.heap.size w w1 := (Below.refl _ _).grown hgrow (by simp) (by intro q hq; cases hq)
    clear hown hgrow
    go_wp2_with fail
    go_loopw [13] (fun s wr => ∃ i : Nat, i ≤ k ∧ s = .int .i64 i ∧ Hid (wr.ownsRow w.heap.size 5 1 (.slice (some ⟨w.heap.size, 0, none⟩) k k) k ((part (un n) k i).map (Value.int .u8))) ∧ Below w.heap.size w wr) (fun s _ => k - (intOf s).toNat)
    case atStart => exact ⟨0, by omega, rfl, HO, hb1⟩
    case round =>
      obtain ⟨i, hik, rfl, HW, hbr⟩ := hrel
      by_cases h : i < k
      · have hcell : wr.cell? ⟨w.heap.size, i, none⟩ = some (.int .u8 0) := by
          rw [HW.out.cellAt i (by omega), List.getElem?_map, part_get _ _ _ h]; rfl
        have hfr : wr.frozen? ⟨w.heap.size, i, none⟩ = false := HW.out.frozenAt i
        have HN : Hid ((wr.setCell ⟨w.heap.size, i, none⟩ (.int .u8 ((n % 18446744073709551616) / 2 ^ (8 * i) % 256))).ownsRow w.heap.size 5 1 (.slice (some ⟨w.heap.size, 0, none⟩) k k) k ((part (un n) k (i + 1)).map (Value.int .u8))) := by
          have := HW.out.stored i (.int .u8 ((n % 18446744073709551616) / 2 ^ (8 * i) % 256))
          rw [← part_set _ _ _ h, ← shr_byte, List.map_set]
          exact this.1
        go_wp2_with fail
        go_roundw
        case rel => exact ⟨i + 1, by omega, by go_num, HN, (hbr.setCell (p := ⟨w.heap.size, i, none⟩) (Nat.le_refl _) _)⟩
        case measure => simp [intOf]; omega
      · obtain rfl : i = k := by omega
        go_wp2_with fail
        go_ret
        have := HW.out
        rw [part_full] at this
        exact ⟨rfl, this, hbr⟩

theorem div_step (u i : Nat) : u / 256 ^ i / 256 = u / 256 ^ (i + 1) := by rw [Nat.div_div_eq_div_mul, Nat.pow_succ]

set_option maxHeartbeats 400000 in
theorem rlittle_any (n width : Int) (w : World) :
    Calls Try.prog 24 #[.int .i64 n, .int .i64 width] w fun e w' => ∃ v, e = .returned v ∧
      w'.ownsRow w.heap.size 5 1 v (wid width) ((le (un n) (wid width)).map (Value.int .u8)) ∧ Below w.heap.size w w' := by
  obtain ⟨i0, hi, hz0, hz1, hz2⟩ := info_parts Try.linfo5
  obtain ⟨k, hk⟩ : ∃ k, k = wid width := ⟨_, rfl⟩
  have hk8 : k ≤ 8 := by rw [hk]; exact wid_le width
  rw [← hk]
  have hc : (width < 0 ∧ (0 : Int) = (k : Int)) ∨ (8 < width ∧ (8 : Int) = (k : Int)) ∨ (0 ≤ width ∧ width ≤ 8 ∧ width = (k : Int)) := by rw [hk]; unfold wid; omega
  clear hk
  have hu := un_cast n
  have hul := un_lt n
  have hmax : (if width < 0 then 0 else width) = (if width < 0 then (0 : Int) else width) := rfl
  have hmin : ∀ x : Int, (x = if width < 0 then (0 : Int) else width) → (if (8 : Int) < x then (8 : Int) else x) = (k : Int) := by
    intro x hx; split at hx <;> split <;> omega
  rcases hc with ⟨h1, hk⟩ | ⟨h1, hk⟩ | ⟨h1, h2, hk⟩
  all_goals
    have HK := hid hk
    have HM := hid hmin
    have HU := hid hu
    clear hk hmin hmax hu
    go_enter Try.func24, Try.ntmps24
    go_wp2_with fail
    go_loopw [5, 6, 12] (fun v u s wr => ∃ i : Nat, i ≤ k ∧ s = .int .i64 i ∧ u = .int .u64 ((un n / 256 ^ i : Nat) : Int) ∧ Hid (wr.ownsRow w.heap.size 5 1 v i ((le (un n) i).map (Value.int .u8))) ∧ Below w.heap.size w wr) (fun _ _ s _ => k - (intOf s).toNat)
    case atStart => exact ⟨0, by omega, rfl, by simp [HU.out, IntKind.wrap_u64], hid (World.ownsRow_nil _ _ _ _), Below.refl _ _⟩
    case round =>
      obtain ⟨i, hik, rfl, rfl, HW, hbr⟩ := hrel
      have hK := HK.out
      by_cases h : i < k
      · have hlt : ∀ X : Int, X = (k : Int) → (i : Int) < X := by intro X hX; omega
        have hlt := hlt _ hK
        first
        | (exfalso; omega)
        | (clear hK
           obtain ⟨u, gu⟩ : ∃ u, u = un n / 256 ^ i := ⟨_, rfl⟩
           have hul2 : u < 18446744073709551616 := by rw [gu]; exact Nat.lt_of_le_of_lt (Nat.div_le_self _ _) hul
           rw [← gu]
           have GU := hid gu
           clear gu
           have hsz := hbr.size
           have hBr : w.heap.size ≤ wr.heap.size := by omega
           go_wp2_with (at_builtin; go_must (refine wpList_append_own _ rfl (.tmp 14) (.tmp 18) 27 rfl w.heap.size 5 i0 (.int .u8 0) 1 1 Try.underlying27 hi hz0 hz1 hz2 rfl (by decide) _ i ((le (un n) i).map (Value.int .u8)) rfl (HW.out.alloc _) ⟨wr.heap.size, 0, none⟩ 1 1 [.int .u8 ((u : Int) % 256)] rfl rfl (cell_one_new _ _ _) (by simp [Value.oneCell']) (by unfold maxLen; omega) (by omega) (by simp; omega) ?_))
           intro v1 w1 hown1 hgrow1 _
           have hb1 := (hbr.alloc hBr (.cells #[Value.int .u8 ((u : Int) % 256)] 5)).grown hgrow1 (by simp; omega) (by intro q hq; exact (HW.out.lt q hq).1)
           have HR : Hid (w1.ownsRow w.heap.size 5 1 v1 (i + 1) ((le (un n) (i + 1)).map (Value.int .u8))) := by
             show w1.ownsRow _ _ _ _ _ _
             rw [le, List.map_append, ← GU.out]
             simpa using hown1
           clear hown1 hgrow1
           go_wp2_with fail
           go_roundw
           case rel => exact ⟨i + 1, by omega, by go_num, by rw [← div_step, ← GU.out]; simp, HR, hb1⟩
           case measure => simp [intOf]; omega)
      · obtain rfl : i = k := by omega
        clear hK
        have hlt : ∀ X : Int, X = (i : Int) → ¬ (i : Int) < X := by intro X hX; omega
        have hlt := hlt _ HK.out
        go_wp2_with fail
        go_ret
        exact ⟨_, rfl, HW.out, hbr⟩

end Go.Proofs.Ytnmgapnblmikeaa
