/- The road of MemTold: it returns true for every list of calls and every two ints, and leaves what was there. -/
import Derived.Test.YtnmgapnblmikeaaMDos
import Derived.Test.YtnmgapnblmikeaaLittle
import Derived.Deep.RegionHeld3
namespace Go.Proofs.Ytnmgapnblmikeaa
open Go.RowKit Lend
set_option linter.unusedVariables false

/-- A space at p, and a row of bytes at g: the same bytes. -/
structure Twin (w : World) (p g : Nat) (zs : List Int) : Prop where
  spc : Spc w p zs
  want : w.heap[g]? = some (.cells (zs.map (Value.int .u8)).toArray 5 (0, 0))

theorem Twin.below {B : Nat} {w w' : World} {p g : Nat} {zs : List Int} (h : Twin w p g zs) (u : Below B w w') (hp : p < B) (hg : g < B) : Twin w' p g zs := ⟨h.spc.below u hp, by rw [u.block g hg]; exact h.want⟩
theorem Twin.src {w : World} {p g : Nat} {zs : List Int} (h : Twin w p g zs) (k n o : Nat) (hk : k + n ≤ 2048) (ho : k < 2048 → o = k) : Src w (some ⟨g, o, none⟩) n ((zs.drop k).take n) :=
  ⟨by simp; rw [h.spc.len]; omega, fun hn => ⟨g, o, rfl, (Array.getElem?_eq_some_iff.1 h.want).1, fun j hj => by
    rw [ho (by omega), cell_of_row w g (k + j) _ 5 (0, 0) h.want]
    simp [List.getD, List.getElem?_drop, hj, List.getElem?_eq_getElem (show k + j < zs.length by rw [h.spc.len]; omega)]⟩⟩

theorem noughts_row : ∃ Z : List Int, Z = List.replicate 2048 0 ∧ (madeCells #[Value.int .u8 0] 2048) = (Z.map (Value.int .u8)).toArray := by
  refine ⟨_, rfl, ?_⟩
  apply Array.toList_inj.1
  rw [toList_madeCells_one, List.map_replicate]

set_option maxHeartbeats 2000000 in
set_option maxRecDepth 20000 in
theorem told_road (al : Option Addr) (ll cl : Nat) (addr n : Int) (w : World) (hd : Dos w al ll) (hll : ll ≤ 9223372036854775807) (h0 : -9223372036854775808 ≤ addr) (h1 : addr ≤ 9223372036854775807) (h2 : -9223372036854775808 ≤ n) (h3 : n ≤ 9223372036854775807) :
    Calls Try.prog 5 #[.slice al ll cl, .int .i64 addr, .int .i64 n] w fun e w' => e = .returned (.bool true) ∧ Below w.heap.size w w' := by
  obtain ⟨i0, hi, hz0, hz1, hz2⟩ := info_parts Try.linfo5
  obtain ⟨Z, gZ, hm⟩ := noughts_row
  have k9 := hid (mnew_any Z gZ)
  have HM := hid hm
  have HD := hid hd
  clear gZ hm hd
  go_enter Try.func5, Try.ntmps5
  go_wp2_with fail
  refine (k9.out _).mono ?_
  rintro e w1 ⟨rfl, hs1, hb1, hsz1⟩
  have HS1 := hid hs1
  have HSZ := hid hsz1
  clear hs1 hsz1
  go_wp2_with (at_make; go_must (refine wpList_make_lc _ rfl _ _ 27 rfl 5 i0 (.int .u8 0) 1 Try.underlying27 hi hz0 hz1 .i64 .i64 2048 2048 2048 2048 rfl rfl rfl rfl (Nat.le_refl _) (by rw [hz2]; decide) (by unfold maxLen; decide) ?_))
  obtain ⟨W, gW⟩ : ∃ W, W = w1.alloc (.cells (madeCells #[Value.int .u8 0] 2048) 5) := ⟨_, rfl⟩
  have hbW : Below w.heap.size w W := by rw [gW]; exact hb1.alloc hb1.size _
  have hT : Hid (Twin W w.heap.size w1.heap.size Z) := by
    refine hid ⟨HS1.out.below (B := w1.heap.size) (by rw [gW]; exact (Below.refl _ _).alloc (Nat.le_refl _) _) HS1.out.lt, ?_⟩
    rw [gW, heap_alloc_new w1, HM.out]
  have hg : w.heap.size < w1.heap.size := HS1.out.lt
  rw [← gW]
  clear gW HS1 HSZ HM hb1
  go_loopw [18] (fun s wr => ∃ (i : Nat) (zs : List Int), i ≤ ll ∧ s = .int .i64 i ∧ Hid (Twin wr w.heap.size w1.heap.size zs) ∧ Below w.heap.size w wr) (fun s _ => ll - (intOf s).toNat)
  case atStart => exact ⟨0, Z, by omega, rfl, hT, hbW⟩
  case round =>
    obtain ⟨i, zs, hil, rfl, HT, hbr⟩ := hrel
    by_cases h : i < ll
    · obtain ⟨b, o, rfl, hh⟩ := HD.out (by omega)
      obtain ⟨x0, x1, x2, ab, lb, cb, bs, hdo⟩ := hh i h
      have HS0 := hid hdo.src
      have hdo := hdo.below hbr
      have HDO := hid hdo
      have c0 := hdo.c0
      have c1 := hdo.c1
      have c2 := hdo.c2
      have c3 := hdo.c3
      clear hdo hh
      obtain ⟨wA, gA⟩ : ∃ wA, wA = wr.alloc (.cells #[.int .i64 x0, .int .i64 x1, .int .i64 x2, .slice ab lb cb] 29) := ⟨_, rfl⟩
      have hbA : Below wr.heap.size wr wA := by rw [gA]; exact (Below.refl _ _).alloc (Nat.le_refl _) _
      have hpr : w.heap.size < wr.heap.size := HT.out.spc.lt
      have hgr : w1.heap.size < wr.heap.size := (Array.getElem?_eq_some_iff.1 HT.out.want).1
      have HTA := hid (HT.out.below hbA hpr hgr)
      have HBA : Below w.heap.size w wA := hbr.trans (hbA.mono (Nat.le_of_lt hpr))
      have hx1 := HDO.out.b1
      have hsA := hid (HDO.out.src.below hbA)
      have hA : Hid (wA.heap[wr.heap.size]? = some (.cells #[.int .i64 x0, .int .i64 x1, .int .i64 x2, .slice ab lb cb] 29 (0, 0))) := by rw [gA]; exact hid (heap_alloc_new wr _)
      go_wp2_with fail
      rw [← gA]
      clear gA c0 c1 c2 c3
      by_cases hp : isPart x1 lb = true
      · obtain ⟨k, m, rfl, e2, hkm⟩ := isPart_yes hp
        obtain rfl : lb = m := by omega
        clear hp e2 hx1
        have kO := hid (out_yes w.heap.size k lb cb _ ab zs bs wA HTA.out.spc hsA.out HDO.out.bytes rfl hkm)
        refine kO.out.mono ?_
        rintro e w2 ⟨rfl, hs2, hu2⟩
        have hA2 := hu2.heap hA.out (by omega)
        have q1 : w2.cell? ⟨wr.heap.size, 1, none⟩ = some (.int .i64 (4096 + (k : Int))) := by rw [cell_of_row w2 _ 1 _ 29 (0, 0) hA2]; rfl
        have q3 : w2.cell? ⟨wr.heap.size, 3, none⟩ = some (.slice ab lb cb) := by rw [cell_of_row w2 _ 3 _ 29 (0, 0) hA2]; rfl
        have hsz2 : wr.heap.size < w2.heap.size := (Array.getElem?_eq_some_iff.1 hA2).1
        have hw2 := hu2.heap HTA.out.want (by omega)
        have hb2 : Below w.heap.size w w2 := HBA.trans (hu2.below HBA.size (fun x hx => by omega))
        have hs2b := HS0.out.below hb2
        have i1 : ¬ ((4096 : Int) + (k : Int) < 4096) := by omega
        have i2 : ¬ ((2048 : Int) < (lb : Int)) := by omega
        have i3 : wrap64 ((6144 : Int) - (lb : Int)) = 6144 - (lb : Int) := by unfold wrap64; omega
        have i4 : ¬ ((6144 : Int) - (lb : Int) < 4096 + (k : Int)) := by omega
        have i5 : wrap64 ((4096 : Int) + (k : Int) - 4096) = (k : Int) := by unfold wrap64; omega
        have i6 : (0 : Int) ≤ (k : Int) := by omega
        have i7 : (k : Int) ≤ 2048 := by omega
        clear hA2 hsz2
        go_wp2_with fail
        have huR : Upd (fun x => x = w1.heap.size) w2.drew (w2.drew.setRow w1.heap.size ((splice zs k bs).map (Value.int .u8)).toArray) := Upd.setRow _ _ _ rfl
        have hs2' : Spc w2.drew w.heap.size (splice zs k bs) := ⟨hs2.len, hs2.bytes, hs2.block⟩
        have hnew : Twin (w2.drew.setRow w1.heap.size ((splice zs k bs).map (Value.int .u8)).toArray) w.heap.size w1.heap.size (splice zs k bs) :=
          ⟨hs2'.upd huR (Nat.ne_of_lt hg), setRow_heap w2.drew _ _ _ 5 (0, 0) hw2⟩
        have hbn : Below w.heap.size w (w2.drew.setRow w1.heap.size ((splice zs k bs).map (Value.int .u8)).toArray) := below_setRow hb2.drew (by omega) _
        have HN := hid hnew
        have HBN := hid hbn
        obtain ⟨R, gR⟩ : ∃ R, R = ((splice zs k bs).map (Value.int .u8)).toArray := ⟨_, rfl⟩
        by_cases hk : k = 2048
        · have crun := copy_over w2.drew 3 (some ⟨w1.heap.size, 0, none⟩) ab lb cb w1.heap.size k zs bs hw2 HTA.out.spc.len hs2b hkm (fun h => absurd h (by omega))
          rw [← gR] at crun HN HBN
          subst hk
          clear gR hs2 hu2 hw2 hs2b hnew hbn huR hs2'
          go_region
          all_goals go_wp2_with fail
          all_goals go_roundw
          case rel => exact ⟨i + 1, _, by omega, by go_num, HN, HBN.out⟩
          case measure => simp [intOf]; omega
        · have crun := copy_over w2.drew 3 (some ⟨w1.heap.size, k, none⟩) ab lb cb w1.heap.size k zs bs hw2 HTA.out.spc.len hs2b hkm (fun _ => rfl)
          rw [← gR] at crun HN HBN
          have hk2 : ¬ (2048 = k) := fun e => hk e.symm
          clear gR hs2 hu2 hw2 hs2b hnew hbn huR hs2' hk
          go_region
          all_goals go_wp2_with fail
          all_goals go_roundw
          case rel => exact ⟨i + 1, _, by omega, by go_num, HN, HBN.out⟩
          case measure => simp [intOf]; omega
      · have hp : isPart x1 lb = false := by simpa using hp
        have kO := hid (out_no w.heap.size lb cb x1 ab zs wA HTA.out.spc hx1.1 hx1.2 hp)
        refine kO.out.mono ?_
        rintro e w2 ⟨rfl, rfl⟩
        go_wp2_with fail
        go_roundw
        case rel => exact ⟨i + 1, zs, by omega, by go_num, HTA, HBA⟩
        case measure => simp [intOf]; omega
    · obtain rfl : i = ll := by omega
      clear h
      by_cases hp : isPart addr n = true
      · obtain ⟨k, m, rfl, rfl, hkm⟩ := isPart_yes hp
        have kI := hid (min_yes w.heap.size k m _ zs wr HT.out.spc rfl hkm)
        have i1 : ¬ ((4096 : Int) + (k : Int) < 4096) := by omega
        have i2 : ¬ ((2048 : Int) < (m : Int)) := by omega
        have i0' : ¬ ((m : Int) < 0) := by omega
        have i3 : wrap64 ((6144 : Int) - (m : Int)) = 6144 - (m : Int) := by unfold wrap64; omega
        have i4 : ¬ ((6144 : Int) - (m : Int) < 4096 + (k : Int)) := by omega
        have i5 : wrap64 ((4096 : Int) + (k : Int) - 4096) = (k : Int) := by unfold wrap64; omega
        have i6 : (0 : Int) ≤ (k : Int) := by omega
        have i7 : wrap64 ((k : Int) + (m : Int)) = ((k + m : Nat) : Int) := by unfold wrap64; omega
        have i8 : (k : Int) ≤ ((k + m : Nat) : Int) := by omega
        have i9 : ((k + m : Nat) : Int) ≤ 2048 := by omega
        clear hp
        go_wp2_with fail
        refine kI.out.mono ?_
        rintro e w2 ⟨g, c, rfl, ho, hb2⟩
        have S2 := hid (Src.own ho)
        have hT2 := HT.out.below hb2 HT.out.spc.lt (Array.getElem?_eq_some_iff.1 HT.out.want).1
        have HT2 := hid hT2
        have hB2 : Below w.heap.size w w2 := hbr.trans (hb2.mono hbr.size)
        clear ho hT2
        go_wp2_with fail
        all_goals
          refine (equal_yes _ _ _ _ _ _ ((zs.drop k).take m) _ S2.out (HT2.out.src k m _ hkm (by omega))).mono ?_
          rintro e w3 ⟨rfl, rfl⟩
          go_wp2_with fail
          go_ret
          exact ⟨rfl, hB2⟩
      · have hp : isPart addr n = false := by simpa using hp
        have kI := hid (min_no w.heap.size addr n zs wr HT.out.spc h0 h1 hp)
        have hbey : (decide (n < 0) || decide (2048 < n) || decide (addr < 4096) || decide (6144 - n < addr)) = true := by
          have := of_decide_eq_false hp
          simp
          omega
        have HY := hid hbey
        clear hbey hp
        go_wp2_with fail
        refine kI.out.mono ?_
        rintro e w2 ⟨rfl, rfl⟩
        go_wp2_with fail
        all_goals go_ret
        all_goals exact ⟨by first | rfl | exact congrArg (fun b => Ending.returned (Value.bool b)) HY.out, hbr⟩

end Go.Proofs.Ytnmgapnblmikeaa
