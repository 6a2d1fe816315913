/- The document's space as it lies, and what its calls do. -/
import Derived.Test.YtnmgapnblmikeaaMDos
import Derived.Test.YtnmgapnblmikeaaMPath
import Derived.Test.YtnmgapnblmikeaaLittle
namespace Go.Proofs.Ytnmgapnblmikeaa
open Go.RowKit Lend
set_option linter.unusedVariables false

/-- The document's space: a pointer's block q, its bytes' block g (of c places). -/
structure Rsp (w : World) (q g c : Nat) (zs : List Int) : Prop where
  len : zs.length = 2048
  bytes : Bytes zs
  head : w.heap[q]? = some (.cells #[.slice (some ⟨g, 0, none⟩) 2048 c] 42 (0, 0))
  own : w.ownsRow 0 5 1 (.slice (some ⟨g, 0, none⟩) 2048 c) 2048 (zs.map (Value.int .u8))

theorem Rsp.qlt {w : World} {q g c : Nat} {zs : List Int} (h : Rsp w q g c zs) : q < w.heap.size := (Array.getElem?_eq_some_iff.1 h.head).1
theorem Rsp.glt {w : World} {q g c : Nat} {zs : List Int} (h : Rsp w q g c zs) : g < w.heap.size := (h.own.lt g rfl).2
theorem Rsp.row {w : World} {q g c : Nat} {zs : List Int} (h : Rsp w q g c zs) : ∃ cur : List Value, w.heap[g]? = some (.cells cur.toArray 5 (0, 0)) ∧ cur.length = c ∧ cur.take 2048 = zs.map (Value.int .u8) ∧ 2048 ≤ c ∧ c ≤ maxLen := by
  rcases h.own.2 with ⟨h', _⟩ | ⟨g', cap', cur, h', _, hg, hnc, hcm, hcs, htake⟩
  · simp at h'
  · simp only [Value.slice.injEq, Option.some.injEq, Addr.mk.injEq, and_true, true_and] at h'
    obtain ⟨rfl, rfl⟩ := h'
    exact ⟨cur.toList, by simpa using hg, by simpa using hcs, by simpa using htake, hnc, hcm⟩
theorem Rsp.cap {w : World} {q g c : Nat} {zs : List Int} (h : Rsp w q g c zs) : 2048 ≤ c ∧ c ≤ maxLen := by obtain ⟨_, _, _, _, h1, h2⟩ := h.row; exact ⟨h1, h2⟩
theorem Rsp.cell {w : World} {q g c : Nat} {zs : List Int} (h : Rsp w q g c zs) : w.cell? ⟨q, 0, none⟩ = some (.slice (some ⟨g, 0, none⟩) 2048 c) := by rw [cell_of_row w q 0 _ 42 (0, 0) h.head]; rfl
theorem Rsp.upd {F : Nat → Prop} {w w' : World} {q g c : Nat} {zs : List Int} (h : Rsp w q g c zs) (u : Upd F w w') (hq : ¬ F q) (hg : ¬ F g) : Rsp w' q g c zs := ⟨h.len, h.bytes, u.heap h.head hq, u.own h.own (fun k hk => by simp [Value.ownBlock] at hk; subst hk; exact hg)⟩
theorem Rsp.below {B : Nat} {w w' : World} {q g c : Nat} {zs : List Int} (h : Rsp w q g c zs) (u : Below B w w') (hq : q < B) (hg : g < B) : Rsp w' q g c zs :=
  h.upd (F := fun x => B ≤ x) ⟨u.os, u.tape, u.output, u.size, fun k _ hk => u.block k (by omega)⟩ (by omega) (by omega)
theorem Rsp.src {w : World} {q g c : Nat} {zs : List Int} (h : Rsp w q g c zs) (k n o : Nat) (hk : k + n ≤ 2048) (ho : 0 < n → o = k) : Src w (some ⟨g, o, none⟩) n ((zs.drop k).take n) :=
  ⟨by simp; rw [h.len]; omega, fun hn => ⟨g, o, rfl, h.glt, fun j hj => by
    rw [ho hn, h.own.cellAt (k + j) (by omega)]
    simp [List.getD, List.getElem?_drop, hj, List.getElem?_eq_getElem (show k + j < zs.length by rw [h.len]; omega)]⟩⟩
theorem Rsp.all {w : World} {q g c : Nat} {zs : List Int} (h : Rsp w q g c zs) : Src w (some ⟨g, 0, none⟩) 2048 zs := by
  have := h.src 0 2048 0 (by omega) (fun _ => rfl)
  rwa [List.drop_zero, List.take_of_length_le (by rw [h.len]; exact Nat.le_refl _)] at this
theorem Rsp.ne {w : World} {q g c p : Nat} {zs ys : List Int} (h : Rsp w q g c zs) (k : Spc w p ys) : q ≠ p ∧ g ≠ p := by
  refine ⟨fun e => ?_, fun e => ?_⟩
  · have h1 := h.head; have h2 := k.block; rw [e, h2] at h1; injection h1 with h1; injection h1 with _ h1; cases h1
  · obtain ⟨cur, h1, _⟩ := h.row; have h2 := k.block; rw [e, h2] at h1; injection h1 with h1; injection h1 with _ h1; cases h1
theorem Rsp.nqg {w : World} {q g c q' g' c' : Nat} {zs ys : List Int} (h : Rsp w q g c zs) (k : Rsp w q' g' c' ys) : q ≠ g' := by
  intro e
  obtain ⟨cur, h1, _⟩ := k.row; have h2 := h.head; rw [e, h1] at h2; injection h2 with h2; injection h2 with _ h2; cases h2

theorem rpart_any (addr n : Int) (w : World) (h0 : -9223372036854775808 ≤ addr) (h1 : addr ≤ 9223372036854775807) :
    Calls Try.prog 31 #[.int .i64 addr, .int .i64 n] w fun e w' => e = .returned (.bool (isPart addr n)) ∧ w' = w := by
  by_cases c1 : 0 ≤ n
  · by_cases c2 : n ≤ 2048
    · by_cases c3 : 4096 ≤ addr
      · have hw : wrap64 (6144 - n) = 6144 - n := by unfold wrap64; omega
        have hp : isPart addr n = decide (addr ≤ 6144 - n) := by unfold isPart; rw [decide_eq_decide]; omega
        rw [hp]
        go_enter Try.func31, Try.ntmps31
        go_wp2
        go_ret
        exact ⟨rfl, rfl⟩
      · have hp : isPart addr n = false := by simp [isPart]; omega
        rw [hp]
        go_enter Try.func31, Try.ntmps31
        go_wp2
        go_ret
        exact ⟨rfl, rfl⟩
    · have hp : isPart addr n = false := by simp [isPart]; omega
      rw [hp]
      go_enter Try.func31, Try.ntmps31
      go_wp2
      go_ret
      exact ⟨rfl, rfl⟩
  · have hp : isPart addr n = false := by simp [isPart]; omega
    rw [hp]
    go_enter Try.func31, Try.ntmps31
    go_wp2
    go_ret
    exact ⟨rfl, rfl⟩

theorem noughts_row : ∃ Z : List Int, Z = List.replicate 2048 0 ∧ (madeCells #[Value.int .u8 0] 2048) = (Z.map (Value.int .u8)).toArray ∧ Z.length = 2048 ∧ Bytes Z := by
  refine ⟨_, rfl, ?_, List.length_replicate, fun z hz => by rw [List.mem_replicate] at hz; omega⟩
  apply Array.toList_inj.1
  rw [toList_madeCells_one, List.map_replicate]

set_option maxHeartbeats 1000000 in
set_option maxRecDepth 20000 in
theorem rnew_any (Z : List Int) (hZ : Z = List.replicate 2048 0) (w : World) :
    Calls Try.prog 10 #[] w fun e w' => e = .returned (.pointer (some ⟨w.heap.size + 1, 0, none⟩)) ∧ Rsp w' (w.heap.size + 1) w.heap.size 2048 Z ∧ Below w.heap.size w w' := by
  obtain ⟨i0, hi, hz0, hz1, hz2⟩ := info_parts Try.linfo5
  obtain ⟨Z', gZ, hm, hl, hby⟩ := noughts_row
  rw [← gZ] at hZ
  subst hZ
  have HM := hid hm
  have HL := hid hl
  have HY := hid hby
  clear gZ hm hl hby
  go_enter Try.func10, Try.ntmps10
  go_wp2_with (at_make; go_must (refine wpList_make_lc _ rfl _ _ 27 rfl 5 i0 (.int .u8 0) 1 Try.underlying27 hi hz0 hz1 .i64 .i64 2048 2048 2048 2048 rfl rfl rfl rfl (Nat.le_refl _) (by rw [hz2]; decide) (by unfold maxLen; decide) ?_))
  go_ret
  have hb1 : Below w.heap.size w (w.alloc (.cells (madeCells #[Value.int .u8 0] 2048) 5)) := (Below.refl _ _).alloc (Nat.le_refl _) _
  refine ⟨by simp, ⟨HL.out, HY.out, ?_, ?_⟩, hb1.alloc hb1.size _⟩
  · have := heap_alloc_new (w.alloc (.cells (madeCells #[Value.int .u8 0] 2048) 5)) (.cells #[.slice (some ⟨w.heap.size, 0, none⟩) 2048 2048] 42)
    simpa using this
  · refine World.ownsRow.alloc ?_ _
    rw [HM.out]
    have := World.ownsRow_lit (base := 0) (e := 5) (size := 1) w (Z.map (Value.int .u8)).toArray 2048 (Nat.zero_le _) (by unfold maxLen; decide) (by simp [HL.out])
    simpa using this

end Go.Proofs.Ytnmgapnblmikeaa
