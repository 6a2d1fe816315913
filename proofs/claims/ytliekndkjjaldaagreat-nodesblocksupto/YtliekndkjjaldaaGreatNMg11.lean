/- Texts of this seat, merged. -/
import Derived.Shelf.SlIter.Nil
import Derived.Shelf.SortM.Plain
import Derived.Shelf.SortM.SortNone
import Derived.Ground.GgzProg
import Derived.Ground.SlgmProg
import Derived.Test.YtliekndkjjaldaaGreatChecked
import Derived.Test.YtliekndkjjaldaaGreatNMg10

/- Contracts of the library, laid at this program by the shelf's own program: the keys of a map, sorted. (Numbers of one seat: lay-iter.mjs, lay-plain.mjs.) -/
namespace Go.Proofs
open Go.RowKit Go.Maps Go.Sort Go.Shelf
def Tryz.keys91_ren : Go.Shelf.Ren := ⟨fun | 7 => 91 | 10 => 117 | n => n, fun | 23 => 52 | 26 => 9 | 3 => 3 | 28 => 122 | 0 => 0 | 27 => 121 | 33 => 145 | 4 => 4 | n => n, fun | n => n⟩
theorem Tryz.keys91 : Go.Proofs.SlLaysZ.n7 Tryz.prog Tryz.keys91_ren := {
  mixed := by kernel_rfl
  f7 := ⟨Tryz.f91.name, by decide, Tryz.func91.trans (congrArg some (by kernel_rfl))⟩
  f10 := ⟨Tryz.f117.name, by decide, Tryz.func117.trans (congrArg some (by kernel_rfl))⟩
  t0 := Tryz.underlying0
  a0 := Tryz.isAgg0
  z0 := Tryz.sizeOf0
  v0 := Tryz.zeroValue0
  t4 := Tryz.underlying4
  a4 := Tryz.isAgg4
  z4 := Tryz.sizeOf4
  v4 := Tryz.zeroValue4
  t23 := Tryz.underlying52
  a23 := Tryz.isAgg52
  z23 := Tryz.sizeOf52
  v23 := Tryz.zeroValue52
  t26 := Tryz.underlying9
  a26 := Tryz.isAgg9
  z26 := Tryz.sizeOf9
  v26 := Tryz.zeroValue9
  t27 := Tryz.underlying121
  a27 := Tryz.isAgg121
  z27 := Tryz.sizeOf121
  v27 := Tryz.zeroValue121
  t28 := Tryz.underlying122
  a28 := Tryz.isAgg122
  z28 := Tryz.sizeOf122
  v28 := Tryz.zeroValue122
  t33 := Tryz.underlying145
  a33 := Tryz.isAgg145
  z33 := Tryz.sizeOf145
  v33 := Tryz.zeroValue145 }
def Tryz.sorted90_ren : Go.Shelf.Ren := ⟨fun | 6 => 90 | 8 => 115 | 9 => 116 | 11 => 128 | 13 => 52 | 12 => 129 | 23 => 101 | 24 => 102 | 14 => 132 | 15 => 133 | 16 => 134 | 17 => 135 | 18 => 136 | 19 => 137 | 20 => 138 | 21 => 139 | 22 => 140 | 25 => 145 | 26 => 119 | 27 => 120 | 28 => 146 | 29 => 147 | 30 => 148 | 31 => 151 | n => n, fun | 26 => 9 | 28 => 122 | 24 => 42 | 0 => 0 | 3 => 3 | 37 => 68 | 48 => 133 | 50 => 135 | 4 => 4 | 40 => 126 | 39 => 125 | 45 => 130 | 5 => 5 | 9 => 9 | 51 => 146 | 55 => 150 | 57 => 155 | 58 => 156 | 33 => 145 | n => n, fun | n => n⟩
theorem Tryz.sorted90 : Go.Proofs.SlLaysZ.n6 Tryz.prog Tryz.sorted90_ren := {
  mixed := by kernel_rfl
  f6 := ⟨Tryz.f90.name, by decide, Tryz.func90.trans (congrArg some (by kernel_rfl))⟩
  f8 := ⟨Tryz.f115.name, by decide, Tryz.func115.trans (congrArg some (by kernel_rfl))⟩
  f11 := ⟨Tryz.f128.name, by decide, Tryz.func128.trans (congrArg some (by kernel_rfl))⟩
  t0 := Tryz.underlying0
  a0 := Tryz.isAgg0
  z0 := Tryz.sizeOf0
  v0 := Tryz.zeroValue0
  t24 := Tryz.underlying42
  a24 := Tryz.isAgg42
  z24 := Tryz.sizeOf42
  v24 := Tryz.zeroValue42
  t26 := Tryz.underlying9
  a26 := Tryz.isAgg9
  z26 := Tryz.sizeOf9
  v26 := Tryz.zeroValue9
  t28 := Tryz.underlying122
  a28 := Tryz.isAgg122
  z28 := Tryz.sizeOf122
  v28 := Tryz.zeroValue122
  i26 := by kernel_rfl }
def Tryz.sort116_ren : Go.Shelf.Ren := ⟨fun | 6 => 116 | 8 => 52 | 9 => 129 | 19 => 101 | 20 => 102 | 21 => 132 | 22 => 133 | 23 => 134 | 24 => 135 | 25 => 136 | 26 => 137 | 27 => 138 | 28 => 139 | 29 => 140 | 36 => 145 | 31 => 119 | 32 => 120 | 37 => 146 | 38 => 147 | 39 => 148 | 41 => 151 | n => n, fun | 27 => 42 | 29 => 9 | 3 => 3 | 32 => 68 | 26 => 42 | 0 => 0 | 44 => 133 | 46 => 135 | 4 => 4 | 36 => 126 | 35 => 125 | 41 => 130 | 5 => 5 | 9 => 9 | 53 => 146 | 57 => 150 | 63 => 155 | 64 => 156 | n => n, fun | n => n⟩
theorem Tryz.sort116 : Go.Proofs.SlLaysM.n6 Tryz.prog Tryz.sort116_ren := {
  mixed := by kernel_rfl
  f6 := ⟨Tryz.f116.name, by decide, Tryz.func116.trans (congrArg some (by kernel_rfl))⟩
  f8 := Tryz.func52.trans (congrArg some (by kernel_rfl))
  f9 := ⟨Tryz.f129.name, by decide, Tryz.func129.trans (congrArg some (by kernel_rfl))⟩
  f19 := Tryz.func101.trans (congrArg some (by kernel_rfl))
  f20 := Tryz.func102.trans (congrArg some (by kernel_rfl))
  f21 := ⟨Tryz.f132.name, by decide, Tryz.func132.trans (congrArg some (by kernel_rfl))⟩
  f22 := ⟨Tryz.f133.name, by decide, Tryz.func133.trans (congrArg some (by kernel_rfl))⟩
  f23 := ⟨Tryz.f134.name, by decide, Tryz.func134.trans (congrArg some (by kernel_rfl))⟩
  f24 := ⟨Tryz.f135.name, by decide, Tryz.func135.trans (congrArg some (by kernel_rfl))⟩
  f25 := ⟨Tryz.f136.name, by decide, Tryz.func136.trans (congrArg some (by kernel_rfl))⟩
  f26 := ⟨Tryz.f137.name, by decide, Tryz.func137.trans (congrArg some (by kernel_rfl))⟩
  f27 := ⟨Tryz.f138.name, by decide, Tryz.func138.trans (congrArg some (by kernel_rfl))⟩
  f28 := ⟨Tryz.f139.name, by decide, Tryz.func139.trans (congrArg some (by kernel_rfl))⟩
  f29 := ⟨Tryz.f140.name, by decide, Tryz.func140.trans (congrArg some (by kernel_rfl))⟩
  f31 := Tryz.func119.trans (congrArg some (by kernel_rfl))
  f32 := Tryz.func120.trans (congrArg some (by kernel_rfl))
  f36 := ⟨Tryz.f145.name, by decide, Tryz.func145.trans (congrArg some (by kernel_rfl))⟩
  f37 := ⟨Tryz.f146.name, by decide, Tryz.func146.trans (congrArg some (by kernel_rfl))⟩
  f38 := ⟨Tryz.f147.name, by decide, Tryz.func147.trans (congrArg some (by kernel_rfl))⟩
  f39 := ⟨Tryz.f148.name, by decide, Tryz.func148.trans (congrArg some (by kernel_rfl))⟩
  f41 := ⟨Tryz.f151.name, by decide, Tryz.func151.trans (congrArg some (by kernel_rfl))⟩
  t0 := Tryz.underlying0
  a0 := Tryz.isAgg0
  z0 := Tryz.sizeOf0
  v0 := Tryz.zeroValue0
  t3 := Tryz.underlying3
  a3 := Tryz.isAgg3
  z3 := Tryz.sizeOf3
  v3 := Tryz.zeroValue3
  t4 := Tryz.underlying4
  a4 := Tryz.isAgg4
  z4 := Tryz.sizeOf4
  v4 := Tryz.zeroValue4
  t5 := Tryz.underlying5
  a5 := Tryz.isAgg5
  z5 := Tryz.sizeOf5
  v5 := Tryz.zeroValue5
  t9 := Tryz.underlying9
  a9 := Tryz.isAgg9
  z9 := Tryz.sizeOf9
  v9 := Tryz.zeroValue9
  t26 := Tryz.underlying42
  a26 := Tryz.isAgg42
  z26 := Tryz.sizeOf42
  v26 := Tryz.zeroValue42
  t27 := Tryz.underlying42
  a27 := Tryz.isAgg42
  z27 := Tryz.sizeOf42
  v27 := Tryz.zeroValue42
  t29 := Tryz.underlying9
  a29 := Tryz.isAgg9
  z29 := Tryz.sizeOf9
  v29 := Tryz.zeroValue9
  t32 := Tryz.underlying68
  a32 := Tryz.isAgg68
  z32 := Tryz.sizeOf68
  v32 := Tryz.zeroValue68
  t35 := Tryz.underlying125
  a35 := Tryz.isAgg125
  z35 := Tryz.sizeOf125
  v35 := Tryz.zeroValue125
  t36 := Tryz.underlying126
  a36 := Tryz.isAgg126
  z36 := Tryz.sizeOf126
  v36 := Tryz.zeroValue126
  t41 := Tryz.underlying130
  a41 := Tryz.isAgg130
  z41 := Tryz.sizeOf130
  v41 := Tryz.zeroValue130
  t44 := Tryz.underlying133
  a44 := Tryz.isAgg133
  z44 := Tryz.sizeOf133
  v44 := Tryz.zeroValue133
  t46 := Tryz.underlying135
  a46 := Tryz.isAgg135
  z46 := Tryz.sizeOf135
  v46 := Tryz.zeroValue135
  t53 := Tryz.underlying146
  a53 := Tryz.isAgg146
  z53 := Tryz.sizeOf146
  v53 := Tryz.zeroValue146
  t57 := Tryz.underlying150
  a57 := Tryz.isAgg150
  z57 := Tryz.sizeOf150
  v57 := Tryz.zeroValue150
  t63 := Tryz.underlying155
  a63 := Tryz.isAgg155
  z63 := Tryz.sizeOf155
  v63 := Tryz.zeroValue155
  t64 := Tryz.underlying156
  a64 := Tryz.isAgg156
  z64 := Tryz.sizeOf156
  v64 := Tryz.zeroValue156 }
theorem Tryz.sorts90 (m : Nat) : AnyZ.SortsIn Tryz.prog Tryz.sorted90_ren Fence.wide m :=
  ⟨fun blk off cap ss W hH hblk hsz => callsIn_wide.2 (AnyM.slices_Sort_string Tryz.sort116 blk off cap ss W hH hblk hsz),
   fun p cap W => callsIn_wide.2 (AnyM.slices_Sort_string_none Tryz.sort116 p cap W)⟩

theorem Tryz.maps_Keys_91 (mb : Option Nat) (W : World) : CallsIn Fence.wide 5 Tryz.prog 91 #[.map mb] W fun e w' => e = .returned (.func (.func 117) #[] #[.pointer (some ⟨W.heap.size, 0, none⟩)]) ∧ w' = W.alloc (.cells #[.map mb] 52) :=
  AnyZ.keys_in Tryz.keys91 Fence.wide 5 trivial rfl mb W

set_option maxHeartbeats 1000000 in
theorem Tryz.slices_Sorted_keys_90_91 {H : Type} (b nn : Nat) (D0 : DataW H) (R : Value → Option (DataW H × List MemPlace)) (w : World) (hown : w.ownsMap Tryz.prog 9 R b nn D0) (hmax : Maps.size D0 ≤ maxLen) (hbytes : Maps.size D0 * 16 ≤ 140737488355328) :
    CallsIn Fence.wide 5 Tryz.prog 90 #[.func (.func 117) #[] #[.pointer (some ⟨w.heap.size, 0, none⟩)]] (w.alloc (.cells #[.map (some b)] 52)) fun e w' => ∃ (v : Value) (ss : List (List UInt8)), e = .returned v ∧ ss.Perm (strKeys D0) ∧
      w'.ownsRow (w.alloc (.cells #[.map (some b)] 52)).heap.size 9 1 v ss.length ((ss.mergeSort (fun x y => decide (x ≤ y))).map encStr) ∧ (v = .slice none 0 0 ↔ ss = []) ∧ Below (w.alloc (.cells #[.map (some b)] 52)).heap.size (w.alloc (.cells #[.map (some b)] 52)) w' := by
  have hbl := hown.lt
  have hseq : SeqGives Fence.wide 2 Tryz.prog 117 #[.pointer (some ⟨w.heap.size, 0, none⟩)] encStr (fun ss => ss.Perm (strKeys D0)) (Maps.size D0) (w.alloc (.cells #[.map (some b)] 52)) :=
    AnyZ.keys_gives (ρ := Tryz.keys91_ren) { Tryz.keys91 with } Fence.wide _ trivial rfl (by omega) w.heap.size b nn D0 _ (by simp) (by simp) (by
      obtain ⟨es, clock, hb, Ft, hs, hD⟩ := hown
      exact ⟨es, clock, (Below.heap_alloc _ _ b hbl).trans hb, Ft, hs, hD⟩)
  exact AnyZ.sorted_in Tryz.sorted90 Fence.wide 5 trivial trivial trivial trivial rfl (by omega) (Tryz.sorts90 _) (enters_of Tryz.func116 (by kernel_rfl) rfl) 117 #[.pointer (some ⟨w.heap.size, 0, none⟩)] trivial (enters_of Tryz.func117 (by kernel_rfl) rfl) _ _ hmax hbytes _ hseq

set_option maxHeartbeats 1000000 in
theorem Tryz.slices_Sorted_keys_nil_90_91 (w : World) :
    CallsIn Fence.wide 5 Tryz.prog 90 #[.func (.func 117) #[] #[.pointer (some ⟨w.heap.size, 0, none⟩)]] (w.alloc (.cells #[.map none] 52)) fun e w' => ∃ (v : Value) (ss : List (List UInt8)), e = .returned v ∧ ss = [] ∧
      w'.ownsRow (w.alloc (.cells #[.map none] 52)).heap.size 9 1 v ss.length ((ss.mergeSort (fun x y => decide (x ≤ y))).map encStr) ∧ (v = .slice none 0 0 ↔ ss = []) ∧ Below (w.alloc (.cells #[.map none] 52)).heap.size (w.alloc (.cells #[.map none] 52)) w' := by
  have hseq : SeqGives Fence.wide 2 Tryz.prog 117 #[.pointer (some ⟨w.heap.size, 0, none⟩)] encStr (fun ss : List (List UInt8) => ss = []) 0 (w.alloc (.cells #[.map none] 52)) :=
    AnyZ.keys_gives_nil (ρ := Tryz.keys91_ren) { Tryz.keys91 with } Fence.wide _ trivial rfl w.heap.size _ (by simp) (by simp)
  exact AnyZ.sorted_in Tryz.sorted90 Fence.wide 5 trivial trivial trivial trivial rfl (by omega) (Tryz.sorts90 _) (enters_of Tryz.func116 (by kernel_rfl) rfl) 117 #[.pointer (some ⟨w.heap.size, 0, none⟩)] trivial (enters_of Tryz.func117 (by kernel_rfl) rfl) _ 0 (Nat.zero_le _) (by omega) _ hseq

end Go.Proofs

/- The document's file system as it lies; what has, there, file, named, look, empty and over tell. -/
namespace Go.Proofs.YtliekndkjjaldaaGreat
open Go.RowKit
set_option linter.unusedVariables false
set_option maxRecDepth 20000

theorem own_shp {w : World} {B e size n : Nat} {v : Value} {xs : List Value} (h : w.ownsRow B e size v n xs) : ∃ a c, v = .slice a n c ∧ n ≤ c ∧ c ≤ 9223372036854775807 ∧ (0 < n → ∃ q, a = some ⟨q, 0, none⟩ ∧ B ≤ q ∧ q < w.heap.size ∧ ∀ j x, xs[j]? = some x → w.cell? ⟨q, j, none⟩ = some x) := by
  obtain ⟨h1, h2⟩ := h
  rcases h2 with ⟨rfl, h2⟩ | ⟨g, c, cur, rfl, hb, hg, hnc, hcm, hcs, htake⟩
  · subst h2
    exact ⟨none, 0, rfl, Nat.le_refl _, by omega, fun h => absurd h (Nat.lt_irrefl 0)⟩
  · refine ⟨_, c, rfl, hnc, by simpa [maxLen] using hcm, fun _ => ⟨g, rfl, hb, (Array.getElem?_eq_some_iff.1 hg).1, fun j x hx => ?_⟩⟩
    have hj : j < n * size := by
      rw [← h1]
      exact (List.getElem?_eq_some_iff.1 hx).1
    have hh : w.ownsRow B e size (.slice (some ⟨g, 0, none⟩) n c) n xs := ⟨h1, .inr ⟨g, c, cur, rfl, hb, hg, hnc, hcm, hcs, htake⟩⟩
    rw [hh.cellAt j (by omega)]
    exact hx

/-- A text of bytes; names as cells. -/
def bs (l : List UInt8) : ByteArray := ⟨l.toArray⟩
theorem bl_bs (l : List UInt8) : bl (bs l) = l := by simp [bl, bs]
theorem bs_bl (t : ByteArray) : bs (bl t) = t := by simp [bl, bs]
theorem bs_eq (l : List UInt8) (t : ByteArray) : ((bs l).toList == t.toList) = decide (l = bl t) := by
  rw [ByteArray.toList_eq, ByteArray.toList_eq, Bool.eq_iff_iff, decide_eq_true_iff]
  simp [bs, bl]
def nmC : List (List UInt8 × Nat) → List Value
  | [] => []
  | x :: r => .string (bs x.1) :: .int .i64 (x.2 : Int) :: nmC r
theorem nmC_len : ∀ Q, (nmC Q).length = Q.length * 2
  | [] => rfl
  | x :: r => by simp [nmC, nmC_len r]; omega
theorem nmC_at : ∀ (Q : List (List UInt8 × Nat)) (j : Nat) (h : j < Q.length), (nmC Q)[j * 2]? = some (.string (bs Q[j].1)) ∧ (nmC Q)[j * 2 + 1]? = some (.int .i64 (Q[j].2 : Int))
  | x :: r, 0, _ => ⟨rfl, rfl⟩
  | x :: r, j + 1, h => by
    have := nmC_at r j (by simpa using h)
    rw [show (j + 1) * 2 = j * 2 + 1 + 1 by omega]
    exact this

/-- The document's system as it lies: its block, its nodes', its marks', and the three rows of each node. -/
structure Rf (w : World) (x g u : Nat) (V : Nat → Value) (F : Fs) : Prop where
  at0 : w.heap[x]? = some (.cells (List.toArray [.slice (some ⟨g, 0, none⟩) 17 17, .slice (some ⟨u, 0, none⟩) 25 25, .int .i64 F.d]) 63 (0, 0))
  nds : ∃ C : List Value, w.heap[g]? = some (.cells C.toArray 66 (0, 0)) ∧ C.length = 102 ∧ ∀ i, i < 17 → C[i * 6]? = some (.int .i64 (F.P i).k) ∧ C[i * 6 + 1]? = some (.int .i64 (F.P i).l) ∧ C[i * 6 + 2]? = some (.int .i64 (F.P i).h) ∧ C[i * 6 + 3]? = some (V (i * 3)) ∧ C[i * 6 + 4]? = some (V (i * 3 + 1)) ∧ C[i * 6 + 5]? = some (V (i * 3 + 2))
  use : ∃ D : List Value, w.heap[u]? = some (.cells D.toArray 4 (0, 0)) ∧ D.length = 25 ∧ ∀ b, b < 25 → D[b]? = some (.bool (F.T b))
  rb : ∀ i, i < 17 → w.ownsRow 0 5 1 (V (i * 3)) (F.P i).c.length ((F.P i).c.map (Value.int .u8))
  rB : ∀ i, i < 17 → w.ownsRow 0 3 1 (V (i * 3 + 1)) (F.P i).B.length ((F.P i).B.map fun (b : Nat) => Value.int .i64 (b : Int))
  rQ : ∀ i, i < 17 → w.ownsRow 0 119 2 (V (i * 3 + 2)) (F.P i).Q.length (nmC (F.P i).Q)
  ap : ∀ i j b, i < 51 → j < 51 → (V i).ownBlock = some b → (V j).ownBlock = some b → i = j
  ng : ∀ i b, i < 51 → (V i).ownBlock = some b → b ≠ x ∧ b ≠ g ∧ b ≠ u
  ne : x ≠ g ∧ x ≠ u ∧ g ≠ u
def RfFoot (x g u : Nat) (V : Nat → Value) (b : Nat) : Prop := b = x ∨ b = g ∨ b = u ∨ ∃ i, i < 51 ∧ (V i).ownBlock = some b

theorem Rf.c0 {w : World} {x g u : Nat} {V : Nat → Value} {F : Fs} (h : Rf w x g u V F) : w.cell? ⟨x, 0, none⟩ = some (.slice (some ⟨g, 0, none⟩) 17 17) := cell_list h.at0 rfl
theorem Rf.c1 {w : World} {x g u : Nat} {V : Nat → Value} {F : Fs} (h : Rf w x g u V F) : w.cell? ⟨x, 1, none⟩ = some (.slice (some ⟨u, 0, none⟩) 25 25) := cell_list h.at0 rfl
theorem Rf.c2 {w : World} {x g u : Nat} {V : Nat → Value} {F : Fs} (h : Rf w x g u V F) : w.cell? ⟨x, 2, none⟩ = some (.int .i64 F.d) := cell_list h.at0 rfl
theorem Rf.k {w : World} {x g u : Nat} {V : Nat → Value} {F : Fs} (h : Rf w x g u V F) (i : Nat) (hi : i < 17) : w.cell? ⟨g, i * 6, none⟩ = some (.int .i64 (F.P i).k) := by
  obtain ⟨C, h1, h2, h3⟩ := h.nds; exact cell_list h1 (h3 i hi).1
theorem Rf.l {w : World} {x g u : Nat} {V : Nat → Value} {F : Fs} (h : Rf w x g u V F) (i : Nat) (hi : i < 17) : w.cell? ⟨g, i * 6 + 1, none⟩ = some (.int .i64 (F.P i).l) := by
  obtain ⟨C, h1, h2, h3⟩ := h.nds; exact cell_list h1 (h3 i hi).2.1
theorem Rf.h {w : World} {x g u : Nat} {V : Nat → Value} {F : Fs} (h : Rf w x g u V F) (i : Nat) (hi : i < 17) : w.cell? ⟨g, i * 6 + 2, none⟩ = some (.int .i64 (F.P i).h) := by
  obtain ⟨C, h1, h2, h3⟩ := h.nds; exact cell_list h1 (h3 i hi).2.2.1
theorem Rf.b {w : World} {x g u : Nat} {V : Nat → Value} {F : Fs} (h : Rf w x g u V F) (i : Nat) (hi : i < 17) : w.cell? ⟨g, i * 6 + 3, none⟩ = some (V (i * 3)) := by
  obtain ⟨C, h1, h2, h3⟩ := h.nds; exact cell_list h1 (h3 i hi).2.2.2.1
theorem Rf.B {w : World} {x g u : Nat} {V : Nat → Value} {F : Fs} (h : Rf w x g u V F) (i : Nat) (hi : i < 17) : w.cell? ⟨g, i * 6 + 4, none⟩ = some (V (i * 3 + 1)) := by
  obtain ⟨C, h1, h2, h3⟩ := h.nds; exact cell_list h1 (h3 i hi).2.2.2.2.1
theorem Rf.q {w : World} {x g u : Nat} {V : Nat → Value} {F : Fs} (h : Rf w x g u V F) (i : Nat) (hi : i < 17) : w.cell? ⟨g, i * 6 + 5, none⟩ = some (V (i * 3 + 2)) := by
  obtain ⟨C, h1, h2, h3⟩ := h.nds; exact cell_list h1 (h3 i hi).2.2.2.2.2
theorem Rf.t {w : World} {x g u : Nat} {V : Nat → Value} {F : Fs} (h : Rf w x g u V F) (b : Nat) (hb : b < 25) : w.cell? ⟨u, b, none⟩ = some (.bool (F.T b)) := by
  obtain ⟨D, h1, h2, h3⟩ := h.use; exact cell_list h1 (h3 b hb)
theorem Rf.foot_lt {w : World} {x g u : Nat} {V : Nat → Value} {F : Fs} (h : Rf w x g u V F) (b : Nat) (hb : RfFoot x g u V b) : b < w.heap.size := by
  rcases hb with rfl | rfl | rfl | ⟨i, hi, hb⟩
  · exact (Array.getElem?_eq_some_iff.1 h.at0).1
  · obtain ⟨C, h1, _⟩ := h.nds; exact (Array.getElem?_eq_some_iff.1 h1).1
  · obtain ⟨D, h1, _⟩ := h.use; exact (Array.getElem?_eq_some_iff.1 h1).1
  · obtain ⟨j, hj, e⟩ : ∃ j, j < 17 ∧ (i = j * 3 ∨ i = j * 3 + 1 ∨ i = j * 3 + 2) := ⟨i / 3, by omega, by omega⟩
    rcases e with rfl | rfl | rfl
    · exact ((h.rb j hj).lt b hb).2
    · exact ((h.rB j hj).lt b hb).2
    · exact ((h.rQ j hj).lt b hb).2
theorem Rf.upd {U : Nat → Prop} {w w' : World} {x g u : Nat} {V : Nat → Value} {F : Fs} (h : Rf w x g u V F) (q : Upd U w w') (hU : ∀ b, RfFoot x g u V b → ¬ U b) : Rf w' x g u V F := by
  obtain ⟨C, h1, h2⟩ := h.nds
  obtain ⟨D, h3, h4⟩ := h.use
  exact ⟨q.heap h.at0 (hU x (.inl rfl)), ⟨C, q.heap h1 (hU g (.inr (.inl rfl))), h2⟩, ⟨D, q.heap h3 (hU u (.inr (.inr (.inl rfl)))), h4⟩,
    fun i hi => q.own (h.rb i hi) (fun k hk => hU k (.inr (.inr (.inr ⟨_, by omega, hk⟩)))), fun i hi => q.own (h.rB i hi) (fun k hk => hU k (.inr (.inr (.inr ⟨_, by omega, hk⟩)))), fun i hi => q.own (h.rQ i hi) (fun k hk => hU k (.inr (.inr (.inr ⟨_, by omega, hk⟩)))), h.ap, h.ng, h.ne⟩
theorem Rf.grow {w w' : World} {x g u : Nat} {V : Nat → Value} {F : Fs} (h : Rf w x g u V F) (q : Below w.heap.size w w') : Rf w' x g u V F := h.upd (Upd.of_below (F := fun _ => False) q) (fun _ _ h => h)

set_option maxHeartbeats 1000000 in
theorem rhas_any (x g u : Nat) (V : Nat → Value) (F : Fs) (w : World) (H : Rf w x g u V F) (b : Int) : Calls Tryz.prog 68 #[.pointer (some ⟨x, 0, none⟩), .int .i64 b] w fun e w' => e = .returned (.bool (dfc F.d b)) ∧ w' = w := by
  have c := H.c2
  have h := dfc_ne F.d b
  obtain ⟨R, gR⟩ : ∃ R, R = dfc F.d b := ⟨_, rfl⟩
  rw [← gR] at h ⊢
  clear H gR
  go_enter Tryz.func68, Tryz.ntmps68
  go_wp2_with fail
  go_ret
  exact ⟨rfl, rfl⟩

/-- The error of a name at a node. -/
def nmd (F : Fs) (n : Nat) (s : List UInt8) : Int := if (F.P n).k ≠ 2 then 20 else if s = [] then 22 else if 6 < s.length then 36 else 0

set_option maxHeartbeats 2000000 in
theorem rnamed_any (x g u : Nat) (V : Nat → Value) (F : Fs) (w : World) (H : Rf w x g u V F) (n : Nat) (hn : n < 17) (t : ByteArray) :
    Calls Tryz.prog 103 #[.pointer (some ⟨x, 0, none⟩), .int .i64 (n : Int), .string t] w fun e w' => e = .returned (.int .i64 (nmd F n (bl t))) ∧ w' = w := by
  have c0 := H.c0
  have c1 := H.k n hn
  have n0 : (0 : Int) ≤ (n : Int) := by omega
  have n1 : (n : Int) < 17 := by omega
  have hz : (t.toList == []) = decide (bl t = []) := by
    rw [ByteArray.toList_eq, Bool.eq_iff_iff]
    simp [bl]
  have hl := bl_len t
  unfold nmd
  obtain ⟨k, gk⟩ : ∃ k, k = (F.P n).k := ⟨_, rfl⟩
  rw [← gk] at c1 ⊢
  clear H gk
  by_cases h1 : k ≠ 2
  · rw [if_pos h1]
    have h2 : (k != 2) = true := by simpa using h1
    clear hz
    go_enter Tryz.func103, Tryz.ntmps103
    go_wp2_with fail
    go_ret
    exact ⟨rfl, rfl⟩
  · rw [if_neg h1]
    obtain rfl : k = 2 := by omega
    by_cases h2 : bl t = []
    · rw [if_pos h2]
      rw [show decide (bl t = []) = true by simp [h2]] at hz
      clear h1 h2 hl
      go_enter Tryz.func103, Tryz.ntmps103
      go_wp2_with fail
      go_ret
      exact ⟨rfl, rfl⟩
    · rw [if_neg h2]
      rw [show decide (bl t = []) = false by simp [h2]] at hz
      by_cases h3 : 6 < (bl t).length
      · rw [if_pos h3]
        have h4 : (6 : Int) < (t.size : Int) := by omega
        clear h1 h2 h3 hl
        go_enter Tryz.func103, Tryz.ntmps103
        go_wp2_with fail
        go_ret
        exact ⟨rfl, rfl⟩
      · rw [if_neg h3]
        have h4 : ¬ (6 : Int) < (t.size : Int) := by omega
        clear h1 h2 h3 hl
        go_enter Tryz.func103, Tryz.ntmps103
        go_wp2_with fail
        go_ret
        exact ⟨rfl, rfl⟩

theorem lk_drop (Q : List (List UInt8 × Nat)) (s : List UInt8) : ∀ j, (∀ k, ∀ h : k < Q.length, k < j → Q[k].1 ≠ s) → lk Q s = lk (Q.drop j) s := by
  induction Q with
  | nil => intro j _; simp
  | cons y r ih =>
    intro j h
    cases j with
    | zero => rfl
    | succ j =>
      rw [List.drop_succ_cons, lk_cons, if_neg (show y.1 ≠ s from h 0 (by simp) (by omega))]
      exact ih j (fun k hk hkj => h (k + 1) (by simpa using hk) (by omega))

set_option maxHeartbeats 4000000 in
theorem rlook_any (x g u : Nat) (V : Nat → Value) (F : Fs) (w : World) (H : Rf w x g u V F) (n : Nat) (hn : n < 17) (hq6 : (F.P n).Q.length ≤ 6) (t : ByteArray) :
    Calls Tryz.prog 61 #[.pointer (some ⟨x, 0, none⟩), .int .i64 (n : Int), .string t] w fun e w' => e = .returned (.int .i64 ((lk (F.P n).Q (bl t) : Nat) : Int)) ∧ Below w.heap.size w w' := by
  have c0 := H.c0
  have c1 := H.q n hn
  have n0 : (0 : Int) ≤ (n : Int) := by omega
  have n1 : (n : Int) < 17 := by omega
  obtain ⟨Q, gQ⟩ : ∃ Q, Q = (F.P n).Q := ⟨_, rfl⟩
  have hQ := H.rQ n hn
  rw [← gQ] at hQ hq6 ⊢
  obtain ⟨a, c, eV, hnc, hcm, hcell⟩ := own_shp hQ
  rw [eV] at c1
  obtain ⟨L, gL⟩ : ∃ L, L = Q.length := ⟨_, rfl⟩
  rw [← gL] at c1 hcell hnc hq6
  have GL := hid gL
  have HC := hid hcell
  obtain ⟨R, gR⟩ : ∃ R, R = lk Q (bl t) := ⟨_, rfl⟩
  rw [← gR]
  have GR := hid gR
  clear H gQ hQ hcell gL gR eV
  go_enter Tryz.func61, Tryz.ntmps61
  go_wp2_with fail
  go_loopw [18] (fun v18 wr => ∃ j : Nat, j ≤ L ∧ v18 = .int .i64 (j : Int) ∧ Hid (Below w.heap.size w wr) ∧ Hid (∀ k, ∀ h : k < Q.length, k < j → Q[k].1 ≠ bl t)) (fun v18 _ => L - (intOf v18).toNat)
  case atStart => exact ⟨0, Nat.zero_le _, rfl, hid (Below.refl _ _), hid (fun k h hk => by omega)⟩
  case round =>
    obtain ⟨j, hj, rfl, HB, HN⟩ := hrel
    by_cases e : j < L
    · have hj2 : (j : Int) < (L : Int) := by omega
      have hj0 : (0 : Int) ≤ (j : Int) := by omega
      have hjQ : j < Q.length := by rw [← GL.out]; exact e
      obtain ⟨q, rfl, _, hqs, hcc⟩ := HC.out (by omega)
      obtain ⟨y1, y2⟩ := nmC_at Q j hjQ
      have d1 := (HB.out.cell (p := ⟨q, j * 2, none⟩) hqs).trans (hcc _ _ y1)
      have d2 := (HB.out.cell (p := ⟨q, j * 2 + 1, none⟩) hqs).trans (hcc _ _ y2)
      have hs := bs_eq Q[j].1 t
      have HR : Hid (Q[j].1 = bl t → R = Q[j].2) := hid (fun h => by
        rw [GR.out, lk_drop Q (bl t) j HN.out, List.drop_eq_getElem_cons hjQ, lk_cons, if_pos h])
      have HS : Hid (Q[j].1 ≠ bl t → ∀ k, ∀ h : k < Q.length, k < j + 1 → Q[k].1 ≠ bl t) := hid (fun h k hk hkj => by
        by_cases e : k = j
        · subst e; exact h
        · exact HN.out k hk (by omega))
      generalize bs Q[j].1 = sj at d1 hs
      generalize Q[j].2 = mj at d2 HR
      by_cases hh : Q[j].1 = bl t
      · rw [show decide (Q[j].1 = bl t) = true by simp [hh]] at hs
        have HR2 := hid (HR.out hh)
        clear hcc y1 y2 hh HR HS
        go_wp2_with fail
        go_ret
        rw [HR2.out]
        exact ⟨rfl, HB.out.alloc HB.out.size _⟩
      · rw [show decide (Q[j].1 = bl t) = false by simp [hh]] at hs
        have HS2 := hid (HS.out hh)
        clear hcc y1 y2 hh HR HS
        go_wp2_with fail
        go_roundw
        case rel => exact ⟨j + 1, by omega, by go_num, hid (HB.out.alloc HB.out.size _), HS2⟩
        case measure => simp [intOf]; omega
    · have hj2 : ¬ (j : Int) < (L : Int) := by omega
      have HR : Hid (R = 0) := hid (by rw [GR.out, lk_drop Q (bl t) j HN.out, List.drop_of_length_le (by have := GL.out; omega)]; rfl)
      go_wp2_with fail
      go_ret
      rw [HR.out]
      exact ⟨rfl, HB.out⟩

end Go.Proofs.YtliekndkjjaldaaGreat

/- What the document's there, file, empty and over tell. -/
namespace Go.Proofs.YtliekndkjjaldaaGreat
open Go.RowKit
set_option linter.unusedVariables false
set_option maxRecDepth 20000

theorem there_is {F : Fs} {n : Int} (h : F.there n = true) : ∃ i : Nat, n = (i : Int) ∧ 1 ≤ i ∧ i < 17 ∧ (F.P i).k ≠ 0 := by
  simp only [Fs.there, decide_eq_true_eq] at h
  exact ⟨n.toNat, by omega, by omega, by omega, h.2.2⟩

set_option maxHeartbeats 2000000 in
theorem rthere_any (x g u : Nat) (V : Nat → Value) (F : Fs) (w : World) (H : Rf w x g u V F) (n : Int) :
    Calls Tryz.prog 83 #[.pointer (some ⟨x, 0, none⟩), .int .i64 n] w fun e w' => e = .returned (.bool (F.there n)) ∧ w' = w := by
  have c0 := H.c0
  by_cases h1 : n < 1
  · have e : F.there n = false := by simp only [Fs.there, decide_eq_false_iff_not]; omega
    rw [e]
    have h2 : ¬ 1 ≤ n := by omega
    clear H e
    go_enter Tryz.func83, Tryz.ntmps83
    go_wp2_with fail
    go_ret
    exact ⟨rfl, rfl⟩
  by_cases h2 : 16 < n
  · have e : F.there n = false := by simp only [Fs.there, decide_eq_false_iff_not]; omega
    rw [e]
    have h3 : 1 ≤ n := by omega
    have h4 : ¬ n ≤ 16 := by omega
    clear H e
    go_enter Tryz.func83, Tryz.ntmps83
    go_wp2_with fail
    go_ret
    exact ⟨rfl, rfl⟩
  obtain ⟨i, rfl⟩ : ∃ i : Nat, n = (i : Int) := ⟨n.toNat, by omega⟩
  have h3 : (1 : Int) ≤ (i : Int) := by omega
  have h4 : (i : Int) ≤ 16 := by omega
  have h5 : (0 : Int) ≤ (i : Int) := by omega
  have h6 : (i : Int) < 17 := by omega
  have c1 := H.k i (by omega)
  have e : F.there (i : Int) = ((F.P i).k != 0) := by
    rw [Bool.eq_iff_iff]
    simp only [Fs.there, decide_eq_true_eq, bne_iff_ne, ne_eq]
    exact ⟨fun h => h.2.2, fun h => ⟨h3, h4, h⟩⟩
  rw [e]
  obtain ⟨k, gk⟩ : ∃ k, k = (F.P i).k := ⟨_, rfl⟩
  rw [← gk] at c1 ⊢
  clear H gk h1 h2 e
  by_cases h0 : k = 0
  · subst h0
    go_enter Tryz.func83, Tryz.ntmps83
    go_wp2_with fail
    go_ret
    exact ⟨rfl, rfl⟩
  · have h7 : (k != 0) = true := by simpa using h0
    have h8 : (k == 0) = false := by simpa using h0
    rw [h7]
    go_enter Tryz.func83, Tryz.ntmps83
    go_wp2_with fail
    go_ret
    exact ⟨rfl, rfl⟩

set_option maxHeartbeats 2000000 in
theorem rfile_any (x g u : Nat) (V : Nat → Value) (F : Fs) (w : World) (H : Rf w x g u V F) (n : Int) :
    Calls Tryz.prog 77 #[.pointer (some ⟨x, 0, none⟩), .int .i64 n] w fun e w' => e = .returned (.int .i64 (F.file n)) ∧ w' = w := by
  have k0 := hid (rthere_any x g u V F w H n)
  have c0 := H.c0
  by_cases ht : F.there n = false
  · have e : F.file n = 2 := by unfold Fs.file; rw [if_pos ht]
    rw [e]
    rw [ht] at k0
    clear H e ht
    go_enter Tryz.func77, Tryz.ntmps77
    go_wp2_with fail
    refine k0.out.mono ?_
    rintro e w1 ⟨rfl, rfl⟩
    clear k0
    go_wp2_with fail
    go_ret
    exact ⟨rfl, rfl⟩
  · have ht' : F.there n = true := by simpa using ht
    obtain ⟨i, rfl, h1, h2, hk⟩ := there_is ht'
    have c1 := H.k i h2
    have e : F.file (i : Int) = if (F.P i).k = 2 then 21 else 0 := by unfold Fs.file; rw [if_neg ht]; rfl
    rw [e]
    rw [ht'] at k0
    have h5 : (0 : Int) ≤ (i : Int) := by omega
    have h6 : (i : Int) < 17 := by omega
    obtain ⟨k, gk⟩ : ∃ k, k = (F.P i).k := ⟨_, rfl⟩
    rw [← gk] at c1 ⊢
    clear H gk e ht ht' hk
    by_cases h0 : k = 2
    · subst h0
      rw [if_pos rfl]
      go_enter Tryz.func77, Tryz.ntmps77
      go_wp2_with fail
      refine k0.out.mono ?_
      rintro e w1 ⟨rfl, rfl⟩
      clear k0
      go_wp2_with fail
      go_ret
      exact ⟨rfl, rfl⟩
    · rw [if_neg h0]
      have h7 : (k == 2) = false := by simpa using h0
      go_enter Tryz.func77, Tryz.ntmps77
      go_wp2_with fail
      refine k0.out.mono ?_
      rintro e w1 ⟨rfl, rfl⟩
      clear k0
      go_wp2_with fail
      go_ret
      exact ⟨rfl, rfl⟩

set_option maxHeartbeats 2000000 in
theorem rempty_any (x g u : Nat) (V : Nat → Value) (F : Fs) (w : World) (H : Rf w x g u V F) (hF : FOk F) (n : Nat) (hn : n < 17) :
    Calls Tryz.prog 71 #[.pointer (some ⟨x, 0, none⟩), .int .i64 (n : Int)] w fun e w' => e = .returned (.int .i64 (F.stays n)) ∧ w' = w := by
  have c0 := H.c0
  have c1 := H.q n hn
  have c2 := H.h n hn
  obtain ⟨a, c, eV, _, _, _⟩ := own_shp (H.rQ n hn)
  rw [eV] at c1
  have n0 : (0 : Int) ≤ (n : Int) := by omega
  have n1 : (n : Int) < 17 := by omega
  unfold Fs.stays
  obtain ⟨L, gL⟩ : ∃ L, L = (F.P n).Q.length := ⟨_, rfl⟩
  obtain ⟨h, gh⟩ : ∃ h, h = (F.P n).h := ⟨_, rfl⟩
  rw [← gL] at c1 ⊢
  rw [← gh] at c2 ⊢
  clear H gL gh eV hF
  by_cases q : 0 < L
  · rw [if_pos q]
    have q' : (0 : Int) < (L : Int) := by omega
    clear q
    go_enter Tryz.func71, Tryz.ntmps71
    go_wp2_with fail
    go_ret
    exact ⟨rfl, rfl⟩
  · rw [if_neg q]
    have q' : ¬ (0 : Int) < (L : Int) := by omega
    clear q
    by_cases q2 : 0 < h
    · rw [if_pos q2]
      go_enter Tryz.func71, Tryz.ntmps71
      go_wp2_with fail
      go_ret
      exact ⟨rfl, rfl⟩
    · rw [if_neg q2]
      go_enter Tryz.func71, Tryz.ntmps71
      go_wp2_with fail
      go_ret
      exact ⟨rfl, rfl⟩

set_option maxHeartbeats 4000000 in
theorem rover_any (x g u : Nat) (V : Nat → Value) (F : Fs) (w : World) (H : Rf w x g u V F) (hF : FOk F) (n m : Nat) (hn : n < 17) (hm : m < 17) (hk : (F.P n).k ≠ 0) :
    Calls Tryz.prog 74 #[.pointer (some ⟨x, 0, none⟩), .int .i64 (n : Int), .int .i64 (m : Int)] w fun e w' => e = .returned (.int .i64 (F.over n m)) ∧ w' = w.drew := by
  have c0 := H.c0
  have c1 := H.k n hn
  have c2 := H.k m hm
  have n0 : (0 : Int) ≤ (n : Int) := by omega
  have n1 : (n : Int) < 17 := by omega
  have m0 : (0 : Int) ≤ (m : Int) := by omega
  have m1 : (m : Int) < 17 := by omega
  have ks := hid (rempty_any x g u V F w.drew (H.upd ((Upd.refl (fun _ => False) w).drewN 1) (fun _ _ h => h)) hF m hm)
  have hkn : (F.P n).k = 1 ∨ (F.P n).k = 2 := by rcases hF.k n with q | q | q <;> omega
  unfold Fs.over
  obtain ⟨E, gE⟩ : ∃ E, E = F.stays m := ⟨_, rfl⟩
  rw [← gE] at ks ⊢
  obtain ⟨kn, gn⟩ : ∃ kn, kn = (F.P n).k := ⟨_, rfl⟩
  obtain ⟨km, gm⟩ : ∃ km, km = (F.P m).k := ⟨_, rfl⟩
  rw [← gn] at c1 hkn ⊢
  rw [← gm] at c2 ⊢
  clear H gE gn gm hk hF
  by_cases h2 : km = 2
  · subst h2
    rcases hkn with rfl | rfl
    · rw [if_pos rfl, if_neg (by omega)]
      go_enter Tryz.func74, Tryz.ntmps74
      go_wp2_with fail
      go_region
      all_goals go_wp2_with fail
      all_goals go_ret
      all_goals exact ⟨rfl, rfl⟩
    · rw [if_pos rfl, if_pos rfl]
      go_enter Tryz.func74, Tryz.ntmps74
      go_wp2_with fail
      go_region
      go_wp2_with fail
      refine ks.out.mono ?_
      rintro e w1 ⟨rfl, rfl⟩
      go_wp2_with fail
      go_ret
      exact ⟨rfl, rfl⟩
  · rw [if_neg h2]
    have h3 : (km == 2) = false := by simpa using h2
    rcases hkn with rfl | rfl
    · rw [if_neg (by omega)]
      go_enter Tryz.func74, Tryz.ntmps74
      go_wp2_with fail
      go_region
      go_wp2_with fail
      go_ret
      exact ⟨rfl, rfl⟩
    · rw [if_pos rfl]
      go_enter Tryz.func74, Tryz.ntmps74
      go_wp2_with fail
      go_region
      go_wp2_with fail
      go_ret
      exact ⟨rfl, rfl⟩

end Go.Proofs.YtliekndkjjaldaaGreat
