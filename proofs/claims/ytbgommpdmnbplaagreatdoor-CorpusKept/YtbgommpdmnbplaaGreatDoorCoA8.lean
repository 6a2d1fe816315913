/- The corpus and what it stands on, merged. -/
import Derived.Shelf.Sort.Plain
import Derived.Shelf.Slices.Equal
import Derived.Ground.Names2Prog
import Derived.Shelf.Slices.Clone
import Derived.Shelf.Slices.CompactI
import Derived.Shelf.Slices.SearchI
import Derived.Shelf.Slices.In.SortNone
import Derived.Shelf.Slices.Empties2
import Derived.Shelf.SlIter.Nil
import Derived.Shelf.SortM.Plain
import Derived.Shelf.SortM.SortNone
import Derived.Ground.GgzProg
import Derived.Ground.SlgmProg
import Derived.Shelf.SlMaps.Clone
import Derived.Ground.SlmcProg
import Derived.Test.YtbgommpdmnbplaaGreatDoorChecked
import Derived.Test.YtbgommpdmnbplaaGreatDoorCoA7
import Derived.Sort.OwnSortedInts
import Derived.Test.YtbgommpdmnbplaaGreatDoorCoA2

/- Contracts of the library on lists of numbers and texts, on a map's keys and on its copy, laid at this program by the shelf's own program. -/
namespace Go.Proofs
open Go.Shelf
def Tryz.lays189_ren : Go.Shelf.Ren := ⟨fun | 189 => 127 | 125 => 174 | 257 => 173 | 128 => 218 | 129 => 219 | 294 => 209 | 295 => 210 | 296 => 211 | 297 => 212 | 298 => 213 | 299 => 214 | 216 => 215 | 300 => 216 | 301 => 217 | 328 => 230 | 329 => 231 | 330 => 232 | 331 => 233 | 332 => 234 | 215 => 208 | 343 => 246 | n => n, fun | 28 => 35 | 3 => 3 | 46 => 41 | 0 => 0 | 51 => 256 | 53 => 56 | 4 => 4 | 183 => 273 | 182 => 272 | 131 => 182 | 5 => 5 | 9 => 9 | 218 => 293 | 222 => 297 | 228 => 306 | 229 => 307 | n => n, fun | n => n⟩
theorem Tryz.lays189 : Go.Proofs.Lays.n189 Tryz.prog Tryz.lays189_ren := {
  mixed := by kernel_rfl
  f125 := Tryz.func174.trans (congrArg some (by kernel_rfl))
  f128 := Tryz.func218.trans (congrArg some (by kernel_rfl))
  f129 := Tryz.func219.trans (congrArg some (by kernel_rfl))
  f189 := Tryz.func127.trans (congrArg some (by kernel_rfl))
  f215 := Tryz.func208.trans (congrArg some (by kernel_rfl))
  f216 := Tryz.func215.trans (congrArg some (by kernel_rfl))
  f257 := Tryz.func173.trans (congrArg some (by kernel_rfl))
  f294 := Tryz.func209.trans (congrArg some (by kernel_rfl))
  f295 := Tryz.func210.trans (congrArg some (by kernel_rfl))
  f296 := Tryz.func211.trans (congrArg some (by kernel_rfl))
  f297 := Tryz.func212.trans (congrArg some (by kernel_rfl))
  f298 := Tryz.func213.trans (congrArg some (by kernel_rfl))
  f299 := Tryz.func214.trans (congrArg some (by kernel_rfl))
  f300 := Tryz.func216.trans (congrArg some (by kernel_rfl))
  f301 := Tryz.func217.trans (congrArg some (by kernel_rfl))
  f328 := Tryz.func230.trans (congrArg some (by kernel_rfl))
  f329 := Tryz.func231.trans (congrArg some (by kernel_rfl))
  f330 := Tryz.func232.trans (congrArg some (by kernel_rfl))
  f331 := Tryz.func233.trans (congrArg some (by kernel_rfl))
  f332 := Tryz.func234.trans (congrArg some (by kernel_rfl))
  f343 := Tryz.func246.trans (congrArg some (by kernel_rfl))
  t0 := Tryz.underlying0
  a0 := Tryz.isAgg0
  z0 := Tryz.sizeOf0
  v0 := Tryz.zeroValue0
  t3 := Tryz.underlying3
  a3 := Tryz.isAgg3
  z3 := Tryz.sizeOf3
  v3 := Tryz.zeroValue3
  t4 := Tryz.underlying4
  a4 := Tryz.isAgg4
  z4 := Tryz.sizeOf4
  v4 := Tryz.zeroValue4
  t5 := Tryz.underlying5
  a5 := Tryz.isAgg5
  z5 := Tryz.sizeOf5
  v5 := Tryz.zeroValue5
  t9 := Tryz.underlying9
  a9 := Tryz.isAgg9
  z9 := Tryz.sizeOf9
  v9 := Tryz.zeroValue9
  t28 := Tryz.underlying35
  a28 := Tryz.isAgg35
  z28 := Tryz.sizeOf35
  v28 := Tryz.zeroValue35
  t46 := Tryz.underlying41
  a46 := Tryz.isAgg41
  z46 := Tryz.sizeOf41
  v46 := Tryz.zeroValue41
  t51 := Tryz.underlying256
  a51 := Tryz.isAgg256
  z51 := Tryz.sizeOf256
  v51 := Tryz.zeroValue256
  t53 := Tryz.underlying56
  a53 := Tryz.isAgg56
  z53 := Tryz.sizeOf56
  v53 := Tryz.zeroValue56
  t131 := Tryz.underlying182
  a131 := Tryz.isAgg182
  z131 := Tryz.sizeOf182
  v131 := Tryz.zeroValue182
  t182 := Tryz.underlying272
  a182 := Tryz.isAgg272
  z182 := Tryz.sizeOf272
  v182 := Tryz.zeroValue272
  t183 := Tryz.underlying273
  a183 := Tryz.isAgg273
  z183 := Tryz.sizeOf273
  v183 := Tryz.zeroValue273
  t218 := Tryz.underlying293
  a218 := Tryz.isAgg293
  z218 := Tryz.sizeOf293
  v218 := Tryz.zeroValue293
  t222 := Tryz.underlying297
  a222 := Tryz.isAgg297
  z222 := Tryz.sizeOf297
  v222 := Tryz.zeroValue297
  t228 := Tryz.underlying306
  a228 := Tryz.isAgg306
  z228 := Tryz.sizeOf306
  v228 := Tryz.zeroValue306
  t229 := Tryz.underlying307
  a229 := Tryz.isAgg307
  z229 := Tryz.sizeOf307
  v229 := Tryz.zeroValue307 }
open Go.Sort Go.RowKit in
theorem Tryz.slices_Sort_int (blk off cap : Nat) (zs : List Int) (w : World) (hH : Holds (Value.int .i64) w blk off zs.toArray) (hblk : blk < w.heap.size) (hsz : zs.length < 4611686018427387904) :
    Calls Tryz.prog 127 #[.slice (some ⟨blk, off, none⟩) zs.length cap] w fun e w' =>
      e = .returned (.tuple #[]) ∧ ∃ n os, w' = grow (putRow (Value.int .i64) (Sort.ahead w n) blk off (zs.mergeSort fun x y => decide (x ≤ y)).toArray) os := Any.slices_Sort_int Tryz.lays189 blk off cap zs w hH hblk hsz
def Tryz.lays111_ren : Go.Shelf.Ren := ⟨fun | 111 => 58 | n => n, fun | 28 => 35 | 3 => 3 | 4 => 4 | 0 => 0 | n => n, fun | n => n⟩
theorem Tryz.lays111 : Go.Proofs.Lays.n111 Tryz.prog Tryz.lays111_ren := {
  mixed := by kernel_rfl
  f111 := Tryz.func58.trans (congrArg some (by kernel_rfl))
  t0 := Tryz.underlying0
  a0 := Tryz.isAgg0
  z0 := Tryz.sizeOf0
  v0 := Tryz.zeroValue0
  t3 := Tryz.underlying3
  a3 := Tryz.isAgg3
  z3 := Tryz.sizeOf3
  v3 := Tryz.zeroValue3
  t4 := Tryz.underlying4
  a4 := Tryz.isAgg4
  z4 := Tryz.sizeOf4
  v4 := Tryz.zeroValue4
  t28 := Tryz.underlying35
  a28 := Tryz.isAgg35
  z28 := Tryz.sizeOf35
  v28 := Tryz.zeroValue35 }
open Go.RowKit Go.Lib in
/-- slices.Equal at []int: "Equal reports whether two slices are equal: the same length and all elements equal. If the lengths are different, Equal returns false. Otherwise, the elements are compared in increasing index order, and the comparison stops at the first unequal pair. Empty and nil slices are considered equal.": IT RETURNS WHETHER THE TWO LISTS OF ELEMENTS ARE ONE; the world is as it was but for the count of draws (the test 's1[i] != s2[i]' has two reads, whose order the model draws, once a round). 'xs', 'ys': what the cells behind the two addresses hold (the spare capacity too, if you have it); 'xs.take n', 'ys.take m': the elements. THE TWO SLICES MAY OVERLAP. (LAID: no walk: one application.) -/
theorem Tryz.slices_Equal_int (b1 o1 n c b2 o2 m d : Nat) (xs ys : List Int) (w : World) (hx : n ≤ xs.length) (hy : m ≤ ys.length) (hbig : n ≤ 9223372036854775807) (hbig2 : m ≤ 9223372036854775807) (hc1 : ∀ j, j < xs.length → w.cell? ⟨b1, o1 + j, none⟩ = some (.int .i64 (xs.getD j 0))) (hc2 : ∀ j, j < ys.length → w.cell? ⟨b2, o2 + j, none⟩ = some (.int .i64 (ys.getD j 0))) :
    Calls Tryz.prog 58 #[.slice (some ⟨b1, o1, none⟩) n c, .slice (some ⟨b2, o2, none⟩) m d] w fun e w' => e = .returned (.bool (xs.take n == ys.take m)) ∧ ∃ q, w' = w.drewN q := Any.slices_Equal_int Tryz.lays111 b1 o1 n c b2 o2 m d xs ys w hx hy hbig hbig2 hc1 hc2
open Go.RowKit Go.Lib in
/-- The same where the first is of length 0 (a nil one too): no cell is asked for. (LAID: no walk: one application.) -/
theorem Tryz.slices_Equal_int_empty (a1 a2 : Option Addr) (c m d : Nat) (w : World) (hbig2 : m ≤ 9223372036854775807) :
    Calls Tryz.prog 58 #[.slice a1 0 c, .slice a2 m d] w fun e w' => e = .returned (.bool (decide (m = 0))) ∧ w' = w := Any.slices_Equal_int_empty Tryz.lays111 a1 a2 c m d w hbig2
def Tryz.lays193_ren : Go.Shelf.Ren := ⟨fun | 193 => 71 | n => n, fun | 31 => 79 | 9 => 9 | 4 => 4 | 3 => 3 | 0 => 0 | n => n, fun | n => n⟩
theorem Tryz.lays193 : Go.Proofs.Lays.n193 Tryz.prog Tryz.lays193_ren := {
  mixed := by kernel_rfl
  f193 := Tryz.func71.trans (congrArg some (by kernel_rfl))
  t0 := Tryz.underlying0
  a0 := Tryz.isAgg0
  z0 := Tryz.sizeOf0
  v0 := Tryz.zeroValue0
  t3 := Tryz.underlying3
  a3 := Tryz.isAgg3
  z3 := Tryz.sizeOf3
  v3 := Tryz.zeroValue3
  t4 := Tryz.underlying4
  a4 := Tryz.isAgg4
  z4 := Tryz.sizeOf4
  v4 := Tryz.zeroValue4
  t9 := Tryz.underlying9
  a9 := Tryz.isAgg9
  z9 := Tryz.sizeOf9
  v9 := Tryz.zeroValue9
  t31 := Tryz.underlying79
  a31 := Tryz.isAgg79
  z31 := Tryz.sizeOf79
  v31 := Tryz.zeroValue79 }
open Go.RowKit Go.Lib in
/-- slices.Equal at []string: "Equal reports whether two slices are equal: the same length and all elements equal. If the lengths are different, Equal returns false. Otherwise, the elements are compared in increasing index order, and the comparison stops at the first unequal pair. Empty and nil slices are considered equal.": IT RETURNS WHETHER THE TWO LISTS OF ELEMENTS ARE ONE; the world is as it was but for the count of draws (the test 's1[i] != s2[i]' has two reads, whose order the model draws, once a round). 'xs', 'ys': what the cells behind the two addresses hold (the spare capacity too, if you have it); 'xs.take n', 'ys.take m': the elements. THE TWO SLICES MAY OVERLAP. (LAID: no walk: one application.) -/
theorem Tryz.slices_Equal_string (b1 o1 n c b2 o2 m d : Nat) (xs ys : List ByteArray) (w : World) (hx : n ≤ xs.length) (hy : m ≤ ys.length) (hbig : n ≤ 9223372036854775807) (hbig2 : m ≤ 9223372036854775807) (hc1 : ∀ j, j < xs.length → w.cell? ⟨b1, o1 + j, none⟩ = some (.string (xs.getD j ByteArray.empty))) (hc2 : ∀ j, j < ys.length → w.cell? ⟨b2, o2 + j, none⟩ = some (.string (ys.getD j ByteArray.empty))) :
    Calls Tryz.prog 71 #[.slice (some ⟨b1, o1, none⟩) n c, .slice (some ⟨b2, o2, none⟩) m d] w fun e w' => e = .returned (.bool (decide (xs.take n = ys.take m))) ∧ ∃ q, w' = w.drewN q := Any.slices_Equal_string Tryz.lays193 b1 o1 n c b2 o2 m d xs ys w hx hy hbig hbig2 hc1 hc2
open Go.RowKit Go.Lib in
/-- The same where the first is of length 0 (a nil one too): no cell is asked for. (LAID: no walk: one application.) -/
theorem Tryz.slices_Equal_string_empty (a1 a2 : Option Addr) (c m d : Nat) (w : World) (hbig2 : m ≤ 9223372036854775807) :
    Calls Tryz.prog 71 #[.slice a1 0 c, .slice a2 m d] w fun e w' => e = .returned (.bool (decide (m = 0))) ∧ w' = w := Any.slices_Equal_string_empty Tryz.lays193 a1 a2 c m d w hbig2
def Tryz.laysNm215_ren : Go.Shelf.Ren := ⟨fun | 15 => 43 | n => n, fun | 22 => 35 | 3 => 3 | 4 => 4 | n => n, fun | n => n⟩
theorem Tryz.laysNm215 : Go.Proofs.Lays2.n15 Tryz.prog Tryz.laysNm215_ren := {
  mixed := by kernel_rfl
  f15 := Tryz.func43.trans (congrArg some (by kernel_rfl))
  t3 := Tryz.underlying3
  a3 := Tryz.isAgg3
  z3 := Tryz.sizeOf3
  v3 := Tryz.zeroValue3
  t4 := Tryz.underlying4
  a4 := Tryz.isAgg4
  z4 := Tryz.sizeOf4
  v4 := Tryz.zeroValue4
  t22 := Tryz.underlying35
  a22 := Tryz.isAgg35
  z22 := Tryz.sizeOf35
  v22 := Tryz.zeroValue35
  i3 := by kernel_rfl }
open Go.RowKit Go.Lib in
/-- slices.Clone at []int: "Clone returns a copy of the slice. The elements are copied using assignment, so this is a shallow clone. The result may have additional unused capacity. The result preserves the nilness of s.": OF A SLICE THAT IS NOT nil IT RETURNS A SLICE THAT IS NOT nil, OF THE SAME ELEMENTS, IN MEMORY OF THE CALL's OWN: in the how-to's words (6f): 'w'.ownsRow B e 1 v' n cells': v' begins at the head of a row among the blocks from B on (B: the heap's size at the call), not frozen, whose first cells are the elements · 'Below B w w'': below B all is as it was. The capacity is whatever the run-time gives. 'zs': what the cells behind the slice's address hold; 'zs.take n': its elements. (LAID: no walk: one application.) -/
theorem Tryz.slices_Clone_int (b off n c : Nat) (zs : List Int) (w : World) (hz : n ≤ zs.length) (hbig : n * 8 ≤ 140737488355328) (hc : ∀ j, j < zs.length → w.cell? ⟨b, off + j, none⟩ = some (.int .i64 (zs.getD j 0))) :
    Calls Tryz.prog 43 #[.slice (some ⟨b, off, none⟩) n c] w fun e w' => ∃ v', e = .returned v' ∧ w'.ownsRow w.heap.size 3 1 v' n ((zs.take n).map (Value.int .i64)) ∧ v' ≠ .slice none 0 0 ∧ Below w.heap.size w w' := Any.slices_Clone_int Tryz.laysNm215 b off n c zs w hz hbig hc
open Go.RowKit Go.Lib in
/-- The same at nil: nil comes back; the world is as it was. (LAID: no walk: one application.) -/
theorem Tryz.slices_Clone_int_nil (n c : Nat) (w : World) :
    Calls Tryz.prog 43 #[.slice none n c] w fun e w' => e = .returned (.slice none 0 0) ∧ w' = w := Any.slices_Clone_int_nil Tryz.laysNm215 n c w
open Go.RowKit Go.Lib in
/-- The same at a slice of length 0 that is not nil, WHATEVER ITS ADDRESS (no cell is asked for): a slice that is not nil and owns nothing comes back. (LAID: no walk: one application.) -/
theorem Tryz.slices_Clone_int_zero (a : Addr) (c : Nat) (w : World) :
    Calls Tryz.prog 43 #[.slice (some a) 0 c] w fun e w' => ∃ v', e = .returned v' ∧ w'.ownsRow w.heap.size 3 1 v' 0 [] ∧ v' ≠ .slice none 0 0 ∧ Below w.heap.size w w' := Any.slices_Clone_int_zero Tryz.laysNm215 a c w
def Tryz.laysNm220_ren : Go.Shelf.Ren := ⟨fun | 20 => 128 | n => n, fun | 22 => 35 | 3 => 3 | 4 => 4 | 0 => 0 | n => n, fun | n => n⟩
theorem Tryz.laysNm220 : Go.Proofs.Lays2.n20 Tryz.prog Tryz.laysNm220_ren := {
  mixed := by kernel_rfl
  f20 := Tryz.func128.trans (congrArg some (by kernel_rfl))
  t0 := Tryz.underlying0
  a0 := Tryz.isAgg0
  z0 := Tryz.sizeOf0
  v0 := Tryz.zeroValue0
  t3 := Tryz.underlying3
  a3 := Tryz.isAgg3
  z3 := Tryz.sizeOf3
  v3 := Tryz.zeroValue3
  t4 := Tryz.underlying4
  a4 := Tryz.isAgg4
  z4 := Tryz.sizeOf4
  v4 := Tryz.zeroValue4
  t22 := Tryz.underlying35
  a22 := Tryz.isAgg35
  z22 := Tryz.sizeOf35
  v22 := Tryz.zeroValue35
  i3 := by kernel_rfl }
open Go.RowKit Go.Lib Go.Sort in
/-- slices.Compact at []int: "Compact replaces consecutive runs of equal elements with a single copy. This is like the uniq command found on Unix. Compact modifies the contents of the slice s and returns the modified slice, which may have a smaller length. Compact zeroes the elements between the new length and the original length. The result preserves the nilness of s.": IT RETURNS THE SLICE CUT TO 'Lib.compact zs'; ITS CELLS HOLD 'Lib.compact zs', THEN ZERO VALUES up to the old length; all else is as it was, but for the count of draws. IN THE WORDS OF slices.Sort's CONTRACT ('Holds', 'putRow'): so the everyday 'slices.Sort(xs); xs = slices.Compact(xs)' goes from the one contract to the other. It asks 'zs.length ≤ cap' (every slice's: the reslicing 's[:k]' looks at it). Length 0, nil: '.._empty'. (LAID: no walk: one application.) -/
theorem Tryz.slices_Compact_int (blk off cap : Nat) (zs : List Int) (w : World) (hH : Holds (Value.int .i64) w blk off zs.toArray) (hsz : zs.length ≤ 9223372036854775807) (hcap : zs.length ≤ cap) :
    Calls Tryz.prog 128 #[.slice (some ⟨blk, off, none⟩) zs.length cap] w fun e w' => e = .returned (.slice (some ⟨blk, off, none⟩) (Lib.compact zs).length cap) ∧ ∃ q, w' = putRow (Value.int .i64) (Sort.ahead w q) blk off (Lib.compact zs ++ List.replicate (zs.length - (Lib.compact zs).length) 0).toArray := Any.slices_Compact_int Tryz.laysNm220 blk off cap zs w hH hsz hcap
open Go.RowKit Go.Lib Go.Sort in
/-- The same at a slice of length 0, a nil one too: it comes back as it is. (LAID: no walk: one application.) -/
theorem Tryz.slices_Compact_int_empty (a : Option Addr) (cap : Nat) (w : World) :
    Calls Tryz.prog 128 #[.slice a 0 cap] w fun e w' => e = .returned (.slice a 0 cap) ∧ w' = w := Any.slices_Compact_int_empty Tryz.laysNm220 a cap w
open Go.RowKit Go.Sort in
/-- .. and plain. (LAID: no walk: one application.) -/
theorem Tryz.slices_Sort_int_none (p : Option Addr) (cap : Nat) (w : World) :
    Calls Tryz.prog 127 #[.slice p 0 cap] w fun e w' => e = .returned (.tuple #[]) ∧ w' = w := Any.slices_Sort_int_none Tryz.lays189 p cap w
open Go.RowKit Go.Lib in
theorem Tryz.slices_Equal_int_lens (a1 a2 : Option Addr) (n c m d : Nat) (w : World) (hnm : n ≠ m) :
    Calls Tryz.prog 58 #[.slice a1 n c, .slice a2 m d] w fun e w' => e = .returned (.bool false) ∧ w' = w := Any.slices_Equal_int_lens Tryz.lays111 a1 a2 n c m d w hnm
open Go.RowKit Go.Lib in
theorem Tryz.slices_Equal_string_lens (a1 a2 : Option Addr) (n c m d : Nat) (w : World) (hnm : n ≠ m) :
    Calls Tryz.prog 71 #[.slice a1 n c, .slice a2 m d] w fun e w' => e = .returned (.bool false) ∧ w' = w := Any.slices_Equal_string_lens Tryz.lays193 a1 a2 n c m d w hnm
def Tryz.keys130_ren : Go.Shelf.Ren := ⟨fun | 7 => 130 | 10 => 177 | n => n, fun | 23 => 75 | 26 => 9 | 3 => 37 | 28 => 193 | 0 => 0 | 27 => 192 | 33 => 86 | 4 => 4 | n => n, fun | n => n⟩
theorem Tryz.keys130 : Go.Proofs.SlLaysZ.n7 Tryz.prog Tryz.keys130_ren := {
  mixed := by kernel_rfl
  f7 := ⟨Tryz.f130.name, by decide, Tryz.func130.trans (congrArg some (by kernel_rfl))⟩
  f10 := ⟨Tryz.f177.name, by decide, Tryz.func177.trans (congrArg some (by kernel_rfl))⟩
  t0 := Tryz.underlying0
  a0 := Tryz.isAgg0
  z0 := Tryz.sizeOf0
  v0 := Tryz.zeroValue0
  t4 := Tryz.underlying4
  a4 := Tryz.isAgg4
  z4 := Tryz.sizeOf4
  v4 := Tryz.zeroValue4
  t23 := Tryz.underlying75
  a23 := Tryz.isAgg75
  z23 := Tryz.sizeOf75
  v23 := Tryz.zeroValue75
  t26 := Tryz.underlying9
  a26 := Tryz.isAgg9
  z26 := Tryz.sizeOf9
  v26 := Tryz.zeroValue9
  t27 := Tryz.underlying192
  a27 := Tryz.isAgg192
  z27 := Tryz.sizeOf192
  v27 := Tryz.zeroValue192
  t28 := Tryz.underlying193
  a28 := Tryz.isAgg193
  z28 := Tryz.sizeOf193
  v28 := Tryz.zeroValue193
  t33 := Tryz.underlying86
  a33 := Tryz.isAgg86
  z33 := Tryz.sizeOf86
  v33 := Tryz.zeroValue86 }
def Tryz.sorted129_ren : Go.Shelf.Ren := ⟨fun | 6 => 129 | 8 => 175 | 9 => 176 | 11 => 220 | 13 => 174 | 12 => 221 | 23 => 218 | 24 => 219 | 14 => 235 | 15 => 236 | 16 => 237 | 17 => 238 | 18 => 239 | 19 => 240 | 20 => 241 | 21 => 242 | 22 => 243 | 25 => 247 | 26 => 231 | 27 => 232 | 28 => 248 | 29 => 249 | 30 => 250 | 31 => 252 | n => n, fun | 26 => 9 | 28 => 193 | 24 => 79 | 0 => 0 | 3 => 3 | 37 => 41 | 48 => 256 | 50 => 56 | 4 => 4 | 40 => 273 | 39 => 272 | 45 => 182 | 5 => 5 | 9 => 9 | 51 => 293 | 55 => 297 | 57 => 306 | 58 => 307 | 33 => 86 | n => n, fun | n => n⟩
theorem Tryz.sorted129 : Go.Proofs.SlLaysZ.n6 Tryz.prog Tryz.sorted129_ren := {
  mixed := by kernel_rfl
  f6 := ⟨Tryz.f129.name, by decide, Tryz.func129.trans (congrArg some (by kernel_rfl))⟩
  f8 := ⟨Tryz.f175.name, by decide, Tryz.func175.trans (congrArg some (by kernel_rfl))⟩
  f11 := ⟨Tryz.f220.name, by decide, Tryz.func220.trans (congrArg some (by kernel_rfl))⟩
  t0 := Tryz.underlying0
  a0 := Tryz.isAgg0
  z0 := Tryz.sizeOf0
  v0 := Tryz.zeroValue0
  t24 := Tryz.underlying79
  a24 := Tryz.isAgg79
  z24 := Tryz.sizeOf79
  v24 := Tryz.zeroValue79
  t26 := Tryz.underlying9
  a26 := Tryz.isAgg9
  z26 := Tryz.sizeOf9
  v26 := Tryz.zeroValue9
  t28 := Tryz.underlying193
  a28 := Tryz.isAgg193
  z28 := Tryz.sizeOf193
  v28 := Tryz.zeroValue193
  i26 := by kernel_rfl }
def Tryz.sort176_ren : Go.Shelf.Ren := ⟨fun | 6 => 176 | 8 => 174 | 9 => 221 | 19 => 218 | 20 => 219 | 21 => 235 | 22 => 236 | 23 => 237 | 24 => 238 | 25 => 239 | 26 => 240 | 27 => 241 | 28 => 242 | 29 => 243 | 36 => 247 | 31 => 231 | 32 => 232 | 37 => 248 | 38 => 249 | 39 => 250 | 41 => 252 | n => n, fun | 27 => 79 | 29 => 9 | 3 => 3 | 32 => 41 | 26 => 79 | 0 => 0 | 44 => 256 | 46 => 56 | 4 => 4 | 36 => 273 | 35 => 272 | 41 => 182 | 5 => 5 | 9 => 9 | 53 => 293 | 57 => 297 | 63 => 306 | 64 => 307 | n => n, fun | n => n⟩
theorem Tryz.sort176 : Go.Proofs.SlLaysM.n6 Tryz.prog Tryz.sort176_ren := {
  mixed := by kernel_rfl
  f6 := ⟨Tryz.f176.name, by decide, Tryz.func176.trans (congrArg some (by kernel_rfl))⟩
  f8 := Tryz.func174.trans (congrArg some (by kernel_rfl))
  f9 := ⟨Tryz.f221.name, by decide, Tryz.func221.trans (congrArg some (by kernel_rfl))⟩
  f19 := Tryz.func218.trans (congrArg some (by kernel_rfl))
  f20 := Tryz.func219.trans (congrArg some (by kernel_rfl))
  f21 := ⟨Tryz.f235.name, by decide, Tryz.func235.trans (congrArg some (by kernel_rfl))⟩
  f22 := ⟨Tryz.f236.name, by decide, Tryz.func236.trans (congrArg some (by kernel_rfl))⟩
  f23 := ⟨Tryz.f237.name, by decide, Tryz.func237.trans (congrArg some (by kernel_rfl))⟩
  f24 := ⟨Tryz.f238.name, by decide, Tryz.func238.trans (congrArg some (by kernel_rfl))⟩
  f25 := ⟨Tryz.f239.name, by decide, Tryz.func239.trans (congrArg some (by kernel_rfl))⟩
  f26 := ⟨Tryz.f240.name, by decide, Tryz.func240.trans (congrArg some (by kernel_rfl))⟩
  f27 := ⟨Tryz.f241.name, by decide, Tryz.func241.trans (congrArg some (by kernel_rfl))⟩
  f28 := ⟨Tryz.f242.name, by decide, Tryz.func242.trans (congrArg some (by kernel_rfl))⟩
  f29 := ⟨Tryz.f243.name, by decide, Tryz.func243.trans (congrArg some (by kernel_rfl))⟩
  f31 := Tryz.func231.trans (congrArg some (by kernel_rfl))
  f32 := Tryz.func232.trans (congrArg some (by kernel_rfl))
  f36 := ⟨Tryz.f247.name, by decide, Tryz.func247.trans (congrArg some (by kernel_rfl))⟩
  f37 := ⟨Tryz.f248.name, by decide, Tryz.func248.trans (congrArg some (by kernel_rfl))⟩
  f38 := ⟨Tryz.f249.name, by decide, Tryz.func249.trans (congrArg some (by kernel_rfl))⟩
  f39 := ⟨Tryz.f250.name, by decide, Tryz.func250.trans (congrArg some (by kernel_rfl))⟩
  f41 := ⟨Tryz.f252.name, by decide, Tryz.func252.trans (congrArg some (by kernel_rfl))⟩
  t0 := Tryz.underlying0
  a0 := Tryz.isAgg0
  z0 := Tryz.sizeOf0
  v0 := Tryz.zeroValue0
  t3 := Tryz.underlying3
  a3 := Tryz.isAgg3
  z3 := Tryz.sizeOf3
  v3 := Tryz.zeroValue3
  t4 := Tryz.underlying4
  a4 := Tryz.isAgg4
  z4 := Tryz.sizeOf4
  v4 := Tryz.zeroValue4
  t5 := Tryz.underlying5
  a5 := Tryz.isAgg5
  z5 := Tryz.sizeOf5
  v5 := Tryz.zeroValue5
  t9 := Tryz.underlying9
  a9 := Tryz.isAgg9
  z9 := Tryz.sizeOf9
  v9 := Tryz.zeroValue9
  t26 := Tryz.underlying79
  a26 := Tryz.isAgg79
  z26 := Tryz.sizeOf79
  v26 := Tryz.zeroValue79
  t27 := Tryz.underlying79
  a27 := Tryz.isAgg79
  z27 := Tryz.sizeOf79
  v27 := Tryz.zeroValue79
  t29 := Tryz.underlying9
  a29 := Tryz.isAgg9
  z29 := Tryz.sizeOf9
  v29 := Tryz.zeroValue9
  t32 := Tryz.underlying41
  a32 := Tryz.isAgg41
  z32 := Tryz.sizeOf41
  v32 := Tryz.zeroValue41
  t35 := Tryz.underlying272
  a35 := Tryz.isAgg272
  z35 := Tryz.sizeOf272
  v35 := Tryz.zeroValue272
  t36 := Tryz.underlying273
  a36 := Tryz.isAgg273
  z36 := Tryz.sizeOf273
  v36 := Tryz.zeroValue273
  t41 := Tryz.underlying182
  a41 := Tryz.isAgg182
  z41 := Tryz.sizeOf182
  v41 := Tryz.zeroValue182
  t44 := Tryz.underlying256
  a44 := Tryz.isAgg256
  z44 := Tryz.sizeOf256
  v44 := Tryz.zeroValue256
  t46 := Tryz.underlying56
  a46 := Tryz.isAgg56
  z46 := Tryz.sizeOf56
  v46 := Tryz.zeroValue56
  t53 := Tryz.underlying293
  a53 := Tryz.isAgg293
  z53 := Tryz.sizeOf293
  v53 := Tryz.zeroValue293
  t57 := Tryz.underlying297
  a57 := Tryz.isAgg297
  z57 := Tryz.sizeOf297
  v57 := Tryz.zeroValue297
  t63 := Tryz.underlying306
  a63 := Tryz.isAgg306
  z63 := Tryz.sizeOf306
  v63 := Tryz.zeroValue306
  t64 := Tryz.underlying307
  a64 := Tryz.isAgg307
  z64 := Tryz.sizeOf307
  v64 := Tryz.zeroValue307 }
def Tryz.mclone49_ren : Go.Shelf.Ren := ⟨fun | 5 => 49 | 7 => 112 | n => n, fun | 23 => 75 | 25 => 9 | 3 => 37 | 4 => 4 | 20 => 20 | n => n, fun | n => n⟩
theorem Tryz.mclone49 : Go.Proofs.SlLaysW.n5 Tryz.prog Tryz.mclone49_ren := {
  mixed := by kernel_rfl
  f5 := ⟨Tryz.f49.name, by decide, Tryz.func49.trans (congrArg some (by kernel_rfl))⟩
  f7 := Tryz.func112.trans (congrArg some (by kernel_rfl))
  t4 := Tryz.underlying4
  a4 := Tryz.isAgg4
  z4 := Tryz.sizeOf4
  v4 := Tryz.zeroValue4
  t20 := Tryz.underlying20
  a20 := Tryz.isAgg20
  z20 := Tryz.sizeOf20
  v20 := Tryz.zeroValue20
  t23 := Tryz.underlying75
  a23 := Tryz.isAgg75
  z23 := Tryz.sizeOf75
  v23 := Tryz.zeroValue75 }
open Go.RowKit Go.Maps Go.Sort Go.Shelf
theorem Tryz.sorts129 (m : Nat) : AnyZ.SortsIn Tryz.prog Tryz.sorted129_ren Fence.wide m :=
  ⟨fun blk off cap ss W hH hblk hsz => callsIn_wide.2 (AnyM.slices_Sort_string Tryz.sort176 blk off cap ss W hH hblk hsz),
   fun p cap W => callsIn_wide.2 (AnyM.slices_Sort_string_none Tryz.sort176 p cap W)⟩

theorem Tryz.maps_Keys_130 (mb : Option Nat) (W : World) : CallsIn Fence.wide 5 Tryz.prog 130 #[.map mb] W fun e w' => e = .returned (.func (.func 177) #[] #[.pointer (some ⟨W.heap.size, 0, none⟩)]) ∧ w' = W.alloc (.cells #[.map mb] 75) :=
  AnyZ.keys_in Tryz.keys130 Fence.wide 5 trivial rfl mb W

set_option maxHeartbeats 1000000 in
theorem Tryz.slices_Sorted_keys_129_130 {H : Type} (b nn : Nat) (D0 : DataW H) (R : Value → Option (DataW H × List MemPlace)) (w : World) (hown : w.ownsMap Tryz.prog 9 R b nn D0) (hmax : Maps.size D0 ≤ maxLen) (hbytes : Maps.size D0 * 16 ≤ 140737488355328) :
    CallsIn Fence.wide 5 Tryz.prog 129 #[.func (.func 177) #[] #[.pointer (some ⟨w.heap.size, 0, none⟩)]] (w.alloc (.cells #[.map (some b)] 75)) fun e w' => ∃ (v : Value) (ss : List (List UInt8)), e = .returned v ∧ ss.Perm (strKeys D0) ∧
      w'.ownsRow (w.alloc (.cells #[.map (some b)] 75)).heap.size 9 1 v ss.length ((ss.mergeSort (fun x y => decide (x ≤ y))).map encStr) ∧ (v = .slice none 0 0 ↔ ss = []) ∧ Below (w.alloc (.cells #[.map (some b)] 75)).heap.size (w.alloc (.cells #[.map (some b)] 75)) w' := by
  have hbl := hown.lt
  have hseq : SeqGives Fence.wide 2 Tryz.prog 177 #[.pointer (some ⟨w.heap.size, 0, none⟩)] encStr (fun ss => ss.Perm (strKeys D0)) (Maps.size D0) (w.alloc (.cells #[.map (some b)] 75)) :=
    AnyZ.keys_gives (ρ := Tryz.keys130_ren) { Tryz.keys130 with } Fence.wide _ trivial rfl (by omega) w.heap.size b nn D0 _ (by simp) (by simp) (by
      obtain ⟨es, clock, hb, Ft, hs, hD⟩ := hown
      exact ⟨es, clock, (Below.heap_alloc _ _ b hbl).trans hb, Ft, hs, hD⟩)
  exact AnyZ.sorted_in Tryz.sorted129 Fence.wide 5 trivial trivial trivial trivial rfl (by omega) (Tryz.sorts129 _) (enters_of Tryz.func176 (by kernel_rfl) rfl) 177 #[.pointer (some ⟨w.heap.size, 0, none⟩)] trivial (enters_of Tryz.func177 (by kernel_rfl) rfl) _ _ hmax hbytes _ hseq

set_option maxHeartbeats 1000000 in
theorem Tryz.slices_Sorted_keys_nil_129_130 (w : World) :
    CallsIn Fence.wide 5 Tryz.prog 129 #[.func (.func 177) #[] #[.pointer (some ⟨w.heap.size, 0, none⟩)]] (w.alloc (.cells #[.map none] 75)) fun e w' => ∃ (v : Value) (ss : List (List UInt8)), e = .returned v ∧ ss = [] ∧
      w'.ownsRow (w.alloc (.cells #[.map none] 75)).heap.size 9 1 v ss.length ((ss.mergeSort (fun x y => decide (x ≤ y))).map encStr) ∧ (v = .slice none 0 0 ↔ ss = []) ∧ Below (w.alloc (.cells #[.map none] 75)).heap.size (w.alloc (.cells #[.map none] 75)) w' := by
  have hseq : SeqGives Fence.wide 2 Tryz.prog 177 #[.pointer (some ⟨w.heap.size, 0, none⟩)] encStr (fun ss : List (List UInt8) => ss = []) 0 (w.alloc (.cells #[.map none] 75)) :=
    AnyZ.keys_gives_nil (ρ := Tryz.keys130_ren) { Tryz.keys130 with } Fence.wide _ trivial rfl w.heap.size _ (by simp) (by simp)
  exact AnyZ.sorted_in Tryz.sorted129 Fence.wide 5 trivial trivial trivial trivial rfl (by omega) (Tryz.sorts129 _) (enters_of Tryz.func176 (by kernel_rfl) rfl) 177 #[.pointer (some ⟨w.heap.size, 0, none⟩)] trivial (enters_of Tryz.func177 (by kernel_rfl) rfl) _ 0 (Nat.zero_le _) (by omega) _ hseq

-- THE CALLER's WALK over 'slices.Sorted(maps.Keys(m))' (inside '(callsIn_wide (n := 6)).1'; 'have hfK : Fence.wide.fn 130 := trivial', 'have hfS : Fence.wide.fn 129 := trivial' ahead): THE TWO ARMS TO PASTE:
--   gi_wp2_with (first
--     | (gi_at_call 130; refine (Tryz.maps_Keys_130 _ _).mono ?_; rintro e w' ⟨rfl, rfl⟩)
--     | (gi_at_call 129; refine (Tryz.slices_Sorted_keys_129_130 b nn D0 R w hown hmax hbytes).mono ?_; rintro e w' ⟨v, ss, rfl, hS, hrow, hnil, hb⟩))



end Go.Proofs

/- What the program's rising does; lists cloned and compared. -/
namespace Go.Proofs.YtbgommpdmnbplaaGreatDoor
open Go.RowKit Go.Sort
set_option linter.unusedVariables false

/-- Numbers that lie in a block of the call's own. -/
structure Wlst (w : World) (B : Nat) (a : Option Addr) (n c : Nat) (xs : List Int) : Prop where
  size : xs.length = n
  le : n ≤ c
  cells : 0 < n → ∃ g, a = some ⟨g, 0, none⟩ ∧ B ≤ g ∧ g < w.heap.size ∧ Holds (Value.int .i64) w g 0 xs.toArray
  nil : a = none → c = 0

theorem Wlst.ilst {w : World} {B : Nat} {a : Option Addr} {n c : Nat} {xs : List Int} (h : Wlst w B a n c xs) : Ilst w a n c xs :=
  ⟨h.size, fun hn => by
    obtain ⟨g, e, _, hg, hH⟩ := h.cells hn
    have hl := h.size
    refine ⟨g, 0, e, hg, fun j hj => ?_⟩
    rw [(hH j (by simpa using by omega)).1, getI xs j (by omega), List.getD_eq_getElem?_getD, List.getElem?_eq_getElem (by omega)]
    rfl, h.nil⟩

theorem own_wlst {w : World} {B : Nat} {v : Value} {xs : List Int} (h : w.ownsRow B 3 1 v xs.length (xs.map (Value.int .i64))) : ∃ a c, v = .slice a xs.length c ∧ Wlst w B a xs.length c xs := by
  have h0 := h
  rcases h.2 with ⟨rfl, hn⟩ | ⟨g, c, cur, rfl, _, _, h1, h2, _⟩
  · rw [hn]
    exact ⟨none, 0, rfl, hn, Nat.le_refl _, fun h => by omega, fun _ => rfl⟩
  · refine ⟨_, c, rfl, rfl, h1, fun hl => ⟨g, rfl, (h0.lt g rfl).1, (h0.lt g rfl).2, fun j hj => ?_⟩, fun h => by cases h⟩
    have hj' : j < xs.length := by simpa using hj
    rw [Nat.zero_add]
    refine ⟨?_, h0.frozenAt j⟩
    rw [h0.cellAt j (by simpa using hj'), List.getElem?_map, List.getElem?_eq_getElem hj', getI xs j hj']
    rfl

theorem riseP_nil : riseP [] = [] := by simp [riseP, Lib.compact, Lib.compactUpTo]
theorem below_sorted {B : Nat} {w : World} {g n : Nat} {os : Array Obj} (d : Array Int) (h : B ≤ g) (hB : B ≤ w.heap.size) : Below B w (grow (putRow (Value.int .i64) (Sort.ahead w n) g 0 d) os) :=
  (Below.refl B w).grown (grownBy_sortedI d) hB (fun k hk => by cases hk; exact h)

theorem holds_take (w : World) (g : Nat) (xs ys : List Int) (h : Holds (Value.int .i64) w g 0 (xs ++ ys).toArray) : Holds (Value.int .i64) w g 0 xs.toArray := fun j hj => by
  have hj' : j < xs.length := by simpa using hj
  have := h j (by simp; omega)
  rw [getI (xs ++ ys) j (by simp; omega), List.getElem_append_left hj'] at this
  rw [getI xs j hj']
  exact this

set_option maxHeartbeats 1000000 in
theorem prise (B : Nat) (a : Option Addr) (n c : Nat) (xs : List Int) (w : World) (h : Wlst w B a n c xs) (hn : n * 8 ≤ 140737488355328) (hB : B ≤ w.heap.size) :
    Calls Tryz.prog 87 #[.slice a n c] w fun e w' => ∃ n', e = .returned (.slice a n' c) ∧ Wlst w' B a n' c (riseP xs) ∧ Below B w w' := by
  rcases Nat.eq_zero_or_pos n with h0 | h0
  · subst h0
    have hx : xs = [] := List.eq_nil_of_length_eq_zero h.size
    have k1 := hid (Tryz.slices_Sort_int_none a c w)
    have k2 := hid (Tryz.slices_Compact_int_empty a c w)
    have HH := hid h
    clear h
    go_enter Tryz.func87, Tryz.ntmps87
    go_wp2_with fail
    refine k1.out.mono ?_
    rintro e w1 ⟨rfl, rfl⟩
    clear k1
    go_wp2_with fail
    refine k2.out.mono ?_
    rintro e w2 ⟨rfl, rfl⟩
    clear k2
    go_wp2_with fail
    go_ret
    subst hx
    exact ⟨0, rfl, by rw [riseP_nil]; exact HH.out, Below.refl _ _⟩
  · obtain ⟨g, rfl, hg, hlt, hH⟩ := h.cells h0
    obtain rfl := h.size
    have hle := h.le
    have k1 := hid (Tryz.slices_Sort_int g 0 c xs w hH hlt (by omega))
    have HH := hid hH
    have HX : Hid (riseP xs = Lib.compact (xs.mergeSort fun x y => decide (x ≤ y))) := hid rfl
    have HY : Hid (0 < xs.length) := hid h0
    have HLe : Hid (xs.length ≤ c) := hid hle
    have HSz : Hid ((xs.mergeSort fun x y => decide (x ≤ y)).length = xs.length) := hid (List.length_mergeSort _)
    have HRl := hid (riseP_length xs)
    clear h hH h0
    generalize hS : (xs.mergeSort fun x y => decide (x ≤ y)) = S at *
    clear hS
    have HN : Hid (∃ N, N = xs.length) := hid ⟨_, rfl⟩
    go_enter Tryz.func87, Tryz.ntmps87
    go_wp2_with fail
    refine k1.out.mono ?_
    rintro e w1 ⟨rfl, q, os, rfl⟩
    clear k1
    have hH1 : Holds (Value.int .i64) (grow (putRow (Value.int .i64) (Sort.ahead w q) g 0 S.toArray) os) g 0 S.toArray :=
      holds_grow _ _ _ _ _ _ (by simpa using hlt) (holds_putRow _ _ _ _ xs.toArray _ (holds_ahead _ _ _ _ _ _ HH.out) (by simpa using HSz.out))
    have hB1 : Below B w (grow (putRow (Value.int .i64) (Sort.ahead w q) g 0 S.toArray) os) := below_sorted _ hg hB
    have k2 := Tryz.slices_Compact_int g 0 c S _ hH1 (by have := HSz.out; omega) (by have := HSz.out; omega)
    rw [HSz.out] at k2
    have K2 := hid k2
    have HH1 := hid hH1
    have HB1 := hid hB1
    clear k2 hH1 hB1
    generalize grow (putRow (Value.int .i64) (Sort.ahead w q) g 0 S.toArray) os = w1 at K2 HH1 HB1 ⊢
    go_wp2_with fail
    refine K2.out.mono ?_
    rintro e w2 ⟨rfl, q2, rfl⟩
    clear K2
    go_wp2_with fail
    go_ret
    have hs1 := HB1.out.size
    have hH2 : Holds (Value.int .i64) (putRow (Value.int .i64) (Sort.ahead w1 q2) g 0 (Lib.compact S ++ List.replicate (xs.length - (Lib.compact S).length) 0).toArray) g 0 (Lib.compact S ++ List.replicate (xs.length - (Lib.compact S).length) 0).toArray :=
      holds_putRow _ _ _ _ S.toArray _ (holds_ahead _ _ _ _ _ _ HH1.out) (by have := HSz.out; have := HRl.out; rw [HX.out] at this; simp; omega)
    refine ⟨_, rfl, ⟨by rw [HX.out], Nat.le_trans (by have := HRl.out; rw [HX.out] at this; exact this) HLe.out, fun _ => ⟨g, rfl, hg, ?_, ?_⟩, fun h => by cases h⟩, ?_⟩
    · simp; omega
    · rw [HX.out]
      have := HSz.out
      simpa [HSz.out] using holds_take _ _ _ _ hH2
    · have := below_sorted (B := B) (w := w1) (g := g) (n := q2) (os := #[]) (Lib.compact S ++ List.replicate (xs.length - (Lib.compact S).length) 0).toArray hg (Nat.le_trans hB hs1)
      rw [grow_empty] at this
      simpa [HSz.out] using HB1.out.trans this

theorem clone_lst (a : Option Addr) (n c : Nat) (xs : List Int) (w : World) (h : Ilst w a n c xs) (hn : n * 8 ≤ 140737488355328) :
    Calls Tryz.prog 43 #[.slice a n c] w fun e w' => ∃ a' c', e = .returned (.slice a' n c') ∧ Wlst w' w.heap.size a' n c' xs ∧ Below w.heap.size w w' := by
  obtain rfl := h.size
  cases a with
  | none =>
    have h0 : xs = [] := by
      rcases Nat.eq_zero_or_pos xs.length with q | q
      · exact List.eq_nil_of_length_eq_zero q
      · obtain ⟨_, _, e, _⟩ := h.cells q; cases e
    subst h0
    refine (Tryz.slices_Clone_int_nil 0 c w).mono ?_
    rintro e w' ⟨rfl, rfl⟩
    exact ⟨none, 0, rfl, ⟨rfl, Nat.le_refl _, fun h => by simp at h, fun _ => rfl⟩, Below.refl _ _⟩
  | some ad =>
    rcases Nat.eq_zero_or_pos xs.length with q | q
    · have h0 : xs = [] := List.eq_nil_of_length_eq_zero q
      subst h0
      refine (Tryz.slices_Clone_int_zero ad c w).mono ?_
      rintro e w' ⟨v', rfl, h1, h2, h3⟩
      obtain ⟨a', c', rfl, hW⟩ := own_wlst (xs := []) (by simpa using h1)
      exact ⟨a', c', rfl, hW, h3⟩
    · obtain ⟨b, o, e, hb, hc⟩ := h.cells q
      obtain rfl := Option.some.inj e
      refine (Tryz.slices_Clone_int b o xs.length c xs w (Nat.le_refl _) hn hc).mono ?_
      rintro e w' ⟨v', rfl, h1, h2, h3⟩
      obtain ⟨a', c', rfl, hW⟩ := own_wlst (xs := xs) (by simpa using h1)
      exact ⟨a', c', rfl, hW, h3⟩

theorem eq_lst (a b : Option Addr) (n c m d : Nat) (xs : List Int) (w : World) (h : Ilst w a n c xs) (q : Ilst w b m d xs) (hn : n ≤ 9223372036854775807) :
    Calls Tryz.prog 58 #[.slice a n c, .slice b m d] w fun e w' => e = .returned (.bool true) ∧ Below w.heap.size w w' := by
  obtain rfl := h.size
  obtain rfl := q.size
  rcases Nat.eq_zero_or_pos xs.length with z | z
  · rw [z]
    refine (Tryz.slices_Equal_int_empty a b c 0 d w (by omega)).mono ?_
    rintro e w' ⟨rfl, rfl⟩
    exact ⟨rfl, Below.refl _ _⟩
  · obtain ⟨b1, o1, rfl, _, hc1⟩ := h.cells z
    obtain ⟨b2, o2, rfl, _, hc2⟩ := q.cells z
    refine (Tryz.slices_Equal_int b1 o1 xs.length c b2 o2 xs.length d xs xs w (Nat.le_refl _) (Nat.le_refl _) hn hn hc1 hc2).mono ?_
    rintro e w' ⟨rfl, q, rfl⟩
    exact ⟨by simp, ⟨rfl, rfl, rfl, Nat.le_refl _, fun _ _ => rfl⟩⟩

end Go.Proofs.YtbgommpdmnbplaaGreatDoor

/- corpus's copied; which entries may be; a key's room; keys; a copy of the map. -/
namespace Go.Proofs.YtbgommpdmnbplaaGreatDoor
open Go.RowKit Co
set_option linter.unusedVariables false
set_option maxRecDepth 20000

theorem esize : (Tryz.prog.info? 37).map (·.size) = some 5 := by kernel_rfl
theorem cell_tmp_result {P : Program} {fn : Func} {t u : Tmp} {ty : TypeId} (h : fn.results = #[.cell t ty, .tmp u]) (tmps : Array Value) (w : World) (b o : Nat) (ht : tmps.getD t undef = .pointer (some ⟨b, o, none⟩)) (cs : List Value) (d : TypeDesc) (hc : w.rangeAt b o cs)
    (hu : P.underlying ty = some d) (hd : d.isRow = true) (hi : (P.info? ty).map (·.size) = some cs.length) :
    (results fn tmps).run P w = .ok (.tuple #[.agg cs.toArray, tmps.getD u undef]) w := by
  have hl := run_loadVar_mid (P := P) w b o ty cs d hc hu hd hi
  rw [Array.getD_eq_getD_getElem?] at ht
  simp [results, h, ht, asAddr, hl]

theorem set_row {w : World} {b : Nat} {t : TypeId} {C cs : List Value} (h : w.heap[b]? = some (.cells C.toArray t (0, 0))) (hl : C.length = cs.length) : (w.setCells b 0 cs).heap[b]? = some (.cells cs.toArray t (0, 0)) := by
  rw [heap_setCells b t cs 0 w C h (by omega)]
  congr 3
  unfold splice
  simp [hl]

/-- An entry in memory that is new since B. -/
def EvN (w : World) (B : Nat) (v : Value) (e : Ety) : Prop := ∀ N : List Nat, (∀ x ∈ N, x < B) → Ev w N v e

theorem Wlst.il {w : World} {B : Nat} {a : Option Addr} {n c : Nat} {xs : List Int} (h : Wlst w B a n c xs) (hc : c ≤ 9223372036854775807) (N : List Nat) (hN : ∀ x ∈ N, x < B) : Il w N a n c xs :=
  ⟨h.ilst, h.le, hc, fun hn b o e hx => by
    obtain ⟨g, e', hg, _⟩ := h.cells hn
    rw [e'] at e
    injection e with e
    injection e with e _
    have := hN b hx
    omega⟩

theorem own_il {w : World} {B : Nat} {v : Value} {xs : List Int} (h : w.ownsRow B 3 1 v xs.length (xs.map (Value.int .i64))) : ∃ a c, v = .slice a xs.length c ∧ ∀ N : List Nat, (∀ x ∈ N, x < B) → Il w N a xs.length c xs := by
  obtain ⟨a, c, rfl, hW⟩ := own_wlst h
  obtain ⟨a', c', e, _, h2⟩ := own_shape h
  injection e with e1 e2 e3
  subst e3
  exact ⟨a, c, rfl, fun N hN => hW.il h2 N hN⟩
theorem il_nil (w : World) (N : List Nat) : Il w N none 0 0 [] := ⟨⟨rfl, fun h => by omega, fun _ => rfl⟩, Nat.le_refl _, by omega, fun h => by omega⟩

theorem clone_il (a : Option Addr) (n c : Nat) (xs : List Int) (w : World) (h : Ilst w a n c xs) (hn : n * 8 ≤ 140737488355328) :
    Calls Tryz.prog 43 #[.slice a n c] w fun e w' => ∃ a' c', e = .returned (.slice a' n c') ∧ (∀ N : List Nat, (∀ x ∈ N, x < w.heap.size) → Il w' N a' n c' xs) ∧ Below w.heap.size w w' := by
  obtain rfl := h.size
  cases a with
  | none =>
    have h0 : xs = [] := by
      rcases Nat.eq_zero_or_pos xs.length with q | q
      · exact List.eq_nil_of_length_eq_zero q
      · obtain ⟨_, _, e, _⟩ := h.cells q; cases e
    subst h0
    refine (Tryz.slices_Clone_int_nil 0 c w).mono ?_
    rintro e w' ⟨rfl, rfl⟩
    exact ⟨none, 0, rfl, fun N _ => il_nil _ N, Below.refl _ _⟩
  | some ad =>
    rcases Nat.eq_zero_or_pos xs.length with q | q
    · have h0 : xs = [] := List.eq_nil_of_length_eq_zero q
      subst h0
      refine (Tryz.slices_Clone_int_zero ad c w).mono ?_
      rintro e w' ⟨v', rfl, h1, h2, h3⟩
      obtain ⟨a', c', rfl, hW⟩ := own_il (xs := []) (by simpa using h1)
      exact ⟨a', c', rfl, hW, h3⟩
    · obtain ⟨b, o, e, hb, hc⟩ := h.cells q
      obtain rfl := Option.some.inj e
      refine (Tryz.slices_Clone_int b o xs.length c xs w (Nat.le_refl _) hn hc).mono ?_
      rintro e w' ⟨v', rfl, h1, h2, h3⟩
      obtain ⟨a', c', rfl, hW⟩ := own_il (xs := xs) (by simpa using h1)
      exact ⟨a', c', rfl, hW, h3⟩

/-- What copied leaves. -/
def CopP (w : World) (e : Ety) (r : Ending) (w' : World) : Prop := ∃ v', r = .returned v' ∧ EvN w' w.heap.size v' e ∧ Below w.heap.size w w'

set_option maxHeartbeats 4000000 in
theorem ecopied_any (N : List Nat) (v : Value) (e : Ety) (w : World) (h : Ev w N v e) (hp8 : e.p.length * 8 ≤ 140737488355328) (hq8 : e.q.length * 8 ≤ 140737488355328) : Calls Tryz.prog 50 #[v] w (CopP w e) := by
  obtain ⟨pa, pc, qa, qc, rfl, hp, hq⟩ := h
  unfold entV
  obtain ⟨pn, gpn⟩ : ∃ pn, pn = e.p.length := ⟨_, rfl⟩
  obtain ⟨qn, gqn⟩ : ∃ qn, qn = e.q.length := ⟨_, rfl⟩
  obtain ⟨ks, gks⟩ : ∃ ks, ks = e.k := ⟨_, rfl⟩
  obtain ⟨gs, ggs⟩ : ∃ gs, gs = e.g := ⟨_, rfl⟩
  obtain ⟨fx, gfx⟩ : ∃ fx, fx = e.f := ⟨_, rfl⟩
  rw [← gpn] at hp8
  rw [← gqn] at hq8
  rw [← gpn, ← gqn, ← gks, ← ggs, ← gfx]
  have hpi := hp.il
  have hqi := hq.il
  rw [← gpn] at hpi
  rw [← gqn] at hqi
  obtain ⟨W, gW⟩ : ∃ W, W = (w.alloc (.cells #[.string ks, .string gs, .slice pa pn pc, .int .i64 fx, .slice qa qn qc] 37)).alloc (.cells #[.string ⟨#[]⟩, .string ⟨#[]⟩, .slice none 0 0, .int .i64 0, .slice none 0 0] 37) := ⟨_, rfl⟩
  have hbW : Below w.heap.size w W := by rw [gW]; exact ((Below.refl _ _).alloc (Nat.le_refl _) _).alloc (by simp) _
  have hW0 : W.heap[w.heap.size]? = some (.cells #[.string ks, .string gs, .slice pa pn pc, .int .i64 fx, .slice qa qn qc] 37 (0, 0)) := by rw [gW]; exact (Below.heap_alloc _ _ _ (by simp)).trans (heap_alloc_new _ _)
  have hW1 : W.heap[w.heap.size + 1]? = some (.cells #[.string ⟨#[]⟩, .string ⟨#[]⟩, .slice none 0 0, .int .i64 0, .slice none 0 0] 37 (0, 0)) := by
    rw [gW]
    have := heap_alloc_new (w.alloc (.cells #[.string ks, .string gs, .slice pa pn pc, .int .i64 fx, .slice qa qn qc] 37)) (.cells #[.string ⟨#[]⟩, .string ⟨#[]⟩, .slice none 0 0, .int .i64 0, .slice none 0 0] 37)
    simpa using this
  have hsW : W.heap.size = w.heap.size + 2 := by rw [gW]; simp
  have k1 := hid (clone_il pa pn pc e.p W (hpi.below hbW) hp8)
  have c2 : W.cell? ⟨w.heap.size, 2, none⟩ = some (.slice pa pn pc) := heap_cells hW0 2 _ rfl
  have GP := hid gpn
  have GQ := hid gqn
  have GK := hid gks
  have GG := hid ggs
  have GF := hid gfx
  have HQI := hid hqi
  have HBW := hid hbW
  have HW0 := hid hW0
  have HW1 := hid hW1
  have HSW := hid hsW
  have GW := hid gW
  clear gpn gqn gks ggs gfx hpi hqi hbW hW0 hW1 hsW gW hp hq
  go_enter Tryz.func50, Tryz.ntmps50
  go_upto_region 1 with fail
  rw [← GW.out]
  go_upto_region 2 with (first | (go_at_call 43; refine k1.out.mono ?_; rintro r w1 ⟨a1, q1, rfl, hi1, hb1⟩; have HI1 := hid hi1; have HB1 := hid hb1; have z2 : w1.cell? ⟨w.heap.size, 2, none⟩ = some (.slice pa pn pc) := heap_cells ((hb1.block w.heap.size (by have := HSW.out; omega)).trans HW0.out) 2 _ rfl; have y2 : w1.frozen? ⟨w.heap.size, 2, none⟩ = false := frozen_of_row w1 w.heap.size 2 _ _ ((hb1.block w.heap.size (by have := HSW.out; omega)).trans HW0.out); clear hi1 hb1 k1))
  have hX0 : (w1.setCell ⟨w.heap.size, 2, none⟩ (.slice a1 pn q1)).heap[w.heap.size]? = some (.cells #[.string ks, .string gs, .slice a1 pn q1, .int .i64 fx, .slice qa qn qc] 37 (0, 0)) := by
    rw [heap_setCell_same w1 w.heap.size 2 _ _ _ ((HB1.out.block w.heap.size (by have := HSW.out; omega)).trans HW0.out)]
    rfl
  have hX1 : (w1.setCell ⟨w.heap.size, 2, none⟩ (.slice a1 pn q1)).heap[w.heap.size + 1]? = some (.cells #[.string ⟨#[]⟩, .string ⟨#[]⟩, .slice none 0 0, .int .i64 0, .slice none 0 0] 37 (0, 0)) := by
    rw [heap_setCell_other w1 _ _ _ (by simp)]
    exact (HB1.out.block (w.heap.size + 1) (by have := HSW.out; omega)).trans HW1.out
  have hUX : Upd (· = w.heap.size) W (w1.setCell ⟨w.heap.size, 2, none⟩ (.slice a1 pn q1)) := (Upd.of_below HB1.out).trans (Upd.setCell (F := fun x => x = w.heap.size) _ _ _ rfl) (fun x _ h => h)
  obtain ⟨X, gX⟩ : ∃ X, X = w1.setCell ⟨w.heap.size, 2, none⟩ (.slice a1 pn q1) := ⟨_, rfl⟩
  have hIX : ∀ N : List Nat, (∀ x ∈ N, x < w.heap.size + 2) → Il X N a1 pn q1 e.p := fun N hN => by
    rw [gX]
    refine (HI1.out N (fun x hx => by have := hN x hx; have := HSW.out; omega)).upd (N' := N) (G := fun x => x = w.heap.size) (Upd.setCell _ _ _ rfl) (fun b o hn ea hb => ?_) (fun x hx => .inl hx)
    exact (HI1.out [w.heap.size] (fun x hx => by have := HSW.out; simp at hx; omega)).out hn b o ea (by simp [hb])
  rw [← gX] at hX0 hX1 hUX
  rw [← gX]
  have hbX : Below w.heap.size w X := HBW.out.trans (hUX.below HBW.out.size (fun x h => by rw [h]; exact Nat.le_refl _))
  have hsX : w.heap.size + 2 ≤ X.heap.size := by have := hUX.size; have := HSW.out; omega
  have k2 := hid (clone_il qa qn qc e.q X (HQI.out.below hbX) hq8)
  have c4 : X.cell? ⟨w.heap.size, 4, none⟩ = some (.slice qa qn qc) := heap_cells hX0 4 _ rfl
  have HX0 := hid hX0
  have HX1 := hid hX1
  have HIX := hid hIX
  have HBX := hid hbX
  have HSX := hid hsX
  clear hX0 hX1 hUX hIX hbX hsX gX z2 y2 HI1 HB1 c2
  go_upto_region 3 with (first | (go_at_call 43; refine k2.out.mono ?_; rintro r w2 ⟨a2, q2, rfl, hi2, hb2⟩; have HI2 := hid hi2; have HB2 := hid hb2; have z4 : w2.cell? ⟨w.heap.size, 4, none⟩ = some (.slice qa qn qc) := heap_cells ((hb2.block w.heap.size (by have := HSX.out; omega)).trans HX0.out) 4 _ rfl; have y4 : w2.frozen? ⟨w.heap.size, 4, none⟩ = false := frozen_of_row w2 w.heap.size 4 _ _ ((hb2.block w.heap.size (by have := HSX.out; omega)).trans HX0.out); clear hi2 hb2 k2))
  have hY0 : (w2.setCell ⟨w.heap.size, 4, none⟩ (.slice a2 qn q2)).heap[w.heap.size]? = some (.cells #[.string ks, .string gs, .slice a1 pn q1, .int .i64 fx, .slice a2 qn q2] 37 (0, 0)) := by
    rw [heap_setCell_same w2 w.heap.size 4 _ _ _ ((HB2.out.block w.heap.size (by have := HSX.out; omega)).trans HX0.out)]
    rfl
  have hY1 : (w2.setCell ⟨w.heap.size, 4, none⟩ (.slice a2 qn q2)).heap[w.heap.size + 1]? = some (.cells #[.string ⟨#[]⟩, .string ⟨#[]⟩, .slice none 0 0, .int .i64 0, .slice none 0 0] 37 (0, 0)) := by
    rw [heap_setCell_other w2 _ _ _ (by simp)]
    exact (HB2.out.block (w.heap.size + 1) (by have := HSX.out; omega)).trans HX1.out
  obtain ⟨Y, gY⟩ : ∃ Y, Y = w2.setCell ⟨w.heap.size, 4, none⟩ (.slice a2 qn q2) := ⟨_, rfl⟩
  have hUY : Upd (· = w.heap.size) X Y := by rw [gY]; exact (Upd.of_below HB2.out).trans (Upd.setCell (F := fun x => x = w.heap.size) _ _ _ rfl) (fun x _ h => h)
  have hIY : ∀ N : List Nat, (∀ x ∈ N, x < w.heap.size + 2) → Il Y N a2 qn q2 e.q ∧ Il Y N a1 pn q1 e.p := fun N hN => by
    refine ⟨?_, ?_⟩
    · rw [gY]
      refine (HI2.out N (fun x hx => by have := hN x hx; have := HSX.out; omega)).upd (N' := N) (G := fun x => x = w.heap.size) (Upd.setCell _ _ _ rfl) (fun b o hn ea hb => ?_) (fun x hx => .inl hx)
      exact (HI2.out [w.heap.size] (fun x hx => by have := HSX.out; simp at hx; omega)).out hn b o ea (by simp [hb])
    · refine (HIX.out N hN).upd (N' := N) hUY (fun b o hn ea hb => ?_) (fun x hx => .inl hx)
      exact (HIX.out [w.heap.size] (fun x hx => by simp at hx; omega)).out hn b o ea (by simp [hb])
  rw [← gY] at hY0 hY1
  rw [← gY]
  have hbY : Below w.heap.size w Y := HBX.out.trans (hUY.below HBX.out.size (fun x h => by rw [h]; exact Nat.le_refl _))
  have hsY := hUY.size
  have d0 : Y.cell? ⟨w.heap.size, 0, none⟩ = some (.string ks) := heap_cells hY0 0 _ rfl
  have d1 : Y.cell? ⟨w.heap.size, 1, none⟩ = some (.string gs) := heap_cells hY0 1 _ rfl
  have d2 : Y.cell? ⟨w.heap.size, 2, none⟩ = some (.slice a1 pn q1) := heap_cells hY0 2 _ rfl
  have d3 : Y.cell? ⟨w.heap.size, 3, none⟩ = some (.int .i64 fx) := heap_cells hY0 3 _ rfl
  have d4 : Y.cell? ⟨w.heap.size, 4, none⟩ = some (.slice a2 qn q2) := heap_cells hY0 4 _ rfl
  have HTH := hid (there_of_block (C := [.string ⟨#[]⟩, .string ⟨#[]⟩, .slice none 0 0, .int .i64 0, .slice none 0 0]) hY1 0 5 (by simp))
  have HY1 := hid hY1
  have HIY := hid hIY
  have HBY := hid hbY
  have HSY := hid hsY
  clear hY0 hY1 hIY hbY hsY gY hUY z4 y4 c4
  go_wp2_with (refine wpList_store_mid rfl 37 (.tmp 2) (.tmp 11) rfl (w.heap.size + 1) 0 #[.string ks, .string gs, .slice a1 pn q1, .int .i64 fx, .slice a2 qn q2] rfl rfl HTH.out esize (by simp [Value.oneCell']) ?_)
  have hZ := set_row (cs := [.string ks, .string gs, .slice a1 pn q1, .int .i64 fx, .slice a2 qn q2]) HY1.out rfl
  refine bodyPost_ret (cell_result rfl _ _ (w.heap.size + 1) 0 rfl [.string ks, .string gs, .slice a1 pn q1, .int .i64 fx, .slice a2 qn q2] _ (rangeAt_block hZ) Tryz.underlying37 rfl esize) rfl ?_
  have hU := upd_setCells (w.heap.size + 1) [.string ks, .string gs, .slice a1 pn q1, .int .i64 fx, .slice a2 qn q2] 0 Y
  refine ⟨_, rfl, fun N hN => ?_, HBY.out.trans (hU.below HBY.out.size (fun x h => by omega))⟩
  have hN2 : ∀ x ∈ N, x < w.heap.size + 2 := fun x hx => by have := hN x hx; omega
  have hB1 : ∀ x ∈ [w.heap.size + 1], x < w.heap.size + 2 := fun x hx => by simp at hx; omega
  refine ⟨a1, q1, a2, q2, ?_, ?_, ?_⟩
  · rw [← GP.out, ← GQ.out, ← GK.out, ← GG.out, ← GF.out]; rfl
  · rw [← GP.out]
    exact (HIY.out N hN2).2.upd hU (fun b o hn ea hb => ((HIY.out _ hB1).2).out hn b o ea (by simp [hb])) (fun x hx => .inl hx)
  · rw [← GQ.out]
    exact (HIY.out N hN2).1.upd hU (fun b o hn ea hb => ((HIY.out _ hB1).1).out hn b o ea (by simp [hb])) (fun x hx => .inl hx)
end Go.Proofs.YtbgommpdmnbplaaGreatDoor

/- corpus's mayBe, takes, keys; a copy of the map. -/
namespace Go.Proofs.YtbgommpdmnbplaaGreatDoor
open Go.RowKit Co
set_option linter.unusedVariables false
set_option maxRecDepth 20000

set_option maxHeartbeats 4000000 in
theorem maybe_any (N : List Nat) (v : Value) (e : Ety) (w : World) (h : Ev w N v e) : Calls Tryz.prog 46 #[v] w fun r w' => r = .returned (.bool (mayB e)) ∧ Below w.heap.size w w' := by
  obtain ⟨pa, pc, qa, qc, rfl, hp, hq⟩ := h
  unfold entV
  obtain ⟨R, gR⟩ : ∃ R, R = mayB e := ⟨_, rfl⟩
  rw [← gR]
  unfold mayB at gR
  obtain ⟨W, gW⟩ : ∃ W, W = w.alloc (.cells #[.string e.k, .string e.g, .slice pa e.p.length pc, .int .i64 e.f, .slice qa e.q.length qc] 37) := ⟨_, rfl⟩
  have hbW : Below w.heap.size w W := by rw [gW]; exact (Below.refl _ _).alloc (Nat.le_refl _) _
  have hW : W.heap[w.heap.size]? = some (.cells #[.string e.k, .string e.g, .slice pa e.p.length pc, .int .i64 e.f, .slice qa e.q.length qc] 37 (0, 0)) := by rw [gW]; exact heap_alloc_new _ _
  have k1 := hid (fun wx => iskey_any e.k wx)
  have k2 := hid (arepts_any pa e.p.length pc e.p W (hp.il.below hbW) hp.le hp.cm)
  have k3 := hid (fun wx => within_any e.f 99 wx)
  have k4 := hid (arepks_any qa e.q.length qc e.q W (hq.il.below hbW) hq.le hq.cm)
  obtain ⟨pn, gpn⟩ : ∃ pn, pn = e.p.length := ⟨_, rfl⟩
  obtain ⟨qn, gqn⟩ : ∃ qn, qn = e.q.length := ⟨_, rfl⟩
  obtain ⟨ks, gks⟩ : ∃ ks, ks = e.k := ⟨_, rfl⟩
  obtain ⟨gs, ggs⟩ : ∃ gs, gs = e.g := ⟨_, rfl⟩
  obtain ⟨fx, gfx⟩ : ∃ fx, fx = e.f := ⟨_, rfl⟩
  obtain ⟨b1, g1⟩ : ∃ b1, b1 = isKey e.k := ⟨_, rfl⟩
  obtain ⟨b2, g2⟩ : ∃ b2, b2 = ptsB 0 e.p := ⟨_, rfl⟩
  obtain ⟨b3, g3⟩ : ∃ b3, b3 = decide (0 ≤ e.f ∧ e.f ≤ 99) := ⟨_, rfl⟩
  obtain ⟨b4, g4⟩ : ∃ b4, b4 = pksB e.q := ⟨_, rfl⟩
  rw [← g1] at k1
  rw [← g2] at k2
  rw [← g3] at k3
  rw [← g4] at k4
  rw [← g1, ← g2, ← g3, ← g4] at gR
  rw [← gpn] at k2 gW hW
  rw [← gqn] at k4 gW hW gR
  rw [← gks] at k1 gW hW
  rw [← ggs] at gW hW gR
  rw [← gfx] at k3 gW hW gR
  rw [← gpn, ← gqn, ← gks, ← ggs, ← gfx]
  have d0 : W.cell? ⟨w.heap.size, 0, none⟩ = some (.string ks) := heap_cells hW 0 _ rfl
  have d1 : W.cell? ⟨w.heap.size, 1, none⟩ = some (.string gs) := heap_cells hW 1 _ rfl
  have d2 : W.cell? ⟨w.heap.size, 2, none⟩ = some (.slice pa pn pc) := heap_cells hW 2 _ rfl
  have d3 : W.cell? ⟨w.heap.size, 3, none⟩ = some (.int .i64 fx) := heap_cells hW 3 _ rfl
  have d4 : W.cell? ⟨w.heap.size, 4, none⟩ = some (.slice qa qn qc) := heap_cells hW 4 _ rfl
  have GW := hid gW
  have GR := hid gR
  have HBW := hid hbW
  clear gpn gqn gks ggs gfx hp hq gW hW gR hbW g1 g2 g3 g4
  have fin : ∀ (b : Bool), R = b → Hid (Ending.returned (.bool b) = Ending.returned (.bool R)) := fun b h => hid (by rw [h])
  have FIN := hid fin
  clear fin
  go_enter Tryz.func46, Tryz.ntmps46
  go_upto_region 1 with fail
  rw [← GW.out]
  have leg : Hid ((gs.size : Int) ≤ 1500 ↔ gs.size ≤ 1500) := hid (by omega)
  cases b1 with
  | false =>
    obtain rfl : R = false := by rw [GR.out]; simp
    go_wp2_with (first | (go_at_call 45; refine (k1.out _).mono ?_; rintro r wx ⟨rfl, h⟩; subst wx))
    go_ret
    exact ⟨rfl, HBW.out⟩
  | true =>
    by_cases hg : gs.size ≤ 1500
    · have hgv : (gs.size : Int) ≤ 1500 := by omega
      cases b2 with
      | false =>
        obtain rfl : R = false := by rw [GR.out]; simp
        go_wp2_with (first | (go_at_call 45; refine (k1.out _).mono ?_; rintro r wx ⟨rfl, h⟩; subst wx) | (go_at_call 106; refine k2.out.mono ?_; rintro r wx ⟨rfl, h⟩; subst wx))
        go_ret
        exact ⟨rfl, HBW.out⟩
      | true =>
        cases b3 with
        | false =>
          obtain rfl : R = false := by rw [GR.out]; simp
          go_wp2_with (first | (go_at_call 45; refine (k1.out _).mono ?_; rintro r wx ⟨rfl, h⟩; subst wx) | (go_at_call 106; refine k2.out.mono ?_; rintro r wx ⟨rfl, h⟩; subst wx) | (go_at_call 107; refine (k3.out _).mono ?_; rintro r wx ⟨rfl, h⟩; subst wx))
          go_ret
          exact ⟨rfl, HBW.out⟩
        | true =>
          cases b4 with
          | false =>
            obtain rfl : R = false := by rw [GR.out]; simp
            go_wp2_with (first | (go_at_call 45; refine (k1.out _).mono ?_; rintro r wx ⟨rfl, h⟩; subst wx) | (go_at_call 106; refine k2.out.mono ?_; rintro r wx ⟨rfl, h⟩; subst wx) | (go_at_call 107; refine (k3.out _).mono ?_; rintro r wx ⟨rfl, h⟩; subst wx) | (go_at_call 108; refine k4.out.mono ?_; rintro r wx ⟨rfl, h⟩; subst wx))
            go_ret
            exact ⟨rfl, HBW.out⟩
          | true =>
            by_cases hf : 0 < fx
            · obtain rfl : R = true := by rw [GR.out]; simp [hf, hg]
              go_wp2_with (first | (go_at_call 45; refine (k1.out _).mono ?_; rintro r wx ⟨rfl, h⟩; subst wx) | (go_at_call 106; refine k2.out.mono ?_; rintro r wx ⟨rfl, h⟩; subst wx) | (go_at_call 107; refine (k3.out _).mono ?_; rintro r wx ⟨rfl, h⟩; subst wx) | (go_at_call 108; refine k4.out.mono ?_; rintro r wx ⟨rfl, h⟩; subst wx))
              go_ret
              exact ⟨rfl, HBW.out⟩
            · by_cases hq0 : qn = 0
              · subst hq0
                obtain rfl : R = true := by rw [GR.out]; simp [hg]
                go_wp2_with (first | (go_at_call 45; refine (k1.out _).mono ?_; rintro r wx ⟨rfl, h⟩; subst wx) | (go_at_call 106; refine k2.out.mono ?_; rintro r wx ⟨rfl, h⟩; subst wx) | (go_at_call 107; refine (k3.out _).mono ?_; rintro r wx ⟨rfl, h⟩; subst wx) | (go_at_call 108; refine k4.out.mono ?_; rintro r wx ⟨rfl, h⟩; subst wx))
                go_ret
                exact ⟨rfl, HBW.out⟩
              · have hqv : ((qn : Int) == 0) = false := by simp; omega
                have hqv2 : ¬ (qn : Int) = 0 := by omega
                obtain rfl : R = false := by rw [GR.out]; simp [hf, hq0]
                go_wp2_with (first | (go_at_call 45; refine (k1.out _).mono ?_; rintro r wx ⟨rfl, h⟩; subst wx) | (go_at_call 106; refine k2.out.mono ?_; rintro r wx ⟨rfl, h⟩; subst wx) | (go_at_call 107; refine (k3.out _).mono ?_; rintro r wx ⟨rfl, h⟩; subst wx) | (go_at_call 108; refine k4.out.mono ?_; rintro r wx ⟨rfl, h⟩; subst wx))
                go_ret
                exact ⟨bool_same (by simp; omega), HBW.out⟩
    · have hgv : ¬ (gs.size : Int) ≤ 1500 := by omega
      have hgd : decide ((gs.size : Int) ≤ 1500) = false := decide_eq_false hgv
      obtain rfl : R = false := by rw [GR.out]; simp [hg]
      go_wp2_with (first | (go_at_call 45; refine (k1.out _).mono ?_; rintro r wx ⟨rfl, h⟩; subst wx))
      go_ret
      refine ⟨?_, HBW.out⟩
      refine bool_same ?_
      simp

/-- What takes answers. -/
def TakP (w : World) (K : List (List UInt8)) (o : Option Ety) (r : Ending) (w' : World) : Prop := ∃ B : Bool, r = .returned (.bool B) ∧ (B = true ↔ o ≠ none ∨ K.length < 40) ∧ Below w.heap.size w w'
set_option maxHeartbeats 1000000 in
theorem takes_any (N : List Nat) (m : Nat) (K : List (List UInt8)) (F : Sta) (s : ByteArray) (w : World) (h : Em w N m K F) (hs : s.size ≤ maxLen) (hk : K.length ≤ 40) : Calls Tryz.prog 48 #[.map (some m), .string s] w (TakP w K (F (kb s))) := by
  obtain ⟨kl, gkl⟩ : ∃ kl, kl = K.length := ⟨_, rfl⟩
  rcases em_look h s hs with ⟨hF, hr⟩ | ⟨e, v, hF, hE, hr, _⟩
  · have hl : ∀ ty, (Builtin.len_ #[75] ty #[.map (some m)]).run Tryz.prog (w.alloc (.cells #[.string ⟨#[]⟩, .string ⟨#[]⟩, .slice none 0 0, .int .i64 0, .slice none 0 0] 37)) = .ok (.int .i64 (kl : Nat)) _ := fun ty => by rw [gkl]; exact em_len (h.below ((Below.refl _ w).alloc (Nat.le_refl _) _)) ty
    unfold zeroE at hr
    rw [← gkl] at hk
    rw [hF]
    have GKL := hid gkl
    clear h gkl
    by_cases hlt : kl < 40
    · have hv : (kl : Int) < 40 := by omega
      go_enter Tryz.func48, Tryz.ntmps48
      go_wp2_with fail
      go_ret
      exact ⟨true, rfl, by simp [← GKL.out, hlt], (Below.refl _ w).alloc (Nat.le_refl _) _⟩
    · have hv : ¬ (kl : Int) < 40 := by omega
      have hvd : decide ((kl : Int) < 40) = false := decide_eq_false hv
      go_enter Tryz.func48, Tryz.ntmps48
      go_wp2_with fail
      go_ret
      exact ⟨false, rfl, by simp [← GKL.out, hlt], (Below.refl _ w).alloc (Nat.le_refl _) _⟩
  · obtain ⟨pa, pc, qa, qc, rfl, _, _⟩ := hE
    unfold entV at hr
    have hne : F (kb s) ≠ none := by rw [hF]; simp
    have HNE := hid hne
    clear h hne hF gkl
    go_enter Tryz.func48, Tryz.ntmps48
    go_wp2_with fail
    go_ret
    exact ⟨true, rfl, by simp [HNE.out], (Below.refl _ w).alloc (Nat.le_refl _) _⟩

/-- Keys in a row of the call's own. -/
def KeysP (w : World) (K : List (List UInt8)) (r : Ending) (w' : World) : Prop := ∃ v, r = .returned v ∧ w'.ownsRow w.heap.size 9 1 v K.length (K.map encStr) ∧ Below w.heap.size w w'

set_option maxHeartbeats 1000000 in
theorem ekeys_any (N : List Nat) (m : Nat) (K : List (List UInt8)) (F : Sta) (w : World) (h : Em w N m K F) (hk : K.length ≤ 40) : Calls Tryz.prog 88 #[.map (some m)] w (KeysP w K) := by
  obtain ⟨D, h1, hK, _⟩ := h
  have hkl : K.length = Maps.size D := by rw [hK, List.length_mergeSort, size_strKeys h1]
  have k1 := hid (callsIn_wide.1 (Tryz.maps_Keys_130 (some m) w))
  have k2 := hid (callsIn_wide.1 (Tryz.slices_Sorted_keys_129_130 m K.length D Rv w h1 (by unfold maxLen; omega) (by omega)))
  have HK := hid hK
  clear h1 hK hkl
  go_enter Tryz.func88, Tryz.ntmps88
  go_wp2_with (first | (go_at_call 130; refine k1.out.mono ?_; rintro r w1 ⟨rfl, h⟩; subst w1) | (go_at_call 129; refine k2.out.mono ?_; rintro r w2 ⟨v, ss, rfl, hp, ho, _, hb⟩; have HP := hid hp; have HO := hid ho; have HB := hid hb; clear hp ho hb))
  go_ret
  have e1 : ss.mergeSort leB = K := by rw [HK.out]; exact mergeSort_of_perm HP.out
  have e2 : ss.length = K.length := by rw [← e1, List.length_mergeSort]
  have ho := HO.out
  rw [show (ss.mergeSort fun x y => decide (x ≤ y)) = K from e1, e2] at ho
  exact ⟨v, rfl, own_base ho (by simp), ((Below.refl _ w).alloc (Nat.le_refl _) _).trans (HB.out.mono (by simp))⟩

theorem em_clone (N N' : List Nat) (m : Nat) (K : List (List UInt8)) (F : Sta) (w : World) (h : Em w N m K F) : Calls Tryz.prog 49 #[.map (some m)] w fun r w' => r = .returned (.map (some w.heap.size)) ∧ Em w' N w.heap.size K F ∧ Below w.heap.size w w' := by
  have hlt := h.lt
  obtain ⟨D, h1, hK, h2⟩ := h
  have k := AnyW.maps_Clone_owns Tryz.mclone49 9 Rv m K.length D w h1
  refine k.mono ?_
  rintro r w' ⟨rfl, ho, _, hb⟩
  refine ⟨rfl, ⟨D, ho, hK, fun s => ⟨(h2 s).1, fun e he => ?_⟩⟩, hb⟩
  obtain ⟨v, hv, hE⟩ := (h2 s).2 e he
  exact ⟨v, hv, hE.upd (Upd.of_below (F := fun _ => False) hb) (fun _ _ h => h.elim) (fun x hx => .inl hx)⟩
end Go.Proofs.YtbgommpdmnbplaaGreatDoor
