/- Rows of arguments: what stands at a place. -/
import Derived.Test.YtkgejeamcgodhaaGMis3
import Derived.Test.YtkgejeamcgodhaaGMid
namespace Go.Proofs.Ytkgejeamcgodhaa
open Go.RowKit
set_option linter.unusedVariables false
set_option maxRecDepth 20000

theorem heap4 (w : World) (o1 o2 o3 o4 : Obj) : ((((w.alloc o1).alloc o2).alloc o3).alloc o4).heap[w.heap.size]? = some o1 ∧ ((((w.alloc o1).alloc o2).alloc o3).alloc o4).heap[w.heap.size + 1]? = some o2 ∧ ((((w.alloc o1).alloc o2).alloc o3).alloc o4).heap[w.heap.size + 1 + 1]? = some o3 ∧ ((((w.alloc o1).alloc o2).alloc o3).alloc o4).heap[w.heap.size + 1 + 1 + 1]? = some o4 := by
  have s1 : (w.alloc o1).heap.size = w.heap.size + 1 := by simp
  have s2 : ((w.alloc o1).alloc o2).heap.size = w.heap.size + 1 + 1 := by simp
  have s3 : (((w.alloc o1).alloc o2).alloc o3).heap.size = w.heap.size + 1 + 1 + 1 := by simp
  have n1 := heap_alloc_new w o1
  have n2 := heap_alloc_new (w.alloc o1) o2
  have n3 := heap_alloc_new ((w.alloc o1).alloc o2) o3
  have n4 := heap_alloc_new (((w.alloc o1).alloc o2).alloc o3) o4
  rw [s1] at n2
  rw [s2] at n3
  rw [s3] at n4
  have b2 := below_box (w.alloc o1) o2
  have b3 := below_box ((w.alloc o1).alloc o2) o3
  have b4 := below_box (((w.alloc o1).alloc o2).alloc o3) o4
  refine ⟨?_, ?_, ?_, n4⟩
  · rw [b4.block _ (by omega), b3.block _ (by omega), b2.block _ (by omega)]; exact n1
  · rw [b4.block _ (by omega), b3.block _ (by omega)]; exact n2
  · rw [b4.block _ (by omega)]; exact n3

/-- The cells of a type. -/
def tyC (T : Ty) : List Value := [.int .i64 T.k, .int .i64 T.s, .int .i64 T.lo, .int .i64 T.hi, .int .i64 T.d, .string T.o, .slice T.va T.vn T.vc, .slice T.ta T.tn T.tc, .slice T.ea T.en T.ec, .slice T.na T.nn T.nc]
theorem TyAt.range {w : World} {b o : Nat} {T : Ty} (h : TyAt w b o T) : w.rangeAt b o (tyC T) := rangeAt_mk fun j hj => by
  simp only [tyC, List.length_cons, List.length_nil] at hj
  match j, hj with
  | 0, _ => exact h.c0
  | 1, _ => exact h.c1
  | 2, _ => exact h.c2
  | 3, _ => exact h.c3
  | 4, _ => exact h.c4
  | 5, _ => exact h.c5
  | 6, _ => exact h.c6
  | 7, _ => exact h.c7
  | 8, _ => exact h.c8
  | 9, _ => exact h.c9
theorem csizeT : (Try.prog.info? 52).map (·.size) = some 10 := by kernel_rfl
theorem csizeS : (Try.prog.info? 81).map (·.size) = some 15 := by kernel_rfl

set_option maxHeartbeats 8000000 in
theorem at_in (b o j n : Nat) (rn rc : Nat) (ua : Option Addr) (un uc : Nat) (xa : Option Addr) (xn xc : Nat) (a : Option Addr) (m c : Nat) (a2 : Option Addr) (m2 c2 : Nat) (l : List Ty) (ts : List Int) (w : World)
    (hj : j < rn) (hrn : rn ≤ rc) (hrc : rc ≤ 9223372036854775807) (ht : Ints w ua ts) (hl : ts.length = un) (hju : j < un) (hub : un ≤ 9223372036854775807) (hn : ts.getD j 0 = (n : Int)) (hT : Tys w a l) (hm : l.length = m) (hnm : n < l.length) (hmb : m ≤ 9223372036854775807) :
    Calls Try.prog 79 #[.agg #[.slice (some ⟨b, o, none⟩) rn rc, .slice ua un uc, .slice xa xn xc], .agg #[.slice a m c, .slice a2 m2 c2], .int .i64 j] w fun e w' => e = .returned (.agg #[.pointer (some ⟨b, o + j * 4, none⟩), .int .i64 n, .int .i64 l[n].k, .int .i64 l[n].s, .int .i64 l[n].lo, .int .i64 l[n].hi, .int .i64 l[n].d, .string l[n].o, .slice l[n].va l[n].vn l[n].vc, .slice l[n].ta l[n].tn l[n].tc, .slice l[n].ea l[n].en l[n].ec, .slice l[n].na l[n].nn l[n].nc, .slice (some ⟨b, o, none⟩) rn rc, .slice ua un uc, .slice xa xn xc]) ∧ Below w.heap.size w w' := by
  obtain ⟨ub, uo, rfl, hul, huc⟩ := ht (by omega)
  have hu := huc j (by omega)
  rw [hn] at hu
  obtain ⟨tb, to', rfl, htl, htc⟩ := hT (by omega)
  have hTA := (htc n hnm).1
  have hnm' : n < m := by omega
  generalize l[n] = T at *
  clear huc hn htc hT ht hl hnm hm
  go_enter Try.func79, Try.ntmps79
  go_wp2_with fail
  go_region
  have b4 : ∀ o1 o2 o3 o4, Below w.heap.size w ((((w.alloc o1).alloc o2).alloc o3).alloc o4) := fun o1 o2 o3 o4 => (((below_box2 w o1 o2).alloc (by simp; omega) o3).alloc (by simp; omega) o4)
  have hq : ∀ o1 o2 o3 o4, ((((w.alloc o1).alloc o2).alloc o3).alloc o4).drew.cell? ⟨ub, uo + j, none⟩ = some (.int .i64 (n : Int)) := fun o1 o2 o3 o4 => ((b4 o1 o2 o3 o4).cell (p := ⟨ub, uo + j, none⟩) hul).trans hu
  have hq2 : ∀ o1 o2 o3 o4, ((((w.alloc o1).alloc o2).alloc o3).alloc o4).cell? ⟨ub, uo + j, none⟩ = some (.int .i64 (n : Int)) := hq
  have hne0 : ub ≠ w.heap.size := by omega
  have hne1 : ub ≠ w.heap.size + 1 := by omega
  have hne2 : ub ≠ w.heap.size + 1 + 1 := by omega
  have hne3 : ub ≠ w.heap.size + 1 + 1 + 1 := by omega
  have hme0 : tb ≠ w.heap.size := by omega
  have hme1 : tb ≠ w.heap.size + 1 := by omega
  have hme2 : tb ≠ w.heap.size + 1 + 1 := by omega
  have hme3 : tb ≠ w.heap.size + 1 + 1 + 1 := by omega
  have hj1 : (j : Int) < (un : Int) := by omega
  have hn1 : (n : Int) < (m : Int) := by omega
  have HTA := hid hTA
  clear hTA hq hq2
  have hq2 : ∀ o1 o2 o3 o4, ((((w.alloc o1).alloc o2).alloc o3).alloc o4).cell? ⟨ub, uo + j, none⟩ = some (.int .i64 (n : Int)) := fun o1 o2 o3 o4 => ((b4 o1 o2 o3 o4).cell (p := ⟨ub, uo + j, none⟩) hul).trans hu
  go_wp2_with fail
  go_quiet ((fail))
  generalize hX : World.drewN (World.drew (World.alloc (World.alloc (World.alloc (World.alloc w _) _) _) _)) _ = X
  have hXB : Below w.heap.size w X := by rw [← hX]; exact below_hp (b4 _ _ _ _) rfl rfl rfl rfl
  have y0 : X.cell? ⟨w.heap.size, 1, none⟩ = some (.slice (some ⟨ub, uo, none⟩) un uc) := by rw [← hX]; exact cell_of_row _ _ 1 _ _ _ (heap4 w _ _ _ _).1
  have y1 : X.cell? ⟨w.heap.size + 1, 0, none⟩ = some (.slice (some ⟨tb, to', none⟩) m c) := by rw [← hX]; exact cell_of_row _ _ 0 _ _ _ (heap4 w _ _ _ _).2.1
  have y2 : X.cell? ⟨ub, uo + j, none⟩ = some (.int .i64 (n : Int)) := (hXB.cell (p := ⟨ub, uo + j, none⟩) hul).trans hu
  have x3 : X.heap[w.heap.size + 1 + 1 + 1]? = some (.cells (Value.pointer (some ⟨b, o + j * 4, none⟩) :: .int .i64 (-1) :: ([.int .i64 0, .int .i64 0, .int .i64 0, .int .i64 0, .int .i64 0, .string ⟨#[]⟩, .slice none 0 0, .slice none 0 0, .slice none 0 0, .slice none 0 0] ++ [.slice (some ⟨b, o, none⟩) rn rc, .slice (some ⟨ub, uo, none⟩) un uc, .slice xa xn xc])).toArray 81 (0, 0)) := by rw [← hX]; exact (heap4 w _ _ _ _).2.2.2
  have x2 : ∃ C : List Value, C.length = 15 ∧ X.heap[w.heap.size + 1 + 1]? = some (.cells C.toArray 81 (0, 0)) := by
    refine ⟨[.pointer none, .int .i64 0, .int .i64 0, .int .i64 0, .int .i64 0, .int .i64 0, .int .i64 0, .string ⟨#[]⟩, .slice none 0 0, .slice none 0 0, .slice none 0 0, .slice none 0 0, .slice none 0 0, .slice none 0 0, .slice none 0 0], rfl, ?_⟩
    rw [← hX]; exact (heap4 w _ _ _ _).2.2.1
  obtain ⟨C2, hC2, x2⟩ := x2
  generalize hr : [Value.slice (some ⟨b, o, none⟩) rn rc, .slice (some ⟨ub, uo, none⟩) un uc, .slice xa xn xc] = RW at x3
  have hrl : RW.length = 3 := by rw [← hr]; rfl
  have x3' : (X.setCell ⟨w.heap.size + 1 + 1 + 1, 1, none⟩ (.int .i64 (n : Int))).heap[w.heap.size + 1 + 1 + 1]? = some (.cells (Value.pointer (some ⟨b, o + j * 4, none⟩) :: .int .i64 (n : Int) :: ([.int .i64 0, .int .i64 0, .int .i64 0, .int .i64 0, .int .i64 0, .string ⟨#[]⟩, .slice none 0 0, .slice none 0 0, .slice none 0 0, .slice none 0 0] ++ RW)).toArray 81 (0, 0)) := by
    rw [heap_setCell_same _ _ _ _ _ _ x3]; simp
  have x3c : X.cell? ⟨w.heap.size + 1 + 1 + 1, 1, none⟩ = some (.int .i64 (-1)) := by rw [cell_of_row X _ 1 _ 81 (0, 0) x3]; simp
  have x3f : X.frozen? ⟨w.heap.size + 1 + 1 + 1, 1, none⟩ = false := by simp [World.frozen?, x3]
  have HYT : Hid ((X.setCell ⟨w.heap.size + 1 + 1 + 1, 1, none⟩ (.int .i64 (n : Int))).rangeAt tb (to' + n * 10) (tyC T)) := hid (by
    have h1 := (HTA.out.below hXB htl).range
    exact fun i v hv => (World.cell?_of_block (heap_setCell_other X _ tb _ (by simpa using hme3))).trans (h1 i v hv))
  have HT3 : Hid ((X.setCell ⟨w.heap.size + 1 + 1 + 1, 1, none⟩ (.int .i64 (n : Int))).there (w.heap.size + 1 + 1 + 1) 2 10) := hid (there_of_block x3' 2 10 (by simp [hrl]))
  have z3 : ((X.setCell ⟨w.heap.size + 1 + 1 + 1, 1, none⟩ (.int .i64 (n : Int))).setCells (w.heap.size + 1 + 1 + 1) 2 (tyC T)).heap[w.heap.size + 1 + 1 + 1]? = some (.cells (Value.pointer (some ⟨b, o + j * 4, none⟩) :: .int .i64 (n : Int) :: (tyC T ++ RW)).toArray 81 (0, 0)) := by
    rw [heap_setCells _ 81 (tyC T) 2 _ _ x3' (by simp [tyC])]
    congr 2
  have HZ3 := hid (rangeAt_block z3)
  have z2 : ((X.setCell ⟨w.heap.size + 1 + 1 + 1, 1, none⟩ (.int .i64 (n : Int))).setCells (w.heap.size + 1 + 1 + 1) 2 (tyC T)).heap[w.heap.size + 1 + 1]? = some (.cells C2.toArray 81 (0, 0)) := by
    rw [(upd_setCells (w.heap.size + 1 + 1 + 1) (tyC T) 2 (X.setCell ⟨w.heap.size + 1 + 1 + 1, 1, none⟩ (.int .i64 (n : Int)))).block _ (by simp; have := (Array.getElem?_eq_some_iff.1 x2).1; omega) (by omega), heap_setCell_other X _ _ _ (by simp)]
    exact x2
  have HZ2 := hid (there_of_block z2 0 15 (by omega))
  have HB := hid hXB
  have HC : Hid (∃ C, C = Value.pointer (some ⟨b, o + j * 4, none⟩) :: .int .i64 (n : Int) :: (tyC T ++ RW)) := hid ⟨_, rfl⟩
  have HLn : Hid ((Value.pointer (some ⟨b, o + j * 4, none⟩) :: .int .i64 (n : Int) :: (tyC T ++ RW)).length = 15) := hid (by simp [tyC, hrl])
  have HO1 : Hid ((tyC T).toArray.all (·.oneCell') = true) := hid (by simp [tyC, Value.oneCell'])
  have HO2 : Hid ((Value.pointer (some ⟨b, o + j * 4, none⟩) :: .int .i64 (n : Int) :: (tyC T ++ RW)).toArray.all (·.oneCell') = true) := hid (by rw [← hr]; simp [tyC, Value.oneCell'])
  have HRW := hid hr
  have HL10 : Hid ((tyC T).length = 10) := hid rfl
  clear x3 x3' z3 z2 x2 hXB hX hr hrl hq2 hu
  generalize hTC : tyC T = TC at *
  have HTC := hid hTC
  clear hTC
  generalize hC15 : (Value.pointer (some ⟨b, o + j * 4, none⟩) :: .int .i64 (n : Int) :: (TC ++ RW)) = C15 at *
  have HC15 := hid hC15
  clear hC15
  have hst1 := run_cells_mid (P := Try.prog) (X.setCell ⟨w.heap.size + 1 + 1 + 1, 1, none⟩ (.int .i64 (n : Int))) (w.heap.size + 1 + 1 + 1) 2 TC (by rw [HL10.out]; exact HT3.out) HO1.out
  have hst2 := run_cells_mid (P := Try.prog) ((X.setCell ⟨w.heap.size + 1 + 1 + 1, 1, none⟩ (.int .i64 (n : Int))).setCells (w.heap.size + 1 + 1 + 1) 2 TC) (w.heap.size + 1 + 1) 0 C15 (by rw [HLn.out]; exact HZ2.out) HO2.out
  go_wp2_with (first
    | (refine wpList_load_mid rfl 52 (.tmp 48) rfl tb (to' + n * 10) rfl TC _ HYT.out Try.underlying52 rfl (by rw [HL10.out]; exact csizeT) ?_)
    | (refine wpList_load_mid rfl 81 (.tmp 7) rfl (w.heap.size + 1 + 1 + 1) 0 rfl C15 _ HZ3.out Try.underlying81 rfl (by rw [HLn.out]; exact csizeS) ?_))
  refine bodyPost_ret (cell_result rfl _ _ (w.heap.size + 1 + 1) 0 rfl C15 _ (World.rangeAt_setCells_same _ _ _ C15 (by rw [HLn.out]; exact HZ2.out)) Try.underlying81 rfl (by rw [HLn.out]; exact csizeS)) rfl ?_
  refine ⟨?_, ?_⟩
  · rw [← HC15.out, ← HTC.out, ← HRW.out]
    rfl
  · have u1 : Upd (fun k => w.heap.size ≤ k) X (X.setCell ⟨w.heap.size + 1 + 1 + 1, 1, none⟩ (.int .i64 (n : Int))) := Upd.setCell X _ _ (by show w.heap.size ≤ w.heap.size + 1 + 1 + 1; omega)
    have u2 := (upd_setCells (w.heap.size + 1 + 1 + 1) TC 2 (X.setCell ⟨w.heap.size + 1 + 1 + 1, 1, none⟩ (.int .i64 (n : Int)))).mono (G := fun k => w.heap.size ≤ k) (fun x _ h => by omega)
    have u3 := (upd_setCells (w.heap.size + 1 + 1) C15 0 ((X.setCell ⟨w.heap.size + 1 + 1 + 1, 1, none⟩ (.int .i64 (n : Int))).setCells (w.heap.size + 1 + 1 + 1) 2 TC)).mono (G := fun k => w.heap.size ≤ k) (fun x _ h => by omega)
    exact HB.out.trans (((u1.trans u2 (fun _ _ h => h)).trans u3 (fun _ _ h => h)).below HB.out.size (fun _ h => h))

end Go.Proofs.Ytkgejeamcgodhaa
