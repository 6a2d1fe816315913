/- The road of MemNobody: it returns true for every two ints, and leaves what was there. -/
import Derived.Test.YtnmgapnblmikeaaSpc2
namespace Go.Proofs.Ytnmgapnblmikeaa
open Go.RowKit Lend
set_option linter.unusedVariables false

/-- A pointer to a space that no call made. -/
def Nobody (w : World) (v : Value) : Prop := Calls Try.prog 28 #[v] w fun e w' => e = .returned (.bool false) ∧ w' = w
theorem nobody_nil (w : World) : Nobody w (.pointer none) := usable_nil w
theorem nobody_plain (p : Nat) (w : World) (h : w.cell? ⟨p, 0, none⟩ = some (.bool false)) : Nobody w (.pointer (some ⟨p, 0, none⟩)) := usable_no p w h

theorem nin (v : Value) (addr n : Int) (w : World) (h : Nobody w v) :
    Calls Try.prog 18 #[v, .int .i64 addr, .int .i64 n] w fun e w' => e = .returned (.tuple #[.slice none 0 0, .int .i64 22]) ∧ w' = w := by
  have k1 := hid h
  clear h
  go_enter Try.func18, Try.ntmps18
  go_wp2_with fail
  refine k1.out.mono ?_
  rintro e w1 ⟨rfl, rfl⟩
  go_wp2_with fail
  go_ret2
  exact ⟨rfl, rfl⟩
theorem npath (v : Value) (addr : Int) (w : World) (h : Nobody w v) :
    Calls Try.prog 20 #[v, .int .i64 addr] w fun e w' => e = .returned (.tuple #[.string ⟨#[]⟩, .int .i64 22]) ∧ w' = w := by
  have k1 := hid h
  clear h
  go_enter Try.func20, Try.ntmps20
  go_wp2_with fail
  refine k1.out.mono ?_
  rintro e w1 ⟨rfl, rfl⟩
  go_wp2_with fail
  go_ret2
  exact ⟨rfl, rfl⟩
theorem nout (v b : Value) (addr : Int) (w : World) (h : Nobody w v) :
    Calls Try.prog 14 #[v, .int .i64 addr, b] w fun e w' => e = .returned (.int .i64 22) ∧ w' = w := by
  have k1 := hid h
  clear h
  go_enter Try.func14, Try.ntmps14
  go_wp2_with fail
  refine k1.out.mono ?_
  rintro e w1 ⟨rfl, rfl⟩
  go_wp2_with fail
  go_ret
  exact ⟨rfl, rfl⟩
theorem ncopy (v : Value) (w : World) (h : Nobody w v) :
    Calls Try.prog 11 #[v] w fun e w' => e = .returned (.pointer none) ∧ w' = w := by
  have k1 := hid h
  clear h
  go_enter Try.func11, Try.ntmps11
  go_wp2_with fail
  refine k1.out.mono ?_
  rintro e w1 ⟨rfl, rfl⟩
  go_wp2_with fail
  go_ret
  exact ⟨rfl, rfl⟩
theorem nbytes (v : Value) (w : World) (h : Nobody w v) :
    Calls Try.prog 22 #[v] w fun e w' => e = .returned (.slice none 0 0) ∧ w' = w := by
  have k1 := hid h
  clear h
  go_enter Try.func22, Try.ntmps22
  go_wp2_with fail
  refine k1.out.mono ?_
  rintro e w1 ⟨rfl, rfl⟩
  go_wp2_with fail
  go_ret
  exact ⟨rfl, rfl⟩

theorem built54n : Try.prog.built 54 [] = some (.bool false :: List.replicate 2048 (.int .u8 0)).toArray := by kernel_rfl

set_option maxHeartbeats 1000000 in
theorem nobody_road (addr n : Int) (w : World) :
    Calls Try.prog 8 #[.int .i64 addr, .int .i64 n] w fun e w' => e = .returned (.bool true) ∧ Below w.heap.size w w' := by
  obtain ⟨C, gC⟩ : ∃ C : Array Value, C = (.bool false :: List.replicate 2048 (.int .u8 0)).toArray := ⟨_, rfl⟩
  have hC : C[0]? = some (.bool false) := by rw [gC, List.getElem?_toArray]; exact List.getElem?_cons_zero
  have hb : ∀ a : Act, Try.prog.built 54 (Array.map (fun (x : Nat × Operand) => match x with | (i, x) => (i, a.eval x)) #[]).toList = some C := by
    intro a
    rw [gC, ← built54n]
    congr 1
    simp
  obtain ⟨Z, gZ⟩ : ∃ Z : List Int, Z = List.replicate 2048 0 := ⟨_, rfl⟩
  have k9 := hid (mnew_any Z gZ)
  have HB := hid hb
  have HC := hid hC
  clear hb gC gZ hC
  go_enter Try.func8, Try.ntmps8
  go_wp2_with (refine wpList_build_is rfl 54 #[] rfl C (HB.out _) ?_)
  have hW : ∃ W, W = ((w.alloc (.cells C 54)).alloc (.cells #[.pointer none, .pointer (some ⟨w.heap.size, 0, none⟩)] 23)) := ⟨_, rfl⟩
  obtain ⟨W, gW⟩ := hW
  have hbW : Below w.heap.size w W := by rw [gW]; exact ((Below.refl _ _).alloc (Nat.le_refl _) _).alloc (by simp) _
  have e0 : W.heap[w.heap.size]? = some (.cells C 54 (0, 0)) := by rw [gW, ((Below.refl (w.alloc (.cells C 54)).heap.size _).alloc (Nat.le_refl _) _).block _ (by simp), heap_alloc_new w]
  have e1 : W.heap[w.heap.size + 1]? = some (.cells #[.pointer none, .pointer (some ⟨w.heap.size, 0, none⟩)] 23 (0, 0)) := by
    rw [gW]; have := heap_alloc_new (w.alloc (.cells C 54)) (.cells #[.pointer none, .pointer (some ⟨w.heap.size, 0, none⟩)] 23); simpa using this
  have c0 : W.cell? ⟨w.heap.size + 1, 0, none⟩ = some (.pointer none) := by rw [cell_of_row W _ 0 _ 23 (0, 0) e1]; rfl
  have c1 : W.cell? ⟨w.heap.size + 1, 1, none⟩ = some (.pointer (some ⟨w.heap.size, 0, none⟩)) := by rw [cell_of_row W _ 1 _ 23 (0, 0) e1]; rfl
  have n1 := hid (nobody_plain w.heap.size W (by rw [cell_of_row W _ 0 _ 54 (0, 0) e0]; exact HC.out))
  have n0 := hid (nobody_nil W)
  rw [← gW]
  clear gW e0 e1
  go_loop [15] (fun s => ∃ i : Nat, i ≤ 2 ∧ s = .int .i64 i) (fun s => 2 - (intOf s).toNat)
  case atStart => exact ⟨0, by omega, rfl⟩
  case round =>
    obtain ⟨i, hi, rfl⟩ := hrel
    have hi3 : i = 0 ∨ i = 1 ∨ i = 2 := by omega
    rcases hi3 with rfl | rfl | rfl
    · go_wp2_with fail
      refine (nin _ _ _ _ n0.out).mono ?_
      rintro e w1 ⟨rfl, rfl⟩
      go_wp2_with fail
      refine (npath _ _ _ n0.out).mono ?_
      rintro e w1 ⟨rfl, rfl⟩
      go_wp2_with fail
      refine (nout _ _ _ _ n0.out).mono ?_
      rintro e w1 ⟨rfl, rfl⟩
      go_wp2_with fail
      refine (ncopy _ _ n0.out).mono ?_
      rintro e w1 ⟨rfl, rfl⟩
      go_wp2_with fail
      refine (nbytes _ _ n0.out).mono ?_
      rintro e w1 ⟨rfl, rfl⟩
      go_wp2_with fail
      go_round
      case rel => exact ⟨1, by omega, rfl⟩
      case measure => simp [intOf]
    · go_wp2_with fail
      refine (nin _ _ _ _ n1.out).mono ?_
      rintro e w1 ⟨rfl, rfl⟩
      go_wp2_with fail
      refine (npath _ _ _ n1.out).mono ?_
      rintro e w1 ⟨rfl, rfl⟩
      go_wp2_with fail
      refine (nout _ _ _ _ n1.out).mono ?_
      rintro e w1 ⟨rfl, rfl⟩
      go_wp2_with fail
      refine (ncopy _ _ n1.out).mono ?_
      rintro e w1 ⟨rfl, rfl⟩
      go_wp2_with fail
      refine (nbytes _ _ n1.out).mono ?_
      rintro e w1 ⟨rfl, rfl⟩
      go_wp2_with fail
      go_round
      case rel => exact ⟨2, by omega, rfl⟩
      case measure => simp [intOf]
    · go_wp2_with fail
      refine (k9.out _).mono ?_
      rintro e w1 ⟨rfl, hs, hb1, hsz⟩
      have k22 := hid (bytes_any _ _ _ hs)
      clear hs
      go_wp2_with fail
      refine k22.out.mono ?_
      rintro e w2 ⟨g, c, rfl, ho, hb2⟩
      clear ho
      go_wp2_with fail
      go_ret
      exact ⟨rfl, hbW.trans ((hb1.mono hbW.size).trans (hb2.mono (Nat.le_trans hbW.size hb1.size)))⟩

end Go.Proofs.Ytnmgapnblmikeaa
