/- Rows of arguments whose types are not known: what stands at a place, and its kids. -/
import Derived.Test.YtkgejeamcgodhaaGKids
namespace Go.Proofs.Ytkgejeamcgodhaa
open Go.RowKit
set_option linter.unusedVariables false
set_option maxRecDepth 20000

/-- A type that is not known. -/
def tyZ : Ty := ⟨0, 0, 0, 0, 0, .empty, none, 0, 0, [], none, 0, 0, [], none, 0, 0, [], none, 0, 0⟩
/-- The cells of a spot without a type. -/
def spZ (b o : Nat) (ra : Option Addr) (rn rc : Nat) : List Value := [.pointer (some ⟨b, o, none⟩), .int .i64 (-1), .int .i64 0, .int .i64 0, .int .i64 0, .int .i64 0, .int .i64 0, .string .empty, .slice none 0 0, .slice none 0 0, .slice none 0 0, .slice none 0 0, .slice ra rn rc, .slice none 0 0, .slice none 0 0]

set_option maxHeartbeats 8000000 in
theorem at_none (b o j : Nat) (rn rc : Nat) (w : World) (hj : j < rn) (hrn : rn ≤ rc) (hrc : rc ≤ 9223372036854775807) :
    Calls Try.prog 79 #[.agg #[.slice (some ⟨b, o, none⟩) rn rc, .slice none 0 0, .slice none 0 0], .agg #[.slice none 0 0, .slice none 0 0], .int .i64 j] w fun e w' => e = .returned (.agg (spZ b (o + j * 4) (some ⟨b, o, none⟩) rn rc).toArray) ∧ Below w.heap.size w w' := by
  have hj0 : ¬ (j : Int) < 0 := by omega
  go_enter Try.func79, Try.ntmps79
  go_wp2_with fail
  go_region
  have b4 : ∀ o1 o2 o3 o4, Below w.heap.size w ((((w.alloc o1).alloc o2).alloc o3).alloc o4) := fun o1 o2 o3 o4 => (((below_box2 w o1 o2).alloc (by simp; omega) o3).alloc (by simp; omega) o4)
  have hj1 : ¬ (j : Int) < ((0 : Nat) : Int) := by omega
  have hj2 : decide ((j : Int) < 0) = false := by simp
  have hj3 : (0 : Int) ≤ (j : Int) := by omega
  go_wp2_with fail
  go_quiet ((fail))
  generalize hX : World.drewN (World.drew (World.alloc (World.alloc (World.alloc (World.alloc w _) _) _) _)) _ = X
  have hXB : Below w.heap.size w X := by rw [← hX]; exact below_hp (b4 _ _ _ _) rfl rfl rfl rfl
  have x3 : X.heap[w.heap.size + 1 + 1 + 1]? = some (.cells (spZ b (o + j * 4) (some ⟨b, o, none⟩) rn rc).toArray 81 (0, 0)) := by rw [← hX]; exact (heap4 w _ _ _ _).2.2.2
  have x2 : ∃ C : List Value, C.length = 15 ∧ X.heap[w.heap.size + 1 + 1]? = some (.cells C.toArray 81 (0, 0)) := by
    refine ⟨[.pointer none, .int .i64 0, .int .i64 0, .int .i64 0, .int .i64 0, .int .i64 0, .int .i64 0, .string ⟨#[]⟩, .slice none 0 0, .slice none 0 0, .slice none 0 0, .slice none 0 0, .slice none 0 0, .slice none 0 0, .slice none 0 0], rfl, ?_⟩
    rw [← hX]; exact (heap4 w _ _ _ _).2.2.1
  obtain ⟨C2, hC2, x2⟩ := x2
  have HL15 : Hid ((spZ b (o + j * 4) (some ⟨b, o, none⟩) rn rc).length = 15) := hid rfl
  have HO : Hid ((spZ b (o + j * 4) (some ⟨b, o, none⟩) rn rc).toArray.all (·.oneCell') = true) := hid (by simp [spZ, Value.oneCell'])
  have HR := hid (rangeAt_block x3)
  have HT2 := hid (there_of_block x2 0 15 (by omega))
  have HB := hid hXB
  clear x3 x2 hX hXB
  generalize hZ : spZ b (o + j * 4) (some ⟨b, o, none⟩) rn rc = Z at *
  have hst := run_cells_mid (P := Try.prog) X (w.heap.size + 1 + 1) 0 Z (by rw [HL15.out]; exact HT2.out) HO.out
  go_wp2_with (refine wpList_load_mid rfl 81 (.tmp 7) rfl (w.heap.size + 1 + 1 + 1) 0 rfl Z _ HR.out Try.underlying81 rfl (by rw [HL15.out]; exact csizeS) ?_)
  refine bodyPost_ret (cell_result rfl _ _ (w.heap.size + 1 + 1) 0 rfl Z _ (World.rangeAt_setCells_same _ _ _ Z (by rw [HL15.out]; exact HT2.out)) Try.underlying81 rfl (by rw [HL15.out]; exact csizeS)) rfl ?_
  exact ⟨by rw [hZ], HB.out.trans ((upd_setCells (w.heap.size + 1 + 1) Z 0 X).below HB.out.size (fun x hx => by omega))⟩

set_option maxHeartbeats 8000000 in
theorem kids_none (b o : Nat) (h : Hd) (ra : Option Addr) (rn rc : Nat) (w : World) (hb : b < w.heap.size) (ha : HdAt w b o h) :
    Calls Try.prog 80 #[.agg (spZ b o ra rn rc).toArray] w fun e w' => e = .returned (.agg #[.slice h.ka h.kn h.kc, .slice none 0 0, .slice none 0 0]) ∧ Below w.heap.size w w' := by
  obtain ⟨q0, q1, q2, q3⟩ := ha
  have b3 : ∀ o1 o2 o3, Below w.heap.size w (((w.alloc o1).alloc o2).alloc o3) := fun o1 o2 o3 => ((below_box2 w o1 o2).alloc (by simp; omega) o3)
  have hb0 : b ≠ w.heap.size := by omega
  have hb1 : b ≠ w.heap.size + 1 := by omega
  have hb3 : b < w.heap.size + 1 := by omega
  have hb4 : b < w.heap.size + 1 + 1 := by omega
  unfold spZ
  go_enter Try.func80, Try.ntmps80
  go_wp2_with fail
  refine bodyPost_ret (cell_result rfl _ _ (w.heap.size + 1) 0 rfl [.slice h.ka h.kn h.kc, .slice none 0 0, .slice none 0 0] _ (rangeAt_block (t := 58) (heap3 w _ _ _).2.1) Try.underlying58 rfl csizeR) rfl ?_
  exact ⟨rfl, b3 _ _ _⟩

end Go.Proofs.Ytkgejeamcgodhaa
