/- The least arguments of types: the program's leastOnes and leastTimes. -/
import Derived.Test.YtkgejeamcgodhaaGLeast2
import Derived.Test.YtkgejeamcgodhaaGCan4
namespace Go.Proofs.Ytkgejeamcgodhaa
open Go.RowKit
set_option linter.unusedVariables false
set_option maxRecDepth 20000

/-- What least answers of a type. -/
def LeastAt (a : Option Addr) (m c : Nat) (a2 : Option Addr) (m2 c2 : Nat) (l : List Ty) (K n : Nat) : Prop := ∀ w : World, Tys w a l → n < l.length →
  Calls Try.prog K #[.agg #[.slice a m c, .slice a2 m2 c2], .int .i64 n] w fun e w' => ∃ A : Ar, e = .returned (.agg #[.int .i64 A.h.k, .int .i64 A.h.v, .slice A.h.ka A.h.kn A.h.kc, .slice A.h.ba A.h.bn A.h.bc]) ∧ Okb w.heap.size (n + 1) w' A ∧ Lst l (n + 1) n A ∧ Below w.heap.size w w'

/-- What came out as a row of kids. -/
def Kids (B N : Nat) (w : World) (l : List Ty) (ps : List Int) (g : Nat) (qs : List Ar) : Prop :=
  qs.length = ps.length ∧ AllL (Lst l N) ps qs ∧ B ≤ g ∧ (0 < qs.length → ∃ b o, some (⟨g, 0, none⟩ : Addr) = some ⟨b, o, none⟩ ∧ b < w.heap.size ∧ g ≤ b ∧ ∀ j, ∀ h : j < qs.length, HdAt w b (o + j * 4) qs[j].h ∧ Okb g N w qs[j])

set_option maxHeartbeats 8000000 in
theorem ones_any (a : Option Addr) (m c : Nat) (a2 : Option Addr) (m2 c2 : Nat) (l : List Ty) (N : Nat) (ih : ∀ t, t < N → LeastAt a m c a2 m2 c2 l 37 t) (hN : N ≤ l.length) (pa : Option Addr) (pn pc : Nat) (ps : List Int) (w : World)
    (hT : Tys w a l) (hP : Ints w pa ps) (hp : ps.length = pn) (hpn : pn ≤ 1048576) (hah : ahead N ps = true) :
    Calls Try.prog 71 #[.agg #[.slice a m c, .slice a2 m2 c2], .slice pa pn pc] w fun e w' => ∃ g qs, e = .returned (.slice (some ⟨g, 0, none⟩) pn pn) ∧ Kids w.heap.size N w' l ps g qs ∧ Below w.heap.size w w' := by
  obtain ⟨i0, hi0, hz0, hz1, hz2⟩ := info_parts infoA
  have hby : i0.bytes * pn ≤ 281474976710656 := by rw [hz2]; omega
  have hmx : pn ≤ maxLen := by unfold maxLen; omega
  have HT := hid hT
  have HP := hid hP
  have HPL := hid hp
  have HAH := hid hah
  have IH := hid ih
  clear hT hP hp hah ih
  go_enter Try.func71, Try.ntmps71
  go_wp2_with (at_make; go_must (refine wpList_make_lc _ rfl _ _ 27 rfl 30 i0 _ 4 Try.underlying27 hi0 hz0 hz1 _ _ _ _ pn pn rfl rfl rfl rfl (Nat.le_refl _) hby hmx ?_))
  obtain ⟨X, gX⟩ : ∃ X, X = (w.alloc (.cells #[.slice a m c, .slice a2 m2 c2] 25)).alloc (.cells (madeCells (Value.agg #[.int .i64 0, .int .i64 0, .slice none 0 0, .slice none 0 0]).cells (pn * 4)) 30) := ⟨_, rfl⟩
  have gX' := gX
  simp only [Value.cells] at gX'
  first | rw [← gX] | rw [← gX']
  have hXB : Below w.heap.size w X := by rw [gX]; exact below_box2 _ _ _
  have hXs : X.heap.size = w.heap.size + 1 + 1 := by rw [gX]; simp
  have x0 : X.heap[w.heap.size]? = some (.cells #[.slice a m c, .slice a2 m2 c2] 25 (0, 0)) := by
    rw [gX, (below_box _ _).block _ (by simp)]; exact heap_alloc_new _ _
  have x1 : X.heap[w.heap.size + 1]? = some (.cells (madeCells (Value.agg #[.int .i64 0, .int .i64 0, .slice none 0 0, .slice none 0 0]).cells (pn * 4)).toList.toArray 30 (0, 0)) := by
    rw [gX]; exact heap2 w _ _
  have HS := hid (Part.start (N := N) (l := l) (ps := ps) x1 (by rw [Array.length_toList, size_madeCells]))
  have HX0 := hid x0
  have HXB := hid hXB
  have HXs := hid hXs
  clear gX gX' hXB hXs x0 x1
  go_loopw [13] (fun k wr => ∃ (i : Nat) (qs : List Ar), i ≤ pn ∧ k = .int .i64 i ∧ Hid (Part X wr (w.heap.size + 1) pn N l ps i qs)) (fun k _ => pn - (intOf k).toNat)
  case atStart => exact ⟨0, [], Nat.zero_le _, rfl, HS⟩
  case round =>
    obtain ⟨i, qs, hi, rfl, HPt⟩ := hrel
    have hsz := HPt.out.upd.size
    have HBw : Hid (Below w.heap.size w wr) := hid (HXB.out.trans (HPt.out.upd.below HXB.out.size (fun x hx => by omega)))
    by_cases hlt : i < pn
    · have hil : i < ps.length := by rw [HPL.out]; exact hlt
      obtain ⟨b, o, rfl, hbl, hcs⟩ := HP.out.below HBw.out (by omega)
      have hci := hcs i hil
      have hx := ahead_at HAH.out i hil
      obtain ⟨t, ht⟩ : ∃ t : Nat, ps.getD i 0 = (t : Int) := ⟨(ps.getD i 0).toNat, by omega⟩
      rw [ht] at hci hx
      have HTt := hid ht
      have htN : t < N := by omega
      have y0 := HPt.out.upd.heap HX0.out (show ¬ w.heap.size = w.heap.size + 1 by omega)
      have e0 : wr.cell? ⟨w.heap.size, 0, none⟩ = some (.slice a m c) := cell_of_row _ _ 0 _ _ _ y0
      have e1 : wr.cell? ⟨w.heap.size, 1, none⟩ = some (.slice a2 m2 c2) := cell_of_row _ _ 1 _ _ _ y0
      have k1 := hid (IH.out t htN wr (HT.out.below HBw.out) (by omega))
      obtain ⟨C, c1, c2, _⟩ := HPt.out.blk
      clear hcs ht y0
      go_wp2_with fail
      refine k1.out.mono ?_
      rintro e w1 ⟨A, rfl, hA, hL, hb1⟩
      have hg : w.heap.size + 1 < wr.heap.size := (Array.getElem?_eq_some_iff.1 c1).1
      have c1' := (hb1.block _ hg).trans c1
      have HN := hid (HPt.out.step hlt HPL.out hb1 (Okb.more (t + 1) A hA N (by omega)) (by rw [HTt.out]; exact Lst.more (t + 1) t A hL N (by omega)))
      have HTH : Hid (w1.there (w.heap.size + 1) (i * 4) 4) := hid (there_of_block c1' (i * 4) 4 (by rw [c2]; omega))
      have HBl := hid hb1
      clear c1 c1' hA hL hb1 k1
      go_wp2_with (refine wpList_store_mid rfl 30 (.tmp 23) (.tmp 22) rfl (w.heap.size + 1) (i * 4) _ rfl rfl HTH.out csizeA (by simp [Value.oneCell']) ?_)
      go_roundw
      case rel => exact ⟨i + 1, qs ++ [A], by omega, by go_num, HN⟩
      case measure => simp [intOf]; omega
    · obtain rfl : i = pn := by omega
      obtain ⟨C, c1, _, _⟩ := HPt.out.blk
      have hg : w.heap.size + 1 < wr.heap.size := (Array.getElem?_eq_some_iff.1 c1).1
      have hf := HPt.out.full HPL.out hg
      have HF := hid hf
      clear c1 hf
      go_wp2_with fail
      go_ret
      refine ⟨w.heap.size + 1, qs, rfl, ⟨by rw [HF.out.1, HPL.out], HF.out.2.1, by omega, HF.out.2.2⟩, HBw.out⟩

end Go.Proofs.Ytkgejeamcgodhaa
