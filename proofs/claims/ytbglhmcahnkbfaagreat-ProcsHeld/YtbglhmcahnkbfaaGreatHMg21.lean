/- Texts of this seat, merged. -/
import Derived.Test.YtbglhmcahnkbfaaGreatHMg20
import Derived.BigQuiet
import Derived.Test.YtbglhmcahnkbfaaGreatHMg6
import Derived.Test.YtbglhmcahnkbfaaGreatHMg19

/- What allocated and free tell; what take does. -/
namespace Go.Proofs.YtbglhmcahnkbfaaGreat
open Go.RowKit Go.ChangeMaps Go.MapKept
set_option linter.unusedVariables false
set_option maxRecDepth 20000

/-- The marks as they are read. -/
def mkL (T : Nat → Bool) : List Value := (List.range 25).map fun b => .bool (T b)
theorem mkL_len (T : Nat → Bool) : (mkL T).length = 25 := by simp [mkL]
theorem csizeB : (Tryz.prog.info? 4).map (·.size) = some 1 := by kernel_rfl
theorem ix_mark (T : Nat → Bool) (j : Nat) (hj : j < 25) (w : World) : (Instr.index 148 (.agg (mkL T).toArray) (.int .i64 (j : Int))).run Tryz.prog w = .ok (.bool (T j)) w := by
  have hn : (0 : Int) ≤ (j : Int) ∧ (j : Int) < 25 := by omega
  obtain ⟨i0, hi0⟩ : ∃ i, Tryz.prog.info? 4 = some i := by
    cases e : Tryz.prog.info? 4 with
    | none => have := csizeB; simp [e] at this
    | some i => exact ⟨i, rfl⟩
  have hs0 : i0.size = 1 := by have := csizeB; simpa [hi0] using this
  have he : (mkL T)[j]? = some (.bool (T j)) := by simp [mkL, hj]
  simp [Instr.index, run_underlying Tryz.underlying148, asIntOf, hn, go_sem, sizeOf, typeInfo, hi0, hs0]
  rw [if_pos hj, he]
  rfl

theorem Sy.marks {w : World} {p : Nat} {S : Sg} (h : Sy w p S) : w.rangeAt p 1820 (mkL S.T) := fun j v hv => by
  have hj : j < 25 := by
    rcases Nat.lt_or_ge j 25 with q | q
    · exact q
    · rw [List.getElem?_eq_none (by rw [mkL_len]; exact q)] at hv; simp at hv
  have e : (mkL S.T)[j]? = some (.bool (S.T j)) := by simp [mkL, hj]
  rw [e] at hv
  injection hv with hv
  rw [← hv]
  exact h.t j hj

theorem csizeM : (Tryz.prog.info? 148).map (·.size) = some 25 := by kernel_rfl

set_option maxHeartbeats 2000000 in
set_option maxRecDepth 20000 in
theorem alloc_any (p : Nat) (S : Sg) (w : World) (H : Sy w p S) : Calls Tryz.prog 151 #[.pointer (some ⟨p, 0, none⟩)] w fun e w' => (∃ a c, e = .returned (.slice a (cnt S.T 25) c)) ∧ Below w.heap.size w w' := by
  obtain ⟨i0, hi0, hz0, hz1, hz2⟩ := info_parts infoI
  have HR := hid H.marks
  obtain ⟨T, gT⟩ : ∃ T, T = S.T := ⟨_, rfl⟩
  rw [← gT] at HR ⊢
  obtain ⟨M, gM⟩ : ∃ M, M = mkL T := ⟨_, rfl⟩
  have HX : Hid (∀ (j : Nat) (W : World), j < 25 → (Instr.index 148 (.agg M.toArray) (.int .i64 (j : Int))).run Tryz.prog W = .ok (.bool (T j)) W) := hid (fun j W hj => by rw [gM]; exact ix_mark T j hj W)
  have HL : Hid ((Tryz.prog.info? 148).map (·.size) = some M.length) := by rw [gM, mkL_len]; exact hid csizeM
  rw [← gM] at HR
  clear gM gT H
  go_enter Tryz.func151, Tryz.ntmps151
  go_wp2_with (refine wpList_load_mid rfl 148 (.tmp 8) rfl p 1820 rfl M _ HR.out Tryz.underlying148 rfl HL.out ?_)
  go_loopw [3, 10] (fun v k wr => ∃ j : Nat, j ≤ 25 ∧ k = .int .i64 (j : Int) ∧ (∃ a c, v = .slice a (cnt T j) c) ∧ Hid (∃ xs, wr.ownsRow w.heap.size 3 1 v (cnt T j) xs ∧ Below w.heap.size w wr)) (fun _ k _ => 25 - (intOf k).toNat)
  case atStart => exact ⟨0, by omega, rfl, ⟨none, 0, rfl⟩, hid ⟨[], World.ownsRow_nil _ _ _ _, Below.refl _ _⟩⟩
  case round =>
    obtain ⟨j, hj25, rfl, ⟨a, c, rfl⟩, HQ⟩ := hrel
    by_cases e : j = 25
    · subst e
      go_wp2_with fail
      go_ret
      exact ⟨⟨_, _, rfl⟩, by obtain ⟨_, _, h⟩ := HQ.out; exact h⟩
    · have hj : j < 25 := by omega
      have hj2 : (j : Int) < 25 := by omega
      have hx := HX.out j wr hj
      have hcl := cnt_le T j
      clear e
      cases ht : T j with
      | false =>
        rw [ht] at hx
        have HC : Hid (cnt T (j + 1) = cnt T j) := hid (by simp [cnt, ht])
        clear ht
        go_wp2_with fail
        go_roundw
        case rel => exact ⟨j + 1, by omega, by go_num, ⟨a, c, by rw [HC.out]⟩, by rw [HC.out]; exact HQ⟩
        case measure => simp [intOf]; omega
      | true =>
        rw [ht] at hx
        have HC : Hid (cnt T (j + 1) = cnt T j + 1) := hid (by simp [cnt, ht])
        clear ht
        obtain ⟨xs, hO, hB⟩ := HQ.out
        have hsz := hB.size
        have HO := hid hO
        have HB := hid hB
        clear HQ hO hB
        go_wp2_with (at_builtin; go_must (refine wpList_append_own _ rfl (.tmp 15) (.tmp 17) 48 rfl w.heap.size 3 i0 _ 1 8 Tryz.underlying48 hi0 hz0 hz1 hz2 rfl (by decide) _ (cnt T j) xs rfl (HO.out.alloc _) ⟨_, 0, none⟩ 1 1 [.int .i64 (j : Int)] rfl rfl (cell_one_new _ _ _) (by simp [Value.oneCell']) (by unfold maxLen; omega) (by omega) (by simp; omega) ?_))
        intro v' w6 hO6 hG6 hN6
        obtain ⟨va, vc, rfl⟩ : ∃ va vc, v' = .slice va (cnt T j + 1) vc := by
          rcases hO6.2 with ⟨h1, h2⟩ | ⟨g, c, cur, rfl, _⟩
          · omega
          · exact ⟨_, c, rfl⟩
        have hb6 : Below w.heap.size w w6 := by
          have u : Upd _ _ w6 := Upd.of_grown hG6
          refine (HB.out.trans ((one_new wr _).mono hsz)).trans (u.below (by simp; omega) (fun k hk => ?_))
          exact (HO.out.lt k hk.symm).1
        have HQ6 : Hid (∃ ys, w6.ownsRow w.heap.size 3 1 (.slice va (cnt T j + 1) vc) (cnt T (j + 1)) ys ∧ Below w.heap.size w w6) := by rw [HC.out]; exact hid ⟨_, hO6, hb6⟩
        clear hO6 hG6 hN6 hb6
        go_wp2_with fail
        go_roundw
        case rel => exact ⟨j + 1, by omega, by go_num, ⟨va, vc, by rw [HC.out]⟩, HQ6⟩
        case measure => simp [intOf]; omega

theorem free_any (p : Nat) (S : Sg) (w : World) (H : Sy w p S) (hc : cnt S.T 25 ≤ 24) : Calls Tryz.prog 136 #[.pointer (some ⟨p, 0, none⟩)] w fun e w' => e = .returned (.int .i64 ((24 - cnt S.T 25 : Nat) : Int)) ∧ Below w.heap.size w w' := by
  have k1 := hid (alloc_any p S w H)
  obtain ⟨n, gn⟩ : ∃ n, n = cnt S.T 25 := ⟨_, rfl⟩
  rw [← gn] at hc k1 ⊢
  have c1 : IntKind.i64.wrap (24 - (n : Int)) = ((24 - n : Nat) : Int) := by rw [IntKind.wrap_i64]; omega
  clear gn H
  go_enter Tryz.func136, Tryz.ntmps136
  go_wp2_with fail
  refine k1.out.mono ?_
  rintro e w1 ⟨⟨a, c, rfl⟩, hb⟩
  have HB := hid hb
  clear hb k1
  go_wp2_with fail
  go_ret
  refine ⟨?_, HB.out⟩
  first
  | rfl
  | (show Ending.returned (Value.int .i64 (24 - (n : Int))) = _
     congr 2
     omega)

end Go.Proofs.YtbglhmcahnkbfaaGreat

/- What take does: blocks for a file, the lowest free ones first. -/
namespace Go.Proofs.YtbglhmcahnkbfaaGreat
open Go.RowKit Go.ChangeMaps Go.MapKept
set_option linter.unusedVariables false
set_option maxRecDepth 20000

/-- Cells of a node, one by one: two nodes agree where their parts do. -/
theorem ndC_agree {x y : Nd} (hx : x.ok) (hy : y.ok) (j : Nat) (hj : j < 107) (h0 : j < 4 → (ndC y)[j]? = (ndC x)[j]?) (hb : ∀ i, j = 4 + i → i < 96 → y.b.getD i 0 = x.b.getD i 0) (hB : ∀ i, j = 100 + i → i < 6 → y.B.getD i 0 = x.B.getD i 0) (hm : j = 106 → y.m = x.m) : (ndC y)[j]? = (ndC x)[j]? := by
  rcases (show j < 4 ∨ (4 ≤ j ∧ j < 100) ∨ (100 ≤ j ∧ j < 106) ∨ j = 106 by omega) with h | h | h | h
  · exact h0 h
  · obtain ⟨i, rfl⟩ : ∃ i, j = 4 + i := ⟨j - 4, by omega⟩
    rw [ndC_b hy i (by omega), ndC_b hx i (by omega), hb i rfl (by omega)]
  · obtain ⟨i, rfl⟩ : ∃ i, j = 100 + i := ⟨j - 100, by omega⟩
    rw [ndC_B hy i (by omega), ndC_B hx i (by omega), hB i rfl (by omega)]
  · subst h
    rw [ndC_m hy, ndC_m hx, hm rfl]

def Nd.blk (x : Nd) (j : Nat) (v : Int) : Nd := { x with B := x.B.set j v }
theorem Nd.blk_ok {x : Nd} (h : x.ok) (j : Nat) (v : Int) : (x.blk j v).ok := ⟨h.b, by simp [Nd.blk, h.B]⟩
theorem getD_set_same (l : List Int) (j : Nat) (v : Int) (h : j < l.length) : (l.set j v).getD j 0 = v := by
  rw [List.getD_eq_getElem?_getD, List.getElem?_set_self h]; rfl
theorem getD_set_ne (l : List Int) (i j : Nat) (v : Int) (h : j ≠ i) : (l.set j v).getD i 0 = l.getD i 0 := by
  rw [List.getD_eq_getElem?_getD, List.getElem?_set_ne h, List.getD_eq_getElem?_getD]

theorem Sy.blkTo {w : World} {p : Nat} {S : Sg} (h : Sy w p S) (i : Nat) (hi : i < 17) (j : Nat) (hj : j < 6) (v : Int) : Sy (w.setCell ⟨p, 1 + i * 107 + (100 + j), none⟩ (.int .i64 v)) p (S.at_ i ((S.P i).blk j v)) := by
  have hx := h.ok i hi
  have hy := Nd.blk_ok hx j v
  have hl := hx.B
  refine h.set i hi ((S.P i).blk j v) hy rfl rfl (100 + j) (by omega) _ ?_ (fun k hk e => ndC_agree hx hy k hk (fun q => ?_) (fun _ _ _ => rfl) (fun a ha hb => ?_) (fun _ => rfl))
  · rw [ndC_B hy j hj]
    simp only [Nd.blk]
    rw [getD_set_same _ _ _ (by omega)]
  · unfold ndC Nd.blk
    rw [List.append_assoc, List.append_assoc, List.getElem?_append_left (by simp; omega), List.append_assoc, List.append_assoc, List.getElem?_append_left (by simp; omega)]
  · simp only [Nd.blk]
    exact getD_set_ne _ _ _ _ (by omega)

/-- A system whose node at i, and whose marks, are others. -/
def Sg.bl (S : Sg) (i : Nat) (x : Nd) (T : Nat → Bool) : Sg := { S with P := updN S.P i x, T := T }

end Go.Proofs.YtbglhmcahnkbfaaGreat

/- What grow does to a file that is alone in its system. -/
namespace Go.Proofs.YtbglhmcahnkbfaaGreat
open Go.RowKit Go.ChangeMaps Go.MapKept
set_option linter.unusedVariables false
set_option maxRecDepth 20000

/-- How many blocks so many bytes need. -/
def need (s : Nat) : Nat := (s + 15) / 16

theorem need_le {s : Nat} (h : s ≤ 96) : need s ≤ 6 := by unfold need; omega
theorem need_mono {s t : Nat} (h : s ≤ t) : need s ≤ need t := by unfold need; omega

theorem Sg.bl_self (S : Sg) (i : Nat) : S.bl i (S.P i) S.T = S := by
  have := S.at_self i
  unfold Sg.at_ at this
  unfold Sg.bl
  exact this

set_option maxHeartbeats 1000000 in
theorem grow_same (p : Nat) (S : Sg) (w : World) (i : Nat) (hi : i < 17) (x : Nd) (T : Nat → Bool) (H : Sy w p (S.bl i x T)) (size : Nat) (hs : size ≤ x.s) :
    Calls Tryz.prog 113 #[.pointer (some ⟨p, 0, none⟩), .pointer (some ⟨p, 1 + i * 107, none⟩), .int .i64 (size : Int)] w fun e w' => e = .returned (.int .i64 0) ∧ w' = w := by
  have hP : (S.bl i x T).P i = x := updN_same _ _ _
  have c3 := H.s i hi
  rw [hP] at c3
  have a1 : (size : Int) ≤ (x.s : Int) := by omega
  clear H hP
  go_enter Tryz.func113, Tryz.ntmps113
  go_wp2_with fail
  go_ret
  exact ⟨rfl, rfl⟩

end Go.Proofs.YtbglhmcahnkbfaaGreat

/- What Write does to a file that is alone in its system. -/
namespace Go.Proofs.YtbglhmcahnkbfaaGreat
open Go.RowKit Go.ChangeMaps Go.MapKept
set_option linter.unusedVariables false
set_option maxRecDepth 20000

theorem getD_splice_in (l zs : List Int) (o k : Nat) (h : o + zs.length ≤ l.length) (hk : k < zs.length) : (splice l o zs).getD (o + k) 0 = zs.getD k 0 := by
  rw [List.getD_eq_getElem?_getD, getElem?_splice_in _ _ _ _ h hk, List.getD_eq_getElem?_getD]
theorem getD_splice_out (l zs : List Int) (o k : Nat) (h : o + zs.length ≤ l.length) (hk : k < o ∨ o + zs.length ≤ k) : (splice l o zs).getD k 0 = l.getD k 0 := by
  rw [List.getD_eq_getElem?_getD, getElem?_splice_out _ _ _ _ h hk, List.getD_eq_getElem?_getD]

/-- Bytes written over a file's. -/
def Nd.over (x : Nd) (off : Nat) (zs : List Int) : Nd := { x with b := splice x.b off zs }
theorem Nd.over_ok {x : Nd} (h : x.ok) (off : Nat) (zs : List Int) (hz : off + zs.length ≤ 96) : (x.over off zs).ok := ⟨by simp only [Nd.over]; rw [length_splice _ _ _ (by rw [h.b]; exact hz), h.b], h.B⟩

theorem Sy.over {w w' : World} {p : Nat} {S : Sg} (h : Sy w p S) (i : Nat) (hi : i < 17) (C : List Value) (hC : w.heap[p]? = some (.cells C.toArray 150 (0, 0))) (hS : Sls C S.d S.P S.T) (off : Nat) (zs : List Int) (hz : off + zs.length ≤ 96)
    (h' : w'.heap[p]? = some (.cells (splice C (1 + i * 107 + (4 + off)) (zs.map (Value.int .u8))).toArray 150 (0, 0))) (u : Upd (· = p) w w') : Sy w' p (S.at_ i ((S.P i).over off zs)) := by
  have hx := hS.ok i hi
  have hy := Nd.over_ok hx off zs hz
  have hl := hS.len
  have hfit : 1 + i * 107 + (4 + off) + (zs.map (Value.int .u8)).length ≤ C.length := by simp; omega
  refine h.turn i hi ((S.P i).over off zs) rfl rfl u ⟨_, h', hS.put i hi _ hy (by rw [length_splice _ _ _ hfit, hl]) (fun j hj => ?_) (fun j hj => ?_)⟩
  · exact getElem?_splice_out _ _ _ _ hfit (by simp; omega)
  · by_cases e : 4 + off ≤ j ∧ j < 4 + off + zs.length
    · obtain ⟨k, rfl⟩ : ∃ k, j = 4 + off + k := ⟨j - (4 + off), by omega⟩
      rw [show 1 + i * 107 + (4 + off + k) = 1 + i * 107 + (4 + off) + k by omega, getElem?_splice_in _ _ _ _ hfit (by simp; omega)]
      rw [show 4 + off + k = 4 + (off + k) by omega, ndC_b hy (off + k) (by omega)]
      simp only [Nd.over]
      rw [getD_splice_in _ _ _ _ (by rw [hx.b]; exact hz) (by omega), List.getElem?_map, List.getElem?_eq_getElem (by omega), List.getD_eq_getElem?_getD, List.getElem?_eq_getElem (by omega)]
      rfl
    · rw [getElem?_splice_out _ _ _ _ hfit (by simp; omega), hS.at_ i hi j hj]
      refine (ndC_agree hx hy j hj (fun q => ?_) (fun a ha hb => ?_) (fun _ _ _ => rfl) (fun _ => rfl)).symm
      · unfold ndC Nd.over
        rw [List.append_assoc, List.append_assoc, List.getElem?_append_left (by simp; omega), List.append_assoc, List.append_assoc, List.getElem?_append_left (by simp; omega)]
      · simp only [Nd.over]
        exact getD_splice_out _ _ _ _ (by rw [hx.b]; exact hz) (by omega)

end Go.Proofs.YtbglhmcahnkbfaaGreat

/- What Read and Stat tell of a file. -/
namespace Go.Proofs.YtbglhmcahnkbfaaGreat
open Go.RowKit Go.ChangeMaps Go.MapKept
set_option linter.unusedVariables false
set_option maxRecDepth 20000

theorem cell_three (w : World) (g : Nat) (v0 v1 v2 : Value) (a : Addr) (h : a.block ≠ g) : ((((w.setCell ⟨g, 0, none⟩ v0).setCell ⟨g, 1, none⟩ v1).setCell ⟨g, 2, none⟩ v2).drew).cell? a = w.cell? a := by
  have one : ∀ (w : World) (j : Nat) (v : Value), (w.setCell ⟨g, j, none⟩ v).cell? a = w.cell? a := fun w j v => World.cell?_of_block (heap_setCell_other w ⟨g, j, none⟩ a.block v h)
  exact ((one _ 2 v2).trans (one _ 1 v1)).trans (one _ 0 v0)

theorem csizeInfo : (Tryz.prog.info? 135).map (·.size) = some 3 := by kernel_rfl

end Go.Proofs.YtbglhmcahnkbfaaGreat

/- What takeName does: a directory's name names nothing more. -/
namespace Go.Proofs.YtbglhmcahnkbfaaGreat
open Go.RowKit Go.ChangeMaps Go.MapKept
set_option linter.unusedVariables false
set_option maxRecDepth 20000

end Go.Proofs.YtbglhmcahnkbfaaGreat

/- What the document's split does. -/
namespace Go.Proofs.YtbglhmcahnkbfaaGreat
open Go.RowKit
set_option linter.unusedVariables false

end Go.Proofs.YtbglhmcahnkbfaaGreat

/- The document's file system with a root alone: New, named, look, walk, end. -/
namespace Go.Proofs.YtbglhmcahnkbfaaGreat
open Go.RowKit
set_option linter.unusedVariables false

end Go.Proofs.YtbglhmcahnkbfaaGreat

/- What the document's walk to a path's end comes to, at a root alone. -/
namespace Go.Proofs.YtbglhmcahnkbfaaGreat
open Go.RowKit
set_option linter.unusedVariables false

end Go.Proofs.YtbglhmcahnkbfaaGreat

/- What the document's New of nodes makes. -/
namespace Go.Proofs.YtbglhmcahnkbfaaGreat
open Go.RowKit
set_option linter.unusedVariables false

theorem made_zs {P : Program} (t e : TypeId) (n : Nat) (z : Value) (size bytes : Nat) (ht : P.underlying t = some (.slice e)) (hi : (P.info? e).map (fun i => (i.zero, i.size, i.bytes)) = some (some z, size, bytes)) (hb : bytes * n ≤ 281474976710656) (hn : n ≤ 1000) :
    ∀ W : World, (Instr.makeSlice t (.int .i64 (n : Int)) (.int .i64 (n : Int))).run P W = .ok (.slice (some ⟨W.heap.size, 0, none⟩) n n) (W.alloc (.cells (madeCells z.cells (n * size)) e)) := by
  obtain ⟨i, hi0, hz0, hz1, hz2⟩ := info_parts hi
  intro W
  have := run_make (P := P) W t e i z ht hi0 hz0 .i64 .i64 (n : Int) (n : Int) (by omega) (by omega) (by rw [hz2]; omega) (by omega)
  simpa [hz1] using this

theorem infoR6 : (Tryz.prog.info? 122).map (fun i => (i.zero, i.size, i.bytes)) = some (some (.agg #[.int .i64 0, .int .i64 0, .int .i64 0, .slice none 0 0, .slice none 0 0, .slice none 0 0]), 6, 96) := by kernel_rfl
theorem infoR6b : (Tryz.prog.info? 4).map (fun i => (i.zero, i.size, i.bytes)) = some (some (.bool false), 1, 1) := by kernel_rfl
theorem csizeR6 : (Tryz.prog.info? 122).map (·.size) = some 6 := by kernel_rfl
theorem builtR6 : Tryz.prog.built 122 [(0, .int .i64 2), (1, .int .i64 1)] = some #[.int .i64 2, .int .i64 1, .int .i64 0, .slice none 0 0, .slice none 0 0, .slice none 0 0] := by kernel_rfl

/-- The cells of no nodes. -/
def noR6 : List Value := (madeCells (Value.agg #[.int .i64 0, .int .i64 0, .int .i64 0, .slice none 0 0, .slice none 0 0, .slice none 0 0]).cells (17 * 6)).toList
theorem noR6_len : noR6.length = 102 := by simp [noR6, size_madeCells]
theorem two_allocs (w : World) (a b : Obj) : Below w.heap.size w ((w.alloc a).alloc b) := ((Below.refl _ _).alloc (Nat.le_refl _) _).alloc (by simp) _
theorem three_allocs (w : World) (a b c : Obj) : Below w.heap.size w (((w.alloc a).alloc b).alloc c) := (two_allocs w a b).alloc (by simp; omega) _
theorem first_block (w : World) (C : List Value) (t : TypeId) (b c : Obj) : ((((w.alloc (.cells C.toArray t)).alloc b).alloc c)).heap[w.heap.size]? = some (.cells C.toArray t (0, 0)) := by
  have h := (two_allocs (w.alloc (.cells C.toArray t)) b c).block w.heap.size (by simp)
  exact h.trans (heap_alloc_new w _)
theorem second_block (w : World) (C : List Value) (t : TypeId) (b c : Obj) : ((((w.alloc b).alloc (.cells C.toArray t)).alloc c)).heap[w.heap.size + 1]? = some (.cells C.toArray t (0, 0)) := by
  have h := ((Below.refl _ ((w.alloc b).alloc (.cells C.toArray t))).alloc (Nat.le_refl _) c).block (w.heap.size + 1) (by simp)
  have k := heap_alloc_new (w.alloc b) (.cells C.toArray t)
  rw [show (w.alloc b).heap.size = w.heap.size + 1 by simp] at k
  exact h.trans k

end Go.Proofs.YtbglhmcahnkbfaaGreat

/- What the document's add and Make do, at a root alone. -/
namespace Go.Proofs.YtbglhmcahnkbfaaGreat
open Go.RowKit
set_option linter.unusedVariables false

end Go.Proofs.YtbglhmcahnkbfaaGreat

/- Whether a number stands in a list of numbers (slices.Contains). -/
namespace Go.Proofs.YtbglhmcahnkbfaaGreat
open Go.RowKit
set_option linter.unusedVariables false
set_option maxRecDepth 20000

end Go.Proofs.YtbglhmcahnkbfaaGreat

/- What give does where the name is there already. -/
namespace Go.Proofs.YtbglhmcahnkbfaaGreat
open Go.RowKit Go.ChangeMaps Go.MapKept
set_option linter.unusedVariables false
set_option maxRecDepth 20000

end Go.Proofs.YtbglhmcahnkbfaaGreat
