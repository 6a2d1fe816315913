/- The program's open files as they lie: one block of 57 cells (the file system, the pipes, 11 files of five cells). -/
import Derived.Test.YtdnblbahecpmkaaGreatNRead
namespace Go.Proofs.YtdnblbahecpmkaaGreat
open Go.RowKit Go.ChangeMaps Go.MapKept
set_option linter.unusedVariables false
set_option maxRecDepth 20000

/-- An open file: its kind, of what, its offset, flags, who holds it. -/
structure Fl where
  k : Int
  of : Int
  off : Int
  fl : Int
  h : Int
def noFl : Fl := ⟨0, 0, 0, 0, 0⟩
def flC (x : Fl) : List Value := [.int .i64 x.k, .int .i64 x.of, .int .i64 x.off, .int .i64 x.fl, .int .i64 x.h]

structure Fls (C : List Value) (p q : Nat) (F : Nat → Fl) : Prop where
  len : C.length = 57
  sy : C[0]? = some (.pointer (some ⟨p, 0, none⟩))
  pi : C[1]? = some (.pointer (some ⟨q, 0, none⟩))
  at_ : ∀ i, i < 11 → ∀ j, j < 5 → C[2 + i * 5 + j]? = (flC (F i))[j]?

def Tf (w : World) (t p q : Nat) (F : Nat → Fl) : Prop := ∃ C, w.heap[t]? = some (.cells (List.toArray C) 53 (0, 0)) ∧ Fls C p q F

theorem Tf.lt {w : World} {t p q : Nat} {F : Nat → Fl} (h : Tf w t p q F) : t < w.heap.size := by
  obtain ⟨C, h, _⟩ := h; exact (Array.getElem?_eq_some_iff.1 h).1
theorem Tf.upd {G : Nat → Prop} {w w' : World} {t p q : Nat} {F : Nat → Fl} (h : Tf w t p q F) (u : Upd G w w') (hG : ¬ G t) : Tf w' t p q F := by
  obtain ⟨C, h, hc⟩ := h; exact ⟨C, u.heap h hG, hc⟩
theorem Tf.grow {w w' : World} {t p q : Nat} {F : Nat → Fl} (h : Tf w t p q F) (u : Below w.heap.size w w') : Tf w' t p q F := h.upd (Upd.of_below (F := fun _ => False) u) (fun h => h)
theorem Tf.s {w : World} {t p q : Nat} {F : Nat → Fl} (h : Tf w t p q F) : w.cell? ⟨t, 0, none⟩ = some (.pointer (some ⟨p, 0, none⟩)) := by
  obtain ⟨C, h, hc⟩ := h; exact cell_list h hc.sy
theorem Tf.p {w : World} {t p q : Nat} {F : Nat → Fl} (h : Tf w t p q F) : w.cell? ⟨t, 1, none⟩ = some (.pointer (some ⟨q, 0, none⟩)) := by
  obtain ⟨C, h, hc⟩ := h; exact cell_list h hc.pi
theorem Tf.c0 {w : World} {t p q : Nat} {F : Nat → Fl} (h : Tf w t p q F) (i : Nat) (hi : i < 11) : w.cell? ⟨t, 2 + i * 5, none⟩ = some (.int .i64 (F i).k) := by
  obtain ⟨C, h, hc⟩ := h; exact cell_list h (hc.at_ i hi 0 (by omega))
theorem Tf.c1 {w : World} {t p q : Nat} {F : Nat → Fl} (h : Tf w t p q F) (i : Nat) (hi : i < 11) : w.cell? ⟨t, 2 + i * 5 + 1, none⟩ = some (.int .i64 (F i).of) := by
  obtain ⟨C, h, hc⟩ := h; exact cell_list h (hc.at_ i hi 1 (by omega))
theorem Tf.c2 {w : World} {t p q : Nat} {F : Nat → Fl} (h : Tf w t p q F) (i : Nat) (hi : i < 11) : w.cell? ⟨t, 2 + i * 5 + 2, none⟩ = some (.int .i64 (F i).off) := by
  obtain ⟨C, h, hc⟩ := h; exact cell_list h (hc.at_ i hi 2 (by omega))
theorem Tf.c3 {w : World} {t p q : Nat} {F : Nat → Fl} (h : Tf w t p q F) (i : Nat) (hi : i < 11) : w.cell? ⟨t, 2 + i * 5 + 3, none⟩ = some (.int .i64 (F i).fl) := by
  obtain ⟨C, h, hc⟩ := h; exact cell_list h (hc.at_ i hi 3 (by omega))
theorem Tf.c4 {w : World} {t p q : Nat} {F : Nat → Fl} (h : Tf w t p q F) (i : Nat) (hi : i < 11) : w.cell? ⟨t, 2 + i * 5 + 4, none⟩ = some (.int .i64 (F i).h) := by
  obtain ⟨C, h, hc⟩ := h; exact cell_list h (hc.at_ i hi 4 (by omega))
theorem Tf.fz {w : World} {t p q : Nat} {F : Nat → Fl} (h : Tf w t p q F) (j : Nat) : w.frozen? ⟨t, j, none⟩ = false := by
  obtain ⟨C, h, hc⟩ := h; simp [World.frozen?, h]
theorem Tf.th {w : World} {t p q : Nat} {F : Nat → Fl} (h : Tf w t p q F) (i : Nat) (hi : i < 11) : w.there t (2 + i * 5) 5 := by
  obtain ⟨C, h, hc⟩ := h; exact there_of_block h _ _ (by rw [hc.len]; omega)

def updF (F : Nat → Fl) (i : Nat) (x : Fl) : Nat → Fl := fun j => if j = i then x else F j
theorem updF_same (F : Nat → Fl) (i : Nat) (x : Fl) : updF F i x i = x := by simp [updF]
theorem updF_ne (F : Nat → Fl) (i j : Nat) (x : Fl) (h : j ≠ i) : updF F i x j = F j := by simp [updF, h]

theorem Fls.put {C C' : List Value} {p q : Nat} {F : Nat → Fl} (h : Fls C p q F) (i : Nat) (hi : i < 11) (x : Fl) (hl : C'.length = 57)
    (out : ∀ j, j < 2 + i * 5 ∨ 2 + i * 5 + 5 ≤ j → C'[j]? = C[j]?) (inn : ∀ j, j < 5 → C'[2 + i * 5 + j]? = (flC x)[j]?) : Fls C' p q (updF F i x) := by
  refine ⟨hl, by rw [out 0 (by omega)]; exact h.sy, by rw [out 1 (by omega)]; exact h.pi, ?_⟩
  intro k hk j hj
  by_cases e : k = i
  · subst e; rw [updF_same]; exact inn j hj
  · rw [updF_ne _ _ _ _ e, out _ (by omega)]; exact h.at_ k hk j hj
theorem Tf.put {w : World} {t p q : Nat} {F : Nat → Fl} (h : Tf w t p q F) (i : Nat) (hi : i < 11) (x : Fl) : Tf (w.setCells t (2 + i * 5) (flC x)) t p q (updF F i x) := by
  obtain ⟨C, hb, hc⟩ := h
  have hl := hc.len
  have hs : 2 + i * 5 + (flC x).length ≤ C.length := by rw [hl]; simp [flC]; omega
  exact ⟨_, heap_setCells t 53 (flC x) _ w C hb hs, hc.put i hi x (by rw [length_splice _ _ _ hs, hl]) (fun j hj => getElem?_splice_out _ _ _ _ hs (by simpa [flC] using hj)) (fun j hj => getElem?_splice_in C (flC x) (2 + i * 5) j hs hj)⟩
theorem Tf.offTo {w : World} {t p q : Nat} {F : Nat → Fl} (h : Tf w t p q F) (i : Nat) (hi : i < 11) (v : Int) : Tf (w.setCell ⟨t, 2 + i * 5 + 2, none⟩ (.int .i64 v)) t p q (updF F i { F i with off := v }) := by
  obtain ⟨C, hb, hc⟩ := h
  have hl := hc.len
  refine ⟨C.set (2 + i * 5 + 2) (.int .i64 v), by rw [heap_setCell_same w t _ C.toArray _ _ hb]; simp, hc.put i hi _ (by simp [hl]) (fun j hj => by rw [List.getElem?_set_ne (by omega)]) (fun j hj => ?_)⟩
  by_cases e : j = 2
  · subst e; rw [List.getElem?_set_self (by omega)]; rfl
  · rw [List.getElem?_set_ne (by omega), hc.at_ i hi j hj]
    obtain rfl | rfl | rfl | rfl : j = 0 ∨ j = 1 ∨ j = 3 ∨ j = 4 := by omega
    all_goals rfl

theorem builtPipes : Tryz.prog.built 101 [(0, .bool true), (1, .bool false)] = some (.bool true :: .bool false :: (List.replicate 5 ([.int .i64 0, .int .i64 0, .int .i64 0] ++ List.replicate 8 (.int .u8 0))).flatten).toArray := by kernel_rfl

set_option maxHeartbeats 1000000 in
theorem pnew (w : World) :
    Calls Tryz.prog 22 #[.int .i64 0] w fun e w' => e = .returned (.pointer (some ⟨w.heap.size, 0, none⟩)) ∧ Below w.heap.size w w' ∧ w'.heap.size = w.heap.size + 1 := by
  go_enter Tryz.func22, Tryz.ntmps22
  go_wp2
  go_ret
  exact ⟨rfl, (Below.refl _ _).alloc (Nat.le_refl _) _, by simp⟩

def tabZ (p q : Nat) : List Value := .pointer (some ⟨p, 0, none⟩) :: .pointer (some ⟨q, 0, none⟩) :: List.replicate 55 (.int .i64 0)
theorem builtTab (p q : Nat) : Tryz.prog.built 53 [(0, .pointer (some ⟨p, 0, none⟩)), (1, .pointer (some ⟨q, 0, none⟩))] = some (tabZ p q).toArray :=
  congrFun (congrFun (show (fun (p q : Nat) => Tryz.prog.built 53 [(0, .pointer (some ⟨p, 0, none⟩)), (1, .pointer (some ⟨q, 0, none⟩))]) = (fun p q => some (tabZ p q).toArray) by kernel_rfl) p) q
theorem tabZ_fls (p q : Nat) : Fls (tabZ p q) p q (fun _ => noFl) := by
  refine ⟨by simp [tabZ], rfl, rfl, fun i hi j hj => ?_⟩
  have e : (flC noFl)[j]? = some (.int .i64 0) := by
    obtain rfl | rfl | rfl | rfl | rfl : j = 0 ∨ j = 1 ∨ j = 2 ∨ j = 3 ∨ j = 4 := by omega
    all_goals rfl
  show _ = (flC noFl)[j]?
  rw [e]
  unfold tabZ
  rw [show 2 + i * 5 + j = (i * 5 + j) + 1 + 1 by omega, List.getElem?_cons_succ, List.getElem?_cons_succ, List.getElem?_replicate, if_pos (by omega)]

/-- A new table over a new system. -/
structure Fnew (w : World) (t p q m : Nat) : Prop where
  tf : Tf w t p q (fun _ => noFl)
  sy : Sy w p (rootG m)
  tp : t ≠ p
  tm : t ≠ m

set_option maxHeartbeats 2000000 in
set_option maxRecDepth 20000 in
theorem fnew_any (w : World) : Calls Tryz.prog 5 #[.int .i64 0] w fun e w' => ∃ t p q m, e = .returned (.pointer (some ⟨t, 0, none⟩)) ∧ Fnew w' t p q m ∧ w.heap.size ≤ t ∧ w.heap.size ≤ p ∧ w.heap.size ≤ m ∧ Below w.heap.size w w' := by
  have k1 := hid (nnew w)
  go_enter Tryz.func5, Tryz.ntmps5
  go_wp2_with fail
  refine k1.out.mono ?_
  rintro e w1 ⟨rfl, a1, a2, h1, h2⟩
  have HA := hid (And.intro a1 a2)
  have HB1 := hid h1
  have HS1 := hid h2
  clear h1 h2 a1 a2 k1
  have k2 := hid (pnew w1)
  go_wp2_with fail
  refine k2.out.mono ?_
  rintro e w2 ⟨rfl, h1, h2⟩
  have HB2 := hid h1
  have HS2 := hid h2
  clear h1 h2 k2
  obtain ⟨Z, gZ⟩ : ∃ Z, Z = tabZ w.heap.size w1.heap.size := ⟨_, rfl⟩
  have HT : Hid (Tryz.prog.built 53 [(0, .pointer (some ⟨w.heap.size, 0, none⟩)), (1, .pointer (some ⟨w1.heap.size, 0, none⟩))] = some Z.toArray) := by rw [gZ]; exact hid (builtTab _ _)
  have GZ := hid gZ
  clear gZ
  go_wp2_with (refine wpList_build_is rfl 53 #[(0, .tmp 4), (1, .tmp 6)] rfl Z.toArray (by simpa [Act.eval] using HT.out) ?_)
  go_ret
  have s1 := HS1.out
  have s2 := HS2.out
  have b3 : Below w2.heap.size w2 (w2.alloc (Obj.cells Z.toArray 53)) := one_new _ _
  refine ⟨w2.heap.size, w.heap.size, w1.heap.size, w.heap.size + 3, rfl, ⟨⟨Z, heap_alloc_new _ _, by rw [GZ.out]; exact tabZ_fls _ _⟩, ?_, by omega, by omega⟩, by omega, by omega, by omega, (HB1.out.trans (HB2.out.mono (by omega))).trans (b3.mono (by omega))⟩
  exact Sy.fresh ((b3.block _ (by omega)).trans ((HB2.out.block _ (by omega)).trans HA.out.1)) ((b3.block _ (by omega)).trans ((HB2.out.block _ (by omega)).trans HA.out.2))

theorem fusable_yes (p s : Nat) (w : World) (h : w.cell? ⟨p, 0, none⟩ = some (.pointer (some ⟨s, 0, none⟩))) :
    Calls Tryz.prog 23 #[.pointer (some ⟨p, 0, none⟩)] w fun e w' => e = .returned (.bool true) ∧ w' = w := by
  go_enter Tryz.func23, Tryz.ntmps23
  go_wp2
  go_ret
  exact ⟨rfl, rfl⟩

set_option maxHeartbeats 1000000 in
theorem ffile_yes (w : World) (t p q : Nat) (F : Nat → Fl) (H : Tf w t p q F) (i : Nat) (h1 : 1 ≤ i) (h2 : i < 11) (hh : (F i).h ≠ 0) :
    Calls Tryz.prog 34 #[.pointer (some ⟨t, 0, none⟩), .int .i64 (i : Int)] w fun e w' => e = .returned (.tuple #[.pointer (some ⟨t, 2 + i * 5, none⟩), .int .i64 0]) ∧ w' = w := by
  have k0 := hid (fusable_yes t p w H.s)
  have c4 := H.c4 i h2
  have c1 : ¬ (i : Int) < 1 := by omega
  have c2 : ¬ (10 : Int) < (i : Int) := by omega
  have c3 : (0 : Int) ≤ (i : Int) := by omega
  have c5 : (i : Int) < 11 := by omega
  obtain ⟨n, gn⟩ : ∃ n, n = (F i).h := ⟨_, rfl⟩
  rw [← gn] at c4 hh
  have hh' : (n == 0) = false := by simpa using hh
  clear H gn hh
  go_enter Tryz.func34, Tryz.ntmps34
  go_wp2_with fail
  refine k0.out.mono ?_
  rintro e w1 ⟨rfl, rfl⟩
  clear k0
  go_wp2_with fail
  go_ret2
  exact ⟨rfl, rfl⟩

/-- A bit of the flags. -/
theorem fhas_any (w : World) (t o : Nat) (fl b : Int) (r : Bool) (h : w.cell? ⟨t, o + 3, none⟩ = some (.int .i64 fl)) (hb : (bits BinOp.and IntKind.i64 fl b != 0) = r) :
    Calls Tryz.prog 44 #[.pointer (some ⟨t, o, none⟩), .int .i64 b] w fun e w' => e = .returned (.bool r) ∧ w' = w := by
  have HB := hid hb
  clear hb
  go_enter Tryz.func44, Tryz.ntmps44
  go_wp2_with fail
  go_ret
  refine ⟨?_, rfl⟩
  rw [← HB.out]
  rfl

end Go.Proofs.YtdnblbahecpmkaaGreat
