/- Texts of this seat, merged. -/
import Derived.Test.YtbglhmcahnkbfaaGreatGMg26
import Derived.BigQuiet
import Derived.Test.YtbglhmcahnkbfaaGreatGMg28

/- The document's within. -/
namespace Go.Proofs.YtbglhmcahnkbfaaGreat
open Go.RowKit
set_option linter.unusedVariables false
set_option maxRecDepth 20000

theorem Rch.front {F : Fs} {a c : Nat} (r : Rch F a c) : c = a ∨ ∃ x ∈ (F.P a).Q, Rch F x.2 c := by
  induction r with
  | refl => exact .inl rfl
  | step x _ hx e ih =>
    rcases ih with rfl | ⟨y, hy, hr⟩
    · exact .inr ⟨x, hx, by rw [e]; exact .refl _⟩
    · exact .inr ⟨y, hy, .step x hr hx e⟩

/-- Whether a directory lies within another one. -/
noncomputable def inB (F : Fs) (dir top : Nat) : Bool := @decide (Rch F top dir) (Classical.propDecidable _)
theorem inB_yes {F : Fs} {dir top : Nat} (h : Rch F top dir) : inB F dir top = true := by unfold inB; exact @decide_eq_true _ (Classical.propDecidable _) h
theorem inB_no {F : Fs} {dir top : Nat} (h : ¬ Rch F top dir) : inB F dir top = false := by unfold inB; exact @decide_eq_false _ (Classical.propDecidable _) h
theorem inB_leaf {F : Fs} (hF : FOk F) {dir top : Nat} (hd : (F.P dir).k = 2) (ht : (F.P top).k ≠ 2) : inB F dir top = false := inB_no (fun r => by
  have := r.leaf (hF.file top ht)
  rw [this] at hd
  exact ht hd)


end Go.Proofs.YtbglhmcahnkbfaaGreat

/- The document's Rename. (Written by gen_rf18.py.) -/
namespace Go.Proofs.YtbglhmcahnkbfaaGreat
open Go.RowKit
set_option linter.unusedVariables false
set_option maxRecDepth 20000

theorem rename_a {F : Fs} {l m : List UInt8} {e : Int} (hw : F.walk l = .error e) : F.rename l m = (F, e) := by unfold Fs.rename; rw [hw]
theorem rename_b {F : Fs} {l m : List UInt8} {y : List Nat} {s : List UInt8} {n : Nat} (hw : F.walk l = .ok (y, s, n)) (hn : n = 0) : F.rename l m = (F, 2) := by unfold Fs.rename; rw [hw]; exact if_pos hn
theorem rename_c {F : Fs} {l m : List UInt8} {y : List Nat} {s : List UInt8} {n : Nat} {e : Int} (hw : F.walk l = .ok (y, s, n)) (hn : n ≠ 0) (hw2 : F.walk m = .error e) : F.rename l m = (F, e) := by
  unfold Fs.rename; rw [hw]; dsimp only; rw [if_neg hn, hw2]
theorem rename_d {F : Fs} {l m : List UInt8} {y y2 : List Nat} {s s2 : List UInt8} {n n2 : Nat} (hw : F.walk l = .ok (y, s, n)) (hn : n ≠ 0) (hw2 : F.walk m = .ok (y2, s2, n2)) : F.rename l m =
    if n2 = n then (F, 0) else if n2 ≠ 0 ∧ F.over n n2 ≠ 0 then (F, F.over n n2) else if n ∈ y2 then (F, 22) else
      if n2 = 0 ∧ Fs.dirOf y2 ≠ Fs.dirOf y ∧ 6 ≤ (F.P (Fs.dirOf y2)).Q.length then (F, 28) else
      if n2 ≠ 0 ∧ dfc F.d 4 = false then ((((F.deln (Fs.dirOf y) s).deln (Fs.dirOf y2) s2).addn (Fs.dirOf y2) s2 n).less n2, 0)
      else (((F.deln (Fs.dirOf y) s).deln (Fs.dirOf y2) s2).addn (Fs.dirOf y2) s2 n, 0) := by
  unfold Fs.rename; rw [hw]; dsimp only; rw [if_neg hn, hw2]
theorem inB_on {F : Fs} (hF : FOk F) {y2 : List Nat} {s2 : List UInt8} {n n2 : Nat} (W2 : Wlk F y2 s2 n2) (hk : (F.P n).k = 2) : inB F (Fs.dirOf y2) n = true ↔ n ∈ y2 := by
  rw [W2.on hF]
  by_cases h : Rch F n (Fs.dirOf y2)
  · rw [inB_yes h]; exact ⟨fun _ => ⟨hk, h⟩, fun _ => rfl⟩
  · rw [inB_no h]; exact ⟨fun q => by simp at q, fun q => absurd q.2 h⟩
theorem on_file {F : Fs} (hF : FOk F) {y2 : List Nat} {s2 : List UInt8} {n n2 : Nat} (W2 : Wlk F y2 s2 n2) (hk : (F.P n).k ≠ 2) : n ∉ y2 := fun h => hk ((W2.on hF n).1 h).1

theorem len2 {F : Fs} (hF : FOk F) (d d2 : Nat) (s s2 : List UInt8) : (((F.deln d s).deln d2 s2).P d2).Q.length ≤ 6 := by
  rw [deln_Q, if_pos rfl]
  refine Nat.le_trans (List.length_filter_le _ _) ?_
  rw [deln_Q]; split
  · exact Nat.le_trans (List.length_filter_le _ _) (hF.len d)
  · exact hF.len d2
theorem rmoved_P (F : Fs) (d d2 : Nat) (s s2 : List UInt8) (n i : Nat) : (((F.deln d s).deln d2 s2).addn d2 s2 n).P i = { F.P i with Q := ((((F.deln d s).deln d2 s2).addn d2 s2 n).P i).Q } := by
  rw [Fs.addn_P]; dsimp only; rw [Fs.deln_P]; dsimp only; rw [Fs.deln_P]

end Go.Proofs.YtbglhmcahnkbfaaGreat

/- The document's New with any defects. -/
namespace Go.Proofs.YtbglhmcahnkbfaaGreat
open Go.RowKit
set_option linter.unusedVariables false
set_option maxRecDepth 20000

def noU6 : List Value := (madeCells (Value.bool false).cells (25 * 1)).toList
theorem noU6_len : noU6.length = 25 := by simp [noU6, size_madeCells]
theorem noU6_at (b : Nat) (hb : b < 25) : noU6[b]? = some (.bool false) := by
  rcases (show b = 0 ∨ b = 1 ∨ b = 2 ∨ b = 3 ∨ b = 4 ∨ b = 5 ∨ b = 6 ∨ b = 7 ∨ b = 8 ∨ b = 9 ∨ b = 10 ∨ b = 11 ∨ b = 12 ∨ b = 13 ∨ b = 14 ∨ b = 15 ∨ b = 16 ∨ b = 17 ∨ b = 18 ∨ b = 19 ∨ b = 20 ∨ b = 21 ∨ b = 22 ∨ b = 23 ∨ b = 24 by omega) with rfl | rfl | rfl | rfl | rfl | rfl | rfl | rfl | rfl | rfl | rfl | rfl | rfl | rfl | rfl | rfl | rfl | rfl | rfl | rfl | rfl | rfl | rfl | rfl | rfl <;> kernel_rfl
theorem noR6_at (i : Nat) (hi : i < 17) : noR6[i * 6]? = some (.int .i64 0) ∧ noR6[i * 6 + 1]? = some (.int .i64 0) ∧ noR6[i * 6 + 2]? = some (.int .i64 0) ∧ noR6[i * 6 + 3]? = some (.slice none 0 0) ∧ noR6[i * 6 + 4]? = some (.slice none 0 0) ∧ noR6[i * 6 + 5]? = some (.slice none 0 0) := by
  rcases (show i = 0 ∨ i = 1 ∨ i = 2 ∨ i = 3 ∨ i = 4 ∨ i = 5 ∨ i = 6 ∨ i = 7 ∨ i = 8 ∨ i = 9 ∨ i = 10 ∨ i = 11 ∨ i = 12 ∨ i = 13 ∨ i = 14 ∨ i = 15 ∨ i = 16 by omega) with rfl | rfl | rfl | rfl | rfl | rfl | rfl | rfl | rfl | rfl | rfl | rfl | rfl | rfl | rfl | rfl | rfl <;> exact ⟨by kernel_rfl, by kernel_rfl, by kernel_rfl, by kernel_rfl, by kernel_rfl, by kernel_rfl⟩

/-- The root is laid. -/
theorem Rf.made {w : World} {x g u : Nat} {d : Int} (h1 : w.heap[x]? = some (.cells #[.slice (some ⟨g, 0, none⟩) 17 17, .slice (some ⟨u, 0, none⟩) 25 25, .int .i64 d] 119 (0, 0))) (h2 : w.heap[g]? = some (.cells noR6.toArray 122 (0, 0))) (h3 : w.heap[u]? = some (.cells noU6.toArray 4 (0, 0))) (hn : x ≠ g ∧ x ≠ u ∧ g ≠ u)
    {N : List Value} (hN : N = [.int .i64 2, .int .i64 1, .int .i64 0, .slice none 0 0, .slice none 0 0, .slice none 0 0]) : Rf (w.setCells g 6 N) x g u (noV (fun _ => .slice none 0 0) 1) (rootF d) := by
  have H : Rf w x g u (fun _ => .slice none 0 0) ⟨d, fun _ => Fn.no, fun _ => false⟩ :=
    ⟨h1, ⟨noR6, h2, noR6_len, fun i hi => noR6_at i hi⟩, ⟨noU6, h3, noU6_len, fun b hb => noU6_at b hb⟩, fun i hi => World.ownsRow_nil _ _ _ _, fun i hi => World.ownsRow_nil _ _ _ _, fun i hi => World.ownsRow_nil _ _ _ _,
      fun i j b _ _ h => by simp [Value.ownBlock] at h, fun i b _ h => by simp [Value.ownBlock] at h, hn⟩
  rw [hN]
  exact H.node 1 (by omega) (Fn.nu 2) rfl rfl rfl
theorem root_foot {x g u b : Nat} (h : RfFoot x g u (noV (fun _ => Value.slice none 0 0) 1) b) : b = x ∨ b = g ∨ b = u := by
  rcases h with h | h | h | ⟨i, _, h⟩
  · exact .inl h
  · exact .inr (.inl h)
  · exact .inr (.inr h)
  · exact absurd (noV_own h).2 (by simp [Value.ownBlock])

set_option maxHeartbeats 2000000 in
set_option maxRecDepth 20000 in
theorem rnew_any (w : World) (d : Int) :
    Calls Tryz.prog 67 #[.int .i64 d] w fun e w' => ∃ x g u V, e = .returned (.pointer (some ⟨x, 0, none⟩)) ∧ Rf w' x g u V (rootF d) ∧ Below w.heap.size w w' ∧ ∀ b, RfFoot x g u V b → w.heap.size ≤ b := by
  obtain ⟨C, gC⟩ : ∃ C, C = noR6 := ⟨_, rfl⟩
  have hm' : ∀ W : World, (Instr.makeSlice 116 (.int .i64 17) (.int .i64 17)).run Tryz.prog W = .ok (.slice (some ⟨W.heap.size, 0, none⟩) 17 17) (W.alloc (.cells C.toArray 122)) := by
    rw [gC]
    exact made_zs (P := Tryz.prog) 116 122 17 _ _ _ Tryz.underlying116 infoR6 (by omega) (by omega)
  obtain ⟨D, gD⟩ : ∃ D, D = noU6.toArray := ⟨_, rfl⟩
  have hk' : ∀ W : World, (Instr.makeSlice 117 (.int .i64 25) (.int .i64 25)).run Tryz.prog W = .ok (.slice (some ⟨W.heap.size, 0, none⟩) 25 25) (W.alloc (.cells D 4)) := by
    rw [gD, show noU6.toArray = madeCells (Value.bool false).cells (25 * 1) by simp [noU6]]
    exact made_zs (P := Tryz.prog) 117 4 25 _ _ _ Tryz.underlying117 infoR6b (by omega) (by omega)
  have HL : Hid (C.length = 102) := by rw [gC]; exact hid noR6_len
  obtain ⟨N, gN⟩ : ∃ N : List Value, N = [.int .i64 2, .int .i64 1, .int .i64 0, .slice none 0 0, .slice none 0 0, .slice none 0 0] := ⟨_, rfl⟩
  have H1 : Hid (N.toArray.all (·.oneCell') = true) := by rw [gN]; exact hid (by simp [Value.oneCell'])
  have HSZ : Hid ((Tryz.prog.info? 122).map (·.size) = some N.toArray.size) := by rw [gN]; exact hid csizeR6
  have HB : Hid (Tryz.prog.built 122 [(0, .int .i64 2), (1, .int .i64 1)] = some N.toArray) := by rw [gN]; exact hid builtR6
  have HT : Hid (6 = N.toArray.size) := by rw [gN]; exact hid rfl
  have HN := hid gN
  have HC := hid gC
  have HD := hid gD
  clear gN gD gC
  go_enter Tryz.func67, Tryz.ntmps67
  go_wp2_with fail
  go_region_held3 (fun _ => True) (trivial) (fail)
  all_goals go_wp2_with (first
    | (refine wpList_build_is rfl 122 #[(0, .const (.int .i64 2)), (1, .const (.int .i64 1))] rfl N.toArray (by simpa [Act.eval] using HB.out) ?_)
    | (refine wpList_store_mid rfl 122 (.tmp 14) (.tmp 13) rfl w.heap.size 6 N.toArray rfl rfl (by rw [← HT.out]; exact there_of_block (C := C) (t := 122) (by exact first_block w C 122 _ _) 6 6 (by rw [HL.out]; omega)) HSZ.out H1.out ?_)
    | (refine wpList_store_mid rfl 122 (.tmp 14) (.tmp 13) rfl (w.heap.size + 1) 6 N.toArray rfl rfl (by rw [← HT.out]; exact there_of_block (C := C) (t := 122) (by exact second_block w C 122 _ _) 6 6 (by rw [HL.out]; omega)) HSZ.out H1.out ?_))
  all_goals go_ret
  · obtain ⟨W, gW⟩ : ∃ W, W = (((w.alloc (.cells C.toArray 122)).alloc (.cells D 4)).alloc (.cells #[.slice (some ⟨w.heap.size, 0, none⟩) 17 17, .slice (some ⟨w.heap.size + 1, 0, none⟩) 25 25, .int .i64 d] 119)).drew := ⟨_, rfl⟩
    have hb : Below w.heap.size w W := by rw [gW]; exact (three_allocs w _ _ _).drew
    have hp : W.heap[w.heap.size + 2]? = some (.cells #[.slice (some ⟨w.heap.size, 0, none⟩) 17 17, .slice (some ⟨w.heap.size + 1, 0, none⟩) 25 25, .int .i64 d] 119 (0, 0)) := by
      rw [gW]
      have k := heap_alloc_new ((w.alloc (.cells C.toArray 122)).alloc (.cells D 4)) (.cells #[.slice (some ⟨w.heap.size, 0, none⟩) 17 17, .slice (some ⟨w.heap.size + 1, 0, none⟩) 25 25, .int .i64 d] 119)
      rw [show ((w.alloc (.cells C.toArray 122)).alloc (.cells D 4)).heap.size = w.heap.size + 2 by simp] at k
      exact k
    have hq : W.heap[w.heap.size]? = some (.cells noR6.toArray 122 (0, 0)) := by rw [gW, ← HC.out]; exact first_block w C 122 _ _
    have hu : W.heap[w.heap.size + 1]? = some (.cells noU6.toArray 4 (0, 0)) := by rw [gW, HD.out]; exact second_block w noU6 4 _ _
    rw [← gW]
    exact ⟨_, _, _, _, rfl, Rf.made hp hq hu ⟨by omega, by omega, by omega⟩ HN.out, hb.trans ((upd_setCells w.heap.size _ _ _).below hb.size (fun x hx => by omega)), fun b h => by rcases root_foot h with h | h | h <;> omega⟩
  · obtain ⟨W, gW⟩ : ∃ W, W = (((w.alloc (.cells D 4)).alloc (.cells C.toArray 122)).alloc (.cells #[.slice (some ⟨w.heap.size + 1, 0, none⟩) 17 17, .slice (some ⟨w.heap.size, 0, none⟩) 25 25, .int .i64 d] 119)).drew := ⟨_, rfl⟩
    have hb : Below w.heap.size w W := by rw [gW]; exact (three_allocs w _ _ _).drew
    have hp : W.heap[w.heap.size + 2]? = some (.cells #[.slice (some ⟨w.heap.size + 1, 0, none⟩) 17 17, .slice (some ⟨w.heap.size, 0, none⟩) 25 25, .int .i64 d] 119 (0, 0)) := by
      rw [gW]
      have k := heap_alloc_new ((w.alloc (.cells D 4)).alloc (.cells C.toArray 122)) (.cells #[.slice (some ⟨w.heap.size + 1, 0, none⟩) 17 17, .slice (some ⟨w.heap.size, 0, none⟩) 25 25, .int .i64 d] 119)
      rw [show ((w.alloc (.cells D 4)).alloc (.cells C.toArray 122)).heap.size = w.heap.size + 2 by simp] at k
      exact k
    have hq : W.heap[w.heap.size + 1]? = some (.cells noR6.toArray 122 (0, 0)) := by rw [gW, ← HC.out]; exact second_block w C 122 _ _
    have hu : W.heap[w.heap.size]? = some (.cells noU6.toArray 4 (0, 0)) := by rw [gW, HD.out]; exact first_block w noU6 4 _ _
    rw [← gW]
    exact ⟨_, _, _, _, rfl, Rf.made hp hq hu ⟨by omega, by omega, by omega⟩ HN.out, hb.trans ((upd_setCells (w.heap.size + 1) _ _ _).below hb.size (fun x hx => by omega)), fun b h => by rcases root_foot h with h | h | h <;> omega⟩

end Go.Proofs.YtbglhmcahnkbfaaGreat
