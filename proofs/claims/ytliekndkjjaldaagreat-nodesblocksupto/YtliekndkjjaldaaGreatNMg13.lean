/- Texts of this seat, merged. -/
import Derived.Test.YtliekndkjjaldaaGreatNMg12
import Derived.Test.YtliekndkjjaldaaGreatNMg5

/- What the document's Find and end tell. -/
namespace Go.Proofs.YtliekndkjjaldaaGreat
open Go.RowKit
set_option linter.unusedVariables false
set_option maxRecDepth 20000

theorem find_dwk {F : Fs} (H : FOk F) (r : List UInt8) (hr : r ≠ []) : F.find (47 :: r) = dwk F 1 (spl r) := by
  have hne : (47 :: r : List UInt8) ≠ [47] := fun e => hr (by simpa using e)
  have hk : F.K 1 ≠ 0 := by rw [show F.K 1 = 2 from H.root]; omega
  obtain ⟨init, last, e⟩ : ∃ init last, spl r = init ++ [last] := ⟨_, _, (List.dropLast_concat_getLast (spl_ne r)).symm⟩
  have h1 := dwk_find H last init 1 hk
  rw [← e] at h1
  rw [h1]
  unfold Fs.find
  rw [if_neg hne]
  unfold Fs.walk
  rw [if_pos ⟨rfl, hne⟩]
  show (match wk F.K F.N 1 [] (spl r) with | .error e => _ | .ok (_, _, n) => _) = _
  cases wk F.K F.N 1 [] (spl r) with
  | error e => rfl
  | ok q => rfl

theorem no_slash {l : List UInt8} (h : ¬ (l.head? = some 47 ∧ l ≠ [47])) (h2 : l ≠ [47]) : l = [] ∨ ∃ c r, l = c :: r ∧ c ≠ 47 := by
  cases l with
  | nil => exact .inl rfl
  | cons c r => exact .inr ⟨c, r, rfl, fun e => h ⟨by rw [e]; rfl, h2⟩⟩
theorem yes_slash {l : List UInt8} (h : l.head? = some 47 ∧ l ≠ [47]) : ∃ r, l = 47 :: r ∧ r ≠ [] := by
  cases l with
  | nil => simp at h
  | cons c r =>
    obtain ⟨h1, h2⟩ := h
    simp at h1
    subst h1
    exact ⟨r, rfl, fun q => h2 (by rw [q])⟩
theorem rsplit_no (t : ByteArray) (w : World) (h : ¬ ((bl t).head? = some 47 ∧ bl t ≠ [47])) (h2 : bl t ≠ [47]) :
    Calls Tryz.prog 55 #[.string t] w fun e w' => e = .returned (.tuple #[.slice none 0 0, .int .i64 22]) ∧ w' = w := by
  rcases no_slash h h2 with e | ⟨c, r, e, hc⟩
  · exact split_none t w e
  · exact split_bad t w c r e hc

set_option maxHeartbeats 2000000 in
theorem rfind_any (x g u : Nat) (V : Nat → Value) (F : Fs) (w : World) (H : Rf w x g u V F) (hF : FOk F) (t : ByteArray) (hs : t.size ≤ 1048576) :
    Calls Tryz.prog 20 #[.pointer (some ⟨x, 0, none⟩), .string t] w fun e w' => e = .returned (.tuple #[.int .i64 ((F.find (bl t)).1 : Int), .int .i64 (F.find (bl t)).2]) ∧ Below w.heap.size w w' := by
  by_cases hr : bl t = [47]
  · have k1 := hid (split_root t w hr)
    have k2 := hid (rwalk_any x g u V F w H hF none 0 0 [] rfl (by omega) (fun j h => absurd h (Nat.not_lt_zero _)))
    rw [show F.find (bl t) = (1, 0) from by unfold Fs.find; rw [if_pos hr]]
    clear hr H hF
    go_enter Tryz.func20, Tryz.ntmps20
    go_wp2_with fail
    refine k1.out.mono ?_
    rintro e w1 ⟨rfl, rfl⟩
    clear k1
    go_wp2_with fail
    refine k2.out.mono ?_
    rintro e w2 ⟨rfl, hb⟩
    clear k2
    go_wp2_with fail
    first | (go_ret2; exact ⟨rfl, hb⟩) | exact ⟨rfl, hb⟩
  by_cases hg : (bl t).head? = some 47 ∧ bl t ≠ [47]
  · obtain ⟨r, hr, hr0⟩ := yes_slash hg
    have k1 := hid (split_ok t w r hr hr0 hs)
    rw [hr, find_dwk hF r hr0]
    have HR := hid H
    have HF := hid hF
    obtain ⟨R, gR⟩ : ∃ R, R = dwk F 1 (spl r) := ⟨_, rfl⟩
    rw [← gR]
    have GR := hid gR
    clear hr hr0 hg H hF gR
    go_enter Tryz.func20, Tryz.ntmps20
    go_wp2_with fail
    refine k1.out.mono ?_
    rintro e w1 ⟨a, n, c, xs, rfl, hxl, hn, hxs, hO, hB⟩
    clear k1
    have hn1 : 0 < n := by
      rcases Nat.eq_zero_or_pos n with q | q
      · subst q
        rw [List.eq_nil_of_length_eq_zero hxl] at hxs
        exact absurd hxs.symm (spl_ne r)
      · exact q
    obtain ⟨q, rfl, hql, hnc, hcm, hcell⟩ := own_cells hO hn1
    have k2 := hid (rwalk_any x g u V F w1 (HR.out.grow hB) HF.out (some ⟨q, 0, none⟩) n c xs hxl (by omega) (fun j h => ⟨q, rfl, hql, hcell j _ (by omega) (by simp [List.getElem?_eq_getElem h])⟩))
    rw [hxs, ← GR.out] at k2
    have HB := hid hB
    clear hxs hO hB hcell hxl HR HF GR
    go_wp2_with fail
    refine k2.out.mono ?_
    rintro e w2 ⟨rfl, hb⟩
    have HB2 := hid (HB.out.trans (hb.mono HB.out.size))
    clear k2
    go_wp2_with fail
    first | (go_ret2; exact ⟨rfl, HB2.out⟩) | exact ⟨rfl, HB2.out⟩
  · have k1 := hid (rsplit_no t w hg hr)
    rw [show F.find (bl t) = (0, 22) from by unfold Fs.find Fs.walk; rw [if_neg hr, if_neg hg]]
    clear hg hr H hF
    go_enter Tryz.func20, Tryz.ntmps20
    go_wp2_with fail
    refine k1.out.mono ?_
    rintro e w1 ⟨rfl, rfl⟩
    clear k1
    go_wp2_with fail
    go_ret2
    exact ⟨rfl, Below.refl _ _⟩

/-- What end tells: a path's directory and its last name. -/
def EndR (F : Fs) (l : List UInt8) (v : Value) : Prop := (∃ e, F.walk l = .error e ∧ v = .tuple #[.int .i64 0, .string ⟨#[]⟩, .int .i64 e]) ∨ (∃ y s n, F.walk l = .ok (y, s, n) ∧ v = .tuple #[.int .i64 (Fs.dirOf y : Int), .string (bs s), .int .i64 0])

set_option maxHeartbeats 2000000 in
theorem rend_any (x g u : Nat) (V : Nat → Value) (F : Fs) (w : World) (H : Rf w x g u V F) (hF : FOk F) (t : ByteArray) (hs : t.size ≤ 1048576) :
    Calls Tryz.prog 60 #[.pointer (some ⟨x, 0, none⟩), .string t] w fun e w' => (∃ v, e = .returned v ∧ EndR F (bl t) v) ∧ Below w.heap.size w w' := by
  by_cases hg : ¬ ((bl t).head? = some 47 ∧ bl t ≠ [47])
  · refine (end_short x g t w hg).mono ?_
    rintro e w' ⟨rfl, rfl⟩
    exact ⟨⟨_, rfl, .inl ⟨22, by unfold Fs.walk; rw [if_neg hg], rfl⟩⟩, Below.refl _ _⟩
  have hg := Decidable.not_not.1 hg
  obtain ⟨r, hr, hr0⟩ := yes_slash hg
  have k1 := hid (split_ok t w r hr hr0 hs)
  have hk : F.K 1 ≠ 0 := by rw [show F.K 1 = 2 from hF.root]; omega
  have hw : F.walk (bl t) = wk F.K F.N 1 [] (spl r) := by unfold Fs.walk; rw [if_pos hg, hr]; rfl
  have HW := hid hw
  have HR := hid H
  have HF := hid hF
  have HK := hid hk
  clear hr hr0 hg H hF hk hw
  go_enter Tryz.func60, Tryz.ntmps60
  go_wp2_with fail
  refine k1.out.mono ?_
  rintro e w1 ⟨a, n, c, xs, rfl, hxl, hn, hxs, hO, hB⟩
  clear k1
  have hn1 : 0 < n := by
    rcases Nat.eq_zero_or_pos n with q | q
    · subst q
      rw [List.eq_nil_of_length_eq_zero hxl] at hxs
      exact absurd hxs.symm (spl_ne r)
    · exact q
  obtain ⟨q, rfl, hql, hnc, hcm, hcell⟩ := own_cells hO hn1
  have hxn : xs ≠ [] := fun e => by rw [e] at hxl; simp at hxl; omega
  obtain ⟨init, last, rfl⟩ : ∃ init last, xs = init ++ [last] := ⟨_, _, (List.dropLast_concat_getLast hxn).symm⟩
  obtain ⟨m, rfl⟩ : ∃ m, n = m + 1 := ⟨n - 1, by omega⟩
  have hil : init.length = m := by simpa using hxl
  have hlast := hcell m (.string last) (by omega) (by rw [List.map_append, List.getElem?_append_right (by simp; omega)]; simp [hil])
  have HB := hid hB
  have HR1 := hid (HR.out.grow hB)
  have k2 := hid (rwalk_any x g u V F w1 HR1.out HF.out (some ⟨q, 0, none⟩) m c init hil (by omega) (fun j h => ⟨q, rfl, hql, hcell j _ (by omega) (by rw [List.map_append, List.getElem?_append_left (by simp; omega)]; simp [List.getElem?_eq_getElem h])⟩))
  obtain ⟨A1, A2⟩ := dwk_wk HF.out (bl last) (init.map bl) 1 [] HK.out
  have hlt := dwk_lt HF.out (init.map bl) 1 (by omega)
  have e0 : F.walk (bl t) = wk F.K F.N 1 [] (init.map bl ++ [bl last]) := by rw [HW.out, ← hxs]; simp
  rw [← e0] at A1 A2
  obtain ⟨R, gR⟩ : ∃ R, R = dwk F 1 (init.map bl) := ⟨_, rfl⟩
  rw [← gR] at k2 A1 A2 hlt
  obtain ⟨d, E⟩ := R
  simp only at k2 A1 A2 hlt
  have i1 : ¬ ((m + 1 : Nat) : Int) = 0 := by omega
  have i2 : IntKind.i64.wrap (((m + 1 : Nat) : Int) - 1) = (m : Int) := by rw [IntKind.wrap_i64]; omega
  have i3 : (0 : Int) ≤ (m : Int) := by omega
  have i4 : (m : Int) ≤ (c : Int) := by omega
  have i5 : (m : Int) < ((m + 1 : Nat) : Int) := by omega
  by_cases hE : E ≠ 0
  · have HA := hid (A1 hE)
    clear A1 A2 hxs hO hB hcell hxl HW HF HK HR gR e0 hlast hxn
    go_wp2_with fail
    refine k2.out.mono ?_
    rintro e w2 ⟨rfl, hb⟩
    have HB2 := hid (HB.out.trans (hb.mono HB.out.size))
    clear k2 hb
    go_wp2_with fail
    go_ret3
    exact ⟨⟨_, rfl, .inl ⟨E, HA.out, rfl⟩⟩, HB2.out⟩
  · obtain rfl : E = 0 := Decidable.not_not.1 hE
    obtain ⟨B1, B2, B3⟩ := A2 rfl
    obtain ⟨M, gM⟩ : ∃ M, M = nmd F d (bl last) := ⟨_, rfl⟩
    by_cases hM : nmd F d (bl last) ≠ 0
    · have HA := hid (B2 hM)
      have hM2 : M ≠ 0 := by rw [gM]; exact hM
      rw [← gM] at HA
      have GM := hid gM
      clear A1 A2 B1 B2 B3 hxs hO hB hcell hxl HW HF HK HR gR e0 hxn hM gM hE
      go_wp2_with fail
      refine k2.out.mono ?_
      rintro e w2 ⟨rfl, hb⟩
      have HB2 := hid (HB.out.trans (hb.mono HB.out.size))
      have k3 := hid (rnamed_any x g u V F w2 (HR1.out.grow hb) d hlt last)
      rw [← GM.out] at k3
      have hl2 := (hb.cell (p := ⟨q, m, none⟩) hql).trans hlast
      clear k2 hb hlast
      go_wp2_with fail
      refine k3.out.mono ?_
      rintro e w3 ⟨rfl, rfl⟩
      clear k3
      go_wp2_with fail
      go_ret3
      exact ⟨⟨_, rfl, .inl ⟨M, HA.out, rfl⟩⟩, HB2.out⟩
    · have hM2 : M = 0 := by rw [gM]; exact Decidable.not_not.1 hM
      subst hM2
      obtain ⟨y', hy, hd⟩ := B3 gM.symm
      have HA := hid (And.intro hy hd)
      have GM := hid gM
      clear A1 A2 B1 B2 B3 hxs hO hB hcell hxl HW HF HK HR gR e0 hxn hM gM hE hy hd
      go_wp2_with fail
      refine k2.out.mono ?_
      rintro e w2 ⟨rfl, hb⟩
      have HB2 := hid (HB.out.trans (hb.mono HB.out.size))
      have k3 := hid (rnamed_any x g u V F w2 (HR1.out.grow hb) d hlt last)
      rw [← GM.out] at k3
      have hl2 := (hb.cell (p := ⟨q, m, none⟩) hql).trans hlast
      clear k2 hb hlast
      go_wp2_with fail
      refine k3.out.mono ?_
      rintro e w3 ⟨rfl, rfl⟩
      clear k3
      go_wp2_with fail
      go_ret3
      refine ⟨⟨_, rfl, .inr ⟨y', bl last, _, HA.out.1, ?_⟩⟩, HB2.out⟩
      rw [HA.out.2, bs_bl]; rfl

end Go.Proofs.YtliekndkjjaldaaGreat

/- What the document's New of nodes makes. -/
namespace Go.Proofs.YtliekndkjjaldaaGreat
open Go.RowKit
set_option linter.unusedVariables false

theorem made_zs {P : Program} (t e : TypeId) (n : Nat) (z : Value) (size bytes : Nat) (ht : P.underlying t = some (.slice e)) (hi : (P.info? e).map (fun i => (i.zero, i.size, i.bytes)) = some (some z, size, bytes)) (hb : bytes * n ≤ 281474976710656) (hn : n ≤ 1000) :
    ∀ W : World, (Instr.makeSlice t (.int .i64 (n : Int)) (.int .i64 (n : Int))).run P W = .ok (.slice (some ⟨W.heap.size, 0, none⟩) n n) (W.alloc (.cells (madeCells z.cells (n * size)) e)) := by
  obtain ⟨i, hi0, hz0, hz1, hz2⟩ := info_parts hi
  intro W
  have := run_make (P := P) W t e i z ht hi0 hz0 .i64 .i64 (n : Int) (n : Int) (by omega) (by omega) (by rw [hz2]; omega) (by omega)
  simpa [hz1] using this

theorem infoR6 : (Tryz.prog.info? 66).map (fun i => (i.zero, i.size, i.bytes)) = some (some (.agg #[.int .i64 0, .int .i64 0, .int .i64 0, .slice none 0 0, .slice none 0 0, .slice none 0 0]), 6, 96) := by kernel_rfl
theorem infoR6b : (Tryz.prog.info? 4).map (fun i => (i.zero, i.size, i.bytes)) = some (some (.bool false), 1, 1) := by kernel_rfl
theorem csizeR6 : (Tryz.prog.info? 66).map (·.size) = some 6 := by kernel_rfl
theorem builtR6 : Tryz.prog.built 66 [(0, .int .i64 2), (1, .int .i64 1)] = some #[.int .i64 2, .int .i64 1, .int .i64 0, .slice none 0 0, .slice none 0 0, .slice none 0 0] := by kernel_rfl

/-- The cells of no nodes. -/
def noR6 : List Value := (madeCells (Value.agg #[.int .i64 0, .int .i64 0, .int .i64 0, .slice none 0 0, .slice none 0 0, .slice none 0 0]).cells (17 * 6)).toList
theorem noR6_len : noR6.length = 102 := by simp [noR6, size_madeCells]
theorem noR6_12 : noR6[12]? = some (.int .i64 0) := by kernel_rfl

theorem two_allocs (w : World) (a b : Obj) : Below w.heap.size w ((w.alloc a).alloc b) := ((Below.refl _ _).alloc (Nat.le_refl _) _).alloc (by simp) _
theorem three_allocs (w : World) (a b c : Obj) : Below w.heap.size w (((w.alloc a).alloc b).alloc c) := (two_allocs w a b).alloc (by simp; omega) _
theorem first_block (w : World) (C : List Value) (t : TypeId) (b c : Obj) : ((((w.alloc (.cells C.toArray t)).alloc b).alloc c)).heap[w.heap.size]? = some (.cells C.toArray t (0, 0)) := by
  have h := (two_allocs (w.alloc (.cells C.toArray t)) b c).block w.heap.size (by simp)
  exact h.trans (heap_alloc_new w _)
theorem second_block (w : World) (C : List Value) (t : TypeId) (b c : Obj) : ((((w.alloc b).alloc (.cells C.toArray t)).alloc c)).heap[w.heap.size + 1]? = some (.cells C.toArray t (0, 0)) := by
  have h := ((Below.refl _ ((w.alloc b).alloc (.cells C.toArray t))).alloc (Nat.le_refl _) c).block (w.heap.size + 1) (by simp)
  have k := heap_alloc_new (w.alloc b) (.cells C.toArray t)
  rw [show (w.alloc b).heap.size = w.heap.size + 1 by simp] at k
  exact h.trans k

/-- The root is laid. -/
theorem R6.made {w : World} {p b : Nat} {u d : Value} {N : List Value} (hN : N = [.int .i64 2, .int .i64 1, .int .i64 0, .slice none 0 0, .slice none 0 0, .slice none 0 0]) (h1 : w.heap[p]? = some (.cells #[.slice (some ⟨b, 0, none⟩) 17 17, u, d] 63 (0, 0))) (h2 : w.heap[b]? = some (.cells noR6.toArray 66 (0, 0))) (hn : p ≠ b) : R6 (w.setCells b 6 N) p b := by
  have h3 := heap_setCells b 66 N 6 w noR6 h2 (by rw [noR6_len, hN]; simp)
  refine ⟨⟨u, d, ((upd_setCells b N 6 w).block p (Array.getElem?_eq_some_iff.1 h1).1 hn).trans h1⟩, ⟨_, h3, ?_, ?_, ?_, ?_⟩, hn⟩
  · rw [length_splice _ _ _ (by rw [noR6_len, hN]; simp)]; exact noR6_len
  · rw [show 6 = 6 + 0 from rfl, getElem?_splice_in _ _ _ _ (by rw [noR6_len, hN]; simp) (by rw [hN]; simp), hN]; rfl
  · rw [show 11 = 6 + 5 from rfl, getElem?_splice_in _ _ _ _ (by rw [noR6_len, hN]; simp) (by rw [hN]; simp), hN]; rfl
  · rw [getElem?_splice_out _ _ _ _ (by rw [noR6_len, hN]; simp) (by rw [hN]; simp)]; exact noR6_12

set_option maxHeartbeats 2000000 in
set_option maxRecDepth 20000 in
theorem r6new (w : World) :
    Calls Tryz.prog 7 #[.int .i64 0] w fun e w' => ∃ p b, e = .returned (.pointer (some ⟨p, 0, none⟩)) ∧ R6 w' p b ∧ w.heap.size ≤ p ∧ w.heap.size ≤ b ∧ Below w.heap.size w w' := by
  obtain ⟨C, gC⟩ : ∃ C, C = noR6 := ⟨_, rfl⟩
  have hm' : ∀ W : World, (Instr.makeSlice 60 (.int .i64 17) (.int .i64 17)).run Tryz.prog W = .ok (.slice (some ⟨W.heap.size, 0, none⟩) 17 17) (W.alloc (.cells C.toArray 66)) := by
    rw [gC]
    exact made_zs (P := Tryz.prog) 60 66 17 _ _ _ Tryz.underlying60 infoR6 (by omega) (by omega)
  obtain ⟨D, gD⟩ : ∃ D, D = madeCells (Value.bool false).cells (25 * 1) := ⟨_, rfl⟩
  have hk' : ∀ W : World, (Instr.makeSlice 61 (.int .i64 25) (.int .i64 25)).run Tryz.prog W = .ok (.slice (some ⟨W.heap.size, 0, none⟩) 25 25) (W.alloc (.cells D 4)) := by
    rw [gD]
    exact made_zs (P := Tryz.prog) 61 4 25 _ _ _ Tryz.underlying61 infoR6b (by omega) (by omega)
  have HL : Hid (C.length = 102) := by rw [gC]; exact hid noR6_len
  obtain ⟨N, gN⟩ : ∃ N : List Value, N = [.int .i64 2, .int .i64 1, .int .i64 0, .slice none 0 0, .slice none 0 0, .slice none 0 0] := ⟨_, rfl⟩
  have H1 : Hid (N.toArray.all (·.oneCell') = true) := by rw [gN]; exact hid (by simp [Value.oneCell'])
  have HSZ : Hid ((Tryz.prog.info? 66).map (·.size) = some N.toArray.size) := by rw [gN]; exact hid csizeR6
  have HB : Hid (Tryz.prog.built 66 [(0, .int .i64 2), (1, .int .i64 1)] = some N.toArray) := by rw [gN]; exact hid builtR6
  have HT : Hid (6 = N.toArray.size) := by rw [gN]; exact hid rfl
  have HN := hid gN
  have HC := hid gC
  clear gN gD gC
  go_enter Tryz.func7, Tryz.ntmps7
  go_wp2_with fail
  go_region_held3 (fun _ => True) (trivial) (fail)
  all_goals go_wp2_with (first
    | (refine wpList_build_is rfl 66 #[(0, .const (.int .i64 2)), (1, .const (.int .i64 1))] rfl N.toArray (by simpa [Act.eval] using HB.out) ?_)
    | (refine wpList_store_mid rfl 66 (.tmp 14) (.tmp 13) rfl w.heap.size 6 N.toArray rfl rfl (by rw [← HT.out]; exact there_of_block (C := C) (t := 66) (by exact first_block w C 66 _ _) 6 6 (by rw [HL.out]; omega)) HSZ.out H1.out ?_)
    | (refine wpList_store_mid rfl 66 (.tmp 14) (.tmp 13) rfl (w.heap.size + 1) 6 N.toArray rfl rfl (by rw [← HT.out]; exact there_of_block (C := C) (t := 66) (by exact second_block w C 66 _ _) 6 6 (by rw [HL.out]; omega)) HSZ.out H1.out ?_))
  all_goals go_ret
  · obtain ⟨W, gW⟩ : ∃ W, W = (((w.alloc (.cells C.toArray 66)).alloc (.cells D 4)).alloc (.cells #[.slice (some ⟨w.heap.size, 0, none⟩) 17 17, .slice (some ⟨w.heap.size + 1, 0, none⟩) 25 25, .int .i64 0] 63)).drew := ⟨_, rfl⟩
    have hb : Below w.heap.size w W := by rw [gW]; exact (three_allocs w _ _ _).drew
    have hp : W.heap[w.heap.size + 2]? = some (.cells #[.slice (some ⟨w.heap.size, 0, none⟩) 17 17, .slice (some ⟨w.heap.size + 1, 0, none⟩) 25 25, .int .i64 0] 63 (0, 0)) := by
      rw [gW]
      have k := heap_alloc_new ((w.alloc (.cells C.toArray 66)).alloc (.cells D 4)) (.cells #[.slice (some ⟨w.heap.size, 0, none⟩) 17 17, .slice (some ⟨w.heap.size + 1, 0, none⟩) 25 25, .int .i64 0] 63)
      rw [show ((w.alloc (.cells C.toArray 66)).alloc (.cells D 4)).heap.size = w.heap.size + 2 by simp] at k
      exact k
    have hq : W.heap[w.heap.size]? = some (.cells noR6.toArray 66 (0, 0)) := by rw [gW, ← HC.out]; exact first_block w C 66 _ _
    rw [← gW]
    exact ⟨_, _, rfl, R6.made HN.out hp hq (by omega), by omega, by omega, hb.trans ((upd_setCells w.heap.size _ _ _).below hb.size (fun x hx => by omega))⟩
  · obtain ⟨W, gW⟩ : ∃ W, W = (((w.alloc (.cells D 4)).alloc (.cells C.toArray 66)).alloc (.cells #[.slice (some ⟨w.heap.size + 1, 0, none⟩) 17 17, .slice (some ⟨w.heap.size, 0, none⟩) 25 25, .int .i64 0] 63)).drew := ⟨_, rfl⟩
    have hb : Below w.heap.size w W := by rw [gW]; exact (three_allocs w _ _ _).drew
    have hp : W.heap[w.heap.size + 2]? = some (.cells #[.slice (some ⟨w.heap.size + 1, 0, none⟩) 17 17, .slice (some ⟨w.heap.size, 0, none⟩) 25 25, .int .i64 0] 63 (0, 0)) := by
      rw [gW]
      have k := heap_alloc_new ((w.alloc (.cells D 4)).alloc (.cells C.toArray 66)) (.cells #[.slice (some ⟨w.heap.size + 1, 0, none⟩) 17 17, .slice (some ⟨w.heap.size, 0, none⟩) 25 25, .int .i64 0] 63)
      rw [show ((w.alloc (.cells D 4)).alloc (.cells C.toArray 66)).heap.size = w.heap.size + 2 by simp] at k
      exact k
    have hq : W.heap[w.heap.size + 1]? = some (.cells noR6.toArray 66 (0, 0)) := by rw [gW, ← HC.out]; exact second_block w C 66 _ _
    rw [← gW]
    exact ⟨_, _, rfl, R6.made HN.out hp hq (by omega), by omega, by omega, hb.trans ((upd_setCells (w.heap.size + 1) _ _ _).below hb.size (fun x hx => by omega))⟩

end Go.Proofs.YtliekndkjjaldaaGreat

/- What the document's add and Make do, at a root alone. -/
namespace Go.Proofs.YtliekndkjjaldaaGreat
open Go.RowKit
set_option linter.unusedVariables false

theorem infoNm : (Tryz.prog.info? 119).map (fun i => (i.zero, i.size, i.bytes)) = some (some (.agg #[.string ⟨#[]⟩, .int .i64 0]), 2, 24) := by kernel_rfl

theorem cell_two (w : World) (u v : Value) (ty : TypeId) : ∀ j x, ([u, v] : List Value)[j]? = some x → (w.alloc (.cells #[u, v] ty)).cell? ((⟨w.heap.size, 0, none⟩ : Addr).add j) = some x := by
  intro j x h
  cases j with
  | zero => simp at h; subst h; simp [Addr.add, go_sem]
  | succ j => cases j with
    | zero => simp at h; subst h; simp [Addr.add, go_sem]
    | succ j => simp at h

set_option maxHeartbeats 2000000 in
theorem add_first (p b : Nat) (s : ByteArray) (w : World) (c0 : w.cell? ⟨p, 0, none⟩ = some (.slice (some ⟨b, 0, none⟩) 17 17)) (c1 : w.cell? ⟨b, 11, none⟩ = some (.slice none 0 0)) (f1 : w.frozen? ⟨b, 11, none⟩ = false) (hp : p < w.heap.size) (hb : b < w.heap.size) :
    Calls Tryz.prog 62 #[.pointer (some ⟨p, 0, none⟩), .int .i64 1, .string s, .int .i64 2] w fun e w' => e = .returned (.tuple #[]) ∧ Upd (· = b) w w' := by
  obtain ⟨i0, hi0, hz0, hz1, hz2⟩ := info_parts infoNm
  go_enter Tryz.func62, Tryz.ntmps62
  go_wp2_with fail
  go_loopw [8, 9, 21] (fun v8 v9 v21 wr => v8 = .slice none 0 0 ∧ v9 = .bool false ∧ v21 = .int .i64 0 ∧ wr = w) (fun _ _ _ _ => 0)
  case atStart => exact ⟨rfl, rfl, rfl, rfl⟩
  case round =>
    obtain ⟨rfl, rfl, rfl, rfl⟩ := hrel
    go_wp2_with (at_builtin; go_must (refine wpList_append_own _ rfl (.tmp 46) (.tmp 50) 64 rfl wr.heap.size 119 i0 _ 2 24 Tryz.underlying64 hi0 hz0 hz1 hz2 rfl (by decide) _ 0 [] rfl (World.ownsRow_nil _ _ _ _) ⟨_, 0, none⟩ 1 1 [.string s, .int .i64 2] rfl rfl (cell_two _ _ _ _) (by simp [Value.oneCell']) (by unfold maxLen; omega) (by omega) (by simp) ?_))
    intro v' w6 hO hG hN
    obtain ⟨va, vc, rfl⟩ : ∃ va vc, v' = .slice va (0 + 1) vc := by
      rcases hO.2 with ⟨h1, h2⟩ | ⟨g, c, cur, rfl, _⟩
      · omega
      · exact ⟨_, c, rfl⟩
    have hbel : Below wr.heap.size wr w6 := ((Below.refl wr.heap.size wr).alloc (Nat.le_refl _) (.cells #[.string s, .int .i64 2] 119)).grown hG (by simp) (fun x hx => by simp [Value.ownBlock] at hx)
    have d0 : w6.cell? ⟨p, 0, none⟩ = some (.slice (some ⟨b, 0, none⟩) 17 17) := (hbel.cell (p := ⟨p, 0, none⟩) hp).trans c0
    have d1 : w6.cell? ⟨b, 11, none⟩ = some (.slice none 0 0) := (hbel.cell (p := ⟨b, 11, none⟩) hb).trans c1
    have d2 : w6.frozen? ⟨b, 11, none⟩ = false := by
      have := hbel.block b hb
      simp only [World.frozen?] at f1 ⊢
      rw [this]; exact f1
    have HBL := hid hbel
    clear hO hG hN hbel c0 c1 f1
    go_wp2_with fail
    go_end0
    exact ⟨rfl, (Upd.of_below HBL.out).trans (Upd.setCell (F := (· = b)) w6 ⟨b, 11, none⟩ _ rfl) (fun x _ h => h)⟩

theorem builtR1 : Tryz.prog.built 66 [(0, .int .i64 1), (1, .int .i64 1)] = some #[.int .i64 1, .int .i64 1, .int .i64 0, .slice none 0 0, .slice none 0 0, .slice none 0 0] := by kernel_rfl

set_option maxHeartbeats 4000000 in
set_option maxRecDepth 20000 in
theorem r6make (p b : Nat) (t : ByteArray) (w : World) (H : R6 w p b) (hs : t.size ≤ 1048576) :
    Calls Tryz.prog 22 #[.pointer (some ⟨p, 0, none⟩), .string t, .int .i64 1] w fun e w' => (∃ n, e = .returned (.tuple #[.int .i64 n, .int .i64 (endE (bl t))])) ∧ Upd (· = b) w w' := by
  have k1 := hid (end_any p b t w H hs)
  obtain ⟨E, gE⟩ : ∃ E, E = endE (bl t) := ⟨_, rfl⟩
  rw [← gE] at k1 ⊢
  have HR := hid H
  clear H gE
  go_enter Tryz.func22, Tryz.ntmps22
  go_wp2_with fail
  refine k1.out.mono ?_
  rintro e w1 ⟨hB, hE⟩
  have HB := hid hB
  have HR1 := hid (HR.out.below hB)
  clear k1 hB HR
  rcases hE with ⟨hE, rfl⟩ | ⟨hE, s, rfl⟩
  · clear HR1
    go_wp2_with fail
    go_ret2
    exact ⟨⟨0, rfl⟩, Upd.of_below HB.out⟩
  · subst hE
    have k2 := hid (look_none p b s w1 HR1.out)
    have c0 := HR1.out.c0
    obtain ⟨c1, c2, c3⟩ := HR1.out.cb
    go_wp2_with fail
    refine k2.out.mono ?_
    rintro e w2 ⟨rfl, rfl⟩
    clear k2
    go_wp2_with fail
    go_loopw [11] (fun v11 wr => (v11 = .int .i64 1 ∨ v11 = .int .i64 2) ∧ wr = w2) (fun v11 _ => 2 - (intOf v11).toNat)
    case atStart => exact ⟨.inl rfl, rfl⟩
    case round =>
      obtain ⟨hv, rfl⟩ := hrel
      rcases hv with rfl | rfl
      · go_wp2_with fail
        go_roundw
        case rel => exact ⟨.inr rfl, trivial⟩
        case measure => simp [intOf]
      · obtain ⟨N, gN⟩ : ∃ N : List Value, N = [.int .i64 1, .int .i64 1, .int .i64 0, .slice none 0 0, .slice none 0 0, .slice none 0 0] := ⟨_, rfl⟩
        have H1 : Hid (N.toArray.all (·.oneCell') = true) := by rw [gN]; exact hid (by simp [Value.oneCell'])
        have HSZ : Hid ((Tryz.prog.info? 66).map (·.size) = some N.toArray.size) := by rw [gN]; exact hid csizeR6
        have HBT : Hid (Tryz.prog.built 66 [(0, .int .i64 1), (1, .int .i64 1)] = some N.toArray) := by rw [gN]; exact hid builtR1
        have HT : Hid (N.toArray.size = 6) := by rw [gN]; exact hid rfl
        have HTH : Hid (wr.there b 12 N.toArray.size) := by
          obtain ⟨C, h1, h2, _⟩ := HR1.out.row
          rw [HT.out]
          exact hid (there_of_block h1 12 6 (by omega))
        have k3 : Hid (Calls Tryz.prog 62 #[.pointer (some ⟨p, 0, none⟩), .int .i64 1, .string s, .int .i64 2] (wr.setCells b 12 N) fun e w' => e = .returned (.tuple #[]) ∧ Hid (Upd (· = b) (wr.setCells b 12 N) w')) := by
          have u := upd_setCells b N 12 wr
          obtain ⟨l1, l2⟩ := HR1.out.lt
          obtain ⟨C, h1, h2, _, h4, _⟩ := HR1.out.row
          have hN6 : N.length = 6 := by have := HT.out; simpa using this
          have h3 := heap_setCells b 66 N 12 wr C h1 (by omega)
          have hsz := size_setCells b N 12 wr
          refine hid ((add_first p b s _ ?_ ?_ ?_ (by omega) (by omega)).mono ?_)
          · exact (World.cell?_of_block (a := ⟨p, 0, none⟩) (u.block p l1 HR1.out.ne)).trans HR1.out.c0
          · exact cell_list h3 ((getElem?_splice_out _ _ _ _ (by omega) (by omega)).trans h4)
          · simp [World.frozen?, h3]
          · rintro e w' ⟨rfl, q⟩
            exact ⟨rfl, hid q⟩
        have HSU := hid (upd_setCells b N 12 wr)
        clear gN
        go_wp2_with (first
          | (refine wpList_build_is rfl 66 #[(0, .tmp 67), (1, .const (.int .i64 1))] rfl N.toArray (by simpa [Act.eval] using HBT.out) ?_)
          | (refine wpList_store_mid rfl 66 (.tmp 69) (.tmp 68) rfl b 12 N.toArray rfl rfl HTH.out HSZ.out H1.out ?_))
        refine k3.out.mono ?_
        rintro e w3 ⟨rfl, H3⟩
        clear k3
        go_wp2_with fail
        go_ret2
        exact ⟨⟨2, rfl⟩, ((Upd.of_below HB.out).trans HSU.out (fun x _ h => h)).trans H3.out (fun x _ h => h)⟩

end Go.Proofs.YtliekndkjjaldaaGreat

/- The document's system with another node; its drop and add of a name. -/
namespace Go.Proofs.YtliekndkjjaldaaGreat
open Go.RowKit
set_option linter.unusedVariables false
set_option maxRecDepth 20000

/-- A node's cells. -/
def ndL (y : Fn) (a b c : Value) : List Value := [.int .i64 y.k, .int .i64 y.l, .int .i64 y.h, a, b, c]

/-- Another node at a number: its cells from o on are stored anew, of its rows each is what it was or new. -/
theorem Rf.put {U : Nat → Prop} {w w6 : World} {x g u : Nat} {V : Nat → Value} {F : Fs} (H : Rf w x g u V F) (n : Nat) (hn : n < 17) (y : Fn) (V' : Nat → Value) (hV : ∀ i, i / 3 ≠ n → V' i = V i)
    (hU : Upd U w w6) (hUx : ∀ b, RfFoot x g u V b → U b → ∃ i, i / 3 = n ∧ (V i).ownBlock = some b)
    (o : Nat) (vs : List Value) (ho : o + vs.length ≤ 6) (hvs : splice (ndL (F.P n) (V (n * 3)) (V (n * 3 + 1)) (V (n * 3 + 2))) o vs = ndL y (V' (n * 3)) (V' (n * 3 + 1)) (V' (n * 3 + 2)))
    (r0 : w6.ownsRow 0 5 1 (V' (n * 3)) y.c.length (y.c.map (Value.int .u8))) (r1 : w6.ownsRow 0 3 1 (V' (n * 3 + 1)) y.B.length (y.B.map fun (b : Nat) => Value.int .i64 (b : Int))) (r2 : w6.ownsRow 0 119 2 (V' (n * 3 + 2)) y.Q.length (nmC y.Q))
    (own : ∀ i b, i / 3 = n → (V' i).ownBlock = some b → w.heap.size ≤ b ∨ (V i).ownBlock = some b)
    (apart : ∀ i j b, i / 3 = n → j / 3 = n → w.heap.size ≤ b → (V' i).ownBlock = some b → (V' j).ownBlock = some b → i = j) :
    Rf (w6.setCells g (n * 6 + o) vs) x g u V' (F.at_ n y) := by
  obtain ⟨C, h1, h2, h3⟩ := H.nds
  obtain ⟨D, h4, h5, h6⟩ := H.use
  have hUn : ∀ b, RfFoot x g u V b → (∀ i, i / 3 = n → (V i).ownBlock ≠ some b) → ¬ U b := fun b hb h hu => by
    obtain ⟨i, hi, e⟩ := hUx b hb hu
    exact h i hi e
  have ng3 : ∀ i b, i / 3 = n → (V i).ownBlock = some b → b ≠ x ∧ b ≠ g ∧ b ≠ u := fun i b hi e => H.ng i b (by omega) e
  have hx6 := hU.heap H.at0 (hUn x (.inl rfl) (fun i hi e => (ng3 i x hi e).1 rfl))
  have hg6 := hU.heap h1 (hUn g (.inr (.inl rfl)) (fun i hi e => (ng3 i g hi e).2.1 rfl))
  have hu6 := hU.heap h4 (hUn u (.inr (.inr (.inl rfl))) (fun i hi e => (ng3 i u hi e).2.2 rfl))
  have hs := upd_setCells g vs (n * 6 + o) w6
  have hg7 := heap_setCells g 66 vs (n * 6 + o) w6 C hg6 (by omega)
  have hgl : g < w.heap.size := (Array.getElem?_eq_some_iff.1 h1).1
  have hxl : x < w.heap.size := (Array.getElem?_eq_some_iff.1 H.at0).1
  have hul : u < w.heap.size := (Array.getElem?_eq_some_iff.1 h4).1
  have old : ∀ i b, i < 51 → (V i).ownBlock = some b → b < w.heap.size := fun i b hi e => H.foot_lt b (.inr (.inr (.inr ⟨i, hi, e⟩)))
  have ng' : ∀ i b, i < 51 → (V' i).ownBlock = some b → b ≠ x ∧ b ≠ g ∧ b ≠ u := fun i b hi e => by
    by_cases hin : i / 3 = n
    · rcases own i b hin e with q | q
      · exact ⟨by omega, by omega, by omega⟩
      · exact H.ng i b hi q
    · rw [hV i hin] at e
      exact H.ng i b hi e
  have other : ∀ i, i < 51 → i / 3 ≠ n → ∀ b, (V i).ownBlock = some b → ¬ U b := fun i hi hin b e => hUn b (.inr (.inr (.inr ⟨i, hi, e⟩))) (fun j hj ej => hin (by rw [H.ap i j b hi (by omega) e ej]; exact hj))
  have e0 : ∀ i, i ≠ n → (F.at_ n y).P i = F.P i := fun i hi => if_neg hi
  have e1 : (F.at_ n y).P n = y := if_pos rfl
  refine ⟨hs.heap hx6 (fun e => H.ne.1 e), ⟨_, hg7, by rw [length_splice _ _ _ (by omega)]; exact h2, ?_⟩, ⟨D, hs.heap hu6 (fun e => H.ne.2.2 e.symm), h5, h6⟩, ?_, ?_, ?_, ?_, ng', H.ne⟩
  · intro i hi
    by_cases hin : i = n
    · subst hin
      rw [e1]
      have key : ∀ k, k < 6 → (splice C (i * 6 + o) vs)[i * 6 + k]? = (ndL y (V' (i * 3)) (V' (i * 3 + 1)) (V' (i * 3 + 2)))[k]? := by
        intro k hk
        rw [← hvs]
        by_cases hk2 : o ≤ k ∧ k < o + vs.length
        · rw [show i * 6 + k = i * 6 + o + (k - o) by omega, getElem?_splice_in _ _ _ _ (by omega) (by omega)]
          have := getElem?_splice_in (ndL (F.P i) (V (i * 3)) (V (i * 3 + 1)) (V (i * 3 + 2))) vs o (k - o) (by simpa [ndL] using ho) (by omega)
          rw [show o + (k - o) = k by omega] at this
          exact this.symm
        · rw [getElem?_splice_out _ _ _ _ (by omega) (by omega), getElem?_splice_out _ _ _ _ (by simpa [ndL] using ho) (by omega)]
          obtain ⟨q0, q1, q2, q3, q4, q5⟩ := h3 i hi
          rcases (show k = 0 ∨ k = 1 ∨ k = 2 ∨ k = 3 ∨ k = 4 ∨ k = 5 by omega) with rfl | rfl | rfl | rfl | rfl | rfl
          · exact q0
          · exact q1
          · exact q2
          · exact q3
          · exact q4
          · exact q5
      exact ⟨key 0 (by omega), key 1 (by omega), key 2 (by omega), key 3 (by omega), key 4 (by omega), key 5 (by omega)⟩
    · rw [e0 i hin, hV (i * 3) (by omega), hV (i * 3 + 1) (by omega), hV (i * 3 + 2) (by omega)]
      have key : ∀ k, k < 6 → (splice C (n * 6 + o) vs)[i * 6 + k]? = C[i * 6 + k]? := fun k hk => getElem?_splice_out _ _ _ _ (by omega) (by omega)
      have k0 := key 0 (by omega)
      rw [Nat.add_zero] at k0
      rw [k0, key 1 (by omega), key 2 (by omega), key 3 (by omega), key 4 (by omega), key 5 (by omega)]
      exact h3 i hi
  · intro i hi
    have hg' : ∀ b, (V' (i * 3)).ownBlock = some b → ¬ b = g := fun b e => (ng' _ b (by omega) e).2.1
    by_cases hin : i = n
    · subst hin; rw [e1]; exact hs.own r0 hg'
    · rw [e0 i hin]
      rw [hV _ (by omega)] at hg' ⊢
      exact hs.own (hU.own (H.rb i hi) (other _ (by omega) (by omega))) hg'
  · intro i hi
    have hg' : ∀ b, (V' (i * 3 + 1)).ownBlock = some b → ¬ b = g := fun b e => (ng' _ b (by omega) e).2.1
    by_cases hin : i = n
    · subst hin; rw [e1]; exact hs.own r1 hg'
    · rw [e0 i hin]
      rw [hV _ (by omega)] at hg' ⊢
      exact hs.own (hU.own (H.rB i hi) (other _ (by omega) (by omega))) hg'
  · intro i hi
    have hg' : ∀ b, (V' (i * 3 + 2)).ownBlock = some b → ¬ b = g := fun b e => (ng' _ b (by omega) e).2.1
    by_cases hin : i = n
    · subst hin; rw [e1]; exact hs.own r2 hg'
    · rw [e0 i hin]
      rw [hV _ (by omega)] at hg' ⊢
      exact hs.own (hU.own (H.rQ i hi) (other _ (by omega) (by omega))) hg'
  · intro i j b hi hj ei ej
    by_cases hin : i / 3 = n
    · by_cases hjn : j / 3 = n
      · rcases own i b hin ei with q | q
        · exact apart i j b hin hjn q ei ej
        · rcases own j b hjn ej with q' | q'
          · exact absurd (old i b hi q) (by omega)
          · exact H.ap i j b hi hj q q'
      · rw [hV j hjn] at ej
        rcases own i b hin ei with q | q
        · exact absurd (old j b hj ej) (by omega)
        · exact H.ap i j b hi hj q ej
    · rw [hV i hin] at ei
      by_cases hjn : j / 3 = n
      · rcases own j b hjn ej with q | q
        · exact absurd (old i b hi ei) (by omega)
        · exact H.ap i j b hi hj ei q
      · rw [hV j hjn] at ej
        exact H.ap i j b hi hj ei ej

/-- Another row at a place. -/
def setV (V : Nat → Value) (i : Nat) (v : Value) : Nat → Value := fun j => if j = i then v else V j
theorem setV_same (V : Nat → Value) (i : Nat) (v : Value) : setV V i v i = v := if_pos rfl
theorem setV_ne (V : Nat → Value) (i j : Nat) (v : Value) (h : j ≠ i) : setV V i v j = V j := if_neg h
theorem own_ge {w : World} {B e size n : Nat} {v : Value} {xs : List Value} (h : w.ownsRow B e size v n xs) : ∀ b, v.ownBlock = some b → B ≤ b := fun b hb => (h.lt b hb).1

/-- Other names at a number. -/
theorem Rf.names {w w6 : World} {x g u : Nat} {V : Nat → Value} {F : Fs} (H : Rf w x g u V F) (n : Nat) (hn : n < 17) (Q : List (List UInt8 × Nat)) (v : Value) (hB : Below w.heap.size w w6) (hO : w6.ownsRow w.heap.size 119 2 v Q.length (nmC Q)) :
    Rf (w6.setCell ⟨g, n * 6 + 5, none⟩ v) x g u (setV V (n * 3 + 2) v) (F.nq n Q) := by
  refine H.put (U := fun _ => False) n hn { F.P n with Q := Q } _ (fun i hi => setV_ne _ _ _ _ (fun e => hi (by omega))) (Upd.of_below hB) (fun _ _ h => h.elim) 5 [v] (by simp) ?_ ?_ ?_ ?_ ?_ ?_
  · rw [setV_same, setV_ne _ _ _ _ (by omega), setV_ne _ _ _ _ (by omega)]; rfl
  · rw [setV_ne _ _ _ _ (by omega)]; exact (H.grow hB).rb n hn
  · rw [setV_ne _ _ _ _ (by omega)]; exact (H.grow hB).rB n hn
  · rw [setV_same]; exact own_mono hO (Nat.zero_le _)
  · intro i b hi e
    by_cases h : i = n * 3 + 2
    · subst h
      rw [setV_same] at e
      exact .inl (own_ge hO b e)
    · rw [setV_ne _ _ _ _ h] at e
      exact .inr e
  · intro i j b hi hj hb ei ej
    by_cases h : i = n * 3 + 2
    · by_cases h' : j = n * 3 + 2
      · omega
      · rw [setV_ne _ _ _ _ h'] at ej
        exact absurd (H.foot_lt b (.inr (.inr (.inr ⟨j, by omega, ej⟩)))) (by omega)
    · rw [setV_ne _ _ _ _ h] at ei
      exact absurd (H.foot_lt b (.inr (.inr (.inr ⟨i, by omega, ei⟩)))) (by omega)

end Go.Proofs.YtliekndkjjaldaaGreat
