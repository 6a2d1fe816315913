/- What the program's take, put, Read and Write do. -/
import Derived.Test.YtemdckmnedlfcaaPDrop
import Derived.Deep.RegionHeld3
namespace Go.Proofs.Ytemdckmnedlfcaa
open Go.RowKit Lend
set_option linter.unusedVariables false

theorem csize5 : (Try.prog.info? 5).map (·.size) = some 1 := by kernel_rfl

/-- 'copy' of elements of one cell into a block that is known whole, nil and empty sources too. -/
theorem run_copy_all {P : Program} (w : World) (dT sT ty elem : TypeId) (dp sp : Option Addr) (dLen dCap sLen sCap g off : Nat) (cur : List Value) (t : TypeId) (cs : List Value)
    (hu : P.underlying dT = some (.slice elem)) (hsz : (P.info? elem).map (·.size) = some 1) (hg : w.heap[g]? = some (.cells cur.toArray t (0, 0))) (hn : cs.length = Nat.min sLen dLen)
    (hpos : 0 < cs.length → dp = some ⟨g, off, none⟩ ∧ ∃ ad, sp = some ad ∧ ∀ j v, cs[j]? = some v → w.cell? (ad.add j) = some v)
    (hfit : off + cs.length ≤ cur.length) (h1 : ∀ v ∈ cs, v.oneCell' = true) :
    (Builtin.copy_ #[dT, sT] ty #[.slice dp dLen dCap, .slice sp sLen sCap]).run P w = .ok (goInt cs.length) (w.setRow g (splice cur off cs).toArray) := by
  by_cases h0 : cs.length = 0
  · obtain rfl : cs = [] := List.eq_nil_of_length_eq_zero h0
    have hs : w.setRow g (splice cur off []).toArray = w := by
      have : (splice cur off []).toArray = cur.toArray := by simp [splice]
      rw [this]; exact setRow_self w g _ t (0, 0) hg
    rw [hs]
    have hm : Nat.min sLen dLen = 0 := by simpa using hn.symm
    cases hq : P.info? elem with
    | none => simp [hq] at hsz
    | some i =>
      have hi : i.size = 1 := by simpa [hq] using hsz
      cases dp <;> cases sp <;> simp [Builtin.copy_, run_underlying hu, Builtin.lenOf, Builtin.firstCells, sizeOf, typeInfo, hq, hm, loadCells, loadCellsFrom, storeCells]
  · obtain ⟨rfl, ad, rfl, hsrc⟩ := hpos (by omega)
    have := run_copy_row (P := P) w dT sT ty elem g off dLen dCap ad sLen sCap cur.toArray t cs hu hsz hg hn hsrc (by simpa using hfit) h1
    simpa [splice] using this

theorem src_cells {w : World} {b o n : Nat} {zs : List Int} (h : Src w (some ⟨b, o, none⟩) n zs) : ∀ j v, (zs.map (Value.int .u8))[j]? = some v → w.cell? ((⟨b, o, none⟩ : Addr).add j) = some v := by
  intro j v hv
  rw [List.getElem?_map] at hv
  obtain ⟨z, hz, rfl⟩ := Option.map_eq_some_iff.1 hv
  have hj : j < n := by have := (List.getElem?_eq_some_iff.1 hz).1; rw [h.1] at this; exact this
  obtain ⟨b', o', e, _, hc⟩ := h.2 (by omega)
  injection e with e; injection e with e1 e2; subst e1; subst e2
  rw [Addr.add_lit, hc j hj]
  simp [List.getD, hz]

theorem Src.hp {w w' : World} {a0 : Option Addr} {len : Nat} {zs : List Int} (h : Src w a0 len zs) (e : w'.heap = w.heap) : Src w' a0 len zs :=
  ⟨h.1, fun hl => by
    obtain ⟨b, o, e', hlt, hc⟩ := h.2 hl
    exact ⟨b, o, e', by rw [e]; exact hlt, fun j hj => by rw [← hc j hj]; exact World.cell?_of_block (a := ⟨b, o + j, none⟩) (by rw [e])⟩⟩

/-- The bytes that wait lie there. -/
theorem Tb.src {w : World} {p : Nat} {k : Bool} {P : Nat → Pp} (h : Tb w p k P) (i : Nat) (hi : i < 5) (a n : Nat) (hn : a + n ≤ (P i).q.length) : Src w (some ⟨p, 2 + i * 11 + 3 + a, none⟩) n (((P i).q.drop a).take n) := by
  refine ⟨by simp; omega, fun _ => ⟨p, _, rfl, h.lt, fun j hj => ?_⟩⟩
  obtain ⟨C, hb, hc⟩ := h
  obtain ⟨z, h1, h2⟩ := hc.b i hi (a + j) (by have := hc.le i hi; omega)
  rw [Nat.add_assoc _ a j, cell_list hb h1, h2 (by omega)]
  simp [List.getD, List.getElem?_drop, hj]

/-- Behind take: the cells. -/
theorem Cls.took {C : List Value} {k : Bool} {P : Nat → Pp} (h : Cls C k P) (i : Nat) (hi : i < 5) (m : Nat) (hm : m ≤ (P i).q.length) :
    Cls ((splice C (2 + i * 11 + 3) (((P i).q.drop m).map (Value.int .u8))).set (2 + i * 11 + 2) (.int .i64 ((P i).q.length - m : Nat))) k (updP P i { P i with q := (P i).q.drop m }) := by
  have hl := h.len
  have hq := h.le i hi
  have hf : 2 + i * 11 + 3 + (((P i).q.drop m).map (Value.int .u8)).length ≤ C.length := by simp; omega
  have hsl := length_splice C _ _ hf
  refine h.put i hi _ (by rw [List.length_set, hsl, hl]) (fun j hj => ?_) ?_ ?_ ?_ (by simp; omega) (fun j hj => ?_)
  · rw [List.getElem?_set_ne (by omega), getElem?_splice_out _ _ _ _ hf (by simp; omega)]
  · rw [List.getElem?_set_ne (by omega), getElem?_splice_out _ _ _ _ hf (by omega)]; exact h.r i hi
  · rw [List.getElem?_set_ne (by omega), getElem?_splice_out _ _ _ _ hf (by omega)]; exact h.w i hi
  · rw [List.getElem?_set_self (by rw [hsl]; omega)]; simp
  · rw [List.getElem?_set_ne (by omega)]
    rcases Nat.lt_or_ge j ((P i).q.drop m).length with hj2 | hj2
    · rw [getElem?_splice_in _ _ _ _ hf (by simpa using hj2), List.getElem?_map, List.getElem?_eq_getElem hj2]
      exact ⟨_, rfl, fun _ => by rw [List.getD_eq_getElem?_getD, List.getElem?_eq_getElem hj2]; rfl⟩
    · rw [getElem?_splice_out _ _ _ _ hf (by simp at hj2 ⊢; omega)]
      obtain ⟨z, h1, _⟩ := h.b i hi j hj
      exact ⟨z, h1, fun h => absurd h (by simp at hj2 ⊢; omega)⟩

/-- Behind put: the cells. -/
theorem Cls.given {C : List Value} {k : Bool} {P : Nat → Pp} (h : Cls C k P) (i : Nat) (hi : i < 5) (zs : List Int) (hz : (P i).q.length + zs.length ≤ 8) :
    Cls ((splice C (2 + i * 11 + 3 + (P i).q.length) (zs.map (Value.int .u8))).set (2 + i * 11 + 2) (.int .i64 ((P i).q.length + zs.length : Nat))) k (updP P i { P i with q := (P i).q ++ zs }) := by
  have hl := h.len
  have hf : 2 + i * 11 + 3 + (P i).q.length + (zs.map (Value.int .u8)).length ≤ C.length := by simp; omega
  have hsl := length_splice C _ _ hf
  refine h.put i hi _ (by rw [List.length_set, hsl, hl]) (fun j hj => ?_) ?_ ?_ ?_ (by simp; omega) (fun j hj => ?_)
  · rw [List.getElem?_set_ne (by omega), getElem?_splice_out _ _ _ _ hf (by simp; omega)]
  · rw [List.getElem?_set_ne (by omega), getElem?_splice_out _ _ _ _ hf (by omega)]; exact h.r i hi
  · rw [List.getElem?_set_ne (by omega), getElem?_splice_out _ _ _ _ hf (by omega)]; exact h.w i hi
  · rw [List.getElem?_set_self (by rw [hsl]; omega)]; simp
  · rw [List.getElem?_set_ne (by omega)]
    rcases Nat.lt_or_ge j (P i).q.length with hj2 | hj2
    · rw [getElem?_splice_out _ _ _ _ hf (by omega)]
      obtain ⟨z, h1, h2⟩ := h.b i hi j hj
      exact ⟨z, h1, fun _ => by rw [h2 hj2]; simp [List.getD, List.getElem?_append_left hj2]⟩
    · rcases Nat.lt_or_ge j ((P i).q.length + zs.length) with hj3 | hj3
      · obtain ⟨a, rfl⟩ := Nat.exists_eq_add_of_le hj2
        rw [← Nat.add_assoc, getElem?_splice_in _ _ _ _ hf (by simp; omega), List.getElem?_map, List.getElem?_eq_getElem (show a < zs.length by omega)]
        exact ⟨_, rfl, fun _ => by simp [List.getD, List.getElem?_append_right, List.getElem?_eq_getElem (show a < zs.length by omega)]⟩
      · rw [getElem?_splice_out _ _ _ _ hf (by simp; omega)]
        obtain ⟨z, h1, _⟩ := h.b i hi j hj
        exact ⟨z, h1, fun h => absurd h (by simp; omega)⟩

set_option maxHeartbeats 1000000 in
theorem take_any (p i m : Nat) (count : Int) (k : Bool) (P : Nat → Pp) (w : World) (h : Tb w p k P) (hi : i < 5) (hq : 0 < (P i).q.length) (hc : 0 < count) (hm : (m : Int) = if ((P i).q.length : Int) < count then ((P i).q.length : Int) else count) :
    Calls Try.prog 30 #[.pointer (some ⟨p, 2 + i * 11, none⟩), .int .i64 count] w fun e w' => ∃ g c, e = .returned (.slice (some ⟨g, 0, none⟩) m c) ∧
      w'.ownsRow w.heap.size 5 1 (.slice (some ⟨g, 0, none⟩) m c) m (((P i).q.take m).map (Value.int .u8)) ∧ Tb w' p k (updP P i { P i with q := (P i).q.drop m }) ∧ Upd (· = p) w w' := by
  have hmn : m ≤ (P i).q.length := by split at hm <;> omega
  have hm1 : 1 ≤ m := by split at hm <;> omega
  have hn8 := h.le i hi
  have hcell := h.n i hi
  have hsrc := h.src i hi 0 m (by omega)
  rw [List.drop_zero, Nat.add_zero] at hsrc
  have kc := hid (clone_any ⟨p, 2 + i * 11 + 3, none⟩ m 8 _ w.drew (hsrc.hp rfl) (by omega))
  obtain ⟨n, gn⟩ : ∃ n, n = (P i).q.length := ⟨_, rfl⟩
  obtain ⟨o, go⟩ : ∃ o, o = 2 + i * 11 := ⟨_, rfl⟩
  rw [← gn] at hmn hn8 hcell hm
  rw [← go] at hcell kc
  have H := hid h
  have GN := hid gn
  have GO := hid go
  have hmin := hm.symm
  rw [show (some (⟨p, 2 + i * 11, none⟩ : Addr)) = some ⟨p, o, none⟩ by rw [go]]
  clear h hsrc gn go hq hm
  have c1 : (0 : Int) ≤ n := by omega
  have c2 : (n : Int) ≤ 8 := by omega
  have c3 : (0 : Int) ≤ m := by omega
  have c4 : (m : Int) ≤ 8 := by omega
  have c5 : (m : Int) ≤ n := by omega
  go_enter Try.func30, Try.ntmps30
  go_wp2_with fail
  go_region_held3 (fun wx => wx.cell? ⟨p, o + 2, none⟩ = some (.int .i64 n)) (go_keep) (fail)
  go_wp2_with fail
  refine kc.out.mono ?_
  rintro e w2 ⟨g, c, rfl, ho, hb0⟩
  have hb : Below w.heap.size w w2 := ⟨hb0.os, hb0.tape, hb0.output, hb0.size, hb0.block⟩
  have hT2 : Tb w2 p k P := H.out.below hb (by exact H.out.lt)
  have hcap : m ≤ c ∧ c ≤ 9223372036854775807 := by
    rcases ho.2 with ⟨h, _⟩ | ⟨g', c', cur, h, _, _, h1, h2, _⟩
    · cases h
    · injection h with h3 h4 h5; subst h5; unfold maxLen at h2; omega
  obtain ⟨C, hC, hCl⟩ := hT2
  have HO := hid ho
  have HB := hid hb
  have hf2 : w2.frozen? ⟨p, o + 2, none⟩ = false := by simp [World.frozen?, hC]
  have hbl := hCl.n i hi
  have hlq : (((P i).q.drop m).map (Value.int .u8)).length = n - m := by rw [GN.out]; simp
  have hcp : ∀ ty dc sc sp, (m < 8 → sp = some ⟨p, o + 3 + m, none⟩) → (Builtin.copy_ #[27, 27] ty #[.slice (some ⟨p, o + 3, none⟩) n dc, .slice sp (n - m) sc]).run Try.prog w2 = .ok (goInt ((n - m : Nat) : Int)) (w2.setRow p (splice C (o + 3) (((P i).q.drop m).map (Value.int .u8))).toArray) := by
    intro ty dc sc sp hsp
    have := run_copy_all (P := Try.prog) w2 27 27 ty 5 (some ⟨p, o + 3, none⟩) sp n dc (n - m) sc p (o + 3) C 58 (((P i).q.drop m).map (Value.int .u8)) Try.underlying27 csize5 hC (by rw [hlq]; exact (Nat.min_eq_left (by omega)).symm)
      (fun hl => ⟨rfl, ⟨p, o + 3 + m, none⟩, hsp (by omega), src_cells (by
        have := (Tb.src ⟨C, hC, hCl⟩ i hi m (n - m) (by rw [← GN.out]; omega) : Src w2 _ _ _)
        rw [List.take_of_length_le (by simp; rw [← GN.out]; omega), ← GO.out] at this
        exact this)⟩) (by rw [hlq, hCl.len, GO.out]; omega) (ints_oneCell _ _)
    rw [hlq] at this
    exact this
  have hcl2 := hCl.took i hi m (by rw [← GN.out]; exact hmn)
  rw [← GO.out, ← GN.out] at hcl2
  obtain ⟨R, gR⟩ : ∃ R, R = splice C (o + 3) (((P i).q.drop m).map (Value.int .u8)) := ⟨_, rfl⟩
  rw [← gR] at hcp hcl2
  have hset := setRow_heap w2 p C.toArray R.toArray 58 (0, 0) hC
  have hR2 : R[o + 2]? = some (.int .i64 n) := by
    rw [gR, getElem?_splice_out _ _ _ _ (by rw [hlq, hCl.len, GO.out]; omega) (by omega), GO.out, hbl, GN.out]
  have hcell2 : (w2.setRow p R.toArray).cell? ⟨p, o + 2, none⟩ = some (.int .i64 n) := by rw [cell_of_row _ p (o + 2) _ 58 (0, 0) hset]; simpa using hR2
  have hfr2 : (w2.setRow p R.toArray).frozen? ⟨p, o + 2, none⟩ = false := by simp [World.frozen?, hset]
  have HEND : Hid (Tb ((w2.setRow p R.toArray).setCell ⟨p, o + 2, none⟩ (.int .i64 ((n - m : Nat) : Int))) p k (updP P i { P i with q := (P i).q.drop m })) := by
    refine hid ⟨R.set (o + 2) (.int .i64 ((n - m : Nat) : Int)), ?_, hcl2⟩
    rw [heap_setCell_same _ p (o + 2) R.toArray 58 _ hset]; simp
  have HU : Hid (∀ v, Upd (· = p) w ((w2.setRow p R.toArray).setCell ⟨p, o + 2, none⟩ v)) := hid (fun v =>
    (Upd.of_below HB.out).trans ((Upd.setRow w2 p R.toArray (F := (· = p)) rfl).trans (Upd.setCell (F := (· = p)) _ ⟨p, o + 2, none⟩ v rfl) (fun _ _ h => h)) (fun _ _ h => h))
  have HO2 : Hid (∀ v, ((w2.setRow p R.toArray).setCell ⟨p, o + 2, none⟩ v).ownsRow w.heap.size 5 1 (.slice (some ⟨g, 0, none⟩) m c) m (((P i).q.take m).map (Value.int .u8))) := hid (fun v =>
    ((Upd.setRow w2 p R.toArray (F := (· = p)) rfl).trans (Upd.setCell (F := (· = p)) _ ⟨p, o + 2, none⟩ v rfl) (fun _ _ h => h)).own HO.out (fun x hx => by
      simp [Value.ownBlock] at hx; subst hx
      have := (HO.out.lt g rfl).1
      have := H.out.lt
      have e : w.drew.heap.size = w.heap.size := rfl
      intro h; omega))
  clear ho hb hb0 hC hbl hlq gR hset hR2 hcl2 hCl kc
  by_cases c8 : m = 8
  · obtain rfl : n = 8 := by omega
    subst c8
    have hcp2 := fun ty dc sc => hcp ty dc sc (some ⟨p, o + 3, none⟩) (fun h => absurd h (by omega))
    clear hcp
    go_wp2_with fail
    go_ret
    exact ⟨g, c, rfl, HO2.out _, HEND.out, HU.out _⟩
  · have c9 : (m : Int) < 8 := by omega
    have hcp2 := fun ty dc sc => hcp ty dc sc _ (fun _ => rfl)
    clear hcp
    go_wp2_with fail
    go_ret
    exact ⟨g, c, rfl, HO2.out _, HEND.out, HU.out _⟩

set_option maxHeartbeats 1000000 in
theorem put_any (p i m len cap : Nat) (ad : Addr) (k : Bool) (P : Nat → Pp) (zs : List Int) (w : World) (h : Tb w p k P) (hi : i < 5) (hq : (P i).q.length < 8) (hs : Src w (some ad) len zs) (hl : 0 < len) (hm : m = min len (8 - (P i).q.length)) :
    Calls Try.prog 33 #[.pointer (some ⟨p, 2 + i * 11, none⟩), .slice (some ad) len cap] w fun e w' => e = .returned (.int .i64 m) ∧ Tb w' p k (updP P i { P i with q := (P i).q ++ zs.take m }) ∧ Upd (· = p) w w' ∧ w'.heap.size = w.heap.size := by
  have hcell := h.n i hi
  obtain ⟨C, hC, hCl⟩ := h
  obtain ⟨b, oo, e, _⟩ := hs.2 hl
  have hlz : ((zs.take m).map (Value.int .u8)).length = m := by have := hs.1; simp; omega
  have hcp : ∀ ty, (Builtin.copy_ #[27, 27] ty #[.slice (some ⟨p, 2 + i * 11 + 3 + (P i).q.length, none⟩) (8 - (P i).q.length) (8 - (P i).q.length), .slice (some ad) len cap]).run Try.prog w.drew = .ok (goInt (m : Int)) (w.drew.setRow p (splice C (2 + i * 11 + 3 + (P i).q.length) ((zs.take m).map (Value.int .u8))).toArray) := by
    intro ty
    have := run_copy_all (P := Try.prog) w.drew 27 27 ty 5 (some ⟨p, 2 + i * 11 + 3 + (P i).q.length, none⟩) (some ad) (8 - (P i).q.length) (8 - (P i).q.length) len cap p (2 + i * 11 + 3 + (P i).q.length) C 58 ((zs.take m).map (Value.int .u8)) Try.underlying27 csize5 hC (by rw [hlz, hm])
      (fun hl => ⟨rfl, ad, rfl, fun j v hv => by
        injection e with e; subst e
        have h2 := src_cells (w := w.drew) (hs.hp rfl) j v
        refine h2 ?_
        rw [List.getElem?_map] at hv ⊢
        have hj : j < m := by
          rcases Nat.lt_or_ge j m with h | h
          · exact h
          · rw [List.getElem?_eq_none (by have := hs.1; simp; omega)] at hv; simp at hv
        rw [List.getElem?_take_of_lt hj] at hv; exact hv⟩) (by rw [hlz, hCl.len]; omega) (ints_oneCell _ _)
    rw [hlz] at this
    exact this
  have hcl2 := hCl.given i hi (zs.take m) (by have := hs.1; simp; omega)
  have hle : (zs.take m).length = m := by simpa using hlz
  rw [hle] at hcl2
  obtain ⟨n, gn⟩ : ∃ n, n = (P i).q.length := ⟨_, rfl⟩
  obtain ⟨o, go⟩ : ∃ o, o = 2 + i * 11 := ⟨_, rfl⟩
  rw [← gn] at hcl2 hcp hcell hq hm
  rw [← go] at hcl2 hcp hcell
  obtain ⟨R, gR⟩ : ∃ R, R = splice C (o + 3 + n) ((zs.take m).map (Value.int .u8)) := ⟨_, rfl⟩
  rw [← gR] at hcl2 hcp
  have hset := setRow_heap w.drew p C.toArray R.toArray 58 (0, 0) hC
  have hR2 : R[o + 2]? = some (.int .i64 n) := by
    rw [gR, getElem?_splice_out _ _ _ _ (by rw [hlz, hCl.len]; omega) (by omega), go, gn]; exact hCl.n i hi
  have hcell2 : (w.drew.setRow p R.toArray).cell? ⟨p, o + 2, none⟩ = some (.int .i64 n) := by rw [cell_of_row _ p (o + 2) _ 58 (0, 0) hset]; simpa using hR2
  have hfr2 : (w.drew.setRow p R.toArray).frozen? ⟨p, o + 2, none⟩ = false := by simp [World.frozen?, hset]
  have HEND : Hid (Tb ((w.drew.setRow p R.toArray).setCell ⟨p, o + 2, none⟩ (.int .i64 ((n + m : Nat) : Int))) p k (updP P i { P i with q := (P i).q ++ zs.take m })) := by
    refine hid ⟨R.set (o + 2) (.int .i64 ((n + m : Nat) : Int)), ?_, hcl2⟩
    rw [heap_setCell_same _ p (o + 2) R.toArray 58 _ hset]; simp
  have HU : Hid (∀ v, Upd (· = p) w ((w.drew.setRow p R.toArray).setCell ⟨p, o + 2, none⟩ v)) := hid (fun v =>
    ((Upd.refl (· = p) w).drewN 1).trans ((Upd.setRow w.drew p R.toArray (F := (· = p)) rfl).trans (Upd.setCell (F := (· = p)) _ ⟨p, o + 2, none⟩ v rfl) (fun _ _ h => h)) (fun _ _ h => h))
  have HZ : Hid (∀ v, ((w.drew.setRow p R.toArray).setCell ⟨p, o + 2, none⟩ v).heap.size = w.heap.size) := hid (fun v => by simp)
  rw [show (some (⟨p, 2 + i * 11, none⟩ : Addr)) = some ⟨p, o, none⟩ by rw [go]]
  have hm8 : n + m ≤ 8 := by omega
  clear hs e gR hset hR2 hcl2 hCl hC gn go hlz hle hm
  have c1 : (0 : Int) ≤ n := by omega
  have c2 : (n : Int) ≤ 8 := by omega
  have c3 : (n : Int) < 8 := by omega
  go_enter Try.func33, Try.ntmps33
  go_wp2_with fail
  go_region_held3 (fun wx => wx.cell? ⟨p, o + 2, none⟩ = some (.int .i64 n)) (go_keep) (fail)
  go_wp2_with fail
  go_ret
  exact ⟨rfl, HEND.out, HU.out _, HZ.out _⟩

end Go.Proofs.Ytemdckmnedlfcaa
