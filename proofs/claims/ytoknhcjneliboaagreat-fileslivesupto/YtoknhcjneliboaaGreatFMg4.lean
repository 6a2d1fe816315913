/- Texts of this seat, merged. -/
import Derived.Test.YtoknhcjneliboaaGreatFMg3
import Derived.Deep.RegionHeld3
import Derived.OwnWalk
import Derived.Test.YtoknhcjneliboaaGreatChecked
import Derived.Test.YtoknhcjneliboaaGreatFMg1
import Derived.Laws.BytesArg
import Derived.Laws.AppendOwnNone

/- What the program's Hold and Drop do. -/
namespace Go.Proofs.YtoknhcjneliboaaGreat.Pi
open Go.RowKit Lend
set_option linter.unusedVariables false
set_option maxRecDepth 20000

/-- The count of a pipe's writers, or of its readers. -/
def Pp.ends (x : Pp) (b : Bool) : Nat := if b then x.w else x.r
def Pp.setEnds (x : Pp) (b : Bool) (m : Nat) : Pp := if b then { x with w := m } else { x with r := m }

theorem Tb.ends {w : World} {p : Nat} {k : Bool} {P : Nat → Pp} (h : Tb w p k P) (i : Nat) (hi : i < 5) (b : Bool) : w.cell? ⟨p, 2 + i * 11 + (if b then 1 else 0), none⟩ = some (.int .i64 ((P i).ends b)) := by
  cases b
  · exact h.r i hi
  · exact h.w i hi
theorem Tb.frozen {w : World} {p : Nat} {k : Bool} {P : Nat → Pp} (h : Tb w p k P) (o : Nat) : w.frozen? ⟨p, o, none⟩ = false := by
  obtain ⟨C, hb, hc⟩ := h
  simp [World.frozen?, hb]

/-- Another count of writers, or of readers, is stored. -/
theorem Tb.setEnds {w : World} {p : Nat} {k : Bool} {P : Nat → Pp} (h : Tb w p k P) (i : Nat) (hi : i < 5) (b : Bool) (m : Nat) :
    Tb (w.setCell ⟨p, 2 + i * 11 + (if b then 1 else 0), none⟩ (.int .i64 m)) p k (updP P i ((P i).setEnds b m)) := by
  obtain ⟨C, hb, hc⟩ := h
  have hl := hc.len
  have hs := heap_setCell_same w p (2 + i * 11 + (if b then 1 else 0)) C.toArray 110 (.int .i64 m) hb
  refine ⟨C.set (2 + i * 11 + (if b then 1 else 0)) (.int .i64 m), by rw [hs]; simp, ?_⟩
  cases b
  · refine hc.put i hi _ (by simp [hl]) (fun j hj => by rw [List.getElem?_set_ne (by simp; omega)]) ?_ ?_ ?_ ?_ ?_
    · simp only [Pp.setEnds, Bool.false_eq_true, if_false, Nat.add_zero]; rw [List.getElem?_set_self (by omega)]
    · rw [List.getElem?_set_ne (by simp)]; exact hc.w i hi
    · rw [List.getElem?_set_ne (by simp)]; exact hc.n i hi
    · exact hc.le i hi
    · intro j hj; rw [List.getElem?_set_ne (by simp; omega)]; exact hc.b i hi j hj
  · refine hc.put i hi _ (by simp [hl]) (fun j hj => by rw [List.getElem?_set_ne (by simp; omega)]) ?_ ?_ ?_ ?_ ?_
    · rw [List.getElem?_set_ne (by simp)]; exact hc.r i hi
    · simp only [Pp.setEnds, if_true]; rw [List.getElem?_set_self (by omega)]
    · rw [List.getElem?_set_ne (by simp)]; exact hc.n i hi
    · exact hc.le i hi
    · intro j hj; rw [List.getElem?_set_ne (by simp; omega)]; exact hc.b i hi j hj

set_option maxHeartbeats 1000000 in
theorem drop_err (x : Option Addr) (n c : Int) (b : Bool) (w : World) (h : Calls Tryz.prog 209 #[.pointer x, .int .i64 n] w fun e w' => e = .returned (.tuple #[.pointer none, .int .i64 c]) ∧ w' = w) (hc : ¬ c = 0) :
    Calls Tryz.prog 206 #[.pointer x, .int .i64 n, .bool b] w fun e w' => e = .returned (.int .i64 c) ∧ w' = w := by
  have k1 := hid h
  clear h
  go_enter Tryz.func206, Tryz.ntmps206
  go_wp2_with fail
  refine k1.out.mono ?_
  rintro e w1 ⟨rfl, rfl⟩
  go_wp2_with fail
  go_ret
  exact ⟨rfl, rfl⟩

set_option maxHeartbeats 1000000 in
theorem drop_none (p i : Nat) (k b : Bool) (P : Nat → Pp) (w : World) (h : Tb w p k P) (h1 : 1 ≤ i) (h4 : i ≤ 4) (ht : (P i).there = true) (hm : (P i).ends b = 0) :
    Calls Tryz.prog 206 #[.pointer (some ⟨p, 0, none⟩), .int .i64 i, .bool b] w fun e w' => e = .returned (.int .i64 22) ∧ w' = w := by
  have k1 := hid (pipe_yes p i k P w h h1 h4 ht)
  have k2 := hid (ends_any p (2 + i * 11) b w)
  have hc := h.ends i (by omega) b
  obtain ⟨o, go⟩ : ∃ o, o = 2 + i * 11 + (if b then 1 else 0) := ⟨_, rfl⟩
  rw [hm, ← go] at hc
  rw [← go] at k2
  clear h ht go hm
  go_enter Tryz.func206, Tryz.ntmps206
  go_wp2_with fail
  refine k1.out.mono ?_
  rintro e w1 ⟨rfl, rfl⟩
  go_wp2_with fail
  refine k2.out.mono ?_
  rintro e w1 ⟨rfl, rfl⟩
  go_wp2_with fail
  go_ret
  exact ⟨rfl, rfl⟩

set_option maxHeartbeats 1000000 in
theorem drop_keeps (p i : Nat) (P : Nat → Pp) (w : World) (h : Tb w p true P) (h1 : 1 ≤ i) (h4 : i ≤ 4) (ht : (P i).there = true) (hm : 0 < (P i).w) :
    Calls Tryz.prog 206 #[.pointer (some ⟨p, 0, none⟩), .int .i64 i, .bool true] w fun e w' => e = .returned (.int .i64 0) ∧ w' = w := by
  have k1 := hid (pipe_yes p i true P w h h1 h4 ht)
  have k2 := hid (ends_any p (2 + i * 11) true w)
  have hc := h.w i (by omega)
  have hk := h.keep
  obtain ⟨m, gm⟩ : ∃ m, m = (P i).w := ⟨_, rfl⟩
  obtain ⟨o, go⟩ : ∃ o, o = 2 + i * 11 + 1 := ⟨_, rfl⟩
  rw [← gm, ← go] at hc
  rw [if_pos rfl, ← go] at k2
  rw [← gm] at hm
  have c1 : ¬ (m : Int) = 0 := by omega
  clear h ht go gm hm
  go_enter Tryz.func206, Tryz.ntmps206
  go_wp2_with fail
  refine k1.out.mono ?_
  rintro e w1 ⟨rfl, rfl⟩
  go_wp2_with fail
  refine k2.out.mono ?_
  rintro e w1 ⟨rfl, rfl⟩
  go_wp2_with fail
  go_ret
  exact ⟨rfl, rfl⟩

set_option maxHeartbeats 1000000 in
theorem drop_yes (p i : Nat) (k b : Bool) (P : Nat → Pp) (w : World) (h : Tb w p k P) (h1 : 1 ≤ i) (h4 : i ≤ 4) (ht : (P i).there = true) (hm : 0 < (P i).ends b) (hle : (P i).ends b ≤ 1000) (hkb : b = true → k = false) :
    Calls Tryz.prog 206 #[.pointer (some ⟨p, 0, none⟩), .int .i64 i, .bool b] w fun e w' => e = .returned (.int .i64 0) ∧ Tb w' p k (updP P i ((P i).setEnds b ((P i).ends b - 1))) ∧ Upd (· = p) w w' ∧ w'.heap.size = w.heap.size := by
  have k1 := hid (pipe_yes p i k P w h h1 h4 ht)
  have k2 := hid (ends_any p (2 + i * 11) b w)
  have HN := hid (h.setEnds i (by omega) b ((P i).ends b - 1))
  have hc := h.ends i (by omega) b
  have hf := h.frozen (2 + i * 11 + (if b then 1 else 0))
  have hk := h.keep
  obtain ⟨m, gm⟩ : ∃ m, m = (P i).ends b := ⟨_, rfl⟩
  obtain ⟨o, go⟩ : ∃ o, o = 2 + i * 11 + (if b then 1 else 0) := ⟨_, rfl⟩
  rw [← gm] at hc HN hm hle
  rw [← go] at hc hf HN k2
  have HG := hid gm
  clear h ht gm go
  have c1 : ¬ (m : Int) = 0 := by omega
  rw [show (P i).ends b = m from HG.out.symm]
  clear HG
  cases b
  · clear hkb
    go_enter Tryz.func206, Tryz.ntmps206
    go_wp2_with fail
    refine k1.out.mono ?_
    rintro e w1 ⟨rfl, rfl⟩
    go_wp2_with fail
    refine k2.out.mono ?_
    rintro e w1 ⟨rfl, rfl⟩
    go_wp2_with fail
    go_ret
    have e : (m : Int) - 1 = ((m - 1 : Nat) : Int) := by omega
    rw [e]
    exact ⟨rfl, HN.out, Upd.setCell _ _ _ rfl, by simp⟩
  · obtain rfl := hkb rfl
    clear hkb
    go_enter Tryz.func206, Tryz.ntmps206
    go_wp2_with fail
    refine k1.out.mono ?_
    rintro e w1 ⟨rfl, rfl⟩
    go_wp2_with fail
    refine k2.out.mono ?_
    rintro e w1 ⟨rfl, rfl⟩
    go_wp2_with fail
    go_ret
    have e : (m : Int) - 1 = ((m - 1 : Nat) : Int) := by omega
    rw [e]
    exact ⟨rfl, HN.out, Upd.setCell _ _ _ rfl, by simp⟩

end Go.Proofs.YtoknhcjneliboaaGreat.Pi

/- What the program's take, put, Read and Write do. -/
namespace Go.Proofs.YtoknhcjneliboaaGreat.Pi
open Go.RowKit Lend
set_option linter.unusedVariables false
set_option maxRecDepth 20000

theorem csize5 : (Tryz.prog.info? 5).map (·.size) = some 1 := by kernel_rfl

/-- 'copy' of elements of one cell into a block that is known whole, nil and empty sources too. -/
theorem run_copy_all {P : Program} (w : World) (dT sT ty elem : TypeId) (dp sp : Option Addr) (dLen dCap sLen sCap g off : Nat) (cur : List Value) (t : TypeId) (cs : List Value)
    (hu : P.underlying dT = some (.slice elem)) (hsz : (P.info? elem).map (·.size) = some 1) (hg : w.heap[g]? = some (.cells cur.toArray t (0, 0))) (hn : cs.length = Nat.min sLen dLen)
    (hpos : 0 < cs.length → dp = some ⟨g, off, none⟩ ∧ ∃ ad, sp = some ad ∧ ∀ j v, cs[j]? = some v → w.cell? (ad.add j) = some v)
    (hfit : off + cs.length ≤ cur.length) (h1 : ∀ v ∈ cs, v.oneCell' = true) :
    (Builtin.copy_ #[dT, sT] ty #[.slice dp dLen dCap, .slice sp sLen sCap]).run P w = .ok (goInt cs.length) (w.setRow g (splice cur off cs).toArray) := by
  by_cases h0 : cs.length = 0
  · obtain rfl : cs = [] := List.eq_nil_of_length_eq_zero h0
    have hs : w.setRow g (splice cur off []).toArray = w := by
      have : (splice cur off []).toArray = cur.toArray := by simp [splice]
      rw [this]; exact setRow_self w g _ t (0, 0) hg
    rw [hs]
    have hm : Nat.min sLen dLen = 0 := by simpa using hn.symm
    cases hq : P.info? elem with
    | none => simp [hq] at hsz
    | some i =>
      have hi : i.size = 1 := by simpa [hq] using hsz
      cases dp <;> cases sp <;> simp [Builtin.copy_, run_underlying hu, Builtin.lenOf, Builtin.firstCells, sizeOf, typeInfo, hq, hm, loadCells, loadCellsFrom, storeCells]
  · obtain ⟨rfl, ad, rfl, hsrc⟩ := hpos (by omega)
    have := run_copy_row (P := P) w dT sT ty elem g off dLen dCap ad sLen sCap cur.toArray t cs hu hsz hg hn hsrc (by simpa using hfit) h1
    simpa [splice] using this

theorem src_cells {w : World} {b o n : Nat} {zs : List Int} (h : Src w (some ⟨b, o, none⟩) n zs) : ∀ j v, (zs.map (Value.int .u8))[j]? = some v → w.cell? ((⟨b, o, none⟩ : Addr).add j) = some v := by
  intro j v hv
  rw [List.getElem?_map] at hv
  obtain ⟨z, hz, rfl⟩ := Option.map_eq_some_iff.1 hv
  have hj : j < n := by have := (List.getElem?_eq_some_iff.1 hz).1; rw [h.1] at this; exact this
  obtain ⟨b', o', e, _, hc⟩ := h.2 (by omega)
  injection e with e; injection e with e1 e2; subst e1; subst e2
  rw [Addr.add_lit, hc j hj]
  simp [List.getD, hz]

theorem _root_.Go.Proofs.YtoknhcjneliboaaGreat.Src.hp {w w' : World} {a0 : Option Addr} {len : Nat} {zs : List Int} (h : Src w a0 len zs) (e : w'.heap = w.heap) : Src w' a0 len zs :=
  ⟨h.1, fun hl => by
    obtain ⟨b, o, e', hlt, hc⟩ := h.2 hl
    exact ⟨b, o, e', by rw [e]; exact hlt, fun j hj => by rw [← hc j hj]; exact World.cell?_of_block (a := ⟨b, o + j, none⟩) (by rw [e])⟩⟩

/-- The bytes that wait lie there. -/
theorem Tb.src {w : World} {p : Nat} {k : Bool} {P : Nat → Pp} (h : Tb w p k P) (i : Nat) (hi : i < 5) (a n : Nat) (hn : a + n ≤ (P i).q.length) : Src w (some ⟨p, 2 + i * 11 + 3 + a, none⟩) n (((P i).q.drop a).take n) := by
  refine ⟨by simp; omega, fun _ => ⟨p, _, rfl, h.lt, fun j hj => ?_⟩⟩
  obtain ⟨C, hb, hc⟩ := h
  obtain ⟨z, h1, h2⟩ := hc.b i hi (a + j) (by have := hc.le i hi; omega)
  rw [Nat.add_assoc _ a j, cell_list hb h1, h2 (by omega)]
  simp [List.getD, List.getElem?_drop, hj]

/-- Behind take: the cells. -/
theorem Cls.took {C : List Value} {k : Bool} {P : Nat → Pp} (h : Cls C k P) (i : Nat) (hi : i < 5) (m : Nat) (hm : m ≤ (P i).q.length) :
    Cls ((splice C (2 + i * 11 + 3) (((P i).q.drop m).map (Value.int .u8))).set (2 + i * 11 + 2) (.int .i64 ((P i).q.length - m : Nat))) k (updP P i { P i with q := (P i).q.drop m }) := by
  have hl := h.len
  have hq := h.le i hi
  have hf : 2 + i * 11 + 3 + (((P i).q.drop m).map (Value.int .u8)).length ≤ C.length := by simp; omega
  have hsl := length_splice C _ _ hf
  refine h.put i hi _ (by rw [List.length_set, hsl, hl]) (fun j hj => ?_) ?_ ?_ ?_ (by simp; omega) (fun j hj => ?_)
  · rw [List.getElem?_set_ne (by omega), getElem?_splice_out _ _ _ _ hf (by simp; omega)]
  · rw [List.getElem?_set_ne (by omega), getElem?_splice_out _ _ _ _ hf (by omega)]; exact h.r i hi
  · rw [List.getElem?_set_ne (by omega), getElem?_splice_out _ _ _ _ hf (by omega)]; exact h.w i hi
  · rw [List.getElem?_set_self (by rw [hsl]; omega)]; simp
  · rw [List.getElem?_set_ne (by omega)]
    rcases Nat.lt_or_ge j ((P i).q.drop m).length with hj2 | hj2
    · rw [getElem?_splice_in _ _ _ _ hf (by simpa using hj2), List.getElem?_map, List.getElem?_eq_getElem hj2]
      exact ⟨_, rfl, fun _ => by rw [List.getD_eq_getElem?_getD, List.getElem?_eq_getElem hj2]; rfl⟩
    · rw [getElem?_splice_out _ _ _ _ hf (by simp at hj2 ⊢; omega)]
      obtain ⟨z, h1, _⟩ := h.b i hi j hj
      exact ⟨z, h1, fun h => absurd h (by simp at hj2 ⊢; omega)⟩

/-- Behind put: the cells. -/
theorem Cls.given {C : List Value} {k : Bool} {P : Nat → Pp} (h : Cls C k P) (i : Nat) (hi : i < 5) (zs : List Int) (hz : (P i).q.length + zs.length ≤ 8) :
    Cls ((splice C (2 + i * 11 + 3 + (P i).q.length) (zs.map (Value.int .u8))).set (2 + i * 11 + 2) (.int .i64 ((P i).q.length + zs.length : Nat))) k (updP P i { P i with q := (P i).q ++ zs }) := by
  have hl := h.len
  have hf : 2 + i * 11 + 3 + (P i).q.length + (zs.map (Value.int .u8)).length ≤ C.length := by simp; omega
  have hsl := length_splice C _ _ hf
  refine h.put i hi _ (by rw [List.length_set, hsl, hl]) (fun j hj => ?_) ?_ ?_ ?_ (by simp; omega) (fun j hj => ?_)
  · rw [List.getElem?_set_ne (by omega), getElem?_splice_out _ _ _ _ hf (by simp; omega)]
  · rw [List.getElem?_set_ne (by omega), getElem?_splice_out _ _ _ _ hf (by omega)]; exact h.r i hi
  · rw [List.getElem?_set_ne (by omega), getElem?_splice_out _ _ _ _ hf (by omega)]; exact h.w i hi
  · rw [List.getElem?_set_self (by rw [hsl]; omega)]; simp
  · rw [List.getElem?_set_ne (by omega)]
    rcases Nat.lt_or_ge j (P i).q.length with hj2 | hj2
    · rw [getElem?_splice_out _ _ _ _ hf (by omega)]
      obtain ⟨z, h1, h2⟩ := h.b i hi j hj
      exact ⟨z, h1, fun _ => by rw [h2 hj2]; simp [List.getD, List.getElem?_append_left hj2]⟩
    · rcases Nat.lt_or_ge j ((P i).q.length + zs.length) with hj3 | hj3
      · obtain ⟨a, rfl⟩ := Nat.exists_eq_add_of_le hj2
        rw [← Nat.add_assoc, getElem?_splice_in _ _ _ _ hf (by simp; omega), List.getElem?_map, List.getElem?_eq_getElem (show a < zs.length by omega)]
        exact ⟨_, rfl, fun _ => by simp [List.getD, List.getElem?_append_right, List.getElem?_eq_getElem (show a < zs.length by omega)]⟩
      · rw [getElem?_splice_out _ _ _ _ hf (by simp; omega)]
        obtain ⟨z, h1, _⟩ := h.b i hi j hj
        exact ⟨z, h1, fun h => absurd h (by simp; omega)⟩

set_option maxHeartbeats 1000000 in
theorem take_any (p i m : Nat) (count : Int) (k : Bool) (P : Nat → Pp) (w : World) (h : Tb w p k P) (hi : i < 5) (hq : 0 < (P i).q.length) (hc : 0 < count) (hm : (m : Int) = if ((P i).q.length : Int) < count then ((P i).q.length : Int) else count) :
    Calls Tryz.prog 211 #[.pointer (some ⟨p, 2 + i * 11, none⟩), .int .i64 count] w fun e w' => ∃ g c, e = .returned (.slice (some ⟨g, 0, none⟩) m c) ∧
      w'.ownsRow w.heap.size 5 1 (.slice (some ⟨g, 0, none⟩) m c) m (((P i).q.take m).map (Value.int .u8)) ∧ Tb w' p k (updP P i { P i with q := (P i).q.drop m }) ∧ Upd (· = p) w w' := by
  have hmn : m ≤ (P i).q.length := by split at hm <;> omega
  have hm1 : 1 ≤ m := by split at hm <;> omega
  have hn8 := h.le i hi
  have hcell := h.n i hi
  have hsrc := h.src i hi 0 m (by omega)
  rw [List.drop_zero, Nat.add_zero] at hsrc
  have kc := hid (clone_any ⟨p, 2 + i * 11 + 3, none⟩ m 8 _ w.drew (hsrc.hp rfl) (by omega))
  obtain ⟨n, gn⟩ : ∃ n, n = (P i).q.length := ⟨_, rfl⟩
  obtain ⟨o, go⟩ : ∃ o, o = 2 + i * 11 := ⟨_, rfl⟩
  rw [← gn] at hmn hn8 hcell hm
  rw [← go] at hcell kc
  have H := hid h
  have GN := hid gn
  have GO := hid go
  have hmin := hm.symm
  rw [show (some (⟨p, 2 + i * 11, none⟩ : Addr)) = some ⟨p, o, none⟩ by rw [go]]
  clear h hsrc gn go hq hm
  have c1 : (0 : Int) ≤ n := by omega
  have c2 : (n : Int) ≤ 8 := by omega
  have c3 : (0 : Int) ≤ m := by omega
  have c4 : (m : Int) ≤ 8 := by omega
  have c5 : (m : Int) ≤ n := by omega
  go_enter Tryz.func211, Tryz.ntmps211
  go_wp2_with fail
  go_region_held3 (fun wx => wx.cell? ⟨p, o + 2, none⟩ = some (.int .i64 n)) (go_keep) (fail)
  go_wp2_with fail
  refine kc.out.mono ?_
  rintro e w2 ⟨g, c, rfl, ho, hb0⟩
  have hb : Below w.heap.size w w2 := ⟨hb0.os, hb0.tape, hb0.output, hb0.size, hb0.block⟩
  have hT2 : Tb w2 p k P := H.out.below hb (by exact H.out.lt)
  have hcap : m ≤ c ∧ c ≤ 9223372036854775807 := by
    rcases ho.2 with ⟨h, _⟩ | ⟨g', c', cur, h, _, _, h1, h2, _⟩
    · cases h
    · injection h with h3 h4 h5; subst h5; unfold maxLen at h2; omega
  obtain ⟨C, hC, hCl⟩ := hT2
  have HO := hid ho
  have HB := hid hb
  have hf2 : w2.frozen? ⟨p, o + 2, none⟩ = false := by simp [World.frozen?, hC]
  have hbl := hCl.n i hi
  have hlq : (((P i).q.drop m).map (Value.int .u8)).length = n - m := by rw [GN.out]; simp
  have hcp : ∀ ty dc sc sp, (m < 8 → sp = some ⟨p, o + 3 + m, none⟩) → (Builtin.copy_ #[30, 30] ty #[.slice (some ⟨p, o + 3, none⟩) n dc, .slice sp (n - m) sc]).run Tryz.prog w2 = .ok (goInt ((n - m : Nat) : Int)) (w2.setRow p (splice C (o + 3) (((P i).q.drop m).map (Value.int .u8))).toArray) := by
    intro ty dc sc sp hsp
    have := run_copy_all (P := Tryz.prog) w2 30 30 ty 5 (some ⟨p, o + 3, none⟩) sp n dc (n - m) sc p (o + 3) C 110 (((P i).q.drop m).map (Value.int .u8)) Tryz.underlying30 csize5 hC (by rw [hlq]; exact (Nat.min_eq_left (by omega)).symm)
      (fun hl => ⟨rfl, ⟨p, o + 3 + m, none⟩, hsp (by omega), src_cells (by
        have := (Tb.src ⟨C, hC, hCl⟩ i hi m (n - m) (by rw [← GN.out]; omega) : Src w2 _ _ _)
        rw [List.take_of_length_le (by simp; rw [← GN.out]; omega), ← GO.out] at this
        exact this)⟩) (by rw [hlq, hCl.len, GO.out]; omega) (ints_oneCell _ _)
    rw [hlq] at this
    exact this
  have hcl2 := hCl.took i hi m (by rw [← GN.out]; exact hmn)
  rw [← GO.out, ← GN.out] at hcl2
  obtain ⟨R, gR⟩ : ∃ R, R = splice C (o + 3) (((P i).q.drop m).map (Value.int .u8)) := ⟨_, rfl⟩
  rw [← gR] at hcp hcl2
  have hset := setRow_heap w2 p C.toArray R.toArray 110 (0, 0) hC
  have hR2 : R[o + 2]? = some (.int .i64 n) := by
    rw [gR, getElem?_splice_out _ _ _ _ (by rw [hlq, hCl.len, GO.out]; omega) (by omega), GO.out, hbl, GN.out]
  have hcell2 : (w2.setRow p R.toArray).cell? ⟨p, o + 2, none⟩ = some (.int .i64 n) := by rw [cell_of_row _ p (o + 2) _ 110 (0, 0) hset]; simpa using hR2
  have hfr2 : (w2.setRow p R.toArray).frozen? ⟨p, o + 2, none⟩ = false := by simp [World.frozen?, hset]
  have HEND : Hid (Tb ((w2.setRow p R.toArray).setCell ⟨p, o + 2, none⟩ (.int .i64 ((n - m : Nat) : Int))) p k (updP P i { P i with q := (P i).q.drop m })) := by
    refine hid ⟨R.set (o + 2) (.int .i64 ((n - m : Nat) : Int)), ?_, hcl2⟩
    rw [heap_setCell_same _ p (o + 2) R.toArray 110 _ hset]; simp
  have HU : Hid (∀ v, Upd (· = p) w ((w2.setRow p R.toArray).setCell ⟨p, o + 2, none⟩ v)) := hid (fun v =>
    (Upd.of_below HB.out).trans ((Upd.setRow w2 p R.toArray (F := (· = p)) rfl).trans (Upd.setCell (F := (· = p)) _ ⟨p, o + 2, none⟩ v rfl) (fun _ _ h => h)) (fun _ _ h => h))
  have HO2 : Hid (∀ v, ((w2.setRow p R.toArray).setCell ⟨p, o + 2, none⟩ v).ownsRow w.heap.size 5 1 (.slice (some ⟨g, 0, none⟩) m c) m (((P i).q.take m).map (Value.int .u8))) := hid (fun v =>
    ((Upd.setRow w2 p R.toArray (F := (· = p)) rfl).trans (Upd.setCell (F := (· = p)) _ ⟨p, o + 2, none⟩ v rfl) (fun _ _ h => h)).own HO.out (fun x hx => by
      simp [Value.ownBlock] at hx; subst hx
      have := (HO.out.lt g rfl).1
      have := H.out.lt
      have e : w.drew.heap.size = w.heap.size := rfl
      intro h; omega))
  clear ho hb hb0 hC hbl hlq gR hset hR2 hcl2 hCl kc
  by_cases c8 : m = 8
  · obtain rfl : n = 8 := by omega
    subst c8
    have hcp2 := fun ty dc sc => hcp ty dc sc (some ⟨p, o + 3, none⟩) (fun h => absurd h (by omega))
    clear hcp
    go_wp2_with fail
    go_ret
    exact ⟨g, c, rfl, HO2.out _, HEND.out, HU.out _⟩
  · have c9 : (m : Int) < 8 := by omega
    have hcp2 := fun ty dc sc => hcp ty dc sc _ (fun _ => rfl)
    clear hcp
    go_wp2_with fail
    go_ret
    exact ⟨g, c, rfl, HO2.out _, HEND.out, HU.out _⟩

set_option maxHeartbeats 1000000 in
theorem put_any (p i m len cap : Nat) (ad : Addr) (k : Bool) (P : Nat → Pp) (zs : List Int) (w : World) (h : Tb w p k P) (hi : i < 5) (hq : (P i).q.length < 8) (hs : Src w (some ad) len zs) (hl : 0 < len) (hm : m = min len (8 - (P i).q.length)) :
    Calls Tryz.prog 212 #[.pointer (some ⟨p, 2 + i * 11, none⟩), .slice (some ad) len cap] w fun e w' => e = .returned (.int .i64 m) ∧ Tb w' p k (updP P i { P i with q := (P i).q ++ zs.take m }) ∧ Upd (· = p) w w' ∧ w'.heap.size = w.heap.size := by
  have hcell := h.n i hi
  obtain ⟨C, hC, hCl⟩ := h
  obtain ⟨b, oo, e, _⟩ := hs.2 hl
  have hlz : ((zs.take m).map (Value.int .u8)).length = m := by have := hs.1; simp; omega
  have hcp : ∀ ty, (Builtin.copy_ #[30, 30] ty #[.slice (some ⟨p, 2 + i * 11 + 3 + (P i).q.length, none⟩) (8 - (P i).q.length) (8 - (P i).q.length), .slice (some ad) len cap]).run Tryz.prog w.drew = .ok (goInt (m : Int)) (w.drew.setRow p (splice C (2 + i * 11 + 3 + (P i).q.length) ((zs.take m).map (Value.int .u8))).toArray) := by
    intro ty
    have := run_copy_all (P := Tryz.prog) w.drew 30 30 ty 5 (some ⟨p, 2 + i * 11 + 3 + (P i).q.length, none⟩) (some ad) (8 - (P i).q.length) (8 - (P i).q.length) len cap p (2 + i * 11 + 3 + (P i).q.length) C 110 ((zs.take m).map (Value.int .u8)) Tryz.underlying30 csize5 hC (by rw [hlz, hm])
      (fun hl => ⟨rfl, ad, rfl, fun j v hv => by
        injection e with e; subst e
        have h2 := src_cells (w := w.drew) (hs.hp rfl) j v
        refine h2 ?_
        rw [List.getElem?_map] at hv ⊢
        have hj : j < m := by
          rcases Nat.lt_or_ge j m with h | h
          · exact h
          · rw [List.getElem?_eq_none (by have := hs.1; simp; omega)] at hv; simp at hv
        rw [List.getElem?_take_of_lt hj] at hv; exact hv⟩) (by rw [hlz, hCl.len]; omega) (ints_oneCell _ _)
    rw [hlz] at this
    exact this
  have hcl2 := hCl.given i hi (zs.take m) (by have := hs.1; simp; omega)
  have hle : (zs.take m).length = m := by simpa using hlz
  rw [hle] at hcl2
  obtain ⟨n, gn⟩ : ∃ n, n = (P i).q.length := ⟨_, rfl⟩
  obtain ⟨o, go⟩ : ∃ o, o = 2 + i * 11 := ⟨_, rfl⟩
  rw [← gn] at hcl2 hcp hcell hq hm
  rw [← go] at hcl2 hcp hcell
  obtain ⟨R, gR⟩ : ∃ R, R = splice C (o + 3 + n) ((zs.take m).map (Value.int .u8)) := ⟨_, rfl⟩
  rw [← gR] at hcl2 hcp
  have hset := setRow_heap w.drew p C.toArray R.toArray 110 (0, 0) hC
  have hR2 : R[o + 2]? = some (.int .i64 n) := by
    rw [gR, getElem?_splice_out _ _ _ _ (by rw [hlz, hCl.len]; omega) (by omega), go, gn]; exact hCl.n i hi
  have hcell2 : (w.drew.setRow p R.toArray).cell? ⟨p, o + 2, none⟩ = some (.int .i64 n) := by rw [cell_of_row _ p (o + 2) _ 110 (0, 0) hset]; simpa using hR2
  have hfr2 : (w.drew.setRow p R.toArray).frozen? ⟨p, o + 2, none⟩ = false := by simp [World.frozen?, hset]
  have HEND : Hid (Tb ((w.drew.setRow p R.toArray).setCell ⟨p, o + 2, none⟩ (.int .i64 ((n + m : Nat) : Int))) p k (updP P i { P i with q := (P i).q ++ zs.take m })) := by
    refine hid ⟨R.set (o + 2) (.int .i64 ((n + m : Nat) : Int)), ?_, hcl2⟩
    rw [heap_setCell_same _ p (o + 2) R.toArray 110 _ hset]; simp
  have HU : Hid (∀ v, Upd (· = p) w ((w.drew.setRow p R.toArray).setCell ⟨p, o + 2, none⟩ v)) := hid (fun v =>
    ((Upd.refl (· = p) w).drewN 1).trans ((Upd.setRow w.drew p R.toArray (F := (· = p)) rfl).trans (Upd.setCell (F := (· = p)) _ ⟨p, o + 2, none⟩ v rfl) (fun _ _ h => h)) (fun _ _ h => h))
  have HZ : Hid (∀ v, ((w.drew.setRow p R.toArray).setCell ⟨p, o + 2, none⟩ v).heap.size = w.heap.size) := hid (fun v => by simp)
  rw [show (some (⟨p, 2 + i * 11, none⟩ : Addr)) = some ⟨p, o, none⟩ by rw [go]]
  have hm8 : n + m ≤ 8 := by omega
  clear hs e gR hset hR2 hcl2 hCl hC gn go hlz hle hm
  have c1 : (0 : Int) ≤ n := by omega
  have c2 : (n : Int) ≤ 8 := by omega
  have c3 : (n : Int) < 8 := by omega
  go_enter Tryz.func212, Tryz.ntmps212
  go_wp2_with fail
  go_region_held3 (fun wx => wx.cell? ⟨p, o + 2, none⟩ = some (.int .i64 n)) (go_keep) (fail)
  go_wp2_with fail
  go_ret
  exact ⟨rfl, HEND.out, HU.out _, HZ.out _⟩

end Go.Proofs.YtoknhcjneliboaaGreat.Pi

/- What the program's Read and Write do. -/
namespace Go.Proofs.YtoknhcjneliboaaGreat.Pi
open Go.RowKit Lend
set_option linter.unusedVariables false
set_option maxRecDepth 20000

set_option maxHeartbeats 1000000 in
theorem read_err (x : Option Addr) (n c count : Int) (w : World) (h : Calls Tryz.prog 209 #[.pointer x, .int .i64 n] w fun e w' => e = .returned (.tuple #[.pointer none, .int .i64 c]) ∧ w' = w) (hc : ¬ c = 0) :
    Calls Tryz.prog 207 #[.pointer x, .int .i64 n, .int .i64 count] w fun e w' => e = .returned (.tuple #[.slice none 0 0, .bool false, .int .i64 c]) ∧ w' = w := by
  have k1 := hid h
  clear h
  go_enter Tryz.func207, Tryz.ntmps207
  go_wp2_with fail
  refine k1.out.mono ?_
  rintro e w1 ⟨rfl, rfl⟩
  go_wp2_with fail
  go_ret3
  exact ⟨rfl, rfl⟩

set_option maxHeartbeats 1000000 in
theorem write_err (x a : Option Addr) (len cap : Nat) (n c : Int) (w : World) (h : Calls Tryz.prog 209 #[.pointer x, .int .i64 n] w fun e w' => e = .returned (.tuple #[.pointer none, .int .i64 c]) ∧ w' = w) (hc : ¬ c = 0) :
    Calls Tryz.prog 208 #[.pointer x, .int .i64 n, .slice a len cap] w fun e w' => e = .returned (.tuple #[.int .i64 0, .bool false, .int .i64 c]) ∧ w' = w := by
  have k1 := hid h
  clear h
  go_enter Tryz.func208, Tryz.ntmps208
  go_wp2_with fail
  refine k1.out.mono ?_
  rintro e w1 ⟨rfl, rfl⟩
  go_wp2_with fail
  go_ret3
  exact ⟨rfl, rfl⟩

set_option maxHeartbeats 1000000 in
theorem read_neg (p i : Nat) (count : Int) (k : Bool) (P : Nat → Pp) (w : World) (h : Tb w p k P) (h1 : 1 ≤ i) (h4 : i ≤ 4) (ht : (P i).there = true) (hc : count < 0) :
    Calls Tryz.prog 207 #[.pointer (some ⟨p, 0, none⟩), .int .i64 i, .int .i64 count] w fun e w' => e = .returned (.tuple #[.slice none 0 0, .bool false, .int .i64 22]) ∧ w' = w := by
  have k1 := hid (pipe_yes p i k P w h h1 h4 ht)
  clear h ht
  go_enter Tryz.func207, Tryz.ntmps207
  go_wp2_with fail
  refine k1.out.mono ?_
  rintro e w1 ⟨rfl, rfl⟩
  go_wp2_with fail
  go_ret3
  exact ⟨rfl, rfl⟩

set_option maxHeartbeats 1000000 in
theorem read_zero (p i : Nat) (k : Bool) (P : Nat → Pp) (w : World) (h : Tb w p k P) (h1 : 1 ≤ i) (h4 : i ≤ 4) (ht : (P i).there = true) :
    Calls Tryz.prog 207 #[.pointer (some ⟨p, 0, none⟩), .int .i64 i, .int .i64 0] w fun e w' => e = .returned (.tuple #[.slice none 0 0, .bool false, .int .i64 0]) ∧ w' = w := by
  have k1 := hid (pipe_yes p i k P w h h1 h4 ht)
  clear h ht
  go_enter Tryz.func207, Tryz.ntmps207
  go_wp2_with fail
  refine k1.out.mono ?_
  rintro e w1 ⟨rfl, rfl⟩
  go_wp2_with fail
  go_ret3
  exact ⟨rfl, rfl⟩

set_option maxHeartbeats 1000000 in
theorem read_empty (p i : Nat) (count : Int) (k : Bool) (P : Nat → Pp) (w : World) (h : Tb w p k P) (h1 : 1 ≤ i) (h4 : i ≤ 4) (ht : (P i).there = true) (hc : 0 < count) (hq : (P i).q = []) :
    Calls Tryz.prog 207 #[.pointer (some ⟨p, 0, none⟩), .int .i64 i, .int .i64 count] w fun e w' => e = .returned (.tuple #[.slice none 0 0, .bool (decide (0 < (P i).w)), .int .i64 0]) ∧ w'.heap = w.heap ∧ Upd (fun _ => False) w w' := by
  have k1 := hid (pipe_yes p i k P w h h1 h4 ht)
  have hn := h.n i (by omega)
  have hw := h.w i (by omega)
  rw [hq, List.length_nil] at hn
  obtain ⟨o, go⟩ : ∃ o, o = 2 + i * 11 := ⟨_, rfl⟩
  obtain ⟨v, gv⟩ : ∃ v, v = (P i).w := ⟨_, rfl⟩
  rw [← go] at hn hw k1
  rw [← gv] at hw ⊢
  have c1 : ¬ count < 0 := by omega
  have c2 : ¬ count = 0 := by omega
  clear h ht hq go gv
  go_enter Tryz.func207, Tryz.ntmps207
  go_wp2_with fail
  refine k1.out.mono ?_
  rintro e w1 ⟨rfl, rfl⟩
  go_wp2_with fail
  go_region_held3 (fun wx => wx.cell? ⟨p, o + 1, none⟩ = some (.int .i64 v)) (go_keep) (fail)
  go_wp2_with fail
  go_ret3
  refine ⟨?_, rfl, (Upd.refl _ _).drewN 1⟩
  simp

set_option maxHeartbeats 1000000 in
theorem read_some (p i m : Nat) (count : Int) (k : Bool) (P : Nat → Pp) (w : World) (h : Tb w p k P) (h1 : 1 ≤ i) (h4 : i ≤ 4) (ht : (P i).there = true) (hc : 0 < count) (hq : 0 < (P i).q.length) (hm : (m : Int) = if ((P i).q.length : Int) < count then ((P i).q.length : Int) else count) :
    Calls Tryz.prog 207 #[.pointer (some ⟨p, 0, none⟩), .int .i64 i, .int .i64 count] w fun e w' => ∃ g c, e = .returned (.tuple #[.slice (some ⟨g, 0, none⟩) m c, .bool false, .int .i64 0]) ∧
      w'.ownsRow w.heap.size 5 1 (.slice (some ⟨g, 0, none⟩) m c) m (((P i).q.take m).map (Value.int .u8)) ∧ Tb w' p k (updP P i { P i with q := (P i).q.drop m }) ∧ Upd (· = p) w w' := by
  have k1 := hid (pipe_yes p i k P w h h1 h4 ht)
  have k2 := hid (take_any p i m count k P w h (by omega) hq hc hm)
  have hn := h.n i (by omega)
  obtain ⟨o, go⟩ : ∃ o, o = 2 + i * 11 := ⟨_, rfl⟩
  obtain ⟨n, gn⟩ : ∃ n, n = (P i).q.length := ⟨_, rfl⟩
  rw [← go] at hn k1 k2
  rw [← gn] at hn hq
  have c1 : ¬ count < 0 := by omega
  have c2 : ¬ count = 0 := by omega
  have c3 : ¬ (n : Int) = 0 := by omega
  clear h ht hm go gn
  go_enter Tryz.func207, Tryz.ntmps207
  go_wp2_with fail
  refine k1.out.mono ?_
  rintro e w1 ⟨rfl, rfl⟩
  go_wp2_with fail
  refine k2.out.mono ?_
  rintro e w2 ⟨g, c, rfl, ho, ht, hu⟩
  have HO := hid ho
  have HT := hid ht
  have HU := hid hu
  clear ho ht hu
  go_wp2_with fail
  go_ret3
  exact ⟨g, c, rfl, HO.out, HT.out, HU.out⟩

set_option maxHeartbeats 1000000 in
theorem write_broken (p i len cap : Nat) (a : Option Addr) (k : Bool) (P : Nat → Pp) (w : World) (h : Tb w p k P) (h1 : 1 ≤ i) (h4 : i ≤ 4) (ht : (P i).there = true) (hr : (P i).r = 0) :
    Calls Tryz.prog 208 #[.pointer (some ⟨p, 0, none⟩), .int .i64 i, .slice a len cap] w fun e w' => e = .returned (.tuple #[.int .i64 0, .bool false, .int .i64 32]) ∧ w' = w := by
  have k1 := hid (pipe_yes p i k P w h h1 h4 ht)
  have hn := h.r i (by omega)
  rw [hr] at hn
  clear h ht hr
  go_enter Tryz.func208, Tryz.ntmps208
  go_wp2_with fail
  refine k1.out.mono ?_
  rintro e w1 ⟨rfl, rfl⟩
  go_wp2_with fail
  go_ret3
  exact ⟨rfl, rfl⟩

set_option maxHeartbeats 1000000 in
theorem write_nil (p i cap : Nat) (a : Option Addr) (k : Bool) (P : Nat → Pp) (w : World) (h : Tb w p k P) (h1 : 1 ≤ i) (h4 : i ≤ 4) (hr : 0 < (P i).r) :
    Calls Tryz.prog 208 #[.pointer (some ⟨p, 0, none⟩), .int .i64 i, .slice a 0 cap] w fun e w' => e = .returned (.tuple #[.int .i64 0, .bool false, .int .i64 0]) ∧ w' = w := by
  have k1 := hid (pipe_yes p i k P w h h1 h4 (by simp [Pp.there, hr]))
  have hn := h.r i (by omega)
  obtain ⟨r, gr⟩ : ∃ r, r = (P i).r := ⟨_, rfl⟩
  rw [← gr] at hn hr
  have c1 : ¬ (r : Int) = 0 := by omega
  clear h gr
  go_enter Tryz.func208, Tryz.ntmps208
  go_wp2_with fail
  refine k1.out.mono ?_
  rintro e w1 ⟨rfl, rfl⟩
  go_wp2_with fail
  go_ret3
  exact ⟨rfl, rfl⟩

set_option maxHeartbeats 1000000 in
theorem write_full (p i len cap : Nat) (a : Option Addr) (k : Bool) (P : Nat → Pp) (w : World) (h : Tb w p k P) (h1 : 1 ≤ i) (h4 : i ≤ 4) (hr : 0 < (P i).r) (hl : 0 < len) (hq : (P i).q.length = 8) :
    Calls Tryz.prog 208 #[.pointer (some ⟨p, 0, none⟩), .int .i64 i, .slice a len cap] w fun e w' => e = .returned (.tuple #[.int .i64 0, .bool true, .int .i64 0]) ∧ w' = w := by
  have k1 := hid (pipe_yes p i k P w h h1 h4 (by simp [Pp.there, hr]))
  have k2 := hid (isfull_any p (2 + i * 11) _ true w (h.n i (by omega)) (by rw [hq]; rfl))
  have hn := h.r i (by omega)
  obtain ⟨r, gr⟩ : ∃ r, r = (P i).r := ⟨_, rfl⟩
  rw [← gr] at hn hr
  have c1 : ¬ (r : Int) = 0 := by omega
  have c2 : ¬ (len : Int) = 0 := by omega
  clear h gr hq
  go_enter Tryz.func208, Tryz.ntmps208
  go_wp2_with fail
  refine k1.out.mono ?_
  rintro e w1 ⟨rfl, rfl⟩
  go_wp2_with fail
  refine k2.out.mono ?_
  rintro e w1 ⟨rfl, rfl⟩
  go_wp2_with fail
  go_ret3
  exact ⟨rfl, rfl⟩

set_option maxHeartbeats 1000000 in
theorem write_some (p i m len cap : Nat) (ad : Addr) (k : Bool) (P : Nat → Pp) (zs : List Int) (w : World) (h : Tb w p k P) (h1 : 1 ≤ i) (h4 : i ≤ 4) (hr : 0 < (P i).r) (hl : 0 < len) (hq : (P i).q.length < 8) (hs : Src w (some ad) len zs) (hm : m = min len (8 - (P i).q.length)) :
    Calls Tryz.prog 208 #[.pointer (some ⟨p, 0, none⟩), .int .i64 i, .slice (some ad) len cap] w fun e w' => e = .returned (.tuple #[.int .i64 m, .bool false, .int .i64 0]) ∧ Tb w' p k (updP P i { P i with q := (P i).q ++ zs.take m }) ∧ Upd (· = p) w w' ∧ w'.heap.size = w.heap.size := by
  have k1 := hid (pipe_yes p i k P w h h1 h4 (by simp [Pp.there, hr]))
  have k2 := hid (isfull_any p (2 + i * 11) _ false w (h.n i (by omega)) (by symm; simp; omega))
  have k3 := hid (put_any p i m len cap ad k P zs w h (by omega) hq hs hl hm)
  have hn := h.r i (by omega)
  obtain ⟨r, gr⟩ : ∃ r, r = (P i).r := ⟨_, rfl⟩
  rw [← gr] at hn hr
  have c1 : ¬ (r : Int) = 0 := by omega
  have c2 : ¬ (len : Int) = 0 := by omega
  clear h gr hq hs hm
  go_enter Tryz.func208, Tryz.ntmps208
  go_wp2_with fail
  refine k1.out.mono ?_
  rintro e w1 ⟨rfl, rfl⟩
  go_wp2_with fail
  refine k2.out.mono ?_
  rintro e w1 ⟨rfl, rfl⟩
  go_wp2_with fail
  refine k3.out.mono ?_
  rintro e w2 ⟨rfl, ht, hu, hz⟩
  have HT := hid ht
  have HU := hid hu
  have HZ := hid hz
  clear ht hu hz
  go_wp2_with fail
  go_ret3
  exact ⟨rfl, HT.out, HU.out, HZ.out⟩

end Go.Proofs.YtoknhcjneliboaaGreat.Pi

/- What the program's Look does: the pipes that are there, by their numbers. -/
namespace Go.Proofs.YtoknhcjneliboaaGreat.Pi
open Go.RowKit Lend
set_option linter.unusedVariables false
set_option maxRecDepth 20000

/-- What Look tells of one. -/
def infoCells (i : Nat) (x : Pp) : List Value := [.int .i64 i, .int .i64 x.r, .int .i64 x.w, .int .i64 x.q.length]
/-- How many of the first n are there. -/
def countP (P : Nat → Pp) : Nat → Nat
  | 0 => 0
  | n + 1 => if (P n).there then countP P n + 1 else countP P n
/-- What Look tells of the first n. -/
def looks (P : Nat → Pp) : Nat → List Value
  | 0 => []
  | n + 1 => if (P n).there then looks P n ++ infoCells n (P n) else looks P n
theorem countP_le (P : Nat → Pp) : ∀ n, countP P n ≤ n
  | 0 => Nat.le_refl _
  | n + 1 => by have := countP_le P n; unfold countP; split <;> omega

/-- 'append' whose run is known, within a region that draws. -/
theorem step_append_is {P : Program} {ops : Array Oper} {o : Oper} {a : Act} {w : World} {K : Act → World → Prop} {Q : Exit → Act → World → Prop} {E : Prop}
    (hg : o.guard = none) (d x : Operand) (dT sT : TypeId) (hop : o.op = Op.call { callee := Callee.builtin Builtin.append, args := #[d, x], argTypes := #[dT, sT] })
    (v u : Value) (hd : a.eval d = v) (hx : a.eval x = u) {v' : Value} {w' : World} (hr : (Builtin.append_ #[dT, sT] o.type #[v, u]).run P w = .ok v' w') (hK : K (a.put o.dst v') w') :
    if Region.wanted o (yielded ops a.tmps) = true then Oper.wp P o a w K Q else E := by
  have hw : Region.wanted o (yielded ops a.tmps) = true := by simp [Region.wanted, hg]
  rw [if_pos hw]
  unfold Oper.wp execOp
  simp only [hop, resolve, invoke, builtin, Sem.run_bind, Sem.run_pure, Result.andThen_ok, List.map_toArray, List.map_cons, List.map_nil, hd, hx, hr]
  exact hK

theorem Tryz.info51 : (Tryz.prog.info? 51).map (fun i => (i.zero, i.size, i.bytes)) = some (some (.agg #[.int .i64 0, .int .i64 0, .int .i64 0, .int .i64 0]), 4, 32) := by kernel_rfl

set_option maxHeartbeats 2000000 in
theorem look_any (p : Nat) (k : Bool) (P : Nat → Pp) (w : World) (h : Tb w p k P) :
    Calls Tryz.prog 50 #[.pointer (some ⟨p, 0, none⟩)] w fun e w' => ∃ v, e = .returned v ∧ w'.ownsRow w.heap.size 51 4 v (countP P 5) (looks P 5) ∧ Below w.heap.size w w' := by
  obtain ⟨i0, hi0, hz0, hz1, hz2⟩ := info_parts Tryz.info51
  have k1 := hid (usable_yes p w h.made)
  have H := hid h
  clear h
  go_enter Tryz.func50, Tryz.ntmps50
  go_wp2_with fail
  refine k1.out.mono ?_
  rintro e w1 ⟨rfl, rfl⟩
  go_wp2_with fail
  rename World => w
  go_loopw [3, 9] (fun v s wr => ∃ j : Nat, j ≤ 5 ∧ s = .int .i64 j ∧ Hid (wr.ownsRow w.heap.size 51 4 v (countP P j) (looks P j)) ∧ Hid (Below w.heap.size w wr)) (fun _ s _ => 5 - (intOf s).toNat)
  case atStart => exact ⟨0, by omega, rfl, hid (World.ownsRow_nil _ _ _ _), hid (Below.refl _ _)⟩
  case round =>
    obtain ⟨j, hj5, rfl, HR, HB⟩ := hrel
    by_cases h5 : j < 5
    · have c3 : (0 : Int) ≤ j := by omega
      have c4 : (j : Int) < 5 := by omega
      have hT : Tb wr p k P := H.out.below HB.out H.out.lt
      have hr := hT.r j h5
      have hw := hT.w j h5
      have hn := hT.n j h5
      cases ht : (P j).there
      · have k2 := hid (isthere_any p (2 + j * 11) _ _ false wr hr hw (by rw [← ht]; rfl))
        have HT := hid ht
        clear hT hr hw hn ht
        go_wp2_with fail
        refine k2.out.mono ?_
        rintro e2 w2 ⟨rfl, rfl⟩
        go_wp2_with fail
        go_roundw
        case rel => exact ⟨j + 1, by omega, by go_num, by simpa [countP, looks, HT.out] using HR, HB⟩
        case measure => simp [intOf]; omega
      · have k2 := hid (isthere_any p (2 + j * 11) _ _ true wr hr hw (by rw [← ht]; rfl))
        have HT := hid ht
        clear hT ht
        go_wp2_with fail
        refine k2.out.mono ?_
        rintro e2 w2 ⟨rfl, rfl⟩
        have hlt := H.out.lt
        obtain ⟨r, gr⟩ : ∃ r, r = (P j).r := ⟨_, rfl⟩
        obtain ⟨u, gu⟩ : ∃ u, u = (P j).w := ⟨_, rfl⟩
        obtain ⟨n, gn⟩ : ∃ n, n = (P j).q.length := ⟨_, rfl⟩
        rw [← gr] at hr
        rw [← gu] at hw
        rw [← gn] at hn
        have hrow := (own_below HR.out ((Below.refl _ _).alloc (Nat.le_refl _) (.cells #[.int .i64 j, .int .i64 r, .int .i64 u, .int .i64 n] 51)))
        have hcl := countP_le P j
        obtain ⟨v', wz, hrz, hoz, hgz, _⟩ := run_append_own (P := Tryz.prog) (w2.drew.alloc (.cells #[.int .i64 j, .int .i64 r, .int .i64 u, .int .i64 n] 51)) w.heap.size 48 48 51 i0 _ 4 32 Tryz.underlying48 hi0 hz0 hz1 hz2 rfl (by decide) _ (countP P j) (looks P j) (by exact hrow)
          ⟨w2.heap.size, 0, none⟩ 1 1 [.int .i64 j, .int .i64 r, .int .i64 u, .int .i64 n] rfl (by
            intro a x hx
            rw [Addr.add_lit, Nat.zero_add, cell_of_row _ w2.heap.size a _ 51 (0, 0) (by exact heap_alloc_new w2.drew _)]
            simpa using hx) (by simp [Value.oneCell']) (by unfold maxLen; omega) (by omega) (by have := HB.out.size; simp; omega)
        have hBZ : Below w.heap.size w wz := by
          refine HB.out.trans ?_
          have h1 : Below w.heap.size w2 (w2.drew.alloc (.cells #[.int .i64 j, .int .i64 r, .int .i64 u, .int .i64 n] 51)) := by
            have := ((Below.refl w.heap.size w2.drew).alloc (by exact HB.out.size) (.cells #[.int .i64 j, .int .i64 r, .int .i64 u, .int .i64 n] 51))
            exact ⟨this.os, this.tape, this.output, this.size, this.block⟩
          refine h1.trans ((Upd.of_grown hgz).below (Nat.le_trans HB.out.size h1.size) (fun x hx => ?_))
          exact (hrow.lt x hx.symm).1
        have HRZ : Hid (wz.ownsRow w.heap.size 51 4 v' (countP P (j + 1)) (looks P (j + 1))) := by
          simp only [countP, looks, HT.out, if_true, infoCells]
          rw [← gr, ← gu, ← gn]; exact hid hoz
        have z1 := (hBZ.cell (p := ⟨p, 2 + j * 11, none⟩) hlt).trans ((HB.out.cell (p := ⟨p, 2 + j * 11, none⟩) hlt).symm.trans hr)
        have z2 := (hBZ.cell (p := ⟨p, 2 + j * 11 + 1, none⟩) hlt).trans ((HB.out.cell (p := ⟨p, 2 + j * 11 + 1, none⟩) hlt).symm.trans hw)
        have z3 := (hBZ.cell (p := ⟨p, 2 + j * 11 + 2, none⟩) hlt).trans ((HB.out.cell (p := ⟨p, 2 + j * 11 + 2, none⟩) hlt).symm.trans hn)
        have HBZ := hid hBZ
        clear hrow hoz hgz hBZ gr gu gn hlt k2
        go_wp2_with fail
        go_region_held3 (fun wx => wx.cell? ⟨p, 2 + j * 11, none⟩ = some (.int .i64 r) ∧ wx.cell? ⟨p, 2 + j * 11 + 1, none⟩ = some (.int .i64 u) ∧ wx.cell? ⟨p, 2 + j * 11 + 2, none⟩ = some (.int .i64 n)) (go_keep) (refine step_append_is rfl _ _ 48 48 rfl _ _ (by simp [Act.eval]) (by simp [Act.eval]) hrz ?_)
        go_wp2_with fail
        go_roundw
        case rel => exact ⟨j + 1, by omega, by go_num, HRZ, HBZ⟩
        case measure => simp [intOf]; omega
    · obtain rfl : j = 5 := by omega
      go_wp2_with fail
      go_ret
      exact ⟨_, rfl, HR.out, HB.out⟩

end Go.Proofs.YtoknhcjneliboaaGreat.Pi

/- What bytes.Equal does with bytes that are the same: it tells so; nothing turns. -/
namespace Go.Proofs.YtoknhcjneliboaaGreat
open Go.RowKit
set_option maxRecDepth 20000

/-- Bytes, turned into a text. -/
theorem Src.convert {P : Program} {w : World} {a0 : Option Addr} {len : Nat} {zs : List Int} (h : Src w a0 len zs) (c : Nat) (src e dst : TypeId)
    (hs : P.underlying src = some (.slice e)) (he : P.underlying e = some (.int .u8)) (hd : P.underlying dst = some .string) :
    (convert src dst (.slice a0 len c)).run P w = .ok (.string (strOfNums zs)) w := by
  rcases Nat.eq_zero_or_pos len with h0 | h0
  · subst h0
    obtain rfl : zs = [] := List.eq_nil_of_length_eq_zero h.1
    cases a0 with
    | none =>
      rw [run_convert_bytes_nil w src e hs he 0 c dst hd]
      rfl
    | some a =>
      rw [run_convert_bytes_string w src dst e _ 0 c hs he hd, run_bytesToString w _ 0 c [] (by rfl)]
      rfl
  · obtain ⟨b, o, rfl, _, hc⟩ := h.2 h0
    exact run_convert_bytes_arg (P := P) w src e hs he b o len c zs h.1 hc dst hd

set_option maxHeartbeats 400000 in
theorem equal_yes (a0 a1 : Option Addr) (n c m d : Nat) (xs : List Int) (w : World) (h0 : Src w a0 n xs) (h1 : Src w a1 m xs) :
    Calls Tryz.prog 23 #[.slice a0 n c, .slice a1 m d] w fun e w' => e = .returned (.bool true) ∧ w' = w := by
  have e0 := h0.convert (P := Tryz.prog) c 30 5 9 Tryz.underlying30 Tryz.underlying5 Tryz.underlying9
  have e1 := h1.convert (P := Tryz.prog) d 30 5 9 Tryz.underlying30 Tryz.underlying5 Tryz.underlying9
  obtain ⟨S, gS⟩ : ∃ S, S = strOfNums xs := ⟨_, rfl⟩
  rw [← gS] at e0 e1
  clear gS h0 h1
  go_enter Tryz.func23, Tryz.ntmps23
  go_wp2
  go_ret
  exact ⟨rfl, rfl⟩

end Go.Proofs.YtoknhcjneliboaaGreat

/- Bytes behind a row of the call's own. -/
namespace Go.Proofs.YtoknhcjneliboaaGreat.Pi
open Go.RowKit Lend
set_option linter.unusedVariables false
set_option maxRecDepth 20000

theorem Tryz.info5 : (Tryz.prog.info? 5).map (fun i => (i.zero, i.size, i.bytes)) = some (some (.int .u8 0), 1, 1) := by kernel_rfl

/-- 'append(own, b...)' of bytes that lie somewhere, nil or not, onto a row of the call's own, nil or not. -/
theorem wpList_append_any {P : Program} (w : World) {ops : Array Oper} {rest : List Oper} {o : Oper} {a : Act} {Q : Exit → Act → World → Prop}
    (hgd : o.guard = none) (s x : Operand) (t : TypeId) (ho : o.op = .call { callee := .builtin .append, args := #[s, x], argTypes := #[t, t] })
    (base : Nat) (i : TypeInfo) (ht : P.underlying t = some (.slice 5)) (hi : P.info? 5 = some i) (hz : i.zero = some (.int .u8 0)) (hsize : i.size = 1) (hby : i.bytes = 1)
    (v : Value) (n : Nat) (xs : List Value) (hs : a.eval s = v) (hown : w.ownsRow base 5 1 v n xs)
    (a0 : Option Addr) (m c : Nat) (zs : List Int) (hx : a.eval x = .slice a0 m c) (hsrc : Src w a0 m zs) (hnil : a0 = none → c = 0) (hb : n + m ≤ 140737488355328) (hbase : base ≤ w.heap.size)
    (hK : ∀ v' w', w'.ownsRow base 5 1 v' (n + m) (xs ++ zs.map (Value.int .u8)) → w.grownBy w' v.ownBlock → (v'.ownBlock = v.ownBlock ∨ ∀ x, v'.ownBlock = some x → w.heap.size ≤ x) → wpList P ops Q rest (a.put o.dst v') w') :
    wpList P ops Q (o :: rest) a w := by
  cases a0 with
  | none =>
    obtain rfl := hnil rfl
    obtain rfl : m = 0 := by
      rcases Nat.eq_zero_or_pos m with h | h
      · exact h
      · obtain ⟨_, _, e, _⟩ := hsrc.2 h; cases e
    obtain rfl : zs = [] := List.eq_nil_of_length_eq_zero hsrc.1
    refine wpList_append_own_none hgd s x t ho base 5 i 1 ht hi v n xs hs hown hx ?_
    exact hK v w (by simpa using hown) (World.grownBy.refl _ _) (.inl rfl)
  | some ad =>
    have hcells : ∀ j u, (zs.map (Value.int .u8))[j]? = some u → w.cell? (ad.add j) = some u := by
      intro j u hj
      have hjl : j < zs.length := by have := (List.getElem?_eq_some_iff.1 hj).1; simpa using this
      have hsl := hsrc.1
      obtain ⟨b, o', e, _, hc⟩ := hsrc.2 (by omega)
      obtain rfl := Option.some.inj e
      rw [Addr.add_lit, hc j (by omega), ← hj]
      simp [List.getD, List.getElem?_eq_getElem hjl]
    obtain ⟨v', w', hr, _, _, _, h5⟩ := run_append_where (P := P) w t o.type 5 i (.int .u8 0) 1 1 ht hi hz hsize hby rfl (by decide) v n xs (own_base hown (Nat.zero_le _)) ad m c (zs.map (Value.int .u8)) (by simp [hsrc.1]) hcells (ints_oneCell _ _) (by unfold maxLen; omega) (by omega)
    obtain ⟨v2, w2, hr2, h2, h3, h4⟩ := run_append_own (P := P) w base t o.type 5 i (.int .u8 0) 1 1 ht hi hz hsize hby rfl (by decide) v n xs hown ad m c (zs.map (Value.int .u8)) (by simp [hsrc.1]) hcells (ints_oneCell _ _) (by unfold maxLen; omega) (by omega) hbase
    rw [hr] at hr2
    injection hr2 with e1 e2
    subst e1; subst e2
    refine wpList_plain hgd fun K hK' => ?_
    unfold Oper.wp
    simp [execOp, ho, resolve, invoke, builtin, hs, hx, hr, Result.andThen]
    exact hK' _ _ (hK v' w' h2 h3 h5)


end Go.Proofs.YtoknhcjneliboaaGreat.Pi
