/- Programs that were copied. -/
import Derived.Test.YtkgejeamcgodhaaGC6
import Derived.Test.YtkgejeamcgodhaaGS3
namespace Go.Proofs.Ytkgejeamcgodhaa
open Go.RowKit
set_option linter.unusedVariables false
set_option maxRecDepth 20000

set_option maxHeartbeats 2000000 in
theorem copyargs_any (d : Nat) (ra : Option Addr) (rn rc : Nat) (qs : List Ar) (w : World) (h : Krow d w ra qs) (hl : qs.length = rn) (hw : fewL d qs) :
    Calls Try.prog 43 #[.slice ra rn rc] w fun e w' => ∃ a c qs', e = .returned (.slice a rn c) ∧ rn ≤ c ∧ c ≤ 9223372036854775807 ∧ qs'.length = rn ∧ AllS (SameA d) qs' qs ∧ OcpR (w.heap.size ≤ ·) d w' a qs' ∧ Below w.heap.size w w' := by
  have hK : ∀ j, ∀ hj : j < qs.length, Okd d w qs[j] := fun j hj => by
    obtain ⟨_, _, _, _, hc⟩ := h (by omega)
    exact (hc j hj).2
  have k1 := hid (kclone_any d ra rn rc qs w h hl (by rw [← hl]; exact hw.1))
  have k2 := hid (fun a c w1 (hB : Below w.heap.size w w1) (hO : OwnR w.heap.size w1 a qs) (h1 : rn ≤ c) (h2 : c ≤ 9223372036854775807) => through1 w d a rn c qs w1 hB hO hK hl h1 h2 hw)
  have HL := hid hl
  clear h hK
  go_enter Try.func43, Try.ntmps43
  go_wp2_with fail
  refine k1.out.mono ?_
  rintro e w1 ⟨a, c, rfl, hm, hx, hO, hb1⟩
  have k3 := hid (k2.out a c w1 hb1 hO hm hx)
  have HB1 := hid hb1
  clear k1 k2 hb1 hO
  go_wp2_with fail
  refine k3.out.mono ?_
  rintro e w2 ⟨rfl, qs', hl', hS, hC, hu⟩
  have HF : Hid (qs'.length = rn ∧ AllS (SameA d) qs' qs ∧ OcpR (w.heap.size ≤ ·) d w2 a qs' ∧ Below w.heap.size w w2) := by
    have hs1 := HB1.out.size
    refine hid ⟨by rw [hl', HL.out], hS, fun h0 => ?_, ?_⟩
    · obtain ⟨g, C, e, hg, hgC, hc⟩ := hC (by omega)
      exact ⟨g, C, e, hg, hgC, fun j hj => ⟨(hc j hj).1, Ocp.mono (fun x (hx : w1.heap.size ≤ x) => by show w.heap.size ≤ x; omega) d _ (hc j hj).2⟩⟩
    · refine HB1.out.trans (hu.below hs1 (fun x hx => ?_))
      obtain ⟨g, C, e, hg, _⟩ := hC (by have := HL.out; have := hx.1; omega)
      rw [hx.2] at e
      injection e with e
      injection e with e1
      omega
  clear k3 hl' hS hC hu
  go_wp2_with fail
  go_ret
  exact ⟨a, c, qs', rfl, hm, hx, HF.out.1, HF.out.2.1, HF.out.2.2.1, HF.out.2.2.2⟩

/-- The cells of steps, one behind the other. -/
def stC (ps : List Stp) : List Value := ps.flatMap fun s => [.int .i64 s.c, .slice s.ra s.rn s.rc]
theorem stC_len (ps : List Stp) : (stC ps).length = ps.length * 2 := by
  induction ps with
  | nil => rfl
  | cons q r ih => simp only [stC, List.flatMap_cons, List.length_append, List.length_cons, List.length_nil] at ih ⊢; rw [ih]; omega
theorem stC_at : ∀ (ps : List Stp) (j : Nat) (h : j < ps.length), (stC ps)[j * 2]? = some (.int .i64 ps[j].c) ∧ (stC ps)[j * 2 + 1]? = some (.slice ps[j].ra ps[j].rn ps[j].rc)
  | [], _, h => absurd h (by simp)
  | s :: r, 0, _ => ⟨rfl, rfl⟩
  | s :: r, j + 1, h => by
    have ih := stC_at r j (by simpa using h)
    have e1 : (j + 1) * 2 = j * 2 + 1 + 1 := by omega
    have e2 : (j + 1) * 2 + 1 = j * 2 + 1 + 1 + 1 := by omega
    rw [e2, e1]
    exact ih

/-- Steps as they lie in a block of their own. -/
def StpR (B : Nat) (w : World) (a : Option Addr) (ps : List Stp) : Prop :=
  0 < ps.length → ∃ (g : Nat) (C : Array Value), a = some ⟨g, 0, none⟩ ∧ B ≤ g ∧ w.heap[g]? = some (.cells C 73 (0, 0)) ∧ ∀ j, ∀ h : j < ps.length, C[j * 2]? = some (.int .i64 ps[j].c) ∧ C[j * 2 + 1]? = some (.slice ps[j].ra ps[j].rn ps[j].rc)

theorem pclone_any (d : Nat) (a : Option Addr) (n c : Nat) (ps : List Stp) (w : World) (h : Pgm d w a ps) (hl : ps.length = n) (hr : n ≤ 4398046511104) :
    Calls Try.prog 42 #[.slice a n c] w fun e w' => ∃ a' c', e = .returned (.slice a' n c') ∧ n ≤ c' ∧ c' ≤ 9223372036854775807 ∧ StpR w.heap.size w' a' ps ∧ Below w.heap.size w w' := by
  cases a with
  | none =>
    have h0 : ps.length = 0 := by
      rcases Nat.eq_zero_or_pos ps.length with z | z
      · exact z
      · obtain ⟨_, _, e, _⟩ := h z; cases e
    obtain rfl : n = 0 := by omega
    refine (sclone_nil 0 c w).mono ?_
    rintro e w' ⟨rfl, rfl⟩
    exact ⟨none, 0, rfl, Nat.le_refl _, by omega, fun z => absurd z (by omega), Below.refl _ _⟩
  | some ad =>
    refine (sclone_any ad n c (stC ps) w (by rw [stC_len, hl]) (fun u hu => ?_) (fun j u hj => ?_) hr).mono ?_
    · obtain ⟨q, _, hq⟩ := List.mem_flatMap.1 hu
      simp at hq
      rcases hq with rfl | rfl <;> rfl
    · have hjl : j < ps.length * 2 := by have := (List.getElem?_eq_some_iff.1 hj).1; rw [stC_len] at this; exact this
      obtain ⟨b, o, e, hlt, hc⟩ := h (by omega)
      injection e with e
      subst e
      have hj2 : j / 2 < ps.length := by omega
      have hx := stC_at ps (j / 2) hj2
      obtain ⟨k0, k1, _⟩ := hc (j / 2) hj2
      refine ⟨b, o, rfl, hlt, ?_⟩
      rw [← hj]
      rcases (show j % 2 = 0 ∨ j % 2 = 1 by omega) with e | e
      · have e1 : j = j / 2 * 2 := by omega
        rw [show o + j = o + j / 2 * 2 by omega, k0, ← hx.1, ← e1]
      · have e1 : j = j / 2 * 2 + 1 := by omega
        rw [show o + j = o + j / 2 * 2 + 1 by omega, k1, ← hx.2, ← e1]
    · rintro e w' ⟨g, c', rfl, ho, hb⟩
      rcases ho.2 with ⟨e, _⟩ | ⟨g', cap, cur, e, hg', hcur, hcap, hmx, hcs, htk⟩
      · cases e
      · injection e with e1 e2 e3
        injection e1 with e1
        injection e1 with e1
        subst e1; subst e3
        refine ⟨_, c', rfl, hcap, by unfold maxLen at hmx; omega, fun h0 => ⟨g, cur, rfl, hg', hcur, fun j hj => ?_⟩, hb⟩
        have f : ∀ t, t < n * 2 → cur[t]? = (stC ps)[t]? := fun t ht => by
          rw [← htk, List.getElem?_take, if_pos (by omega)]
          simp
        obtain ⟨k0, k1⟩ := stC_at ps j hj
        exact ⟨(f _ (by omega)).trans k0, (f _ (by omega)).trans k1⟩

/-- A step that was copied. -/
structure StpC (P : Nat → Prop) (d : Nat) (w : World) (s t : Stp) : Prop where
  c : s.c = t.c
  rn : s.rn = t.rn
  len : s.qs.length = s.rn
  le : s.rn ≤ s.rc
  few : s.rc ≤ 9223372036854775807
  same : AllS (SameA d) s.qs t.qs
  row : OcpR P d w s.ra s.qs

set_option maxHeartbeats 8000000 in
theorem copy_any (d : Nat) (a : Option Addr) (n c : Nat) (ps : List Stp) (w : World) (h : Pgm d w a ps) (hl : ps.length = n) (hr : n ≤ 4398046511104) (hw : ∀ j, ∀ hj : j < ps.length, fewL d ps[j].qs) :
    Calls Try.prog 15 #[.slice a n c] w fun e w' => ∃ a' c' ps', e = .returned (.slice a' n c') ∧ n ≤ c' ∧ c' ≤ 9223372036854775807 ∧ ps'.length = n ∧ StpR w.heap.size w' a' ps' ∧ (∀ j (h1 : j < ps'.length) (h2 : j < ps.length), StpC (w.heap.size ≤ ·) d w' ps'[j] ps[j]) ∧ Below w.heap.size w w' := by
  have k1 := hid (pclone_any d a n c ps w h hl hr)
  have HH := hid h
  have HL := hid hl
  have HW := hid hw
  clear h hl hw
  go_enter Try.func15, Try.ntmps15
  go_wp2_with fail
  refine k1.out.mono ?_
  rintro e w1 ⟨a1, c1, rfl, hm, hx, hR, hb1⟩
  have HR := hid hR
  have HB1 := hid hb1
  clear k1 hR hb1
  go_wp2_with fail
  go_loopw [9] (fun k wr => ∃ (i : Nat) (hs : List Stp), i ≤ n ∧ k = .int .i64 i ∧ Hid (hs.length = n) ∧ Hid (∀ j (h1 : j < hs.length) (h2 : j < ps.length), (j < i → StpC (w1.heap.size ≤ ·) d wr hs[j] ps[j]) ∧ (i ≤ j → hs[j] = ps[j])) ∧ Hid (StpR w.heap.size wr a1 hs) ∧ Hid (Upd (fun x => x < w1.heap.size ∧ w.heap.size ≤ x) w1 wr)) (fun k _ => n - (intOf k).toNat)
  case atStart => exact ⟨0, ps, Nat.zero_le _, rfl, HL, hid (fun j h1 h2 => ⟨fun h => absurd h (Nat.not_lt_zero _), fun _ => rfl⟩), HR, hid (Upd.refl _ _)⟩
  case round =>
    obtain ⟨i, hs, hi, rfl, HLs, HI, HS, HU⟩ := hrel
    by_cases hlt : i < n
    · have hil : i < ps.length := by rw [HL.out]; exact hlt
      have hih : i < hs.length := by rw [HLs.out]; exact hlt
      have hei := (HI.out i hih hil).2 (Nat.le_refl _)
      obtain ⟨g, C, rfl, hgB, hg, hcs⟩ := HS.out (by omega)
      obtain ⟨c0, c1'⟩ := hcs i hih
      rw [hei] at c0 c1'
      have hBw : Below w.heap.size w wr := HB1.out.trans (HU.out.below HB1.out.size (fun x hx => hx.2))
      have hOk : StpOk d wr ps[i] := by
        obtain ⟨_, _, _, _, hpc⟩ := HH.out (by omega)
        exact ((hpc i hil).2.2).below hBw
      have hwi := HW.out i hil
      obtain ⟨s, hsE⟩ : ∃ s, s = ps[i] := ⟨_, rfl⟩
      rw [← hsE] at c0 c1' hOk hwi
      have hgr : g < wr.heap.size := (Array.getElem?_eq_some_iff.1 hg).1
      have q1 : wr.cell? ⟨g, i * 2 + 1, none⟩ = some (.slice s.ra s.rn s.rc) := (cell_of_row _ _ (i * 2 + 1) _ _ _ hg).trans c1'
      have k2 := hid (copyargs_any d s.ra s.rn s.rc s.qs wr hOk.row hOk.len hwi)
      have hsr := HU.out.size
      have HG := hid hg
      have HCS := hid hcs
      have HC0 := hid c0
      have HC1 := hid c1'
      have HE := hid hsE
      have hg1 : g < w1.heap.size := by
        obtain ⟨g', _, e', _, hg', _⟩ := HR.out (by omega)
        injection e' with e'
        injection e' with e1
        subst e1
        exact (Array.getElem?_eq_some_iff.1 hg').1
      clear hg hcs c0 c1' hOk hwi hei hsE
      go_wp2_with fail
      refine k2.out.mono ?_
      rintro e w2 ⟨a2, c2, qs2, rfl, hm2, hx2, hl2, hS2, hO2, hb2⟩
      have g2 : w2.heap[g]? = some (.cells C 73 (0, 0)) := (hb2.block g hgr).trans HG.out
      have p1 : w2.cell? ⟨g, i * 2 + 1, none⟩ = some (.slice s.ra s.rn s.rc) := (cell_of_row _ _ (i * 2 + 1) _ _ _ g2).trans HC1.out
      have f1 : w2.frozen? ⟨g, i * 2 + 1, none⟩ = false := by simp [World.frozen?, g2]
      obtain ⟨Z, gZ⟩ : ∃ Z, w2.setCell ⟨g, i * 2 + 1, none⟩ (.slice a2 s.rn c2) = Z := ⟨_, rfl⟩
      have uZ : Upd (· = g) w2 Z := by rw [← gZ]; exact Upd.setCell w2 _ _ rfl
      have zg : Z.heap[g]? = some (.cells (C.setIfInBounds (i * 2 + 1) (.slice a2 s.rn c2)) 73 (0, 0)) := by rw [← gZ]; exact heap_setCell_same w2 g (i * 2 + 1) C _ _ g2
      have uR : Upd (· = g) wr Z := (Upd.of_below (F := (· = g)) hb2).trans uZ (fun _ _ h => h)
      have HN : Hid ((hs.set i ⟨s.c, a2, s.rn, c2, qs2⟩).length = n ∧ (∀ j (h1 : j < (hs.set i ⟨s.c, a2, s.rn, c2, qs2⟩).length) (h2 : j < ps.length), (j < i + 1 → StpC (w1.heap.size ≤ ·) d Z (hs.set i ⟨s.c, a2, s.rn, c2, qs2⟩)[j] ps[j]) ∧ (i + 1 ≤ j → (hs.set i ⟨s.c, a2, s.rn, c2, qs2⟩)[j] = ps[j])) ∧ StpR w.heap.size Z (some ⟨g, 0, none⟩) (hs.set i ⟨s.c, a2, s.rn, c2, qs2⟩) ∧ Upd (fun x => x < w1.heap.size ∧ w.heap.size ≤ x) w1 Z) := by
        refine hid ⟨by simpa using HLs.out, fun j h1 h2 => ?_, fun h0 => ⟨g, _, rfl, hgB, zg, fun j hj => ?_⟩, HU.out.trans uR (fun x hx e => by subst e; exact ⟨hx, hgB⟩)⟩
        · have h1' : j < hs.length := by simpa using h1
          by_cases e : j = i
          · subst e
            refine ⟨fun _ => ?_, fun h => by omega⟩
            simp only [List.getElem_set_self]
            rw [← HE.out]
            exact ⟨rfl, rfl, hl2, hm2, hx2, hS2, (hO2.upd uZ (fun x (hx : wr.heap.size ≤ x) e => by omega)).mono (fun x (hx : wr.heap.size ≤ x) => by show w1.heap.size ≤ x; omega)⟩
          · have e' : (hs.set i ⟨s.c, a2, s.rn, c2, qs2⟩)[j] = hs[j] := by rw [List.getElem_set_ne (fun h => e h.symm)]
            rw [e']
            obtain ⟨p1, p2⟩ := HI.out j h1' h2
            refine ⟨fun hj => ?_, fun hj => p2 (by omega)⟩
            have s1 := p1 (by omega)
            exact { s1 with row := s1.row.upd uR (fun x (hx : w1.heap.size ≤ x) e => by omega) }
        · have hj' : j < hs.length := by simpa using hj
          by_cases e : j = i
          · subst e
            simp only [List.getElem_set_self]
            have hlt2 := (Array.getElem?_eq_some_iff.1 HC1.out).1
            exact ⟨by rw [Array.getElem?_setIfInBounds_ne (by omega)]; exact HC0.out, by rw [Array.getElem?_setIfInBounds_self_of_lt hlt2]⟩
          · have e' : (hs.set i ⟨s.c, a2, s.rn, c2, qs2⟩)[j] = hs[j] := by rw [List.getElem_set_ne (fun h => e h.symm)]
            rw [e']
            obtain ⟨k0, k1⟩ := HCS.out j hj'
            exact ⟨by rw [Array.getElem?_setIfInBounds_ne (by omega)]; exact k0, by rw [Array.getElem?_setIfInBounds_ne (by omega)]; exact k1⟩
      have GZ := hid gZ
      clear k2 hm2 hx2 hl2 hS2 hO2 hb2 g2 uZ zg uR gZ q1
      go_wp2_with fail
      go_roundw
      case rel =>
        rw [GZ.out]
        exact ⟨i + 1, _, by omega, by go_num, hid HN.out.1, hid HN.out.2.1, hid HN.out.2.2.1, hid HN.out.2.2.2⟩
      case measure => simp [intOf]; omega
    · obtain rfl : i = n := by omega
      go_wp2_with fail
      go_ret
      refine ⟨a1, c1, hs, rfl, hm, hx, HLs.out, HS.out, fun j h1 h2 => ?_, HB1.out.trans (HU.out.below HB1.out.size (fun x hx => hx.2))⟩
      have s1 := (HI.out j h1 h2).1 (by rw [HLs.out] at h1; exact h1)
      exact { s1 with row := s1.row.mono (fun x (hx : w1.heap.size ≤ x) => Nat.le_trans HB1.out.size hx) }

end Go.Proofs.Ytkgejeamcgodhaa
