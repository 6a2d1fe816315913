/- What the document's Write does where it opens a new epoch. -/
import Derived.Test.YtcophmafkpbdaaaR2lst
import Derived.Test.YtcophmafkpbdaaaDWrite
import Derived.Deep.RegionHeld3
namespace Go.Proofs.Ytcophmafkpbdaaa
open Go.RowKit
set_option linter.unusedVariables false

theorem rthere_yes (q i n : Nat) (a : Option Addr) (c : Nat) (w : World) (h0 : w.cell? ⟨q, 0, none⟩ = some (.slice a n c)) (hi : i < n) :
    Calls Try.prog 50 #[.pointer (some ⟨q, 0, none⟩), .int .i64 (i : Int)] w fun e w' => e = .returned (.bool true) ∧ w' = w := by
  have k := rthere q n a c (i : Int) w h0
  rw [show decide ((0 : Int) ≤ i ∧ (i : Int) < n) = true from decide_eq_true (by omega)] at k
  exact k

set_option maxHeartbeats 4000000 in
set_option maxRecDepth 20000 in
theorem rwrite_new (x : Rk) (q i cap : Nat) (a0 : Addr) (M : List Nat) (bs : List Int) (w : World) (h : x.ok w q M) (hM : ∀ y ∈ M, y < w.heap.size) (hi : i < x.n) (hb : Byt w M (.slice (some a0) 128 cap) bs) (hnew : x.E.length = 0 ∨ x.sl = true) (hE : x.E.length ≤ 1800000000000) :
    Calls Try.prog 29 #[.pointer (some ⟨q, 0, none⟩), .int .i64 (i : Int), .slice (some a0) 128 cap] w fun e w' => e = .returned (.int .i64 0) ∧
      ∃ (y : Rk) (M' : List Nat), y.ok w' q M' ∧ y.n = x.n ∧ y.gB = x.gB ∧ y.f = x.f ∧ y.E = x.E ++ [[(i, bs)]] ∧ y.sl = false ∧ Grew' w M M' ∧ (∀ k ∈ M, k ∈ M') ∧ (∀ k ∈ M', k < w'.heap.size) ∧ Upd (· ∈ x.foot q) w w' ∧ ∀ k ∈ eb y.aE, k ∈ eb x.aE ∨ w.heap.size ≤ k := by
  obtain ⟨i0, hi0, hz0, hz1, hz2⟩ := info_parts Try.infoSL
  obtain ⟨j0, hj0, hy0, hy1, hy2⟩ := info_parts Try.infoSE
  obtain ⟨c0, c1, c2⟩ := h.cell
  have f1 := h.frozen 1
  have f2 := h.frozen 2
  have kt := hid (rthere_yes q i x.n _ _ w c0 hi)
  have hqM : q ∈ M := h.inM q (by simp [Rk.foot])
  have hql : q < w.heap.size := hM q hqM
  have hnd := h.nodup
  simp only [Rk.foot, List.nodup_cons, List.mem_cons, not_or] at hnd
  obtain ⟨m, gm⟩ : ∃ m, m = x.E.length := ⟨_, rfl⟩
  obtain ⟨aE, gaE⟩ : ∃ aE, aE = x.aE := ⟨_, rfl⟩
  obtain ⟨cE, gcE⟩ : ∃ cE, cE = x.cE := ⟨_, rfl⟩
  obtain ⟨sl, gsl⟩ : ∃ sl, sl = x.sl := ⟨_, rfl⟩
  have hb0 : Below w.heap.size w (w.alloc (.cells #[.slice none 0 0] 55)) := (Below.refl _ _).alloc (Nat.le_refl _) _
  have her : Erow (w.alloc (.cells #[.slice none 0 0] 55)) aE m cE x.vs := by
    rw [gaE, gm, gcE]
    exact h.er.move hb0.size (fun b _ hl => hb0.block b hl)
  have hqE : q ∉ eb aE := by rw [gaE]; exact hnd.1.2
  have HX := hid h
  have HM := hid hM
  have HB := hid hb
  have HER := hid her
  have HND := hid hnd
  rw [← gm, ← gaE, ← gcE] at c1
  rw [← gsl] at c2
  rw [← gm] at hnew hE
  rw [← gsl] at hnew
  have GM := hid gm
  have GA := hid gaE
  have GC := hid gcE
  clear h hM hb her hnd gm gaE gcE gsl c0 hqM
  have hcase : ((m : Int) == 0) = true ∨ (((m : Int) == 0) = false ∧ sl = true) := by
    by_cases h0 : m = 0
    · exact .inl (by simp [h0])
    · exact .inr ⟨by simp [h0], hnew.resolve_left h0⟩
  rcases hcase with hm | ⟨hm, hsl⟩
  all_goals
    clear hnew
    go_enter Try.func29, Try.ntmps29
    go_wp2_with fail
    refine kt.out.mono ?_
    rintro e w9 ⟨rfl, rfl⟩
    go_wp2_with (at_builtin; (refine wpList_append_erow rfl (.tmp 37) (.tmp 38) 53 rfl i0 _ 24 Try.underlying53 hi0 hz0 hz1 hz2 rfl aE m cE _ rfl HER.out ⟨_, 0, none⟩ 1 _ rfl (heap_cells (heap_alloc_new _ _) _ _ rfl) (by simp [Value.oneCell']) (by unfold maxLen; omega) (by omega) ?_))
    intro aE' cE' w1 HER1 HU1 HW1

    obtain ⟨r1, r2, r3, r4⟩ := HER1.out
    obtain ⟨b, o, rfl, hbl, h5, h6⟩ := r4 (by omega)
    have hU1 : Upd (· ∈ eb aE) w9 w1 := (Upd.alloc _ w9 _).trans HU1 (fun _ _ h => h)
    have hqb : q ≠ b := by
      intro e
      rcases HW1.out with h | h
      · exact hqE (by rw [← h, e]; simp [eb])
      · have := h b (by simp [eb]); have := hb0.size; omega
    have c1' : w1.cell? ⟨q, 1, none⟩ = some (.slice aE m cE) := (World.cell?_of_block (a := ⟨q, 1, none⟩) (hU1.block q hql hqE)).trans c1
    have c2' : w1.cell? ⟨q, 2, none⟩ = some (.bool sl) := (World.cell?_of_block (a := ⟨q, 2, none⟩) (hU1.block q hql hqE)).trans c2
    have f1' : w1.frozen? ⟨q, 1, none⟩ = false := (World.frozen?_of_block (a := ⟨q, 1, none⟩) (hU1.block q hql hqE)).trans f1
    have f2' : w1.frozen? ⟨q, 2, none⟩ = false := (World.frozen?_of_block (a := ⟨q, 2, none⟩) (hU1.block q hql hqE)).trans f2
    have e5 : w1.cell? ⟨b, o + m, none⟩ = some (.slice none 0 0) := by
      rw [h5 m (by omega), List.getElem?_append_right (by have := HER.out.1; omega), HER.out.1]; simp
    have e6 : w1.frozen? ⟨b, o + m, none⟩ = false := (h6 m (by omega)).2
    have HMORE := hid (HX.out.more HM.out (by rw [← GA.out]; exact hU1) (aE' := some ⟨b, o, none⟩) (cE' := cE') (by rw [← GM.out]; exact HER1.out) (by rw [← GA.out]; exact HW1.out.imp id (fun h k hk => by have := h k hk; have := hb0.size; omega)) (fun k hk => by simp [eb] at hk; omega))
    have HU1' := hid hU1
    clear r1 r3 r4 h5 h6 hU1 HU1 c1 c2 f1 f2 kt
    go_wp2_with fail
    obtain ⟨W2, gW2⟩ : ∃ W2, W2 = (w1.setCell ⟨q, 1, none⟩ (.slice (some ⟨b, o, none⟩) (m + 1) cE')).setCell ⟨q, 2, none⟩ (.bool false) := ⟨_, rfl⟩
    rw [← gW2]
    have hok2 : ({ x with aE := some ⟨b, o, none⟩, cE := cE', vs := x.vs ++ [.slice none 0 0], E := x.E ++ [[]], sl := false } : Rk).ok W2 q (eb (some ⟨b, o, none⟩) ++ M) := by
      have h1 := HMORE.out
      rw [← GM.out] at h1
      have hc := heap_setCell_same _ q 2 _ _ (.bool false) h1.cells
      rw [gW2]
      exact h1.turn (Upd.setCell _ _ _ rfl) _ _ _ _ _ (hc.trans rfl) h1.er (.inl rfl) h1.eps h1.secs
    have hU2 : Upd (· ∈ q :: eb aE) w9 W2 := by
      rw [gW2]
      exact ((HU1'.out.mono (fun _ _ h => List.mem_cons_of_mem _ h)).trans (Upd.setCell (F := (· ∈ q :: eb aE)) w1 ⟨q, 1, none⟩ _ (by simp)) (fun _ _ h => h)).trans (Upd.setCell (F := (· ∈ q :: eb aE)) _ ⟨q, 2, none⟩ _ (by simp)) (fun _ _ h => h)
    have HOK2 := hid hok2
    have HU2 := hid hU2
    clear gW2 hok2 hU2 c1' c2' f1' f2' e5 e6 HMORE HU1'
    go_loopw [8, 9, 59] (fun v p k wr => v = .slice none 0 0 ∧ p = .bool false ∧ k = .int .i64 0 ∧ wr = W2) (fun _ _ _ _ => 0)
    case atStart => exact ⟨rfl, rfl, rfl, rfl⟩
    case round =>
      obtain ⟨rfl, rfl, rfl, rfl⟩ := hrel
      rename World => W2
      have hqM : q ∈ M := HX.out.inM q (by simp [Rk.foot])
      have hEM : ∀ k ∈ eb aE, k ∈ M := fun k hk => HX.out.inM k (by rw [GA.out] at hk; simp [Rk.foot, hk])
      have hUM : Upd (· ∈ M) w9 W2 := HU2.out.mono (fun k _ hk => (List.mem_cons.1 hk).elim (fun h => h ▸ hqM) (hEM k))
      have hM2 : ∀ y ∈ eb (some (⟨b, o, none⟩ : Addr)) ++ M, y < W2.heap.size := by
        intro y hy
        have hs2 := HU2.out.size
        rcases List.mem_append.1 hy with h | h
        · exact (HOK2.out.er.2.2.2 (show 0 < cE' by omega)).elim (fun b' hb' => by obtain ⟨o', e, hl, _⟩ := hb'; injection e with e; injection e with e1 e2; simp [eb] at h; omega)
        · have := HM.out y h; omega
      have hsrc : Src W2 (some a0) 128 bs := by
        obtain ⟨a, c, e, hs, _⟩ := HB.out.upd hUM (grew_refl _ _)
        injection e with e1 e2 e3
        injection e1 with e1
        rw [e1]; exact hs
      have HM2 := hid hM2
      have HUM := hid hUM
      have ko := hid (own_any a0 128 cap bs W2 hsrc (by omega))
      clear hM2 hUM hsrc hEM
      go_wp2_with fail
      refine ko.out.mono ?_
      rintro r w3 ⟨gb, cb, rfl, hown, hb3⟩
      have HOWN := hid hown
      have HB3 := hid hb3
      clear hown hb3 ko
      have hgb := HOWN.out.lt gb rfl
      go_wp2_with (at_builtin; go_must (refine wpList_append_lst rfl _ _ 55 rfl j0 _ Try.underlying55 hj0 hy0 hy1 hy2 rfl (.slice none 0 0) [] (eb (some (⟨b, o, none⟩ : Addr)) ++ M) rfl (Lst.nil _ _) (fun y hy => Nat.lt_of_lt_of_le (HM2.out y hy) (Nat.le_trans HB3.out.size (by simp))) ⟨_, 0, none⟩ 1 rfl i (.slice (some ⟨gb, 0, none⟩) 128 cb) bs (by rw [Addr.add_lit]; exact heap_cells (heap_alloc_new _ _) _ _ rfl) (by rw [Addr.add_lit]; exact heap_cells (heap_alloc_new _ _) _ _ rfl) rfl ⟨⟨gb, 0, none⟩, cb, rfl, (Src.own HOWN.out).below ((Below.refl _ _).alloc (Nat.le_refl _) _), fun hx => by have h1 := HM2.out gb (by simpa [vb, Value.ownBlock] using hx); omega, own_cap HOWN.out⟩ (by simp) ?_))
      intro v4 w4 HL4 HU4 HW4
      obtain ⟨a4, c4, rfl, _, _⟩ := own_shape HL4.out.own
      have hU4 : Upd (fun _ => False) W2 w4 := ((Upd.of_below (F := fun _ => False) HB3.out).trans (Upd.alloc (fun _ => False) w3 _) (fun _ _ h => h)).trans (HU4.mono (G := fun _ => False) (fun k _ hk => by simp [Value.ownBlock] at hk)) (fun _ _ h => h)
      have hok4 := HOK2.out.move hU4 (fun _ _ h => h.elim) (fun _ _ h => h)
      have hlen : (x.E ++ [[]]).length = m + 1 := by rw [GM.out]; simp
      have d1 : w4.cell? ⟨q, 1, none⟩ = some (.slice (some ⟨b, o, none⟩) (m + 1) cE') := by have := hok4.cell.2.1; simp only [hlen] at this; exact this
      obtain ⟨d2, d3⟩ : w4.cell? ⟨b, o + m, none⟩ = some (.slice none 0 0) ∧ w4.frozen? ⟨b, o + m, none⟩ = false := by
        obtain ⟨q1, q2, q3, q4⟩ := hok4.er
        obtain ⟨b', o', e, hl, q5, q6⟩ := q4 (show 0 < cE' by omega)
        injection e with e
        injection e with e1 e2
        subst e1
        subst e2
        have hx := HX.out.er.1
        refine ⟨?_, (q6 m (show m < cE' by omega)).2⟩
        rw [q5 m (by rw [hlen]; omega), List.getElem?_append_right (by rw [hx, GM.out]; exact Nat.le_refl _), hx, GM.out]
        simp
      have HOK4 := hid hok4
      have HU24 := hid hU4
      clear hok4 hU4 hlen
      go_wp2_with fail
      go_ret
      have hfin := HOK4.out.setAt (l := m) (by show m < (x.E ++ [[]]).length; rw [GM.out]; simp) rfl HL4.out (fun s hs => by simp [lab] at hs; rw [hs]; exact hi)
      refine ⟨rfl, _, _, hfin, rfl, rfl, rfl, ?_, rfl, ?_, fun k hk => List.mem_append.2 (.inr hk), ?_, ?_, fun k hk => ?_⟩
      · show (x.E ++ [[]]).set m (lab ([] ++ [(i, _, bs)])) = x.E ++ [[(i, bs)]]
        rw [GM.out]; simp [lab]
      · intro k hk
        rcases List.mem_append.1 hk with h | h
        · rcases HW1.out with h1 | h1
          · exact .inl (HX.out.inM k (by rw [h1, GA.out] at h; simp [Rk.foot, h]))
          · have := h1 k h; have := hb0.size; exact .inr (by omega)
        · exact .inl h
      · intro k hk
        have h1 := HM2.out k hk
        have h2 := HU24.out.size
        exact Nat.lt_of_lt_of_le h1 (Nat.le_trans h2 (by simp))
      · have hbF : b ∈ x.foot q ∨ w9.heap.size ≤ b := by
          rcases HW1.out with h1 | h1
          · exact .inl (by have : b ∈ eb aE := by rw [← h1]; simp [eb]
                           rw [GA.out] at this; simp [Rk.foot, this])
          · have := h1 b (by simp [eb]); have := hb0.size; exact .inr (by omega)
        have hu1 : Upd (· ∈ x.foot q) w9 w4 := (HU2.out.mono (fun k _ hk => by rw [GA.out] at hk; simp [Rk.foot] at hk ⊢; rcases hk with h | h <;> simp [h])).trans (HU24.out.mono (G := (· ∈ x.foot q)) (fun _ _ h => h.elim)) (fun _ _ h => h)
        refine ⟨hu1.os, hu1.tape, hu1.output, Nat.le_trans hu1.size (by simp), fun k hk hn => ?_⟩
        have hkb : k ≠ b := fun e => by rcases hbF with h | h; exact hn (e ▸ h); omega
        rw [heap_setCell_other w4 ⟨b, o + m, none⟩ k _ hkb]
        exact hu1.block k hk hn
      · rw [← GA.out]
        rcases HW1.out with h1 | h1
        · exact .inl (h1 ▸ hk)
        · have := h1 k hk; have := hb0.size; exact .inr (by omega)

end Go.Proofs.Ytcophmafkpbdaaa
