/- What the document's Copy does. -/
import Derived.Test.YtcophmafkpbdaaaR2new
import Derived.Deep.RegionHeld3
namespace Go.Proofs.Ytcophmafkpbdaaa
open Go.RowKit
set_option linter.unusedVariables false

/-- It stays what it is where more is written into, none of it its own. -/
theorem Rk.ok.grow {x : Rk} {w w' : World} {q : Nat} {M M' : List Nat} {F : Nat → Prop} (h : x.ok w q M) (u : Upd F w w') (hF : ∀ k, k < w.heap.size → F k → k ∈ M) (hn : ∀ k ∈ x.foot q, ¬ F k) (hs : ∀ k ∈ M, k ∈ M') (hg : Grew' w M M') : x.ok w' q M' := by
  have hq : q < w.heap.size := (Array.getElem?_eq_some_iff.1 h.cells).1
  refine ⟨(u.block q hq (hn q (by simp [Rk.foot]))).trans h.cells, pic_grow h.B u hF (fun k hk => by simp [Value.ownBlock] at hk; subst hk; exact hn _ (by simp [Rk.foot])) hg, h.n1, h.n2, ?_, fun j hj => ?_, fun k hk => hs k (h.inM k hk), h.nodup, h.secs⟩
  · exact h.er.move u.size (fun b hb hl => u.block b hl (hn b (by simp [Rk.foot, hb])))
  · obtain ⟨a, c, e1, e2, e3, e4⟩ := h.eps j hj
    exact ⟨a, c, e1, e2, e3, e4.upd (u.mono hF) hg⟩

/-- One epoch more. -/
theorem Rk.ok.more2 {x : Rk} {w w' : World} {q cE' : Nat} {M : List Nat} {aE' : Option Addr} {es : List (Nat × List Int)} {a : Option Addr} {c : Nat} (h : x.ok w q M) (hM : ∀ y ∈ M, y < w.heap.size) (hes : Wrm w M a es) (hc1 : es.length ≤ c) (hc2 : c ≤ 9223372036854775807) (hsec : ∀ s ∈ es, s.1 < x.n) (u : Upd (· ∈ eb x.aE) w w') (er : Erow w' aE' (x.E.length + 1) cE' (x.vs ++ [.slice a es.length c])) (hw : eb aE' = eb x.aE ∨ ∀ k ∈ eb aE', w.heap.size ≤ k) (hlt : ∀ k ∈ eb aE', k < w'.heap.size) :
    ({ x with aE := aE', cE := cE', vs := x.vs ++ [.slice a es.length c], E := x.E ++ [es] } : Rk).ok (w'.setCell ⟨q, 1, none⟩ (.slice aE' (x.E.length + 1) cE')) q (eb aE' ++ M) := by
  have hnd := h.nodup
  simp only [Rk.foot, List.nodup_cons, List.mem_cons, not_or] at hnd
  have hqM : q ∈ M := h.inM q (by simp [Rk.foot])
  have hBM : x.gB ∈ M := h.inM _ (by simp [Rk.foot])
  have hEM : ∀ k ∈ eb x.aE, k ∈ M := fun k hk => h.inM k (by simp [Rk.foot, hk])
  have hg : Grew' w M (eb aE' ++ M) := by
    intro k hk
    rcases List.mem_append.1 hk with h1 | h1
    · rcases hw with h2 | h2
      · exact .inl (hEM k (h2 ▸ h1))
      · exact .inr (h2 k h1)
    · exact .inl h1
  have hcells : w'.heap[q]? = some (.cells #[.slice (some ⟨x.gB, 0, none⟩) x.n x.cB, .slice x.aE x.E.length x.cE, .bool x.sl] 65 (0, 0)) := (u.block q (hM q hqM) hnd.1.2).trans h.cells
  have hc := heap_setCell_same w' q 1 _ _ (.slice aE' (x.E.length + 1) cE') hcells
  have hU2 : Upd (fun k => k ∈ eb x.aE ∨ k = q) w (w'.setCell ⟨q, 1, none⟩ (.slice aE' (x.E.length + 1) cE')) := (u.mono (fun _ _ h => .inl h)).trans (Upd.setCell (F := fun k => k = q) w' ⟨q, 1, none⟩ _ rfl) (fun _ _ h => .inr h)
  have hF : ∀ k, k < w.heap.size → (k ∈ eb x.aE ∨ k = q) → k ∈ M := fun k _ hk => by
    rcases hk with h1 | h1
    · exact hEM k h1
    · exact h1 ▸ hqM
  have hqE : q ∉ eb aE' := by
    rcases hw with h2 | h2
    · rw [h2]; exact hnd.1.2
    · intro hq; have h3 := h2 q hq; have h4 := hM q hqM; omega
  have hBE : x.gB ∉ eb aE' := by
    rcases hw with h2 | h2
    · rw [h2]; exact hnd.2.1
    · intro hq; have h3 := h2 _ hq; have h4 := hM _ hBM; omega
  have hEn : (eb aE').Nodup := by cases aE' <;> simp [eb]
  refine ⟨?_, pic_grow h.B hU2 hF (fun k hk hk2 => ?_) hg, h.n1, h.n2, ?_, fun j hj => ?_, fun k hk => ?_, ?_, fun e he => ?_⟩
  · rw [hc]; simp
  · simp [Value.ownBlock] at hk
    subst hk
    rcases hk2 with h1 | h1
    · exact hnd.2.1 h1
    · exact hnd.1.1 h1.symm
  · have : (x.E ++ [es]).length = x.E.length + 1 := by simp
    rw [this]
    exact er.move (by simp [World.setCell]) (fun b hb hl => heap_setCell_other w' ⟨q, 1, none⟩ b _ (fun e => hqE (by have e' : b = q := e; rw [← e']; exact hb)))
  · rcases (show j < x.E.length ∨ j = x.E.length by simp at hj; omega) with h1 | rfl
    · obtain ⟨a, c, e1, e2, e3, e4⟩ := h.eps j h1
      have hE : (x.E ++ [es])[j] = x.E[j] := List.getElem_append_left h1
      rw [hE]
      exact ⟨a, c, by rw [List.getElem?_append_left (List.getElem?_eq_some_iff.1 e1).1]; exact e1, e2, e3, e4.upd (hU2.mono hF) hg⟩
    · have hE : (x.E ++ [es])[x.E.length] = es := by simp
      rw [hE]
      exact ⟨a, c, by rw [List.getElem?_append_right (by rw [h.er.1]; exact Nat.le_refl _), h.er.1]; simp, hc1, hc2, hes.upd (hU2.mono hF) hg⟩
  · have hk' : k = q ∨ k = x.gB ∨ k ∈ eb aE' := by simpa [Rk.foot] using hk
    rcases hk' with h1 | h1 | h1
    · exact List.mem_append.2 (.inr (h1 ▸ hqM))
    · exact List.mem_append.2 (.inr (h1 ▸ hBM))
    · exact List.mem_append.2 (.inl h1)
  · simp only [Rk.foot, List.nodup_cons, List.mem_cons, not_or]
    exact ⟨⟨hnd.1.1, hqE⟩, hBE, hEn⟩
  · rcases List.mem_append.1 he with h1 | h1
    · exact h.secs e h1
    · simp at h1; subst h1; exact hsec

/-- One write more on an epoch that is laid anew, as an equation. -/
theorem acc_app {W1 w : World} {M : List Nat} {v : Value} {L : List (Nat × Value × List Int)} (hA : Acc W1 w M v L) (hM : ∀ y ∈ M, y < W1.heap.size) (S gb cb : Nat) (bs : List Int)
    (hb : Byt (w.alloc (.cells #[.int .i64 (S : Int), .slice (some ⟨gb, 0, none⟩) 128 cb] 57)) (vb v ++ M) (.slice (some ⟨gb, 0, none⟩) 128 cb) bs) (hl : L.length ≤ 4096) :
    ∃ v' w', (Builtin.append_ #[55, 55] 55 #[v, .slice (some ⟨w.heap.size, 0, none⟩) 1 1]).run Try.prog (w.alloc (.cells #[.int .i64 (S : Int), .slice (some ⟨gb, 0, none⟩) 128 cb] 57)) = .ok v' w' ∧
      Acc W1 w' M v' (L ++ [(S, .slice (some ⟨gb, 0, none⟩) 128 cb, bs)]) ∧ Upd (fun x => v.ownBlock = some x) (w.alloc (.cells #[.int .i64 (S : Int), .slice (some ⟨gb, 0, none⟩) 128 cb] 57)) w' := by
  obtain ⟨j0, hj0, hy0, hy1, hy2⟩ := info_parts Try.infoSE
  have hA8 := hA.below (one_alloc w (.cells #[.int .i64 (S : Int), .slice (some ⟨gb, 0, none⟩) 128 cb] 57))
  obtain ⟨v', w', hr, ho, hg, _, hw⟩ := run_append_where (P := Try.prog) (w.alloc (.cells #[.int .i64 (S : Int), .slice (some ⟨gb, 0, none⟩) 128 cb] 57)) 55 55 57 j0 _ 2 32 Try.underlying55 hj0 hy0 hy1 hy2 rfl (by decide) v L.length (lcells L) hA8.lst.own
    ⟨w.heap.size, 0, none⟩ 1 1 [.int .i64 (S : Int), .slice (some ⟨gb, 0, none⟩) 128 cb] rfl (by intro j u hj; rw [Addr.add_lit]; refine heap_cells (heap_alloc_new _ _) _ u ?_; simpa using hj) (by simp [Value.oneCell']) (by unfold maxLen; omega) (by omega)
  have hU : Upd (fun x => v.ownBlock = some x) (w.alloc (.cells #[.int .i64 (S : Int), .slice (some ⟨gb, 0, none⟩) 128 cb] 57)) w' := (Upd.of_grown hg).mono (fun x _ hx => hx.symm)
  refine ⟨v', w', hr, ⟨hA8.lst.snoc (fun y hy => Nat.lt_of_lt_of_le (hM y hy) hA8.bel.size) ho hU hw hb, fun x hx => ?_, hA8.bel.trans (hU.below hA8.bel.size (fun x hx => hA8.new x hx))⟩, hU⟩
  rcases hw with h | h
  · exact hA8.new x (by rw [← h]; exact hx)
  · exact Nat.le_trans hA8.bel.size (h x hx)

/-- A copy as it grows. -/
structure Cpy (x y : Rk) (w wr : World) (q : Nat) (M Mi : List Nat) (i : Nat) : Prop where
  ok : y.ok wr q Mi
  E : y.E = x.E.take i
  n : y.n = x.n
  f : y.f = x.f
  sl : y.sl = x.sl
  sub : ∀ k ∈ M, k ∈ Mi
  grew : Grew' w M Mi
  lt : ∀ k ∈ Mi, k < wr.heap.size
  foot : ∀ k ∈ y.foot q, w.heap.size ≤ k
  bel : Below w.heap.size w wr

theorem Cpy.below {x y : Rk} {w wr w' : World} {q : Nat} {M Mi : List Nat} {i : Nat} (h : Cpy x y w wr q M Mi i) (hb : Below wr.heap.size wr w') : Cpy x y w w' q M Mi i :=
  ⟨h.ok.move (Upd.of_below (F := fun _ => False) hb) (fun _ _ h => h.elim) (fun _ _ h => h), h.E, h.n, h.f, h.sl, h.sub, h.grew, fun k hk => Nat.lt_of_lt_of_le (h.lt k hk) hb.size, h.foot, h.bel.trans (hb.mono h.bel.size)⟩

set_option maxHeartbeats 8000000 in
set_option maxRecDepth 20000 in
theorem rcopy_any (x : Rk) (q : Nat) (M : List Nat) (w : World) (h : x.ok w q M) (hM : ∀ y ∈ M, y < w.heap.size) (hE : x.E.length ≤ 1800000000000) (hlen : ∀ es ∈ x.E, es.length ≤ 2048) :
    Calls Try.prog 10 #[.pointer (some ⟨q, 0, none⟩)] w fun e w' => ∃ (y : Rk) (q' : Nat) (Mi : List Nat), e = .returned (.pointer (some ⟨q', 0, none⟩)) ∧ Cpy x y w w' q' M Mi x.E.length := by
  obtain ⟨i0, hi0, hz0, hz1, hz2⟩ := info_parts Try.infoSL
  obtain ⟨c0, c1, c2⟩ := h.cell
  obtain ⟨m, gm⟩ : ∃ m, m = x.E.length := ⟨_, rfl⟩
  have hcE := h.er.2.1
  have hcE2 := h.er.2.2.1
  have hqM : q ∈ M := h.inM _ (by simp [Rk.foot])
  have hql : q < w.heap.size := hM q hqM
  have kim := hid (rimage_any q _ x.n x.f M M w.drew c0 (pic_grow h.B (Upd.of_below (F := fun _ => False) ((Below.refl _ w).drew)) (fun _ _ h => h.elim) (fun _ _ h => h) (grew_refl _ _)) h.n2 hM)
  obtain ⟨sl, gsl⟩ : ∃ sl, sl = x.sl := ⟨_, rfl⟩
  obtain ⟨aE, gaE⟩ : ∃ aE, aE = x.aE := ⟨_, rfl⟩
  obtain ⟨cE, gcE⟩ : ∃ cE, cE = x.cE := ⟨_, rfl⟩
  obtain ⟨n, gn⟩ : ∃ n, n = x.n := ⟨_, rfl⟩
  have hn1 := h.n1
  have hn2 := h.n2
  rw [← gm] at c1 hcE hE
  rw [← gaE, ← gcE] at c1
  rw [← gcE] at hcE hcE2
  rw [← gsl] at c2
  rw [← gn] at kim hn1 hn2
  have HX := hid h
  have HM := hid hM
  have GM := hid gm
  have GS := hid gsl
  have GA := hid gaE
  have GC := hid gcE
  have GN := hid gn
  have HLN := hid hlen
  clear h hM gm gsl gaE gcE gn hqM hlen c0
  rw [GM.out.symm]
  go_enter Try.func10, Try.ntmps10
  go_wp2_with fail
  go_region_held3 (fun wx => wx.cell? ⟨q, 2, none⟩ = some (.bool sl)) (go_keep) (first | (go_at_call 26; refine kim.out.mono ?_; rintro r w5 ⟨v5, rfl, hp5, hv5, hb5⟩; obtain ⟨a5, c5, e5, hc5, hc5'⟩ := own_shape hp5.choose_spec.1; obtain ⟨g5, rfl⟩ : ∃ g, a5 = some ⟨g, 0, none⟩ := (by rcases hp5.choose_spec.1.2 with ⟨h, h0⟩ | ⟨g, c, cur, h, _⟩; (exfalso; omega); (rw [e5] at h; injection h with h1 h2 h3; exact ⟨g, h1⟩)); subst e5; have HP5 := hid hp5; have HV5 := hid hv5; have HB5 : Hid (Below w.heap.size w w5) := hid ⟨hb5.os, hb5.tape, hb5.output, hb5.size, hb5.block⟩; have s2 : w5.cell? ⟨q, 2, none⟩ = some (.bool sl) := (hb5.cell (p := ⟨q, 2, none⟩) hql).trans c2; clear hp5 hv5 hb5))
  have hg5 := HV5.out g5 rfl
  have hg5' := (HP5.out.choose_spec.1.lt g5 rfl).2
  simp at hg5
  have hcp0 : Cpy x ⟨n, g5, c5, x.f, none, 0, [], [], sl⟩ w (w5.alloc (.cells #[.slice (some ⟨g5, 0, none⟩) n c5, .slice none 0 0, .bool sl] 65)) w5.heap.size M (w5.heap.size :: g5 :: M) 0 := by
    have hal := one_alloc w5 (.cells #[.slice (some ⟨g5, 0, none⟩) n c5, .slice none 0 0, .bool sl] 65)
    have hs5 := HB5.out.size
    refine ⟨⟨heap_alloc_new w5 _, ?_, hn1, hn2, ⟨rfl, Nat.le_refl _, show 0 ≤ 9223372036854775807 by omega, fun h => absurd h (Nat.lt_irrefl 0)⟩, fun i hi => absurd hi (Nat.not_lt_zero i), fun k hk => ?_, ?_, fun e he => absurd he (by simp)⟩, by simp, GN.out, rfl, GS.out, fun k hk => by simp [hk], fun k hk => ?_, fun k hk => ?_, fun k hk => ?_, HB5.out.trans (hal.mono hs5)⟩
    · refine pic_grow HP5.out (Upd.of_below (F := fun _ => False) hal) (fun _ _ h => h.elim) (fun _ _ h => h) (fun k hk => ?_)
      simp [vb, Value.ownBlock] at hk ⊢
      rcases hk with h | h | h
      · right; omega
      · left; left; exact h
      · left; right; exact h
    · simp [Rk.foot, eb] at hk ⊢; rcases hk with h | h <;> simp [h]
    · simp [Rk.foot, eb]; omega
    · simp at hk; rcases hk with h | h | h
      · right; omega
      · right; omega
      · left; exact h
    · simp at hk ⊢; rcases hk with h | h | h
      · omega
      · omega
      · have := HM.out k h; omega
    · simp [Rk.foot, eb] at hk; omega
  obtain ⟨q', gq'⟩ : ∃ q', q' = w5.heap.size := ⟨_, rfl⟩
  rw [← gq'] at hcp0 ⊢
  obtain ⟨W1, gW1⟩ : ∃ W1, W1 = w5.alloc (.cells #[.slice (some ⟨g5, 0, none⟩) n c5, .slice none 0 0, .bool sl] 65) := ⟨_, rfl⟩
  rw [← gW1] at hcp0 ⊢
  have d1 : W1.cell? ⟨q, 1, none⟩ = some (.slice aE m cE) := (hcp0.bel.cell (p := ⟨q, 1, none⟩) hql).trans c1
  have HC0 := hid hcp0
  clear hcp0 gW1 gq' s2 HP5 HV5 hg5 hg5' HB5 c1 c2 kim
  go_wp2_with fail
  go_loopw [22] (fun t wr => ∃ (i : Nat) (y : Rk) (Mi : List Nat), t = .int .i64 i ∧ i ≤ m ∧ Hid (Cpy x y w wr q' M Mi i)) (fun t _ => m - (intOf t).toNat)
  case atStart => exact ⟨0, _, _, rfl, Nat.zero_le _, HC0⟩
  case round =>
    obtain ⟨i, y, Mi, rfl, hi, HC⟩ := hrel
    by_cases hlt : i < m
    · have hil : i < x.E.length := by rw [← GM.out]; exact hlt
      obtain ⟨b, o, aa, ca, e1, hbl, x0, x1, x2, x3⟩ := HX.out.at i hil
      have hlen2 := HLN.out x.E[i] (List.getElem_mem hil)
      have hsec : ∀ s ∈ x.E[i], s.1 < x.n := HX.out.secs _ (List.getElem_mem hil)
      rw [← GA.out] at e1
      subst e1
      have q0 := (HC.out.bel.cell (p := ⟨b, o + i, none⟩) hbl).trans x0
      have htk : x.E.take (i + 1) = x.E.take i ++ [x.E[i]] := by rw [List.take_add_one, List.getElem?_eq_getElem hil]; rfl
      obtain ⟨es, ges⟩ : ∃ es, es = x.E[i] := ⟨_, rfl⟩
      rw [← ges] at q0 x1 x3 hlen2 hsec htk
      obtain ⟨k2, gk2⟩ : ∃ k2, k2 = es.length := ⟨_, rfl⟩
      rw [← gk2] at q0 x1 hlen2
      have hle : y.E.length = i := by rw [HC.out.E, List.length_take]; omega
      have HX3 := hid x3.wrs
      have HTK := hid htk
      have HSC := hid hsec
      have GK := hid gk2
      have HLE := hid hle
      clear x0 x3 htk ges gk2 hsec hle
      go_wp2_with fail
      rename World => wo
      go_loopw [6, 28] (fun v t wr => ∃ (z : Nat) (L : List (Nat × Value × List Int)), t = .int .i64 z ∧ z ≤ k2 ∧ Hid (Acc wo wr Mi v L) ∧ Hid (lab L = es.take z) ∧ Hid (L.length = z)) (fun _ t _ => k2 - (intOf t).toNat)
      case atStart => exact ⟨0, [], rfl, Nat.zero_le _, hid ⟨Lst.nil _ _, fun x hx => by simp [Value.ownBlock] at hx, Below.refl _ _⟩, hid rfl, hid rfl⟩
      case round =>
        obtain ⟨z, L, rfl, hz, HA, HL, HN⟩ := hrel
        obtain ⟨v, gv⟩ : ∃ v, v = u6 := ⟨_, rfl⟩
        rw [← gv] at HA ⊢
        clear gv
        obtain ⟨av, cv, ev, hv1, hv2⟩ := own_shape HA.out.lst.own
        rw [HN.out] at ev hv1
        subst ev
        by_cases hzl : z < k2
        · have hze : z < es.length := by rw [← GK.out]; exact hzl
          have hbw : Below w.heap.size w wr := HC.out.bel.trans (HA.out.bel.mono HC.out.bel.size)
          obtain ⟨b2, o2, e2, hl2, hc2'⟩ := (HX3.out.below hbw) (by omega)
          subst e2
          obtain ⟨r0, ab, cb, r1, hsb⟩ := hc2' z hze
          have htk2 : es.take (z + 1) = es.take z ++ [es[z]] := by rw [List.take_add_one, List.getElem?_eq_getElem hze]; rfl
          obtain ⟨S, gS⟩ : ∃ S : Nat, S = es[z].1 := ⟨_, rfl⟩
          obtain ⟨bs, gbs⟩ : ∃ bs, bs = es[z].2 := ⟨_, rfl⟩
          have hpair : es[z] = (S, bs) := by rw [gS, gbs]
          rw [← gS] at r0
          rw [← gbs] at hsb
          rw [hpair] at htk2
          have HTK2 := hid htk2
          have HSB := hid hsb
          clear hc2' htk2 hpair gS gbs hsb hbw
          go_wp2_with fail
          obtain ⟨W4, gW4⟩ : ∃ W4, W4 = wr.alloc (.cells #[.int .i64 (S : Int), .slice (some ab) 128 cb] 57) := ⟨_, rfl⟩
          rw [← gW4]
          have hb4 : Below wr.heap.size wr W4 := by rw [gW4]; exact one_alloc _ _
          have p1 : W4.cell? ⟨wr.heap.size, 0, none⟩ = some (.int .i64 (S : Int)) := by rw [gW4]; simp [go_sem]
          have p2 : W4.cell? ⟨wr.heap.size, 1, none⟩ = some (.slice (some ab) 128 cb) := by rw [gW4]; simp [go_sem]
          have hs4 : wr.heap.size < W4.heap.size := by rw [gW4]; simp
          have kb := hid (own_any ab 128 cb bs W4.drew (HSB.out.below hb4.drew) (by omega))
          clear gW4 r0 r1
          go_region_held3 (fun wx => wx.cell? ⟨wr.heap.size, 0, none⟩ = some (.int .i64 (S : Int)) ∧ wx.cell? ⟨wr.heap.size, 1, none⟩ = some (.slice (some ab) 128 cb)) (go_keep) (first | (go_at_call 27; refine kb.out.mono ?_; rintro r w6 ⟨gb, cg, rfl, hown, hb6⟩; have hbx : Below wr.heap.size wr w6 := hb4.trans ((show Below W4.heap.size W4 w6 from ⟨hb6.os, hb6.tape, hb6.output, hb6.size, hb6.block⟩).mono hb4.size); have hA6 := HA.out.below hbx; have hlg := hown.lt gb rfl; obtain ⟨v9, w9, hr9, hA9, hU9⟩ := acc_app hA6 (fun y hy => HC.out.lt y hy) S gb cg bs (byt_new (w := W4) ((Src.own hown).below (one_alloc w6 _)) (own_cap hown) hlg.1 (fun y hy => Nat.lt_of_lt_of_le (HC.out.lt y hy) (Nat.le_trans HA.out.bel.size (Nat.le_of_lt hs4))) (fun x hx => Nat.lt_trans (HA.out.lt x hx) hs4)) (by rw [HN.out]; omega); have u1 : w6.cell? ⟨wr.heap.size, 0, none⟩ = some (.int .i64 (S : Int)) := (hb6.cell (p := ⟨wr.heap.size, 0, none⟩) hs4).trans p1; have u2 : w6.cell? ⟨wr.heap.size, 1, none⟩ = some (.slice (some ab) 128 cb) := (hb6.cell (p := ⟨wr.heap.size, 1, none⟩) hs4).trans p2; have hw6 : wr.heap.size < w6.heap.size := Nat.lt_of_lt_of_le hs4 hb6.size; have hbk := hU9.block wr.heap.size (Nat.lt_of_lt_of_le hw6 (by simp)) (fun hx => absurd (HA.out.lt _ hx) (Nat.lt_irrefl _)); have v1 : w9.cell? ⟨wr.heap.size, 0, none⟩ = some (.int .i64 (S : Int)) := (World.cell?_of_block (a := ⟨wr.heap.size, 0, none⟩) hbk).trans (((one_alloc w6 _).cell (p := ⟨wr.heap.size, 0, none⟩) hw6).trans u1); have v2 : w9.cell? ⟨wr.heap.size, 1, none⟩ = some (.slice (some ab) 128 cb) := (World.cell?_of_block (a := ⟨wr.heap.size, 1, none⟩) hbk).trans (((one_alloc w6 _).cell (p := ⟨wr.heap.size, 1, none⟩) hw6).trans u2); have HA9 := hid hA9; have HR9 := hid hr9; clear hbx hA6 hlg hA9 hU9 hbk hown hb6) | (refine step_append_is (by rfl) _ _ 55 55 (by rfl) _ _ (by simp [Act.eval]) (by simp [Act.eval]) hr9 ?_))
          go_wp2_with fail
          go_roundw
          case rel => exact ⟨z + 1, _, by go_num, by omega, HA9, hid (by rw [lab_snoc, HL.out, HTK2.out]), hid (by simp [HN.out])⟩
          case measure => simp [intOf]; omega
        · obtain rfl : z = k2 := by omega
          have hcw := HC.out.below HA.out.bel
          have hlab : lab L = es := by rw [HL.out, List.take_of_length_le (by rw [GK.out]; exact Nat.le_refl _)]
          obtain ⟨a8, c8, e8, h81, h82, h83⟩ := HA.out.lst.wrm
          rw [hlab] at e8 h81 h83
          injection e8 with e81 e82 e83
          subst e81
          subst e83
          obtain ⟨f0, f1, f2⟩ := hcw.ok.cell
          have ff1 := hcw.ok.frozen 1
          rw [HLE.out] at f1
          have her := hcw.ok.er
          rw [HLE.out] at her
          obtain ⟨ya, gya⟩ : ∃ ya, ya = y.aE := ⟨_, rfl⟩
          obtain ⟨yc, gyc⟩ : ∃ yc, yc = y.cE := ⟨_, rfl⟩
          rw [← gya, ← gyc] at her f1
          have HER := hid (her.move (w' := wr.alloc (.cells #[.slice av z cv] 55)) (by simp) (fun k hk hl => (one_alloc wr _).block k hl))
          have hy1 : q' ∉ eb ya := by
            have hnd := hcw.ok.nodup
            simp only [Rk.foot, List.nodup_cons, List.mem_cons, not_or] at hnd
            rw [gya]; exact hnd.1.2
          have hql' : q' < wr.heap.size := hcw.lt q' (hcw.ok.inM q' (by simp [Rk.foot]))
          have HCW := hid hcw
          have HWM := hid h83
          have GYA := hid gya
          have GYC := hid gyc
          have H81 := hid h81
          clear hcw hlab e82 f0 f2 her h83 gya gyc h81 HL
          go_wp2_with (at_builtin; go_must (refine wpList_append_erow rfl (.tmp 46) (.tmp 48) 53 rfl i0 _ 24 Try.underlying53 hi0 hz0 hz1 hz2 rfl ya i yc _ rfl HER.out ⟨_, 0, none⟩ 1 _ rfl (heap_cells (heap_alloc_new _ _) _ _ rfl) (by simp [Value.oneCell']) (by unfold maxLen; omega) (by omega) ?_))
          intro aE' cE' w10 HER1 HU1 HW1
          have hU1 : Upd (· ∈ eb ya) wr w10 := (Upd.alloc _ wr _).trans HU1 (fun _ _ h => h)
          have f1' : w10.cell? ⟨q', 1, none⟩ = some (.slice ya i yc) := (World.cell?_of_block (a := ⟨q', 1, none⟩) (hU1.block q' hql' hy1)).trans f1
          have ff1' : w10.frozen? ⟨q', 1, none⟩ = false := (World.frozen?_of_block (a := ⟨q', 1, none⟩) (hU1.block q' hql' hy1)).trans ff1
          have hlt10 : ∀ k ∈ eb aE', k < w10.heap.size := fun k hk => by
            obtain ⟨r1, r2, r3, r4⟩ := HER1.out
            obtain ⟨b', o', e', hl', _⟩ := r4 (by omega)
            rw [e'] at hk
            simp [eb] at hk
            omega
          have hw1' : eb aE' = eb ya ∨ ∀ k ∈ eb aE', wr.heap.size ≤ k := HW1.out.imp id (fun h k hk => Nat.le_trans (by simp) (h k hk))
          have hmore := HCW.out.ok.more2 HCW.out.lt HWM.out H81.out h82 (by intro s hs; rw [HCW.out.n]; exact HSC.out s hs) (by rw [← GYA.out]; exact hU1) (aE' := aE') (cE' := cE') (by rw [HLE.out, ← GK.out]; exact HER1.out) (by rw [← GYA.out]; exact hw1') hlt10
          rw [HLE.out] at hmore
          have hcn : Cpy x { y with aE := aE', cE := cE', vs := y.vs ++ [.slice av es.length cv], E := y.E ++ [es] } w (w10.setCell ⟨q', 1, none⟩ (.slice aE' (i + 1) cE')) q' M (eb aE' ++ Mi) (i + 1) := by
            have hU2 : Upd (fun k => k ∈ eb ya ∨ k = q') wr (w10.setCell ⟨q', 1, none⟩ (.slice aE' (i + 1) cE')) := (hU1.mono (fun _ _ h => .inl h)).trans (Upd.setCell (F := fun k => k = q') w10 ⟨q', 1, none⟩ _ rfl) (fun _ _ h => .inr h)
            have hsw := HCW.out.bel.size
            refine ⟨hmore, by show y.E ++ [es] = _; rw [HTK.out, HCW.out.E], HCW.out.n, HCW.out.f, HCW.out.sl, fun k hk => List.mem_append.2 (.inr (HCW.out.sub k hk)), fun k hk => ?_, fun k hk => ?_, fun k hk => ?_, HCW.out.bel.trans (hU2.below hsw (fun k hk => ?_))⟩
            · rcases List.mem_append.1 hk with h | h
              · right
                rcases hw1' with h1 | h1
                · exact HCW.out.foot k (by rw [h1, GYA.out] at h; simp [Rk.foot, h])
                · exact Nat.le_trans hsw (h1 k h)
              · exact HCW.out.grew k h
            · rcases List.mem_append.1 hk with h | h
              · exact Nat.lt_of_lt_of_le (hlt10 k h) (by simp [World.setCell])
              · exact Nat.lt_of_lt_of_le (HCW.out.lt k h) hU2.size
            · have hk' : k = q' ∨ k = y.gB ∨ k ∈ eb aE' := by simpa [Rk.foot] using hk
              rcases hk' with h | h | h
              · exact HCW.out.foot k (by simp [Rk.foot, h])
              · exact HCW.out.foot k (by simp [Rk.foot, h])
              · rcases hw1' with h1 | h1
                · exact HCW.out.foot k (by rw [h1, GYA.out] at h; simp [Rk.foot, h])
                · exact Nat.le_trans hsw (h1 k h)
            · rcases hk with h | h
              · exact HCW.out.foot k (by rw [GYA.out] at h; simp [Rk.foot, h])
              · exact HCW.out.foot k (by simp [Rk.foot, h])
          have HCN := hid hcn
          clear hmore hcn hw1' hlt10 hU1 HU1
          go_wp2_with fail
          go_roundw
          case rel => exact ⟨i + 1, _, _, by go_num, by omega, HCN⟩
          case measure => simp [intOf]; omega
    · obtain rfl : i = m := by omega
      go_wp2_with fail
      go_ret
      exact ⟨y, q', Mi, rfl, HC.out⟩

end Go.Proofs.Ytcophmafkpbdaaa
