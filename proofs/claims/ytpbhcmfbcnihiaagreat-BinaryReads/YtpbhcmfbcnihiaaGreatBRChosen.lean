/- The chosen codec: what its Read reads. How words, copies and calls lie in their cells. -/
import Derived.Test.YtpbhcmfbcnihiaaGreatBRList
import Derived.Test.YtpbhcmfbcnihiaaGreatBChosen
namespace Go.Proofs.YtpbhcmfbcnihiaaGreat
open Go.RowKit Num
set_option linter.unusedVariables false
set_option maxRecDepth 20000

def IsW (N : Nat → Prop) (W : World) (cs : List Value) (x : Wd) : Prop := cs = [.int .i64 x.r, .int .i64 x.v]
def IsC (N : Nat → Prop) (W : World) (cs : List Value) (c : Cp) : Prop := ∃ u, cs = [.int .i64 c.a, .int .i64 c.r, .int .i64 c.s, .int .i64 c.v, u] ∧ IsB N W [u] c.bs
def IsX (N : Nat → Prop) (W : World) (cs : List Value) (x : Ex) : Prop := ∃ u v, cs = [.int .i64 x.n, u, v] ∧ IsL 5 CpAt N W [u] x.cs ∧ IsL 2 WdAt N W [v] x.ws

theorem IsC.keep {N : Nat → Prop} {W W' : World} {cs : List Value} {c : Cp} (k : Keep N N W W') (h : IsC N W cs c) : IsC N W' cs c := by
  obtain ⟨u, h1, h2⟩ := h
  exact ⟨u, h1, h2.keep k⟩
theorem IsX.keep {N : Nat → Prop} {W W' : World} {cs : List Value} {c : Ex} (k : Keep N N W W') (h : IsX N W cs c) : IsX N W' cs c := by
  obtain ⟨u, v, h1, h2, h3⟩ := h
  exact ⟨u, v, h1, h2.keep (fun _ _ _ h => CpAt.keep k h) k, h3.keep (fun _ _ _ h => WdAt.keep k h) k⟩
theorem IsB.mono {N N' : Nat → Prop} {W : World} {cs : List Value} {zs : List Int} (k : ∀ b, N b → N' b) (h : IsB N W cs zs) : IsB N' W cs zs := by
  obtain ⟨a, n, c, h1, h2, h3, h4⟩ := h
  exact ⟨a, n, c, h1, h2, fun b o h5 h6 => k b (h3 b o h5 h6), h4⟩
theorem IsL.mono {α : Type} {sz : Nat} {At : (Nat → Prop) → World → Nat → Nat → α → Prop} {N N' : Nat → Prop} {W : World} {cs : List Value} {l : List α} (hA : ∀ b o x, At N W b o x → At N' W b o x) (k : ∀ b, N b → N' b) (h : IsL sz At N W cs l) : IsL sz At N' W cs l := by
  obtain ⟨a, n, c, h1, h2, h3, h4, h5⟩ := h
  exact ⟨a, n, c, h1, h2, h3, h4, h5.keep hA (Keep.same (fun b hb _ => k b hb))⟩
theorem IsC.mono {N N' : Nat → Prop} {W : World} {cs : List Value} {c : Cp} (k : ∀ b, N b → N' b) (h : IsC N W cs c) : IsC N' W cs c := by
  obtain ⟨u, h1, h2⟩ := h
  exact ⟨u, h1, h2.mono k⟩
theorem IsX.mono {N N' : Nat → Prop} {W : World} {cs : List Value} {c : Ex} (k : ∀ b, N b → N' b) (h : IsX N W cs c) : IsX N' W cs c := by
  obtain ⟨u, v, h1, h2, h3⟩ := h
  exact ⟨u, v, h1, h2.mono (fun _ _ _ h => CpAt.keep (Keep.same (fun b hb _ => k b hb)) h) k, h3.mono (fun _ _ _ h => WdAt.keep (Keep.same (fun b hb _ => k b hb)) h) k⟩
theorem seg_cell {W : World} {b o : Nat} {C : List Value} {t : TypeId} {n : Nat} {cs : List Value} (hC : W.heap[b]? = some (.cells C.toArray t (0, 0))) (h : (C.drop o).take n = cs) (j : Nat) (v : Value) (hv : cs[j]? = some v) : W.cell? ⟨b, o + j, none⟩ = some v := by
  refine at_block hC v ?_
  rw [← h] at hv
  have hj : j < n := by
    rcases Nat.lt_or_ge j n with h | h
    · exact h
    · rw [List.getElem?_eq_none (by simp; omega)] at hv; cases hv
  rw [List.getElem?_take_of_lt hj, List.getElem?_drop] at hv
  exact hv
theorem IsW.lies (N : Nat → Prop) (W : World) (b o : Nat) (C : List Value) (t : TypeId) (x : Wd) (hb : N b) (hC : W.heap[b]? = some (.cells C.toArray t (0, 0))) (hl : o + 2 ≤ C.length) (h : IsW N W ((C.drop o).take 2) x) : WdAt N W b o x := by
  have hbl : b < W.heap.size := (Array.getElem?_eq_some_iff.1 hC).1
  unfold IsW at h
  exact ⟨⟨hb, hbl, seg_cell hC h 0 _ rfl⟩, ⟨hb, hbl, seg_cell hC h 1 _ rfl⟩⟩
theorem IsC.lies (N : Nat → Prop) (W : World) (b o : Nat) (C : List Value) (t : TypeId) (x : Cp) (hb : N b) (hC : W.heap[b]? = some (.cells C.toArray t (0, 0))) (hl : o + 5 ≤ C.length) (h : IsC N W ((C.drop o).take 5) x) : CpAt N W b o x := by
  have hbl : b < W.heap.size := (Array.getElem?_eq_some_iff.1 hC).1
  obtain ⟨u, h, a, n, c, h1, h2, h3, h4⟩ := h
  cases h1
  exact ⟨⟨hb, hbl, seg_cell hC h 0 _ rfl⟩, ⟨hb, hbl, seg_cell hC h 1 _ rfl⟩, ⟨hb, hbl, seg_cell hC h 2 _ rfl⟩, ⟨hb, hbl, seg_cell hC h 3 _ rfl⟩, ⟨hb, hbl, a, n, c, seg_cell hC h 4 _ rfl, h2, h3, h4⟩⟩
theorem IsX.lies (N : Nat → Prop) (W : World) (b o : Nat) (C : List Value) (t : TypeId) (x : Ex) (hb : N b) (hC : W.heap[b]? = some (.cells C.toArray t (0, 0))) (hl : o + 3 ≤ C.length) (h : IsX N W ((C.drop o).take 3) x) : ExAt N W b o x := by
  have hbl : b < W.heap.size := (Array.getElem?_eq_some_iff.1 hC).1
  obtain ⟨u, v, h, ⟨a, n, c, h1, h2, h3, h4, h5⟩, ⟨a', n', c', h1', h2', h3', h4', h5'⟩⟩ := h
  cases h1
  cases h1'
  exact ⟨⟨hb, hbl, seg_cell hC h 0 _ rfl⟩, ⟨hb, hbl, a, n, c, seg_cell hC h 1 _ rfl, h2, h3, h4, fun h0 => h5 (by omega)⟩, ⟨hb, hbl, a', n', c', seg_cell hC h 2 _ rfl, h2', h3', h4', fun h0 => h5' (by omega)⟩⟩

def rCh (r0 r1 : Cp → List Int → Option (Cp × Nat)) (x : Cp) (zs : List Int) : Option (Cp × Nat) := if x.r = -1 then r0 x zs else r1 x zs

set_option maxHeartbeats 4000000 in
theorem chosen_rd (B : Nat) (wc : World) (q lb rb : Nat) (hq : B ≤ q ∧ q < wc.heap.size) (hl : B ≤ lb ∧ lb < wc.heap.size) (hr : B ≤ rb ∧ rb < wc.heap.size) (f0 f1 g0 g1 : Array Value) (k0 k1 j0 j1 : Nat)
    (h1 : wc.cell? ⟨q, 0, none⟩ = some (fv 88 #[pt lb, pt rb])) (l0 : wc.cell? ⟨lb, 0, none⟩ = some (fv k0 f0)) (l1 : wc.cell? ⟨lb, 1, none⟩ = some (fv k1 f1)) (r0 : wc.cell? ⟨rb, 0, none⟩ = some (fv j0 g0)) (r1 : wc.cell? ⟨rb, 1, none⟩ = some (fv j1 g1))
    (d0 d1 : Cp → List Int → Option (Cp × Nat)) (hL : Rd B wc 5 IsC d0 k1 f1) (hR : Rd B wc 5 IsC d1 j1 g1) :
    Rd B wc 5 IsC (rCh d0 d1) 119 #[pt q] := by
  refine ⟨fun args w => by kernel_rfl, fun W N p g len at_ zs b o C t c hW hRr hz hbB hbp hbg hC hlen hI hN hNp hNb => ?_⟩
  show Calls Tryz.prog 119 #[.pointer (some ⟨p, 0, none⟩), .pointer (some ⟨b, o, none⟩), pt q] W _
  have c1 := (hW.atc 0 hq.2 (by omega)).trans h1
  obtain ⟨k, hk⟩ : ∃ k, decide (c.r = -1) = k := ⟨_, rfl⟩
  have hs := hW.size
  have hbl : b < W.heap.size := (Array.getElem?_eq_some_iff.1 hC).1
  have cr : W.cell? ⟨b, o + 1, none⟩ = some (.int .i64 c.r) := by
    obtain ⟨u, h, _⟩ := hI
    exact seg_cell hC h 1 _ rfl
  have kc := hid (choose_any b o lb rb c.r f0 f1 g0 g1 k0 k1 j0 j1 W cr hbl (by omega) (by omega) ((hW.atc 0 hl.2 (by omega)).trans l0) ((hW.atc 1 hl.2 (by omega)).trans l1) ((hW.atc 0 hr.2 (by omega)).trans r0) ((hW.atc 1 hr.2 (by omega)).trans r1) k hk)
  have kw : Rd B wc 5 IsC (fun x zs => if c.r = -1 then d0 x zs else d1 x zs) (if k = true then k1 else j1) (if k = true then f1 else g1) := by
    cases k
    · have hc := of_decide_eq_false hk
      simp only [Bool.false_eq_true, if_false]
      exact hR.imp (fun x zs => by rw [if_neg hc])
    · have hc := of_decide_eq_true hk
      simp only [if_true]
      exact hL.imp (fun x zs => by rw [if_pos hc])
  have hgo := kw.1
  have k2 := hid (fun wx (hb : Below W.heap.size W wx) => kw.2 wx N p g len at_ zs b o C t c (hW.trans (Upd.of_below hb) (fun _ _ h => h)) (hRr.below hb) hz hbB hbp hbg ((hb.block b hbl).trans hC) hlen (hI.keep (Keep.below hb)) (fun k hk => hN k (Nat.le_trans hb.size hk)) hNp hNb)
  dsimp only at k2
  unfold rCh
  generalize (if c.r = -1 then d0 c (zs.drop at_) else d1 c (zs.drop at_)) = R at k2 ⊢
  generalize (if k = true then k1 else j1) = K1 at kc k2 hgo
  generalize (if k = true then f1 else g1) = F1 at kc k2
  generalize (if k = true then k0 else j0) = K0 at kc
  generalize (if k = true then f0 else g0) = F0 at kc
  clear hI hk hRr hC hW kw hL hR l0 l1 r0 r1 h1 hz hN hNp hNb hlen
  go_enter Tryz.func119, Tryz.ntmps119
  go_wp2_with fail
  refine kc.out.mono ?_
  rintro e w1 ⟨rfl, hb1⟩
  have HB := hid hb1
  have hfl := congrFun (fld114_1 K0 K1 F0 F1) w1
  clear hb1 kc
  cases R with
  | none =>
    go_wp2_with fail
    refine (k2.out _ HB.out).mono ?_
    rintro e w2 ⟨hU2, t', u', rfl⟩
    have HU2 := hid ((Upd.of_below (F := fun k => k = p ∨ k = b) HB.out).trans hU2 (fun _ _ h => h))
    clear hU2 k2 hgo
    go_wp2_with fail
    go_ret
    exact ⟨HU2.out, t', u', rfl⟩
  | some y =>
    go_wp2_with fail
    refine (k2.out _ HB.out).mono ?_
    rintro e w2 ⟨hU2, rfl, h2⟩
    have HU2 := hid ((Upd.of_below (F := fun k => k = p ∨ k = b) HB.out).trans hU2 (fun _ _ h => h))
    have H2 := hid h2
    clear hU2 k2 hgo h2
    go_wp2_with fail
    go_ret
    exact ⟨HU2.out, rfl, H2.out⟩

end Go.Proofs.YtpbhcmfbcnihiaaGreat
