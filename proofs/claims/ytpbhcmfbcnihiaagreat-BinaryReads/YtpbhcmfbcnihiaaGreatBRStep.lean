/- What an append leaves of what the document's Decode has read: facts of memory alone. -/
import Derived.Test.YtpbhcmfbcnihiaaGreatBRDec
namespace Go.Proofs.YtpbhcmfbcnihiaaGreat
open Go.RowKit Num
set_option linter.unusedVariables false
set_option maxRecDepth 20000

theorem xb_cell {w2 wr a7 a9 : World} {p q xb : Nat} {u : Int} {vc v2 : Value} {o : Obj} (hxb : xb < w2.heap.size) (hpx : p ≠ xb) (hqx : q ≠ xb) (hU : w2.heap.size ≤ wr.heap.size) (hcell : wr.heap[xb]? = some (.cells #[.int .i64 u, vc, v2] 48 (0, 0))) (hu7 : Upd (fun k => k = p ∨ k = q) wr a7) {F : Nat → Prop} (hF : ¬ F xb) (hu9 : Upd F (a7.alloc o) a9) :
    a7.heap[xb]? = some (.cells #[.int .i64 u, vc, v2] 48 (0, 0)) ∧ a9.heap[xb]? = some (.cells #[.int .i64 u, vc, v2] 48 (0, 0)) := by
  have h7 := hu7.heap hcell (by omega)
  have hl7 := (Array.getElem?_eq_some_iff.1 h7).1
  exact ⟨h7, hu9.heap (((below_box a7 o).block xb hl7).trans h7) hF⟩

theorem copy_step {w2 wr a7 a9 : World} {L p q xb : Nat} {M M' M'' : Nat → Prop} {u : Int} {s2 : Rs} {j : Nat} {vc v' : Value} {D ccs : List Value} (hxb : xb < w2.heap.size) (hLw : L ≤ w2.heap.size) (hLx : L ≤ xb) (hpx : p ≠ xb) (hqx : q ≠ xb) (hp : p < w2.heap.size) (hq : q < w2.heap.size) (hMw : ∀ k, M k → k ≠ p ∧ k ≠ q ∧ k ≠ xb ∧ k < w2.heap.size)
    (hM1 : ∀ k, M k → M' k) (hM2 : ∀ k, M' k → (M k ∨ w2.heap.size ≤ k) ∧ k < wr.heap.size) (hcell : wr.heap[xb]? = some (.cells #[.int .i64 u, vc, .slice none 0 0] 48 (0, 0))) (hD : wr.ownsRow 0 50 5 vc (mR copR j s2).1.length D) (hIs : ∀ i (h : i < (mR copR j s2).1.length), IsC M' wr ((D.drop (i * 5)).take 5) (mR copR j s2).1[i])
    (hvc : ∀ g, vc.ownBlock = some g → w2.heap.size ≤ g ∧ ¬ M' g) (hby : ∀ c ∈ (mR copR j s2).1, Bytes c.bs) (hU : Upd (fun k => k = p ∨ k = q ∨ k = xb) w2 wr)
    (hu7 : Upd (fun k => k = p ∨ k = q) wr a7) (hRf : Rf a7 L p q (copR (mR copR j s2).2).2) (hM3 : ∀ k, M' k → M'' k) (hM4 : ∀ k, M'' k → (M' k ∨ wr.heap.size ≤ k) ∧ k < a7.heap.size) (hc : IsC M'' a7 ccs (copR (mR copR j s2).2).1) (hcl : ccs.length = 5) (hcb : Bytes (copR (mR copR j s2).2).1.bs)
    (o : Obj) (h9 : a9.ownsRow 0 50 5 v' ((mR copR j s2).1.length + 1) (D ++ ccs)) (hu9 : Upd (fun k => vc.ownBlock = some k) (a7.alloc o) a9) (hf9 : v'.ownBlock = vc.ownBlock ∨ ∀ x, v'.ownBlock = some x → (a7.alloc o).heap.size ≤ x) :
    InvC w2 L p q xb M u s2 (j + 1) (a9.setCell ⟨xb, 1, none⟩ v') := by
  have hsU := hU.size
  have hs7 := hu7.size
  have hs9 := hu9.size
  simp at hs9
  have hvcl : ∀ g, vc.ownBlock = some g → g < wr.heap.size := fun g hg => (hD.lt g hg).2
  have hvx : ¬ (vc.ownBlock = some xb) := fun e => by have := (hvc xb e).1; omega
  obtain ⟨x7, x9⟩ := xb_cell hxb hpx hqx hsU hcell hu7 hvx hu9
  have uS : Upd (· = xb) a9 (a9.setCell ⟨xb, 1, none⟩ v') := Upd.setCell a9 ⟨xb, 1, none⟩ _ rfl
  have u79 : Upd (fun k => vc.ownBlock = some k) a7 a9 := (Upd.alloc _ a7 o).trans hu9 (fun _ _ h => h)
  have hv' : ∀ g, v'.ownBlock = some g → w2.heap.size ≤ g ∧ ¬ M'' g := fun g hg => by
    rcases hf9 with f | f
    · have h1 := hvc g (f ▸ hg)
      have h2 := hvcl g (f ▸ hg)
      exact ⟨h1.1, fun hm => by rcases (hM4 g hm).1 with h | h; exact h1.2 h; omega⟩
    · have h1 := f g hg
      simp at h1
      exact ⟨by omega, fun hm => by have := (hM4 g hm).2; omega⟩
  have hM5 : ∀ k, M'' k → k ≠ xb := fun k hk e => by
    subst e
    rcases (hM4 k hk).1 with h | h
    · rcases (hM2 k h).1 with h' | h'
      · exact (hMw k h').2.2.1 rfl
      · omega
    · omega
  have hM6 : ∀ k, M'' k → ¬ vc.ownBlock = some k := fun k hk e => by
    rcases (hM4 k hk).1 with h | h
    · exact (hvc k e).2 h
    · have := hvcl k e; omega
  have hM7 : ∀ k, M' k → k ≠ p ∧ k ≠ q := fun k hk => by
    rcases (hM2 k hk).1 with h' | h'
    · exact ⟨(hMw k h').1, (hMw k h').2.1⟩
    · omega
  refine ⟨M'', v', ?_, fun k hk => hM3 k (hM1 k hk), fun k hk => ⟨?_, ?_⟩, ?_, ?_, hv', ?_, ?_⟩
  · have e : (mR copR (j + 1) s2).2 = (copR (mR copR j s2).2).2 := rfl
    rw [e]
    exact ((hRf.upd u79 (fun e => by have := hvc p e; omega) (fun e => by have := hvc q e; omega) (fun k hk => by have := hvc k hk; omega))).upd uS hpx hqx (fun k hk => by omega)
  · rcases (hM4 k hk).1 with h | h
    · exact (hM2 k h).1
    · right; omega
  · have := (hM4 k hk).2
    have := uS.size
    omega
  · rw [heap_setCell_same a9 xb 1 _ _ _ x9]
    rfl
  · have e : (mR copR (j + 1) s2).1 = (mR copR j s2).1 ++ [(copR (mR copR j s2).2).1] := rfl
    rw [e]
    have hD7 : a7.ownsRow 0 50 5 vc (mR copR j s2).1.length D := hu7.own hD (fun k hk h => by have := hvc k hk; omega)
    have hIs7 : ∀ i (h : i < (mR copR j s2).1.length), IsC M'' a7 ((D.drop (i * 5)).take 5) (mR copR j s2).1[i] := fun i h => IsC.mono hM3 (IsC.keep (Keep.upd hu7 (fun b hb _ => ⟨hb, by have := hM7 b hb; omega⟩)) (hIs i h))
    have r := Rw.step (F := fun k => vc.ownBlock = some k) hD7 hIs7 h9 hcl u79 (fun k hk _ => hM6 k hk) (IsC.keep (Keep.upd u79 (fun b hb _ => ⟨hb, hM6 b hb⟩)) hc) (fun _ _ _ _ _ k h => IsC.keep k h)
    exact r.keep uS (fun g hg e => by subst e; have := hv' g hg; omega) (fun k hk _ => hM5 k hk) (fun _ h => h) (fun _ _ _ _ _ k h => IsC.keep k h) (fun _ _ _ _ _ k h => IsC.mono k h)
  · have e : (mR copR (j + 1) s2).1 = (mR copR j s2).1 ++ [(copR (mR copR j s2).2).1] := rfl
    rw [e]
    intro c hc'
    rcases List.mem_append.1 hc' with h | h
    · exact hby c h
    · rw [List.mem_singleton.1 h]
      exact hcb
  · have h1 := (hU.trans (upd3 (x := xb) hu7) (fun _ _ h => h)).trans u79 (fun k hk e => by have := hvc k e; omega)
    exact h1.trans uS (fun k _ hk => .inr (.inr hk))

theorem word_step {w2 wr a7 a9 : World} {L p q xb : Nat} {u : Int} {vc vw v' : Value} {s2 : Rs} {j : Nat} {D ccs : List Value} (hxb : xb < w2.heap.size) (hLw : L ≤ w2.heap.size) (hLx : L ≤ xb) (hpx : p ≠ xb) (hqx : q ≠ xb) (hp : p < w2.heap.size) (hq : q < w2.heap.size)
    (hcell : wr.heap[xb]? = some (.cells #[.int .i64 u, vc, vw] 48 (0, 0))) (hD : wr.ownsRow 0 53 2 vw (mR wdR j s2).1.length D) (hIs : ∀ i (h : i < (mR wdR j s2).1.length), IsW (fun _ => False) wr ((D.drop (i * 2)).take 2) (mR wdR j s2).1[i])
    (hvc : ∀ g, vw.ownBlock = some g → w2.heap.size ≤ g) (hU : Upd (fun k => k = p ∨ k = q ∨ k = xb) w2 wr)
    (hu7 : Upd (fun k => k = p ∨ k = q) wr a7) (hRf : Rf a7 L p q (wdR (mR wdR j s2).2).2) (hc : IsW (fun _ => False) a7 ccs (wdR (mR wdR j s2).2).1) (hcl : ccs.length = 2)
    (o : Obj) (h9 : a9.ownsRow 0 53 2 v' ((mR wdR j s2).1.length + 1) (D ++ ccs)) (hu9 : Upd (fun k => vw.ownBlock = some k) (a7.alloc o) a9) (hf9 : v'.ownBlock = vw.ownBlock ∨ ∀ x, v'.ownBlock = some x → (a7.alloc o).heap.size ≤ x) :
    InvW w2 L p q xb u vc s2 (j + 1) (a9.setCell ⟨xb, 2, none⟩ v') := by
  have hsU := hU.size
  have hs7 := hu7.size
  have hs9 := hu9.size
  simp at hs9
  have hvx : ¬ (vw.ownBlock = some xb) := fun e => by have := hvc xb e; omega
  obtain ⟨x7, x9⟩ := xb_cell hxb hpx hqx hsU hcell hu7 hvx hu9
  have uS : Upd (· = xb) a9 (a9.setCell ⟨xb, 2, none⟩ v') := Upd.setCell a9 ⟨xb, 2, none⟩ _ rfl
  have u79 : Upd (fun k => vw.ownBlock = some k) a7 a9 := (Upd.alloc _ a7 o).trans hu9 (fun _ _ h => h)
  have hv' : ∀ g, v'.ownBlock = some g → w2.heap.size ≤ g := fun g hg => by
    rcases hf9 with f | f
    · exact hvc g (f ▸ hg)
    · have h1 := f g hg
      simp at h1
      omega
  refine ⟨v', ?_, ?_, ?_, hv', ?_⟩
  · have e : (mR wdR (j + 1) s2).2 = (wdR (mR wdR j s2).2).2 := rfl
    rw [e]
    exact ((hRf.upd u79 (fun e => by have := hvc p e; omega) (fun e => by have := hvc q e; omega) (fun k hk => by have := hvc k hk; omega))).upd uS hpx hqx (fun k hk => by omega)
  · rw [heap_setCell_same a9 xb 2 _ _ _ x9]
    rfl
  · have e : (mR wdR (j + 1) s2).1 = (mR wdR j s2).1 ++ [(wdR (mR wdR j s2).2).1] := rfl
    rw [e]
    have hD7 : a7.ownsRow 0 53 2 vw (mR wdR j s2).1.length D := hu7.own hD (fun k hk h => by have := hvc k hk; omega)
    have r := Rw.step (F := fun k => vw.ownBlock = some k) (Is := IsW) (M := fun _ => False) hD7 hIs h9 hcl u79 (fun k hk _ => hk.elim) hc (fun _ _ _ _ _ k h => h)
    exact r.keep uS (fun g hg e => by subst e; have := hv' g hg; omega) (fun k hk _ => hk.elim) (fun _ h => h) (fun _ _ _ _ _ k h => h) (fun _ _ _ _ _ k h => h)
  · have h1 := (hU.trans (upd3 (x := xb) hu7) (fun _ _ h => h)).trans u79 (fun k hk e => by have := hvc k e; omega)
    exact h1.trans uS (fun k _ hk => .inr (.inr hk))

end Go.Proofs.YtpbhcmfbcnihiaaGreat
