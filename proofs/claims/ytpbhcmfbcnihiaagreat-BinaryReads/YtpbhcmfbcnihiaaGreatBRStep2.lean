/- A call that is read whole is appended: facts of memory alone. -/
import Derived.Test.YtpbhcmfbcnihiaaGreatBRStep
namespace Go.Proofs.YtpbhcmfbcnihiaaGreat
open Go.RowKit Num
set_option linter.unusedVariables false
set_option maxRecDepth 20000

theorem Rw.lt {α : Type} {W : World} {M : Nat → Prop} {T sz : Nat} {Is : (Nat → Prop) → World → List Value → α → Prop} {v : Value} {l : List α} (h : Rw W M T sz Is v l) : ∀ g, v.ownBlock = some g → g < W.heap.size := by
  obtain ⟨D, h1, _⟩ := h
  exact fun g hg => (h1.lt g hg).2
theorem Rw.one {α : Type} {W : World} {M : Nat → Prop} {T sz : Nat} {Is : (Nat → Prop) → World → List Value → α → Prop} {v : Value} {l : List α} (h : Rw W M T sz Is v l) : v.oneCell' = true := by
  obtain ⟨D, h1, _⟩ := h
  rcases h1.2 with ⟨rfl, hn⟩ | ⟨g, cap, cur, rfl, _⟩ <;> rfl

theorem exec_step {w wo wl w9 : World} {p q : Nat} {M M' : Nat → Prop} {s1 S' : Rs} {i : Nat} {out v' vc vw : Value} {E : List Value} {m1 : Int} {CS : List Cp} {WS : List Wd}
    (hLp : w.heap.size ≤ p) (hLq : w.heap.size ≤ q) (hpo : p < wo.heap.size) (hqo : q < wo.heap.size) (hM : ∀ k, M k → w.heap.size ≤ k ∧ k < wo.heap.size ∧ k ≠ p ∧ k ≠ q)
    (hE : wo.ownsRow 0 48 3 out (mR exR i s1).1.length E) (hEs : ∀ j (h : j < (mR exR i s1).1.length), IsX M wo ((E.drop (j * 3)).take 3) (mR exR i s1).1[j])
    (hout : ∀ g, out.ownBlock = some g → w.heap.size ≤ g ∧ g ≠ p ∧ g ≠ q ∧ ¬ M g) (hbyp : ByP (mR exR i s1).1) (hB : Below w.heap.size w wo) (hU : Upd (fun k => k = p ∨ k = q) wo wl)
    (hM1 : ∀ k, M k → M' k) (hM2 : ∀ k, M' k → (M k ∨ wo.heap.size ≤ k) ∧ k < wl.heap.size) (hC : Rw wl M' 50 5 IsC vc CS) (hvc : ∀ g, vc.ownBlock = some g → wo.heap.size ≤ g) (hW : Rw wl (fun _ => False) 53 2 IsW vw WS) (hvw : ∀ g, vw.ownBlock = some g → wo.heap.size ≤ g) (hby : ∀ c ∈ CS, Bytes c.bs)
    (hex : exR (mR exR i s1).2 = (⟨m1, CS, WS⟩, S')) (hRf : Rf wl w.heap.size p q S')
    (o : Obj) (h9 : w9.ownsRow 0 48 3 v' ((mR exR i s1).1.length + 1) (E ++ [.int .i64 m1, vc, vw])) (hu9 : Upd (fun k => out.ownBlock = some k) (wl.alloc o) w9) (hf9 : v'.ownBlock = out.ownBlock ∨ ∀ x, v'.ownBlock = some x → (wl.alloc o).heap.size ≤ x) :
    InvO w p q s1 (i + 1) v' w9 := by
  have hsU := hU.size
  have hsB := hB.size
  have hs9 := hu9.size
  simp at hs9
  have hol : ∀ g, out.ownBlock = some g → g < wo.heap.size := fun g hg => (hE.lt g hg).2
  have u79 : Upd (fun k => out.ownBlock = some k) wl w9 := (Upd.alloc _ wl o).trans hu9 (fun _ _ h => h)
  obtain ⟨N, gN⟩ : ∃ N : Nat → Prop, N = fun k => M' k ∨ vc.ownBlock = some k ∨ vw.ownBlock = some k := ⟨_, rfl⟩
  have hN : ∀ k, N k → (M k ∨ wo.heap.size ≤ k) ∧ k < wl.heap.size := fun k hk => by
    rw [gN] at hk
    rcases hk with h | h | h
    · exact hM2 k h
    · exact ⟨.inr (hvc k h), hC.lt k h⟩
    · exact ⟨.inr (hvw k h), hW.lt k h⟩
  have hNo : ∀ k, N k → ¬ out.ownBlock = some k := fun k hk e => by
    rcases (hN k hk).1 with h | h
    · exact (hout k e).2.2.2 h
    · have := hol k e; omega
  have hNpq : ∀ k, N k → w.heap.size ≤ k ∧ k ≠ p ∧ k ≠ q := fun k hk => by
    rcases (hN k hk).1 with h | h
    · have := hM k h; omega
    · omega
  have e1 : (mR exR (i + 1) s1).1 = (mR exR i s1).1 ++ [(⟨m1, CS, WS⟩ : Ex)] := by simp only [mR, hex]
  have e2 : (mR exR (i + 1) s1).2 = S' := by simp only [mR, hex]
  refine ⟨N, ?_, fun k hk => ?_, ?_, fun g hg => ?_, ?_, ?_⟩
  · rw [e2]
    exact hRf.upd u79 (fun e => (hout p e).2.1 rfl) (fun e => (hout q e).2.2.1 rfl) (fun k hk => (hout k hk).1)
  · have h1 := hNpq k hk
    have h2 := (hN k hk).2
    omega
  · rw [e1]
    have hE7 : wl.ownsRow 0 48 3 out (mR exR i s1).1.length E := hU.own hE (fun k hk h => by have := hout k hk; omega)
    have hMN : ∀ k, M k → N k := fun k hk => by rw [gN]; exact .inl (hM1 k hk)
    have hEs7 : ∀ j (h : j < (mR exR i s1).1.length), IsX N wl ((E.drop (j * 3)).take 3) (mR exR i s1).1[j] := fun j h => IsX.mono hMN (IsX.keep (Keep.upd hU (fun b hb _ => ⟨hb, by have := hM b hb; omega⟩)) (hEs j h))
    obtain ⟨ac, cc, ec, c1, c2, c3⟩ := hC.lies (M' := N) (At := CpAt) (fun k hk => by rw [gN]; exact .inl hk) (fun g hg => by rw [gN]; exact .inr (.inl hg)) (fun _ _ _ _ _ k h => IsC.mono k h) IsC.lies
    obtain ⟨aw, cw, ew, d1, d2, d3⟩ := hW.lies (M' := N) (At := WdAt) (fun k hk => hk.elim) (fun g hg => by rw [gN]; exact .inr (.inr hg)) (fun _ _ _ _ _ k h => h) IsW.lies
    have hx : IsX N wl [.int .i64 m1, vc, vw] (⟨m1, CS, WS⟩ : Ex) := ⟨vc, vw, rfl, ⟨ac, _, cc, by rw [ec], rfl, c1, c2, c3⟩, ⟨aw, _, cw, by rw [ew], rfl, d1, d2, d3⟩⟩
    exact Rw.step (F := fun k => out.ownBlock = some k) hE7 hEs7 h9 rfl u79 (fun k hk _ => hNo k hk) (IsX.keep (Keep.upd u79 (fun b hb _ => ⟨hb, hNo b hb⟩)) hx) (fun _ _ _ _ _ k h => IsX.keep k h)
  · rcases hf9 with f | f
    · have h1 := hout g (f ▸ hg)
      exact ⟨h1.1, h1.2.1, h1.2.2.1, fun hm => hNo g hm (f ▸ hg)⟩
    · have h1 := f g hg
      simp at h1
      exact ⟨by omega, by omega, by omega, fun hm => by have := (hN g hm).2; omega⟩
  · rw [e1]
    intro x hx
    rcases List.mem_append.1 hx with h | h
    · exact hbyp x h
    · rw [List.mem_singleton.1 h]
      exact hby
  · have b1 : Below w.heap.size wo wl := hU.below hsB (fun x hx => by rcases hx with h | h <;> omega)
    have b2 : Below w.heap.size wl w9 := u79.below (by omega) (fun x hx => (hout x hx).1)
    exact (hB.trans b1).trans b2

end Go.Proofs.YtpbhcmfbcnihiaaGreat
