/- What the document's Decode answers. Written by gen_brdec.py. -/
import Derived.Test.YtpbhcmfbcnihiaaGreatBRow
import Derived.Test.YtpbhcmfbcnihiaaGreatBREnc
namespace Go.Proofs.YtpbhcmfbcnihiaaGreat
open Go.RowKit Num
set_option linter.unusedVariables false
set_option maxRecDepth 20000

theorem rtext18 (L p q : Nat) (s : Rs) (w : World) (h : Rf w L p q s) :
    Calls Tryz.prog 27 #[pt q, .int .i64 2048] w fun e w' => e = .returned (.tuple #[.string (strOfNums (txt s.zs 2048).1), .int .i64 ((txt s.zs 2048).2.2 : Nat)]) ∧ Rf w' L p q ⟨s.zs.drop (txt s.zs 2048).2.1, s.bad⟩ ∧ Upd (· = q) w w' := by
  obtain ⟨a, n, c, h1, hR, hs, hl⟩ := h.refOf
  refine (reftext_any q a n c s.zs 2048 w hR hs h.by_).mono ?_
  rintro e w' ⟨rfl, hk⟩
  refine ⟨rfl, ?_⟩
  rcases hk with ⟨h0, rfl⟩ | hk
  · rw [h0, List.drop_zero]
    exact ⟨h, Upd.refl _ _⟩
  · exact h.kept h1 hs hl _ hk

/-- How far the copies of a call are read. -/
def InvC (w2 : World) (L p q xb : Nat) (M : Nat → Prop) (u : Int) (s2 : Rs) (j : Nat) (wr : World) : Prop :=
  ∃ (M' : Nat → Prop) (vc : Value), Rf wr L p q (mR copR j s2).2 ∧ (∀ k, M k → M' k) ∧ (∀ k, M' k → (M k ∨ w2.heap.size ≤ k) ∧ k < wr.heap.size) ∧ wr.heap[xb]? = some (.cells #[.int .i64 u, vc, .slice none 0 0] 48 (0, 0)) ∧
    Rw wr M' 50 5 IsC vc (mR copR j s2).1 ∧ (∀ g, vc.ownBlock = some g → w2.heap.size ≤ g ∧ ¬ M' g) ∧ (∀ c ∈ (mR copR j s2).1, Bytes c.bs) ∧ Upd (fun k => k = p ∨ k = q ∨ k = xb) w2 wr
def InvW (w2 : World) (L p q xb : Nat) (u : Int) (vc : Value) (s2 : Rs) (j : Nat) (wr : World) : Prop :=
  ∃ (vw : Value), Rf wr L p q (mR wdR j s2).2 ∧ wr.heap[xb]? = some (.cells #[.int .i64 u, vc, vw] 48 (0, 0)) ∧
    Rw wr (fun _ => False) 53 2 IsW vw (mR wdR j s2).1 ∧ (∀ g, vw.ownBlock = some g → w2.heap.size ≤ g) ∧ Upd (fun k => k = p ∨ k = q ∨ k = xb) w2 wr
def InvO (w : World) (p q : Nat) (s1 : Rs) (i : Nat) (out : Value) (wr : World) : Prop :=
  ∃ M : Nat → Prop, Rf wr w.heap.size p q (mR exR i s1).2 ∧ (∀ k, M k → w.heap.size ≤ k ∧ k < wr.heap.size ∧ k ≠ p ∧ k ≠ q) ∧ Rw wr M 48 3 IsX out (mR exR i s1).1 ∧ (∀ g, out.ownBlock = some g → w.heap.size ≤ g ∧ g ≠ p ∧ g ≠ q ∧ ¬ M g) ∧ ByP (mR exR i s1).1 ∧ Below w.heap.size w wr

theorem upd3 {w w' : World} {p q x : Nat} (h : Upd (fun k => k = p ∨ k = q) w w') : Upd (fun k => k = p ∨ k = q ∨ k = x) w w' := h.mono (fun k _ hk => by rcases hk with rfl | rfl; exact .inl rfl; exact .inr (.inl rfl))
theorem mR_more {α : Type} (f : Rs → α × Rs) (k : Nat) (s : Rs) (l : List α) (s' : Rs) (h : mR f k s = (l, s')) : mR f (k + 1) s = (l ++ [(f s').1], (f s').2) := by
  simp only [mR, h]

end Go.Proofs.YtpbhcmfbcnihiaaGreat
