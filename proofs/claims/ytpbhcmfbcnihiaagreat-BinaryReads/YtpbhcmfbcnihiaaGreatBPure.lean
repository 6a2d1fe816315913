/- Executed programs: what they hold, how they lie, their bytes, and which may be; without a program in sight. -/
import Derived.Test.YtpbhcmfbcnihiaaGreatUpd
import Derived.Test.YtpbhcmfbcnihiaaGreatWritten
namespace Go.Proofs.YtpbhcmfbcnihiaaGreat
open Go.RowKit Num
set_option linter.unusedVariables false
set_option maxRecDepth 20000

/-- A copy: its four numbers, its bytes. -/
structure Cp where
  a : Int
  r : Int
  s : Int
  v : Int
  bs : List Int
/-- A word. -/
structure Wd where
  r : Int
  v : Int
/-- A call as it is executed. -/
structure Ex where
  n : Int
  cs : List Cp
  ws : List Wd

/-- A number lies in a cell of one of the blocks N. -/
def InAt (N : Nat → Prop) (W : World) (b o : Nat) (n : Int) : Prop := N b ∧ b < W.heap.size ∧ W.cell? ⟨b, o, none⟩ = some (.int .i64 n)
/-- A slice of bytes lies in a cell, the bytes somewhere. -/
def BsAt (N : Nat → Prop) (W : World) (b o : Nat) (zs : List Int) : Prop :=
  N b ∧ b < W.heap.size ∧ ∃ a n c, W.cell? ⟨b, o, none⟩ = some (.slice a n c) ∧ Src W a n zs ∧ (∀ b o, 0 < n → a = some ⟨b, o, none⟩ → N b) ∧ n ≤ c ∧ c ≤ 9223372036854775807
/-- A slice lies in a cell, its elements somewhere, each of so many cells. -/
def LsAt {α : Type} (sz : Nat) (At : (Nat → Prop) → World → Nat → Nat → α → Prop) (N : Nat → Prop) (W : World) (b o : Nat) (l : List α) : Prop :=
  N b ∧ b < W.heap.size ∧ ∃ a n c, W.cell? ⟨b, o, none⟩ = some (.slice a n c) ∧ l.length = n ∧ n ≤ c ∧ c ≤ 9223372036854775807 ∧
    (0 < n → ∃ b o, a = some ⟨b, o, none⟩ ∧ N b ∧ b < W.heap.size ∧ ∀ j (h : j < l.length), At N W b (o + j * sz) l[j])
def CpAt (N : Nat → Prop) (W : World) (b o : Nat) (c : Cp) : Prop := InAt N W b o c.a ∧ InAt N W b (o + 1) c.r ∧ InAt N W b (o + 2) c.s ∧ InAt N W b (o + 3) c.v ∧ BsAt N W b (o + 4) c.bs
def WdAt (N : Nat → Prop) (W : World) (b o : Nat) (x : Wd) : Prop := InAt N W b o x.r ∧ InAt N W b (o + 1) x.v
def ExAt (N : Nat → Prop) (W : World) (b o : Nat) (x : Ex) : Prop := InAt N W b o x.n ∧ LsAt 5 CpAt N W b (o + 1) x.cs ∧ LsAt 2 WdAt N W b (o + 2) x.ws
/-- The elements of a slice lie somewhere. -/
def Lies {α : Type} (sz : Nat) (At : (Nat → Prop) → World → Nat → Nat → α → Prop) (N : Nat → Prop) (W : World) (a : Option Addr) (l : List α) : Prop :=
  0 < l.length → ∃ b o, a = some ⟨b, o, none⟩ ∧ N b ∧ b < W.heap.size ∧ ∀ j (h : j < l.length), At N W b (o + j * sz) l[j]
theorem LsAt.lies {α : Type} {sz : Nat} {At : (Nat → Prop) → World → Nat → Nat → α → Prop} {N : Nat → Prop} {W : World} {b o : Nat} {l : List α} (h : LsAt sz At N W b o l) : ∃ a n c, W.cell? ⟨b, o, none⟩ = some (.slice a n c) ∧ l.length = n ∧ n ≤ c ∧ c ≤ 9223372036854775807 ∧ Lies sz At N W a l := by
  obtain ⟨_, _, a, n, c, h1, h2, h3, h4, h5⟩ := h
  exact ⟨a, n, c, h1, h2, h3, h4, fun h0 => h5 (by omega)⟩

/-- The blocks N are as they were, and are among N'. -/
def Keep (N N' : Nat → Prop) (W W' : World) : Prop := W.heap.size ≤ W'.heap.size ∧ ∀ b, N b → b < W.heap.size → N' b ∧ W'.heap[b]? = W.heap[b]?
theorem InAt.keep {N N' : Nat → Prop} {W W' : World} {b o : Nat} {n : Int} (k : Keep N N' W W') (h : InAt N W b o n) : InAt N' W' b o n :=
  ⟨(k.2 b h.1 h.2.1).1, Nat.lt_of_lt_of_le h.2.1 k.1, (World.cell?_of_block (a := ⟨b, o, none⟩) (k.2 b h.1 h.2.1).2).trans h.2.2⟩
theorem BsAt.keep {N N' : Nat → Prop} {W W' : World} {b o : Nat} {zs : List Int} (k : Keep N N' W W') (h : BsAt N W b o zs) : BsAt N' W' b o zs := by
  obtain ⟨h1, h2, a, n, c, h3, h4, h5, h6⟩ := h
  refine ⟨(k.2 b h1 h2).1, Nat.lt_of_lt_of_le h2 k.1, a, n, c, (World.cell?_of_block (a := ⟨b, o, none⟩) (k.2 b h1 h2).2).trans h3, ⟨h4.1, fun hl => ?_⟩, fun b' o' hl e => ?_, h6⟩
  · obtain ⟨b', o', e, hlt, hc⟩ := h4.2 hl
    exact ⟨b', o', e, Nat.lt_of_lt_of_le hlt k.1, fun j hj => (World.cell?_of_block (a := ⟨b', o' + j, none⟩) (k.2 b' (h5 b' o' hl e) hlt).2).trans (hc j hj)⟩
  · obtain ⟨b2, o2, e2, hlt, _⟩ := h4.2 hl
    rw [e] at e2
    cases e2
    exact (k.2 b' (h5 b' o' hl e) hlt).1
theorem LsAt.keep {α : Type} {sz : Nat} {At : (Nat → Prop) → World → Nat → Nat → α → Prop} {N N' : Nat → Prop} {W W' : World} {b o : Nat} {l : List α} (hA : ∀ b o x, At N W b o x → At N' W' b o x) (k : Keep N N' W W') (h : LsAt sz At N W b o l) : LsAt sz At N' W' b o l := by
  obtain ⟨h1, h2, a, n, c, h3, h4, h5, h6, h7⟩ := h
  refine ⟨(k.2 b h1 h2).1, Nat.lt_of_lt_of_le h2 k.1, a, n, c, (World.cell?_of_block (a := ⟨b, o, none⟩) (k.2 b h1 h2).2).trans h3, h4, h5, h6, fun h0 => ?_⟩
  obtain ⟨b', o', e, hN, hlt, hc⟩ := h7 h0
  exact ⟨b', o', e, (k.2 b' hN hlt).1, Nat.lt_of_lt_of_le hlt k.1, fun j hj => hA _ _ _ (hc j hj)⟩
theorem CpAt.keep {N N' : Nat → Prop} {W W' : World} {b o : Nat} {c : Cp} (k : Keep N N' W W') (h : CpAt N W b o c) : CpAt N' W' b o c := ⟨h.1.keep k, h.2.1.keep k, h.2.2.1.keep k, h.2.2.2.1.keep k, h.2.2.2.2.keep k⟩
theorem WdAt.keep {N N' : Nat → Prop} {W W' : World} {b o : Nat} {c : Wd} (k : Keep N N' W W') (h : WdAt N W b o c) : WdAt N' W' b o c := ⟨h.1.keep k, h.2.keep k⟩
theorem ExAt.keep {N N' : Nat → Prop} {W W' : World} {b o : Nat} {c : Ex} (k : Keep N N' W W') (h : ExAt N W b o c) : ExAt N' W' b o c := ⟨h.1.keep k, h.2.1.keep (fun _ _ _ h => CpAt.keep k h) k, h.2.2.keep (fun _ _ _ h => WdAt.keep k h) k⟩
theorem Lies.keep {α : Type} {sz : Nat} {At : (Nat → Prop) → World → Nat → Nat → α → Prop} {N N' : Nat → Prop} {W W' : World} {a : Option Addr} {l : List α} (hA : ∀ b o x, At N W b o x → At N' W' b o x) (k : Keep N N' W W') (h : Lies sz At N W a l) : Lies sz At N' W' a l := fun h0 => by
  obtain ⟨b', o', e, hN, hlt, hc⟩ := h h0
  exact ⟨b', o', e, (k.2 b' hN hlt).1, Nat.lt_of_lt_of_le hlt k.1, fun j hj => hA _ _ _ (hc j hj)⟩
theorem Keep.below {N : Nat → Prop} {W W' : World} (h : Below W.heap.size W W') : Keep N N W W' := ⟨h.size, fun b hN hb => ⟨hN, h.block b hb⟩⟩
theorem Keep.upd {N N' F : Nat → Prop} {W W' : World} (h : Upd F W W') (hF : ∀ b, N b → b < W.heap.size → N' b ∧ ¬ F b) : Keep N N' W W' := ⟨h.size, fun b hN hb => ⟨(hF b hN hb).1, h.block b hb (hF b hN hb).2⟩⟩
theorem Keep.same {N N' : Nat → Prop} {W : World} (h : ∀ b, N b → b < W.heap.size → N' b) : Keep N N' W W := ⟨Nat.le_refl _, fun b hN hb => ⟨h b hN hb, rfl⟩⟩
theorem Keep.trans {N N' N'' : Nat → Prop} {W W' W'' : World} (h : Keep N N' W W') (k : Keep N' N'' W' W'') : Keep N N'' W W'' := ⟨Nat.le_trans h.1 k.1, fun b hN hb => ⟨(k.2 b (h.2 b hN hb).1 (Nat.lt_of_lt_of_le hb h.1)).1, (k.2 b (h.2 b hN hb).1 (Nat.lt_of_lt_of_le hb h.1)).2.trans (h.2 b hN hb).2⟩⟩

/-- The bytes. -/
def eN (m : Int) (n : Int) : List Int := enc (n + m).toNat
def eS (n : Int) : List Int := enc (fld n).toNat
def eT (zs : List Int) : List Int := enc zs.length ++ zs
def eL {α : Type} (f : α → List Int) (l : List α) : List Int := enc l.length ++ (l.map f).flatten
def eW (x : Wd) : List Int := eN 1 x.r ++ eS x.v
def eR (c : Cp) : List Int := if c.r = -1 then eT c.bs else eN 0 c.s ++ eS c.v
def eC (c : Cp) : List Int := eN 0 c.a ++ (eN 1 c.r ++ eR c)
def eX (x : Ex) : List Int := eN 0 x.n ++ (eL eC x.cs ++ eL eW x.ws)
def eP (l : List Ex) : List Int := eL eX l

/-- Which may be. -/
def vB (n : Int) : Bool := decide (-1152921504606846976 ≤ n ∧ n ≤ 1152921504606846976)
def zB (n : Int) : Bool := decide (n = 1 ∨ n = 2 ∨ n = 4 ∨ n = 8)
def cB (i : Int) (c : Cp) : Bool :=
  decide (0 ≤ c.a ∧ c.a ≤ 1048576) && if c.r = -1 then decide (c.s = 0 ∧ c.v = 0 ∧ 1 ≤ c.bs.length ∧ c.bs.length ≤ 2048) else decide (0 ≤ c.r ∧ c.r ≤ i - 1) && zB c.s && vB c.v && decide (c.bs.length = 0)
def wB (i : Int) (x : Wd) : Bool := decide (-1 ≤ x.r ∧ x.r ≤ i - 1) && vB x.v
def xB (i : Int) (x : Ex) : Bool := decide (0 ≤ x.n ∧ x.n ≤ 63 ∧ x.cs.length ≤ 400 ∧ x.ws.length ≤ 6) && x.cs.all (cB i) && x.ws.all (wB i)
def pBL : Int → List Ex → Bool
  | _, [] => true
  | i, x :: r => xB i x && pBL (i + 1) r
def pB (l : List Ex) : Bool := decide (l.length ≤ 64) && pBL 0 l

theorem pBL_app : ∀ (a b : List Ex) (i : Int), pBL i (a ++ b) = (pBL i a && pBL (i + a.length) b)
  | [], b, i => by simp [pBL]
  | x :: a, b, i => by
    simp only [List.cons_append, pBL, pBL_app a b, List.length_cons, Bool.and_assoc]
    congr 3
    omega
theorem take_one {α : Type} (l : List α) (i : Nat) (h : i < l.length) : l.take (i + 1) = l.take i ++ [l[i]] := by
  rw [List.take_add_one, List.getElem?_eq_getElem h]; rfl
theorem pBL_more (l : List Ex) (i : Nat) (h : i < l.length) (hg : pBL 0 (l.take i) = true) (R : Bool) (hR : xB i l[i] = R) : pBL 0 (l.take (i + 1)) = R := by
  rw [take_one l i h, pBL_app, hg, List.length_take, show min i l.length = i by omega]
  simp [pBL, hR]
theorem pBL_stop (l : List Ex) (i : Nat) (h : i < l.length) (hg : pBL 0 (l.take (i + 1)) = false) : pBL 0 l = false := by
  have e : l = l.take (i + 1) ++ l.drop (i + 1) := (List.take_append_drop _ _).symm
  rw [e, pBL_app, hg]
  rfl
theorem all_more {α : Type} (p : α → Bool) (l : List α) (i : Nat) (h : i < l.length) (hg : (l.take i).all p = true) (hR : p l[i] = true) : (l.take (i + 1)).all p = true := by
  rw [take_one l i h, List.all_append, hg]
  simp [hR]
theorem all_stop {α : Type} (p : α → Bool) (l : List α) (i : Nat) (h : i < l.length) (hR : p l[i] = false) : l.all p = false := by
  rw [List.all_eq_false]
  exact ⟨_, List.getElem_mem h, by simp [hR]⟩

end Go.Proofs.YtpbhcmfbcnihiaaGreat
