/- Texts of this seat, merged. -/
import Derived.Test.YtoknhcjneliboaaGreatFMg43
import Derived.Test.YtoknhcjneliboaaGreatFMg46
import Derived.Test.YtoknhcjneliboaaGreatFMg22
import Derived.Test.YtoknhcjneliboaaGreatFMg47

/- What Looks tell, row by row; how often open files are of a number. -/
namespace Go.Proofs.YtoknhcjneliboaaGreat
open Go.RowKit Go.ChangeMaps Go.MapKept
open Tm (incF Rg)
set_option linter.unusedVariables false
set_option maxRecDepth 20000

theorem flat_at (f : Nat → List Value) (L : Nat) (hL : ∀ i, (f i).length = L) : ∀ (is : List Nat) (j : Nat) (hj : j < is.length) (k : Nat), k < L → (is.flatMap f)[j * L + k]? = (f is[j])[k]?
  | i :: r, 0, hj, k, hk => by
    rw [List.flatMap_cons, List.getElem?_append_left (by rw [hL]; omega)]
    simp
  | i :: r, j + 1, hj, k, hk => by
    have e : (j + 1) * L + k = L + (j * L + k) := by rw [Nat.succ_mul]; omega
    rw [List.flatMap_cons, e, List.getElem?_append_right (by rw [hL]; omega), hL, Nat.add_sub_cancel_left]
    have hj' : j < r.length := by simpa using hj
    rw [flat_at f L hL r j hj' k hk]
    simp

/-- The numbers that are open, the pipes that are there. -/
def opn (O : Nat → Fl) (n : Nat) : List Nat := (List.range n).filter (fun i => decide ((O i).h ≠ 0))
def pth (P : Nat → Pi.Pp) (n : Nat) : List Nat := (List.range n).filter (fun i => (P i).there)
theorem opn_flat (O : Nat → Fl) : ∀ n, oiL O n = (opn O n).flatMap (fun i => oiV i (O i)) ∧ oiN O n = (opn O n).length
  | 0 => ⟨rfl, rfl⟩
  | n + 1 => by
    obtain ⟨a, b⟩ := opn_flat O n
    unfold opn at a b ⊢
    simp only [oiL, oiN, List.range_succ, List.filter_append]
    by_cases h : (O n).h = 0
    · simp [h, a, b]
    · simp [h, a, b]
theorem pth_flat (P : Nat → Pi.Pp) : ∀ n, Pi.looks P n = (pth P n).flatMap (fun i => Pi.infoCells i (P i)) ∧ Pi.countP P n = (pth P n).length
  | 0 => ⟨rfl, rfl⟩
  | n + 1 => by
    obtain ⟨a, b⟩ := pth_flat P n
    unfold pth at a b ⊢
    simp only [Pi.looks, Pi.countP, List.range_succ, List.filter_append]
    cases h : (P n).there
    · simp [h, a, b]
    · simp [h, a, b]
theorem mem_opn {O : Nat → Fl} {n i : Nat} : i ∈ opn O n ↔ i < n ∧ (O i).h ≠ 0 := by
  unfold opn
  rw [List.mem_filter, List.mem_range]
  simp

/-- Rows as they are read. -/
def Rws (w : World) (B : Nat) (a : Option Addr) (is : List Nat) (L : Nat) (f : Nat → List Value) : Prop :=
  0 < is.length → ∃ q, a = some ⟨q, 0, none⟩ ∧ B ≤ q ∧ q < w.heap.size ∧ ∀ j, ∀ h : j < is.length, ∀ k, k < L → ∀ v, (f is[j])[k]? = some v → w.cell? ⟨q, j * L + k, none⟩ = some v
theorem Rws.of {w : World} {B e n : Nat} {v : Value} {is : List Nat} {L : Nat} {f : Nat → List Value} (hL : ∀ i, (f i).length = L) (hn : n = is.length) (h : w.ownsRow B e L v n (is.flatMap f)) : ∃ a c, v = .slice a n c ∧ Rws w B a is L f := by
  obtain ⟨a, c, rfl, _, _, hc⟩ := own_shp h
  refine ⟨a, c, rfl, fun h0 => ?_⟩
  obtain ⟨q, rfl, hB, hq, hcc⟩ := hc (by omega)
  exact ⟨q, rfl, hB, hq, fun j hj k hk v hv => hcc _ v (by rw [flat_at f L hL is j hj k hk]; exact hv)⟩
theorem Rws.upd {U : Nat → Prop} {w w' : World} {B : Nat} {a : Option Addr} {is : List Nat} {L : Nat} {f : Nat → List Value} (h : Rws w B a is L f) (u : Upd U w w') (hU : ∀ b, B ≤ b → ¬ U b) : Rws w' B a is L f := fun h0 => by
  obtain ⟨q, e, hB, hq, hh⟩ := h h0
  exact ⟨q, e, hB, Nat.lt_of_lt_of_le hq u.size, fun j hj k hk v hv => (World.cell?_of_block (a := ⟨q, _, none⟩) (u.block q hq (hU q hB))).trans (hh j hj k hk v hv)⟩
theorem Rws.below {w w' : World} {B : Nat} {a : Option Addr} {is : List Nat} {L : Nat} {f : Nat → List Value} (h : Rws w B a is L f) (u : Below w.heap.size w w') : Rws w' B a is L f := h.upd (Upd.of_below (F := fun _ => False) u) (fun _ _ h => h)
theorem take_more {α : Type} (l : List α) (i : Nat) (h : i < l.length) : l.take (i + 1) = l.take i ++ [l[i]] := by
  rw [List.take_add_one]
  simp [h]

/-- How often open files are of a kind and a number. -/
def cntK (O : Nat → Fl) (is : List Nat) (a b : Int) : Nat := is.countP (fun i => decide ((O i).k = a ∧ (O i).of = b))
theorem cntK_nil (O : Nat → Fl) : cntK O [] = fun _ _ => 0 := rfl
theorem cntK_snoc (O : Nat → Fl) (is : List Nat) (i : Nat) : cntK O (is ++ [i]) = incF (cntK O is) (O i).k (O i).of := by
  funext a b
  unfold cntK incF
  rw [List.countP_append]
  by_cases h : a = (O i).k ∧ b = (O i).of
  · obtain ⟨rfl, rfl⟩ := h
    simp
  · rw [if_neg h]
    have : ¬ ((O i).k = a ∧ (O i).of = b) := fun e => h ⟨e.1.symm, e.2.symm⟩
    simp [this]
theorem cntK_le (O : Nat → Fl) (is : List Nat) (a b : Int) : cntK O is a b ≤ is.length := List.countP_le_length
theorem cntK_opn (O : Nat → Fl) (k : Int) (n : Nat) : cntK O (opn O 11) k (n : Int) = cF O k n := by
  unfold cntK opn cF
  rw [List.countP_filter]
  congr 1
  funext i
  by_cases h : (O i).h ≠ 0 <;> by_cases h2 : (O i).k = k ∧ (O i).of = (n : Int) <;> simp [h, h2]

/-- What an open file is of. -/
theorem TOk.key {T : Ft} (H : TOk T) {i : Nat} (h : (T.O i).h ≠ 0) : ((T.O i).k = 1 ∨ (T.O i).k = 2 ∨ (T.O i).k = 3) ∧ ∃ m : Nat, (T.O i).of = (m : Int) ∧ m < 17 := by
  have hi : i < 11 := by
    rcases Nat.lt_or_ge i 11 with q | q
    · exact q
    · rw [H.out i (.inr q)] at h; exact absurd rfl h
  obtain ⟨m, hm⟩ := H.of i
  have pos : ∀ k, (T.O i).k = k → 0 < cF T.O k m := fun k hk => by
    unfold cF
    exact List.countP_pos_iff.2 ⟨i, List.mem_range.2 hi, by simp [h, hk, hm]⟩
  have hk := H.k i h
  refine ⟨hk, m, hm, ?_⟩
  rcases hk with e | e | e
  · have h1 := pos 1 e
    have h2 := H.hc m
    rcases Nat.lt_or_ge m 17 with q | q
    · exact q
    · rw [H.F.out m q] at h2
      have : (Fn.no).h = 0 := rfl
      omega
  · have h1 := pos 2 e
    have h2 := H.r m
    rcases Nat.lt_or_ge m 5 with q | q
    · omega
    · rw [H.po m (.inr q)] at h2
      have : (⟨0, 0, []⟩ : Pi.Pp).r = 0 := rfl
      omega
  · have h1 := pos 3 e
    have h2 := H.w m
    rcases Nat.lt_or_ge m 5 with q | q
    · omega
    · rw [H.po m (.inr q)] at h2
      have : (⟨0, 0, []⟩ : Pi.Pp).w = 0 := rfl
      omega
theorem TOk.opn_len {T : Ft} (H : TOk T) : (opn T.O 11).length ≤ 10 := by
  have h0 : (T.O 0).h = 0 := by rw [H.out 0 (.inl rfl)]; rfl
  have e : opn T.O 11 = ((List.range' 1 10).filter (fun i => decide ((T.O i).h ≠ 0))) := by
    unfold opn
    rw [show List.range 11 = 0 :: List.range' 1 10 from rfl, List.filter_cons]
    rw [if_neg (by simp [h0])]
  rw [e]
  exact Nat.le_trans (List.length_filter_le _ _) (by simp)
theorem rg_of {a b : Int} {m : Nat} (h : a = 1 ∨ a = 2 ∨ a = 3) (hb : b = (m : Int)) (hm : m < 17) : Rg a b := ⟨by omega, by omega, by omega, by omega⟩

end Go.Proofs.YtoknhcjneliboaaGreat
