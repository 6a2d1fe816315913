/- Texts of this seat, merged. -/
import Derived.Test.YtbglhmcahnkbfaaGreatHMg9
import Derived.Test.YtbglhmcahnkbfaaGreatHMg10
import Derived.Laws.AppendOwnNone

/- Bytes behind a row of the call's own. -/
namespace Go.Proofs.YtbglhmcahnkbfaaGreat.Pi
open Go.RowKit Lend
set_option linter.unusedVariables false
set_option maxRecDepth 20000

theorem Tryz.info5 : (Tryz.prog.info? 5).map (fun i => (i.zero, i.size, i.bytes)) = some (some (.int .u8 0), 1, 1) := by kernel_rfl

end Go.Proofs.YtbglhmcahnkbfaaGreat.Pi

/- What the calls of pipes come to, as the document says it (no memory in sight), and that the program's calls come to it. -/
namespace Go.Proofs.YtbglhmcahnkbfaaGreat.Pi
open Go.RowKit Lend
set_option linter.unusedVariables false
set_option maxRecDepth 20000

/-- What is left of a pipe that nobody has. -/
def clr (x : Pp) : Pp := if x.there then x else ⟨0, 0, []⟩
theorem clr_there (x : Pp) : (clr x).there = x.there := by unfold clr; cases h : x.there <;> simp [h]; rfl
theorem clr_yes {x : Pp} (h : x.there = true) : clr x = x := by simp [clr, h]

/-- The program's table, what is left in pipes that are gone aside. -/
structure Tc (w : World) (p : Nat) (k : Bool) (P : Nat → Pp) : Prop where
  ex : ∃ P0, Tb w p k P0 ∧ ∀ i, i < 5 → P i = clr (P0 i)
  most : ∀ i, i < 5 → (P i).r ≤ 1000 ∧ (P i).w ≤ 1000

theorem Tc.put {w w' : World} {p i : Nat} {k : Bool} {P P0 : Nat → Pp} {x y : Pp} (h : Tc w p k P) (ht : Tb w' p k (updP P0 i y)) (he : ∀ j, j < 5 → P j = clr (P0 j)) (hx : x = clr y) (hr : x.r ≤ 1000) (hw : x.w ≤ 1000) : Tc w' p k (updP P i x) :=
  ⟨⟨_, ht, fun j hj => by
    by_cases e : j = i
    · subst e; rw [updP_same, updP_same]; exact hx
    · rw [updP_ne _ _ _ _ e, updP_ne _ _ _ _ e]; exact he j hj⟩, fun j hj => by
    by_cases e : j = i
    · subst e; rw [updP_same]; exact ⟨hr, hw⟩
    · rw [updP_ne _ _ _ _ e]; exact h.most j hj⟩
theorem Tc.upd {F : Nat → Prop} {w w' : World} {p : Nat} {k : Bool} {P : Nat → Pp} (h : Tc w p k P) (u : Upd F w w') (hF : ¬ F p) : Tc w' p k P := by
  obtain ⟨P0, ht, he⟩ := h.ex; exact ⟨⟨P0, ht.upd u hF, he⟩, h.most⟩
theorem Tc.below {B : Nat} {w w' : World} {p : Nat} {k : Bool} {P : Nat → Pp} (h : Tc w p k P) (u : Below B w w') (hF : p < B) : Tc w' p k P := by
  obtain ⟨P0, ht, he⟩ := h.ex; exact ⟨⟨P0, ht.below u hF, he⟩, h.most⟩
theorem Tc.hp {w w' : World} {p : Nat} {k : Bool} {P : Nat → Pp} (h : Tc w p k P) (e : w'.heap = w.heap) : Tc w' p k P := by
  obtain ⟨P0, ht, he⟩ := h.ex; exact ⟨⟨P0, ht.hp e, he⟩, h.most⟩
theorem Tc.lt {w : World} {p : Nat} {k : Bool} {P : Nat → Pp} (h : Tc w p k P) : p < w.heap.size := by
  obtain ⟨P0, ht, he⟩ := h.ex; exact ht.lt

/-- The lowest free number, or 0. -/
def lowest (P : Nat → Pp) : Nat := if (P 1).there = false then 1 else if (P 2).there = false then 2 else if (P 3).there = false then 3 else if (P 4).there = false then 4 else 0
def makeE (P : Nat → Pp) : Int := if lowest P = 0 then 23 else 0
def makeP (P : Nat → Pp) : Nat → Pp := if lowest P = 0 then P else updP P (lowest P) ⟨1, 1, []⟩
def dropE (P : Nat → Pp) (n : Int) (b : Bool) : Int := if has P n then (if (P n.toNat).ends b = 0 then 22 else 0) else 9
def dropP (k : Bool) (P : Nat → Pp) (n : Int) (b : Bool) : Nat → Pp := if has P n then (if (P n.toNat).ends b = 0 then P else if b && k then P else updP P n.toNat (clr ((P n.toNat).setEnds b ((P n.toNat).ends b - 1)))) else P
def readE (P : Nat → Pp) (n c : Int) : Int := if has P n then (if c < 0 then 22 else 0) else 9
def readL (P : Nat → Pp) (n c : Int) : List Int := if has P n then (if 0 < c then (P n.toNat).q.take c.toNat else []) else []
def readW (P : Nat → Pp) (n c : Int) : Bool := if has P n then (if 0 < c then (if (P n.toNat).q = [] then decide (0 < (P n.toNat).w) else false) else false) else false
def readP (P : Nat → Pp) (n c : Int) : Nat → Pp := if has P n then (if 0 < c then updP P n.toNat { P n.toNat with q := (P n.toNat).q.drop c.toNat } else P) else P
def writeE (P : Nat → Pp) (n : Int) : Int := if has P n then (if (P n.toNat).r = 0 then 32 else 0) else 9
def writeN (P : Nat → Pp) (n : Int) (len : Nat) : Nat := if has P n then (if (P n.toNat).r = 0 then 0 else min len (8 - (P n.toNat).q.length)) else 0
def writeW (P : Nat → Pp) (n : Int) (len : Nat) : Bool := if has P n then (if (P n.toNat).r = 0 then false else decide (0 < len) && decide (min len (8 - (P n.toNat).q.length) = 0)) else false
def writeP (P : Nat → Pp) (n : Int) (zs : List Int) : Nat → Pp := if has P n then (if (P n.toNat).r = 0 then P else updP P n.toNat { P n.toNat with q := (P n.toNat).q ++ zs.take (min zs.length (8 - (P n.toNat).q.length)) }) else P

theorem has_some {P : Nat → Pp} {n : Int} (h : has P n = true) : ∃ i : Nat, n = i ∧ 1 ≤ i ∧ i ≤ 4 ∧ (P i).there = true := by
  simp only [has, Bool.and_eq_true, decide_eq_true_eq] at h
  exact ⟨n.toNat, by omega, by omega, by omega, h.2⟩
theorem has_eq {P P0 : Nat → Pp} (he : ∀ i, i < 5 → P i = clr (P0 i)) (n : Int) : has P n = has P0 n := by
  by_cases h1 : 1 ≤ n
  · by_cases h4 : n ≤ 4
    · simp [has, h1, h4]; rw [he n.toNat (by omega), clr_there]
    · simp [has, h4]
  · simp [has, h1]
theorem drop_spec (p : Nat) (n : Int) (k b : Bool) (P : Nat → Pp) (w : World) (h : Tc w p k P) :
    Calls Tryz.prog 203 #[.pointer (some ⟨p, 0, none⟩), .int .i64 n, .bool b] w fun e w' => e = .returned (.int .i64 (dropE P n b)) ∧ Tc w' p k (dropP k P n b) ∧ Upd (· = p) w w' := by
  obtain ⟨P0, ht, he⟩ := h.ex
  cases hn : has P n
  · refine (drop_err (some ⟨p, 0, none⟩) n 9 b w (pipe_no p n k P0 w ht (by rw [← has_eq he]; exact hn)) (by omega)).mono ?_
    rintro e w' ⟨rfl, rfl⟩
    exact ⟨by simp [dropE, hn], by simpa [dropP, hn] using h, Upd.refl _ _⟩
  · obtain ⟨i, rfl, h1, h4, hi⟩ := has_some hn
    have hP : P i = P0 i := by
      have := he i (by omega)
      rw [this, clr_there] at hi
      rw [this, clr_yes hi]
    rw [hP] at hi
    have hm := h.most i (by omega)
    rw [hP] at hm
    have hme : (P0 i).ends b ≤ 1000 := by unfold Pp.ends; split <;> omega
    by_cases c : (P0 i).ends b = 0
    · refine (drop_none p i k b P0 w ht h1 h4 hi c).mono ?_
      rintro e w' ⟨rfl, rfl⟩
      exact ⟨by simp [dropE, hn, hP, c], by simpa [dropP, hn, hP, c] using h, Upd.refl _ _⟩
    · by_cases ck : b = true ∧ k = true
      · obtain ⟨rfl, rfl⟩ := ck
        refine (drop_keeps p i P0 w ht h1 h4 hi (by simp [Pp.ends] at c; omega)).mono ?_
        rintro e w' ⟨rfl, rfl⟩
        exact ⟨by simp [dropE, hn, hP, c], by simpa [dropP, hn, hP, c] using h, Upd.refl _ _⟩
      · have ck' : (b && k) = false := by cases b <;> cases k <;> simp at ck ⊢
        refine (drop_yes p i k b P0 w ht h1 h4 hi (by omega) hme (fun hb => by subst hb; simpa using ck')).mono ?_
        rintro e w' ⟨rfl, ht', hu, _⟩
        refine ⟨by simp [dropE, hn, hP, c], ?_, hu⟩
        simp only [dropP, hn, if_true, Int.toNat_natCast, hP, if_neg c, ck', Bool.false_eq_true, if_false]
        refine h.put ht' he rfl ?_ ?_
        · unfold clr Pp.setEnds; cases b <;> simp [Pp.ends] at c hme hm ⊢ <;> split <;> simp <;> omega
        · unfold clr Pp.setEnds; cases b <;> simp [Pp.ends] at c hme hm ⊢ <;> split <;> simp <;> omega

end Go.Proofs.YtbglhmcahnkbfaaGreat.Pi

/- The document's pipes as they lie, and what its New, there, Make, Hold, Drop do. -/
namespace Go.Proofs.YtbglhmcahnkbfaaGreat.Pi
open Go.RowKit Lend
set_option linter.unusedVariables false
set_option maxRecDepth 20000

/-- A pipe's bytes, as a slice. -/
def rsl (A : Nat → Option Addr × Nat) (R : Nat → Pp) (i : Nat) : Value := .slice (A i).1 (R i).q.length (A i).2

/-- The document's table: a block of two cells, a row of five pipes, and rows of bytes of its own. -/
structure Rt (B : Nat) (w : World) (q g : Nat) (d : Int) (A : Nat → Option Addr × Nat) (R : Nat → Pp) : Prop where
  head : w.heap[q]? = some (.cells #[.slice (some ⟨g, 0, none⟩) 5 5, .int .i64 d] 160 (0, 0))
  row : ∃ C, w.heap[g]? = some (.cells (List.toArray C) 178 (0, 0)) ∧ C.length = 20 ∧ ∀ i, i < 5 → C[i * 4]? = some (.bool (R i).there) ∧ C[i * 4 + 1]? = some (.int .i64 (R i).r) ∧ C[i * 4 + 2]? = some (.int .i64 (R i).w) ∧ C[i * 4 + 3]? = some (rsl A R i)
  own : ∀ i, i < 5 → w.ownsRow B 5 1 (rsl A R i) (R i).q.length ((R i).q.map (Value.int .u8))
  norm : ∀ i, i < 5 → clr (R i) = R i
  geq : B ≤ q
  geg : B ≤ g

section
variable {B : Nat} {w w' : World} {q g : Nat} {d : Int} {A : Nat → Option Addr × Nat} {R : Nat → Pp}
theorem Rt.glt (h : Rt B w q g d A R) : g < w.heap.size := by obtain ⟨C, hb, _⟩ := h.row; exact (Array.getElem?_eq_some_iff.1 hb).1
theorem Rt.qlt (h : Rt B w q g d A R) : q < w.heap.size := (Array.getElem?_eq_some_iff.1 h.head).1
theorem Rt.cellL (h : Rt B w q g d A R) : w.cell? ⟨q, 0, none⟩ = some (.slice (some ⟨g, 0, none⟩) 5 5) := by rw [cell_of_row w q 0 _ 160 (0, 0) h.head]; rfl
theorem Rt.cellD (h : Rt B w q g d A R) : w.cell? ⟨q, 1, none⟩ = some (.int .i64 d) := by rw [cell_of_row w q 1 _ 160 (0, 0) h.head]; rfl
theorem Rt.cell0 (h : Rt B w q g d A R) (i : Nat) (hi : i < 5) : w.cell? ⟨g, i * 4, none⟩ = some (.bool (R i).there) := by
  obtain ⟨C, hb, _, hc⟩ := h.row; rw [cell_of_row w g _ _ 178 (0, 0) hb]; simpa using (hc i hi).1
theorem Rt.cell1 (h : Rt B w q g d A R) (i : Nat) (hi : i < 5) : w.cell? ⟨g, i * 4 + 1, none⟩ = some (.int .i64 (R i).r) := by
  obtain ⟨C, hb, _, hc⟩ := h.row; rw [cell_of_row w g _ _ 178 (0, 0) hb]; simpa using (hc i hi).2.1
theorem Rt.cell2 (h : Rt B w q g d A R) (i : Nat) (hi : i < 5) : w.cell? ⟨g, i * 4 + 2, none⟩ = some (.int .i64 (R i).w) := by
  obtain ⟨C, hb, _, hc⟩ := h.row; rw [cell_of_row w g _ _ 178 (0, 0) hb]; simpa using (hc i hi).2.2.1
theorem Rt.frozen (h : Rt B w q g d A R) (o : Nat) : w.frozen? ⟨g, o, none⟩ = false := by
  obtain ⟨C, hb, _⟩ := h.row; simp [World.frozen?, hb]
theorem Rt.neg (h : Rt B w q g d A R) : q ≠ g := by
  intro e; obtain ⟨C, hb, _⟩ := h.row; rw [← e, h.head] at hb; cases hb
theorem ne_of_type {w : World} {g n B : Nat} {C : Array Value} {t : TypeId} {v : Value} {xs : List Value} (hg : w.heap[g]? = some (.cells C t (0, 0))) (ht : t ≠ 5) (h : w.ownsRow B 5 1 v n xs) : ∀ b, v.ownBlock = some b → b ≠ g := by
  intro b hb e
  subst e
  rcases h.2 with ⟨rfl, _⟩ | ⟨g', cap, cur, rfl, _, hh, _⟩
  · cases hb
  · simp [Value.ownBlock] at hb
    subst hb
    rw [hg] at hh
    injection hh with hh
    injection hh with h1 h2
    exact ht h2
theorem Rt.upd {F : Nat → Prop} (h : Rt B w q g d A R) (u : Upd F w w') (hq : ¬ F q) (hg : ¬ F g) (ho : ∀ i, i < 5 → ∀ b, (rsl A R i).ownBlock = some b → ¬ F b) : Rt B w' q g d A R := by
  obtain ⟨C, hb, hc⟩ := h.row
  exact ⟨u.heap h.head hq, ⟨C, u.heap hb hg, hc⟩, fun i hi => u.own (h.own i hi) (ho i hi), h.norm, h.geq, h.geg⟩
theorem Rt.hp (h : Rt B w q g d A R) (e : w'.heap = w.heap) : Rt B w' q g d A R := by
  obtain ⟨C, hb, hc⟩ := h.row
  refine ⟨by rw [e]; exact h.head, ⟨C, by rw [e]; exact hb, hc⟩, fun i hi => ?_, h.norm, h.geq, h.geg⟩
  obtain ⟨h1, h2⟩ := h.own i hi
  refine ⟨h1, ?_⟩
  rcases h2 with h2 | ⟨g', cap, cur, a, b, c, r⟩
  · exact .inl h2
  · exact .inr ⟨g', cap, cur, a, b, by rw [e]; exact c, r⟩

def updA (A : Nat → Option Addr × Nat) (i : Nat) (a : Option Addr × Nat) : Nat → Option Addr × Nat := fun j => if j = i then a else A j

/-- Some cells of one pipe are stored anew. -/
theorem Rt.put (h : Rt B w q g d A R) (i : Nat) (hi : i < 5) (x : Pp) (a : Option Addr × Nat) (hx : clr x = x) (u : Upd (· = g) w w') (C' : List Value) (hC : w'.heap[g]? = some (.cells C'.toArray 178 (0, 0))) (hl : C'.length = 20)
    (out : ∀ C : List Value, w.heap[g]? = some (.cells C.toArray 178 (0, 0)) → C.length = 20 → ∀ j, j < i * 4 ∨ i * 4 + 4 ≤ j → C'[j]? = C[j]?)
    (h0 : C'[i * 4]? = some (.bool x.there)) (h1 : C'[i * 4 + 1]? = some (.int .i64 x.r)) (h2 : C'[i * 4 + 2]? = some (.int .i64 x.w)) (h3 : C'[i * 4 + 3]? = some (.slice a.1 x.q.length a.2))
    (ho : w.ownsRow B 5 1 (.slice a.1 x.q.length a.2) x.q.length (x.q.map (Value.int .u8))) : Rt B w' q g d (updA A i a) (updP R i x) := by
  obtain ⟨C, hb, hcl, hc⟩ := h.row
  have hout := out C hb hcl
  refine ⟨u.heap h.head h.neg, ⟨C', hC, hl, fun j hj => ?_⟩, fun j hj => ?_, fun j hj => ?_, h.geq, h.geg⟩
  · by_cases e : j = i
    · subst e; rw [updP_same]; refine ⟨h0, h1, h2, ?_⟩; simp only [rsl, updP_same]; simpa [updA] using h3
    · have := hc j hj
      rw [updP_ne _ _ _ _ e, hout _ (by omega), hout _ (by omega), hout _ (by omega), hout _ (by omega)]
      refine ⟨this.1, this.2.1, this.2.2.1, ?_⟩
      rw [this.2.2.2]; simp [rsl, updA, e, updP]
  · by_cases e : j = i
    · subst e
      have : rsl (updA A j a) (updP R j x) j = .slice a.1 x.q.length a.2 := by simp [rsl, updA, updP]
      rw [this, updP_same]
      exact u.own ho (fun b hb' => ne_of_type hb (by decide) ho b hb')
    · have : rsl (updA A i a) (updP R i x) j = rsl A R j := by simp [rsl, updA, updP, e]
      rw [this, updP_ne _ _ _ _ e]
      exact u.own (h.own j hj) (fun b hb' => ne_of_type hb (by decide) (h.own j hj) b hb')
  · by_cases e : j = i
    · subst e; rw [updP_same]; exact hx
    · rw [updP_ne _ _ _ _ e]; exact h.norm j hj

/-- What rows of bytes are held is no more than before. -/
def OwnIn (A : Nat → Option Addr × Nat) (R : Nat → Pp) (A' : Nat → Option Addr × Nat) (R' : Nat → Pp) : Prop := ∀ j, j < 5 → ∀ b, (rsl A' R' j).ownBlock = some b → (rsl A R j).ownBlock = some b
theorem OwnIn.refl (A : Nat → Option Addr × Nat) (R : Nat → Pp) : OwnIn A R A R := fun _ _ _ h => h
theorem OwnIn.put (A : Nat → Option Addr × Nat) (R : Nat → Pp) (i : Nat) (a : Option Addr × Nat) (x : Pp) (h : a.1 = none ∨ (a = A i ∧ x.q = (R i).q)) : OwnIn A R (updA A i a) (updP R i x) := fun j _ b hb => by
  by_cases e : j = i
  · subst e
    have e2 : rsl (updA A j a) (updP R j x) j = .slice a.1 x.q.length a.2 := by simp [rsl, updA, updP]
    rw [e2] at hb
    rcases h with h | ⟨h1, h2⟩
    · rw [h] at hb; cases hb
    · rw [h1, h2] at hb; exact hb
  · have e2 : rsl (updA A i a) (updP R i x) j = rsl A R j := by simp [rsl, updA, updP, e]
    rw [e2] at hb; exact hb

/-- One cell. -/
theorem Rt.put1 (h : Rt B w q g d A R) (i : Nat) (hi : i < 5) (x : Pp) (a : Option Addr × Nat) (hx : clr x = x) (o : Nat) (v : Value) (ho : w.ownsRow B 5 1 (.slice a.1 x.q.length a.2) x.q.length (x.q.map (Value.int .u8))) (ho4 : o < 4)
    (k0 : x.there = (R i).there) (k1 : if o = 1 then v = .int .i64 x.r else x.r = (R i).r) (k2 : if o = 2 then v = .int .i64 x.w else x.w = (R i).w) (k3 : if o = 3 then v = .slice a.1 x.q.length a.2 else (x.q = (R i).q ∧ a = A i)) (k4 : o ≠ 0) :
    Rt B (w.setCell ⟨g, i * 4 + o, none⟩ v) q g d (updA A i a) (updP R i x) := by
  obtain ⟨C, hb, hcl, hc⟩ := h.row
  have hci := hc i hi
  have hs := heap_setCell_same w g (i * 4 + o) C.toArray 178 v hb
  refine h.put i hi x a hx (Upd.setCell w ⟨g, i * 4 + o, none⟩ v rfl) (C.set (i * 4 + o) v) (by rw [hs]; simp) (by simp [hcl]) ?_ ?_ ?_ ?_ ?_ ho
  · intro C2 hb2 _ j hj
    rw [hb] at hb2
    have e : C = C2 := by injection hb2 with e; injection e with e; simpa using e
    rw [← e, List.getElem?_set_ne (by omega)]
  · rw [List.getElem?_set_ne (by omega), k0]; exact hci.1
  · by_cases e : o = 1
    · subst e; rw [if_pos rfl] at k1; rw [List.getElem?_set_self (by omega), k1]
    · rw [if_neg e] at k1; rw [List.getElem?_set_ne (by omega), k1]; exact hci.2.1
  · by_cases e : o = 2
    · subst e; rw [if_pos rfl] at k2; rw [List.getElem?_set_self (by omega), k2]
    · rw [if_neg e] at k2; rw [List.getElem?_set_ne (by omega), k2]; exact hci.2.2.1
  · by_cases e : o = 3
    · subst e; rw [if_pos rfl] at k3; rw [List.getElem?_set_self (by omega), k3]
    · rw [if_neg e] at k3; rw [List.getElem?_set_ne (by omega), k3.1, k3.2]; exact hci.2.2.2
end

set_option maxHeartbeats 1000000 in
theorem rthere_any (B q g : Nat) (n d : Int) (A : Nat → Option Addr × Nat) (R : Nat → Pp) (w : World) (h : Rt B w q g d A R) :
    Calls Tryz.prog 124 #[.pointer (some ⟨q, 0, none⟩), .int .i64 n] w fun e w' => e = .returned (.bool (has R n)) ∧ w' = w := by
  by_cases c1 : 1 ≤ n
  · by_cases c4 : n ≤ 4
    · obtain ⟨i, rfl⟩ := Int.eq_ofNat_of_zero_le (show 0 ≤ n by omega)
      have e1 := h.cellL
      have e2 := h.cell0 i (by omega)
      have ht : has R (i : Int) = (R i).there := by simp [has, c1, c4]
      rw [ht]
      obtain ⟨b, gb⟩ : ∃ b, b = (R i).there := ⟨_, rfl⟩
      rw [← gb] at e2 ⊢
      have c3 : (0 : Int) ≤ i := by omega
      have c5 : (i : Int) < 5 := by omega
      clear h ht gb
      go_enter Tryz.func124, Tryz.ntmps124
      go_wp2
      go_ret
      exact ⟨rfl, rfl⟩
    · have ht : has R n = false := by simp [has, c4]
      rw [ht]
      clear h ht
      go_enter Tryz.func124, Tryz.ntmps124
      go_wp2
      go_ret
      exact ⟨rfl, rfl⟩
  · have ht : has R n = false := by simp [has, c1]
    rw [ht]
    clear h ht
    go_enter Tryz.func124, Tryz.ntmps124
    go_wp2
    go_ret
    exact ⟨rfl, rfl⟩

theorem csize67 : (Tryz.prog.info? 178).map (·.size) = some 4 := by kernel_rfl

end Go.Proofs.YtbglhmcahnkbfaaGreat.Pi

/- What the document's New, Hold, Drop do. -/
namespace Go.Proofs.YtbglhmcahnkbfaaGreat.Pi
open Go.RowKit Lend
set_option linter.unusedVariables false
set_option maxRecDepth 20000

theorem Tryz.info178 : (Tryz.prog.info? 178).map (fun i => (i.zero, i.size, i.bytes)) = some (some (.agg #[.bool false, .int .i64 0, .int .i64 0, .slice none 0 0]), 4, 48) := by kernel_rfl

theorem made67 : (madeCells (Value.agg #[.bool false, .int .i64 0, .int .i64 0, .slice none 0 0]).cells (5 * 4)).toList = (List.replicate 5 [Value.bool false, .int .i64 0, .int .i64 0, .slice none 0 0]).flatten := by kernel_rfl

set_option maxHeartbeats 1000000 in
theorem rnew_any (d : Int) (w : World) (B : Nat) (hB : B ≤ w.heap.size) :
    Calls Tryz.prog 68 #[.int .i64 d] w fun e w' => ∃ q g, e = .returned (.pointer (some ⟨q, 0, none⟩)) ∧ Rt B w' q g d (fun _ => (none, 0)) noPipes ∧ Below w.heap.size w w' := by
  obtain ⟨i0, hi0, hz0, hz1, hz2⟩ := info_parts Tryz.info178
  go_enter Tryz.func68, Tryz.ntmps68
  go_wp2_with (at_make; go_must (refine wpList_make_lc _ rfl _ _ 158 rfl 178 i0 _ 4 Tryz.underlying158 hi0 hz0 hz1 .i64 .i64 5 5 5 5 rfl rfl rfl rfl (Nat.le_refl _) (by rw [hz2]; decide) (by unfold maxLen; decide) ?_))
  go_ret
  obtain ⟨M, gM⟩ : ∃ M, M = madeCells (Value.agg #[.bool false, .int .i64 0, .int .i64 0, .slice none 0 0]).cells (5 * 4) := ⟨_, rfl⟩
  have hl : M.toList = (List.replicate 5 [Value.bool false, .int .i64 0, .int .i64 0, .slice none 0 0]).flatten := by rw [gM]; exact made67
  obtain ⟨W1, gW⟩ : ∃ W1, W1 = w.alloc (.cells M 178) := ⟨_, rfl⟩
  have hz : W1.heap.size = w.heap.size + 1 := by rw [gW]; simp
  have hb1 : Below w.heap.size w W1 := by rw [gW]; exact (Below.refl _ _).alloc (Nat.le_refl _) _
  have hg1 : W1.heap[w.heap.size]? = some (.cells M 178 (0, 0)) := by rw [gW]; exact heap_alloc_new w _
  obtain ⟨W2, gW2⟩ : ∃ W2, W2 = W1.alloc (.cells #[.slice (some ⟨w.heap.size, 0, none⟩) 5 5, .int .i64 d] 160) := ⟨_, rfl⟩
  have hb2 : Below W1.heap.size W1 W2 := by rw [gW2]; exact (Below.refl _ _).alloc (Nat.le_refl _) _
  have hg2 : W2.heap[w.heap.size + 1]? = some (.cells #[.slice (some ⟨w.heap.size, 0, none⟩) 5 5, .int .i64 d] 160 (0, 0)) := by
    have := heap_alloc_new W1 (.cells #[.slice (some ⟨w.heap.size, 0, none⟩) 5 5, .int .i64 d] 160)
    rw [hz] at this; rw [gW2]; exact this
  have hg3 : W2.heap[w.heap.size]? = some (.cells M.toList.toArray 178 (0, 0)) := by rw [hb2.block _ (by omega), hg1]
  have key : Rt B W2 (w.heap.size + 1) w.heap.size d (fun _ => (none, 0)) noPipes := by
    refine ⟨hg2, ⟨M.toList, hg3, by rw [hl]; rfl, ?_⟩, fun i hi => World.ownsRow_nil _ _ _ _, fun i hi => rfl, by omega, hB⟩
    rw [hl]
    intro i hi
    obtain rfl | rfl | rfl | rfl | rfl : i = 0 ∨ i = 1 ∨ i = 2 ∨ i = 3 ∨ i = 4 := by omega
    all_goals exact ⟨rfl, rfl, rfl, rfl⟩
  have fin : Below w.heap.size w W2 := hb1.trans (hb2.mono (by omega))
  rw [gW2, gW, gM] at key fin
  exact ⟨w.heap.size + 1, w.heap.size, by simp, key, fin⟩

section
variable {B : Nat} {w w' : World} {q g : Nat} {d : Int} {A : Nat → Option Addr × Nat} {R : Nat → Pp}
/-- A pipe goes: all four cells are stored anew, behind one of them. -/
theorem Rt.gone (h : Rt B w q g d A R) (i : Nat) (hi : i < 5) (o : Nat) (v : Value) (ho : o < 4) :
    Rt B ((w.setCell ⟨g, i * 4 + o, none⟩ v).drew.setCells g (i * 4) [.bool false, .int .i64 0, .int .i64 0, .slice none 0 0]) q g d (updA A i (none, 0)) (updP R i ⟨0, 0, []⟩) ∧
      (w.setCell ⟨g, i * 4 + o, none⟩ v).drew.there g (i * 4) 4 ∧ Upd (· = g) w ((w.setCell ⟨g, i * 4 + o, none⟩ v).drew.setCells g (i * 4) [.bool false, .int .i64 0, .int .i64 0, .slice none 0 0]) := by
  obtain ⟨C, hb, hcl, hc⟩ := h.row
  have hs : (w.setCell ⟨g, i * 4 + o, none⟩ v).drew.heap[g]? = some (.cells (C.set (i * 4 + o) v).toArray 178 (0, 0)) := by
    have := heap_setCell_same w g (i * 4 + o) C.toArray 178 v hb
    show (w.setCell ⟨g, i * 4 + o, none⟩ v).heap[g]? = _
    rw [this]; simp
  have hl : i * 4 + [Value.bool false, .int .i64 0, .int .i64 0, .slice none 0 0].length ≤ (C.set (i * 4 + o) v).length := by simp [hcl]; omega
  have hin := fun j (hj : j < 4) => getElem?_splice_in (C.set (i * 4 + o) v) [Value.bool false, .int .i64 0, .int .i64 0, .slice none 0 0] (i * 4) j hl hj
  have hu : Upd (· = g) w ((w.setCell ⟨g, i * 4 + o, none⟩ v).drew.setCells g (i * 4) [.bool false, .int .i64 0, .int .i64 0, .slice none 0 0]) :=
    ((Upd.setCell (F := (· = g)) w ⟨g, i * 4 + o, none⟩ v rfl).drewN 1).trans (upd_setCells g _ _ _) (fun _ _ h => h)
  refine ⟨h.put i hi ⟨0, 0, []⟩ (none, 0) rfl hu _ (heap_setCells g 178 _ _ _ _ hs hl) (by rw [length_splice _ _ _ hl]; simp [hcl]) ?_ (hin 0 (by omega)) (hin 1 (by omega)) (hin 2 (by omega)) (hin 3 (by omega)) (World.ownsRow_nil _ _ _ _), there_of_block hs (i * 4) 4 (by simp [hcl]; omega), hu⟩
  intro C2 hb2 _ j hj
  rw [hb] at hb2
  have e : C = C2 := by injection hb2 with e; injection e with e; simpa using e
  rw [← e, getElem?_splice_out _ _ _ _ hl (by simpa using hj), List.getElem?_set_ne (by omega)]
/-- The other cells behind a store of one. -/
theorem Rt.after (h : Rt B w q g d A R) (o o' : Nat) (v : Value) (ho' : o' < 20) : (w.setCell ⟨g, o, none⟩ v).cell? ⟨g, o', none⟩ = if o' = o then some v else w.cell? ⟨g, o', none⟩ := by
  obtain ⟨C, hb, hcl, hc⟩ := h.row
  have hs := heap_setCell_same w g o C.toArray 178 v hb
  rw [cell_of_row _ g o' _ 178 (0, 0) hs, cell_of_row _ g o' _ 178 (0, 0) hb]
  by_cases e : o' = o
  · subst e; simp [hcl, ho']
  · simp [e, Ne.symm e]
end

set_option maxHeartbeats 2000000 in
set_option maxRecDepth 20000 in
theorem rdrop_any (B q g : Nat) (n d : Int) (b : Bool) (A : Nat → Option Addr × Nat) (R : Nat → Pp) (w : World) (h : Rt B w q g d A R) (hm : ∀ i, i < 5 → (R i).r ≤ 1000 ∧ (R i).w ≤ 1000) :
    Calls Tryz.prog 102 #[.pointer (some ⟨q, 0, none⟩), .int .i64 n, .bool b] w fun e w' => e = .returned (.int .i64 (dropE R n b)) ∧ (∃ A', Rt B w' q g d A' (dropP (bit8 d) R n b) ∧ OwnIn A R A' (dropP (bit8 d) R n b)) ∧ Upd (· = g) w w' := by
  have k1 := hid (rthere_any B q g n d A R w h)
  have H := hid h
  have e1 := h.cellL
  have eD := h.cellD
  cases hn : has R n
  · have hE : dropE R n b = 9 := by simp [dropE, hn]
    have hP : dropP (bit8 d) R n b = R := by simp [dropP, hn]
    rw [hE, hP]
    rw [hn] at k1
    clear hE hP hn h
    go_enter Tryz.func102, Tryz.ntmps102
    go_wp2_with fail
    refine k1.out.mono ?_
    rintro e w1 ⟨rfl, rfl⟩
    go_wp2_with fail
    go_ret
    exact ⟨rfl, ⟨_, H.out, OwnIn.refl _ _⟩, Upd.refl _ _⟩
  · rw [hn] at k1
    obtain ⟨i, rfl, h1, h4, hi⟩ := has_some hn
    have hmi := hm i (by omega)
    have e2 := h.cell1 i (by omega)
    have e3 := h.cell2 i (by omega)
    have c3 : (0 : Int) ≤ i := by omega
    have c5 : (i : Int) < 5 := by omega
    have hE : dropE R (i : Int) b = if (R i).ends b = 0 then 22 else 0 := by simp [dropE, hn]
    have hP : dropP (bit8 d) R (i : Int) b = if (R i).ends b = 0 then R else if b && bit8 d then R else updP R i (clr ((R i).setEnds b ((R i).ends b - 1))) := by simp [dropP, hn]
    rw [hE, hP]
    cases b
    · simp only [Pp.ends, Bool.false_eq_true, if_false]
      obtain ⟨u, gu⟩ : ∃ u, u = (R i).r := ⟨_, rfl⟩
      rcases Nat.eq_zero_or_pos u with u0 | u0
      · have ux : (R i).r = 0 := by omega
        rw [if_pos ux, if_pos ux]
        rw [ux] at e2
        clear hE hP hn h hm gu ux u0
        go_enter Tryz.func102, Tryz.ntmps102
        go_wp2_with fail
        refine k1.out.mono ?_
        rintro e w1 ⟨rfl, rfl⟩
        go_wp2_with fail
        go_ret
        exact ⟨rfl, ⟨_, H.out, OwnIn.refl _ _⟩, Upd.refl _ _⟩
      · have ux : ¬ (R i).r = 0 := by omega
        rw [if_neg ux, if_neg ux]
        obtain ⟨v, gv⟩ : ∃ v, v + 1 = u := ⟨u - 1, by omega⟩
        have gx : (R i).r = v + 1 := by omega
        rw [gx]
        rw [gx] at e2 hmi
        simp only [Nat.add_sub_cancel]
        have ef := h.frozen (i * 4 + 1)
        obtain ⟨r, gr⟩ : ∃ r, r = (R i).w := ⟨_, rfl⟩
        rw [← gr] at e3 hmi
        have z1 : ∀ x, (w.setCell ⟨g, i * 4 + 1, none⟩ x).cell? ⟨g, i * 4 + 1, none⟩ = some x := fun x => by rw [h.after _ _ _ (by omega), if_pos rfl]
        have z2 : ∀ x, (w.setCell ⟨g, i * 4 + 1, none⟩ x).cell? ⟨g, i * 4 + 2, none⟩ = some (.int .i64 r) := fun x => by rw [h.after _ _ _ (by omega), if_neg (by omega)]; exact e3
        have c1 : ¬ ((v : Int) + 1 = 0) := by omega
        simp only [Bool.false_and, Bool.false_eq_true, if_false]
        by_cases cg : r = 0 ∧ v = 0
        · obtain ⟨rfl, rfl⟩ := cg
          have hcl : clr ((R i).setEnds false 0) = ⟨0, 0, []⟩ := by simp [clr, Pp.there, Pp.setEnds, ← gr]
          rw [hcl]
          obtain ⟨hg1, hg2, hg3⟩ := h.gone i (by omega) 1 (.int .i64 ((0 : Nat) : Int)) (by omega)
          have HG1 := hid hg1
          have HG2 := hid hg2
          have HG3 := hid hg3
          have y1 := z1 (.int .i64 ((0 : Nat) : Int))
          have y2 := z2 (.int .i64 ((0 : Nat) : Int))
          simp only [Int.natCast_zero] at y1 y2 HG1 HG2 HG3 e2 e3
          clear hE hP hn h hm gu ux u0 gv gx gr hcl hg1 hg2 hg3 z1 z2 c1 hmi
          go_enter Tryz.func102, Tryz.ntmps102
          go_wp2_with fail
          refine k1.out.mono ?_
          rintro e w1 ⟨rfl, rfl⟩
          go_wp2_with fail
          go_region_held3 (fun wx => wx.cell? ⟨g, i * 4 + 1, none⟩ = some (.int .i64 0) ∧ wx.cell? ⟨g, i * 4 + 2, none⟩ = some (.int .i64 0)) (go_keep) (fail)
          go_wp2_with (refine wpList_store_mid rfl 178 (.tmp 73) (.tmp 72) rfl g (i * 4) #[.bool false, .int .i64 0, .int .i64 0, .slice none 0 0] rfl rfl HG2.out csize67 (by simp [Value.oneCell']) ?_)
          go_ret
          exact ⟨rfl, ⟨_, HG1.out, OwnIn.put _ _ _ _ _ (.inl rfl)⟩, HG3.out⟩
        · have hth : ((R i).setEnds false v).there = true := by simp [Pp.there, Pp.setEnds, ← gr]; omega
          rw [clr_yes hth]
          have HN : Hid (Rt B (w.setCell ⟨g, i * 4 + 1, none⟩ (.int .i64 (v : Int))) q g d (updA A i (A i)) (updP R i ((R i).setEnds false v))) :=
            hid (h.put1 i (by omega) _ (A i) (clr_yes hth) 1 _ (by exact h.own i (by omega)) (by omega) (by rw [hth, hi]) (by simp [Pp.setEnds]) (by simp [Pp.setEnds]) (by simp [Pp.setEnds]) (by omega))
          have y1 := z1 (.int .i64 (v : Int))
          have y2 := z2 (.int .i64 (v : Int))
          have cs : (IntKind.i64.wrap ((v : Int) + (r : Int)) == 0) = false := by
            rw [show IntKind.i64.wrap ((v : Int) + (r : Int)) = (v : Int) + (r : Int) by rw [IntKind.wrap_i64]; omega]
            exact beq_eq_false_iff_ne.2 (by omega)
          clear hE hP hn h hm gu ux u0 gv gx gr z1 z2 cg hth
          go_enter Tryz.func102, Tryz.ntmps102
          go_wp2_with fail
          refine k1.out.mono ?_
          rintro e w1 ⟨rfl, rfl⟩
          go_wp2_with fail
          go_region_held3 (fun wx => wx.cell? ⟨g, i * 4 + 1, none⟩ = some (.int .i64 (v : Int)) ∧ wx.cell? ⟨g, i * 4 + 2, none⟩ = some (.int .i64 (r : Int))) (go_keep) (fail)
          go_wp2_with fail
          go_ret
          exact ⟨rfl, ⟨updA A i (A i), HN.out.hp rfl, OwnIn.put _ _ _ _ _ (.inr ⟨rfl, by simp [Pp.setEnds]⟩)⟩, (Upd.setCell (F := (· = g)) _ ⟨g, i * 4 + 1, none⟩ _ rfl).drewN 1⟩
    · simp only [Pp.ends, if_true]
      obtain ⟨u, gu⟩ : ∃ u, u = (R i).w := ⟨_, rfl⟩
      rcases Nat.eq_zero_or_pos u with u0 | u0
      · have ux : (R i).w = 0 := by omega
        rw [if_pos ux, if_pos ux]
        rw [ux] at e3
        clear hE hP hn h hm gu ux u0
        go_enter Tryz.func102, Tryz.ntmps102
        go_wp2_with fail
        refine k1.out.mono ?_
        rintro e w1 ⟨rfl, rfl⟩
        go_wp2_with fail
        go_ret
        exact ⟨rfl, ⟨_, H.out, OwnIn.refl _ _⟩, Upd.refl _ _⟩
      · have ux : ¬ (R i).w = 0 := by omega
        rw [if_neg ux, if_neg ux]
        obtain ⟨v, gv⟩ : ∃ v, v + 1 = u := ⟨u - 1, by omega⟩
        have gx : (R i).w = v + 1 := by omega
        rw [gx]
        rw [gx] at e3 hmi
        simp only [Nat.add_sub_cancel]
        have ef := h.frozen (i * 4 + 2)
        obtain ⟨r, gr⟩ : ∃ r, r = (R i).r := ⟨_, rfl⟩
        rw [← gr] at e2 hmi
        have z1 : ∀ x, (w.setCell ⟨g, i * 4 + 2, none⟩ x).cell? ⟨g, i * 4 + 2, none⟩ = some x := fun x => by rw [h.after _ _ _ (by omega), if_pos rfl]
        have z2 : ∀ x, (w.setCell ⟨g, i * 4 + 2, none⟩ x).cell? ⟨g, i * 4 + 1, none⟩ = some (.int .i64 r) := fun x => by rw [h.after _ _ _ (by omega), if_neg (by omega)]; exact e2
        have c1 : ¬ ((v : Int) + 1 = 0) := by omega
        cases hk : bit8 d
        · simp only [Bool.and_false, Bool.false_eq_true, if_false]
          have hk' : (bits .and .i64 d 8 != 0) = false := hk
          have hk2 : bits .and .i64 d 8 = 0 := by simpa using hk'
          clear hk hk'
          by_cases cg : r = 0 ∧ v = 0
          · obtain ⟨rfl, rfl⟩ := cg
            have hcl : clr ((R i).setEnds true 0) = ⟨0, 0, []⟩ := by simp [clr, Pp.there, Pp.setEnds, ← gr]
            rw [hcl]
            obtain ⟨hg1, hg2, hg3⟩ := h.gone i (by omega) 2 (.int .i64 ((0 : Nat) : Int)) (by omega)
            have HG1 := hid hg1
            have HG2 := hid hg2
            have HG3 := hid hg3
            have y1 := z1 (.int .i64 ((0 : Nat) : Int))
            have y2 := z2 (.int .i64 ((0 : Nat) : Int))
            simp only [Int.natCast_zero] at y1 y2 HG1 HG2 HG3 e2 e3
            clear hE hP hn h hm gu ux u0 gv gx gr hcl hg1 hg2 hg3 z1 z2 c1 hmi
            go_enter Tryz.func102, Tryz.ntmps102
            go_wp2_with fail
            refine k1.out.mono ?_
            rintro e w1 ⟨rfl, rfl⟩
            go_wp2_with fail
            go_region_held3 (fun wx => wx.cell? ⟨g, i * 4 + 1, none⟩ = some (.int .i64 0) ∧ wx.cell? ⟨g, i * 4 + 2, none⟩ = some (.int .i64 0)) (go_keep) (fail)
            go_wp2_with (refine wpList_store_mid rfl 178 (.tmp 73) (.tmp 72) rfl g (i * 4) #[.bool false, .int .i64 0, .int .i64 0, .slice none 0 0] rfl rfl HG2.out csize67 (by simp [Value.oneCell']) ?_)
            go_ret
            exact ⟨rfl, ⟨_, HG1.out, OwnIn.put _ _ _ _ _ (.inl rfl)⟩, HG3.out⟩
          · have hth : ((R i).setEnds true v).there = true := by simp [Pp.there, Pp.setEnds, ← gr]; omega
            rw [clr_yes hth]
            have HN : Hid (Rt B (w.setCell ⟨g, i * 4 + 2, none⟩ (.int .i64 (v : Int))) q g d (updA A i (A i)) (updP R i ((R i).setEnds true v))) :=
              hid (h.put1 i (by omega) _ (A i) (clr_yes hth) 2 _ (by exact h.own i (by omega)) (by omega) (by rw [hth, hi]) (by simp [Pp.setEnds]) (by simp [Pp.setEnds]) (by simp [Pp.setEnds]) (by omega))
            have y1 := z1 (.int .i64 (v : Int))
            have y2 := z2 (.int .i64 (v : Int))
            have cs : (IntKind.i64.wrap ((r : Int) + (v : Int)) == 0) = false := by
              rw [show IntKind.i64.wrap ((r : Int) + (v : Int)) = (r : Int) + (v : Int) by rw [IntKind.wrap_i64]; omega]
              exact beq_eq_false_iff_ne.2 (by omega)
            clear hE hP hn h hm gu ux u0 gv gx gr z1 z2 cg hth
            go_enter Tryz.func102, Tryz.ntmps102
            go_wp2_with fail
            refine k1.out.mono ?_
            rintro e w1 ⟨rfl, rfl⟩
            go_wp2_with fail
            go_region_held3 (fun wx => wx.cell? ⟨g, i * 4 + 2, none⟩ = some (.int .i64 (v : Int)) ∧ wx.cell? ⟨g, i * 4 + 1, none⟩ = some (.int .i64 (r : Int))) (go_keep) (fail)
            go_wp2_with fail
            go_ret
            exact ⟨rfl, ⟨updA A i (A i), HN.out.hp rfl, OwnIn.put _ _ _ _ _ (.inr ⟨rfl, by simp [Pp.setEnds]⟩)⟩, (Upd.setCell (F := (· = g)) _ ⟨g, i * 4 + 2, none⟩ _ rfl).drewN 1⟩
        · simp only [Bool.and_true, if_true]
          have hk' : (bits .and .i64 d 8 != 0) = true := hk
          have hk2 : ¬ bits .and .i64 d 8 = 0 := by simpa using hk'
          clear hE hP hn h hm gu ux u0 gv gx gr z1 z2 hk hk'
          go_enter Tryz.func102, Tryz.ntmps102
          go_wp2_with fail
          refine k1.out.mono ?_
          rintro e w1 ⟨rfl, rfl⟩
          go_wp2_with fail
          go_ret
          exact ⟨rfl, ⟨_, H.out, OwnIn.refl _ _⟩, Upd.refl _ _⟩

end Go.Proofs.YtbglhmcahnkbfaaGreat.Pi

/- What the document's Read does. -/
namespace Go.Proofs.YtbglhmcahnkbfaaGreat.Pi
open Go.RowKit Lend
set_option linter.unusedVariables false
set_option maxRecDepth 20000

theorem _root_.Go.Proofs.YtbglhmcahnkbfaaGreat.Src.takes {w : World} {a : Option Addr} {n m : Nat} {zs : List Int} (h : Src w a n zs) (hm : m ≤ n) : Src w a m (zs.take m) := by
  refine ⟨by have := h.1; simp; omega, fun hl => ?_⟩
  obtain ⟨b, o, e, hlt, hc⟩ := h.2 (by omega)
  exact ⟨b, o, e, hlt, fun j hj => by rw [hc j (by omega)]; simp [List.getD, hj]⟩

end Go.Proofs.YtbglhmcahnkbfaaGreat.Pi

/- What the document's Write does. -/
namespace Go.Proofs.YtbglhmcahnkbfaaGreat.Pi
open Go.RowKit Lend
set_option linter.unusedVariables false
set_option maxRecDepth 20000

end Go.Proofs.YtbglhmcahnkbfaaGreat.Pi

/- What the document's Look does, and slices.Equal of what both tell. -/
namespace Go.Proofs.YtbglhmcahnkbfaaGreat.Pi
open Go.RowKit Lend
set_option linter.unusedVariables false
set_option maxRecDepth 20000

end Go.Proofs.YtbglhmcahnkbfaaGreat.Pi
