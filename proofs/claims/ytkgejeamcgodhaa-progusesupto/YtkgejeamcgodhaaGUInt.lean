/- Lists of numbers as they lie; what the library does to them. -/
import Derived.Test.YtkgejeamcgodhaaGKids
import Derived.Test.YtkgejeamcgodhaaCPure2
import Derived.Test.YtkgejeamcgodhaaGShelf
import Derived.Laws.AppendOwn
import Derived.Laws.AppendOwnNone
import Derived.WalkSpells
import Derived.Sort.OwnSortedInts
namespace Go.Proofs.Ytkgejeamcgodhaa
open Go.RowKit Go.Sort
set_option linter.unusedVariables false

/-- Numbers that lie somewhere in memory. -/
structure Ilst (w : World) (a : Option Addr) (n c : Nat) (xs : List Int) : Prop where
  size : xs.length = n
  cells : 0 < n → ∃ b o, a = some ⟨b, o, none⟩ ∧ b < w.heap.size ∧ ∀ j, j < n → w.cell? ⟨b, o + j, none⟩ = some (.int .i64 (xs.getD j 0))
  nil : a = none → c = 0

theorem Ilst.below {w w' : World} {a : Option Addr} {n c : Nat} {xs : List Int} (h : Ilst w a n c xs) (u : Below w.heap.size w w') : Ilst w' a n c xs :=
  ⟨h.size, fun hl => by
    obtain ⟨b, o, e, hlt, hc⟩ := h.cells hl
    exact ⟨b, o, e, Nat.lt_of_lt_of_le hlt u.size, fun j hj => (u.cell (p := ⟨b, o + j, none⟩) hlt).trans (hc j hj)⟩, h.nil⟩

theorem own_lst {w : World} {B : Nat} {v : Value} {xs : List Int} (h : w.ownsRow B 3 1 v xs.length (xs.map (Value.int .i64))) : ∃ a c, v = .slice a xs.length c ∧ xs.length ≤ c ∧ Ilst w a xs.length c xs := by
  have h0 := h
  rcases h.2 with ⟨rfl, hn⟩ | ⟨g, c, cur, rfl, _, _, h1, h2, _⟩
  · rw [hn]
    exact ⟨none, 0, rfl, Nat.le_refl _, hn, fun h => by omega, fun _ => rfl⟩
  · refine ⟨_, c, rfl, h1, rfl, fun hl => ⟨g, 0, rfl, (h0.lt g rfl).2, fun j hj => ?_⟩, fun h => by cases h⟩
    rw [Nat.zero_add, h0.cellAt j (by simpa using hj), List.getElem?_map, List.getElem?_eq_getElem hj, List.getD_eq_getElem?_getD, List.getElem?_eq_getElem hj]
    rfl

theorem take_more (l : List Int) (j : Nat) (h : j < l.length) : l.take (j + 1) = l.take j ++ [l.getD j 0] := by
  rw [List.take_add_one, List.getD_eq_getElem?_getD, List.getElem?_eq_getElem h]; rfl

/-- 'append(own, l...)' of numbers that lie somewhere, nil or not. -/
theorem wpList_append_lst {P : Program} (w : World) {ops : Array Oper} {rest : List Oper} {o : Oper} {a : Act} {Q : Exit → Act → World → Prop}
    (hgd : o.guard = none) (s x : Operand) (t : TypeId) (ho : o.op = .call { callee := .builtin .append, args := #[s, x], argTypes := #[t, t] })
    (base : Nat) (i : TypeInfo) (ht : P.underlying t = some (.slice 3)) (hi : P.info? 3 = some i) (hz : i.zero = some (.int .i64 0)) (hsize : i.size = 1) (hby : i.bytes = 8)
    (v : Value) (n : Nat) (xs : List Value) (hs : a.eval s = v) (hown : w.ownsRow base 3 1 v n xs)
    (a0 : Option Addr) (m c : Nat) (zs : List Int) (hx : a.eval x = .slice a0 m c) (hsrc : Ilst w a0 m c zs) (hb : (n + m) * 8 ≤ 140737488355328) (hbase : base ≤ w.heap.size)
    (hK : ∀ v' w', w'.ownsRow base 3 1 v' (n + m) (xs ++ zs.map (Value.int .i64)) → w.grownBy w' v.ownBlock → wpList P ops Q rest (a.put o.dst v') w') :
    wpList P ops Q (o :: rest) a w := by
  cases a0 with
  | none =>
    obtain rfl := hsrc.nil rfl
    obtain rfl : m = 0 := by
      rcases Nat.eq_zero_or_pos m with h | h
      · exact h
      · obtain ⟨_, _, e, _⟩ := hsrc.cells h; cases e
    obtain rfl : zs = [] := List.eq_nil_of_length_eq_zero hsrc.size
    refine wpList_append_own_none hgd s x t ho base 3 i 1 ht hi _ n xs hs hown hx ?_
    exact hK v w (by simpa using hown) (World.grownBy.refl _ _)
  | some ad =>
    refine wpList_append_own _ hgd s x t ho base 3 i (.int .i64 0) 1 8 ht hi hz hsize hby rfl (by decide) _ n xs hs hown ad m c (zs.map (Value.int .i64)) hx (by simp [hsrc.size]) ?_ (fun u hu => by obtain ⟨z, _, rfl⟩ := List.mem_map.1 hu; rfl) (by unfold maxLen; omega) (by omega) hbase ?_
    · intro j u hj
      have hjl : j < zs.length := by have := (List.getElem?_eq_some_iff.1 hj).1; simpa using this
      have hsl := hsrc.size
      obtain ⟨b, o', e, _, hc⟩ := hsrc.cells (by omega)
      obtain rfl := Option.some.inj e
      rw [Addr.add_lit, hc j (by omega), ← hj]
      simp [List.getD, List.getElem?_eq_getElem hjl]
    · intro v' w' h1 h2 _
      exact hK v' w' h1 h2

/-- Numbers that lie in a block of the call's own. -/
structure Wlst (w : World) (B : Nat) (a : Option Addr) (n c : Nat) (xs : List Int) : Prop where
  size : xs.length = n
  le : n ≤ c
  cells : 0 < n → ∃ g, a = some ⟨g, 0, none⟩ ∧ B ≤ g ∧ g < w.heap.size ∧ Holds (Value.int .i64) w g 0 xs.toArray
  nil : a = none → c = 0

theorem Wlst.ilst {w : World} {B : Nat} {a : Option Addr} {n c : Nat} {xs : List Int} (h : Wlst w B a n c xs) : Ilst w a n c xs :=
  ⟨h.size, fun hn => by
    obtain ⟨g, e, _, hg, hH⟩ := h.cells hn
    have hl := h.size
    refine ⟨g, 0, e, hg, fun j hj => ?_⟩
    rw [(hH j (by simpa using by omega)).1, getI xs j (by omega), List.getD_eq_getElem?_getD, List.getElem?_eq_getElem (by omega)]
    rfl, h.nil⟩

theorem own_wlst {w : World} {B : Nat} {v : Value} {xs : List Int} (h : w.ownsRow B 3 1 v xs.length (xs.map (Value.int .i64))) : ∃ a c, v = .slice a xs.length c ∧ Wlst w B a xs.length c xs := by
  have h0 := h
  rcases h.2 with ⟨rfl, hn⟩ | ⟨g, c, cur, rfl, _, _, h1, h2, _⟩
  · rw [hn]
    exact ⟨none, 0, rfl, hn, Nat.le_refl _, fun h => by omega, fun _ => rfl⟩
  · refine ⟨_, c, rfl, rfl, h1, fun hl => ⟨g, rfl, (h0.lt g rfl).1, (h0.lt g rfl).2, fun j hj => ?_⟩, fun h => by cases h⟩
    have hj' : j < xs.length := by simpa using hj
    rw [Nat.zero_add]
    refine ⟨?_, h0.frozenAt j⟩
    rw [h0.cellAt j (by simpa using hj'), List.getElem?_map, List.getElem?_eq_getElem hj', getI xs j hj']
    rfl

theorem riseP_nil : riseP [] = [] := by simp [riseP, Lib.compact, Lib.compactUpTo]
theorem below_sorted {B : Nat} {w : World} {g n : Nat} {os : Array Obj} (d : Array Int) (h : B ≤ g) (hB : B ≤ w.heap.size) : Below B w (grow (putRow (Value.int .i64) (Sort.ahead w n) g 0 d) os) :=
  (Below.refl B w).grown (grownBy_sortedI d) hB (fun k hk => by cases hk; exact h)

theorem holds_take (w : World) (g : Nat) (xs ys : List Int) (h : Holds (Value.int .i64) w g 0 (xs ++ ys).toArray) : Holds (Value.int .i64) w g 0 xs.toArray := fun j hj => by
  have hj' : j < xs.length := by simpa using hj
  have := h j (by simp; omega)
  rw [getI (xs ++ ys) j (by simp; omega), List.getElem_append_left hj'] at this
  rw [getI xs j hj']
  exact this

/-- Sorted, and compacted. -/
theorem sort_any (B : Nat) (a : Option Addr) (n c : Nat) (xs : List Int) (w : World) (h : Wlst w B a n c xs) (hn : n * 8 ≤ 140737488355328) (hB : B ≤ w.heap.size) :
    Calls Try.prog 52 #[.slice a n c] w fun e w' => e = .returned (.tuple #[]) ∧ Wlst w' B a n c (xs.mergeSort fun x y => decide (x ≤ y)) ∧ Below B w w' ∧ Upd (fun x => ∃ g, a = some ⟨g, 0, none⟩ ∧ x = g) w w' := by
  rcases Nat.eq_zero_or_pos n with h0 | h0
  · subst h0
    have hx : xs = [] := List.eq_nil_of_length_eq_zero h.size
    subst hx
    refine (Try.slices_Sort_int_none a c w).mono ?_
    rintro e w1 ⟨rfl, rfl⟩
    exact ⟨rfl, by simpa using h, Below.refl _ _, Upd.refl _ _⟩
  · obtain ⟨g, rfl, hg, hlt, hH⟩ := h.cells h0
    obtain rfl := h.size
    have hsz : (xs.mergeSort fun x y => decide (x ≤ y)).length = xs.length := List.length_mergeSort _
    refine (Try.slices_Sort_int g 0 c xs w hH hlt (by omega)).mono ?_
    rintro e w1 ⟨rfl, q, os, rfl⟩
    have hH1 : Holds (Value.int .i64) (grow (putRow (Value.int .i64) (Sort.ahead w q) g 0 (xs.mergeSort fun x y => decide (x ≤ y)).toArray) os) g 0 (xs.mergeSort fun x y => decide (x ≤ y)).toArray :=
      holds_grow _ _ _ _ _ _ (by simpa using hlt) (holds_putRow _ _ _ _ xs.toArray _ (holds_ahead _ _ _ _ _ _ hH) (by simp))
    have hB1 := below_sorted (B := B) (w := w) (g := g) (n := q) (os := os) (xs.mergeSort fun x y => decide (x ≤ y)).toArray hg hB
    refine ⟨rfl, ⟨hsz, h.le, fun _ => ⟨g, rfl, hg, Nat.lt_of_lt_of_le hlt hB1.size, hH1⟩, h.nil⟩, hB1, ?_⟩
    have := Upd.of_grown (grownBy_sortedI (w := w) (g := g) (n := q) (os := os) (xs.mergeSort fun x y => decide (x ≤ y)).toArray)
    exact this.mono (fun x _ hx => ⟨g, rfl, by simpa using hx⟩)

theorem compact_any (B : Nat) (a : Option Addr) (n c : Nat) (S : List Int) (w : World) (h : Wlst w B a n c S) (hn : n * 8 ≤ 140737488355328) (hB : B ≤ w.heap.size) :
    Calls Try.prog 53 #[.slice a n c] w fun e w' => ∃ n', e = .returned (.slice a n' c) ∧ Wlst w' B a n' c (Lib.compact S) ∧ Below B w w' := by
  rcases Nat.eq_zero_or_pos n with h0 | h0
  · subst h0
    have hx : S = [] := List.eq_nil_of_length_eq_zero h.size
    subst hx
    refine (Try.slices_Compact_int_empty a c w).mono ?_
    rintro e w1 ⟨rfl, rfl⟩
    exact ⟨0, rfl, by simpa [Lib.compact, Lib.compactUpTo] using h, Below.refl _ _⟩
  · obtain ⟨g, rfl, hg, hlt, hH⟩ := h.cells h0
    obtain rfl := h.size
    have hcl : (Lib.compact S).length ≤ S.length := Lib.compact_length_le S
    refine (Try.slices_Compact_int g 0 c S w hH (by omega) h.le).mono ?_
    rintro e w2 ⟨rfl, q2, rfl⟩
    have hH2 : Holds (Value.int .i64) (putRow (Value.int .i64) (Sort.ahead w q2) g 0 (Lib.compact S ++ List.replicate (S.length - (Lib.compact S).length) 0).toArray) g 0 (Lib.compact S ++ List.replicate (S.length - (Lib.compact S).length) 0).toArray :=
      holds_putRow _ _ _ _ S.toArray _ (holds_ahead _ _ _ _ _ _ hH) (by simp; omega)
    refine ⟨_, rfl, ⟨rfl, Nat.le_trans hcl h.le, fun _ => ⟨g, rfl, hg, by simp; omega, holds_take _ _ _ _ hH2⟩, fun h => by cases h⟩, ?_⟩
    have := below_sorted (B := B) (w := w) (g := g) (n := q2) (os := #[]) (Lib.compact S ++ List.replicate (S.length - (Lib.compact S).length) 0).toArray hg hB
    rw [grow_empty] at this
    exact this

theorem eq_lst (a b : Option Addr) (n c m d : Nat) (xs : List Int) (w : World) (h : Ilst w a n c xs) (q : Ilst w b m d xs) (hn : n ≤ 9223372036854775807) :
    Calls Try.prog 22 #[.slice a n c, .slice b m d] w fun e w' => e = .returned (.bool true) ∧ Below w.heap.size w w' := by
  obtain rfl := h.size
  obtain rfl := q.size
  rcases Nat.eq_zero_or_pos xs.length with z | z
  · rw [z]
    refine (Try.slices_Equal_int_empty a b c 0 d w (by omega)).mono ?_
    rintro e w' ⟨rfl, rfl⟩
    exact ⟨rfl, Below.refl _ _⟩
  · obtain ⟨b1, o1, rfl, _, hc1⟩ := h.cells z
    obtain ⟨b2, o2, rfl, _, hc2⟩ := q.cells z
    refine (Try.slices_Equal_int b1 o1 xs.length c b2 o2 xs.length d xs xs w (Nat.le_refl _) (Nat.le_refl _) hn hn hc1 hc2).mono ?_
    rintro e w' ⟨rfl, q, rfl⟩
    exact ⟨by simp, ⟨rfl, rfl, rfl, Nat.le_refl _, fun _ _ => rfl⟩⟩

end Go.Proofs.Ytkgejeamcgodhaa
