/- What the program's rising does; lists cloned and compared. -/
import Derived.Test.YtbeicpfjehbbpaaCRef
import Derived.Test.YtbeicpfjehbbpaaCPure2
import Derived.Test.YtbeicpfjehbbpaaCShelf
import Derived.Sort.OwnSortedInts
namespace Go.Proofs.Ytbeicpfjehbbpaa
open Go.RowKit Go.Sort
set_option linter.unusedVariables false

/-- Numbers that lie in a block of the call's own. -/
structure Wlst (w : World) (B : Nat) (a : Option Addr) (n c : Nat) (xs : List Int) : Prop where
  size : xs.length = n
  le : n ≤ c
  cells : 0 < n → ∃ g, a = some ⟨g, 0, none⟩ ∧ B ≤ g ∧ g < w.heap.size ∧ Holds (Value.int .i64) w g 0 xs.toArray
  nil : a = none → c = 0

theorem Wlst.ilst {w : World} {B : Nat} {a : Option Addr} {n c : Nat} {xs : List Int} (h : Wlst w B a n c xs) : Ilst w a n c xs :=
  ⟨h.size, fun hn => by
    obtain ⟨g, e, _, hg, hH⟩ := h.cells hn
    have hl := h.size
    refine ⟨g, 0, e, hg, fun j hj => ?_⟩
    rw [(hH j (by simpa using by omega)).1, getI xs j (by omega), List.getD_eq_getElem?_getD, List.getElem?_eq_getElem (by omega)]
    rfl, h.nil⟩

theorem own_wlst {w : World} {B : Nat} {v : Value} {xs : List Int} (h : w.ownsRow B 3 1 v xs.length (xs.map (Value.int .i64))) : ∃ a c, v = .slice a xs.length c ∧ Wlst w B a xs.length c xs := by
  have h0 := h
  rcases h.2 with ⟨rfl, hn⟩ | ⟨g, c, cur, rfl, _, _, h1, h2, _⟩
  · rw [hn]
    exact ⟨none, 0, rfl, hn, Nat.le_refl _, fun h => by omega, fun _ => rfl⟩
  · refine ⟨_, c, rfl, rfl, h1, fun hl => ⟨g, rfl, (h0.lt g rfl).1, (h0.lt g rfl).2, fun j hj => ?_⟩, fun h => by cases h⟩
    have hj' : j < xs.length := by simpa using hj
    rw [Nat.zero_add]
    refine ⟨?_, h0.frozenAt j⟩
    rw [h0.cellAt j (by simpa using hj'), List.getElem?_map, List.getElem?_eq_getElem hj', getI xs j hj']
    rfl

theorem riseP_nil : riseP [] = [] := by simp [riseP, Lib.compact, Lib.compactUpTo]
theorem below_sorted {B : Nat} {w : World} {g n : Nat} {os : Array Obj} (d : Array Int) (h : B ≤ g) (hB : B ≤ w.heap.size) : Below B w (grow (putRow (Value.int .i64) (Sort.ahead w n) g 0 d) os) :=
  (Below.refl B w).grown (grownBy_sortedI d) hB (fun k hk => by cases hk; exact h)

theorem holds_take (w : World) (g : Nat) (xs ys : List Int) (h : Holds (Value.int .i64) w g 0 (xs ++ ys).toArray) : Holds (Value.int .i64) w g 0 xs.toArray := fun j hj => by
  have hj' : j < xs.length := by simpa using hj
  have := h j (by simp; omega)
  rw [getI (xs ++ ys) j (by simp; omega), List.getElem_append_left hj'] at this
  rw [getI xs j hj']
  exact this

set_option maxHeartbeats 1000000 in
theorem prise (B : Nat) (a : Option Addr) (n c : Nat) (xs : List Int) (w : World) (h : Wlst w B a n c xs) (hn : n * 8 ≤ 140737488355328) (hB : B ≤ w.heap.size) :
    Calls Try.prog 10 #[.slice a n c] w fun e w' => ∃ n', e = .returned (.slice a n' c) ∧ Wlst w' B a n' c (riseP xs) ∧ Below B w w' := by
  rcases Nat.eq_zero_or_pos n with h0 | h0
  · subst h0
    have hx : xs = [] := List.eq_nil_of_length_eq_zero h.size
    have k1 := hid (Try.slices_Sort_int_none a c w)
    have k2 := hid (Try.slices_Compact_int_empty a c w)
    have HH := hid h
    clear h
    go_enter Try.func10, Try.ntmps10
    go_wp2_with fail
    refine k1.out.mono ?_
    rintro e w1 ⟨rfl, rfl⟩
    clear k1
    go_wp2_with fail
    refine k2.out.mono ?_
    rintro e w2 ⟨rfl, rfl⟩
    clear k2
    go_wp2_with fail
    go_ret
    subst hx
    exact ⟨0, rfl, by rw [riseP_nil]; exact HH.out, Below.refl _ _⟩
  · obtain ⟨g, rfl, hg, hlt, hH⟩ := h.cells h0
    obtain rfl := h.size
    have hle := h.le
    have k1 := hid (Try.slices_Sort_int g 0 c xs w hH hlt (by omega))
    have HH := hid hH
    have HX : Hid (riseP xs = Lib.compact (xs.mergeSort fun x y => decide (x ≤ y))) := hid rfl
    have HY : Hid (0 < xs.length) := hid h0
    have HLe : Hid (xs.length ≤ c) := hid hle
    have HSz : Hid ((xs.mergeSort fun x y => decide (x ≤ y)).length = xs.length) := hid (List.length_mergeSort _)
    have HRl := hid (riseP_length xs)
    clear h hH h0
    generalize hS : (xs.mergeSort fun x y => decide (x ≤ y)) = S at *
    clear hS
    have HN : Hid (∃ N, N = xs.length) := hid ⟨_, rfl⟩
    go_enter Try.func10, Try.ntmps10
    go_wp2_with fail
    refine k1.out.mono ?_
    rintro e w1 ⟨rfl, q, os, rfl⟩
    clear k1
    have hH1 : Holds (Value.int .i64) (grow (putRow (Value.int .i64) (Sort.ahead w q) g 0 S.toArray) os) g 0 S.toArray :=
      holds_grow _ _ _ _ _ _ (by simpa using hlt) (holds_putRow _ _ _ _ xs.toArray _ (holds_ahead _ _ _ _ _ _ HH.out) (by simpa using HSz.out))
    have hB1 : Below B w (grow (putRow (Value.int .i64) (Sort.ahead w q) g 0 S.toArray) os) := below_sorted _ hg hB
    have k2 := Try.slices_Compact_int g 0 c S _ hH1 (by have := HSz.out; omega) (by have := HSz.out; omega)
    rw [HSz.out] at k2
    have K2 := hid k2
    have HH1 := hid hH1
    have HB1 := hid hB1
    clear k2 hH1 hB1
    generalize grow (putRow (Value.int .i64) (Sort.ahead w q) g 0 S.toArray) os = w1 at K2 HH1 HB1 ⊢
    go_wp2_with fail
    refine K2.out.mono ?_
    rintro e w2 ⟨rfl, q2, rfl⟩
    clear K2
    go_wp2_with fail
    go_ret
    have hs1 := HB1.out.size
    have hH2 : Holds (Value.int .i64) (putRow (Value.int .i64) (Sort.ahead w1 q2) g 0 (Lib.compact S ++ List.replicate (xs.length - (Lib.compact S).length) 0).toArray) g 0 (Lib.compact S ++ List.replicate (xs.length - (Lib.compact S).length) 0).toArray :=
      holds_putRow _ _ _ _ S.toArray _ (holds_ahead _ _ _ _ _ _ HH1.out) (by have := HSz.out; have := HRl.out; rw [HX.out] at this; simp; omega)
    refine ⟨_, rfl, ⟨by rw [HX.out], Nat.le_trans (by have := HRl.out; rw [HX.out] at this; exact this) HLe.out, fun _ => ⟨g, rfl, hg, ?_, ?_⟩, fun h => by cases h⟩, ?_⟩
    · simp; omega
    · rw [HX.out]
      have := HSz.out
      simpa [HSz.out] using holds_take _ _ _ _ hH2
    · have := below_sorted (B := B) (w := w1) (g := g) (n := q2) (os := #[]) (Lib.compact S ++ List.replicate (xs.length - (Lib.compact S).length) 0).toArray hg (Nat.le_trans hB hs1)
      rw [grow_empty] at this
      simpa [HSz.out] using HB1.out.trans this

theorem clone_lst (a : Option Addr) (n c : Nat) (xs : List Int) (w : World) (h : Ilst w a n c xs) (hn : n * 8 ≤ 140737488355328) :
    Calls Try.prog 4 #[.slice a n c] w fun e w' => ∃ a' c', e = .returned (.slice a' n c') ∧ Wlst w' w.heap.size a' n c' xs ∧ Below w.heap.size w w' := by
  obtain rfl := h.size
  cases a with
  | none =>
    have h0 : xs = [] := by
      rcases Nat.eq_zero_or_pos xs.length with q | q
      · exact List.eq_nil_of_length_eq_zero q
      · obtain ⟨_, _, e, _⟩ := h.cells q; cases e
    subst h0
    refine (Try.slices_Clone_int_nil 0 c w).mono ?_
    rintro e w' ⟨rfl, rfl⟩
    exact ⟨none, 0, rfl, ⟨rfl, Nat.le_refl _, fun h => by simp at h, fun _ => rfl⟩, Below.refl _ _⟩
  | some ad =>
    rcases Nat.eq_zero_or_pos xs.length with q | q
    · have h0 : xs = [] := List.eq_nil_of_length_eq_zero q
      subst h0
      refine (Try.slices_Clone_int_zero ad c w).mono ?_
      rintro e w' ⟨v', rfl, h1, h2, h3⟩
      obtain ⟨a', c', rfl, hW⟩ := own_wlst (xs := []) (by simpa using h1)
      exact ⟨a', c', rfl, hW, h3⟩
    · obtain ⟨b, o, e, hb, hc⟩ := h.cells q
      obtain rfl := Option.some.inj e
      refine (Try.slices_Clone_int b o xs.length c xs w (Nat.le_refl _) hn hc).mono ?_
      rintro e w' ⟨v', rfl, h1, h2, h3⟩
      obtain ⟨a', c', rfl, hW⟩ := own_wlst (xs := xs) (by simpa using h1)
      exact ⟨a', c', rfl, hW, h3⟩

theorem eq_lst (a b : Option Addr) (n c m d : Nat) (xs : List Int) (w : World) (h : Ilst w a n c xs) (q : Ilst w b m d xs) (hn : n ≤ 9223372036854775807) :
    Calls Try.prog 7 #[.slice a n c, .slice b m d] w fun e w' => e = .returned (.bool true) ∧ Below w.heap.size w w' := by
  obtain rfl := h.size
  obtain rfl := q.size
  rcases Nat.eq_zero_or_pos xs.length with z | z
  · rw [z]
    refine (Try.slices_Equal_int_empty a b c 0 d w (by omega)).mono ?_
    rintro e w' ⟨rfl, rfl⟩
    exact ⟨rfl, Below.refl _ _⟩
  · obtain ⟨b1, o1, rfl, _, hc1⟩ := h.cells z
    obtain ⟨b2, o2, rfl, _, hc2⟩ := q.cells z
    refine (Try.slices_Equal_int b1 o1 xs.length c b2 o2 xs.length d xs xs w (Nat.le_refl _) (Nat.le_refl _) hn hn hc1 hc2).mono ?_
    rintro e w' ⟨rfl, q, rfl⟩
    exact ⟨by simp, ⟨rfl, rfl, rfl, Nat.le_refl _, fun _ _ => rfl⟩⟩

end Go.Proofs.Ytbeicpfjehbbpaa
