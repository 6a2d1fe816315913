/- Texts of this seat, merged. -/
import Derived.Test.YtliekndkjjaldaaGreatNMg22
import Derived.Test.YtliekndkjjaldaaGreatNMg39
import Derived.Laws.AppendOwn
import Derived.Laws.AppendOwnNone
import Derived.WalkSpells
import Derived.Sort.OwnSortedInts
import Derived.Test.YtliekndkjjaldaaGreatNMg38

/- Lists of numbers as they lie; what the library does to them. -/
namespace Go.Proofs.YtliekndkjjaldaaGreat
open Go.RowKit Go.Sort
set_option linter.unusedVariables false

/-- Numbers that lie somewhere in memory. -/
structure Ilst (w : World) (a : Option Addr) (n c : Nat) (xs : List Int) : Prop where
  size : xs.length = n
  cells : 0 < n → ∃ b o, a = some ⟨b, o, none⟩ ∧ b < w.heap.size ∧ ∀ j, j < n → w.cell? ⟨b, o + j, none⟩ = some (.int .i64 (xs.getD j 0))
  nil : a = none → c = 0

theorem Ilst.below {w w' : World} {a : Option Addr} {n c : Nat} {xs : List Int} (h : Ilst w a n c xs) (u : Below w.heap.size w w') : Ilst w' a n c xs :=
  ⟨h.size, fun hl => by
    obtain ⟨b, o, e, hlt, hc⟩ := h.cells hl
    exact ⟨b, o, e, Nat.lt_of_lt_of_le hlt u.size, fun j hj => (u.cell (p := ⟨b, o + j, none⟩) hlt).trans (hc j hj)⟩, h.nil⟩

theorem own_lst {w : World} {B : Nat} {v : Value} {xs : List Int} (h : w.ownsRow B 3 1 v xs.length (xs.map (Value.int .i64))) : ∃ a c, v = .slice a xs.length c ∧ xs.length ≤ c ∧ Ilst w a xs.length c xs := by
  have h0 := h
  rcases h.2 with ⟨rfl, hn⟩ | ⟨g, c, cur, rfl, _, _, h1, h2, _⟩
  · rw [hn]
    exact ⟨none, 0, rfl, Nat.le_refl _, hn, fun h => by omega, fun _ => rfl⟩
  · refine ⟨_, c, rfl, h1, rfl, fun hl => ⟨g, 0, rfl, (h0.lt g rfl).2, fun j hj => ?_⟩, fun h => by cases h⟩
    rw [Nat.zero_add, h0.cellAt j (by simpa using hj), List.getElem?_map, List.getElem?_eq_getElem hj, List.getD_eq_getElem?_getD, List.getElem?_eq_getElem hj]
    rfl

theorem take_more (l : List Int) (j : Nat) (h : j < l.length) : l.take (j + 1) = l.take j ++ [l.getD j 0] := by
  rw [List.take_add_one, List.getD_eq_getElem?_getD, List.getElem?_eq_getElem h]; rfl

/-- 'append(own, l...)' of numbers that lie somewhere, nil or not. -/
theorem wpList_append_lst {P : Program} (w : World) {ops : Array Oper} {rest : List Oper} {o : Oper} {a : Act} {Q : Exit → Act → World → Prop}
    (hgd : o.guard = none) (s x : Operand) (t : TypeId) (ho : o.op = .call { callee := .builtin .append, args := #[s, x], argTypes := #[t, t] })
    (base : Nat) (i : TypeInfo) (ht : P.underlying t = some (.slice 3)) (hi : P.info? 3 = some i) (hz : i.zero = some (.int .i64 0)) (hsize : i.size = 1) (hby : i.bytes = 8)
    (v : Value) (n : Nat) (xs : List Value) (hs : a.eval s = v) (hown : w.ownsRow base 3 1 v n xs)
    (a0 : Option Addr) (m c : Nat) (zs : List Int) (hx : a.eval x = .slice a0 m c) (hsrc : Ilst w a0 m c zs) (hb : (n + m) * 8 ≤ 140737488355328) (hbase : base ≤ w.heap.size)
    (hK : ∀ v' w', w'.ownsRow base 3 1 v' (n + m) (xs ++ zs.map (Value.int .i64)) → w.grownBy w' v.ownBlock → wpList P ops Q rest (a.put o.dst v') w') :
    wpList P ops Q (o :: rest) a w := by
  cases a0 with
  | none =>
    obtain rfl := hsrc.nil rfl
    obtain rfl : m = 0 := by
      rcases Nat.eq_zero_or_pos m with h | h
      · exact h
      · obtain ⟨_, _, e, _⟩ := hsrc.cells h; cases e
    obtain rfl : zs = [] := List.eq_nil_of_length_eq_zero hsrc.size
    refine wpList_append_own_none hgd s x t ho base 3 i 1 ht hi _ n xs hs hown hx ?_
    exact hK v w (by simpa using hown) (World.grownBy.refl _ _)
  | some ad =>
    refine wpList_append_own _ hgd s x t ho base 3 i (.int .i64 0) 1 8 ht hi hz hsize hby rfl (by decide) _ n xs hs hown ad m c (zs.map (Value.int .i64)) hx (by simp [hsrc.size]) ?_ (fun u hu => by obtain ⟨z, _, rfl⟩ := List.mem_map.1 hu; rfl) (by unfold maxLen; omega) (by omega) hbase ?_
    · intro j u hj
      have hjl : j < zs.length := by have := (List.getElem?_eq_some_iff.1 hj).1; simpa using this
      have hsl := hsrc.size
      obtain ⟨b, o', e, _, hc⟩ := hsrc.cells (by omega)
      obtain rfl := Option.some.inj e
      rw [Addr.add_lit, hc j (by omega), ← hj]
      simp [List.getD, List.getElem?_eq_getElem hjl]
    · intro v' w' h1 h2 _
      exact hK v' w' h1 h2

/-- Numbers that lie in a block of the call's own. -/
structure Wlst (w : World) (B : Nat) (a : Option Addr) (n c : Nat) (xs : List Int) : Prop where
  size : xs.length = n
  le : n ≤ c
  cells : 0 < n → ∃ g, a = some ⟨g, 0, none⟩ ∧ B ≤ g ∧ g < w.heap.size ∧ Holds (Value.int .i64) w g 0 xs.toArray
  nil : a = none → c = 0

theorem Wlst.ilst {w : World} {B : Nat} {a : Option Addr} {n c : Nat} {xs : List Int} (h : Wlst w B a n c xs) : Ilst w a n c xs :=
  ⟨h.size, fun hn => by
    obtain ⟨g, e, _, hg, hH⟩ := h.cells hn
    have hl := h.size
    refine ⟨g, 0, e, hg, fun j hj => ?_⟩
    rw [(hH j (by simpa using by omega)).1, getI xs j (by omega), List.getD_eq_getElem?_getD, List.getElem?_eq_getElem (by omega)]
    rfl, h.nil⟩

theorem own_wlst {w : World} {B : Nat} {v : Value} {xs : List Int} (h : w.ownsRow B 3 1 v xs.length (xs.map (Value.int .i64))) : ∃ a c, v = .slice a xs.length c ∧ Wlst w B a xs.length c xs := by
  have h0 := h
  rcases h.2 with ⟨rfl, hn⟩ | ⟨g, c, cur, rfl, _, _, h1, h2, _⟩
  · rw [hn]
    exact ⟨none, 0, rfl, hn, Nat.le_refl _, fun h => by omega, fun _ => rfl⟩
  · refine ⟨_, c, rfl, rfl, h1, fun hl => ⟨g, rfl, (h0.lt g rfl).1, (h0.lt g rfl).2, fun j hj => ?_⟩, fun h => by cases h⟩
    have hj' : j < xs.length := by simpa using hj
    rw [Nat.zero_add]
    refine ⟨?_, h0.frozenAt j⟩
    rw [h0.cellAt j (by simpa using hj'), List.getElem?_map, List.getElem?_eq_getElem hj', getI xs j hj']
    rfl

theorem below_sorted {B : Nat} {w : World} {g n : Nat} {os : Array Obj} (d : Array Int) (h : B ≤ g) (hB : B ≤ w.heap.size) : Below B w (grow (putRow (Value.int .i64) (Sort.ahead w n) g 0 d) os) :=
  (Below.refl B w).grown (grownBy_sortedI d) hB (fun k hk => by cases hk; exact h)

theorem holds_take (w : World) (g : Nat) (xs ys : List Int) (h : Holds (Value.int .i64) w g 0 (xs ++ ys).toArray) : Holds (Value.int .i64) w g 0 xs.toArray := fun j hj => by
  have hj' : j < xs.length := by simpa using hj
  have := h j (by simp; omega)
  rw [getI (xs ++ ys) j (by simp; omega), List.getElem_append_left hj'] at this
  rw [getI xs j hj']
  exact this

/-- Sorted, and compacted. -/
theorem sort_any (B : Nat) (a : Option Addr) (n c : Nat) (xs : List Int) (w : World) (h : Wlst w B a n c xs) (hn : n * 8 ≤ 140737488355328) (hB : B ≤ w.heap.size) :
    Calls Tryz.prog 12 #[.slice a n c] w fun e w' => e = .returned (.tuple #[]) ∧ Wlst w' B a n c (xs.mergeSort fun x y => decide (x ≤ y)) ∧ Below B w w' ∧ Upd (fun x => ∃ g, a = some ⟨g, 0, none⟩ ∧ x = g) w w' := by
  rcases Nat.eq_zero_or_pos n with h0 | h0
  · subst h0
    have hx : xs = [] := List.eq_nil_of_length_eq_zero h.size
    subst hx
    refine (Tryz.slices_Sort_int_none a c w).mono ?_
    rintro e w1 ⟨rfl, rfl⟩
    exact ⟨rfl, by simpa using h, Below.refl _ _, Upd.refl _ _⟩
  · obtain ⟨g, rfl, hg, hlt, hH⟩ := h.cells h0
    obtain rfl := h.size
    have hsz : (xs.mergeSort fun x y => decide (x ≤ y)).length = xs.length := List.length_mergeSort _
    refine (Tryz.slices_Sort_int g 0 c xs w hH hlt (by omega)).mono ?_
    rintro e w1 ⟨rfl, q, os, rfl⟩
    have hH1 : Holds (Value.int .i64) (grow (putRow (Value.int .i64) (Sort.ahead w q) g 0 (xs.mergeSort fun x y => decide (x ≤ y)).toArray) os) g 0 (xs.mergeSort fun x y => decide (x ≤ y)).toArray :=
      holds_grow _ _ _ _ _ _ (by simpa using hlt) (holds_putRow _ _ _ _ xs.toArray _ (holds_ahead _ _ _ _ _ _ hH) (by simp))
    have hB1 := below_sorted (B := B) (w := w) (g := g) (n := q) (os := os) (xs.mergeSort fun x y => decide (x ≤ y)).toArray hg hB
    refine ⟨rfl, ⟨hsz, h.le, fun _ => ⟨g, rfl, hg, Nat.lt_of_lt_of_le hlt hB1.size, hH1⟩, h.nil⟩, hB1, ?_⟩
    have := Upd.of_grown (grownBy_sortedI (w := w) (g := g) (n := q) (os := os) (xs.mergeSort fun x y => decide (x ≤ y)).toArray)
    exact this.mono (fun x _ hx => ⟨g, rfl, by simpa using hx⟩)

theorem compact_any (B : Nat) (a : Option Addr) (n c : Nat) (S : List Int) (w : World) (h : Wlst w B a n c S) (hn : n * 8 ≤ 140737488355328) (hB : B ≤ w.heap.size) :
    Calls Tryz.prog 15 #[.slice a n c] w fun e w' => ∃ n', e = .returned (.slice a n' c) ∧ Wlst w' B a n' c (Lib.compact S) ∧ Below B w w' := by
  rcases Nat.eq_zero_or_pos n with h0 | h0
  · subst h0
    have hx : S = [] := List.eq_nil_of_length_eq_zero h.size
    subst hx
    refine (Tryz.slices_Compact_int_empty a c w).mono ?_
    rintro e w1 ⟨rfl, rfl⟩
    exact ⟨0, rfl, by simpa [Lib.compact, Lib.compactUpTo] using h, Below.refl _ _⟩
  · obtain ⟨g, rfl, hg, hlt, hH⟩ := h.cells h0
    obtain rfl := h.size
    have hcl : (Lib.compact S).length ≤ S.length := Lib.compact_length_le S
    refine (Tryz.slices_Compact_int g 0 c S w hH (by omega) h.le).mono ?_
    rintro e w2 ⟨rfl, q2, rfl⟩
    have hH2 : Holds (Value.int .i64) (putRow (Value.int .i64) (Sort.ahead w q2) g 0 (Lib.compact S ++ List.replicate (S.length - (Lib.compact S).length) 0).toArray) g 0 (Lib.compact S ++ List.replicate (S.length - (Lib.compact S).length) 0).toArray :=
      holds_putRow _ _ _ _ S.toArray _ (holds_ahead _ _ _ _ _ _ hH) (by simp; omega)
    refine ⟨_, rfl, ⟨rfl, Nat.le_trans hcl h.le, fun _ => ⟨g, rfl, hg, by simp; omega, holds_take _ _ _ _ hH2⟩, fun h => by cases h⟩, ?_⟩
    have := below_sorted (B := B) (w := w) (g := g) (n := q2) (os := #[]) (Lib.compact S ++ List.replicate (S.length - (Lib.compact S).length) 0).toArray hg hB
    rw [grow_empty] at this
    exact this


theorem Rdv.ilst {w : World} {a : Option Addr} {n c : Nat} {xs : List Int} (h : Rdv w a n (xs.map (Value.int .i64))) (hc : a = none → c = 0) : Ilst w a n c xs := by
  have hl : xs.length = n := by have := h.1; simpa using this
  refine ⟨hl, fun h0 => ?_, hc⟩
  obtain ⟨b, o, rfl, hb, hx⟩ := h.2 h0
  refine ⟨b, o, rfl, hb, fun j hj => ?_⟩
  rw [hx j (by rw [List.length_map]; omega), List.getElem_map, List.getD_eq_getElem?_getD, List.getElem?_eq_getElem (by omega)]
  rfl

theorem clone_ints (a : Option Addr) (n c : Nat) (xs : List Int) (w : World) (h : Ilst w a n c xs) (hn : n * 8 ≤ 140737488355328) :
    Calls Tryz.prog 16 #[.slice a n c] w fun e w' => ∃ a' c', e = .returned (.slice a' n c') ∧ Wlst w' w.heap.size a' n c' xs ∧ Below w.heap.size w w' := by
  obtain rfl := h.size
  cases a with
  | none =>
    have hx : xs = [] := by
      cases xs with
      | nil => rfl
      | cons x r => obtain ⟨_, _, e, _⟩ := h.cells (by simp); cases e
    subst hx
    refine (Tryz.slices_Clone_int_nil 0 c w).mono ?_
    rintro e w' ⟨rfl, rfl⟩
    exact ⟨none, 0, rfl, ⟨rfl, Nat.le_refl _, fun h => absurd h (Nat.lt_irrefl 0), fun _ => rfl⟩, Below.refl _ _⟩
  | some ad =>
    rcases Nat.eq_zero_or_pos xs.length with z | z
    · have hx : xs = [] := List.eq_nil_of_length_eq_zero z
      subst hx
      refine (Tryz.slices_Clone_int_zero ad c w).mono ?_
      rintro e w' ⟨v, rfl, ho, _, hb⟩
      obtain ⟨a', c', rfl, hw⟩ := own_wlst (xs := []) ho
      exact ⟨a', c', rfl, hw, hb⟩
    · obtain ⟨b, o, e, _, hc⟩ := h.cells z
      obtain rfl := Option.some.inj e
      refine (Tryz.slices_Clone_int b o xs.length c xs w (Nat.le_refl _) hn hc).mono ?_
      rintro e w' ⟨v, rfl, ho, _, hb⟩
      rw [List.take_length] at ho
      obtain ⟨a', c', rfl, hw⟩ := own_wlst ho
      exact ⟨a', c', rfl, hw, hb⟩

theorem Wlst.upd {G : Nat → Prop} {w w' : World} {B : Nat} {a : Option Addr} {n c : Nat} {xs : List Int} (h : Wlst w B a n c xs) (u : Upd G w w') (hG : ∀ g, a = some ⟨g, 0, none⟩ → g < w.heap.size → ¬ G g) : Wlst w' B a n c xs :=
  ⟨h.size, h.le, fun hn => by
    obtain ⟨g, e, hb, hg, hH⟩ := h.cells hn
    refine ⟨g, e, hb, Nat.lt_of_lt_of_le hg u.size, fun j hj => ?_⟩
    have hk := u.block g hg (hG g e hg)
    obtain ⟨h1, h2⟩ := hH j hj
    exact ⟨(World.cell?_of_block (a := ⟨g, 0 + j, none⟩) hk).trans h1, by
      have e2 : w'.frozen? ⟨g, 0 + j, none⟩ = w.frozen? ⟨g, 0 + j, none⟩ := by unfold World.frozen?; rw [hk]
      rw [e2]; exact h2⟩, h.nil⟩

theorem Wlst.rdv {w : World} {B : Nat} {a : Option Addr} {n c : Nat} {xs : List Int} (h : Wlst w B a n c xs) : Rdv w a n (xs.map (Value.int .i64)) := by
  have q := h.ilst
  refine ⟨by rw [List.length_map]; exact q.size, fun h0 => ?_⟩
  obtain ⟨b, o, e, hb, hx⟩ := q.cells h0
  refine ⟨b, o, e, hb, fun j hj => ?_⟩
  rw [List.length_map] at hj
  rw [hx j (by have := q.size; omega), List.getElem_map, List.getD_eq_getElem?_getD, List.getElem?_eq_getElem hj]
  rfl

end Go.Proofs.YtliekndkjjaldaaGreat

/- The road of NodesBlocks. -/
namespace Go.Proofs.YtliekndkjjaldaaGreat
open Go.RowKit Go.ChangeMaps Go.MapKept
set_option linter.unusedVariables false
set_option maxRecDepth 20000

theorem mem_thr2 {F : Fs} {m i : Nat} : i ∈ thr F m ↔ i < m ∧ (F.P i).k ≠ 0 := by
  unfold thr
  rw [List.mem_filter, List.mem_range]
  simp
theorem take_snoc2 {α : Type} (l : List α) (i : Nat) (h : i < l.length) : l.take (i + 1) = l.take i ++ [l[i]] := by
  rw [List.take_add_one]
  simp [h]

/-- The blocks of files, as the law lists them. -/
def allB (F : Fs) (is : List Nat) : List Int := is.flatMap fun i => (F.P i).B.map fun b : Nat => (b : Int)
theorem allB_snoc (F : Fs) (is : List Nat) (i : Nat) : allB F (is ++ [i]) = allB F is ++ (F.P i).B.map fun b : Nat => (b : Int) := by
  unfold allB; rw [List.flatMap_append]; simp
theorem allB_len {F : Fs} (H : FOk F) : ∀ is : List Nat, (allB F is).length ≤ 6 * is.length
  | [] => Nat.le_refl _
  | i :: r => by
    have h1 := H.B i
    have h0 := (H.c i).1
    have h2 := allB_len H r
    unfold Fs.need at h1
    unfold allB at h2 ⊢
    rw [List.flatMap_cons, List.length_append, List.length_cons, List.length_map]
    omega
theorem mem_allB {F : Fs} {is : List Nat} {x : Int} : x ∈ allB F is ↔ ∃ i ∈ is, ∃ b ∈ (F.P i).B, (b : Int) = x := by
  unfold allB
  simp [List.mem_flatMap]
theorem allB_nodup {F : Fs} (H : FOk F) : ∀ is : List Nat, is.Nodup → (allB F is).Nodup
  | [], _ => List.nodup_nil
  | i :: r, h => by
    obtain ⟨h1, h2⟩ := List.nodup_cons.1 h
    show (((F.P i).B.map fun b : Nat => (b : Int)) ++ allB F r).Nodup
    refine List.nodup_append.2 ⟨?_, allB_nodup H r h2, ?_⟩
    · exact (List.pairwise_map.2 ((H.nd i).imp fun {a b} hab e => hab (by omega)))
    · rintro a ha b hb rfl
      obtain ⟨y, hy, rfl⟩ := List.mem_map.1 ha
      obtain ⟨j, hj, z, hz, e⟩ := mem_allB.1 hb
      have : z = y := by omega
      subst this
      exact h1 (by rw [H.ap i j z hy hz]; exact hj)
theorem thr_nodup (F : Fs) (n : Nat) : (thr F n).Nodup := (List.nodup_range).sublist List.filter_sublist
def markL (F : Fs) : List Int := ((List.range 25).filter F.T).map fun b : Nat => (b : Int)
theorem markL_rise (F : Fs) : (markL F).Pairwise (· < ·) :=
  List.pairwise_map.2 (((List.pairwise_lt_range).sublist List.filter_sublist).imp fun {a b} h => by omega)
theorem mem_markL {F : Fs} (H : FOk F) (S : FSh F) (x : Int) : x ∈ markL F ↔ x ∈ allB F (thr F 17) := by
  unfold markL
  rw [List.mem_map, mem_allB]
  constructor
  · rintro ⟨b, hb, rfl⟩
    obtain ⟨hb1, hb2⟩ := List.mem_filter.1 hb
    obtain ⟨i, hi⟩ := S.T b hb2
    refine ⟨i, mem_thr2.2 ⟨?_, ?_⟩, b, hi, rfl⟩
    · rcases Nat.lt_or_ge i 17 with e | e
      · exact e
      · rw [H.out i e] at hi; simp [Fn.no] at hi
    · intro e
      rw [H.none i e] at hi; simp [Fn.no] at hi
  · rintro ⟨i, hi, b, hb, rfl⟩
    obtain ⟨h1, h2, h3⟩ := H.T i b hb
    exact ⟨b, List.mem_filter.2 ⟨List.mem_range.2 h2, h3⟩, rfl⟩
theorem sorted_all {F : Fs} (H : FOk F) (S : FSh F) : ((allB F (thr F 17)).mergeSort fun x y => decide (x ≤ y)) = markL F := by
  have hp : ((allB F (thr F 17)).mergeSort fun x y => decide (x ≤ y)).Perm (allB F (thr F 17)) := List.mergeSort_perm _ _
  have hs : ((allB F (thr F 17)).mergeSort fun x y => decide (x ≤ y)).Pairwise (fun a b => decide (a ≤ b) = true) := List.pairwise_mergeSort (fun a b c h1 h2 => by simp at h1 h2 ⊢; omega) (fun a b => by simp; omega) _
  have hn : ((allB F (thr F 17)).mergeSort fun x y => decide (x ≤ y)).Nodup := hp.nodup_iff.2 (allB_nodup H _ (thr_nodup F 17))
  refine rising_unique _ _ ?_ (markL_rise F) (fun x => by rw [hp.mem_iff]; exact (mem_markL H S x).symm)
  exact (hs.and hn).imp fun {a b} h => by
    have h1 := h.1
    have h2 : a ≠ b := h.2
    simp at h1
    omega
theorem compact_mark (F : Fs) : Lib.compact (markL F) = markL F := by
  have h := compact_rises (markL F) ((markL_rise F).imp fun {a b} h => by omega)
  exact rising_unique _ _ h.1 (markL_rise F) h.2
theorem markL_len (F : Fs) : (markL F).length ≤ 25 := by
  unfold markL
  rw [List.length_map]
  have := List.length_filter_le F.T (List.range 25)
  rw [List.length_range] at this
  exact this

/-- What a node tells of its blocks. -/
theorem blk_ok {F : Fs} (H : FOk F) {i : Nat} (hi : i ∈ thr F 17) : ((F.P i).k = 1 → ((F.P i).B.length : Int) = (((F.P i).c.length : Int) + ((F.P i).Q.length : Int) + 15) / 16) ∧ ((F.P i).k ≠ 1 → (F.P i).B.length = 0) := by
  refine ⟨fun h => ?_, fun h => ?_⟩
  · rw [H.B i, H.file i (by omega)]
    unfold Fs.need
    show (((((F.P i).c.length + 15) / 16 : Nat)) : Int) = (((F.P i).c.length : Int) + ((0 : Nat) : Int) + 15) / 16
    omega
  · have : (F.P i).k = 2 := by
      rcases H.k i with e | e | e
      · exact absurd e (mem_thr2.1 hi).2
      · exact absurd e h
      · exact e
    rw [(H.dir i this).2.1]; rfl

set_option maxHeartbeats 8000000 in
theorem blocks_road (al : Option Addr) (ll cl : Nat) (w : World) (hd : DosS w al ll) (hll : ll ≤ cl) (hcl : cl ≤ 9223372036854775807) :
    Calls Tryz.prog 5 #[.slice al ll cl] w fun e w' => e = .returned (.bool true) ∧ Below w.heap.size w w' := by
  have kP := hid (played_any al ll cl w hd hll hcl)
  clear hd
  obtain ⟨i0, hi0, hz0, hz1, hz2⟩ := info_parts infoI3
  go_enter Tryz.func5, Tryz.ntmps5
  go_wp2_with fail
  refine kP.out.mono ?_
  rintro e w1 ⟨⟨p, G, F, rfl, h1, h2, h3, h4⟩, hb1⟩
  have HF := hid h2
  have HS := hid h3
  have HPf := hid h1
  have kL := hid (look_read p F G w1 h1 h2)
  have HB1 := hid hb1
  clear h1 h2 h3 h4 hb1 kP
  go_wp2_with fail
  refine kL.out.mono ?_
  rintro e w2 ⟨⟨a, c, rfl, hN⟩, hb2⟩
  obtain ⟨n, gn⟩ : ∃ n, n = (thr F 17).length := ⟨_, rfl⟩
  have hn17 : n ≤ 17 := by rw [gn]; exact thr_len F 17
  have hn1 : 0 < n := by
    rw [gn]
    exact List.length_pos_of_mem (mem_thr2.2 ⟨by omega, by rw [HF.out.root]; omega⟩ : 1 ∈ thr F 17)
  have HN := hid hN
  have HB2 : Hid (Below w.heap.size w w2) := hid (HB1.out.trans (hb2.mono HB1.out.size))
  have HPf2 := hid (HPf.out.grow hb2)
  rw [← gn]
  have GN := hid gn
  clear hN hb2 kL gn HB1 HPf
  go_wp2_with fail
  go_loopw [4, 12] (fun v4 v12 wr => ∃ (t m : Nat) (a4 : Option Addr) (c4 : Nat), t ≤ n ∧ m ≤ 6 * t ∧ v12 = .int .i64 (t : Int) ∧ v4 = .slice a4 m c4 ∧ Hid ((allB F ((thr F 17).take t)).length = m) ∧ Hid (wr.ownsRow w2.heap.size 3 1 (.slice a4 m c4) m ((allB F ((thr F 17).take t)).map (Value.int .i64))) ∧ Hid (Below w2.heap.size w2 wr)) (fun _ v12 _ => n - (intOf v12).toNat)
  case atStart => exact ⟨0, 0, none, 0, by omega, by omega, rfl, rfl, hid rfl, hid (World.ownsRow_nil _ _ _ _), hid (Below.refl _ _)⟩
  case round =>
    obtain ⟨t, m, a4, c4, htn, hm6, rfl, rfl, HM, HO, HW⟩ := hrel
    rename World => wr
    by_cases hlt : t < n
    · have htl : t < (thr F 17).length := by rw [← GN.out]; exact hlt
      obtain ⟨q, o, rfl, hq, hh⟩ := HN.out (by omega)
      obtain ⟨ba, bc, na, nc, ma, mc, D0⟩ := hh t htl
      have hmem : (thr F 17)[t] ∈ thr F 17 := List.getElem_mem htl
      have HTK : Hid ((thr F 17).take (t + 1) = (thr F 17).take t ++ [(thr F 17)[t]]) := hid (take_snoc2 _ _ htl)
      generalize (thr F 17)[t] = i at D0 hmem HTK
      have hbk := blk_ok HF.out hmem
      obtain ⟨y, gy⟩ : ∃ y, y = F.P i := ⟨_, rfl⟩
      have HTG : Hid (allB F ((thr F 17).take (t + 1)) = allB F ((thr F 17).take t) ++ y.B.map fun b : Nat => (b : Int)) := by
        rw [HTK.out, gy, allB_snoc]
        exact hid rfl
      have hB6 : y.B.length ≤ 6 := by
        rw [gy, HF.out.B i]
        have := (HF.out.c i).1
        unfold Fs.need
        omega
      have hc96 : y.c.length ≤ 96 ∧ y.Q.length ≤ 6 := by rw [gy]; exact ⟨(HF.out.c i).1, HF.out.len i⟩
      rw [← gy] at D0 hbk
      have D := D0.below HW.out hq
      have c0 := D.c0
      have c1 := D.c1
      have c2 := D.c2
      have c3 := D.c3
      have c4' := D.c4
      have c5 := D.c5
      have c6 := D.c6
      have c7 := D.c7
      have HRB : Hid (Rdv wr ba y.B.length (y.B.map natV)) := hid D.rB
      have HNB := hid D.nB
      clear gy hmem D D0 hh
      obtain ⟨lb, glb⟩ : ∃ lb, lb = y.B.length := ⟨_, rfl⟩
      rw [← glb] at c5 HRB hB6 hbk
      have GLB := hid glb
      obtain ⟨sz, gsz⟩ : ∃ sz, sz = y.c.length + y.Q.length := ⟨_, rfl⟩
      have esz : (y.c.length : Int) + (y.Q.length : Int) = (sz : Int) := by omega
      have hsz : sz ≤ 102 := by omega
      rw [esz] at c3 hbk
      clear gsz glb esz hc96
      generalize y.k = yk at c1 hbk
      generalize y.l = yl at c2
      generalize y.h = yh at c4'
      generalize y.Q.length = lq at c6 c7
      have hX : Upd (fun _ => False) wr (wr.alloc (.cells #[.int .i64 (i : Int), .int .i64 yk, .int .i64 yl, .int .i64 (sz : Int), .int .i64 yh, .slice ba lb bc, .slice na lq nc, .slice ma lq mc] 44)) := Upd.alloc _ _ _
      have hrow := heap_alloc_new wr (.cells #[.int .i64 (i : Int), .int .i64 yk, .int .i64 yl, .int .i64 (sz : Int), .int .i64 yh, .slice ba lb bc, .slice na lq nc, .slice ma lq mc] 44)
      have hbX : Below wr.heap.size wr (wr.alloc (.cells #[.int .i64 (i : Int), .int .i64 yk, .int .i64 yl, .int .i64 (sz : Int), .int .i64 yh, .slice ba lb bc, .slice na lq nc, .slice ma lq mc] 44)) := (Below.refl _ _).alloc (Nat.le_refl _) _
      have hws := HW.out.size
      have HO4 : Hid ((wr.alloc (.cells #[.int .i64 (i : Int), .int .i64 yk, .int .i64 yl, .int .i64 (sz : Int), .int .i64 yh, .slice ba lb bc, .slice na lq nc, .slice ma lq mc] 44)).ownsRow w2.heap.size 3 1 (.slice a4 m c4) m ((allB F ((thr F 17).take t)).map (Value.int .i64))) := hid (hX.own HO.out (fun _ _ h => h))
      have HI4 : Hid (Ilst (wr.alloc (.cells #[.int .i64 (i : Int), .int .i64 yk, .int .i64 yl, .int .i64 (sz : Int), .int .i64 yh, .slice ba lb bc, .slice na lq nc, .slice ma lq mc] 44)) ba lb bc (y.B.map fun b : Nat => (b : Int))) := by
        have := HRB.out.below hbX
        have e : y.B.map natV = (y.B.map fun b : Nat => (b : Int)).map (Value.int .i64) := by rw [List.map_map]; rfl
        rw [e] at this
        exact hid (this.ilst HNB.out)
      have HW4 : Hid (Below w2.heap.size w2 (wr.alloc (.cells #[.int .i64 (i : Int), .int .i64 yk, .int .i64 yl, .int .i64 (sz : Int), .int .i64 yh, .slice ba lb bc, .slice na lq nc, .slice ma lq mc] 44))) := hid (HW.out.trans (hbX.mono HW.out.size))
      have HCL : Hid ((wr.alloc (.cells #[.int .i64 (i : Int), .int .i64 yk, .int .i64 yl, .int .i64 (sz : Int), .int .i64 yh, .slice ba lb bc, .slice na lq nc, .slice ma lq mc] 44)).heap.size = wr.heap.size + 1) := hid (by simp)
      clear hX hbX hrow HO HRB HNB
      have KE : ∀ (v' : Value) (w6 : World), w6.ownsRow w2.heap.size 3 1 v' (m + lb) ((allB F ((thr F 17).take t)).map (Value.int .i64) ++ (y.B.map fun b : Nat => (b : Int)).map (Value.int .i64)) → (wr.alloc (.cells #[.int .i64 (i : Int), .int .i64 yk, .int .i64 yl, .int .i64 (sz : Int), .int .i64 yh, .slice ba lb bc, .slice na lq nc, .slice ma lq mc] 44)).grownBy w6 (Value.slice a4 m c4).ownBlock →
          ∃ a6 c6, v' = .slice a6 (m + lb) c6 ∧ (allB F ((thr F 17).take (t + 1))).length = m + lb ∧ w6.ownsRow w2.heap.size 3 1 (.slice a6 (m + lb) c6) (m + lb) ((allB F ((thr F 17).take (t + 1))).map (Value.int .i64)) ∧ Below w2.heap.size w2 w6 := by
        intro v' w6 hO hG
        obtain ⟨va, vc, rfl, _⟩ := own_shp hO
        refine ⟨va, vc, rfl, ?_, ?_, ?_⟩
        · rw [HTG.out, List.length_append, List.length_map, HM.out, GLB.out]
        · rw [HTG.out, List.map_append]; exact hO
        · exact HW4.out.grown hG HW4.out.size (fun x hx => (HO4.out.lt x hx).1)
      have HKE := hid KE
      clear KE
      by_cases hk : yk = 1
      · have hlb := hbk.1 hk
        clear hbk
        subst hk
        go_wp2_with (at_builtin; go_must (refine wpList_append_lst _ rfl (.tmp 40) (.tmp 42) 41 rfl w2.heap.size i0 Tryz.underlying41 hi0 hz0 hz1 hz2 _ m ((allB F ((thr F 17).take t)).map (Value.int .i64)) rfl HO4.out ba lb bc (y.B.map fun b : Nat => (b : Int)) rfl HI4.out (by omega) HW4.out.size ?_))
        intro v' w6 hO6 hG6
        obtain ⟨a6, c6', rfl, e6, o6, b6⟩ := HKE.out v' w6 (by rw [List.map_map]; exact hO6) hG6
        have E6 := hid e6
        have O6 := hid o6
        have B6 := hid b6
        clear hO6 hG6 e6 o6 b6 HKE HO4 HI4 HW4 HCL hlb c0 c1 c2 c3 c4' c5 c6 c7
        go_wp2_with fail
        go_roundw
        case rel => exact ⟨t + 1, m + lb, a6, c6', by omega, by omega, by go_num, rfl, E6, O6, B6⟩
        case measure => simp [intOf]; omega
      · have hlb := hbk.2 hk
        clear hbk
        have hl0 : ¬ (0 : Int) < (lb : Int) := by omega
        have HLB := hid hlb
        clear hlb
        go_wp2_with (at_builtin; go_must (refine wpList_append_lst _ rfl (.tmp 40) (.tmp 42) 41 rfl w2.heap.size i0 Tryz.underlying41 hi0 hz0 hz1 hz2 _ m ((allB F ((thr F 17).take t)).map (Value.int .i64)) rfl HO4.out ba lb bc (y.B.map fun b : Nat => (b : Int)) rfl HI4.out (by omega) HW4.out.size ?_))
        intro v' w6 hO6 hG6
        obtain ⟨a6, c6', rfl, e6, o6, b6⟩ := HKE.out v' w6 (by rw [List.map_map]; exact hO6) hG6
        have E6 := hid e6
        have O6 := hid o6
        have B6 := hid b6
        clear hO6 hG6 e6 o6 b6 HKE HO4 HI4 HW4 HCL HLB hl0 c0 c1 c2 c3 c4' c5 c6 c7
        go_wp2_with fail
        go_roundw
        case rel => exact ⟨t + 1, m + lb, a6, c6', by omega, by omega, by go_num, rfl, E6, O6, B6⟩
        case measure => simp [intOf]; omega
    · obtain rfl : t = n := by omega
      have HLn : Hid ((allB F (thr F 17)).length = m) := by
        have := HM.out
        rw [List.take_of_length_le (by rw [GN.out]; exact Nat.le_refl _)] at this
        exact hid this
      have HWl : Hid (Wlst wr w2.heap.size a4 m c4 (allB F (thr F 17))) := by
        have := HO.out
        rw [List.take_of_length_le (by rw [GN.out]; exact Nat.le_refl _)] at this
        rw [← HLn.out] at this
        obtain ⟨a', c', e, h⟩ := own_wlst this
        rw [HLn.out] at e h
        injection e with e1 e2 e3
        subst e1; subst e3
        exact hid h
      have hm102 : m ≤ 102 := by omega
      have kS := hid (sort_any w2.heap.size a4 m c4 _ wr HWl.out (by omega) HW.out.size)
      clear HM HO hlt htn hm6 HWl
      go_wp2_with fail
      refine kS.out.mono ?_
      rintro e w6 ⟨rfl, hWs, hb6, _⟩
      rw [sorted_all HF.out HS.out] at hWs
      have HB6 : Hid (Below w2.heap.size w2 w6) := hid (HW.out.trans hb6)
      have HW6 := hid hWs
      have HPf6 := hid (HPf2.out.grow HB6.out)
      have kL2 := hid (look_read p F G w6 HPf6.out HF.out)
      clear hWs hb6 kS HW
      go_wp2_with fail
      refine kL2.out.mono ?_
      rintro e w7 ⟨⟨a7, c7, rfl, _⟩, hb7⟩
      rw [← GN.out]
      have hn0 : (0 : Int) < (t : Int) := by omega
      have HB7 : Hid (Below w2.heap.size w2 w7) := hid (HB6.out.trans (hb7.mono HB6.out.size))
      have HW7 := hid (HW6.out.upd (Upd.of_below (F := fun _ => False) hb7) (fun _ _ _ h => h))
      have kB := hid (pblocks_any p F G w7 (HPf2.out.grow HB7.out))
      have HLm : Hid ((markL F).length = m) := hid HW6.out.size
      clear hb7 kL2 HW6 HPf6 HB6
      go_wp2_with fail
      refine kB.out.mono ?_
      rintro e w8 ⟨⟨v8, rfl, hO8⟩, hb8⟩
      have e8 : ((List.range 25).filter F.T).length = m := by have := HLm.out; unfold markL at this; rw [List.length_map] at this; exact this
      have e9 : ((List.range 25).filter F.T).map natV = (markL F).map (Value.int .i64) := by unfold markL; rw [List.map_map]; rfl
      rw [e8, e9] at hO8
      obtain ⟨a8, c8, rfl, _⟩ := own_shp hO8
      have HR8 := hid (Rdv.of hO8)
      have HB8 : Hid (Below w2.heap.size w2 w8) := hid (HB7.out.trans (hb8.mono HB7.out.size))
      have HW8 := hid (HW7.out.upd (Upd.of_below (F := fun _ => False) hb8) (fun _ _ _ h => h))
      have kE := hid (ieq_yes a4 a8 m c4 c8 (by omega) (markL F) w8 HW8.out.rdv HR8.out)
      clear hO8 hb8 kB HW7 HB7 e8 e9 HR8
      go_wp2_with fail
      refine kE.out.mono ?_
      rintro e w9 ⟨rfl, hb9⟩
      have HB9 : Hid (Below w2.heap.size w2 w9) := hid (HB8.out.trans (hb9.mono HB8.out.size))
      have HW9 := hid (HW8.out.upd (Upd.of_below (F := fun _ => False) hb9) (fun _ _ _ h => h))
      have kC := hid (clone_ints a4 m c4 (markL F) w9 HW9.out.ilst (by omega))
      clear hb9 kE HW8 HB8
      go_wp2_with fail
      refine kC.out.mono ?_
      rintro e wa ⟨aa, ca, rfl, hWa, hba⟩
      have HBa : Hid (Below w2.heap.size w2 wa) := hid (HB9.out.trans (hba.mono HB9.out.size))
      have kK := hid (compact_any w2.heap.size aa m ca (markL F) wa ⟨hWa.size, hWa.le, fun h => (by obtain ⟨g, x1, x2, x3, x4⟩ := hWa.cells h; exact ⟨g, x1, Nat.le_trans HB9.out.size x2, x3, x4⟩), hWa.nil⟩ (by omega) HBa.out.size)
      clear hWa hba kC HB9 HW9
      go_wp2_with fail
      refine kK.out.mono ?_
      rintro e wb ⟨n', rfl, hWb, hbb⟩
      rw [compact_mark] at hWb
      obtain rfl : m = n' := HLm.out.symm.trans hWb.size
      have HBb : Hid (Below w.heap.size w wb) := hid (HB2.out.trans ((HBa.out.trans hbb).mono HB2.out.size))
      clear hWb hbb kK HBa
      go_wp2_with fail
      go_ret
      exact ⟨rfl, HBb.out⟩

end Go.Proofs.YtliekndkjjaldaaGreat
