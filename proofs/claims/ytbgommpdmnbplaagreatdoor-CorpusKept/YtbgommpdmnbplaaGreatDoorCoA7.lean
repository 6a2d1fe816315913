/- The corpus and what it stands on, merged. -/
import Derived.Test.YtbgommpdmnbplaaGreatDoorCoA1
import Derived.Lib.SlicesCompact
import Derived.Lib.RowBridge
import Derived.Test.YtbgommpdmnbplaaGreatDoorCoA6
import Derived.Test.YtbgommpdmnbplaaGreatDoorCoA3
import Derived.Test.YtbgommpdmnbplaaGreatDoorChecked
import Derived.Maps.OwnSet
import Derived.Sort.KeysCollected
import Derived.StringKeys
import Derived.OwnWalk
import Derived.Laws.AppendOwnNone
import Derived.Deep.RegionHeld3

/- Rising lists without memory: what a list's numbers are, each once, in their order. -/
namespace Go.Proofs.YtbgommpdmnbplaaGreatDoor
set_option linter.unusedVariables false

/-- r is the numbers of l, rising, each once. -/
def Rises (l r : List Int) : Prop := r.Pairwise (· < ·) ∧ ∀ x, x ∈ r ↔ x ∈ l

theorem rising_unique : ∀ (r s : List Int), r.Pairwise (· < ·) → s.Pairwise (· < ·) → (∀ x, x ∈ r ↔ x ∈ s) → r = s
  | [], [], _, _, _ => rfl
  | [], b :: s, _, _, e => absurd ((e b).2 List.mem_cons_self) List.not_mem_nil
  | a :: r, [], _, _, e => absurd ((e a).1 List.mem_cons_self) List.not_mem_nil
  | a :: r, b :: s, h, k, e => by
    obtain ⟨h1, h2⟩ := List.pairwise_cons.1 h
    obtain ⟨k1, k2⟩ := List.pairwise_cons.1 k
    have hab : a = b := by
      rcases List.mem_cons.1 ((e a).1 List.mem_cons_self) with x | x
      · exact x
      · rcases List.mem_cons.1 ((e b).2 List.mem_cons_self) with y | y
        · exact y.symm
        · have := h1 b y; have := k1 a x; omega
    subst hab
    congr 1
    refine rising_unique r s h2 k2 (fun x => ⟨fun hx => ?_, fun hx => ?_⟩)
    · rcases List.mem_cons.1 ((e x).1 (List.mem_cons_of_mem _ hx)) with y | y
      · have := h1 x hx; omega
      · exact y
    · rcases List.mem_cons.1 ((e x).2 (List.mem_cons_of_mem _ hx)) with y | y
      · have := k1 x hx; omega
      · exact y

theorem Rises.unique {l k r s : List Int} (h : Rises l r) (q : Rises k s) (e : ∀ x, x ∈ l ↔ x ∈ k) : r = s :=
  rising_unique r s h.1 q.1 (fun x => by rw [h.2, q.2, e])

def lows (n : Int) (l : List Int) : List Int := l.filter (fun m => decide (m < n))
def highs (n : Int) (l : List Int) : List Int := l.filter (fun m => decide (n < m))
def isPut (n : Int) (l : List Int) : Bool := l.any (fun m => decide (n ≤ m))
/-- What the document's rising has laid behind the first numbers of what it had. -/
def nextL (n : Int) (l : List Int) : List Int := lows n l ++ (if isPut n l then [n] else []) ++ highs n l

theorem noPut {n : Int} {l : List Int} (h : isPut n l = false) : ∀ x ∈ l, x < n := fun x hx => by
  have := List.any_eq_false.1 h x hx
  simp at this; omega
theorem highs_none {n : Int} {l : List Int} (h : isPut n l = false) : highs n l = [] := by
  unfold highs
  rw [List.filter_eq_nil_iff]
  intro x hx
  have := noPut h x hx
  simp; omega
theorem isPut_snoc (n m : Int) (l : List Int) : isPut n (l ++ [m]) = (isPut n l || decide (n ≤ m)) := by simp [isPut]

theorem next_lt {n m : Int} {l : List Int} (h : isPut n l = false) (hm : m < n) : nextL n (l ++ [m]) = nextL n l ++ [m] := by
  have h2 : isPut n (l ++ [m]) = false := by rw [isPut_snoc, h]; simp; omega
  unfold nextL
  rw [h, h2, highs_none h, highs_none h2]
  simp [lows, hm]
theorem next_eq {n : Int} {l : List Int} (h : isPut n l = false) : nextL n (l ++ [n]) = nextL n l ++ [n] := by
  have h2 : isPut n (l ++ [n]) = true := by rw [isPut_snoc]; simp
  unfold nextL
  rw [h, h2, highs_none h]
  have h3 : highs n (l ++ [n]) = [] := by have := highs_none h; simp [highs] at this ⊢; exact this
  rw [h3]
  simp [lows]
theorem next_gt {n m : Int} {l : List Int} (h : isPut n l = false) (hm : n < m) : nextL n (l ++ [m]) = nextL n l ++ [n] ++ [m] := by
  have h2 : isPut n (l ++ [m]) = true := by rw [isPut_snoc]; simp; omega
  unfold nextL
  rw [h, h2, highs_none h]
  have h3 : highs n (l ++ [m]) = [m] := by have := highs_none h; simp only [highs, List.filter_append] at this ⊢; rw [this]; simp [hm]
  rw [h3]
  have : ¬ m < n := by omega
  simp [lows, this]
theorem put_gt {n m : Int} {l : List Int} (h : isPut n l = true) (hp : (l ++ [m]).Pairwise (· < ·)) : n < m := by
  obtain ⟨x, hx, hn⟩ := List.any_eq_true.1 h
  have := (List.pairwise_append.1 hp).2.2 x hx m (by simp)
  simp at hn; omega
theorem next_more {n m : Int} {l : List Int} (h : isPut n l = true) (hm : n < m) : nextL n (l ++ [m]) = nextL n l ++ [m] := by
  have h2 : isPut n (l ++ [m]) = true := by rw [isPut_snoc, h]; simp
  unfold nextL
  rw [h, h2]
  have : ¬ m < n := by omega
  simp [lows, highs, hm, this]

/-- What stands behind the whole round. -/
def putIn (n : Int) (l : List Int) : List Int := lows n l ++ [n] ++ highs n l
theorem putIn_yes {n : Int} {l : List Int} (h : isPut n l = true) : nextL n l = putIn n l := by simp [nextL, putIn, h]
theorem putIn_no {n : Int} {l : List Int} (h : isPut n l = false) : nextL n l ++ [n] = putIn n l := by simp [nextL, putIn, h, highs_none h]

theorem Rises.putIn {l r : List Int} (h : Rises l r) (n : Int) : Rises (l ++ [n]) (putIn n r) := by
  refine ⟨?_, fun x => ?_⟩
  · unfold Go.Proofs.YtbgommpdmnbplaaGreatDoor.putIn lows highs
    rw [List.append_assoc, List.pairwise_append]
    refine ⟨h.1.filter _, ?_, fun a ha b hb => ?_⟩
    · simp only [List.singleton_append, List.pairwise_cons]
      refine ⟨fun b hb => ?_, h.1.filter _⟩
      simpa using (List.mem_filter.1 hb).2
    · have h1 : a < n := by simpa using (List.mem_filter.1 ha).2
      simp only [List.singleton_append, List.mem_cons] at hb
      rcases hb with rfl | hb
      · exact h1
      · have : n < b := by simpa using (List.mem_filter.1 hb).2
        omega
  · have := h.2 x
    simp only [Go.Proofs.YtbgommpdmnbplaaGreatDoor.putIn, lows, highs, List.mem_append, List.mem_filter, List.mem_singleton, decide_eq_true_eq, ← this]
    by_cases e : x = n
    · simp [e]
    · constructor
      · rintro ((h | h) | h)
        · exact .inl h.1
        · exact .inr h
        · exact .inl h.1
      · rintro (h | h)
        · rcases (show x < n ∨ n < x by omega) with q | q
          · exact .inl (.inl ⟨h, q⟩)
          · exact .inr ⟨h, q⟩
        · exact absurd h e

theorem next_length (n : Int) (l : List Int) : (nextL n l).length ≤ l.length + 1 := by
  have key : (lows n l).length + (highs n l).length ≤ l.length := by
    induction l with
    | nil => simp [lows, highs]
    | cons a l ih =>
      simp only [lows, highs, List.filter_cons] at ih ⊢
      by_cases h1 : a < n
      · have : ¬ n < a := by omega
        simp [h1, this]; omega
      · by_cases h2 : n < a
        · simp [h1, h2]; omega
        · simp [h1, h2]; omega
  unfold nextL
  split <;> simp <;> omega
theorem next_length_no {n : Int} {l : List Int} (h : isPut n l = false) : (nextL n l).length ≤ l.length := by
  unfold nextL
  rw [h, highs_none h]
  simpa [lows] using List.length_filter_le (fun m => decide (m < n)) l
theorem putIn_length (n : Int) (l : List Int) : (putIn n l).length ≤ l.length + 1 := by
  have := next_length n l
  cases h : isPut n l with
  | true => rw [← putIn_yes h]; exact this
  | false =>
    have h2 : lows n l = l := List.filter_eq_self.2 (fun x hx => by simpa using noPut h x hx)
    simp [putIn, highs_none h, h2]

end Go.Proofs.YtbgommpdmnbplaaGreatDoor

/- A sorted list, compacted, is its numbers, rising, each once. -/
namespace Go.Proofs.YtbgommpdmnbplaaGreatDoor
open Go.Lib
set_option linter.unusedVariables false

theorem compact_upto (d : Array Int) (hs : ∀ i j, i ≤ j → j < d.size → d[i]! ≤ d[j]!) : ∀ m, m ≤ d.size → (compactUpTo d m).Pairwise (· < ·) ∧ ∀ x, x ∈ compactUpTo d m ↔ ∃ j, j < m ∧ d[j]! = x
  | 0, _ => ⟨by simp [compactUpTo], fun x => by simp [compactUpTo]⟩
  | m + 1, h => by
    obtain ⟨h1, h2⟩ := compact_upto d hs m (by omega)
    rw [compactUpTo_succ]
    by_cases hk : keeps d m = true
    · rw [if_pos hk]
      refine ⟨List.pairwise_append.2 ⟨h1, by simp, fun a ha b hb => ?_⟩, fun x => ?_⟩
      · obtain rfl : b = d[m]! := by simpa using hb
        obtain ⟨j, hj, rfl⟩ := (h2 a).1 ha
        have hm : m ≠ 0 := by omega
        have hne : d[m]! ≠ d[m - 1]! := by
          intro e
          rw [keeps_neg (by omega) e] at hk
          cases hk
        have a1 := hs j (m - 1) (by omega) (by omega)
        have a2 := hs (m - 1) m (by omega) (by omega)
        omega
      · rw [List.mem_append, h2, List.mem_singleton]
        constructor
        · rintro (⟨j, hj, e⟩ | e)
          · exact ⟨j, by omega, e⟩
          · exact ⟨m, by omega, e.symm⟩
        · rintro ⟨j, hj, e⟩
          rcases (show j < m ∨ j = m by omega) with q | rfl
          · exact .inl ⟨j, q, e⟩
          · exact .inr e.symm
    · rw [if_neg hk, List.append_nil]
      refine ⟨h1, fun x => ?_⟩
      rw [h2]
      have hm0 : m ≠ 0 := by rintro rfl; exact hk (keeps_lt_one d 0 (by omega))
      have e : d[m]! = d[m - 1]! := Classical.byContradiction (fun q => hk (keeps_pos q))
      constructor
      · rintro ⟨j, hj, q⟩; exact ⟨j, by omega, q⟩
      · rintro ⟨j, hj, q⟩
        rcases (show j < m ∨ j = m by omega) with p | rfl
        · exact ⟨j, p, q⟩
        · exact ⟨j - 1, by omega, by rw [← e]; exact q⟩

theorem getI (l : List Int) (j : Nat) (h : j < l.length) : l.toArray[j]! = l[j] := by
  rw [getElem!_pos l.toArray j (by simpa using h)]; simp

theorem compact_rises (l : List Int) (hs : l.Pairwise (· ≤ ·)) : Rises l (compact l) := by
  have hs' : ∀ i j, i ≤ j → j < l.toArray.size → l.toArray[i]! ≤ l.toArray[j]! := by
    intro i j hij hj
    have hj' : j < l.length := by simpa using hj
    rw [getI l i (by omega), getI l j hj']
    rcases (show i < j ∨ i = j by omega) with q | rfl
    · exact List.pairwise_iff_getElem.1 hs i j (by omega) hj' q
    · exact Int.le_refl _
  obtain ⟨h1, h2⟩ := compact_upto l.toArray hs' l.length (by simp)
  refine ⟨h1, fun x => ?_⟩
  show x ∈ compactUpTo l.toArray l.length ↔ _
  rw [h2, List.mem_iff_getElem]
  constructor
  · rintro ⟨j, hj, e⟩; exact ⟨j, hj, by rw [← getI l j hj]; exact e⟩
  · rintro ⟨j, hj, e⟩; exact ⟨j, hj, by rw [getI l j hj]; exact e⟩

/-- The program's rising: sorted, then compacted. -/
def riseP (l : List Int) : List Int := compact (l.mergeSort fun x y => decide (x ≤ y))
theorem sorted_int (l : List Int) : (l.mergeSort fun x y => decide (x ≤ y)).Pairwise (· ≤ ·) := by
  have := List.pairwise_mergeSort (le := fun x y : Int => decide (x ≤ y)) (fun a b c h k => by simp at h k ⊢; omega) (fun a b => by simp; omega) l
  exact this.imp (fun h => by simpa using h)
theorem riseP_rises (l : List Int) : Rises l (riseP l) := by
  have h := compact_rises _ (sorted_int l)
  exact ⟨h.1, fun x => (h.2 x).trans (List.mergeSort_perm l _).mem_iff⟩
theorem riseP_length (l : List Int) : (riseP l).length ≤ l.length := by
  have := compact_length_le (l.mergeSort fun x y => decide (x ≤ y))
  rw [List.length_mergeSort] at this
  exact this

end Go.Proofs.YtbgommpdmnbplaaGreatDoor

/- Entries of a corpus, without memory: which may be, their records, a corpus as a function of keys. -/
namespace Go.Proofs.YtbgommpdmnbplaaGreatDoor
open Num Jr
set_option linter.unusedVariables false
set_option maxRecDepth 20000

namespace Co
/-- An entry: its key, program, points, fault and picks. -/
structure Ety where
  k : ByteArray
  g : ByteArray
  p : List Int
  f : Int
  q : List Int

/-- A byte of a key. -/
def keyCh (z : Int) : Bool := decide ((97 ≤ z ∧ z ≤ 122) ∨ (48 ≤ z ∧ z ≤ 57))
def isKey (s : ByteArray) : Bool := decide (1 ≤ s.size ∧ s.size ≤ 24) && (str s).all keyCh
/-- Points that rise, from so many on. -/
def ptsB : Int → List Int → Bool
  | _, [] => true
  | l, x :: r => decide (l ≤ x ∧ x < 2000) && ptsB (x + 1) r
def pksB (l : List Int) : Bool := l.all fun x => decide (0 ≤ x ∧ x ≤ 255)
/-- Which entries may be. -/
def mayB (e : Ety) : Bool := isKey e.k && decide (e.g.size ≤ 1500) && ptsB 0 e.p && decide (0 ≤ e.f ∧ e.f ≤ 99) && pksB e.q && (decide (0 < e.f) || decide (e.q.length = 0))

theorem ptsB_all : ∀ (l : List Int) (m : Int), ptsB m l = true → ∀ x ∈ l, m ≤ x ∧ x < 2000
  | [], _, _, _, h => by simp at h
  | y :: r, m, h, x, hx => by
    simp only [ptsB, Bool.and_eq_true, decide_eq_true_eq] at h
    rcases List.mem_cons.1 hx with rfl | hx
    · exact h.1
    · have := ptsB_all r (y + 1) h.2 x hx
      omega
theorem ptsB_len : ∀ (l : List Int) (m : Int), ptsB m l = true → m ≤ 2000 → (l.length : Int) ≤ 2000 - m
  | [], m, _, h => by simp; omega
  | y :: r, m, h, hm => by
    simp only [ptsB, Bool.and_eq_true, decide_eq_true_eq] at h
    have := ptsB_len r (y + 1) h.2 (by omega)
    simp only [List.length_cons]
    omega

/-- Numbers, and ahead of them how many. -/
def numsB (l : List Int) : List Int := enc l.length ++ (l.map fun x => enc x.toNat).flatten
/-- The records of Put and Delete. -/
def putR (e : Ety) : List Int := 1 :: (txtB (str e.k) ++ txtB (str e.g) ++ numsB e.p ++ enc e.f.toNat ++ numsB e.q)
def delR (k : ByteArray) : List Int := 2 :: txtB (str k)

theorem txtB_bytes (s : ByteArray) : Bytes (txtB (str s)) := (enc_bytes _).append (str_bytes s)
theorem encs_bytes (l : List Int) : Bytes (l.map fun x => enc x.toNat).flatten := by
  intro z hz
  obtain ⟨y, hy, hz⟩ := List.mem_flatten.1 hz
  obtain ⟨x, _, rfl⟩ := List.mem_map.1 hy
  exact enc_bytes _ z hz
theorem numsB_bytes (l : List Int) : Bytes (numsB l) := (enc_bytes _).append (encs_bytes l)
theorem putR_bytes (e : Ety) : Bytes (putR e) := by
  have : Bytes [(1 : Int)] := fun z hz => by rcases List.mem_singleton.1 hz with rfl; omega
  exact this.append (((((txtB_bytes _).append (txtB_bytes _)).append (numsB_bytes _)).append (enc_bytes _)).append (numsB_bytes _))
theorem delR_bytes (k : ByteArray) : Bytes (delR k) := by
  have : Bytes [(2 : Int)] := fun z hz => by rcases List.mem_singleton.1 hz with rfl; omega
  exact this.append (txtB_bytes _)

/-- A corpus: what stands under each key. -/
abbrev Sta := List UInt8 → Option Ety
def kb (s : ByteArray) : List UInt8 := s.data.toList
def Sta.put (F : Sta) (e : Ety) : Sta := fun s => if s = kb e.k then some e else F s
def Sta.del (F : Sta) (k : List UInt8) : Sta := fun s => if s = k then none else F s
/-- There are fewer than forty. -/
def Few (F : Sta) : Prop := ∃ K : List (List UInt8), K.length < 40 ∧ ∀ s, F s ≠ none → s ∈ K
/-- Each entry stands under its own key, and may be. -/
def Sta.ok (F : Sta) : Prop := ∀ s e, F s = some e → kb e.k = s ∧ mayB e = true ∧ (putR e).length ≤ 2000
theorem Sta.ok.put {F : Sta} (h : F.ok) {e : Ety} (he : mayB e = true) (hl : (putR e).length ≤ 2000) : (F.put e).ok := fun s x hx => by
  unfold Sta.put at hx
  split at hx
  · rename_i hs
    injection hx with hx
    subst hx
    exact ⟨hs.symm, he, hl⟩
  · exact h s x hx
theorem Sta.ok.del {F : Sta} (h : F.ok) (k : List UInt8) : (F.del k).ok := fun s x hx => by
  unfold Sta.del at hx
  split at hx
  · cases hx
  · exact h s x hx
/-- The keys of a corpus, rising. -/
structure Keys (F : Sta) (K : List (List UInt8)) : Prop where
  nd : K.Nodup
  mem : ∀ s, s ∈ K ↔ F s ≠ none
theorem Keys.perm {F : Sta} {K K' : List (List UInt8)} (h : Keys F K) (h' : Keys F K') : K.Perm K' :=
  (List.perm_ext_iff_of_nodup h.nd h'.nd).2 fun s => by rw [h.mem, h'.mem]
theorem nodup_le : ∀ (K K' : List (List UInt8)), K.Nodup → (∀ s ∈ K, s ∈ K') → K.length ≤ K'.length
  | [], _, _, _ => by simp
  | a :: r, K', hn, hs => by
    have hn' := List.nodup_cons.1 hn
    have ih := nodup_le r (K'.erase a) hn'.2 (fun s h => (List.mem_erase_of_ne (fun e => hn'.1 (by rw [← e]; exact h))).2 (hs s (by simp [h])))
    have hl := List.length_erase_of_mem (hs a (by simp))
    have hp := List.length_pos_of_mem (hs a (by simp))
    simp only [List.length_cons]
    omega
theorem Keys.few {F : Sta} {K : List (List UInt8)} (h : Keys F K) : K.length < 40 ↔ Few F := by
  refine ⟨fun hl => ⟨K, hl, fun s hs => (h.mem s).2 hs⟩, fun ⟨K', hl, hm⟩ => ?_⟩
  have := nodup_le K K' h.nd (fun s hs => hm s ((h.mem s).1 hs))
  omega
end Co
end Go.Proofs.YtbgommpdmnbplaaGreatDoor

/- Numbers that lie somewhere in memory. -/
namespace Go.Proofs.YtbgommpdmnbplaaGreatDoor
open Go.RowKit
set_option linter.unusedVariables false

/-- Numbers that lie somewhere in memory. -/
structure Ilst (w : World) (a : Option Addr) (n c : Nat) (xs : List Int) : Prop where
  size : xs.length = n
  cells : 0 < n → ∃ b o, a = some ⟨b, o, none⟩ ∧ b < w.heap.size ∧ ∀ j, j < n → w.cell? ⟨b, o + j, none⟩ = some (.int .i64 (xs.getD j 0))
  nil : a = none → c = 0

theorem Ilst.below {w w' : World} {a : Option Addr} {n c : Nat} {xs : List Int} (h : Ilst w a n c xs) (u : Below w.heap.size w w') : Ilst w' a n c xs :=
  ⟨h.size, fun hl => by
    obtain ⟨b, o, e, hlt, hc⟩ := h.cells hl
    exact ⟨b, o, e, Nat.lt_of_lt_of_le hlt u.size, fun j hj => (u.cell (p := ⟨b, o + j, none⟩) hlt).trans (hc j hj)⟩, h.nil⟩

theorem own_lst {w : World} {B : Nat} {v : Value} {xs : List Int} (h : w.ownsRow B 3 1 v xs.length (xs.map (Value.int .i64))) : ∃ a c, v = .slice a xs.length c ∧ xs.length ≤ c ∧ Ilst w a xs.length c xs := by
  have h0 := h
  rcases h.2 with ⟨rfl, hn⟩ | ⟨g, c, cur, rfl, _, _, h1, h2, _⟩
  · rw [hn]
    exact ⟨none, 0, rfl, Nat.le_refl _, hn, fun h => by omega, fun _ => rfl⟩
  · refine ⟨_, c, rfl, h1, rfl, fun hl => ⟨g, 0, rfl, (h0.lt g rfl).2, fun j hj => ?_⟩, fun h => by cases h⟩
    rw [Nat.zero_add, h0.cellAt j (by simpa using hj), List.getElem?_map, List.getElem?_eq_getElem hj, List.getD_eq_getElem?_getD, List.getElem?_eq_getElem hj]
    rfl

theorem take_more (l : List Int) (j : Nat) (h : j < l.length) : l.take (j + 1) = l.take j ++ [l.getD j 0] := by
  rw [List.take_add_one, List.getD_eq_getElem?_getD, List.getElem?_eq_getElem h]; rfl

theorem infoInt : (Tryz.prog.info? 3).map (fun i => (i.zero, i.size, i.bytes)) = some (some (.int .i64 0), 1, 8) := by kernel_rfl
end Go.Proofs.YtbgommpdmnbplaaGreatDoor

/- Entries of a corpus as they lie, and the map that holds them. -/
namespace Go.Proofs.YtbgommpdmnbplaaGreatDoor
open Go.RowKit Go.MapKept Co
set_option linter.unusedVariables false
set_option maxRecDepth 20000

/-- Numbers that lie in a block outside N. -/
structure Il (w : World) (N : List Nat) (a : Option Addr) (n c : Nat) (xs : List Int) : Prop where
  il : Ilst w a n c xs
  le : n ≤ c
  cm : c ≤ 9223372036854775807
  out : 0 < n → ∀ b o, a = some ⟨b, o, none⟩ → b ∉ N

theorem Il.upd {w w' : World} {N N' : List Nat} {a : Option Addr} {n c : Nat} {xs : List Int} {G : Nat → Prop} (h : Il w N a n c xs) (u : Upd G w w') (hG : ∀ b o, 0 < n → a = some ⟨b, o, none⟩ → ¬ G b) (hN : ∀ x ∈ N', x ∈ N ∨ w.heap.size ≤ x) : Il w' N' a n c xs := by
  refine ⟨⟨h.il.size, fun hl => ?_, h.il.nil⟩, h.le, h.cm, fun hl b o e hx => ?_⟩
  · obtain ⟨b, o, e, hlt, hc⟩ := h.il.cells hl
    exact ⟨b, o, e, Nat.lt_of_lt_of_le hlt u.size, fun j hj => (World.cell?_of_block (a := ⟨b, o + j, none⟩) (u.block b hlt (hG b o hl e))).trans (hc j hj)⟩
  · rcases hN b hx with hx | hx
    · exact h.out hl b o e hx
    · obtain ⟨b', o', e', hlt, _⟩ := h.il.cells hl
      rw [e'] at e
      injection e with e
      injection e with e _
      omega

/-- An entry as a value. -/
def entV (k g : ByteArray) (pa : Option Addr) (pn pc : Nat) (f : Int) (qa : Option Addr) (qn qc : Nat) : Value := .agg #[.string k, .string g, .slice pa pn pc, .int .i64 f, .slice qa qn qc]
def Ev (w : World) (N : List Nat) (v : Value) (e : Ety) : Prop :=
  ∃ pa pc qa qc, v = entV e.k e.g pa e.p.length pc e.f qa e.q.length qc ∧ Il w N pa e.p.length pc e.p ∧ Il w N qa e.q.length qc e.q

theorem Ev.upd {w w' : World} {N N' : List Nat} {v : Value} {e : Ety} {G : Nat → Prop} (h : Ev w N v e) (u : Upd G w w') (hG : ∀ b, b < w.heap.size → G b → b ∈ N ∨ ∃ es cl, w.heap[b]? = some (.map es cl)) (hN : ∀ x ∈ N', x ∈ N ∨ w.heap.size ≤ x) : Ev w' N' v e := by
  obtain ⟨pa, pc, qa, qc, e1, h1, h2⟩ := h
  have go : ∀ {a n c xs}, Il w N a n c xs → Il w' N' a n c xs := fun {a n c xs} h => by
    refine h.upd u (fun b o hl ea hb => ?_) hN
    obtain ⟨b', o', e', hlt, hc⟩ := h.il.cells hl
    have hb' : b' = b := by rw [e'] at ea; injection ea with ea; injection ea
    rw [hb'] at hlt hc
    rcases hG b hlt hb with hx | ⟨es, cl, hm⟩
    · exact h.out hl b o ea hx
    · have := hc 0 hl
      simp [World.cell?, hm] at this
  exact ⟨pa, pc, qa, qc, e1, go h1, go h2⟩

/-- How a value is read: as itself. -/
def Rv (v : Value) : Option (DataW Value × List MemPlace) := some (.held v, [])
theorem kstr : Maps.Keyed Tryz.prog 9 := Maps.string_keyed Tryz.underlying9
theorem keyS {s : ByteArray} (h : s.size ≤ maxLen) : keyOf Tryz.prog 9 (.string s) = some (.string (kb s)) := WideMaps.keyOf_string_mk Tryz.underlying9 h
def zeroE : Value := .agg #[.string ⟨#[]⟩, .string ⟨#[]⟩, .slice none 0 0, .int .i64 0, .slice none 0 0]
theorem zeroEnt (w : World) : (zeroValue 37).run Tryz.prog w = .ok zeroE w := by
  have e : Tryz.t37.zero = some zeroE := by kernel_rfl
  simp [zeroValue, Result.andThen, e]

section
variable {H : Type} {D : DataW H} {w : World} {b n : Nat} {R : Value → Option (DataW H × List MemPlace)}
theorem strKeys_nodup (h : w.ownsMap Tryz.prog 9 R b n D) : (strKeys D).Nodup := by
  obtain ⟨es, rfl, hk⟩ := h.keysOf
  obtain ⟨es', e, hp⟩ := h.tidy kstr
  injection e with e
  subst e
  show (es.map fun p => strOf p.1).Nodup
  refine List.pairwise_map.2 (hp.imp_of_mem fun {p q} hp' hq' hne e => hne ?_)
  obtain ⟨v, hv⟩ := hk p hp'
  obtain ⟨u, hu⟩ := hk q hq'
  obtain ⟨x, _, hx, _⟩ := Maps.keyOf_str Tryz.underlying9 hv
  obtain ⟨y, _, hy, _⟩ := Maps.keyOf_str Tryz.underlying9 hu
  rw [hx, hy] at e ⊢
  exact congrArg _ e
theorem mem_strKeys (h : w.ownsMap Tryz.prog 9 R b n D) (s : List UInt8) : s ∈ strKeys D ↔ Maps.has D (.string s) = true := by
  obtain ⟨es, rfl, hk⟩ := h.keysOf
  rw [Maps.has_eq, List.any_eq_true]
  show s ∈ es.map (fun p => strOf p.1) ↔ _
  rw [List.mem_map]
  constructor
  · rintro ⟨p, hp, rfl⟩
    obtain ⟨v, hv⟩ := hk p hp
    obtain ⟨x, _, hx, _⟩ := Maps.keyOf_str Tryz.underlying9 hv
    exact ⟨p, hp, by rw [hx]; simp [Lit.sameKey, strOf]⟩
  · rintro ⟨p, hp, hs⟩
    obtain ⟨v, hv⟩ := hk p hp
    obtain ⟨x, _, hx, _⟩ := Maps.keyOf_str Tryz.underlying9 hv
    rw [hx] at hs
    exact ⟨p, hp, by rw [hx]; simpa [Lit.sameKey, strOf] using hs⟩
theorem size_strKeys (h : w.ownsMap Tryz.prog 9 R b n D) : (strKeys D).length = Maps.size D := by
  obtain ⟨es, rfl, _⟩ := h.keysOf
  simp [strKeys, Maps.size]
theorem own_exact (h : w.ownsMap Tryz.prog 9 R b n D) : w.ownsMap Tryz.prog 9 R b (Maps.size D) D := by
  obtain ⟨es, cl, hb, F, hs, rfl⟩ := h
  exact ⟨es, cl, hb, F, by simp [Maps.size, length_sorted], rfl⟩
end

/-- A map of entries at m: K its keys, rising; F what stands under each; the entries' lists lie outside N. -/
def Em (w : World) (N : List Nat) (m : Nat) (K : List (List UInt8)) (F : Sta) : Prop :=
  ∃ D : DataW Value, w.ownsMap Tryz.prog 9 Rv m K.length D ∧ K = (strKeys D).mergeSort leB ∧
    ∀ s, Maps.has D (.string s) = (F s).isSome ∧ ∀ e, F s = some e → ∃ v, (∀ z, D.atKey (.string s) z = .held v) ∧ Ev w N v e

section
variable {w w' : World} {N N' : List Nat} {m : Nat} {K : List (List UInt8)} {F : Sta}
theorem Em.lt (h : Em w N m K F) : m < w.heap.size := by obtain ⟨D, h1, _⟩ := h; exact h1.lt
theorem Em.isMap (h : Em w N m K F) : ∃ es cl, w.heap[m]? = some (.map es cl) := by obtain ⟨D, ⟨es, cl, hb, _⟩, _⟩ := h; exact ⟨es, cl, hb⟩
theorem Em.keys (h : Em w N m K F) : Keys F K := by
  obtain ⟨D, h1, rfl, h2⟩ := h
  refine ⟨(List.mergeSort_perm _ _).nodup_iff.2 (strKeys_nodup h1), fun s => ?_⟩
  rw [(List.mergeSort_perm _ _).mem_iff, mem_strKeys h1, (h2 s).1]
  cases F s <;> simp
theorem Em.keys_short (h : Em w N m K F) : ∀ s ∈ K, s.length ≤ maxLen := by
  obtain ⟨D, h1, rfl, h2⟩ := h
  intro s hs
  exact strKeys_le h1 Tryz.underlying9 s ((List.mergeSort_perm _ _).mem_iff.1 hs)
theorem Em.unique {K' : List (List UInt8)} {m' : Nat} (h : Em w N m K F) (h' : Em w' N' m' K' F) : K = K' := by
  have hp := h.keys.perm h'.keys
  obtain ⟨D, h1, e, _⟩ := h
  obtain ⟨D', h1', e', _⟩ := h'
  have hq : (strKeys D).Perm (strKeys D') := by
    rw [e, e'] at hp
    exact ((List.mergeSort_perm _ _).symm.trans hp).trans (List.mergeSort_perm _ _)
  rw [e, e']
  exact mergeSort_of_perm hq
theorem Em.upd {G : Nat → Prop} (h : Em w N m K F) (u : Upd G w w') (hm : ¬ G m) (hG : ∀ b, b < w.heap.size → G b → b ∈ N ∨ ∃ es cl, w.heap[b]? = some (.map es cl)) (hN : ∀ x ∈ N', x ∈ N ∨ w.heap.size ≤ x) : Em w' N' m K F := by
  obtain ⟨D, ⟨es, cl, hb, r⟩, h1, h2⟩ := h
  refine ⟨D, ⟨es, cl, u.heap hb hm, r⟩, h1, fun s => ⟨(h2 s).1, fun e he => ?_⟩⟩
  obtain ⟨v, hv, hE⟩ := (h2 s).2 e he
  exact ⟨v, hv, hE.upd u hG hN⟩
theorem Em.below (h : Em w N m K F) (u : Below w.heap.size w w') : Em w' N m K F :=
  h.upd (Upd.of_below (F := fun _ => False) u) (fun h => h) (fun _ _ h => h.elim) (fun x hx => .inl hx)

theorem em_new (w : World) (N : List Nat) : Em (w.alloc (.map #[] 0)) N w.heap.size [] (fun _ => none) :=
  ⟨.map [], World.ownsMap_made w _ _ _, by simp [strKeys], fun s => ⟨rfl, fun e he => by cases he⟩⟩

/-- What is looked up, in a world that has more. -/
theorem em_look_in (h : Em w N m K F) (u : Below w.heap.size w w') (s : ByteArray) (hs : s.size ≤ maxLen) :
    (F (kb s) = none ∧ (Instr.lookup 75 (.map (some m)) (.string s) true).run Tryz.prog w' = .ok (.tuple #[zeroE, .bool false]) w') ∨
    (∃ e v, F (kb s) = some e ∧ Ev w N v e ∧ (Instr.lookup 75 (.map (some m)) (.string s) true).run Tryz.prog w' = .ok (.tuple #[v, .bool true]) w' ∧ (Instr.lookup 75 (.map (some m)) (.string s) false).run Tryz.prog w' = .ok v w') := by
  have hlt := h.lt
  obtain ⟨D, ⟨es, cl, hb, r⟩, _, h2⟩ := h
  have h1 : w'.ownsMap Tryz.prog 9 Rv m K.length D := ⟨es, cl, (u.block m hlt).trans hb, r⟩
  obtain ⟨v, ps, hr, hv⟩ := h1.look_ok kstr Tryz.underlying75 (zeroEnt w') (zd := .held zeroE) (zp := []) rfl (keyS hs)
  obtain ⟨v2, ps2, hr2, hv2⟩ := h1.lookup kstr Tryz.underlying75 (zeroEnt w') (zd := .held zeroE) (zp := []) rfl (keyS hs)
  obtain ⟨q1, q2⟩ := h2 (kb s)
  unfold Rv at hv hv2
  injection hv with hv
  injection hv2 with hv2
  rw [Prod.mk.injEq] at hv hv2
  cases hF : F (kb s) with
  | none =>
    rw [hF] at q1
    refine .inl ⟨rfl, ?_⟩
    have hz := Maps.atKey_of_not_has (D := D) q1 (.held zeroE)
    rw [hz] at hv
    have := hv.1
    injection this with this
    rw [hr, q1, this]
    rfl
  | some e =>
    rw [hF] at q1
    obtain ⟨u, hu, hE⟩ := q2 e hF
    rw [hu] at hv hv2
    have e1 := hv.1
    have e2 := hv2.1
    injection e1 with e1
    injection e2 with e2
    refine .inr ⟨e, u, rfl, hE, ?_, ?_⟩
    · rw [hr, q1, e1]; rfl
    · rw [hr2, e2]

theorem em_look (h : Em w N m K F) (s : ByteArray) (hs : s.size ≤ maxLen) :
    (F (kb s) = none ∧ (Instr.lookup 75 (.map (some m)) (.string s) true).run Tryz.prog w = .ok (.tuple #[zeroE, .bool false]) w) ∨
    (∃ e v, F (kb s) = some e ∧ Ev w N v e ∧ (Instr.lookup 75 (.map (some m)) (.string s) true).run Tryz.prog w = .ok (.tuple #[v, .bool true]) w ∧ (Instr.lookup 75 (.map (some m)) (.string s) false).run Tryz.prog w = .ok v w) := em_look_in h (Below.refl _ _) s hs

theorem isKeyS (s : List UInt8) : WideAt.IsKeyLit (.string s) := by trivial
theorem lit_s_ne {x y : List UInt8} (h : x ≠ y) : Lit.string x ≠ Lit.string y := fun e => h (by injection e)

/-- One entry more, or another one in its place. -/
theorem em_put (h : Em w N m K F) {e : Ety} {v : Value} (hE : Ev w N v e) (hs : e.k.size ≤ maxLen) (hn : K.length < maxLen) :
    ∃ w' K', (Instr.mapUpdate 75 (.map (some m)) (.string e.k) v).run Tryz.prog w = .ok () w' ∧ Em w' N m K' (F.put e) ∧ Upd (· = m) w w' ∧ K'.length = (if F (kb e.k) = none then K.length + 1 else K.length) := by
  have hmap := h.isMap
  obtain ⟨D, h1, hK, h2⟩ := h
  have ht := h1.tidy kstr
  have hkl : K.length = Maps.size D := by rw [hK, List.length_mergeSort, size_strKeys h1]
  obtain ⟨w', hr, h3, hg⟩ := h1.store kstr Tryz.underlying75 hn (keyS hs) (show Rv v = some (.held v, []) from rfl)
  have hU : Upd (· = m) w w' := (Upd.of_grown hg.grown).mono (fun x _ hx => by injection hx)
  have hsz : Maps.size (D.put (.string (kb e.k)) (.held v)) = if F (kb e.k) = none then K.length + 1 else K.length := by
    rw [Maps.size_put ht, (h2 (kb e.k)).1, hkl]
    cases F (kb e.k) <;> simp
  have hG : ∀ b, b < w.heap.size → b = m → b ∈ N ∨ ∃ es cl, w.heap[b]? = some (.map es cl) := fun b _ hb => .inr (hb ▸ hmap)
  refine ⟨w', (strKeys (D.put (.string (kb e.k)) (.held v))).mergeSort leB, hr, ⟨_, by rw [List.length_mergeSort, size_strKeys h3]; exact own_exact h3, rfl, fun s => ?_⟩, hU, by rw [List.length_mergeSort, size_strKeys h3, hsz]⟩
  by_cases q : s = kb e.k
  · subst q
    refine ⟨by rw [Maps.has_put_same ht.isMap (isKeyS _)]; simp [Sta.put], fun x hx => ?_⟩
    have : x = e := by simp [Sta.put] at hx; exact hx.symm
    subst this
    exact ⟨v, fun z => Maps.atKey_put_same ht.isMap (isKeyS _) _ _, hE.upd hU hG (fun x hx => .inl hx)⟩
  · rw [Maps.has_put_other (lit_s_ne q)]
    refine ⟨by simpa [Sta.put, q] using (h2 s).1, fun x hx => ?_⟩
    obtain ⟨u, hu, hx'⟩ := (h2 s).2 x (by simpa [Sta.put, q] using hx)
    exact ⟨u, fun z => by rw [Maps.atKey_put_other (lit_s_ne q)]; exact hu z, hx'.upd hU hG (fun x hx => .inl hx)⟩

/-- An entry less. -/
theorem em_del (h : Em w N m K F) (s : ByteArray) (hs : s.size ≤ maxLen) (ty : TypeId) :
    ∃ w' K', (Builtin.delete_ #[75, 9] ty #[.map (some m), .string s]).run Tryz.prog w = .ok (.tuple #[]) w' ∧ Em w' N m K' (F.del (kb s)) ∧ Upd (· = m) w w' ∧ K'.length ≤ K.length := by
  have hmap := h.isMap
  obtain ⟨D, h1, hK, h2⟩ := h
  have ht := h1.tidy kstr
  have hkl : K.length = Maps.size D := by rw [hK, List.length_mergeSort, size_strKeys h1]
  obtain ⟨w', hr, h3, hg⟩ := h1.drop kstr Tryz.underlying75 (keyS hs) ty
  have hU : Upd (· = m) w w' := (Upd.of_grown hg.grown).mono (fun x _ hx => by injection hx)
  have hsz : Maps.size (D.del (.string (kb s))) ≤ K.length := by
    have := Maps.size_del (k := .string (kb s)) ht
    rw [hkl]
    omega
  have hG : ∀ b, b < w.heap.size → b = m → b ∈ N ∨ ∃ es cl, w.heap[b]? = some (.map es cl) := fun b _ hb => .inr (hb ▸ hmap)
  refine ⟨w', (strKeys (D.del (.string (kb s)))).mergeSort leB, hr, ⟨_, by rw [List.length_mergeSort, size_strKeys h3]; exact own_exact h3, rfl, fun t => ?_⟩, hU, by rw [List.length_mergeSort, size_strKeys h3]; exact hsz⟩
  by_cases q : t = kb s
  · subst q
    exact ⟨by rw [Maps.has_del_same]; simp [Sta.del], fun x hx => by simp [Sta.del] at hx⟩
  · rw [Maps.has_del_other (lit_s_ne q)]
    refine ⟨by simpa [Sta.del, q] using (h2 t).1, fun x hx => ?_⟩
    obtain ⟨u, hu, hx'⟩ := (h2 t).2 x (by simpa [Sta.del, q] using hx)
    exact ⟨u, fun z => by rw [Maps.atKey_del_other (lit_s_ne q)]; exact hu z, hx'.upd hU hG (fun x hx => .inl hx)⟩

theorem em_len (h : Em w N m K F) (ty : TypeId) : (Builtin.len_ #[75] ty #[.map (some m)]).run Tryz.prog w = .ok (.int .i64 (K.length : Nat)) w := by
  obtain ⟨D, h1, hK, _⟩ := h
  rw [h1.len Tryz.underlying75 ty, hK, List.length_mergeSort, size_strKeys h1]
end
end Go.Proofs.YtbgommpdmnbplaaGreatDoor

/- What a record says, without memory; what records leave. -/
namespace Go.Proofs.YtbgommpdmnbplaaGreatDoor
open Num Jr
set_option linter.unusedVariables false
set_option maxRecDepth 20000

namespace Co
/-- Bytes that are left, and whether something was wrong. -/
abbrev Fs := List Int × Bool
def num (s : Fs) : Nat × Fs := if s.2 = true then (0, s) else ((dec s.1).1, (s.1.drop (dec s.1).2.1, decide ((dec s.1).2.2 ≠ 0)))
def txtF (most : Nat) (s : Fs) : List Int × Fs := if s.2 = true then ([], s) else ((txt s.1 most).1, (s.1.drop (txt s.1 most).2.1, decide ((txt s.1 most).2.2 ≠ 0)))
def numsF : Nat → Fs → List Int × Fs
  | 0, s => ([], s)
  | n + 1, s => if s.2 = true then ([], s) else (((num s).1 : Int) :: (numsF n (num s).2).1, (numsF n (num s).2).2)
def numbers (s : Fs) : List Int × Fs := numsF (num s).1 (num s).2
def entF (s : Fs) : Ety × Fs :=
  let k := txtF 24 s
  let g := txtF 1500 k.2
  let p := numbers g.2
  let f := num p.2
  let q := numbers f.2
  (⟨strOfNums k.1, strOfNums g.1, p.1, (f.1 : Int), q.1⟩, q.2)
def ended (s : Fs) : Prop := s.2 = false ∧ s.1 = []
open Classical in
noncomputable def folPut (F : Sta) (x : Ety × Fs) : Sta := if ended x.2 ∧ mayB x.1 = true ∧ (F (kb x.1.k) ≠ none ∨ Few F) then F.put x.1 else F
open Classical in
noncomputable def folDel (F : Sta) (x : List Int × Fs) : Sta := if ended x.2 then F.del (kb (strOfNums x.1)) else F
/-- What a record does. -/
noncomputable def folR (F : Sta) (rec : List Int) : Sta :=
  if (num (rec, false)).1 = 1 then folPut F (entF (num (rec, false)).2)
  else if (num (rec, false)).1 = 2 then folDel F (txtF 24 (num (rec, false)).2) else F
noncomputable def replay (L : List (List Int)) : Sta := L.foldl folR (fun _ => none)

theorem num_enc (n : Nat) (hn : n < 9223372036854775808) (r : List Int) : num (enc n ++ r, false) = (n, (r, false)) := by
  simp [num, dec_enc n hn r]
theorem txtF_txt (s : ByteArray) (most : Nat) (h : s.size ≤ most) (hm : most < 9223372036854775808) (r : List Int) : txtF most (txtB (str s) ++ r, false) = (str s, (r, false)) := by
  have hl := str_len s
  have hd := dec_enc (str s).length (by omega) (str s ++ r)
  have e : txtB (str s) ++ r = enc (str s).length ++ (str s ++ r) := by simp [txtB]
  have ht : txt (txtB (str s) ++ r) most = (str s, (enc (str s).length).length + (str s).length, 0) := by
    rw [e]
    unfold txt
    rw [hd]
    simp only [ne_eq, not_true_eq_false, if_false]
    rw [if_neg (by omega), if_neg (by simp), List.drop_left, List.take_left]
  simp only [txtF, Bool.false_eq_true, if_false, ht]
  rw [e, ← List.append_assoc, List.drop_left' (by simp)]
  simp
theorem numsF_enc : ∀ (l : List Int) (r : List Int), (∀ x ∈ l, 0 ≤ x ∧ x < 9223372036854775808) → numsF l.length ((l.map fun x => enc x.toNat).flatten ++ r, false) = (l, (r, false))
  | [], r, _ => rfl
  | x :: l, r, h => by
    have hx := h x (by simp)
    have ih := numsF_enc l r (fun y hy => h y (by simp [hy]))
    have e : ((x :: l).map fun x => enc x.toNat).flatten ++ r = enc x.toNat ++ ((l.map fun x => enc x.toNat).flatten ++ r) := by simp
    rw [e, List.length_cons, numsF, num_enc x.toNat (by omega)]
    simp only [Bool.false_eq_true, if_false]
    rw [ih, Int.toNat_of_nonneg hx.1]
theorem numbers_enc (l : List Int) (r : List Int) (h : ∀ x ∈ l, 0 ≤ x ∧ x < 9223372036854775808) (hl : l.length < 9223372036854775808) : numbers (numsB l ++ r, false) = (l, (r, false)) := by
  have e : numsB l ++ r = enc l.length ++ ((l.map fun x => enc x.toNat).flatten ++ r) := by simp [numsB]
  rw [numbers, e, num_enc _ hl]
  exact numsF_enc l r h

theorem mayB_parts {e : Ety} (h : mayB e = true) : isKey e.k = true ∧ e.g.size ≤ 1500 ∧ ptsB 0 e.p = true ∧ (0 ≤ e.f ∧ e.f ≤ 99) ∧ pksB e.q = true ∧ (0 < e.f ∨ e.q.length = 0) := by
  simp only [mayB, Bool.and_eq_true, Bool.or_eq_true, decide_eq_true_eq] at h
  exact ⟨h.1.1.1.1.1, h.1.1.1.1.2, h.1.1.1.2, h.1.1.2, h.1.2, h.2⟩
theorem isKey_size {s : ByteArray} (h : isKey s = true) : 1 ≤ s.size ∧ s.size ≤ 24 := by
  simp only [isKey, Bool.and_eq_true, decide_eq_true_eq] at h
  exact h.1

theorem entF_putR (e : Ety) (h : mayB e = true) (hq : e.q.length ≤ 2000) : entF (num (putR e, false)).2 = (e, ([], false)) ∧ (num (putR e, false)).1 = 1 := by
  obtain ⟨h1, h2, h3, h4, h5, _⟩ := mayB_parts h
  have hk := isKey_size h1
  have hp : ∀ x ∈ e.p, 0 ≤ x ∧ x < 9223372036854775808 := fun x hx => by have := ptsB_all _ _ h3 x hx; omega
  have hq' : ∀ x ∈ e.q, 0 ≤ x ∧ x < 9223372036854775808 := fun x hx => by
    have := List.all_eq_true.1 h5 x hx
    simp only [decide_eq_true_eq] at this
    omega
  have hpl := ptsB_len _ _ h3 (by omega)
  have e1 : putR e = enc 1 ++ (txtB (str e.k) ++ (txtB (str e.g) ++ (numsB e.p ++ (enc e.f.toNat ++ (numsB e.q ++ []))))) := by
    have : enc 1 = [1] := by decide
    rw [this]
    simp [putR]
  rw [e1, num_enc 1 (by omega)]
  refine ⟨?_, rfl⟩
  simp only [entF]
  rw [txtF_txt e.k 24 hk.2 (by omega), txtF_txt e.g 1500 h2 (by omega), numbers_enc e.p _ hp (by omega), num_enc e.f.toNat (by omega), numbers_enc e.q _ hq' (by omega)]
  simp only [str_back, Int.toNat_of_nonneg h4.1]

theorem fol_put (F : Sta) (e : Ety) (h : mayB e = true) (hq : e.q.length ≤ 2000) (ht : F (kb e.k) ≠ none ∨ Few F) : folR F (putR e) = F.put e := by
  obtain ⟨h1, h2⟩ := entF_putR e h hq
  unfold folR
  rw [h2, if_pos rfl, h1]
  unfold folPut
  rw [if_pos ⟨⟨rfl, rfl⟩, h, ht⟩]
theorem fol_del (F : Sta) (k : ByteArray) (h : isKey k = true) : folR F (delR k) = F.del (kb k) := by
  have hk := isKey_size h
  have e1 : delR k = enc 2 ++ (txtB (str k) ++ []) := by
    have : enc 2 = [2] := by decide
    rw [this]
    simp [delR]
  have hn : num (delR k, false) = (2, (txtB (str k) ++ [], false)) := by rw [e1]; exact num_enc 2 (by omega) _
  unfold folR
  rw [hn, if_neg (by simp), if_pos rfl, txtF_txt k 24 hk.2 (by omega)]
  unfold folDel
  rw [if_pos ⟨rfl, rfl⟩]
  simp only [str_back]
theorem replay_snoc (L : List (List Int)) (r : List Int) : replay (L ++ [r]) = folR (replay L) r := by simp [replay]

/-- The record of what stands under a key. -/
def recOf (F : Sta) (s : List UInt8) : List Int := match F s with | some e => putR e | none => []
theorem putR_q (e : Ety) : e.q.length < (putR e).length := by
  have : ∀ l : List Int, l.length ≤ ((l.map fun x => enc x.toNat).flatten).length := fun l => by
    induction l with
    | nil => simp
    | cons x l ih =>
      have := enc_pos x.toNat
      simp only [List.map_cons, List.flatten_cons, List.length_append, List.length_cons]
      omega
  have h1 := this e.q
  simp only [putR, numsB, List.length_cons, List.length_append]
  omega
theorem replay_all (F : Sta) (K : List (List UInt8)) (hk : Keys F K) (ho : F.ok) (hl : K.length ≤ 40) : replay (K.map (recOf F)) = F := by
  have go : ∀ i, i ≤ K.length → ∀ s, replay ((K.take i).map (recOf F)) s = if s ∈ K.take i then F s else none := by
    intro i
    induction i with
    | zero => intro _ s; simp [replay]
    | succ i ih =>
      intro hi s
      have ih' := ih (by omega)
      obtain ⟨x, gx⟩ : ∃ x, x = K[i] := ⟨_, rfl⟩
      have hx : x ∈ K := by rw [gx]; exact List.getElem_mem _
      have ht : K.take (i + 1) = K.take i ++ [x] := by rw [List.take_add_one, List.getElem?_eq_getElem (by omega), gx]; rfl
      have hne := (hk.mem x).1 hx
      obtain ⟨e, he⟩ : ∃ e, F x = some e := by
        cases h : F x with
        | none => exact absurd h hne
        | some e => exact ⟨e, rfl⟩
      obtain ⟨h1, h2, h3⟩ := ho x e he
      have hq := putR_q e
      have hPl : (K.take i).length < 40 := by rw [List.length_take]; omega
      rw [ht, List.map_append, List.map_cons, List.map_nil, replay_snoc, show recOf F x = putR e by simp [recOf, he], fol_put _ e h2 (by omega) (.inr ⟨K.take i, hPl, fun t ht => by
        have := ih' t
        by_cases hm : t ∈ K.take i
        · exact hm
        · rw [if_neg hm] at this; exact absurd this ht⟩)]
      unfold Sta.put
      rw [h1]
      by_cases hs : s = x
      · subst hs; simp [he]
      · rw [if_neg hs, ih' s]
        simp [hs]
  funext s
  have hg := go K.length (Nat.le_refl _) s
  rw [List.take_length] at hg
  rw [hg]
  split
  · rfl
  · rename_i h
    cases hF : F s with
    | none => rfl
    | some e => exact absurd ((hk.mem s).2 (by rw [hF]; simp)) h
end Co
end Go.Proofs.YtbgommpdmnbplaaGreatDoor

/- What corpus's small questions answer: which keys, points, picks and entries may be. -/
namespace Go.Proofs.YtbgommpdmnbplaaGreatDoor
open Go.RowKit Co
set_option linter.unusedVariables false
set_option maxRecDepth 20000

theorem bool_same {x y : Bool} (h : x = true ↔ y = true) : Ending.returned (Value.bool x) = Ending.returned (Value.bool y) := by rw [Bool.eq_iff_iff.2 h]
theorem index_at (t : ByteArray) (i : Nat) (h : i < t.size) (w : World) : (Instr.index 9 (.string t) (.int .i64 i)).run Tryz.prog w = .ok (.int .u8 ((str t).getD i 0)) w := by
  rw [run_index_string w 9 t .i64 i Tryz.underlying9, dif_pos ⟨by omega, by omega⟩]
  have e : (str t).getD i 0 = ((t[i]'h).toNat : Int) := by
    unfold str
    rw [List.getD_eq_getElem?_getD, List.getElem?_map, List.getElem?_eq_getElem (by simpa using h)]
    rfl
  rw [e]
  rfl

theorem within_any (x y : Int) (w : World) : Calls Tryz.prog 107 #[.int .i64 x, .int .i64 y] w fun e w' => e = .returned (.bool (decide (0 ≤ x ∧ x ≤ y))) ∧ w' = w := by
  go_enter Tryz.func107, Tryz.ntmps107
  go_wp2
  all_goals (go_ret; refine ⟨bool_same ?_, rfl⟩; simp <;> omega)

set_option maxHeartbeats 1000000 in
theorem iskey_any (s : ByteArray) (w : World) : Calls Tryz.prog 45 #[.string s] w fun e w' => e = .returned (.bool (isKey s)) ∧ w' = w := by
  obtain ⟨R, gR⟩ : ∃ R, R = isKey s := ⟨_, rfl⟩
  rw [← gR]
  have hl := str_len s
  have GR := hid gR
  have HL := hid hl
  have HIX := hid (index_at s)
  obtain ⟨n, gn⟩ : ∃ n, n = s.size := ⟨_, rfl⟩
  clear gR hl
  by_cases h1 : s.size < 1
  · have h1v : (s.size : Int) < 1 := by omega
    have hR : R = false := by rw [GR.out]; simp [isKey]; omega
    subst hR
    go_enter Tryz.func45, Tryz.ntmps45
    go_wp2_with fail
    go_ret
    exact ⟨rfl, rfl⟩
  · have h1v : ¬ (s.size : Int) < 1 := by omega
    by_cases h2 : 24 < s.size
    · have h2v : (24 : Int) < (s.size : Int) := by omega
      have hR : R = false := by rw [GR.out]; simp [isKey]; omega
      subst hR
      go_enter Tryz.func45, Tryz.ntmps45
      go_wp2_with fail
      go_ret
      exact ⟨rfl, rfl⟩
    · have h2v : ¬ (24 : Int) < (s.size : Int) := by omega
      go_enter Tryz.func45, Tryz.ntmps45
      go_wp2_with fail
      go_loop [15] (fun k => ∃ i : Nat, k = .int .i64 i ∧ i ≤ s.size ∧ Hid (∀ j, j < i → keyCh ((str s).getD j 0) = true)) (fun k => s.size - (intOf k).toNat)
      case atStart => exact ⟨0, rfl, Nat.zero_le _, hid (fun j h => absurd h (by omega))⟩
      case round =>
        obtain ⟨i, rfl, hin, HA⟩ := hrel
        by_cases hlt : i < s.size
        · have hx := HIX.out i hlt
          obtain ⟨z, gz⟩ : ∃ z, z = (str s).getD i 0 := ⟨_, rfl⟩
          rw [← gz] at hx
          have GZ := hid gz
          clear gz
          by_cases hc : keyCh z = true
          · have hc' := of_decide_eq_true hc
            rcases (by omega : (97 ≤ z ∧ z ≤ 122) ∨ (48 ≤ z ∧ z ≤ 57)) with ⟨q1, q2⟩ | ⟨q1, q2⟩
            · have a1 : ¬ z < 97 := by omega
              have a2 : ¬ 122 < z := by omega
              go_wp2_with fail
              go_round
              case rel => exact ⟨i + 1, by go_num, by omega, hid (fun j hj => by
                rcases Nat.lt_succ_iff_lt_or_eq.1 hj with h | h
                · exact HA.out j h
                · rw [h, ← GZ.out]; exact hc)⟩
              case measure => simp [intOf]; omega
            · have a1 : z < 97 := by omega
              have a3 : ¬ z < 48 := by omega
              have a4 : ¬ 57 < z := by omega
              go_wp2_with fail
              go_round
              case rel => exact ⟨i + 1, by go_num, by omega, hid (fun j hj => by
                rcases Nat.lt_succ_iff_lt_or_eq.1 hj with h | h
                · exact HA.out j h
                · rw [h, ← GZ.out]; exact hc)⟩
              case measure => simp [intOf]; omega
          · have hR : R = false := by
              rw [GR.out]
              simp only [isKey, Bool.and_eq_false_iff]
              right
              rw [List.all_eq_false]
              have hl := HL.out
              refine ⟨(str s).getD i 0, ?_, by rw [← GZ.out]; exact hc⟩
              rw [List.getD_eq_getElem?_getD, List.getElem?_eq_getElem (by omega)]
              exact List.getElem_mem _
            subst hR
            have hc' : ¬ ((97 ≤ z ∧ z ≤ 122) ∨ (48 ≤ z ∧ z ≤ 57)) := fun h => hc (decide_eq_true h)
            rcases (by omega : (z < 97 ∧ z < 48) ∨ (z < 97 ∧ ¬ z < 48 ∧ 57 < z) ∨ (¬ z < 97 ∧ 122 < z)) with ⟨a1, a2⟩ | ⟨a1, a2, a3⟩ | ⟨a1, a2⟩
            · go_wp2_with fail
              go_ret
              exact ⟨rfl, rfl⟩
            · go_wp2_with fail
              go_ret
              exact ⟨rfl, rfl⟩
            · have a4 : ¬ z < 48 := by omega
              have a5 : 57 < z := by omega
              go_wp2_with fail
              go_ret
              exact ⟨rfl, rfl⟩
        · have hin' : i = s.size := by omega
          have hR : R = true := by
            rw [GR.out]
            simp only [isKey, Bool.and_eq_true, decide_eq_true_eq]
            refine ⟨⟨by omega, by omega⟩, List.all_eq_true.2 fun x hx => ?_⟩
            obtain ⟨j, hj, rfl⟩ := List.getElem_of_mem hx
            have hl := HL.out
            have := HA.out j (by omega)
            rw [List.getD_eq_getElem?_getD, List.getElem?_eq_getElem hj] at this
            exact this
          subst hR
          have hltv : ¬ (i : Int) < (s.size : Int) := by omega
          clear hin'
          go_wp2_with fail
          go_ret
          exact ⟨rfl, rfl⟩

set_option maxHeartbeats 1000000 in
theorem arepks_any (a : Option Addr) (n c : Nat) (xs : List Int) (w : World) (h : Ilst w a n c xs) (hb : n ≤ c) (hb2 : c ≤ 9223372036854775807) : Calls Tryz.prog 108 #[.slice a n c] w fun e w' => e = .returned (.bool (pksB xs)) ∧ w' = w := by
  obtain ⟨R, gR⟩ : ∃ R, R = pksB xs := ⟨_, rfl⟩
  rw [← gR]
  have GR := hid gR
  have HI := hid h
  have hs := h.size
  have HS := hid hs
  clear gR h hs
  go_enter Tryz.func108, Tryz.ntmps108
  go_wp2_with fail
  go_loop [7] (fun k => ∃ i : Nat, k = .int .i64 i ∧ i ≤ n ∧ Hid (∀ j, j < i → 0 ≤ xs.getD j 0 ∧ xs.getD j 0 ≤ 255)) (fun k => n - (intOf k).toNat)
  case atStart => exact ⟨0, rfl, Nat.zero_le _, hid (fun j h => absurd h (by omega))⟩
  case round =>
    obtain ⟨i, rfl, hin, HA⟩ := hrel
    by_cases hlt : i < n
    · obtain ⟨b, o, e, hbl, hcc⟩ := HI.out.cells (by omega)
      subst e
      have hx := hcc i hlt
      obtain ⟨z, gz⟩ : ∃ z, z = xs.getD i 0 := ⟨_, rfl⟩
      rw [← gz] at hx
      have GZ := hid gz
      clear gz hcc
      have kw := hid (fun wx => within_any z 255 wx)
      obtain ⟨B, gB⟩ : ∃ B, B = decide (0 ≤ z ∧ z ≤ 255) := ⟨_, rfl⟩
      rw [← gB] at kw
      have GB := hid gB
      clear gB
      cases B with
      | true =>
        have hz := of_decide_eq_true GB.out.symm
        go_wp2_with (first | (go_at_call 107; refine (kw.out _).mono ?_; rintro e w1 ⟨rfl, h⟩; subst w1))
        go_round
        case rel => exact ⟨i + 1, by go_num, by omega, hid (fun j hj => by
          rcases Nat.lt_succ_iff_lt_or_eq.1 hj with h | h
          · exact HA.out j h
          · rw [h, ← GZ.out]; exact hz)⟩
        case measure => simp [intOf]; omega
      | false =>
        have hz := of_decide_eq_false GB.out.symm
        have hR : R = false := by
          rw [GR.out]
          unfold pksB
          rw [List.all_eq_false]
          have hl := HS.out
          refine ⟨xs.getD i 0, ?_, by rw [← GZ.out]; simpa using hz⟩
          rw [List.getD_eq_getElem?_getD, List.getElem?_eq_getElem (by omega)]
          exact List.getElem_mem _
        subst hR
        clear hz
        go_wp2_with (first | (go_at_call 107; refine (kw.out _).mono ?_; rintro e w1 ⟨rfl, h⟩; subst w1))
        go_ret
        exact ⟨rfl, rfl⟩
    · have hR : R = true := by
        rw [GR.out]
        unfold pksB
        refine List.all_eq_true.2 fun x hx => ?_
        obtain ⟨j, hj, rfl⟩ := List.getElem_of_mem hx
        have hl := HS.out
        have := HA.out j (by omega)
        rw [List.getD_eq_getElem?_getD, List.getElem?_eq_getElem hj] at this
        exact decide_eq_true this
      subst hR
      have hltv : ¬ (i : Int) < (n : Int) := by omega
      go_wp2_with fail
      go_ret
      exact ⟨rfl, rfl⟩

theorem ptsB_snoc : ∀ (l : List Int) (m x : Int), ptsB m (l ++ [x]) = (ptsB m l && decide ((l.getLast?.map (· + 1)).getD m ≤ x ∧ x < 2000))
  | [], m, x => by
    show (decide (m ≤ x ∧ x < 2000) && true) = (true && decide (m ≤ x ∧ x < 2000))
    rw [Bool.and_true, Bool.true_and]
  | [y], m, x => by
    show (decide (m ≤ y ∧ y < 2000) && (decide (y + 1 ≤ x ∧ x < 2000) && true)) = ((decide (m ≤ y ∧ y < 2000) && true) && decide (y + 1 ≤ x ∧ x < 2000))
    rw [Bool.and_true, Bool.and_true]
  | y :: z :: r, m, x => by
    have ih := ptsB_snoc (z :: r) (y + 1) x
    have e1 : ptsB m (y :: z :: r ++ [x]) = (decide (m ≤ y ∧ y < 2000) && ptsB (y + 1) (z :: r ++ [x])) := rfl
    have e2 : ptsB m (y :: z :: r) = (decide (m ≤ y ∧ y < 2000) && ptsB (y + 1) (z :: r)) := rfl
    obtain ⟨t, ht⟩ : ∃ t, (z :: r).getLast? = some t := ⟨_, List.getLast?_eq_some_getLast (by simp)⟩
    rw [e1, e2, ih, Bool.and_assoc, List.getLast?_cons_cons, ht]
    rfl
theorem ptsB_bad {l r : List Int} {m : Int} (h : ptsB m l = false) : ptsB m (l ++ r) = false := by
  induction l generalizing m with
  | nil => simp [ptsB] at h
  | cons y l ih =>
    simp only [ptsB, List.cons_append, Bool.and_eq_false_iff] at h ⊢
    rcases h with h | h
    · exact .inl h
    · exact .inr (ih h)

set_option maxHeartbeats 1000000 in
theorem arepts_any (a : Option Addr) (n c : Nat) (xs : List Int) (w : World) (h : Ilst w a n c xs) (hb : n ≤ c) (hb2 : c ≤ 9223372036854775807) : Calls Tryz.prog 106 #[.slice a n c] w fun e w' => e = .returned (.bool (ptsB 0 xs)) ∧ w' = w := by
  obtain ⟨R, gR⟩ : ∃ R, R = ptsB 0 xs := ⟨_, rfl⟩
  rw [← gR]
  have GR := hid gR
  have HI := hid h
  have hs := h.size
  have HS := hid hs
  clear gR h hs
  go_enter Tryz.func106, Tryz.ntmps106
  go_wp2_with fail
  go_loop [3, 8] (fun l k => ∃ (i : Nat) (m : Int), l = .int .i64 m ∧ k = .int .i64 i ∧ i ≤ n ∧ 0 ≤ m ∧ m ≤ 2000 ∧ Hid (ptsB 0 (xs.take i) = true ∧ ((xs.take i).getLast?.map (· + 1)).getD 0 = m)) (fun _ k => n - (intOf k).toNat)
  case atStart => exact ⟨0, 0, rfl, rfl, Nat.zero_le _, by omega, by omega, hid ⟨by simp [ptsB], by simp⟩⟩
  case round =>
    obtain ⟨i, m, rfl, rfl, hin, hm0, hm1, HA⟩ := hrel
    by_cases hlt : i < n
    · obtain ⟨b, o, e, hbl, hcc⟩ := HI.out.cells (by omega)
      subst e
      have hx := hcc i hlt
      obtain ⟨z, gz⟩ : ∃ z, z = xs.getD i 0 := ⟨_, rfl⟩
      rw [← gz] at hx
      have GZ := hid gz
      clear gz hcc
      have hT : Hid (xs.take (i + 1) = xs.take i ++ [z]) := hid (by rw [GZ.out]; exact take_more xs i (by have := HS.out; omega))
      by_cases hz : m ≤ z ∧ z < 2000
      · have a1 : ¬ z < m := by omega
        have a2 : ¬ (2000 : Int) ≤ z := by omega
        go_wp2_with fail
        go_round
        case rel => exact ⟨i + 1, z + 1, by go_num, by go_num, by omega, by omega, by omega, hid ⟨by
          rw [hT.out, ptsB_snoc, HA.out.1, HA.out.2]; simpa using hz, by rw [hT.out]; simp⟩⟩
        case measure => simp [intOf]; omega
      · have hR : R = false := by
          rw [GR.out, ← List.take_append_drop (i + 1) xs]
          refine ptsB_bad ?_
          rw [hT.out, ptsB_snoc, HA.out.1, HA.out.2]
          simpa using hz
        subst hR
        rcases (by omega : z < m ∨ (¬ z < m ∧ 2000 ≤ z)) with a1 | ⟨a1, a2⟩
        · clear hz
          go_wp2_with fail
          go_ret
          exact ⟨rfl, rfl⟩
        · clear hz
          go_wp2_with fail
          go_ret
          exact ⟨rfl, rfl⟩
    · have hR : R = true := by
        rw [GR.out]
        have := HA.out.1
        rw [List.take_of_length_le (by have := HS.out; omega)] at this
        exact this
      subst hR
      have hltv : ¬ (i : Int) < (n : Int) := by omega
      go_wp2_with fail
      go_ret
      exact ⟨rfl, rfl⟩
end Go.Proofs.YtbgommpdmnbplaaGreatDoor

/- A law for texts: 'append(b, s...)' of a text onto a row of the call's own, whether it fits or grows. -/
namespace Go.Proofs.YtbgommpdmnbplaaGreatDoor
open Go.RowKit Num
set_option maxRecDepth 20000

theorem wpList_append_own_str {P : Program} (w : World) {ops : Array Oper} {rest : List Oper} {o : Oper} {a : Act} {Q : Exit → Act → World → Prop}
    (hg : o.guard = none) (s x : Operand) (t tx : TypeId) (hop : o.op = Op.call { callee := Callee.builtin Builtin.append, args := #[s, x], argTypes := #[t, tx] })
    (base : Nat) (e : TypeId) (i : TypeInfo) (z : Value) (h1 : P.underlying t = some (.slice e)) (hx : P.underlying tx = some .string) (h2 : P.info? e = some i) (h3 : i.zero = some z) (h4 : i.size = 1) (h5 : i.bytes = 1) (h6 : z.cells.size = 1)
    (g k cap : Nat) (xs : List Value) (hs : a.eval s = .slice (some ⟨g, 0, none⟩) k cap) (hown : w.ownsRow base e 1 (.slice (some ⟨g, 0, none⟩) k cap) k xs) (S : ByteArray) (hS : a.eval x = .string S) (hb : k + S.size ≤ 140737488355328) (hbase : base ≤ w.heap.size)
    (hK : ∀ g' c' w', w'.ownsRow base e 1 (.slice (some ⟨g', 0, none⟩) (k + S.size) c') (k + S.size) (xs ++ byteCells S) → w.grownBy w' (some g) → wpList P ops Q rest (a.put o.dst (.slice (some ⟨g', 0, none⟩) (k + S.size) c')) w') :
    wpList P ops Q (o :: rest) a w := by
  by_cases hroom : k + S.size ≤ cap
  · exact wpList_append_fits_str w hg s x t tx hop base e i h1 hx h2 h4 g k cap xs hs hown S hS hroom (fun w' => hK g cap w')
  · refine wpList_plain hg fun K hK' => ?_
    have hl := byteCells_length S
    have hxl := hown.1
    have hlen : (xs ++ byteCells S).length = (k + S.size) * 1 := by rw [List.length_append, hxl, hl]; omega
    have holds : ∀ j u, xs[j]? = some u → w.cell? ((⟨g, 0, none⟩ : Addr).add j) = some u := hown.cells (g := g) rfl
    have hold : (Builtin.firstCells i.size k (.slice (some ⟨g, 0, none⟩) k cap)).run P w.drew = .ok xs.toArray w.drew := by
      rw [h4]
      exact run_firstCells_some w.drew 1 k ⟨g, 0, none⟩ k cap xs hxl (by simpa using holds)
    have hsrc : Go.Src P i.size tx (.string S) S.size (byteCells S) w := by rw [h4]; exact Go.Src.ofString w hx S
    have hr := run_append_grow_src (P := P) w t tx o.type e i z h1 h2 h3 (some ⟨g, 0, none⟩) k cap xs hold (.string S) S.size (byteCells S) hsrc (by omega) (by omega) (growslice_fits (by omega) (by rw [h5]; omega))
    have hm63 : k + S.size ≤ maxLen := by unfold maxLen; omega
    have hge := grownCap_ge w (k + S.size) cap e
    have hcm : grownCap w (k + S.size) cap e ≤ maxLen := grownCap_le_maxLen w (k + S.size) cap e hm63
    have hgr : (w.drew.alloc (.cells ((xs ++ byteCells S).toArray ++ Builtin.zeroCells z.cells (grownCap w (k + S.size) cap e - (k + S.size))) e)).ownsRow base e 1 (.slice (some ⟨w.heap.size, 0, none⟩) (k + S.size) (grownCap w (k + S.size) cap e)) (k + S.size) (xs ++ byteCells S) := by
      refine ⟨hlen, .inr ⟨w.heap.size, _, _, rfl, hbase, heap_alloc_new w.drew _, hge, hcm, ?_, ?_⟩⟩
      · simp only [Array.size_append, List.size_toArray, size_zeroCells, h6, hlen]
        omega
      · simp only [Array.toList_append]
        rw [← hlen]
        exact List.take_left
    have hgb : w.grownBy (w.drew.alloc (.cells ((xs ++ byteCells S).toArray ++ Builtin.zeroCells z.cells (grownCap w (k + S.size) cap e - (k + S.size))) e)) (some g) := ⟨rfl, rfl, rfl, by simp, fun q hq _ => Below.heap_alloc w.drew _ q hq⟩
    unfold Oper.wp
    simp only [execOp, hop, resolve, invoke, builtin]
    simp [hs, hS, hr, Result.andThen]
    exact hK' _ _ (hK _ _ _ hgr hgb)

end Go.Proofs.YtbgommpdmnbplaaGreatDoor

/- What the document's answers (dredgerref01.Put, Signed, Text) do, for every slice of bytes within reach: the same bytes as wire's, in a new row; nothing old turns. -/
namespace Go.Proofs.YtbgommpdmnbplaaGreatDoor
open Go.RowKit Num
set_option maxRecDepth 20000

/-- 'append(own, b...)' of bytes that lie somewhere, nil or not, onto a row of the call's own that is not nil. -/
theorem wpList_append_src {P : Program} (w : World) {ops : Array Oper} {rest : List Oper} {o : Oper} {a : Act} {Q : Exit → Act → World → Prop}
    (hgd : o.guard = none) (s x : Operand) (t : TypeId) (ho : o.op = .call { callee := .builtin .append, args := #[s, x], argTypes := #[t, t] })
    (base : Nat) (i : TypeInfo) (ht : P.underlying t = some (.slice 5)) (hi : P.info? 5 = some i) (hz : i.zero = some (.int .u8 0)) (hsize : i.size = 1) (hby : i.bytes = 1)
    (g n cap : Nat) (xs : List Value) (hs : a.eval s = .slice (some ⟨g, 0, none⟩) n cap) (hown : w.ownsRow base 5 1 (.slice (some ⟨g, 0, none⟩) n cap) n xs)
    (a0 : Option Addr) (m c : Nat) (zs : List Int) (hx : a.eval x = .slice a0 m c) (hsrc : Src w a0 m zs) (hnil : a0 = none → c = 0) (hb : n + m ≤ 140737488355328) (hbase : base ≤ w.heap.size)
    (hK : ∀ g' c' w', w'.ownsRow base 5 1 (.slice (some ⟨g', 0, none⟩) (n + m) c') (n + m) (xs ++ zs.map (Value.int .u8)) → w.grownBy w' (some g) → wpList P ops Q rest (a.put o.dst (.slice (some ⟨g', 0, none⟩) (n + m) c')) w') :
    wpList P ops Q (o :: rest) a w := by
  cases a0 with
  | none =>
    obtain rfl := hnil rfl
    obtain rfl : m = 0 := by
      rcases Nat.eq_zero_or_pos m with h | h
      · exact h
      · obtain ⟨_, _, e, _⟩ := hsrc.2 h; cases e
    obtain rfl : zs = [] := List.eq_nil_of_length_eq_zero hsrc.1
    refine wpList_append_own_none hgd s x t ho base 5 i 1 ht hi _ n xs hs hown hx ?_
    exact hK g cap w (by simpa using hown) (World.grownBy.refl _ _)
  | some ad =>
    refine wpList_append_own _ hgd s x t ho base 5 i (.int .u8 0) 1 1 ht hi hz hsize hby rfl (by decide) _ n xs hs hown ad m c (zs.map (Value.int .u8)) hx (by simp [hsrc.1]) ?_ (ints_oneCell _ _) (by unfold maxLen; omega) (by omega) hbase ?_
    · intro j u hj
      have hjl : j < zs.length := by have := (List.getElem?_eq_some_iff.1 hj).1; simpa using this
      have hsl := hsrc.1
      obtain ⟨b, o', e, _, hc⟩ := hsrc.2 (by omega)
      obtain rfl := Option.some.inj e
      rw [Addr.add_lit, hc j (by omega), ← hj]
      simp [List.getD, List.getElem?_eq_getElem hjl]
    · intro v' w' o' hg' hn'
      obtain ⟨g', c', rfl⟩ : ∃ g' c', v' = .slice (some ⟨g', 0, none⟩) (n + m) c' := by
        rcases o'.2 with ⟨h, _⟩ | ⟨g', c', _, h, _⟩
        · have := hn'.1 h; simp at this
        · exact ⟨g', c', h⟩
      exact hK g' c' w' o' hg'
end Go.Proofs.YtbgommpdmnbplaaGreatDoor

/- The records of a corpus, as the program makes them. -/
namespace Go.Proofs.YtbgommpdmnbplaaGreatDoor
open Go.RowKit Co Num Jr
set_option linter.unusedVariables false
set_option maxRecDepth 20000

/-- Bytes in a row of the call's own. -/
def OwnB (w : World) (Z : List Int) (e : Ending) (w' : World) : Prop := ∃ g' c', e = .returned (.slice (some ⟨g', 0, none⟩) Z.length c') ∧
  w'.ownsRow w.heap.size 5 1 (.slice (some ⟨g', 0, none⟩) Z.length c') Z.length (Z.map (Value.int .u8)) ∧ Below w.heap.size w w'

theorem cnt_small (n : Nat) (h : n < 9223372036854775808) : (enc n).length ≤ 9 := by
  rw [length_enc]
  have := cnt_8 n h
  omega
theorem encs_len : ∀ l : List Int, (∀ x ∈ l, x ≤ 9223372036854775807) → ((l.map fun x => enc x.toNat).flatten).length ≤ 9 * l.length
  | [], _ => by simp
  | x :: l, h => by
    have ih := encs_len l (fun y hy => h y (by simp [hy]))
    have hx := cnt_small x.toNat (by have := h x (by simp); omega)
    simp only [List.map_cons, List.flatten_cons, List.length_append, List.length_cons]
    omega

set_option maxHeartbeats 2000000 in
theorem withnums_any (a0 : Option Addr) (len cap : Nat) (zs : List Int) (a : Option Addr) (n c : Nat) (xs : List Int) (w : World) (hs : Src w a0 len zs) (hl : len ≤ 100000) (h : Ilst w a n c xs) (hn : n ≤ 2000) (hb : n ≤ c) (hb2 : c ≤ 9223372036854775807) (hx : ∀ x ∈ xs, x ≤ 9223372036854775807) :
    Calls Tryz.prog 110 #[.slice a0 len cap, .slice a n c] w (OwnB w (zs ++ numsB xs)) := by
  obtain ⟨i0, hi, hz0, hz1, hz2⟩ := info_parts Tryz.info5
  have hsz := h.size
  have k1 := hid (put_any a0 len cap (n : Int) zs w hs (by omega) (by omega))
  have hel := cnt_small n (by omega)
  have hzl := hs.1
  have HX := hid hx
  have HI := hid h
  have HS := hid hsz
  have HZ := hid hzl
  have HSR := hid hs
  clear hs h hsz hx hzl
  go_enter Tryz.func110, Tryz.ntmps110
  go_wp2_with (first | (go_at_call 111; refine k1.out.mono ?_; rintro e w1 ⟨rfl, ho1, hb1⟩; have HO1 := hid ho1; have HB1 := hid hb1; clear ho1 hb1 k1))
  go_loopw [0, 13] (fun r k wr => ∃ (i L g cc : Nat), r = .slice (some ⟨g, 0, none⟩) L cc ∧ k = .int .i64 i ∧ i ≤ n ∧ L ≤ 100009 + 9 * i ∧ Hid (L = (zs ++ enc n ++ ((xs.take i).map fun x => enc x.toNat).flatten).length ∧ wr.ownsRow w.heap.size 5 1 (.slice (some ⟨g, 0, none⟩) L cc) L ((zs ++ enc n ++ ((xs.take i).map fun x => enc x.toNat).flatten).map (Value.int .u8)) ∧ Below w.heap.size w wr)) (fun _ k _ => n - (intOf k).toNat)
  case atStart =>
    have e1 : (n : Int).toNat = n := by simp
    have h1 := HO1.out
    rw [e1] at h1
    exact ⟨0, _, _, _, rfl, rfl, Nat.zero_le _, by omega, hid ⟨by simp [HZ.out], by simpa using h1, HB1.out⟩⟩
  case round =>
    obtain ⟨i, L, g, cc, rfl, rfl, hin, hL, HA⟩ := hrel
    by_cases hlt : i < n
    · obtain ⟨b, o, e, hbl, hcc⟩ := HI.out.cells (by omega)
      subst e
      have hxc := (HI.out.below HA.out.2.2).cells (by omega)
      obtain ⟨b', o', e', _, hcc'⟩ := hxc
      injection e' with e'
      injection e' with e1 e2
      subst e1
      subst e2
      have hx := hcc' i hlt
      obtain ⟨z, gz⟩ : ∃ z, z = xs.getD i 0 := ⟨_, rfl⟩
      rw [← gz] at hx
      have hzm : z ∈ xs := by
        rw [gz, List.getD_eq_getElem?_getD, List.getElem?_eq_getElem (by have := HS.out; omega)]
        exact List.getElem_mem _
      have hzle := HX.out z hzm
      have GZ := hid gz
      clear gz hcc hcc' hzm
      have kp := hid (put_any none 0 0 z [] wr (Src.nil _ _) (by omega) hzle)
      have hzn := cnt_small z.toNat (by omega)
      obtain ⟨E, gE⟩ : ∃ E, E = enc z.toNat := ⟨_, rfl⟩
      obtain ⟨m, gm⟩ : ∃ m, m = E.length := ⟨_, rfl⟩
      rw [← gE] at kp hzn
      rw [List.nil_append, ← gm] at kp
      rw [← gm] at hzn
      have GE := hid gE
      have GM := hid gm
      clear gE gm
      go_wp2_with (first | (go_at_call 111; refine kp.out.mono ?_; rintro e w2 ⟨rfl, ho2, hb2⟩; have HO2 := hid ho2; have HB2 := hid hb2; clear ho2 hb2 kp; rw [Nat.zero_add] at HO2 ⊢) | (at_builtin; go_must (refine wpList_append_src _ rfl _ _ 81 rfl w.heap.size i0 Tryz.underlying81 hi hz0 hz1 hz2 g L cc _ rfl (own_below HA.out.2.1 HB2.out) (some ⟨wr.heap.size, 0, none⟩) m _ E rfl (Src.own HO2.out) (fun e => by cases e) (by omega) (Nat.le_trans HA.out.2.2.size HB2.out.size) ?_; intro g3 c3 w3 ho3 hg3; have HO3 := hid ho3; have HG3 := hid hg3; clear ho3 hg3)))
      have hgB : w.heap.size ≤ g := ((HA.out.2.1).lt g rfl).1
      have hb3 : Below w.heap.size w w3 := (HA.out.2.2.trans (HB2.out.mono HA.out.2.2.size)).grown HG3.out (Nat.le_trans HA.out.2.2.size HB2.out.size) (fun j hj => by injection hj with hj; omega)
      have hT : xs.take (i + 1) = xs.take i ++ [z] := by rw [GZ.out]; exact take_more xs i (by have := HS.out; omega)
      have hlist : zs ++ enc n ++ ((xs.take (i + 1)).map fun x => enc x.toNat).flatten = zs ++ enc n ++ ((xs.take i).map fun x => enc x.toNat).flatten ++ E := by rw [hT, GE.out]; simp
      go_roundw
      case rel => exact ⟨i + 1, L + m, g3, c3, rfl, by go_num, by omega, by omega, hid ⟨by rw [hlist, List.length_append, ← GM.out, ← HA.out.1], by rw [hlist, List.map_append]; exact HO3.out, hb3⟩⟩
      case measure => simp [intOf]; omega
    · have hltv : ¬ (i : Int) < (n : Int) := by omega
      have hlist : zs ++ enc n ++ ((xs.take i).map fun x => enc x.toNat).flatten = zs ++ numsB xs := by
        rw [List.take_of_length_le (by have := HS.out; omega), numsB, HS.out, List.append_assoc]
      go_wp2_with fail
      go_ret
      have h1 := HA.out.1
      have h2 := HA.out.2.1
      rw [hlist] at h1 h2
      rw [h1] at h2 ⊢
      exact ⟨g, cc, rfl, h2, HA.out.2.2⟩

set_option maxHeartbeats 2000000 in
theorem delrec_any (s : ByteArray) (w : World) (h : s.size ≤ 24) : Calls Tryz.prog 60 #[.string s] w (OwnB w (delR s)) := by
  obtain ⟨W, gW⟩ : ∃ W, W = w.alloc (.cells #[.int .u8 2] 5) := ⟨_, rfl⟩
  have hsW : Src W (some ⟨w.heap.size, 0, none⟩) 1 [2] := ⟨rfl, fun _ => ⟨w.heap.size, 0, rfl, by rw [gW]; simp, fun j hj => by
    have : j = 0 := by omega
    subst this
    rw [gW]
    exact heap_cells (heap_alloc_new w (.cells #[.int .u8 2] 5)) 0 _ rfl⟩⟩
  have hbW : Below w.heap.size w W := by rw [gW]; exact (Below.refl _ _).alloc (Nat.le_refl _) _
  have k := hid (fun cp => text_any (some ⟨w.heap.size, 0, none⟩) 1 cp s [2] W hsW (by omega))
  have HB := hid hbW
  have GW := hid gW
  clear hsW hbW gW
  have hlist : [(2 : Int)] ++ enc s.size ++ str s = delR s := by simp [delR, txtB, str_len]
  have hlen : 1 + (enc s.size).length + s.size = (delR s).length := by rw [← hlist]; simp [str_len]; omega
  rw [hlist, hlen] at k
  clear hlist hlen
  go_enter Tryz.func60, Tryz.ntmps60
  go_wp2_with (first | (go_at_call 109; rw [← GW.out]; refine (k.out _).mono ?_; rintro e w1 ⟨c, rfl, ho, hb⟩; have HO := hid ho; have HB1 := hid hb; clear ho hb))
  go_ret
  exact ⟨_, c, rfl, own_base HO.out HB.out.size, HB.out.trans (HB1.out.mono HB.out.size)⟩
end Go.Proofs.YtbgommpdmnbplaaGreatDoor

/- The record of Put; which entries may be. -/
namespace Go.Proofs.YtbgommpdmnbplaaGreatDoor
open Go.RowKit Co Num Jr
set_option linter.unusedVariables false
set_option maxRecDepth 20000

theorem undrew' {B : Nat} {w w' : World} (h : Below B w.drew w') : Below B w w' := ⟨h.os, h.tape, h.output, h.size, h.block⟩
theorem srcOne (w : World) (x : Int) : Src (w.alloc (.cells #[.int .u8 x] 5)) (some ⟨w.heap.size, 0, none⟩) 1 [x] := ⟨rfl, fun _ => ⟨w.heap.size, 0, rfl, by simp, fun j hj => by
    have : j = 0 := by omega
    subst this
    exact heap_cells (heap_alloc_new w (.cells #[.int .u8 x] 5)) 0 _ rfl⟩⟩

theorem text_own (a0 : Option Addr) (len cap : Nat) (S : ByteArray) (zs : List Int) (w : World) (hs : Src w a0 len zs) (hr : len + 9 + S.size ≤ 281474976710656) :
    Calls Tryz.prog 109 #[.slice a0 len cap, .string S] w (OwnB w (zs ++ txtB (str S))) := by
  have e1 : zs ++ enc S.size ++ str S = zs ++ txtB (str S) := by simp [txtB, str_len]
  have e2 : len + (enc S.size).length + S.size = (zs ++ txtB (str S)).length := by rw [← e1]; simp [str_len, hs.1]; omega
  have k := text_any a0 len cap S zs w hs hr
  rw [e1, e2] at k
  exact k.mono fun e w' ⟨c, h1, h2, h3⟩ => ⟨_, c, h1, h2, h3⟩

theorem put_own (a0 : Option Addr) (len cap : Nat) (n : Int) (zs : List Int) (w : World) (hs : Src w a0 len zs) (hr : len + 9 ≤ 281474976710656) (hn : n ≤ 9223372036854775807) :
    Calls Tryz.prog 111 #[.slice a0 len cap, .int .i64 n] w (OwnB w (zs ++ enc n.toNat)) := by
  have e2 : len + (enc n.toNat).length = (zs ++ enc n.toNat).length := by simp [hs.1]
  have k := put_any a0 len cap n zs w hs hr hn
  rw [e2] at k
  exact k.mono fun e w' ⟨h1, h2, h3⟩ => ⟨_, _, h1, h2, h3⟩
theorem numsB_len (l : List Int) (h : ∀ x ∈ l, x ≤ 9223372036854775807) (hn : l.length ≤ 2000) : (numsB l).length ≤ 9 + 9 * l.length := by
  have h1 := encs_len l h
  have h2 := cnt_small l.length (by omega)
  simp only [numsB, List.length_append]
  omega

/-- What putRecord leaves. -/
def PutRP (w : World) (e : Ety) (r : Ending) (w' : World) : Prop :=
  (2000 < e.q.length ∧ r = .returned (.tuple #[.slice none 0 0, .bool false]) ∧ Below w.heap.size w w') ∨
  (e.q.length ≤ 2000 ∧ ∃ g' c', r = .returned (.tuple #[.slice (some ⟨g', 0, none⟩) (putR e).length c', .bool (decide ((putR e).length ≤ 2000))]) ∧
    w'.ownsRow w.heap.size 5 1 (.slice (some ⟨g', 0, none⟩) (putR e).length c') (putR e).length ((putR e).map (Value.int .u8)) ∧ Below w.heap.size w w')

set_option maxHeartbeats 4000000 in
theorem putrec_any (N : List Nat) (v : Value) (e : Ety) (w : World) (h : Ev w N v e) (hm : mayB e = true) : Calls Tryz.prog 47 #[v] w (PutRP w e) := by
  obtain ⟨pa, pc, qa, qc, rfl, hp, hq⟩ := h
  unfold entV
  obtain ⟨m1, m2, m3, m4, m5, _⟩ := mayB_parts hm
  have hks := isKey_size m1
  have hpl : e.p.length ≤ 2000 := by have := ptsB_len _ _ m3 (by omega); omega
  have hpx : ∀ x ∈ e.p, x ≤ 9223372036854775807 := fun x hx => by have := ptsB_all _ _ m3 x hx; omega
  have hqx : ∀ x ∈ e.q, x ≤ 9223372036854775807 := fun x hx => by
    have := List.all_eq_true.1 m5 x hx
    simp only [decide_eq_true_eq] at this
    omega
  obtain ⟨W, gW⟩ : ∃ W, W = w.alloc (.cells #[.string e.k, .string e.g, .slice pa e.p.length pc, .int .i64 e.f, .slice qa e.q.length qc] 37) := ⟨_, rfl⟩
  have hbW : Below w.heap.size w W := by rw [gW]; exact (Below.refl _ _).alloc (Nat.le_refl _) _
  have hW : W.heap[w.heap.size]? = some (.cells #[.string e.k, .string e.g, .slice pa e.p.length pc, .int .i64 e.f, .slice qa e.q.length qc] 37 (0, 0)) := by rw [gW]; exact heap_alloc_new _ _
  obtain ⟨pn, gpn⟩ : ∃ pn, pn = e.p.length := ⟨_, rfl⟩
  obtain ⟨qn, gqn⟩ : ∃ qn, qn = e.q.length := ⟨_, rfl⟩
  obtain ⟨ks, gks⟩ : ∃ ks, ks = e.k := ⟨_, rfl⟩
  obtain ⟨gs, ggs⟩ : ∃ gs, gs = e.g := ⟨_, rfl⟩
  obtain ⟨fx, gfx⟩ : ∃ fx, fx = e.f := ⟨_, rfl⟩
  rw [← gpn, ← gqn, ← gks, ← ggs, ← gfx] at gW hW
  rw [← gpn, ← gqn, ← gks, ← ggs, ← gfx]
  have HP := hid hp
  have HQ := hid hq
  have GP := hid gpn
  have GQ := hid gqn
  have GK := hid gks
  have GG := hid ggs
  have GF := hid gfx
  have HPX := hid hpx
  have HQX := hid hqx
  have HW := hid hW
  have HBW := hid hbW
  have GW := hid gW
  have HKS := hid hks
  have HM2 := hid m2
  have HM4 := hid m4
  have HPL := hid hpl
  clear hp hq gpn gqn gks ggs gfx hpx hqx hW hbW m1 m2 m3 m4 m5 hm hks hpl gW
  by_cases hq2 : 2000 < qn
  · have hq2v : (2000 : Int) < (qn : Int) := by omega
    go_enter Tryz.func47, Tryz.ntmps47
    go_wp2_with fail
    go_ret2
    exact .inl ⟨by rw [← GQ.out]; exact hq2, rfl, by rw [← GW.out]; exact HBW.out⟩
  · have hq2v : ¬ (2000 : Int) < (qn : Int) := by omega
    go_enter Tryz.func47, Tryz.ntmps47
    go_upto_region 3 with fail
    rw [← GW.out]
    have c0 : W.cell? ⟨w.heap.size, 0, none⟩ = some (.string ks) := heap_cells HW.out 0 _ rfl
    have c1 : W.cell? ⟨w.heap.size, 1, none⟩ = some (.string gs) := heap_cells HW.out 1 _ rfl
    have hwl : w.heap.size < W.heap.size := (Array.getElem?_eq_some_iff.1 HW.out).1
    have hkz : ks.size ≤ 24 := by rw [GK.out]; exact HKS.out.2
    have hgz : gs.size ≤ 1500 := by rw [GG.out]; exact HM2.out
    have hk9 := cnt_small ks.size (by omega)
    have hg9 := cnt_small gs.size (by omega)
    have k1 := hid (fun cp => text_own (some ⟨W.heap.size, 0, none⟩) 1 cp ks [1] (W.alloc (.cells #[.int .u8 1] 5)).drew ((srcOne W 1).heap rfl) (by omega))
    obtain ⟨Z1, gZ1⟩ : ∃ Z1, Z1 = [(1 : Int)] ++ txtB (str ks) := ⟨_, rfl⟩
    have hl1 : Z1.length ≤ 100 := by rw [gZ1]; simp [txtB, str_len]; omega
    rw [← gZ1] at k1
    obtain ⟨Z2, gZ2⟩ : ∃ Z2, Z2 = Z1 ++ txtB (str gs) := ⟨_, rfl⟩
    have hl2 : Z2.length ≤ 2000 := by rw [gZ2]; simp [txtB, str_len]; omega
    have k2 := hid (fun (wx : World) (g cap : Nat) (hs : Src wx (some ⟨g, 0, none⟩) Z1.length Z1) => text_own (some ⟨g, 0, none⟩) Z1.length cap gs Z1 wx hs (by omega))
    rw [← gZ2] at k2
    have GZ1 := hid gZ1
    have GZ2 := hid gZ2
    have HA : Hid (Below W.heap.size W (W.alloc (.cells #[.int .u8 1] 5)).drew) := hid ((Below.refl _ _).alloc (Nat.le_refl _) _).drew
    have mark : Hid (Below W.heap.size W W) := hid (Below.refl _ _)
    clear gZ1 gZ2 hkz hgz hk9 hg9
    go_region_held3 (fun wx => wx.cell? ⟨w.heap.size, 0, none⟩ = some (.string ks) ∧ wx.cell? ⟨w.heap.size, 1, none⟩ = some (.string gs)) (go_keep) (first
      | (go_at_call 109; clear mark; refine (k1.out _).mono ?_; rintro r w1 ⟨g1, q1, rfl, ho1, hb1⟩; have HO1 := hid ho1; have HB1 : Hid (Below W.heap.size W w1) := hid (HA.out.trans (hb1.mono HA.out.size)); have z0 := (HB1.out.cell (p := ⟨w.heap.size, 0, none⟩) hwl).trans c0; have z1 := (HB1.out.cell (p := ⟨w.heap.size, 1, none⟩) hwl).trans c1; clear ho1 hb1)
      | (go_at_call 109; refine (k2.out _ _ _ (by exact (Src.own HO1.out).heap rfl)).mono ?_; rintro r w2 ⟨g2, q2, rfl, ho2, hb2⟩; have HO2 := hid ho2; have HB2 : Hid (Below W.heap.size W w2) := (by first | (with_reducible exact hid (HB1.out.trans (hb2.mono HB1.out.size))) | exact hid (HB1.out.trans ((undrew' hb2).mono HB1.out.size))); have y0 := (HB2.out.cell (p := ⟨w.heap.size, 0, none⟩) hwl).trans c0; have y1 := (HB2.out.cell (p := ⟨w.heap.size, 1, none⟩) hwl).trans c1; clear ho2 hb2))
    have x2 : w2.cell? ⟨w.heap.size, 2, none⟩ = some (.slice pa pn pc) := (HB2.out.cell (p := ⟨w.heap.size, 2, none⟩) hwl).trans (heap_cells HW.out 2 _ rfl)
    have hbw2 : Below w.heap.size w w2 := HBW.out.trans (HB2.out.mono HBW.out.size)
    have hp2 := HP.out.il.below hbw2
    have hq2' := HQ.out.il.below hbw2
    have hpl := HPL.out
    rw [← GP.out] at hp2 hpl
    rw [← GQ.out] at hq2'
    have hpc1 := HP.out.le
    have hpc2 := HP.out.cm
    have hqc1 := HQ.out.le
    have hqc2 := HQ.out.cm
    rw [← GP.out] at hpc1
    rw [← GQ.out] at hqc1
    have hnl := numsB_len e.p HPX.out (by rw [← GP.out]; exact hpl)
    rw [← GP.out] at hnl
    have k3 := hid (withnums_any (some ⟨g2, 0, none⟩) Z2.length q2 Z2 pa pn pc e.p w2 (Src.own HO2.out) (by omega) hp2 hpl hpc1 hpc2 HPX.out)
    obtain ⟨Z3, gZ3⟩ : ∃ Z3, Z3 = Z2 ++ numsB e.p := ⟨_, rfl⟩
    have hl3 : Z3.length ≤ 30000 := by rw [gZ3, List.length_append]; omega
    rw [← gZ3] at k3
    have GZ3 := hid gZ3
    have HBW2 := hid hbw2
    have HQ2 := hid hq2'
    clear gZ3 hnl hp2 hbw2 hq2'
    go_upto_region 5 with (first | (go_at_call 110; refine k3.out.mono ?_; rintro r w3 ⟨g3, q3, rfl, ho3, hb3⟩; have HO3 := hid ho3; have HB3 : Hid (Below W.heap.size W w3) := hid (HB2.out.trans (hb3.mono HB2.out.size)); have HL3 := hid hb3; clear ho3 hb3 k3))
    have x3 : w3.cell? ⟨w.heap.size, 3, none⟩ = some (.int .i64 fx) := (HB3.out.cell (p := ⟨w.heap.size, 3, none⟩) hwl).trans (heap_cells HW.out 3 _ rfl)
    have hf9 := cnt_small fx.toNat (by have := HM4.out; rw [← GF.out] at this; omega)
    have k4 := hid (put_own (some ⟨g3, 0, none⟩) Z3.length q3 fx Z3 w3 (Src.own HO3.out) (by omega) (by have := HM4.out; rw [← GF.out] at this; omega))
    obtain ⟨Z4, gZ4⟩ : ∃ Z4, Z4 = Z3 ++ enc fx.toNat := ⟨_, rfl⟩
    have hl4 : Z4.length ≤ 40000 := by rw [gZ4, List.length_append]; omega
    rw [← gZ4] at k4
    have GZ4 := hid gZ4
    clear gZ4 hf9
    go_upto_region 6 with (first | (go_at_call 111; refine k4.out.mono ?_; rintro r w4 ⟨g4, q4, rfl, ho4, hb4⟩; have HO4 := hid ho4; have HB4 : Hid (Below W.heap.size W w4) := hid (HB3.out.trans (hb4.mono HB3.out.size)); have HL4 := hid (HL3.out.trans (hb4.mono HL3.out.size)); clear ho4 hb4 k4))
    have x4 : w4.cell? ⟨w.heap.size, 4, none⟩ = some (.slice qa qn qc) := (HB4.out.cell (p := ⟨w.heap.size, 4, none⟩) hwl).trans (heap_cells HW.out 4 _ rfl)
    have k5 := hid (withnums_any (some ⟨g4, 0, none⟩) Z4.length q4 Z4 qa qn qc e.q w4 (Src.own HO4.out) (by omega) (HQ2.out.below HL4.out) (by omega) hqc1 hqc2 HQX.out)
    obtain ⟨Z5, gZ5⟩ : ∃ Z5, Z5 = Z4 ++ numsB e.q := ⟨_, rfl⟩
    have hZ5 : Hid (Z5 = putR e) := hid (by rw [gZ5, GZ4.out, GZ3.out, GZ2.out, GZ1.out, GK.out, GG.out, GF.out]; simp [putR])
    rw [← gZ5] at k5
    clear gZ5
    have hd : ∀ b : Bool, b = decide (Z5.length ≤ 2000) → Hid (b = decide ((putR e).length ≤ 2000)) := fun b h => hid (by rw [h, hZ5.out])
    by_cases h20 : Z5.length ≤ 2000
    · have h20v : (Z5.length : Int) ≤ 2000 := by omega
      have HD := hd true (by simp [h20])
      clear hd
      go_wp2_with (first | (go_at_call 110; refine k5.out.mono ?_; rintro r w5 ⟨g5, q5, rfl, ho5, hb5⟩; have HO5 := hid ho5; have HB5 : Hid (Below W.heap.size W w5) := hid (HB4.out.trans (hb5.mono HB4.out.size)); have HS5 : Hid (w.heap.size ≤ w4.heap.size) := hid (Nat.le_trans (Nat.le_of_lt hwl) HB4.out.size); clear ho5 hb5 k5))
      go_ret2
      refine .inr ⟨by rw [← GQ.out]; omega, g5, q5, ?_, ?_, HBW.out.trans (HB5.out.mono HBW.out.size)⟩
      · rw [← HD.out, ← hZ5.out]; rfl
      · rw [← hZ5.out]; exact own_base HO5.out HS5.out
    · have h20v : ¬ (Z5.length : Int) ≤ 2000 := by omega
      have h20d : decide ((Z5.length : Int) ≤ 2000) = false := decide_eq_false h20v
      have HD := hd false (by simp [h20])
      clear hd
      go_wp2_with (first | (go_at_call 110; refine k5.out.mono ?_; rintro r w5 ⟨g5, q5, rfl, ho5, hb5⟩; have HO5 := hid ho5; have HB5 : Hid (Below W.heap.size W w5) := hid (HB4.out.trans (hb5.mono HB4.out.size)); have HS5 : Hid (w.heap.size ≤ w4.heap.size) := hid (Nat.le_trans (Nat.le_of_lt hwl) HB4.out.size); clear ho5 hb5 k5))
      go_ret2
      refine .inr ⟨by rw [← GQ.out]; omega, g5, q5, ?_, ?_, HBW.out.trans (HB5.out.mono HBW.out.size)⟩
      · rw [← HD.out, ← hZ5.out]; rfl
      · rw [← hZ5.out]; exact own_base HO5.out HS5.out
end Go.Proofs.YtbgommpdmnbplaaGreatDoor
