/- Clones of lists, and those turned round. -/
import Derived.Test.YtgbikncpmgikaaaOClone
import Derived.Test.YtgbikncpmgikaaaOShelf
namespace Go.Proofs.Ytgbikncpmgikaaa
open Go.RowKit Go.Lib Go.Sort Go.Shelf
set_option linter.unusedVariables false
set_option maxRecDepth 20000

/-- A record's cells. -/
def encK (k : Nat) (r : Rec) : List Value := (List.range k).map fun i => .int .i64 (r i)
theorem encK_len (k : Nat) (r : Rec) : (encK k r).length = k := by simp [encK]
theorem encK_one (k : Nat) (r : Rec) : ∀ v ∈ encK k r, v.oneCell' = true := fun v hv => by
  obtain ⟨i, _, rfl⟩ := List.mem_map.1 hv
  rfl
theorem encK_get (k : Nat) (r : Rec) {i : Nat} (h : i < k) : (encK k r)[i]! = .int .i64 (r i) := by
  rw [getElem!_pos _ i (by rw [encK_len]; exact h)]
  simp [encK]
/-- All cells of records. -/
def csK (k : Nat) (l : List Rec) : List Value := (List.range (l.length * k)).map fun t => .int .i64 (l.getD (t / k) rec0 (t % k))
theorem csK_len (k : Nat) (l : List Rec) : (csK k l).length = l.length * k := by simp [csK]
theorem csK_one (k : Nat) (l : List Rec) : ∀ v ∈ csK k l, v.oneCell' = true := fun v hv => by
  obtain ⟨i, _, rfl⟩ := List.mem_map.1 hv
  rfl
theorem csK_get {k : Nat} {l : List Rec} {j : Nat} {u : Value} (h : (csK k l)[j]? = some u) : j < l.length * k ∧ u = .int .i64 (l.getD (j / k) rec0 (j % k)) := by
  have hj : j < l.length * k := by have := (List.getElem?_eq_some_iff.1 h).1; rwa [csK_len] at this
  refine ⟨hj, ?_⟩
  simp [csK, hj] at h
  simpa using h.symm
theorem arr_get (l : List Rec) {i : Nat} (h : i < l.length) : l.toArray[i]! = l.getD i rec0 := by
  rw [getElem!_pos _ i (by simpa using h)]
  simp [List.getD, h]

/-- Records in a block of the call's own. -/
structure Kr (w : World) (B k : Nat) (a : Option Addr) (l : List Rec) : Prop where
  wf : ∀ x ∈ l, ∀ i, W64 (x i)
  ex : 0 < l.length → ∃ g, a = some ⟨g, 0, none⟩ ∧ B ≤ g ∧ g < w.heap.size ∧ HoldsK (encK k) k w g 0 l.toArray
theorem Kr.recs {w : World} {B k : Nat} {a : Option Addr} {l : List Rec} (h : Kr w B k a l) : Recs w k a l :=
  ⟨h.wf, fun hn => by
    obtain ⟨g, e, _, hg, hH⟩ := h.ex hn
    refine ⟨g, 0, e, hg, fun j hj i hi => ?_⟩
    rw [(HoldsK.cell hH (by simpa using hj) hi).1, encK_get k _ hi, arr_get l hj]⟩
theorem Kr.upd {G : Nat → Prop} {w w' : World} {B k : Nat} {a : Option Addr} {l : List Rec} (h : Kr w B k a l) (u : Upd G w w') (hG : ∀ g o, a = some ⟨g, o, none⟩ → B ≤ g → 0 < l.length → ¬ G g) : Kr w' B k a l :=
  ⟨h.wf, fun hn => by
    obtain ⟨g, e, hB, hg, hH⟩ := h.ex hn
    have hb := u.block g hg (hG g 0 e hB hn)
    exact ⟨g, e, hB, Nat.lt_of_lt_of_le hg u.size, fun j hj => ⟨(World.cell?_of_block (a := ⟨g, 0 + j, none⟩) hb).trans (hH j hj).1, (World.frozen?_of_block (a := ⟨g, 0 + j, none⟩) hb).trans (hH j hj).2⟩⟩⟩
theorem Recs.src {w : World} {k : Nat} {l : List Rec} {b : Addr} (hk : 0 < k) (h : Recs w k (some b) l) : ∀ j u, (csK k l)[j]? = some u → ∃ b' o, b = ⟨b', o, none⟩ ∧ b' < w.heap.size ∧ w.cell? ⟨b', o + j, none⟩ = some u := fun j u hj => by
  obtain ⟨h1, rfl⟩ := csK_get hj
  have hl : 0 < l.length := Nat.pos_of_ne_zero fun e => by rw [e] at h1; omega
  obtain ⟨b', o, e, hb, hc⟩ := h.ex hl
  refine ⟨b', o, Option.some.inj e, hb, ?_⟩
  have h2 := hc (j / k) ((Nat.div_lt_iff_lt_mul hk).2 h1) (j % k) (Nat.mod_lt _ hk)
  have e3 : o + j / k * k + j % k = o + j := by rw [Nat.add_assoc, Nat.div_add_mod']
  rwa [e3] at h2
theorem own_kr {w : World} {B e k g c : Nat} {l : List Rec} (hk : 0 < k) (h : w.ownsRow B e k (.slice (some ⟨g, 0, none⟩) l.length c) l.length (csK k l)) (hw : ∀ x ∈ l, ∀ i, W64 (x i)) : Kr w B k (some ⟨g, 0, none⟩) l :=
  ⟨hw, fun hn => by
    refine ⟨g, rfl, (h.lt g rfl).1, (h.lt g rfl).2, fun j hj => ?_⟩
    have hj' : j < l.length * k := by simpa using hj
    rw [Nat.zero_add]
    refine ⟨?_, h.frozenAt j⟩
    have hj2 : j < (csK k l).length := by rw [csK_len]; exact hj'
    obtain ⟨_, e2⟩ := csK_get (List.getElem?_eq_getElem hj2)
    rw [h.cellAt j hj', List.getElem?_eq_getElem hj2, e2, get_flatK _ _ _ j (by simpa using hj')]
    have hd : j / k < l.length := (Nat.div_lt_iff_lt_mul hk).2 hj'
    rw [arr_get l hd, encK_get k _ (Nat.mod_lt _ hk)]
    rfl⟩

theorem oclone_recs (w : World) (a : Option Addr) (l : List Rec) (c : Nat) (h : Recs w 6 a l) (hr : l.length ≤ 2932031007402) :
    Calls Try.prog 5 #[.slice a l.length c] w fun e w' => ∃ a' c', e = .returned (.slice a' l.length c') ∧ Kr w' w.heap.size 6 a' l ∧ Below w.heap.size w w' := by
  cases a with
  | none =>
    have hl : l = [] := by
      cases l with
      | nil => rfl
      | cons x r => obtain ⟨b, o, e, _⟩ := h.ex (by simp); cases e
    subst hl
    refine (oclone_nil 0 c w).mono ?_
    rintro e w' ⟨rfl, rfl⟩
    exact ⟨none, 0, rfl, ⟨h.wf, fun hn => absurd hn (by simp)⟩, Below.refl _ _⟩
  | some b =>
    refine (oclone_any b l.length c (csK 6 l) w (csK_len 6 l) (csK_one 6 l) (h.src (by omega)) hr).mono ?_
    rintro e w' ⟨g, c', rfl, ho, hb⟩
    exact ⟨_, c', rfl, own_kr (by omega) ho h.wf, hb⟩
theorem qclone_recs (w : World) (a : Option Addr) (l : List Rec) (c : Nat) (h : Recs w 10 a l) (hr : l.length ≤ 1759218604441) :
    Calls Try.prog 6 #[.slice a l.length c] w fun e w' => ∃ a' c', e = .returned (.slice a' l.length c') ∧ Kr w' w.heap.size 10 a' l ∧ Below w.heap.size w w' := by
  cases a with
  | none =>
    have hl : l = [] := by
      cases l with
      | nil => rfl
      | cons x r => obtain ⟨b, o, e, _⟩ := h.ex (by simp); cases e
    subst hl
    refine (qclone_nil 0 c w).mono ?_
    rintro e w' ⟨rfl, rfl⟩
    exact ⟨none, 0, rfl, ⟨h.wf, fun hn => absurd hn (by simp)⟩, Below.refl _ _⟩
  | some b =>
    refine (qclone_any b l.length c (csK 10 l) w (csK_len 10 l) (csK_one 10 l) (h.src (by omega)) hr).mono ?_
    rintro e w' ⟨g, c', rfl, ho, hb⟩
    exact ⟨_, c', rfl, own_kr (by omega) ho h.wf, hb⟩

theorem upd_putRow {α : Type} [Inhabited α] (enc : α → Value) (w : World) (n g off : Nat) (d : Array α) : Upd (· = g) w (putRow enc (Sort.ahead w n) g off d) :=
  ⟨rfl, rfl, rfl, by simp [putRow, mapBlock, Sort.ahead], fun k hk hne => by
    have hne' : k ≠ g := hne
    simp [putRow, mapBlock, Sort.ahead, Array.getElem?_modify, Ne.symm hne']⟩

theorem orev_recs (w : World) (B : Nat) (a : Option Addr) (l : List Rec) (c : Nat) (h : Kr w B 6 a l) (hr : l.length ≤ 35184372088832) :
    Calls Try.prog 8 #[.slice a l.length c] w fun e w' => e = .returned (.tuple #[]) ∧ Kr w' B 6 a l.reverse ∧ Upd (fun x => 0 < l.length ∧ B ≤ x ∧ ∃ o, a = some ⟨x, o, none⟩) w w' := by
  by_cases hn : 0 < l.length
  · obtain ⟨g, rfl, hB, hg, hH⟩ := h.ex hn
    have K := AnyQ.slices_Reverse Try.laysQ8 6 (fun w => Try.isAgg30 w) (fun w => Try.sizeOf30 w) (encK 6) (encK_len 6) (encK_one 6) g 0 c l.toArray w hH (by simp; omega)
    rw [List.size_toArray] at K
    refine K.mono ?_
    rintro e w' ⟨rfl, n, rfl⟩
    have hU : Upd (· = g) w (putRowK (encK 6) 6 (Sort.ahead w n) g 0 l.toArray.reverse) := upd_putRow id w n g 0 _
    refine ⟨rfl, ⟨fun x hx => h.wf x (by simpa using hx), fun _ => ⟨g, rfl, hB, Nat.lt_of_lt_of_le hg hU.size, ?_⟩⟩, hU.mono (fun x _ hx => ⟨hn, by rw [show x = g from hx]; exact hB, 0, by rw [show x = g from hx]⟩)⟩
    have := holdsK_putRowK (encK 6) 6 (Sort.ahead w n) g 0 l.toArray l.toArray.reverse hH (by simp)
    rwa [List.reverse_toArray] at this ⊢
  · have hl : l = [] := List.eq_nil_of_length_eq_zero (by omega)
    subst hl
    refine (AnyQ.slices_Reverse_empty (P := Try.prog) Try.laysQ8 a c w).mono ?_
    rintro e w' ⟨rfl, rfl⟩
    exact ⟨rfl, h, Upd.refl _ _⟩

theorem qrev_recs (w : World) (B : Nat) (a : Option Addr) (l : List Rec) (c : Nat) (h : Kr w B 10 a l) (hr : l.length ≤ 35184372088832) :
    Calls Try.prog 9 #[.slice a l.length c] w fun e w' => e = .returned (.tuple #[]) ∧ Kr w' B 10 a l.reverse ∧ Upd (fun x => 0 < l.length ∧ B ≤ x ∧ ∃ o, a = some ⟨x, o, none⟩) w w' := by
  by_cases hn : 0 < l.length
  · obtain ⟨g, rfl, hB, hg, hH⟩ := h.ex hn
    have K := AnyQ.slices_Reverse Try.laysQ9 10 (fun w => Try.isAgg34 w) (fun w => Try.sizeOf34 w) (encK 10) (encK_len 10) (encK_one 10) g 0 c l.toArray w hH (by simp; omega)
    rw [List.size_toArray] at K
    refine K.mono ?_
    rintro e w' ⟨rfl, n, rfl⟩
    have hU : Upd (· = g) w (putRowK (encK 10) 10 (Sort.ahead w n) g 0 l.toArray.reverse) := upd_putRow id w n g 0 _
    refine ⟨rfl, ⟨fun x hx => h.wf x (by simpa using hx), fun _ => ⟨g, rfl, hB, Nat.lt_of_lt_of_le hg hU.size, ?_⟩⟩, hU.mono (fun x _ hx => ⟨hn, by rw [show x = g from hx]; exact hB, 0, by rw [show x = g from hx]⟩)⟩
    have := holdsK_putRowK (encK 10) 10 (Sort.ahead w n) g 0 l.toArray l.toArray.reverse hH (by simp)
    rwa [List.reverse_toArray] at this ⊢
  · have hl : l = [] := List.eq_nil_of_length_eq_zero (by omega)
    subst hl
    refine (AnyQ.slices_Reverse_empty (P := Try.prog) Try.laysQ9 a c w).mono ?_
    rintro e w' ⟨rfl, rfl⟩
    exact ⟨rfl, h, Upd.refl _ _⟩

/-- Numbers in a block of the call's own. -/
structure Ki (w : World) (B : Nat) (a : Option Addr) (l : List Int) : Prop where
  wf : ∀ x ∈ l, W64 x
  ex : 0 < l.length → ∃ g, a = some ⟨g, 0, none⟩ ∧ B ≤ g ∧ g < w.heap.size ∧ Holds (Value.int .i64) w g 0 l.toArray
theorem arrI (l : List Int) {i : Nat} (h : i < l.length) : l.toArray[i]! = l.getD i 0 := by
  rw [getElem!_pos _ i (by simpa using h)]
  simp [List.getD, h]
theorem Ki.intl {w : World} {B : Nat} {a : Option Addr} {l : List Int} (h : Ki w B a l) : IntL w a l :=
  ⟨h.wf, fun hn => by
    obtain ⟨g, e, _, hg, hH⟩ := h.ex hn
    refine ⟨g, 0, e, hg, fun j hj => ?_⟩
    rw [(hH j (by simpa using hj)).1, arrI l hj]⟩
theorem Ki.upd {G : Nat → Prop} {w w' : World} {B : Nat} {a : Option Addr} {l : List Int} (h : Ki w B a l) (u : Upd G w w') (hG : ∀ g o, a = some ⟨g, o, none⟩ → B ≤ g → 0 < l.length → ¬ G g) : Ki w' B a l :=
  ⟨h.wf, fun hn => by
    obtain ⟨g, e, hB, hg, hH⟩ := h.ex hn
    have hb := u.block g hg (hG g 0 e hB hn)
    exact ⟨g, e, hB, Nat.lt_of_lt_of_le hg u.size, fun j hj => ⟨(World.cell?_of_block (a := ⟨g, 0 + j, none⟩) hb).trans (hH j hj).1, (World.frozen?_of_block (a := ⟨g, 0 + j, none⟩) hb).trans (hH j hj).2⟩⟩⟩

theorem iclone_ints (w : World) (a : Option Addr) (l : List Int) (c : Nat) (h : IntL w a l) (hr : l.length ≤ 17592186044416) :
    Calls Try.prog 4 #[.slice a l.length c] w fun e w' => ∃ a' c', e = .returned (.slice a' l.length c') ∧ Ki w' w.heap.size a' l ∧ Below w.heap.size w w' := by
  cases a with
  | none =>
    have hl : l = [] := by
      cases l with
      | nil => rfl
      | cons x r => obtain ⟨b, o, e, _⟩ := h.ex (by simp); cases e
    subst hl
    refine (iclone_nil 0 c w).mono ?_
    rintro e w' ⟨rfl, rfl⟩
    exact ⟨none, 0, rfl, ⟨h.wf, fun hn => absurd hn (by simp)⟩, Below.refl _ _⟩
  | some b =>
    refine (iclone_any b l.length c (l.map (Value.int .i64)) w (by simp) (fun v hv => by obtain ⟨x, _, rfl⟩ := List.mem_map.1 hv; rfl) (fun j u hj => by
      have hjl : j < l.length := by have := (List.getElem?_eq_some_iff.1 hj).1; simpa using this
      obtain ⟨b', o, e, hb, hc⟩ := h.ex (by omega)
      refine ⟨b', o, Option.some.inj e, hb, ?_⟩
      rw [hc j hjl, ← hj]
      simp [List.getD, hjl]) hr).mono ?_
    rintro e w' ⟨g, c', rfl, ho, hb⟩
    refine ⟨_, c', rfl, ⟨h.wf, fun hn => ⟨g, rfl, (ho.lt g rfl).1, (ho.lt g rfl).2, fun j hj => ?_⟩⟩, hb⟩
    have hj' : j < l.length := by simpa using hj
    rw [Nat.zero_add]
    refine ⟨?_, ho.frozenAt j⟩
    rw [ho.cellAt j (by omega), arrI l hj']
    simp [List.getD, hj']
theorem irev_ints (w : World) (B : Nat) (a : Option Addr) (l : List Int) (c : Nat) (h : Ki w B a l) (hr : l.length ≤ 35184372088832) :
    Calls Try.prog 7 #[.slice a l.length c] w fun e w' => e = .returned (.tuple #[]) ∧ Ki w' B a l.reverse ∧ Upd (fun x => 0 < l.length ∧ B ≤ x ∧ ∃ o, a = some ⟨x, o, none⟩) w w' := by
  by_cases hn : 0 < l.length
  · obtain ⟨g, rfl, hB, hg, hH⟩ := h.ex hn
    refine (Any.slices_Reverse_int Try.lays112 g 0 c l w hH (by omega)).mono ?_
    rintro e w' ⟨rfl, n, rfl⟩
    have hU : Upd (· = g) w (putRow (Value.int .i64) (Sort.ahead w n) g 0 l.reverse.toArray) := upd_putRow _ w n g 0 _
    refine ⟨rfl, ⟨fun x hx => h.wf x (by simpa using hx), fun _ => ⟨g, rfl, hB, Nat.lt_of_lt_of_le hg hU.size, ?_⟩⟩, hU.mono (fun x _ hx => ⟨hn, by rw [show x = g from hx]; exact hB, 0, by rw [show x = g from hx]⟩)⟩
    exact holds_putRow (Value.int .i64) (Sort.ahead w n) g 0 l.toArray l.reverse.toArray hH (by simp)
  · have hl : l = [] := List.eq_nil_of_length_eq_zero (by omega)
    subst hl
    refine (Any.slices_Reverse_int_empty (P := Try.prog) Try.lays112 a c w).mono ?_
    rintro e w' ⟨rfl, rfl⟩
    exact ⟨rfl, h, Upd.refl _ _⟩

end Go.Proofs.Ytgbikncpmgikaaa
