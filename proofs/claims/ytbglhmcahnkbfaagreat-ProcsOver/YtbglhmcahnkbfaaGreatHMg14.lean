/- Texts of this seat, merged. -/
import Derived.Test.YtbglhmcahnkbfaaGreatHMg13
import Derived.Test.YtbglhmcahnkbfaaGreatHMg1
import Derived.Maps.OwnSet
import Derived.StringKeys

/- The program's file system as it lies: one block of 1845 cells (the defects, 17 nodes of 107 cells, 25 marks), and the maps of its directories. -/
namespace Go.Proofs.YtbglhmcahnkbfaaGreat
open Go.RowKit Go.ChangeMaps Go.MapKept
set_option linter.unusedVariables false

/-- A node: its kind, links, who holds it, its size, its bytes and blocks, its names' map. -/
structure Nd where
  k : Int
  l : Int
  h : Int
  s : Nat
  b : List Int
  B : List Int
  m : Option Nat
def ndC (x : Nd) : List Value := [.int .i64 x.k, .int .i64 x.l, .int .i64 x.h, .int .i64 (x.s : Int)] ++ x.b.map (.int .u8) ++ x.B.map (.int .i64) ++ [.map x.m]
structure Nd.ok (x : Nd) : Prop where
  b : x.b.length = 96
  B : x.B.length = 6
theorem ndC_b {x : Nd} (h : x.ok) (j : Nat) (hj : j < 96) : (ndC x)[4 + j]? = some (.int .u8 (x.b.getD j 0)) := by
  have hb := h.b
  unfold ndC
  rw [List.append_assoc, List.append_assoc, List.getElem?_append_right (by simp), List.getElem?_append_left (by simp; omega)]
  simp
  rw [List.getElem?_eq_getElem (by omega)]
  simp
theorem ndC_B {x : Nd} (h : x.ok) (j : Nat) (hj : j < 6) : (ndC x)[100 + j]? = some (.int .i64 (x.B.getD j 0)) := by
  have hb := h.b
  have hB := h.B
  unfold ndC
  rw [List.append_assoc, List.append_assoc, List.getElem?_append_right (by simp; omega), List.getElem?_append_right (by simp; omega), List.getElem?_append_left (by simp; omega)]
  simp [hb]
  rw [show 100 + j - 4 - 96 = j by omega, List.getElem?_eq_getElem (by omega)]
  simp
theorem ndC_m {x : Nd} (h : x.ok) : (ndC x)[106]? = some (.map x.m) := by
  have hb := h.b
  have hB := h.B
  unfold ndC
  rw [List.getElem?_append_right (by simp; omega)]
  simp [hb, hB]

/-- A node that is not there; a new one. -/
def noNd : Nd := ⟨0, 0, 0, 0, List.replicate 96 0, List.replicate 6 0, none⟩
def newNd (k : Int) (m : Option Nat) : Nd := ⟨k, 1, 0, 0, List.replicate 96 0, List.replicate 6 0, m⟩
theorem noNd_ok : noNd.ok := ⟨by simp [noNd], by simp [noNd]⟩
theorem newNd_ok (k : Int) (m : Option Nat) : (newNd k m).ok := ⟨by simp [newNd], by simp [newNd]⟩
theorem ndC_no : ndC noNd = nodeC 0 0 (.map none) := by simp [ndC, noNd, nodeC]
theorem ndC_new (k : Int) (m : Option Nat) : ndC (newNd k m) = nodeC k 1 (.map m) := by simp [ndC, newNd, nodeC]

/-- The cells of a system. -/
structure Sls (C : List Value) (d : Int) (P : Nat → Nd) (T : Nat → Bool) : Prop where
  len : C.length = 1845
  df : C[0]? = some (.int .i64 d)
  at_ : ∀ i, i < 17 → ∀ j, j < 107 → C[1 + i * 107 + j]? = (ndC (P i))[j]?
  tk : ∀ b, b < 25 → C[1820 + b]? = some (.bool (T b))
  ok : ∀ i, i < 17 → (P i).ok

/-- What a map of names says: how many names there are, and what each names (0: nothing). -/
def Nms (w : World) : Option Nat → Nat → (List UInt8 → Nat) → Prop
  | none, L, N => L = 0 ∧ ∀ s, N s = 0
  | some b, L, N => ∃ D : DataW Unit, w.ownsMap Tryz.prog 9 (plainElem Tryz.prog 3) b L D ∧ Maps.size D = L ∧ (∀ s, D.atKey (.string s) (.lit (.int .i64 0)) = .lit (.int .i64 (N s : Int))) ∧ ∀ s, Maps.has D (.string s) = decide (N s ≠ 0)

/-- A system: its defects, nodes, marks of blocks; of each node how many names, and what they name. -/
structure Sg where
  d : Int
  P : Nat → Nd
  T : Nat → Bool
  L : Nat → Nat
  N : Nat → List UInt8 → Nat

structure Sy (w : World) (p : Nat) (S : Sg) : Prop where
  blk : ∃ C, w.heap[p]? = some (.cells (List.toArray C) 150 (0, 0)) ∧ Sls C S.d S.P S.T
  nms : ∀ i, i < 17 → Nms w (S.P i).m (S.L i) (S.N i)
  to : ∀ i s, i < 17 → S.N i s < 17
  le : ∀ i, i < 17 → S.L i ≤ 6
  ap : ∀ i j b, i < 17 → j < 17 → (S.P i).m = some b → (S.P j).m = some b → i = j
  np : ∀ i, i < 17 → (S.P i).m ≠ some p
  dir : ∀ i, i < 17 → (S.P i).k = 2 → (S.P i).m.isSome = true
  root : (S.P 1).k = 2
  zero : (S.P 0).k = 0

/-- The blocks that it lies in. -/
def Sg.foot (S : Sg) (p x : Nat) : Prop := x = p ∨ ∃ i, i < 17 ∧ (S.P i).m = some x

theorem Nms.block {w w' : World} {m : Option Nat} {L : Nat} {N : List UInt8 → Nat} (h : Nms w m L N) (hb : ∀ b, m = some b → w'.heap[b]? = w.heap[b]?) : Nms w' m L N := by
  cases m with
  | none => exact h
  | some b =>
    obtain ⟨D, ⟨es, clock, h1, h2⟩, h3⟩ := h
    exact ⟨D, ⟨es, clock, (hb b rfl).trans h1, h2⟩, h3⟩
theorem Nms.lt {w : World} {b : Nat} {L : Nat} {N : List UInt8 → Nat} (h : Nms w (some b) L N) : b < w.heap.size := by
  obtain ⟨D, h, _⟩ := h; exact h.lt

theorem Sy.lt {w : World} {p : Nat} {S : Sg} (h : Sy w p S) : p < w.heap.size := by
  obtain ⟨C, h, _⟩ := h.blk; exact (Array.getElem?_eq_some_iff.1 h).1
theorem Sy.foot_lt {w : World} {p : Nat} {S : Sg} (h : Sy w p S) (x : Nat) (hx : S.foot p x) : x < w.heap.size := by
  rcases hx with rfl | ⟨i, hi, e⟩
  · exact h.lt
  · have := h.nms i hi
    rw [e] at this
    exact this.lt
theorem Sy.blocks {w w' : World} {p : Nat} {S : Sg} (h : Sy w p S) (hb : ∀ x, S.foot p x → w'.heap[x]? = w.heap[x]?) : Sy w' p S := by
  obtain ⟨C, h1, h2⟩ := h.blk
  exact ⟨⟨C, (hb p (.inl rfl)).trans h1, h2⟩, fun i hi => (h.nms i hi).block (fun b e => hb b (.inr ⟨i, hi, e⟩)), h.to, h.le, h.ap, h.np, h.dir, h.root, h.zero⟩
theorem Sy.upd {F : Nat → Prop} {w w' : World} {p : Nat} {S : Sg} (h : Sy w p S) (u : Upd F w w') (hF : ∀ x, S.foot p x → ¬ F x) : Sy w' p S :=
  h.blocks (fun x hx => u.block x (h.foot_lt x hx) (hF x hx))
theorem Sy.grow {w w' : World} {p : Nat} {S : Sg} (h : Sy w p S) (u : Below w.heap.size w w') : Sy w' p S :=
  h.blocks (fun x hx => u.block x (h.foot_lt x hx))
theorem Sy.hp {w w' : World} {p : Nat} {S : Sg} (h : Sy w p S) (e : w'.heap = w.heap) : Sy w' p S := h.blocks (fun x _ => by rw [e])

theorem Sy.c {w : World} {p : Nat} {S : Sg} (h : Sy w p S) (i : Nat) (hi : i < 17) (j : Nat) (hj : j < 107) (v : Value) (hv : (ndC (S.P i))[j]? = some v) : w.cell? ⟨p, 1 + i * 107 + j, none⟩ = some v := by
  obtain ⟨C, h1, h2⟩ := h.blk
  exact cell_list h1 ((h2.at_ i hi j hj).trans hv)
theorem Sy.ok {w : World} {p : Nat} {S : Sg} (h : Sy w p S) (i : Nat) (hi : i < 17) : (S.P i).ok := by
  obtain ⟨C, h1, h2⟩ := h.blk
  exact h2.ok i hi
theorem Sy.k {w : World} {p : Nat} {S : Sg} (h : Sy w p S) (i : Nat) (hi : i < 17) : w.cell? ⟨p, 1 + i * 107, none⟩ = some (.int .i64 (S.P i).k) := h.c i hi 0 (by omega) _ rfl
theorem Sy.l {w : World} {p : Nat} {S : Sg} (h : Sy w p S) (i : Nat) (hi : i < 17) : w.cell? ⟨p, 1 + i * 107 + 1, none⟩ = some (.int .i64 (S.P i).l) := h.c i hi 1 (by omega) _ rfl
theorem Sy.h {w : World} {p : Nat} {S : Sg} (h : Sy w p S) (i : Nat) (hi : i < 17) : w.cell? ⟨p, 1 + i * 107 + 2, none⟩ = some (.int .i64 (S.P i).h) := h.c i hi 2 (by omega) _ rfl
theorem Sy.s {w : World} {p : Nat} {S : Sg} (h : Sy w p S) (i : Nat) (hi : i < 17) : w.cell? ⟨p, 1 + i * 107 + 3, none⟩ = some (.int .i64 ((S.P i).s : Int)) := h.c i hi 3 (by omega) _ rfl
theorem Sy.b {w : World} {p : Nat} {S : Sg} (h : Sy w p S) (i : Nat) (hi : i < 17) (j : Nat) (hj : j < 96) : w.cell? ⟨p, 1 + i * 107 + (4 + j), none⟩ = some (.int .u8 ((S.P i).b.getD j 0)) := h.c i hi (4 + j) (by omega) _ (ndC_b (h.ok i hi) j hj)
theorem Sy.B {w : World} {p : Nat} {S : Sg} (h : Sy w p S) (i : Nat) (hi : i < 17) (j : Nat) (hj : j < 6) : w.cell? ⟨p, 1 + i * 107 + (100 + j), none⟩ = some (.int .i64 ((S.P i).B.getD j 0)) := h.c i hi (100 + j) (by omega) _ (ndC_B (h.ok i hi) j hj)
theorem Sy.m {w : World} {p : Nat} {S : Sg} (h : Sy w p S) (i : Nat) (hi : i < 17) : w.cell? ⟨p, 1 + i * 107 + 106, none⟩ = some (.map (S.P i).m) := h.c i hi 106 (by omega) _ (ndC_m (h.ok i hi))
theorem Sy.t {w : World} {p : Nat} {S : Sg} (h : Sy w p S) (b : Nat) (hb : b < 25) : w.cell? ⟨p, 1820 + b, none⟩ = some (.bool (S.T b)) := by
  obtain ⟨C, h1, h2⟩ := h.blk
  exact cell_list h1 (h2.tk b hb)
theorem Sy.df {w : World} {p : Nat} {S : Sg} (h : Sy w p S) : w.cell? ⟨p, 0, none⟩ = some (.int .i64 S.d) := by
  obtain ⟨C, h1, h2⟩ := h.blk
  exact cell_list h1 h2.df
theorem Sy.fz {w : World} {p : Nat} {S : Sg} (h : Sy w p S) (j : Nat) : w.frozen? ⟨p, j, none⟩ = false := by
  obtain ⟨C, h1, h2⟩ := h.blk
  simp [World.frozen?, h1]
theorem Sy.th {w : World} {p : Nat} {S : Sg} (h : Sy w p S) (i : Nat) (hi : i < 17) : w.there p (1 + i * 107) 107 := by
  obtain ⟨C, h1, h2⟩ := h.blk
  exact there_of_block h1 _ _ (by rw [h2.len]; omega)

/-- Another node at a number; another mark. -/
def updN (P : Nat → Nd) (i : Nat) (x : Nd) : Nat → Nd := fun j => if j = i then x else P j
theorem updN_same (P : Nat → Nd) (i : Nat) (x : Nd) : updN P i x i = x := by simp [updN]
theorem updN_ne (P : Nat → Nd) (i j : Nat) (x : Nd) (h : j ≠ i) : updN P i x j = P j := by simp [updN, h]

theorem Sls.put {C C' : List Value} {d : Int} {P : Nat → Nd} {T : Nat → Bool} (h : Sls C d P T) (i : Nat) (hi : i < 17) (x : Nd) (hx : x.ok) (hl : C'.length = 1845)
    (out : ∀ j, j < 1 + i * 107 ∨ 1 + i * 107 + 107 ≤ j → C'[j]? = C[j]?) (inn : ∀ j, j < 107 → C'[1 + i * 107 + j]? = (ndC x)[j]?) : Sls C' d (updN P i x) T := by
  refine ⟨hl, by rw [out 0 (by omega)]; exact h.df, ?_, fun b hb => by rw [out _ (by omega)]; exact h.tk b hb, fun k hk => ?_⟩
  · intro k hk j hj
    by_cases e : k = i
    · subst e; rw [updN_same]; exact inn j hj
    · rw [updN_ne _ _ _ _ e, out _ (by omega)]; exact h.at_ k hk j hj
  · by_cases e : k = i
    · subst e; rw [updN_same]; exact hx
    · rw [updN_ne _ _ _ _ e]; exact h.ok k hk

/-- A node turns that keeps its map. -/
theorem Sy.turn {w w' : World} {p : Nat} {S : Sg} (h : Sy w p S) (i : Nat) (hi : i < 17) (x : Nd) (hm : x.m = (S.P i).m) (hk : x.k = (S.P i).k) (u : Upd (· = p) w w')
    (hb : ∃ C, w'.heap[p]? = some (.cells (List.toArray C) 150 (0, 0)) ∧ Sls C S.d (updN S.P i x) S.T) : Sy w' p { S with P := updN S.P i x } := by
  have e : ∀ j, (updN S.P i x j).m = (S.P j).m := fun j => by
    by_cases q : j = i
    · subst q; rw [updN_same, hm]
    · rw [updN_ne _ _ _ _ q]
  have e2 : ∀ j, (updN S.P i x j).k = (S.P j).k := fun j => by
    by_cases q : j = i
    · subst q; rw [updN_same, hk]
    · rw [updN_ne _ _ _ _ q]
  refine ⟨hb, fun j hj => ?_, h.to, h.le, fun a b c ha hb h1 h2 => h.ap a b c ha hb (by rw [← e]; exact h1) (by rw [← e]; exact h2), fun j hj => by rw [e]; exact h.np j hj, fun j hj q => by rw [e]; exact h.dir j hj (by rw [← e2]; exact q), by show (updN S.P i x 1).k = 2; rw [e2]; exact h.root, by show (updN S.P i x 0).k = 0; rw [e2]; exact h.zero⟩
  show Nms w' (updN S.P i x j).m _ _
  rw [e]
  exact (h.nms j hj).block (fun c hc => u.block c (h.foot_lt c (.inr ⟨j, hj, hc⟩)) (fun q => h.np j hj (q ▸ hc)))

/-- One cell of a node is stored. -/
theorem Sy.set {w : World} {p : Nat} {S : Sg} (h : Sy w p S) (i : Nat) (hi : i < 17) (x : Nd) (hx : x.ok) (hm : x.m = (S.P i).m) (hkk : x.k = (S.P i).k) (k : Nat) (hk : k < 107) (v : Value) (hv : (ndC x)[k]? = some v) (ho : ∀ j, j < 107 → j ≠ k → (ndC x)[j]? = (ndC (S.P i))[j]?) :
    Sy (w.setCell ⟨p, 1 + i * 107 + k, none⟩ v) p { S with P := updN S.P i x } := by
  obtain ⟨C, hb, hc⟩ := h.blk
  have hl := hc.len
  refine h.turn i hi x hm hkk (Upd.setCell (F := (· = p)) w ⟨p, _, none⟩ v rfl) ⟨C.set (1 + i * 107 + k) v, by rw [heap_setCell_same w p _ C.toArray _ v hb]; simp, hc.put i hi x hx (by simp [hl]) (fun j hj => by rw [List.getElem?_set_ne (by omega)]) (fun j hj => ?_)⟩
  by_cases e : j = k
  · subst e; rw [List.getElem?_set_self (by omega), hv]
  · rw [List.getElem?_set_ne (by omega), hc.at_ i hi j hj, ho j hj e]

/-- A mark is stored. -/
theorem Sy.mark {w : World} {p : Nat} {S : Sg} (h : Sy w p S) (b : Nat) (hb : b < 25) (x : Bool) : Sy (w.setCell ⟨p, 1820 + b, none⟩ (.bool x)) p { S with T := updT S.T b x } := by
  obtain ⟨C, hB, hc⟩ := h.blk
  have hl := hc.len
  have u : Upd (· = p) w (w.setCell ⟨p, 1820 + b, none⟩ (.bool x)) := Upd.setCell (F := (· = p)) w ⟨p, _, none⟩ _ rfl
  refine ⟨⟨C.set (1820 + b) (.bool x), by rw [heap_setCell_same w p _ C.toArray _ _ hB]; simp, ⟨by simp [hl], by rw [List.getElem?_set_ne (by omega)]; exact hc.df, fun i hi j hj => by rw [List.getElem?_set_ne (by omega)]; exact hc.at_ i hi j hj, fun q hq => ?_, hc.ok⟩⟩, fun j hj => (h.nms j hj).block (fun c hc => u.block c (h.foot_lt c (.inr ⟨j, hj, hc⟩)) (fun q => by subst q; exact h.np j hj hc)), h.to, h.le, h.ap, h.np, h.dir, h.root, h.zero⟩
  show _ = some (Value.bool (updT S.T b x q))
  by_cases e : q = b
  · subst e; rw [List.getElem?_set_self (by omega)]; simp [updT]
  · rw [List.getElem?_set_ne (by omega), hc.tk q hq]; simp [updT, e]

/-- The root alone. -/
def rootG (m : Nat) : Sg := ⟨0, fun i => if i = 1 then newNd 2 (some m) else noNd, fun _ => false, fun _ => 0, fun _ _ => 0⟩

theorem sysZ_nd (i : Nat) (hi : i < 17) (j : Nat) (hj : j < 107) : sysZ[1 + i * 107 + j]? = (nodeC 0 0 (.map none))[j]? := by
  have key : ∀ (n : Nat) (i : Nat), i < n → ((List.replicate n (nodeC 0 0 (.map none))).flatten)[i * 107 + j]? = (nodeC 0 0 (.map none))[j]? := by
    intro n
    induction n with
    | zero => intro i h; omega
    | succ n ih =>
      intro i h
      rw [List.replicate_succ, List.flatten_cons]
      cases i with
      | zero => rw [List.getElem?_append_left (by rw [nodeC_len]; omega)]; simp
      | succ i =>
        rw [List.getElem?_append_right (by rw [nodeC_len]; omega), nodeC_len, show (i + 1) * 107 + j - 107 = i * 107 + j by omega]
        exact ih i (by omega)
  unfold sysZ
  rw [show 1 + i * 107 + j = (i * 107 + j) + 1 by omega, List.getElem?_cons_succ, List.getElem?_append_left (by simp [nodeC_len]; omega)]
  exact key 17 i hi
theorem sysZ_mk (b : Nat) (hb : b < 25) : sysZ[1820 + b]? = some (.bool false) := by
  unfold sysZ
  rw [show 1820 + b = (1819 + b) + 1 by omega, List.getElem?_cons_succ, List.getElem?_append_right (by simp [nodeC_len]), List.getElem?_replicate, if_pos (by simp [nodeC_len]; omega)]

theorem nms_empty {w : World} {m c : Nat} (h : w.heap[m]? = some (.map #[] c)) : Nms w (some m) 0 (fun _ => 0) :=
  ⟨.map [], ⟨#[], c, h, ⟨by simp, stamped_empty c, by simp⟩, Nat.le_refl _, rfl⟩, rfl, fun s => WideAt.atKey_none _ (by simp), fun s => by simp [Maps.has]⟩

end Go.Proofs.YtbglhmcahnkbfaaGreat
