/- Texts of this seat, merged. -/
import Derived.Test.YtliekndkjjaldaaGreatNMg2
import Derived.Maps.OwnSet
import Derived.StringKeys
import Derived.OwnWalk
import Derived.Lib.Bytealg
import Derived.Lib.BytesEntry
import Derived.Lib.Bytes
import Derived.Laws.Externs
import Derived.Deep.RegionHeld3
import Derived.Shelf.LaysM
import Derived.Shelf.Strconv.Clone
import Derived.Shelf.Strings.Prefix
import Derived.Test.YtliekndkjjaldaaGreatChecked
import Derived.BigQuiet

/- The program's file system as it lies: one block of 1845 cells (the defects, 17 nodes of 107 cells, 25 marks), and the maps of its directories. -/
namespace Go.Proofs.YtliekndkjjaldaaGreat
open Go.RowKit Go.ChangeMaps Go.MapKept
set_option linter.unusedVariables false

/-- A node: its kind, links, who holds it, its size, its bytes and blocks, its names' map. -/
structure Nd where
  k : Int
  l : Int
  h : Int
  s : Nat
  b : List Int
  B : List Int
  m : Option Nat
def ndC (x : Nd) : List Value := [.int .i64 x.k, .int .i64 x.l, .int .i64 x.h, .int .i64 (x.s : Int)] ++ x.b.map (.int .u8) ++ x.B.map (.int .i64) ++ [.map x.m]
structure Nd.ok (x : Nd) : Prop where
  b : x.b.length = 96
  B : x.B.length = 6
theorem ndC_len {x : Nd} (h : x.ok) : (ndC x).length = 107 := by simp [ndC, h.b, h.B]
theorem ndC_one (x : Nd) : (ndC x).toArray.all (·.oneCell') = true := all_oneCell_toArray (fun v hv => by
  simp only [ndC, List.mem_append, List.mem_cons, List.not_mem_nil, or_false, List.mem_map] at hv
  rcases hv with (((h | h | h | h) | ⟨_, _, h⟩) | ⟨_, _, h⟩) | h <;> subst h <;> rfl)
theorem ndC_b {x : Nd} (h : x.ok) (j : Nat) (hj : j < 96) : (ndC x)[4 + j]? = some (.int .u8 (x.b.getD j 0)) := by
  have hb := h.b
  unfold ndC
  rw [List.append_assoc, List.append_assoc, List.getElem?_append_right (by simp), List.getElem?_append_left (by simp; omega)]
  simp
  rw [List.getElem?_eq_getElem (by omega)]
  simp
theorem ndC_B {x : Nd} (h : x.ok) (j : Nat) (hj : j < 6) : (ndC x)[100 + j]? = some (.int .i64 (x.B.getD j 0)) := by
  have hb := h.b
  have hB := h.B
  unfold ndC
  rw [List.append_assoc, List.append_assoc, List.getElem?_append_right (by simp; omega), List.getElem?_append_right (by simp; omega), List.getElem?_append_left (by simp; omega)]
  simp [hb]
  rw [show 100 + j - 4 - 96 = j by omega, List.getElem?_eq_getElem (by omega)]
  simp
theorem ndC_m {x : Nd} (h : x.ok) : (ndC x)[106]? = some (.map x.m) := by
  have hb := h.b
  have hB := h.B
  unfold ndC
  rw [List.getElem?_append_right (by simp; omega)]
  simp [hb, hB]

/-- A node that is not there; a new one. -/
def noNd : Nd := ⟨0, 0, 0, 0, List.replicate 96 0, List.replicate 6 0, none⟩
def newNd (k : Int) (m : Option Nat) : Nd := ⟨k, 1, 0, 0, List.replicate 96 0, List.replicate 6 0, m⟩
theorem noNd_ok : noNd.ok := ⟨by simp [noNd], by simp [noNd]⟩
theorem newNd_ok (k : Int) (m : Option Nat) : (newNd k m).ok := ⟨by simp [newNd], by simp [newNd]⟩
theorem ndC_no : ndC noNd = nodeC 0 0 (.map none) := by simp [ndC, noNd, nodeC]
theorem ndC_new (k : Int) (m : Option Nat) : ndC (newNd k m) = nodeC k 1 (.map m) := by simp [ndC, newNd, nodeC]

/-- The cells of a system. -/
structure Sls (C : List Value) (d : Int) (P : Nat → Nd) (T : Nat → Bool) : Prop where
  len : C.length = 1845
  df : C[0]? = some (.int .i64 d)
  at_ : ∀ i, i < 17 → ∀ j, j < 107 → C[1 + i * 107 + j]? = (ndC (P i))[j]?
  tk : ∀ b, b < 25 → C[1820 + b]? = some (.bool (T b))
  ok : ∀ i, i < 17 → (P i).ok

/-- What a map of names says: how many names there are, and what each names (0: nothing). -/
def Nms (w : World) : Option Nat → Nat → (List UInt8 → Nat) → Prop
  | none, L, N => L = 0 ∧ ∀ s, N s = 0
  | some b, L, N => ∃ D : DataW Unit, w.ownsMap Tryz.prog 9 (plainElem Tryz.prog 3) b L D ∧ Maps.size D = L ∧ (∀ s, D.atKey (.string s) (.lit (.int .i64 0)) = .lit (.int .i64 (N s : Int))) ∧ ∀ s, Maps.has D (.string s) = decide (N s ≠ 0)

/-- A system: its defects, nodes, marks of blocks; of each node how many names, and what they name. -/
structure Sg where
  d : Int
  P : Nat → Nd
  T : Nat → Bool
  L : Nat → Nat
  N : Nat → List UInt8 → Nat

structure Sy (w : World) (p : Nat) (S : Sg) : Prop where
  blk : ∃ C, w.heap[p]? = some (.cells (List.toArray C) 58 (0, 0)) ∧ Sls C S.d S.P S.T
  nms : ∀ i, i < 17 → Nms w (S.P i).m (S.L i) (S.N i)
  to : ∀ i s, i < 17 → S.N i s < 17
  le : ∀ i, i < 17 → S.L i ≤ 6
  ap : ∀ i j b, i < 17 → j < 17 → (S.P i).m = some b → (S.P j).m = some b → i = j
  np : ∀ i, i < 17 → (S.P i).m ≠ some p
  dir : ∀ i, i < 17 → (S.P i).k = 2 → (S.P i).m.isSome = true
  root : (S.P 1).k = 2
  zero : (S.P 0).k = 0

/-- The blocks that it lies in. -/
def Sg.foot (S : Sg) (p x : Nat) : Prop := x = p ∨ ∃ i, i < 17 ∧ (S.P i).m = some x

theorem Nms.block {w w' : World} {m : Option Nat} {L : Nat} {N : List UInt8 → Nat} (h : Nms w m L N) (hb : ∀ b, m = some b → w'.heap[b]? = w.heap[b]?) : Nms w' m L N := by
  cases m with
  | none => exact h
  | some b =>
    obtain ⟨D, ⟨es, clock, h1, h2⟩, h3⟩ := h
    exact ⟨D, ⟨es, clock, (hb b rfl).trans h1, h2⟩, h3⟩
theorem Nms.lt {w : World} {b : Nat} {L : Nat} {N : List UInt8 → Nat} (h : Nms w (some b) L N) : b < w.heap.size := by
  obtain ⟨D, h, _⟩ := h; exact h.lt

theorem Sy.lt {w : World} {p : Nat} {S : Sg} (h : Sy w p S) : p < w.heap.size := by
  obtain ⟨C, h, _⟩ := h.blk; exact (Array.getElem?_eq_some_iff.1 h).1
theorem Sy.foot_lt {w : World} {p : Nat} {S : Sg} (h : Sy w p S) (x : Nat) (hx : S.foot p x) : x < w.heap.size := by
  rcases hx with rfl | ⟨i, hi, e⟩
  · exact h.lt
  · have := h.nms i hi
    rw [e] at this
    exact this.lt
theorem Sy.blocks {w w' : World} {p : Nat} {S : Sg} (h : Sy w p S) (hb : ∀ x, S.foot p x → w'.heap[x]? = w.heap[x]?) : Sy w' p S := by
  obtain ⟨C, h1, h2⟩ := h.blk
  exact ⟨⟨C, (hb p (.inl rfl)).trans h1, h2⟩, fun i hi => (h.nms i hi).block (fun b e => hb b (.inr ⟨i, hi, e⟩)), h.to, h.le, h.ap, h.np, h.dir, h.root, h.zero⟩
theorem Sy.upd {F : Nat → Prop} {w w' : World} {p : Nat} {S : Sg} (h : Sy w p S) (u : Upd F w w') (hF : ∀ x, S.foot p x → ¬ F x) : Sy w' p S :=
  h.blocks (fun x hx => u.block x (h.foot_lt x hx) (hF x hx))
theorem Sy.grow {w w' : World} {p : Nat} {S : Sg} (h : Sy w p S) (u : Below w.heap.size w w') : Sy w' p S :=
  h.blocks (fun x hx => u.block x (h.foot_lt x hx))
theorem Sy.below {B : Nat} {w w' : World} {p : Nat} {S : Sg} (h : Sy w p S) (u : Below B w w') (hF : ∀ x, S.foot p x → x < B) : Sy w' p S :=
  h.blocks (fun x hx => u.block x (hF x hx))
theorem Sy.hp {w w' : World} {p : Nat} {S : Sg} (h : Sy w p S) (e : w'.heap = w.heap) : Sy w' p S := h.blocks (fun x _ => by rw [e])

theorem Sy.c {w : World} {p : Nat} {S : Sg} (h : Sy w p S) (i : Nat) (hi : i < 17) (j : Nat) (hj : j < 107) (v : Value) (hv : (ndC (S.P i))[j]? = some v) : w.cell? ⟨p, 1 + i * 107 + j, none⟩ = some v := by
  obtain ⟨C, h1, h2⟩ := h.blk
  exact cell_list h1 ((h2.at_ i hi j hj).trans hv)
theorem Sy.ok {w : World} {p : Nat} {S : Sg} (h : Sy w p S) (i : Nat) (hi : i < 17) : (S.P i).ok := by
  obtain ⟨C, h1, h2⟩ := h.blk
  exact h2.ok i hi
theorem Sy.k {w : World} {p : Nat} {S : Sg} (h : Sy w p S) (i : Nat) (hi : i < 17) : w.cell? ⟨p, 1 + i * 107, none⟩ = some (.int .i64 (S.P i).k) := h.c i hi 0 (by omega) _ rfl
theorem Sy.l {w : World} {p : Nat} {S : Sg} (h : Sy w p S) (i : Nat) (hi : i < 17) : w.cell? ⟨p, 1 + i * 107 + 1, none⟩ = some (.int .i64 (S.P i).l) := h.c i hi 1 (by omega) _ rfl
theorem Sy.h {w : World} {p : Nat} {S : Sg} (h : Sy w p S) (i : Nat) (hi : i < 17) : w.cell? ⟨p, 1 + i * 107 + 2, none⟩ = some (.int .i64 (S.P i).h) := h.c i hi 2 (by omega) _ rfl
theorem Sy.s {w : World} {p : Nat} {S : Sg} (h : Sy w p S) (i : Nat) (hi : i < 17) : w.cell? ⟨p, 1 + i * 107 + 3, none⟩ = some (.int .i64 ((S.P i).s : Int)) := h.c i hi 3 (by omega) _ rfl
theorem Sy.b {w : World} {p : Nat} {S : Sg} (h : Sy w p S) (i : Nat) (hi : i < 17) (j : Nat) (hj : j < 96) : w.cell? ⟨p, 1 + i * 107 + (4 + j), none⟩ = some (.int .u8 ((S.P i).b.getD j 0)) := h.c i hi (4 + j) (by omega) _ (ndC_b (h.ok i hi) j hj)
theorem Sy.B {w : World} {p : Nat} {S : Sg} (h : Sy w p S) (i : Nat) (hi : i < 17) (j : Nat) (hj : j < 6) : w.cell? ⟨p, 1 + i * 107 + (100 + j), none⟩ = some (.int .i64 ((S.P i).B.getD j 0)) := h.c i hi (100 + j) (by omega) _ (ndC_B (h.ok i hi) j hj)
theorem Sy.m {w : World} {p : Nat} {S : Sg} (h : Sy w p S) (i : Nat) (hi : i < 17) : w.cell? ⟨p, 1 + i * 107 + 106, none⟩ = some (.map (S.P i).m) := h.c i hi 106 (by omega) _ (ndC_m (h.ok i hi))
theorem Sy.t {w : World} {p : Nat} {S : Sg} (h : Sy w p S) (b : Nat) (hb : b < 25) : w.cell? ⟨p, 1820 + b, none⟩ = some (.bool (S.T b)) := by
  obtain ⟨C, h1, h2⟩ := h.blk
  exact cell_list h1 (h2.tk b hb)
theorem Sy.df {w : World} {p : Nat} {S : Sg} (h : Sy w p S) : w.cell? ⟨p, 0, none⟩ = some (.int .i64 S.d) := by
  obtain ⟨C, h1, h2⟩ := h.blk
  exact cell_list h1 h2.df
theorem Sy.fz {w : World} {p : Nat} {S : Sg} (h : Sy w p S) (j : Nat) : w.frozen? ⟨p, j, none⟩ = false := by
  obtain ⟨C, h1, h2⟩ := h.blk
  simp [World.frozen?, h1]
theorem Sy.th {w : World} {p : Nat} {S : Sg} (h : Sy w p S) (i : Nat) (hi : i < 17) : w.there p (1 + i * 107) 107 := by
  obtain ⟨C, h1, h2⟩ := h.blk
  exact there_of_block h1 _ _ (by rw [h2.len]; omega)

/-- Another node at a number; another mark. -/
def updN (P : Nat → Nd) (i : Nat) (x : Nd) : Nat → Nd := fun j => if j = i then x else P j
theorem updN_same (P : Nat → Nd) (i : Nat) (x : Nd) : updN P i x i = x := by simp [updN]
theorem updN_ne (P : Nat → Nd) (i j : Nat) (x : Nd) (h : j ≠ i) : updN P i x j = P j := by simp [updN, h]

theorem Sls.put {C C' : List Value} {d : Int} {P : Nat → Nd} {T : Nat → Bool} (h : Sls C d P T) (i : Nat) (hi : i < 17) (x : Nd) (hx : x.ok) (hl : C'.length = 1845)
    (out : ∀ j, j < 1 + i * 107 ∨ 1 + i * 107 + 107 ≤ j → C'[j]? = C[j]?) (inn : ∀ j, j < 107 → C'[1 + i * 107 + j]? = (ndC x)[j]?) : Sls C' d (updN P i x) T := by
  refine ⟨hl, by rw [out 0 (by omega)]; exact h.df, ?_, fun b hb => by rw [out _ (by omega)]; exact h.tk b hb, fun k hk => ?_⟩
  · intro k hk j hj
    by_cases e : k = i
    · subst e; rw [updN_same]; exact inn j hj
    · rw [updN_ne _ _ _ _ e, out _ (by omega)]; exact h.at_ k hk j hj
  · by_cases e : k = i
    · subst e; rw [updN_same]; exact hx
    · rw [updN_ne _ _ _ _ e]; exact h.ok k hk

/-- A node turns that keeps its map. -/
theorem Sy.turn {w w' : World} {p : Nat} {S : Sg} (h : Sy w p S) (i : Nat) (hi : i < 17) (x : Nd) (hm : x.m = (S.P i).m) (hk : x.k = (S.P i).k) (u : Upd (· = p) w w')
    (hb : ∃ C, w'.heap[p]? = some (.cells (List.toArray C) 58 (0, 0)) ∧ Sls C S.d (updN S.P i x) S.T) : Sy w' p { S with P := updN S.P i x } := by
  have e : ∀ j, (updN S.P i x j).m = (S.P j).m := fun j => by
    by_cases q : j = i
    · subst q; rw [updN_same, hm]
    · rw [updN_ne _ _ _ _ q]
  have e2 : ∀ j, (updN S.P i x j).k = (S.P j).k := fun j => by
    by_cases q : j = i
    · subst q; rw [updN_same, hk]
    · rw [updN_ne _ _ _ _ q]
  refine ⟨hb, fun j hj => ?_, h.to, h.le, fun a b c ha hb h1 h2 => h.ap a b c ha hb (by rw [← e]; exact h1) (by rw [← e]; exact h2), fun j hj => by rw [e]; exact h.np j hj, fun j hj q => by rw [e]; exact h.dir j hj (by rw [← e2]; exact q), by show (updN S.P i x 1).k = 2; rw [e2]; exact h.root, by show (updN S.P i x 0).k = 0; rw [e2]; exact h.zero⟩
  show Nms w' (updN S.P i x j).m _ _
  rw [e]
  exact (h.nms j hj).block (fun c hc => u.block c (h.foot_lt c (.inr ⟨j, hj, hc⟩)) (fun q => h.np j hj (q ▸ hc)))

/-- One cell of a node is stored. -/
theorem Sy.set {w : World} {p : Nat} {S : Sg} (h : Sy w p S) (i : Nat) (hi : i < 17) (x : Nd) (hx : x.ok) (hm : x.m = (S.P i).m) (hkk : x.k = (S.P i).k) (k : Nat) (hk : k < 107) (v : Value) (hv : (ndC x)[k]? = some v) (ho : ∀ j, j < 107 → j ≠ k → (ndC x)[j]? = (ndC (S.P i))[j]?) :
    Sy (w.setCell ⟨p, 1 + i * 107 + k, none⟩ v) p { S with P := updN S.P i x } := by
  obtain ⟨C, hb, hc⟩ := h.blk
  have hl := hc.len
  refine h.turn i hi x hm hkk (Upd.setCell (F := (· = p)) w ⟨p, _, none⟩ v rfl) ⟨C.set (1 + i * 107 + k) v, by rw [heap_setCell_same w p _ C.toArray _ v hb]; simp, hc.put i hi x hx (by simp [hl]) (fun j hj => by rw [List.getElem?_set_ne (by omega)]) (fun j hj => ?_)⟩
  by_cases e : j = k
  · subst e; rw [List.getElem?_set_self (by omega), hv]
  · rw [List.getElem?_set_ne (by omega), hc.at_ i hi j hj, ho j hj e]

/-- A mark is stored. -/
theorem Sy.mark {w : World} {p : Nat} {S : Sg} (h : Sy w p S) (b : Nat) (hb : b < 25) (x : Bool) : Sy (w.setCell ⟨p, 1820 + b, none⟩ (.bool x)) p { S with T := updT S.T b x } := by
  obtain ⟨C, hB, hc⟩ := h.blk
  have hl := hc.len
  have u : Upd (· = p) w (w.setCell ⟨p, 1820 + b, none⟩ (.bool x)) := Upd.setCell (F := (· = p)) w ⟨p, _, none⟩ _ rfl
  refine ⟨⟨C.set (1820 + b) (.bool x), by rw [heap_setCell_same w p _ C.toArray _ _ hB]; simp, ⟨by simp [hl], by rw [List.getElem?_set_ne (by omega)]; exact hc.df, fun i hi j hj => by rw [List.getElem?_set_ne (by omega)]; exact hc.at_ i hi j hj, fun q hq => ?_, hc.ok⟩⟩, fun j hj => (h.nms j hj).block (fun c hc => u.block c (h.foot_lt c (.inr ⟨j, hj, hc⟩)) (fun q => by subst q; exact h.np j hj hc)), h.to, h.le, h.ap, h.np, h.dir, h.root, h.zero⟩
  show _ = some (Value.bool (updT S.T b x q))
  by_cases e : q = b
  · subst e; rw [List.getElem?_set_self (by omega)]; simp [updT]
  · rw [List.getElem?_set_ne (by omega), hc.tk q hq]; simp [updT, e]

/-- The root alone. -/
def rootG (m : Nat) : Sg := ⟨0, fun i => if i = 1 then newNd 2 (some m) else noNd, fun _ => false, fun _ => 0, fun _ _ => 0⟩

theorem sysZ_nd (i : Nat) (hi : i < 17) (j : Nat) (hj : j < 107) : sysZ[1 + i * 107 + j]? = (nodeC 0 0 (.map none))[j]? := by
  have key : ∀ (n : Nat) (i : Nat), i < n → ((List.replicate n (nodeC 0 0 (.map none))).flatten)[i * 107 + j]? = (nodeC 0 0 (.map none))[j]? := by
    intro n
    induction n with
    | zero => intro i h; omega
    | succ n ih =>
      intro i h
      rw [List.replicate_succ, List.flatten_cons]
      cases i with
      | zero => rw [List.getElem?_append_left (by rw [nodeC_len]; omega)]; simp
      | succ i =>
        rw [List.getElem?_append_right (by rw [nodeC_len]; omega), nodeC_len, show (i + 1) * 107 + j - 107 = i * 107 + j by omega]
        exact ih i (by omega)
  unfold sysZ
  rw [show 1 + i * 107 + j = (i * 107 + j) + 1 by omega, List.getElem?_cons_succ, List.getElem?_append_left (by simp [nodeC_len]; omega)]
  exact key 17 i hi
theorem sysZ_mk (b : Nat) (hb : b < 25) : sysZ[1820 + b]? = some (.bool false) := by
  unfold sysZ
  rw [show 1820 + b = (1819 + b) + 1 by omega, List.getElem?_cons_succ, List.getElem?_append_right (by simp [nodeC_len]), List.getElem?_replicate, if_pos (by simp [nodeC_len]; omega)]

theorem nms_empty {w : World} {m c : Nat} (h : w.heap[m]? = some (.map #[] c)) : Nms w (some m) 0 (fun _ => 0) :=
  ⟨.map [], ⟨#[], c, h, ⟨by simp, stamped_empty c, by simp⟩, Nat.le_refl _, rfl⟩, rfl, fun s => WideAt.atKey_none _ (by simp), fun s => by simp [Maps.has]⟩

theorem Sy.fresh {w : World} {p m : Nat} (hb : w.heap[p]? = some (.cells (sysC m).toArray 58 (0, 0))) (hm : w.heap[m]? = some (.map #[] 0)) : Sy w p (rootG m) := by
  have hne : m ≠ p := by
    intro e; subst e; rw [hb] at hm; simp at hm
  have lz : 108 + (nodeC 2 1 (.map (some m))).length ≤ sysZ.length := by rw [sysZ_len, nodeC_len]; omega
  refine ⟨⟨_, hb, ⟨by unfold sysC; rw [length_splice _ _ _ lz, sysZ_len], ?_, ?_, ?_, ?_⟩⟩, ?_, ?_, ?_, ?_, ?_, ?_, rfl, rfl⟩
  · unfold sysC; rw [getElem?_splice_out _ _ _ _ lz (by omega)]; rfl
  · intro i hi j hj
    unfold sysC
    by_cases e : i = 1
    · subst e
      rw [show 1 + 1 * 107 + j = 108 + j by omega, getElem?_splice_in _ _ _ _ lz (by rw [nodeC_len]; exact hj)]
      simp [rootG, ndC_new]
    · rw [getElem?_splice_out _ _ _ _ lz (by rw [nodeC_len]; omega), sysZ_nd i hi j hj]
      simp [rootG, e, ndC_no]
  · intro b hb
    unfold sysC
    rw [getElem?_splice_out _ _ _ _ lz (by rw [nodeC_len]; omega), sysZ_mk b hb]
    rfl
  · intro i hi
    by_cases e : i = 1
    · simp [rootG, e, newNd_ok]
    · simp [rootG, e, noNd_ok]
  · intro i hi
    by_cases e : i = 1
    · subst e; exact nms_empty hm
    · simp only [rootG, if_neg e]; exact ⟨rfl, fun _ => rfl⟩
  · intro i s hi; simp [rootG]
  · intro i hi; simp [rootG]
  · intro i j b hi hj h1 h2
    by_cases e : i = 1 <;> by_cases e' : j = 1
    · omega
    · simp [rootG, e', noNd] at h2
    · simp [rootG, e, noNd] at h1
    · simp [rootG, e, noNd] at h1
  · intro i hi
    by_cases e : i = 1
    · simp [rootG, e, newNd]; exact hne
    · simp [rootG, e, noNd]
  · intro i hi h
    by_cases e : i = 1
    · simp [rootG, e, newNd]
    · simp [rootG, e, noNd] at h

end Go.Proofs.YtliekndkjjaldaaGreat

/- What the small questions about a system and its nodes answer. -/
namespace Go.Proofs.YtliekndkjjaldaaGreat
open Go.RowKit
set_option linter.unusedVariables false

theorem isdir_any (p o : Nat) (k : Int) (w : World) (h : w.cell? ⟨p, o, none⟩ = some (.int .i64 k)) : Calls Tryz.prog 63 #[.pointer (some ⟨p, o, none⟩)] w fun e w' => e = .returned (.bool (decide (k = 2))) ∧ w' = w := by
  go_enter Tryz.func63, Tryz.ntmps63
  go_wp2_with fail
  go_ret
  refine ⟨?_, rfl⟩
  congr 2

theorem isthere_any (p o : Nat) (k : Int) (w : World) (h : w.cell? ⟨p, o, none⟩ = some (.int .i64 k)) : Calls Tryz.prog 49 #[.pointer (some ⟨p, o, none⟩)] w fun e w' => e = .returned (.bool (decide (k ≠ 0))) ∧ w' = w := by
  go_enter Tryz.func49, Tryz.ntmps49
  go_wp2_with fail
  go_ret
  refine ⟨?_, rfl⟩
  congr 2
  by_cases e : k = 0 <;> simp [e]

theorem usable_at (p : Nat) (k : Int) (w : World) (h : w.cell? ⟨p, 108, none⟩ = some (.int .i64 k)) : Calls Tryz.prog 48 #[.pointer (some ⟨p, 0, none⟩)] w fun e w' => e = .returned (.bool (decide (k = 2))) ∧ w' = w := by
  have k1 := hid (isdir_any p 108 k w h)
  clear h
  go_enter Tryz.func48, Tryz.ntmps48
  go_wp2_with fail
  refine k1.out.mono ?_
  rintro e w1 ⟨rfl, rfl⟩
  go_wp2_with fail
  go_ret
  exact ⟨rfl, rfl⟩
theorem Sy.usable {w : World} {p : Nat} {S : Sg} (h : Sy w p S) : Calls Tryz.prog 48 #[.pointer (some ⟨p, 0, none⟩)] w fun e w' => e = .returned (.bool true) ∧ w' = w := by
  refine (usable_at p 2 w ?_).mono ?_
  · have := h.k 1 (by omega)
    rw [h.root] at this
    exact this
  · rintro e w' ⟨rfl, rfl⟩
    exact ⟨rfl, rfl⟩

/-- How many names a map has. -/
theorem Nms.len {w : World} {m : Option Nat} {L : Nat} {N : List UInt8 → Nat} (h : Nms w m L N) (ty : TypeId) : (Builtin.len_ #[52] ty #[.map m]).run Tryz.prog w = .ok (.int .i64 L) w := by
  cases m with
  | none =>
    obtain ⟨rfl, _⟩ := h
    exact Go.Maps.len_nil (t := 52) Tryz.underlying52 ty
  | some b =>
    obtain ⟨D, h1, h2, _⟩ := h
    have := h1.len (t := 52) Tryz.underlying52 ty
    rw [h2] at this
    exact this

theorem isfull_any (p o : Nat) (m : Option Nat) (L : Nat) (N : List UInt8 → Nat) (w : World) (h6 : w.cell? ⟨p, o + 106, none⟩ = some (.map m)) (hm : Nms w m L N) :
    Calls Tryz.prog 105 #[.pointer (some ⟨p, o, none⟩)] w fun e w' => e = .returned (.bool (decide (6 ≤ L))) ∧ w' = w := by
  have hl := fun ty => hm.len ty
  clear hm
  go_enter Tryz.func105, Tryz.ntmps105
  go_wp2_with fail
  go_ret
  refine ⟨?_, rfl⟩
  congr 2
  simp
  omega

theorem length_any (p o : Nat) (k : Int) (s : Nat) (m : Option Nat) (L : Nat) (N : List UInt8 → Nat) (w : World) (h0 : w.cell? ⟨p, o, none⟩ = some (.int .i64 k)) (h3 : w.cell? ⟨p, o + 3, none⟩ = some (.int .i64 (s : Int))) (h6 : w.cell? ⟨p, o + 106, none⟩ = some (.map m)) (hm : Nms w m L N) :
    Calls Tryz.prog 85 #[.pointer (some ⟨p, o, none⟩)] w fun e w' => e = .returned (.int .i64 (if k = 2 then (L : Int) else (s : Int))) ∧ w' = w := by
  have k1 := hid (isdir_any p o k w h0)
  have hl := fun ty => hm.len ty
  clear h0 hm
  by_cases e : k = 2
  · subst e
    go_enter Tryz.func85, Tryz.ntmps85
    go_wp2_with fail
    refine k1.out.mono ?_
    rintro e w1 ⟨rfl, rfl⟩
    clear k1
    go_wp2_with fail
    go_ret
    exact ⟨rfl, rfl⟩
  · rw [if_neg e]
    rw [show decide (k = 2) = false by simp [e]] at k1
    go_enter Tryz.func85, Tryz.ntmps85
    go_wp2_with fail
    refine k1.out.mono ?_
    rintro e w1 ⟨rfl, rfl⟩
    clear k1
    go_wp2_with fail
    go_ret
    exact ⟨rfl, rfl⟩

end Go.Proofs.YtliekndkjjaldaaGreat

/- What strings.Cut at a slash, strings.HasPrefix of a slash and strings.Clone do. -/
namespace Go.Proofs.YtliekndkjjaldaaGreat
open Go.RowKit
set_option linter.unusedVariables false
set_option maxRecDepth 20000

/-- A text's bytes. -/
def bl (s : ByteArray) : List UInt8 := s.data.toList
theorem bl_len (s : ByteArray) : (bl s).length = s.size := by simp [bl]
theorem bl_inj {s t : ByteArray} (h : bl s = bl t) : s = t := by
  apply ByteArray.ext
  exact Array.toList_inj.1 h
theorem bl_take (s : ByteArray) (m : Nat) : bl (s.extract 0 m) = (bl s).take m := by simp [bl, ByteArray.data_extract]
theorem bl_drop (s : ByteArray) (m : Nat) : bl (s.extract m s.size) = (bl s).drop m := by
  simp only [bl, ByteArray.data_extract, Array.toList_extract]
  rw [List.extract_eq_take_drop]
  apply List.take_of_length_le
  simp

theorem index_slash : ∀ l : List UInt8, Lib.indexByte l 47 = if upto l < l.length then (upto l : Int) else -1
  | [] => rfl
  | c :: r => by
    have ih := index_slash r
    have hle := upto_le r
    rw [Lib.indexByte, ih]
    by_cases h0 : c = 47
    · subst h0; simp [upto]
    · have hne : (c == 47) = false := by simpa using h0
      simp only [upto, h0, hne, if_false, List.length_cons]
      by_cases h : upto r < r.length
      · simp [h]
      · simp [h]

set_option maxHeartbeats 1000000 in
theorem slibyte_any (s : ByteArray) (w : World) :
    Calls Tryz.prog 141 #[.string s, .int .u8 47] w fun e w' => e = .returned (.int .i64 (Lib.indexByte s.data.toList 47)) ∧ w' = w := by
  have hrun := Lib.run_indexByteString (P := Tryz.prog) s 47 w
  rw [show ((47 : Int).toNat.toUInt8) = 47 by rfl] at hrun
  obtain ⟨X, gX⟩ : ∃ X : Int, X = Lib.indexByte s.data.toList 47 := ⟨_, rfl⟩
  rw [← gX] at hrun ⊢
  clear gX
  go_enter Tryz.func141, Tryz.ntmps141
  go_wp2
  rw [run_callFunc_extern Tryz.func149 (by kernel_rfl) (by kernel_rfl) (by kernel_rfl) (e := Extern.BytealgIndexByte.indexByte) (by kernel_rfl), hrun]
  simp only [Result.andThen]
  rw [Oper.upon_value]
  go_wp2
  go_ret
  exact ⟨rfl, rfl⟩

set_option maxHeartbeats 2000000 in
set_option maxRecDepth 20000 in
theorem slindex_any (s : ByteArray) (w : World) :
    Calls Tryz.prog 131 #[.string s, .string ⟨#[47]⟩] w fun e w' => e = .returned (.int .i64 (Lib.indexByte s.data.toList 47)) ∧ w' = w := by
  go_enter Tryz.func131, Tryz.ntmps131
  go_wp2_with (go_at_call 141; refine (slibyte_any _ _).mono ?_; rintro e w' ⟨rfl, rfl⟩)
  · have h : ([47] == s.toList) = true := by assumption
    go_ret
    refine ⟨?_, rfl⟩
    have e : s.data.toList = [47] := by rw [← Lib.toList_data]; exact (beq_iff_eq.1 h).symm
    rw [e]
    simp [Lib.indexByte]
  · go_ret
    exact ⟨rfl, rfl⟩

/-- What Cut tells of a text. -/
def cutV (s : ByteArray) : Value := if upto (bl s) < s.size then .tuple #[.string (s.extract 0 (upto (bl s))), .string (s.extract (upto (bl s) + 1) s.size), .bool true] else .tuple #[.string s, .string ⟨#[]⟩, .bool false]

set_option maxHeartbeats 2000000 in
theorem lcut_any (s : ByteArray) (w : World) (hs : s.size ≤ 140737488355328) :
    Calls Tryz.prog 126 #[.string s, .string ⟨#[47]⟩] w fun e w' => e = .returned (cutV s) ∧ ∃ n, w' = w.drewN n := by
  have k := hid (slindex_any s w)
  rw [index_slash] at k
  have hl := bl_len s
  unfold bl at hl
  rw [hl] at k
  unfold cutV
  by_cases h : upto (bl s) < s.size
  · rw [if_pos h]
    unfold bl at h ⊢
    rw [if_pos h] at k
    obtain ⟨m, gm⟩ : ∃ m, m = upto s.data.toList := ⟨_, rfl⟩
    rw [← gm] at k h ⊢
    clear gm hl
    have c1 : (0 : Int) ≤ (m : Int) := by omega
    have c2 : (m : Int) ≤ (s.size : Int) := by omega
    have c3 : (0 : Int) ≤ (m : Int) + 1 := by omega
    have c4 : (m : Int) + 1 ≤ (s.size : Int) := by omega
    have c5 : IntKind.i64.wrap ((m : Int) + 1) = (m : Int) + 1 := by rw [IntKind.wrap_i64]; omega
    have c6 : wrap64 ((m : Int) + 1) = (m : Int) + 1 := by unfold wrap64; omega
    go_enter Tryz.func126, Tryz.ntmps126
    go_wp2_with fail
    refine k.out.mono ?_
    rintro e w1 ⟨rfl, rfl⟩
    go_wp2_with fail
    go_region_held3 (fun _ => True) (trivial) (fail)
    go_wp2
    go_ret3
    exact ⟨rfl, 1, rfl⟩
  · rw [if_neg h]
    unfold bl at h
    rw [if_neg h] at k
    clear hl
    go_enter Tryz.func126, Tryz.ntmps126
    go_wp2_with fail
    refine k.out.mono ?_
    rintro e w1 ⟨rfl, rfl⟩
    go_wp2_with fail
    go_ret3
    exact ⟨rfl, 0, rfl⟩

set_option maxHeartbeats 2000000 in
theorem scut_any (s : ByteArray) (w : World) (hs : s.size ≤ 140737488355328) :
    Calls Tryz.prog 108 #[.string s, .string ⟨#[47]⟩] w fun e w' => e = .returned (cutV s) ∧ ∃ n, w' = w.drewN n := by
  have k := hid (lcut_any s w hs)
  unfold cutV at k ⊢
  by_cases h : upto (bl s) < s.size
  · rw [if_pos h] at k ⊢
    go_enter Tryz.func108, Tryz.ntmps108
    go_wp2_with fail
    refine k.out.mono ?_
    rintro e w1 ⟨rfl, n, rfl⟩
    go_wp2_with fail
    go_ret3
    exact ⟨rfl, n, rfl⟩
  · rw [if_neg h] at k ⊢
    go_enter Tryz.func108, Tryz.ntmps108
    go_wp2_with fail
    refine k.out.mono ?_
    rintro e w1 ⟨rfl, n, rfl⟩
    go_wp2_with fail
    go_ret3
    exact ⟨rfl, n, rfl⟩

end Go.Proofs.YtliekndkjjaldaaGreat

/- Contracts of the library, laid at this program by the shelf's own program: strings.HasPrefix, and what strings.Clone calls. -/
namespace Go.Proofs
open Go.Shelf
def Tryz.laysM316_ren : Go.Shelf.Ren := ⟨fun | 316 => 124 | n => n, fun | 9 => 9 | 3 => 3 | 4 => 4 | 37 => 30 | 0 => 0 | 127 => 158 | 5 => 5 | n => n, fun | n => n⟩
theorem Tryz.laysM316 : Go.Proofs.LaysM.n316 Tryz.prog Tryz.laysM316_ren := {
  mixed := by kernel_rfl
  f316 := Tryz.func124.trans (congrArg some (by kernel_rfl))
  t0 := Tryz.underlying0
  a0 := Tryz.isAgg0
  z0 := Tryz.sizeOf0
  v0 := Tryz.zeroValue0
  t3 := Tryz.underlying3
  a3 := Tryz.isAgg3
  z3 := Tryz.sizeOf3
  v3 := Tryz.zeroValue3
  t4 := Tryz.underlying4
  a4 := Tryz.isAgg4
  z4 := Tryz.sizeOf4
  v4 := Tryz.zeroValue4
  t9 := Tryz.underlying9
  a9 := Tryz.isAgg9
  z9 := Tryz.sizeOf9
  v9 := Tryz.zeroValue9
  t37 := Tryz.underlying30
  a37 := Tryz.isAgg30
  z37 := Tryz.sizeOf30
  v37 := Tryz.zeroValue30
  t127 := Tryz.underlying158
  a127 := Tryz.isAgg158
  z127 := Tryz.sizeOf158
  v127 := Tryz.zeroValue158
  t5 := Tryz.underlying5
  a5 := Tryz.isAgg5
  z5 := Tryz.sizeOf5
  v5 := Tryz.zeroValue5
  i0 := by kernel_rfl
  i3 := by kernel_rfl
  i4 := by kernel_rfl
  i5 := by kernel_rfl
  i9 := by kernel_rfl
  i37 := by kernel_rfl
  i127 := by kernel_rfl }
open Go.RowKit in
theorem Tryz.stringslite_Clone (s : ByteArray) (w : World) (hlim : s.size ≤ 281474976710656) :
    Calls Tryz.prog 124 #[.string s] w fun e w' => e = .returned (.string s) ∧ Below w.heap.size w w' := Any.stringslite_Clone Tryz.laysM316 s w hlim
def Tryz.lays99_ren : Go.Shelf.Ren := ⟨fun | 99 => 107 | 206 => 125 | n => n, fun | 9 => 9 | 4 => 4 | 3 => 3 | n => n, fun | n => n⟩
theorem Tryz.lays99 : Go.Proofs.Lays.n99 Tryz.prog Tryz.lays99_ren := {
  mixed := by kernel_rfl
  f99 := Tryz.func107.trans (congrArg some (by kernel_rfl))
  f206 := Tryz.func125.trans (congrArg some (by kernel_rfl))
  t3 := Tryz.underlying3
  a3 := Tryz.isAgg3
  z3 := Tryz.sizeOf3
  v3 := Tryz.zeroValue3
  t4 := Tryz.underlying4
  a4 := Tryz.isAgg4
  z4 := Tryz.sizeOf4
  v4 := Tryz.zeroValue4
  t9 := Tryz.underlying9
  a9 := Tryz.isAgg9
  z9 := Tryz.sizeOf9
  v9 := Tryz.zeroValue9 }
open Go.RowKit Go.Lib in
theorem Tryz.strings_HasPrefix (s p : ByteArray) (w : World) :
    Calls Tryz.prog 107 #[.string s, .string p] w fun e w' => e = .returned (.bool (Lib.hasPrefix s.data.toList p.data.toList)) ∧ w' = w := Any.strings_HasPrefix Tryz.lays99 s p w
end Go.Proofs

/- What a walk along a path comes to. -/
namespace Go.Proofs.YtliekndkjjaldaaGreat
open Go.RowKit Go.ChangeMaps Go.MapKept
set_option linter.unusedVariables false
set_option maxRecDepth 20000

/-- A place as it is told: the way's numbers in a row of the call's own, the name, the node. -/
def Plc (w : World) (B : Nat) (v : Value) (y : List Nat) (s : List UInt8) (n : Nat) : Prop :=
  ∃ yv nm, v = .agg #[yv, .string nm, .int .i64 (n : Int)] ∧ bl nm = s ∧ w.ownsRow B 3 1 yv y.length (y.map fun (i : Nat) => Value.int .i64 (i : Int))

/-- What a walk answers. -/
def Walked (w : World) (B : Nat) (r : Except Int (List Nat × List UInt8 × Nat)) (v : Value) : Prop :=
  match r with
  | .error e => v = .tuple #[.agg #[.slice none 0 0, .string ⟨#[]⟩, .int .i64 0], .int .i64 e]
  | .ok (y, s, n) => ∃ u, v = .tuple #[u, .int .i64 0] ∧ Plc w B u y s n

/-- A map's answer at a name. -/
theorem Nms.look {w : World} {m : Option Nat} {L : Nat} {N : List UInt8 → Nat} (h : Nms w m L N) (s : ByteArray) (hs : s.size ≤ 9223372036854775807) (W : World) (hW : ∀ b, m = some b → W.heap[b]? = w.heap[b]?) :
    (Instr.lookup 52 (.map m) (.string s) false).run Tryz.prog W = .ok (.int .i64 (N (bl s) : Int)) W := by
  have h' := h.block hW
  have hkey : keyOf Tryz.prog 9 (.string s) = some (.string s.data.toList) := Go.WideMaps.keyOf_string_mk Tryz.underlying9 (by simpa [maxLen] using hs)
  have hz := Tryz.zeroValue3 W
  cases m with
  | none =>
    obtain ⟨_, h0⟩ := h'
    have := Go.Maps.look_nil (t := 52) (w := W) false (Go.Maps.string_keyed Tryz.underlying9) Tryz.underlying52 hz hkey
    rw [h0]
    simpa using this
  | some b =>
    obtain ⟨D, h1, h2, h3, h4⟩ := h'
    obtain ⟨c, hr, hc, _⟩ := h1.lookup_int (t := 52) (Go.Maps.string_keyed Tryz.underlying9) Tryz.underlying52 Tryz.underlying3 hz hkey
    have e := (h3 (bl s)).symm.trans hc
    simp only [DataW.lit.injEq, Lit.int.injEq, true_and] at e
    rw [hr, e]

theorem hasp_slash (s : ByteArray) (w : World) : Calls Tryz.prog 107 #[.string s, .string ⟨#[47]⟩] w fun e w' => e = .returned (.bool (decide ((bl s).head? = some 47))) ∧ w' = w := by
  refine (Tryz.strings_HasPrefix s ⟨#[47]⟩ w).mono ?_
  rintro e w' ⟨rfl, rfl⟩
  refine ⟨?_, rfl⟩
  congr 2
  show Lib.hasPrefix (bl s) [47] = _
  cases bl s with
  | nil => simp [Lib.hasPrefix]
  | cons c r =>
    have e : (47 == c) = decide (c = 47) := by
      by_cases h : c = 47
      · subst h; rfl
      · have h2 : ¬ 47 = c := fun q => h q.symm
        simp [h, h2]
    simp [Lib.hasPrefix, List.isPrefixOf, e]

end Go.Proofs.YtliekndkjjaldaaGreat
