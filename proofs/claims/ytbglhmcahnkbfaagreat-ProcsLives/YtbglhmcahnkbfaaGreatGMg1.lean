/- Texts of this seat, merged. -/
import Derived.WalkKit
import Derived.WalkSpells
import Derived.WalkLawsBesides
import Derived.Outline
import Derived.Laws.CopyOwn
import Derived.Laws.MakeOwn

/- Laws of the walk, for whatever program: 'make([]T, n, c)' with both numbers variables, and small facts on rows of bytes. -/
namespace Go.Proofs.YtbglhmcahnkbfaaGreat
open Go.RowKit
set_option maxRecDepth 20000

theorem hid {p : Prop} (h : p) : Hid p := h

/-- 'make([]T, n, c)': a new row of c cells; the world is known. -/
theorem wpList_make_lc {P : Program} (w : World) {ops : Array Oper} {rest : List Oper} {o : Oper} {a : Act} {Q : Exit → Act → World → Prop}
    (hg : o.guard = none) (l c : Operand) (t : TypeId) (hop : o.op = Op.makeSlice t l c)
    (e : TypeId) (i : TypeInfo) (z : Value) (size : Nat) (h1 : P.underlying t = some (.slice e)) (h2 : P.info? e = some i) (h3 : i.zero = some z) (h4 : i.size = size)
    (kl kc : IntKind) (L C : Int) (n m : Nat) (hl : a.eval l = .int kl L) (hc : a.eval c = .int kc C) (hL : L = (n : Int)) (hC : C = (m : Int)) (hnm : n ≤ m) (b2 : i.bytes * m ≤ 281474976710656) (b3 : m ≤ maxLen)
    (hK : wpList P ops Q rest (a.put o.dst (.slice (some ⟨w.heap.size, 0, none⟩) n m)) (w.alloc (.cells (madeCells z.cells (m * size)) e))) :
    wpList P ops Q (o :: rest) a w := by
  refine wpList_plain hg fun K hK' => ?_
  subst h4
  have b3' : (m : Int) ≤ 9223372036854775807 := by simp [maxLen] at b3; omega
  have hb' : (i.bytes : Int) * (m : Int) ≤ 281474976710656 := by
    have h : ((i.bytes * m : Nat) : Int) ≤ 281474976710656 := by omega
    rwa [Int.natCast_mul] at h
  have hrun := run_make (P := P) w t e i z h1 h2 h3 kl kc n m (by omega) (by omega) hb' b3'
  simp only [Int.toNat_natCast] at hrun
  subst hL
  subst hC
  unfold Oper.wp
  simp [execOp, hop, hl, hc, hrun, Result.andThen]
  exact hK' _ _ hK

theorem below_drewN {B : Nat} {w a : World} (h : Below B w a) (n : Nat) : Below B w (a.drewN n) := ⟨h.os, h.tape, h.output, h.size, h.block⟩

/-- Bytes that lie somewhere in memory (nil and empty ones too): the numbers 'zs'. -/
def Src (w : World) (a0 : Option Addr) (len : Nat) (zs : List Int) : Prop :=
  zs.length = len ∧ (0 < len → ∃ b o, a0 = some ⟨b, o, none⟩ ∧ b < w.heap.size ∧ ∀ j, j < len → w.cell? ⟨b, o + j, none⟩ = some (.int .u8 (zs.getD j 0)))

theorem Src.nil (w : World) (a0 : Option Addr) : Src w a0 0 [] := ⟨rfl, fun h => absurd h (Nat.lt_irrefl 0)⟩

theorem Src.below {w w' : World} {a0 : Option Addr} {len : Nat} {zs : List Int} (h : Src w a0 len zs) (hb : Below w.heap.size w w') : Src w' a0 len zs :=
  ⟨h.1, fun hl => by
    obtain ⟨b, o, e, hlt, hc⟩ := h.2 hl
    exact ⟨b, o, e, Nat.lt_of_lt_of_le hlt hb.size, fun j hj => (hb.cell (p := ⟨b, o + j, none⟩) hlt).trans (hc j hj)⟩⟩

/-- A row that is owned is bytes that lie somewhere. -/
theorem Src.own {w : World} {B e g n cap : Nat} {zs : List Int} (h : w.ownsRow B e 1 (.slice (some ⟨g, 0, none⟩) n cap) n (zs.map (Value.int .u8))) : Src w (some ⟨g, 0, none⟩) n zs := by
  have hl : zs.length = n := by have := h.1; simpa using this
  refine ⟨hl, fun hn => ⟨g, 0, rfl, (h.lt g rfl).2, fun j hj => ?_⟩⟩
  have := h.cellAt j (by omega)
  rw [Nat.zero_add, this]
  simp [List.getD, List.getElem?_eq_getElem (show j < zs.length by omega)]

/-- Whoever owns a row owns it behind whatever leaves old memory. -/
theorem own_below {w w' : World} {B e size : Nat} {v : Value} {n : Nat} {xs : List Value} (h : w.ownsRow B e size v n xs) (hb : Below w.heap.size w w') : w'.ownsRow B e size v n xs := by
  obtain ⟨h1, h2⟩ := h
  refine ⟨h1, ?_⟩
  rcases h2 with h2 | ⟨g, cap, cur, hv, hg, hh, r⟩
  · exact .inl h2
  · refine .inr ⟨g, cap, cur, hv, hg, ?_, r⟩
    have hlt : g < w.heap.size := by
      rcases Nat.lt_or_ge g w.heap.size with h | h
      · exact h
      · rw [Array.getElem?_eq_none h] at hh; cases hh
    rw [hb.block g hlt]; exact hh

theorem own_base {w : World} {B B' e size n : Nat} {v : Value} {xs : List Value} (h : w.ownsRow B' e size v n xs) (hB : B ≤ B') : w.ownsRow B e size v n xs := by
  obtain ⟨h1, h2⟩ := h
  refine ⟨h1, ?_⟩
  rcases h2 with h2 | ⟨g, cap, cur, a, b, c⟩
  · exact .inl h2
  · exact .inr ⟨g, cap, cur, a, Nat.le_trans hB b, c⟩

end Go.Proofs.YtbglhmcahnkbfaaGreat

/- Which blocks a call turns: words for it, for whatever program; and 'copy' of elements of two cells. -/
namespace Go.Proofs.YtbglhmcahnkbfaaGreat
open Go.RowKit
set_option maxRecDepth 20000
set_option linter.unusedVariables false

/-- Nothing but the blocks of F turns; there may be new ones. -/
structure Upd (F : Nat → Prop) (w w' : World) : Prop where
  os : w'.os = w.os
  tape : w'.tape = w.tape
  output : w'.output = w.output
  size : w.heap.size ≤ w'.heap.size
  block : ∀ k, k < w.heap.size → ¬ F k → w'.heap[k]? = w.heap[k]?

theorem Upd.refl (F : Nat → Prop) (w : World) : Upd F w w := ⟨rfl, rfl, rfl, Nat.le_refl _, fun _ _ _ => rfl⟩

theorem Upd.trans {F G : Nat → Prop} {a b c : World} (h : Upd F a b) (k : Upd G b c) (hG : ∀ x, x < a.heap.size → G x → F x) : Upd F a c :=
  ⟨k.os.trans h.os, k.tape.trans h.tape, k.output.trans h.output, Nat.le_trans h.size k.size, fun x hx hF =>
    (k.block x (Nat.lt_of_lt_of_le hx h.size) (fun g => hF (hG x hx g))).trans (h.block x hx hF)⟩

theorem Upd.mono {F G : Nat → Prop} {a b : World} (h : Upd F a b) (hF : ∀ x, x < a.heap.size → F x → G x) : Upd G a b :=
  ⟨h.os, h.tape, h.output, h.size, fun x hx hG => h.block x hx (fun f => hG (hF x hx f))⟩

theorem Upd.of_below {F : Nat → Prop} {w w' : World} (h : Below w.heap.size w w') : Upd F w w' := ⟨h.os, h.tape, h.output, h.size, fun k hk _ => h.block k hk⟩

theorem Upd.below {F : Nat → Prop} {B : Nat} {w w' : World} (h : Upd F w w') (hB : B ≤ w.heap.size) (hF : ∀ x, F x → B ≤ x) : Below B w w' :=
  ⟨h.os, h.tape, h.output, h.size, fun k hk => h.block k (Nat.lt_of_lt_of_le hk hB) (fun f => by have := hF k f; omega)⟩

theorem Upd.of_grown {w w' : World} {row : Option Nat} (h : w.grownBy w' row) : Upd (fun k => some k = row) w w' := ⟨h.os, h.tape, h.output, h.size, fun k hk hn => h.block k hk hn⟩

theorem Upd.alloc (F : Nat → Prop) (w : World) (o : Obj) : Upd F w (w.alloc o) := Upd.of_below ((Below.refl _ _).alloc (Nat.le_refl _) o)

theorem Upd.setCell {F : Nat → Prop} (w : World) (p : Addr) (u : Value) (hp : F p.block) : Upd F w (w.setCell p u) :=
  ⟨rfl, rfl, rfl, by simp, fun k _ hk => heap_setCell_other w p k u (fun e => hk (e ▸ hp))⟩

theorem Upd.setRow {F : Nat → Prop} (w : World) (g : Nat) (cs : Array Value) (hp : F g) : Upd F w (w.setRow g cs) :=
  ⟨rfl, rfl, rfl, by simp, fun k _ hk => setRow_other w g k cs (fun e => hk (e ▸ hp))⟩

theorem Upd.drewN {F : Nat → Prop} {w a : World} (h : Upd F w a) (n : Nat) : Upd F w (a.drewN n) := ⟨h.os, h.tape, h.output, h.size, h.block⟩

theorem Upd.own {F : Nat → Prop} {w w' : World} {B e size n : Nat} {v : Value} {xs : List Value} (u : Upd F w w') (h : w.ownsRow B e size v n xs) (hF : ∀ k, v.ownBlock = some k → ¬ F k) : w'.ownsRow B e size v n xs := by
  refine ⟨h.1, ?_⟩
  rcases h.2 with hn | ⟨g, cap, cur, rfl, hb, hgg, rest⟩
  · exact .inl hn
  · refine .inr ⟨g, cap, cur, rfl, hb, ?_, rest⟩
    rw [u.block g (Array.getElem?_eq_some_iff.1 hgg).1 (hF g rfl)]
    exact hgg

theorem Upd.src {F : Nat → Prop} {w w' : World} {a : Option Addr} {n : Nat} {zs : List Int} (u : Upd F w w') (h : Src w a n zs) (hF : ∀ b o, a = some ⟨b, o, none⟩ → ¬ F b) : Src w' a n zs :=
  ⟨h.1, fun hl => by
    obtain ⟨b, o, e, hlt, hc⟩ := h.2 hl
    exact ⟨b, o, e, Nat.lt_of_lt_of_le hlt u.size, fun j hj => (World.cell?_of_block (a := ⟨b, o + j, none⟩) (u.block b hlt (hF b o e))).trans (hc j hj)⟩⟩

theorem Upd.heap {F : Nat → Prop} {w w' : World} (u : Upd F w w') {k : Nat} {o : Obj} (h : w.heap[k]? = some o) (hF : ¬ F k) : w'.heap[k]? = some o := by
  rw [u.block k (Array.getElem?_eq_some_iff.1 h).1 hF]; exact h

/-- 'append' to a row that is owned: it stays where it was, or is new. -/
theorem run_append_where {P : Program} (w : World) (t ty e : TypeId) (i : TypeInfo) (z : Value) (size bytes : Nat) (ht : P.underlying t = some (.slice e)) (hi : P.info? e = some i) (hz : i.zero = some z)
    (hsize : i.size = size) (hby : i.bytes = bytes) (hzs : z.cells.size = size) (hsz : 0 < size)
    (v : Value) (n : Nat) (xs : List Value) (hown : w.ownsRow 0 e size v n xs)
    (a : Addr) (m c : Nat) (news : List Value) (hl : news.length = m * size) (hnews : ∀ j u, news[j]? = some u → w.cell? (a.add j) = some u) (h1 : ∀ u ∈ news, u.oneCell' = true)
    (h63 : n + m ≤ maxLen) (hbytes : (n + m) * bytes ≤ 140737488355328) :
    ∃ v' w', (Builtin.append_ #[t, t] ty #[v, .slice (some a) m c]).run P w = .ok v' w' ∧ w'.ownsRow 0 e size v' (n + m) (xs ++ news) ∧ w.grownBy w' v.ownBlock ∧
      (v' = .slice none 0 0 ↔ v = .slice none 0 0 ∧ m = 0) ∧ (v'.ownBlock = v.ownBlock ∨ ∀ x, v'.ownBlock = some x → w.heap.size ≤ x) := by
  obtain ⟨v', w', hr, h2, h3, h4⟩ := run_append_own (P := P) w 0 t ty e i z size bytes ht hi hz hsize hby hzs hsz v n xs hown a m c news hl hnews h1 h63 hbytes (Nat.zero_le _)
  refine ⟨v', w', hr, h2, h3, h4, ?_⟩
  rcases hown.2 with ⟨rfl, rfl⟩ | ⟨g, cap, cur, rfl, hbg, hg, hnc, hcm, hcs, htake⟩
  · have hx : xs = [] := List.eq_nil_of_length_eq_zero (by simpa using hown.1)
    subst hx
    obtain ⟨v2, w2, hr2, k2, _⟩ := run_append_own (P := P) w w.heap.size t ty e i z size bytes ht hi hz hsize hby hzs hsz _ 0 [] (World.ownsRow_nil w w.heap.size e size) a m c news hl hnews h1 h63 hbytes (Nat.le_refl _)
    rw [hr] at hr2
    injection hr2 with e1 e2
    subst e1
    exact .inr fun x hx => (k2.lt x hx).1
  · by_cases hroom : n + m ≤ cap
    · obtain ⟨w2, hr2, _⟩ := run_append_fits (P := P) w 0 t ty e i size ht hi hsize g n cap xs hown a m c news hl hnews h1 hroom
      rw [hr] at hr2
      injection hr2 with e1 e2
      subst e1
      exact .inl rfl
    · subst hsize
      have hr2 := run_append_grow (P := P) w t ty e i z ht hi hz ⟨g, 0, none⟩ n cap xs hown.1 (hown.cells (g := g) rfl) a m c news hl hnews (by omega) (by simp only [maxLen] at h63; omega) (by rw [hby]; exact growslice_fits (by omega) hbytes)
      rw [hr] at hr2
      injection hr2 with e1 e2
      subst e1
      refine .inr fun x hx => ?_
      simp [Value.ownBlock] at hx
      omega

theorem wpList_append_where {P : Program} {w : World} {ops : Array Oper} {rest : List Oper} {o : Oper} {a : Act} {Q : Exit → Act → World → Prop} (hgd : o.guard = none) (s x : Operand) (t : TypeId)
    (ho : o.op = .call { callee := .builtin .append, args := #[s, x], argTypes := #[t, t] })
    (e : TypeId) (i : TypeInfo) (z : Value) (size bytes : Nat) (ht : P.underlying t = some (.slice e)) (hi : P.info? e = some i) (hz : i.zero = some z)
    (hsize : i.size = size) (hby : i.bytes = bytes) (hzs : z.cells.size = size) (hsz : 0 < size)
    (v : Value) (n : Nat) (xs : List Value) (hs : a.eval s = v) (hown : w.ownsRow 0 e size v n xs)
    (ad : Addr) (m c : Nat) (news : List Value) (hx : a.eval x = .slice (some ad) m c) (hl : news.length = m * size) (hnews : ∀ j u, news[j]? = some u → w.cell? (ad.add j) = some u) (h1 : ∀ u ∈ news, u.oneCell' = true)
    (h63 : n + m ≤ maxLen) (hbytes : (n + m) * bytes ≤ 140737488355328)
    (h : ∀ v' w', Hid (w'.ownsRow 0 e size v' (n + m) (xs ++ news)) → Upd (fun x => v.ownBlock = some x) w w' → Hid (v' = .slice none 0 0 ↔ v = .slice none 0 0 ∧ m = 0) → Hid (v'.ownBlock = v.ownBlock ∨ ∀ x, v'.ownBlock = some x → w.heap.size ≤ x) → wpList P ops Q rest (a.put o.dst v') w') :
    wpList P ops Q (o :: rest) a w := by
  refine wpList_plain hgd fun K hK => ?_
  obtain ⟨v', w', hr, h2, h3, h4, h5⟩ := run_append_where (P := P) w t o.type e i z size bytes ht hi hz hsize hby hzs hsz v n xs hown ad m c news hl hnews h1 h63 hbytes
  unfold Oper.wp execOp
  simp only [ho, resolve, invoke, builtin, Sem.run_bind, Sem.run_pure, Result.andThen_ok, List.map_toArray, List.map_cons, List.map_nil, hs, hx, hr]
  exact hK _ _ (h v' w' h2 ((Upd.of_grown h3).mono fun x _ hx => hx.symm) h4 h5)

end Go.Proofs.YtbglhmcahnkbfaaGreat

/- Paths and file systems without memory: a path's names; what a walk along them comes to. -/
namespace Go.Proofs.YtbglhmcahnkbfaaGreat
set_option linter.unusedVariables false

/-- A text's pieces between slashes. -/
def spl : List UInt8 → List (List UInt8)
  | [] => [[]]
  | c :: r => if c = 47 then [] :: spl r else match spl r with
    | x :: xs => (c :: x) :: xs
    | [] => [[c]]
theorem spl_ne : ∀ l, spl l ≠ []
  | [] => by simp [spl]
  | c :: r => by
    unfold spl
    split
    · simp
    · split <;> simp
/-- How many bytes stand ahead of the first slash. -/
def upto : List UInt8 → Nat
  | [] => 0
  | c :: r => if c = 47 then 0 else upto r + 1
theorem upto_le : ∀ l, upto l ≤ l.length
  | [] => by simp [upto]
  | c :: r => by
    have := upto_le r
    unfold upto
    split <;> simp <;> omega
theorem spl_no : ∀ l, upto l = l.length → spl l = [l]
  | [], _ => rfl
  | c :: r, h => by
    unfold upto at h
    unfold spl
    split at h
    · simp at h
    · rename_i hc
      rw [if_neg hc, spl_no r (by simpa using h)]
theorem spl_yes : ∀ l, upto l < l.length → spl l = l.take (upto l) :: spl (l.drop (upto l + 1))
  | [], h => by simp [upto] at h
  | c :: r, h => by
    by_cases hc : c = 47
    · simp [upto, spl, hc]
    · have e : upto (c :: r) = upto r + 1 := by simp [upto, hc]
      rw [e] at h ⊢
      have h2 := spl_yes r (by simpa using h)
      simp [spl, hc, h2]
/-- A walk: the kinds of nodes, what names name, where it stands, the way there, the names that are left. An error; or the way, the last name, what it names. -/
def wk (K : Nat → Int) (N : Nat → List UInt8 → Nat) : Nat → List Nat → List (List UInt8) → Except Int (List Nat × List UInt8 × Nat)
  | _, _, [] => .error 0
  | n, y, s :: r =>
    if K n = 0 then .error 2 else if K n ≠ 2 then .error 20 else if s = [] then .error 22 else if 6 < s.length then .error 36 else
    match r with
    | [] => .ok (y ++ [n], s, N n s)
    | q :: t => wk K N (N n s) (y ++ [n]) (q :: t)

/-- Another mark at a number; how many of the first numbers are marked. -/
def updT (T : Nat → Bool) (i : Nat) (x : Bool) : Nat → Bool := fun j => if j = i then x else T j
theorem updT_same (T : Nat → Bool) (i : Nat) (x : Bool) : updT T i x i = x := by simp [updT]
theorem updT_ne (T : Nat → Bool) (i j : Nat) (x : Bool) (h : j ≠ i) : updT T i x j = T j := by simp [updT, h]
def cnt (T : Nat → Bool) : Nat → Nat
  | 0 => 0
  | n + 1 => cnt T n + if T n then 1 else 0
theorem cnt_out (T : Nat → Bool) (b : Nat) (x : Bool) : ∀ n, n ≤ b → cnt (updT T b x) n = cnt T n
  | 0, _ => rfl
  | n + 1, h => by
    unfold cnt
    rw [cnt_out T b x n (by omega), updT_ne _ _ _ _ (by omega)]
theorem cnt_set (T : Nat → Bool) (b : Nat) (hb : T b = false) : ∀ n, b < n → cnt (updT T b true) n = cnt T n + 1
  | 0, h => by omega
  | n + 1, h => by
    unfold cnt
    by_cases e : n = b
    · subst e; rw [cnt_out _ _ _ _ (Nat.le_refl _), updT_same, hb]; simp
    · rw [cnt_set T b hb n (by omega), updT_ne _ _ _ _ e]; omega
theorem cnt_clr (T : Nat → Bool) (b : Nat) (hb : T b = true) : ∀ n, b < n → cnt (updT T b false) n + 1 = cnt T n
  | 0, h => by omega
  | n + 1, h => by
    unfold cnt
    by_cases e : n = b
    · subst e; rw [cnt_out _ _ _ _ (Nat.le_refl _), updT_same, hb]; simp
    · have := cnt_clr T b hb n (by omega)
      rw [updT_ne _ _ _ _ e]; omega
theorem cnt_le (T : Nat → Bool) : ∀ n, cnt T n ≤ n
  | 0 => Nat.le_refl _
  | n + 1 => by
    have := cnt_le T n
    unfold cnt
    split <;> omega

end Go.Proofs.YtbglhmcahnkbfaaGreat

/- A file system without memory: what each call of it comes to. -/
namespace Go.Proofs.YtbglhmcahnkbfaaGreat
open Go.RowKit
set_option linter.unusedVariables false

/-- A file or a directory: its kind, links, who holds it, its bytes, its blocks, its names in order. -/
structure Fn where
  k : Int
  l : Int
  h : Int
  c : List Int
  B : List Nat
  Q : List (List UInt8 × Nat)
def Fn.no : Fn := ⟨0, 0, 0, [], [], []⟩
def Fn.nu (k : Int) : Fn := ⟨k, 1, 0, [], [], []⟩

/-- Its defects, its nodes by their numbers, which blocks are allocated. -/
structure Fs where
  d : Int
  P : Nat → Fn
  T : Nat → Bool

/-- What a list of names says of a name; with one more; without one. -/
def lk : List (List UInt8 × Nat) → List UInt8 → Nat
  | [], _ => 0
  | x :: r, s => if x.1 = s then x.2 else lk r s
def gtB (a b : List UInt8) : Bool := !(Op.bytesLess a b || a == b)
def ins (s : List UInt8) (n : Nat) : List (List UInt8 × Nat) → List (List UInt8 × Nat)
  | [] => [(s, n)]
  | x :: r => if gtB x.1 s = true then (s, n) :: x :: r else x :: ins s n r
def del (s : List UInt8) (Q : List (List UInt8 × Nat)) : List (List UInt8 × Nat) := Q.filter (fun x => decide (x.1 ≠ s))

/-- Whether a defect is there. -/
def dfc (d b : Int) : Bool := decide (bits .and .i64 d b ≠ 0)

namespace Fs
def at_ (F : Fs) (i : Nat) (x : Fn) : Fs := { F with P := fun j => if j = i then x else F.P j }
def nq (F : Fs) (i : Nat) (Q : List (List UInt8 × Nat)) : Fs := F.at_ i { F.P i with Q := Q }
def addn (F : Fs) (i : Nat) (s : List UInt8) (n : Nat) : Fs := F.nq i (ins s n (F.P i).Q)
def deln (F : Fs) (i : Nat) (s : List UInt8) : Fs := F.nq i (del s (F.P i).Q)
def lnk (F : Fs) (i : Nat) (l : Int) : Fs := F.at_ i { F.P i with l := l }
def hld (F : Fs) (i : Nat) (h : Int) : Fs := F.at_ i { F.P i with h := h }
def relB (F : Fs) (B : List Nat) : Fs := if dfc F.d 2 = true then F else { F with T := fun b => if b ∈ B then false else F.T b }
/-- A node goes that nothing keeps. -/
def gone (F : Fs) (n : Nat) : Fs := if 0 < (F.P n).l ∨ 0 < (F.P n).h then F else (F.relB (F.P n).B).at_ n Fn.no
/-- A link less. -/
def less (F : Fs) (n : Nat) : Fs := (F.lnk n ((F.P n).l - 1)).gone n

def dirOf (y : List Nat) : Nat := y.getLastD 0
def K (F : Fs) (i : Nat) : Int := (F.P i).k
def N (F : Fs) (i : Nat) (s : List UInt8) : Nat := lk (F.P i).Q s
def walk (F : Fs) (l : List UInt8) : Except Int (List Nat × List UInt8 × Nat) := if l.head? = some 47 ∧ l ≠ [47] then wk F.K F.N 1 [] (spl (l.drop 1)) else .error 22
def find (F : Fs) (l : List UInt8) : Nat × Int := if l = [47] then (1, 0) else match F.walk l with
  | .error e => (0, e)
  | .ok (_, _, n) => if n = 0 then (0, 2) else (n, 0)

/-- The lowest number of 1 to 16 that no node has; 0: there is none. -/
def free (F : Fs) : Nat := ((List.range' 1 16).find? (fun i => decide ((F.P i).k = 0))).getD 0

def make (F : Fs) (l : List UInt8) (kind : Int) : Fs × Nat × Int :=
  if kind ≠ 1 ∧ kind ≠ 2 then (F, 0, 22) else match F.walk l with
  | .error e => (F, 0, e)
  | .ok (y, s, n) => if n ≠ 0 then (F, 0, 17) else if 6 ≤ (F.P (dirOf y)).Q.length then (F, 0, 28) else if F.free = 0 then (F, 0, 28) else
    ((F.at_ F.free (Fn.nu kind)).addn (dirOf y) s F.free, F.free, 0)

def unlink (F : Fs) (l : List UInt8) : Fs × Int := match F.walk l with
  | .error e => (F, e)
  | .ok (y, s, n) => if n = 0 then (F, 2) else if (F.P n).k = 2 then (F, 21) else if 1 < (F.P n).l ∧ dfc F.d 1 = true then (F.deln (dirOf y) s, 0) else ((F.deln (dirOf y) s).less n, 0)

/-- What keeps a directory from being taken away. -/
def stays (F : Fs) (n : Nat) : Int := if 0 < (F.P n).Q.length then 39 else if 0 < (F.P n).h then 22 else 0

def rmdir (F : Fs) (l : List UInt8) : Fs × Int := match F.walk l with
  | .error e => (F, e)
  | .ok (y, s, n) => if n = 0 then (F, 2) else if (F.P n).k ≠ 2 then (F, 20) else if F.stays n ≠ 0 then (F, F.stays n) else ((F.deln (dirOf y) s).less n, 0)

def link (F : Fs) (l m : List UInt8) : Fs × Int :=
  if (F.find l).2 ≠ 0 then (F, (F.find l).2) else if (F.P (F.find l).1).k = 2 then (F, 1) else match F.walk m with
  | .error e => (F, e)
  | .ok (y, s, n) => if n ≠ 0 then (F, 17) else if 6 ≤ (F.P (dirOf y)).Q.length then (F, 28) else
    ((F.lnk (F.find l).1 ((F.P (F.find l).1).l + 1)).addn (dirOf y) s (F.find l).1, 0)

/-- What keeps a node from taking another one's name. -/
def over (F : Fs) (n m : Nat) : Int := if (F.P m).k = 2 then (if (F.P n).k = 2 then F.stays m else 21) else if (F.P n).k = 2 then 20 else 0

def rename (F : Fs) (l m : List UInt8) : Fs × Int := match F.walk l with
  | .error e => (F, e)
  | .ok (y, s, n) => if n = 0 then (F, 2) else match F.walk m with
    | .error e => (F, e)
    | .ok (y2, s2, n2) => if n2 = n then (F, 0) else if n2 ≠ 0 ∧ F.over n n2 ≠ 0 then (F, F.over n n2) else if n ∈ y2 then (F, 22) else
      if n2 = 0 ∧ dirOf y2 ≠ dirOf y ∧ 6 ≤ (F.P (dirOf y2)).Q.length then (F, 28) else
      if n2 ≠ 0 ∧ dfc F.d 4 = false then ((((F.deln (dirOf y) s).deln (dirOf y2) s2).addn (dirOf y2) s2 n).less n2, 0)
      else (((F.deln (dirOf y) s).deln (dirOf y2) s2).addn (dirOf y2) s2 n, 0)

def there (F : Fs) (n : Int) : Bool := decide (1 ≤ n ∧ n ≤ 16 ∧ (F.P n.toNat).k ≠ 0)
def size (F : Fs) (n : Nat) : Nat := (F.P n).c.length + (F.P n).Q.length
/-- The error of a number that must be a file's. -/
def file (F : Fs) (n : Int) : Int := if F.there n = false then 2 else if (F.P n.toNat).k = 2 then 21 else 0

def stat (F : Fs) (n : Int) : Int × Int × Int × Int := if F.there n = false then (0, 0, 0, 2) else ((F.P n.toNat).k, (F.P n.toNat).l, (F.size n.toNat : Int), 0)
def hold (F : Fs) (n : Int) : Fs × Int := if F.there n = false then (F, 2) else if 1000 ≤ (F.P n.toNat).h then (F, 11) else (F.hld n.toNat ((F.P n.toNat).h + 1), 0)
def drop (F : Fs) (n : Int) : Fs × Int := if F.there n = false then (F, 2) else if (F.P n.toNat).h = 0 then (F, 22) else ((F.hld n.toNat ((F.P n.toNat).h - 1)).gone n.toNat, 0)

def read (F : Fs) (n off cnt : Int) : List Int × Int := if F.file n ≠ 0 then ([], F.file n) else if off < 0 ∨ cnt < 0 then ([], 22) else (((F.P n.toNat).c.drop off.toNat).take cnt.toNat, 0)

/-- How many blocks so many bytes need; the free ones. -/
def need (s : Nat) : Nat := (s + 15) / 16
def frees (F : Fs) : List Nat := (List.range' 1 24).filter (fun b => !F.T b)
/-- Whether a file can have so many bytes; with blocks for them. -/
def fits (F : Fs) (n : Nat) (s : Nat) : Bool := decide (need s - (F.P n).B.length ≤ F.frees.length)
def grow (F : Fs) (n : Nat) (s : Nat) : Fs :=
  { F.at_ n { F.P n with B := (F.P n).B ++ F.frees.take (need s - (F.P n).B.length) } with T := fun b => if b ∈ F.frees.take (need s - (F.P n).B.length) then true else F.T b }
def ct (F : Fs) (n : Nat) (c : List Int) : Fs := F.at_ n { F.P n with c := c }
/-- Bytes over others, from a place on. -/
def lay (c : List Int) (off : Nat) (b : List Int) : List Int := (c ++ List.replicate (off + b.length - c.length) 0).take off ++ b ++ c.drop (off + b.length)

def write (F : Fs) (n off : Int) (b : List Int) : Fs × Int × Int :=
  if F.file n ≠ 0 then (F, 0, F.file n) else if off < 0 then (F, 0, 22) else if b = [] then (F, 0, 0) else if 96 < off + (b.length : Int) then (F, 0, 27) else
  if F.fits n.toNat (max (F.P n.toNat).c.length (off.toNat + b.length)) = false then (F, 0, 28) else
  ((F.grow n.toNat (max (F.P n.toNat).c.length (off.toNat + b.length))).ct n.toNat (lay (F.P n.toNat).c off.toNat b), (b.length : Int), 0)

def resize (F : Fs) (n z : Int) : Fs × Int :=
  if F.file n ≠ 0 then (F, F.file n) else if z < 0 then (F, 22) else if 96 < z then (F, 27) else
  if z.toNat < (F.P n.toNat).c.length then (((F.relB ((F.P n.toNat).B.drop (need z.toNat))).at_ n.toNat { F.P n.toNat with c := (F.P n.toNat).c.take z.toNat, B := (F.P n.toNat).B.take (need z.toNat) }), 0) else
  if F.fits n.toNat z.toNat = false then (F, 28) else
  ((F.grow n.toNat z.toNat).ct n.toNat ((F.P n.toNat).c ++ List.replicate (z.toNat - (F.P n.toNat).c.length) 0), 0)
end Fs

/-- The root alone. -/
def rootF (d : Int) : Fs := ⟨d, fun i => if i = 1 then Fn.nu 2 else Fn.no, fun _ => false⟩

end Go.Proofs.YtbglhmcahnkbfaaGreat

/- Lists of names in order: what they say, with one more, without one. -/
namespace Go.Proofs.YtbglhmcahnkbfaaGreat
set_option linter.unusedVariables false

theorem bless_irr : ∀ a, Op.bytesLess a a = false
  | [] => rfl
  | x :: a => by simp [Op.bytesLess, bless_irr a]
theorem bless_tr : ∀ a b c, Op.bytesLess a b = true → Op.bytesLess b c = true → Op.bytesLess a c = true
  | _, [], c, h, _ => by cases ‹List UInt8› <;> simp [Op.bytesLess] at h
  | [], y :: b, [], _, h => by simp [Op.bytesLess] at h
  | [], y :: b, z :: c, _, _ => rfl
  | x :: a, y :: b, [], _, h => by simp [Op.bytesLess] at h
  | x :: a, y :: b, z :: c, h1, h2 => by
    simp only [Op.bytesLess, Bool.or_eq_true, decide_eq_true_eq, Bool.and_eq_true, beq_iff_eq] at h1 h2 ⊢
    rcases h1 with h1 | ⟨rfl, h1⟩
    · rcases h2 with h2 | ⟨rfl, h2⟩
      · exact .inl (UInt8.lt_trans h1 h2)
      · exact .inl h1
    · rcases h2 with h2 | ⟨rfl, h2⟩
      · exact .inl h2
      · exact .inr ⟨rfl, bless_tr a b c h1 h2⟩
theorem bless_tot : ∀ a b, a ≠ b → Op.bytesLess a b = false → Op.bytesLess b a = true
  | [], [], h, _ => absurd rfl h
  | [], y :: b, _, h => by simp [Op.bytesLess] at h
  | x :: a, [], _, _ => rfl
  | x :: a, y :: b, h, h1 => by
    simp only [Op.bytesLess, Bool.or_eq_false_iff, decide_eq_false_iff_not, Bool.and_eq_false_iff, beq_eq_false_iff_ne, Bool.or_eq_true, decide_eq_true_eq, Bool.and_eq_true, beq_iff_eq] at h1 ⊢
    obtain ⟨h2, h3⟩ := h1
    by_cases e : x = y
    · subst e
      refine .inr ⟨rfl, bless_tot a b (fun q => h (by rw [q])) ?_⟩
      rcases h3 with h3 | h3
      · exact absurd rfl h3
      · exact h3
    · refine .inl ?_
      rcases Nat.lt_trichotomy x.toNat y.toNat with q | q | q
      · exact absurd (UInt8.lt_iff_toNat_lt.2 q) h2
      · exact absurd (UInt8.toNat_inj.1 q) e
      · exact UInt8.lt_iff_toNat_lt.2 q
theorem gtB_iff (a b : List UInt8) : gtB a b = true ↔ Op.bytesLess b a = true := by
  unfold gtB
  simp only [Bool.not_eq_true', Bool.or_eq_false_iff, beq_eq_false_iff_ne]
  constructor
  · rintro ⟨h1, h2⟩; exact bless_tot a b h2 h1
  · intro h
    refine ⟨?_, fun e => by rw [e, bless_irr] at h; simp at h⟩
    cases q : Op.bytesLess a b with
    | false => rfl
    | true => have := bless_tr a b a q h; rw [bless_irr] at this; simp at this

/-- In order, each name once. -/
def Srt (Q : List (List UInt8 × Nat)) : Prop := Q.Pairwise (fun x y => Op.bytesLess x.1 y.1 = true)

theorem lk_cons (x : List UInt8 × Nat) (r : List (List UInt8 × Nat)) (s : List UInt8) : lk (x :: r) s = if x.1 = s then x.2 else lk r s := rfl
theorem lk_zero {Q : List (List UInt8 × Nat)} {s : List UInt8} (h : ∀ x ∈ Q, x.1 ≠ s) : lk Q s = 0 := by
  induction Q with
  | nil => rfl
  | cons x r ih =>
    unfold lk
    rw [if_neg (h x (by simp))]
    exact ih (fun y hy => h y (by simp [hy]))
theorem lk_mem {Q : List (List UInt8 × Nat)} {s : List UInt8} (h : lk Q s ≠ 0) : (s, lk Q s) ∈ Q := by
  induction Q with
  | nil => simp [lk] at h
  | cons x r ih =>
    unfold lk at h ⊢
    split
    · rename_i e; subst e; simp
    · rename_i e; rw [if_neg e] at h; exact List.mem_cons_of_mem _ (ih h)
theorem lk_of {Q : List (List UInt8 × Nat)} (hS : Srt Q) {x : List UInt8 × Nat} (h : x ∈ Q) : lk Q x.1 = x.2 := by
  induction Q with
  | nil => simp at h
  | cons y r ih =>
    obtain ⟨h1, h2⟩ := List.pairwise_cons.1 hS
    rcases List.mem_cons.1 h with e | h
    · subst e; simp [lk]
    · unfold lk
      have : y.1 ≠ x.1 := fun e => by have := h1 x h; rw [e, bless_irr] at this; simp at this
      rw [if_neg this]
      exact ih h2 h
theorem no_key {Q : List (List UInt8 × Nat)} (hS : Srt Q) (hv : ∀ x ∈ Q, x.2 ≠ 0) {s : List UInt8} (h : lk Q s = 0) : ∀ x ∈ Q, x.1 ≠ s := fun x hx e => by
  have := lk_of hS hx
  rw [e, h] at this
  exact hv x hx this.symm

theorem mem_ins {s : List UInt8} {n : Nat} {Q : List (List UInt8 × Nat)} {x : List UInt8 × Nat} : x ∈ ins s n Q ↔ x = (s, n) ∨ x ∈ Q := by
  induction Q with
  | nil => simp [ins]
  | cons y r ih =>
    unfold ins
    split
    · simp
    · simp only [List.mem_cons, ih]
      constructor <;> (intro h; rcases h with h | h | h <;> simp [h])
theorem len_ins (s : List UInt8) (n : Nat) (Q : List (List UInt8 × Nat)) : (ins s n Q).length = Q.length + 1 := by
  induction Q with
  | nil => rfl
  | cons y r ih => unfold ins; split <;> simp [ih]
theorem srt_ins {s : List UInt8} {n : Nat} {Q : List (List UInt8 × Nat)} (hS : Srt Q) (hk : ∀ x ∈ Q, x.1 ≠ s) : Srt (ins s n Q) := by
  induction Q with
  | nil => simp [ins, Srt]
  | cons y r ih =>
    obtain ⟨h1, h2⟩ := List.pairwise_cons.1 hS
    unfold ins
    split
    · rename_i hg
      rw [gtB_iff] at hg
      refine List.pairwise_cons.2 ⟨fun x hx => ?_, hS⟩
      rcases List.mem_cons.1 hx with e | hx
      · subst e; exact hg
      · exact bless_tr _ _ _ hg (h1 x hx)
    · rename_i hg
      refine List.pairwise_cons.2 ⟨fun x hx => ?_, ih h2 (fun x hx => hk x (by simp [hx]))⟩
      rcases mem_ins.1 hx with e | hx
      · subst e
        show Op.bytesLess y.1 s = true
        cases q : Op.bytesLess y.1 s with
        | true => rfl
        | false =>
          exact absurd ((gtB_iff _ _).2 (bless_tot _ _ (hk y (by simp)) q)) hg
      · exact h1 x hx
theorem lk_ins {s : List UInt8} {n : Nat} {Q : List (List UInt8 × Nat)} (hk : ∀ x ∈ Q, x.1 ≠ s) (t : List UInt8) : lk (ins s n Q) t = if t = s then n else lk Q t := by
  induction Q with
  | nil => by_cases e : t = s <;> simp [ins, lk, e]; exact fun q => absurd q.symm e
  | cons y r ih =>
    have h1 := hk y (by simp)
    have h2 := ih (fun x hx => hk x (by simp [hx]))
    unfold ins
    split
    · by_cases e : t = s
      · subst e; simp [lk]
      · rw [if_neg e, lk_cons, if_neg (fun q => e q.symm)]
    · rw [lk_cons, lk_cons, h2]
      by_cases e : y.1 = t
      · have : t ≠ s := fun q => h1 (e.trans q)
        simp [e, this]
      · simp [e]
theorem mem_del {s : List UInt8} {Q : List (List UInt8 × Nat)} {x : List UInt8 × Nat} : x ∈ del s Q ↔ x ∈ Q ∧ x.1 ≠ s := by simp [del]
theorem srt_del {s : List UInt8} {Q : List (List UInt8 × Nat)} (hS : Srt Q) : Srt (del s Q) := hS.sublist List.filter_sublist
theorem lk_del (s : List UInt8) (Q : List (List UInt8 × Nat)) (t : List UInt8) : lk (del s Q) t = if t = s then 0 else lk Q t := by
  by_cases e : t = s
  · subst e; rw [if_pos rfl]; exact lk_zero (fun x hx => (mem_del.1 hx).2)
  · rw [if_neg e]
    induction Q with
    | nil => rfl
    | cons y r ih =>
      unfold del at ih ⊢
      rw [List.filter_cons]
      split
      · rw [lk_cons, lk_cons, ih]
      · rename_i h
        simp at h
        rw [ih, lk_cons, if_neg (fun q => e (q.symm.trans h))]
theorem del_none {s : List UInt8} {Q : List (List UInt8 × Nat)} (h : ∀ x ∈ Q, x.1 ≠ s) : del s Q = Q := by
  unfold del; rw [List.filter_eq_self]; intro x hx; simpa using h x hx
theorem len_del {s : List UInt8} {Q : List (List UInt8 × Nat)} (hS : Srt Q) (h : lk Q s ≠ 0) : (del s Q).length + 1 = Q.length := by
  induction Q with
  | nil => simp [lk] at h
  | cons y r ih =>
    obtain ⟨h1, h2⟩ := List.pairwise_cons.1 hS
    unfold lk at h
    by_cases e : y.1 = s
    · have : del s r = r := del_none (fun x hx q => by have := h1 x hx; rw [e, q, bless_irr] at this; simp at this)
      show (del s (y :: r)).length + 1 = _
      unfold del at this ⊢
      rw [List.filter_cons, if_neg (by simp [e]), this]
      simp
    · rw [if_neg e] at h
      have := ih h2 h
      have q : del s (y :: r) = y :: del s r := by unfold del; rw [List.filter_cons, if_pos (by simp [e])]
      rw [q]
      simp; omega

/-- How many names name a number. -/
def cq (Q : List (List UInt8 × Nat)) (i : Nat) : Nat := Q.countP (fun x => x.2 == i)
theorem cq_ins (s : List UInt8) (n : Nat) (Q : List (List UInt8 × Nat)) (i : Nat) : cq (ins s n Q) i = cq Q i + if n = i then 1 else 0 := by
  induction Q with
  | nil => by_cases e : n = i <;> simp [cq, ins, e]
  | cons y r ih =>
    unfold ins
    split
    · unfold cq; rw [List.countP_cons]; simp
    · unfold cq at ih ⊢; rw [List.countP_cons, List.countP_cons, ih]; omega
theorem cq_del {s : List UInt8} {Q : List (List UInt8 × Nat)} (hS : Srt Q) (hv : lk Q s ≠ 0) (i : Nat) : cq (del s Q) i + (if lk Q s = i then 1 else 0) = cq Q i := by
  induction Q with
  | nil => simp [lk] at hv
  | cons y r ih =>
    obtain ⟨h1, h2⟩ := List.pairwise_cons.1 hS
    unfold lk at hv ⊢
    by_cases e : y.1 = s
    · have : del s r = r := del_none (fun x hx q => by have := h1 x hx; rw [e, q, bless_irr] at this; simp at this)
      have q : del s (y :: r) = r := by
        unfold del at this ⊢
        rw [List.filter_cons, if_neg (by simp [e]), this]
      rw [if_pos e, q]
      unfold cq
      rw [List.countP_cons]
      simp
    · rw [if_neg e] at hv ⊢
      have := ih h2 hv
      have q : del s (y :: r) = y :: del s r := by unfold del; rw [List.filter_cons, if_pos (by simp [e])]
      rw [q]
      unfold cq at this ⊢
      rw [List.countP_cons, List.countP_cons]
      omega
theorem cq_zero {Q : List (List UInt8 × Nat)} {i : Nat} : cq Q i = 0 ↔ ∀ x ∈ Q, x.2 ≠ i := by
  unfold cq; rw [List.countP_eq_zero]; simp

/-- All directories' names together. -/
def nmc (P : Nat → Fn) (i : Nat) : Nat → Nat
  | 0 => 0
  | m + 1 => nmc P i m + cq (P m).Q i
theorem nmc_same {P P' : Nat → Fn} (i : Nat) : ∀ m, (∀ j, j < m → (P' j).Q = (P j).Q) → nmc P' i m = nmc P i m
  | 0, _ => rfl
  | m + 1, h => by
    unfold nmc
    rw [nmc_same i m (fun j hj => h j (by omega)), h m (by omega)]
theorem nmc_one {P P' : Nat → Fn} (i dr : Nat) : ∀ m, dr < m → (∀ j, j ≠ dr → (P' j).Q = (P j).Q) → nmc P' i m + cq (P dr).Q i = nmc P i m + cq (P' dr).Q i
  | 0, h, _ => by omega
  | m + 1, h, hj => by
    unfold nmc
    by_cases e : dr = m
    · subst e
      rw [nmc_same i dr (fun j q => hj j (by omega))]
      omega
    · have := nmc_one i dr m (by omega) hj
      rw [hj m (fun q => e q.symm)]
      omega
theorem nmc_zero {P : Nat → Fn} {i : Nat} : ∀ m, nmc P i m = 0 → ∀ j, j < m → ∀ x ∈ (P j).Q, x.2 ≠ i
  | 0, _, j, hj => by omega
  | m + 1, h, j, hj => by
    unfold nmc at h
    by_cases e : j = m
    · subst e; exact cq_zero.1 (by omega)
    · exact nmc_zero m (by omega) j (by omega)
theorem nmc_pos {P : Nat → Fn} {i : Nat} : ∀ m j, j < m → ∀ x ∈ (P j).Q, x.2 = i → 1 ≤ nmc P i m := fun m j hj x hx e => by
  rcases Nat.eq_zero_or_pos (nmc P i m) with q | q
  · exact absurd e (nmc_zero m q j hj x hx)
  · exact q

end Go.Proofs.YtbglhmcahnkbfaaGreat

/- What is true of any file system that calls have made. -/
namespace Go.Proofs.YtbglhmcahnkbfaaGreat
set_option linter.unusedVariables false

structure FOk (F : Fs) : Prop where
  k : ∀ i, (F.P i).k = 0 ∨ (F.P i).k = 1 ∨ (F.P i).k = 2
  out : ∀ i, 17 ≤ i → F.P i = Fn.no
  zero : F.P 0 = Fn.no
  root : (F.P 1).k = 2
  none : ∀ i, (F.P i).k = 0 → F.P i = Fn.no
  file : ∀ i, (F.P i).k ≠ 2 → (F.P i).Q = []
  dir : ∀ i, (F.P i).k = 2 → (F.P i).c = [] ∧ (F.P i).B = [] ∧ (F.P i).l = 1
  srt : ∀ i, Srt (F.P i).Q
  len : ∀ i, (F.P i).Q.length ≤ 6
  nm : ∀ i x, x ∈ (F.P i).Q → 1 < x.2 ∧ x.2 < 17 ∧ (F.P x.2).k ≠ 0 ∧ x.1 ≠ [] ∧ x.1.length ≤ 6
  tree : ∃ rk : Nat → Nat, ∀ i x, x ∈ (F.P i).Q → rk x.2 < rk i
  li : ∀ i, i ≠ 1 → (nmc F.P i 17 : Int) ≤ (F.P i).l
  lh : ∀ i, (F.P i).k ≠ 0 → 0 < (F.P i).l ∨ 0 < (F.P i).h
  h : ∀ i, 0 ≤ (F.P i).h ∧ (F.P i).h ≤ 1000
  c : ∀ i, (F.P i).c.length ≤ 96 ∧ ∀ z ∈ (F.P i).c, 0 ≤ z ∧ z < 256
  B : ∀ i, (F.P i).B.length = Fs.need (F.P i).c.length
  T : ∀ i b, b ∈ (F.P i).B → 1 ≤ b ∧ b < 25 ∧ F.T b = true
  nd : ∀ i, (F.P i).B.Nodup
  ap : ∀ i j b, b ∈ (F.P i).B → b ∈ (F.P j).B → i = j
  T0 : F.T 0 = false
  T25 : ∀ b, 25 ≤ b → F.T b = false

theorem FOk.l0 {F : Fs} (H : FOk F) (i : Nat) : 0 ≤ (F.P i).l := by
  by_cases e : i = 1
  · subst e; rw [(H.dir 1 H.root).2.2]; omega
  · have := H.li i e; omega
theorem FOk.lt {F : Fs} (H : FOk F) {i : Nat} (h : (F.P i).k ≠ 0) : 1 ≤ i ∧ i < 17 := by
  refine ⟨?_, ?_⟩
  · rcases Nat.eq_zero_or_pos i with e | e
    · subst e; rw [H.zero] at h; exact absurd rfl h
    · exact e
  · rcases Nat.lt_or_ge i 17 with e | e
    · exact e
    · rw [H.out i e] at h; exact absurd rfl h
theorem FOk.nk {F : Fs} (H : FOk F) (i : Nat) {s : List UInt8} : lk (F.P i).Q s = 0 → ∀ x ∈ (F.P i).Q, x.1 ≠ s :=
  fun h => no_key (H.srt i) (fun x hx => by have := (H.nm i x hx).1; omega) h

theorem Fs.at_P (F : Fs) (i : Nat) (x : Fn) (j : Nat) : (F.at_ i x).P j = if j = i then x else F.P j := rfl
theorem Fs.at_self (F : Fs) (i : Nat) (x : Fn) : (F.at_ i x).P i = x := by simp [Fs.at_P]
theorem Fs.at_ne (F : Fs) (i j : Nat) (x : Fn) (h : j ≠ i) : (F.at_ i x).P j = F.P j := by simp [Fs.at_P, h]
theorem Fs.at_at (F : Fs) (i : Nat) (x y : Fn) : (F.at_ i x).at_ i y = F.at_ i y := by
  unfold Fs.at_; congr 1; funext j; by_cases e : j = i <;> simp [e]
theorem Fs.at_comm (F : Fs) (i j : Nat) (x y : Fn) (h : i ≠ j) : (F.at_ i x).at_ j y = (F.at_ j y).at_ i x := by
  unfold Fs.at_; congr 1; funext q
  by_cases e : q = i
  · subst e; simp [h]
  · by_cases e' : q = j
    · subst e'; simp [e]
    · simp [e, e']
theorem Fs.at_f {α : Type} (f : Fn → α) (F : Fs) (n : Nat) (x : Fn) (h : f x = f (F.P n)) (i : Nat) : f ((F.at_ n x).P i) = f (F.P i) := by
  rw [Fs.at_P]
  split
  · rename_i e; subst e; exact h
  · rfl
/-- Another count of links, of holders. -/
theorem FOk.lh_ {F : Fs} (H : FOk F) (n : Nat) (x : Fn) (hk : x.k = (F.P n).k) (hQ : x.Q = (F.P n).Q) (hc : x.c = (F.P n).c) (hB : x.B = (F.P n).B) (h0 : (F.P n).k ≠ 0)
    (hl : n ≠ 1 → (nmc F.P n 17 : Int) ≤ x.l) (hd : x.k = 2 → x.l = 1) (hh : 0 ≤ x.h ∧ x.h ≤ 1000) (hlh : 0 < x.l ∨ 0 < x.h) : FOk (F.at_ n x) := by
  obtain ⟨n1, n17⟩ := H.lt h0
  have eQ : ∀ i, ((F.at_ n x).P i).Q = (F.P i).Q := Fs.at_f Fn.Q F n x hQ
  have ek : ∀ i, ((F.at_ n x).P i).k = (F.P i).k := Fs.at_f Fn.k F n x hk
  have ec : ∀ i, ((F.at_ n x).P i).c = (F.P i).c := Fs.at_f Fn.c F n x hc
  have eB : ∀ i, ((F.at_ n x).P i).B = (F.P i).B := Fs.at_f Fn.B F n x hB
  have en : ∀ i, nmc (F.at_ n x).P i 17 = nmc F.P i 17 := fun i => nmc_same i 17 (fun j _ => eQ j)
  refine ⟨fun i => by rw [ek]; exact H.k i, fun i hi => ?_, ?_, by rw [ek]; exact H.root, fun i hi => ?_, fun i hi => by rw [eQ]; rw [ek] at hi; exact H.file i hi, fun i hi => ?_, fun i => by rw [eQ]; exact H.srt i, fun i => by rw [eQ]; exact H.len i,
    fun i y hy => by rw [eQ] at hy; rw [ek]; exact H.nm i y hy, ?_, fun i hi => ?_, fun i hi => ?_, fun i => ?_, fun i => by rw [ec]; exact H.c i, fun i => by rw [eB, ec]; exact H.B i, fun i b hb => by rw [eB] at hb; exact H.T i b hb, fun i => by rw [eB]; exact H.nd i,
    fun i j b h1 h2 => by rw [eB] at h1 h2; exact H.ap i j b h1 h2, H.T0, H.T25⟩
  · rw [Fs.at_ne _ _ _ _ (by omega)]; exact H.out i hi
  · rw [Fs.at_ne _ _ _ _ (by omega)]; exact H.zero
  · rw [ek] at hi
    rw [Fs.at_ne _ _ _ _ (fun e => h0 (by rw [← e]; exact hi))]; exact H.none i hi
  · rw [ek] at hi
    obtain ⟨h1, h2, h3⟩ := H.dir i hi
    refine ⟨by rw [ec]; exact h1, by rw [eB]; exact h2, ?_⟩
    rw [Fs.at_P]; split
    · rename_i e; subst e; exact hd (hk.trans hi)
    · exact h3
  · obtain ⟨rk, hr⟩ := H.tree
    exact ⟨rk, fun i y hy => by rw [eQ] at hy; exact hr i y hy⟩
  · rw [en, Fs.at_P]; split
    · rename_i e; subst e; exact hl hi
    · exact H.li i hi
  · rw [ek] at hi
    rw [Fs.at_P]; split
    · exact hlh
    · exact H.lh i hi
  · rw [Fs.at_P]; split
    · exact hh
    · exact H.h i

/-- Another list of names. -/
theorem FOk.nq_ {F : Fs} (H : FOk F) (dr : Nat) (Q : List (List UInt8 × Nat)) (hk : (F.P dr).k = 2) (hS : Srt Q) (hl : Q.length ≤ 6)
    (hn : ∀ x ∈ Q, 1 < x.2 ∧ x.2 < 17 ∧ (F.P x.2).k ≠ 0 ∧ x.1 ≠ [] ∧ x.1.length ≤ 6) (ht : ∃ rk : Nat → Nat, ∀ i x, x ∈ ((F.nq dr Q).P i).Q → rk x.2 < rk i)
    (hc : ∀ i, i ≠ 1 → (nmc (F.nq dr Q).P i 17 : Int) ≤ (F.P i).l) : FOk (F.nq dr Q) := by
  obtain ⟨n1, n17⟩ := H.lt (i := dr) (by omega)
  have ek : ∀ i, ((F.nq dr Q).P i).k = (F.P i).k := Fs.at_f Fn.k F dr _ rfl
  have ec : ∀ i, ((F.nq dr Q).P i).c = (F.P i).c := Fs.at_f Fn.c F dr _ rfl
  have eB : ∀ i, ((F.nq dr Q).P i).B = (F.P i).B := Fs.at_f Fn.B F dr _ rfl
  have el : ∀ i, ((F.nq dr Q).P i).l = (F.P i).l := Fs.at_f Fn.l F dr _ rfl
  have eh : ∀ i, ((F.nq dr Q).P i).h = (F.P i).h := Fs.at_f Fn.h F dr _ rfl
  have eQ : ∀ i, ((F.nq dr Q).P i).Q = if i = dr then Q else (F.P i).Q := fun i => by unfold Fs.nq; rw [Fs.at_P]; split <;> rfl
  have eo : ∀ i, i ≠ dr → (F.nq dr Q).P i = F.P i := fun i hi => by unfold Fs.nq; exact Fs.at_ne _ _ _ _ hi
  refine ⟨fun i => by rw [ek]; exact H.k i, fun i hi => by rw [eo i (by omega)]; exact H.out i hi, by rw [eo 0 (by omega)]; exact H.zero, by rw [ek]; exact H.root, fun i hi => ?_, fun i hi => ?_, fun i hi => ?_, fun i => ?_, fun i => ?_, fun i y hy => ?_, ht, fun i hi => by rw [el]; exact hc i hi,
    fun i hi => by rw [el, eh]; rw [ek] at hi; exact H.lh i hi, fun i => by rw [eh]; exact H.h i, fun i => by rw [ec]; exact H.c i, fun i => by rw [eB, ec]; exact H.B i, fun i b hb => by rw [eB] at hb; exact H.T i b hb, fun i => by rw [eB]; exact H.nd i,
    fun i j b h1 h2 => by rw [eB] at h1 h2; exact H.ap i j b h1 h2, H.T0, H.T25⟩
  · rw [ek] at hi
    rw [eo i (fun e => by rw [e] at hi; omega)]; exact H.none i hi
  · rw [ek] at hi
    rw [eQ, if_neg (fun e => by rw [e] at hi; omega)]; exact H.file i hi
  · rw [ek] at hi
    rw [ec, eB, el]; exact H.dir i hi
  · rw [eQ]
    split
    · exact hS
    · exact H.srt i
  · rw [eQ]
    split
    · exact hl
    · exact H.len i
  · rw [ek]
    rw [eQ] at hy
    split at hy
    · exact hn y hy
    · exact H.nm i y hy

/-- What names lead to. -/
inductive Rch (F : Fs) : Nat → Nat → Prop
  | refl (a : Nat) : Rch F a a
  | step {a b c : Nat} (x : List UInt8 × Nat) : Rch F a b → x ∈ (F.P b).Q → x.2 = c → Rch F a c
theorem Rch.sub {F G : Fs} (h : ∀ i x, x ∈ (F.P i).Q → x ∈ (G.P i).Q) {a b : Nat} (r : Rch F a b) : Rch G a b := by
  induction r with
  | refl => exact .refl _
  | step x _ hx e ih => exact .step x ih (h _ _ hx) e
theorem Rch.head {F : Fs} {a b c : Nat} (x : List UInt8 × Nat) (hx : x ∈ (F.P a).Q) (e : x.2 = b) (r : Rch F b c) : Rch F a c := by
  induction r with
  | refl => exact .step x (.refl _) hx e
  | step y _ hy ey ih => exact .step y ih hy ey
theorem Rch.leaf {F : Fs} {a b : Nat} (h : (F.P a).Q = []) (r : Rch F a b) : b = a := by
  induction r with
  | refl => rfl
  | step x _ hx e ih => subst ih; rw [h] at hx; simp at hx

theorem FOk.tree_add {F : Fs} (H : FOk F) (dr : Nat) (s : List UInt8) (n : Nat) (hr : ¬ Rch F n dr) : ∃ rk : Nat → Nat, ∀ i x, x ∈ ((F.addn dr s n).P i).Q → rk x.2 < rk i := by
  obtain ⟨rk, h⟩ := H.tree
  refine ⟨fun x => open Classical in if Rch F n x then rk x else rk x + rk n + 1, fun i x hx => ?_⟩
  have hx' : (i = dr ∧ x = (s, n)) ∨ x ∈ (F.P i).Q := by
    unfold Fs.addn Fs.nq at hx
    rw [Fs.at_P] at hx
    split at hx
    · rename_i e
      subst e
      rcases mem_ins.1 hx with q | q
      · exact .inl ⟨rfl, q⟩
      · exact .inr q
    · exact .inr hx
  dsimp only
  rcases hx' with ⟨rfl, rfl⟩ | hx'
  · rw [if_pos (Rch.refl n), if_neg hr]; dsimp only; omega
  · have := h i x hx'
    by_cases q : Rch F n i
    · rw [if_pos q, if_pos (Rch.step x q hx' rfl)]; exact this
    · rw [if_neg q]; split <;> omega

theorem nmc_addn {F : Fs} (dr : Nat) (hd : dr < 17) (s : List UInt8) (n i : Nat) : nmc (F.addn dr s n).P i 17 = nmc F.P i 17 + if n = i then 1 else 0 := by
  have h := nmc_one (P := F.P) (P' := (F.addn dr s n).P) i dr 17 hd (fun j hj => by unfold Fs.addn Fs.nq; rw [Fs.at_ne _ _ _ _ hj])
  have e : ((F.addn dr s n).P dr).Q = ins s n (F.P dr).Q := by unfold Fs.addn Fs.nq; rw [Fs.at_self]
  rw [e, cq_ins] at h
  omega
theorem nmc_deln {F : Fs} (H : FOk F) (dr : Nat) (hd : dr < 17) (s : List UInt8) (hs : lk (F.P dr).Q s ≠ 0) (i : Nat) : nmc (F.deln dr s).P i 17 + (if lk (F.P dr).Q s = i then 1 else 0) = nmc F.P i 17 := by
  have h := nmc_one (P := F.P) (P' := (F.deln dr s).P) i dr 17 hd (fun j hj => by unfold Fs.deln Fs.nq; rw [Fs.at_ne _ _ _ _ hj])
  have e : ((F.deln dr s).P dr).Q = del s (F.P dr).Q := by unfold Fs.deln Fs.nq; rw [Fs.at_self]
  have q := cq_del (H.srt dr) hs i
  rw [e] at h
  omega
theorem deln_none {F : Fs} (H : FOk F) (dr : Nat) (s : List UInt8) (hs : lk (F.P dr).Q s = 0) : F.deln dr s = F := by
  unfold Fs.deln Fs.nq
  rw [del_none (H.nk dr hs)]
  unfold Fs.at_
  cases F
  congr 1
  funext j
  split
  · rename_i e; subst e; rfl
  · rfl
theorem deln_Q (F : Fs) (dr : Nat) (s : List UInt8) (i : Nat) : ((F.deln dr s).P i).Q = if i = dr then del s (F.P dr).Q else (F.P i).Q := by unfold Fs.deln Fs.nq; rw [Fs.at_P]; split <;> rfl
theorem deln_sub (F : Fs) (dr : Nat) (s : List UInt8) (i : Nat) (x : List UInt8 × Nat) (h : x ∈ ((F.deln dr s).P i).Q) : x ∈ (F.P i).Q := by
  rw [deln_Q] at h
  split at h
  · rename_i e; subst e; exact (mem_del.1 h).1
  · exact h

/-- A name less. -/
theorem FOk.deln {F : Fs} (H : FOk F) (dr : Nat) (s : List UInt8) (hk : (F.P dr).k = 2) : FOk (F.deln dr s) := by
  by_cases hs : lk (F.P dr).Q s = 0
  · rw [deln_none H dr s hs]; exact H
  obtain ⟨n1, n17⟩ := H.lt (i := dr) (by omega)
  refine H.nq_ dr _ hk (srt_del (H.srt dr)) ?_ (fun x hx => H.nm dr x (mem_del.1 hx).1) ?_ (fun i hi => ?_)
  · have := len_del (H.srt dr) hs; have := H.len dr; omega
  · obtain ⟨rk, h⟩ := H.tree
    exact ⟨rk, fun i x hx => h i x (deln_sub F dr s i x hx)⟩
  · have h1 := H.li i hi
    have h2 := nmc_deln H dr n17 s hs i
    have h3 : nmc (F.deln dr s).P i 17 ≤ nmc F.P i 17 := by omega
    have h4 : nmc (F.nq dr (del s (F.P dr).Q)).P i 17 = nmc (F.deln dr s).P i 17 := rfl
    rw [h4]; omega
/-- A name more. -/
theorem FOk.addn {F : Fs} (H : FOk F) (dr : Nat) (s : List UInt8) (n : Nat) (hk : (F.P dr).k = 2) (hs : lk (F.P dr).Q s = 0) (hs1 : s ≠ []) (hs2 : s.length ≤ 6) (hl : (F.P dr).Q.length < 6) (hn1 : n ≠ 1) (hn : (F.P n).k ≠ 0)
    (hr : ¬ Rch F n dr) (hc : (nmc F.P n 17 : Int) + 1 ≤ (F.P n).l) : FOk (F.addn dr s n) := by
  obtain ⟨n1, n17⟩ := H.lt (i := dr) (by omega)
  obtain ⟨m1, m17⟩ := H.lt hn
  refine H.nq_ dr _ hk (srt_ins (H.srt dr) (H.nk dr hs)) (by rw [len_ins]; omega) (fun x hx => ?_) (H.tree_add dr s n hr) (fun i hi => ?_)
  · rcases mem_ins.1 hx with e | hx
    · subst e; exact ⟨by show 1 < n; omega, m17, hn, hs1, hs2⟩
    · exact H.nm dr x hx
  · have h1 := H.li i hi
    have h4 : nmc (F.nq dr (ins s n (F.P dr).Q)).P i 17 = nmc (F.addn dr s n).P i 17 := rfl
    rw [h4, nmc_addn dr n17]
    by_cases e : n = i
    · subst e; rw [if_pos rfl]; omega
    · rw [if_neg e]; omega

/-- A new node. -/
theorem FOk.new {F : Fs} (H : FOk F) (f : Nat) (kind : Int) (h1 : 1 ≤ f) (h2 : f < 17) (hf : (F.P f).k = 0) (hk : kind = 1 ∨ kind = 2) : FOk (F.at_ f (Fn.nu kind)) := by
  have h0 := H.none f hf
  have hf1 : f ≠ 1 := fun e => by rw [e, H.root] at hf; omega
  have eQ : ∀ i, ((F.at_ f (Fn.nu kind)).P i).Q = (F.P i).Q := Fs.at_f Fn.Q F f _ (by rw [h0]; rfl)
  have ec : ∀ i, ((F.at_ f (Fn.nu kind)).P i).c = (F.P i).c := Fs.at_f Fn.c F f _ (by rw [h0]; rfl)
  have eB : ∀ i, ((F.at_ f (Fn.nu kind)).P i).B = (F.P i).B := Fs.at_f Fn.B F f _ (by rw [h0]; rfl)
  have en : ∀ i, nmc (F.at_ f (Fn.nu kind)).P i 17 = nmc F.P i 17 := fun i => nmc_same i 17 (fun j _ => eQ j)
  have ez : nmc F.P f 17 = 0 := by
    rcases Nat.eq_zero_or_pos (nmc F.P f 17) with q | q
    · exact q
    · have := H.li f hf1
      rw [h0] at this
      simp only [Fn.no] at this
      omega
  refine ⟨fun i => ?_, fun i hi => by rw [Fs.at_ne _ _ _ _ (by omega)]; exact H.out i hi, by rw [Fs.at_ne _ _ _ _ (by omega)]; exact H.zero, by rw [Fs.at_ne _ _ _ _ (by omega)]; exact H.root, fun i hi => ?_, fun i hi => ?_, fun i hi => ?_, fun i => by rw [eQ]; exact H.srt i, fun i => by rw [eQ]; exact H.len i, fun i y hy => ?_, ?_, fun i hi => ?_, fun i hi => ?_, fun i => ?_,
    fun i => by rw [ec]; exact H.c i, fun i => by rw [eB, ec]; exact H.B i, fun i b hb => by rw [eB] at hb; exact H.T i b hb, fun i => by rw [eB]; exact H.nd i, fun i j b q1 q2 => by rw [eB] at q1 q2; exact H.ap i j b q1 q2, H.T0, H.T25⟩
  · rw [Fs.at_P]; split
    · exact .inr hk
    · exact H.k i
  · rw [Fs.at_P] at hi ⊢; split at hi
    · simp only [Fn.nu] at hi; omega
    · rename_i e; rw [if_neg e]; exact H.none i hi
  · rw [eQ]
    rw [Fs.at_P] at hi; split at hi
    · rename_i e; subst e; rw [h0]; rfl
    · exact H.file i hi
  · rw [Fs.at_P] at hi ⊢; split at hi
    · rename_i e; rw [if_pos e]; exact ⟨rfl, rfl, rfl⟩
    · rename_i e; rw [if_neg e]; exact H.dir i hi
  · rw [eQ] at hy
    obtain ⟨a, b, c, d⟩ := H.nm i y hy
    refine ⟨a, b, ?_, d⟩
    rw [Fs.at_P]; split
    · simp only [Fn.nu]; omega
    · exact c
  · obtain ⟨rk, hr⟩ := H.tree
    exact ⟨rk, fun i y hy => by rw [eQ] at hy; exact hr i y hy⟩
  · rw [en, Fs.at_P]; split
    · rename_i e; subst e; rw [ez]; simp [Fn.nu]
    · exact H.li i hi
  · rw [Fs.at_P] at hi ⊢; split at hi
    · rename_i e; rw [if_pos e]; exact .inl (by simp [Fn.nu])
    · rename_i e; rw [if_neg e]; exact H.lh i hi
  · rw [Fs.at_P]; split
    · simp [Fn.nu]
    · exact H.h i

theorem relB_P (F : Fs) (B : List Nat) : (F.relB B).P = F.P := by unfold Fs.relB; split <;> rfl
theorem relB_d (F : Fs) (B : List Nat) : (F.relB B).d = F.d := by unfold Fs.relB; split <;> rfl
theorem relB_T (F : Fs) (B : List Nat) (b : Nat) (h : F.T b = true) (hb : b ∉ B) : (F.relB B).T b = true := by
  unfold Fs.relB; split
  · exact h
  · show (if b ∈ B then false else F.T b) = true
    rw [if_neg hb]; exact h
theorem relB_F (F : Fs) (B : List Nat) (b : Nat) (h : F.T b = false) : (F.relB B).T b = false := by
  unfold Fs.relB; split
  · exact h
  · show (if b ∈ B then false else F.T b) = false
    split
    · rfl
    · exact h

/-- A node goes. -/
theorem FOk.remove {F : Fs} (H : FOk F) (n : Nat) (hn0 : n ≠ 1) (hz : nmc F.P n 17 = 0) (hQ : (F.P n).Q = []) : FOk ((F.relB (F.P n).B).at_ n Fn.no) := by
  have eP : ∀ i, ((F.relB (F.P n).B).at_ n Fn.no).P i = if i = n then Fn.no else F.P i := fun i => by rw [Fs.at_P, relB_P]
  have eQ : ∀ i, (((F.relB (F.P n).B).at_ n Fn.no).P i).Q = (F.P i).Q := fun i => by
    rw [eP]
    split
    · rename_i e; subst e; rw [hQ]; rfl
    · rfl
  have en : ∀ i, nmc ((F.relB (F.P n).B).at_ n Fn.no).P i 17 = nmc F.P i 17 := fun i => nmc_same i 17 (fun j _ => eQ j)
  have eB : ∀ i b, b ∈ (((F.relB (F.P n).B).at_ n Fn.no).P i).B → i ≠ n ∧ b ∈ (F.P i).B := fun i b hb => by
    rw [eP] at hb; split at hb
    · simp [Fn.no] at hb
    · rename_i e; exact ⟨e, hb⟩
  refine ⟨fun i => ?_, fun i hi => ?_, ?_, ?_, fun i hi => ?_, fun i hi => ?_, fun i hi => ?_, fun i => by rw [eQ]; exact H.srt i, fun i => by rw [eQ]; exact H.len i, fun i y hy => ?_, ?_, fun i hi => ?_, fun i hi => ?_, fun i => ?_, fun i => ?_, fun i => ?_, fun i b hb => ?_, fun i => ?_, fun i j b h1 h2 => ?_, ?_, fun b hb => ?_⟩
  · rw [eP]; split
    · exact .inl rfl
    · exact H.k i
  · rw [eP]; split
    · rfl
    · exact H.out i hi
  · rw [eP]; split
    · rfl
    · exact H.zero
  · rw [eP, if_neg (fun e => hn0 e.symm)]; exact H.root
  · rw [eP] at hi ⊢; split
    · rfl
    · rename_i e; rw [if_neg e] at hi; exact H.none i hi
  · rw [eQ]
    rw [eP] at hi; split at hi
    · rename_i e; subst e; exact hQ
    · exact H.file i hi
  · rw [eP] at hi ⊢; split at hi
    · simp [Fn.no] at hi
    · rename_i e; rw [if_neg e]; exact H.dir i hi
  · rw [eQ] at hy
    obtain ⟨a, b, c, d⟩ := H.nm i y hy
    have hi17 : i < 17 := (H.lt (i := i) (fun e => by rw [H.none i e] at hy; simp [Fn.no] at hy)).2
    refine ⟨a, b, ?_, d⟩
    rw [eP, if_neg (nmc_zero 17 hz i hi17 y hy)]
    exact c
  · obtain ⟨rk, hr⟩ := H.tree
    exact ⟨rk, fun i y hy => by rw [eQ] at hy; exact hr i y hy⟩
  · rw [en, eP]; split
    · rename_i e; subst e; rw [hz]; simp [Fn.no]
    · exact H.li i hi
  · rw [eP] at hi ⊢; split at hi
    · simp [Fn.no] at hi
    · rename_i e; rw [if_neg e]; exact H.lh i hi
  · rw [eP]; split
    · simp [Fn.no]
    · exact H.h i
  · rw [eP]; split
    · simp [Fn.no]
    · exact H.c i
  · rw [eP]; split
    · simp [Fn.no, Fs.need]
    · exact H.B i
  · obtain ⟨hi, hb⟩ := eB i b hb
    obtain ⟨a, b', c⟩ := H.T i b hb
    exact ⟨a, b', relB_T F _ b c (fun q => hi (H.ap i n b hb q))⟩
  · rw [eP]; split
    · simp [Fn.no]
    · exact H.nd i
  · exact H.ap i j b (eB i b h1).2 (eB j b h2).2
  · exact relB_F F _ 0 H.T0
  · exact relB_F F _ b (H.T25 b hb)

theorem relB_lnk (F : Fs) (n : Nat) (x : Fn) (B : List Nat) : ((F.at_ n x).relB B) = ((F.relB B).at_ n x) := by
  unfold Fs.relB
  show (if dfc F.d 2 = true then _ else _) = _
  split <;> rfl
theorem less_eq (F : Fs) (n : Nat) : F.less n = if 0 < (F.P n).l - 1 ∨ 0 < (F.P n).h then F.lnk n ((F.P n).l - 1) else (F.relB (F.P n).B).at_ n Fn.no := by
  unfold Fs.less Fs.gone Fs.lnk
  rw [Fs.at_self, relB_lnk, Fs.at_at]
theorem gone_hld (F : Fs) (n : Nat) (h : Int) : (F.hld n h).gone n = if 0 < (F.P n).l ∨ 0 < h then F.hld n h else (F.relB (F.P n).B).at_ n Fn.no := by
  unfold Fs.gone Fs.hld
  rw [Fs.at_self, relB_lnk, Fs.at_at]

/-- A link less. -/
theorem FOk.less {F : Fs} (H : FOk F) (n : Nat) (hn1 : n ≠ 1) (hk : (F.P n).k ≠ 0) (hl : (nmc F.P n 17 : Int) + 1 ≤ (F.P n).l) (hQ : (F.P n).Q = []) (hd : (F.P n).k = 2 → (F.P n).h = 0) : FOk (F.less n) := by
  rw [less_eq]
  split
  · rename_i h
    refine H.lh_ n _ rfl rfl rfl rfl hk (fun _ => by show _ ≤ (F.P n).l - 1; omega) (fun e => ?_) (H.h n) h
    have h1 := (H.dir n e).2.2
    have h2 := hd e
    omega
  · rename_i h
    refine H.remove n hn1 ?_ hQ
    omega

end Go.Proofs.YtbglhmcahnkbfaaGreat

/- Ways along paths: where they go, what lies within what. -/
namespace Go.Proofs.YtbglhmcahnkbfaaGreat
set_option linter.unusedVariables false

/-- Directories, each named by the one ahead of it. -/
def Way (K : Nat → Int) (N : Nat → List UInt8 → Nat) : List Nat → Prop
  | [] => True
  | [a] => K a = 2
  | a :: b :: t => K a = 2 ∧ (∃ s, N a s = b) ∧ Way K N (b :: t)
theorem Way.cons {K : Nat → Int} {N : Nat → List UInt8 → Nat} {a b : Nat} {s : List UInt8} {t : List Nat} (h1 : K a = 2) (h2 : N a s = b) (h : Way K N (b :: t)) : Way K N (a :: b :: t) := ⟨h1, ⟨s, h2⟩, h⟩
theorem way_snoc {K : Nat → Int} {N : Nat → List UInt8 → Nat} : ∀ (ys : List Nat) (p c : Nat), Way K N (ys ++ [p, c]) → Way K N (ys ++ [p]) ∧ (∃ s, N p s = c) ∧ K c = 2
  | [], p, c, h => by obtain ⟨h1, h2, h3⟩ := h; exact ⟨h1, h2, h3⟩
  | [a], p, c, h => by
    obtain ⟨h1, h2, h3, h4, h5⟩ := h
    exact ⟨⟨h1, h2, h3⟩, h4, h5⟩
  | a :: b :: t, p, c, h => by
    obtain ⟨h1, h2, h3⟩ := h
    obtain ⟨q1, q2, q3⟩ := way_snoc (b :: t) p c h3
    exact ⟨⟨h1, h2, q1⟩, q2, q3⟩
theorem way_mem {K : Nat → Int} {N : Nat → List UInt8 → Nat} : ∀ (y : List Nat), Way K N y → ∀ a ∈ y, K a = 2
  | [], _, a, h => by simp at h
  | [b], h, a, q => by simp at q; subst q; exact h
  | b :: c :: t, h, a, q => by
    rcases List.mem_cons.1 q with e | q
    · subst e; exact h.1
    · exact way_mem (c :: t) h.2.2 a q

theorem wk_way (K : Nat → Int) (N : Nat → List UInt8 → Nat) : ∀ (l : List (List UInt8)) (n : Nat) (y0 y : List Nat) (s : List UInt8) (m : Nat), wk K N n y0 l = .ok (y, s, m) →
    ∃ t d, y = y0 ++ n :: t ∧ Way K N (n :: t) ∧ (n :: t).getLast? = some d ∧ m = N d s ∧ s ≠ [] ∧ s.length ≤ 6
  | [], n, y0, y, s, m, h => by simp [wk] at h
  | q :: r, n, y0, y, s, m, h => by
    by_cases a0 : K n = 0
    · cases r <;> simp [wk, a0] at h
    by_cases a2 : K n = 2
    case neg => cases r <;> simp [wk, a0, a2] at h
    by_cases a3 : q = []
    · cases r <;> simp [wk, a2, a3] at h
    by_cases a4 : 6 < q.length
    · cases r <;> simp [wk, a2, a3, a4] at h
    cases r with
    | nil =>
      simp [wk, a2, a3, a4] at h
      obtain ⟨rfl, rfl, rfl⟩ := h
      exact ⟨[], n, rfl, a2, rfl, rfl, a3, by omega⟩
    | cons z t =>
      have e : wk K N n y0 (q :: z :: t) = wk K N (N n q) (y0 ++ [n]) (z :: t) := by
        conv => lhs; unfold wk
        simp [a2, a3, a4]
      rw [e] at h
      obtain ⟨t', d, h1, h2, h3, h4⟩ := wk_way K N (z :: t) _ _ _ _ _ h
      refine ⟨N n q :: t', d, by rw [h1]; simp, Way.cons a2 rfl h2, ?_, h4⟩
      rw [List.getLast?_cons_cons]; exact h3

theorem dirOf_last {y : List Nat} {d : Nat} (h : y.getLast? = some d) : Fs.dirOf y = d := by unfold Fs.dirOf; rw [List.getLastD_eq_getLast?, h]; rfl

/-- What a walk that comes to an end says. -/
structure Wlk (F : Fs) (y : List Nat) (s : List UInt8) (n : Nat) : Prop where
  hd : ∃ t, y = 1 :: t
  way : Way F.K F.N y
  last : y.getLast? = some (Fs.dirOf y)
  k : (F.P (Fs.dirOf y)).k = 2
  nn : n = lk (F.P (Fs.dirOf y)).Q s
  ne : s ≠ []
  len : s.length ≤ 6
  lt : 1 ≤ Fs.dirOf y ∧ Fs.dirOf y < 17
  to : n ≠ 0 → 1 < n ∧ n < 17 ∧ (F.P n).k ≠ 0

theorem FOk.walk_ok {F : Fs} (H : FOk F) {l : List UInt8} {y : List Nat} {s : List UInt8} {n : Nat} (h : F.walk l = .ok (y, s, n)) : Wlk F y s n := by
  unfold Fs.walk at h
  split at h
  · obtain ⟨t, d, h1, h2, h3, h4, h5, h6⟩ := wk_way _ _ _ _ _ _ _ _ h
    have h1' : y = 1 :: t := by rw [h1]; rfl
    rw [← h1'] at h2 h3
    have e := dirOf_last h3
    have hk : (F.P d).k = 2 := way_mem y h2 d (List.mem_of_getLast? h3)
    refine ⟨⟨t, h1'⟩, h2, by rw [e]; exact h3, by rw [e]; exact hk, by rw [e]; exact h4, h5, h6, by rw [e]; exact H.lt (by omega), fun hn => ?_⟩
    have := lk_mem (Q := (F.P d).Q) (s := s) (fun q => hn (by rw [h4]; exact q))
    rw [show lk (F.P d).Q s = n from h4.symm] at this
    obtain ⟨a, b, c, _⟩ := H.nm d _ this
    exact ⟨a, b, c⟩
  · simp at h

theorem wk_errs (K : Nat → Int) (N : Nat → List UInt8 → Nat) : ∀ (l : List (List UInt8)) (n : Nat) (y0 : List Nat) (e : Int), l ≠ [] → wk K N n y0 l = .error e → e = 2 ∨ e = 20 ∨ e = 22 ∨ e = 36
  | [], _, _, _, hl, _ => absurd rfl hl
  | q :: r, n, y0, e, _, h => by
    by_cases a0 : K n = 0
    · cases r <;> simp [wk, a0] at h <;> omega
    by_cases a2 : K n = 2
    case neg => cases r <;> simp [wk, a0, a2] at h <;> omega
    by_cases a3 : q = []
    · cases r <;> simp [wk, a2, a3] at h <;> omega
    by_cases a4 : 6 < q.length
    · cases r <;> simp [wk, a2, a3, a4] at h <;> omega
    cases r with
    | nil => simp [wk, a2, a3, a4] at h
    | cons z t =>
      have e : wk K N n y0 (q :: z :: t) = wk K N (N n q) (y0 ++ [n]) (z :: t) := by
        conv => lhs; unfold wk
        simp [a2, a3, a4]
      rw [e] at h
      exact wk_errs K N (z :: t) _ _ _ (by simp) h
theorem Fs.walk_err {F : Fs} {l : List UInt8} {e : Int} (h : F.walk l = .error e) : e = 2 ∨ e = 20 ∨ e = 22 ∨ e = 36 := by
  unfold Fs.walk at h
  split at h
  · exact wk_errs _ _ _ _ _ _ (spl_ne _) h
  · simp at h; omega

theorem name_mem {F : Fs} {a b : Nat} {s : List UInt8} (h : F.N a s = b) (hb : b ≠ 0) : (s, b) ∈ (F.P a).Q := by
  have := lk_mem (Q := (F.P a).Q) (s := s) (by unfold Fs.N at h; omega)
  unfold Fs.N at h
  rw [h] at this
  exact this
theorem way_rch {F : Fs} (H : FOk F) : ∀ (ys : List Nat) (c : Nat), Way F.K F.N (ys ++ [c]) → ∀ a ∈ ys ++ [c], Rch F a c := by
  intro ys
  induction hn : ys.length generalizing ys with
  | zero =>
    intro c h a ha
    have : ys = [] := List.eq_nil_of_length_eq_zero hn
    subst this
    simp at ha
    subst ha
    exact .refl _
  | succ m ih =>
    intro c h a ha
    obtain ⟨zs, p, rfl⟩ : ∃ zs p, ys = zs ++ [p] := ⟨ys.dropLast, ys.getLast (by intro e; simp [e] at hn), (List.dropLast_concat_getLast _).symm⟩
    rw [show zs ++ [p] ++ [c] = zs ++ [p, c] by simp] at h
    obtain ⟨h1, ⟨s, h2⟩, h3⟩ := way_snoc zs p c h
    rcases List.mem_append.1 ha with q | q
    · have hc : c ≠ 0 := fun e => by
        unfold Fs.K at h3; rw [e, H.zero] at h3; simp [Fn.no] at h3
      exact .step _ (ih zs (by simpa using hn) p h1 a q) (name_mem h2 hc) rfl
    · simp at q; subst q; exact .refl _
theorem nmc_two {P : Nat → Fn} {i : Nat} : ∀ (m a b : Nat), a < m → b < m → a ≠ b → (∃ x ∈ (P a).Q, x.2 = i) → (∃ x ∈ (P b).Q, x.2 = i) → 2 ≤ nmc P i m
  | 0, a, b, h, _, _, _, _ => by omega
  | m + 1, a, b, ha, hb, hn, ⟨x, hx, ex⟩, ⟨y, hy, ey⟩ => by
    unfold nmc
    by_cases e1 : a = m
    · have h1 := nmc_pos m b (by omega) y hy ey
      have h2 : 1 ≤ cq (P m).Q i := by
        rcases Nat.eq_zero_or_pos (cq (P m).Q i) with q | q
        · exact absurd ex (cq_zero.1 q x (by rw [← e1]; exact hx))
        · exact q
      omega
    · by_cases e2 : b = m
      · have h1 := nmc_pos m a (by omega) x hx ex
        have h2 : 1 ≤ cq (P m).Q i := by
          rcases Nat.eq_zero_or_pos (cq (P m).Q i) with q | q
          · exact absurd ey (cq_zero.1 q y (by rw [← e2]; exact hy))
          · exact q
        omega
      · have := nmc_two m a b (by omega) (by omega) hn ⟨x, hx, ex⟩ ⟨y, hy, ey⟩
        omega
theorem FOk.mem_lt {F : Fs} (H : FOk F) {i : Nat} {x : List UInt8 × Nat} (hx : x ∈ (F.P i).Q) : i < 17 :=
  (H.lt (i := i) (fun e => by rw [H.none i e] at hx; simp [Fn.no] at hx)).2
theorem FOk.one_dir {F : Fs} (H : FOk F) {a b c : Nat} (hc : (F.P c).k = 2) {x y : List UInt8 × Nat} (hx : x ∈ (F.P a).Q) (ex : x.2 = c) (hy : y ∈ (F.P b).Q) (ey : y.2 = c) : a = b := by
  by_cases e : a = b
  · exact e
  · have h1 := nmc_two 17 a b (H.mem_lt hx) (H.mem_lt hy) e ⟨x, hx, ex⟩ ⟨y, hy, ey⟩
    have hc1 : c ≠ 1 := by have := (H.nm a x hx).1; omega
    have h2 := H.li c hc1
    have h3 := (H.dir c hc).2.2
    omega
theorem rch_way {F : Fs} (H : FOk F) (n : Nat) : ∀ (ys : List Nat) (c : Nat), Way F.K F.N (ys ++ [c]) → (∃ t, ys ++ [c] = 1 :: t) → Rch F n c → n ∈ ys ++ [c] := by
  intro ys
  induction hn : ys.length generalizing ys with
  | zero =>
    intro c h ⟨t, ht⟩ r
    have : ys = [] := List.eq_nil_of_length_eq_zero hn
    subst this
    simp at ht
    obtain ⟨rfl, _⟩ := ht
    cases r with
    | refl => simp
    | step x _ hx e => have := (H.nm _ x hx).1; omega
  | succ m ih =>
    intro c h ⟨t, ht⟩ r
    obtain ⟨zs, p, rfl⟩ : ∃ zs p, ys = zs ++ [p] := ⟨ys.dropLast, ys.getLast (by intro e; simp [e] at hn), (List.dropLast_concat_getLast _).symm⟩
    rw [show zs ++ [p] ++ [c] = zs ++ [p, c] by simp] at h
    obtain ⟨h1, ⟨s, h2⟩, h3⟩ := way_snoc zs p c h
    have hc : c ≠ 0 := fun e => by
      unfold Fs.K at h3; rw [e, H.zero] at h3; simp [Fn.no] at h3
    cases r with
    | refl => simp
    | step x r' hx e =>
      have hp := H.one_dir h3 hx e (name_mem h2 hc) rfl
      subst hp
      refine List.mem_append.2 (.inl (ih zs (by simpa using hn) _ h1 ?_ r'))
      cases zs with
      | nil => simp at ht ⊢; exact ht.1
      | cons z zs => simp at ht ⊢; exact ht.1

/-- A directory lies on a way just if the way's end lies within it. -/
theorem Wlk.on {F : Fs} (H : FOk F) {y : List Nat} {s : List UInt8} {m : Nat} (h : Wlk F y s m) (n : Nat) : n ∈ y ↔ (F.P n).k = 2 ∧ Rch F n (Fs.dirOf y) := by
  obtain ⟨t, ht⟩ := h.hd
  have hy : y = y.dropLast ++ [Fs.dirOf y] := by
    have hne : y ≠ [] := by rw [ht]; simp
    have := h.last
    rw [List.getLast?_eq_some_getLast hne] at this
    rw [← Option.some.inj this]
    exact (List.dropLast_concat_getLast hne).symm
  have hw := h.way
  rw [hy] at hw
  constructor
  · intro hn
    exact ⟨way_mem y h.way n hn, way_rch H _ _ hw n (by rw [← hy]; exact hn)⟩
  · rintro ⟨_, r⟩
    rw [hy]
    exact rch_way H n _ _ hw ⟨t, by rw [← hy]; exact ht⟩ r

end Go.Proofs.YtbglhmcahnkbfaaGreat

/- Each call leaves a file system as calls make it. -/
namespace Go.Proofs.YtbglhmcahnkbfaaGreat
set_option linter.unusedVariables false

theorem Fs.nq_P (F : Fs) (dr : Nat) (Q : List (List UInt8 × Nat)) (i : Nat) : (F.nq dr Q).P i = { F.P i with Q := if i = dr then Q else (F.P i).Q } := by
  unfold Fs.nq
  rw [Fs.at_P]
  by_cases e : i = dr
  · subst e; simp
  · simp [e]
theorem Fs.lnk_P (F : Fs) (n : Nat) (l : Int) (i : Nat) : (F.lnk n l).P i = { F.P i with l := if i = n then l else (F.P i).l } := by
  unfold Fs.lnk
  rw [Fs.at_P]
  by_cases e : i = n
  · subst e; simp
  · simp [e]
theorem Fs.hld_P (F : Fs) (n : Nat) (h : Int) (i : Nat) : (F.hld n h).P i = { F.P i with h := if i = n then h else (F.P i).h } := by
  unfold Fs.hld
  rw [Fs.at_P]
  by_cases e : i = n
  · subst e; simp
  · simp [e]
theorem Fs.deln_P (F : Fs) (dr : Nat) (s : List UInt8) (i : Nat) : (F.deln dr s).P i = { F.P i with Q := if i = dr then del s (F.P dr).Q else (F.P i).Q } := Fs.nq_P F dr _ i
theorem Fs.addn_P (F : Fs) (dr : Nat) (s : List UInt8) (n i : Nat) : (F.addn dr s n).P i = { F.P i with Q := if i = dr then ins s n (F.P dr).Q else (F.P i).Q } := Fs.nq_P F dr _ i

theorem rootF_ok (d : Int) : FOk (rootF d) := by
  have e : ∀ i, (rootF d).P i = if i = 1 then Fn.nu 2 else Fn.no := fun _ => rfl
  have eQ : ∀ i, ((rootF d).P i).Q = [] := fun i => by rw [e]; split <;> rfl
  have ec : ∀ i, ((rootF d).P i).c = [] := fun i => by rw [e]; split <;> rfl
  have eB : ∀ i, ((rootF d).P i).B = [] := fun i => by rw [e]; split <;> rfl
  have en : ∀ i m, nmc (rootF d).P i m = 0 := fun i m => by
    induction m with
    | zero => rfl
    | succ m ih => unfold nmc; rw [ih, eQ]; rfl
  refine ⟨fun i => ?_, fun i hi => by rw [e, if_neg (by omega)], by rw [e, if_neg (by omega)], by rw [e, if_pos rfl]; rfl, fun i hi => ?_, fun i hi => eQ i, fun i hi => ⟨ec i, eB i, ?_⟩, fun i => by rw [eQ]; exact List.Pairwise.nil, fun i => by rw [eQ]; simp, fun i x hx => by rw [eQ] at hx; simp at hx, ⟨fun _ => 0, fun i x hx => by rw [eQ] at hx; simp at hx⟩,
    fun i hi => ?_, fun i hi => ?_, fun i => ?_, fun i => by rw [ec]; simp, fun i => by rw [eB, ec]; rfl, fun i b hb => by rw [eB] at hb; simp at hb, fun i => by rw [eB]; simp, fun i j b hb => by rw [eB] at hb; simp at hb, rfl, fun _ _ => rfl⟩
  · rw [e]; split <;> simp [Fn.nu, Fn.no]
  · rw [e] at hi ⊢; split at hi
    · simp [Fn.nu] at hi
    · rename_i q; rw [if_neg q]
  · rw [e] at hi ⊢; split at hi
    · rename_i q; rw [if_pos q]; rfl
    · simp [Fn.no] at hi
  · rw [en, e, if_neg hi]; simp [Fn.no]
  · rw [e] at hi ⊢; split at hi
    · rename_i q; rw [if_pos q]; simp [Fn.nu]
    · simp [Fn.no] at hi
  · rw [e]; split <;> simp [Fn.nu, Fn.no]

theorem Fs.free_lt {F : Fs} (h : F.free ≠ 0) : 1 ≤ F.free ∧ F.free < 17 ∧ (F.P F.free).k = 0 := by
  unfold Fs.free at h ⊢
  cases q : (List.range' 1 16).find? (fun i => decide ((F.P i).k = 0)) with
  | none => rw [q] at h; exact absurd rfl h
  | some i =>
    have h1 := List.find?_some q
    have h2 := List.mem_of_find?_eq_some q
    simp at h1
    rw [List.mem_range'_1] at h2
    exact ⟨by show 1 ≤ i; omega, by show i < 17; omega, h1⟩

theorem FOk.make {F : Fs} (H : FOk F) (l : List UInt8) (kind : Int) : FOk (F.make l kind).1 := by
  unfold Fs.make
  split
  · exact H
  rename_i hkind
  split
  · exact H
  rename_i y s n hw
  have W := H.walk_ok hw
  split
  · exact H
  rename_i hn
  split
  · exact H
  rename_i h6
  split
  · exact H
  rename_i hf
  obtain ⟨f1, f2, f3⟩ := Fs.free_lt hf
  have hdf : Fs.dirOf y ≠ F.free := fun e => by have := W.k; rw [e] at this; omega
  have h0 := H.none _ f3
  have hG := H.new F.free kind f1 f2 f3 (by omega)
  have ed : (F.at_ F.free (Fn.nu kind)).P (Fs.dirOf y) = F.P (Fs.dirOf y) := Fs.at_ne _ _ _ _ hdf
  have ef : (F.at_ F.free (Fn.nu kind)).P F.free = Fn.nu kind := Fs.at_self _ _ _
  have en : nmc (F.at_ F.free (Fn.nu kind)).P F.free 17 = nmc F.P F.free 17 := nmc_same _ 17 (fun j _ => Fs.at_f Fn.Q F F.free _ (by rw [h0]; rfl) j)
  have hf1 : F.free ≠ 1 := fun e => by have := H.root; rw [e] at f3; omega
  have hz := H.li F.free hf1
  rw [h0] at hz
  simp only [Fn.no] at hz
  refine hG.addn _ s F.free (by rw [ed]; exact W.k) (by rw [ed, ← W.nn]; omega) W.ne W.len (by rw [ed]; omega) hf1 (by rw [ef]; simp only [Fn.nu]; omega) (fun r => ?_) ?_
  · have := r.leaf (by rw [ef]; rfl)
    exact hdf this
  · rw [en, ef]; simp only [Fn.nu]; omega

/-- A name goes, and a link of what it named. -/
theorem FOk.deln_less {F : Fs} (H : FOk F) {y : List Nat} {s : List UInt8} {n : Nat} (W : Wlk F y s n) (hn : n ≠ 0) (hQ : (F.P n).Q = []) (hd : (F.P n).k = 2 → (F.P n).h = 0) : FOk ((F.deln (Fs.dirOf y) s).less n) := by
  have hG := H.deln (Fs.dirOf y) s W.k
  obtain ⟨n1, n17, nk⟩ := W.to hn
  have hne : n ≠ Fs.dirOf y := fun e => by
    have := lk_mem (Q := (F.P (Fs.dirOf y)).Q) (s := s) (by rw [← W.nn]; exact hn)
    rw [← e, hQ] at this; simp at this
  have e : (F.deln (Fs.dirOf y) s).P n = F.P n := by unfold Fs.deln Fs.nq; exact Fs.at_ne _ _ _ _ hne
  have hc := nmc_deln H (Fs.dirOf y) W.lt.2 s (by rw [← W.nn]; exact hn) n
  rw [← W.nn, if_pos rfl] at hc
  have hl := H.li n (by omega)
  exact hG.less n (by omega) (by rw [e]; exact nk) (by rw [e]; omega) (by rw [e]; exact hQ) (by rw [e]; exact hd)

theorem FOk.unlink {F : Fs} (H : FOk F) (l : List UInt8) : FOk (F.unlink l).1 := by
  unfold Fs.unlink
  split
  · exact H
  rename_i y s n hw
  have W := H.walk_ok hw
  split
  · exact H
  rename_i hn
  split
  · exact H
  rename_i hk
  split
  · exact H.deln _ _ W.k
  · exact H.deln_less W hn (H.file n hk) (fun e => absurd e hk)
theorem FOk.rmdir {F : Fs} (H : FOk F) (l : List UInt8) : FOk (F.rmdir l).1 := by
  unfold Fs.rmdir
  split
  · exact H
  rename_i y s n hw
  have W := H.walk_ok hw
  split
  · exact H
  rename_i hn
  split
  · exact H
  rename_i hk
  split
  · exact H
  rename_i hs
  have hs : F.stays n = 0 := Decidable.not_not.1 hs
  unfold Fs.stays at hs
  split at hs
  · simp at hs
  rename_i hq
  split at hs
  · simp at hs
  rename_i hh
  exact H.deln_less W hn (List.eq_nil_of_length_eq_zero (by omega)) (fun _ => by have := (H.h n).1; omega)

theorem FOk.find_ok {F : Fs} (H : FOk F) {l : List UInt8} (h : (F.find l).2 = 0) : (F.P (F.find l).1).k ≠ 0 ∧ ((F.P (F.find l).1).k ≠ 2 → (F.find l).1 ≠ 1) := by
  unfold Fs.find at h ⊢
  split at h
  · rename_i e
    rw [if_pos e]
    refine ⟨by have := H.root; dsimp only; omega, fun q => absurd H.root q⟩
  · rename_i e
    rw [if_neg e]
    split at h
    · rename_i e' hw
      have := Fs.walk_err hw
      simp at h; omega
    · rename_i y s n hw
      have W := H.walk_ok hw
      split at h
      · simp at h
      · rename_i hn
        rw [if_neg hn]
        obtain ⟨a, b, c⟩ := W.to hn
        exact ⟨c, fun _ => by show n ≠ 1; omega⟩

theorem FOk.link {F : Fs} (H : FOk F) (l m : List UInt8) : FOk (F.link l m).1 := by
  unfold Fs.link
  split
  · exact H
  rename_i h0
  have h0 : (F.find l).2 = 0 := Decidable.not_not.1 h0
  obtain ⟨k0, k1⟩ := H.find_ok h0
  split
  · exact H
  rename_i hk
  split
  · exact H
  rename_i y s n hw
  have W := H.walk_ok hw
  split
  · exact H
  rename_i hn
  split
  · exact H
  rename_i h6
  generalize (F.find l).1 = q at *
  have hq1 := k1 hk
  have hl := H.li q hq1
  have hG : FOk (F.lnk q ((F.P q).l + 1)) := by
    refine H.lh_ q _ rfl rfl rfl rfl k0 (fun _ => by show _ ≤ (F.P q).l + 1; omega) (fun e => absurd e hk) (H.h q) (.inl (by show 0 < (F.P q).l + 1; omega))
  have hne : Fs.dirOf y ≠ q := fun e => by rw [← e] at hk; exact hk W.k
  have ed : (F.lnk q ((F.P q).l + 1)).P (Fs.dirOf y) = F.P (Fs.dirOf y) := Fs.at_ne _ _ _ _ hne
  have eq : (F.lnk q ((F.P q).l + 1)).P q = { F.P q with l := (F.P q).l + 1 } := Fs.at_self _ _ _
  have en : nmc (F.lnk q ((F.P q).l + 1)).P q 17 = nmc F.P q 17 := nmc_same _ 17 (fun j _ => by rw [Fs.lnk_P])
  refine hG.addn _ s q (by rw [ed]; exact W.k) (by rw [ed, ← W.nn]; omega) W.ne W.len (by rw [ed]; omega) hq1 (by rw [eq]; exact k0) (fun r => ?_) ?_
  · exact hne (r.leaf (by rw [eq]; exact H.file q hk))
  · rw [en, eq]; dsimp only; omega

theorem FOk.over_ok {F : Fs} (H : FOk F) {n m : Nat} (h : F.over n m = 0) : (F.P m).Q = [] ∧ ((F.P m).k = 2 → (F.P m).h = 0) := by
  unfold Fs.over at h
  split at h
  · rename_i hk
    split at h
    · unfold Fs.stays at h
      split at h
      · simp at h
      rename_i hq
      split at h
      · simp at h
      rename_i hh
      exact ⟨List.eq_nil_of_length_eq_zero (by omega), fun _ => by have := (H.h m).1; omega⟩
    · simp at h
  · rename_i hk
    exact ⟨H.file m hk, fun e => absurd e hk⟩

/-- A node under another name, ahead of what becomes of the one that had it. -/
theorem FOk.moved {F : Fs} (H : FOk F) {y y2 : List Nat} {s s2 : List UInt8} {n n2 : Nat} (W : Wlk F y s n) (W2 : Wlk F y2 s2 n2) (hn : n ≠ 0) (hnn : n2 ≠ n) (hr : n ∉ y2) (hf : ¬ (n2 = 0 ∧ Fs.dirOf y2 ≠ Fs.dirOf y ∧ 6 ≤ (F.P (Fs.dirOf y2)).Q.length)) :
    FOk (((F.deln (Fs.dirOf y) s).deln (Fs.dirOf y2) s2).addn (Fs.dirOf y2) s2 n) ∧ (n2 ≠ 0 → (nmc (((F.deln (Fs.dirOf y) s).deln (Fs.dirOf y2) s2).addn (Fs.dirOf y2) s2 n).P n2 17 : Int) + 1 ≤ (F.P n2).l) ∧
    (∀ i, ((((F.deln (Fs.dirOf y) s).deln (Fs.dirOf y2) s2).addn (Fs.dirOf y2) s2 n).P i) = { F.P i with Q := ((((F.deln (Fs.dirOf y) s).deln (Fs.dirOf y2) s2).addn (Fs.dirOf y2) s2 n).P i).Q }) := by
  have h1 := H.deln (Fs.dirOf y) s W.k
  have k1 : ∀ i, ((F.deln (Fs.dirOf y) s).P i).k = (F.P i).k := fun i => by rw [Fs.deln_P]
  have l1 : ∀ i, ((F.deln (Fs.dirOf y) s).P i).l = (F.P i).l := fun i => by rw [Fs.deln_P]
  have h2 := h1.deln (Fs.dirOf y2) s2 (by rw [k1]; exact W2.k)
  obtain ⟨G, gG⟩ : ∃ G, G = (F.deln (Fs.dirOf y) s).deln (Fs.dirOf y2) s2 := ⟨_, rfl⟩
  have k2 : ∀ i, (G.P i).k = (F.P i).k := fun i => by rw [gG, Fs.deln_P]; exact k1 i
  have l2 : ∀ i, (G.P i).l = (F.P i).l := fun i => by rw [gG, Fs.deln_P]; exact l1 i
  have e2 : ∀ i, G.P i = { F.P i with Q := (G.P i).Q } := fun i => by
    rw [gG, Fs.deln_P, Fs.deln_P]
  have sub : ∀ i x, x ∈ (G.P i).Q → x ∈ (F.P i).Q := fun i x hx => deln_sub F _ _ i x (deln_sub (F.deln (Fs.dirOf y) s) _ _ i x (by rw [← gG]; exact hx))
  rw [← gG] at h2 ⊢
  obtain ⟨n1, n17, nk⟩ := W.to hn
  have hnz : lk (F.P (Fs.dirOf y)).Q s ≠ 0 := by rw [← W.nn]; exact hn
  have c1 := nmc_deln H (Fs.dirOf y) W.lt.2 s hnz
  have hz2 : lk (G.P (Fs.dirOf y2)).Q s2 = 0 := by
    have : (G.P (Fs.dirOf y2)).Q = del s2 ((F.deln (Fs.dirOf y) s).P (Fs.dirOf y2)).Q := by rw [gG, deln_Q, if_pos rfl]
    rw [this, lk_del, if_pos rfl]
  have hlt : (G.P (Fs.dirOf y2)).Q.length < 6 := by
    have a1 := H.len (Fs.dirOf y2)
    have e1 : (G.P (Fs.dirOf y2)).Q = del s2 ((F.deln (Fs.dirOf y) s).P (Fs.dirOf y2)).Q := by rw [gG, deln_Q, if_pos rfl]
    have a3 : (G.P (Fs.dirOf y2)).Q.length ≤ ((F.deln (Fs.dirOf y) s).P (Fs.dirOf y2)).Q.length := by rw [e1]; exact List.length_filter_le _ _
    by_cases ed : Fs.dirOf y2 = Fs.dirOf y
    · have a2 := len_del (H.srt (Fs.dirOf y)) hnz
      rw [ed] at a3 ⊢
      rw [deln_Q, if_pos rfl] at a3
      have := H.len (Fs.dirOf y)
      omega
    · have e3 : ((F.deln (Fs.dirOf y) s).P (Fs.dirOf y2)).Q = (F.P (Fs.dirOf y2)).Q := by rw [deln_Q, if_neg ed]
      by_cases hn2 : n2 = 0
      · rw [e3] at a3; omega
      · have hnz2 : lk (F.P (Fs.dirOf y2)).Q s2 ≠ 0 := by rw [← W2.nn]; exact hn2
        have a2 := len_del (H.srt (Fs.dirOf y2)) hnz2
        rw [e1, e3]; omega
  have hrch : ¬ Rch G n (Fs.dirOf y2) := fun r => by
    have r' := r.sub sub
    by_cases hk : (F.P n).k = 2
    · exact hr ((W2.on H n).2 ⟨hk, r'⟩)
    · have := r'.leaf (H.file n hk)
      have := W2.k
      rw [‹Fs.dirOf y2 = n›] at this
      exact hk this
  have c2 : ∀ i, nmc G.P i 17 ≤ nmc (F.deln (Fs.dirOf y) s).P i 17 := fun i => by
    by_cases q : lk ((F.deln (Fs.dirOf y) s).P (Fs.dirOf y2)).Q s2 = 0
    · rw [gG, deln_none h1 _ _ q]; exact Nat.le_refl _
    · have := nmc_deln h1 (Fs.dirOf y2) W2.lt.2 s2 q i
      rw [gG]; omega
  have cn := c1 n
  rw [← W.nn, if_pos rfl] at cn
  have hln := H.li n (by omega)
  have c2n := c2 n
  refine ⟨h2.addn _ s2 n (by rw [k2]; exact W2.k) hz2 W2.ne W2.len hlt (by omega) (by rw [k2]; exact nk) hrch (by rw [l2]; omega), fun hn2 => ?_, fun i => ?_⟩
  · rw [nmc_addn _ W2.lt.2, if_neg (fun e => hnn e.symm)]
    obtain ⟨m1, _, _⟩ := W2.to hn2
    have hl2 := H.li n2 (by omega)
    have q1 := c1 n2
    rw [← W.nn, if_neg (fun e => hnn e.symm)] at q1
    have hq : lk ((F.deln (Fs.dirOf y) s).P (Fs.dirOf y2)).Q s2 = n2 := by
      rw [deln_Q]
      split
      · rename_i ed
        rw [lk_del]
        split
        · rename_i es
          have a := W.nn
          have b := W2.nn
          rw [ed, es, ← a] at b
          exact absurd b hnn
        · rw [← ed]; exact W2.nn.symm
      · exact W2.nn.symm
    have := nmc_deln h1 (Fs.dirOf y2) W2.lt.2 s2 (by rw [hq]; exact hn2) n2
    rw [hq, if_pos rfl, ← gG] at this
    omega
  · rw [Fs.addn_P]; dsimp only; rw [e2 i]

theorem FOk.rename {F : Fs} (H : FOk F) (l m : List UInt8) : FOk (F.rename l m).1 := by
  unfold Fs.rename
  split
  · exact H
  rename_i y s n hw
  have W := H.walk_ok hw
  split
  · exact H
  rename_i hn
  split
  · exact H
  rename_i y2 s2 n2 hw2
  have W2 := H.walk_ok hw2
  split
  · exact H
  rename_i hnn
  split
  · exact H
  rename_i hov
  split
  · exact H
  rename_i hr
  split
  · exact H
  rename_i hf
  obtain ⟨h1, h2, h3⟩ := H.moved W W2 hn hnn hr hf
  split
  · rename_i h4
    obtain ⟨h4, _⟩ := h4
    have ho : F.over n n2 = 0 := Decidable.not_not.1 (fun q => hov ⟨h4, q⟩)
    obtain ⟨q1, q2⟩ := H.over_ok ho
    obtain ⟨m1, m17, mk⟩ := W2.to h4
    have e := h3 n2
    have hQ : ((((F.deln (Fs.dirOf y) s).deln (Fs.dirOf y2) s2).addn (Fs.dirOf y2) s2 n).P n2).Q = [] := by
      have hne : n2 ≠ Fs.dirOf y2 := fun e => by
        have := lk_mem (Q := (F.P (Fs.dirOf y2)).Q) (s := s2) (by rw [← W2.nn]; exact h4)
        rw [← e, q1] at this; simp at this
      unfold Fs.addn Fs.nq
      rw [Fs.at_ne _ _ _ _ hne]
      refine List.eq_nil_iff_forall_not_mem.2 (fun x hx => ?_)
      have := deln_sub F _ _ n2 x (deln_sub (F.deln (Fs.dirOf y) s) _ _ n2 x hx)
      rw [q1] at this; simp at this
    refine h1.less n2 (by omega) (by rw [e]; exact mk) ?_ hQ (fun hk => ?_)
    · rw [e]; exact h2 h4
    · rw [e] at hk ⊢; exact q2 hk
  · exact h1

theorem FOk.hold {F : Fs} (H : FOk F) (n : Int) : FOk (F.hold n).1 := by
  unfold Fs.hold
  split
  · exact H
  rename_i ht
  split
  · exact H
  rename_i hh
  simp only [Bool.not_eq_false, Fs.there, decide_eq_true_eq] at ht
  generalize n.toNat = q at *
  have h0 := H.h q
  have hl := H.l0 q
  refine H.lh_ q _ rfl rfl rfl rfl ht.2.2 (fun hq => H.li q hq) (fun e => (H.dir q e).2.2) ⟨?_, ?_⟩ (.inr ?_)
  · show 0 ≤ (F.P q).h + 1; omega
  · show (F.P q).h + 1 ≤ 1000; omega
  · show 0 < (F.P q).h + 1; omega
theorem FOk.drop {F : Fs} (H : FOk F) (n : Int) : FOk (F.drop n).1 := by
  unfold Fs.drop
  split
  · exact H
  rename_i ht
  split
  · exact H
  rename_i hh
  simp only [Bool.not_eq_false, Fs.there, decide_eq_true_eq] at ht
  generalize n.toNat = q at *
  have h0 := H.h q
  have hl := H.l0 q
  dsimp only
  rw [gone_hld]
  split
  · rename_i h
    refine H.lh_ q _ rfl rfl rfl rfl ht.2.2 (fun hq => H.li q hq) (fun e => (H.dir q e).2.2) ⟨?_, ?_⟩ h
    · show 0 ≤ (F.P q).h - 1; omega
    · show (F.P q).h - 1 ≤ 1000; omega
  · rename_i h
    have hq1 : q ≠ 1 := fun e => by have := (H.dir q (by rw [e]; exact H.root)).2.2; omega
    have hk : (F.P q).k ≠ 2 := fun e => by have := (H.dir q e).2.2; omega
    have := H.li q hq1
    exact H.remove q hq1 (by omega) (H.file q hk)

end Go.Proofs.YtbglhmcahnkbfaaGreat

/- Write and Resize leave a file system as calls make it. -/
namespace Go.Proofs.YtbglhmcahnkbfaaGreat
set_option linter.unusedVariables false

/-- A file of other bytes and blocks, other marks. -/
def Fs.with_ (F : Fs) (n : Nat) (c : List Int) (B : List Nat) (T : Nat → Bool) : Fs := { F.at_ n { F.P n with c := c, B := B } with T := T }
theorem Fs.with_P (F : Fs) (n : Nat) (c : List Int) (B : List Nat) (T : Nat → Bool) (i : Nat) : (F.with_ n c B T).P i = if i = n then { F.P n with c := c, B := B } else F.P i := rfl

theorem FOk.cont {F : Fs} (H : FOk F) (n : Nat) (c : List Int) (B : List Nat) (T : Nat → Bool) (hk : (F.P n).k = 1) (hc : c.length ≤ 96 ∧ ∀ z ∈ c, 0 ≤ z ∧ z < 256) (hB : B.length = Fs.need c.length)
    (hT : ∀ b ∈ B, 1 ≤ b ∧ b < 25 ∧ T b = true) (hd : B.Nodup) (ho : ∀ j, j ≠ n → ∀ b ∈ (F.P j).B, T b = true ∧ b ∉ B) (h0 : T 0 = false) (h25 : ∀ b, 25 ≤ b → T b = false) : FOk (F.with_ n c B T) := by
  have ek : ∀ i, ((F.with_ n c B T).P i).k = (F.P i).k := fun i => by rw [Fs.with_P]; split <;> simp [*]
  have el : ∀ i, ((F.with_ n c B T).P i).l = (F.P i).l := fun i => by rw [Fs.with_P]; split <;> simp [*]
  have eh : ∀ i, ((F.with_ n c B T).P i).h = (F.P i).h := fun i => by rw [Fs.with_P]; split <;> simp [*]
  have eQ : ∀ i, ((F.with_ n c B T).P i).Q = (F.P i).Q := fun i => by rw [Fs.with_P]; split <;> simp [*]
  have ec : ∀ i, ((F.with_ n c B T).P i).c = if i = n then c else (F.P i).c := fun i => by rw [Fs.with_P]; split <;> rfl
  have eB : ∀ i, ((F.with_ n c B T).P i).B = if i = n then B else (F.P i).B := fun i => by rw [Fs.with_P]; split <;> rfl
  have en : ∀ i, nmc (F.with_ n c B T).P i 17 = nmc F.P i 17 := fun i => nmc_same i 17 (fun j _ => eQ j)
  have hn := H.lt (i := n) (by omega)
  have ene : ∀ i, i ≠ n → (F.with_ n c B T).P i = F.P i := fun i hi => by rw [Fs.with_P, if_neg hi]
  refine ⟨fun i => by rw [ek]; exact H.k i, fun i hi => by rw [ene i (by omega)]; exact H.out i hi, by rw [ene 0 (by omega)]; exact H.zero, by rw [ek]; exact H.root, fun i hi => ?_, fun i hi => by rw [eQ]; rw [ek] at hi; exact H.file i hi, fun i hi => ?_, fun i => by rw [eQ]; exact H.srt i, fun i => by rw [eQ]; exact H.len i,
    fun i x hx => by rw [eQ] at hx; rw [ek]; exact H.nm i x hx, ?_, fun i hi => by rw [en, el]; exact H.li i hi, fun i hi => by rw [el, eh]; rw [ek] at hi; exact H.lh i hi, fun i => by rw [eh]; exact H.h i, fun i => ?_, fun i => ?_, fun i b hb => ?_, fun i => ?_, fun i j b h1 h2 => ?_, h0, h25⟩
  · rw [ek] at hi
    rw [ene i (fun e => by rw [e] at hi; omega)]; exact H.none i hi
  · rw [ek] at hi
    rw [ene i (fun e => by rw [e] at hi; omega)]; exact H.dir i hi
  · obtain ⟨rk, hr⟩ := H.tree
    exact ⟨rk, fun i x hx => by rw [eQ] at hx; exact hr i x hx⟩
  · rw [ec]; split
    · exact hc
    · exact H.c i
  · rw [eB, ec]; split
    · exact hB
    · exact H.B i
  · rw [eB] at hb; split at hb
    · exact hT b hb
    · rename_i e
      obtain ⟨q1, q2, q3⟩ := H.T i b hb
      exact ⟨q1, q2, (ho i e b hb).1⟩
  · rw [eB]; split
    · exact hd
    · exact H.nd i
  · rw [eB] at h1 h2
    split at h1 <;> split at h2
    · omega
    · rename_i e1 e2; exact absurd h1 (ho j e2 b h2).2
    · rename_i e1 e2; exact absurd h2 (ho i e1 b h1).2
    · exact H.ap i j b h1 h2

theorem Fs.mem_frees {F : Fs} {b : Nat} : b ∈ F.frees ↔ 1 ≤ b ∧ b < 25 ∧ F.T b = false := by
  unfold Fs.frees
  rw [List.mem_filter, List.mem_range'_1]
  cases F.T b <;> simp <;> omega
theorem Fs.frees_nd (F : Fs) : F.frees.Nodup := (List.nodup_range').sublist List.filter_sublist

theorem grow_ct (F : Fs) (n s : Nat) (c : List Int) : (F.grow n s).ct n c = F.with_ n c ((F.P n).B ++ F.frees.take (Fs.need s - (F.P n).B.length)) (fun b => if b ∈ F.frees.take (Fs.need s - (F.P n).B.length) then true else F.T b) := by
  unfold Fs.grow Fs.ct Fs.with_ Fs.at_
  simp only
  congr 1
  funext j
  by_cases e : j = n <;> simp [e]

/-- A file that grew. -/
theorem FOk.grown {F : Fs} (H : FOk F) (n s : Nat) (c : List Int) (hk : (F.P n).k = 1) (hs : s ≤ 96) (hc : c.length = s) (hz : ∀ z ∈ c, 0 ≤ z ∧ z < 256) (hl : (F.P n).c.length ≤ s) (hf : F.fits n s = true) : FOk ((F.grow n s).ct n c) := by
  rw [grow_ct]
  have hB := H.B n
  have hm : Fs.need (F.P n).c.length ≤ Fs.need s := by unfold Fs.need; omega
  simp only [Fs.fits, decide_eq_true_eq] at hf
  obtain ⟨X, gX⟩ : ∃ X, X = F.frees.take (Fs.need s - (F.P n).B.length) := ⟨_, rfl⟩
  rw [← gX]
  have hX : ∀ b ∈ X, 1 ≤ b ∧ b < 25 ∧ F.T b = false := fun b hb => Fs.mem_frees.1 (List.mem_of_mem_take (by rw [← gX]; exact hb))
  have hXl : X.length = Fs.need s - (F.P n).B.length := by rw [gX, List.length_take]; omega
  have hXn : X.Nodup := by rw [gX]; exact F.frees_nd.sublist (List.take_sublist _ _)
  have key : ∀ i b, b ∈ (F.P i).B → b ∉ X := fun i b hb q => by
    have h1 := (H.T i b hb).2.2
    rw [(hX b q).2.2] at h1; simp at h1
  refine H.cont n c _ _ hk ⟨by omega, hz⟩ (by rw [List.length_append, hXl, hc]; omega) (fun b hb => ?_) ?_ (fun j hj b hb => ⟨?_, fun q => ?_⟩) ?_ (fun b hb => ?_)
  · rcases List.mem_append.1 hb with q | q
    · obtain ⟨a1, a2, a3⟩ := H.T n b q
      refine ⟨a1, a2, ?_⟩
      split
      · rfl
      · exact a3
    · obtain ⟨a1, a2, a3⟩ := hX b q
      exact ⟨a1, a2, by simp [q]⟩
  · exact List.nodup_append.2 ⟨H.nd n, hXn, fun a ha b hb e => key n a ha (e ▸ hb)⟩
  · split
    · rfl
    · exact (H.T j b hb).2.2
  · rcases List.mem_append.1 q with q | q
    · exact hj (H.ap j n b hb q)
    · exact key j b hb q
  · split
    · rename_i q; have := (hX 0 q).1; omega
    · exact H.T0
  · split
    · rename_i q; have := (hX b q).2.1; omega
    · exact H.T25 b hb

theorem lay_len (c : List Int) (off : Nat) (b : List Int) : (Fs.lay c off b).length = max c.length (off + b.length) := by
  unfold Fs.lay
  simp
  omega
theorem lay_mem {c : List Int} {off : Nat} {b : List Int} {z : Int} (h : z ∈ Fs.lay c off b) : z ∈ c ∨ z ∈ b ∨ z = 0 := by
  unfold Fs.lay at h
  rcases List.mem_append.1 h with h | h
  · rcases List.mem_append.1 h with h | h
    · rcases List.mem_append.1 (List.mem_of_mem_take h) with h | h
      · exact .inl h
      · exact .inr (.inr (List.eq_of_mem_replicate h))
    · exact .inr (.inl h)
  · exact .inl (List.mem_of_mem_drop h)

theorem Fs.file_ok {F : Fs} (H : FOk F) {n : Int} (h : F.file n = 0) : (F.P n.toNat).k = 1 ∧ 1 ≤ n ∧ n ≤ 16 := by
  unfold Fs.file at h
  split at h
  · simp at h
  rename_i ht
  split at h
  · simp at h
  rename_i hk
  simp only [Bool.not_eq_false, Fs.there, decide_eq_true_eq] at ht
  refine ⟨?_, ht.1, ht.2.1⟩
  rcases H.k n.toNat with q | q | q
  · exact absurd q ht.2.2
  · exact q
  · exact absurd q hk

theorem FOk.write {F : Fs} (H : FOk F) (n off : Int) (b : List Int) (hb : ∀ z ∈ b, 0 ≤ z ∧ z < 256) : FOk (F.write n off b).1 := by
  unfold Fs.write
  split
  · exact H
  rename_i hf
  have hf := Decidable.not_not.1 hf
  obtain ⟨hk, _, _⟩ := Fs.file_ok H hf
  split
  · exact H
  rename_i ho
  split
  · exact H
  rename_i hb0
  split
  · exact H
  rename_i h96
  split
  · exact H
  rename_i hfit
  have hfit : F.fits n.toNat (max (F.P n.toNat).c.length (off.toNat + b.length)) = true := by simpa using hfit
  have hc := H.c n.toNat
  refine H.grown n.toNat _ _ hk (by omega) (lay_len _ _ _) (fun z hz => ?_) (by omega) hfit
  rcases lay_mem hz with q | q | q
  · exact hc.2 z q
  · exact hb z q
  · omega

theorem FOk.resize {F : Fs} (H : FOk F) (n z : Int) : FOk (F.resize n z).1 := by
  unfold Fs.resize
  split
  · exact H
  rename_i hf
  have hf := Decidable.not_not.1 hf
  obtain ⟨hk, _, _⟩ := Fs.file_ok H hf
  split
  · exact H
  rename_i ho
  split
  · exact H
  rename_i h96
  have hc := H.c n.toNat
  split
  · rename_i hlt
    generalize n.toNat = q at *
    have hB := H.B q
    have hm : Fs.need z.toNat ≤ (F.P q).B.length := by rw [hB]; unfold Fs.need; omega
    have hP : (F.relB ((F.P q).B.drop (Fs.need z.toNat))).P = F.P := relB_P _ _
    have e : (F.relB ((F.P q).B.drop (Fs.need z.toNat))).at_ q { F.P q with c := (F.P q).c.take z.toNat, B := (F.P q).B.take (Fs.need z.toNat) } = F.with_ q ((F.P q).c.take z.toNat) ((F.P q).B.take (Fs.need z.toNat)) (F.relB ((F.P q).B.drop (Fs.need z.toNat))).T := by
      unfold Fs.with_ Fs.at_
      rw [hP, relB_d]
    show FOk ((F.relB ((F.P q).B.drop (Fs.need z.toNat))).at_ q _)
    rw [e]
    have hnd := H.nd q
    have hsp : (F.P q).B = (F.P q).B.take (Fs.need z.toNat) ++ (F.P q).B.drop (Fs.need z.toNat) := (List.take_append_drop _ _).symm
    have hdis : ∀ b, b ∈ (F.P q).B.take (Fs.need z.toNat) → b ∉ (F.P q).B.drop (Fs.need z.toNat) := fun b h1 h2 => by
      rw [hsp] at hnd
      exact (List.nodup_append.1 hnd).2.2 b h1 b h2 rfl
    refine H.cont q _ _ _ hk ⟨by rw [List.length_take]; omega, fun x hx => hc.2 x (List.mem_of_mem_take hx)⟩ (by rw [List.length_take, List.length_take]; rw [show min z.toNat (F.P q).c.length = z.toNat by omega]; omega) (fun b hb => ?_) (hnd.sublist (List.take_sublist _ _)) (fun j hj b hb => ⟨?_, fun h => ?_⟩) (relB_F F _ 0 H.T0) (fun b hb => relB_F F _ b (H.T25 b hb))
    · obtain ⟨a1, a2, a3⟩ := H.T q b (List.mem_of_mem_take hb)
      exact ⟨a1, a2, relB_T F _ b a3 (hdis b hb)⟩
    · exact relB_T F _ b (H.T j b hb).2.2 (fun h => hj (H.ap j q b hb (List.mem_of_mem_drop h)))
    · exact hj (H.ap j q b hb (List.mem_of_mem_take h))
  · split
    · exact H
    rename_i hlt hfit
    have hfit : F.fits n.toNat z.toNat = true := by simpa using hfit
    refine H.grown n.toNat _ _ hk (by omega) (by simp; omega) (fun x hx => ?_) (by omega) hfit
    rcases List.mem_append.1 hx with q | q
    · exact hc.2 x q
    · have := List.eq_of_mem_replicate q; omega

end Go.Proofs.YtbglhmcahnkbfaaGreat
