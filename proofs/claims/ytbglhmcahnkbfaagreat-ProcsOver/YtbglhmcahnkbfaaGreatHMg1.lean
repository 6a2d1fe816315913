/- Texts of this seat, merged. -/
import Derived.WalkKit
import Derived.WalkSpells
import Derived.WalkLawsBesides
import Derived.Outline
import Derived.Laws.CopyOwn
import Derived.Laws.MakeOwn

/- Laws of the walk, for whatever program: 'make([]T, n, c)' with both numbers variables, and small facts on rows of bytes. -/
namespace Go.Proofs.YtbglhmcahnkbfaaGreat
open Go.RowKit
set_option maxRecDepth 20000

theorem hid {p : Prop} (h : p) : Hid p := h

/-- 'make([]T, n, c)': a new row of c cells; the world is known. -/
theorem wpList_make_lc {P : Program} (w : World) {ops : Array Oper} {rest : List Oper} {o : Oper} {a : Act} {Q : Exit → Act → World → Prop}
    (hg : o.guard = none) (l c : Operand) (t : TypeId) (hop : o.op = Op.makeSlice t l c)
    (e : TypeId) (i : TypeInfo) (z : Value) (size : Nat) (h1 : P.underlying t = some (.slice e)) (h2 : P.info? e = some i) (h3 : i.zero = some z) (h4 : i.size = size)
    (kl kc : IntKind) (L C : Int) (n m : Nat) (hl : a.eval l = .int kl L) (hc : a.eval c = .int kc C) (hL : L = (n : Int)) (hC : C = (m : Int)) (hnm : n ≤ m) (b2 : i.bytes * m ≤ 281474976710656) (b3 : m ≤ maxLen)
    (hK : wpList P ops Q rest (a.put o.dst (.slice (some ⟨w.heap.size, 0, none⟩) n m)) (w.alloc (.cells (madeCells z.cells (m * size)) e))) :
    wpList P ops Q (o :: rest) a w := by
  refine wpList_plain hg fun K hK' => ?_
  subst h4
  have b3' : (m : Int) ≤ 9223372036854775807 := by simp [maxLen] at b3; omega
  have hb' : (i.bytes : Int) * (m : Int) ≤ 281474976710656 := by
    have h : ((i.bytes * m : Nat) : Int) ≤ 281474976710656 := by omega
    rwa [Int.natCast_mul] at h
  have hrun := run_make (P := P) w t e i z h1 h2 h3 kl kc n m (by omega) (by omega) hb' b3'
  simp only [Int.toNat_natCast] at hrun
  subst hL
  subst hC
  unfold Oper.wp
  simp [execOp, hop, hl, hc, hrun, Result.andThen]
  exact hK' _ _ hK

theorem below_drewN {B : Nat} {w a : World} (h : Below B w a) (n : Nat) : Below B w (a.drewN n) := ⟨h.os, h.tape, h.output, h.size, h.block⟩

/-- Bytes that lie somewhere in memory (nil and empty ones too): the numbers 'zs'. -/
def Src (w : World) (a0 : Option Addr) (len : Nat) (zs : List Int) : Prop :=
  zs.length = len ∧ (0 < len → ∃ b o, a0 = some ⟨b, o, none⟩ ∧ b < w.heap.size ∧ ∀ j, j < len → w.cell? ⟨b, o + j, none⟩ = some (.int .u8 (zs.getD j 0)))

end Go.Proofs.YtbglhmcahnkbfaaGreat

/- Which blocks a call turns: words for it, for whatever program; and 'copy' of elements of two cells. -/
namespace Go.Proofs.YtbglhmcahnkbfaaGreat
open Go.RowKit
set_option maxRecDepth 20000
set_option linter.unusedVariables false

/-- Nothing but the blocks of F turns; there may be new ones. -/
structure Upd (F : Nat → Prop) (w w' : World) : Prop where
  os : w'.os = w.os
  tape : w'.tape = w.tape
  output : w'.output = w.output
  size : w.heap.size ≤ w'.heap.size
  block : ∀ k, k < w.heap.size → ¬ F k → w'.heap[k]? = w.heap[k]?

theorem Upd.refl (F : Nat → Prop) (w : World) : Upd F w w := ⟨rfl, rfl, rfl, Nat.le_refl _, fun _ _ _ => rfl⟩

theorem Upd.trans {F G : Nat → Prop} {a b c : World} (h : Upd F a b) (k : Upd G b c) (hG : ∀ x, x < a.heap.size → G x → F x) : Upd F a c :=
  ⟨k.os.trans h.os, k.tape.trans h.tape, k.output.trans h.output, Nat.le_trans h.size k.size, fun x hx hF =>
    (k.block x (Nat.lt_of_lt_of_le hx h.size) (fun g => hF (hG x hx g))).trans (h.block x hx hF)⟩

theorem Upd.mono {F G : Nat → Prop} {a b : World} (h : Upd F a b) (hF : ∀ x, x < a.heap.size → F x → G x) : Upd G a b :=
  ⟨h.os, h.tape, h.output, h.size, fun x hx hG => h.block x hx (fun f => hG (hF x hx f))⟩

theorem Upd.of_below {F : Nat → Prop} {w w' : World} (h : Below w.heap.size w w') : Upd F w w' := ⟨h.os, h.tape, h.output, h.size, fun k hk _ => h.block k hk⟩

theorem Upd.below {F : Nat → Prop} {B : Nat} {w w' : World} (h : Upd F w w') (hB : B ≤ w.heap.size) (hF : ∀ x, F x → B ≤ x) : Below B w w' :=
  ⟨h.os, h.tape, h.output, h.size, fun k hk => h.block k (Nat.lt_of_lt_of_le hk hB) (fun f => by have := hF k f; omega)⟩

theorem Upd.of_grown {w w' : World} {row : Option Nat} (h : w.grownBy w' row) : Upd (fun k => some k = row) w w' := ⟨h.os, h.tape, h.output, h.size, fun k hk hn => h.block k hk hn⟩

theorem Upd.alloc (F : Nat → Prop) (w : World) (o : Obj) : Upd F w (w.alloc o) := Upd.of_below ((Below.refl _ _).alloc (Nat.le_refl _) o)

theorem Upd.setCell {F : Nat → Prop} (w : World) (p : Addr) (u : Value) (hp : F p.block) : Upd F w (w.setCell p u) :=
  ⟨rfl, rfl, rfl, by simp, fun k _ hk => heap_setCell_other w p k u (fun e => hk (e ▸ hp))⟩

theorem Upd.drewN {F : Nat → Prop} {w a : World} (h : Upd F w a) (n : Nat) : Upd F w (a.drewN n) := ⟨h.os, h.tape, h.output, h.size, h.block⟩

theorem Upd.own {F : Nat → Prop} {w w' : World} {B e size n : Nat} {v : Value} {xs : List Value} (u : Upd F w w') (h : w.ownsRow B e size v n xs) (hF : ∀ k, v.ownBlock = some k → ¬ F k) : w'.ownsRow B e size v n xs := by
  refine ⟨h.1, ?_⟩
  rcases h.2 with hn | ⟨g, cap, cur, rfl, hb, hgg, rest⟩
  · exact .inl hn
  · refine .inr ⟨g, cap, cur, rfl, hb, ?_, rest⟩
    rw [u.block g (Array.getElem?_eq_some_iff.1 hgg).1 (hF g rfl)]
    exact hgg

theorem Upd.heap {F : Nat → Prop} {w w' : World} (u : Upd F w w') {k : Nat} {o : Obj} (h : w.heap[k]? = some o) (hF : ¬ F k) : w'.heap[k]? = some o := by
  rw [u.block k (Array.getElem?_eq_some_iff.1 h).1 hF]; exact h

end Go.Proofs.YtbglhmcahnkbfaaGreat

/- Paths and file systems without memory: a path's names; what a walk along them comes to. -/
namespace Go.Proofs.YtbglhmcahnkbfaaGreat
set_option linter.unusedVariables false

/-- A text's pieces between slashes. -/
def spl : List UInt8 → List (List UInt8)
  | [] => [[]]
  | c :: r => if c = 47 then [] :: spl r else match spl r with
    | x :: xs => (c :: x) :: xs
    | [] => [[c]]
theorem spl_ne : ∀ l, spl l ≠ []
  | [] => by simp [spl]
  | c :: r => by
    unfold spl
    split
    · simp
    · split <;> simp
/-- How many bytes stand ahead of the first slash. -/
def upto : List UInt8 → Nat
  | [] => 0
  | c :: r => if c = 47 then 0 else upto r + 1
theorem upto_le : ∀ l, upto l ≤ l.length
  | [] => by simp [upto]
  | c :: r => by
    have := upto_le r
    unfold upto
    split <;> simp <;> omega
theorem spl_no : ∀ l, upto l = l.length → spl l = [l]
  | [], _ => rfl
  | c :: r, h => by
    unfold upto at h
    unfold spl
    split at h
    · simp at h
    · rename_i hc
      rw [if_neg hc, spl_no r (by simpa using h)]
theorem spl_yes : ∀ l, upto l < l.length → spl l = l.take (upto l) :: spl (l.drop (upto l + 1))
  | [], h => by simp [upto] at h
  | c :: r, h => by
    by_cases hc : c = 47
    · simp [upto, spl, hc]
    · have e : upto (c :: r) = upto r + 1 := by simp [upto, hc]
      rw [e] at h ⊢
      have h2 := spl_yes r (by simpa using h)
      simp [spl, hc, h2]
/-- A walk: the kinds of nodes, what names name, where it stands, the way there, the names that are left. An error; or the way, the last name, what it names. -/
def wk (K : Nat → Int) (N : Nat → List UInt8 → Nat) : Nat → List Nat → List (List UInt8) → Except Int (List Nat × List UInt8 × Nat)
  | _, _, [] => .error 0
  | n, y, s :: r =>
    if K n = 0 then .error 2 else if K n ≠ 2 then .error 20 else if s = [] then .error 22 else if 6 < s.length then .error 36 else
    match r with
    | [] => .ok (y ++ [n], s, N n s)
    | q :: t => wk K N (N n s) (y ++ [n]) (q :: t)

/-- Another mark at a number; how many of the first numbers are marked. -/
def updT (T : Nat → Bool) (i : Nat) (x : Bool) : Nat → Bool := fun j => if j = i then x else T j
theorem updT_same (T : Nat → Bool) (i : Nat) (x : Bool) : updT T i x i = x := by simp [updT]
theorem updT_ne (T : Nat → Bool) (i j : Nat) (x : Bool) (h : j ≠ i) : updT T i x j = T j := by simp [updT, h]
def cnt (T : Nat → Bool) : Nat → Nat
  | 0 => 0
  | n + 1 => cnt T n + if T n then 1 else 0
theorem cnt_le (T : Nat → Bool) : ∀ n, cnt T n ≤ n
  | 0 => Nat.le_refl _
  | n + 1 => by
    have := cnt_le T n
    unfold cnt
    split <;> omega

end Go.Proofs.YtbglhmcahnkbfaaGreat

/- A file system without memory: what each call of it comes to. -/
namespace Go.Proofs.YtbglhmcahnkbfaaGreat
open Go.RowKit
set_option linter.unusedVariables false

/-- A file or a directory: its kind, links, who holds it, its bytes, its blocks, its names in order. -/
structure Fn where
  k : Int
  l : Int
  h : Int
  c : List Int
  B : List Nat
  Q : List (List UInt8 × Nat)
def Fn.no : Fn := ⟨0, 0, 0, [], [], []⟩
def Fn.nu (k : Int) : Fn := ⟨k, 1, 0, [], [], []⟩

/-- Its defects, its nodes by their numbers, which blocks are allocated. -/
structure Fs where
  d : Int
  P : Nat → Fn
  T : Nat → Bool

/-- What a list of names says of a name; with one more; without one. -/
def lk : List (List UInt8 × Nat) → List UInt8 → Nat
  | [], _ => 0
  | x :: r, s => if x.1 = s then x.2 else lk r s
def gtB (a b : List UInt8) : Bool := !(Op.bytesLess a b || a == b)
def ins (s : List UInt8) (n : Nat) : List (List UInt8 × Nat) → List (List UInt8 × Nat)
  | [] => [(s, n)]
  | x :: r => if gtB x.1 s = true then (s, n) :: x :: r else x :: ins s n r
def del (s : List UInt8) (Q : List (List UInt8 × Nat)) : List (List UInt8 × Nat) := Q.filter (fun x => decide (x.1 ≠ s))

/-- Whether a defect is there. -/
def dfc (d b : Int) : Bool := decide (bits .and .i64 d b ≠ 0)

namespace Fs
def at_ (F : Fs) (i : Nat) (x : Fn) : Fs := { F with P := fun j => if j = i then x else F.P j }
def nq (F : Fs) (i : Nat) (Q : List (List UInt8 × Nat)) : Fs := F.at_ i { F.P i with Q := Q }
def addn (F : Fs) (i : Nat) (s : List UInt8) (n : Nat) : Fs := F.nq i (ins s n (F.P i).Q)
def deln (F : Fs) (i : Nat) (s : List UInt8) : Fs := F.nq i (del s (F.P i).Q)
def lnk (F : Fs) (i : Nat) (l : Int) : Fs := F.at_ i { F.P i with l := l }
def hld (F : Fs) (i : Nat) (h : Int) : Fs := F.at_ i { F.P i with h := h }
def relB (F : Fs) (B : List Nat) : Fs := if dfc F.d 2 = true then F else { F with T := fun b => if b ∈ B then false else F.T b }
/-- A node goes that nothing keeps. -/
def gone (F : Fs) (n : Nat) : Fs := if 0 < (F.P n).l ∨ 0 < (F.P n).h then F else (F.relB (F.P n).B).at_ n Fn.no
/-- A link less. -/
def less (F : Fs) (n : Nat) : Fs := (F.lnk n ((F.P n).l - 1)).gone n

def dirOf (y : List Nat) : Nat := y.getLastD 0
def K (F : Fs) (i : Nat) : Int := (F.P i).k
def N (F : Fs) (i : Nat) (s : List UInt8) : Nat := lk (F.P i).Q s
def walk (F : Fs) (l : List UInt8) : Except Int (List Nat × List UInt8 × Nat) := if l.head? = some 47 ∧ l ≠ [47] then wk F.K F.N 1 [] (spl (l.drop 1)) else .error 22
def find (F : Fs) (l : List UInt8) : Nat × Int := if l = [47] then (1, 0) else match F.walk l with
  | .error e => (0, e)
  | .ok (_, _, n) => if n = 0 then (0, 2) else (n, 0)

/-- The lowest number of 1 to 16 that no node has; 0: there is none. -/
def free (F : Fs) : Nat := ((List.range' 1 16).find? (fun i => decide ((F.P i).k = 0))).getD 0

def make (F : Fs) (l : List UInt8) (kind : Int) : Fs × Nat × Int :=
  if kind ≠ 1 ∧ kind ≠ 2 then (F, 0, 22) else match F.walk l with
  | .error e => (F, 0, e)
  | .ok (y, s, n) => if n ≠ 0 then (F, 0, 17) else if 6 ≤ (F.P (dirOf y)).Q.length then (F, 0, 28) else if F.free = 0 then (F, 0, 28) else
    ((F.at_ F.free (Fn.nu kind)).addn (dirOf y) s F.free, F.free, 0)

def unlink (F : Fs) (l : List UInt8) : Fs × Int := match F.walk l with
  | .error e => (F, e)
  | .ok (y, s, n) => if n = 0 then (F, 2) else if (F.P n).k = 2 then (F, 21) else if 1 < (F.P n).l ∧ dfc F.d 1 = true then (F.deln (dirOf y) s, 0) else ((F.deln (dirOf y) s).less n, 0)

/-- What keeps a directory from being taken away. -/
def stays (F : Fs) (n : Nat) : Int := if 0 < (F.P n).Q.length then 39 else if 0 < (F.P n).h then 22 else 0

def rmdir (F : Fs) (l : List UInt8) : Fs × Int := match F.walk l with
  | .error e => (F, e)
  | .ok (y, s, n) => if n = 0 then (F, 2) else if (F.P n).k ≠ 2 then (F, 20) else if F.stays n ≠ 0 then (F, F.stays n) else ((F.deln (dirOf y) s).less n, 0)

def link (F : Fs) (l m : List UInt8) : Fs × Int :=
  if (F.find l).2 ≠ 0 then (F, (F.find l).2) else if (F.P (F.find l).1).k = 2 then (F, 1) else match F.walk m with
  | .error e => (F, e)
  | .ok (y, s, n) => if n ≠ 0 then (F, 17) else if 6 ≤ (F.P (dirOf y)).Q.length then (F, 28) else
    ((F.lnk (F.find l).1 ((F.P (F.find l).1).l + 1)).addn (dirOf y) s (F.find l).1, 0)

/-- What keeps a node from taking another one's name. -/
def over (F : Fs) (n m : Nat) : Int := if (F.P m).k = 2 then (if (F.P n).k = 2 then F.stays m else 21) else if (F.P n).k = 2 then 20 else 0

def rename (F : Fs) (l m : List UInt8) : Fs × Int := match F.walk l with
  | .error e => (F, e)
  | .ok (y, s, n) => if n = 0 then (F, 2) else match F.walk m with
    | .error e => (F, e)
    | .ok (y2, s2, n2) => if n2 = n then (F, 0) else if n2 ≠ 0 ∧ F.over n n2 ≠ 0 then (F, F.over n n2) else if n ∈ y2 then (F, 22) else
      if n2 = 0 ∧ dirOf y2 ≠ dirOf y ∧ 6 ≤ (F.P (dirOf y2)).Q.length then (F, 28) else
      if n2 ≠ 0 ∧ dfc F.d 4 = false then ((((F.deln (dirOf y) s).deln (dirOf y2) s2).addn (dirOf y2) s2 n).less n2, 0)
      else (((F.deln (dirOf y) s).deln (dirOf y2) s2).addn (dirOf y2) s2 n, 0)

def there (F : Fs) (n : Int) : Bool := decide (1 ≤ n ∧ n ≤ 16 ∧ (F.P n.toNat).k ≠ 0)
def size (F : Fs) (n : Nat) : Nat := (F.P n).c.length + (F.P n).Q.length
/-- The error of a number that must be a file's. -/
def file (F : Fs) (n : Int) : Int := if F.there n = false then 2 else if (F.P n.toNat).k = 2 then 21 else 0

def stat (F : Fs) (n : Int) : Int × Int × Int × Int := if F.there n = false then (0, 0, 0, 2) else ((F.P n.toNat).k, (F.P n.toNat).l, (F.size n.toNat : Int), 0)
def hold (F : Fs) (n : Int) : Fs × Int := if F.there n = false then (F, 2) else if 1000 ≤ (F.P n.toNat).h then (F, 11) else (F.hld n.toNat ((F.P n.toNat).h + 1), 0)
def drop (F : Fs) (n : Int) : Fs × Int := if F.there n = false then (F, 2) else if (F.P n.toNat).h = 0 then (F, 22) else ((F.hld n.toNat ((F.P n.toNat).h - 1)).gone n.toNat, 0)

def read (F : Fs) (n off cnt : Int) : List Int × Int := if F.file n ≠ 0 then ([], F.file n) else if off < 0 ∨ cnt < 0 then ([], 22) else (((F.P n.toNat).c.drop off.toNat).take cnt.toNat, 0)

/-- How many blocks so many bytes need; the free ones. -/
def need (s : Nat) : Nat := (s + 15) / 16
def frees (F : Fs) : List Nat := (List.range' 1 24).filter (fun b => !F.T b)
/-- Whether a file can have so many bytes; with blocks for them. -/
def fits (F : Fs) (n : Nat) (s : Nat) : Bool := decide (need s - (F.P n).B.length ≤ F.frees.length)
def grow (F : Fs) (n : Nat) (s : Nat) : Fs :=
  { F.at_ n { F.P n with B := (F.P n).B ++ F.frees.take (need s - (F.P n).B.length) } with T := fun b => if b ∈ F.frees.take (need s - (F.P n).B.length) then true else F.T b }
def ct (F : Fs) (n : Nat) (c : List Int) : Fs := F.at_ n { F.P n with c := c }
/-- Bytes over others, from a place on. -/
def lay (c : List Int) (off : Nat) (b : List Int) : List Int := (c ++ List.replicate (off + b.length - c.length) 0).take off ++ b ++ c.drop (off + b.length)

def write (F : Fs) (n off : Int) (b : List Int) : Fs × Int × Int :=
  if F.file n ≠ 0 then (F, 0, F.file n) else if off < 0 then (F, 0, 22) else if b = [] then (F, 0, 0) else if 96 < off + (b.length : Int) then (F, 0, 27) else
  if F.fits n.toNat (max (F.P n.toNat).c.length (off.toNat + b.length)) = false then (F, 0, 28) else
  ((F.grow n.toNat (max (F.P n.toNat).c.length (off.toNat + b.length))).ct n.toNat (lay (F.P n.toNat).c off.toNat b), (b.length : Int), 0)

def resize (F : Fs) (n z : Int) : Fs × Int :=
  if F.file n ≠ 0 then (F, F.file n) else if z < 0 then (F, 22) else if 96 < z then (F, 27) else
  if z.toNat < (F.P n.toNat).c.length then (((F.relB ((F.P n.toNat).B.drop (need z.toNat))).at_ n.toNat { F.P n.toNat with c := (F.P n.toNat).c.take z.toNat, B := (F.P n.toNat).B.take (need z.toNat) }), 0) else
  if F.fits n.toNat z.toNat = false then (F, 28) else
  ((F.grow n.toNat z.toNat).ct n.toNat ((F.P n.toNat).c ++ List.replicate (z.toNat - (F.P n.toNat).c.length) 0), 0)
end Fs

/-- The root alone. -/
def rootF (d : Int) : Fs := ⟨d, fun i => if i = 1 then Fn.nu 2 else Fn.no, fun _ => false⟩

end Go.Proofs.YtbglhmcahnkbfaaGreat

/- Lists of names in order: what they say, with one more, without one. -/
namespace Go.Proofs.YtbglhmcahnkbfaaGreat
set_option linter.unusedVariables false

theorem bless_irr : ∀ a, Op.bytesLess a a = false
  | [] => rfl
  | x :: a => by simp [Op.bytesLess, bless_irr a]
theorem bless_tr : ∀ a b c, Op.bytesLess a b = true → Op.bytesLess b c = true → Op.bytesLess a c = true
  | _, [], c, h, _ => by cases ‹List UInt8› <;> simp [Op.bytesLess] at h
  | [], y :: b, [], _, h => by simp [Op.bytesLess] at h
  | [], y :: b, z :: c, _, _ => rfl
  | x :: a, y :: b, [], _, h => by simp [Op.bytesLess] at h
  | x :: a, y :: b, z :: c, h1, h2 => by
    simp only [Op.bytesLess, Bool.or_eq_true, decide_eq_true_eq, Bool.and_eq_true, beq_iff_eq] at h1 h2 ⊢
    rcases h1 with h1 | ⟨rfl, h1⟩
    · rcases h2 with h2 | ⟨rfl, h2⟩
      · exact .inl (UInt8.lt_trans h1 h2)
      · exact .inl h1
    · rcases h2 with h2 | ⟨rfl, h2⟩
      · exact .inl h2
      · exact .inr ⟨rfl, bless_tr a b c h1 h2⟩
theorem bless_tot : ∀ a b, a ≠ b → Op.bytesLess a b = false → Op.bytesLess b a = true
  | [], [], h, _ => absurd rfl h
  | [], y :: b, _, h => by simp [Op.bytesLess] at h
  | x :: a, [], _, _ => rfl
  | x :: a, y :: b, h, h1 => by
    simp only [Op.bytesLess, Bool.or_eq_false_iff, decide_eq_false_iff_not, Bool.and_eq_false_iff, beq_eq_false_iff_ne, Bool.or_eq_true, decide_eq_true_eq, Bool.and_eq_true, beq_iff_eq] at h1 ⊢
    obtain ⟨h2, h3⟩ := h1
    by_cases e : x = y
    · subst e
      refine .inr ⟨rfl, bless_tot a b (fun q => h (by rw [q])) ?_⟩
      rcases h3 with h3 | h3
      · exact absurd rfl h3
      · exact h3
    · refine .inl ?_
      rcases Nat.lt_trichotomy x.toNat y.toNat with q | q | q
      · exact absurd (UInt8.lt_iff_toNat_lt.2 q) h2
      · exact absurd (UInt8.toNat_inj.1 q) e
      · exact UInt8.lt_iff_toNat_lt.2 q
theorem gtB_iff (a b : List UInt8) : gtB a b = true ↔ Op.bytesLess b a = true := by
  unfold gtB
  simp only [Bool.not_eq_true', Bool.or_eq_false_iff, beq_eq_false_iff_ne]
  constructor
  · rintro ⟨h1, h2⟩; exact bless_tot a b h2 h1
  · intro h
    refine ⟨?_, fun e => by rw [e, bless_irr] at h; simp at h⟩
    cases q : Op.bytesLess a b with
    | false => rfl
    | true => have := bless_tr a b a q h; rw [bless_irr] at this; simp at this

/-- In order, each name once. -/
def Srt (Q : List (List UInt8 × Nat)) : Prop := Q.Pairwise (fun x y => Op.bytesLess x.1 y.1 = true)

theorem lk_cons (x : List UInt8 × Nat) (r : List (List UInt8 × Nat)) (s : List UInt8) : lk (x :: r) s = if x.1 = s then x.2 else lk r s := rfl
theorem lk_mem {Q : List (List UInt8 × Nat)} {s : List UInt8} (h : lk Q s ≠ 0) : (s, lk Q s) ∈ Q := by
  induction Q with
  | nil => simp [lk] at h
  | cons x r ih =>
    unfold lk at h ⊢
    split
    · rename_i e; subst e; simp
    · rename_i e; rw [if_neg e] at h; exact List.mem_cons_of_mem _ (ih h)
theorem lk_of {Q : List (List UInt8 × Nat)} (hS : Srt Q) {x : List UInt8 × Nat} (h : x ∈ Q) : lk Q x.1 = x.2 := by
  induction Q with
  | nil => simp at h
  | cons y r ih =>
    obtain ⟨h1, h2⟩ := List.pairwise_cons.1 hS
    rcases List.mem_cons.1 h with e | h
    · subst e; simp [lk]
    · unfold lk
      have : y.1 ≠ x.1 := fun e => by have := h1 x h; rw [e, bless_irr] at this; simp at this
      rw [if_neg this]
      exact ih h2 h
theorem no_key {Q : List (List UInt8 × Nat)} (hS : Srt Q) (hv : ∀ x ∈ Q, x.2 ≠ 0) {s : List UInt8} (h : lk Q s = 0) : ∀ x ∈ Q, x.1 ≠ s := fun x hx e => by
  have := lk_of hS hx
  rw [e, h] at this
  exact hv x hx this.symm

theorem mem_ins {s : List UInt8} {n : Nat} {Q : List (List UInt8 × Nat)} {x : List UInt8 × Nat} : x ∈ ins s n Q ↔ x = (s, n) ∨ x ∈ Q := by
  induction Q with
  | nil => simp [ins]
  | cons y r ih =>
    unfold ins
    split
    · simp
    · simp only [List.mem_cons, ih]
      constructor <;> (intro h; rcases h with h | h | h <;> simp [h])
theorem len_ins (s : List UInt8) (n : Nat) (Q : List (List UInt8 × Nat)) : (ins s n Q).length = Q.length + 1 := by
  induction Q with
  | nil => rfl
  | cons y r ih => unfold ins; split <;> simp [ih]
theorem srt_ins {s : List UInt8} {n : Nat} {Q : List (List UInt8 × Nat)} (hS : Srt Q) (hk : ∀ x ∈ Q, x.1 ≠ s) : Srt (ins s n Q) := by
  induction Q with
  | nil => simp [ins, Srt]
  | cons y r ih =>
    obtain ⟨h1, h2⟩ := List.pairwise_cons.1 hS
    unfold ins
    split
    · rename_i hg
      rw [gtB_iff] at hg
      refine List.pairwise_cons.2 ⟨fun x hx => ?_, hS⟩
      rcases List.mem_cons.1 hx with e | hx
      · subst e; exact hg
      · exact bless_tr _ _ _ hg (h1 x hx)
    · rename_i hg
      refine List.pairwise_cons.2 ⟨fun x hx => ?_, ih h2 (fun x hx => hk x (by simp [hx]))⟩
      rcases mem_ins.1 hx with e | hx
      · subst e
        show Op.bytesLess y.1 s = true
        cases q : Op.bytesLess y.1 s with
        | true => rfl
        | false =>
          exact absurd ((gtB_iff _ _).2 (bless_tot _ _ (hk y (by simp)) q)) hg
      · exact h1 x hx
theorem lk_ins {s : List UInt8} {n : Nat} {Q : List (List UInt8 × Nat)} (hk : ∀ x ∈ Q, x.1 ≠ s) (t : List UInt8) : lk (ins s n Q) t = if t = s then n else lk Q t := by
  induction Q with
  | nil => by_cases e : t = s <;> simp [ins, lk, e]; exact fun q => absurd q.symm e
  | cons y r ih =>
    have h1 := hk y (by simp)
    have h2 := ih (fun x hx => hk x (by simp [hx]))
    unfold ins
    split
    · by_cases e : t = s
      · subst e; simp [lk]
      · rw [if_neg e, lk_cons, if_neg (fun q => e q.symm)]
    · rw [lk_cons, lk_cons, h2]
      by_cases e : y.1 = t
      · have : t ≠ s := fun q => h1 (e.trans q)
        simp [e, this]
      · simp [e]
/-- How many names name a number. -/
def cq (Q : List (List UInt8 × Nat)) (i : Nat) : Nat := Q.countP (fun x => x.2 == i)
theorem cq_ins (s : List UInt8) (n : Nat) (Q : List (List UInt8 × Nat)) (i : Nat) : cq (ins s n Q) i = cq Q i + if n = i then 1 else 0 := by
  induction Q with
  | nil => by_cases e : n = i <;> simp [cq, ins, e]
  | cons y r ih =>
    unfold ins
    split
    · unfold cq; rw [List.countP_cons]; simp
    · unfold cq at ih ⊢; rw [List.countP_cons, List.countP_cons, ih]; omega
theorem cq_zero {Q : List (List UInt8 × Nat)} {i : Nat} : cq Q i = 0 ↔ ∀ x ∈ Q, x.2 ≠ i := by
  unfold cq; rw [List.countP_eq_zero]; simp

/-- All directories' names together. -/
def nmc (P : Nat → Fn) (i : Nat) : Nat → Nat
  | 0 => 0
  | m + 1 => nmc P i m + cq (P m).Q i
theorem nmc_same {P P' : Nat → Fn} (i : Nat) : ∀ m, (∀ j, j < m → (P' j).Q = (P j).Q) → nmc P' i m = nmc P i m
  | 0, _ => rfl
  | m + 1, h => by
    unfold nmc
    rw [nmc_same i m (fun j hj => h j (by omega)), h m (by omega)]
theorem nmc_one {P P' : Nat → Fn} (i dr : Nat) : ∀ m, dr < m → (∀ j, j ≠ dr → (P' j).Q = (P j).Q) → nmc P' i m + cq (P dr).Q i = nmc P i m + cq (P' dr).Q i
  | 0, h, _ => by omega
  | m + 1, h, hj => by
    unfold nmc
    by_cases e : dr = m
    · subst e
      rw [nmc_same i dr (fun j q => hj j (by omega))]
      omega
    · have := nmc_one i dr m (by omega) hj
      rw [hj m (fun q => e q.symm)]
      omega
theorem nmc_zero {P : Nat → Fn} {i : Nat} : ∀ m, nmc P i m = 0 → ∀ j, j < m → ∀ x ∈ (P j).Q, x.2 ≠ i
  | 0, _, j, hj => by omega
  | m + 1, h, j, hj => by
    unfold nmc at h
    by_cases e : j = m
    · subst e; exact cq_zero.1 (by omega)
    · exact nmc_zero m (by omega) j (by omega)
end Go.Proofs.YtbglhmcahnkbfaaGreat

/- What is true of any file system that calls have made. -/
namespace Go.Proofs.YtbglhmcahnkbfaaGreat
set_option linter.unusedVariables false

structure FOk (F : Fs) : Prop where
  k : ∀ i, (F.P i).k = 0 ∨ (F.P i).k = 1 ∨ (F.P i).k = 2
  out : ∀ i, 17 ≤ i → F.P i = Fn.no
  zero : F.P 0 = Fn.no
  root : (F.P 1).k = 2
  none : ∀ i, (F.P i).k = 0 → F.P i = Fn.no
  file : ∀ i, (F.P i).k ≠ 2 → (F.P i).Q = []
  dir : ∀ i, (F.P i).k = 2 → (F.P i).c = [] ∧ (F.P i).B = [] ∧ (F.P i).l = 1
  srt : ∀ i, Srt (F.P i).Q
  len : ∀ i, (F.P i).Q.length ≤ 6
  nm : ∀ i x, x ∈ (F.P i).Q → 1 < x.2 ∧ x.2 < 17 ∧ (F.P x.2).k ≠ 0 ∧ x.1 ≠ [] ∧ x.1.length ≤ 6
  tree : ∃ rk : Nat → Nat, ∀ i x, x ∈ (F.P i).Q → rk x.2 < rk i
  li : ∀ i, i ≠ 1 → (nmc F.P i 17 : Int) ≤ (F.P i).l
  lh : ∀ i, (F.P i).k ≠ 0 → 0 < (F.P i).l ∨ 0 < (F.P i).h
  h : ∀ i, 0 ≤ (F.P i).h ∧ (F.P i).h ≤ 1000
  c : ∀ i, (F.P i).c.length ≤ 96 ∧ ∀ z ∈ (F.P i).c, 0 ≤ z ∧ z < 256
  B : ∀ i, (F.P i).B.length = Fs.need (F.P i).c.length
  T : ∀ i b, b ∈ (F.P i).B → 1 ≤ b ∧ b < 25 ∧ F.T b = true
  nd : ∀ i, (F.P i).B.Nodup
  ap : ∀ i j b, b ∈ (F.P i).B → b ∈ (F.P j).B → i = j
  T0 : F.T 0 = false
  T25 : ∀ b, 25 ≤ b → F.T b = false

theorem FOk.l0 {F : Fs} (H : FOk F) (i : Nat) : 0 ≤ (F.P i).l := by
  by_cases e : i = 1
  · subst e; rw [(H.dir 1 H.root).2.2]; omega
  · have := H.li i e; omega
theorem FOk.lt {F : Fs} (H : FOk F) {i : Nat} (h : (F.P i).k ≠ 0) : 1 ≤ i ∧ i < 17 := by
  refine ⟨?_, ?_⟩
  · rcases Nat.eq_zero_or_pos i with e | e
    · subst e; rw [H.zero] at h; exact absurd rfl h
    · exact e
  · rcases Nat.lt_or_ge i 17 with e | e
    · exact e
    · rw [H.out i e] at h; exact absurd rfl h
theorem FOk.nk {F : Fs} (H : FOk F) (i : Nat) {s : List UInt8} : lk (F.P i).Q s = 0 → ∀ x ∈ (F.P i).Q, x.1 ≠ s :=
  fun h => no_key (H.srt i) (fun x hx => by have := (H.nm i x hx).1; omega) h

theorem Fs.at_P (F : Fs) (i : Nat) (x : Fn) (j : Nat) : (F.at_ i x).P j = if j = i then x else F.P j := rfl
theorem Fs.at_self (F : Fs) (i : Nat) (x : Fn) : (F.at_ i x).P i = x := by simp [Fs.at_P]
theorem Fs.at_ne (F : Fs) (i j : Nat) (x : Fn) (h : j ≠ i) : (F.at_ i x).P j = F.P j := by simp [Fs.at_P, h]
theorem Fs.at_at (F : Fs) (i : Nat) (x y : Fn) : (F.at_ i x).at_ i y = F.at_ i y := by
  unfold Fs.at_; congr 1; funext j; by_cases e : j = i <;> simp [e]
theorem Fs.at_f {α : Type} (f : Fn → α) (F : Fs) (n : Nat) (x : Fn) (h : f x = f (F.P n)) (i : Nat) : f ((F.at_ n x).P i) = f (F.P i) := by
  rw [Fs.at_P]
  split
  · rename_i e; subst e; exact h
  · rfl
/-- Another count of links, of holders. -/
theorem FOk.lh_ {F : Fs} (H : FOk F) (n : Nat) (x : Fn) (hk : x.k = (F.P n).k) (hQ : x.Q = (F.P n).Q) (hc : x.c = (F.P n).c) (hB : x.B = (F.P n).B) (h0 : (F.P n).k ≠ 0)
    (hl : n ≠ 1 → (nmc F.P n 17 : Int) ≤ x.l) (hd : x.k = 2 → x.l = 1) (hh : 0 ≤ x.h ∧ x.h ≤ 1000) (hlh : 0 < x.l ∨ 0 < x.h) : FOk (F.at_ n x) := by
  obtain ⟨n1, n17⟩ := H.lt h0
  have eQ : ∀ i, ((F.at_ n x).P i).Q = (F.P i).Q := Fs.at_f Fn.Q F n x hQ
  have ek : ∀ i, ((F.at_ n x).P i).k = (F.P i).k := Fs.at_f Fn.k F n x hk
  have ec : ∀ i, ((F.at_ n x).P i).c = (F.P i).c := Fs.at_f Fn.c F n x hc
  have eB : ∀ i, ((F.at_ n x).P i).B = (F.P i).B := Fs.at_f Fn.B F n x hB
  have en : ∀ i, nmc (F.at_ n x).P i 17 = nmc F.P i 17 := fun i => nmc_same i 17 (fun j _ => eQ j)
  refine ⟨fun i => by rw [ek]; exact H.k i, fun i hi => ?_, ?_, by rw [ek]; exact H.root, fun i hi => ?_, fun i hi => by rw [eQ]; rw [ek] at hi; exact H.file i hi, fun i hi => ?_, fun i => by rw [eQ]; exact H.srt i, fun i => by rw [eQ]; exact H.len i,
    fun i y hy => by rw [eQ] at hy; rw [ek]; exact H.nm i y hy, ?_, fun i hi => ?_, fun i hi => ?_, fun i => ?_, fun i => by rw [ec]; exact H.c i, fun i => by rw [eB, ec]; exact H.B i, fun i b hb => by rw [eB] at hb; exact H.T i b hb, fun i => by rw [eB]; exact H.nd i,
    fun i j b h1 h2 => by rw [eB] at h1 h2; exact H.ap i j b h1 h2, H.T0, H.T25⟩
  · rw [Fs.at_ne _ _ _ _ (by omega)]; exact H.out i hi
  · rw [Fs.at_ne _ _ _ _ (by omega)]; exact H.zero
  · rw [ek] at hi
    rw [Fs.at_ne _ _ _ _ (fun e => h0 (by rw [← e]; exact hi))]; exact H.none i hi
  · rw [ek] at hi
    obtain ⟨h1, h2, h3⟩ := H.dir i hi
    refine ⟨by rw [ec]; exact h1, by rw [eB]; exact h2, ?_⟩
    rw [Fs.at_P]; split
    · rename_i e; subst e; exact hd (hk.trans hi)
    · exact h3
  · obtain ⟨rk, hr⟩ := H.tree
    exact ⟨rk, fun i y hy => by rw [eQ] at hy; exact hr i y hy⟩
  · rw [en, Fs.at_P]; split
    · rename_i e; subst e; exact hl hi
    · exact H.li i hi
  · rw [ek] at hi
    rw [Fs.at_P]; split
    · exact hlh
    · exact H.lh i hi
  · rw [Fs.at_P]; split
    · exact hh
    · exact H.h i

/-- Another list of names. -/
theorem FOk.nq_ {F : Fs} (H : FOk F) (dr : Nat) (Q : List (List UInt8 × Nat)) (hk : (F.P dr).k = 2) (hS : Srt Q) (hl : Q.length ≤ 6)
    (hn : ∀ x ∈ Q, 1 < x.2 ∧ x.2 < 17 ∧ (F.P x.2).k ≠ 0 ∧ x.1 ≠ [] ∧ x.1.length ≤ 6) (ht : ∃ rk : Nat → Nat, ∀ i x, x ∈ ((F.nq dr Q).P i).Q → rk x.2 < rk i)
    (hc : ∀ i, i ≠ 1 → (nmc (F.nq dr Q).P i 17 : Int) ≤ (F.P i).l) : FOk (F.nq dr Q) := by
  obtain ⟨n1, n17⟩ := H.lt (i := dr) (by omega)
  have ek : ∀ i, ((F.nq dr Q).P i).k = (F.P i).k := Fs.at_f Fn.k F dr _ rfl
  have ec : ∀ i, ((F.nq dr Q).P i).c = (F.P i).c := Fs.at_f Fn.c F dr _ rfl
  have eB : ∀ i, ((F.nq dr Q).P i).B = (F.P i).B := Fs.at_f Fn.B F dr _ rfl
  have el : ∀ i, ((F.nq dr Q).P i).l = (F.P i).l := Fs.at_f Fn.l F dr _ rfl
  have eh : ∀ i, ((F.nq dr Q).P i).h = (F.P i).h := Fs.at_f Fn.h F dr _ rfl
  have eQ : ∀ i, ((F.nq dr Q).P i).Q = if i = dr then Q else (F.P i).Q := fun i => by unfold Fs.nq; rw [Fs.at_P]; split <;> rfl
  have eo : ∀ i, i ≠ dr → (F.nq dr Q).P i = F.P i := fun i hi => by unfold Fs.nq; exact Fs.at_ne _ _ _ _ hi
  refine ⟨fun i => by rw [ek]; exact H.k i, fun i hi => by rw [eo i (by omega)]; exact H.out i hi, by rw [eo 0 (by omega)]; exact H.zero, by rw [ek]; exact H.root, fun i hi => ?_, fun i hi => ?_, fun i hi => ?_, fun i => ?_, fun i => ?_, fun i y hy => ?_, ht, fun i hi => by rw [el]; exact hc i hi,
    fun i hi => by rw [el, eh]; rw [ek] at hi; exact H.lh i hi, fun i => by rw [eh]; exact H.h i, fun i => by rw [ec]; exact H.c i, fun i => by rw [eB, ec]; exact H.B i, fun i b hb => by rw [eB] at hb; exact H.T i b hb, fun i => by rw [eB]; exact H.nd i,
    fun i j b h1 h2 => by rw [eB] at h1 h2; exact H.ap i j b h1 h2, H.T0, H.T25⟩
  · rw [ek] at hi
    rw [eo i (fun e => by rw [e] at hi; omega)]; exact H.none i hi
  · rw [ek] at hi
    rw [eQ, if_neg (fun e => by rw [e] at hi; omega)]; exact H.file i hi
  · rw [ek] at hi
    rw [ec, eB, el]; exact H.dir i hi
  · rw [eQ]
    split
    · exact hS
    · exact H.srt i
  · rw [eQ]
    split
    · exact hl
    · exact H.len i
  · rw [ek]
    rw [eQ] at hy
    split at hy
    · exact hn y hy
    · exact H.nm i y hy

/-- What names lead to. -/
inductive Rch (F : Fs) : Nat → Nat → Prop
  | refl (a : Nat) : Rch F a a
  | step {a b c : Nat} (x : List UInt8 × Nat) : Rch F a b → x ∈ (F.P b).Q → x.2 = c → Rch F a c
theorem Rch.leaf {F : Fs} {a b : Nat} (h : (F.P a).Q = []) (r : Rch F a b) : b = a := by
  induction r with
  | refl => rfl
  | step x _ hx e ih => subst ih; rw [h] at hx; simp at hx

theorem FOk.tree_add {F : Fs} (H : FOk F) (dr : Nat) (s : List UInt8) (n : Nat) (hr : ¬ Rch F n dr) : ∃ rk : Nat → Nat, ∀ i x, x ∈ ((F.addn dr s n).P i).Q → rk x.2 < rk i := by
  obtain ⟨rk, h⟩ := H.tree
  refine ⟨fun x => open Classical in if Rch F n x then rk x else rk x + rk n + 1, fun i x hx => ?_⟩
  have hx' : (i = dr ∧ x = (s, n)) ∨ x ∈ (F.P i).Q := by
    unfold Fs.addn Fs.nq at hx
    rw [Fs.at_P] at hx
    split at hx
    · rename_i e
      subst e
      rcases mem_ins.1 hx with q | q
      · exact .inl ⟨rfl, q⟩
      · exact .inr q
    · exact .inr hx
  dsimp only
  rcases hx' with ⟨rfl, rfl⟩ | hx'
  · rw [if_pos (Rch.refl n), if_neg hr]; dsimp only; omega
  · have := h i x hx'
    by_cases q : Rch F n i
    · rw [if_pos q, if_pos (Rch.step x q hx' rfl)]; exact this
    · rw [if_neg q]; split <;> omega

theorem nmc_addn {F : Fs} (dr : Nat) (hd : dr < 17) (s : List UInt8) (n i : Nat) : nmc (F.addn dr s n).P i 17 = nmc F.P i 17 + if n = i then 1 else 0 := by
  have h := nmc_one (P := F.P) (P' := (F.addn dr s n).P) i dr 17 hd (fun j hj => by unfold Fs.addn Fs.nq; rw [Fs.at_ne _ _ _ _ hj])
  have e : ((F.addn dr s n).P dr).Q = ins s n (F.P dr).Q := by unfold Fs.addn Fs.nq; rw [Fs.at_self]
  rw [e, cq_ins] at h
  omega
/-- A name more. -/
theorem FOk.addn {F : Fs} (H : FOk F) (dr : Nat) (s : List UInt8) (n : Nat) (hk : (F.P dr).k = 2) (hs : lk (F.P dr).Q s = 0) (hs1 : s ≠ []) (hs2 : s.length ≤ 6) (hl : (F.P dr).Q.length < 6) (hn1 : n ≠ 1) (hn : (F.P n).k ≠ 0)
    (hr : ¬ Rch F n dr) (hc : (nmc F.P n 17 : Int) + 1 ≤ (F.P n).l) : FOk (F.addn dr s n) := by
  obtain ⟨n1, n17⟩ := H.lt (i := dr) (by omega)
  obtain ⟨m1, m17⟩ := H.lt hn
  refine H.nq_ dr _ hk (srt_ins (H.srt dr) (H.nk dr hs)) (by rw [len_ins]; omega) (fun x hx => ?_) (H.tree_add dr s n hr) (fun i hi => ?_)
  · rcases mem_ins.1 hx with e | hx
    · subst e; exact ⟨by show 1 < n; omega, m17, hn, hs1, hs2⟩
    · exact H.nm dr x hx
  · have h1 := H.li i hi
    have h4 : nmc (F.nq dr (ins s n (F.P dr).Q)).P i 17 = nmc (F.addn dr s n).P i 17 := rfl
    rw [h4, nmc_addn dr n17]
    by_cases e : n = i
    · subst e; rw [if_pos rfl]; omega
    · rw [if_neg e]; omega

/-- A new node. -/
theorem FOk.new {F : Fs} (H : FOk F) (f : Nat) (kind : Int) (h1 : 1 ≤ f) (h2 : f < 17) (hf : (F.P f).k = 0) (hk : kind = 1 ∨ kind = 2) : FOk (F.at_ f (Fn.nu kind)) := by
  have h0 := H.none f hf
  have hf1 : f ≠ 1 := fun e => by rw [e, H.root] at hf; omega
  have eQ : ∀ i, ((F.at_ f (Fn.nu kind)).P i).Q = (F.P i).Q := Fs.at_f Fn.Q F f _ (by rw [h0]; rfl)
  have ec : ∀ i, ((F.at_ f (Fn.nu kind)).P i).c = (F.P i).c := Fs.at_f Fn.c F f _ (by rw [h0]; rfl)
  have eB : ∀ i, ((F.at_ f (Fn.nu kind)).P i).B = (F.P i).B := Fs.at_f Fn.B F f _ (by rw [h0]; rfl)
  have en : ∀ i, nmc (F.at_ f (Fn.nu kind)).P i 17 = nmc F.P i 17 := fun i => nmc_same i 17 (fun j _ => eQ j)
  have ez : nmc F.P f 17 = 0 := by
    rcases Nat.eq_zero_or_pos (nmc F.P f 17) with q | q
    · exact q
    · have := H.li f hf1
      rw [h0] at this
      simp only [Fn.no] at this
      omega
  refine ⟨fun i => ?_, fun i hi => by rw [Fs.at_ne _ _ _ _ (by omega)]; exact H.out i hi, by rw [Fs.at_ne _ _ _ _ (by omega)]; exact H.zero, by rw [Fs.at_ne _ _ _ _ (by omega)]; exact H.root, fun i hi => ?_, fun i hi => ?_, fun i hi => ?_, fun i => by rw [eQ]; exact H.srt i, fun i => by rw [eQ]; exact H.len i, fun i y hy => ?_, ?_, fun i hi => ?_, fun i hi => ?_, fun i => ?_,
    fun i => by rw [ec]; exact H.c i, fun i => by rw [eB, ec]; exact H.B i, fun i b hb => by rw [eB] at hb; exact H.T i b hb, fun i => by rw [eB]; exact H.nd i, fun i j b q1 q2 => by rw [eB] at q1 q2; exact H.ap i j b q1 q2, H.T0, H.T25⟩
  · rw [Fs.at_P]; split
    · exact .inr hk
    · exact H.k i
  · rw [Fs.at_P] at hi ⊢; split at hi
    · simp only [Fn.nu] at hi; omega
    · rename_i e; rw [if_neg e]; exact H.none i hi
  · rw [eQ]
    rw [Fs.at_P] at hi; split at hi
    · rename_i e; subst e; rw [h0]; rfl
    · exact H.file i hi
  · rw [Fs.at_P] at hi ⊢; split at hi
    · rename_i e; rw [if_pos e]; exact ⟨rfl, rfl, rfl⟩
    · rename_i e; rw [if_neg e]; exact H.dir i hi
  · rw [eQ] at hy
    obtain ⟨a, b, c, d⟩ := H.nm i y hy
    refine ⟨a, b, ?_, d⟩
    rw [Fs.at_P]; split
    · simp only [Fn.nu]; omega
    · exact c
  · obtain ⟨rk, hr⟩ := H.tree
    exact ⟨rk, fun i y hy => by rw [eQ] at hy; exact hr i y hy⟩
  · rw [en, Fs.at_P]; split
    · rename_i e; subst e; rw [ez]; simp [Fn.nu]
    · exact H.li i hi
  · rw [Fs.at_P] at hi ⊢; split at hi
    · rename_i e; rw [if_pos e]; exact .inl (by simp [Fn.nu])
    · rename_i e; rw [if_neg e]; exact H.lh i hi
  · rw [Fs.at_P]; split
    · simp [Fn.nu]
    · exact H.h i

theorem relB_P (F : Fs) (B : List Nat) : (F.relB B).P = F.P := by unfold Fs.relB; split <;> rfl
theorem relB_d (F : Fs) (B : List Nat) : (F.relB B).d = F.d := by unfold Fs.relB; split <;> rfl
theorem relB_T (F : Fs) (B : List Nat) (b : Nat) (h : F.T b = true) (hb : b ∉ B) : (F.relB B).T b = true := by
  unfold Fs.relB; split
  · exact h
  · show (if b ∈ B then false else F.T b) = true
    rw [if_neg hb]; exact h
theorem relB_F (F : Fs) (B : List Nat) (b : Nat) (h : F.T b = false) : (F.relB B).T b = false := by
  unfold Fs.relB; split
  · exact h
  · show (if b ∈ B then false else F.T b) = false
    split
    · rfl
    · exact h

/-- A node goes. -/
theorem FOk.remove {F : Fs} (H : FOk F) (n : Nat) (hn0 : n ≠ 1) (hz : nmc F.P n 17 = 0) (hQ : (F.P n).Q = []) : FOk ((F.relB (F.P n).B).at_ n Fn.no) := by
  have eP : ∀ i, ((F.relB (F.P n).B).at_ n Fn.no).P i = if i = n then Fn.no else F.P i := fun i => by rw [Fs.at_P, relB_P]
  have eQ : ∀ i, (((F.relB (F.P n).B).at_ n Fn.no).P i).Q = (F.P i).Q := fun i => by
    rw [eP]
    split
    · rename_i e; subst e; rw [hQ]; rfl
    · rfl
  have en : ∀ i, nmc ((F.relB (F.P n).B).at_ n Fn.no).P i 17 = nmc F.P i 17 := fun i => nmc_same i 17 (fun j _ => eQ j)
  have eB : ∀ i b, b ∈ (((F.relB (F.P n).B).at_ n Fn.no).P i).B → i ≠ n ∧ b ∈ (F.P i).B := fun i b hb => by
    rw [eP] at hb; split at hb
    · simp [Fn.no] at hb
    · rename_i e; exact ⟨e, hb⟩
  refine ⟨fun i => ?_, fun i hi => ?_, ?_, ?_, fun i hi => ?_, fun i hi => ?_, fun i hi => ?_, fun i => by rw [eQ]; exact H.srt i, fun i => by rw [eQ]; exact H.len i, fun i y hy => ?_, ?_, fun i hi => ?_, fun i hi => ?_, fun i => ?_, fun i => ?_, fun i => ?_, fun i b hb => ?_, fun i => ?_, fun i j b h1 h2 => ?_, ?_, fun b hb => ?_⟩
  · rw [eP]; split
    · exact .inl rfl
    · exact H.k i
  · rw [eP]; split
    · rfl
    · exact H.out i hi
  · rw [eP]; split
    · rfl
    · exact H.zero
  · rw [eP, if_neg (fun e => hn0 e.symm)]; exact H.root
  · rw [eP] at hi ⊢; split
    · rfl
    · rename_i e; rw [if_neg e] at hi; exact H.none i hi
  · rw [eQ]
    rw [eP] at hi; split at hi
    · rename_i e; subst e; exact hQ
    · exact H.file i hi
  · rw [eP] at hi ⊢; split at hi
    · simp [Fn.no] at hi
    · rename_i e; rw [if_neg e]; exact H.dir i hi
  · rw [eQ] at hy
    obtain ⟨a, b, c, d⟩ := H.nm i y hy
    have hi17 : i < 17 := (H.lt (i := i) (fun e => by rw [H.none i e] at hy; simp [Fn.no] at hy)).2
    refine ⟨a, b, ?_, d⟩
    rw [eP, if_neg (nmc_zero 17 hz i hi17 y hy)]
    exact c
  · obtain ⟨rk, hr⟩ := H.tree
    exact ⟨rk, fun i y hy => by rw [eQ] at hy; exact hr i y hy⟩
  · rw [en, eP]; split
    · rename_i e; subst e; rw [hz]; simp [Fn.no]
    · exact H.li i hi
  · rw [eP] at hi ⊢; split at hi
    · simp [Fn.no] at hi
    · rename_i e; rw [if_neg e]; exact H.lh i hi
  · rw [eP]; split
    · simp [Fn.no]
    · exact H.h i
  · rw [eP]; split
    · simp [Fn.no]
    · exact H.c i
  · rw [eP]; split
    · simp [Fn.no, Fs.need]
    · exact H.B i
  · obtain ⟨hi, hb⟩ := eB i b hb
    obtain ⟨a, b', c⟩ := H.T i b hb
    exact ⟨a, b', relB_T F _ b c (fun q => hi (H.ap i n b hb q))⟩
  · rw [eP]; split
    · simp [Fn.no]
    · exact H.nd i
  · exact H.ap i j b (eB i b h1).2 (eB j b h2).2
  · exact relB_F F _ 0 H.T0
  · exact relB_F F _ b (H.T25 b hb)

theorem relB_lnk (F : Fs) (n : Nat) (x : Fn) (B : List Nat) : ((F.at_ n x).relB B) = ((F.relB B).at_ n x) := by
  unfold Fs.relB
  show (if dfc F.d 2 = true then _ else _) = _
  split <;> rfl
theorem gone_hld (F : Fs) (n : Nat) (h : Int) : (F.hld n h).gone n = if 0 < (F.P n).l ∨ 0 < h then F.hld n h else (F.relB (F.P n).B).at_ n Fn.no := by
  unfold Fs.gone Fs.hld
  rw [Fs.at_self, relB_lnk, Fs.at_at]

end Go.Proofs.YtbglhmcahnkbfaaGreat

/- Ways along paths: where they go, what lies within what. -/
namespace Go.Proofs.YtbglhmcahnkbfaaGreat
set_option linter.unusedVariables false

/-- Directories, each named by the one ahead of it. -/
def Way (K : Nat → Int) (N : Nat → List UInt8 → Nat) : List Nat → Prop
  | [] => True
  | [a] => K a = 2
  | a :: b :: t => K a = 2 ∧ (∃ s, N a s = b) ∧ Way K N (b :: t)
theorem Way.cons {K : Nat → Int} {N : Nat → List UInt8 → Nat} {a b : Nat} {s : List UInt8} {t : List Nat} (h1 : K a = 2) (h2 : N a s = b) (h : Way K N (b :: t)) : Way K N (a :: b :: t) := ⟨h1, ⟨s, h2⟩, h⟩
theorem way_mem {K : Nat → Int} {N : Nat → List UInt8 → Nat} : ∀ (y : List Nat), Way K N y → ∀ a ∈ y, K a = 2
  | [], _, a, h => by simp at h
  | [b], h, a, q => by simp at q; subst q; exact h
  | b :: c :: t, h, a, q => by
    rcases List.mem_cons.1 q with e | q
    · subst e; exact h.1
    · exact way_mem (c :: t) h.2.2 a q

theorem wk_way (K : Nat → Int) (N : Nat → List UInt8 → Nat) : ∀ (l : List (List UInt8)) (n : Nat) (y0 y : List Nat) (s : List UInt8) (m : Nat), wk K N n y0 l = .ok (y, s, m) →
    ∃ t d, y = y0 ++ n :: t ∧ Way K N (n :: t) ∧ (n :: t).getLast? = some d ∧ m = N d s ∧ s ≠ [] ∧ s.length ≤ 6
  | [], n, y0, y, s, m, h => by simp [wk] at h
  | q :: r, n, y0, y, s, m, h => by
    by_cases a0 : K n = 0
    · cases r <;> simp [wk, a0] at h
    by_cases a2 : K n = 2
    case neg => cases r <;> simp [wk, a0, a2] at h
    by_cases a3 : q = []
    · cases r <;> simp [wk, a2, a3] at h
    by_cases a4 : 6 < q.length
    · cases r <;> simp [wk, a2, a3, a4] at h
    cases r with
    | nil =>
      simp [wk, a2, a3, a4] at h
      obtain ⟨rfl, rfl, rfl⟩ := h
      exact ⟨[], n, rfl, a2, rfl, rfl, a3, by omega⟩
    | cons z t =>
      have e : wk K N n y0 (q :: z :: t) = wk K N (N n q) (y0 ++ [n]) (z :: t) := by
        conv => lhs; unfold wk
        simp [a2, a3, a4]
      rw [e] at h
      obtain ⟨t', d, h1, h2, h3, h4⟩ := wk_way K N (z :: t) _ _ _ _ _ h
      refine ⟨N n q :: t', d, by rw [h1]; simp, Way.cons a2 rfl h2, ?_, h4⟩
      rw [List.getLast?_cons_cons]; exact h3

theorem dirOf_last {y : List Nat} {d : Nat} (h : y.getLast? = some d) : Fs.dirOf y = d := by unfold Fs.dirOf; rw [List.getLastD_eq_getLast?, h]; rfl

/-- What a walk that comes to an end says. -/
structure Wlk (F : Fs) (y : List Nat) (s : List UInt8) (n : Nat) : Prop where
  hd : ∃ t, y = 1 :: t
  way : Way F.K F.N y
  last : y.getLast? = some (Fs.dirOf y)
  k : (F.P (Fs.dirOf y)).k = 2
  nn : n = lk (F.P (Fs.dirOf y)).Q s
  ne : s ≠ []
  len : s.length ≤ 6
  lt : 1 ≤ Fs.dirOf y ∧ Fs.dirOf y < 17
  to : n ≠ 0 → 1 < n ∧ n < 17 ∧ (F.P n).k ≠ 0

theorem FOk.walk_ok {F : Fs} (H : FOk F) {l : List UInt8} {y : List Nat} {s : List UInt8} {n : Nat} (h : F.walk l = .ok (y, s, n)) : Wlk F y s n := by
  unfold Fs.walk at h
  split at h
  · obtain ⟨t, d, h1, h2, h3, h4, h5, h6⟩ := wk_way _ _ _ _ _ _ _ _ h
    have h1' : y = 1 :: t := by rw [h1]; rfl
    rw [← h1'] at h2 h3
    have e := dirOf_last h3
    have hk : (F.P d).k = 2 := way_mem y h2 d (List.mem_of_getLast? h3)
    refine ⟨⟨t, h1'⟩, h2, by rw [e]; exact h3, by rw [e]; exact hk, by rw [e]; exact h4, h5, h6, by rw [e]; exact H.lt (by omega), fun hn => ?_⟩
    have := lk_mem (Q := (F.P d).Q) (s := s) (fun q => hn (by rw [h4]; exact q))
    rw [show lk (F.P d).Q s = n from h4.symm] at this
    obtain ⟨a, b, c, _⟩ := H.nm d _ this
    exact ⟨a, b, c⟩
  · simp at h

theorem wk_errs (K : Nat → Int) (N : Nat → List UInt8 → Nat) : ∀ (l : List (List UInt8)) (n : Nat) (y0 : List Nat) (e : Int), l ≠ [] → wk K N n y0 l = .error e → e = 2 ∨ e = 20 ∨ e = 22 ∨ e = 36
  | [], _, _, _, hl, _ => absurd rfl hl
  | q :: r, n, y0, e, _, h => by
    by_cases a0 : K n = 0
    · cases r <;> simp [wk, a0] at h <;> omega
    by_cases a2 : K n = 2
    case neg => cases r <;> simp [wk, a0, a2] at h <;> omega
    by_cases a3 : q = []
    · cases r <;> simp [wk, a2, a3] at h <;> omega
    by_cases a4 : 6 < q.length
    · cases r <;> simp [wk, a2, a3, a4] at h <;> omega
    cases r with
    | nil => simp [wk, a2, a3, a4] at h
    | cons z t =>
      have e : wk K N n y0 (q :: z :: t) = wk K N (N n q) (y0 ++ [n]) (z :: t) := by
        conv => lhs; unfold wk
        simp [a2, a3, a4]
      rw [e] at h
      exact wk_errs K N (z :: t) _ _ _ (by simp) h
theorem Fs.walk_err {F : Fs} {l : List UInt8} {e : Int} (h : F.walk l = .error e) : e = 2 ∨ e = 20 ∨ e = 22 ∨ e = 36 := by
  unfold Fs.walk at h
  split at h
  · exact wk_errs _ _ _ _ _ _ (spl_ne _) h
  · simp at h; omega

end Go.Proofs.YtbglhmcahnkbfaaGreat
