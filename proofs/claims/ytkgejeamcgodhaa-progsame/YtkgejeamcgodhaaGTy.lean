/- Types, calls and tables as they lie; which tables may be, without memory. -/
import Derived.Test.YtkgejeamcgodhaaUpd
namespace Go.Proofs.Ytkgejeamcgodhaa
open Go.RowKit
set_option linter.unusedVariables false

/-- A type of a table, with where its lists lie. -/
structure Ty where
  k : Int
  s : Int
  lo : Int
  hi : Int
  d : Int
  o : ByteArray
  va : Option Addr
  vn : Nat
  vc : Nat
  vs : List Int
  ta : Option Addr
  tn : Nat
  tc : Nat
  ts : List ByteArray
  ea : Option Addr
  en : Nat
  ec : Nat
  es : List Int
  na : Option Addr
  nn : Nat
  nc : Nat

/-- A call of a table, with where its lists lie. -/
structure Cl where
  nm : ByteArray
  no : Int
  aa : Option Addr
  an : Nat
  ac : Nat
  ags : List Int
  na : Option Addr
  nn : Nat
  nc : Nat
  rt : ByteArray

/-- Numbers lie from an address on. -/
def Ints (w : World) (a : Option Addr) (l : List Int) : Prop :=
  0 < l.length → ∃ b o, a = some ⟨b, o, none⟩ ∧ b < w.heap.size ∧ ∀ j, j < l.length → w.cell? ⟨b, o + j, none⟩ = some (.int .i64 (l.getD j 0))
/-- Texts lie from an address on. -/
def Strs (w : World) (a : Option Addr) (l : List ByteArray) : Prop :=
  0 < l.length → ∃ b o, a = some ⟨b, o, none⟩ ∧ b < w.heap.size ∧ ∀ j, j < l.length → w.cell? ⟨b, o + j, none⟩ = some (.string (l.getD j .empty))

theorem Ints.below {w w' : World} {a : Option Addr} {l : List Int} (h : Ints w a l) (hb : Below w.heap.size w w') : Ints w' a l := fun h0 => by
  obtain ⟨b, o, e, hlt, hc⟩ := h h0
  exact ⟨b, o, e, Nat.lt_of_lt_of_le hlt hb.size, fun j hj => (hb.cell (p := ⟨b, o + j, none⟩) hlt).trans (hc j hj)⟩
theorem Strs.below {w w' : World} {a : Option Addr} {l : List ByteArray} (h : Strs w a l) (hb : Below w.heap.size w w') : Strs w' a l := fun h0 => by
  obtain ⟨b, o, e, hlt, hc⟩ := h h0
  exact ⟨b, o, e, Nat.lt_of_lt_of_le hlt hb.size, fun j hj => (hb.cell (p := ⟨b, o + j, none⟩) hlt).trans (hc j hj)⟩

/-- The lists of a type lie where it says. -/
structure Ty.Ok (w : World) (T : Ty) : Prop where
  vs : Ints w T.va T.vs
  vl : T.vs.length = T.vn
  vm : T.vn ≤ T.vc
  vb : T.vc ≤ 9223372036854775807
  ts : Strs w T.ta T.ts
  tl : T.ts.length = T.tn
  tm : T.tn ≤ T.tc
  tb : T.tc ≤ 9223372036854775807
  es : Ints w T.ea T.es
  el : T.es.length = T.en
  em : T.en ≤ T.ec
  eb : T.ec ≤ 9223372036854775807
  nm : T.nn ≤ T.nc
  nb : T.nc ≤ 9223372036854775807
  ix : ∀ t ∈ T.ts, t.size ≤ 9223372036854775807

theorem Ty.Ok.below {w w' : World} {T : Ty} (h : T.Ok w) (hb : Below w.heap.size w w') : T.Ok w' :=
  { h with vs := h.vs.below hb, ts := h.ts.below hb, es := h.es.below hb }

/-- The lists of a call lie where it says. -/
structure Cl.Ok (w : World) (C : Cl) : Prop where
  ag : Ints w C.aa C.ags
  al : C.ags.length = C.an
  am : C.an ≤ C.ac
  ab : C.ac ≤ 9223372036854775807
  nm : C.nn ≤ C.nc
  nb : C.nc ≤ 9223372036854775807

theorem Cl.Ok.below {w w' : World} {C : Cl} (h : C.Ok w) (hb : Below w.heap.size w w') : C.Ok w' :=
  { h with ag := h.ag.below hb }

/-- A type lies from a cell on. -/
structure TyAt (w : World) (b o : Nat) (T : Ty) : Prop where
  c0 : w.cell? ⟨b, o, none⟩ = some (.int .i64 T.k)
  c1 : w.cell? ⟨b, o + 1, none⟩ = some (.int .i64 T.s)
  c2 : w.cell? ⟨b, o + 2, none⟩ = some (.int .i64 T.lo)
  c3 : w.cell? ⟨b, o + 3, none⟩ = some (.int .i64 T.hi)
  c4 : w.cell? ⟨b, o + 4, none⟩ = some (.int .i64 T.d)
  c5 : w.cell? ⟨b, o + 5, none⟩ = some (.string T.o)
  c6 : w.cell? ⟨b, o + 6, none⟩ = some (.slice T.va T.vn T.vc)
  c7 : w.cell? ⟨b, o + 7, none⟩ = some (.slice T.ta T.tn T.tc)
  c8 : w.cell? ⟨b, o + 8, none⟩ = some (.slice T.ea T.en T.ec)
  c9 : w.cell? ⟨b, o + 9, none⟩ = some (.slice T.na T.nn T.nc)
theorem TyAt.below {w w' : World} {b o : Nat} {T : Ty} (h : TyAt w b o T) (hb : Below w.heap.size w w') (hl : b < w.heap.size) : TyAt w' b o T :=
  have f := fun j => hb.cell (p := ⟨b, j, none⟩) hl
  ⟨(f _).trans h.c0, (f _).trans h.c1, (f _).trans h.c2, (f _).trans h.c3, (f _).trans h.c4, (f _).trans h.c5, (f _).trans h.c6, (f _).trans h.c7, (f _).trans h.c8, (f _).trans h.c9⟩

/-- A call lies from a cell on. -/
structure ClAt (w : World) (b o : Nat) (C : Cl) : Prop where
  c0 : w.cell? ⟨b, o, none⟩ = some (.string C.nm)
  c1 : w.cell? ⟨b, o + 1, none⟩ = some (.int .i64 C.no)
  c2 : w.cell? ⟨b, o + 2, none⟩ = some (.slice C.aa C.an C.ac)
  c3 : w.cell? ⟨b, o + 3, none⟩ = some (.slice C.na C.nn C.nc)
  c4 : w.cell? ⟨b, o + 4, none⟩ = some (.string C.rt)
theorem ClAt.below {w w' : World} {b o : Nat} {C : Cl} (h : ClAt w b o C) (hb : Below w.heap.size w w') (hl : b < w.heap.size) : ClAt w' b o C :=
  have f := fun j => hb.cell (p := ⟨b, j, none⟩) hl
  ⟨(f _).trans h.c0, (f _).trans h.c1, (f _).trans h.c2, (f _).trans h.c3, (f _).trans h.c4⟩

/-- Types lie from an address on. -/
def Tys (w : World) (a : Option Addr) (l : List Ty) : Prop :=
  0 < l.length → ∃ b o, a = some ⟨b, o, none⟩ ∧ b < w.heap.size ∧ ∀ j, ∀ h : j < l.length, TyAt w b (o + j * 10) l[j] ∧ l[j].Ok w
/-- Calls lie from an address on. -/
def Cls (w : World) (a : Option Addr) (l : List Cl) : Prop :=
  0 < l.length → ∃ b o, a = some ⟨b, o, none⟩ ∧ b < w.heap.size ∧ ∀ j, ∀ h : j < l.length, ClAt w b (o + j * 5) l[j] ∧ l[j].Ok w
theorem Tys.below {w w' : World} {a : Option Addr} {l : List Ty} (h : Tys w a l) (hb : Below w.heap.size w w') : Tys w' a l := fun h0 => by
  obtain ⟨b, o, e, hlt, hc⟩ := h h0
  exact ⟨b, o, e, Nat.lt_of_lt_of_le hlt hb.size, fun j hj => ⟨(hc j hj).1.below hb hlt, (hc j hj).2.below hb⟩⟩
theorem Cls.below {w w' : World} {a : Option Addr} {l : List Cl} (h : Cls w a l) (hb : Below w.heap.size w w') : Cls w' a l := fun h0 => by
  obtain ⟨b, o, e, hlt, hc⟩ := h h0
  exact ⟨b, o, e, Nat.lt_of_lt_of_le hlt hb.size, fun j hj => ⟨(hc j hj).1.below hb hlt, (hc j hj).2.below hb⟩⟩

/-- Which sizes there are. -/
def szB (n : Int) : Bool := decide (n = 1 ∨ n = 2 ∨ n = 4 ∨ n = 8)
/-- Numbers are places ahead of one. -/
def ahead (i : Nat) (l : List Int) : Bool := l.all fun k => decide (0 ≤ k ∧ k < (i : Int))
/-- As many parts as its kind has. -/
def partsN (T : Ty) : Bool :=
  if T.k = 6 ∨ T.k = 7 then decide (T.en = 1) else if T.k = 8 ∨ T.k = 9 then decide (1 ≤ T.en ∧ T.nn = T.en) else decide (T.en = 0)
def rangeB (T : Ty) (m : Int) : Bool := decide (0 ≤ T.lo ∧ T.lo ≤ T.hi ∧ T.hi ≤ m)
/-- What its kind needs beside them. -/
def fitsB (T : Ty) : Bool :=
  if T.k = 1 then szB T.s && decide (T.lo ≤ T.hi) else
  if T.k = 2 ∨ T.k = 3 ∨ T.k = 4 then szB T.s else
  if T.k = 5 then szB T.s && decide (0 < T.vn) else
  if T.k = 6 then decide (T.s = 8 ∧ 1 ≤ T.d ∧ T.d ≤ 3) else
  if T.k = 7 then rangeB T 8 else
  if T.k = 8 ∨ T.k = 9 then true else
  if T.k = 10 then decide (0 < T.tn) && T.ts.all (fun t => decide (t.size ≤ 24)) else
  if T.k = 11 then rangeB T 64 else false

def sumG (g : List Int) (l : List Int) : Int := l.foldl (fun s k => wrap64 (s + g.getD k.toNat 0)) 0
def mostG (g : List Int) (l : List Int) : Int := l.foldl (fun s k => if s < g.getD k.toNat 0 then g.getD k.toNat 0 else s) 0
/-- How great a type is. -/
def greatG (T : Ty) (g : List Int) : Int :=
  if T.k = 7 then wrap64 (1 + wrap64 (T.hi * sumG g T.es)) else if T.k = 9 then wrap64 (1 + mostG g T.es) else wrap64 (1 + sumG g T.es)

def okG (g : List Int) (T : Ty) : Bool := ahead g.length T.es && partsN T && fitsB T && decide (greatG T g ≤ 300)
/-- How great the types are, if they may be. -/
def runG : List Int → List Ty → Option (List Int)
  | g, [] => some g
  | g, T :: r => if okG g T = true then runG (g ++ [greatG T g]) r else none

theorem runG_app (a b : List Ty) (g : List Int) : runG g (a ++ b) = (runG g a).bind fun x => runG x b := by
  induction a generalizing g with
  | nil => rfl
  | cons T r ih =>
    simp only [List.cons_append, runG]
    split
    · exact ih _
    · rfl
theorem runG_len (a : List Ty) (g x : List Int) (h : runG g a = some x) : x.length = g.length + a.length := by
  induction a generalizing g with
  | nil => simp [runG] at h; simp [h]
  | cons T r ih =>
    simp only [runG] at h
    split at h
    · have := ih _ h
      simp at this ⊢
      omega
    · cases h
theorem take_ty (l : List Ty) (i : Nat) (h : i < l.length) : l.take (i + 1) = l.take i ++ [l[i]] := by
  rw [List.take_add_one, List.getElem?_eq_getElem h]; rfl
theorem runG_more (l : List Ty) (i : Nat) (h : i < l.length) (g : List Int) (hg : runG [] (l.take i) = some g) (ok : okG g l[i] = true) : runG [] (l.take (i + 1)) = some (g ++ [greatG l[i] g]) := by
  rw [take_ty l i h, runG_app, hg]
  simp [runG, ok]
theorem runG_stop (l : List Ty) (i : Nat) (h : i < l.length) (g : List Int) (hg : runG [] (l.take i) = some g) (ok : okG g l[i] = false) : runG [] l = none := by
  have e : l = l.take (i + 1) ++ l.drop (i + 1) := (List.take_append_drop _ _).symm
  rw [e, runG_app, take_ty l i h, runG_app, hg]
  simp [runG, ok]

/-- Which calls may be. -/
def callB (n : Nat) (C : Cl) : Bool := decide (C.an ≤ 6 ∧ C.nn = C.an ∧ 0 ≤ C.no ∧ C.no ≤ 63) && ahead n C.ags
/-- Which tables may be. -/
def canB (l : List Ty) (c : List Cl) : Bool := decide (l.length ≤ 400 ∧ c.length ≤ 64) && (runG [] l).isSome && c.all (callB l.length)

theorem ahead_more (i : Nat) (l : List Int) (j : Nat) (h : j < l.length) : ahead i (l.take (j + 1)) = (ahead i (l.take j) && decide (0 ≤ l.getD j 0 ∧ l.getD j 0 < (i : Int))) := by
  unfold ahead
  rw [List.take_add_one, List.getElem?_eq_getElem h, List.all_append, List.getD_eq_getElem?_getD, List.getElem?_eq_getElem h]
  simp
theorem ahead_all (i : Nat) (l : List Int) : ahead i (l.take l.length) = ahead i l := by rw [List.take_length]
theorem ahead_stop (i : Nat) (l : List Int) (j : Nat) (h : j < l.length) (hj : ¬ (0 ≤ l.getD j 0 ∧ l.getD j 0 < (i : Int))) : ahead i l = false := by
  have e : l = l.take (j + 1) ++ l.drop (j + 1) := (List.take_append_drop _ _).symm
  have h1 := ahead_more i l j h
  have h2 : ahead i l = (ahead i (l.take (j + 1)) && ahead i (l.drop (j + 1))) := by
    conv => lhs; rw [e]
    unfold ahead
    rw [List.all_append]
  rw [h2, h1, decide_eq_false hj]
  simp
theorem ahead_at {i : Nat} {l : List Int} (h : ahead i l = true) (j : Nat) (hj : j < l.length) : 0 ≤ l.getD j 0 ∧ l.getD j 0 < (i : Int) := by
  unfold ahead at h
  rw [List.all_eq_true] at h
  have := h l[j] (List.getElem_mem hj)
  rw [List.getD_eq_getElem?_getD, List.getElem?_eq_getElem hj]
  simpa using this

theorem take_int (l : List Int) (j : Nat) (h : j < l.length) : l.take (j + 1) = l.take j ++ [l.getD j 0] := by
  rw [List.take_add_one, List.getD_eq_getElem?_getD, List.getElem?_eq_getElem h]; rfl
theorem sumG_more (g l : List Int) (j : Nat) (h : j < l.length) : sumG g (l.take (j + 1)) = wrap64 (sumG g (l.take j) + g.getD (l.getD j 0).toNat 0) := by
  rw [take_int l j h]
  unfold sumG
  rw [List.foldl_append]
  rfl
theorem mostG_more (g l : List Int) (j : Nat) (h : j < l.length) : mostG g (l.take (j + 1)) = if mostG g (l.take j) < g.getD (l.getD j 0).toNat 0 then g.getD (l.getD j 0).toNat 0 else mostG g (l.take j) := by
  rw [take_int l j h]
  unfold mostG
  rw [List.foldl_append]
  rfl

end Go.Proofs.Ytkgejeamcgodhaa
