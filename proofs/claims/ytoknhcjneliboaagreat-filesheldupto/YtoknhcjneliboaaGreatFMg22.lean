/- Texts of this seat, merged. -/
import Derived.Test.YtoknhcjneliboaaGreatFMg5
import Derived.Test.YtoknhcjneliboaaGreatFMg11
import Derived.Test.YtoknhcjneliboaaGreatFMg21
import Derived.Test.YtoknhcjneliboaaGreatFMg23
import Derived.Test.YtoknhcjneliboaaGreatFMg24
import Derived.BigQuiet
import Derived.Test.YtoknhcjneliboaaGreatFMg10
import Derived.Test.YtoknhcjneliboaaGreatFMg26
import Derived.Test.YtoknhcjneliboaaGreatFMg25
import Derived.Test.YtoknhcjneliboaaGreatFMg6

/- Open files without memory: what each call of them comes to. -/
namespace Go.Proofs.YtoknhcjneliboaaGreat
set_option linter.unusedVariables false

/-- Whether flags have other bits than the six. -/
def dfcN (g : Int) : Bool := decide (bits .andNot .i64 g 63 ≠ 0)

/-- A file system, pipes, open files by their numbers. -/
structure Ft where
  F : Fs
  P : Nat → Pi.Pp
  O : Nat → Fl

namespace Ft
/-- A pipe's writer that is closed is not counted off. -/
def kp (T : Ft) : Bool := Pi.bit8 T.F.d
def there (T : Ft) (n : Int) : Bool := decide (1 ≤ n ∧ n ≤ 10 ∧ (T.O n.toNat).h ≠ 0)
def has (T : Ft) (n : Int) (b : Int) : Bool := T.there n && dfc (T.O n.toNat).fl b
def at_ (T : Ft) (n : Nat) (x : Fl) : Ft := { T with O := updF T.O n x }

/-- The node that is opened. -/
def node (F : Fs) (l : List UInt8) (g : Int) : Fs × Nat × Int :=
  if dfc g 8 = false then (F, F.find l) else if (F.find l).2 = 2 then F.make l 1 else if (F.find l).2 = 0 ∧ dfc g 16 = true then (F, 0, 17) else (F, F.find l)
/-- What becomes of it, ahead of its being held. -/
def cutF (F : Fs) (n : Nat) (g : Int) : Fs × Int :=
  if dfc g 2 = false then (F, 0) else if (F.P n).k = 2 then (F, 21) else if dfc g 32 = false then (F, 0) else F.resize n 0
def openN (T : Ft) (l : List UInt8) (g : Int) : Fs × Nat × Int :=
  if (node T.F l g).2.2 ≠ 0 then node T.F l g else
  if (cutF (node T.F l g).1 (node T.F l g).2.1 g).2 ≠ 0 then ((cutF (node T.F l g).1 (node T.F l g).2.1 g).1, 0, (cutF (node T.F l g).1 (node T.F l g).2.1 g).2) else
  (((cutF (node T.F l g).1 (node T.F l g).2.1 g).1.hold (node T.F l g).2.1).1, (node T.F l g).2.1, ((cutF (node T.F l g).1 (node T.F l g).2.1 g).1.hold (node T.F l g).2.1).2)
/-- Whether flags can be. -/
def flagsOk (g : Int) : Bool := !dfcN g && dfc g 3
def open_ (T : Ft) (l : List UInt8) (g : Int) : Ft × Nat × Int :=
  if flagsOk g = false then (T, 0, 22) else if ofL T.O 11 = [] then (T, 0, 23) else
  if (T.openN l g).2.2 ≠ 0 then ({ T with F := (T.openN l g).1 }, 0, (T.openN l g).2.2) else
  ({ T with F := (T.openN l g).1, O := updF T.O ((ofL T.O 11).headD 0) ⟨1, (T.openN l g).2.1, 0, g, 1⟩ }, (ofL T.O 11).headD 0, 0)

def pipe (T : Ft) : Ft × Nat × Nat × Int := match ofL T.O 11 with
  | a :: b :: _ => if Pi.makeE T.P ≠ 0 then (T, 0, 0, Pi.makeE T.P) else
    ({ T with P := Pi.makeP T.P, O := updF (updF T.O a ⟨2, Pi.lowest T.P, 0, 1, 1⟩) b ⟨3, Pi.lowest T.P, 0, 2, 1⟩ }, a, b, 0)
  | _ => (T, 0, 0, 23)

def read (T : Ft) (n c : Int) : Ft × List Int × Bool × Int :=
  if T.has n 1 = false then (T, [], false, 9) else
  if (T.O n.toNat).k ≠ 1 then ({ T with P := Pi.readP T.P (T.O n.toNat).of c }, Pi.readL T.P (T.O n.toNat).of c, Pi.readW T.P (T.O n.toNat).of c, Pi.readE T.P (T.O n.toNat).of c) else
  (T.at_ n.toNat { T.O n.toNat with off := (T.O n.toNat).off + ((T.F.read (T.O n.toNat).of (T.O n.toNat).off c).1.length : Int) }, (T.F.read (T.O n.toNat).of (T.O n.toNat).off c).1, false, (T.F.read (T.O n.toNat).of (T.O n.toNat).off c).2)

/-- Where a write begins. -/
def from_ (T : Ft) (x : Fl) : Int := if dfc x.fl 4 = true then (T.F.size x.of.toNat : Int) else x.off
def write (T : Ft) (n : Int) (b : List Int) : Ft × Int × Bool × Int :=
  if T.has n 2 = false then (T, 0, false, 9) else
  if (T.O n.toNat).k ≠ 1 then ({ T with P := Pi.writeP T.P (T.O n.toNat).of b }, (Pi.writeN T.P (T.O n.toNat).of b.length : Int), Pi.writeW T.P (T.O n.toNat).of b.length, Pi.writeE T.P (T.O n.toNat).of) else
  if (T.F.write (T.O n.toNat).of (T.from_ (T.O n.toNat)) b).2.2 ≠ 0 then (T, 0, false, (T.F.write (T.O n.toNat).of (T.from_ (T.O n.toNat)) b).2.2) else
  ({ T with F := (T.F.write (T.O n.toNat).of (T.from_ (T.O n.toNat)) b).1, O := updF T.O n.toNat { T.O n.toNat with off := T.from_ (T.O n.toNat) + (T.F.write (T.O n.toNat).of (T.from_ (T.O n.toNat)) b).2.1 } }, (T.F.write (T.O n.toNat).of (T.from_ (T.O n.toNat)) b).2.1, false, 0)

def base (T : Ft) (x : Fl) (wh : Int) : Int := if wh = 1 then x.off else if wh = 2 then (T.F.size x.of.toNat : Int) else 0
def seek (T : Ft) (n off wh : Int) : Ft × Int × Int :=
  if T.there n = false then (T, 0, 9) else if (T.O n.toNat).k ≠ 1 then (T, 0, 29) else
  if wh < 0 ∨ 2 < wh ∨ off < -1048576 ∨ 1048576 < off ∨ T.base (T.O n.toNat) wh + off < 0 ∨ 1048576 < T.base (T.O n.toNat) wh + off then (T, 0, 22) else
  (T.at_ n.toNat { T.O n.toNat with off := T.base (T.O n.toNat) wh + off }, T.base (T.O n.toNat) wh + off, 0)

def hold (T : Ft) (n : Int) : Ft × Int :=
  if T.there n = false then (T, 9) else if 1000 ≤ (T.O n.toNat).h then (T, 11) else (T.at_ n.toNat { T.O n.toNat with h := (T.O n.toNat).h + 1 }, 0)
def drop (T : Ft) (n : Int) : Ft × Int :=
  if T.there n = false then (T, 9) else if 1 < (T.O n.toNat).h then (T.at_ n.toNat { T.O n.toNat with h := (T.O n.toNat).h - 1 }, 0) else
  if (T.O n.toNat).k = 1 then ({ T with F := (T.F.drop (T.O n.toNat).of).1, O := updF T.O n.toNat noFl }, 0) else
  ({ T with P := Pi.dropP T.kp T.P (T.O n.toNat).of (decide ((T.O n.toNat).k = 3)), O := updF T.O n.toNat noFl }, 0)

def nameF (F : Fs) (call : Int) (l m : List UInt8) : Fs × Int :=
  if call = 7 then F.unlink l else if call = 8 then ((F.make l 2).1, (F.make l 2).2.2) else if call = 9 then F.rmdir l else if call = 10 then F.link l m else if call = 11 then F.rename l m else (F, 22)
def name (T : Ft) (call : Int) (l m : List UInt8) : Ft × Int := ({ T with F := (nameF T.F call l m).1 }, (nameF T.F call l m).2)
def stat (T : Ft) (l : List UInt8) : Int × Int × Int × Int := if (T.F.find l).2 ≠ 0 then (0, 0, 0, (T.F.find l).2) else T.F.stat (T.F.find l).1
def trunc (T : Ft) (l : List UInt8) (z : Int) : Ft × Int := if (T.F.find l).2 ≠ 0 then (T, (T.F.find l).2) else ({ T with F := (T.F.resize (T.F.find l).1 z).1 }, (T.F.resize (T.F.find l).1 z).2)
end Ft

/-- No open files. -/
def newT (d : Int) : Ft := ⟨rootF d, Pi.noPipes, fun _ => noFl⟩

/-- How many open files of a kind are of a number. -/
def cF (O : Nat → Fl) (k : Int) (n : Nat) : Nat := (List.range 11).countP (fun i => decide ((O i).h ≠ 0 ∧ (O i).k = k ∧ (O i).of = (n : Int)))

/-- What is true of open files that calls have made. -/
structure TOk (T : Ft) : Prop where
  F : FOk T.F
  out : ∀ i, i = 0 ∨ 11 ≤ i → T.O i = noFl
  nn : ∀ i, (T.O i).h = 0 → T.O i = noFl
  h : ∀ i, 0 ≤ (T.O i).h ∧ (T.O i).h ≤ 1000
  k : ∀ i, (T.O i).h ≠ 0 → (T.O i).k = 1 ∨ (T.O i).k = 2 ∨ (T.O i).k = 3
  off : ∀ i, 0 ≤ (T.O i).off ∧ (T.O i).off ≤ 1048576
  of : ∀ i, ∃ m : Nat, (T.O i).of = (m : Int)
  hc : ∀ n : Nat, (T.F.P n).h = (cF T.O 1 n : Int)
  r : ∀ n, (T.P n).r = cF T.O 2 n
  w : ∀ n, cF T.O 3 n ≤ (T.P n).w
  ws : T.kp = false → ∀ n, (T.P n).w = cF T.O 3 n
  pq : ∀ n, (T.P n).q.length ≤ 8 ∧ (T.P n).w ≤ 1 ∧ Pi.clr (T.P n) = T.P n
  po : ∀ n, n = 0 ∨ 5 ≤ n → T.P n = ⟨0, 0, []⟩

end Go.Proofs.YtoknhcjneliboaaGreat

/- What is true of open files stays true, call by call. -/
namespace Go.Proofs.YtoknhcjneliboaaGreat
set_option linter.unusedVariables false

theorem cnt_upd (p q : Nat → Bool) (i : Nat) (hne : ∀ j, j ≠ i → q j = p j) : ∀ m, i < m → (List.range m).countP q + (if p i = true then 1 else 0) = (List.range m).countP p + (if q i = true then 1 else 0)
  | 0, h => absurd h (Nat.not_lt_zero _)
  | m + 1, h => by
    rw [List.range_succ, List.countP_append, List.countP_append, List.countP_singleton, List.countP_singleton]
    rcases (show i < m ∨ i = m by omega) with e | e
    · have := cnt_upd p q i hne m e
      rw [hne m (by omega)]
      omega
    · subst e
      have : (List.range i).countP q = (List.range i).countP p := List.countP_congr (fun j hj => by rw [hne j (by have := List.mem_range.1 hj; omega)])
      omega

def cb (x : Fl) (k : Int) (n : Nat) : Bool := decide (x.h ≠ 0 ∧ x.k = k ∧ x.of = (n : Int))
theorem cF_upd (O : Nat → Fl) (i : Nat) (x : Fl) (hi : i < 11) (k : Int) (n : Nat) : cF (updF O i x) k n + (if cb (O i) k n = true then 1 else 0) = cF O k n + (if cb x k n = true then 1 else 0) := by
  have h := cnt_upd (fun j => cb (O j) k n) (fun j => cb (updF O i x j) k n) i (fun j hj => by rw [updF_ne _ _ _ _ hj]) 11 hi
  rw [updF_same] at h
  exact h
theorem cF_same {O : Nat → Fl} {i : Nat} {x : Fl} (hi : i < 11) (h : x.h ≠ 0) (h' : (O i).h ≠ 0) (hk : x.k = (O i).k) (ho : x.of = (O i).of) (k : Int) (n : Nat) : cF (updF O i x) k n = cF O k n := by
  have e : cb x k n = cb (O i) k n := by unfold cb; simp [h, h', hk, ho]
  have := cF_upd O i x hi k n
  rw [e] at this
  omega
theorem cF_new {O : Nat → Fl} {i : Nat} {x : Fl} (hi : i < 11) (h : x.h ≠ 0) (h' : (O i).h = 0) (k : Int) (n : Nat) : cF (updF O i x) k n = cF O k n + if x.k = k ∧ x.of = (n : Int) then 1 else 0 := by
  have := cF_upd O i x hi k n
  have e : cb (O i) k n = false := by unfold cb; simp [h']
  have e2 : cb x k n = decide (x.k = k ∧ x.of = (n : Int)) := by unfold cb; simp [h]
  rw [e, e2] at this
  simpa using this
theorem cF_gone {O : Nat → Fl} {i : Nat} (hi : i < 11) (h : (O i).h ≠ 0) (k : Int) (n : Nat) : cF (updF O i noFl) k n + (if (O i).k = k ∧ (O i).of = (n : Int) then 1 else 0) = cF O k n := by
  have := cF_upd O i noFl hi k n
  have e : cb noFl k n = false := by unfold cb; simp [noFl]
  have e2 : cb (O i) k n = decide ((O i).k = k ∧ (O i).of = (n : Int)) := by unfold cb; simp [h]
  rw [e, e2] at this
  simpa using this
theorem cF_mem {O : Nat → Fl} {i : Nat} (hi : i < 11) (h : (O i).h ≠ 0) (n : Nat) (hn : (O i).of = (n : Int)) : 1 ≤ cF O (O i).k n :=
  List.countP_pos_iff.2 ⟨i, List.mem_range.2 hi, by simp [h, hn]⟩

/-- Pipes whose ends are as they were. -/
structure PS (P P' : Nat → Pi.Pp) : Prop where
  r : ∀ n, (P' n).r = (P n).r
  w : ∀ n, (P' n).w = (P n).w
  q : (∀ n, (P n).q.length ≤ 8) → ∀ n, (P' n).q.length ≤ 8
  c : (∀ n, Pi.clr (P n) = P n) → ∀ n, Pi.clr (P' n) = P' n
  o : (∀ n, n = 0 ∨ 5 ≤ n → P n = ⟨0, 0, []⟩) → ∀ n, n = 0 ∨ 5 ≤ n → P' n = ⟨0, 0, []⟩
theorem PS.refl (P : Nat → Pi.Pp) : PS P P := ⟨fun _ => rfl, fun _ => rfl, fun h => h, fun h => h, fun h => h⟩
theorem PS.put (P : Nat → Pi.Pp) (i : Nat) (q : List Int) (h1 : 1 ≤ i) (h4 : i ≤ 4) (ht : (P i).there = true) (hq : (∀ n, (P n).q.length ≤ 8) → q.length ≤ 8) : PS P (Pi.updP P i { P i with q := q }) := by
  have e : ∀ j, Pi.updP P i { P i with q := q } j = if j = i then { P i with q := q } else P j := fun j => rfl
  refine ⟨fun n => ?_, fun n => ?_, fun h n => ?_, fun h n => ?_, fun h n hn => ?_⟩
  · rw [e]; split
    · rename_i q; subst q; rfl
    · rfl
  · rw [e]; split
    · rename_i q; subst q; rfl
    · rfl
  · rw [e]; split
    · exact hq h
    · exact h n
  · rw [e]; split
    · exact Pi.clr_yes (show ({ P i with q := q } : Pi.Pp).there = true from ht)
    · exact h n
  · rw [e, if_neg (by omega)]; exact h n hn
theorem PS.read (P : Nat → Pi.Pp) (n c : Int) : PS P (Pi.readP P n c) := by
  unfold Pi.readP
  split
  · rename_i h
    obtain ⟨i, rfl, h1, h4, ht⟩ := Pi.has_some h
    split
    · rw [Int.toNat_natCast]
      exact PS.put P i _ h1 h4 ht (fun h => by have := h i; rw [List.length_drop]; omega)
    · exact PS.refl P
  · exact PS.refl P
theorem PS.write (P : Nat → Pi.Pp) (n : Int) (zs : List Int) : PS P (Pi.writeP P n zs) := by
  unfold Pi.writeP
  split
  · rename_i h
    obtain ⟨i, rfl, h1, h4, ht⟩ := Pi.has_some h
    split
    · exact PS.refl P
    · rw [Int.toNat_natCast]
      exact PS.put P i _ h1 h4 ht (fun h => by have := h i; rw [List.length_append, List.length_take]; omega)
  · exact PS.refl P

theorem Ft.there_lt {T : Ft} {n : Int} (h : T.there n = true) : ∃ i : Nat, n = (i : Int) ∧ 1 ≤ i ∧ i < 11 ∧ (T.O i).h ≠ 0 := by
  unfold Ft.there at h
  simp only [decide_eq_true_eq] at h
  exact ⟨n.toNat, by omega, by omega, by omega, h.2.2⟩
theorem Ft.has_lt {T : Ft} {n b : Int} (h : T.has n b = true) : ∃ i : Nat, n = (i : Int) ∧ 1 ≤ i ∧ i < 11 ∧ (T.O i).h ≠ 0 ∧ dfc (T.O i).fl b = true := by
  unfold Ft.has at h
  rw [Bool.and_eq_true] at h
  obtain ⟨i, rfl, h1, h2, h3⟩ := Ft.there_lt h.1
  exact ⟨i, rfl, h1, h2, h3, by simpa using h.2⟩

/-- An open file's offset, or holders, turn; what is below keeps who holds what. -/
theorem TOk.turn {T : Ft} (H : TOk T) {F' : Fs} {P' : Nat → Pi.Pp} (hF : FOk F') (sF : SH T.F F') (sP : PS T.P P') (i : Nat) (h1 : 1 ≤ i) (hi : i < 11) (hh : (T.O i).h ≠ 0) (x : Fl) (hk : x.k = (T.O i).k) (ho : x.of = (T.O i).of) (hx : 1 ≤ x.h ∧ x.h ≤ 1000) (hf : 0 ≤ x.off ∧ x.off ≤ 1048576) :
    TOk ⟨F', P', updF T.O i x⟩ := by
  have ec : ∀ k n, cF (updF T.O i x) k n = cF T.O k n := cF_same hi (by omega) hh hk ho
  have eu : ∀ j, updF T.O i x j = if j = i then x else T.O j := fun j => rfl
  refine ⟨hF, fun j hj => ?_, fun j hj => ?_, fun j => ?_, fun j hj => ?_, fun j => ?_, fun j => ?_, fun n => ?_, fun n => ?_, fun n => ?_, fun hkp n => ?_, fun n => ⟨?_, ?_, ?_⟩, sP.o H.po⟩
  · show updF T.O i x j = noFl
    rw [eu, if_neg (by omega)]; exact H.out j hj
  · revert hj
    show (updF T.O i x j).h = 0 → updF T.O i x j = noFl
    rw [eu]; split
    · intro e; omega
    · exact H.nn j
  · show 0 ≤ (updF T.O i x j).h ∧ (updF T.O i x j).h ≤ 1000
    rw [eu]; split
    · omega
    · exact H.h j
  · revert hj
    show (updF T.O i x j).h ≠ 0 → (updF T.O i x j).k = 1 ∨ (updF T.O i x j).k = 2 ∨ (updF T.O i x j).k = 3
    rw [eu]; split
    · intro _; rw [hk]; exact H.k i hh
    · exact H.k j
  · show 0 ≤ (updF T.O i x j).off ∧ (updF T.O i x j).off ≤ 1048576
    rw [eu]; split
    · exact hf
    · exact H.off j
  · show ∃ m : Nat, (updF T.O i x j).of = (m : Int)
    rw [eu]; split
    · rw [ho]; exact H.of i
    · exact H.of j
  · show (F'.P n).h = (cF (updF T.O i x) 1 n : Int)
    rw [ec, sF.2]; exact H.hc n
  · show (P' n).r = cF (updF T.O i x) 2 n
    rw [ec, sP.r]; exact H.r n
  · show cF (updF T.O i x) 3 n ≤ (P' n).w
    rw [ec, sP.w]; exact H.w n
  · show (P' n).w = cF (updF T.O i x) 3 n
    rw [ec, sP.w]
    refine H.ws ?_ n
    have : Ft.kp ⟨F', P', updF T.O i x⟩ = T.kp := by unfold Ft.kp; rw [sF.1]
    rw [this] at hkp; exact hkp
  · exact sP.q (fun n => (H.pq n).1) n
  · show (P' n).w ≤ 1
    rw [sP.w]; exact (H.pq n).2.1
  · exact sP.c (fun n => (H.pq n).2.2) n

/-- What is below turns, but for who holds what. -/
theorem TOk.below {T : Ft} (H : TOk T) {F' : Fs} {P' : Nat → Pi.Pp} (hF : FOk F') (sF : SH T.F F') (sP : PS T.P P') : TOk ⟨F', P', T.O⟩ :=
  ⟨hF, H.out, H.nn, H.h, H.k, H.off, H.of, fun n => by show (F'.P n).h = _; rw [sF.2]; exact H.hc n, fun n => by show (P' n).r = _; rw [sP.r]; exact H.r n, fun n => by show _ ≤ (P' n).w; rw [sP.w]; exact H.w n, fun hkp n => by
    show (P' n).w = _
    rw [sP.w]
    refine H.ws ?_ n
    have : Ft.kp ⟨F', P', T.O⟩ = T.kp := by unfold Ft.kp; rw [sF.1]
    rw [this] at hkp; exact hkp, fun n => ⟨sP.q (fun n => (H.pq n).1) n, by show (P' n).w ≤ 1; rw [sP.w]; exact (H.pq n).2.1, sP.c (fun n => (H.pq n).2.2) n⟩, sP.o H.po⟩

/-- An open file more, of a node. -/
theorem TOk.more {T : Ft} (H : TOk T) {F' : Fs} (hF : FOk F') (hd : F'.d = T.F.d) (m : Nat) (hh : ∀ n, (F'.P n).h = (T.F.P n).h + if n = m then 1 else 0) (i : Nat) (h1 : 1 ≤ i) (hi : i < 11) (h0 : (T.O i).h = 0) (g : Int) :
    TOk ⟨F', T.P, updF T.O i ⟨1, (m : Int), 0, g, 1⟩⟩ := by
  have ec : ∀ k n, cF (updF T.O i ⟨1, (m : Int), 0, g, 1⟩) k n = cF T.O k n + if (1 : Int) = k ∧ (m : Int) = (n : Int) then 1 else 0 := fun k n => cF_new (x := ⟨1, (m : Int), 0, g, 1⟩) hi (by show (1 : Int) ≠ 0; omega) h0 k n
  have eu : ∀ j, updF T.O i ⟨1, (m : Int), 0, g, 1⟩ j = if j = i then ⟨1, (m : Int), 0, g, 1⟩ else T.O j := fun j => rfl
  refine ⟨hF, fun j hj => ?_, fun j hj => ?_, fun j => ?_, fun j hj => ?_, fun j => ?_, fun j => ?_, fun n => ?_, fun n => ?_, fun n => ?_, fun hkp n => ?_, H.pq, H.po⟩
  · show updF T.O i _ j = noFl
    rw [eu, if_neg (by omega)]; exact H.out j hj
  · revert hj
    show (updF T.O i _ j).h = 0 → updF T.O i _ j = noFl
    rw [eu]; split
    · intro e; exact absurd e (by show (1 : Int) ≠ 0; omega)
    · exact H.nn j
  · show 0 ≤ (updF T.O i _ j).h ∧ (updF T.O i _ j).h ≤ 1000
    rw [eu]; split
    · show (0 : Int) ≤ 1 ∧ (1 : Int) ≤ 1000; omega
    · exact H.h j
  · revert hj
    show (updF T.O i _ j).h ≠ 0 → (updF T.O i _ j).k = 1 ∨ (updF T.O i _ j).k = 2 ∨ (updF T.O i _ j).k = 3
    rw [eu]; split
    · intro _; exact .inl rfl
    · exact H.k j
  · show 0 ≤ (updF T.O i _ j).off ∧ (updF T.O i _ j).off ≤ 1048576
    rw [eu]; split
    · show (0 : Int) ≤ 0 ∧ (0 : Int) ≤ 1048576; omega
    · exact H.off j
  · show ∃ k : Nat, (updF T.O i _ j).of = (k : Int)
    rw [eu]; split
    · exact ⟨m, rfl⟩
    · exact H.of j
  · show (F'.P n).h = (cF (updF T.O i _) 1 n : Int)
    rw [ec, hh, H.hc n]
    by_cases e : n = m
    · subst e; simp
    · have : ¬ (m : Int) = (n : Int) := by omega
      simp [e, this]
  · show (T.P n).r = cF (updF T.O i _) 2 n
    rw [ec, if_neg (by omega)]; exact H.r n
  · show cF (updF T.O i _) 3 n ≤ (T.P n).w
    rw [ec, if_neg (by omega)]; exact H.w n
  · show (T.P n).w = cF (updF T.O i _) 3 n
    rw [ec, if_neg (by omega)]
    refine H.ws ?_ n
    have : Ft.kp ⟨F', T.P, updF T.O i ⟨1, (m : Int), 0, g, 1⟩⟩ = T.kp := by unfold Ft.kp; rw [hd]
    rw [this] at hkp; exact hkp

end Go.Proofs.YtoknhcjneliboaaGreat

/- What is true of open files stays true: Open, Pipe, and the rest. -/
namespace Go.Proofs.YtoknhcjneliboaaGreat
set_option linter.unusedVariables false

theorem ofL_mem {O : Nat → Fl} : ∀ {n i : Nat}, i ∈ ofL O n → 1 ≤ i ∧ i < n ∧ (O i).h = 0
  | 0, i, h => by simp [ofL] at h
  | n + 1, i, h => by
    unfold ofL at h
    rcases List.mem_append.1 h with h | h
    · have := ofL_mem h; exact ⟨this.1, by omega, this.2.2⟩
    · split at h
      · rename_i e
        have : i = n := by simpa using h
        subst this
        exact ⟨e.1, by omega, e.2⟩
      · simp at h
theorem ofL_rise (O : Nat → Fl) : ∀ n, (ofL O n).Pairwise (· < ·)
  | 0 => List.Pairwise.nil
  | n + 1 => by
    unfold ofL
    refine List.pairwise_append.2 ⟨ofL_rise O n, ?_, fun a ha b hb => ?_⟩
    · split <;> simp
    · split at hb
      · have : b = n := by simpa using hb
        subst this
        exact (ofL_mem ha).2.1
      · simp at hb
theorem ofL_head {O : Nat → Fl} (h : ofL O 11 ≠ []) : 1 ≤ (ofL O 11).headD 0 ∧ (ofL O 11).headD 0 < 11 ∧ (O ((ofL O 11).headD 0)).h = 0 := by
  cases e : ofL O 11 with
  | nil => exact absurd e h
  | cons a r => exact ofL_mem (n := 11) (by rw [e]; exact List.mem_cons_self)

theorem Ft.node_ok {F : Fs} (H : FOk F) (l : List UInt8) (g : Int) : FOk (Ft.node F l g).1 ∧ SH F (Ft.node F l g).1 := by
  unfold Ft.node
  split
  · exact ⟨H, SH.refl F⟩
  split
  · exact ⟨H.make l 1, SH.make H l 1⟩
  split
  · exact ⟨H, SH.refl F⟩
  · exact ⟨H, SH.refl F⟩
theorem Ft.cutF_ok {F : Fs} (H : FOk F) (n : Nat) (g : Int) : FOk (Ft.cutF F n g).1 ∧ SH F (Ft.cutF F n g).1 := by
  unfold Ft.cutF
  split
  · exact ⟨H, SH.refl F⟩
  split
  · exact ⟨H, SH.refl F⟩
  split
  · exact ⟨H, SH.refl F⟩
  · exact ⟨H.resize _ _, SH.resize _ _ _⟩
theorem Ft.openN_ok {T : Ft} (H : TOk T) (l : List UInt8) (g : Int) : FOk (T.openN l g).1 ∧ (T.openN l g).1.d = T.F.d ∧ ((T.openN l g).2.2 ≠ 0 → SH T.F (T.openN l g).1) ∧ ((T.openN l g).2.2 = 0 → ∀ n, ((T.openN l g).1.P n).h = (T.F.P n).h + if n = (T.openN l g).2.1 then 1 else 0) := by
  obtain ⟨a1, a2⟩ := Ft.node_ok H.F l g
  obtain ⟨b1, b2⟩ := Ft.cutF_ok a1 (Ft.node T.F l g).2.1 g
  unfold Ft.openN
  split
  · rename_i e
    exact ⟨a1, a2.1, fun _ => a2, fun q => absurd q e⟩
  split
  · rename_i e
    exact ⟨b1, (a2.trans b2).1, fun _ => a2.trans b2, fun q => absurd q e⟩
  · dsimp only
    refine ⟨b1.hold _, (hold_d _ _).trans (a2.trans b2).1, fun q => ?_, fun q n => ?_⟩
    · rw [hold_no q]; exact a2.trans b2
    · rw [(hold_P q).2, Int.toNat_natCast, Fs.hld_P]
      dsimp only
      rw [← (a2.trans b2).2 n]
      split
      · rename_i e; subst e; rfl
      · omega
theorem TOk.open_ {T : Ft} (H : TOk T) (l : List UInt8) (g : Int) : TOk (T.open_ l g).1 := by
  obtain ⟨a1, a2, a3, a4⟩ := Ft.openN_ok H l g
  unfold Ft.open_
  split
  · exact H
  split
  · exact H
  rename_i hf
  split
  · rename_i e
    exact H.below a1 (a3 e) (PS.refl T.P)
  · rename_i e
    obtain ⟨f1, f2, f3⟩ := ofL_head hf
    exact H.more a1 a2 _ (a4 (Decidable.not_not.1 e)) _ f1 f2 f3 g

/-- Both ends of a new pipe. -/
theorem TOk.pipe {T : Ft} (H : TOk T) : TOk T.pipe.1 := by
  unfold Ft.pipe
  split
  · rename_i a b r he
    split
    · exact H
    rename_i hm
    have hm0 := Decidable.not_not.1 hm
    have hl : Pi.lowest T.P ≠ 0 := fun e => hm (by unfold Pi.makeE; rw [if_pos e]; decide)
    obtain ⟨l1, l4, _, lt⟩ := Pi.lowest_some T.P hl
    have hP : Pi.makeP T.P = Pi.updP T.P (Pi.lowest T.P) ⟨1, 1, []⟩ := by unfold Pi.makeP; rw [if_neg hl]
    have ha := ofL_mem (O := T.O) (n := 11) (i := a) (by rw [he]; exact List.mem_cons_self)
    have hb := ofL_mem (O := T.O) (n := 11) (i := b) (by rw [he]; exact List.mem_cons_of_mem _ List.mem_cons_self)
    have hab : a < b := by
      have := ofL_rise T.O 11
      rw [he] at this
      exact (List.pairwise_cons.1 this).1 b List.mem_cons_self
    have z : T.P (Pi.lowest T.P) = ⟨0, 0, []⟩ := by
      have := (H.pq (Pi.lowest T.P)).2.2
      unfold Pi.clr at this
      rw [lt] at this
      exact this.symm
    generalize Pi.lowest T.P = i at hP l1 l4 z ⊢
    have zr : cF T.O 2 i = 0 := by have := H.r i; rw [z] at this; exact this.symm
    have zw : cF T.O 3 i = 0 := by have := H.w i; rw [z] at this; exact Nat.le_zero.1 this
    have hb0 : ∀ x, (updF T.O a x b).h = 0 := fun x => by rw [updF_ne _ _ _ _ (by omega)]; exact hb.2.2
    have ec : ∀ k n, cF (updF (updF T.O a ⟨2, (i : Int), 0, 1, 1⟩) b ⟨3, (i : Int), 0, 2, 1⟩) k n = cF T.O k n + (if (2 : Int) = k ∧ (i : Int) = (n : Int) then 1 else 0) + (if (3 : Int) = k ∧ (i : Int) = (n : Int) then 1 else 0) := fun k n => by
      rw [cF_new (x := ⟨3, (i : Int), 0, 2, 1⟩) hb.2.1 (by show (1 : Int) ≠ 0; omega) (hb0 _), cF_new (x := ⟨2, (i : Int), 0, 1, 1⟩) ha.2.1 (by show (1 : Int) ≠ 0; omega) ha.2.2]
    have eu : ∀ j, updF (updF T.O a ⟨2, (i : Int), 0, 1, 1⟩) b ⟨3, (i : Int), 0, 2, 1⟩ j = if j = b then ⟨3, (i : Int), 0, 2, 1⟩ else if j = a then ⟨2, (i : Int), 0, 1, 1⟩ else T.O j := fun j => rfl
    have ep : ∀ j, Pi.makeP T.P j = if j = i then ⟨1, 1, []⟩ else T.P j := fun j => by rw [hP]; rfl
    dsimp only
    refine ⟨H.F, fun j hj => ?_, fun j hj => ?_, fun j => ?_, fun j hj => ?_, fun j => ?_, fun j => ?_, fun n => ?_, fun n => ?_, fun n => ?_, fun hkp n => ?_, fun n => ?_, fun n hn => ?_⟩
    · dsimp only
      rw [eu, if_neg (by omega), if_neg (by omega)]; exact H.out j hj
    · revert hj
      dsimp only
      rw [eu]; split
      · intro e; exact absurd e (by show (1 : Int) ≠ 0; omega)
      · split
        · intro e; exact absurd e (by show (1 : Int) ≠ 0; omega)
        · exact H.nn j
    · dsimp only
      rw [eu]; split
      · show (0 : Int) ≤ 1 ∧ (1 : Int) ≤ 1000; omega
      · split
        · show (0 : Int) ≤ 1 ∧ (1 : Int) ≤ 1000; omega
        · exact H.h j
    · revert hj
      dsimp only
      rw [eu]; split
      · intro _; exact .inr (.inr rfl)
      · split
        · intro _; exact .inr (.inl rfl)
        · exact H.k j
    · dsimp only
      rw [eu]; split
      · show (0 : Int) ≤ 0 ∧ (0 : Int) ≤ 1048576; omega
      · split
        · show (0 : Int) ≤ 0 ∧ (0 : Int) ≤ 1048576; omega
        · exact H.off j
    · dsimp only
      rw [eu]; split
      · exact ⟨i, rfl⟩
      · split
        · exact ⟨i, rfl⟩
        · exact H.of j
    · dsimp only
      rw [ec, if_neg (by omega), if_neg (by omega)]; exact H.hc n
    · dsimp only
      rw [ec, ep]
      have := H.r n
      by_cases e : n = i
      · subst e; simp; omega
      · have : ¬ (i : Int) = (n : Int) := by omega
        simp [e, this]; exact H.r n
    · dsimp only
      rw [ec, ep]
      have := H.w n
      by_cases e : n = i
      · subst e; simp; omega
      · have : ¬ (i : Int) = (n : Int) := by omega
        simp [e, this]; exact H.w n
    · dsimp only
      have hw := H.ws hkp n
      rw [ec, ep]
      by_cases e : n = i
      · subst e
        simp; omega
      · have : ¬ (i : Int) = (n : Int) := by omega
        simp [e, this]; exact hw
    · dsimp only
      rw [ep]; split
      · exact ⟨by simp, by simp, rfl⟩
      · exact H.pq n
    · dsimp only
      rw [ep, if_neg (by omega)]; exact H.po n hn
  · exact H

theorem read_le {F : Fs} (H : FOk F) (n off c : Int) (h : 0 ≤ off ∧ off ≤ 1048576) : 0 ≤ off + ((F.read n off c).1.length : Int) ∧ off + ((F.read n off c).1.length : Int) ≤ 1048576 := by
  refine ⟨by omega, ?_⟩
  unfold Fs.read
  split
  · show off + ((0 : Nat) : Int) ≤ _; omega
  split
  · show off + ((0 : Nat) : Int) ≤ _; omega
  · have := (H.c n.toNat).1
    show off + (((((F.P n.toNat).c.drop off.toNat).take c.toNat).length : Nat) : Int) ≤ _
    rw [List.length_take, List.length_drop]
    omega
theorem TOk.read {T : Ft} (H : TOk T) (n c : Int) : TOk (T.read n c).1 := by
  unfold Ft.read
  split
  · exact H
  rename_i hh
  obtain ⟨i, rfl, h1, h2, h3, _⟩ := Ft.has_lt (by simpa using hh)
  split
  · exact H.below H.F (SH.refl _) (PS.read _ _ _)
  · rw [Int.toNat_natCast]
    exact H.turn H.F (SH.refl _) (PS.refl _) i h1 h2 h3 _ rfl rfl (by have := H.h i; show 1 ≤ (T.O i).h ∧ (T.O i).h ≤ 1000; omega) (read_le H.F _ _ _ (H.off i))
theorem size_le {F : Fs} (H : FOk F) (n : Nat) : F.size n ≤ 102 := by
  unfold Fs.size
  have := (H.c n).1
  have := H.len n
  omega
theorem write_le {F : Fs} (n off : Int) (b : List Int) (h : 0 ≤ off ∧ off ≤ 1048576) : 0 ≤ off + (F.write n off b).2.1 ∧ off + (F.write n off b).2.1 ≤ 1048576 := by
  unfold Fs.write
  split
  · show 0 ≤ off + 0 ∧ off + 0 ≤ _; omega
  split
  · show 0 ≤ off + 0 ∧ off + 0 ≤ _; omega
  split
  · show 0 ≤ off + 0 ∧ off + 0 ≤ _; omega
  split
  · show 0 ≤ off + 0 ∧ off + 0 ≤ _; omega
  split
  · show 0 ≤ off + 0 ∧ off + 0 ≤ _; omega
  · show 0 ≤ off + (b.length : Int) ∧ off + (b.length : Int) ≤ _; omega
theorem Ft.from_le {T : Ft} (H : TOk T) (i : Nat) : 0 ≤ T.from_ (T.O i) ∧ T.from_ (T.O i) ≤ 1048576 := by
  unfold Ft.from_
  split
  · have := size_le H.F (T.O i).of.toNat
    omega
  · exact H.off i
theorem TOk.write {T : Ft} (H : TOk T) (n : Int) (b : List Int) (hb : ∀ z ∈ b, 0 ≤ z ∧ z < 256) : TOk (T.write n b).1 := by
  unfold Ft.write
  split
  · exact H
  rename_i hh
  obtain ⟨i, rfl, h1, h2, h3, _⟩ := Ft.has_lt (by simpa using hh)
  split
  · exact H.below H.F (SH.refl _) (PS.write _ _ _)
  split
  · exact H
  · rw [Int.toNat_natCast]
    exact H.turn (H.F.write _ _ _ hb) (SH.write _ _ _ _) (PS.refl _) i h1 h2 h3 _ rfl rfl (by have := H.h i; show 1 ≤ (T.O i).h ∧ (T.O i).h ≤ 1000; omega) (write_le _ _ _ (Ft.from_le H i))
theorem TOk.seek {T : Ft} (H : TOk T) (n off wh : Int) : TOk (T.seek n off wh).1 := by
  unfold Ft.seek
  split
  · exact H
  rename_i hh
  obtain ⟨i, rfl, h1, h2, h3⟩ := Ft.there_lt (by simpa using hh)
  split
  · exact H
  split
  · exact H
  · rename_i e
    rw [Int.toNat_natCast] at e ⊢
    exact H.turn H.F (SH.refl _) (PS.refl _) i h1 h2 h3 _ rfl rfl (by have := H.h i; show 1 ≤ (T.O i).h ∧ (T.O i).h ≤ 1000; omega) (by show 0 ≤ T.base (T.O i) wh + off ∧ T.base (T.O i) wh + off ≤ 1048576; omega)
theorem TOk.hold {T : Ft} (H : TOk T) (n : Int) : TOk (T.hold n).1 := by
  unfold Ft.hold
  split
  · exact H
  rename_i hh
  obtain ⟨i, rfl, h1, h2, h3⟩ := Ft.there_lt (by simpa using hh)
  split
  · exact H
  · rename_i e
    rw [Int.toNat_natCast] at e ⊢
    exact H.turn H.F (SH.refl _) (PS.refl _) i h1 h2 h3 _ rfl rfl (by have := H.h i; show 1 ≤ (T.O i).h + 1 ∧ (T.O i).h + 1 ≤ 1000; omega) (H.off i)

/-- The last descriptor of an open file goes. -/
theorem TOk.less {T : Ft} (H : TOk T) {F' : Fs} {P' : Nat → Pi.Pp} (i : Nat) (h1 : 1 ≤ i) (hi : i < 11) (h0 : (T.O i).h ≠ 0) (hF : FOk F') (hd : F'.d = T.F.d)
    (hh : ∀ n : Nat, (F'.P n).h + (if (T.O i).k = 1 ∧ (T.O i).of = (n : Int) then 1 else 0) = (T.F.P n).h) (hr : ∀ n : Nat, (P' n).r + (if (T.O i).k = 2 ∧ (T.O i).of = (n : Int) then 1 else 0) = (T.P n).r)
    (hw : ∀ n : Nat, (P' n).w ≤ (T.P n).w ∧ (T.P n).w ≤ (P' n).w + (if (T.O i).k = 3 ∧ (T.O i).of = (n : Int) then 1 else 0)) (hw2 : T.kp = false → ∀ n : Nat, (P' n).w + (if (T.O i).k = 3 ∧ (T.O i).of = (n : Int) then 1 else 0) = (T.P n).w)
    (hq : ∀ n, (P' n).q.length ≤ 8 ∧ Pi.clr (P' n) = P' n) (ho : ∀ n, n = 0 ∨ 5 ≤ n → P' n = ⟨0, 0, []⟩) : TOk ⟨F', P', updF T.O i noFl⟩ := by
  have ec := fun k n => cF_gone (O := T.O) hi h0 k n
  have eu : ∀ j, updF T.O i noFl j = if j = i then noFl else T.O j := fun j => rfl
  refine ⟨hF, fun j hj => ?_, fun j hj => ?_, fun j => ?_, fun j hj => ?_, fun j => ?_, fun j => ?_, fun n => ?_, fun n => ?_, fun n => ?_, fun hkp n => ?_, fun n => ⟨(hq n).1, ?_, (hq n).2⟩, ho⟩
  · show updF T.O i noFl j = noFl
    rw [eu]; split
    · rfl
    · exact H.out j hj
  · revert hj
    show (updF T.O i noFl j).h = 0 → updF T.O i noFl j = noFl
    rw [eu]; split
    · intro _; rfl
    · exact H.nn j
  · show 0 ≤ (updF T.O i noFl j).h ∧ (updF T.O i noFl j).h ≤ 1000
    rw [eu]; split
    · show (0 : Int) ≤ 0 ∧ (0 : Int) ≤ 1000; omega
    · exact H.h j
  · revert hj
    show (updF T.O i noFl j).h ≠ 0 → (updF T.O i noFl j).k = 1 ∨ (updF T.O i noFl j).k = 2 ∨ (updF T.O i noFl j).k = 3
    rw [eu]; split
    · intro e; exact absurd rfl e
    · exact H.k j
  · show 0 ≤ (updF T.O i noFl j).off ∧ (updF T.O i noFl j).off ≤ 1048576
    rw [eu]; split
    · show (0 : Int) ≤ 0 ∧ (0 : Int) ≤ 1048576; omega
    · exact H.off j
  · show ∃ m : Nat, (updF T.O i noFl j).of = (m : Int)
    rw [eu]; split
    · exact ⟨0, rfl⟩
    · exact H.of j
  · show (F'.P n).h = (cF (updF T.O i noFl) 1 n : Int)
    have e1 := ec 1 n
    have e2 := hh n
    have e3 := H.hc n
    by_cases q : (T.O i).k = 1 ∧ (T.O i).of = (n : Int)
    · rw [if_pos q] at e1 e2; omega
    · rw [if_neg q] at e1 e2; omega
  · show (P' n).r = cF (updF T.O i noFl) 2 n
    have := ec 2 n
    have := hr n
    have := H.r n
    omega
  · show cF (updF T.O i noFl) 3 n ≤ (P' n).w
    have := ec 3 n
    have := hw n
    have := H.w n
    omega
  · show (P' n).w = cF (updF T.O i noFl) 3 n
    have hk : T.kp = false := by
      have : Ft.kp ⟨F', P', updF T.O i noFl⟩ = T.kp := by unfold Ft.kp; rw [hd]
      rw [this] at hkp; exact hkp
    have := ec 3 n
    have := hw2 hk n
    have := H.ws hk n
    omega
  · have := (hw n).1
    have := (H.pq n).2.1
    show (P' n).w ≤ 1
    omega

end Go.Proofs.YtoknhcjneliboaaGreat

/- What is true of open files stays true: Drop, the calls of names. -/
namespace Go.Proofs.YtoknhcjneliboaaGreat
set_option linter.unusedVariables false

theorem clr_rw (x : Pi.Pp) : (Pi.clr x).r = x.r ∧ (Pi.clr x).w = x.w ∧ ((Pi.clr x).q = x.q ∨ (Pi.clr x).q = []) ∧ Pi.clr (Pi.clr x) = Pi.clr x := by
  unfold Pi.clr
  split
  · rename_i h
    exact ⟨rfl, rfl, .inl rfl, by first | rfl | simp [h]⟩
  · rename_i h
    unfold Pi.Pp.there at h
    simp at h
    exact ⟨by first | rw [h.1] | simp [h.1], by first | rw [h.2] | simp [h.2], .inr rfl, rfl⟩

/-- An end that somebody holds is dropped. -/
theorem dropP_yes {T : Ft} (H : TOk T) (m : Nat) (b : Bool) (he : 1 ≤ (T.P m).ends b) : Pi.dropE T.P m b = 0 ∧ 1 ≤ m ∧ m ≤ 4 ∧ Pi.dropP T.kp T.P m b = if (b && T.kp) = true then T.P else Pi.updP T.P m (Pi.clr ((T.P m).setEnds b ((T.P m).ends b - 1))) := by
  have hm : 1 ≤ m ∧ m ≤ 4 := by
    by_cases e : m = 0 ∨ 5 ≤ m
    · rw [H.po m e] at he
      unfold Pi.Pp.ends at he
      cases b <;> simp at he
    · omega
  have ht : (T.P m).there = true := by
    unfold Pi.Pp.ends at he
    unfold Pi.Pp.there
    cases b <;> simp at he ⊢ <;> omega
  have hh : Pi.has T.P m = true := by
    unfold Pi.has
    rw [Int.toNat_natCast, ht]
    simp; omega
  refine ⟨?_, hm.1, hm.2, ?_⟩
  · unfold Pi.dropE
    rw [if_pos hh, Int.toNat_natCast, if_neg (by omega)]
  · unfold Pi.dropP
    rw [if_pos hh, Int.toNat_natCast, if_neg (by omega)]

theorem TOk.drop_end {T : Ft} (H : TOk T) (i : Nat) (h1 : 1 ≤ i) (hi : i < 11) (h0 : (T.O i).h ≠ 0) (hk : (T.O i).k = 2 ∨ (T.O i).k = 3) : Pi.dropE T.P (T.O i).of (decide ((T.O i).k = 3)) = 0 ∧ TOk ⟨T.F, Pi.dropP T.kp T.P (T.O i).of (decide ((T.O i).k = 3)), updF T.O i noFl⟩ := by
  obtain ⟨m, hm⟩ := H.of i
  have hc := cF_mem hi h0 m hm
  rw [hm]
  rcases hk with k2 | k3
  · have hb : decide ((T.O i).k = 3) = false := by simp [k2]
    rw [k2] at hc
    have n1 : ∀ n : Nat, ¬ ((T.O i).k = 1 ∧ (T.O i).of = (n : Int)) := fun n => by omega
    have n3 : ∀ n : Nat, ¬ ((T.O i).k = 3 ∧ (T.O i).of = (n : Int)) := fun n => by omega
    have hr := H.r m
    obtain ⟨d1, m1, m4, d2⟩ := dropP_yes H m false (by unfold Pi.Pp.ends; simp; omega)
    rw [hb]
    refine ⟨d1, ?_⟩
    rw [d2, if_neg (by simp)]
    have ep : ∀ n, Pi.updP T.P m (Pi.clr ((T.P m).setEnds false ((T.P m).ends false - 1))) n = if n = m then Pi.clr ((T.P m).setEnds false ((T.P m).ends false - 1)) else T.P n := fun _ => rfl
    obtain ⟨q1, q2, q3, q4⟩ := clr_rw ((T.P m).setEnds false ((T.P m).ends false - 1))
    refine H.less i h1 hi h0 H.F rfl (fun n => ?_) (fun n => ?_) (fun n => ?_) (fun _ n => ?_) (fun n => ?_) (fun n hn => ?_)
    · rw [if_neg (n1 n)]; omega
    · rw [ep]
      by_cases e : n = m
      · subst e
        rw [if_pos rfl, if_pos ⟨k2, hm⟩, q1]
        show (T.P n).r - 1 + 1 = _
        omega
      · rw [if_neg e, if_neg (by rw [hm]; omega)]; omega
    · rw [ep, if_neg (n3 n)]
      by_cases e : n = m
      · subst e
        rw [if_pos rfl, q2]
        show (T.P n).w ≤ _ ∧ _ ≤ (T.P n).w + 0
        omega
      · rw [if_neg e]; omega
    · rw [ep, if_neg (n3 n)]
      by_cases e : n = m
      · subst e
        rw [if_pos rfl, q2]
        show (T.P n).w + 0 = _
        omega
      · rw [if_neg e]; omega
    · rw [ep]; split
      · refine ⟨?_, q4⟩
        rcases q3 with q3 | q3
        · rw [q3]; exact (H.pq m).1
        · rw [q3]; exact Nat.zero_le _
      · exact ⟨(H.pq n).1, (H.pq n).2.2⟩
    · rw [ep, if_neg (by omega)]; exact H.po n hn
  · have hb : decide ((T.O i).k = 3) = true := by simp [k3]
    rw [k3] at hc
    have n1 : ∀ n : Nat, ¬ ((T.O i).k = 1 ∧ (T.O i).of = (n : Int)) := fun n => by omega
    have n2 : ∀ n : Nat, ¬ ((T.O i).k = 2 ∧ (T.O i).of = (n : Int)) := fun n => by omega
    have hw := H.w m
    obtain ⟨d1, m1, m4, d2⟩ := dropP_yes H m true (by unfold Pi.Pp.ends; simp; omega)
    rw [hb]
    refine ⟨d1, ?_⟩
    rw [d2]
    cases hkp : T.kp
    · rw [if_neg (by simp)]
      have ep : ∀ n, Pi.updP T.P m (Pi.clr ((T.P m).setEnds true ((T.P m).ends true - 1))) n = if n = m then Pi.clr ((T.P m).setEnds true ((T.P m).ends true - 1)) else T.P n := fun _ => rfl
      obtain ⟨q1, q2, q3, q4⟩ := clr_rw ((T.P m).setEnds true ((T.P m).ends true - 1))
      refine H.less i h1 hi h0 H.F rfl (fun n => ?_) (fun n => ?_) (fun n => ?_) (fun _ n => ?_) (fun n => ?_) (fun n hn => ?_)
      · rw [if_neg (n1 n)]; omega
      · rw [ep, if_neg (n2 n)]
        by_cases e : n = m
        · subst e
          rw [if_pos rfl, q1]
          show (T.P n).r + 0 = _
          omega
        · rw [if_neg e]; omega
      · rw [ep]
        by_cases e : n = m
        · subst e
          rw [if_pos rfl, if_pos ⟨k3, hm⟩, q2]
          show (T.P n).w - 1 ≤ _ ∧ _ ≤ (T.P n).w - 1 + 1
          omega
        · rw [if_neg e, if_neg (by rw [hm]; omega)]; omega
      · rw [ep]
        by_cases e : n = m
        · subst e
          rw [if_pos rfl, if_pos ⟨k3, hm⟩, q2]
          show (T.P n).w - 1 + 1 = _
          omega
        · rw [if_neg e, if_neg (by rw [hm]; omega)]; omega
      · rw [ep]; split
        · refine ⟨?_, q4⟩
          rcases q3 with q3 | q3
          · rw [q3]; exact (H.pq m).1
          · rw [q3]; exact Nat.zero_le _
        · exact ⟨(H.pq n).1, (H.pq n).2.2⟩
      · rw [ep, if_neg (by omega)]; exact H.po n hn
    · rw [if_pos (by simp)]
      refine H.less i h1 hi h0 H.F rfl (fun n => ?_) (fun n => ?_) (fun n => ?_) (fun hf n => ?_) (fun n => ⟨(H.pq n).1, (H.pq n).2.2⟩) H.po
      · rw [if_neg (n1 n)]; omega
      · rw [if_neg (n2 n)]; omega
      · split <;> omega
      · rw [hf] at hkp; cases hkp

theorem TOk.drop {T : Ft} (H : TOk T) (n : Int) : TOk (T.drop n).1 := by
  unfold Ft.drop
  split
  · exact H
  rename_i hh
  obtain ⟨i, rfl, h1, hi, h0⟩ := Ft.there_lt (by simpa using hh)
  rw [Int.toNat_natCast]
  split
  · rename_i e
    exact H.turn H.F (SH.refl _) (PS.refl _) i h1 hi h0 _ rfl rfl (by have := H.h i; show 1 ≤ (T.O i).h - 1 ∧ (T.O i).h - 1 ≤ 1000; omega) (H.off i)
  split
  · rename_i e k1
    obtain ⟨m, hm⟩ := H.of i
    have hc := cF_mem hi h0 m hm
    rw [k1] at hc
    have n2 : ∀ n : Nat, ¬ ((T.O i).k = 2 ∧ (T.O i).of = (n : Int)) := fun n => by omega
    have n3 : ∀ n : Nat, ¬ ((T.O i).k = 3 ∧ (T.O i).of = (n : Int)) := fun n => by omega
    have hp : 0 < (T.F.P m).h := by rw [H.hc m]; omega
    obtain ⟨_, d2⟩ := drop_h H.F hp
    rw [hm]
    refine H.less i h1 hi h0 (H.F.drop _) (drop_d _ _) (fun n => ?_) (fun n => ?_) (fun n => ?_) (fun _ n => ?_) (fun n => ⟨(H.pq n).1, (H.pq n).2.2⟩) H.po
    · rw [d2]
      by_cases e : n = m
      · subst e
        rw [if_pos rfl, if_pos ⟨k1, hm⟩]; omega
      · rw [if_neg e, if_neg (by rw [hm]; omega)]; omega
    · rw [if_neg (n2 n)]; omega
    · rw [if_neg (n3 n)]; omega
    · rw [if_neg (n3 n)]; omega
  · rename_i e k1
    exact (H.drop_end i h1 hi h0 (by rcases H.k i h0 with k | k | k; exact absurd k k1; exact .inl k; exact .inr k)).2

theorem Ft.nameF_ok {F : Fs} (H : FOk F) (c : Int) (l m : List UInt8) : FOk (Ft.nameF F c l m).1 ∧ SH F (Ft.nameF F c l m).1 := by
  unfold Ft.nameF
  split
  · exact ⟨H.unlink l, SH.unlink H l⟩
  split
  · exact ⟨H.make l 2, SH.make H l 2⟩
  split
  · exact ⟨H.rmdir l, SH.rmdir H l⟩
  split
  · exact ⟨H.link l m, SH.link l m⟩
  split
  · exact ⟨H.rename l m, SH.rename H l m⟩
  · exact ⟨H, SH.refl F⟩
theorem TOk.name {T : Ft} (H : TOk T) (c : Int) (l m : List UInt8) : TOk (T.name c l m).1 := by
  obtain ⟨a, b⟩ := Ft.nameF_ok H.F c l m
  exact H.below a b (PS.refl _)
theorem TOk.trunc {T : Ft} (H : TOk T) (l : List UInt8) (z : Int) : TOk (T.trunc l z).1 := by
  unfold Ft.trunc
  split
  · exact H
  · exact H.below (H.F.resize _ _) (SH.resize _ _ _) (PS.refl _)

theorem TOk.new (d : Int) : TOk (newT d) := by
  have hP : ∀ i, ((rootF d).P i).h = 0 := fun i => by
    show (if i = 1 then Fn.nu 2 else Fn.no).h = 0
    split <;> rfl
  have hc : ∀ k n, cF (fun _ => noFl) k n = 0 := fun k n => by
    unfold cF
    rw [List.countP_eq_zero]
    intro i _
    simp [noFl]
  refine ⟨rootF_ok d, fun _ _ => rfl, fun _ _ => rfl, fun _ => by show (0 : Int) ≤ 0 ∧ (0 : Int) ≤ 1000; omega, fun i h => absurd rfl h, fun _ => by show (0 : Int) ≤ 0 ∧ (0 : Int) ≤ 1048576; omega, fun _ => ⟨0, rfl⟩, fun n => ?_, fun n => ?_, fun n => ?_, fun _ n => ?_, fun n => ⟨Nat.zero_le _, Nat.zero_le _, rfl⟩, fun _ _ => rfl⟩
  · show ((rootF d).P n).h = ((cF (fun _ => noFl) 1 n : Nat) : Int)
    rw [hc, hP]; rfl
  · show 0 = cF (fun _ => noFl) 2 n
    rw [hc]
  · show cF (fun _ => noFl) 3 n ≤ 0
    rw [hc]; exact Nat.le_refl _
  · show 0 = cF (fun _ => noFl) 3 n
    rw [hc]

end Go.Proofs.YtoknhcjneliboaaGreat

/- The document's open files as they lie: one block of three cells, one of 55, its file system, its pipes. -/
namespace Go.Proofs.YtoknhcjneliboaaGreat
open Go.RowKit Go.ChangeMaps Go.MapKept
set_option linter.unusedVariables false
set_option maxRecDepth 20000

/-- The document's file system, in blocks D. -/
def Nf (w : World) (x : Nat) (F : Fs) (D : Nat → Prop) : Prop := ∃ g u V, Rf w x g u V F ∧ ∀ b, RfFoot x g u V b → D b
theorem Nf.upd {U : Nat → Prop} {w w' : World} {x : Nat} {F : Fs} {D : Nat → Prop} (h : Nf w x F D) (q : Upd U w w') (hU : ∀ b, b < w.heap.size → D b → ¬ U b) : Nf w' x F D := by
  obtain ⟨g, u, V, h1, h2⟩ := h
  exact ⟨g, u, V, h1.upd q (fun b hb => hU b (h1.foot_lt b hb) (h2 b hb)), h2⟩
theorem Nf.mono {w : World} {x : Nat} {F : Fs} {D D' : Nat → Prop} (h : Nf w x F D) (k : ∀ b, b < w.heap.size → D b → D' b) : Nf w x F D' := by
  obtain ⟨g, u, V, h1, h2⟩ := h
  exact ⟨g, u, V, h1, fun b hb => k b (h1.foot_lt b hb) (h2 b hb)⟩
def NfTo (w : World) (x : Nat) (F : Fs) (D : Nat → Prop) (w' : World) : Prop := Nf w' x F (fun b => D b ∨ w.heap.size ≤ b) ∧ Upd D w w'
theorem NfTo.of {w w' : World} {x g u : Nat} {V : Nat → Value} {F : Fs} {D : Nat → Prop} (hD : ∀ b, RfFoot x g u V b → D b) (k : RfTo w x g u V F w') : NfTo w x F D w' := by
  obtain ⟨V', a, b, c⟩ := k
  exact ⟨⟨g, u, V', a, fun z hz => (c z hz).imp (hD z) id⟩, b.mono (fun z _ hz => hD z hz)⟩

/-- The document's pipes, in blocks D. -/
def PdFoot (q g : Nat) (A : Nat → Option Addr × Nat) (P : Nat → Pi.Pp) (b : Nat) : Prop := b = q ∨ b = g ∨ ∃ i, i < 5 ∧ (Pi.rsl A P i).ownBlock = some b
def Pd (w : World) (q : Nat) (d : Int) (P : Nat → Pi.Pp) (D : Nat → Prop) : Prop := ∃ B g A, Pi.Rt B w q g d A P ∧ ∀ b, PdFoot q g A P b → D b
theorem PdFoot.lt {B : Nat} {w : World} {q g : Nat} {d : Int} {A : Nat → Option Addr × Nat} {P : Nat → Pi.Pp} (h : Pi.Rt B w q g d A P) (b : Nat) (hb : PdFoot q g A P b) : b < w.heap.size := by
  rcases hb with rfl | rfl | ⟨i, hi, e⟩
  · exact h.qlt
  · exact h.glt
  · exact ((h.own i hi).lt b e).2
theorem Pd.upd {U : Nat → Prop} {w w' : World} {q : Nat} {d : Int} {P : Nat → Pi.Pp} {D : Nat → Prop} (h : Pd w q d P D) (u : Upd U w w') (hU : ∀ b, b < w.heap.size → D b → ¬ U b) : Pd w' q d P D := by
  obtain ⟨B, g, A, h1, h2⟩ := h
  have k : ∀ b, PdFoot q g A P b → ¬ U b := fun b hb => hU b (PdFoot.lt h1 b hb) (h2 b hb)
  exact ⟨B, g, A, h1.upd u (k q (.inl rfl)) (k g (.inr (.inl rfl))) (fun i hi b e => k b (.inr (.inr ⟨i, hi, e⟩))), h2⟩
theorem Pd.mono {w : World} {q : Nat} {d : Int} {P : Nat → Pi.Pp} {D D' : Nat → Prop} (h : Pd w q d P D) (k : ∀ b, b < w.heap.size → D b → D' b) : Pd w q d P D' := by
  obtain ⟨B, g, A, h1, h2⟩ := h
  exact ⟨B, g, A, h1, fun b hb => k b (PdFoot.lt h1 b hb) (h2 b hb)⟩
def PdTo (w : World) (q : Nat) (d : Int) (P : Nat → Pi.Pp) (D : Nat → Prop) (w' : World) : Prop := Pd w' q d P (fun b => D b ∨ w.heap.size ≤ b) ∧ Upd D w w'
theorem PdTo.own {B : Nat} {w w' : World} {q g : Nat} {d : Int} {A : Nat → Option Addr × Nat} {P P' : Nat → Pi.Pp} {D : Nat → Prop} (hD : ∀ b, PdFoot q g A P b → D b) (k : ∃ A', Pi.Rt B w' q g d A' P' ∧ Pi.OwnIn A P A' P') (u : Upd (· = g) w w') : PdTo w q d P' D w' := by
  obtain ⟨A', h1, h2⟩ := k
  refine ⟨⟨B, g, A', h1, fun b hb => ?_⟩, u.mono (fun b _ e => hD b (.inr (.inl e)))⟩
  rcases hb with e | e | ⟨i, hi, e⟩
  · exact .inl (hD b (.inl e))
  · exact .inl (hD b (.inr (.inl e)))
  · exact .inl (hD b (.inr (.inr ⟨i, hi, h2 i hi b e⟩)))
theorem PdTo.left {B : Nat} {w w' : World} {q g : Nat} {d : Int} {A : Nat → Option Addr × Nat} {P P' : Nat → Pi.Pp} {D : Nat → Prop} (hD : ∀ b, PdFoot q g A P b → D b) (k : Pi.Left B w w' q g d A P P') : PdTo w q d P' D w' := by
  obtain ⟨⟨A', h1, h2⟩, u⟩ := k
  refine ⟨⟨B, g, A', h1, fun b hb => ?_⟩, u.mono (fun b _ e => hD b (.inr (.inl e)))⟩
  rcases hb with e | e | ⟨i, hi, e⟩
  · exact .inl (hD b (.inl e))
  · exact .inl (hD b (.inr (.inl e)))
  · exact (h2 i hi b e).imp (fun h => hD b (.inr (.inr ⟨i, hi, h⟩))) id

/-- The files' cells. -/
structure Gls (C : List Value) (O : Nat → Fl) : Prop where
  len : C.length = 55
  at_ : ∀ i, i < 11 → ∀ j, j < 5 → C[i * 5 + j]? = (flC (O i))[j]?
def Gf (w : World) (g : Nat) (O : Nat → Fl) : Prop := ∃ C, w.heap[g]? = some (.cells (List.toArray C) 124 (0, 0)) ∧ Gls C O
section
variable {w w' : World} {g : Nat} {O : Nat → Fl}
theorem cell_g {w : World} {p j : Nat} {C : List Value} {v : Value} (h : w.heap[p]? = some (.cells C.toArray 124 (0, 0))) (hc : C[j]? = some v) : w.cell? ⟨p, j, none⟩ = some v := by
  rw [cell_of_row w p j _ 124 (0, 0) h]; simpa using hc
theorem Gf.lt (h : Gf w g O) : g < w.heap.size := by obtain ⟨C, h, _⟩ := h; exact (Array.getElem?_eq_some_iff.1 h).1
theorem Gf.upd {U : Nat → Prop} (h : Gf w g O) (u : Upd U w w') (hU : ¬ U g) : Gf w' g O := by obtain ⟨C, h, hc⟩ := h; exact ⟨C, u.heap h hU, hc⟩
theorem Gf.c0 (h : Gf w g O) (i : Nat) (hi : i < 11) : w.cell? ⟨g, i * 5, none⟩ = some (.int .i64 (O i).k) := by obtain ⟨C, h, hc⟩ := h; exact cell_g h (hc.at_ i hi 0 (by omega))
theorem Gf.c1 (h : Gf w g O) (i : Nat) (hi : i < 11) : w.cell? ⟨g, i * 5 + 1, none⟩ = some (.int .i64 (O i).of) := by obtain ⟨C, h, hc⟩ := h; exact cell_g h (hc.at_ i hi 1 (by omega))
theorem Gf.c2 (h : Gf w g O) (i : Nat) (hi : i < 11) : w.cell? ⟨g, i * 5 + 2, none⟩ = some (.int .i64 (O i).off) := by obtain ⟨C, h, hc⟩ := h; exact cell_g h (hc.at_ i hi 2 (by omega))
theorem Gf.c3 (h : Gf w g O) (i : Nat) (hi : i < 11) : w.cell? ⟨g, i * 5 + 3, none⟩ = some (.int .i64 (O i).fl) := by obtain ⟨C, h, hc⟩ := h; exact cell_g h (hc.at_ i hi 3 (by omega))
theorem Gf.c4 (h : Gf w g O) (i : Nat) (hi : i < 11) : w.cell? ⟨g, i * 5 + 4, none⟩ = some (.int .i64 (O i).h) := by obtain ⟨C, h, hc⟩ := h; exact cell_g h (hc.at_ i hi 4 (by omega))
theorem Gf.fz (h : Gf w g O) (j : Nat) : w.frozen? ⟨g, j, none⟩ = false := by obtain ⟨C, h, hc⟩ := h; simp [World.frozen?, h]
theorem Gf.th (h : Gf w g O) (i : Nat) (hi : i < 11) : w.there g (i * 5) 5 := by obtain ⟨C, h, hc⟩ := h; exact there_of_block h _ _ (by rw [hc.len]; omega)
theorem Gls.put {C C' : List Value} {O : Nat → Fl} (h : Gls C O) (i : Nat) (hi : i < 11) (x : Fl) (hl : C'.length = 55)
    (out : ∀ j, j < i * 5 ∨ i * 5 + 5 ≤ j → C'[j]? = C[j]?) (inn : ∀ j, j < 5 → C'[i * 5 + j]? = (flC x)[j]?) : Gls C' (updF O i x) := by
  refine ⟨hl, ?_⟩
  intro k hk j hj
  by_cases e : k = i
  · subst e; rw [updF_same]; exact inn j hj
  · rw [updF_ne _ _ _ _ e, out _ (by omega)]; exact h.at_ k hk j hj
theorem Gf.put (h : Gf w g O) (i : Nat) (hi : i < 11) (x : Fl) : Gf (w.setCells g (i * 5) (flC x)) g (updF O i x) := by
  obtain ⟨C, hb, hc⟩ := h
  have hl := hc.len
  have hs : i * 5 + (flC x).length ≤ C.length := by rw [hl]; simp [flC]; omega
  exact ⟨_, heap_setCells g 124 (flC x) _ w C hb hs, hc.put i hi x (by rw [length_splice _ _ _ hs, hl]) (fun j hj => getElem?_splice_out _ _ _ _ hs (by simpa [flC] using hj)) (fun j hj => getElem?_splice_in C (flC x) (i * 5) j hs hj)⟩
theorem Gf.one (h : Gf w g O) (i : Nat) (hi : i < 11) (k : Nat) (hk : k < 5) (v : Value) (x : Fl) (hx : (flC x)[k]? = some v) (hy : ∀ j, j < 5 → j ≠ k → (flC x)[j]? = (flC (O i))[j]?) : Gf (w.setCell ⟨g, i * 5 + k, none⟩ v) g (updF O i x) := by
  obtain ⟨C, hb, hc⟩ := h
  have hl := hc.len
  refine ⟨C.set (i * 5 + k) v, by rw [heap_setCell_same w g _ C.toArray _ _ hb]; simp, hc.put i hi _ (by simp [hl]) (fun j hj => by rw [List.getElem?_set_ne (by omega)]) (fun j hj => ?_)⟩
  by_cases e : j = k
  · subst e; rw [List.getElem?_set_self (by omega), hx]
  · rw [List.getElem?_set_ne (by omega), hc.at_ i hi j hj, hy j hj e]
theorem Gf.offTo (h : Gf w g O) (i : Nat) (hi : i < 11) (v : Int) : Gf (w.setCell ⟨g, i * 5 + 2, none⟩ (.int .i64 v)) g (updF O i { O i with off := v }) :=
  h.one i hi 2 (by omega) _ _ rfl (fun j hj hk => by obtain rfl | rfl | rfl | rfl : j = 0 ∨ j = 1 ∨ j = 3 ∨ j = 4 := by omega
                                                     all_goals rfl)
theorem Gf.heldTo (h : Gf w g O) (i : Nat) (hi : i < 11) (v : Int) : Gf (w.setCell ⟨g, i * 5 + 4, none⟩ (.int .i64 v)) g (updF O i { O i with h := v }) :=
  h.one i hi 4 (by omega) _ _ rfl (fun j hj hk => by obtain rfl | rfl | rfl | rfl : j = 0 ∨ j = 1 ∨ j = 2 ∨ j = 3 := by omega
                                                     all_goals rfl)
end

/-- The document's table: x, its files g, its system s and pipes q, in blocks Dn and Dp. -/
structure Rs (w : World) (x g s q : Nat) (Dn Dp : Nat → Prop) (T : Ft) : Prop where
  hx : w.heap[x]? = some (.cells #[.slice (some ⟨g, 0, none⟩) 11 11, .pointer (some ⟨s, 0, none⟩), .pointer (some ⟨q, 0, none⟩)] 68 (0, 0))
  gf : Gf w g T.O
  nf : Nf w s T.F Dn
  pd : Pd w q T.F.d T.P Dp
  ln : ∀ b, Dn b → b < w.heap.size
  lp : ∀ b, Dp b → b < w.heap.size
  dj : ∀ b, Dn b → ¬ Dp b
  xg : x ≠ g
  xn : ¬ Dn x
  xp : ¬ Dp x
  gn : ¬ Dn g
  gp : ¬ Dp g
def RFoot (x g : Nat) (Dn Dp : Nat → Prop) (b : Nat) : Prop := b = x ∨ b = g ∨ Dn b ∨ Dp b
section
variable {w w' : World} {x g s q : Nat} {Dn Dp : Nat → Prop} {T : Ft}
theorem Rs.xlt (h : Rs w x g s q Dn Dp T) : x < w.heap.size := (Array.getElem?_eq_some_iff.1 h.hx).1
theorem Rs.cl (h : Rs w x g s q Dn Dp T) : w.cell? ⟨x, 0, none⟩ = some (.slice (some ⟨g, 0, none⟩) 11 11) := by rw [cell_of_row w x 0 _ _ _ h.hx]; rfl
theorem Rs.cs (h : Rs w x g s q Dn Dp T) : w.cell? ⟨x, 1, none⟩ = some (.pointer (some ⟨s, 0, none⟩)) := by rw [cell_of_row w x 1 _ _ _ h.hx]; rfl
theorem Rs.cq (h : Rs w x g s q Dn Dp T) : w.cell? ⟨x, 2, none⟩ = some (.pointer (some ⟨q, 0, none⟩)) := by rw [cell_of_row w x 2 _ _ _ h.hx]; rfl
theorem Rs.upd {U : Nat → Prop} (h : Rs w x g s q Dn Dp T) (u : Upd U w w') (hU : ∀ b, b < w.heap.size → RFoot x g Dn Dp b → ¬ U b) : Rs w' x g s q Dn Dp T :=
  ⟨u.heap h.hx (hU x h.xlt (.inl rfl)), h.gf.upd u (hU g h.gf.lt (.inr (.inl rfl))), h.nf.upd u (fun b hb hD => hU b hb (.inr (.inr (.inl hD)))), h.pd.upd u (fun b hb hD => hU b hb (.inr (.inr (.inr hD)))), fun b hb => Nat.lt_of_lt_of_le (h.ln b hb) u.size, fun b hb => Nat.lt_of_lt_of_le (h.lp b hb) u.size, h.dj, h.xg, h.xn, h.xp, h.gn, h.gp⟩
theorem Rs.grow (h : Rs w x g s q Dn Dp T) (u : Below w.heap.size w w') : Rs w' x g s q Dn Dp T := h.upd (Upd.of_below (F := fun _ => False) u) (fun _ _ _ h => h)
theorem Rs.drew (h : Rs w x g s q Dn Dp T) : Rs w.drew x g s q Dn Dp T := h.grow (Below.refl _ _).drew
theorem Rs.sys {F' : Fs} (h : Rs w x g s q Dn Dp T) (k : NfTo w s F' Dn w') (hd : F'.d = T.F.d) : Rs w' x g s q (fun b => (Dn b ∨ w.heap.size ≤ b) ∧ b < w'.heap.size) Dp { T with F := F' } := by
  obtain ⟨k1, k2⟩ := k
  have l1 := h.xlt
  have l2 := h.gf.lt
  refine ⟨k2.heap h.hx h.xn, h.gf.upd k2 h.gn, k1.mono (fun b hb hD => ⟨hD, hb⟩), ?_, fun b hb => hb.2, fun b hb => Nat.lt_of_lt_of_le (h.lp b hb) k2.size, fun b hb hp => ?_, h.xg, fun e => ?_, h.xp, fun e => ?_, h.gp⟩
  · show Pd w' q F'.d T.P Dp
    rw [hd]
    exact h.pd.upd k2 (fun b hb hD hn => h.dj b hn hD)
  · have := h.lp b hp
    rcases hb.1 with e | e
    · exact h.dj b e hp
    · omega
  · rcases e.1 with e | e
    · exact h.xn e
    · omega
  · rcases e.1 with e | e
    · exact h.gn e
    · omega
theorem Rs.pip {P' : Nat → Pi.Pp} (h : Rs w x g s q Dn Dp T) (k : PdTo w q T.F.d P' Dp w') : Rs w' x g s q Dn (fun b => (Dp b ∨ w.heap.size ≤ b) ∧ b < w'.heap.size) { T with P := P' } := by
  obtain ⟨k1, k2⟩ := k
  have l1 := h.xlt
  have l2 := h.gf.lt
  refine ⟨k2.heap h.hx h.xp, h.gf.upd k2 h.gp, h.nf.upd k2 (fun b hb hD hp => h.dj b hD hp), k1.mono (fun b hb hD => ⟨hD, hb⟩), fun b hb => Nat.lt_of_lt_of_le (h.ln b hb) k2.size, fun b hb => hb.2, fun b hn hb => ?_, h.xg, h.xn, fun e => ?_, h.gn, fun e => ?_⟩
  · have := h.ln b hn
    rcases hb.1 with e | e
    · exact h.dj b hn e
    · omega
  · rcases e.1 with e | e
    · exact h.xp e
    · omega
  · rcases e.1 with e | e
    · exact h.gp e
    · omega
theorem Rs.fil {O' : Nat → Fl} (h : Rs w x g s q Dn Dp T) (k : Gf w' g O') (u : Upd (· = g) w w') : Rs w' x g s q Dn Dp { T with O := O' } :=
  ⟨u.heap h.hx h.xg, k, h.nf.upd u (fun b _ hD e => h.gn (e ▸ hD)), h.pd.upd u (fun b _ hD e => h.gp (e ▸ hD)), fun b hb => Nat.lt_of_lt_of_le (h.ln b hb) u.size, fun b hb => Nat.lt_of_lt_of_le (h.lp b hb) u.size, h.dj, h.xg, h.xn, h.xp, h.gn, h.gp⟩
end

/-- The document's open files, in blocks D. -/
def Td (w : World) (x : Nat) (T : Ft) (D : Nat → Prop) : Prop := ∃ g s q Dn Dp, Rs w x g s q Dn Dp T ∧ ∀ b, RFoot x g Dn Dp b → D b
theorem Td.mono {w : World} {x : Nat} {T : Ft} {D D' : Nat → Prop} (h : Td w x T D) (k : ∀ b, b < w.heap.size → D b → D' b) : Td w x T D' := by
  obtain ⟨g, s, q, Dn, Dp, h1, h2⟩ := h
  refine ⟨g, s, q, Dn, Dp, h1, fun b hb => k b ?_ (h2 b hb)⟩
  rcases hb with rfl | rfl | e | e
  · exact h1.xlt
  · exact h1.gf.lt
  · exact h1.ln b e
  · exact h1.lp b e
theorem Td.upd {w w' : World} {x : Nat} {T : Ft} {D U : Nat → Prop} (h : Td w x T D) (u : Upd U w w') (k : ∀ b, b < w.heap.size → D b → ¬ U b) : Td w' x T D := by
  obtain ⟨g, s, q, Dn, Dp, h1, h2⟩ := h
  exact ⟨g, s, q, Dn, Dp, h1.upd u (fun b hb hf => k b hb (h2 b hf)), h2⟩
theorem Td.grow {w w' : World} {x : Nat} {T : Ft} {D : Nat → Prop} (h : Td w x T D) (u : Below w.heap.size w w') : Td w' x T D := h.upd (Upd.of_below (F := fun _ => False) u) (fun _ _ _ h => h)
theorem Td.lt {w : World} {x : Nat} {T : Ft} {D : Nat → Prop} (h : Td w x T D) : x < w.heap.size := by
  obtain ⟨g, s, q, Dn, Dp, h1, h2⟩ := h; exact h1.xlt
def TdTo (w : World) (x : Nat) (T : Ft) (D : Nat → Prop) (w' : World) : Prop := Td w' x T (fun b => D b ∨ w.heap.size ≤ b) ∧ Upd D w w'
theorem TdTo.same {w w' : World} {x : Nat} {T : Ft} {D : Nat → Prop} (h : Td w x T D) (u : Below w.heap.size w w') : TdTo w x T D w' := ⟨(h.grow u).mono (fun _ _ h => .inl h), Upd.of_below u⟩
theorem TdTo.of {w0 w' : World} {x g s q : Nat} {Dn Dp Dn' Dp' D : Nat → Prop} {T : Ft} (h : Rs w' x g s q Dn' Dp' T) (hD : ∀ b, RFoot x g Dn Dp b → D b) (hn : ∀ b, Dn' b → Dn b ∨ w0.heap.size ≤ b) (hp : ∀ b, Dp' b → Dp b ∨ w0.heap.size ≤ b) (u : Upd (RFoot x g Dn Dp) w0 w') : TdTo w0 x T D w' :=
  ⟨⟨g, s, q, Dn', Dp', h, fun b hb => by
    rcases hb with e | e | e | e
    · exact .inl (hD b (.inl e))
    · exact .inl (hD b (.inr (.inl e)))
    · exact (hn b e).imp (fun e => hD b (.inr (.inr (.inl e)))) id
    · exact (hp b e).imp (fun e => hD b (.inr (.inr (.inr e)))) id⟩, u.mono (fun b _ hb => hD b hb)⟩
/-- The system alone turned; the pipes alone turned. -/
theorem TdTo.sys {w0 X w' : World} {x g s q : Nat} {Dn Dp D : Nat → Prop} {T : Ft} {F' : Fs} (h : Rs X x g s q Dn Dp T) (hX : Below w0.heap.size w0 X) (hD : ∀ b, RFoot x g Dn Dp b → D b) (k : NfTo X s F' Dn w') (hd : F'.d = T.F.d) : TdTo w0 x { T with F := F' } D w' :=
  TdTo.of (h.sys k hd) hD (fun b hb => hb.1.imp id (fun h => Nat.le_trans hX.size h)) (fun b hb => .inl hb) ((Upd.of_below hX).trans k.2 (fun b _ hb => .inr (.inr (.inl hb))))
theorem TdTo.pip {w0 X w' : World} {x g s q : Nat} {Dn Dp D : Nat → Prop} {T : Ft} {P' : Nat → Pi.Pp} (h : Rs X x g s q Dn Dp T) (hX : Below w0.heap.size w0 X) (hD : ∀ b, RFoot x g Dn Dp b → D b) (k : PdTo X q T.F.d P' Dp w') : TdTo w0 x { T with P := P' } D w' :=
  TdTo.of (h.pip k) hD (fun b hb => .inl hb) (fun b hb => hb.1.imp id (fun h => Nat.le_trans hX.size h)) ((Upd.of_below hX).trans k.2 (fun b _ hb => .inr (.inr (.inr hb))))
theorem TdTo.fil {w0 X w' : World} {x g s q : Nat} {Dn Dp D : Nat → Prop} {T : Ft} {O' : Nat → Fl} (h : Rs X x g s q Dn Dp T) (hX : Below w0.heap.size w0 X) (hD : ∀ b, RFoot x g Dn Dp b → D b) (k : Gf w' g O') (u : Upd (· = g) X w') : TdTo w0 x { T with O := O' } D w' :=
  TdTo.of (h.fil k u) hD (fun b hb => .inl hb) (fun b hb => .inl hb) ((Upd.of_below hX).trans u (fun b _ hb => .inr (.inl hb)))

end Go.Proofs.YtoknhcjneliboaaGreat

/- What there, free, node of the document's open files do. -/
namespace Go.Proofs.YtoknhcjneliboaaGreat
open Go.RowKit Go.ChangeMaps Go.MapKept
set_option linter.unusedVariables false
set_option maxRecDepth 20000

theorem TOk.k0 {T : Ft} (H : TOk T) (i : Nat) : (T.O i).k = 0 ↔ (T.O i).h = 0 := by
  constructor
  · intro e
    by_cases h : (T.O i).h = 0
    · exact h
    · have := H.k i h; omega
  · intro e
    rw [H.nn i e]; rfl

set_option maxHeartbeats 1000000 in
theorem r8there (w : World) (x g s q : Nat) (Dn Dp : Nat → Prop) (T : Ft) (H : Rs w x g s q Dn Dp T) (hT : TOk T) (n : Int) :
    Calls Tryz.prog 65 #[.pointer (some ⟨x, 0, none⟩), .int .i64 n] w fun e w' => e = .returned (.bool (T.there n)) ∧ w' = w := by
  by_cases h1 : n < 1
  · rw [show T.there n = false by unfold Ft.there; simp; omega]
    have h1' : ¬ (1 : Int) ≤ n := by omega
    clear H
    go_enter Tryz.func65, Tryz.ntmps65
    go_wp2_with fail
    go_ret
    exact ⟨rfl, rfl⟩
  have h1' : (1 : Int) ≤ n := by omega
  by_cases h2 : 10 < n
  · rw [show T.there n = false by unfold Ft.there; simp; omega]
    have h2' : ¬ n ≤ (10 : Int) := by omega
    clear H
    go_enter Tryz.func65, Tryz.ntmps65
    go_wp2_with fail
    go_ret
    exact ⟨rfl, rfl⟩
  have h2' : n ≤ (10 : Int) := by omega
  obtain ⟨i, rfl⟩ : ∃ i : Nat, n = (i : Int) := ⟨n.toNat, by omega⟩
  have hi : i < 11 := by omega
  have c0 := H.gf.c0 i hi
  have cl := H.cl
  have i1 : (0 : Int) ≤ (i : Int) := by omega
  have i2 : (i : Int) < 11 := by omega
  have hk := hT.k0 i
  by_cases hh : (T.O i).h = 0
  · rw [show T.there (i : Int) = false by unfold Ft.there; simp [hh]]
    rw [hk.2 hh] at c0
    clear H hh hk h1 h2
    go_enter Tryz.func65, Tryz.ntmps65
    go_wp2_with fail
    go_ret
    exact ⟨rfl, rfl⟩
  · rw [show T.there (i : Int) = true by unfold Ft.there; simp [hh]; omega]
    have hk' : ¬ (T.O i).k = 0 := fun e => hh (hk.1 e)
    generalize (T.O i).k = k at c0 hk'
    clear H hh hk h1 h2
    go_enter Tryz.func65, Tryz.ntmps65
    go_wp2_with fail
    go_ret
    refine ⟨?_, rfl⟩
    simp [hk']

theorem infoI9 : (Tryz.prog.info? 3).map (fun i => (i.zero, i.size, i.bytes)) = some (some (.int .i64 0), 1, 8) := by kernel_rfl

set_option maxHeartbeats 2000000 in
theorem r8free (w : World) (x g s q : Nat) (Dn Dp : Nat → Prop) (T : Ft) (H : Rs w x g s q Dn Dp T) (hT : TOk T) : Calls Tryz.prog 56 #[.pointer (some ⟨x, 0, none⟩)] w fun e w' => (∃ v, e = .returned v ∧ w'.ownsRow w.heap.size 3 1 v (ofL T.O 11).length ((ofL T.O 11).map fun (i : Nat) => Value.int .i64 (i : Int))) ∧ Below w.heap.size w w' := by
  obtain ⟨i0, hi0, hz0, hz1, hz2⟩ := info_parts infoI9
  have HH := hid H
  have HK := hid hT.k0
  obtain ⟨F, gF⟩ : ∃ F, F = T.O := ⟨_, rfl⟩
  rw [← gF] at HK ⊢
  have HC : Hid (∀ W, Below w.heap.size w W → W.cell? ⟨x, 0, none⟩ = some (.slice (some ⟨g, 0, none⟩) 11 11) ∧ ∀ j, j < 11 → W.cell? ⟨g, j * 5, none⟩ = some (.int .i64 (F j).k)) := by
    rw [gF]
    exact hid (fun W hW => ⟨(HH.out.grow hW).cl, fun j hj => (HH.out.grow hW).gf.c0 j hj⟩)
  clear H hT HH gF
  go_enter Tryz.func56, Tryz.ntmps56
  go_wp2_with fail
  go_loopw [3, 4] (fun v k wr => ∃ j : Nat, 1 ≤ j ∧ j ≤ 11 ∧ k = .int .i64 (j : Int) ∧ Hid (wr.ownsRow w.heap.size 3 1 v (ofL F j).length ((ofL F j).map fun (i : Nat) => Value.int .i64 (i : Int)) ∧ Below w.heap.size w wr)) (fun _ k _ => 11 - (intOf k).toNat)
  case atStart => exact ⟨1, by omega, by omega, rfl, hid ⟨World.ownsRow_nil _ _ _ _, Below.refl _ _⟩⟩
  case round =>
    obtain ⟨j, hj1, hj11, rfl, HQ⟩ := hrel
    by_cases e : j = 11
    · subst e
      go_wp2_with fail
      go_ret
      exact ⟨⟨_, rfl, HQ.out.1⟩, HQ.out.2⟩
    · have hj : j < 11 := by omega
      have hj2 : (j : Int) ≤ 10 := by omega
      have hj3 : (j : Int) < 11 := by omega
      have hj0 : (0 : Int) ≤ (j : Int) := by omega
      obtain ⟨cl, c0'⟩ := HC.out _ HQ.out.2
      have c0 := c0' j hj
      have hfl := ofL_le F j
      have hk := HK.out j
      clear e c0'
      by_cases h0 : (F j).h = 0
      · rw [hk.2 h0] at c0
        have HC : Hid (ofL F (j + 1) = ofL F j ++ [j]) := hid (by rw [ofL, if_pos ⟨hj1, h0⟩])
        have hsz := HQ.out.2.size
        clear h0 hk
        go_wp2_with (at_builtin; go_must (refine wpList_append_own _ rfl (.tmp 18) (.tmp 20) 44 rfl w.heap.size 3 i0 _ 1 8 Tryz.underlying44 hi0 hz0 hz1 hz2 rfl (by decide) _ (ofL F j).length ((ofL F j).map fun (i : Nat) => Value.int .i64 (i : Int)) rfl (HQ.out.1.alloc _) ⟨_, 0, none⟩ 1 1 [.int .i64 (j : Int)] rfl rfl (cell_one_new _ _ _) (by simp [Value.oneCell']) (by unfold maxLen; omega) (by omega) (by simp; omega) ?_))
        intro v' w6 hO6 hG6 hN6
        have hb6 : Below w.heap.size w w6 := by
          have u : Upd _ _ w6 := Upd.of_grown hG6
          refine (HQ.out.2.trans (((Below.refl _ _).alloc (Nat.le_refl _) _).mono hsz)).trans (u.below (by simp; omega) (fun k hk => ?_))
          exact (HQ.out.1.lt k hk.symm).1
        have HQ6 : Hid (w6.ownsRow w.heap.size 3 1 v' (ofL F (j + 1)).length ((ofL F (j + 1)).map fun (i : Nat) => Value.int .i64 (i : Int)) ∧ Below w.heap.size w w6) := by
          rw [HC.out]
          refine hid ⟨?_, hb6⟩
          simpa using hO6
        clear hO6 hG6 hN6 hb6
        go_wp2_with fail
        go_roundw
        case rel => exact ⟨j + 1, by omega, by omega, by go_num, HQ6⟩
        case measure => simp [intOf]; omega
      · have HC : Hid (ofL F (j + 1) = ofL F j) := hid (by rw [ofL, if_neg (fun e => h0 e.2)]; simp)
        have hk' : ¬ (F j).k = 0 := fun e => h0 (hk.1 e)
        generalize (F j).k = k at c0 hk'
        clear h0 hk
        go_wp2_with fail
        go_roundw
        case rel => exact ⟨j + 1, by omega, by omega, by go_num, by rw [HC.out]; exact HQ⟩
        case measure => simp [intOf]; omega

theorem ddfc_t {g b : Int} (h : dfc g b = true) : (bits BinOp.and IntKind.i64 g b == 0) = false ∧ (bits BinOp.and IntKind.i64 g b != 0) = true := by
  unfold dfc at h
  simp at h
  simp [h]
theorem ddfc_f {g b : Int} (h : dfc g b = false) : (bits BinOp.and IntKind.i64 g b == 0) = true ∧ (bits BinOp.and IntKind.i64 g b != 0) = false := by
  unfold dfc at h
  simp at h
  simp [h]

theorem Rs.find {w : World} {x g s q : Nat} {Dn Dp : Nat → Prop} {T : Ft} (H : Rs w x g s q Dn Dp T) (hF : FOk T.F) (l : ByteArray) (hs : l.size ≤ 1048576) :
    Calls Tryz.prog 82 #[.pointer (some ⟨s, 0, none⟩), .string l] w fun e w' => e = .returned (.tuple #[.int .i64 ((T.F.find (bl l)).1 : Int), .int .i64 (T.F.find (bl l)).2]) ∧ Below w.heap.size w w' := by
  obtain ⟨gN, uN, V, hR, hD⟩ := H.nf
  exact rfind_any s gN uN V T.F w hR hF l hs
theorem Rs.make {w : World} {x g s q : Nat} {Dn Dp : Nat → Prop} {T : Ft} (H : Rs w x g s q Dn Dp T) (hF : FOk T.F) (l : ByteArray) (hs : l.size ≤ 1048576) (k : Int) :
    Calls Tryz.prog 76 #[.pointer (some ⟨s, 0, none⟩), .string l, .int .i64 k] w fun e w' => e = .returned (.tuple #[.int .i64 ((T.F.make (bl l) k).2.1 : Int), .int .i64 (T.F.make (bl l) k).2.2]) ∧ NfTo w s (T.F.make (bl l) k).1 Dn w' := by
  obtain ⟨gN, uN, V, hR, hD⟩ := H.nf
  refine (rmake_any s gN uN V T.F w hR hF l hs k).mono ?_
  rintro e w' ⟨rfl, h⟩
  exact ⟨rfl, NfTo.of hD h⟩

/-- The system turns alone. -/
def RsP (w : World) (x g s q : Nat) (Dn Dp : Nat → Prop) (T : Ft) (w' : World) : Prop := ∃ Dm, Rs w' x g s q Dm Dp T ∧ (∀ b, Dm b → Dn b ∨ w.heap.size ≤ b) ∧ Upd Dn w w'
theorem RsP.same {w w' : World} {x g s q : Nat} {Dn Dp : Nat → Prop} {T : Ft} (H : Rs w x g s q Dn Dp T) (u : Below w.heap.size w w') : RsP w x g s q Dn Dp T w' := ⟨Dn, H.grow u, fun b hb => .inl hb, Upd.of_below u⟩
theorem RsP.of {w X w' : World} {x g s q : Nat} {Dn Dp : Nat → Prop} {T : Ft} {F' : Fs} (H : Rs X x g s q Dn Dp T) (hX : Below w.heap.size w X) (k : NfTo X s F' Dn w') (hd : F'.d = T.F.d) : RsP w x g s q Dn Dp { T with F := F' } w' :=
  ⟨_, H.sys k hd, fun b hb => hb.1.imp id (fun h => Nat.le_trans hX.size h), (Upd.of_below hX).trans k.2 (fun _ _ h => h)⟩
theorem RsP.grow {w w' w2 : World} {x g s q : Nat} {Dn Dp : Nat → Prop} {T : Ft} (h : RsP w x g s q Dn Dp T w') (u : Below w'.heap.size w' w2) : RsP w x g s q Dn Dp T w2 := by
  obtain ⟨Gm, h1, h2, h3⟩ := h
  exact ⟨Gm, h1.grow u, h2, h3.trans (Upd.of_below (F := Dn) u) (fun _ _ h => h)⟩
theorem RsP.to {w0 w w' : World} {x g s q : Nat} {Dn Dp D : Nat → Prop} {T : Ft} (h : RsP w x g s q Dn Dp T w') (hX : Below w0.heap.size w0 w) (hD : ∀ b, RFoot x g Dn Dp b → D b) : TdTo w0 x T D w' := by
  obtain ⟨Dm, h1, h2, h3⟩ := h
  exact TdTo.of h1 hD (fun b hb => (h2 b hb).imp id (fun h => Nat.le_trans hX.size h)) (fun b hb => .inl hb) ((Upd.of_below hX).trans h3 (fun b _ hb => .inr (.inr (.inl hb))))
theorem RsP.trans {w w3 w4 : World} {x g s q : Nat} {Dn Dm Dp : Nat → Prop} {T2 : Ft} (hm : ∀ b, Dm b → Dn b ∨ w.heap.size ≤ b) (hu : Upd Dn w w3) (k : RsP w3 x g s q Dm Dp T2 w4) : RsP w x g s q Dn Dp T2 w4 := by
  obtain ⟨Gk, h1, h2, h3⟩ := k
  refine ⟨Gk, h1, fun b hb => ?_, hu.trans h3 (fun b hb hG => ?_)⟩
  · rcases h2 b hb with h | h
    · exact hm b h
    · exact .inr (Nat.le_trans hu.size h)
  · rcases hm b hG with h | h
    · exact h
    · omega

set_option maxHeartbeats 2000000 in
theorem r8node (w : World) (x g s q : Nat) (Dn Dp : Nat → Prop) (T : Ft) (H : Rs w x g s q Dn Dp T) (hF : FOk T.F) (l : ByteArray) (hs : l.size ≤ 1048576) (f : Int) :
    Calls Tryz.prog 57 #[.pointer (some ⟨x, 0, none⟩), .string l, .int .i64 f] w fun e w' => e = .returned (.tuple #[.int .i64 ((Ft.node T.F (bl l) f).2.1 : Int), .int .i64 (Ft.node T.F (bl l) f).2.2]) ∧ RsP w x g s q Dn Dp { T with F := (Ft.node T.F (bl l) f).1 } w' := by
  have k1 := hid (H.find hF l hs)
  have cs := H.cs
  have HS := hid (fun X (hX : Below w.heap.size w X) => RsP.same H hX)
  have HC := hid (fun X (hX : Below w.heap.size w X) => (H.grow hX).cs)
  have k2 : Hid (∀ X, Below w.heap.size w X → Calls Tryz.prog 76 #[.pointer (some ⟨s, 0, none⟩), .string l, .int .i64 1] X fun e w' => e = .returned (.tuple #[.int .i64 ((T.F.make (bl l) 1).2.1 : Int), .int .i64 (T.F.make (bl l) 1).2.2]) ∧ Hid (RsP w x g s q Dn Dp { T with F := (T.F.make (bl l) 1).1 } w')) := by
    refine hid (fun X hX => ((H.grow hX).make hF l hs 1).mono ?_)
    rintro e w' ⟨rfl, hk⟩
    exact ⟨rfl, hid (RsP.of (H.grow hX) hX hk (SH.make hF _ _).1)⟩
  unfold Ft.node
  clear H hF
  generalize T.F.find (bl l) = r at k1 ⊢
  obtain ⟨n, E⟩ := r
  dsimp only at k1 ⊢
  cases h8 : dfc f 8
  · rw [if_pos rfl]
    obtain ⟨b1, b2⟩ := ddfc_f h8
    clear k2 h8
    by_cases e2 : E = 2
    · subst e2
      go_enter Tryz.func57, Tryz.ntmps57
      go_wp2_with fail
      refine k1.out.mono ?_
      rintro e w1 ⟨rfl, hb⟩
      have HQ := hid (HS.out w1 hb)
      clear k1 hb HS HC
      go_wp2_with fail
      go_ret2
      exact ⟨rfl, HQ.out⟩
    by_cases e0 : E = 0
    · subst e0
      go_enter Tryz.func57, Tryz.ntmps57
      go_wp2_with fail
      refine k1.out.mono ?_
      rintro e w1 ⟨rfl, hb⟩
      have HQ := hid (HS.out w1 hb)
      clear k1 hb HS HC
      go_wp2_with fail
      go_ret2
      exact ⟨rfl, HQ.out⟩
    go_enter Tryz.func57, Tryz.ntmps57
    go_wp2_with fail
    refine k1.out.mono ?_
    rintro e w1 ⟨rfl, hb⟩
    have HQ := hid (HS.out w1 hb)
    clear k1 hb HS HC
    go_wp2_with fail
    go_ret2
    exact ⟨rfl, HQ.out⟩
  rw [if_neg (by simp)]
  obtain ⟨b1, b2⟩ := ddfc_t h8
  clear h8
  by_cases h2 : E = 2
  · subst h2
    rw [if_pos rfl]
    generalize T.F.make (bl l) 1 = r at k2 ⊢
    obtain ⟨F', m, E⟩ := r
    dsimp only at k2 ⊢
    go_enter Tryz.func57, Tryz.ntmps57
    go_wp2_with fail
    refine k1.out.mono ?_
    rintro e w1 ⟨rfl, hb⟩
    have K2 := hid (k2.out w1 hb)
    have cs1 := HC.out w1 hb
    clear k1 k2 hb HS HC
    go_wp2_with fail
    refine K2.out.mono ?_
    rintro e w2 ⟨rfl, HQ⟩
    clear K2
    go_wp2_with fail
    go_ret2
    exact ⟨rfl, HQ.out⟩
  rw [if_neg h2]
  clear k2
  by_cases h3 : E = 0 ∧ dfc f 16 = true
  · rw [if_pos h3]
    obtain ⟨rfl, h16⟩ := h3
    obtain ⟨b3, b4⟩ := ddfc_t h16
    clear h16
    go_enter Tryz.func57, Tryz.ntmps57
    go_wp2_with fail
    refine k1.out.mono ?_
    rintro e w1 ⟨rfl, hb⟩
    have HQ := hid (HS.out w1 hb)
    clear k1 hb HS HC
    go_wp2_with fail
    go_ret2
    exact ⟨rfl, HQ.out⟩
  rw [if_neg h3]
  by_cases h0 : E = 0
  · subst h0
    have h16 : dfc f 16 = false := by simpa using h3
    obtain ⟨b3, b4⟩ := ddfc_f h16
    clear h16 h3
    go_enter Tryz.func57, Tryz.ntmps57
    go_wp2_with fail
    refine k1.out.mono ?_
    rintro e w1 ⟨rfl, hb⟩
    have HQ := hid (HS.out w1 hb)
    clear k1 hb HS HC
    go_wp2_with fail
    go_ret2
    exact ⟨rfl, HQ.out⟩
  · clear h3
    go_enter Tryz.func57, Tryz.ntmps57
    go_wp2_with fail
    refine k1.out.mono ?_
    rintro e w1 ⟨rfl, hb⟩
    have HQ := hid (HS.out w1 hb)
    clear k1 hb HS HC
    go_wp2_with fail
    go_ret2
    exact ⟨rfl, HQ.out⟩

end Go.Proofs.YtoknhcjneliboaaGreat

/- The program's open files as they lie, over its file system and its pipes. -/
namespace Go.Proofs.YtoknhcjneliboaaGreat
open Go.RowKit Go.ChangeMaps Go.MapKept
set_option linter.unusedVariables false
set_option maxRecDepth 20000

/-- What is left of an open file that nobody holds. -/
def clF (x : Fl) : Fl := if x.h = 0 then noFl else x
theorem clF_h (x : Fl) : (clF x).h = x.h := by
  unfold clF; split
  · rename_i e; rw [e]; rfl
  · rfl
theorem clF_yes {x : Fl} (h : (clF x).h ≠ 0) : clF x = x := by
  rw [clF_h] at h
  unfold clF; rw [if_neg h]
theorem clF_of {x : Fl} (h : x.h ≠ 0) : clF x = x := by unfold clF; rw [if_neg h]

/-- Table t over system p and pipes q; what stands in its cells; the system's blocks. -/
structure Ts (w : World) (t p q : Nat) (O0 : Nat → Fl) (Gn : Nat → Prop) (T : Ft) : Prop where
  tf : Tf w t p q O0
  o : ∀ i, i < 11 → T.O i = clF (O0 i)
  pf : Pf w p T.F Gn
  tc : Pi.Tc w q T.kp T.P
  tq : t ≠ q
  gt : ¬ Gn t
  gq : ¬ Gn q
section
variable {w w' : World} {t p q : Nat} {O0 : Nat → Fl} {Gn : Nat → Prop} {T : Ft}
def Foot (t q : Nat) (Gn : Nat → Prop) (b : Nat) : Prop := b = t ∨ b = q ∨ Gn b
theorem Ts.upd {U : Nat → Prop} (h : Ts w t p q O0 Gn T) (u : Upd U w w') (hU : ∀ b, b < w.heap.size → Foot t q Gn b → ¬ U b) : Ts w' t p q O0 Gn T :=
  ⟨h.tf.upd u (hU t h.tf.lt (.inl rfl)), h.o, h.pf.upd u (fun b hb hG => hU b hb (.inr (.inr hG))), h.tc.upd u (hU q h.tc.lt (.inr (.inl rfl))), h.tq, h.gt, h.gq⟩
theorem Ts.grow (h : Ts w t p q O0 Gn T) (u : Below w.heap.size w w') : Ts w' t p q O0 Gn T := h.upd (Upd.of_below (F := fun _ => False) u) (fun _ _ _ h => h)
theorem Ts.hp (h : Ts w t p q O0 Gn T) (e : w'.heap = w.heap) : Ts w' t p q O0 Gn T := by
  obtain ⟨C, hb, hc⟩ := h.tf
  exact ⟨⟨C, by rw [e]; exact hb, hc⟩, h.o, h.pf.hp e, h.tc.hp e, h.tq, h.gt, h.gq⟩
theorem Ts.h0 (h : Ts w t p q O0 Gn T) (i : Nat) (hi : i < 11) : (O0 i).h = (T.O i).h := by rw [h.o i hi, clF_h]
theorem Ts.at (h : Ts w t p q O0 Gn T) (i : Nat) (hi : i < 11) (hh : (T.O i).h ≠ 0) : O0 i = T.O i := by
  rw [h.o i hi] at hh ⊢
  rw [clF_yes hh]
/-- The system turns. -/
theorem Ts.sys {F' : Fs} (h : Ts w t p q O0 Gn T) (k : PfTo w p F' Gn w') (hd : F'.d = T.F.d) : Ts w' t p q O0 (fun x => Gn x ∨ w.heap.size ≤ x) { T with F := F' } := by
  obtain ⟨k1, k2⟩ := k
  have l1 := h.tf.lt
  have l2 := h.tc.lt
  have e : Ft.kp { T with F := F' } = T.kp := by unfold Ft.kp; rw [hd]
  exact ⟨h.tf.upd k2 h.gt, h.o, k1, by rw [e]; exact h.tc.upd k2 h.gq, h.tq, fun e => by rcases e with e | e; exact h.gt e; omega, fun e => by rcases e with e | e; exact h.gq e; omega⟩
/-- The pipes turn. -/
theorem Ts.pip {P' : Nat → Pi.Pp} (h : Ts w t p q O0 Gn T) (k : Pi.Tc w' q T.kp P') (u : Upd (· = q) w w') : Ts w' t p q O0 Gn { T with P := P' } :=
  ⟨h.tf.upd u h.tq, h.o, h.pf.upd u (fun b _ hG e => h.gq (e ▸ hG)), k, h.tq, h.gt, h.gq⟩
/-- An open file turns. -/
theorem Ts.fil {x y : Fl} {i : Nat} (h : Ts w t p q O0 Gn T) (k : Tf w' t p q (updF O0 i y)) (hx : x = clF y) (u : Upd (· = t) w w') : Ts w' t p q (updF O0 i y) Gn { T with O := updF T.O i x } :=
  ⟨k, fun j hj => by
    show updF T.O i x j = _
    unfold updF
    split
    · exact hx
    · exact h.o j hj, h.pf.upd u (fun b _ hG e => h.gt (e ▸ hG)), h.tc.upd u (fun e => h.tq e.symm), h.tq, h.gt, h.gq⟩
end

theorem PfTo.ahead {w0 w w' : World} {p : Nat} {F : Fs} {G : Nat → Prop} (h : PfTo w p F G w') (u : Below w0.heap.size w0 w) : PfTo w0 p F G w' :=
  ⟨h.1.mono (fun x _ hx => by rcases hx with hx | hx; exact .inl hx; exact .inr (Nat.le_trans u.size hx)), (Upd.of_below u).trans h.2 (fun _ _ h => h)⟩

/-- The program's open files, in blocks G. -/
def Tp (w : World) (t : Nat) (T : Ft) (G : Nat → Prop) : Prop := ∃ p q O0 Gn, Ts w t p q O0 Gn T ∧ ∀ b, Foot t q Gn b → G b
theorem Tp.mono {w : World} {t : Nat} {T : Ft} {G G' : Nat → Prop} (h : Tp w t T G) (k : ∀ x, x < w.heap.size → G x → G' x) : Tp w t T G' := by
  obtain ⟨p, q, O0, Gn, h1, h2⟩ := h
  have l1 := h1.tf.lt
  have l2 := h1.tc.lt
  refine ⟨p, q, O0, fun b => Gn b ∧ b < w.heap.size, ⟨h1.tf, h1.o, h1.pf.mono (fun x hx hG => ⟨hG, hx⟩), h1.tc, h1.tq, fun e => h1.gt e.1, fun e => h1.gq e.1⟩, fun b hb => ?_⟩
  rcases hb with rfl | rfl | hb
  · exact k _ l1 (h2 _ (.inl rfl))
  · exact k _ l2 (h2 _ (.inr (.inl rfl)))
  · exact k _ hb.2 (h2 _ (.inr (.inr hb.1)))
theorem Tp.upd {w w' : World} {t : Nat} {T : Ft} {G U : Nat → Prop} (h : Tp w t T G) (u : Upd U w w') (k : ∀ x, x < w.heap.size → G x → ¬ U x) : Tp w' t T G := by
  obtain ⟨p, q, O0, Gn, h1, h2⟩ := h
  exact ⟨p, q, O0, Gn, h1.upd u (fun b hb hf => k b hb (h2 b hf)), h2⟩
theorem Tp.grow {w w' : World} {t : Nat} {T : Ft} {G : Nat → Prop} (h : Tp w t T G) (u : Below w.heap.size w w') : Tp w' t T G := h.upd (Upd.of_below (F := fun _ => False) u) (fun _ _ _ h => h)
theorem Tp.lt {w : World} {t : Nat} {T : Ft} {G : Nat → Prop} (h : Tp w t T G) : t < w.heap.size := by
  obtain ⟨p, q, O0, Gn, h1, h2⟩ := h; exact h1.tf.lt
def TpTo (w : World) (t : Nat) (T : Ft) (G : Nat → Prop) (w' : World) : Prop := Tp w' t T (fun x => G x ∨ w.heap.size ≤ x) ∧ Upd G w w'
theorem TpTo.same {w w' : World} {t : Nat} {T : Ft} {G : Nat → Prop} (h : Tp w t T G) (u : Below w.heap.size w w') : TpTo w t T G w' := ⟨(h.grow u).mono (fun _ _ h => .inl h), Upd.of_below u⟩
/-- What a call leaves, told of its parts: w0 is the world ahead of it. -/
theorem TpTo.of {w0 w' : World} {t q p : Nat} {O0 : Nat → Fl} {Gn Gm G : Nat → Prop} {T : Ft} (h : Ts w' t p q O0 Gm T) (hG : ∀ b, Foot t q Gn b → G b) (hm : ∀ b, Gm b → Gn b ∨ w0.heap.size ≤ b) (u : Upd (Foot t q Gn) w0 w') : TpTo w0 t T G w' :=
  ⟨⟨p, q, O0, Gm, h, fun b hb => by
    rcases hb with e | e | e
    · exact .inl (hG b (.inl e))
    · exact .inl (hG b (.inr (.inl e)))
    · rcases hm b e with e | e
      · exact .inl (hG b (.inr (.inr e)))
      · exact .inr e⟩, u.mono (fun b _ hb => hG b hb)⟩

end Go.Proofs.YtoknhcjneliboaaGreat

/- What usable, file, free, has, opened, bodyOf do (program). -/
namespace Go.Proofs.YtoknhcjneliboaaGreat
open Go.RowKit Go.ChangeMaps Go.MapKept
set_option linter.unusedVariables false
set_option maxRecDepth 20000

theorem fusable_yes (t s : Nat) (w : World) (h : w.cell? ⟨t, 0, none⟩ = some (.pointer (some ⟨s, 0, none⟩))) :
    Calls Tryz.prog 48 #[.pointer (some ⟨t, 0, none⟩)] w fun e w' => e = .returned (.bool true) ∧ w' = w := by
  go_enter Tryz.func48, Tryz.ntmps48
  go_wp2
  go_ret
  exact ⟨rfl, rfl⟩

/-- What 'file' tells. -/
def fileV (t : Nat) (T : Ft) (n : Int) : Value := if T.there n = true then .tuple #[.pointer (some ⟨t, 2 + n.toNat * 5, none⟩), .int .i64 0] else .tuple #[.pointer none, .int .i64 9]

set_option maxHeartbeats 1000000 in
theorem ffile_any (w : World) (t p q : Nat) (O0 : Nat → Fl) (Gn : Nat → Prop) (T : Ft) (H : Ts w t p q O0 Gn T) (n : Int) :
    Calls Tryz.prog 70 #[.pointer (some ⟨t, 0, none⟩), .int .i64 n] w fun e w' => e = .returned (fileV t T n) ∧ w' = w := by
  have k0 := hid (fusable_yes t p w H.tf.s)
  unfold fileV
  by_cases h1 : n < 1
  · rw [if_neg (by unfold Ft.there; simp; omega)]
    clear H
    go_enter Tryz.func70, Tryz.ntmps70
    go_wp2_with fail
    refine k0.out.mono ?_
    rintro e w1 ⟨rfl, rfl⟩
    clear k0
    go_wp2_with fail
    go_ret2
    exact ⟨rfl, rfl⟩
  by_cases h2 : 10 < n
  · rw [if_neg (by unfold Ft.there; simp; omega)]
    clear H
    go_enter Tryz.func70, Tryz.ntmps70
    go_wp2_with fail
    refine k0.out.mono ?_
    rintro e w1 ⟨rfl, rfl⟩
    clear k0
    go_wp2_with fail
    go_ret2
    exact ⟨rfl, rfl⟩
  obtain ⟨i, rfl⟩ : ∃ i : Nat, n = (i : Int) := ⟨n.toNat, by omega⟩
  have hi : i < 11 := by omega
  have c4 := H.tf.c4 i hi
  rw [H.h0 i hi] at c4
  have c3 : (0 : Int) ≤ (i : Int) := by omega
  have c5 : (i : Int) < 11 := by omega
  by_cases hh : (T.O i).h = 0
  · rw [hh] at c4
    rw [if_neg (by unfold Ft.there; simp [hh])]
    clear H hh
    go_enter Tryz.func70, Tryz.ntmps70
    go_wp2_with fail
    refine k0.out.mono ?_
    rintro e w1 ⟨rfl, rfl⟩
    clear k0
    go_wp2_with fail
    go_ret2
    exact ⟨rfl, rfl⟩
  · rw [if_pos (by unfold Ft.there; simp [hh]; omega), Int.toNat_natCast]
    obtain ⟨m, gm⟩ : ∃ m, m = (T.O i).h := ⟨_, rfl⟩
    rw [← gm] at c4 hh
    have hh' : (m == 0) = false := by simpa using hh
    clear H gm hh
    go_enter Tryz.func70, Tryz.ntmps70
    go_wp2_with fail
    refine k0.out.mono ?_
    rintro e w1 ⟨rfl, rfl⟩
    clear k0
    go_wp2_with fail
    go_ret2
    exact ⟨rfl, rfl⟩

/-- A bit of the flags. -/
theorem fhas_any (w : World) (t o : Nat) (fl b : Int) (r : Bool) (h : w.cell? ⟨t, o + 3, none⟩ = some (.int .i64 fl)) (hb : dfc fl b = r) :
    Calls Tryz.prog 100 #[.pointer (some ⟨t, o, none⟩), .int .i64 b] w fun e w' => e = .returned (.bool r) ∧ w' = w := by
  have HB : Hid ((bits BinOp.and IntKind.i64 fl b != 0) = r) := hid (by rw [← hb]; unfold dfc; cases h : (bits BinOp.and IntKind.i64 fl b != 0) <;> simp at h ⊢ <;> exact h)
  clear hb
  go_enter Tryz.func100, Tryz.ntmps100
  go_wp2_with fail
  go_ret
  refine ⟨?_, rfl⟩
  rw [← HB.out]
  rfl

def openedV (t : Nat) (T : Ft) (n b : Int) : Value := if T.has n b = true then .tuple #[.pointer (some ⟨t, 2 + n.toNat * 5, none⟩), .int .i64 0] else .tuple #[.pointer none, .int .i64 9]

set_option maxHeartbeats 1000000 in
theorem opened_any (w : World) (t p q : Nat) (O0 : Nat → Fl) (Gn : Nat → Prop) (T : Ft) (H : Ts w t p q O0 Gn T) (n b : Int) :
    Calls Tryz.prog 63 #[.pointer (some ⟨t, 0, none⟩), .int .i64 n, .int .i64 b] w fun e w' => e = .returned (openedV t T n b) ∧ w' = w := by
  have k0 := ffile_any w t p q O0 Gn T H n
  unfold fileV at k0
  unfold openedV Ft.has
  cases ht : T.there n
  · rw [ht, if_neg (by simp)] at k0
    rw [if_neg (by simp)]
    have k0 := hid k0
    clear H ht
    go_enter Tryz.func63, Tryz.ntmps63
    go_wp2_with fail
    refine k0.out.mono ?_
    rintro e w1 ⟨rfl, rfl⟩
    clear k0
    go_wp2_with fail
    go_ret2
    exact ⟨rfl, rfl⟩
  · rw [ht, if_pos rfl] at k0
    have k0 := hid k0
    obtain ⟨i, rfl, h1, h2, h3⟩ := Ft.there_lt ht
    rw [Int.toNat_natCast] at k0 ⊢
    have c3 := H.tf.c3 i h2
    rw [H.at i h2 h3] at c3
    have k1 := hid (fhas_any w t (2 + i * 5) (T.O i).fl b _ c3 rfl)
    clear H ht h3 c3
    generalize dfc (T.O i).fl b = r at k1 ⊢
    cases r
    · rw [if_neg (by simp)]
      go_enter Tryz.func63, Tryz.ntmps63
      go_wp2_with fail
      refine k0.out.mono ?_
      rintro e w1 ⟨rfl, rfl⟩
      clear k0
      go_wp2_with fail
      refine k1.out.mono ?_
      rintro e w1 ⟨rfl, rfl⟩
      clear k1
      go_wp2_with fail
      go_ret2
      exact ⟨rfl, rfl⟩
    · rw [if_pos (by simp)]
      go_enter Tryz.func63, Tryz.ntmps63
      go_wp2_with fail
      refine k0.out.mono ?_
      rintro e w1 ⟨rfl, rfl⟩
      clear k0
      go_wp2_with fail
      refine k1.out.mono ?_
      rintro e w1 ⟨rfl, rfl⟩
      clear k1
      go_wp2_with fail
      go_ret2
      exact ⟨rfl, rfl⟩

/-- What lies below an open file: a node, or a pipe's end. -/
def bodyV (p q : Nat) (k of : Int) : Value := if k = 3 then .iface 161 (.agg #[.pointer (some ⟨q, 0, none⟩), .int .i64 of, .bool true]) else if k = 2 then .iface 161 (.agg #[.pointer (some ⟨q, 0, none⟩), .int .i64 of, .bool false]) else .iface 163 (.agg #[.pointer (some ⟨p, 0, none⟩), .int .i64 of])

set_option maxHeartbeats 2000000 in
theorem body_any (w : World) (t p q o : Nat) (k of : Int) (cs : w.cell? ⟨t, 0, none⟩ = some (.pointer (some ⟨p, 0, none⟩))) (cp : w.cell? ⟨t, 1, none⟩ = some (.pointer (some ⟨q, 0, none⟩))) (c0 : w.cell? ⟨t, o, none⟩ = some (.int .i64 k)) (c1 : w.cell? ⟨t, o + 1, none⟩ = some (.int .i64 of)) (hk : k = 1 ∨ k = 2 ∨ k = 3) :
    Calls Tryz.prog 64 #[.pointer (some ⟨t, 0, none⟩), .pointer (some ⟨t, o, none⟩)] w fun e w' => e = .returned (bodyV p q k of) ∧ Below w.heap.size w w' := by
  unfold bodyV
  rcases hk with rfl | rfl | rfl
  · go_enter Tryz.func64, Tryz.ntmps64
    go_wp2_with fail
    go_quiet (fail)
    go_wp2_with fail
    go_ret
    exact ⟨rfl, ⟨rfl, rfl, rfl, Nat.le_refl _, fun _ _ => rfl⟩⟩
  · go_enter Tryz.func64, Tryz.ntmps64
    go_wp2_with fail
    go_quiet (fail)
    go_wp2_with fail
    go_ret
    exact ⟨rfl, ⟨rfl, rfl, rfl, Nat.le_refl _, fun _ _ => rfl⟩⟩
  · go_enter Tryz.func64, Tryz.ntmps64
    go_wp2_with fail
    go_quiet (fail)
    go_wp2_with fail
    go_ret
    exact ⟨rfl, ⟨rfl, rfl, rfl, Nat.le_refl _, fun _ _ => rfl⟩⟩

end Go.Proofs.YtoknhcjneliboaaGreat

/- Words for calls: rows of bytes, reads, what Stat tells. -/
namespace Go.Proofs.YtoknhcjneliboaaGreat
open Go.RowKit Go.ChangeMaps Go.MapKept
set_option linter.unusedVariables false
set_option maxRecDepth 20000

theorem clone_opt (ab : Option Addr) (lb cb : Nat) (zs : List Int) (w : World) (hs : Src w ab lb zs) (hr : lb ≤ 140737488355328) (hn : ab = none → lb = 0 ∧ cb = 0) :
    Calls Tryz.prog 16 #[.slice ab lb cb] w fun e w' => ∃ (av : Option Addr) (cv : Nat), e = .returned (.slice av lb cv) ∧ w'.ownsRow w.heap.size 5 1 (.slice av lb cv) lb (zs.map (Value.int .u8)) ∧ Below w.heap.size w w' := by
  cases ab with
  | none =>
    obtain ⟨rfl, rfl⟩ := hn rfl
    have hz : zs = [] := List.eq_nil_of_length_eq_zero hs.1
    subst hz
    refine (clone_nil 0 0 w).mono ?_
    rintro e w' ⟨rfl, rfl⟩
    exact ⟨none, 0, rfl, World.ownsRow_nil _ _ _ _, Below.refl _ _⟩
  | some a =>
    refine (clone_any a lb cb zs w hs hr).mono ?_
    rintro e w' ⟨g, c, rfl, h1, h2⟩
    exact ⟨some ⟨g, 0, none⟩, c, rfl, h1, h2⟩

theorem pread2 (p : Nat) (F : Fs) (G : Nat → Prop) (w : World) (H : Pf w p F G) (hF : FOk F) (n off cnt : Int) (ho : off ≤ 9223372036854775807) (hc : cnt ≤ 9223372036854775807) :
    Calls Tryz.prog 219 #[.pointer (some ⟨p, 0, none⟩), .int .i64 n, .int .i64 off, .int .i64 cnt] w fun e w' => (∃ v, e = .returned (.tuple #[v, .int .i64 (F.read n off cnt).2]) ∧ w'.ownsRow w.heap.size 5 1 v (F.read n off cnt).1.length ((F.read n off cnt).1.map (Value.int .u8))) ∧ Below w.heap.size w w' := by
  have HP := H
  obtain ⟨S, HS, R, hG⟩ := H
  by_cases hf : F.file n ≠ 0
  · have e : F.read n off cnt = ([], F.file n) := by unfold Fs.read; rw [if_pos hf]
    rw [e]
    refine (read_err p S F w HS R n off cnt _ hf rfl).mono ?_
    rintro e w' ⟨rfl, rfl⟩
    exact ⟨⟨_, rfl, World.ownsRow_nil _ _ _ _⟩, Below.refl _ _⟩
  have hf0 := Decidable.not_not.1 hf
  obtain ⟨fk, f1, f2⟩ := Fs.file_ok hF hf0
  obtain ⟨i, rfl⟩ : ∃ i : Nat, n = (i : Int) := ⟨n.toNat, by omega⟩
  have hi : i < 17 := by omega
  have fk : (F.P i).k = 1 := fk
  have r := R.P i hi
  have hk : (S.P i).k = 1 := r.k.trans fk
  by_cases h0 : off < 0 ∨ cnt < 0
  · have e : F.read (i : Int) off cnt = ([], 22) := by unfold Fs.read; rw [if_neg hf, if_pos h0]
    rw [e]
    refine (read_neg p S w HS i (by omega) hi hk off cnt h0).mono ?_
    rintro e w' ⟨rfl, rfl⟩
    exact ⟨⟨_, rfl, World.ownsRow_nil _ _ _ _⟩, Below.refl _ _⟩
  obtain ⟨o, rfl⟩ : ∃ o : Nat, off = (o : Int) := ⟨off.toNat, by omega⟩
  obtain ⟨m, rfl⟩ : ∃ m : Nat, cnt = (m : Int) := ⟨cnt.toNat, by omega⟩
  have e : F.read (i : Int) (o : Int) (m : Int) = (((F.P i).c.drop o).take m, 0) := by unfold Fs.read; rw [if_neg hf, if_neg h0]; rfl
  rw [e]
  have hcl := (hF.c i).1
  refine (read_ok p S w i (by omega) hi (S.P i) S.T (by rw [S.bl_self]; exact HS) hk (by rw [r.s]; exact hcl) o m (by omega) (by omega)).mono ?_
  rintro e w' ⟨⟨g, c, rfl, h⟩, hb⟩
  have er : rd (S.P i) o m = ((F.P i).c.drop o).take m := by unfold rd; rw [r.b]
  have el : min m ((S.P i).s - o) = (((F.P i).c.drop o).take m).length := by rw [List.length_take, List.length_drop, r.s]
  rw [er, el] at h
  rw [el]
  exact ⟨⟨_, rfl, h⟩, hb⟩

set_option maxHeartbeats 1000000 in
theorem spoil_any (v : Value) (n c : Nat) (ad : Option Addr) (xs : List Int) (w : World) (B : Nat) (hv : v = .slice ad n c) (ho : w.ownsRow B 5 1 v n (xs.map (Value.int .u8))) (hn : n ≤ 140737488355328) :
    Calls Tryz.prog 24 #[v] w fun e w' => e = .returned (.tuple #[]) ∧ Upd (fun x => v.ownBlock = some x) w w' := by
  rcases ho.2 with ⟨h1, h2⟩ | ⟨g, cap, cur, h1, _⟩
  · subst h1
    subst h2
    clear hv
    go_enter Tryz.func24, Tryz.ntmps24
    go_wp2_with fail
    go_loop [5] (fun s => s = .int .i64 0) (fun _ => 0)
    case atStart => rfl
    case round =>
      subst hrel
      go_wp2_with fail
      go_end0
      exact ⟨rfl, Upd.refl _ _⟩
  · subst h1
    have HO := hid ho
    clear ho hv
    go_enter Tryz.func24, Tryz.ntmps24
    go_wp2_with fail
    go_loopw [5] (fun s wr => ∃ (i : Nat) (ys : List Int), i ≤ n ∧ s = .int .i64 i ∧ Hid (wr.ownsRow B 5 1 (.slice (some ⟨g, 0, none⟩) n cap) n (ys.map (Value.int .u8))) ∧ Upd (fun x => (Value.slice (some ⟨g, 0, none⟩) n cap).ownBlock = some x) w wr) (fun s _ => n - (intOf s).toNat)
    case atStart => exact ⟨0, xs, by omega, rfl, HO, Upd.refl _ _⟩
    case round =>
      obtain ⟨i, ys, hi, rfl, HW, hu⟩ := hrel
      by_cases h : i < n
      · have hl : ys.length = n := by have := HW.out.1; simpa using this
        have hcell : wr.cell? ⟨g, i, none⟩ = some (.int .u8 (ys.getD i 0)) := by
          rw [HW.out.cellAt i (by omega), List.getElem?_map, List.getD_eq_getElem?_getD, List.getElem?_eq_getElem (by omega)]; rfl
        have hfr : wr.frozen? ⟨g, i, none⟩ = false := HW.out.frozenAt i
        obtain ⟨z, gz⟩ : ∃ z, z = ys.getD i 0 := ⟨_, rfl⟩
        rw [← gz] at hcell
        have HN : Hid (∀ y, (wr.setCell ⟨g, i, none⟩ (.int .u8 y)).ownsRow B 5 1 (.slice (some ⟨g, 0, none⟩) n cap) n ((ys.set i y).map (Value.int .u8))) := by
          refine hid (fun y => ?_)
          rw [List.map_set]
          exact (HW.out.stored i (.int .u8 y)).1
        clear gz
        go_wp2_with fail
        go_roundw
        case rel => exact ⟨i + 1, _, by omega, by go_num, hid (HN.out _), hu.trans (Upd.setCell (F := fun x => (Value.slice (some ⟨g, 0, none⟩) n cap).ownBlock = some x) wr ⟨g, i, none⟩ _ rfl) (fun _ _ h => h)⟩
        case measure => simp [intOf]; omega
      · obtain rfl : i = n := by omega
        go_wp2_with fail
        go_end0
        exact ⟨rfl, hu⟩

theorem own_src {w : World} {B : Nat} {a : Option Addr} {n c : Nat} {zs : List Int} (h : w.ownsRow B 5 1 (.slice a n c) n (zs.map (Value.int .u8))) : Src w a n zs := by
  have hl : zs.length = n := by have := h.1; simpa using this
  rcases h.2 with ⟨e, h0⟩ | ⟨g, cap, cur, e, rest⟩
  · subst h0
    exact ⟨hl, fun h => absurd h (Nat.lt_irrefl 0)⟩
  · injection e with e1 e2 e3
    subst e1
    exact Src.own h

theorem Src.updL {F : Nat → Prop} {w w' : World} {a : Option Addr} {n : Nat} {zs : List Int} (u : Upd F w w') (h : Src w a n zs) (hF : 0 < n → ∀ b o, a = some ⟨b, o, none⟩ → ¬ F b) : Src w' a n zs :=
  ⟨h.1, fun hl => by
    obtain ⟨b, o, e, hlt, hc⟩ := h.2 hl
    exact ⟨b, o, e, Nat.lt_of_lt_of_le hlt u.size, fun j hj => (World.cell?_of_block (a := ⟨b, o + j, none⟩) (u.block b hlt (hF hl b o e))).trans (hc j hj)⟩⟩

theorem own_at {w : World} {B n c : Nat} {a : Option Addr} {xs : List Value} (h : w.ownsRow B 5 1 (.slice a n c) n xs) : ∀ b o, a = some ⟨b, o, none⟩ → B ≤ b ∧ b < w.heap.size := by
  intro b o e
  rcases h.2 with ⟨e1, _⟩ | ⟨g, cap, cur, e1, h2, h3, _⟩
  · injection e1 with e2
    rw [e2] at e
    cases e
  · injection e1 with e2
    rw [e2] at e
    injection e with e
    injection e with e3 e4
    exact ⟨e3 ▸ h2, e3 ▸ (Array.getElem?_eq_some_iff.1 h3).1⟩

theorem read_len {F : Fs} (H : FOk F) (n off cnt : Int) : (F.read n off cnt).1.length ≤ 96 := by
  unfold Fs.read
  split
  · exact Nat.zero_le _
  · split
    · exact Nat.zero_le _
    · have := (H.c n.toNat).1
      rw [List.length_take, List.length_drop]
      omega

theorem pstat2 (p : Nat) (F : Fs) (G : Nat → Prop) (w : World) (H : Pf w p F G) (hF : FOk F) (n : Int) :
    Calls Tryz.prog 83 #[.pointer (some ⟨p, 0, none⟩), .int .i64 n] w fun e w' => e = .returned (.tuple #[.agg #[.int .i64 (F.stat n).1, .int .i64 (F.stat n).2.1, .int .i64 (F.stat n).2.2.1], .int .i64 (F.stat n).2.2.2]) ∧ Below w.heap.size w w' := by
  have HP := H
  obtain ⟨S, HS, R, hG⟩ := H
  by_cases ht : F.there n = false
  · have e : F.stat n = (0, 0, 0, 2) := by unfold Fs.stat; rw [if_pos ht]
    rw [e]
    refine (stat_no p S w HS n (there_no R ht)).mono ?_
    rintro e w' ⟨rfl, h⟩
    exact ⟨rfl, h⟩
  · obtain ⟨i, rfl, h1, h2, hk⟩ := there_yes (by simpa using ht : F.there n = true)
    have e : F.stat (i : Int) = ((F.P i).k, (F.P i).l, (F.size i : Int), 0) := by unfold Fs.stat; rw [if_neg ht]; rfl
    rw [e]
    have r := R.P i h2
    refine (stat_any p S w i h1 h2 HS (by rw [r.k]; exact hk) (F.size i) ?_).mono ?_
    · rw [r.k, R.L i h2, r.s]
      unfold Fs.size
      by_cases q : (F.P i).k = 2
      · rw [if_pos q, (hF.dir i q).1]; simp
      · rw [if_neg q, hF.file i q]; simp
    · rintro e w' ⟨rfl, h⟩
      rw [r.k, r.l]
      exact ⟨rfl, h⟩


end Go.Proofs.YtoknhcjneliboaaGreat

/- What the methods of nodes and of pipes' ends do (program). -/
namespace Go.Proofs.YtoknhcjneliboaaGreat
open Go.RowKit Go.ChangeMaps Go.MapKept
set_option linter.unusedVariables false
set_option maxRecDepth 20000

set_option maxHeartbeats 1000000 in
theorem feread (w : World) (q : Nat) (of c : Int) (wr : Bool) (a : Value) (k : Bool) (P : Nat → Pi.Pp) (H : Pi.Tc w q k P) :
    Calls Tryz.prog 204 #[.agg #[.pointer (some ⟨q, 0, none⟩), .int .i64 of, .bool wr], a, .int .i64 c] w fun e w' => (∃ v, e = .returned (.tuple #[v, .bool (Pi.readW P of c), .int .i64 (Pi.readE P of c)]) ∧ w'.ownsRow w.heap.size 5 1 v (Pi.readL P of c).length ((Pi.readL P of c).map (Value.int .u8))) ∧ Pi.Tc w' q k (Pi.readP P of c) ∧ Upd (· = q) w w' := by
  have k1 := hid (fun W (hb : Below w.heap.size w W) => Pi.read_spec q of c k P W (H.below hb H.lt))
  clear H
  generalize Pi.readW P of c = b1 at k1 ⊢
  generalize Pi.readE P of c = b2 at k1 ⊢
  generalize Pi.readL P of c = b3 at k1 ⊢
  go_enter Tryz.func204, Tryz.ntmps204
  go_wp2_with fail
  have hb := one_new w (Obj.cells #[.pointer (some ⟨q, 0, none⟩), .int .i64 of, .bool wr] 161)
  refine (k1.out _ hb).mono ?_
  rintro e w1 ⟨v, rfl, hO, hT, hU⟩
  have HQ := hid (And.intro (own_base hO hb.size) (And.intro hT ((Upd.of_below hb).trans hU (fun _ _ h => h))))
  clear hO hT hU hb k1
  go_wp2_with fail
  go_ret3
  exact ⟨⟨v, rfl, HQ.out.1⟩, HQ.out.2.1, HQ.out.2.2⟩

set_option maxHeartbeats 1000000 in
theorem fewrite (w : World) (q : Nat) (of : Int) (wr : Bool) (a : Value) (k : Bool) (P : Nat → Pi.Pp) (H : Pi.Tc w q k P) (ab : Option Addr) (len cap : Nat) (zs : List Int) (hs : Src w ab len zs) :
    Calls Tryz.prog 205 #[.agg #[.pointer (some ⟨q, 0, none⟩), .int .i64 of, .bool wr], a, .slice ab len cap] w fun e w' => e = .returned (.tuple #[.int .i64 (Pi.writeN P of len), .bool (Pi.writeW P of len), .int .i64 (Pi.writeE P of)]) ∧ Pi.Tc w' q k (Pi.writeP P of zs) ∧ Upd (· = q) w w' := by
  have k1 := hid (fun W (hb : Below w.heap.size w W) => Pi.write_spec q len cap of ab k P zs W (H.below hb H.lt) (hs.below hb))
  clear H hs
  generalize Pi.writeN P of len = b1 at k1 ⊢
  generalize Pi.writeE P of = b2 at k1 ⊢
  generalize Pi.writeW P of len = b3 at k1 ⊢
  go_enter Tryz.func205, Tryz.ntmps205
  go_wp2_with fail
  have hb := one_new w (Obj.cells #[.pointer (some ⟨q, 0, none⟩), .int .i64 of, .bool wr] 161)
  refine (k1.out _ hb).mono ?_
  rintro e w1 ⟨rfl, hT, hU⟩
  have HQ := hid (And.intro hT ((Upd.of_below hb).trans hU (fun _ _ h => h)))
  clear hT hU hb k1
  go_wp2_with fail
  go_ret3
  exact ⟨rfl, HQ.out.1, HQ.out.2⟩

theorem fefrom (w : World) (q : Nat) (of wh : Int) (wr : Bool) (a : Value) :
    Calls Tryz.prog 203 #[.agg #[.pointer (some ⟨q, 0, none⟩), .int .i64 of, .bool wr], a, .int .i64 wh] w fun e w' => e = .returned (.tuple #[.int .i64 0, .int .i64 29]) ∧ Below w.heap.size w w' := by
  go_enter Tryz.func203, Tryz.ntmps203
  go_wp2_with fail
  go_ret2
  exact ⟨rfl, one_new _ _⟩

set_option maxHeartbeats 1000000 in
theorem fedrop (w : World) (q : Nat) (of : Int) (wr k : Bool) (P : Nat → Pi.Pp) (H : Pi.Tc w q k P) :
    Calls Tryz.prog 202 #[.agg #[.pointer (some ⟨q, 0, none⟩), .int .i64 of, .bool wr]] w fun e w' => e = .returned (.int .i64 (Pi.dropE P of wr)) ∧ Pi.Tc w' q k (Pi.dropP k P of wr) ∧ Upd (· = q) w w' := by
  have k1 := hid (fun W (hb : Below w.heap.size w W) => Pi.drop_spec q of k wr P W (H.below hb H.lt))
  clear H
  generalize Pi.dropE P of wr = b1 at k1 ⊢
  go_enter Tryz.func202, Tryz.ntmps202
  go_wp2_with fail
  have hb := one_new w (Obj.cells #[.pointer (some ⟨q, 0, none⟩), .int .i64 of, .bool wr] 161)
  refine (k1.out _ hb).mono ?_
  rintro e w1 ⟨rfl, hT, hU⟩
  have HQ := hid (And.intro hT ((Upd.of_below hb).trans hU (fun _ _ h => h)))
  clear hT hU hb k1
  go_wp2_with fail
  go_ret
  exact ⟨rfl, HQ.out.1, HQ.out.2⟩

set_option maxHeartbeats 1000000 in
theorem fndrop (w : World) (p : Nat) (F : Fs) (G : Nat → Prop) (H : Pf w p F G) (hF : FOk F) (of : Int) :
    Calls Tryz.prog 213 #[.agg #[.pointer (some ⟨p, 0, none⟩), .int .i64 of]] w fun e w' => e = .returned (.int .i64 (F.drop of).2) ∧ PfTo w p (F.drop of).1 G w' := by
  have k1 := hid (fun W (hb : Below w.heap.size w W) => pdrop p F G W (H.grow hb) hF of)
  clear H
  generalize (F.drop of).2 = b1 at k1 ⊢
  go_enter Tryz.func213, Tryz.ntmps213
  go_wp2_with fail
  have hb := one_new w (Obj.cells #[.pointer (some ⟨p, 0, none⟩), .int .i64 of] 163)
  refine (k1.out _ hb).mono ?_
  rintro e w1 ⟨rfl, hT⟩
  have HQ := hid (hT.ahead hb)
  clear hT hb k1
  go_wp2_with fail
  go_ret
  exact ⟨rfl, HQ.out⟩

set_option maxHeartbeats 1000000 in
theorem fnsize (w : World) (p : Nat) (F : Fs) (G : Nat → Prop) (H : Pf w p F G) (hF : FOk F) (of : Int) :
    Calls Tryz.prog 218 #[.agg #[.pointer (some ⟨p, 0, none⟩), .int .i64 of]] w fun e w' => e = .returned (.tuple #[.int .i64 (F.stat of).2.2.1, .int .i64 (F.stat of).2.2.2]) ∧ Below w.heap.size w w' := by
  have k1 := hid (fun W (hb : Below w.heap.size w W) => pstat2 p F G W (H.grow hb) hF of)
  clear H
  generalize F.stat of = s at k1 ⊢
  obtain ⟨a1, a2, a3, a4⟩ := s
  go_enter Tryz.func218, Tryz.ntmps218
  go_wp2_with fail
  have hb := one_new w (Obj.cells #[.pointer (some ⟨p, 0, none⟩), .int .i64 of] 163)
  refine (k1.out _ hb).mono ?_
  rintro e w1 ⟨rfl, hT⟩
  have HQ := hid (hb.trans (hT.mono hb.size))
  clear hT hb k1
  go_wp2_with fail
  go_ret2
  exact ⟨rfl, HQ.out.trans ((one_new w1 _).mono HQ.out.size)⟩

/-- What 'from' of a node tells: where a seek counts from. -/
def fromV (F : Fs) (of off wh : Int) : Value := if wh = 0 then .tuple #[.int .i64 0, .int .i64 0] else if wh = 1 then .tuple #[.int .i64 off, .int .i64 0] else if wh = 2 then .tuple #[.int .i64 (F.stat of).2.2.1, .int .i64 (F.stat of).2.2.2] else .tuple #[.int .i64 0, .int .i64 22]

set_option maxHeartbeats 1000000 in
theorem fnfrom (w : World) (p : Nat) (F : Fs) (G : Nat → Prop) (H : Pf w p F G) (hF : FOk F) (of wh off : Int) (t o : Nat) (c2 : w.cell? ⟨t, o + 2, none⟩ = some (.int .i64 off)) (ht : t < w.heap.size) :
    Calls Tryz.prog 214 #[.agg #[.pointer (some ⟨p, 0, none⟩), .int .i64 of], .pointer (some ⟨t, o, none⟩), .int .i64 wh] w fun e w' => e = .returned (fromV F of off wh) ∧ Below w.heap.size w w' := by
  have hb := one_new w (Obj.cells #[.pointer (some ⟨p, 0, none⟩), .int .i64 of] 163)
  have d2 := (hb.cell (p := ⟨t, o + 2, none⟩) ht).trans c2
  unfold fromV
  by_cases h0 : wh = 0
  · subst h0
    rw [if_pos rfl]
    clear H
    go_enter Tryz.func214, Tryz.ntmps214
    go_wp2_with fail
    go_ret2
    exact ⟨rfl, one_new _ _⟩
  rw [if_neg h0]
  by_cases h1 : wh = 1
  · subst h1
    rw [if_pos rfl]
    clear H
    go_enter Tryz.func214, Tryz.ntmps214
    go_wp2_with fail
    go_ret2
    exact ⟨rfl, one_new _ _⟩
  rw [if_neg h1]
  by_cases h2 : wh = 2
  · subst h2
    rw [if_pos rfl]
    have k1 := hid (fun W (hb : Below w.heap.size w W) => fnsize W p F G (H.grow hb) hF of)
    clear H d2 c2
    generalize F.stat of = s at k1 ⊢
    obtain ⟨a1, a2, a3, a4⟩ := s
    have HB := hid hb
    clear hb
    go_enter Tryz.func214, Tryz.ntmps214
    go_wp2_with fail
    refine (k1.out _ HB.out).mono ?_
    rintro e w1 ⟨rfl, hT⟩
    have HQ := hid (HB.out.trans (hT.mono HB.out.size))
    clear hT k1
    go_wp2_with fail
    go_ret2
    exact ⟨rfl, HQ.out⟩
  rw [if_neg h2]
  clear H
  go_enter Tryz.func214, Tryz.ntmps214
  go_wp2_with fail
  go_ret2
  exact ⟨rfl, one_new _ _⟩

end Go.Proofs.YtoknhcjneliboaaGreat
