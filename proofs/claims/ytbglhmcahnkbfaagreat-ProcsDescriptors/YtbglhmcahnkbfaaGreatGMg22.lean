/- Texts of this seat, merged. -/
import Derived.Test.YtbglhmcahnkbfaaGreatGMg5
import Derived.Test.YtbglhmcahnkbfaaGreatGMg11
import Derived.Test.YtbglhmcahnkbfaaGreatGMg21
import Derived.Test.YtbglhmcahnkbfaaGreatGMg23
import Derived.Test.YtbglhmcahnkbfaaGreatGMg24

/- Open files without memory: what each call of them comes to. -/
namespace Go.Proofs.YtbglhmcahnkbfaaGreat
set_option linter.unusedVariables false

/-- Whether flags have other bits than the six. -/
def dfcN (g : Int) : Bool := decide (bits .andNot .i64 g 63 ≠ 0)

/-- A file system, pipes, open files by their numbers. -/
structure Ft where
  F : Fs
  P : Nat → Pi.Pp
  O : Nat → Fl

namespace Ft
/-- A pipe's writer that is closed is not counted off. -/
def kp (T : Ft) : Bool := Pi.bit8 T.F.d
def there (T : Ft) (n : Int) : Bool := decide (1 ≤ n ∧ n ≤ 10 ∧ (T.O n.toNat).h ≠ 0)
def has (T : Ft) (n : Int) (b : Int) : Bool := T.there n && dfc (T.O n.toNat).fl b
def at_ (T : Ft) (n : Nat) (x : Fl) : Ft := { T with O := updF T.O n x }

/-- The node that is opened. -/
def node (F : Fs) (l : List UInt8) (g : Int) : Fs × Nat × Int :=
  if dfc g 8 = false then (F, F.find l) else if (F.find l).2 = 2 then F.make l 1 else if (F.find l).2 = 0 ∧ dfc g 16 = true then (F, 0, 17) else (F, F.find l)
/-- What becomes of it, ahead of its being held. -/
def cutF (F : Fs) (n : Nat) (g : Int) : Fs × Int :=
  if dfc g 2 = false then (F, 0) else if (F.P n).k = 2 then (F, 21) else if dfc g 32 = false then (F, 0) else F.resize n 0
def openN (T : Ft) (l : List UInt8) (g : Int) : Fs × Nat × Int :=
  if (node T.F l g).2.2 ≠ 0 then node T.F l g else
  if (cutF (node T.F l g).1 (node T.F l g).2.1 g).2 ≠ 0 then ((cutF (node T.F l g).1 (node T.F l g).2.1 g).1, 0, (cutF (node T.F l g).1 (node T.F l g).2.1 g).2) else
  (((cutF (node T.F l g).1 (node T.F l g).2.1 g).1.hold (node T.F l g).2.1).1, (node T.F l g).2.1, ((cutF (node T.F l g).1 (node T.F l g).2.1 g).1.hold (node T.F l g).2.1).2)
/-- Whether flags can be. -/
def flagsOk (g : Int) : Bool := !dfcN g && dfc g 3
def open_ (T : Ft) (l : List UInt8) (g : Int) : Ft × Nat × Int :=
  if flagsOk g = false then (T, 0, 22) else if ofL T.O 11 = [] then (T, 0, 23) else
  if (T.openN l g).2.2 ≠ 0 then ({ T with F := (T.openN l g).1 }, 0, (T.openN l g).2.2) else
  ({ T with F := (T.openN l g).1, O := updF T.O ((ofL T.O 11).headD 0) ⟨1, (T.openN l g).2.1, 0, g, 1⟩ }, (ofL T.O 11).headD 0, 0)

def pipe (T : Ft) : Ft × Nat × Nat × Int := match ofL T.O 11 with
  | a :: b :: _ => if Pi.makeE T.P ≠ 0 then (T, 0, 0, Pi.makeE T.P) else
    ({ T with P := Pi.makeP T.P, O := updF (updF T.O a ⟨2, Pi.lowest T.P, 0, 1, 1⟩) b ⟨3, Pi.lowest T.P, 0, 2, 1⟩ }, a, b, 0)
  | _ => (T, 0, 0, 23)

def read (T : Ft) (n c : Int) : Ft × List Int × Bool × Int :=
  if T.has n 1 = false then (T, [], false, 9) else
  if (T.O n.toNat).k ≠ 1 then ({ T with P := Pi.readP T.P (T.O n.toNat).of c }, Pi.readL T.P (T.O n.toNat).of c, Pi.readW T.P (T.O n.toNat).of c, Pi.readE T.P (T.O n.toNat).of c) else
  (T.at_ n.toNat { T.O n.toNat with off := (T.O n.toNat).off + ((T.F.read (T.O n.toNat).of (T.O n.toNat).off c).1.length : Int) }, (T.F.read (T.O n.toNat).of (T.O n.toNat).off c).1, false, (T.F.read (T.O n.toNat).of (T.O n.toNat).off c).2)

/-- Where a write begins. -/
def from_ (T : Ft) (x : Fl) : Int := if dfc x.fl 4 = true then (T.F.size x.of.toNat : Int) else x.off
def write (T : Ft) (n : Int) (b : List Int) : Ft × Int × Bool × Int :=
  if T.has n 2 = false then (T, 0, false, 9) else
  if (T.O n.toNat).k ≠ 1 then ({ T with P := Pi.writeP T.P (T.O n.toNat).of b }, (Pi.writeN T.P (T.O n.toNat).of b.length : Int), Pi.writeW T.P (T.O n.toNat).of b.length, Pi.writeE T.P (T.O n.toNat).of) else
  if (T.F.write (T.O n.toNat).of (T.from_ (T.O n.toNat)) b).2.2 ≠ 0 then (T, 0, false, (T.F.write (T.O n.toNat).of (T.from_ (T.O n.toNat)) b).2.2) else
  ({ T with F := (T.F.write (T.O n.toNat).of (T.from_ (T.O n.toNat)) b).1, O := updF T.O n.toNat { T.O n.toNat with off := T.from_ (T.O n.toNat) + (T.F.write (T.O n.toNat).of (T.from_ (T.O n.toNat)) b).2.1 } }, (T.F.write (T.O n.toNat).of (T.from_ (T.O n.toNat)) b).2.1, false, 0)

def base (T : Ft) (x : Fl) (wh : Int) : Int := if wh = 1 then x.off else if wh = 2 then (T.F.size x.of.toNat : Int) else 0
def hold (T : Ft) (n : Int) : Ft × Int :=
  if T.there n = false then (T, 9) else if 1000 ≤ (T.O n.toNat).h then (T, 11) else (T.at_ n.toNat { T.O n.toNat with h := (T.O n.toNat).h + 1 }, 0)
def drop (T : Ft) (n : Int) : Ft × Int :=
  if T.there n = false then (T, 9) else if 1 < (T.O n.toNat).h then (T.at_ n.toNat { T.O n.toNat with h := (T.O n.toNat).h - 1 }, 0) else
  if (T.O n.toNat).k = 1 then ({ T with F := (T.F.drop (T.O n.toNat).of).1, O := updF T.O n.toNat noFl }, 0) else
  ({ T with P := Pi.dropP T.kp T.P (T.O n.toNat).of (decide ((T.O n.toNat).k = 3)), O := updF T.O n.toNat noFl }, 0)

def nameF (F : Fs) (call : Int) (l m : List UInt8) : Fs × Int :=
  if call = 7 then F.unlink l else if call = 8 then ((F.make l 2).1, (F.make l 2).2.2) else if call = 9 then F.rmdir l else if call = 10 then F.link l m else if call = 11 then F.rename l m else (F, 22)
def name (T : Ft) (call : Int) (l m : List UInt8) : Ft × Int := ({ T with F := (nameF T.F call l m).1 }, (nameF T.F call l m).2)
def stat (T : Ft) (l : List UInt8) : Int × Int × Int × Int := if (T.F.find l).2 ≠ 0 then (0, 0, 0, (T.F.find l).2) else T.F.stat (T.F.find l).1
end Ft

/-- No open files. -/
def newT (d : Int) : Ft := ⟨rootF d, Pi.noPipes, fun _ => noFl⟩

/-- How many open files of a kind are of a number. -/
def cF (O : Nat → Fl) (k : Int) (n : Nat) : Nat := (List.range 11).countP (fun i => decide ((O i).h ≠ 0 ∧ (O i).k = k ∧ (O i).of = (n : Int)))

/-- What is true of open files that calls have made. -/
structure TOk (T : Ft) : Prop where
  F : FOk T.F
  out : ∀ i, i = 0 ∨ 11 ≤ i → T.O i = noFl
  nn : ∀ i, (T.O i).h = 0 → T.O i = noFl
  h : ∀ i, 0 ≤ (T.O i).h ∧ (T.O i).h ≤ 1000
  k : ∀ i, (T.O i).h ≠ 0 → (T.O i).k = 1 ∨ (T.O i).k = 2 ∨ (T.O i).k = 3
  off : ∀ i, 0 ≤ (T.O i).off ∧ (T.O i).off ≤ 1048576
  of : ∀ i, ∃ m : Nat, (T.O i).of = (m : Int)
  hc : ∀ n : Nat, (T.F.P n).h = (cF T.O 1 n : Int)
  r : ∀ n, (T.P n).r = cF T.O 2 n
  w : ∀ n, cF T.O 3 n ≤ (T.P n).w
  ws : T.kp = false → ∀ n, (T.P n).w = cF T.O 3 n
  pq : ∀ n, (T.P n).q.length ≤ 8 ∧ (T.P n).w ≤ 1 ∧ Pi.clr (T.P n) = T.P n
  po : ∀ n, n = 0 ∨ 5 ≤ n → T.P n = ⟨0, 0, []⟩

end Go.Proofs.YtbglhmcahnkbfaaGreat

/- What is true of open files stays true, call by call. -/
namespace Go.Proofs.YtbglhmcahnkbfaaGreat
set_option linter.unusedVariables false

theorem cnt_upd (p q : Nat → Bool) (i : Nat) (hne : ∀ j, j ≠ i → q j = p j) : ∀ m, i < m → (List.range m).countP q + (if p i = true then 1 else 0) = (List.range m).countP p + (if q i = true then 1 else 0)
  | 0, h => absurd h (Nat.not_lt_zero _)
  | m + 1, h => by
    rw [List.range_succ, List.countP_append, List.countP_append, List.countP_singleton, List.countP_singleton]
    rcases (show i < m ∨ i = m by omega) with e | e
    · have := cnt_upd p q i hne m e
      rw [hne m (by omega)]
      omega
    · subst e
      have : (List.range i).countP q = (List.range i).countP p := List.countP_congr (fun j hj => by rw [hne j (by have := List.mem_range.1 hj; omega)])
      omega

def cb (x : Fl) (k : Int) (n : Nat) : Bool := decide (x.h ≠ 0 ∧ x.k = k ∧ x.of = (n : Int))
theorem cF_upd (O : Nat → Fl) (i : Nat) (x : Fl) (hi : i < 11) (k : Int) (n : Nat) : cF (updF O i x) k n + (if cb (O i) k n = true then 1 else 0) = cF O k n + (if cb x k n = true then 1 else 0) := by
  have h := cnt_upd (fun j => cb (O j) k n) (fun j => cb (updF O i x j) k n) i (fun j hj => by rw [updF_ne _ _ _ _ hj]) 11 hi
  rw [updF_same] at h
  exact h
theorem cF_same {O : Nat → Fl} {i : Nat} {x : Fl} (hi : i < 11) (h : x.h ≠ 0) (h' : (O i).h ≠ 0) (hk : x.k = (O i).k) (ho : x.of = (O i).of) (k : Int) (n : Nat) : cF (updF O i x) k n = cF O k n := by
  have e : cb x k n = cb (O i) k n := by unfold cb; simp [h, h', hk, ho]
  have := cF_upd O i x hi k n
  rw [e] at this
  omega
theorem cF_new {O : Nat → Fl} {i : Nat} {x : Fl} (hi : i < 11) (h : x.h ≠ 0) (h' : (O i).h = 0) (k : Int) (n : Nat) : cF (updF O i x) k n = cF O k n + if x.k = k ∧ x.of = (n : Int) then 1 else 0 := by
  have := cF_upd O i x hi k n
  have e : cb (O i) k n = false := by unfold cb; simp [h']
  have e2 : cb x k n = decide (x.k = k ∧ x.of = (n : Int)) := by unfold cb; simp [h]
  rw [e, e2] at this
  simpa using this
theorem cF_gone {O : Nat → Fl} {i : Nat} (hi : i < 11) (h : (O i).h ≠ 0) (k : Int) (n : Nat) : cF (updF O i noFl) k n + (if (O i).k = k ∧ (O i).of = (n : Int) then 1 else 0) = cF O k n := by
  have := cF_upd O i noFl hi k n
  have e : cb noFl k n = false := by unfold cb; simp [noFl]
  have e2 : cb (O i) k n = decide ((O i).k = k ∧ (O i).of = (n : Int)) := by unfold cb; simp [h]
  rw [e, e2] at this
  simpa using this
theorem cF_mem {O : Nat → Fl} {i : Nat} (hi : i < 11) (h : (O i).h ≠ 0) (n : Nat) (hn : (O i).of = (n : Int)) : 1 ≤ cF O (O i).k n :=
  List.countP_pos_iff.2 ⟨i, List.mem_range.2 hi, by simp [h, hn]⟩

/-- Pipes whose ends are as they were. -/
structure PS (P P' : Nat → Pi.Pp) : Prop where
  r : ∀ n, (P' n).r = (P n).r
  w : ∀ n, (P' n).w = (P n).w
  q : (∀ n, (P n).q.length ≤ 8) → ∀ n, (P' n).q.length ≤ 8
  c : (∀ n, Pi.clr (P n) = P n) → ∀ n, Pi.clr (P' n) = P' n
  o : (∀ n, n = 0 ∨ 5 ≤ n → P n = ⟨0, 0, []⟩) → ∀ n, n = 0 ∨ 5 ≤ n → P' n = ⟨0, 0, []⟩
theorem PS.refl (P : Nat → Pi.Pp) : PS P P := ⟨fun _ => rfl, fun _ => rfl, fun h => h, fun h => h, fun h => h⟩
theorem PS.put (P : Nat → Pi.Pp) (i : Nat) (q : List Int) (h1 : 1 ≤ i) (h4 : i ≤ 4) (ht : (P i).there = true) (hq : (∀ n, (P n).q.length ≤ 8) → q.length ≤ 8) : PS P (Pi.updP P i { P i with q := q }) := by
  have e : ∀ j, Pi.updP P i { P i with q := q } j = if j = i then { P i with q := q } else P j := fun j => rfl
  refine ⟨fun n => ?_, fun n => ?_, fun h n => ?_, fun h n => ?_, fun h n hn => ?_⟩
  · rw [e]; split
    · rename_i q; subst q; rfl
    · rfl
  · rw [e]; split
    · rename_i q; subst q; rfl
    · rfl
  · rw [e]; split
    · exact hq h
    · exact h n
  · rw [e]; split
    · exact Pi.clr_yes (show ({ P i with q := q } : Pi.Pp).there = true from ht)
    · exact h n
  · rw [e, if_neg (by omega)]; exact h n hn
theorem PS.read (P : Nat → Pi.Pp) (n c : Int) : PS P (Pi.readP P n c) := by
  unfold Pi.readP
  split
  · rename_i h
    obtain ⟨i, rfl, h1, h4, ht⟩ := Pi.has_some h
    split
    · rw [Int.toNat_natCast]
      exact PS.put P i _ h1 h4 ht (fun h => by have := h i; rw [List.length_drop]; omega)
    · exact PS.refl P
  · exact PS.refl P
theorem PS.write (P : Nat → Pi.Pp) (n : Int) (zs : List Int) : PS P (Pi.writeP P n zs) := by
  unfold Pi.writeP
  split
  · rename_i h
    obtain ⟨i, rfl, h1, h4, ht⟩ := Pi.has_some h
    split
    · exact PS.refl P
    · rw [Int.toNat_natCast]
      exact PS.put P i _ h1 h4 ht (fun h => by have := h i; rw [List.length_append, List.length_take]; omega)
  · exact PS.refl P

theorem Ft.there_lt {T : Ft} {n : Int} (h : T.there n = true) : ∃ i : Nat, n = (i : Int) ∧ 1 ≤ i ∧ i < 11 ∧ (T.O i).h ≠ 0 := by
  unfold Ft.there at h
  simp only [decide_eq_true_eq] at h
  exact ⟨n.toNat, by omega, by omega, by omega, h.2.2⟩
theorem Ft.has_lt {T : Ft} {n b : Int} (h : T.has n b = true) : ∃ i : Nat, n = (i : Int) ∧ 1 ≤ i ∧ i < 11 ∧ (T.O i).h ≠ 0 ∧ dfc (T.O i).fl b = true := by
  unfold Ft.has at h
  rw [Bool.and_eq_true] at h
  obtain ⟨i, rfl, h1, h2, h3⟩ := Ft.there_lt h.1
  exact ⟨i, rfl, h1, h2, h3, by simpa using h.2⟩

/-- An open file's offset, or holders, turn; what is below keeps who holds what. -/
theorem TOk.turn {T : Ft} (H : TOk T) {F' : Fs} {P' : Nat → Pi.Pp} (hF : FOk F') (sF : SH T.F F') (sP : PS T.P P') (i : Nat) (h1 : 1 ≤ i) (hi : i < 11) (hh : (T.O i).h ≠ 0) (x : Fl) (hk : x.k = (T.O i).k) (ho : x.of = (T.O i).of) (hx : 1 ≤ x.h ∧ x.h ≤ 1000) (hf : 0 ≤ x.off ∧ x.off ≤ 1048576) :
    TOk ⟨F', P', updF T.O i x⟩ := by
  have ec : ∀ k n, cF (updF T.O i x) k n = cF T.O k n := cF_same hi (by omega) hh hk ho
  have eu : ∀ j, updF T.O i x j = if j = i then x else T.O j := fun j => rfl
  refine ⟨hF, fun j hj => ?_, fun j hj => ?_, fun j => ?_, fun j hj => ?_, fun j => ?_, fun j => ?_, fun n => ?_, fun n => ?_, fun n => ?_, fun hkp n => ?_, fun n => ⟨?_, ?_, ?_⟩, sP.o H.po⟩
  · show updF T.O i x j = noFl
    rw [eu, if_neg (by omega)]; exact H.out j hj
  · revert hj
    show (updF T.O i x j).h = 0 → updF T.O i x j = noFl
    rw [eu]; split
    · intro e; omega
    · exact H.nn j
  · show 0 ≤ (updF T.O i x j).h ∧ (updF T.O i x j).h ≤ 1000
    rw [eu]; split
    · omega
    · exact H.h j
  · revert hj
    show (updF T.O i x j).h ≠ 0 → (updF T.O i x j).k = 1 ∨ (updF T.O i x j).k = 2 ∨ (updF T.O i x j).k = 3
    rw [eu]; split
    · intro _; rw [hk]; exact H.k i hh
    · exact H.k j
  · show 0 ≤ (updF T.O i x j).off ∧ (updF T.O i x j).off ≤ 1048576
    rw [eu]; split
    · exact hf
    · exact H.off j
  · show ∃ m : Nat, (updF T.O i x j).of = (m : Int)
    rw [eu]; split
    · rw [ho]; exact H.of i
    · exact H.of j
  · show (F'.P n).h = (cF (updF T.O i x) 1 n : Int)
    rw [ec, sF.2]; exact H.hc n
  · show (P' n).r = cF (updF T.O i x) 2 n
    rw [ec, sP.r]; exact H.r n
  · show cF (updF T.O i x) 3 n ≤ (P' n).w
    rw [ec, sP.w]; exact H.w n
  · show (P' n).w = cF (updF T.O i x) 3 n
    rw [ec, sP.w]
    refine H.ws ?_ n
    have : Ft.kp ⟨F', P', updF T.O i x⟩ = T.kp := by unfold Ft.kp; rw [sF.1]
    rw [this] at hkp; exact hkp
  · exact sP.q (fun n => (H.pq n).1) n
  · show (P' n).w ≤ 1
    rw [sP.w]; exact (H.pq n).2.1
  · exact sP.c (fun n => (H.pq n).2.2) n

/-- What is below turns, but for who holds what. -/
theorem TOk.below {T : Ft} (H : TOk T) {F' : Fs} {P' : Nat → Pi.Pp} (hF : FOk F') (sF : SH T.F F') (sP : PS T.P P') : TOk ⟨F', P', T.O⟩ :=
  ⟨hF, H.out, H.nn, H.h, H.k, H.off, H.of, fun n => by show (F'.P n).h = _; rw [sF.2]; exact H.hc n, fun n => by show (P' n).r = _; rw [sP.r]; exact H.r n, fun n => by show _ ≤ (P' n).w; rw [sP.w]; exact H.w n, fun hkp n => by
    show (P' n).w = _
    rw [sP.w]
    refine H.ws ?_ n
    have : Ft.kp ⟨F', P', T.O⟩ = T.kp := by unfold Ft.kp; rw [sF.1]
    rw [this] at hkp; exact hkp, fun n => ⟨sP.q (fun n => (H.pq n).1) n, by show (P' n).w ≤ 1; rw [sP.w]; exact (H.pq n).2.1, sP.c (fun n => (H.pq n).2.2) n⟩, sP.o H.po⟩

/-- An open file more, of a node. -/
theorem TOk.more {T : Ft} (H : TOk T) {F' : Fs} (hF : FOk F') (hd : F'.d = T.F.d) (m : Nat) (hh : ∀ n, (F'.P n).h = (T.F.P n).h + if n = m then 1 else 0) (i : Nat) (h1 : 1 ≤ i) (hi : i < 11) (h0 : (T.O i).h = 0) (g : Int) :
    TOk ⟨F', T.P, updF T.O i ⟨1, (m : Int), 0, g, 1⟩⟩ := by
  have ec : ∀ k n, cF (updF T.O i ⟨1, (m : Int), 0, g, 1⟩) k n = cF T.O k n + if (1 : Int) = k ∧ (m : Int) = (n : Int) then 1 else 0 := fun k n => cF_new (x := ⟨1, (m : Int), 0, g, 1⟩) hi (by show (1 : Int) ≠ 0; omega) h0 k n
  have eu : ∀ j, updF T.O i ⟨1, (m : Int), 0, g, 1⟩ j = if j = i then ⟨1, (m : Int), 0, g, 1⟩ else T.O j := fun j => rfl
  refine ⟨hF, fun j hj => ?_, fun j hj => ?_, fun j => ?_, fun j hj => ?_, fun j => ?_, fun j => ?_, fun n => ?_, fun n => ?_, fun n => ?_, fun hkp n => ?_, H.pq, H.po⟩
  · show updF T.O i _ j = noFl
    rw [eu, if_neg (by omega)]; exact H.out j hj
  · revert hj
    show (updF T.O i _ j).h = 0 → updF T.O i _ j = noFl
    rw [eu]; split
    · intro e; exact absurd e (by show (1 : Int) ≠ 0; omega)
    · exact H.nn j
  · show 0 ≤ (updF T.O i _ j).h ∧ (updF T.O i _ j).h ≤ 1000
    rw [eu]; split
    · show (0 : Int) ≤ 1 ∧ (1 : Int) ≤ 1000; omega
    · exact H.h j
  · revert hj
    show (updF T.O i _ j).h ≠ 0 → (updF T.O i _ j).k = 1 ∨ (updF T.O i _ j).k = 2 ∨ (updF T.O i _ j).k = 3
    rw [eu]; split
    · intro _; exact .inl rfl
    · exact H.k j
  · show 0 ≤ (updF T.O i _ j).off ∧ (updF T.O i _ j).off ≤ 1048576
    rw [eu]; split
    · show (0 : Int) ≤ 0 ∧ (0 : Int) ≤ 1048576; omega
    · exact H.off j
  · show ∃ k : Nat, (updF T.O i _ j).of = (k : Int)
    rw [eu]; split
    · exact ⟨m, rfl⟩
    · exact H.of j
  · show (F'.P n).h = (cF (updF T.O i _) 1 n : Int)
    rw [ec, hh, H.hc n]
    by_cases e : n = m
    · subst e; simp
    · have : ¬ (m : Int) = (n : Int) := by omega
      simp [e, this]
  · show (T.P n).r = cF (updF T.O i _) 2 n
    rw [ec, if_neg (by omega)]; exact H.r n
  · show cF (updF T.O i _) 3 n ≤ (T.P n).w
    rw [ec, if_neg (by omega)]; exact H.w n
  · show (T.P n).w = cF (updF T.O i _) 3 n
    rw [ec, if_neg (by omega)]
    refine H.ws ?_ n
    have : Ft.kp ⟨F', T.P, updF T.O i ⟨1, (m : Int), 0, g, 1⟩⟩ = T.kp := by unfold Ft.kp; rw [hd]
    rw [this] at hkp; exact hkp

end Go.Proofs.YtbglhmcahnkbfaaGreat

/- What is true of open files stays true: Open, Pipe, and the rest. -/
namespace Go.Proofs.YtbglhmcahnkbfaaGreat
set_option linter.unusedVariables false

theorem ofL_mem {O : Nat → Fl} : ∀ {n i : Nat}, i ∈ ofL O n → 1 ≤ i ∧ i < n ∧ (O i).h = 0
  | 0, i, h => by simp [ofL] at h
  | n + 1, i, h => by
    unfold ofL at h
    rcases List.mem_append.1 h with h | h
    · have := ofL_mem h; exact ⟨this.1, by omega, this.2.2⟩
    · split at h
      · rename_i e
        have : i = n := by simpa using h
        subst this
        exact ⟨e.1, by omega, e.2⟩
      · simp at h
theorem ofL_rise (O : Nat → Fl) : ∀ n, (ofL O n).Pairwise (· < ·)
  | 0 => List.Pairwise.nil
  | n + 1 => by
    unfold ofL
    refine List.pairwise_append.2 ⟨ofL_rise O n, ?_, fun a ha b hb => ?_⟩
    · split <;> simp
    · split at hb
      · have : b = n := by simpa using hb
        subst this
        exact (ofL_mem ha).2.1
      · simp at hb
theorem ofL_head {O : Nat → Fl} (h : ofL O 11 ≠ []) : 1 ≤ (ofL O 11).headD 0 ∧ (ofL O 11).headD 0 < 11 ∧ (O ((ofL O 11).headD 0)).h = 0 := by
  cases e : ofL O 11 with
  | nil => exact absurd e h
  | cons a r => exact ofL_mem (n := 11) (by rw [e]; exact List.mem_cons_self)

theorem Ft.node_ok {F : Fs} (H : FOk F) (l : List UInt8) (g : Int) : FOk (Ft.node F l g).1 ∧ SH F (Ft.node F l g).1 := by
  unfold Ft.node
  split
  · exact ⟨H, SH.refl F⟩
  split
  · exact ⟨H.make l 1, SH.make H l 1⟩
  split
  · exact ⟨H, SH.refl F⟩
  · exact ⟨H, SH.refl F⟩
theorem Ft.cutF_ok {F : Fs} (H : FOk F) (n : Nat) (g : Int) : FOk (Ft.cutF F n g).1 ∧ SH F (Ft.cutF F n g).1 := by
  unfold Ft.cutF
  split
  · exact ⟨H, SH.refl F⟩
  split
  · exact ⟨H, SH.refl F⟩
  split
  · exact ⟨H, SH.refl F⟩
  · exact ⟨H.resize _ _, SH.resize _ _ _⟩
theorem Ft.openN_ok {T : Ft} (H : TOk T) (l : List UInt8) (g : Int) : FOk (T.openN l g).1 ∧ (T.openN l g).1.d = T.F.d ∧ ((T.openN l g).2.2 ≠ 0 → SH T.F (T.openN l g).1) ∧ ((T.openN l g).2.2 = 0 → ∀ n, ((T.openN l g).1.P n).h = (T.F.P n).h + if n = (T.openN l g).2.1 then 1 else 0) := by
  obtain ⟨a1, a2⟩ := Ft.node_ok H.F l g
  obtain ⟨b1, b2⟩ := Ft.cutF_ok a1 (Ft.node T.F l g).2.1 g
  unfold Ft.openN
  split
  · rename_i e
    exact ⟨a1, a2.1, fun _ => a2, fun q => absurd q e⟩
  split
  · rename_i e
    exact ⟨b1, (a2.trans b2).1, fun _ => a2.trans b2, fun q => absurd q e⟩
  · dsimp only
    refine ⟨b1.hold _, (hold_d _ _).trans (a2.trans b2).1, fun q => ?_, fun q n => ?_⟩
    · rw [hold_no q]; exact a2.trans b2
    · rw [(hold_P q).2, Int.toNat_natCast, Fs.hld_P]
      dsimp only
      rw [← (a2.trans b2).2 n]
      split
      · rename_i e; subst e; rfl
      · omega
theorem TOk.open_ {T : Ft} (H : TOk T) (l : List UInt8) (g : Int) : TOk (T.open_ l g).1 := by
  obtain ⟨a1, a2, a3, a4⟩ := Ft.openN_ok H l g
  unfold Ft.open_
  split
  · exact H
  split
  · exact H
  rename_i hf
  split
  · rename_i e
    exact H.below a1 (a3 e) (PS.refl T.P)
  · rename_i e
    obtain ⟨f1, f2, f3⟩ := ofL_head hf
    exact H.more a1 a2 _ (a4 (Decidable.not_not.1 e)) _ f1 f2 f3 g

/-- Both ends of a new pipe. -/
theorem TOk.pipe {T : Ft} (H : TOk T) : TOk T.pipe.1 := by
  unfold Ft.pipe
  split
  · rename_i a b r he
    split
    · exact H
    rename_i hm
    have hm0 := Decidable.not_not.1 hm
    have hl : Pi.lowest T.P ≠ 0 := fun e => hm (by unfold Pi.makeE; rw [if_pos e]; decide)
    obtain ⟨l1, l4, _, lt⟩ := Pi.lowest_some T.P hl
    have hP : Pi.makeP T.P = Pi.updP T.P (Pi.lowest T.P) ⟨1, 1, []⟩ := by unfold Pi.makeP; rw [if_neg hl]
    have ha := ofL_mem (O := T.O) (n := 11) (i := a) (by rw [he]; exact List.mem_cons_self)
    have hb := ofL_mem (O := T.O) (n := 11) (i := b) (by rw [he]; exact List.mem_cons_of_mem _ List.mem_cons_self)
    have hab : a < b := by
      have := ofL_rise T.O 11
      rw [he] at this
      exact (List.pairwise_cons.1 this).1 b List.mem_cons_self
    have z : T.P (Pi.lowest T.P) = ⟨0, 0, []⟩ := by
      have := (H.pq (Pi.lowest T.P)).2.2
      unfold Pi.clr at this
      rw [lt] at this
      exact this.symm
    generalize Pi.lowest T.P = i at hP l1 l4 z ⊢
    have zr : cF T.O 2 i = 0 := by have := H.r i; rw [z] at this; exact this.symm
    have zw : cF T.O 3 i = 0 := by have := H.w i; rw [z] at this; exact Nat.le_zero.1 this
    have hb0 : ∀ x, (updF T.O a x b).h = 0 := fun x => by rw [updF_ne _ _ _ _ (by omega)]; exact hb.2.2
    have ec : ∀ k n, cF (updF (updF T.O a ⟨2, (i : Int), 0, 1, 1⟩) b ⟨3, (i : Int), 0, 2, 1⟩) k n = cF T.O k n + (if (2 : Int) = k ∧ (i : Int) = (n : Int) then 1 else 0) + (if (3 : Int) = k ∧ (i : Int) = (n : Int) then 1 else 0) := fun k n => by
      rw [cF_new (x := ⟨3, (i : Int), 0, 2, 1⟩) hb.2.1 (by show (1 : Int) ≠ 0; omega) (hb0 _), cF_new (x := ⟨2, (i : Int), 0, 1, 1⟩) ha.2.1 (by show (1 : Int) ≠ 0; omega) ha.2.2]
    have eu : ∀ j, updF (updF T.O a ⟨2, (i : Int), 0, 1, 1⟩) b ⟨3, (i : Int), 0, 2, 1⟩ j = if j = b then ⟨3, (i : Int), 0, 2, 1⟩ else if j = a then ⟨2, (i : Int), 0, 1, 1⟩ else T.O j := fun j => rfl
    have ep : ∀ j, Pi.makeP T.P j = if j = i then ⟨1, 1, []⟩ else T.P j := fun j => by rw [hP]; rfl
    dsimp only
    refine ⟨H.F, fun j hj => ?_, fun j hj => ?_, fun j => ?_, fun j hj => ?_, fun j => ?_, fun j => ?_, fun n => ?_, fun n => ?_, fun n => ?_, fun hkp n => ?_, fun n => ?_, fun n hn => ?_⟩
    · dsimp only
      rw [eu, if_neg (by omega), if_neg (by omega)]; exact H.out j hj
    · revert hj
      dsimp only
      rw [eu]; split
      · intro e; exact absurd e (by show (1 : Int) ≠ 0; omega)
      · split
        · intro e; exact absurd e (by show (1 : Int) ≠ 0; omega)
        · exact H.nn j
    · dsimp only
      rw [eu]; split
      · show (0 : Int) ≤ 1 ∧ (1 : Int) ≤ 1000; omega
      · split
        · show (0 : Int) ≤ 1 ∧ (1 : Int) ≤ 1000; omega
        · exact H.h j
    · revert hj
      dsimp only
      rw [eu]; split
      · intro _; exact .inr (.inr rfl)
      · split
        · intro _; exact .inr (.inl rfl)
        · exact H.k j
    · dsimp only
      rw [eu]; split
      · show (0 : Int) ≤ 0 ∧ (0 : Int) ≤ 1048576; omega
      · split
        · show (0 : Int) ≤ 0 ∧ (0 : Int) ≤ 1048576; omega
        · exact H.off j
    · dsimp only
      rw [eu]; split
      · exact ⟨i, rfl⟩
      · split
        · exact ⟨i, rfl⟩
        · exact H.of j
    · dsimp only
      rw [ec, if_neg (by omega), if_neg (by omega)]; exact H.hc n
    · dsimp only
      rw [ec, ep]
      have := H.r n
      by_cases e : n = i
      · subst e; simp; omega
      · have : ¬ (i : Int) = (n : Int) := by omega
        simp [e, this]; exact H.r n
    · dsimp only
      rw [ec, ep]
      have := H.w n
      by_cases e : n = i
      · subst e; simp; omega
      · have : ¬ (i : Int) = (n : Int) := by omega
        simp [e, this]; exact H.w n
    · dsimp only
      have hw := H.ws hkp n
      rw [ec, ep]
      by_cases e : n = i
      · subst e
        simp; omega
      · have : ¬ (i : Int) = (n : Int) := by omega
        simp [e, this]; exact hw
    · dsimp only
      rw [ep]; split
      · exact ⟨by simp, by simp, rfl⟩
      · exact H.pq n
    · dsimp only
      rw [ep, if_neg (by omega)]; exact H.po n hn
  · exact H

theorem read_le {F : Fs} (H : FOk F) (n off c : Int) (h : 0 ≤ off ∧ off ≤ 1048576) : 0 ≤ off + ((F.read n off c).1.length : Int) ∧ off + ((F.read n off c).1.length : Int) ≤ 1048576 := by
  refine ⟨by omega, ?_⟩
  unfold Fs.read
  split
  · show off + ((0 : Nat) : Int) ≤ _; omega
  split
  · show off + ((0 : Nat) : Int) ≤ _; omega
  · have := (H.c n.toNat).1
    show off + (((((F.P n.toNat).c.drop off.toNat).take c.toNat).length : Nat) : Int) ≤ _
    rw [List.length_take, List.length_drop]
    omega
theorem TOk.read {T : Ft} (H : TOk T) (n c : Int) : TOk (T.read n c).1 := by
  unfold Ft.read
  split
  · exact H
  rename_i hh
  obtain ⟨i, rfl, h1, h2, h3, _⟩ := Ft.has_lt (by simpa using hh)
  split
  · exact H.below H.F (SH.refl _) (PS.read _ _ _)
  · rw [Int.toNat_natCast]
    exact H.turn H.F (SH.refl _) (PS.refl _) i h1 h2 h3 _ rfl rfl (by have := H.h i; show 1 ≤ (T.O i).h ∧ (T.O i).h ≤ 1000; omega) (read_le H.F _ _ _ (H.off i))
theorem size_le {F : Fs} (H : FOk F) (n : Nat) : F.size n ≤ 102 := by
  unfold Fs.size
  have := (H.c n).1
  have := H.len n
  omega
theorem write_le {F : Fs} (n off : Int) (b : List Int) (h : 0 ≤ off ∧ off ≤ 1048576) : 0 ≤ off + (F.write n off b).2.1 ∧ off + (F.write n off b).2.1 ≤ 1048576 := by
  unfold Fs.write
  split
  · show 0 ≤ off + 0 ∧ off + 0 ≤ _; omega
  split
  · show 0 ≤ off + 0 ∧ off + 0 ≤ _; omega
  split
  · show 0 ≤ off + 0 ∧ off + 0 ≤ _; omega
  split
  · show 0 ≤ off + 0 ∧ off + 0 ≤ _; omega
  split
  · show 0 ≤ off + 0 ∧ off + 0 ≤ _; omega
  · show 0 ≤ off + (b.length : Int) ∧ off + (b.length : Int) ≤ _; omega
theorem Ft.from_le {T : Ft} (H : TOk T) (i : Nat) : 0 ≤ T.from_ (T.O i) ∧ T.from_ (T.O i) ≤ 1048576 := by
  unfold Ft.from_
  split
  · have := size_le H.F (T.O i).of.toNat
    omega
  · exact H.off i
theorem TOk.write {T : Ft} (H : TOk T) (n : Int) (b : List Int) (hb : ∀ z ∈ b, 0 ≤ z ∧ z < 256) : TOk (T.write n b).1 := by
  unfold Ft.write
  split
  · exact H
  rename_i hh
  obtain ⟨i, rfl, h1, h2, h3, _⟩ := Ft.has_lt (by simpa using hh)
  split
  · exact H.below H.F (SH.refl _) (PS.write _ _ _)
  split
  · exact H
  · rw [Int.toNat_natCast]
    exact H.turn (H.F.write _ _ _ hb) (SH.write _ _ _ _) (PS.refl _) i h1 h2 h3 _ rfl rfl (by have := H.h i; show 1 ≤ (T.O i).h ∧ (T.O i).h ≤ 1000; omega) (write_le _ _ _ (Ft.from_le H i))
theorem TOk.hold {T : Ft} (H : TOk T) (n : Int) : TOk (T.hold n).1 := by
  unfold Ft.hold
  split
  · exact H
  rename_i hh
  obtain ⟨i, rfl, h1, h2, h3⟩ := Ft.there_lt (by simpa using hh)
  split
  · exact H
  · rename_i e
    rw [Int.toNat_natCast] at e ⊢
    exact H.turn H.F (SH.refl _) (PS.refl _) i h1 h2 h3 _ rfl rfl (by have := H.h i; show 1 ≤ (T.O i).h + 1 ∧ (T.O i).h + 1 ≤ 1000; omega) (H.off i)

/-- The last descriptor of an open file goes. -/
theorem TOk.less {T : Ft} (H : TOk T) {F' : Fs} {P' : Nat → Pi.Pp} (i : Nat) (h1 : 1 ≤ i) (hi : i < 11) (h0 : (T.O i).h ≠ 0) (hF : FOk F') (hd : F'.d = T.F.d)
    (hh : ∀ n : Nat, (F'.P n).h + (if (T.O i).k = 1 ∧ (T.O i).of = (n : Int) then 1 else 0) = (T.F.P n).h) (hr : ∀ n : Nat, (P' n).r + (if (T.O i).k = 2 ∧ (T.O i).of = (n : Int) then 1 else 0) = (T.P n).r)
    (hw : ∀ n : Nat, (P' n).w ≤ (T.P n).w ∧ (T.P n).w ≤ (P' n).w + (if (T.O i).k = 3 ∧ (T.O i).of = (n : Int) then 1 else 0)) (hw2 : T.kp = false → ∀ n : Nat, (P' n).w + (if (T.O i).k = 3 ∧ (T.O i).of = (n : Int) then 1 else 0) = (T.P n).w)
    (hq : ∀ n, (P' n).q.length ≤ 8 ∧ Pi.clr (P' n) = P' n) (ho : ∀ n, n = 0 ∨ 5 ≤ n → P' n = ⟨0, 0, []⟩) : TOk ⟨F', P', updF T.O i noFl⟩ := by
  have ec := fun k n => cF_gone (O := T.O) hi h0 k n
  have eu : ∀ j, updF T.O i noFl j = if j = i then noFl else T.O j := fun j => rfl
  refine ⟨hF, fun j hj => ?_, fun j hj => ?_, fun j => ?_, fun j hj => ?_, fun j => ?_, fun j => ?_, fun n => ?_, fun n => ?_, fun n => ?_, fun hkp n => ?_, fun n => ⟨(hq n).1, ?_, (hq n).2⟩, ho⟩
  · show updF T.O i noFl j = noFl
    rw [eu]; split
    · rfl
    · exact H.out j hj
  · revert hj
    show (updF T.O i noFl j).h = 0 → updF T.O i noFl j = noFl
    rw [eu]; split
    · intro _; rfl
    · exact H.nn j
  · show 0 ≤ (updF T.O i noFl j).h ∧ (updF T.O i noFl j).h ≤ 1000
    rw [eu]; split
    · show (0 : Int) ≤ 0 ∧ (0 : Int) ≤ 1000; omega
    · exact H.h j
  · revert hj
    show (updF T.O i noFl j).h ≠ 0 → (updF T.O i noFl j).k = 1 ∨ (updF T.O i noFl j).k = 2 ∨ (updF T.O i noFl j).k = 3
    rw [eu]; split
    · intro e; exact absurd rfl e
    · exact H.k j
  · show 0 ≤ (updF T.O i noFl j).off ∧ (updF T.O i noFl j).off ≤ 1048576
    rw [eu]; split
    · show (0 : Int) ≤ 0 ∧ (0 : Int) ≤ 1048576; omega
    · exact H.off j
  · show ∃ m : Nat, (updF T.O i noFl j).of = (m : Int)
    rw [eu]; split
    · exact ⟨0, rfl⟩
    · exact H.of j
  · show (F'.P n).h = (cF (updF T.O i noFl) 1 n : Int)
    have e1 := ec 1 n
    have e2 := hh n
    have e3 := H.hc n
    by_cases q : (T.O i).k = 1 ∧ (T.O i).of = (n : Int)
    · rw [if_pos q] at e1 e2; omega
    · rw [if_neg q] at e1 e2; omega
  · show (P' n).r = cF (updF T.O i noFl) 2 n
    have := ec 2 n
    have := hr n
    have := H.r n
    omega
  · show cF (updF T.O i noFl) 3 n ≤ (P' n).w
    have := ec 3 n
    have := hw n
    have := H.w n
    omega
  · show (P' n).w = cF (updF T.O i noFl) 3 n
    have hk : T.kp = false := by
      have : Ft.kp ⟨F', P', updF T.O i noFl⟩ = T.kp := by unfold Ft.kp; rw [hd]
      rw [this] at hkp; exact hkp
    have := ec 3 n
    have := hw2 hk n
    have := H.ws hk n
    omega
  · have := (hw n).1
    have := (H.pq n).2.1
    show (P' n).w ≤ 1
    omega

end Go.Proofs.YtbglhmcahnkbfaaGreat

/- What is true of open files stays true: Drop, the calls of names. -/
namespace Go.Proofs.YtbglhmcahnkbfaaGreat
set_option linter.unusedVariables false

theorem clr_rw (x : Pi.Pp) : (Pi.clr x).r = x.r ∧ (Pi.clr x).w = x.w ∧ ((Pi.clr x).q = x.q ∨ (Pi.clr x).q = []) ∧ Pi.clr (Pi.clr x) = Pi.clr x := by
  unfold Pi.clr
  split
  · rename_i h
    exact ⟨rfl, rfl, .inl rfl, by first | rfl | simp [h]⟩
  · rename_i h
    unfold Pi.Pp.there at h
    simp at h
    exact ⟨by first | rw [h.1] | simp [h.1], by first | rw [h.2] | simp [h.2], .inr rfl, rfl⟩

/-- An end that somebody holds is dropped. -/
theorem dropP_yes {T : Ft} (H : TOk T) (m : Nat) (b : Bool) (he : 1 ≤ (T.P m).ends b) : Pi.dropE T.P m b = 0 ∧ 1 ≤ m ∧ m ≤ 4 ∧ Pi.dropP T.kp T.P m b = if (b && T.kp) = true then T.P else Pi.updP T.P m (Pi.clr ((T.P m).setEnds b ((T.P m).ends b - 1))) := by
  have hm : 1 ≤ m ∧ m ≤ 4 := by
    by_cases e : m = 0 ∨ 5 ≤ m
    · rw [H.po m e] at he
      unfold Pi.Pp.ends at he
      cases b <;> simp at he
    · omega
  have ht : (T.P m).there = true := by
    unfold Pi.Pp.ends at he
    unfold Pi.Pp.there
    cases b <;> simp at he ⊢ <;> omega
  have hh : Pi.has T.P m = true := by
    unfold Pi.has
    rw [Int.toNat_natCast, ht]
    simp; omega
  refine ⟨?_, hm.1, hm.2, ?_⟩
  · unfold Pi.dropE
    rw [if_pos hh, Int.toNat_natCast, if_neg (by omega)]
  · unfold Pi.dropP
    rw [if_pos hh, Int.toNat_natCast, if_neg (by omega)]

theorem TOk.drop_end {T : Ft} (H : TOk T) (i : Nat) (h1 : 1 ≤ i) (hi : i < 11) (h0 : (T.O i).h ≠ 0) (hk : (T.O i).k = 2 ∨ (T.O i).k = 3) : Pi.dropE T.P (T.O i).of (decide ((T.O i).k = 3)) = 0 ∧ TOk ⟨T.F, Pi.dropP T.kp T.P (T.O i).of (decide ((T.O i).k = 3)), updF T.O i noFl⟩ := by
  obtain ⟨m, hm⟩ := H.of i
  have hc := cF_mem hi h0 m hm
  rw [hm]
  rcases hk with k2 | k3
  · have hb : decide ((T.O i).k = 3) = false := by simp [k2]
    rw [k2] at hc
    have n1 : ∀ n : Nat, ¬ ((T.O i).k = 1 ∧ (T.O i).of = (n : Int)) := fun n => by omega
    have n3 : ∀ n : Nat, ¬ ((T.O i).k = 3 ∧ (T.O i).of = (n : Int)) := fun n => by omega
    have hr := H.r m
    obtain ⟨d1, m1, m4, d2⟩ := dropP_yes H m false (by unfold Pi.Pp.ends; simp; omega)
    rw [hb]
    refine ⟨d1, ?_⟩
    rw [d2, if_neg (by simp)]
    have ep : ∀ n, Pi.updP T.P m (Pi.clr ((T.P m).setEnds false ((T.P m).ends false - 1))) n = if n = m then Pi.clr ((T.P m).setEnds false ((T.P m).ends false - 1)) else T.P n := fun _ => rfl
    obtain ⟨q1, q2, q3, q4⟩ := clr_rw ((T.P m).setEnds false ((T.P m).ends false - 1))
    refine H.less i h1 hi h0 H.F rfl (fun n => ?_) (fun n => ?_) (fun n => ?_) (fun _ n => ?_) (fun n => ?_) (fun n hn => ?_)
    · rw [if_neg (n1 n)]; omega
    · rw [ep]
      by_cases e : n = m
      · subst e
        rw [if_pos rfl, if_pos ⟨k2, hm⟩, q1]
        show (T.P n).r - 1 + 1 = _
        omega
      · rw [if_neg e, if_neg (by rw [hm]; omega)]; omega
    · rw [ep, if_neg (n3 n)]
      by_cases e : n = m
      · subst e
        rw [if_pos rfl, q2]
        show (T.P n).w ≤ _ ∧ _ ≤ (T.P n).w + 0
        omega
      · rw [if_neg e]; omega
    · rw [ep, if_neg (n3 n)]
      by_cases e : n = m
      · subst e
        rw [if_pos rfl, q2]
        show (T.P n).w + 0 = _
        omega
      · rw [if_neg e]; omega
    · rw [ep]; split
      · refine ⟨?_, q4⟩
        rcases q3 with q3 | q3
        · rw [q3]; exact (H.pq m).1
        · rw [q3]; exact Nat.zero_le _
      · exact ⟨(H.pq n).1, (H.pq n).2.2⟩
    · rw [ep, if_neg (by omega)]; exact H.po n hn
  · have hb : decide ((T.O i).k = 3) = true := by simp [k3]
    rw [k3] at hc
    have n1 : ∀ n : Nat, ¬ ((T.O i).k = 1 ∧ (T.O i).of = (n : Int)) := fun n => by omega
    have n2 : ∀ n : Nat, ¬ ((T.O i).k = 2 ∧ (T.O i).of = (n : Int)) := fun n => by omega
    have hw := H.w m
    obtain ⟨d1, m1, m4, d2⟩ := dropP_yes H m true (by unfold Pi.Pp.ends; simp; omega)
    rw [hb]
    refine ⟨d1, ?_⟩
    rw [d2]
    cases hkp : T.kp
    · rw [if_neg (by simp)]
      have ep : ∀ n, Pi.updP T.P m (Pi.clr ((T.P m).setEnds true ((T.P m).ends true - 1))) n = if n = m then Pi.clr ((T.P m).setEnds true ((T.P m).ends true - 1)) else T.P n := fun _ => rfl
      obtain ⟨q1, q2, q3, q4⟩ := clr_rw ((T.P m).setEnds true ((T.P m).ends true - 1))
      refine H.less i h1 hi h0 H.F rfl (fun n => ?_) (fun n => ?_) (fun n => ?_) (fun _ n => ?_) (fun n => ?_) (fun n hn => ?_)
      · rw [if_neg (n1 n)]; omega
      · rw [ep, if_neg (n2 n)]
        by_cases e : n = m
        · subst e
          rw [if_pos rfl, q1]
          show (T.P n).r + 0 = _
          omega
        · rw [if_neg e]; omega
      · rw [ep]
        by_cases e : n = m
        · subst e
          rw [if_pos rfl, if_pos ⟨k3, hm⟩, q2]
          show (T.P n).w - 1 ≤ _ ∧ _ ≤ (T.P n).w - 1 + 1
          omega
        · rw [if_neg e, if_neg (by rw [hm]; omega)]; omega
      · rw [ep]
        by_cases e : n = m
        · subst e
          rw [if_pos rfl, if_pos ⟨k3, hm⟩, q2]
          show (T.P n).w - 1 + 1 = _
          omega
        · rw [if_neg e, if_neg (by rw [hm]; omega)]; omega
      · rw [ep]; split
        · refine ⟨?_, q4⟩
          rcases q3 with q3 | q3
          · rw [q3]; exact (H.pq m).1
          · rw [q3]; exact Nat.zero_le _
        · exact ⟨(H.pq n).1, (H.pq n).2.2⟩
      · rw [ep, if_neg (by omega)]; exact H.po n hn
    · rw [if_pos (by simp)]
      refine H.less i h1 hi h0 H.F rfl (fun n => ?_) (fun n => ?_) (fun n => ?_) (fun hf n => ?_) (fun n => ⟨(H.pq n).1, (H.pq n).2.2⟩) H.po
      · rw [if_neg (n1 n)]; omega
      · rw [if_neg (n2 n)]; omega
      · split <;> omega
      · rw [hf] at hkp; cases hkp

theorem TOk.drop {T : Ft} (H : TOk T) (n : Int) : TOk (T.drop n).1 := by
  unfold Ft.drop
  split
  · exact H
  rename_i hh
  obtain ⟨i, rfl, h1, hi, h0⟩ := Ft.there_lt (by simpa using hh)
  rw [Int.toNat_natCast]
  split
  · rename_i e
    exact H.turn H.F (SH.refl _) (PS.refl _) i h1 hi h0 _ rfl rfl (by have := H.h i; show 1 ≤ (T.O i).h - 1 ∧ (T.O i).h - 1 ≤ 1000; omega) (H.off i)
  split
  · rename_i e k1
    obtain ⟨m, hm⟩ := H.of i
    have hc := cF_mem hi h0 m hm
    rw [k1] at hc
    have n2 : ∀ n : Nat, ¬ ((T.O i).k = 2 ∧ (T.O i).of = (n : Int)) := fun n => by omega
    have n3 : ∀ n : Nat, ¬ ((T.O i).k = 3 ∧ (T.O i).of = (n : Int)) := fun n => by omega
    have hp : 0 < (T.F.P m).h := by rw [H.hc m]; omega
    obtain ⟨_, d2⟩ := drop_h H.F hp
    rw [hm]
    refine H.less i h1 hi h0 (H.F.drop _) (drop_d _ _) (fun n => ?_) (fun n => ?_) (fun n => ?_) (fun _ n => ?_) (fun n => ⟨(H.pq n).1, (H.pq n).2.2⟩) H.po
    · rw [d2]
      by_cases e : n = m
      · subst e
        rw [if_pos rfl, if_pos ⟨k1, hm⟩]; omega
      · rw [if_neg e, if_neg (by rw [hm]; omega)]; omega
    · rw [if_neg (n2 n)]; omega
    · rw [if_neg (n3 n)]; omega
    · rw [if_neg (n3 n)]; omega
  · rename_i e k1
    exact (H.drop_end i h1 hi h0 (by rcases H.k i h0 with k | k | k; exact absurd k k1; exact .inl k; exact .inr k)).2

theorem Ft.nameF_ok {F : Fs} (H : FOk F) (c : Int) (l m : List UInt8) : FOk (Ft.nameF F c l m).1 ∧ SH F (Ft.nameF F c l m).1 := by
  unfold Ft.nameF
  split
  · exact ⟨H.unlink l, SH.unlink H l⟩
  split
  · exact ⟨H.make l 2, SH.make H l 2⟩
  split
  · exact ⟨H.rmdir l, SH.rmdir H l⟩
  split
  · exact ⟨H.link l m, SH.link l m⟩
  split
  · exact ⟨H.rename l m, SH.rename H l m⟩
  · exact ⟨H, SH.refl F⟩
theorem TOk.name {T : Ft} (H : TOk T) (c : Int) (l m : List UInt8) : TOk (T.name c l m).1 := by
  obtain ⟨a, b⟩ := Ft.nameF_ok H.F c l m
  exact H.below a b (PS.refl _)
theorem TOk.new (d : Int) : TOk (newT d) := by
  have hP : ∀ i, ((rootF d).P i).h = 0 := fun i => by
    show (if i = 1 then Fn.nu 2 else Fn.no).h = 0
    split <;> rfl
  have hc : ∀ k n, cF (fun _ => noFl) k n = 0 := fun k n => by
    unfold cF
    rw [List.countP_eq_zero]
    intro i _
    simp [noFl]
  refine ⟨rootF_ok d, fun _ _ => rfl, fun _ _ => rfl, fun _ => by show (0 : Int) ≤ 0 ∧ (0 : Int) ≤ 1000; omega, fun i h => absurd rfl h, fun _ => by show (0 : Int) ≤ 0 ∧ (0 : Int) ≤ 1048576; omega, fun _ => ⟨0, rfl⟩, fun n => ?_, fun n => ?_, fun n => ?_, fun _ n => ?_, fun n => ⟨Nat.zero_le _, Nat.zero_le _, rfl⟩, fun _ _ => rfl⟩
  · show ((rootF d).P n).h = ((cF (fun _ => noFl) 1 n : Nat) : Int)
    rw [hc, hP]; rfl
  · show 0 = cF (fun _ => noFl) 2 n
    rw [hc]
  · show cF (fun _ => noFl) 3 n ≤ 0
    rw [hc]; exact Nat.le_refl _
  · show 0 = cF (fun _ => noFl) 3 n
    rw [hc]

end Go.Proofs.YtbglhmcahnkbfaaGreat

/- The document's open files as they lie: one block of three cells, one of 55, its file system, its pipes. -/
namespace Go.Proofs.YtbglhmcahnkbfaaGreat
open Go.RowKit Go.ChangeMaps Go.MapKept
set_option linter.unusedVariables false
set_option maxRecDepth 20000

/-- The document's file system, in blocks D. -/
def Nf (w : World) (x : Nat) (F : Fs) (D : Nat → Prop) : Prop := ∃ g u V, Rf w x g u V F ∧ ∀ b, RfFoot x g u V b → D b
theorem Nf.upd {U : Nat → Prop} {w w' : World} {x : Nat} {F : Fs} {D : Nat → Prop} (h : Nf w x F D) (q : Upd U w w') (hU : ∀ b, b < w.heap.size → D b → ¬ U b) : Nf w' x F D := by
  obtain ⟨g, u, V, h1, h2⟩ := h
  exact ⟨g, u, V, h1.upd q (fun b hb => hU b (h1.foot_lt b hb) (h2 b hb)), h2⟩
theorem Nf.mono {w : World} {x : Nat} {F : Fs} {D D' : Nat → Prop} (h : Nf w x F D) (k : ∀ b, b < w.heap.size → D b → D' b) : Nf w x F D' := by
  obtain ⟨g, u, V, h1, h2⟩ := h
  exact ⟨g, u, V, h1, fun b hb => k b (h1.foot_lt b hb) (h2 b hb)⟩
def NfTo (w : World) (x : Nat) (F : Fs) (D : Nat → Prop) (w' : World) : Prop := Nf w' x F (fun b => D b ∨ w.heap.size ≤ b) ∧ Upd D w w'
theorem NfTo.of {w w' : World} {x g u : Nat} {V : Nat → Value} {F : Fs} {D : Nat → Prop} (hD : ∀ b, RfFoot x g u V b → D b) (k : RfTo w x g u V F w') : NfTo w x F D w' := by
  obtain ⟨V', a, b, c⟩ := k
  exact ⟨⟨g, u, V', a, fun z hz => (c z hz).imp (hD z) id⟩, b.mono (fun z _ hz => hD z hz)⟩

/-- The document's pipes, in blocks D. -/
def PdFoot (q g : Nat) (A : Nat → Option Addr × Nat) (P : Nat → Pi.Pp) (b : Nat) : Prop := b = q ∨ b = g ∨ ∃ i, i < 5 ∧ (Pi.rsl A P i).ownBlock = some b
def Pd (w : World) (q : Nat) (d : Int) (P : Nat → Pi.Pp) (D : Nat → Prop) : Prop := ∃ B g A, Pi.Rt B w q g d A P ∧ ∀ b, PdFoot q g A P b → D b
theorem PdFoot.lt {B : Nat} {w : World} {q g : Nat} {d : Int} {A : Nat → Option Addr × Nat} {P : Nat → Pi.Pp} (h : Pi.Rt B w q g d A P) (b : Nat) (hb : PdFoot q g A P b) : b < w.heap.size := by
  rcases hb with rfl | rfl | ⟨i, hi, e⟩
  · exact h.qlt
  · exact h.glt
  · exact ((h.own i hi).lt b e).2
theorem Pd.upd {U : Nat → Prop} {w w' : World} {q : Nat} {d : Int} {P : Nat → Pi.Pp} {D : Nat → Prop} (h : Pd w q d P D) (u : Upd U w w') (hU : ∀ b, b < w.heap.size → D b → ¬ U b) : Pd w' q d P D := by
  obtain ⟨B, g, A, h1, h2⟩ := h
  have k : ∀ b, PdFoot q g A P b → ¬ U b := fun b hb => hU b (PdFoot.lt h1 b hb) (h2 b hb)
  exact ⟨B, g, A, h1.upd u (k q (.inl rfl)) (k g (.inr (.inl rfl))) (fun i hi b e => k b (.inr (.inr ⟨i, hi, e⟩))), h2⟩
theorem Pd.mono {w : World} {q : Nat} {d : Int} {P : Nat → Pi.Pp} {D D' : Nat → Prop} (h : Pd w q d P D) (k : ∀ b, b < w.heap.size → D b → D' b) : Pd w q d P D' := by
  obtain ⟨B, g, A, h1, h2⟩ := h
  exact ⟨B, g, A, h1, fun b hb => k b (PdFoot.lt h1 b hb) (h2 b hb)⟩
def PdTo (w : World) (q : Nat) (d : Int) (P : Nat → Pi.Pp) (D : Nat → Prop) (w' : World) : Prop := Pd w' q d P (fun b => D b ∨ w.heap.size ≤ b) ∧ Upd D w w'
theorem PdTo.own {B : Nat} {w w' : World} {q g : Nat} {d : Int} {A : Nat → Option Addr × Nat} {P P' : Nat → Pi.Pp} {D : Nat → Prop} (hD : ∀ b, PdFoot q g A P b → D b) (k : ∃ A', Pi.Rt B w' q g d A' P' ∧ Pi.OwnIn A P A' P') (u : Upd (· = g) w w') : PdTo w q d P' D w' := by
  obtain ⟨A', h1, h2⟩ := k
  refine ⟨⟨B, g, A', h1, fun b hb => ?_⟩, u.mono (fun b _ e => hD b (.inr (.inl e)))⟩
  rcases hb with e | e | ⟨i, hi, e⟩
  · exact .inl (hD b (.inl e))
  · exact .inl (hD b (.inr (.inl e)))
  · exact .inl (hD b (.inr (.inr ⟨i, hi, h2 i hi b e⟩)))
theorem PdTo.left {B : Nat} {w w' : World} {q g : Nat} {d : Int} {A : Nat → Option Addr × Nat} {P P' : Nat → Pi.Pp} {D : Nat → Prop} (hD : ∀ b, PdFoot q g A P b → D b) (k : Pi.Left B w w' q g d A P P') : PdTo w q d P' D w' := by
  obtain ⟨⟨A', h1, h2⟩, u⟩ := k
  refine ⟨⟨B, g, A', h1, fun b hb => ?_⟩, u.mono (fun b _ e => hD b (.inr (.inl e)))⟩
  rcases hb with e | e | ⟨i, hi, e⟩
  · exact .inl (hD b (.inl e))
  · exact .inl (hD b (.inr (.inl e)))
  · exact (h2 i hi b e).imp (fun h => hD b (.inr (.inr ⟨i, hi, h⟩))) id

/-- The files' cells. -/
structure Gls (C : List Value) (O : Nat → Fl) : Prop where
  len : C.length = 55
  at_ : ∀ i, i < 11 → ∀ j, j < 5 → C[i * 5 + j]? = (flC (O i))[j]?
def Gf (w : World) (g : Nat) (O : Nat → Fl) : Prop := ∃ C, w.heap[g]? = some (.cells (List.toArray C) 109 (0, 0)) ∧ Gls C O
section
variable {w w' : World} {g : Nat} {O : Nat → Fl}
theorem cell_g {w : World} {p j : Nat} {C : List Value} {v : Value} (h : w.heap[p]? = some (.cells C.toArray 109 (0, 0))) (hc : C[j]? = some v) : w.cell? ⟨p, j, none⟩ = some v := by
  rw [cell_of_row w p j _ 109 (0, 0) h]; simpa using hc
theorem Gf.lt (h : Gf w g O) : g < w.heap.size := by obtain ⟨C, h, _⟩ := h; exact (Array.getElem?_eq_some_iff.1 h).1
theorem Gf.upd {U : Nat → Prop} (h : Gf w g O) (u : Upd U w w') (hU : ¬ U g) : Gf w' g O := by obtain ⟨C, h, hc⟩ := h; exact ⟨C, u.heap h hU, hc⟩
theorem Gf.c0 (h : Gf w g O) (i : Nat) (hi : i < 11) : w.cell? ⟨g, i * 5, none⟩ = some (.int .i64 (O i).k) := by obtain ⟨C, h, hc⟩ := h; exact cell_g h (hc.at_ i hi 0 (by omega))
theorem Gf.c1 (h : Gf w g O) (i : Nat) (hi : i < 11) : w.cell? ⟨g, i * 5 + 1, none⟩ = some (.int .i64 (O i).of) := by obtain ⟨C, h, hc⟩ := h; exact cell_g h (hc.at_ i hi 1 (by omega))
theorem Gf.c2 (h : Gf w g O) (i : Nat) (hi : i < 11) : w.cell? ⟨g, i * 5 + 2, none⟩ = some (.int .i64 (O i).off) := by obtain ⟨C, h, hc⟩ := h; exact cell_g h (hc.at_ i hi 2 (by omega))
theorem Gf.c3 (h : Gf w g O) (i : Nat) (hi : i < 11) : w.cell? ⟨g, i * 5 + 3, none⟩ = some (.int .i64 (O i).fl) := by obtain ⟨C, h, hc⟩ := h; exact cell_g h (hc.at_ i hi 3 (by omega))
theorem Gf.c4 (h : Gf w g O) (i : Nat) (hi : i < 11) : w.cell? ⟨g, i * 5 + 4, none⟩ = some (.int .i64 (O i).h) := by obtain ⟨C, h, hc⟩ := h; exact cell_g h (hc.at_ i hi 4 (by omega))
theorem Gf.fz (h : Gf w g O) (j : Nat) : w.frozen? ⟨g, j, none⟩ = false := by obtain ⟨C, h, hc⟩ := h; simp [World.frozen?, h]
theorem Gf.th (h : Gf w g O) (i : Nat) (hi : i < 11) : w.there g (i * 5) 5 := by obtain ⟨C, h, hc⟩ := h; exact there_of_block h _ _ (by rw [hc.len]; omega)
theorem Gls.put {C C' : List Value} {O : Nat → Fl} (h : Gls C O) (i : Nat) (hi : i < 11) (x : Fl) (hl : C'.length = 55)
    (out : ∀ j, j < i * 5 ∨ i * 5 + 5 ≤ j → C'[j]? = C[j]?) (inn : ∀ j, j < 5 → C'[i * 5 + j]? = (flC x)[j]?) : Gls C' (updF O i x) := by
  refine ⟨hl, ?_⟩
  intro k hk j hj
  by_cases e : k = i
  · subst e; rw [updF_same]; exact inn j hj
  · rw [updF_ne _ _ _ _ e, out _ (by omega)]; exact h.at_ k hk j hj
theorem Gf.put (h : Gf w g O) (i : Nat) (hi : i < 11) (x : Fl) : Gf (w.setCells g (i * 5) (flC x)) g (updF O i x) := by
  obtain ⟨C, hb, hc⟩ := h
  have hl := hc.len
  have hs : i * 5 + (flC x).length ≤ C.length := by rw [hl]; simp [flC]; omega
  exact ⟨_, heap_setCells g 109 (flC x) _ w C hb hs, hc.put i hi x (by rw [length_splice _ _ _ hs, hl]) (fun j hj => getElem?_splice_out _ _ _ _ hs (by simpa [flC] using hj)) (fun j hj => getElem?_splice_in C (flC x) (i * 5) j hs hj)⟩
theorem Gf.one (h : Gf w g O) (i : Nat) (hi : i < 11) (k : Nat) (hk : k < 5) (v : Value) (x : Fl) (hx : (flC x)[k]? = some v) (hy : ∀ j, j < 5 → j ≠ k → (flC x)[j]? = (flC (O i))[j]?) : Gf (w.setCell ⟨g, i * 5 + k, none⟩ v) g (updF O i x) := by
  obtain ⟨C, hb, hc⟩ := h
  have hl := hc.len
  refine ⟨C.set (i * 5 + k) v, by rw [heap_setCell_same w g _ C.toArray _ _ hb]; simp, hc.put i hi _ (by simp [hl]) (fun j hj => by rw [List.getElem?_set_ne (by omega)]) (fun j hj => ?_)⟩
  by_cases e : j = k
  · subst e; rw [List.getElem?_set_self (by omega), hx]
  · rw [List.getElem?_set_ne (by omega), hc.at_ i hi j hj, hy j hj e]
theorem Gf.heldTo (h : Gf w g O) (i : Nat) (hi : i < 11) (v : Int) : Gf (w.setCell ⟨g, i * 5 + 4, none⟩ (.int .i64 v)) g (updF O i { O i with h := v }) :=
  h.one i hi 4 (by omega) _ _ rfl (fun j hj hk => by obtain rfl | rfl | rfl | rfl : j = 0 ∨ j = 1 ∨ j = 2 ∨ j = 3 := by omega
                                                     all_goals rfl)
end

/-- The document's table: x, its files g, its system s and pipes q, in blocks Dn and Dp. -/
structure Rs (w : World) (x g s q : Nat) (Dn Dp : Nat → Prop) (T : Ft) : Prop where
  hx : w.heap[x]? = some (.cells #[.slice (some ⟨g, 0, none⟩) 11 11, .pointer (some ⟨s, 0, none⟩), .pointer (some ⟨q, 0, none⟩)] 75 (0, 0))
  gf : Gf w g T.O
  nf : Nf w s T.F Dn
  pd : Pd w q T.F.d T.P Dp
  ln : ∀ b, Dn b → b < w.heap.size
  lp : ∀ b, Dp b → b < w.heap.size
  dj : ∀ b, Dn b → ¬ Dp b
  xg : x ≠ g
  xn : ¬ Dn x
  xp : ¬ Dp x
  gn : ¬ Dn g
  gp : ¬ Dp g
def RFoot (x g : Nat) (Dn Dp : Nat → Prop) (b : Nat) : Prop := b = x ∨ b = g ∨ Dn b ∨ Dp b
section
variable {w w' : World} {x g s q : Nat} {Dn Dp : Nat → Prop} {T : Ft}
theorem Rs.xlt (h : Rs w x g s q Dn Dp T) : x < w.heap.size := (Array.getElem?_eq_some_iff.1 h.hx).1
theorem Rs.cl (h : Rs w x g s q Dn Dp T) : w.cell? ⟨x, 0, none⟩ = some (.slice (some ⟨g, 0, none⟩) 11 11) := by rw [cell_of_row w x 0 _ _ _ h.hx]; rfl
theorem Rs.cs (h : Rs w x g s q Dn Dp T) : w.cell? ⟨x, 1, none⟩ = some (.pointer (some ⟨s, 0, none⟩)) := by rw [cell_of_row w x 1 _ _ _ h.hx]; rfl
theorem Rs.cq (h : Rs w x g s q Dn Dp T) : w.cell? ⟨x, 2, none⟩ = some (.pointer (some ⟨q, 0, none⟩)) := by rw [cell_of_row w x 2 _ _ _ h.hx]; rfl
theorem Rs.upd {U : Nat → Prop} (h : Rs w x g s q Dn Dp T) (u : Upd U w w') (hU : ∀ b, b < w.heap.size → RFoot x g Dn Dp b → ¬ U b) : Rs w' x g s q Dn Dp T :=
  ⟨u.heap h.hx (hU x h.xlt (.inl rfl)), h.gf.upd u (hU g h.gf.lt (.inr (.inl rfl))), h.nf.upd u (fun b hb hD => hU b hb (.inr (.inr (.inl hD)))), h.pd.upd u (fun b hb hD => hU b hb (.inr (.inr (.inr hD)))), fun b hb => Nat.lt_of_lt_of_le (h.ln b hb) u.size, fun b hb => Nat.lt_of_lt_of_le (h.lp b hb) u.size, h.dj, h.xg, h.xn, h.xp, h.gn, h.gp⟩
theorem Rs.grow (h : Rs w x g s q Dn Dp T) (u : Below w.heap.size w w') : Rs w' x g s q Dn Dp T := h.upd (Upd.of_below (F := fun _ => False) u) (fun _ _ _ h => h)
theorem Rs.drew (h : Rs w x g s q Dn Dp T) : Rs w.drew x g s q Dn Dp T := h.grow (Below.refl _ _).drew
theorem Rs.sys {F' : Fs} (h : Rs w x g s q Dn Dp T) (k : NfTo w s F' Dn w') (hd : F'.d = T.F.d) : Rs w' x g s q (fun b => (Dn b ∨ w.heap.size ≤ b) ∧ b < w'.heap.size) Dp { T with F := F' } := by
  obtain ⟨k1, k2⟩ := k
  have l1 := h.xlt
  have l2 := h.gf.lt
  refine ⟨k2.heap h.hx h.xn, h.gf.upd k2 h.gn, k1.mono (fun b hb hD => ⟨hD, hb⟩), ?_, fun b hb => hb.2, fun b hb => Nat.lt_of_lt_of_le (h.lp b hb) k2.size, fun b hb hp => ?_, h.xg, fun e => ?_, h.xp, fun e => ?_, h.gp⟩
  · show Pd w' q F'.d T.P Dp
    rw [hd]
    exact h.pd.upd k2 (fun b hb hD hn => h.dj b hn hD)
  · have := h.lp b hp
    rcases hb.1 with e | e
    · exact h.dj b e hp
    · omega
  · rcases e.1 with e | e
    · exact h.xn e
    · omega
  · rcases e.1 with e | e
    · exact h.gn e
    · omega
theorem Rs.pip {P' : Nat → Pi.Pp} (h : Rs w x g s q Dn Dp T) (k : PdTo w q T.F.d P' Dp w') : Rs w' x g s q Dn (fun b => (Dp b ∨ w.heap.size ≤ b) ∧ b < w'.heap.size) { T with P := P' } := by
  obtain ⟨k1, k2⟩ := k
  have l1 := h.xlt
  have l2 := h.gf.lt
  refine ⟨k2.heap h.hx h.xp, h.gf.upd k2 h.gp, h.nf.upd k2 (fun b hb hD hp => h.dj b hD hp), k1.mono (fun b hb hD => ⟨hD, hb⟩), fun b hb => Nat.lt_of_lt_of_le (h.ln b hb) k2.size, fun b hb => hb.2, fun b hn hb => ?_, h.xg, h.xn, fun e => ?_, h.gn, fun e => ?_⟩
  · have := h.ln b hn
    rcases hb.1 with e | e
    · exact h.dj b hn e
    · omega
  · rcases e.1 with e | e
    · exact h.xp e
    · omega
  · rcases e.1 with e | e
    · exact h.gp e
    · omega
theorem Rs.fil {O' : Nat → Fl} (h : Rs w x g s q Dn Dp T) (k : Gf w' g O') (u : Upd (· = g) w w') : Rs w' x g s q Dn Dp { T with O := O' } :=
  ⟨u.heap h.hx h.xg, k, h.nf.upd u (fun b _ hD e => h.gn (e ▸ hD)), h.pd.upd u (fun b _ hD e => h.gp (e ▸ hD)), fun b hb => Nat.lt_of_lt_of_le (h.ln b hb) u.size, fun b hb => Nat.lt_of_lt_of_le (h.lp b hb) u.size, h.dj, h.xg, h.xn, h.xp, h.gn, h.gp⟩
end

/-- The document's open files, in blocks D. -/
def Td (w : World) (x : Nat) (T : Ft) (D : Nat → Prop) : Prop := ∃ g s q Dn Dp, Rs w x g s q Dn Dp T ∧ ∀ b, RFoot x g Dn Dp b → D b
theorem Td.mono {w : World} {x : Nat} {T : Ft} {D D' : Nat → Prop} (h : Td w x T D) (k : ∀ b, b < w.heap.size → D b → D' b) : Td w x T D' := by
  obtain ⟨g, s, q, Dn, Dp, h1, h2⟩ := h
  refine ⟨g, s, q, Dn, Dp, h1, fun b hb => k b ?_ (h2 b hb)⟩
  rcases hb with rfl | rfl | e | e
  · exact h1.xlt
  · exact h1.gf.lt
  · exact h1.ln b e
  · exact h1.lp b e
theorem Td.upd {w w' : World} {x : Nat} {T : Ft} {D U : Nat → Prop} (h : Td w x T D) (u : Upd U w w') (k : ∀ b, b < w.heap.size → D b → ¬ U b) : Td w' x T D := by
  obtain ⟨g, s, q, Dn, Dp, h1, h2⟩ := h
  exact ⟨g, s, q, Dn, Dp, h1.upd u (fun b hb hf => k b hb (h2 b hf)), h2⟩
theorem Td.grow {w w' : World} {x : Nat} {T : Ft} {D : Nat → Prop} (h : Td w x T D) (u : Below w.heap.size w w') : Td w' x T D := h.upd (Upd.of_below (F := fun _ => False) u) (fun _ _ _ h => h)
theorem Td.lt {w : World} {x : Nat} {T : Ft} {D : Nat → Prop} (h : Td w x T D) : x < w.heap.size := by
  obtain ⟨g, s, q, Dn, Dp, h1, h2⟩ := h; exact h1.xlt
def TdTo (w : World) (x : Nat) (T : Ft) (D : Nat → Prop) (w' : World) : Prop := Td w' x T (fun b => D b ∨ w.heap.size ≤ b) ∧ Upd D w w'
theorem TdTo.same {w w' : World} {x : Nat} {T : Ft} {D : Nat → Prop} (h : Td w x T D) (u : Below w.heap.size w w') : TdTo w x T D w' := ⟨(h.grow u).mono (fun _ _ h => .inl h), Upd.of_below u⟩
theorem TdTo.of {w0 w' : World} {x g s q : Nat} {Dn Dp Dn' Dp' D : Nat → Prop} {T : Ft} (h : Rs w' x g s q Dn' Dp' T) (hD : ∀ b, RFoot x g Dn Dp b → D b) (hn : ∀ b, Dn' b → Dn b ∨ w0.heap.size ≤ b) (hp : ∀ b, Dp' b → Dp b ∨ w0.heap.size ≤ b) (u : Upd (RFoot x g Dn Dp) w0 w') : TdTo w0 x T D w' :=
  ⟨⟨g, s, q, Dn', Dp', h, fun b hb => by
    rcases hb with e | e | e | e
    · exact .inl (hD b (.inl e))
    · exact .inl (hD b (.inr (.inl e)))
    · exact (hn b e).imp (fun e => hD b (.inr (.inr (.inl e)))) id
    · exact (hp b e).imp (fun e => hD b (.inr (.inr (.inr e)))) id⟩, u.mono (fun b _ hb => hD b hb)⟩
/-- The system alone turned; the pipes alone turned. -/
theorem TdTo.sys {w0 X w' : World} {x g s q : Nat} {Dn Dp D : Nat → Prop} {T : Ft} {F' : Fs} (h : Rs X x g s q Dn Dp T) (hX : Below w0.heap.size w0 X) (hD : ∀ b, RFoot x g Dn Dp b → D b) (k : NfTo X s F' Dn w') (hd : F'.d = T.F.d) : TdTo w0 x { T with F := F' } D w' :=
  TdTo.of (h.sys k hd) hD (fun b hb => hb.1.imp id (fun h => Nat.le_trans hX.size h)) (fun b hb => .inl hb) ((Upd.of_below hX).trans k.2 (fun b _ hb => .inr (.inr (.inl hb))))
theorem TdTo.pip {w0 X w' : World} {x g s q : Nat} {Dn Dp D : Nat → Prop} {T : Ft} {P' : Nat → Pi.Pp} (h : Rs X x g s q Dn Dp T) (hX : Below w0.heap.size w0 X) (hD : ∀ b, RFoot x g Dn Dp b → D b) (k : PdTo X q T.F.d P' Dp w') : TdTo w0 x { T with P := P' } D w' :=
  TdTo.of (h.pip k) hD (fun b hb => .inl hb) (fun b hb => hb.1.imp id (fun h => Nat.le_trans hX.size h)) ((Upd.of_below hX).trans k.2 (fun b _ hb => .inr (.inr (.inr hb))))
theorem TdTo.fil {w0 X w' : World} {x g s q : Nat} {Dn Dp D : Nat → Prop} {T : Ft} {O' : Nat → Fl} (h : Rs X x g s q Dn Dp T) (hX : Below w0.heap.size w0 X) (hD : ∀ b, RFoot x g Dn Dp b → D b) (k : Gf w' g O') (u : Upd (· = g) X w') : TdTo w0 x { T with O := O' } D w' :=
  TdTo.of (h.fil k u) hD (fun b hb => .inl hb) (fun b hb => .inl hb) ((Upd.of_below hX).trans u (fun b _ hb => .inr (.inl hb)))

end Go.Proofs.YtbglhmcahnkbfaaGreat

/- The program's open files as they lie, over its file system and its pipes. -/
namespace Go.Proofs.YtbglhmcahnkbfaaGreat
open Go.RowKit Go.ChangeMaps Go.MapKept
set_option linter.unusedVariables false
set_option maxRecDepth 20000

/-- What is left of an open file that nobody holds. -/
def clF (x : Fl) : Fl := if x.h = 0 then noFl else x
theorem clF_h (x : Fl) : (clF x).h = x.h := by
  unfold clF; split
  · rename_i e; rw [e]; rfl
  · rfl
theorem clF_yes {x : Fl} (h : (clF x).h ≠ 0) : clF x = x := by
  rw [clF_h] at h
  unfold clF; rw [if_neg h]
theorem clF_of {x : Fl} (h : x.h ≠ 0) : clF x = x := by unfold clF; rw [if_neg h]

/-- Table t over system p and pipes q; what stands in its cells; the system's blocks. -/
structure Ts (w : World) (t p q : Nat) (O0 : Nat → Fl) (Gn : Nat → Prop) (T : Ft) : Prop where
  tf : Tf w t p q O0
  o : ∀ i, i < 11 → T.O i = clF (O0 i)
  pf : Pf w p T.F Gn
  tc : Pi.Tc w q T.kp T.P
  tq : t ≠ q
  gt : ¬ Gn t
  gq : ¬ Gn q
section
variable {w w' : World} {t p q : Nat} {O0 : Nat → Fl} {Gn : Nat → Prop} {T : Ft}
def Foot (t q : Nat) (Gn : Nat → Prop) (b : Nat) : Prop := b = t ∨ b = q ∨ Gn b
theorem Ts.upd {U : Nat → Prop} (h : Ts w t p q O0 Gn T) (u : Upd U w w') (hU : ∀ b, b < w.heap.size → Foot t q Gn b → ¬ U b) : Ts w' t p q O0 Gn T :=
  ⟨h.tf.upd u (hU t h.tf.lt (.inl rfl)), h.o, h.pf.upd u (fun b hb hG => hU b hb (.inr (.inr hG))), h.tc.upd u (hU q h.tc.lt (.inr (.inl rfl))), h.tq, h.gt, h.gq⟩
theorem Ts.grow (h : Ts w t p q O0 Gn T) (u : Below w.heap.size w w') : Ts w' t p q O0 Gn T := h.upd (Upd.of_below (F := fun _ => False) u) (fun _ _ _ h => h)
theorem Ts.hp (h : Ts w t p q O0 Gn T) (e : w'.heap = w.heap) : Ts w' t p q O0 Gn T := by
  obtain ⟨C, hb, hc⟩ := h.tf
  exact ⟨⟨C, by rw [e]; exact hb, hc⟩, h.o, h.pf.hp e, h.tc.hp e, h.tq, h.gt, h.gq⟩
theorem Ts.h0 (h : Ts w t p q O0 Gn T) (i : Nat) (hi : i < 11) : (O0 i).h = (T.O i).h := by rw [h.o i hi, clF_h]
theorem Ts.at (h : Ts w t p q O0 Gn T) (i : Nat) (hi : i < 11) (hh : (T.O i).h ≠ 0) : O0 i = T.O i := by
  rw [h.o i hi] at hh ⊢
  rw [clF_yes hh]
/-- The system turns. -/
theorem Ts.sys {F' : Fs} (h : Ts w t p q O0 Gn T) (k : PfTo w p F' Gn w') (hd : F'.d = T.F.d) : Ts w' t p q O0 (fun x => Gn x ∨ w.heap.size ≤ x) { T with F := F' } := by
  obtain ⟨k1, k2⟩ := k
  have l1 := h.tf.lt
  have l2 := h.tc.lt
  have e : Ft.kp { T with F := F' } = T.kp := by unfold Ft.kp; rw [hd]
  exact ⟨h.tf.upd k2 h.gt, h.o, k1, by rw [e]; exact h.tc.upd k2 h.gq, h.tq, fun e => by rcases e with e | e; exact h.gt e; omega, fun e => by rcases e with e | e; exact h.gq e; omega⟩
/-- The pipes turn. -/
theorem Ts.pip {P' : Nat → Pi.Pp} (h : Ts w t p q O0 Gn T) (k : Pi.Tc w' q T.kp P') (u : Upd (· = q) w w') : Ts w' t p q O0 Gn { T with P := P' } :=
  ⟨h.tf.upd u h.tq, h.o, h.pf.upd u (fun b _ hG e => h.gq (e ▸ hG)), k, h.tq, h.gt, h.gq⟩
/-- An open file turns. -/
theorem Ts.fil {x y : Fl} {i : Nat} (h : Ts w t p q O0 Gn T) (k : Tf w' t p q (updF O0 i y)) (hx : x = clF y) (u : Upd (· = t) w w') : Ts w' t p q (updF O0 i y) Gn { T with O := updF T.O i x } :=
  ⟨k, fun j hj => by
    show updF T.O i x j = _
    unfold updF
    split
    · exact hx
    · exact h.o j hj, h.pf.upd u (fun b _ hG e => h.gt (e ▸ hG)), h.tc.upd u (fun e => h.tq e.symm), h.tq, h.gt, h.gq⟩
end

theorem PfTo.ahead {w0 w w' : World} {p : Nat} {F : Fs} {G : Nat → Prop} (h : PfTo w p F G w') (u : Below w0.heap.size w0 w) : PfTo w0 p F G w' :=
  ⟨h.1.mono (fun x _ hx => by rcases hx with hx | hx; exact .inl hx; exact .inr (Nat.le_trans u.size hx)), (Upd.of_below u).trans h.2 (fun _ _ h => h)⟩

/-- The program's open files, in blocks G. -/
def Tp (w : World) (t : Nat) (T : Ft) (G : Nat → Prop) : Prop := ∃ p q O0 Gn, Ts w t p q O0 Gn T ∧ ∀ b, Foot t q Gn b → G b
theorem Tp.mono {w : World} {t : Nat} {T : Ft} {G G' : Nat → Prop} (h : Tp w t T G) (k : ∀ x, x < w.heap.size → G x → G' x) : Tp w t T G' := by
  obtain ⟨p, q, O0, Gn, h1, h2⟩ := h
  have l1 := h1.tf.lt
  have l2 := h1.tc.lt
  refine ⟨p, q, O0, fun b => Gn b ∧ b < w.heap.size, ⟨h1.tf, h1.o, h1.pf.mono (fun x hx hG => ⟨hG, hx⟩), h1.tc, h1.tq, fun e => h1.gt e.1, fun e => h1.gq e.1⟩, fun b hb => ?_⟩
  rcases hb with rfl | rfl | hb
  · exact k _ l1 (h2 _ (.inl rfl))
  · exact k _ l2 (h2 _ (.inr (.inl rfl)))
  · exact k _ hb.2 (h2 _ (.inr (.inr hb.1)))
theorem Tp.upd {w w' : World} {t : Nat} {T : Ft} {G U : Nat → Prop} (h : Tp w t T G) (u : Upd U w w') (k : ∀ x, x < w.heap.size → G x → ¬ U x) : Tp w' t T G := by
  obtain ⟨p, q, O0, Gn, h1, h2⟩ := h
  exact ⟨p, q, O0, Gn, h1.upd u (fun b hb hf => k b hb (h2 b hf)), h2⟩
theorem Tp.grow {w w' : World} {t : Nat} {T : Ft} {G : Nat → Prop} (h : Tp w t T G) (u : Below w.heap.size w w') : Tp w' t T G := h.upd (Upd.of_below (F := fun _ => False) u) (fun _ _ _ h => h)
theorem Tp.lt {w : World} {t : Nat} {T : Ft} {G : Nat → Prop} (h : Tp w t T G) : t < w.heap.size := by
  obtain ⟨p, q, O0, Gn, h1, h2⟩ := h; exact h1.tf.lt
def TpTo (w : World) (t : Nat) (T : Ft) (G : Nat → Prop) (w' : World) : Prop := Tp w' t T (fun x => G x ∨ w.heap.size ≤ x) ∧ Upd G w w'
theorem TpTo.same {w w' : World} {t : Nat} {T : Ft} {G : Nat → Prop} (h : Tp w t T G) (u : Below w.heap.size w w') : TpTo w t T G w' := ⟨(h.grow u).mono (fun _ _ h => .inl h), Upd.of_below u⟩
/-- What a call leaves, told of its parts: w0 is the world ahead of it. -/
theorem TpTo.of {w0 w' : World} {t q p : Nat} {O0 : Nat → Fl} {Gn Gm G : Nat → Prop} {T : Ft} (h : Ts w' t p q O0 Gm T) (hG : ∀ b, Foot t q Gn b → G b) (hm : ∀ b, Gm b → Gn b ∨ w0.heap.size ≤ b) (u : Upd (Foot t q Gn) w0 w') : TpTo w0 t T G w' :=
  ⟨⟨p, q, O0, Gm, h, fun b hb => by
    rcases hb with e | e | e
    · exact .inl (hG b (.inl e))
    · exact .inl (hG b (.inr (.inl e)))
    · rcases hm b e with e | e
      · exact .inl (hG b (.inr (.inr e)))
      · exact .inr e⟩, u.mono (fun b _ hb => hG b hb)⟩

end Go.Proofs.YtbglhmcahnkbfaaGreat

/- Processes without memory: what each call of them comes to. -/
namespace Go.Proofs.YtbglhmcahnkbfaaGreat
set_option linter.unusedVariables false

/-- A process: its state (0: none, 1: runs, 2: over), its parent, its code, its six descriptors. -/
structure Gp where
  st : Int
  pa : Int
  co : Int
  fd : Nat → Int
def noGp : Gp := ⟨0, 0, 0, fun _ => 0⟩
/-- Processes by their numbers, over open files. -/
structure Gt where
  Q : Nat → Gp
  T : Ft
def updG (Q : Nat → Gp) (i : Nat) (x : Gp) : Nat → Gp := fun j => if j = i then x else Q j
def updFd (f : Nat → Int) (i : Nat) (v : Int) : Nat → Int := fun j => if j = i then v else f j

namespace Gt
def put (g : Gt) (p : Nat) (x : Gp) : Gt := { g with Q := updG g.Q p x }
def setFd (g : Gt) (p i : Nat) (v : Int) : Gt := g.put p { g.Q p with fd := updFd (g.Q p).fd i v }
def runs (g : Gt) (n : Int) : Bool := decide (1 ≤ n ∧ n ≤ 4 ∧ (g.Q n.toNat).st = 1)
/-- The least number that no process has; 0: there is none. -/
def free (g : Gt) : Nat := if (g.Q 1).st = 0 then 1 else if (g.Q 2).st = 0 then 2 else if (g.Q 3).st = 0 then 3 else if (g.Q 4).st = 0 then 4 else 0
/-- The first so many descriptors hold their open files once more. -/
def holdAll (T : Ft) (f : Nat → Int) : Nat → Ft
  | 0 => T
  | n + 1 => if f n = 0 then holdAll T f n else ((holdAll T f n).hold (f n)).1
def fork (g : Gt) (p : Int) : Gt × Int × Int :=
  if g.runs p = false then (g, 0, 3) else if g.free = 0 then (g, 0, 11) else
  (⟨updG g.Q g.free ⟨1, p, 0, (g.Q p.toNat).fd⟩, if dfc g.T.F.d 16 = true then g.T else holdAll g.T (g.Q p.toNat).fd 6⟩, (g.free : Int), 0)
/-- A descriptor is emptied; the first so many are. -/
def empty (g : Gt) (p i : Nat) : Gt :=
  if (g.Q p).fd i = 0 then g.setFd p i 0 else { g.setFd p i 0 with T := (g.T.drop ((g.Q p).fd i)).1 }
def empties (g : Gt) (p : Nat) : Nat → Gt
  | 0 => g
  | n + 1 => (g.empties p n).empty p n
/-- What the children of a process become when it ends. -/
def leave (Q : Nat → Gp) (p : Nat) : Nat → Gp := fun n =>
  if (Q n).st ≠ 0 ∧ (Q n).pa = (p : Int) then (if (Q n).st = 2 then noGp else { Q n with pa := 0 }) else Q n
/-- One ends: its descriptors are empty. -/
def ended (g : Gt) (p : Nat) (co : Int) : Gt :=
  let Q1 := leave (updG g.Q p { g.Q p with st := 2, co := co }) p
  { g with Q := if ({ g with Q := Q1 } : Gt).runs (Q1 p).pa = true then Q1 else updG Q1 p noGp }
def exit (g : Gt) (p co : Int) : Gt × Int :=
  if g.runs p = false then (g, 3) else ((g.empties p.toNat 6).ended p.toNat (co % 256), 0)
def over (g : Gt) (p : Int) (n : Nat) : Bool := decide ((g.Q n).st = 2 ∧ (g.Q n).pa = p)
def child (g : Gt) (p : Int) (n : Nat) : Bool := decide ((g.Q n).st ≠ 0 ∧ (g.Q n).pa = p)
def wait (g : Gt) (p : Int) : Gt × Int × Int × Bool × Int :=
  if g.runs p = false then (g, 0, 0, false, 3) else
  match (List.range' 1 4).find? (g.over p) with
  | some n => (g.put n noGp, (n : Int), (g.Q n).co, false, 0)
  | none => if (List.range' 1 4).any (g.child p) then (g, 0, 0, true, 0) else (g, 0, 0, false, 10)
def kill (g : Gt) (p t : Int) : Gt × Int :=
  if g.runs p = false then (g, 3) else if g.runs t = false then (g, 3) else if t = 1 ∧ p ≠ 1 then (g, 1) else g.exit t 128
/-- The lowest free descriptor. -/
def lowest (f : Nat → Int) : Option Nat := (List.range 6).find? (fun i => decide (f i = 0))
def install (g : Gt) (p f : Int) : Gt × Int × Int :=
  if g.runs p = false then (g, 0, 3) else if g.T.there f = false then (g, 0, 9) else
  match lowest (g.Q p.toNat).fd with
  | none => (g, 0, 24)
  | some i => (g.setFd p.toNat i f, (i : Int), 0)
def file (g : Gt) (p fd : Int) : Int × Int :=
  if g.runs p = false then (0, 3) else if fd < 0 ∨ 6 ≤ fd ∨ (g.Q p.toNat).fd fd.toNat = 0 then (0, 9) else ((g.Q p.toNat).fd fd.toNat, 0)
def close (g : Gt) (p fd : Int) : Gt × Int :=
  if (g.file p fd).2 ≠ 0 then (g, (g.file p fd).2) else (g.empty p.toNat fd.toNat, 0)
def dup (g : Gt) (p fd : Int) : Gt × Int × Int :=
  if (g.file p fd).2 ≠ 0 then (g, 0, (g.file p fd).2) else
  match lowest (g.Q p.toNat).fd with
  | none => (g, 0, 24)
  | some i => ({ g.setFd p.toNat i (g.file p fd).1 with T := (g.T.hold (g.file p fd).1).1 }, (i : Int), 0)
def dup2 (g : Gt) (p fd to : Int) : Gt × Int × Int :=
  if (g.file p fd).2 ≠ 0 then (g, 0, (g.file p fd).2) else if to < 0 ∨ 6 ≤ to then (g, 0, 9) else if to = fd then (g, to, 0) else
  let g1 := if dfc g.T.F.d 32 = true then g else g.empty p.toNat to.toNat
  ({ g1.setFd p.toNat to.toNat (g.file p fd).1 with T := (g1.T.hold (g.file p fd).1).1 }, to, 0)
end Gt
def newG (d : Int) : Gt := ⟨fun i => if i = 1 then ⟨1, 0, 0, fun _ => 0⟩ else noGp, newT d⟩

/-- What is true of processes that calls have made. -/
structure GOk (g : Gt) : Prop where
  T : TOk g.T
  st : ∀ i, (g.Q i).st = 0 ∨ (g.Q i).st = 1 ∨ (g.Q i).st = 2
  out : ∀ i, i = 0 ∨ 5 ≤ i → g.Q i = noGp
  none : ∀ i, (g.Q i).st = 0 → g.Q i = noGp
  pa : ∀ i, 0 ≤ (g.Q i).pa ∧ (g.Q i).pa ≤ 4 ∧ (g.Q i).pa ≠ (i : Int) ∨ g.Q i = noGp
  co : ∀ i, 0 ≤ (g.Q i).co ∧ (g.Q i).co < 256
  fd : ∀ i j, 0 ≤ (g.Q i).fd j ∧ (g.Q i).fd j ≤ 10 ∧ (6 ≤ j → (g.Q i).fd j = 0)
  ov : ∀ i, (g.Q i).st = 2 → ∀ j, (g.Q i).fd j = 0

end Go.Proofs.YtbglhmcahnkbfaaGreat

/- What calls of processes keep. -/
namespace Go.Proofs.YtbglhmcahnkbfaaGreat
set_option linter.unusedVariables false

theorem updG_same (Q : Nat → Gp) (i : Nat) (x : Gp) : updG Q i x i = x := by simp [updG]
theorem updG_ne (Q : Nat → Gp) (i j : Nat) (x : Gp) (h : j ≠ i) : updG Q i x j = Q j := by simp [updG, h]
/-- What is true of one process. -/
structure Gp1 (i : Nat) (x : Gp) : Prop where
  st : x.st = 0 ∨ x.st = 1 ∨ x.st = 2
  none : x.st = 0 → x = noGp
  pa : 0 ≤ x.pa ∧ x.pa ≤ 4 ∧ x.pa ≠ (i : Int) ∨ x = noGp
  co : 0 ≤ x.co ∧ x.co < 256
  fd : ∀ j, 0 ≤ x.fd j ∧ x.fd j ≤ 10 ∧ (6 ≤ j → x.fd j = 0)
  ov : x.st = 2 → ∀ j, x.fd j = 0
theorem Gp1.no (i : Nat) : Gp1 i noGp := ⟨.inl rfl, fun _ => rfl, .inr rfl, by decide, fun j => ⟨Int.le_refl 0, show (0 : Int) ≤ 10 by decide, fun _ => rfl⟩, fun _ _ => rfl⟩
theorem GOk.one {g : Gt} (H : GOk g) (i : Nat) : Gp1 i (g.Q i) := ⟨H.st i, H.none i, H.pa i, H.co i, H.fd i, H.ov i⟩
theorem GOk.of {g : Gt} (hT : TOk g.T) (h : ∀ i, Gp1 i (g.Q i)) (ho : ∀ i, i = 0 ∨ 5 ≤ i → g.Q i = noGp) : GOk g :=
  ⟨hT, fun i => (h i).st, ho, fun i => (h i).none, fun i => (h i).pa, fun i => (h i).co, fun i => (h i).fd, fun i => (h i).ov⟩
theorem GOk.putT {g : Gt} (H : GOk g) {T' : Ft} (hT : TOk T') (p : Nat) (h1 : 1 ≤ p) (h4 : p ≤ 4) (x : Gp) (hx : Gp1 p x) : GOk ⟨updG g.Q p x, T'⟩ := by
  refine GOk.of hT (fun i => ?_) (fun i hi => ?_)
  · show Gp1 i (updG g.Q p x i)
    by_cases e : i = p
    · subst e; rw [updG_same]; exact hx
    · rw [updG_ne _ _ _ _ e]; exact H.one i
  · show updG g.Q p x i = noGp
    rw [updG_ne _ _ _ _ (by omega)]
    exact H.out i hi
theorem GOk.tbl {g : Gt} (H : GOk g) {T' : Ft} (hT : TOk T') : GOk { g with T := T' } := GOk.of hT H.one H.out
theorem Gt.runs_lt {g : Gt} {n : Int} (h : g.runs n = true) : ∃ p : Nat, n = (p : Int) ∧ 1 ≤ p ∧ p ≤ 4 ∧ (g.Q p).st = 1 := by
  unfold Gt.runs at h
  simp only [decide_eq_true_eq] at h
  refine ⟨n.toNat, by omega, by omega, by omega, h.2.2⟩
theorem Gt.free_lt {g : Gt} (h : g.free ≠ 0) : 1 ≤ g.free ∧ g.free ≤ 4 ∧ (g.Q g.free).st = 0 := by
  unfold Gt.free at h ⊢
  split
  · exact ⟨by omega, by omega, by assumption⟩
  split
  · exact ⟨by omega, by omega, by assumption⟩
  split
  · exact ⟨by omega, by omega, by assumption⟩
  split
  · exact ⟨by omega, by omega, by assumption⟩
  · simp_all
theorem holdAll_ok {T : Ft} (H : TOk T) (f : Nat → Int) : ∀ n, TOk (Gt.holdAll T f n)
  | 0 => H
  | n + 1 => by
    unfold Gt.holdAll
    split
    · exact holdAll_ok H f n
    · exact (holdAll_ok H f n).hold _
theorem GOk.fork {g : Gt} (H : GOk g) (p : Int) : GOk (g.fork p).1 := by
  unfold Gt.fork
  split
  · exact H
  rename_i a
  obtain ⟨q, rfl, q1, q4, qs⟩ := Gt.runs_lt (by simpa using a)
  split
  · exact H
  rename_i b
  obtain ⟨f1, f4, fs⟩ := Gt.free_lt b
  have hx := H.one q
  refine H.putT (by split; exact H.T; exact holdAll_ok H.T _ _) g.free f1 f4 _ ⟨.inr (.inl rfl), fun h => absurd (show (1 : Int) = 0 from h) (by decide), .inl ⟨show (0 : Int) ≤ (q : Int) by omega, show (q : Int) ≤ 4 by omega, fun e => ?_⟩, show (0 : Int) ≤ 0 ∧ (0 : Int) < 256 by decide, fun j => ?_, fun h => absurd (show (1 : Int) = 2 from h) (by decide)⟩
  · have : q = g.free := by
      have e' : (q : Int) = (g.free : Int) := e
      omega
    rw [this] at qs
    omega
  · rw [Int.toNat_natCast]
    exact hx.fd j
theorem GOk.setFd {g : Gt} (H : GOk g) {T' : Ft} (hT : TOk T') (p i : Nat) (hp : (g.Q p).st = 1) (hi : i < 6) (v : Int) (hv : 0 ≤ v ∧ v ≤ 10) : GOk { g.setFd p i v with T := T' } := by
  have h4 : 1 ≤ p ∧ p ≤ 4 := by
    rcases Nat.lt_or_ge p 1 with q | q
    · rw [H.out p (.inl (by omega))] at hp; exact absurd (show (0 : Int) = 1 from hp) (by decide)
    · rcases Nat.lt_or_ge p 5 with r | r
      · omega
      · rw [H.out p (.inr r)] at hp; exact absurd (show (0 : Int) = 1 from hp) (by decide)
  have hx := H.one p
  refine H.putT hT p h4.1 h4.2 _ ⟨hx.st, fun h => absurd (hp.symm.trans h) (by decide), ?_, hx.co, fun j => ?_, fun h => absurd (hp.symm.trans h) (by decide)⟩
  · rcases hx.pa with h | h
    · exact .inl h
    · rw [h] at hp; exact absurd (show (0 : Int) = 1 from hp) (by decide)
  · show 0 ≤ updFd (g.Q p).fd i v j ∧ updFd (g.Q p).fd i v j ≤ 10 ∧ (6 ≤ j → updFd (g.Q p).fd i v j = 0)
    unfold updFd
    split
    · exact ⟨hv.1, hv.2, fun h => by omega⟩
    · exact hx.fd j

theorem GOk.empty {g : Gt} (H : GOk g) (p i : Nat) (hp : (g.Q p).st = 1) (hi : i < 6) : GOk (g.empty p i) := by
  unfold Gt.empty
  split
  · exact H.setFd H.T p i hp hi 0 ⟨Int.le_refl 0, by decide⟩
  · exact H.setFd (H.T.drop _) p i hp hi 0 ⟨Int.le_refl 0, by decide⟩
theorem empty_Q (g : Gt) (p i : Nat) : (g.empty p i).Q = updG g.Q p { g.Q p with fd := updFd (g.Q p).fd i 0 } := by
  unfold Gt.empty
  split <;> rfl
theorem GOk.empties {g : Gt} (H : GOk g) (p : Nat) (hp : (g.Q p).st = 1) : ∀ n, n ≤ 6 → GOk (g.empties p n) ∧ ((g.empties p n).Q p).st = 1 ∧ ∀ j, j < n → ((g.empties p n).Q p).fd j = 0
  | 0, _ => ⟨H, hp, fun j hj => absurd hj (Nat.not_lt_zero j)⟩
  | n + 1, hn => by
    obtain ⟨a, b, c⟩ := H.empties p hp n (by omega)
    refine ⟨a.empty p n b (by omega), ?_, fun j hj => ?_⟩
    · show (((g.empties p n).empty p n).Q p).st = 1
      rw [empty_Q, updG_same]
      exact b
    · show (((g.empties p n).empty p n).Q p).fd j = 0
      rw [empty_Q, updG_same]
      show updFd ((g.empties p n).Q p).fd n 0 j = 0
      unfold updFd
      split
      · rfl
      · exact c j (by omega)
theorem GOk.ended {g : Gt} (H : GOk g) (p : Nat) (hp : (g.Q p).st = 1) (hf : ∀ j, (g.Q p).fd j = 0) (co : Int) (hc : 0 ≤ co ∧ co < 256) : GOk (g.ended p co) := by
  have hx := H.one p
  have hne : g.Q p ≠ noGp := fun e => by rw [e] at hp; exact absurd (show (0 : Int) = 1 from hp) (by decide)
  have h0 : ∀ i, Gp1 i (updG g.Q p { g.Q p with st := 2, co := co } i) := fun i => by
    by_cases e : i = p
    · subst e
      rw [updG_same]
      exact ⟨.inr (.inr rfl), fun h => absurd (show (2 : Int) = 0 from h) (by decide), .inl (hx.pa.resolve_right hne), hc, hx.fd, fun _ => hf⟩
    · rw [updG_ne _ _ _ _ e]; exact H.one i
  have o0 : ∀ i, i = 0 ∨ 5 ≤ i → updG g.Q p { g.Q p with st := 2, co := co } i = noGp := fun i hi => by
    rw [updG_ne _ _ _ _ (fun (e : i = p) => hne (by rw [← e]; exact H.out i hi))]
    exact H.out i hi
  obtain ⟨Q0, gQ⟩ : ∃ Q0, Q0 = updG g.Q p { g.Q p with st := 2, co := co } := ⟨_, rfl⟩
  rw [← gQ] at h0 o0
  have h1 : ∀ i, Gp1 i (Gt.leave Q0 p i) := fun i => by
    have h := h0 i
    unfold Gt.leave
    split
    · rename_i a
      split
      · exact Gp1.no i
      · rename_i b
        have hn : Q0 i ≠ noGp := fun e => by rw [e] at a; exact absurd rfl a.1
        by_cases e0 : i = 0
        · exact absurd (o0 i (.inl e0)) hn
        · exact ⟨h.st, fun q => absurd q a.1, .inl ⟨Int.le_refl 0, show (0 : Int) ≤ 4 by decide, show (0 : Int) ≠ (i : Int) by omega⟩, h.co, h.fd, h.ov⟩
    · exact h
  have o1 : ∀ i, i = 0 ∨ 5 ≤ i → Gt.leave Q0 p i = noGp := fun i hi => by
    unfold Gt.leave
    rw [o0 i hi, if_neg (fun h => absurd rfl h.1)]
  have key : ∀ Q1 : Nat → Gp, (∀ i, Gp1 i (Q1 i)) → (∀ i, i = 0 ∨ 5 ≤ i → Q1 i = noGp) → GOk { g with Q := if ({ g with Q := Q1 } : Gt).runs (Q1 p).pa = true then Q1 else updG Q1 p noGp } := fun Q1 h o => by
    split
    · exact GOk.of H.T h o
    · refine GOk.of H.T (fun i => ?_) (fun i hi => ?_)
      · show Gp1 i (updG Q1 p noGp i)
        by_cases e : i = p
        · subst e; rw [updG_same]; exact Gp1.no _
        · rw [updG_ne _ _ _ _ e]; exact h i
      · show updG Q1 p noGp i = noGp
        by_cases e : i = p
        · subst e; rw [updG_same]
        · rw [updG_ne _ _ _ _ e]; exact o i hi
  have := key _ h1 o1
  rw [gQ] at this
  exact this
theorem GOk.exit {g : Gt} (H : GOk g) (p co : Int) : GOk (g.exit p co).1 := by
  unfold Gt.exit
  split
  · exact H
  rename_i a
  obtain ⟨q, rfl, q1, q4, qs⟩ := Gt.runs_lt (by simpa using a)
  rw [Int.toNat_natCast]
  obtain ⟨b, c, d⟩ := H.empties q qs 6 (Nat.le_refl _)
  refine b.ended q c (fun j => ?_) _ ⟨by omega, by omega⟩
  rcases Nat.lt_or_ge j 6 with h | h
  · exact d j h
  · exact (b.fd q j).2.2 h
theorem GOk.kill {g : Gt} (H : GOk g) (p t : Int) : GOk (g.kill p t).1 := by
  unfold Gt.kill
  split
  · exact H
  split
  · exact H
  split
  · exact H
  · exact H.exit _ _
theorem GOk.wait {g : Gt} (H : GOk g) (p : Int) : GOk (g.wait p).1 := by
  unfold Gt.wait
  split
  · exact H
  split
  · rename_i n hn
    have hm := List.mem_of_find?_eq_some hn
    have : 1 ≤ n ∧ n ≤ 4 := by rw [List.mem_range'_1] at hm; omega
    exact H.putT H.T n this.1 this.2 _ (Gp1.no n)
  · split
    · exact H
    · exact H
theorem lowest_lt {f : Nat → Int} {i : Nat} (h : Gt.lowest f = some i) : i < 6 ∧ f i = 0 := by
  unfold Gt.lowest at h
  have h1 := List.mem_of_find?_eq_some h
  have h2 := List.find?_some h
  exact ⟨List.mem_range.1 h1, by simpa using h2⟩
theorem Ft.there_10 {T : Ft} {n : Int} (h : T.there n = true) : 0 ≤ n ∧ n ≤ 10 := by
  unfold Ft.there at h
  simp only [decide_eq_true_eq] at h
  omega
theorem GOk.install {g : Gt} (H : GOk g) (p f : Int) : GOk (g.install p f).1 := by
  unfold Gt.install
  split
  · exact H
  rename_i a
  obtain ⟨q, rfl, q1, q4, qs⟩ := Gt.runs_lt (by simpa using a)
  split
  · exact H
  rename_i b
  rw [Int.toNat_natCast]
  split
  · exact H
  · rename_i i hi
    exact H.setFd H.T q i qs (lowest_lt hi).1 f (Ft.there_10 (by simpa using b))
theorem file_ok {g : Gt} (H : GOk g) {p fd : Int} (h : (g.file p fd).2 = 0) : ∃ q i : Nat, p = (q : Int) ∧ fd = (i : Int) ∧ 1 ≤ q ∧ q ≤ 4 ∧ i < 6 ∧ (g.Q q).st = 1 ∧ (g.Q q).fd i ≠ 0 ∧ (g.file p fd).1 = (g.Q q).fd i := by
  unfold Gt.file at h ⊢
  split at h
  · exact absurd (show (3 : Int) = 0 from h) (by decide)
  rename_i a
  rw [if_neg a]
  obtain ⟨q, rfl, q1, q4, qs⟩ := Gt.runs_lt (by simpa using a)
  rw [Int.toNat_natCast] at h ⊢
  split at h
  · exact absurd (show (9 : Int) = 0 from h) (by decide)
  rename_i b
  rw [if_neg b]
  refine ⟨q, fd.toNat, rfl, by omega, q1, q4, by omega, qs, fun e => b (.inr (.inr e)), rfl⟩
theorem GOk.close {g : Gt} (H : GOk g) (p fd : Int) : GOk (g.close p fd).1 := by
  unfold Gt.close
  split
  · exact H
  rename_i a
  obtain ⟨q, i, rfl, rfl, q1, q4, i6, qs, _⟩ := file_ok H (Decidable.not_not.1 a)
  rw [Int.toNat_natCast, Int.toNat_natCast]
  exact H.empty q i qs i6
theorem GOk.dup {g : Gt} (H : GOk g) (p fd : Int) : GOk (g.dup p fd).1 := by
  unfold Gt.dup
  split
  · exact H
  rename_i a
  obtain ⟨q, i, rfl, rfl, q1, q4, i6, qs, _, e⟩ := file_ok H (Decidable.not_not.1 a)
  rw [e, Int.toNat_natCast]
  have hv := H.fd q i
  split
  · exact H
  · rename_i k hk
    exact H.setFd (H.T.hold _) q k qs (lowest_lt hk).1 _ ⟨hv.1, hv.2.1⟩
theorem GOk.dup2 {g : Gt} (H : GOk g) (p fd to : Int) : GOk (g.dup2 p fd to).1 := by
  unfold Gt.dup2
  split
  · exact H
  rename_i a
  split
  · exact H
  rename_i b
  split
  · exact H
  obtain ⟨q, i, rfl, rfl, q1, q4, i6, qs, _, e⟩ := file_ok H (Decidable.not_not.1 a)
  rw [e, Int.toNat_natCast]
  have hv := H.fd q i
  have key : ∀ g1 : Gt, GOk g1 → (g1.Q q).st = 1 → GOk { g1.setFd q to.toNat ((g.Q q).fd i) with T := (g1.T.hold ((g.Q q).fd i)).1 } := fun g1 h1 h2 => h1.setFd (h1.T.hold _) q _ h2 (by omega) _ ⟨hv.1, hv.2.1⟩
  dsimp only
  split
  · exact key g H qs
  · exact key _ (H.empty q _ qs (by omega)) (by rw [empty_Q, updG_same]; exact qs)
theorem GOk.new (d : Int) : GOk (newG d) := by
  refine GOk.of (TOk.new d) (fun i => ?_) (fun i hi => ?_)
  · show Gp1 i (if i = 1 then ⟨1, 0, 0, fun _ => 0⟩ else noGp)
    split
    · rename_i e
      exact ⟨.inr (.inl rfl), fun h => absurd (show (1 : Int) = 0 from h) (by decide), .inl ⟨Int.le_refl 0, show (0 : Int) ≤ 4 by decide, show (0 : Int) ≠ (i : Int) by omega⟩, show (0 : Int) ≤ 0 ∧ (0 : Int) < 256 by decide, fun j => ⟨Int.le_refl 0, show (0 : Int) ≤ 10 by decide, fun _ => rfl⟩, fun _ _ => rfl⟩
    · exact Gp1.no i
  · show (if i = 1 then (⟨1, 0, 0, fun _ => 0⟩ : Gp) else noGp) = noGp
    rw [if_neg (by omega)]

end Go.Proofs.YtbglhmcahnkbfaaGreat

/- The program's processes as they lie: one block of 47 cells (the open files, the defects, five processes of nine cells). -/
namespace Go.Proofs.YtbglhmcahnkbfaaGreat
open Go.RowKit Go.ChangeMaps Go.MapKept
set_option linter.unusedVariables false
set_option maxRecDepth 20000

def gpC (x : Gp) : List Value := [.int .i64 x.st, .int .i64 x.pa, .int .i64 x.co, .int .i64 (x.fd 0), .int .i64 (x.fd 1), .int .i64 (x.fd 2), .int .i64 (x.fd 3), .int .i64 (x.fd 4), .int .i64 (x.fd 5)]
theorem gpC_fd (x : Gp) (j : Nat) (hj : j < 6) : (gpC x)[3 + j]? = some (.int .i64 (x.fd j)) := by
  obtain rfl | rfl | rfl | rfl | rfl | rfl : j = 0 ∨ j = 1 ∨ j = 2 ∨ j = 3 ∨ j = 4 ∨ j = 5 := by omega
  all_goals rfl
/-- The descriptors as one value. -/
def fdV (f : Nat → Int) : List Value := [.int .i64 (f 0), .int .i64 (f 1), .int .i64 (f 2), .int .i64 (f 3), .int .i64 (f 4), .int .i64 (f 5)]
theorem fdV_at (f : Nat → Int) (j : Nat) (hj : j < 6) : (fdV f)[j]? = some (.int .i64 (f j)) := by
  obtain rfl | rfl | rfl | rfl | rfl | rfl : j = 0 ∨ j = 1 ∨ j = 2 ∨ j = 3 ∨ j = 4 ∨ j = 5 := by omega
  all_goals rfl

structure Hls (C : List Value) (f : Nat) (d : Int) (Q : Nat → Gp) : Prop where
  len : C.length = 47
  fl : C[0]? = some (.pointer (some ⟨f, 0, none⟩))
  df : C[1]? = some (.int .i64 d)
  at_ : ∀ i, i < 5 → ∀ j, j < 9 → C[2 + i * 9 + j]? = (gpC (Q i))[j]?
/-- The table's block. -/
def Th (w : World) (p f : Nat) (d : Int) (Q : Nat → Gp) : Prop := ∃ C, w.heap[p]? = some (.cells (List.toArray C) 82 (0, 0)) ∧ Hls C f d Q
section
variable {w w' : World} {p f : Nat} {d : Int} {Q : Nat → Gp}
theorem Th.lt (h : Th w p f d Q) : p < w.heap.size := by obtain ⟨C, h, _⟩ := h; exact (Array.getElem?_eq_some_iff.1 h).1
theorem Th.upd {U : Nat → Prop} (h : Th w p f d Q) (u : Upd U w w') (hU : ¬ U p) : Th w' p f d Q := by obtain ⟨C, h, hc⟩ := h; exact ⟨C, u.heap h hU, hc⟩
theorem Th.hp (h : Th w p f d Q) (e : w'.heap = w.heap) : Th w' p f d Q := by obtain ⟨C, h, hc⟩ := h; exact ⟨C, by rw [e]; exact h, hc⟩
theorem Th.fl (h : Th w p f d Q) : w.cell? ⟨p, 0, none⟩ = some (.pointer (some ⟨f, 0, none⟩)) := by obtain ⟨C, h, hc⟩ := h; exact cell_list h hc.fl
theorem Th.df (h : Th w p f d Q) : w.cell? ⟨p, 1, none⟩ = some (.int .i64 d) := by obtain ⟨C, h, hc⟩ := h; exact cell_list h hc.df
theorem Th.st (h : Th w p f d Q) (i : Nat) (hi : i < 5) : w.cell? ⟨p, 2 + i * 9, none⟩ = some (.int .i64 (Q i).st) := by obtain ⟨C, h, hc⟩ := h; exact cell_list h (hc.at_ i hi 0 (by omega))
theorem Th.pa (h : Th w p f d Q) (i : Nat) (hi : i < 5) : w.cell? ⟨p, 2 + i * 9 + 1, none⟩ = some (.int .i64 (Q i).pa) := by obtain ⟨C, h, hc⟩ := h; exact cell_list h (hc.at_ i hi 1 (by omega))
theorem Th.co (h : Th w p f d Q) (i : Nat) (hi : i < 5) : w.cell? ⟨p, 2 + i * 9 + 2, none⟩ = some (.int .i64 (Q i).co) := by obtain ⟨C, h, hc⟩ := h; exact cell_list h (hc.at_ i hi 2 (by omega))
theorem Th.z (h : Th w p f d Q) (i : Nat) (hi : i < 5) (j : Nat) (hj : j < 6) : w.cell? ⟨p, 2 + i * 9 + 3 + j, none⟩ = some (.int .i64 ((Q i).fd j)) := by
  obtain ⟨C, h, hc⟩ := h
  refine cell_list h ?_
  rw [show 2 + i * 9 + 3 + j = 2 + i * 9 + (3 + j) by omega, hc.at_ i hi (3 + j) (by omega), gpC_fd _ j hj]
theorem Th.fz (h : Th w p f d Q) (j : Nat) : w.frozen? ⟨p, j, none⟩ = false := by obtain ⟨C, h, hc⟩ := h; simp [World.frozen?, h]
theorem Th.th (h : Th w p f d Q) (i : Nat) (hi : i < 5) : w.there p (2 + i * 9) 9 := by obtain ⟨C, h, hc⟩ := h; exact there_of_block h _ _ (by rw [hc.len]; omega)
/-- The descriptors, as they are loaded. -/
theorem Th.fds (h : Th w p f d Q) (i : Nat) (hi : i < 5) : w.rangeAt p (2 + i * 9 + 3) (fdV (Q i).fd) := by
  intro j v hv
  have hj : j < 6 := (List.getElem?_eq_some_iff.1 hv).1
  rw [fdV_at _ j hj] at hv
  rw [← hv]
  exact h.z i hi j hj

theorem Hls.put {C C' : List Value} (h : Hls C f d Q) (i : Nat) (hi : i < 5) (x : Gp) (hl : C'.length = 47)
    (out : ∀ j, j < 2 + i * 9 ∨ 2 + i * 9 + 9 ≤ j → C'[j]? = C[j]?) (inn : ∀ j, j < 9 → C'[2 + i * 9 + j]? = (gpC x)[j]?) : Hls C' f d (updG Q i x) := by
  refine ⟨hl, by rw [out 0 (by omega)]; exact h.fl, by rw [out 1 (by omega)]; exact h.df, ?_⟩
  intro k hk j hj
  by_cases e : k = i
  · subst e; rw [updG_same]; exact inn j hj
  · rw [updG_ne _ _ _ _ e, out _ (by omega)]; exact h.at_ k hk j hj
/-- A process is stored whole. -/
theorem Th.put (h : Th w p f d Q) (i : Nat) (hi : i < 5) (x : Gp) : Th (w.setCells p (2 + i * 9) (gpC x)) p f d (updG Q i x) := by
  obtain ⟨C, hb, hc⟩ := h
  have hl := hc.len
  have hs : 2 + i * 9 + (gpC x).length ≤ C.length := by rw [hl]; simp [gpC]; omega
  exact ⟨_, heap_setCells p 82 (gpC x) _ w C hb hs, hc.put i hi x (by rw [length_splice _ _ _ hs, hl]) (fun j hj => getElem?_splice_out _ _ _ _ hs (by simpa [gpC] using hj)) (fun j hj => getElem?_splice_in C (gpC x) (2 + i * 9) j hs hj)⟩
/-- One cell of a process is stored. -/
theorem Th.one (h : Th w p f d Q) (i : Nat) (hi : i < 5) (k : Nat) (hk : k < 9) (v : Value) (x : Gp) (hv : (gpC x)[k]? = some v) (ho : ∀ j, j < 9 → j ≠ k → (gpC x)[j]? = (gpC (Q i))[j]?) : Th (w.setCell ⟨p, 2 + i * 9 + k, none⟩ v) p f d (updG Q i x) := by
  obtain ⟨C, hb, hc⟩ := h
  have hl := hc.len
  refine ⟨C.set (2 + i * 9 + k) v, by rw [heap_setCell_same w p _ C.toArray _ v hb]; simp, hc.put i hi x (by simp [hl]) (fun j hj => by rw [List.getElem?_set_ne (by omega)]) (fun j hj => ?_)⟩
  by_cases e : j = k
  · subst e; rw [List.getElem?_set_self (by omega), hv]
  · rw [List.getElem?_set_ne (by omega), hc.at_ i hi j hj, ho j hj e]
theorem nine {j : Nat} (h : j < 9) : j = 0 ∨ j = 1 ∨ j = 2 ∨ ∃ m, m < 6 ∧ j = 3 + m := by
  by_cases e : j < 3
  · omega
  · exact .inr (.inr (.inr ⟨j - 3, by omega, by omega⟩))
theorem Th.stTo (h : Th w p f d Q) (i : Nat) (hi : i < 5) (v : Int) : Th (w.setCell ⟨p, 2 + i * 9, none⟩ (.int .i64 v)) p f d (updG Q i { Q i with st := v }) :=
  h.one i hi 0 (by omega) _ _ rfl (fun j hj hk => by
    rcases nine hj with e | rfl | rfl | ⟨m, hm, rfl⟩
    · exact absurd e hk
    · rfl
    · rfl
    · rw [gpC_fd _ m hm, gpC_fd _ m hm])
theorem Th.paTo (h : Th w p f d Q) (i : Nat) (hi : i < 5) (v : Int) : Th (w.setCell ⟨p, 2 + i * 9 + 1, none⟩ (.int .i64 v)) p f d (updG Q i { Q i with pa := v }) :=
  h.one i hi 1 (by omega) _ _ rfl (fun j hj hk => by
    rcases nine hj with rfl | e | rfl | ⟨m, hm, rfl⟩
    · rfl
    · exact absurd e hk
    · rfl
    · rw [gpC_fd _ m hm, gpC_fd _ m hm])
theorem Th.coTo (h : Th w p f d Q) (i : Nat) (hi : i < 5) (v : Int) : Th (w.setCell ⟨p, 2 + i * 9 + 2, none⟩ (.int .i64 v)) p f d (updG Q i { Q i with co := v }) :=
  h.one i hi 2 (by omega) _ _ rfl (fun j hj hk => by
    rcases nine hj with rfl | rfl | e | ⟨m, hm, rfl⟩
    · rfl
    · rfl
    · exact absurd e hk
    · rw [gpC_fd _ m hm, gpC_fd _ m hm])
theorem updFd_same (f : Nat → Int) (i : Nat) (v : Int) : updFd f i v i = v := by simp [updFd]
theorem updFd_ne (f : Nat → Int) (i j : Nat) (v : Int) (h : j ≠ i) : updFd f i v j = f j := by simp [updFd, h]
theorem Th.fdTo (h : Th w p f d Q) (i : Nat) (hi : i < 5) (k : Nat) (hk : k < 6) (v : Int) : Th (w.setCell ⟨p, 2 + i * 9 + 3 + k, none⟩ (.int .i64 v)) p f d (updG Q i { Q i with fd := updFd (Q i).fd k v }) := by
  rw [show 2 + i * 9 + 3 + k = 2 + i * 9 + (3 + k) by omega]
  refine h.one i hi (3 + k) (by omega) _ _ ((gpC_fd _ k hk).trans (by show some (Value.int .i64 (updFd (Q i).fd k v k)) = _; rw [updFd_same])) (fun j hj hjk => ?_)
  rcases nine hj with rfl | rfl | rfl | ⟨m, hm, rfl⟩
  · rfl
  · rfl
  · rfl
  · rw [gpC_fd _ m hm, gpC_fd _ m hm]
    show some (Value.int .i64 (updFd (Q i).fd k v m)) = _
    rw [updFd_ne _ _ _ _ (by omega)]
end

/-- The program's processes: table p over open files f, which lie in blocks Gn. -/
structure Zs (w : World) (p f : Nat) (Gn : Nat → Prop) (g : Gt) : Prop where
  th : Th w p f g.T.F.d g.Q
  tp : Tp w f g.T Gn
  np : ¬ Gn p
/-- The same, in blocks G; and what a call leaves that began in w0. -/
def Zp (w : World) (p f : Nat) (g : Gt) (G : Nat → Prop) : Prop := ∃ Gn, Zs w p f Gn g ∧ G p ∧ ∀ b, Gn b → G b
def ZpTo (w0 : World) (p f : Nat) (g : Gt) (G : Nat → Prop) (w : World) : Prop := Zp w p f g (fun b => G b ∨ w0.heap.size ≤ b) ∧ Upd G w0 w ∧ G p
section
variable {w0 w w' : World} {p f : Nat} {g : Gt} {G : Nat → Prop}
theorem Zp.mono {G' : Nat → Prop} (h : Zp w p f g G) (k : ∀ b, b < w.heap.size → G b → G' b) : Zp w p f g G' := by
  obtain ⟨Gn, h1, h2, h3⟩ := h
  exact ⟨fun b => Gn b ∧ b < w.heap.size, ⟨h1.th, h1.tp.mono (fun b hb hG => ⟨hG, hb⟩), fun e => h1.np e.1⟩, k p h1.th.lt h2, fun b hb => k b hb.2 (h3 b hb.1)⟩
theorem Zp.upd {U : Nat → Prop} (h : Zp w p f g G) (u : Upd U w w') (hU : ∀ b, b < w.heap.size → G b → ¬ U b) : Zp w' p f g G := by
  obtain ⟨Gn, h1, h2, h3⟩ := h
  exact ⟨Gn, ⟨h1.th.upd u (hU p h1.th.lt h2), h1.tp.upd u (fun b hb hG => hU b hb (h3 b hG)), h1.np⟩, h2, h3⟩
theorem Zp.grow (h : Zp w p f g G) (u : Below w.heap.size w w') : Zp w' p f g G := h.upd (Upd.of_below (F := fun _ => False) u) (fun _ _ _ h => h)
theorem Zp.plt (h : Zp w p f g G) : p < w.heap.size := by obtain ⟨Gn, h1, h2, h3⟩ := h; exact h1.th.lt
theorem Zp.tab (h : Zp w p f g G) : Th w p f g.T.F.d g.Q := by obtain ⟨Gn, h1, h2, h3⟩ := h; exact h1.th
theorem Zp.to (h : Zp w p f g G) : ZpTo w p f g G w := ⟨h.mono (fun _ _ h => .inl h), Upd.refl _ _, by obtain ⟨_, _, h2, _⟩ := h; exact h2⟩
theorem ZpTo.tab (h : ZpTo w0 p f g G w) : Th w p f g.T.F.d g.Q := h.1.tab
theorem ZpTo.grow (h : ZpTo w0 p f g G w) (u : Below w.heap.size w w') : ZpTo w0 p f g G w' := ⟨h.1.grow u, h.2.1.trans (Upd.of_below (F := fun _ => False) u) (fun _ _ h => h.elim), h.2.2⟩
theorem ZpTo.drew (h : ZpTo w0 p f g G w) : ZpTo w0 p f g G w.drew := h.grow (Below.refl _ _).drew
/-- The table alone turned. -/
theorem ZpTo.put {Q' : Nat → Gp} (h : ZpTo w0 p f g G w) (k : Th w' p f g.T.F.d Q') (u : Upd (· = p) w w') : ZpTo w0 p f { g with Q := Q' } G w' := by
  obtain ⟨⟨Gn, h1, h2, h3⟩, h4, h5⟩ := h
  exact ⟨⟨Gn, ⟨k, h1.tp.upd u (fun b _ hb e => h1.np (e ▸ hb)), h1.np⟩, h2, h3⟩, h4.trans u (fun b _ e => by rw [e]; exact h5), h5⟩
/-- The open files alone turned. -/
theorem ZpTo.fil {T' : Ft} {Gn : Nat → Prop} (h : ZpTo w0 p f g G w) (h1 : Zs w p f Gn g) (h3 : ∀ b, Gn b → G b ∨ w0.heap.size ≤ b) (k : TpTo w f T' Gn w') (hd : T'.F.d = g.T.F.d) : ZpTo w0 p f { g with T := T' } G w' := by
  obtain ⟨_, h4, h5⟩ := h
  obtain ⟨k1, k2⟩ := k
  have hl := h1.th.lt
  refine ⟨⟨fun b => Gn b ∨ w.heap.size ≤ b, ⟨?_, k1, fun e => ?_⟩, .inl h5, fun b hb => ?_⟩, h4.trans k2 (fun b hb hG => ?_), h5⟩
  · show Th w' p f T'.F.d g.Q
    rw [hd]
    exact h1.th.upd k2 h1.np
  · rcases e with e | e
    · exact h1.np e
    · omega
  · rcases hb with hb | hb
    · exact h3 b hb
    · exact .inr (Nat.le_trans h4.size hb)
  · rcases h3 b hG with e | e
    · exact e
    · omega
theorem ZpTo.parts (h : ZpTo w0 p f g G w) : ∃ Gn, Zs w p f Gn g ∧ ∀ b, Gn b → G b ∨ w0.heap.size ≤ b := by
  obtain ⟨⟨Gn, h1, h2, h3⟩, _⟩ := h
  exact ⟨Gn, h1, h3⟩
end

end Go.Proofs.YtbglhmcahnkbfaaGreat
