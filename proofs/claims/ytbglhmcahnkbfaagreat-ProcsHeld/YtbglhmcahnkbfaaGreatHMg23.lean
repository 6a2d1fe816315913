/- Texts of this seat, merged. -/
import Derived.Test.YtbglhmcahnkbfaaGreatHMg5
import Derived.Test.YtbglhmcahnkbfaaGreatHMg11
import Derived.Test.YtbglhmcahnkbfaaGreatHMg22

/- Open files without memory: what each call of them comes to. -/
namespace Go.Proofs.YtbglhmcahnkbfaaGreat
set_option linter.unusedVariables false

/-- Whether flags have other bits than the six. -/
def dfcN (g : Int) : Bool := decide (bits .andNot .i64 g 63 ≠ 0)

/-- A file system, pipes, open files by their numbers. -/
structure Ft where
  F : Fs
  P : Nat → Pi.Pp
  O : Nat → Fl

namespace Ft
/-- A pipe's writer that is closed is not counted off. -/
def kp (T : Ft) : Bool := Pi.bit8 T.F.d
def there (T : Ft) (n : Int) : Bool := decide (1 ≤ n ∧ n ≤ 10 ∧ (T.O n.toNat).h ≠ 0)
def has (T : Ft) (n : Int) (b : Int) : Bool := T.there n && dfc (T.O n.toNat).fl b
def at_ (T : Ft) (n : Nat) (x : Fl) : Ft := { T with O := updF T.O n x }

/-- The node that is opened. -/
def node (F : Fs) (l : List UInt8) (g : Int) : Fs × Nat × Int :=
  if dfc g 8 = false then (F, F.find l) else if (F.find l).2 = 2 then F.make l 1 else if (F.find l).2 = 0 ∧ dfc g 16 = true then (F, 0, 17) else (F, F.find l)
/-- What becomes of it, ahead of its being held. -/
def cutF (F : Fs) (n : Nat) (g : Int) : Fs × Int :=
  if dfc g 2 = false then (F, 0) else if (F.P n).k = 2 then (F, 21) else if dfc g 32 = false then (F, 0) else F.resize n 0
def openN (T : Ft) (l : List UInt8) (g : Int) : Fs × Nat × Int :=
  if (node T.F l g).2.2 ≠ 0 then node T.F l g else
  if (cutF (node T.F l g).1 (node T.F l g).2.1 g).2 ≠ 0 then ((cutF (node T.F l g).1 (node T.F l g).2.1 g).1, 0, (cutF (node T.F l g).1 (node T.F l g).2.1 g).2) else
  (((cutF (node T.F l g).1 (node T.F l g).2.1 g).1.hold (node T.F l g).2.1).1, (node T.F l g).2.1, ((cutF (node T.F l g).1 (node T.F l g).2.1 g).1.hold (node T.F l g).2.1).2)
/-- Whether flags can be. -/
def flagsOk (g : Int) : Bool := !dfcN g && dfc g 3
def open_ (T : Ft) (l : List UInt8) (g : Int) : Ft × Nat × Int :=
  if flagsOk g = false then (T, 0, 22) else if ofL T.O 11 = [] then (T, 0, 23) else
  if (T.openN l g).2.2 ≠ 0 then ({ T with F := (T.openN l g).1 }, 0, (T.openN l g).2.2) else
  ({ T with F := (T.openN l g).1, O := updF T.O ((ofL T.O 11).headD 0) ⟨1, (T.openN l g).2.1, 0, g, 1⟩ }, (ofL T.O 11).headD 0, 0)

def pipe (T : Ft) : Ft × Nat × Nat × Int := match ofL T.O 11 with
  | a :: b :: _ => if Pi.makeE T.P ≠ 0 then (T, 0, 0, Pi.makeE T.P) else
    ({ T with P := Pi.makeP T.P, O := updF (updF T.O a ⟨2, Pi.lowest T.P, 0, 1, 1⟩) b ⟨3, Pi.lowest T.P, 0, 2, 1⟩ }, a, b, 0)
  | _ => (T, 0, 0, 23)

def read (T : Ft) (n c : Int) : Ft × List Int × Bool × Int :=
  if T.has n 1 = false then (T, [], false, 9) else
  if (T.O n.toNat).k ≠ 1 then ({ T with P := Pi.readP T.P (T.O n.toNat).of c }, Pi.readL T.P (T.O n.toNat).of c, Pi.readW T.P (T.O n.toNat).of c, Pi.readE T.P (T.O n.toNat).of c) else
  (T.at_ n.toNat { T.O n.toNat with off := (T.O n.toNat).off + ((T.F.read (T.O n.toNat).of (T.O n.toNat).off c).1.length : Int) }, (T.F.read (T.O n.toNat).of (T.O n.toNat).off c).1, false, (T.F.read (T.O n.toNat).of (T.O n.toNat).off c).2)

/-- Where a write begins. -/
def from_ (T : Ft) (x : Fl) : Int := if dfc x.fl 4 = true then (T.F.size x.of.toNat : Int) else x.off
def write (T : Ft) (n : Int) (b : List Int) : Ft × Int × Bool × Int :=
  if T.has n 2 = false then (T, 0, false, 9) else
  if (T.O n.toNat).k ≠ 1 then ({ T with P := Pi.writeP T.P (T.O n.toNat).of b }, (Pi.writeN T.P (T.O n.toNat).of b.length : Int), Pi.writeW T.P (T.O n.toNat).of b.length, Pi.writeE T.P (T.O n.toNat).of) else
  if (T.F.write (T.O n.toNat).of (T.from_ (T.O n.toNat)) b).2.2 ≠ 0 then (T, 0, false, (T.F.write (T.O n.toNat).of (T.from_ (T.O n.toNat)) b).2.2) else
  ({ T with F := (T.F.write (T.O n.toNat).of (T.from_ (T.O n.toNat)) b).1, O := updF T.O n.toNat { T.O n.toNat with off := T.from_ (T.O n.toNat) + (T.F.write (T.O n.toNat).of (T.from_ (T.O n.toNat)) b).2.1 } }, (T.F.write (T.O n.toNat).of (T.from_ (T.O n.toNat)) b).2.1, false, 0)

def base (T : Ft) (x : Fl) (wh : Int) : Int := if wh = 1 then x.off else if wh = 2 then (T.F.size x.of.toNat : Int) else 0
def hold (T : Ft) (n : Int) : Ft × Int :=
  if T.there n = false then (T, 9) else if 1000 ≤ (T.O n.toNat).h then (T, 11) else (T.at_ n.toNat { T.O n.toNat with h := (T.O n.toNat).h + 1 }, 0)
def drop (T : Ft) (n : Int) : Ft × Int :=
  if T.there n = false then (T, 9) else if 1 < (T.O n.toNat).h then (T.at_ n.toNat { T.O n.toNat with h := (T.O n.toNat).h - 1 }, 0) else
  if (T.O n.toNat).k = 1 then ({ T with F := (T.F.drop (T.O n.toNat).of).1, O := updF T.O n.toNat noFl }, 0) else
  ({ T with P := Pi.dropP T.kp T.P (T.O n.toNat).of (decide ((T.O n.toNat).k = 3)), O := updF T.O n.toNat noFl }, 0)

def nameF (F : Fs) (call : Int) (l m : List UInt8) : Fs × Int :=
  if call = 7 then F.unlink l else if call = 8 then ((F.make l 2).1, (F.make l 2).2.2) else if call = 9 then F.rmdir l else if call = 10 then F.link l m else if call = 11 then F.rename l m else (F, 22)
def name (T : Ft) (call : Int) (l m : List UInt8) : Ft × Int := ({ T with F := (nameF T.F call l m).1 }, (nameF T.F call l m).2)
end Ft

/-- No open files. -/
def newT (d : Int) : Ft := ⟨rootF d, Pi.noPipes, fun _ => noFl⟩

/-- How many open files of a kind are of a number. -/
def cF (O : Nat → Fl) (k : Int) (n : Nat) : Nat := (List.range 11).countP (fun i => decide ((O i).h ≠ 0 ∧ (O i).k = k ∧ (O i).of = (n : Int)))

/-- What is true of open files that calls have made. -/
structure TOk (T : Ft) : Prop where
  F : FOk T.F
  out : ∀ i, i = 0 ∨ 11 ≤ i → T.O i = noFl
  nn : ∀ i, (T.O i).h = 0 → T.O i = noFl
  h : ∀ i, 0 ≤ (T.O i).h ∧ (T.O i).h ≤ 1000
  k : ∀ i, (T.O i).h ≠ 0 → (T.O i).k = 1 ∨ (T.O i).k = 2 ∨ (T.O i).k = 3
  off : ∀ i, 0 ≤ (T.O i).off ∧ (T.O i).off ≤ 1048576
  of : ∀ i, ∃ m : Nat, (T.O i).of = (m : Int)
  hc : ∀ n : Nat, (T.F.P n).h = (cF T.O 1 n : Int)
  r : ∀ n, (T.P n).r = cF T.O 2 n
  w : ∀ n, cF T.O 3 n ≤ (T.P n).w
  ws : T.kp = false → ∀ n, (T.P n).w = cF T.O 3 n
  pq : ∀ n, (T.P n).q.length ≤ 8 ∧ (T.P n).w ≤ 1 ∧ Pi.clr (T.P n) = T.P n
  po : ∀ n, n = 0 ∨ 5 ≤ n → T.P n = ⟨0, 0, []⟩

end Go.Proofs.YtbglhmcahnkbfaaGreat

/- What is true of open files stays true, call by call. -/
namespace Go.Proofs.YtbglhmcahnkbfaaGreat
set_option linter.unusedVariables false

theorem cnt_upd (p q : Nat → Bool) (i : Nat) (hne : ∀ j, j ≠ i → q j = p j) : ∀ m, i < m → (List.range m).countP q + (if p i = true then 1 else 0) = (List.range m).countP p + (if q i = true then 1 else 0)
  | 0, h => absurd h (Nat.not_lt_zero _)
  | m + 1, h => by
    rw [List.range_succ, List.countP_append, List.countP_append, List.countP_singleton, List.countP_singleton]
    rcases (show i < m ∨ i = m by omega) with e | e
    · have := cnt_upd p q i hne m e
      rw [hne m (by omega)]
      omega
    · subst e
      have : (List.range i).countP q = (List.range i).countP p := List.countP_congr (fun j hj => by rw [hne j (by have := List.mem_range.1 hj; omega)])
      omega

def cb (x : Fl) (k : Int) (n : Nat) : Bool := decide (x.h ≠ 0 ∧ x.k = k ∧ x.of = (n : Int))
theorem cF_upd (O : Nat → Fl) (i : Nat) (x : Fl) (hi : i < 11) (k : Int) (n : Nat) : cF (updF O i x) k n + (if cb (O i) k n = true then 1 else 0) = cF O k n + (if cb x k n = true then 1 else 0) := by
  have h := cnt_upd (fun j => cb (O j) k n) (fun j => cb (updF O i x j) k n) i (fun j hj => by rw [updF_ne _ _ _ _ hj]) 11 hi
  rw [updF_same] at h
  exact h
theorem cF_same {O : Nat → Fl} {i : Nat} {x : Fl} (hi : i < 11) (h : x.h ≠ 0) (h' : (O i).h ≠ 0) (hk : x.k = (O i).k) (ho : x.of = (O i).of) (k : Int) (n : Nat) : cF (updF O i x) k n = cF O k n := by
  have e : cb x k n = cb (O i) k n := by unfold cb; simp [h, h', hk, ho]
  have := cF_upd O i x hi k n
  rw [e] at this
  omega
theorem cF_new {O : Nat → Fl} {i : Nat} {x : Fl} (hi : i < 11) (h : x.h ≠ 0) (h' : (O i).h = 0) (k : Int) (n : Nat) : cF (updF O i x) k n = cF O k n + if x.k = k ∧ x.of = (n : Int) then 1 else 0 := by
  have := cF_upd O i x hi k n
  have e : cb (O i) k n = false := by unfold cb; simp [h']
  have e2 : cb x k n = decide (x.k = k ∧ x.of = (n : Int)) := by unfold cb; simp [h]
  rw [e, e2] at this
  simpa using this
theorem cF_gone {O : Nat → Fl} {i : Nat} (hi : i < 11) (h : (O i).h ≠ 0) (k : Int) (n : Nat) : cF (updF O i noFl) k n + (if (O i).k = k ∧ (O i).of = (n : Int) then 1 else 0) = cF O k n := by
  have := cF_upd O i noFl hi k n
  have e : cb noFl k n = false := by unfold cb; simp [noFl]
  have e2 : cb (O i) k n = decide ((O i).k = k ∧ (O i).of = (n : Int)) := by unfold cb; simp [h]
  rw [e, e2] at this
  simpa using this
theorem cF_mem {O : Nat → Fl} {i : Nat} (hi : i < 11) (h : (O i).h ≠ 0) (n : Nat) (hn : (O i).of = (n : Int)) : 1 ≤ cF O (O i).k n :=
  List.countP_pos_iff.2 ⟨i, List.mem_range.2 hi, by simp [h, hn]⟩

/-- Pipes whose ends are as they were. -/
structure PS (P P' : Nat → Pi.Pp) : Prop where
  r : ∀ n, (P' n).r = (P n).r
  w : ∀ n, (P' n).w = (P n).w
  q : (∀ n, (P n).q.length ≤ 8) → ∀ n, (P' n).q.length ≤ 8
  c : (∀ n, Pi.clr (P n) = P n) → ∀ n, Pi.clr (P' n) = P' n
  o : (∀ n, n = 0 ∨ 5 ≤ n → P n = ⟨0, 0, []⟩) → ∀ n, n = 0 ∨ 5 ≤ n → P' n = ⟨0, 0, []⟩
theorem PS.refl (P : Nat → Pi.Pp) : PS P P := ⟨fun _ => rfl, fun _ => rfl, fun h => h, fun h => h, fun h => h⟩
theorem Ft.there_lt {T : Ft} {n : Int} (h : T.there n = true) : ∃ i : Nat, n = (i : Int) ∧ 1 ≤ i ∧ i < 11 ∧ (T.O i).h ≠ 0 := by
  unfold Ft.there at h
  simp only [decide_eq_true_eq] at h
  exact ⟨n.toNat, by omega, by omega, by omega, h.2.2⟩
/-- An open file's offset, or holders, turn; what is below keeps who holds what. -/
theorem TOk.turn {T : Ft} (H : TOk T) {F' : Fs} {P' : Nat → Pi.Pp} (hF : FOk F') (sF : SH T.F F') (sP : PS T.P P') (i : Nat) (h1 : 1 ≤ i) (hi : i < 11) (hh : (T.O i).h ≠ 0) (x : Fl) (hk : x.k = (T.O i).k) (ho : x.of = (T.O i).of) (hx : 1 ≤ x.h ∧ x.h ≤ 1000) (hf : 0 ≤ x.off ∧ x.off ≤ 1048576) :
    TOk ⟨F', P', updF T.O i x⟩ := by
  have ec : ∀ k n, cF (updF T.O i x) k n = cF T.O k n := cF_same hi (by omega) hh hk ho
  have eu : ∀ j, updF T.O i x j = if j = i then x else T.O j := fun j => rfl
  refine ⟨hF, fun j hj => ?_, fun j hj => ?_, fun j => ?_, fun j hj => ?_, fun j => ?_, fun j => ?_, fun n => ?_, fun n => ?_, fun n => ?_, fun hkp n => ?_, fun n => ⟨?_, ?_, ?_⟩, sP.o H.po⟩
  · show updF T.O i x j = noFl
    rw [eu, if_neg (by omega)]; exact H.out j hj
  · revert hj
    show (updF T.O i x j).h = 0 → updF T.O i x j = noFl
    rw [eu]; split
    · intro e; omega
    · exact H.nn j
  · show 0 ≤ (updF T.O i x j).h ∧ (updF T.O i x j).h ≤ 1000
    rw [eu]; split
    · omega
    · exact H.h j
  · revert hj
    show (updF T.O i x j).h ≠ 0 → (updF T.O i x j).k = 1 ∨ (updF T.O i x j).k = 2 ∨ (updF T.O i x j).k = 3
    rw [eu]; split
    · intro _; rw [hk]; exact H.k i hh
    · exact H.k j
  · show 0 ≤ (updF T.O i x j).off ∧ (updF T.O i x j).off ≤ 1048576
    rw [eu]; split
    · exact hf
    · exact H.off j
  · show ∃ m : Nat, (updF T.O i x j).of = (m : Int)
    rw [eu]; split
    · rw [ho]; exact H.of i
    · exact H.of j
  · show (F'.P n).h = (cF (updF T.O i x) 1 n : Int)
    rw [ec, sF.2]; exact H.hc n
  · show (P' n).r = cF (updF T.O i x) 2 n
    rw [ec, sP.r]; exact H.r n
  · show cF (updF T.O i x) 3 n ≤ (P' n).w
    rw [ec, sP.w]; exact H.w n
  · show (P' n).w = cF (updF T.O i x) 3 n
    rw [ec, sP.w]
    refine H.ws ?_ n
    have : Ft.kp ⟨F', P', updF T.O i x⟩ = T.kp := by unfold Ft.kp; rw [sF.1]
    rw [this] at hkp; exact hkp
  · exact sP.q (fun n => (H.pq n).1) n
  · show (P' n).w ≤ 1
    rw [sP.w]; exact (H.pq n).2.1
  · exact sP.c (fun n => (H.pq n).2.2) n

/-- What is below turns, but for who holds what. -/
theorem TOk.below {T : Ft} (H : TOk T) {F' : Fs} {P' : Nat → Pi.Pp} (hF : FOk F') (sF : SH T.F F') (sP : PS T.P P') : TOk ⟨F', P', T.O⟩ :=
  ⟨hF, H.out, H.nn, H.h, H.k, H.off, H.of, fun n => by show (F'.P n).h = _; rw [sF.2]; exact H.hc n, fun n => by show (P' n).r = _; rw [sP.r]; exact H.r n, fun n => by show _ ≤ (P' n).w; rw [sP.w]; exact H.w n, fun hkp n => by
    show (P' n).w = _
    rw [sP.w]
    refine H.ws ?_ n
    have : Ft.kp ⟨F', P', T.O⟩ = T.kp := by unfold Ft.kp; rw [sF.1]
    rw [this] at hkp; exact hkp, fun n => ⟨sP.q (fun n => (H.pq n).1) n, by show (P' n).w ≤ 1; rw [sP.w]; exact (H.pq n).2.1, sP.c (fun n => (H.pq n).2.2) n⟩, sP.o H.po⟩

/-- An open file more, of a node. -/
theorem TOk.more {T : Ft} (H : TOk T) {F' : Fs} (hF : FOk F') (hd : F'.d = T.F.d) (m : Nat) (hh : ∀ n, (F'.P n).h = (T.F.P n).h + if n = m then 1 else 0) (i : Nat) (h1 : 1 ≤ i) (hi : i < 11) (h0 : (T.O i).h = 0) (g : Int) :
    TOk ⟨F', T.P, updF T.O i ⟨1, (m : Int), 0, g, 1⟩⟩ := by
  have ec : ∀ k n, cF (updF T.O i ⟨1, (m : Int), 0, g, 1⟩) k n = cF T.O k n + if (1 : Int) = k ∧ (m : Int) = (n : Int) then 1 else 0 := fun k n => cF_new (x := ⟨1, (m : Int), 0, g, 1⟩) hi (by show (1 : Int) ≠ 0; omega) h0 k n
  have eu : ∀ j, updF T.O i ⟨1, (m : Int), 0, g, 1⟩ j = if j = i then ⟨1, (m : Int), 0, g, 1⟩ else T.O j := fun j => rfl
  refine ⟨hF, fun j hj => ?_, fun j hj => ?_, fun j => ?_, fun j hj => ?_, fun j => ?_, fun j => ?_, fun n => ?_, fun n => ?_, fun n => ?_, fun hkp n => ?_, H.pq, H.po⟩
  · show updF T.O i _ j = noFl
    rw [eu, if_neg (by omega)]; exact H.out j hj
  · revert hj
    show (updF T.O i _ j).h = 0 → updF T.O i _ j = noFl
    rw [eu]; split
    · intro e; exact absurd e (by show (1 : Int) ≠ 0; omega)
    · exact H.nn j
  · show 0 ≤ (updF T.O i _ j).h ∧ (updF T.O i _ j).h ≤ 1000
    rw [eu]; split
    · show (0 : Int) ≤ 1 ∧ (1 : Int) ≤ 1000; omega
    · exact H.h j
  · revert hj
    show (updF T.O i _ j).h ≠ 0 → (updF T.O i _ j).k = 1 ∨ (updF T.O i _ j).k = 2 ∨ (updF T.O i _ j).k = 3
    rw [eu]; split
    · intro _; exact .inl rfl
    · exact H.k j
  · show 0 ≤ (updF T.O i _ j).off ∧ (updF T.O i _ j).off ≤ 1048576
    rw [eu]; split
    · show (0 : Int) ≤ 0 ∧ (0 : Int) ≤ 1048576; omega
    · exact H.off j
  · show ∃ k : Nat, (updF T.O i _ j).of = (k : Int)
    rw [eu]; split
    · exact ⟨m, rfl⟩
    · exact H.of j
  · show (F'.P n).h = (cF (updF T.O i _) 1 n : Int)
    rw [ec, hh, H.hc n]
    by_cases e : n = m
    · subst e; simp
    · have : ¬ (m : Int) = (n : Int) := by omega
      simp [e, this]
  · show (T.P n).r = cF (updF T.O i _) 2 n
    rw [ec, if_neg (by omega)]; exact H.r n
  · show cF (updF T.O i _) 3 n ≤ (T.P n).w
    rw [ec, if_neg (by omega)]; exact H.w n
  · show (T.P n).w = cF (updF T.O i _) 3 n
    rw [ec, if_neg (by omega)]
    refine H.ws ?_ n
    have : Ft.kp ⟨F', T.P, updF T.O i ⟨1, (m : Int), 0, g, 1⟩⟩ = T.kp := by unfold Ft.kp; rw [hd]
    rw [this] at hkp; exact hkp

end Go.Proofs.YtbglhmcahnkbfaaGreat

/- What is true of open files stays true: Open, Pipe, and the rest. -/
namespace Go.Proofs.YtbglhmcahnkbfaaGreat
set_option linter.unusedVariables false

theorem ofL_mem {O : Nat → Fl} : ∀ {n i : Nat}, i ∈ ofL O n → 1 ≤ i ∧ i < n ∧ (O i).h = 0
  | 0, i, h => by simp [ofL] at h
  | n + 1, i, h => by
    unfold ofL at h
    rcases List.mem_append.1 h with h | h
    · have := ofL_mem h; exact ⟨this.1, by omega, this.2.2⟩
    · split at h
      · rename_i e
        have : i = n := by simpa using h
        subst this
        exact ⟨e.1, by omega, e.2⟩
      · simp at h
theorem ofL_head {O : Nat → Fl} (h : ofL O 11 ≠ []) : 1 ≤ (ofL O 11).headD 0 ∧ (ofL O 11).headD 0 < 11 ∧ (O ((ofL O 11).headD 0)).h = 0 := by
  cases e : ofL O 11 with
  | nil => exact absurd e h
  | cons a r => exact ofL_mem (n := 11) (by rw [e]; exact List.mem_cons_self)

theorem Ft.node_ok {F : Fs} (H : FOk F) (l : List UInt8) (g : Int) : FOk (Ft.node F l g).1 ∧ SH F (Ft.node F l g).1 := by
  unfold Ft.node
  split
  · exact ⟨H, SH.refl F⟩
  split
  · exact ⟨H.make l 1, SH.make H l 1⟩
  split
  · exact ⟨H, SH.refl F⟩
  · exact ⟨H, SH.refl F⟩
theorem Ft.cutF_ok {F : Fs} (H : FOk F) (n : Nat) (g : Int) : FOk (Ft.cutF F n g).1 ∧ SH F (Ft.cutF F n g).1 := by
  unfold Ft.cutF
  split
  · exact ⟨H, SH.refl F⟩
  split
  · exact ⟨H, SH.refl F⟩
  split
  · exact ⟨H, SH.refl F⟩
  · exact ⟨H.resize _ _, SH.resize _ _ _⟩
theorem Ft.openN_ok {T : Ft} (H : TOk T) (l : List UInt8) (g : Int) : FOk (T.openN l g).1 ∧ (T.openN l g).1.d = T.F.d ∧ ((T.openN l g).2.2 ≠ 0 → SH T.F (T.openN l g).1) ∧ ((T.openN l g).2.2 = 0 → ∀ n, ((T.openN l g).1.P n).h = (T.F.P n).h + if n = (T.openN l g).2.1 then 1 else 0) := by
  obtain ⟨a1, a2⟩ := Ft.node_ok H.F l g
  obtain ⟨b1, b2⟩ := Ft.cutF_ok a1 (Ft.node T.F l g).2.1 g
  unfold Ft.openN
  split
  · rename_i e
    exact ⟨a1, a2.1, fun _ => a2, fun q => absurd q e⟩
  split
  · rename_i e
    exact ⟨b1, (a2.trans b2).1, fun _ => a2.trans b2, fun q => absurd q e⟩
  · dsimp only
    refine ⟨b1.hold _, (hold_d _ _).trans (a2.trans b2).1, fun q => ?_, fun q n => ?_⟩
    · rw [hold_no q]; exact a2.trans b2
    · rw [(hold_P q).2, Int.toNat_natCast, Fs.hld_P]
      dsimp only
      rw [← (a2.trans b2).2 n]
      split
      · rename_i e; subst e; rfl
      · omega
theorem TOk.open_ {T : Ft} (H : TOk T) (l : List UInt8) (g : Int) : TOk (T.open_ l g).1 := by
  obtain ⟨a1, a2, a3, a4⟩ := Ft.openN_ok H l g
  unfold Ft.open_
  split
  · exact H
  split
  · exact H
  rename_i hf
  split
  · rename_i e
    exact H.below a1 (a3 e) (PS.refl T.P)
  · rename_i e
    obtain ⟨f1, f2, f3⟩ := ofL_head hf
    exact H.more a1 a2 _ (a4 (Decidable.not_not.1 e)) _ f1 f2 f3 g

theorem TOk.hold {T : Ft} (H : TOk T) (n : Int) : TOk (T.hold n).1 := by
  unfold Ft.hold
  split
  · exact H
  rename_i hh
  obtain ⟨i, rfl, h1, h2, h3⟩ := Ft.there_lt (by simpa using hh)
  split
  · exact H
  · rename_i e
    rw [Int.toNat_natCast] at e ⊢
    exact H.turn H.F (SH.refl _) (PS.refl _) i h1 h2 h3 _ rfl rfl (by have := H.h i; show 1 ≤ (T.O i).h + 1 ∧ (T.O i).h + 1 ≤ 1000; omega) (H.off i)

/-- The last descriptor of an open file goes. -/
theorem TOk.less {T : Ft} (H : TOk T) {F' : Fs} {P' : Nat → Pi.Pp} (i : Nat) (h1 : 1 ≤ i) (hi : i < 11) (h0 : (T.O i).h ≠ 0) (hF : FOk F') (hd : F'.d = T.F.d)
    (hh : ∀ n : Nat, (F'.P n).h + (if (T.O i).k = 1 ∧ (T.O i).of = (n : Int) then 1 else 0) = (T.F.P n).h) (hr : ∀ n : Nat, (P' n).r + (if (T.O i).k = 2 ∧ (T.O i).of = (n : Int) then 1 else 0) = (T.P n).r)
    (hw : ∀ n : Nat, (P' n).w ≤ (T.P n).w ∧ (T.P n).w ≤ (P' n).w + (if (T.O i).k = 3 ∧ (T.O i).of = (n : Int) then 1 else 0)) (hw2 : T.kp = false → ∀ n : Nat, (P' n).w + (if (T.O i).k = 3 ∧ (T.O i).of = (n : Int) then 1 else 0) = (T.P n).w)
    (hq : ∀ n, (P' n).q.length ≤ 8 ∧ Pi.clr (P' n) = P' n) (ho : ∀ n, n = 0 ∨ 5 ≤ n → P' n = ⟨0, 0, []⟩) : TOk ⟨F', P', updF T.O i noFl⟩ := by
  have ec := fun k n => cF_gone (O := T.O) hi h0 k n
  have eu : ∀ j, updF T.O i noFl j = if j = i then noFl else T.O j := fun j => rfl
  refine ⟨hF, fun j hj => ?_, fun j hj => ?_, fun j => ?_, fun j hj => ?_, fun j => ?_, fun j => ?_, fun n => ?_, fun n => ?_, fun n => ?_, fun hkp n => ?_, fun n => ⟨(hq n).1, ?_, (hq n).2⟩, ho⟩
  · show updF T.O i noFl j = noFl
    rw [eu]; split
    · rfl
    · exact H.out j hj
  · revert hj
    show (updF T.O i noFl j).h = 0 → updF T.O i noFl j = noFl
    rw [eu]; split
    · intro _; rfl
    · exact H.nn j
  · show 0 ≤ (updF T.O i noFl j).h ∧ (updF T.O i noFl j).h ≤ 1000
    rw [eu]; split
    · show (0 : Int) ≤ 0 ∧ (0 : Int) ≤ 1000; omega
    · exact H.h j
  · revert hj
    show (updF T.O i noFl j).h ≠ 0 → (updF T.O i noFl j).k = 1 ∨ (updF T.O i noFl j).k = 2 ∨ (updF T.O i noFl j).k = 3
    rw [eu]; split
    · intro e; exact absurd rfl e
    · exact H.k j
  · show 0 ≤ (updF T.O i noFl j).off ∧ (updF T.O i noFl j).off ≤ 1048576
    rw [eu]; split
    · show (0 : Int) ≤ 0 ∧ (0 : Int) ≤ 1048576; omega
    · exact H.off j
  · show ∃ m : Nat, (updF T.O i noFl j).of = (m : Int)
    rw [eu]; split
    · exact ⟨0, rfl⟩
    · exact H.of j
  · show (F'.P n).h = (cF (updF T.O i noFl) 1 n : Int)
    have e1 := ec 1 n
    have e2 := hh n
    have e3 := H.hc n
    by_cases q : (T.O i).k = 1 ∧ (T.O i).of = (n : Int)
    · rw [if_pos q] at e1 e2; omega
    · rw [if_neg q] at e1 e2; omega
  · show (P' n).r = cF (updF T.O i noFl) 2 n
    have := ec 2 n
    have := hr n
    have := H.r n
    omega
  · show cF (updF T.O i noFl) 3 n ≤ (P' n).w
    have := ec 3 n
    have := hw n
    have := H.w n
    omega
  · show (P' n).w = cF (updF T.O i noFl) 3 n
    have hk : T.kp = false := by
      have : Ft.kp ⟨F', P', updF T.O i noFl⟩ = T.kp := by unfold Ft.kp; rw [hd]
      rw [this] at hkp; exact hkp
    have := ec 3 n
    have := hw2 hk n
    have := H.ws hk n
    omega
  · have := (hw n).1
    have := (H.pq n).2.1
    show (P' n).w ≤ 1
    omega

end Go.Proofs.YtbglhmcahnkbfaaGreat

/- What is true of open files stays true: Drop, the calls of names. -/
namespace Go.Proofs.YtbglhmcahnkbfaaGreat
set_option linter.unusedVariables false

theorem clr_rw (x : Pi.Pp) : (Pi.clr x).r = x.r ∧ (Pi.clr x).w = x.w ∧ ((Pi.clr x).q = x.q ∨ (Pi.clr x).q = []) ∧ Pi.clr (Pi.clr x) = Pi.clr x := by
  unfold Pi.clr
  split
  · rename_i h
    exact ⟨rfl, rfl, .inl rfl, by first | rfl | simp [h]⟩
  · rename_i h
    unfold Pi.Pp.there at h
    simp at h
    exact ⟨by first | rw [h.1] | simp [h.1], by first | rw [h.2] | simp [h.2], .inr rfl, rfl⟩

/-- An end that somebody holds is dropped. -/
theorem dropP_yes {T : Ft} (H : TOk T) (m : Nat) (b : Bool) (he : 1 ≤ (T.P m).ends b) : Pi.dropE T.P m b = 0 ∧ 1 ≤ m ∧ m ≤ 4 ∧ Pi.dropP T.kp T.P m b = if (b && T.kp) = true then T.P else Pi.updP T.P m (Pi.clr ((T.P m).setEnds b ((T.P m).ends b - 1))) := by
  have hm : 1 ≤ m ∧ m ≤ 4 := by
    by_cases e : m = 0 ∨ 5 ≤ m
    · rw [H.po m e] at he
      unfold Pi.Pp.ends at he
      cases b <;> simp at he
    · omega
  have ht : (T.P m).there = true := by
    unfold Pi.Pp.ends at he
    unfold Pi.Pp.there
    cases b <;> simp at he ⊢ <;> omega
  have hh : Pi.has T.P m = true := by
    unfold Pi.has
    rw [Int.toNat_natCast, ht]
    simp; omega
  refine ⟨?_, hm.1, hm.2, ?_⟩
  · unfold Pi.dropE
    rw [if_pos hh, Int.toNat_natCast, if_neg (by omega)]
  · unfold Pi.dropP
    rw [if_pos hh, Int.toNat_natCast, if_neg (by omega)]

theorem TOk.drop_end {T : Ft} (H : TOk T) (i : Nat) (h1 : 1 ≤ i) (hi : i < 11) (h0 : (T.O i).h ≠ 0) (hk : (T.O i).k = 2 ∨ (T.O i).k = 3) : Pi.dropE T.P (T.O i).of (decide ((T.O i).k = 3)) = 0 ∧ TOk ⟨T.F, Pi.dropP T.kp T.P (T.O i).of (decide ((T.O i).k = 3)), updF T.O i noFl⟩ := by
  obtain ⟨m, hm⟩ := H.of i
  have hc := cF_mem hi h0 m hm
  rw [hm]
  rcases hk with k2 | k3
  · have hb : decide ((T.O i).k = 3) = false := by simp [k2]
    rw [k2] at hc
    have n1 : ∀ n : Nat, ¬ ((T.O i).k = 1 ∧ (T.O i).of = (n : Int)) := fun n => by omega
    have n3 : ∀ n : Nat, ¬ ((T.O i).k = 3 ∧ (T.O i).of = (n : Int)) := fun n => by omega
    have hr := H.r m
    obtain ⟨d1, m1, m4, d2⟩ := dropP_yes H m false (by unfold Pi.Pp.ends; simp; omega)
    rw [hb]
    refine ⟨d1, ?_⟩
    rw [d2, if_neg (by simp)]
    have ep : ∀ n, Pi.updP T.P m (Pi.clr ((T.P m).setEnds false ((T.P m).ends false - 1))) n = if n = m then Pi.clr ((T.P m).setEnds false ((T.P m).ends false - 1)) else T.P n := fun _ => rfl
    obtain ⟨q1, q2, q3, q4⟩ := clr_rw ((T.P m).setEnds false ((T.P m).ends false - 1))
    refine H.less i h1 hi h0 H.F rfl (fun n => ?_) (fun n => ?_) (fun n => ?_) (fun _ n => ?_) (fun n => ?_) (fun n hn => ?_)
    · rw [if_neg (n1 n)]; omega
    · rw [ep]
      by_cases e : n = m
      · subst e
        rw [if_pos rfl, if_pos ⟨k2, hm⟩, q1]
        show (T.P n).r - 1 + 1 = _
        omega
      · rw [if_neg e, if_neg (by rw [hm]; omega)]; omega
    · rw [ep, if_neg (n3 n)]
      by_cases e : n = m
      · subst e
        rw [if_pos rfl, q2]
        show (T.P n).w ≤ _ ∧ _ ≤ (T.P n).w + 0
        omega
      · rw [if_neg e]; omega
    · rw [ep, if_neg (n3 n)]
      by_cases e : n = m
      · subst e
        rw [if_pos rfl, q2]
        show (T.P n).w + 0 = _
        omega
      · rw [if_neg e]; omega
    · rw [ep]; split
      · refine ⟨?_, q4⟩
        rcases q3 with q3 | q3
        · rw [q3]; exact (H.pq m).1
        · rw [q3]; exact Nat.zero_le _
      · exact ⟨(H.pq n).1, (H.pq n).2.2⟩
    · rw [ep, if_neg (by omega)]; exact H.po n hn
  · have hb : decide ((T.O i).k = 3) = true := by simp [k3]
    rw [k3] at hc
    have n1 : ∀ n : Nat, ¬ ((T.O i).k = 1 ∧ (T.O i).of = (n : Int)) := fun n => by omega
    have n2 : ∀ n : Nat, ¬ ((T.O i).k = 2 ∧ (T.O i).of = (n : Int)) := fun n => by omega
    have hw := H.w m
    obtain ⟨d1, m1, m4, d2⟩ := dropP_yes H m true (by unfold Pi.Pp.ends; simp; omega)
    rw [hb]
    refine ⟨d1, ?_⟩
    rw [d2]
    cases hkp : T.kp
    · rw [if_neg (by simp)]
      have ep : ∀ n, Pi.updP T.P m (Pi.clr ((T.P m).setEnds true ((T.P m).ends true - 1))) n = if n = m then Pi.clr ((T.P m).setEnds true ((T.P m).ends true - 1)) else T.P n := fun _ => rfl
      obtain ⟨q1, q2, q3, q4⟩ := clr_rw ((T.P m).setEnds true ((T.P m).ends true - 1))
      refine H.less i h1 hi h0 H.F rfl (fun n => ?_) (fun n => ?_) (fun n => ?_) (fun _ n => ?_) (fun n => ?_) (fun n hn => ?_)
      · rw [if_neg (n1 n)]; omega
      · rw [ep, if_neg (n2 n)]
        by_cases e : n = m
        · subst e
          rw [if_pos rfl, q1]
          show (T.P n).r + 0 = _
          omega
        · rw [if_neg e]; omega
      · rw [ep]
        by_cases e : n = m
        · subst e
          rw [if_pos rfl, if_pos ⟨k3, hm⟩, q2]
          show (T.P n).w - 1 ≤ _ ∧ _ ≤ (T.P n).w - 1 + 1
          omega
        · rw [if_neg e, if_neg (by rw [hm]; omega)]; omega
      · rw [ep]
        by_cases e : n = m
        · subst e
          rw [if_pos rfl, if_pos ⟨k3, hm⟩, q2]
          show (T.P n).w - 1 + 1 = _
          omega
        · rw [if_neg e, if_neg (by rw [hm]; omega)]; omega
      · rw [ep]; split
        · refine ⟨?_, q4⟩
          rcases q3 with q3 | q3
          · rw [q3]; exact (H.pq m).1
          · rw [q3]; exact Nat.zero_le _
        · exact ⟨(H.pq n).1, (H.pq n).2.2⟩
      · rw [ep, if_neg (by omega)]; exact H.po n hn
    · rw [if_pos (by simp)]
      refine H.less i h1 hi h0 H.F rfl (fun n => ?_) (fun n => ?_) (fun n => ?_) (fun hf n => ?_) (fun n => ⟨(H.pq n).1, (H.pq n).2.2⟩) H.po
      · rw [if_neg (n1 n)]; omega
      · rw [if_neg (n2 n)]; omega
      · split <;> omega
      · rw [hf] at hkp; cases hkp

theorem TOk.drop {T : Ft} (H : TOk T) (n : Int) : TOk (T.drop n).1 := by
  unfold Ft.drop
  split
  · exact H
  rename_i hh
  obtain ⟨i, rfl, h1, hi, h0⟩ := Ft.there_lt (by simpa using hh)
  rw [Int.toNat_natCast]
  split
  · rename_i e
    exact H.turn H.F (SH.refl _) (PS.refl _) i h1 hi h0 _ rfl rfl (by have := H.h i; show 1 ≤ (T.O i).h - 1 ∧ (T.O i).h - 1 ≤ 1000; omega) (H.off i)
  split
  · rename_i e k1
    obtain ⟨m, hm⟩ := H.of i
    have hc := cF_mem hi h0 m hm
    rw [k1] at hc
    have n2 : ∀ n : Nat, ¬ ((T.O i).k = 2 ∧ (T.O i).of = (n : Int)) := fun n => by omega
    have n3 : ∀ n : Nat, ¬ ((T.O i).k = 3 ∧ (T.O i).of = (n : Int)) := fun n => by omega
    have hp : 0 < (T.F.P m).h := by rw [H.hc m]; omega
    obtain ⟨_, d2⟩ := drop_h H.F hp
    rw [hm]
    refine H.less i h1 hi h0 (H.F.drop _) (drop_d _ _) (fun n => ?_) (fun n => ?_) (fun n => ?_) (fun _ n => ?_) (fun n => ⟨(H.pq n).1, (H.pq n).2.2⟩) H.po
    · rw [d2]
      by_cases e : n = m
      · subst e
        rw [if_pos rfl, if_pos ⟨k1, hm⟩]; omega
      · rw [if_neg e, if_neg (by rw [hm]; omega)]; omega
    · rw [if_neg (n2 n)]; omega
    · rw [if_neg (n3 n)]; omega
    · rw [if_neg (n3 n)]; omega
  · rename_i e k1
    exact (H.drop_end i h1 hi h0 (by rcases H.k i h0 with k | k | k; exact absurd k k1; exact .inl k; exact .inr k)).2

theorem TOk.new (d : Int) : TOk (newT d) := by
  have hP : ∀ i, ((rootF d).P i).h = 0 := fun i => by
    show (if i = 1 then Fn.nu 2 else Fn.no).h = 0
    split <;> rfl
  have hc : ∀ k n, cF (fun _ => noFl) k n = 0 := fun k n => by
    unfold cF
    rw [List.countP_eq_zero]
    intro i _
    simp [noFl]
  refine ⟨rootF_ok d, fun _ _ => rfl, fun _ _ => rfl, fun _ => by show (0 : Int) ≤ 0 ∧ (0 : Int) ≤ 1000; omega, fun i h => absurd rfl h, fun _ => by show (0 : Int) ≤ 0 ∧ (0 : Int) ≤ 1048576; omega, fun _ => ⟨0, rfl⟩, fun n => ?_, fun n => ?_, fun n => ?_, fun _ n => ?_, fun n => ⟨Nat.zero_le _, Nat.zero_le _, rfl⟩, fun _ _ => rfl⟩
  · show ((rootF d).P n).h = ((cF (fun _ => noFl) 1 n : Nat) : Int)
    rw [hc, hP]; rfl
  · show 0 = cF (fun _ => noFl) 2 n
    rw [hc]
  · show cF (fun _ => noFl) 3 n ≤ 0
    rw [hc]; exact Nat.le_refl _
  · show 0 = cF (fun _ => noFl) 3 n
    rw [hc]

end Go.Proofs.YtbglhmcahnkbfaaGreat

/- The document's open files as they lie: one block of three cells, one of 55, its file system, its pipes. -/
namespace Go.Proofs.YtbglhmcahnkbfaaGreat
open Go.RowKit Go.ChangeMaps Go.MapKept
set_option linter.unusedVariables false
set_option maxRecDepth 20000

/-- The document's file system, in blocks D. -/
def Nf (w : World) (x : Nat) (F : Fs) (D : Nat → Prop) : Prop := ∃ g u V, Rf w x g u V F ∧ ∀ b, RfFoot x g u V b → D b
theorem Nf.upd {U : Nat → Prop} {w w' : World} {x : Nat} {F : Fs} {D : Nat → Prop} (h : Nf w x F D) (q : Upd U w w') (hU : ∀ b, b < w.heap.size → D b → ¬ U b) : Nf w' x F D := by
  obtain ⟨g, u, V, h1, h2⟩ := h
  exact ⟨g, u, V, h1.upd q (fun b hb => hU b (h1.foot_lt b hb) (h2 b hb)), h2⟩
theorem Nf.mono {w : World} {x : Nat} {F : Fs} {D D' : Nat → Prop} (h : Nf w x F D) (k : ∀ b, b < w.heap.size → D b → D' b) : Nf w x F D' := by
  obtain ⟨g, u, V, h1, h2⟩ := h
  exact ⟨g, u, V, h1, fun b hb => k b (h1.foot_lt b hb) (h2 b hb)⟩
def NfTo (w : World) (x : Nat) (F : Fs) (D : Nat → Prop) (w' : World) : Prop := Nf w' x F (fun b => D b ∨ w.heap.size ≤ b) ∧ Upd D w w'
theorem NfTo.of {w w' : World} {x g u : Nat} {V : Nat → Value} {F : Fs} {D : Nat → Prop} (hD : ∀ b, RfFoot x g u V b → D b) (k : RfTo w x g u V F w') : NfTo w x F D w' := by
  obtain ⟨V', a, b, c⟩ := k
  exact ⟨⟨g, u, V', a, fun z hz => (c z hz).imp (hD z) id⟩, b.mono (fun z _ hz => hD z hz)⟩

/-- The document's pipes, in blocks D. -/
def PdFoot (q g : Nat) (A : Nat → Option Addr × Nat) (P : Nat → Pi.Pp) (b : Nat) : Prop := b = q ∨ b = g ∨ ∃ i, i < 5 ∧ (Pi.rsl A P i).ownBlock = some b
def Pd (w : World) (q : Nat) (d : Int) (P : Nat → Pi.Pp) (D : Nat → Prop) : Prop := ∃ B g A, Pi.Rt B w q g d A P ∧ ∀ b, PdFoot q g A P b → D b
theorem PdFoot.lt {B : Nat} {w : World} {q g : Nat} {d : Int} {A : Nat → Option Addr × Nat} {P : Nat → Pi.Pp} (h : Pi.Rt B w q g d A P) (b : Nat) (hb : PdFoot q g A P b) : b < w.heap.size := by
  rcases hb with rfl | rfl | ⟨i, hi, e⟩
  · exact h.qlt
  · exact h.glt
  · exact ((h.own i hi).lt b e).2
theorem Pd.upd {U : Nat → Prop} {w w' : World} {q : Nat} {d : Int} {P : Nat → Pi.Pp} {D : Nat → Prop} (h : Pd w q d P D) (u : Upd U w w') (hU : ∀ b, b < w.heap.size → D b → ¬ U b) : Pd w' q d P D := by
  obtain ⟨B, g, A, h1, h2⟩ := h
  have k : ∀ b, PdFoot q g A P b → ¬ U b := fun b hb => hU b (PdFoot.lt h1 b hb) (h2 b hb)
  exact ⟨B, g, A, h1.upd u (k q (.inl rfl)) (k g (.inr (.inl rfl))) (fun i hi b e => k b (.inr (.inr ⟨i, hi, e⟩))), h2⟩
theorem Pd.mono {w : World} {q : Nat} {d : Int} {P : Nat → Pi.Pp} {D D' : Nat → Prop} (h : Pd w q d P D) (k : ∀ b, b < w.heap.size → D b → D' b) : Pd w q d P D' := by
  obtain ⟨B, g, A, h1, h2⟩ := h
  exact ⟨B, g, A, h1, fun b hb => k b (PdFoot.lt h1 b hb) (h2 b hb)⟩
def PdTo (w : World) (q : Nat) (d : Int) (P : Nat → Pi.Pp) (D : Nat → Prop) (w' : World) : Prop := Pd w' q d P (fun b => D b ∨ w.heap.size ≤ b) ∧ Upd D w w'
theorem PdTo.own {B : Nat} {w w' : World} {q g : Nat} {d : Int} {A : Nat → Option Addr × Nat} {P P' : Nat → Pi.Pp} {D : Nat → Prop} (hD : ∀ b, PdFoot q g A P b → D b) (k : ∃ A', Pi.Rt B w' q g d A' P' ∧ Pi.OwnIn A P A' P') (u : Upd (· = g) w w') : PdTo w q d P' D w' := by
  obtain ⟨A', h1, h2⟩ := k
  refine ⟨⟨B, g, A', h1, fun b hb => ?_⟩, u.mono (fun b _ e => hD b (.inr (.inl e)))⟩
  rcases hb with e | e | ⟨i, hi, e⟩
  · exact .inl (hD b (.inl e))
  · exact .inl (hD b (.inr (.inl e)))
  · exact .inl (hD b (.inr (.inr ⟨i, hi, h2 i hi b e⟩)))
/-- The files' cells. -/
structure Gls (C : List Value) (O : Nat → Fl) : Prop where
  len : C.length = 55
  at_ : ∀ i, i < 11 → ∀ j, j < 5 → C[i * 5 + j]? = (flC (O i))[j]?
def Gf (w : World) (g : Nat) (O : Nat → Fl) : Prop := ∃ C, w.heap[g]? = some (.cells (List.toArray C) 109 (0, 0)) ∧ Gls C O
section
variable {w w' : World} {g : Nat} {O : Nat → Fl}
theorem cell_g {w : World} {p j : Nat} {C : List Value} {v : Value} (h : w.heap[p]? = some (.cells C.toArray 109 (0, 0))) (hc : C[j]? = some v) : w.cell? ⟨p, j, none⟩ = some v := by
  rw [cell_of_row w p j _ 109 (0, 0) h]; simpa using hc
theorem Gf.lt (h : Gf w g O) : g < w.heap.size := by obtain ⟨C, h, _⟩ := h; exact (Array.getElem?_eq_some_iff.1 h).1
theorem Gf.upd {U : Nat → Prop} (h : Gf w g O) (u : Upd U w w') (hU : ¬ U g) : Gf w' g O := by obtain ⟨C, h, hc⟩ := h; exact ⟨C, u.heap h hU, hc⟩
theorem Gf.c0 (h : Gf w g O) (i : Nat) (hi : i < 11) : w.cell? ⟨g, i * 5, none⟩ = some (.int .i64 (O i).k) := by obtain ⟨C, h, hc⟩ := h; exact cell_g h (hc.at_ i hi 0 (by omega))
theorem Gf.c1 (h : Gf w g O) (i : Nat) (hi : i < 11) : w.cell? ⟨g, i * 5 + 1, none⟩ = some (.int .i64 (O i).of) := by obtain ⟨C, h, hc⟩ := h; exact cell_g h (hc.at_ i hi 1 (by omega))
theorem Gf.c2 (h : Gf w g O) (i : Nat) (hi : i < 11) : w.cell? ⟨g, i * 5 + 2, none⟩ = some (.int .i64 (O i).off) := by obtain ⟨C, h, hc⟩ := h; exact cell_g h (hc.at_ i hi 2 (by omega))
theorem Gf.c3 (h : Gf w g O) (i : Nat) (hi : i < 11) : w.cell? ⟨g, i * 5 + 3, none⟩ = some (.int .i64 (O i).fl) := by obtain ⟨C, h, hc⟩ := h; exact cell_g h (hc.at_ i hi 3 (by omega))
theorem Gf.c4 (h : Gf w g O) (i : Nat) (hi : i < 11) : w.cell? ⟨g, i * 5 + 4, none⟩ = some (.int .i64 (O i).h) := by obtain ⟨C, h, hc⟩ := h; exact cell_g h (hc.at_ i hi 4 (by omega))
theorem Gf.fz (h : Gf w g O) (j : Nat) : w.frozen? ⟨g, j, none⟩ = false := by obtain ⟨C, h, hc⟩ := h; simp [World.frozen?, h]
theorem Gls.put {C C' : List Value} {O : Nat → Fl} (h : Gls C O) (i : Nat) (hi : i < 11) (x : Fl) (hl : C'.length = 55)
    (out : ∀ j, j < i * 5 ∨ i * 5 + 5 ≤ j → C'[j]? = C[j]?) (inn : ∀ j, j < 5 → C'[i * 5 + j]? = (flC x)[j]?) : Gls C' (updF O i x) := by
  refine ⟨hl, ?_⟩
  intro k hk j hj
  by_cases e : k = i
  · subst e; rw [updF_same]; exact inn j hj
  · rw [updF_ne _ _ _ _ e, out _ (by omega)]; exact h.at_ k hk j hj
theorem Gf.put (h : Gf w g O) (i : Nat) (hi : i < 11) (x : Fl) : Gf (w.setCells g (i * 5) (flC x)) g (updF O i x) := by
  obtain ⟨C, hb, hc⟩ := h
  have hl := hc.len
  have hs : i * 5 + (flC x).length ≤ C.length := by rw [hl]; simp [flC]; omega
  exact ⟨_, heap_setCells g 109 (flC x) _ w C hb hs, hc.put i hi x (by rw [length_splice _ _ _ hs, hl]) (fun j hj => getElem?_splice_out _ _ _ _ hs (by simpa [flC] using hj)) (fun j hj => getElem?_splice_in C (flC x) (i * 5) j hs hj)⟩
theorem Gf.one (h : Gf w g O) (i : Nat) (hi : i < 11) (k : Nat) (hk : k < 5) (v : Value) (x : Fl) (hx : (flC x)[k]? = some v) (hy : ∀ j, j < 5 → j ≠ k → (flC x)[j]? = (flC (O i))[j]?) : Gf (w.setCell ⟨g, i * 5 + k, none⟩ v) g (updF O i x) := by
  obtain ⟨C, hb, hc⟩ := h
  have hl := hc.len
  refine ⟨C.set (i * 5 + k) v, by rw [heap_setCell_same w g _ C.toArray _ _ hb]; simp, hc.put i hi _ (by simp [hl]) (fun j hj => by rw [List.getElem?_set_ne (by omega)]) (fun j hj => ?_)⟩
  by_cases e : j = k
  · subst e; rw [List.getElem?_set_self (by omega), hx]
  · rw [List.getElem?_set_ne (by omega), hc.at_ i hi j hj, hy j hj e]
theorem Gf.heldTo (h : Gf w g O) (i : Nat) (hi : i < 11) (v : Int) : Gf (w.setCell ⟨g, i * 5 + 4, none⟩ (.int .i64 v)) g (updF O i { O i with h := v }) :=
  h.one i hi 4 (by omega) _ _ rfl (fun j hj hk => by obtain rfl | rfl | rfl | rfl : j = 0 ∨ j = 1 ∨ j = 2 ∨ j = 3 := by omega
                                                     all_goals rfl)
end

/-- The document's table: x, its files g, its system s and pipes q, in blocks Dn and Dp. -/
structure Rs (w : World) (x g s q : Nat) (Dn Dp : Nat → Prop) (T : Ft) : Prop where
  hx : w.heap[x]? = some (.cells #[.slice (some ⟨g, 0, none⟩) 11 11, .pointer (some ⟨s, 0, none⟩), .pointer (some ⟨q, 0, none⟩)] 75 (0, 0))
  gf : Gf w g T.O
  nf : Nf w s T.F Dn
  pd : Pd w q T.F.d T.P Dp
  ln : ∀ b, Dn b → b < w.heap.size
  lp : ∀ b, Dp b → b < w.heap.size
  dj : ∀ b, Dn b → ¬ Dp b
  xg : x ≠ g
  xn : ¬ Dn x
  xp : ¬ Dp x
  gn : ¬ Dn g
  gp : ¬ Dp g
def RFoot (x g : Nat) (Dn Dp : Nat → Prop) (b : Nat) : Prop := b = x ∨ b = g ∨ Dn b ∨ Dp b
section
variable {w w' : World} {x g s q : Nat} {Dn Dp : Nat → Prop} {T : Ft}
theorem Rs.xlt (h : Rs w x g s q Dn Dp T) : x < w.heap.size := (Array.getElem?_eq_some_iff.1 h.hx).1
theorem Rs.cl (h : Rs w x g s q Dn Dp T) : w.cell? ⟨x, 0, none⟩ = some (.slice (some ⟨g, 0, none⟩) 11 11) := by rw [cell_of_row w x 0 _ _ _ h.hx]; rfl
theorem Rs.cs (h : Rs w x g s q Dn Dp T) : w.cell? ⟨x, 1, none⟩ = some (.pointer (some ⟨s, 0, none⟩)) := by rw [cell_of_row w x 1 _ _ _ h.hx]; rfl
theorem Rs.cq (h : Rs w x g s q Dn Dp T) : w.cell? ⟨x, 2, none⟩ = some (.pointer (some ⟨q, 0, none⟩)) := by rw [cell_of_row w x 2 _ _ _ h.hx]; rfl
theorem Rs.upd {U : Nat → Prop} (h : Rs w x g s q Dn Dp T) (u : Upd U w w') (hU : ∀ b, b < w.heap.size → RFoot x g Dn Dp b → ¬ U b) : Rs w' x g s q Dn Dp T :=
  ⟨u.heap h.hx (hU x h.xlt (.inl rfl)), h.gf.upd u (hU g h.gf.lt (.inr (.inl rfl))), h.nf.upd u (fun b hb hD => hU b hb (.inr (.inr (.inl hD)))), h.pd.upd u (fun b hb hD => hU b hb (.inr (.inr (.inr hD)))), fun b hb => Nat.lt_of_lt_of_le (h.ln b hb) u.size, fun b hb => Nat.lt_of_lt_of_le (h.lp b hb) u.size, h.dj, h.xg, h.xn, h.xp, h.gn, h.gp⟩
theorem Rs.grow (h : Rs w x g s q Dn Dp T) (u : Below w.heap.size w w') : Rs w' x g s q Dn Dp T := h.upd (Upd.of_below (F := fun _ => False) u) (fun _ _ _ h => h)
theorem Rs.sys {F' : Fs} (h : Rs w x g s q Dn Dp T) (k : NfTo w s F' Dn w') (hd : F'.d = T.F.d) : Rs w' x g s q (fun b => (Dn b ∨ w.heap.size ≤ b) ∧ b < w'.heap.size) Dp { T with F := F' } := by
  obtain ⟨k1, k2⟩ := k
  have l1 := h.xlt
  have l2 := h.gf.lt
  refine ⟨k2.heap h.hx h.xn, h.gf.upd k2 h.gn, k1.mono (fun b hb hD => ⟨hD, hb⟩), ?_, fun b hb => hb.2, fun b hb => Nat.lt_of_lt_of_le (h.lp b hb) k2.size, fun b hb hp => ?_, h.xg, fun e => ?_, h.xp, fun e => ?_, h.gp⟩
  · show Pd w' q F'.d T.P Dp
    rw [hd]
    exact h.pd.upd k2 (fun b hb hD hn => h.dj b hn hD)
  · have := h.lp b hp
    rcases hb.1 with e | e
    · exact h.dj b e hp
    · omega
  · rcases e.1 with e | e
    · exact h.xn e
    · omega
  · rcases e.1 with e | e
    · exact h.gn e
    · omega
theorem Rs.pip {P' : Nat → Pi.Pp} (h : Rs w x g s q Dn Dp T) (k : PdTo w q T.F.d P' Dp w') : Rs w' x g s q Dn (fun b => (Dp b ∨ w.heap.size ≤ b) ∧ b < w'.heap.size) { T with P := P' } := by
  obtain ⟨k1, k2⟩ := k
  have l1 := h.xlt
  have l2 := h.gf.lt
  refine ⟨k2.heap h.hx h.xp, h.gf.upd k2 h.gp, h.nf.upd k2 (fun b hb hD hp => h.dj b hD hp), k1.mono (fun b hb hD => ⟨hD, hb⟩), fun b hb => Nat.lt_of_lt_of_le (h.ln b hb) k2.size, fun b hb => hb.2, fun b hn hb => ?_, h.xg, h.xn, fun e => ?_, h.gn, fun e => ?_⟩
  · have := h.ln b hn
    rcases hb.1 with e | e
    · exact h.dj b hn e
    · omega
  · rcases e.1 with e | e
    · exact h.xp e
    · omega
  · rcases e.1 with e | e
    · exact h.gp e
    · omega
theorem Rs.fil {O' : Nat → Fl} (h : Rs w x g s q Dn Dp T) (k : Gf w' g O') (u : Upd (· = g) w w') : Rs w' x g s q Dn Dp { T with O := O' } :=
  ⟨u.heap h.hx h.xg, k, h.nf.upd u (fun b _ hD e => h.gn (e ▸ hD)), h.pd.upd u (fun b _ hD e => h.gp (e ▸ hD)), fun b hb => Nat.lt_of_lt_of_le (h.ln b hb) u.size, fun b hb => Nat.lt_of_lt_of_le (h.lp b hb) u.size, h.dj, h.xg, h.xn, h.xp, h.gn, h.gp⟩
end

/-- The document's open files, in blocks D. -/
def Td (w : World) (x : Nat) (T : Ft) (D : Nat → Prop) : Prop := ∃ g s q Dn Dp, Rs w x g s q Dn Dp T ∧ ∀ b, RFoot x g Dn Dp b → D b
theorem Td.mono {w : World} {x : Nat} {T : Ft} {D D' : Nat → Prop} (h : Td w x T D) (k : ∀ b, b < w.heap.size → D b → D' b) : Td w x T D' := by
  obtain ⟨g, s, q, Dn, Dp, h1, h2⟩ := h
  refine ⟨g, s, q, Dn, Dp, h1, fun b hb => k b ?_ (h2 b hb)⟩
  rcases hb with rfl | rfl | e | e
  · exact h1.xlt
  · exact h1.gf.lt
  · exact h1.ln b e
  · exact h1.lp b e
theorem Td.upd {w w' : World} {x : Nat} {T : Ft} {D U : Nat → Prop} (h : Td w x T D) (u : Upd U w w') (k : ∀ b, b < w.heap.size → D b → ¬ U b) : Td w' x T D := by
  obtain ⟨g, s, q, Dn, Dp, h1, h2⟩ := h
  exact ⟨g, s, q, Dn, Dp, h1.upd u (fun b hb hf => k b hb (h2 b hf)), h2⟩
theorem Td.grow {w w' : World} {x : Nat} {T : Ft} {D : Nat → Prop} (h : Td w x T D) (u : Below w.heap.size w w') : Td w' x T D := h.upd (Upd.of_below (F := fun _ => False) u) (fun _ _ _ h => h)
theorem Td.lt {w : World} {x : Nat} {T : Ft} {D : Nat → Prop} (h : Td w x T D) : x < w.heap.size := by
  obtain ⟨g, s, q, Dn, Dp, h1, h2⟩ := h; exact h1.xlt
def TdTo (w : World) (x : Nat) (T : Ft) (D : Nat → Prop) (w' : World) : Prop := Td w' x T (fun b => D b ∨ w.heap.size ≤ b) ∧ Upd D w w'
theorem TdTo.same {w w' : World} {x : Nat} {T : Ft} {D : Nat → Prop} (h : Td w x T D) (u : Below w.heap.size w w') : TdTo w x T D w' := ⟨(h.grow u).mono (fun _ _ h => .inl h), Upd.of_below u⟩
theorem TdTo.of {w0 w' : World} {x g s q : Nat} {Dn Dp Dn' Dp' D : Nat → Prop} {T : Ft} (h : Rs w' x g s q Dn' Dp' T) (hD : ∀ b, RFoot x g Dn Dp b → D b) (hn : ∀ b, Dn' b → Dn b ∨ w0.heap.size ≤ b) (hp : ∀ b, Dp' b → Dp b ∨ w0.heap.size ≤ b) (u : Upd (RFoot x g Dn Dp) w0 w') : TdTo w0 x T D w' :=
  ⟨⟨g, s, q, Dn', Dp', h, fun b hb => by
    rcases hb with e | e | e | e
    · exact .inl (hD b (.inl e))
    · exact .inl (hD b (.inr (.inl e)))
    · exact (hn b e).imp (fun e => hD b (.inr (.inr (.inl e)))) id
    · exact (hp b e).imp (fun e => hD b (.inr (.inr (.inr e)))) id⟩, u.mono (fun b _ hb => hD b hb)⟩
theorem TdTo.fil {w0 X w' : World} {x g s q : Nat} {Dn Dp D : Nat → Prop} {T : Ft} {O' : Nat → Fl} (h : Rs X x g s q Dn Dp T) (hX : Below w0.heap.size w0 X) (hD : ∀ b, RFoot x g Dn Dp b → D b) (k : Gf w' g O') (u : Upd (· = g) X w') : TdTo w0 x { T with O := O' } D w' :=
  TdTo.of (h.fil k u) hD (fun b hb => .inl hb) (fun b hb => .inl hb) ((Upd.of_below hX).trans u (fun b _ hb => .inr (.inl hb)))

end Go.Proofs.YtbglhmcahnkbfaaGreat
