/- Texts of this seat, merged. -/
import Derived.Test.YtbglhmcahnkbfaaGreatHMg23

/- The program's open files as they lie, over its file system and its pipes. -/
namespace Go.Proofs.YtbglhmcahnkbfaaGreat
open Go.RowKit Go.ChangeMaps Go.MapKept
set_option linter.unusedVariables false
set_option maxRecDepth 20000

/-- What is left of an open file that nobody holds. -/
def clF (x : Fl) : Fl := if x.h = 0 then noFl else x
theorem clF_h (x : Fl) : (clF x).h = x.h := by
  unfold clF; split
  · rename_i e; rw [e]; rfl
  · rfl
theorem clF_yes {x : Fl} (h : (clF x).h ≠ 0) : clF x = x := by
  rw [clF_h] at h
  unfold clF; rw [if_neg h]
theorem clF_of {x : Fl} (h : x.h ≠ 0) : clF x = x := by unfold clF; rw [if_neg h]

/-- Table t over system p and pipes q; what stands in its cells; the system's blocks. -/
structure Ts (w : World) (t p q : Nat) (O0 : Nat → Fl) (Gn : Nat → Prop) (T : Ft) : Prop where
  tf : Tf w t p q O0
  o : ∀ i, i < 11 → T.O i = clF (O0 i)
  pf : Pf w p T.F Gn
  tc : Pi.Tc w q T.kp T.P
  tq : t ≠ q
  gt : ¬ Gn t
  gq : ¬ Gn q
section
variable {w w' : World} {t p q : Nat} {O0 : Nat → Fl} {Gn : Nat → Prop} {T : Ft}
def Foot (t q : Nat) (Gn : Nat → Prop) (b : Nat) : Prop := b = t ∨ b = q ∨ Gn b
theorem Ts.upd {U : Nat → Prop} (h : Ts w t p q O0 Gn T) (u : Upd U w w') (hU : ∀ b, b < w.heap.size → Foot t q Gn b → ¬ U b) : Ts w' t p q O0 Gn T :=
  ⟨h.tf.upd u (hU t h.tf.lt (.inl rfl)), h.o, h.pf.upd u (fun b hb hG => hU b hb (.inr (.inr hG))), h.tc.upd u (hU q h.tc.lt (.inr (.inl rfl))), h.tq, h.gt, h.gq⟩
theorem Ts.grow (h : Ts w t p q O0 Gn T) (u : Below w.heap.size w w') : Ts w' t p q O0 Gn T := h.upd (Upd.of_below (F := fun _ => False) u) (fun _ _ _ h => h)
theorem Ts.hp (h : Ts w t p q O0 Gn T) (e : w'.heap = w.heap) : Ts w' t p q O0 Gn T := by
  obtain ⟨C, hb, hc⟩ := h.tf
  exact ⟨⟨C, by rw [e]; exact hb, hc⟩, h.o, h.pf.hp e, h.tc.hp e, h.tq, h.gt, h.gq⟩
theorem Ts.h0 (h : Ts w t p q O0 Gn T) (i : Nat) (hi : i < 11) : (O0 i).h = (T.O i).h := by rw [h.o i hi, clF_h]
theorem Ts.at (h : Ts w t p q O0 Gn T) (i : Nat) (hi : i < 11) (hh : (T.O i).h ≠ 0) : O0 i = T.O i := by
  rw [h.o i hi] at hh ⊢
  rw [clF_yes hh]
/-- The system turns. -/
theorem Ts.sys {F' : Fs} (h : Ts w t p q O0 Gn T) (k : PfTo w p F' Gn w') (hd : F'.d = T.F.d) : Ts w' t p q O0 (fun x => Gn x ∨ w.heap.size ≤ x) { T with F := F' } := by
  obtain ⟨k1, k2⟩ := k
  have l1 := h.tf.lt
  have l2 := h.tc.lt
  have e : Ft.kp { T with F := F' } = T.kp := by unfold Ft.kp; rw [hd]
  exact ⟨h.tf.upd k2 h.gt, h.o, k1, by rw [e]; exact h.tc.upd k2 h.gq, h.tq, fun e => by rcases e with e | e; exact h.gt e; omega, fun e => by rcases e with e | e; exact h.gq e; omega⟩
/-- The pipes turn. -/
theorem Ts.pip {P' : Nat → Pi.Pp} (h : Ts w t p q O0 Gn T) (k : Pi.Tc w' q T.kp P') (u : Upd (· = q) w w') : Ts w' t p q O0 Gn { T with P := P' } :=
  ⟨h.tf.upd u h.tq, h.o, h.pf.upd u (fun b _ hG e => h.gq (e ▸ hG)), k, h.tq, h.gt, h.gq⟩
/-- An open file turns. -/
theorem Ts.fil {x y : Fl} {i : Nat} (h : Ts w t p q O0 Gn T) (k : Tf w' t p q (updF O0 i y)) (hx : x = clF y) (u : Upd (· = t) w w') : Ts w' t p q (updF O0 i y) Gn { T with O := updF T.O i x } :=
  ⟨k, fun j hj => by
    show updF T.O i x j = _
    unfold updF
    split
    · exact hx
    · exact h.o j hj, h.pf.upd u (fun b _ hG e => h.gt (e ▸ hG)), h.tc.upd u (fun e => h.tq e.symm), h.tq, h.gt, h.gq⟩
end

theorem PfTo.ahead {w0 w w' : World} {p : Nat} {F : Fs} {G : Nat → Prop} (h : PfTo w p F G w') (u : Below w0.heap.size w0 w) : PfTo w0 p F G w' :=
  ⟨h.1.mono (fun x _ hx => by rcases hx with hx | hx; exact .inl hx; exact .inr (Nat.le_trans u.size hx)), (Upd.of_below u).trans h.2 (fun _ _ h => h)⟩

/-- The program's open files, in blocks G. -/
def Tp (w : World) (t : Nat) (T : Ft) (G : Nat → Prop) : Prop := ∃ p q O0 Gn, Ts w t p q O0 Gn T ∧ ∀ b, Foot t q Gn b → G b
theorem Tp.mono {w : World} {t : Nat} {T : Ft} {G G' : Nat → Prop} (h : Tp w t T G) (k : ∀ x, x < w.heap.size → G x → G' x) : Tp w t T G' := by
  obtain ⟨p, q, O0, Gn, h1, h2⟩ := h
  have l1 := h1.tf.lt
  have l2 := h1.tc.lt
  refine ⟨p, q, O0, fun b => Gn b ∧ b < w.heap.size, ⟨h1.tf, h1.o, h1.pf.mono (fun x hx hG => ⟨hG, hx⟩), h1.tc, h1.tq, fun e => h1.gt e.1, fun e => h1.gq e.1⟩, fun b hb => ?_⟩
  rcases hb with rfl | rfl | hb
  · exact k _ l1 (h2 _ (.inl rfl))
  · exact k _ l2 (h2 _ (.inr (.inl rfl)))
  · exact k _ hb.2 (h2 _ (.inr (.inr hb.1)))
theorem Tp.upd {w w' : World} {t : Nat} {T : Ft} {G U : Nat → Prop} (h : Tp w t T G) (u : Upd U w w') (k : ∀ x, x < w.heap.size → G x → ¬ U x) : Tp w' t T G := by
  obtain ⟨p, q, O0, Gn, h1, h2⟩ := h
  exact ⟨p, q, O0, Gn, h1.upd u (fun b hb hf => k b hb (h2 b hf)), h2⟩
theorem Tp.grow {w w' : World} {t : Nat} {T : Ft} {G : Nat → Prop} (h : Tp w t T G) (u : Below w.heap.size w w') : Tp w' t T G := h.upd (Upd.of_below (F := fun _ => False) u) (fun _ _ _ h => h)
def TpTo (w : World) (t : Nat) (T : Ft) (G : Nat → Prop) (w' : World) : Prop := Tp w' t T (fun x => G x ∨ w.heap.size ≤ x) ∧ Upd G w w'
theorem TpTo.same {w w' : World} {t : Nat} {T : Ft} {G : Nat → Prop} (h : Tp w t T G) (u : Below w.heap.size w w') : TpTo w t T G w' := ⟨(h.grow u).mono (fun _ _ h => .inl h), Upd.of_below u⟩
/-- What a call leaves, told of its parts: w0 is the world ahead of it. -/
theorem TpTo.of {w0 w' : World} {t q p : Nat} {O0 : Nat → Fl} {Gn Gm G : Nat → Prop} {T : Ft} (h : Ts w' t p q O0 Gm T) (hG : ∀ b, Foot t q Gn b → G b) (hm : ∀ b, Gm b → Gn b ∨ w0.heap.size ≤ b) (u : Upd (Foot t q Gn) w0 w') : TpTo w0 t T G w' :=
  ⟨⟨p, q, O0, Gm, h, fun b hb => by
    rcases hb with e | e | e
    · exact .inl (hG b (.inl e))
    · exact .inl (hG b (.inr (.inl e)))
    · rcases hm b e with e | e
      · exact .inl (hG b (.inr (.inr e)))
      · exact .inr e⟩, u.mono (fun b _ hb => hG b hb)⟩

end Go.Proofs.YtbglhmcahnkbfaaGreat

/- Processes without memory: what each call of them comes to. -/
namespace Go.Proofs.YtbglhmcahnkbfaaGreat
set_option linter.unusedVariables false

/-- A process: its state (0: none, 1: runs, 2: over), its parent, its code, its six descriptors. -/
structure Gp where
  st : Int
  pa : Int
  co : Int
  fd : Nat → Int
def noGp : Gp := ⟨0, 0, 0, fun _ => 0⟩
/-- Processes by their numbers, over open files. -/
structure Gt where
  Q : Nat → Gp
  T : Ft
def updG (Q : Nat → Gp) (i : Nat) (x : Gp) : Nat → Gp := fun j => if j = i then x else Q j
def updFd (f : Nat → Int) (i : Nat) (v : Int) : Nat → Int := fun j => if j = i then v else f j

namespace Gt
def put (g : Gt) (p : Nat) (x : Gp) : Gt := { g with Q := updG g.Q p x }
def setFd (g : Gt) (p i : Nat) (v : Int) : Gt := g.put p { g.Q p with fd := updFd (g.Q p).fd i v }
def runs (g : Gt) (n : Int) : Bool := decide (1 ≤ n ∧ n ≤ 4 ∧ (g.Q n.toNat).st = 1)
/-- The least number that no process has; 0: there is none. -/
def free (g : Gt) : Nat := if (g.Q 1).st = 0 then 1 else if (g.Q 2).st = 0 then 2 else if (g.Q 3).st = 0 then 3 else if (g.Q 4).st = 0 then 4 else 0
/-- The first so many descriptors hold their open files once more. -/
def holdAll (T : Ft) (f : Nat → Int) : Nat → Ft
  | 0 => T
  | n + 1 => if f n = 0 then holdAll T f n else ((holdAll T f n).hold (f n)).1
def fork (g : Gt) (p : Int) : Gt × Int × Int :=
  if g.runs p = false then (g, 0, 3) else if g.free = 0 then (g, 0, 11) else
  (⟨updG g.Q g.free ⟨1, p, 0, (g.Q p.toNat).fd⟩, if dfc g.T.F.d 16 = true then g.T else holdAll g.T (g.Q p.toNat).fd 6⟩, (g.free : Int), 0)
/-- A descriptor is emptied; the first so many are. -/
def empty (g : Gt) (p i : Nat) : Gt :=
  if (g.Q p).fd i = 0 then g.setFd p i 0 else { g.setFd p i 0 with T := (g.T.drop ((g.Q p).fd i)).1 }
def empties (g : Gt) (p : Nat) : Nat → Gt
  | 0 => g
  | n + 1 => (g.empties p n).empty p n
/-- What the children of a process become when it ends. -/
def leave (Q : Nat → Gp) (p : Nat) : Nat → Gp := fun n =>
  if (Q n).st ≠ 0 ∧ (Q n).pa = (p : Int) then (if (Q n).st = 2 then noGp else { Q n with pa := 0 }) else Q n
/-- One ends: its descriptors are empty. -/
def ended (g : Gt) (p : Nat) (co : Int) : Gt :=
  let Q1 := leave (updG g.Q p { g.Q p with st := 2, co := co }) p
  { g with Q := if ({ g with Q := Q1 } : Gt).runs (Q1 p).pa = true then Q1 else updG Q1 p noGp }
def exit (g : Gt) (p co : Int) : Gt × Int :=
  if g.runs p = false then (g, 3) else ((g.empties p.toNat 6).ended p.toNat (co % 256), 0)
def over (g : Gt) (p : Int) (n : Nat) : Bool := decide ((g.Q n).st = 2 ∧ (g.Q n).pa = p)
def child (g : Gt) (p : Int) (n : Nat) : Bool := decide ((g.Q n).st ≠ 0 ∧ (g.Q n).pa = p)
def wait (g : Gt) (p : Int) : Gt × Int × Int × Bool × Int :=
  if g.runs p = false then (g, 0, 0, false, 3) else
  match (List.range' 1 4).find? (g.over p) with
  | some n => (g.put n noGp, (n : Int), (g.Q n).co, false, 0)
  | none => if (List.range' 1 4).any (g.child p) then (g, 0, 0, true, 0) else (g, 0, 0, false, 10)
def kill (g : Gt) (p t : Int) : Gt × Int :=
  if g.runs p = false then (g, 3) else if g.runs t = false then (g, 3) else if t = 1 ∧ p ≠ 1 then (g, 1) else g.exit t 128
/-- The lowest free descriptor. -/
def lowest (f : Nat → Int) : Option Nat := (List.range 6).find? (fun i => decide (f i = 0))
def install (g : Gt) (p f : Int) : Gt × Int × Int :=
  if g.runs p = false then (g, 0, 3) else if g.T.there f = false then (g, 0, 9) else
  match lowest (g.Q p.toNat).fd with
  | none => (g, 0, 24)
  | some i => (g.setFd p.toNat i f, (i : Int), 0)
def file (g : Gt) (p fd : Int) : Int × Int :=
  if g.runs p = false then (0, 3) else if fd < 0 ∨ 6 ≤ fd ∨ (g.Q p.toNat).fd fd.toNat = 0 then (0, 9) else ((g.Q p.toNat).fd fd.toNat, 0)
def close (g : Gt) (p fd : Int) : Gt × Int :=
  if (g.file p fd).2 ≠ 0 then (g, (g.file p fd).2) else (g.empty p.toNat fd.toNat, 0)
def dup (g : Gt) (p fd : Int) : Gt × Int × Int :=
  if (g.file p fd).2 ≠ 0 then (g, 0, (g.file p fd).2) else
  match lowest (g.Q p.toNat).fd with
  | none => (g, 0, 24)
  | some i => ({ g.setFd p.toNat i (g.file p fd).1 with T := (g.T.hold (g.file p fd).1).1 }, (i : Int), 0)
def dup2 (g : Gt) (p fd to : Int) : Gt × Int × Int :=
  if (g.file p fd).2 ≠ 0 then (g, 0, (g.file p fd).2) else if to < 0 ∨ 6 ≤ to then (g, 0, 9) else if to = fd then (g, to, 0) else
  let g1 := if dfc g.T.F.d 32 = true then g else g.empty p.toNat to.toNat
  ({ g1.setFd p.toNat to.toNat (g.file p fd).1 with T := (g1.T.hold (g.file p fd).1).1 }, to, 0)
end Gt
def newG (d : Int) : Gt := ⟨fun i => if i = 1 then ⟨1, 0, 0, fun _ => 0⟩ else noGp, newT d⟩

/-- What is true of processes that calls have made. -/
structure GOk (g : Gt) : Prop where
  T : TOk g.T
  st : ∀ i, (g.Q i).st = 0 ∨ (g.Q i).st = 1 ∨ (g.Q i).st = 2
  out : ∀ i, i = 0 ∨ 5 ≤ i → g.Q i = noGp
  none : ∀ i, (g.Q i).st = 0 → g.Q i = noGp
  pa : ∀ i, 0 ≤ (g.Q i).pa ∧ (g.Q i).pa ≤ 4 ∧ (g.Q i).pa ≠ (i : Int) ∨ g.Q i = noGp
  co : ∀ i, 0 ≤ (g.Q i).co ∧ (g.Q i).co < 256
  fd : ∀ i j, 0 ≤ (g.Q i).fd j ∧ (g.Q i).fd j ≤ 10 ∧ (6 ≤ j → (g.Q i).fd j = 0)
  ov : ∀ i, (g.Q i).st = 2 → ∀ j, (g.Q i).fd j = 0

end Go.Proofs.YtbglhmcahnkbfaaGreat

/- What calls of processes keep. -/
namespace Go.Proofs.YtbglhmcahnkbfaaGreat
set_option linter.unusedVariables false

theorem updG_same (Q : Nat → Gp) (i : Nat) (x : Gp) : updG Q i x i = x := by simp [updG]
theorem updG_ne (Q : Nat → Gp) (i j : Nat) (x : Gp) (h : j ≠ i) : updG Q i x j = Q j := by simp [updG, h]
/-- What is true of one process. -/
structure Gp1 (i : Nat) (x : Gp) : Prop where
  st : x.st = 0 ∨ x.st = 1 ∨ x.st = 2
  none : x.st = 0 → x = noGp
  pa : 0 ≤ x.pa ∧ x.pa ≤ 4 ∧ x.pa ≠ (i : Int) ∨ x = noGp
  co : 0 ≤ x.co ∧ x.co < 256
  fd : ∀ j, 0 ≤ x.fd j ∧ x.fd j ≤ 10 ∧ (6 ≤ j → x.fd j = 0)
  ov : x.st = 2 → ∀ j, x.fd j = 0
theorem Gp1.no (i : Nat) : Gp1 i noGp := ⟨.inl rfl, fun _ => rfl, .inr rfl, by decide, fun j => ⟨Int.le_refl 0, show (0 : Int) ≤ 10 by decide, fun _ => rfl⟩, fun _ _ => rfl⟩
theorem GOk.one {g : Gt} (H : GOk g) (i : Nat) : Gp1 i (g.Q i) := ⟨H.st i, H.none i, H.pa i, H.co i, H.fd i, H.ov i⟩
theorem GOk.of {g : Gt} (hT : TOk g.T) (h : ∀ i, Gp1 i (g.Q i)) (ho : ∀ i, i = 0 ∨ 5 ≤ i → g.Q i = noGp) : GOk g :=
  ⟨hT, fun i => (h i).st, ho, fun i => (h i).none, fun i => (h i).pa, fun i => (h i).co, fun i => (h i).fd, fun i => (h i).ov⟩
theorem GOk.putT {g : Gt} (H : GOk g) {T' : Ft} (hT : TOk T') (p : Nat) (h1 : 1 ≤ p) (h4 : p ≤ 4) (x : Gp) (hx : Gp1 p x) : GOk ⟨updG g.Q p x, T'⟩ := by
  refine GOk.of hT (fun i => ?_) (fun i hi => ?_)
  · show Gp1 i (updG g.Q p x i)
    by_cases e : i = p
    · subst e; rw [updG_same]; exact hx
    · rw [updG_ne _ _ _ _ e]; exact H.one i
  · show updG g.Q p x i = noGp
    rw [updG_ne _ _ _ _ (by omega)]
    exact H.out i hi
theorem GOk.tbl {g : Gt} (H : GOk g) {T' : Ft} (hT : TOk T') : GOk { g with T := T' } := GOk.of hT H.one H.out
theorem Gt.runs_lt {g : Gt} {n : Int} (h : g.runs n = true) : ∃ p : Nat, n = (p : Int) ∧ 1 ≤ p ∧ p ≤ 4 ∧ (g.Q p).st = 1 := by
  unfold Gt.runs at h
  simp only [decide_eq_true_eq] at h
  refine ⟨n.toNat, by omega, by omega, by omega, h.2.2⟩
theorem Gt.free_lt {g : Gt} (h : g.free ≠ 0) : 1 ≤ g.free ∧ g.free ≤ 4 ∧ (g.Q g.free).st = 0 := by
  unfold Gt.free at h ⊢
  split
  · exact ⟨by omega, by omega, by assumption⟩
  split
  · exact ⟨by omega, by omega, by assumption⟩
  split
  · exact ⟨by omega, by omega, by assumption⟩
  split
  · exact ⟨by omega, by omega, by assumption⟩
  · simp_all
theorem holdAll_ok {T : Ft} (H : TOk T) (f : Nat → Int) : ∀ n, TOk (Gt.holdAll T f n)
  | 0 => H
  | n + 1 => by
    unfold Gt.holdAll
    split
    · exact holdAll_ok H f n
    · exact (holdAll_ok H f n).hold _
theorem GOk.fork {g : Gt} (H : GOk g) (p : Int) : GOk (g.fork p).1 := by
  unfold Gt.fork
  split
  · exact H
  rename_i a
  obtain ⟨q, rfl, q1, q4, qs⟩ := Gt.runs_lt (by simpa using a)
  split
  · exact H
  rename_i b
  obtain ⟨f1, f4, fs⟩ := Gt.free_lt b
  have hx := H.one q
  refine H.putT (by split; exact H.T; exact holdAll_ok H.T _ _) g.free f1 f4 _ ⟨.inr (.inl rfl), fun h => absurd (show (1 : Int) = 0 from h) (by decide), .inl ⟨show (0 : Int) ≤ (q : Int) by omega, show (q : Int) ≤ 4 by omega, fun e => ?_⟩, show (0 : Int) ≤ 0 ∧ (0 : Int) < 256 by decide, fun j => ?_, fun h => absurd (show (1 : Int) = 2 from h) (by decide)⟩
  · have : q = g.free := by
      have e' : (q : Int) = (g.free : Int) := e
      omega
    rw [this] at qs
    omega
  · rw [Int.toNat_natCast]
    exact hx.fd j
theorem GOk.setFd {g : Gt} (H : GOk g) {T' : Ft} (hT : TOk T') (p i : Nat) (hp : (g.Q p).st = 1) (hi : i < 6) (v : Int) (hv : 0 ≤ v ∧ v ≤ 10) : GOk { g.setFd p i v with T := T' } := by
  have h4 : 1 ≤ p ∧ p ≤ 4 := by
    rcases Nat.lt_or_ge p 1 with q | q
    · rw [H.out p (.inl (by omega))] at hp; exact absurd (show (0 : Int) = 1 from hp) (by decide)
    · rcases Nat.lt_or_ge p 5 with r | r
      · omega
      · rw [H.out p (.inr r)] at hp; exact absurd (show (0 : Int) = 1 from hp) (by decide)
  have hx := H.one p
  refine H.putT hT p h4.1 h4.2 _ ⟨hx.st, fun h => absurd (hp.symm.trans h) (by decide), ?_, hx.co, fun j => ?_, fun h => absurd (hp.symm.trans h) (by decide)⟩
  · rcases hx.pa with h | h
    · exact .inl h
    · rw [h] at hp; exact absurd (show (0 : Int) = 1 from hp) (by decide)
  · show 0 ≤ updFd (g.Q p).fd i v j ∧ updFd (g.Q p).fd i v j ≤ 10 ∧ (6 ≤ j → updFd (g.Q p).fd i v j = 0)
    unfold updFd
    split
    · exact ⟨hv.1, hv.2, fun h => by omega⟩
    · exact hx.fd j

theorem GOk.empty {g : Gt} (H : GOk g) (p i : Nat) (hp : (g.Q p).st = 1) (hi : i < 6) : GOk (g.empty p i) := by
  unfold Gt.empty
  split
  · exact H.setFd H.T p i hp hi 0 ⟨Int.le_refl 0, by decide⟩
  · exact H.setFd (H.T.drop _) p i hp hi 0 ⟨Int.le_refl 0, by decide⟩
theorem empty_Q (g : Gt) (p i : Nat) : (g.empty p i).Q = updG g.Q p { g.Q p with fd := updFd (g.Q p).fd i 0 } := by
  unfold Gt.empty
  split <;> rfl
theorem GOk.empties {g : Gt} (H : GOk g) (p : Nat) (hp : (g.Q p).st = 1) : ∀ n, n ≤ 6 → GOk (g.empties p n) ∧ ((g.empties p n).Q p).st = 1 ∧ ∀ j, j < n → ((g.empties p n).Q p).fd j = 0
  | 0, _ => ⟨H, hp, fun j hj => absurd hj (Nat.not_lt_zero j)⟩
  | n + 1, hn => by
    obtain ⟨a, b, c⟩ := H.empties p hp n (by omega)
    refine ⟨a.empty p n b (by omega), ?_, fun j hj => ?_⟩
    · show (((g.empties p n).empty p n).Q p).st = 1
      rw [empty_Q, updG_same]
      exact b
    · show (((g.empties p n).empty p n).Q p).fd j = 0
      rw [empty_Q, updG_same]
      show updFd ((g.empties p n).Q p).fd n 0 j = 0
      unfold updFd
      split
      · rfl
      · exact c j (by omega)
theorem GOk.ended {g : Gt} (H : GOk g) (p : Nat) (hp : (g.Q p).st = 1) (hf : ∀ j, (g.Q p).fd j = 0) (co : Int) (hc : 0 ≤ co ∧ co < 256) : GOk (g.ended p co) := by
  have hx := H.one p
  have hne : g.Q p ≠ noGp := fun e => by rw [e] at hp; exact absurd (show (0 : Int) = 1 from hp) (by decide)
  have h0 : ∀ i, Gp1 i (updG g.Q p { g.Q p with st := 2, co := co } i) := fun i => by
    by_cases e : i = p
    · subst e
      rw [updG_same]
      exact ⟨.inr (.inr rfl), fun h => absurd (show (2 : Int) = 0 from h) (by decide), .inl (hx.pa.resolve_right hne), hc, hx.fd, fun _ => hf⟩
    · rw [updG_ne _ _ _ _ e]; exact H.one i
  have o0 : ∀ i, i = 0 ∨ 5 ≤ i → updG g.Q p { g.Q p with st := 2, co := co } i = noGp := fun i hi => by
    rw [updG_ne _ _ _ _ (fun (e : i = p) => hne (by rw [← e]; exact H.out i hi))]
    exact H.out i hi
  obtain ⟨Q0, gQ⟩ : ∃ Q0, Q0 = updG g.Q p { g.Q p with st := 2, co := co } := ⟨_, rfl⟩
  rw [← gQ] at h0 o0
  have h1 : ∀ i, Gp1 i (Gt.leave Q0 p i) := fun i => by
    have h := h0 i
    unfold Gt.leave
    split
    · rename_i a
      split
      · exact Gp1.no i
      · rename_i b
        have hn : Q0 i ≠ noGp := fun e => by rw [e] at a; exact absurd rfl a.1
        by_cases e0 : i = 0
        · exact absurd (o0 i (.inl e0)) hn
        · exact ⟨h.st, fun q => absurd q a.1, .inl ⟨Int.le_refl 0, show (0 : Int) ≤ 4 by decide, show (0 : Int) ≠ (i : Int) by omega⟩, h.co, h.fd, h.ov⟩
    · exact h
  have o1 : ∀ i, i = 0 ∨ 5 ≤ i → Gt.leave Q0 p i = noGp := fun i hi => by
    unfold Gt.leave
    rw [o0 i hi, if_neg (fun h => absurd rfl h.1)]
  have key : ∀ Q1 : Nat → Gp, (∀ i, Gp1 i (Q1 i)) → (∀ i, i = 0 ∨ 5 ≤ i → Q1 i = noGp) → GOk { g with Q := if ({ g with Q := Q1 } : Gt).runs (Q1 p).pa = true then Q1 else updG Q1 p noGp } := fun Q1 h o => by
    split
    · exact GOk.of H.T h o
    · refine GOk.of H.T (fun i => ?_) (fun i hi => ?_)
      · show Gp1 i (updG Q1 p noGp i)
        by_cases e : i = p
        · subst e; rw [updG_same]; exact Gp1.no _
        · rw [updG_ne _ _ _ _ e]; exact h i
      · show updG Q1 p noGp i = noGp
        by_cases e : i = p
        · subst e; rw [updG_same]
        · rw [updG_ne _ _ _ _ e]; exact o i hi
  have := key _ h1 o1
  rw [gQ] at this
  exact this
theorem GOk.exit {g : Gt} (H : GOk g) (p co : Int) : GOk (g.exit p co).1 := by
  unfold Gt.exit
  split
  · exact H
  rename_i a
  obtain ⟨q, rfl, q1, q4, qs⟩ := Gt.runs_lt (by simpa using a)
  rw [Int.toNat_natCast]
  obtain ⟨b, c, d⟩ := H.empties q qs 6 (Nat.le_refl _)
  refine b.ended q c (fun j => ?_) _ ⟨by omega, by omega⟩
  rcases Nat.lt_or_ge j 6 with h | h
  · exact d j h
  · exact (b.fd q j).2.2 h
theorem GOk.kill {g : Gt} (H : GOk g) (p t : Int) : GOk (g.kill p t).1 := by
  unfold Gt.kill
  split
  · exact H
  split
  · exact H
  split
  · exact H
  · exact H.exit _ _
theorem GOk.wait {g : Gt} (H : GOk g) (p : Int) : GOk (g.wait p).1 := by
  unfold Gt.wait
  split
  · exact H
  split
  · rename_i n hn
    have hm := List.mem_of_find?_eq_some hn
    have : 1 ≤ n ∧ n ≤ 4 := by rw [List.mem_range'_1] at hm; omega
    exact H.putT H.T n this.1 this.2 _ (Gp1.no n)
  · split
    · exact H
    · exact H
theorem lowest_lt {f : Nat → Int} {i : Nat} (h : Gt.lowest f = some i) : i < 6 ∧ f i = 0 := by
  unfold Gt.lowest at h
  have h1 := List.mem_of_find?_eq_some h
  have h2 := List.find?_some h
  exact ⟨List.mem_range.1 h1, by simpa using h2⟩
theorem Ft.there_10 {T : Ft} {n : Int} (h : T.there n = true) : 0 ≤ n ∧ n ≤ 10 := by
  unfold Ft.there at h
  simp only [decide_eq_true_eq] at h
  omega
theorem GOk.install {g : Gt} (H : GOk g) (p f : Int) : GOk (g.install p f).1 := by
  unfold Gt.install
  split
  · exact H
  rename_i a
  obtain ⟨q, rfl, q1, q4, qs⟩ := Gt.runs_lt (by simpa using a)
  split
  · exact H
  rename_i b
  rw [Int.toNat_natCast]
  split
  · exact H
  · rename_i i hi
    exact H.setFd H.T q i qs (lowest_lt hi).1 f (Ft.there_10 (by simpa using b))
theorem file_ok {g : Gt} (H : GOk g) {p fd : Int} (h : (g.file p fd).2 = 0) : ∃ q i : Nat, p = (q : Int) ∧ fd = (i : Int) ∧ 1 ≤ q ∧ q ≤ 4 ∧ i < 6 ∧ (g.Q q).st = 1 ∧ (g.Q q).fd i ≠ 0 ∧ (g.file p fd).1 = (g.Q q).fd i := by
  unfold Gt.file at h ⊢
  split at h
  · exact absurd (show (3 : Int) = 0 from h) (by decide)
  rename_i a
  rw [if_neg a]
  obtain ⟨q, rfl, q1, q4, qs⟩ := Gt.runs_lt (by simpa using a)
  rw [Int.toNat_natCast] at h ⊢
  split at h
  · exact absurd (show (9 : Int) = 0 from h) (by decide)
  rename_i b
  rw [if_neg b]
  refine ⟨q, fd.toNat, rfl, by omega, q1, q4, by omega, qs, fun e => b (.inr (.inr e)), rfl⟩
theorem GOk.close {g : Gt} (H : GOk g) (p fd : Int) : GOk (g.close p fd).1 := by
  unfold Gt.close
  split
  · exact H
  rename_i a
  obtain ⟨q, i, rfl, rfl, q1, q4, i6, qs, _⟩ := file_ok H (Decidable.not_not.1 a)
  rw [Int.toNat_natCast, Int.toNat_natCast]
  exact H.empty q i qs i6
theorem GOk.dup {g : Gt} (H : GOk g) (p fd : Int) : GOk (g.dup p fd).1 := by
  unfold Gt.dup
  split
  · exact H
  rename_i a
  obtain ⟨q, i, rfl, rfl, q1, q4, i6, qs, _, e⟩ := file_ok H (Decidable.not_not.1 a)
  rw [e, Int.toNat_natCast]
  have hv := H.fd q i
  split
  · exact H
  · rename_i k hk
    exact H.setFd (H.T.hold _) q k qs (lowest_lt hk).1 _ ⟨hv.1, hv.2.1⟩
theorem GOk.dup2 {g : Gt} (H : GOk g) (p fd to : Int) : GOk (g.dup2 p fd to).1 := by
  unfold Gt.dup2
  split
  · exact H
  rename_i a
  split
  · exact H
  rename_i b
  split
  · exact H
  obtain ⟨q, i, rfl, rfl, q1, q4, i6, qs, _, e⟩ := file_ok H (Decidable.not_not.1 a)
  rw [e, Int.toNat_natCast]
  have hv := H.fd q i
  have key : ∀ g1 : Gt, GOk g1 → (g1.Q q).st = 1 → GOk { g1.setFd q to.toNat ((g.Q q).fd i) with T := (g1.T.hold ((g.Q q).fd i)).1 } := fun g1 h1 h2 => h1.setFd (h1.T.hold _) q _ h2 (by omega) _ ⟨hv.1, hv.2.1⟩
  dsimp only
  split
  · exact key g H qs
  · exact key _ (H.empty q _ qs (by omega)) (by rw [empty_Q, updG_same]; exact qs)
theorem GOk.new (d : Int) : GOk (newG d) := by
  refine GOk.of (TOk.new d) (fun i => ?_) (fun i hi => ?_)
  · show Gp1 i (if i = 1 then ⟨1, 0, 0, fun _ => 0⟩ else noGp)
    split
    · rename_i e
      exact ⟨.inr (.inl rfl), fun h => absurd (show (1 : Int) = 0 from h) (by decide), .inl ⟨Int.le_refl 0, show (0 : Int) ≤ 4 by decide, show (0 : Int) ≠ (i : Int) by omega⟩, show (0 : Int) ≤ 0 ∧ (0 : Int) < 256 by decide, fun j => ⟨Int.le_refl 0, show (0 : Int) ≤ 10 by decide, fun _ => rfl⟩, fun _ _ => rfl⟩
    · exact Gp1.no i
  · show (if i = 1 then (⟨1, 0, 0, fun _ => 0⟩ : Gp) else noGp) = noGp
    rw [if_neg (by omega)]

end Go.Proofs.YtbglhmcahnkbfaaGreat

/- The program's processes as they lie: one block of 47 cells (the open files, the defects, five processes of nine cells). -/
namespace Go.Proofs.YtbglhmcahnkbfaaGreat
open Go.RowKit Go.ChangeMaps Go.MapKept
set_option linter.unusedVariables false
set_option maxRecDepth 20000

def gpC (x : Gp) : List Value := [.int .i64 x.st, .int .i64 x.pa, .int .i64 x.co, .int .i64 (x.fd 0), .int .i64 (x.fd 1), .int .i64 (x.fd 2), .int .i64 (x.fd 3), .int .i64 (x.fd 4), .int .i64 (x.fd 5)]
theorem gpC_fd (x : Gp) (j : Nat) (hj : j < 6) : (gpC x)[3 + j]? = some (.int .i64 (x.fd j)) := by
  obtain rfl | rfl | rfl | rfl | rfl | rfl : j = 0 ∨ j = 1 ∨ j = 2 ∨ j = 3 ∨ j = 4 ∨ j = 5 := by omega
  all_goals rfl
/-- The descriptors as one value. -/
def fdV (f : Nat → Int) : List Value := [.int .i64 (f 0), .int .i64 (f 1), .int .i64 (f 2), .int .i64 (f 3), .int .i64 (f 4), .int .i64 (f 5)]
theorem fdV_at (f : Nat → Int) (j : Nat) (hj : j < 6) : (fdV f)[j]? = some (.int .i64 (f j)) := by
  obtain rfl | rfl | rfl | rfl | rfl | rfl : j = 0 ∨ j = 1 ∨ j = 2 ∨ j = 3 ∨ j = 4 ∨ j = 5 := by omega
  all_goals rfl

structure Hls (C : List Value) (f : Nat) (d : Int) (Q : Nat → Gp) : Prop where
  len : C.length = 47
  fl : C[0]? = some (.pointer (some ⟨f, 0, none⟩))
  df : C[1]? = some (.int .i64 d)
  at_ : ∀ i, i < 5 → ∀ j, j < 9 → C[2 + i * 9 + j]? = (gpC (Q i))[j]?
/-- The table's block. -/
def Th (w : World) (p f : Nat) (d : Int) (Q : Nat → Gp) : Prop := ∃ C, w.heap[p]? = some (.cells (List.toArray C) 82 (0, 0)) ∧ Hls C f d Q
section
variable {w w' : World} {p f : Nat} {d : Int} {Q : Nat → Gp}
theorem Th.lt (h : Th w p f d Q) : p < w.heap.size := by obtain ⟨C, h, _⟩ := h; exact (Array.getElem?_eq_some_iff.1 h).1
theorem Th.upd {U : Nat → Prop} (h : Th w p f d Q) (u : Upd U w w') (hU : ¬ U p) : Th w' p f d Q := by obtain ⟨C, h, hc⟩ := h; exact ⟨C, u.heap h hU, hc⟩
theorem Th.fl (h : Th w p f d Q) : w.cell? ⟨p, 0, none⟩ = some (.pointer (some ⟨f, 0, none⟩)) := by obtain ⟨C, h, hc⟩ := h; exact cell_list h hc.fl
theorem Th.df (h : Th w p f d Q) : w.cell? ⟨p, 1, none⟩ = some (.int .i64 d) := by obtain ⟨C, h, hc⟩ := h; exact cell_list h hc.df
theorem Th.st (h : Th w p f d Q) (i : Nat) (hi : i < 5) : w.cell? ⟨p, 2 + i * 9, none⟩ = some (.int .i64 (Q i).st) := by obtain ⟨C, h, hc⟩ := h; exact cell_list h (hc.at_ i hi 0 (by omega))
theorem Th.pa (h : Th w p f d Q) (i : Nat) (hi : i < 5) : w.cell? ⟨p, 2 + i * 9 + 1, none⟩ = some (.int .i64 (Q i).pa) := by obtain ⟨C, h, hc⟩ := h; exact cell_list h (hc.at_ i hi 1 (by omega))
theorem Th.co (h : Th w p f d Q) (i : Nat) (hi : i < 5) : w.cell? ⟨p, 2 + i * 9 + 2, none⟩ = some (.int .i64 (Q i).co) := by obtain ⟨C, h, hc⟩ := h; exact cell_list h (hc.at_ i hi 2 (by omega))
theorem Th.z (h : Th w p f d Q) (i : Nat) (hi : i < 5) (j : Nat) (hj : j < 6) : w.cell? ⟨p, 2 + i * 9 + 3 + j, none⟩ = some (.int .i64 ((Q i).fd j)) := by
  obtain ⟨C, h, hc⟩ := h
  refine cell_list h ?_
  rw [show 2 + i * 9 + 3 + j = 2 + i * 9 + (3 + j) by omega, hc.at_ i hi (3 + j) (by omega), gpC_fd _ j hj]
theorem Th.fz (h : Th w p f d Q) (j : Nat) : w.frozen? ⟨p, j, none⟩ = false := by obtain ⟨C, h, hc⟩ := h; simp [World.frozen?, h]
theorem Th.th (h : Th w p f d Q) (i : Nat) (hi : i < 5) : w.there p (2 + i * 9) 9 := by obtain ⟨C, h, hc⟩ := h; exact there_of_block h _ _ (by rw [hc.len]; omega)
/-- The descriptors, as they are loaded. -/
theorem Th.fds (h : Th w p f d Q) (i : Nat) (hi : i < 5) : w.rangeAt p (2 + i * 9 + 3) (fdV (Q i).fd) := by
  intro j v hv
  have hj : j < 6 := (List.getElem?_eq_some_iff.1 hv).1
  rw [fdV_at _ j hj] at hv
  rw [← hv]
  exact h.z i hi j hj

theorem Hls.put {C C' : List Value} (h : Hls C f d Q) (i : Nat) (hi : i < 5) (x : Gp) (hl : C'.length = 47)
    (out : ∀ j, j < 2 + i * 9 ∨ 2 + i * 9 + 9 ≤ j → C'[j]? = C[j]?) (inn : ∀ j, j < 9 → C'[2 + i * 9 + j]? = (gpC x)[j]?) : Hls C' f d (updG Q i x) := by
  refine ⟨hl, by rw [out 0 (by omega)]; exact h.fl, by rw [out 1 (by omega)]; exact h.df, ?_⟩
  intro k hk j hj
  by_cases e : k = i
  · subst e; rw [updG_same]; exact inn j hj
  · rw [updG_ne _ _ _ _ e, out _ (by omega)]; exact h.at_ k hk j hj
/-- A process is stored whole. -/
theorem Th.put (h : Th w p f d Q) (i : Nat) (hi : i < 5) (x : Gp) : Th (w.setCells p (2 + i * 9) (gpC x)) p f d (updG Q i x) := by
  obtain ⟨C, hb, hc⟩ := h
  have hl := hc.len
  have hs : 2 + i * 9 + (gpC x).length ≤ C.length := by rw [hl]; simp [gpC]; omega
  exact ⟨_, heap_setCells p 82 (gpC x) _ w C hb hs, hc.put i hi x (by rw [length_splice _ _ _ hs, hl]) (fun j hj => getElem?_splice_out _ _ _ _ hs (by simpa [gpC] using hj)) (fun j hj => getElem?_splice_in C (gpC x) (2 + i * 9) j hs hj)⟩
/-- One cell of a process is stored. -/
theorem Th.one (h : Th w p f d Q) (i : Nat) (hi : i < 5) (k : Nat) (hk : k < 9) (v : Value) (x : Gp) (hv : (gpC x)[k]? = some v) (ho : ∀ j, j < 9 → j ≠ k → (gpC x)[j]? = (gpC (Q i))[j]?) : Th (w.setCell ⟨p, 2 + i * 9 + k, none⟩ v) p f d (updG Q i x) := by
  obtain ⟨C, hb, hc⟩ := h
  have hl := hc.len
  refine ⟨C.set (2 + i * 9 + k) v, by rw [heap_setCell_same w p _ C.toArray _ v hb]; simp, hc.put i hi x (by simp [hl]) (fun j hj => by rw [List.getElem?_set_ne (by omega)]) (fun j hj => ?_)⟩
  by_cases e : j = k
  · subst e; rw [List.getElem?_set_self (by omega), hv]
  · rw [List.getElem?_set_ne (by omega), hc.at_ i hi j hj, ho j hj e]
theorem nine {j : Nat} (h : j < 9) : j = 0 ∨ j = 1 ∨ j = 2 ∨ ∃ m, m < 6 ∧ j = 3 + m := by
  by_cases e : j < 3
  · omega
  · exact .inr (.inr (.inr ⟨j - 3, by omega, by omega⟩))
theorem Th.stTo (h : Th w p f d Q) (i : Nat) (hi : i < 5) (v : Int) : Th (w.setCell ⟨p, 2 + i * 9, none⟩ (.int .i64 v)) p f d (updG Q i { Q i with st := v }) :=
  h.one i hi 0 (by omega) _ _ rfl (fun j hj hk => by
    rcases nine hj with e | rfl | rfl | ⟨m, hm, rfl⟩
    · exact absurd e hk
    · rfl
    · rfl
    · rw [gpC_fd _ m hm, gpC_fd _ m hm])
theorem Th.paTo (h : Th w p f d Q) (i : Nat) (hi : i < 5) (v : Int) : Th (w.setCell ⟨p, 2 + i * 9 + 1, none⟩ (.int .i64 v)) p f d (updG Q i { Q i with pa := v }) :=
  h.one i hi 1 (by omega) _ _ rfl (fun j hj hk => by
    rcases nine hj with rfl | e | rfl | ⟨m, hm, rfl⟩
    · rfl
    · exact absurd e hk
    · rfl
    · rw [gpC_fd _ m hm, gpC_fd _ m hm])
theorem Th.coTo (h : Th w p f d Q) (i : Nat) (hi : i < 5) (v : Int) : Th (w.setCell ⟨p, 2 + i * 9 + 2, none⟩ (.int .i64 v)) p f d (updG Q i { Q i with co := v }) :=
  h.one i hi 2 (by omega) _ _ rfl (fun j hj hk => by
    rcases nine hj with rfl | rfl | e | ⟨m, hm, rfl⟩
    · rfl
    · rfl
    · exact absurd e hk
    · rw [gpC_fd _ m hm, gpC_fd _ m hm])
theorem updFd_same (f : Nat → Int) (i : Nat) (v : Int) : updFd f i v i = v := by simp [updFd]
theorem updFd_ne (f : Nat → Int) (i j : Nat) (v : Int) (h : j ≠ i) : updFd f i v j = f j := by simp [updFd, h]
theorem Th.fdTo (h : Th w p f d Q) (i : Nat) (hi : i < 5) (k : Nat) (hk : k < 6) (v : Int) : Th (w.setCell ⟨p, 2 + i * 9 + 3 + k, none⟩ (.int .i64 v)) p f d (updG Q i { Q i with fd := updFd (Q i).fd k v }) := by
  rw [show 2 + i * 9 + 3 + k = 2 + i * 9 + (3 + k) by omega]
  refine h.one i hi (3 + k) (by omega) _ _ ((gpC_fd _ k hk).trans (by show some (Value.int .i64 (updFd (Q i).fd k v k)) = _; rw [updFd_same])) (fun j hj hjk => ?_)
  rcases nine hj with rfl | rfl | rfl | ⟨m, hm, rfl⟩
  · rfl
  · rfl
  · rfl
  · rw [gpC_fd _ m hm, gpC_fd _ m hm]
    show some (Value.int .i64 (updFd (Q i).fd k v m)) = _
    rw [updFd_ne _ _ _ _ (by omega)]
end

/-- The program's processes: table p over open files f, which lie in blocks Gn. -/
structure Zs (w : World) (p f : Nat) (Gn : Nat → Prop) (g : Gt) : Prop where
  th : Th w p f g.T.F.d g.Q
  tp : Tp w f g.T Gn
  np : ¬ Gn p
/-- The same, in blocks G; and what a call leaves that began in w0. -/
def Zp (w : World) (p f : Nat) (g : Gt) (G : Nat → Prop) : Prop := ∃ Gn, Zs w p f Gn g ∧ G p ∧ ∀ b, Gn b → G b
def ZpTo (w0 : World) (p f : Nat) (g : Gt) (G : Nat → Prop) (w : World) : Prop := Zp w p f g (fun b => G b ∨ w0.heap.size ≤ b) ∧ Upd G w0 w ∧ G p
section
variable {w0 w w' : World} {p f : Nat} {g : Gt} {G : Nat → Prop}
theorem Zp.mono {G' : Nat → Prop} (h : Zp w p f g G) (k : ∀ b, b < w.heap.size → G b → G' b) : Zp w p f g G' := by
  obtain ⟨Gn, h1, h2, h3⟩ := h
  exact ⟨fun b => Gn b ∧ b < w.heap.size, ⟨h1.th, h1.tp.mono (fun b hb hG => ⟨hG, hb⟩), fun e => h1.np e.1⟩, k p h1.th.lt h2, fun b hb => k b hb.2 (h3 b hb.1)⟩
theorem Zp.upd {U : Nat → Prop} (h : Zp w p f g G) (u : Upd U w w') (hU : ∀ b, b < w.heap.size → G b → ¬ U b) : Zp w' p f g G := by
  obtain ⟨Gn, h1, h2, h3⟩ := h
  exact ⟨Gn, ⟨h1.th.upd u (hU p h1.th.lt h2), h1.tp.upd u (fun b hb hG => hU b hb (h3 b hG)), h1.np⟩, h2, h3⟩
theorem Zp.grow (h : Zp w p f g G) (u : Below w.heap.size w w') : Zp w' p f g G := h.upd (Upd.of_below (F := fun _ => False) u) (fun _ _ _ h => h)
theorem Zp.plt (h : Zp w p f g G) : p < w.heap.size := by obtain ⟨Gn, h1, h2, h3⟩ := h; exact h1.th.lt
theorem Zp.tab (h : Zp w p f g G) : Th w p f g.T.F.d g.Q := by obtain ⟨Gn, h1, h2, h3⟩ := h; exact h1.th
theorem Zp.to (h : Zp w p f g G) : ZpTo w p f g G w := ⟨h.mono (fun _ _ h => .inl h), Upd.refl _ _, by obtain ⟨_, _, h2, _⟩ := h; exact h2⟩
theorem ZpTo.tab (h : ZpTo w0 p f g G w) : Th w p f g.T.F.d g.Q := h.1.tab
theorem ZpTo.grow (h : ZpTo w0 p f g G w) (u : Below w.heap.size w w') : ZpTo w0 p f g G w' := ⟨h.1.grow u, h.2.1.trans (Upd.of_below (F := fun _ => False) u) (fun _ _ h => h.elim), h.2.2⟩
theorem ZpTo.drew (h : ZpTo w0 p f g G w) : ZpTo w0 p f g G w.drew := h.grow (Below.refl _ _).drew
/-- The table alone turned. -/
theorem ZpTo.put {Q' : Nat → Gp} (h : ZpTo w0 p f g G w) (k : Th w' p f g.T.F.d Q') (u : Upd (· = p) w w') : ZpTo w0 p f { g with Q := Q' } G w' := by
  obtain ⟨⟨Gn, h1, h2, h3⟩, h4, h5⟩ := h
  exact ⟨⟨Gn, ⟨k, h1.tp.upd u (fun b _ hb e => h1.np (e ▸ hb)), h1.np⟩, h2, h3⟩, h4.trans u (fun b _ e => by rw [e]; exact h5), h5⟩
/-- The open files alone turned. -/
theorem ZpTo.fil {T' : Ft} {Gn : Nat → Prop} (h : ZpTo w0 p f g G w) (h1 : Zs w p f Gn g) (h3 : ∀ b, Gn b → G b ∨ w0.heap.size ≤ b) (k : TpTo w f T' Gn w') (hd : T'.F.d = g.T.F.d) : ZpTo w0 p f { g with T := T' } G w' := by
  obtain ⟨_, h4, h5⟩ := h
  obtain ⟨k1, k2⟩ := k
  have hl := h1.th.lt
  refine ⟨⟨fun b => Gn b ∨ w.heap.size ≤ b, ⟨?_, k1, fun e => ?_⟩, .inl h5, fun b hb => ?_⟩, h4.trans k2 (fun b hb hG => ?_), h5⟩
  · show Th w' p f T'.F.d g.Q
    rw [hd]
    exact h1.th.upd k2 h1.np
  · rcases e with e | e
    · exact h1.np e
    · omega
  · rcases hb with hb | hb
    · exact h3 b hb
    · exact .inr (Nat.le_trans h4.size hb)
  · rcases h3 b hG with e | e
    · exact e
    · omega
theorem ZpTo.parts (h : ZpTo w0 p f g G w) : ∃ Gn, Zs w p f Gn g ∧ ∀ b, Gn b → G b ∨ w0.heap.size ≤ b := by
  obtain ⟨⟨Gn, h1, h2, h3⟩, _⟩ := h
  exact ⟨Gn, h1, h3⟩
end

end Go.Proofs.YtbglhmcahnkbfaaGreat

/- The document's processes as they lie: one block of three cells, one of 50, its open files. -/
namespace Go.Proofs.YtbglhmcahnkbfaaGreat
open Go.RowKit Go.ChangeMaps Go.MapKept
set_option linter.unusedVariables false
set_option maxRecDepth 20000

def nmD (i : Nat) (x : Gp) : Int := if x.st = 0 then 0 else (i : Int)
def gpD (i : Nat) (x : Gp) : List Value := [.int .i64 (nmD i x), .int .i64 x.pa, .int .i64 x.st, .int .i64 x.co, .int .i64 (x.fd 0), .int .i64 (x.fd 1), .int .i64 (x.fd 2), .int .i64 (x.fd 3), .int .i64 (x.fd 4), .int .i64 (x.fd 5)]
theorem gpD_fd (i : Nat) (x : Gp) (j : Nat) (hj : j < 6) : (gpD i x)[4 + j]? = some (.int .i64 (x.fd j)) := by
  obtain rfl | rfl | rfl | rfl | rfl | rfl : j = 0 ∨ j = 1 ∨ j = 2 ∨ j = 3 ∨ j = 4 ∨ j = 5 := by omega
  all_goals rfl
theorem ten {j : Nat} (h : j < 10) : j = 0 ∨ j = 1 ∨ j = 2 ∨ j = 3 ∨ ∃ m, m < 6 ∧ j = 4 + m := by
  by_cases e : j < 4
  · omega
  · exact .inr (.inr (.inr (.inr ⟨j - 4, by omega, by omega⟩)))

structure Dls (C : List Value) (Q : Nat → Gp) : Prop where
  len : C.length = 50
  at_ : ∀ i, i < 5 → ∀ j, j < 10 → C[i * 10 + j]? = (gpD i (Q i))[j]?
def Tl (w : World) (L : Nat) (Q : Nat → Gp) : Prop := ∃ C, w.heap[L]? = some (.cells (List.toArray C) 42 (0, 0)) ∧ Dls C Q
section
variable {w w' : World} {L : Nat} {Q : Nat → Gp}
theorem cell_l {w : World} {p j : Nat} {C : List Value} {v : Value} (h : w.heap[p]? = some (.cells C.toArray 42 (0, 0))) (hc : C[j]? = some v) : w.cell? ⟨p, j, none⟩ = some v := by
  rw [cell_of_row w p j _ 42 (0, 0) h]; simpa using hc
theorem Tl.lt (h : Tl w L Q) : L < w.heap.size := by obtain ⟨C, h, _⟩ := h; exact (Array.getElem?_eq_some_iff.1 h).1
theorem Tl.upd {U : Nat → Prop} (h : Tl w L Q) (u : Upd U w w') (hU : ¬ U L) : Tl w' L Q := by obtain ⟨C, h, hc⟩ := h; exact ⟨C, u.heap h hU, hc⟩
theorem Tl.nm (h : Tl w L Q) (i : Nat) (hi : i < 5) : w.cell? ⟨L, i * 10, none⟩ = some (.int .i64 (nmD i (Q i))) := by obtain ⟨C, h, hc⟩ := h; exact cell_l h (hc.at_ i hi 0 (by omega))
theorem Tl.pa (h : Tl w L Q) (i : Nat) (hi : i < 5) : w.cell? ⟨L, i * 10 + 1, none⟩ = some (.int .i64 (Q i).pa) := by obtain ⟨C, h, hc⟩ := h; exact cell_l h (hc.at_ i hi 1 (by omega))
theorem Tl.st (h : Tl w L Q) (i : Nat) (hi : i < 5) : w.cell? ⟨L, i * 10 + 2, none⟩ = some (.int .i64 (Q i).st) := by obtain ⟨C, h, hc⟩ := h; exact cell_l h (hc.at_ i hi 2 (by omega))
theorem Tl.co (h : Tl w L Q) (i : Nat) (hi : i < 5) : w.cell? ⟨L, i * 10 + 3, none⟩ = some (.int .i64 (Q i).co) := by obtain ⟨C, h, hc⟩ := h; exact cell_l h (hc.at_ i hi 3 (by omega))
theorem Tl.z (h : Tl w L Q) (i : Nat) (hi : i < 5) (j : Nat) (hj : j < 6) : w.cell? ⟨L, i * 10 + 4 + j, none⟩ = some (.int .i64 ((Q i).fd j)) := by
  obtain ⟨C, h, hc⟩ := h
  refine cell_l h ?_
  rw [show i * 10 + 4 + j = i * 10 + (4 + j) by omega, hc.at_ i hi (4 + j) (by omega), gpD_fd _ _ j hj]
theorem Tl.fz (h : Tl w L Q) (j : Nat) : w.frozen? ⟨L, j, none⟩ = false := by obtain ⟨C, h, hc⟩ := h; simp [World.frozen?, h]
theorem Tl.th (h : Tl w L Q) (i : Nat) (hi : i < 5) : w.there L (i * 10) 10 := by obtain ⟨C, h, hc⟩ := h; exact there_of_block h _ _ (by rw [hc.len]; omega)
theorem Tl.fds (h : Tl w L Q) (i : Nat) (hi : i < 5) : w.rangeAt L (i * 10 + 4) (fdV (Q i).fd) := by
  intro j v hv
  have hj : j < 6 := (List.getElem?_eq_some_iff.1 hv).1
  rw [fdV_at _ j hj] at hv
  rw [← hv]
  exact h.z i hi j hj
theorem Dls.put {C C' : List Value} (h : Dls C Q) (i : Nat) (hi : i < 5) (x : Gp) (hl : C'.length = 50)
    (out : ∀ j, j < i * 10 ∨ i * 10 + 10 ≤ j → C'[j]? = C[j]?) (inn : ∀ j, j < 10 → C'[i * 10 + j]? = (gpD i x)[j]?) : Dls C' (updG Q i x) := by
  refine ⟨hl, ?_⟩
  intro k hk j hj
  by_cases e : k = i
  · subst e; rw [updG_same]; exact inn j hj
  · rw [updG_ne _ _ _ _ e, out _ (by omega)]; exact h.at_ k hk j hj
theorem Tl.put (h : Tl w L Q) (i : Nat) (hi : i < 5) (x : Gp) : Tl (w.setCells L (i * 10) (gpD i x)) L (updG Q i x) := by
  obtain ⟨C, hb, hc⟩ := h
  have hl := hc.len
  have hs : i * 10 + (gpD i x).length ≤ C.length := by rw [hl]; simp [gpD]; omega
  exact ⟨_, heap_setCells L 42 (gpD i x) _ w C hb hs, hc.put i hi x (by rw [length_splice _ _ _ hs, hl]) (fun j hj => getElem?_splice_out _ _ _ _ hs (by simpa [gpD] using hj)) (fun j hj => getElem?_splice_in C (gpD i x) (i * 10) j hs hj)⟩
theorem Tl.one (h : Tl w L Q) (i : Nat) (hi : i < 5) (k : Nat) (hk : k < 10) (v : Value) (x : Gp) (hv : (gpD i x)[k]? = some v) (ho : ∀ j, j < 10 → j ≠ k → (gpD i x)[j]? = (gpD i (Q i))[j]?) : Tl (w.setCell ⟨L, i * 10 + k, none⟩ v) L (updG Q i x) := by
  obtain ⟨C, hb, hc⟩ := h
  have hl := hc.len
  refine ⟨C.set (i * 10 + k) v, by rw [heap_setCell_same w L _ C.toArray _ v hb]; simp, hc.put i hi x (by simp [hl]) (fun j hj => by rw [List.getElem?_set_ne (by omega)]) (fun j hj => ?_)⟩
  by_cases e : j = k
  · subst e; rw [List.getElem?_set_self (by omega), hv]
  · rw [List.getElem?_set_ne (by omega), hc.at_ i hi j hj, ho j hj e]
theorem Tl.stTo (h : Tl w L Q) (i : Nat) (hi : i < 5) (v : Int) (hv : v ≠ 0) (hs : (Q i).st ≠ 0) : Tl (w.setCell ⟨L, i * 10 + 2, none⟩ (.int .i64 v)) L (updG Q i { Q i with st := v }) :=
  h.one i hi 2 (by omega) _ _ rfl (fun j hj hk => by
    rcases ten hj with rfl | rfl | e | rfl | ⟨m, hm, rfl⟩
    · show some (Value.int .i64 (nmD i { Q i with st := v })) = some (Value.int .i64 (nmD i (Q i)))
      unfold nmD
      rw [if_neg hs, if_neg (show ({ Q i with st := v } : Gp).st ≠ 0 from hv)]
    · rfl
    · exact absurd e hk
    · rfl
    · rw [gpD_fd _ _ m hm, gpD_fd _ _ m hm])
theorem Tl.paTo (h : Tl w L Q) (i : Nat) (hi : i < 5) (v : Int) : Tl (w.setCell ⟨L, i * 10 + 1, none⟩ (.int .i64 v)) L (updG Q i { Q i with pa := v }) :=
  h.one i hi 1 (by omega) _ _ rfl (fun j hj hk => by
    rcases ten hj with rfl | e | rfl | rfl | ⟨m, hm, rfl⟩
    · rfl
    · exact absurd e hk
    · rfl
    · rfl
    · rw [gpD_fd _ _ m hm, gpD_fd _ _ m hm])
theorem Tl.coTo (h : Tl w L Q) (i : Nat) (hi : i < 5) (v : Int) : Tl (w.setCell ⟨L, i * 10 + 3, none⟩ (.int .i64 v)) L (updG Q i { Q i with co := v }) :=
  h.one i hi 3 (by omega) _ _ rfl (fun j hj hk => by
    rcases ten hj with rfl | rfl | rfl | e | ⟨m, hm, rfl⟩
    · rfl
    · rfl
    · rfl
    · exact absurd e hk
    · rw [gpD_fd _ _ m hm, gpD_fd _ _ m hm])
theorem Tl.fdTo (h : Tl w L Q) (i : Nat) (hi : i < 5) (k : Nat) (hk : k < 6) (v : Int) : Tl (w.setCell ⟨L, i * 10 + 4 + k, none⟩ (.int .i64 v)) L (updG Q i { Q i with fd := updFd (Q i).fd k v }) := by
  rw [show i * 10 + 4 + k = i * 10 + (4 + k) by omega]
  refine h.one i hi (4 + k) (by omega) _ _ ((gpD_fd _ _ k hk).trans (by show some (Value.int .i64 (updFd (Q i).fd k v k)) = _; rw [updFd_same])) (fun j hj hjk => ?_)
  rcases ten hj with rfl | rfl | rfl | rfl | ⟨m, hm, rfl⟩
  · rfl
  · rfl
  · rfl
  · rfl
  · rw [gpD_fd _ _ m hm, gpD_fd _ _ m hm]
    show some (Value.int .i64 (updFd (Q i).fd k v m)) = _
    rw [updFd_ne _ _ _ _ (by omega)]
end

/-- The document's table y: its list L, its open files x in blocks Dn. -/
structure Ys (w : World) (y x L : Nat) (Dn : Nat → Prop) (g : Gt) : Prop where
  hy : w.heap[y]? = some (.cells #[.slice (some ⟨L, 0, none⟩) 5 5, .pointer (some ⟨x, 0, none⟩), .int .i64 g.T.F.d] 102 (0, 0))
  tl : Tl w L g.Q
  td : Td w x g.T Dn
  yL : y ≠ L
  ny : ¬ Dn y
  nL : ¬ Dn L
def Yp (w : World) (y x L : Nat) (g : Gt) (D : Nat → Prop) : Prop := ∃ Dn, Ys w y x L Dn g ∧ D y ∧ D L ∧ ∀ b, Dn b → D b
def YpTo (w0 : World) (y x L : Nat) (g : Gt) (D : Nat → Prop) (w : World) : Prop := Yp w y x L g (fun b => D b ∨ w0.heap.size ≤ b) ∧ Upd D w0 w ∧ D y ∧ D L
section
variable {w0 w w' : World} {y x L : Nat} {g : Gt} {D Dn : Nat → Prop}
theorem Ys.lt (h : Ys w y x L Dn g) : y < w.heap.size := (Array.getElem?_eq_some_iff.1 h.hy).1
theorem Yp.mono {D' : Nat → Prop} (h : Yp w y x L g D) (k : ∀ b, b < w.heap.size → D b → D' b) : Yp w y x L g D' := by
  obtain ⟨Dn, h1, h2, h3, h4⟩ := h
  exact ⟨fun b => Dn b ∧ b < w.heap.size, ⟨h1.hy, h1.tl, h1.td.mono (fun b hb hG => ⟨hG, hb⟩), h1.yL, fun e => h1.ny e.1, fun e => h1.nL e.1⟩, k y h1.lt h2, k L h1.tl.lt h3, fun b hb => k b hb.2 (h4 b hb.1)⟩
theorem Yp.upd {U : Nat → Prop} (h : Yp w y x L g D) (u : Upd U w w') (hU : ∀ b, b < w.heap.size → D b → ¬ U b) : Yp w' y x L g D := by
  obtain ⟨Dn, h1, h2, h3, h4⟩ := h
  exact ⟨Dn, ⟨u.heap h1.hy (hU y h1.lt h2), h1.tl.upd u (hU L h1.tl.lt h3), h1.td.upd u (fun b hb hG => hU b hb (h4 b hG)), h1.yL, h1.ny, h1.nL⟩, h2, h3, h4⟩
theorem Yp.grow (h : Yp w y x L g D) (u : Below w.heap.size w w') : Yp w' y x L g D := h.upd (Upd.of_below (F := fun _ => False) u) (fun _ _ _ h => h)
theorem Yp.tl (h : Yp w y x L g D) : Tl w L g.Q := by obtain ⟨_, h1, _⟩ := h; exact h1.tl
theorem Yp.cl (h : Yp w y x L g D) : w.cell? ⟨y, 0, none⟩ = some (.slice (some ⟨L, 0, none⟩) 5 5) := by obtain ⟨_, h1, _⟩ := h; rw [cell_of_row w y 0 _ _ _ h1.hy]; rfl
theorem Yp.cx (h : Yp w y x L g D) : w.cell? ⟨y, 1, none⟩ = some (.pointer (some ⟨x, 0, none⟩)) := by obtain ⟨_, h1, _⟩ := h; rw [cell_of_row w y 1 _ _ _ h1.hy]; rfl
theorem Yp.cd (h : Yp w y x L g D) : w.cell? ⟨y, 2, none⟩ = some (.int .i64 g.T.F.d) := by obtain ⟨_, h1, _⟩ := h; rw [cell_of_row w y 2 _ _ _ h1.hy]; rfl
theorem Yp.to (h : Yp w y x L g D) : YpTo w y x L g D w := ⟨h.mono (fun _ _ h => .inl h), Upd.refl _ _, by obtain ⟨_, _, h2, h3, _⟩ := h; exact ⟨h2, h3⟩⟩
theorem YpTo.tl (h : YpTo w0 y x L g D w) : Tl w L g.Q := h.1.tl
theorem YpTo.grow (h : YpTo w0 y x L g D w) (u : Below w.heap.size w w') : YpTo w0 y x L g D w' := ⟨h.1.grow u, h.2.1.trans (Upd.of_below (F := fun _ => False) u) (fun _ _ h => h.elim), h.2.2⟩
theorem YpTo.drew (h : YpTo w0 y x L g D w) : YpTo w0 y x L g D w.drew := h.grow (Below.refl _ _).drew
theorem YpTo.put {Q' : Nat → Gp} (h : YpTo w0 y x L g D w) (k : Tl w' L Q') (u : Upd (· = L) w w') : YpTo w0 y x L { g with Q := Q' } D w' := by
  obtain ⟨⟨Dn, h1, h2, h3, h4⟩, h5, h6, h7⟩ := h
  exact ⟨⟨Dn, ⟨u.heap h1.hy h1.yL, k, h1.td.upd u (fun b _ hb e => h1.nL (e ▸ hb)), h1.yL, h1.ny, h1.nL⟩, h2, h3, h4⟩, h5.trans u (fun b _ e => by rw [e]; exact h7), h6, h7⟩
theorem YpTo.fil {T' : Ft} (h : YpTo w0 y x L g D w) (h1 : Ys w y x L Dn g) (h3 : ∀ b, Dn b → D b ∨ w0.heap.size ≤ b) (k : TdTo w x T' Dn w') (hd : T'.F.d = g.T.F.d) : YpTo w0 y x L { g with T := T' } D w' := by
  obtain ⟨_, h4, h5, h6⟩ := h
  obtain ⟨k1, k2⟩ := k
  have hl := h1.lt
  have hl2 := h1.tl.lt
  refine ⟨⟨fun b => Dn b ∨ w.heap.size ≤ b, ⟨?_, h1.tl.upd k2 h1.nL, k1, h1.yL, fun e => ?_, fun e => ?_⟩, .inl h5, .inl h6, fun b hb => ?_⟩, h4.trans k2 (fun b hb hG => ?_), h5, h6⟩
  · show w'.heap[y]? = some (.cells #[.slice (some ⟨L, 0, none⟩) 5 5, .pointer (some ⟨x, 0, none⟩), .int .i64 T'.F.d] 102 (0, 0))
    rw [hd]
    exact k2.heap h1.hy h1.ny
  · rcases e with e | e
    · exact h1.ny e
    · omega
  · rcases e with e | e
    · exact h1.nL e
    · omega
  · rcases hb with hb | hb
    · exact h3 b hb
    · exact .inr (Nat.le_trans h4.size hb)
  · rcases h3 b hG with e | e
    · exact e
    · omega
theorem YpTo.parts (h : YpTo w0 y x L g D w) : ∃ Dn, Ys w y x L Dn g ∧ ∀ b, Dn b → D b ∨ w0.heap.size ≤ b := by
  obtain ⟨⟨Dn, h1, _, _, h3⟩, _⟩ := h
  exact ⟨Dn, h1, h3⟩
end

end Go.Proofs.YtbglhmcahnkbfaaGreat
