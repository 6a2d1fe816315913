/- The choice of the program as it lies, and what Weigh does with a table's calls. -/
import Derived.Test.YtcnickihhjhphaaGreatDoorWTaken
import Derived.Deep.RegionLaw
namespace Go.Proofs.YtcnickihhjhphaaGreatDoor
open Go.RowKit
set_option linter.unusedVariables false
set_option maxRecDepth 20000

/-- A call of a choice: what it makes, and what it takes, with where that lies. -/
structure Cc where
  rs : ByteArray
  a : Option Addr
  n : Nat
  c : Nat
  ts : List ByteArray
def Cc.cells (x : Cc) : List Value := [.string x.rs, .slice x.a x.n x.c]
def Cc.Ok (w : World) (B : Nat) (x : Cc) : Prop := w.ownsRow B 9 1 (.slice x.a x.n x.c) x.n (x.ts.map Value.string)
def ccC (cs : List Cc) : List Value := cs.flatMap Cc.cells
theorem ccC_len (cs : List Cc) : (ccC cs).length = cs.length * 2 := by
  induction cs with
  | nil => rfl
  | cons x r ih =>
    have e : ccC (x :: r) = x.cells ++ ccC r := rfl
    rw [e, List.length_append, ih]
    simp [Cc.cells]; omega
theorem ccC_snoc (cs : List Cc) (x : Cc) : ccC (cs ++ [x]) = ccC cs ++ x.cells := by simp [ccC]

/-- A choice of such calls; what it is made of lies from B on; its counts are a map at m. -/
structure Cw (w : World) (B p m : Nat) (cs : List Cc) : Prop where
  ex : ∃ v, w.heap[p]? = some (.cells #[.bool true, v, .map (some m)] 45 (0, 0)) ∧ w.ownsRow B 55 2 v cs.length (ccC cs)
  ok : ∀ x ∈ cs, x.Ok w B
  lt : p < B

theorem own_shape {w : World} {B e s n : Nat} {v : Value} {xs : List Value} (h : w.ownsRow B e s v n xs) : ∃ a c, v = .slice a n c := by
  rcases h.2 with ⟨rfl, rfl⟩ | ⟨g, c, cur, rfl, _⟩
  · exact ⟨none, 0, rfl⟩
  · exact ⟨_, c, rfl⟩
theorem own_tag {w : World} {B e s n : Nat} {v : Value} {xs : List Value} (h : w.ownsRow B e s v n xs) {k : Nat} (hk : v.ownBlock = some k) : ∃ cur, w.heap[k]? = some (.cells cur e (0, 0)) := by
  rcases h.2 with ⟨rfl, _⟩ | ⟨g, c, cur, rfl, _, hg, _⟩
  · cases hk
  · simp [Value.ownBlock] at hk
    subst hk
    exact ⟨cur, hg⟩
/-- Rows of two kinds of elements lie apart. -/
theorem own_apart {w : World} {B e s n B' e' s' n' : Nat} {v v' : Value} {xs xs' : List Value} (h : w.ownsRow B e s v n xs) (h' : w.ownsRow B' e' s' v' n' xs') (hne : e ≠ e') {k : Nat} (hk : v.ownBlock = some k) : v'.ownBlock ≠ some k := fun hk' => by
  obtain ⟨c1, h1⟩ := own_tag h hk
  obtain ⟨c2, h2⟩ := own_tag h' hk'
  rw [h1] at h2
  injection h2 with h2
  injection h2 with _ h3
  exact hne h3

/-- The cells of a call. -/
def clC (C : Cl) : List Value := [.string C.nm, .int .i64 C.no, .slice C.aa C.an C.ac, .slice C.na C.nn C.nc, .string C.rt]
theorem ClAt.range {w : World} {b o : Nat} {C : Cl} (h : ClAt w b o C) : w.rangeAt b o (clC C) := rangeAt_mk fun j hj => by
  simp only [clC, List.length_cons, List.length_nil] at hj
  match j, hj with
  | 0, _ => exact h.c0
  | 1, _ => exact h.c1
  | 2, _ => exact h.c2
  | 3, _ => exact h.c3
  | 4, _ => exact h.c4
theorem csizeC : (Tryz.prog.info? 52).map (·.size) = some 5 := by kernel_rfl
theorem infoCl : (Tryz.prog.info? 55).map (fun i => (i.zero, i.size, i.bytes)) = some (some (.agg #[.string ⟨#[]⟩, .slice none 0 0]), 2, 40) := by kernel_rfl

/-- What a call of a table makes and takes. -/
def mt (l : List Ty) (C : Cl) : ByteArray × List ByteArray := (C.rt, takes l C.ags)

end Go.Proofs.YtcnickihhjhphaaGreatDoor
