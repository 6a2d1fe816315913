/- Texts of this seat, merged. -/
import Derived.Test.YtoknhcjneliboaaGreatFMg30

/- A look of a file system, as it is read. -/
namespace Go.Proofs.YtoknhcjneliboaaGreat
open Go.RowKit
set_option linter.unusedVariables false
set_option maxRecDepth 20000

/-- A node of a look as it is read. -/
structure Nda (w : World) (q o i : Nat) (y : Fn) (ba : Option Addr) (bc : Nat) (na : Option Addr) (nc : Nat) (ma : Option Addr) (mc : Nat) : Prop where
  c0 : w.cell? ⟨q, o, none⟩ = some (.int .i64 (i : Int))
  c1 : w.cell? ⟨q, o + 1, none⟩ = some (.int .i64 y.k)
  c2 : w.cell? ⟨q, o + 2, none⟩ = some (.int .i64 y.l)
  c3 : w.cell? ⟨q, o + 3, none⟩ = some (.int .i64 ((y.c.length : Int) + (y.Q.length : Int)))
  c4 : w.cell? ⟨q, o + 4, none⟩ = some (.int .i64 y.h)
  c5 : w.cell? ⟨q, o + 5, none⟩ = some (.slice ba y.B.length bc)
  c6 : w.cell? ⟨q, o + 6, none⟩ = some (.slice na y.Q.length nc)
  c7 : w.cell? ⟨q, o + 7, none⟩ = some (.slice ma y.Q.length mc)
  rB : Rdv w ba y.B.length (y.B.map natV)
  rM : Rdv w ma y.Q.length (y.Q.map ndV)
  nB : ba = none → bc = 0
theorem Nda.below {w w' : World} {q o i : Nat} {y : Fn} {ba na ma : Option Addr} {bc nc mc : Nat} (h : Nda w q o i y ba bc na nc ma mc) (u : Below w.heap.size w w') (hq : q < w.heap.size) : Nda w' q o i y ba bc na nc ma mc :=
  ⟨(u.cell (p := ⟨q, _, none⟩) hq).trans h.c0, (u.cell (p := ⟨q, _, none⟩) hq).trans h.c1, (u.cell (p := ⟨q, _, none⟩) hq).trans h.c2, (u.cell (p := ⟨q, _, none⟩) hq).trans h.c3, (u.cell (p := ⟨q, _, none⟩) hq).trans h.c4, (u.cell (p := ⟨q, _, none⟩) hq).trans h.c5, (u.cell (p := ⟨q, _, none⟩) hq).trans h.c6, (u.cell (p := ⟨q, _, none⟩) hq).trans h.c7, h.rB.below u, h.rM.below u, h.nB⟩

/-- The nodes of a look as they are read. -/
def Nds (w : World) (a : Option Addr) (F : Fs) (is : List Nat) : Prop :=
  0 < is.length → ∃ q o, a = some ⟨q, o, none⟩ ∧ q < w.heap.size ∧ ∀ t, ∀ h : t < is.length, ∃ ba bc na nc ma mc, Nda w q (o + t * 8) is[t] (F.P is[t]) ba bc na nc ma mc
theorem Nds.below {w w' : World} {a : Option Addr} {F : Fs} {is : List Nat} (h : Nds w a F is) (u : Below w.heap.size w w') : Nds w' a F is := fun h0 => by
  obtain ⟨q, o, e, hq, hh⟩ := h h0
  refine ⟨q, o, e, Nat.lt_of_lt_of_le hq u.size, fun t ht => ?_⟩
  obtain ⟨ba, bc, na, nc, ma, mc, hn⟩ := hh t ht
  exact ⟨ba, bc, na, nc, ma, mc, hn.below u hq⟩

theorem own_nil {w : World} {B e size n c : Nat} {xs : List Value} (h : w.ownsRow B e size (.slice none n c) n xs) : c = 0 := by
  rcases h.2 with ⟨q, _⟩ | ⟨g, cap, cur, q, _⟩
  · injection q with _ _ q3
  · injection q with q1
    cases q1

theorem nds_of {w : World} {a : Option Addr} {n c : Nat} {F : Fs} {G : Nat → Prop} {is : List Nat} {cs : List Value} (hn : n = is.length) (h : w.ownsRow 0 47 8 (.slice a n c) n cs) (hL : LkL w G F is cs) : Nds w a F is := fun h0 => by
  obtain ⟨a', c', e', _, _, hc⟩ := own_shp h
  injection e' with e1 _ _
  subst e1
  obtain ⟨q, rfl, _, hq, hcc⟩ := hc (by omega)
  refine ⟨q, 0, rfl, hq, fun t ht => ?_⟩
  obtain ⟨c8, ⟨vB, vN, vM, rfl, h1, h2, h3, _⟩, _, hx⟩ := hL.get t ht
  obtain ⟨ba, bc, rfl, _⟩ := own_shp h1
  obtain ⟨na, nc, rfl, _⟩ := own_shp h2
  obtain ⟨ma, mc, rfl, _⟩ := own_shp h3
  have hh : ∀ j, j < 8 → ∀ v, (lkC is[t] (F.P is[t]) (.slice ba (F.P is[t]).B.length bc) (.slice na (F.P is[t]).Q.length nc) (.slice ma (F.P is[t]).Q.length mc))[j]? = some v → w.cell? ⟨q, 0 + t * 8 + j, none⟩ = some v := fun j hj v hv => by
    rw [Nat.zero_add]
    exact hcc (t * 8 + j) v (by rw [hx j hj]; exact hv)
  exact ⟨ba, bc, na, nc, ma, mc, by simpa using hh 0 (by omega) _ rfl, hh 1 (by omega) _ rfl, hh 2 (by omega) _ rfl, hh 3 (by omega) _ rfl, hh 4 (by omega) _ rfl, hh 5 (by omega) _ rfl, hh 6 (by omega) _ rfl, hh 7 (by omega) _ rfl, Rdv.of h1, Rdv.of h3, fun e => by subst e; exact own_nil h1⟩

end Go.Proofs.YtoknhcjneliboaaGreat
