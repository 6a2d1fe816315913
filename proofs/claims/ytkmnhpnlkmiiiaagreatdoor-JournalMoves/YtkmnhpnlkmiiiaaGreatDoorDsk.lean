/- A disk of the program, as it lies in memory: its cells, its rows, and which blocks are its own. -/
import Derived.Test.YtkmnhpnlkmiiiaaGreatDoorUpd
namespace Go.Proofs.YtkmnhpnlkmiiiaaGreatDoor
open Go.RowKit
set_option linter.unusedVariables false

/-- A write of an epoch: its sector, where its bytes lie, and these. -/
structure Snt where
  sec : Nat
  blk : Nat
  cap : Nat
  bs : List Int

/-- An epoch: where its row lies, and its writes. -/
structure Ep where
  v : Value
  es : List Snt

/-- A disk. -/
structure Dk where
  n : Nat
  gd : Nat
  cd : Nat
  gw : Nat
  cw : Nat
  dur : List Int
  wr : List Int
  ve : Value
  eps : List Ep
  opn : Bool

def Snt.val (s : Snt) : Value := .slice (some ⟨s.blk, 0, none⟩) 128 s.cap
def Snt.ok (s : Snt) (w : World) : Prop := s.bs.length = 128 ∧ w.ownsRow 0 5 1 s.val 128 (s.bs.map (Value.int .u8))
def sentCells (es : List Snt) : List Value := es.flatMap fun s => [Value.int .i64 s.sec, s.val]

def vb (v : Value) : List Nat := v.ownBlock.toList
def Ep.foot (e : Ep) : List Nat := vb e.v ++ e.es.map Snt.blk

/-- Sectors that rise, below n. -/
def Rise (n : Nat) (l : List Nat) : Prop := l.Pairwise (· < ·) ∧ ∀ x ∈ l, x < n

structure Ep.ok (e : Ep) (w : World) (n : Nat) : Prop where
  row : w.ownsRow 0 108 2 e.v e.es.length (sentCells e.es)
  es : ∀ s ∈ e.es, s.ok w
  rise : Rise n (e.es.map Snt.sec)

def Dk.foot (d : Dk) (p : Nat) : List Nat := p :: d.gd :: d.gw :: (vb d.ve ++ d.eps.flatMap Ep.foot)

structure Dk.ok (d : Dk) (w : World) (p : Nat) : Prop where
  cells : w.heap[p]? = some (.cells #[.slice (some ⟨d.gd, 0, none⟩) (d.n * 128) d.cd, .slice (some ⟨d.gw, 0, none⟩) (d.n * 128) d.cw, d.ve, .bool d.opn] 64 (0, 0))
  dur : w.ownsRow 0 5 1 (.slice (some ⟨d.gd, 0, none⟩) (d.n * 128) d.cd) (d.n * 128) (d.dur.map (Value.int .u8))
  wr : w.ownsRow 0 5 1 (.slice (some ⟨d.gw, 0, none⟩) (d.n * 128) d.cw) (d.n * 128) (d.wr.map (Value.int .u8))
  row : w.ownsRow 0 80 1 d.ve d.eps.length (d.eps.map Ep.v)
  eps : ∀ e ∈ d.eps, e.ok w d.n
  nodup : (d.foot p).Nodup
  n1 : 1 ≤ d.n
  n2 : d.n ≤ 2048
  last : d.opn = true → d.eps ≠ []

theorem own_of_heap {w w' : World} {B e size n : Nat} {v : Value} {xs : List Value} (h : w.ownsRow B e size v n xs) (hh : ∀ k, v.ownBlock = some k → w'.heap[k]? = w.heap[k]?) : w'.ownsRow B e size v n xs := by
  refine ⟨h.1, ?_⟩
  rcases h.2 with hn | ⟨g, cap, cur, rfl, hb, hgg, rest⟩
  · exact .inl hn
  · refine .inr ⟨g, cap, cur, rfl, hb, ?_, rest⟩
    rw [hh g rfl]
    exact hgg

theorem own_lt {w : World} {B e size n : Nat} {v : Value} {xs : List Value} (h : w.ownsRow B e size v n xs) {k : Nat} (hk : k ∈ vb v) : k < w.heap.size := (h.lt k (by simpa [vb] using hk)).2

theorem Snt.ok.frame {s : Snt} {w w' : World} (h : s.ok w) (hh : w'.heap[s.blk]? = w.heap[s.blk]?) : s.ok w' :=
  ⟨h.1, own_of_heap h.2 (fun k hk => by simp [Snt.val, Value.ownBlock] at hk; subst hk; exact hh)⟩

theorem Ep.ok.frame {e : Ep} {w w' : World} {n : Nat} (h : e.ok w n) (hh : ∀ k ∈ e.foot, w'.heap[k]? = w.heap[k]?) : e.ok w' n :=
  ⟨own_of_heap h.row (fun k hk => hh k (by simp [Ep.foot, vb, hk])), fun s hs => (h.es s hs).frame (hh _ (by simp only [Ep.foot, List.mem_append, List.mem_map]; exact .inr ⟨s, hs, rfl⟩)), h.rise⟩

theorem Dk.ok.frame {d : Dk} {w w' : World} {p : Nat} (h : d.ok w p) (hh : ∀ k ∈ d.foot p, w'.heap[k]? = w.heap[k]?) : d.ok w' p := by
  refine ⟨(hh p (by simp [Dk.foot])).trans h.cells, own_of_heap h.dur ?_, own_of_heap h.wr ?_, own_of_heap h.row ?_, ?_, h.nodup, h.n1, h.n2, h.last⟩
  · intro k hk; simp [Value.ownBlock] at hk; subst hk; exact hh _ (by simp [Dk.foot])
  · intro k hk; simp [Value.ownBlock] at hk; subst hk; exact hh _ (by simp [Dk.foot])
  · intro k hk; exact hh _ (by simp [Dk.foot, vb, hk])
  · intro e he
    refine (h.eps e he).frame fun k hk => hh k ?_
    simp only [Dk.foot, List.mem_cons, List.mem_append, List.mem_flatMap]
    exact .inr (.inr (.inr (.inr ⟨e, he, hk⟩)))

theorem Snt.ok.lt {s : Snt} {w : World} (h : s.ok w) : s.blk < w.heap.size := own_lt h.2 (by simp [vb, Snt.val, Value.ownBlock])

theorem Ep.ok.lt {e : Ep} {w : World} {n : Nat} (h : e.ok w n) : ∀ k ∈ e.foot, k < w.heap.size := by
  intro k hk
  simp only [Ep.foot, List.mem_append, List.mem_map] at hk
  rcases hk with hk | ⟨s, hs, rfl⟩
  · exact own_lt h.row hk
  · exact (h.es s hs).lt

theorem Dk.ok.lt {d : Dk} {w : World} {p : Nat} (h : d.ok w p) : ∀ k ∈ d.foot p, k < w.heap.size := by
  intro k hk
  simp only [Dk.foot, List.mem_cons, List.mem_append, List.mem_flatMap] at hk
  rcases hk with rfl | rfl | rfl | hk | ⟨e, he, hk⟩
  · exact (Array.getElem?_eq_some_iff.1 h.cells).1
  · exact own_lt h.dur (by simp [vb, Value.ownBlock])
  · exact own_lt h.wr (by simp [vb, Value.ownBlock])
  · exact own_lt h.row hk
  · exact (h.eps e he).lt k hk

theorem Dk.ok.upd {d : Dk} {w w' : World} {p : Nat} {F : Nat → Prop} (h : d.ok w p) (u : Upd F w w') (hF : ∀ k ∈ d.foot p, ¬ F k) : d.ok w' p :=
  h.frame fun k hk => u.block k (h.lt k hk) (hF k hk)

/-- Where the writes of a row lie: cell by cell. -/
theorem sentCells_len (es : List Snt) : (sentCells es).length = es.length * 2 := by
  induction es with
  | nil => rfl
  | cons s es ih => simp [sentCells] at ih ⊢; omega

theorem sentCells_append (a b : List Snt) : sentCells (a ++ b) = sentCells a ++ sentCells b := by simp [sentCells]

theorem sentCells_at (es : List Snt) (i : Nat) (h : i < es.length) : (sentCells es)[i * 2]? = some (.int .i64 es[i].sec) ∧ (sentCells es)[i * 2 + 1]? = some es[i].val := by
  induction es generalizing i with
  | nil => simp at h
  | cons s es ih =>
    cases i with
    | zero => simp [sentCells]
    | succ i =>
      have := ih i (by simpa using h)
      have e1 : (i + 1) * 2 = i * 2 + 2 := by omega
      have e2 : sentCells (s :: es) = .int .i64 s.sec :: s.val :: sentCells es := by simp [sentCells]
      rw [e1, e2]
      simpa using this

theorem sentCells_one (es : List Snt) : ∀ u ∈ sentCells es, u.oneCell' = true := by
  intro u hu
  simp only [sentCells, List.mem_flatMap] at hu
  obtain ⟨s, _, hs⟩ := hu
  simp at hs
  rcases hs with rfl | rfl
  · rfl
  · rfl

theorem sentCells_take (es : List Snt) (k : Nat) : (sentCells es).take (k * 2) = sentCells (es.take k) := by
  induction es generalizing k with
  | nil => simp [sentCells]
  | cons s es ih =>
    cases k with
    | zero => simp [sentCells]
    | succ k =>
      have e1 : (k + 1) * 2 = k * 2 + 2 := by omega
      have e2 : sentCells (s :: es) = .int .i64 s.sec :: s.val :: sentCells es := by simp [sentCells]
      have e3 : sentCells (s :: es.take k) = .int .i64 s.sec :: s.val :: sentCells (es.take k) := by simp [sentCells]
      rw [e1, e2, List.take_succ_cons, List.take_succ_cons, List.take_succ_cons, e3]
      simp [ih]

theorem sentCells_drop (es : List Snt) (k : Nat) : (sentCells es).drop (k * 2) = sentCells (es.drop k) := by
  induction es generalizing k with
  | nil => simp [sentCells]
  | cons s es ih =>
    cases k with
    | zero => simp
    | succ k =>
      have e1 : (k + 1) * 2 = k * 2 + 2 := by omega
      have e2 : sentCells (s :: es) = .int .i64 s.sec :: s.val :: sentCells es := by simp [sentCells]
      rw [e1, e2]
      simp [ih]

end Go.Proofs.YtkmnhpnlkmiiiaaGreatDoor
