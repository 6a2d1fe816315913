/- The document's least: a row of arguments that is appended to. -/
import Derived.Test.YtkgejeamcgodhaaGLeast5
import Derived.Deep.AppendLies
namespace Go.Proofs.Ytkgejeamcgodhaa
open Go.RowKit
set_option linter.unusedVariables false
set_option maxRecDepth 20000

/-- An argument all of whose blocks are such. -/
def Oka (P : Nat → Prop) : Nat → World → Ar → Prop
  | 0 => fun _ _ => False
  | d + 1 => fun w A => A.h.Ok w ∧ (0 < A.h.bn → ∀ b o, A.h.ba = some ⟨b, o, none⟩ → P b) ∧ A.ks.length = A.h.kn ∧ (0 < A.ks.length → ∃ b o, A.h.ka = some ⟨b, o, none⟩ ∧ b < w.heap.size ∧ P b ∧ ∀ j, ∀ h : j < A.ks.length, HdAt w b (o + j * 4) A.ks[j].h ∧ Oka P d w A.ks[j])
theorem Okb.oka {B : Nat} {w : World} : ∀ (d : Nat) (A : Ar), Okb B d w A → Oka (B ≤ ·) d w A
  | 0, _, h => h
  | d + 1, A, ⟨h1, h2, h3, h4⟩ => ⟨h1, fun _ => h2, h3, fun h0 => by
    obtain ⟨b, o, e, hl, hb, hc⟩ := h4 h0
    exact ⟨b, o, e, hl, hb, fun j hj => ⟨(hc j hj).1, Okb.oka d _ (hc j hj).2⟩⟩⟩
theorem Oka.okd {P : Nat → Prop} {w : World} : ∀ (d : Nat) (A : Ar), Oka P d w A → Okd d w A
  | 0, _, h => h
  | d + 1, A, ⟨h1, _, h2, h3⟩ => ⟨h1, h2, fun h0 => by
    obtain ⟨b, o, e, hl, _, hc⟩ := h3 h0
    exact ⟨b, o, e, hl, fun j hj => ⟨(hc j hj).1, Oka.okd d _ (hc j hj).2⟩⟩⟩
theorem Hd.Ok.in {w : World} {h : Hd} (k : h.Ok w) (h0 : 0 < h.bn) {b o : Nat} (e : h.ba = some ⟨b, o, none⟩) : b < w.heap.size := by
  obtain ⟨b', o', e', hl, _⟩ := k.bs.2 h0
  rw [e] at e'
  injection e' with e'
  injection e' with e1
  omega
/-- What is told of blocks may be told with their being there. -/
theorem Oka.mono {P Q : Nat → Prop} {w : World} (hq : ∀ x, x < w.heap.size → P x → Q x) : ∀ (d : Nat) (A : Ar), Oka P d w A → Oka Q d w A
  | 0, _, h => h
  | d + 1, A, ⟨h1, h2, h3, h4⟩ => ⟨h1, fun h0 b o e => hq b (h1.in h0 e) (h2 h0 b o e), h3, fun h0 => by
    obtain ⟨b, o, e, hl, hb, hc⟩ := h4 h0
    exact ⟨b, o, e, hl, hq b hl hb, fun j hj => ⟨(hc j hj).1, Oka.mono hq d _ (hc j hj).2⟩⟩⟩
theorem Oka.upd {P : Nat → Prop} {F : Nat → Prop} {w w' : World} (u : Upd F w w') (hF : ∀ x, P x → ¬ F x) : ∀ (d : Nat) (A : Ar), Oka P d w A → Oka P d w' A
  | 0, _, h => h
  | d + 1, A, ⟨h1, h2, h3, h4⟩ => by
    refine ⟨{ h1 with bs := ?_ }, h2, h3, fun h0 => ?_⟩
    · rcases Nat.eq_zero_or_pos A.h.bn with hz | hp
      · exact ⟨h1.bs.1, fun h0 => absurd h0 (by omega)⟩
      · exact u.src h1.bs (fun b o e f => hF b (h2 hp b o e) f)
    · obtain ⟨b, o, e, hl, hB, hc⟩ := h4 h0
      exact ⟨b, o, e, Nat.lt_of_lt_of_le hl u.size, hB, fun j hj => ⟨(hc j hj).1.blk (u.block b hl (hF b hB)), Oka.upd u hF d _ (hc j hj).2⟩⟩
theorem Oka.more {P : Nat → Prop} {w : World} : ∀ (d : Nat) (A : Ar), Oka P d w A → ∀ d', d ≤ d' → Oka P d' w A
  | 0, _, h, _, _ => h.elim
  | d + 1, A, ⟨h1, h2, h3, h4⟩, d', hd => by
    obtain ⟨e, rfl⟩ : ∃ e, d' = e + 1 := ⟨d' - 1, by omega⟩
    refine ⟨h1, h2, h3, fun h0 => ?_⟩
    obtain ⟨b, o, e1, hl, hb, hc⟩ := h4 h0
    exact ⟨b, o, e1, hl, hb, fun j hj => ⟨(hc j hj).1, Oka.more d _ (hc j hj).2 e (by omega)⟩⟩

/-- The cells of arguments, one behind the other. -/
def rowC (qs : List Ar) : List Value := qs.flatMap fun q => arC q.h
theorem rowC_len (qs : List Ar) : (rowC qs).length = qs.length * 4 := by
  induction qs with
  | nil => rfl
  | cons q r ih => simp only [rowC, List.flatMap_cons, List.length_append, List.length_cons] at ih ⊢; rw [ih]; simp [arC]; omega
theorem rowC_snoc (qs : List Ar) (A : Ar) : rowC (qs ++ [A]) = rowC qs ++ arC A.h := by simp [rowC]
theorem rowC_at : ∀ (qs : List Ar) (j : Nat) (h : j < qs.length) (t : Nat), t < 4 → (rowC qs)[j * 4 + t]? = (arC qs[j].h)[t]?
  | [], _, h, _, _ => absurd h (by simp)
  | q :: r, 0, _, t, ht => by
    simp only [rowC, List.flatMap_cons, Nat.zero_mul, Nat.zero_add, List.getElem_cons_zero]
    rw [List.getElem?_append_left (by rw [arC_len]; exact ht)]
  | q :: r, j + 1, h, t, ht => by
    simp only [rowC, List.flatMap_cons, List.getElem_cons_succ]
    rw [List.getElem?_append_right (by rw [arC_len]; omega), arC_len, show (j + 1) * 4 + t - 4 = j * 4 + t by omega]
    exact rowC_at r j (by simpa using h) t ht

/-- A row of kids that grows, named by the third cell of an argument. -/
structure Rp (X wr : World) (p N : Nat) (kd v : Int) (bv : Value) (l : List Ty) (ps : List Int) (i : Nat) (qs : List Ar) (kv : Value) : Prop where
  len : qs.length = i
  all : AllL (Lst l N) (ps.take i) qs
  blk : wr.heap[p]? = some (.cells #[.int .i64 kd, .int .i64 v, kv, bv] 30 (0, 0))
  own : wr.ownsRow X.heap.size 30 4 kv i (rowC qs)
  ok : ∀ j, ∀ h : j < qs.length, Oka (fun x => X.heap.size ≤ x ∧ some x ≠ kv.ownBlock) N wr qs[j]
  upd : Upd (· = p) X wr

theorem Rp.start {X : World} {p N : Nat} {kd v : Int} {bv : Value} {l : List Ty} {ps : List Int} (h : X.heap[p]? = some (.cells #[.int .i64 kd, .int .i64 v, .slice none 0 0, bv] 30 (0, 0))) : Rp X X p N kd v bv l ps 0 [] (.slice none 0 0) :=
  ⟨rfl, trivial, h, ⟨rfl, .inl ⟨rfl, rfl⟩⟩, fun j hj => by simp at hj, Upd.refl _ _⟩

theorem own_lt {w : World} {base n : Nat} {kv : Value} {xs : List Value} {g : Nat} (h : w.ownsRow base 30 4 kv n xs) (e : kv.ownBlock = some g) : base ≤ g ∧ g < w.heap.size := by
  rcases h.2 with ⟨rfl, _⟩ | ⟨g', cap, cur, rfl, hb, hg, _⟩
  · simp [Value.ownBlock] at e
  · simp [Value.ownBlock] at e
    subst e
    exact ⟨hb, (Array.getElem?_eq_some_iff.1 hg).1⟩

theorem Rp.step {X wr w1 w2 : World} {p N : Nat} {kd v : Int} {bv : Value} {l : List Ty} {ps : List Int} {i : Nat} {qs : List Ar} {kv : Value} (h : Rp X wr p N kd v bv l ps i qs kv) (hp : p < X.heap.size) (hi : i < ps.length)
    (hb : Below wr.heap.size wr w1) {A : Ar} (hA : Oka (wr.heap.size ≤ ·) N w1 A) (hl : Lst l N (ps.getD i 0) A) (o : Obj) {g cap : Nat}
    (ho : w2.ownsRow X.heap.size 30 4 (.slice (some ⟨g, 0, none⟩) (i + 1) cap) (i + 1) (rowC qs ++ arC A.h)) (hg : (w1.alloc o).grownBy w2 kv.ownBlock) (hat : kv.ownBlock = some g ∨ g = w1.heap.size + 1) (hlt : g < w2.heap.size) :
    Rp X (w2.setCell ⟨p, 2, none⟩ (.slice (some ⟨g, 0, none⟩) (i + 1) cap)) p N kd v bv l ps (i + 1) (qs ++ [A]) (.slice (some ⟨g, 0, none⟩) (i + 1) cap) := by
  obtain ⟨h1, h2, h3, h4, h5, h6⟩ := h
  have hpr : p < wr.heap.size := Nat.lt_of_lt_of_le hp h6.size
  have hXr := h6.size
  have hgX : X.heap.size ≤ g := by
    rcases hat with e | e
    · exact (own_lt h4 e).1
    · have := hb.size; omega
  have hkn : ∀ x, x < X.heap.size → some x ≠ kv.ownBlock := fun x hx e => by have := (own_lt h4 e.symm).1; omega
  have u1 : Upd (fun x => some x = kv.ownBlock) wr w2 := ((Upd.of_below hb).trans (Upd.of_below (below_box w1 o) |>.mono (fun x _ h => h)) (fun _ _ h => h)).trans (Upd.of_grown hg) (fun _ _ h => h)
  have u2 : Upd (· = p) w2 (w2.setCell ⟨p, 2, none⟩ (.slice (some ⟨g, 0, none⟩) (i + 1) cap)) := Upd.setCell w2 _ _ rfl
  have hblk2 : w2.heap[p]? = some (.cells #[.int .i64 kd, .int .i64 v, kv, bv] 30 (0, 0)) := (u1.block p hpr (hkn p hp)).trans h3
  refine ⟨by simp [h1], ?_, ?_, ?_, fun j hj => ?_, ?_⟩
  · rw [take_int ps i hi]
    exact allL_snoc _ _ _ _ h2 hl
  · rw [heap_setCell_same _ _ _ _ _ _ hblk2]
    simp
  · rw [rowC_snoc]
    refine ⟨ho.1, .inr ?_⟩
    rcases ho.2 with ⟨e, _⟩ | ⟨g', cap', cur, e, hb', hg', r⟩
    · cases e
    · injection e with e1 e2 e3
      injection e1 with e1
      injection e1 with e1
      subst e1; subst e3
      exact ⟨g, cap, cur, rfl, hb', by rw [heap_setCell_other w2 ⟨p, 2, none⟩ g _ (by show g ≠ p; omega)]; exact hg', r⟩
  · rcases Nat.lt_or_ge j qs.length with hjl | hjl
    · rw [List.getElem_append_left hjl]
      have a1 := Oka.mono (Q := fun x => X.heap.size ≤ x ∧ some x ≠ kv.ownBlock ∧ x ≠ g) (fun x hx hP => ⟨hP.1, hP.2, fun e => by
        subst e
        rcases hat with e | e
        · exact hP.2 e.symm
        · have := hb.size; omega⟩) N _ (h5 j hjl)
      have a2 := Oka.upd u1 (fun x hP => hP.2.1) N _ a1
      have a3 := Oka.upd u2 (fun x hP e => by have := hP.1; omega) N _ a2
      exact Oka.mono (fun x _ hP => ⟨hP.1, by simp [Value.ownBlock]; exact hP.2.2⟩) N _ a3
    · have e : (qs ++ [A])[j] = A := by
        rw [List.getElem_append_right hjl]
        have : j - qs.length = 0 := by simp at hj; omega
        simp [this]
      rw [e]
      have a0 := hA
      have a1 := Oka.mono (Q := fun x => X.heap.size ≤ x ∧ some x ≠ kv.ownBlock ∧ x ≠ g) (fun x hx hP => ⟨by omega, fun e => by have := (own_lt h4 e.symm).2; omega, fun e => by
        subst e
        rcases hat with e | e
        · have := (own_lt h4 e).2; omega
        · omega⟩) N _ a0
      have u12 : Upd (fun x => some x = kv.ownBlock) w1 w2 := (Upd.of_below (below_box w1 o)).trans (Upd.of_grown hg) (fun _ _ h => h)
      have a2 := Oka.upd u12 (fun x hP => hP.2.1) N _ a1
      have a3 := Oka.upd u2 (fun x hP e => by have := hP.1; omega) N _ a2
      exact Oka.mono (fun x _ hP => ⟨hP.1, by simp [Value.ownBlock]; exact hP.2.2⟩) N _ a3
  · exact ((h6.trans u1 (fun x hx e => absurd e (hkn x hx))).trans u2 (fun _ _ h => h))

/-- The row is done: an argument of such kids. -/
theorem Rp.fin {X wr : World} {p N : Nat} {kd v : Int} {bv : Value} {l : List Ty} {ps : List Int} {i : Nat} {qs : List Ar} {g cap : Nat} (h : Rp X wr p N kd v bv l ps i qs (.slice (some ⟨g, 0, none⟩) i cap)) (k v' : Int) :
    Oka (X.heap.size ≤ ·) (N + 1) wr (.mk ⟨k, v', some ⟨g, 0, none⟩, i, cap, none, 0, 0, []⟩ qs) := by
  obtain ⟨h1, h2, h3, h4, h5, h6⟩ := h
  rcases h4.2 with ⟨e, _⟩ | ⟨g', cap', cur, e, hb, hcur, hcap, hmx, hcs, htk⟩
  · cases e
  · injection e with e1 e2 e3
    injection e1 with e1
    injection e1 with e1
    subst e1; subst e3
    refine ⟨⟨⟨rfl, fun h => (Nat.lt_irrefl 0 h).elim⟩, Nat.le_refl _, Nat.zero_le _, hcap, by show cap ≤ _; unfold maxLen at hmx; omega⟩, fun h => (Nat.lt_irrefl 0 h).elim, h1, fun h0 => ⟨g, 0, rfl, (Array.getElem?_eq_some_iff.1 hcur).1, hb, fun j hj => ⟨?_, Oka.mono (fun x _ hP => hP.1) N _ (h5 j hj)⟩⟩⟩
    have hj' : j < qs.length := hj
    have f : ∀ t, t < 4 → wr.cell? ⟨g, 0 + j * 4 + t, none⟩ = (arC qs[j].h)[t]? := fun t ht => by
      rw [Nat.zero_add, cell_of_row wr g (j * 4 + t) _ 30 (0, 0) hcur, ← rowC_at qs j hj' t ht, ← htk, List.getElem?_take, if_pos (by omega)]
      simp
    exact ⟨f 0 (by omega), f 1 (by omega), f 2 (by omega), f 3 (by omega)⟩

/-- The answer is stored. -/
theorem rleast_end {w W : World} {n : Nat} {C : List Value} (hB : Below w.heap.size w W) (h1 : W.heap[w.heap.size + 1]? = some (.cells C.toArray 30 (0, 0))) (hC : C.length = 4) {A : Ar} (hA : Oka (w.heap.size + 1 + 1 ≤ ·) (n + 1) W A) :
    (W.setCells (w.heap.size + 1) 0 (arC A.h)).rangeAt (w.heap.size + 1) 0 (arC A.h) ∧ Oka (w.heap.size ≤ ·) (n + 1) (W.setCells (w.heap.size + 1) 0 (arC A.h)) A ∧ Below w.heap.size w (W.setCells (w.heap.size + 1) 0 (arC A.h)) := by
  have u := upd_setCells (w.heap.size + 1) (arC A.h) 0 W
  exact ⟨World.rangeAt_setCells_same _ _ _ _ (there_of_block h1 0 4 (by omega)), Oka.mono (fun x _ h => by omega) (n + 1) _ (Oka.upd u (fun x hx e => by omega) (n + 1) _ hA), hB.trans (u.below hB.size (fun x hx => by omega))⟩

end Go.Proofs.Ytkgejeamcgodhaa
