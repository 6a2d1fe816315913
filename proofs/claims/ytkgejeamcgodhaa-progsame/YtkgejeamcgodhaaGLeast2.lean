/- Arguments in new memory, one behind the other in a block that is being filled. -/
import Derived.Test.YtkgejeamcgodhaaGLeast1
namespace Go.Proofs.Ytkgejeamcgodhaa
open Go.RowKit
set_option linter.unusedVariables false
set_option maxRecDepth 20000

/-- An argument all of whose blocks are new. -/
def Okb (B : Nat) : Nat → World → Ar → Prop
  | 0 => fun _ _ => False
  | d + 1 => fun w A => A.h.Ok w ∧ (∀ b o, A.h.ba = some ⟨b, o, none⟩ → B ≤ b) ∧ A.ks.length = A.h.kn ∧ (0 < A.ks.length → ∃ b o, A.h.ka = some ⟨b, o, none⟩ ∧ b < w.heap.size ∧ B ≤ b ∧ ∀ j, ∀ h : j < A.ks.length, HdAt w b (o + j * 4) A.ks[j].h ∧ Okb B d w A.ks[j])
theorem Okb.okd {B : Nat} {w : World} : ∀ (d : Nat) (A : Ar), Okb B d w A → Okd d w A
  | 0, _, h => h
  | d + 1, A, ⟨h1, _, h2, h3⟩ => ⟨h1, h2, fun h0 => by
    obtain ⟨b, o, e, hl, _, hc⟩ := h3 h0
    exact ⟨b, o, e, hl, fun j hj => ⟨(hc j hj).1, Okb.okd d _ (hc j hj).2⟩⟩⟩
theorem Okb.upd {B : Nat} {F : Nat → Prop} {w w' : World} (u : Upd F w w') (hF : ∀ x, F x → x < B) : ∀ (d : Nat) (A : Ar), Okb B d w A → Okb B d w' A
  | 0, _, h => h
  | d + 1, A, ⟨h1, h2, h3, h4⟩ => ⟨{ h1 with bs := u.src h1.bs (fun b o e f => by have := h2 b o e; have := hF b f; omega) }, h2, h3, fun h0 => by
    obtain ⟨b, o, e, hl, hB, hc⟩ := h4 h0
    exact ⟨b, o, e, Nat.lt_of_lt_of_le hl u.size, hB, fun j hj => ⟨(hc j hj).1.blk (u.block b hl (fun f => by have := hF b f; omega)), Okb.upd u hF d _ (hc j hj).2⟩⟩⟩
theorem Okb.less {B B' : Nat} (hB : B' ≤ B) {w : World} : ∀ (d : Nat) (A : Ar), Okb B d w A → Okb B' d w A
  | 0, _, h => h
  | d + 1, A, ⟨h1, h2, h3, h4⟩ => ⟨h1, fun b o e => Nat.le_trans hB (h2 b o e), h3, fun h0 => by
    obtain ⟨b, o, e, hl, hb, hc⟩ := h4 h0
    exact ⟨b, o, e, hl, Nat.le_trans hB hb, fun j hj => ⟨(hc j hj).1, Okb.less hB d _ (hc j hj).2⟩⟩⟩
theorem Okb.more {B : Nat} {w : World} : ∀ (d : Nat) (A : Ar), Okb B d w A → ∀ d', d ≤ d' → Okb B d' w A
  | 0, _, h, _, _ => h.elim
  | d + 1, A, ⟨h1, h2, h3, h4⟩, d', hd => by
    obtain ⟨e, rfl⟩ : ∃ e, d' = e + 1 := ⟨d' - 1, by omega⟩
    refine ⟨h1, h2, h3, fun h0 => ?_⟩
    obtain ⟨b, o, e1, hl, hb, hc⟩ := h4 h0
    exact ⟨b, o, e1, hl, hb, fun j hj => ⟨(hc j hj).1, Okb.more d _ (hc j hj).2 e (by omega)⟩⟩

/-- A block of arguments that is filled up to a place. -/
structure Part (X wr : World) (g pn N : Nat) (l : List Ty) (ps : List Int) (i : Nat) (qs : List Ar) : Prop where
  len : qs.length = i
  all : AllL (Lst l N) (ps.take i) qs
  blk : ∃ C : List Value, wr.heap[g]? = some (.cells C.toArray 30 (0, 0)) ∧ C.length = pn * 4 ∧ ∀ j, ∀ h : j < qs.length, ∀ t, t < 4 → C[j * 4 + t]? = (arC qs[j].h)[t]?
  ok : ∀ j, ∀ h : j < qs.length, Okb (g + 1) N wr qs[j]
  upd : Upd (· = g) X wr

theorem Part.start {X : World} {g pn N : Nat} {l : List Ty} {ps : List Int} {C : List Value} (h : X.heap[g]? = some (.cells C.toArray 30 (0, 0))) (hc : C.length = pn * 4) : Part X X g pn N l ps 0 [] :=
  ⟨rfl, trivial, ⟨C, h, hc, fun j hj => by simp at hj⟩, fun j hj => by simp at hj, Upd.refl _ _⟩

theorem arC_len (h : Hd) : (arC h).length = 4 := rfl
theorem Part.step {X wr w1 : World} {g pn N : Nat} {l : List Ty} {ps : List Int} {i : Nat} {qs : List Ar} (h : Part X wr g pn N l ps i qs) (hi : i < pn) (hp : ps.length = pn) (hb : Below wr.heap.size wr w1) {A : Ar} (hA : Okb wr.heap.size N w1 A) (hl : Lst l N (ps.getD i 0) A) :
    Part X (w1.setCells g (i * 4) (arC A.h)) g pn N l ps (i + 1) (qs ++ [A]) := by
  obtain ⟨h1, h2, ⟨C, c1, c2, c3⟩, h4, h5⟩ := h
  have hg : g < wr.heap.size := (Array.getElem?_eq_some_iff.1 c1).1
  have c1' : w1.heap[g]? = some (.cells C.toArray 30 (0, 0)) := (hb.block g hg).trans c1
  have hs : i * 4 + (arC A.h).length ≤ C.length := by rw [arC_len, c2]; omega
  have u := upd_setCells g (arC A.h) (i * 4) w1
  refine ⟨by simp [h1], ?_, ⟨_, heap_setCells g 30 (arC A.h) (i * 4) w1 C c1' hs, by rw [length_splice _ _ _ hs, c2], fun j hj t ht => ?_⟩, fun j hj => ?_, (h5.trans (Upd.of_below hb) (fun _ _ h => h)).trans u (fun _ _ h => h)⟩
  · rw [take_int ps i (by omega)]
    exact allL_snoc _ _ _ _ h2 hl
  · rcases Nat.lt_or_ge j qs.length with hjl | hjl
    · rw [getElem?_splice_out _ _ _ _ hs (by omega), List.getElem_append_left hjl]
      exact c3 j hjl t ht
    · obtain rfl : j = i := by simp at hj; omega
      have e : (qs ++ [A])[j] = A := by rw [List.getElem_append_right hjl]; simp
      rw [getElem?_splice_in _ _ _ t hs (by rw [arC_len]; exact ht), e]
  · rcases Nat.lt_or_ge j qs.length with hjl | hjl
    · rw [List.getElem_append_left hjl]
      exact Okb.upd u (fun x hx => by omega) N _ (Okb.upd (Upd.of_below (F := (· = g)) hb) (fun x hx => by omega) N _ (h4 j hjl))
    · have e : (qs ++ [A])[j] = A := by
        rw [List.getElem_append_right hjl]
        have : j - qs.length = 0 := by simp at hj; omega
        simp [this]
      rw [e]
      exact Okb.upd u (fun x hx => by omega) N _ (Okb.less (by omega) N _ hA)

/-- A block that is full, as a row of kids. -/
theorem Part.full {X wr : World} {g pn N : Nat} {l : List Ty} {ps : List Int} {qs : List Ar} (h : Part X wr g pn N l ps pn qs) (hp : ps.length = pn) (hg : g < wr.heap.size) : qs.length = pn ∧ AllL (Lst l N) ps qs ∧ (0 < qs.length → ∃ b o, some (⟨g, 0, none⟩ : Addr) = some ⟨b, o, none⟩ ∧ b < wr.heap.size ∧ g ≤ b ∧ ∀ j, ∀ h : j < qs.length, HdAt wr b (o + j * 4) qs[j].h ∧ Okb g N wr qs[j]) := by
  obtain ⟨h1, h2, ⟨C, c1, c2, c3⟩, h4, h5⟩ := h
  refine ⟨h1, by rw [← hp, List.take_length] at h2; exact h2, fun _ => ⟨g, 0, rfl, hg, Nat.le_refl _, fun j hj => ⟨?_, Okb.less (by omega) N _ (h4 j hj)⟩⟩⟩
  have f : ∀ t, t < 4 → wr.cell? ⟨g, 0 + j * 4 + t, none⟩ = (arC qs[j].h)[t]? := fun t ht => by
    rw [Nat.zero_add, cell_of_row wr g (j * 4 + t) _ 30 (0, 0) c1, ← c3 j hj t ht]
    simp
  exact ⟨f 0 (by omega), f 1 (by omega), f 2 (by omega), f 3 (by omega)⟩

end Go.Proofs.Ytkgejeamcgodhaa
