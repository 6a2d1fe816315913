/- The document's disk as it lies; what its Barrier and done do. -/
import Derived.Test.YtcophmafkpbdaaaR2disks
namespace Go.Proofs.Ytcophmafkpbdaaa
open Go.RowKit
set_option linter.unusedVariables false

/-- A list of writes, none of which lies in what is written into. -/
def Wrm (w : World) (M : List Nat) (a : Option Addr) (es : List (Nat × List Int)) : Prop :=
  0 < es.length → ∃ b o, a = some ⟨b, o, none⟩ ∧ b < w.heap.size ∧ b ∉ M ∧ ∀ j, ∀ h : j < es.length, w.cell? ⟨b, o + j * 2, none⟩ = some (.int .i64 ((es[j].1 : Nat) : Int)) ∧ ∃ u, w.cell? ⟨b, o + j * 2 + 1, none⟩ = some u ∧ Byt w M u es[j].2

theorem Wrm.wrs {w : World} {M : List Nat} {a : Option Addr} {es : List (Nat × List Int)} (h : Wrm w M a es) : Wrs w a es := by
  intro hp
  obtain ⟨b, o, e, hlt, _, hc⟩ := h hp
  refine ⟨b, o, e, hlt, fun j hj => ?_⟩
  obtain ⟨h1, u, h2, a', c', rfl, h3, _⟩ := hc j hj
  exact ⟨h1, a', c', h2, h3⟩

theorem Wrm.upd {w w' : World} {M M' : List Nat} {a : Option Addr} {es : List (Nat × List Int)} (h : Wrm w M a es) (u : Upd (· ∈ M) w w') (hg : Grew' w M M') : Wrm w' M' a es := by
  intro hp
  obtain ⟨b, o, e, hlt, hm, hc⟩ := h hp
  have hblk := u.block b hlt hm
  refine ⟨b, o, e, Nat.lt_of_lt_of_le hlt u.size, fun hx => ?_, fun j hj => ?_⟩
  · rcases hg b hx with h' | h'
    · exact hm h'
    · omega
  · obtain ⟨h1, v, h2, h3⟩ := hc j hj
    exact ⟨(World.cell?_of_block (a := ⟨b, _, none⟩) hblk).trans h1, v, (World.cell?_of_block (a := ⟨b, _, none⟩) hblk).trans h2, h3.upd u hg⟩

theorem pic_move {F : Nat → Prop} {w w' : World} {M : List Nat} {v : Value} {n : Nat} {f : Nat → List Int} (h : Pic w M v n f) (u : Upd F w w') (hF : ∀ x, x < w.heap.size → F x → x ∈ M) (hk : ∀ k, v.ownBlock = some k → ¬ F k) : Pic w' M v n f := by
  obtain ⟨vs, hr, hj⟩ := h
  refine ⟨vs, u.own hr hk, fun j hl => ?_⟩
  obtain ⟨x, h2, h3⟩ := hj j hl
  exact ⟨x, h2, h3.upd (u.mono hF) (grew_refl _ _)⟩

theorem pic_put {w : World} {M : List Nat} {gB n cB S : Nat} {ub : Value} {f f' : Nat → List Int} {bs : List Int} (hp : Pic w M (.slice (some ⟨gB, 0, none⟩) n cB) n f) (hM : gB ∈ M) (hS : S < n) (hb : Byt w M ub bs) (hf : ∀ i, i < n → f' i = if i = S then bs else f i) : Pic (w.setCell ⟨gB, S, none⟩ ub) M (.slice (some ⟨gB, 0, none⟩) n cB) n f' := by
  have hU : Upd (fun x => x = gB) w (w.setCell ⟨gB, S, none⟩ ub) := Upd.setCell w _ _ rfl
  have hUM : Upd (· ∈ M) w (w.setCell ⟨gB, S, none⟩ ub) := hU.mono (fun x _ hx => by subst hx; exact hM)
  obtain ⟨vs, hr, hj⟩ := hp
  have hvl : vs.length = n := by have := hr.1; simpa using this
  refine ⟨_, (hr.stored S ub).1, fun i hi => ?_⟩
  rw [hf i hi]
  by_cases his : i = S
  · subst his
    exact ⟨ub, by rw [List.getElem?_set_self (by omega)], by rw [if_pos rfl]; exact hb.upd hUM (grew_refl _ _)⟩
  · obtain ⟨u, h1, h2⟩ := hj i hi
    exact ⟨u, by rw [List.getElem?_set_ne (fun e => his e.symm)]; exact h1, by rw [if_neg his]; exact h2.upd hUM (grew_refl _ _)⟩

/-- The document's disk. vs: the epochs' values, as they lie in their row, which may begin behind its block's head. -/
structure Rk where
  n : Nat
  gB : Nat
  cB : Nat
  f : Nat → List Int
  aE : Option Addr
  cE : Nat
  vs : List Value
  E : List (List (Nat × List Int))
  sl : Bool

def eb (a : Option Addr) : List Nat := (a.map Addr.block).toList
def Rk.foot (x : Rk) (q : Nat) : List Nat := q :: x.gB :: eb x.aE

/-- A row of epochs, with room behind it, told by its cells. -/
def Erow (w : World) (aE : Option Addr) (m cE : Nat) (vs : List Value) : Prop :=
  vs.length = m ∧ m ≤ cE ∧ cE ≤ 9223372036854775807 ∧ (0 < cE → ∃ b o, aE = some ⟨b, o, none⟩ ∧ b < w.heap.size ∧ (∀ j, j < m → w.cell? ⟨b, o + j, none⟩ = vs[j]?) ∧ ∀ j, j < cE → (w.cell? ⟨b, o + j, none⟩).isSome = true ∧ w.frozen? ⟨b, o + j, none⟩ = false)

theorem Erow.move {w w' : World} {aE : Option Addr} {m cE : Nat} {vs : List Value} (h : Erow w aE m cE vs) (hs : w.heap.size ≤ w'.heap.size) (hb : ∀ b ∈ eb aE, b < w.heap.size → w'.heap[b]? = w.heap[b]?) : Erow w' aE m cE vs := by
  obtain ⟨h1, h2, h3, h4⟩ := h
  refine ⟨h1, h2, h3, fun hc => ?_⟩
  obtain ⟨b, o, e, hl, h5, h6⟩ := h4 hc
  have hbb := hb b (by rw [e]; simp [eb]) hl
  exact ⟨b, o, e, Nat.lt_of_lt_of_le hl hs, fun j hj => (World.cell?_of_block (a := ⟨b, o + j, none⟩) hbb).trans (h5 j hj), fun j hj => by
    rw [World.cell?_of_block (a := ⟨b, o + j, none⟩) hbb, World.frozen?_of_block (a := ⟨b, o + j, none⟩) hbb]
    exact h6 j hj⟩

structure Rk.ok (x : Rk) (w : World) (q : Nat) (M : List Nat) : Prop where
  cells : w.heap[q]? = some (.cells #[.slice (some ⟨x.gB, 0, none⟩) x.n x.cB, .slice x.aE x.E.length x.cE, .bool x.sl] 65 (0, 0))
  B : Pic w M (.slice (some ⟨x.gB, 0, none⟩) x.n x.cB) x.n x.f
  n1 : 1 ≤ x.n
  n2 : x.n ≤ 2048
  er : Erow w x.aE x.E.length x.cE x.vs
  eps : ∀ j, ∀ h : j < x.E.length, ∃ a c, x.vs[j]? = some (.slice a x.E[j].length c) ∧ x.E[j].length ≤ c ∧ c ≤ 9223372036854775807 ∧ Wrm w M a x.E[j]
  inM : ∀ k ∈ x.foot q, k ∈ M
  nodup : (x.foot q).Nodup
  secs : ∀ e ∈ x.E, ∀ s ∈ e, s.1 < x.n

theorem Rk.ok.at {x : Rk} {w : World} {q : Nat} {M : List Nat} (h : x.ok w q M) (j : Nat) (hj : j < x.E.length) : ∃ b o a c, x.aE = some ⟨b, o, none⟩ ∧ b < w.heap.size ∧ w.cell? ⟨b, o + j, none⟩ = some (.slice a x.E[j].length c) ∧ x.E[j].length ≤ c ∧ c ≤ 9223372036854775807 ∧ Wrm w M a x.E[j] := by
  obtain ⟨h1, h2, h3, h4⟩ := h.er
  obtain ⟨b, o, e, hl, h5, h6⟩ := h4 (by omega)
  obtain ⟨a, c, e1, e2, e3, e4⟩ := h.eps j hj
  exact ⟨b, o, a, c, e, hl, (h5 j hj).trans e1, e2, e3, e4⟩

theorem Rk.ok.epsl {x : Rk} {w : World} {q : Nat} {M : List Nat} (h : x.ok w q M) : Epsl w x.aE x.E := by
  intro hp
  obtain ⟨b, o, _, _, e, hl, _⟩ := h.at 0 hp
  refine ⟨b, o, e, hl, fun j hj => ?_⟩
  obtain ⟨b', o', a, c, e', _, h2, h3, h4, h5⟩ := h.at j hj
  rw [e] at e'
  injection e' with e'
  injection e' with e1 e2
  subst e1
  subst e2
  exact ⟨a, c, h2, h3, h4, h5.wrs⟩

theorem Rk.ok.cell {x : Rk} {w : World} {q : Nat} {M : List Nat} (h : x.ok w q M) : w.cell? ⟨q, 0, none⟩ = some (.slice (some ⟨x.gB, 0, none⟩) x.n x.cB) ∧ w.cell? ⟨q, 1, none⟩ = some (.slice x.aE x.E.length x.cE) ∧ w.cell? ⟨q, 2, none⟩ = some (.bool x.sl) := by
  refine ⟨?_, ?_, ?_⟩ <;> rw [cell_of_row w q _ _ _ _ h.cells] <;> rfl

theorem Rk.ok.frozen {x : Rk} {w : World} {q : Nat} {M : List Nat} (h : x.ok w q M) (j : Nat) : w.frozen? ⟨q, j, none⟩ = false := frozen_of_row w q j _ _ h.cells

/-- It stays what it is, whatever else turns. -/
theorem Rk.ok.move {x : Rk} {w w' : World} {q : Nat} {M : List Nat} {F : Nat → Prop} (h : x.ok w q M) (u : Upd F w w') (hF : ∀ k, k < w.heap.size → F k → k ∈ M) (hn : ∀ k ∈ x.foot q, ¬ F k) : x.ok w' q M := by
  have hq : q < w.heap.size := (Array.getElem?_eq_some_iff.1 h.cells).1
  refine ⟨(u.block q hq (hn q (by simp [Rk.foot]))).trans h.cells, pic_move h.B u hF (fun k hk => by simp [Value.ownBlock] at hk; subst hk; exact hn _ (by simp [Rk.foot])), h.n1, h.n2, ?_, fun j hj => ?_, h.inM, h.nodup, h.secs⟩
  · exact h.er.move u.size (fun b hb hl => u.block b hl (hn b (by simp [Rk.foot, hb])))
  · obtain ⟨a, c, e1, e2, e3, e4⟩ := h.eps j hj
    exact ⟨a, c, e1, e2, e3, e4.upd (u.mono hF) (grew_refl _ _)⟩

/-- Its three cells turn, and what it is with them. -/
theorem Rk.ok.turn {x : Rk} {w w' : World} {q : Nat} {M : List Nat} (h : x.ok w q M) (u : Upd (fun k => k = q) w w') (aE : Option Addr) (cE : Nat) (vs : List Value) (E : List (List (Nat × List Int))) (sl : Bool)
    (hc : w'.heap[q]? = some (.cells #[.slice (some ⟨x.gB, 0, none⟩) x.n x.cB, .slice aE E.length cE, .bool sl] 65 (0, 0))) (er : Erow w aE E.length cE vs) (hsub : eb aE = eb x.aE ∨ eb aE = [])
    (eps : ∀ j, ∀ h : j < E.length, ∃ a c, vs[j]? = some (.slice a E[j].length c) ∧ E[j].length ≤ c ∧ c ≤ 9223372036854775807 ∧ Wrm w M a E[j]) (secs : ∀ e ∈ E, ∀ s ∈ e, s.1 < x.n) :
    ({ x with aE := aE, cE := cE, vs := vs, E := E, sl := sl } : Rk).ok w' q M := by
  have hqM : q ∈ M := h.inM q (by simp [Rk.foot])
  have hnd := h.nodup
  have hF : ∀ k, k < w.heap.size → k = q → k ∈ M := fun k _ e => e ▸ hqM
  simp only [Rk.foot, List.nodup_cons, List.mem_cons, not_or] at hnd
  refine ⟨hc, pic_move h.B u hF (fun k hk e => by simp [Value.ownBlock] at hk; omega), h.n1, h.n2, ?_, fun j hj => ?_, fun k hk => ?_, ?_, secs⟩
  · refine er.move u.size (fun b hb hl => u.block b hl (fun e => ?_))
    rcases hsub with h' | h'
    · exact hnd.1.2 (by rw [← h', ← e]; exact hb)
    · rw [h'] at hb; simp at hb
  · obtain ⟨a, c, e1, e2, e3, e4⟩ := eps j hj
    exact ⟨a, c, e1, e2, e3, e4.upd (u.mono hF) (grew_refl _ _)⟩
  · have hk' : k = q ∨ k = x.gB ∨ k ∈ eb aE := by simpa [Rk.foot] using hk
    refine h.inM k ?_
    simp only [Rk.foot, List.mem_cons]
    rcases hk' with h' | h' | h'
    · exact .inl h'
    · exact .inr (.inl h')
    · rcases hsub with h2 | h2
      · exact .inr (.inr (h2 ▸ h'))
      · rw [h2] at h'; simp at h'
  · simp only [Rk.foot, List.nodup_cons, List.mem_cons, not_or]
    rcases hsub with h2 | h2
    · rw [h2]; exact hnd
    · rw [h2]; exact ⟨⟨hnd.1.1, by simp⟩, by simp, by simp⟩

theorem rbarrier (x : Rk) (q : Nat) (M : List Nat) (w : World) (h : x.ok w q M) :
    Calls Try.prog 31 #[.pointer (some ⟨q, 0, none⟩)] w fun e w' => e = .returned (.int .i64 0) ∧ ({ x with sl := decide (0 < x.E.length) } : Rk).ok w' q M ∧ Upd (fun k => k = q) w w' := by
  obtain ⟨c0, c1, c2⟩ := h.cell
  have f2 := h.frozen 2
  obtain ⟨m, gm⟩ : ∃ m, m = x.E.length := ⟨_, rfl⟩
  have HX := hid h
  rw [← gm] at c1
  have GM := hid gm
  clear h gm c0
  go_enter Try.func31, Try.ntmps31
  go_wp2_with fail
  go_ret
  have hc := heap_setCell_same w q 2 _ _ (.bool (decide (0 < m))) HX.out.cells
  rw [GM.out] at hc ⊢
  exact ⟨rfl, HX.out.turn (Upd.setCell _ _ _ rfl) x.aE x.cE x.vs x.E _ (hc.trans rfl) HX.out.er (.inl rfl) HX.out.eps HX.out.secs, Upd.setCell _ _ _ rfl⟩

end Go.Proofs.Ytcophmafkpbdaaa
