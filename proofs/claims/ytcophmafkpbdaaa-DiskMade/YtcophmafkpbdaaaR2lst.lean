/- An epoch that the document's Write lays anew; and the disk with one epoch more. -/
import Derived.Test.YtcophmafkpbdaaaR2app
import Derived.Test.YtcophmafkpbdaaaR2put
namespace Go.Proofs.Ytcophmafkpbdaaa
open Go.RowKit
set_option linter.unusedVariables false

def lcells (L : List (Nat × Value × List Int)) : List Value := L.flatMap fun e => [.int .i64 ((e.1 : Nat) : Int), e.2.1]
def lab (L : List (Nat × Value × List Int)) : List (Nat × List Int) := L.map fun e => (e.1, e.2.2)

theorem lcells_snoc (L : List (Nat × Value × List Int)) (s : Nat) (u : Value) (bs : List Int) : lcells (L ++ [(s, u, bs)]) = lcells L ++ [.int .i64 (s : Int), u] := by simp [lcells]
theorem lab_snoc (L : List (Nat × Value × List Int)) (s : Nat) (u : Value) (bs : List Int) : lab (L ++ [(s, u, bs)]) = lab L ++ [(s, bs)] := by simp [lab]
theorem lab_len (L : List (Nat × Value × List Int)) : (lab L).length = L.length := by simp [lab]

theorem lcells_at (L : List (Nat × Value × List Int)) (j : Nat) (h : j < L.length) : (lcells L)[j * 2]? = some (.int .i64 ((L[j].1 : Nat) : Int)) ∧ (lcells L)[j * 2 + 1]? = some L[j].2.1 := by
  induction L generalizing j with
  | nil => simp at h
  | cons a L ih =>
    have e : lcells (a :: L) = .int .i64 ((a.1 : Nat) : Int) :: a.2.1 :: lcells L := by simp [lcells]
    cases j with
    | zero => rw [e]; simp
    | succ j =>
      have := ih j (by simpa using h)
      rw [e, show (j + 1) * 2 = j * 2 + 1 + 1 by omega]
      simpa using this

/-- A list of writes in a row of its own, none of which lies there or in what is written into. -/
structure Lst (w : World) (M : List Nat) (v : Value) (L : List (Nat × Value × List Int)) : Prop where
  own : w.ownsRow 0 57 2 v L.length (lcells L)
  byt : ∀ e ∈ L, Byt w (vb v ++ M) e.2.1 e.2.2
  nm : ∀ x ∈ vb v, x ∉ M

theorem Lst.nil (w : World) (M : List Nat) : Lst w M (.slice none 0 0) [] := ⟨World.ownsRow_nil _ _ _ _, fun e he => by simp at he, fun x hx => by simp [vb, Value.ownBlock] at hx⟩

theorem Lst.below {w w' : World} {M : List Nat} {v : Value} {L : List (Nat × Value × List Int)} (h : Lst w M v L) (hb : Below w.heap.size w w') : Lst w' M v L :=
  ⟨own_below h.own hb, fun e he => (h.byt e he).upd (Upd.of_below hb) (grew_refl _ _), h.nm⟩

theorem Lst.snoc {w w' : World} {M : List Nat} {v v' : Value} {L : List (Nat × Value × List Int)} {s : Nat} {u : Value} {bs : List Int} (h : Lst w M v L) (hM : ∀ y ∈ M, y < w.heap.size) (hown : w'.ownsRow 0 57 2 v' (L.length + 1) (lcells L ++ [.int .i64 (s : Int), u])) (hU : Upd (fun x => v.ownBlock = some x) w w')
    (hw : v'.ownBlock = v.ownBlock ∨ ∀ x, v'.ownBlock = some x → w.heap.size ≤ x) (hb : Byt w (vb v ++ M) u bs) : Lst w' M v' (L ++ [(s, u, bs)]) := by
  have hU' : Upd (· ∈ vb v ++ M) w w' := hU.mono (fun x _ hx => List.mem_append.2 (.inl (by simp [vb, hx])))
  have hg : Grew' w (vb v ++ M) (vb v' ++ M) := by
    intro x hx
    rcases List.mem_append.1 hx with h1 | h1
    · have hx' : v'.ownBlock = some x := by simpa [vb] using h1
      rcases hw with h2 | h2
      · exact .inl (List.mem_append.2 (.inl (by simp [vb, ← h2, hx'])))
      · exact .inr (h2 x hx')
    · exact .inl (List.mem_append.2 (.inr h1))
  refine ⟨by rw [lcells_snoc]; simpa using hown, fun e he => ?_, fun x hx hm => ?_⟩
  · rcases List.mem_append.1 he with h1 | h1
    · exact (h.byt e h1).upd hU' hg
    · simp at h1; subst h1; exact hb.upd hU' hg
  · have hx' : v'.ownBlock = some x := by simpa [vb] using hx
    rcases hw with h2 | h2
    · exact h.nm x (by simp [vb, ← h2, hx']) hm
    · have h3 := h2 x hx'
      have h4 := hM x hm
      omega

/-- One write more on an epoch that is laid anew: a law for the walk. -/
theorem wpList_append_lst {P : Program} {w : World} {ops : Array Oper} {rest : List Oper} {o : Oper} {a : Act} {Q : Exit → Act → World → Prop} (hgd : o.guard = none) (s x : Operand) (t : TypeId)
    (ho : o.op = .call { callee := .builtin .append, args := #[s, x], argTypes := #[t, t] })
    (i : TypeInfo) (z : Value) (ht : P.underlying t = some (.slice 57)) (hi : P.info? 57 = some i) (hz : i.zero = some z) (hsize : i.size = 2) (hby : i.bytes = 32) (hzs : z.cells.size = 2)
    (v : Value) (L : List (Nat × Value × List Int)) (M : List Nat) (hs : a.eval s = v) (hL : Lst w M v L) (hM : ∀ y ∈ M, y < w.heap.size)
    (ad : Addr) (c : Nat) (hx : a.eval x = .slice (some ad) 1 c) (S : Nat) (u : Value) (bs : List Int) (h0 : w.cell? (ad.add 0) = some (.int .i64 (S : Int))) (h1 : w.cell? (ad.add 1) = some u) (hu : u.oneCell' = true) (hb : Byt w (vb v ++ M) u bs) (hl : L.length ≤ 4096)
    (h : ∀ v' w', Hid (Lst w' M v' (L ++ [(S, u, bs)])) → Upd (fun x => v.ownBlock = some x) w w' → Hid (v'.ownBlock = v.ownBlock ∨ ∀ x, v'.ownBlock = some x → w.heap.size ≤ x) → wpList P ops Q rest (a.put o.dst v') w') :
    wpList P ops Q (o :: rest) a w := by
  refine wpList_append_where hgd s x t ho 57 i z 2 32 ht hi hz hsize hby hzs (by decide) v L.length (lcells L) hs hL.own ad 1 c [.int .i64 (S : Int), u] hx rfl ?_ ?_ (by unfold maxLen; omega) (by omega) ?_
  · intro j y hj
    rcases j with _ | _ | j
    · simp at hj; subst hj; exact h0
    · simp at hj; subst hj; exact h1
    · simp at hj
  · intro y hy
    simp at hy
    rcases hy with rfl | rfl
    · rfl
    · exact hu
  · intro v' w' H1 H2 _ H4
    exact h v' w' (hid (hL.snoc hM H1.out H2 H4.out hb)) H2 H4

theorem Lst.wrm {w : World} {M : List Nat} {v : Value} {L : List (Nat × Value × List Int)} (h : Lst w M v L) : ∃ a c, v = .slice a (lab L).length c ∧ (lab L).length ≤ c ∧ c ≤ 9223372036854775807 ∧ Wrm w M a (lab L) := by
  obtain ⟨a, c, hv, h1, h2⟩ := own_shape h.own
  have hl := lab_len L
  refine ⟨a, c, by rw [hl]; exact hv, by omega, h2, fun hp => ?_⟩
  have hown := h.own
  have hnm := h.nm
  have hbt := h.byt
  rw [hv] at hown hnm hbt
  obtain ⟨g, rfl⟩ : ∃ g, a = some ⟨g, 0, none⟩ := by
    rcases hown.2 with ⟨_, h⟩ | ⟨g, c, cur, h, _⟩
    · omega
    · injection h with h1 h2 h3; exact ⟨g, h1⟩
  refine ⟨g, 0, rfl, (hown.lt g rfl).2, hnm g (by simp [vb, Value.ownBlock]), fun j hj => ?_⟩
  have hjL : j < L.length := by omega
  have hc := lcells_at L j hjL
  have e : (lab L)[j] = (L[j].1, L[j].2.2) := by simp [lab]
  obtain ⟨a', c', e1, e2, e3, e4⟩ := hbt L[j] (List.getElem_mem hjL)
  refine ⟨?_, L[j].2.1, ?_, ?_⟩
  · rw [Nat.zero_add, hown.cellAt _ (by omega), hc.1, e]
  · rw [Nat.zero_add, hown.cellAt _ (by omega), hc.2]
  · rw [e]; exact ⟨a', c', e1, e2, fun hx => e3 (List.mem_append.2 (.inr hx)), e4⟩

theorem pic_grow {F : Nat → Prop} {w w' : World} {M M' : List Nat} {v : Value} {n : Nat} {f : Nat → List Int} (h : Pic w M v n f) (u : Upd F w w') (hF : ∀ x, x < w.heap.size → F x → x ∈ M) (hk : ∀ k, v.ownBlock = some k → ¬ F k) (hg : Grew' w M M') : Pic w' M' v n f := by
  obtain ⟨vs, hr, hj⟩ := h
  refine ⟨vs, u.own hr hk, fun j hl => ?_⟩
  obtain ⟨x, h2, h3⟩ := hj j hl
  exact ⟨x, h2, h3.upd (u.mono hF) hg⟩

/-- One epoch more, without a write. -/
theorem Rk.ok.more {x : Rk} {w w' : World} {q cE' : Nat} {M : List Nat} {aE' : Option Addr} (h : x.ok w q M) (hM : ∀ y ∈ M, y < w.heap.size) (u : Upd (· ∈ eb x.aE) w w') (er : Erow w' aE' (x.E.length + 1) cE' (x.vs ++ [.slice none 0 0])) (hw : eb aE' = eb x.aE ∨ ∀ k ∈ eb aE', w.heap.size ≤ k) (hlt : ∀ k ∈ eb aE', k < w'.heap.size) :
    ({ x with aE := aE', cE := cE', vs := x.vs ++ [.slice none 0 0], E := x.E ++ [[]] } : Rk).ok (w'.setCell ⟨q, 1, none⟩ (.slice aE' (x.E.length + 1) cE')) q (eb aE' ++ M) := by
  have hnd := h.nodup
  simp only [Rk.foot, List.nodup_cons, List.mem_cons, not_or] at hnd
  have hqM : q ∈ M := h.inM q (by simp [Rk.foot])
  have hBM : x.gB ∈ M := h.inM _ (by simp [Rk.foot])
  have hEM : ∀ k ∈ eb x.aE, k ∈ M := fun k hk => h.inM k (by simp [Rk.foot, hk])
  have hg : Grew' w M (eb aE' ++ M) := by
    intro k hk
    rcases List.mem_append.1 hk with h1 | h1
    · rcases hw with h2 | h2
      · exact .inl (hEM k (h2 ▸ h1))
      · exact .inr (h2 k h1)
    · exact .inl h1
  have hcells : w'.heap[q]? = some (.cells #[.slice (some ⟨x.gB, 0, none⟩) x.n x.cB, .slice x.aE x.E.length x.cE, .bool x.sl] 65 (0, 0)) := (u.block q (hM q hqM) hnd.1.2).trans h.cells
  have hc := heap_setCell_same w' q 1 _ _ (.slice aE' (x.E.length + 1) cE') hcells
  have hU2 : Upd (fun k => k ∈ eb x.aE ∨ k = q) w (w'.setCell ⟨q, 1, none⟩ (.slice aE' (x.E.length + 1) cE')) := (u.mono (fun _ _ h => .inl h)).trans (Upd.setCell (F := fun k => k = q) w' ⟨q, 1, none⟩ _ rfl) (fun _ _ h => .inr h)
  have hF : ∀ k, k < w.heap.size → (k ∈ eb x.aE ∨ k = q) → k ∈ M := fun k _ hk => by
    rcases hk with h1 | h1
    · exact hEM k h1
    · exact h1 ▸ hqM
  have hqE : q ∉ eb aE' := by
    rcases hw with h2 | h2
    · rw [h2]; exact hnd.1.2
    · intro hq; have h3 := h2 q hq; have h4 := hM q hqM; omega
  have hBE : x.gB ∉ eb aE' := by
    rcases hw with h2 | h2
    · rw [h2]; exact hnd.2.1
    · intro hq; have h3 := h2 _ hq; have h4 := hM _ hBM; omega
  have hEn : (eb aE').Nodup := by cases aE' <;> simp [eb]
  refine ⟨?_, pic_grow h.B hU2 hF (fun k hk hk2 => ?_) hg, h.n1, h.n2, ?_, fun j hj => ?_, fun k hk => ?_, ?_, fun e he => ?_⟩
  · rw [hc]; simp
  · simp [Value.ownBlock] at hk
    subst hk
    rcases hk2 with h1 | h1
    · exact hnd.2.1 h1
    · exact hnd.1.1 h1.symm
  · have : (x.E ++ [[]]).length = x.E.length + 1 := by simp
    rw [this]
    exact er.move (by simp [World.setCell]) (fun b hb hl => heap_setCell_other w' ⟨q, 1, none⟩ b _ (fun e => hqE (by have e' : b = q := e; rw [← e']; exact hb)))
  · rcases (show j < x.E.length ∨ j = x.E.length by simp at hj; omega) with h1 | rfl
    · obtain ⟨a, c, e1, e2, e3, e4⟩ := h.eps j h1
      have hE : (x.E ++ [[]])[j] = x.E[j] := List.getElem_append_left h1
      rw [hE]
      exact ⟨a, c, by rw [List.getElem?_append_left (List.getElem?_eq_some_iff.1 e1).1]; exact e1, e2, e3, e4.upd (hU2.mono hF) hg⟩
    · have hE : (x.E ++ [[]])[x.E.length] = [] := by simp
      rw [hE]
      exact ⟨none, 0, by rw [List.getElem?_append_right (by rw [h.er.1]; exact Nat.le_refl _), h.er.1]; simp, by simp, by omega, fun hp => by simp at hp⟩
  · have hk' : k = q ∨ k = x.gB ∨ k ∈ eb aE' := by simpa [Rk.foot] using hk
    rcases hk' with h1 | h1 | h1
    · exact List.mem_append.2 (.inr (h1 ▸ hqM))
    · exact List.mem_append.2 (.inr (h1 ▸ hBM))
    · exact List.mem_append.2 (.inl h1)
  · simp only [Rk.foot, List.nodup_cons, List.mem_cons, not_or]
    exact ⟨⟨hnd.1.1, hqE⟩, hBE, hEn⟩
  · rcases List.mem_append.1 he with h1 | h1
    · exact h.secs e h1
    · simp at h1; subst h1; intro s hs; simp at hs

/-- An epoch is laid in another's place. -/
theorem Rk.ok.setAt {x : Rk} {w : World} {q l b o : Nat} {M : List Nat} {v : Value} {L : List (Nat × Value × List Int)} (h : x.ok w q M) (hl : l < x.E.length) (ha : x.aE = some ⟨b, o, none⟩) (hL : Lst w M v L) (hs : ∀ s ∈ lab L, s.1 < x.n) :
    ({ x with vs := x.vs.set l v, E := x.E.set l (lab L) } : Rk).ok (w.setCell ⟨b, o + l, none⟩ v) q M := by
  have hnd := h.nodup
  simp only [Rk.foot, List.nodup_cons, List.mem_cons, not_or] at hnd
  obtain ⟨r1, r2, r3, r4⟩ := h.er
  obtain ⟨b', o', e', hbl, h5, h6⟩ := r4 (by omega)
  rw [ha] at e'
  injection e' with e'
  injection e' with e1 e2
  subst e1
  subst e2
  have hbE : b ∈ eb x.aE := by rw [ha]; simp [eb]
  have hbM : b ∈ M := h.inM b (by simp [Rk.foot, hbE])
  have hU : Upd (fun k => k = b) w (w.setCell ⟨b, o + l, none⟩ v) := Upd.setCell w _ _ rfl
  have hF : ∀ k, k < w.heap.size → k = b → k ∈ M := fun k _ e => e ▸ hbM
  have hqb : q ≠ b := fun e => hnd.1.2 (e ▸ hbE)
  have hBb : x.gB ≠ b := fun e => hnd.2.1 (e ▸ hbE)
  have hlen : (x.E.set l (lab L)).length = x.E.length := by simp
  have hq : q < w.heap.size := (Array.getElem?_eq_some_iff.1 h.cells).1
  have hra : w.rangeAt b o x.vs := fun j u hu => (h5 j (by have := (List.getElem?_eq_some_iff.1 hu).1; omega)).trans hu
  have hth1 : w.there b (o + l) 1 := fun j hj => by
    have : j = 0 := by omega
    subst this
    simpa using h6 l (by omega)
  have q2 := World.rangeAt_setCells_same w b (o + l) [v] hth1
  have q3 := World.there_setCells (w := w) (b' := b) (o' := o) (n := x.cE) h6 b (o + l) [v]
  have q0 := q2 0 v rfl
  refine ⟨?_, pic_move h.B hU hF (fun k hk e => by simp [Value.ownBlock] at hk; omega), h.n1, h.n2, ?_, fun j hj => ?_, h.inM, h.nodup, fun e he => ?_⟩
  · rw [heap_setCell_other w ⟨b, o + l, none⟩ q v hqb, hlen]; exact h.cells
  · rw [hlen]
    refine ⟨by simp [r1], r2, r3, fun _ => ⟨b, o, ha, Nat.lt_of_lt_of_le hbl hU.size, fun j hj => ?_, q3⟩⟩
    by_cases hjl : j = l
    · subst hjl
      rw [List.getElem?_set_self (by omega)]
      exact q0
    · rw [List.getElem?_set_ne (fun e => hjl e.symm)]
      have := World.cell?_setCells_out b [v] (o + l) w ⟨b, o + j, none⟩ (fun _ _ => by simp; omega)
      exact this.trans (h5 j hj)
  · have hj' : j < x.E.length := by simpa using hj
    by_cases hjl : j = l
    · subst hjl
      obtain ⟨a, c, e1, e2, e3, e4⟩ := hL.wrm
      have hE : (x.E.set j (lab L))[j] = lab L := by simp
      rw [hE]
      exact ⟨a, c, by rw [List.getElem?_set_self (by omega), e1], e2, e3, e4.upd (hU.mono hF) (grew_refl _ _)⟩
    · obtain ⟨a, c, e1, e2, e3, e4⟩ := h.eps j hj'
      have hE : (x.E.set l (lab L))[j] = x.E[j] := by rw [List.getElem_set_ne (fun e => hjl e.symm)]
      rw [hE]
      exact ⟨a, c, by rw [List.getElem?_set_ne (fun e => hjl e.symm)]; exact e1, e2, e3, e4.upd (hU.mono hF) (grew_refl _ _)⟩
  · rcases List.mem_or_eq_of_mem_set he with h1 | h1
    · exact h.secs e h1
    · subst h1; exact hs

end Go.Proofs.Ytcophmafkpbdaaa
