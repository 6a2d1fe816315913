/- One element more on a row that may begin behind its block's head: a law for the walk. -/
import Derived.Test.YtcophmafkpbdaaaR2disk
import Derived.ArgAppend
import Derived.Deep.MidRow
namespace Go.Proofs.Ytcophmafkpbdaaa
open Go.RowKit
set_option linter.unusedVariables false

theorem Erow.ofOwn {w : World} {B n : Nat} {v : Value} {xs : List Value} (h : w.ownsRow B 55 1 v n xs) : ∃ a c, v = .slice a n c ∧ Erow w a n c xs ∧ ∀ x ∈ eb a, B ≤ x := by
  obtain ⟨a, c, rfl, h1, h2⟩ := own_shape h
  have hl : xs.length = n := by have := h.1; simpa using this
  refine ⟨a, c, rfl, ⟨hl, h1, h2, fun hc => ?_⟩, fun x hx => ?_⟩
  · rcases h.2 with ⟨e, _⟩ | ⟨g, c', cur, e, hb, hg, _, _, hsz, _⟩
    · injection e with _ _ e3; omega
    · injection e with e1 e2 e3
      subst e1
      subst e3
      refine ⟨g, 0, rfl, (Array.getElem?_eq_some_iff.1 hg).1, fun j hj => ?_, fun j hj => ⟨?_, ?_⟩⟩
      · rw [Nat.zero_add, h.cellAt j (by omega)]
      · rw [Nat.zero_add, cell_of_row w g j cur 55 (0, 0) hg, Array.getElem?_eq_getElem (by omega)]; rfl
      · rw [Nat.zero_add]; exact frozen_of_row w g j _ _ hg
  · rcases h.2 with ⟨e, _⟩ | ⟨g, c', cur, e, hb, _⟩
    · injection e with e1; subst e1; simp [eb] at hx
    · injection e with e1; subst e1; simp [eb] at hx; omega

theorem wpList_append_erow {P : Program} {w : World} {ops : Array Oper} {rest : List Oper} {o : Oper} {a : Act} {Q : Exit → Act → World → Prop} (hgd : o.guard = none) (s x : Operand) (t : TypeId)
    (ho : o.op = .call { callee := .builtin .append, args := #[s, x], argTypes := #[t, t] })
    (i : TypeInfo) (z : Value) (bytes : Nat) (ht : P.underlying t = some (.slice 55)) (hi : P.info? 55 = some i) (hz : i.zero = some z) (hsize : i.size = 1) (hby : i.bytes = bytes) (hzs : z.cells.size = 1)
    (aE : Option Addr) (m cE : Nat) (vs : List Value) (hs : a.eval s = .slice aE m cE) (her : Erow w aE m cE vs)
    (ad : Addr) (c : Nat) (u : Value) (hx : a.eval x = .slice (some ad) 1 c) (hu : w.cell? ad = some u) (h1 : u.oneCell' = true) (h63 : m + 1 ≤ maxLen) (hbytes : (m + 1) * bytes ≤ 140737488355328)
    (h : ∀ aE' cE' w', Hid (Erow w' aE' (m + 1) cE' (vs ++ [u])) → Upd (· ∈ eb aE) w w' → Hid (eb aE' = eb aE ∨ ∀ x ∈ eb aE', w.heap.size ≤ x) → wpList P ops Q rest (a.put o.dst (.slice aE' (m + 1) cE')) w') :
    wpList P ops Q (o :: rest) a w := by
  refine wpList_plain hgd fun K hK => ?_
  obtain ⟨r1, r2, r3, r4⟩ := her
  have hnews : ∀ j v, ([u] : List Value)[j]? = some v → w.cell? (ad.add j) = some v := by
    intro j v hj
    cases j with
    | zero => simp at hj; subst hj; have : ad.add 0 = ad := by unfold Addr.add; cases ad; split <;> simp_all
              rw [this]; exact hu
    | succ j => simp at hj
  have hone : ∀ v ∈ ([u] : List Value), v.oneCell' = true := by intro v hv; simp at hv; subst hv; exact h1
  by_cases hr : m + 1 ≤ cE
  · obtain ⟨b, o', rfl, hl, h5, h6⟩ := r4 (by omega)
    have hrun := run_append_room_cells (P := P) w t o.type 55 i ht hi b o' m cE ad 1 c [u] (by rw [hsize]; rfl) hnews hone hr (fun j hj => by simp at hj; subst hj; rw [hsize]; simpa using (h6 m (by omega)).1) (fun j hj => by simp at hj; subst hj; rw [hsize]; simpa using (h6 m (by omega)).2)
    rw [hsize, Nat.mul_one] at hrun
    unfold Oper.wp execOp
    simp only [ho, resolve, invoke, builtin, Sem.run_bind, Sem.run_pure, Result.andThen_ok, List.map_toArray, List.map_cons, List.map_nil, hs, hx, hrun]
    have hra : w.rangeAt b o' vs := fun j v hv => (h5 j (by have := (List.getElem?_eq_some_iff.1 hv).1; omega)).trans hv
    have hth : w.there b o' cE := h6
    have hth1 : w.there b (o' + m) 1 := fun j hj => by
      have : j = 0 := by omega
      subst this
      simpa using h6 m (by omega)
    have q1 := World.rangeAt_setCells_apart hra b (o' + m) [u] (.inr (.inl (by omega)))
    have q2 := World.rangeAt_setCells_same w b (o' + m) [u] hth1
    have q3 := World.there_setCells hth b (o' + m) [u]
    have hU : Upd (· ∈ eb (some ⟨b, o', none⟩)) w (w.setCells b (o' + m) [u]) := Upd.setCell (F := (· ∈ eb (some ⟨b, o', none⟩))) w ⟨b, o' + m, none⟩ u (by simp [eb])
    refine hK _ _ (h _ _ _ (hid ⟨by simp [r1], hr, r3, fun _ => ⟨b, o', rfl, Nat.lt_of_lt_of_le hl hU.size, fun j hj => ?_, q3⟩⟩) hU (hid (.inl rfl)))
    rcases (show j < m ∨ j = m by omega) with hj' | rfl
    · rw [List.getElem?_append_left (by omega), q1 j vs[j] (List.getElem?_eq_getElem (by omega)), List.getElem?_eq_getElem (by omega)]
    · have := q2 0 u rfl
      rw [Nat.add_zero] at this
      rw [this, List.getElem?_append_right (by omega), r1]
      simp
  · have hnone : aE = none → m = 0 ∧ cE = 0 := by
      intro e
      rcases Nat.eq_zero_or_pos cE with h0 | h0
      · exact ⟨by omega, h0⟩
      · obtain ⟨b, o', e', _⟩ := r4 h0
        rw [e] at e'; simp at e'
    have hrun : ∃ v' w', (Builtin.append_ #[t, t] o.type #[.slice aE m cE, .slice (some ad) 1 c]).run P w = .ok v' w' ∧ w'.ownsRow w.heap.size 55 1 v' (m + 1) (vs ++ [u]) ∧ w.grownBy w' none := by
      cases aE with
      | some b =>
        refine run_append_arg_grows (P := P) w t o.type 55 i z 1 bytes ht hi hz hsize hby hzs (by decide) b m cE vs (by simp [r1]) (fun j v hj => ?_) ad 1 c [u] rfl hnews (by omega) h63 hbytes
        have hjm : j < m := by have := (List.getElem?_eq_some_iff.1 hj).1; omega
        obtain ⟨b', o', e', _, h5, _⟩ := r4 (by omega)
        injection e' with e'
        subst e'
        rw [Addr.add_mid, h5 j hjm, hj]
      | none =>
        obtain ⟨rfl, rfl⟩ := hnone rfl
        obtain rfl : vs = [] := List.eq_nil_of_length_eq_zero r1
        obtain ⟨v', w', hrun, q1, q2, _⟩ := run_append_own (P := P) w w.heap.size t o.type 55 i z 1 bytes ht hi hz hsize hby hzs (by decide) (.slice none 0 0) 0 [] (World.ownsRow_nil w _ _ _) ad 1 c [u] rfl hnews hone h63 hbytes (Nat.le_refl _)
        exact ⟨v', w', hrun, q1, q2⟩
    obtain ⟨v', w', hrun, q1, q2⟩ := hrun
    obtain ⟨a', c', rfl, hE, hnew⟩ := Erow.ofOwn q1
    unfold Oper.wp execOp
    simp only [ho, resolve, invoke, builtin, Sem.run_bind, Sem.run_pure, Result.andThen_ok, List.map_toArray, List.map_cons, List.map_nil, hs, hx, hrun]
    exact hK _ _ (h a' c' w' (hid hE) ((Upd.of_grown q2).mono fun k _ hk => by simp at hk) (hid (.inr hnew)))

end Go.Proofs.Ytcophmafkpbdaaa
