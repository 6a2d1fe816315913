/- The scanner takes a token: it is laid behind the others. -/
import Derived.Test.YtidcodpekeaigaaDoorLTab
import Derived.Deep.RegionLaw
import Derived.BigRegion
namespace Go.Proofs.YtidcodpekeaigaaDoor
open Go.RowKit
set_option linter.unusedVariables false

theorem step_append_is {P : Program} {ops : Array Oper} {o : Oper} {a : Act} {w : World} {K : Act → World → Prop} {Q : Exit → Act → World → Prop} {E : Prop}
    (hg : o.guard = none) (d x : Operand) (dT sT : TypeId) (hop : o.op = Op.call { callee := Callee.builtin Builtin.append, args := #[d, x], argTypes := #[dT, sT] })
    (v u : Value) (hd : a.eval d = v) (hx : a.eval x = u) {v' : Value} {w' : World} (hr : (Builtin.append_ #[dT, sT] o.type #[v, u]).run P w = .ok v' w') (hK : K (a.put o.dst v') w') :
    if Region.wanted o (yielded ops a.tmps) = true then Oper.wp P o a w K Q else E := by
  have hw : Region.wanted o (yielded ops a.tmps) = true := by simp [Region.wanted, hg]
  rw [if_pos hw]
  unfold Oper.wp execOp
  simp only [hop, resolve, invoke, builtin, Sem.run_bind, Sem.run_pure, Result.andThen_ok, List.map_toArray, List.map_cons, List.map_nil, hd, hx, hr]
  exact hK

theorem heap_cells {w : World} {g : Nat} {cur : Array Value} {t : TypeId} (h : w.heap[g]? = some (.cells cur t (0, 0))) (j : Nat) (u : Value) (hu : cur[j]? = some u) : w.cell? ⟨g, j, none⟩ = some u := by
  rw [cell_of_row w g j cur t (0, 0) h]; exact hu

/-- A token's four cells; a list's. -/
def tokc (t : Tok) : List Value := [.int .i64 t.kind, .int .i64 t.at_, .string t.text, .int .i64 t.num]
def toks (l : List Tok) : List Value := l.flatMap tokc
theorem toks_snoc (l : List Tok) (t : Tok) : toks (l ++ [t]) = toks l ++ tokc t := by simp [toks]
theorem toks_length (l : List Tok) : (toks l).length = l.length * 4 := by
  induction l with
  | nil => rfl
  | cons t l ih => simp [toks, tokc] at *; omega

/-- The scanner with its tokens. -/
def Sk (w : World) (p : Nat) (s : ByteArray) (i : Nat) (l : List Tok) : Prop := ∃ v, Sc w p s i v ∧ w.ownsRow (p + 1) 33 4 v l.length (toks l)

theorem own_shape {w : World} {B e size n : Nat} {v : Value} {xs : List Value} (h : w.ownsRow B e size v n xs) : ∃ a c, v = .slice a n c ∧ n ≤ c ∧ c ≤ maxLen := by
  rcases h.2 with ⟨rfl, rfl⟩ | ⟨g, cap, cur, rfl, _, _, h1, h2, _⟩
  · exact ⟨none, 0, rfl, Nat.le_refl _, Nat.zero_le _⟩
  · exact ⟨_, _, rfl, h1, h2⟩

theorem Tryd.infoTT : (Tryd.prog.info? 33).map (fun i => (i.zero, i.size, i.bytes)) = some (some (.agg #[.int .i64 0, .int .i64 0, .string .empty, .int .i64 0]), 4, 40) := by kernel_rfl

/-- What the append of a token comes to. -/
theorem tok_append (w : World) (p : Nat) (v : Value) (l : List Tok) (t : Tok) (hp : p < w.heap.size) (hown : w.ownsRow (p + 1) 33 4 v l.length (toks l)) (hn : l.length ≤ 4000) :
    ∃ a c wz, (Builtin.append_ #[22, 22] 22 #[v, .slice (some ⟨w.heap.size, 0, none⟩) 1 1]).run Tryd.prog (w.alloc (.cells (tokc t).toArray 33)).drew = .ok (.slice a (l.length + 1) c) wz ∧
      wz.ownsRow (p + 1) 33 4 (.slice a (l.length + 1) c) (l.length + 1) (toks (l ++ [t])) ∧ Upd (fun k => p + 1 ≤ k) w wz := by
  obtain ⟨i0, hi0, hz0, hz1, hz2⟩ := info_parts Tryd.infoTT
  have hal : Below w.heap.size w (w.alloc (.cells (tokc t).toArray 33)).drew := ((Below.refl _ _).alloc (Nat.le_refl _) _).drew
  obtain ⟨v', wz, h1, h2, h3, _⟩ := run_append_own (P := Tryd.prog) (w.alloc (.cells (tokc t).toArray 33)).drew (p + 1) 22 22 33 i0 _ 4 40 Tryd.underlying22 hi0 hz0 hz1 hz2 rfl (by decide) v l.length (toks l) (own_below hown hal) ⟨w.heap.size, 0, none⟩ 1 1 (tokc t) rfl
    (by
      intro j u hj
      rw [Addr.add_lit, Nat.zero_add]
      refine heap_cells (show (w.alloc (.cells (tokc t).toArray 33)).drew.heap[w.heap.size]? = _ from heap_alloc_new w _) j u ?_
      simpa using hj)
    (by intro u hu; simp [tokc] at hu; rcases hu with rfl | rfl | rfl | rfl <;> rfl) (by unfold maxLen; omega) (by omega) (Nat.le_trans (show p + 1 ≤ w.heap.size from hp) hal.size)
  obtain ⟨a, c, rfl, _, _⟩ := own_shape h2
  refine ⟨a, c, wz, h1, by rw [toks_snoc]; exact h2, ?_⟩
  refine (Upd.of_below (F := fun k => p + 1 ≤ k) hal).trans (Upd.of_grown h3) (fun x hx e => ?_)
  exact (hown.lt x e.symm).1

/-- The scanner behind a token. -/
theorem Sc.taken {w wz : World} {p i : Nat} {s : ByteArray} {v v' : Value} {l : List Tok} {t : Tok} (hc : Sc w p s i v) (h2 : wz.ownsRow (p + 1) 33 4 v' (l.length + 1) (toks (l ++ [t]))) (h3 : Upd (fun k => p + 1 ≤ k) w wz) (e0 : Nat) :
    Sk ((wz.setCell ⟨p, 2, none⟩ v').setCell ⟨p, 1, none⟩ (.int .i64 e0)) p s e0 (l ++ [t]) ∧ Below p w ((wz.setCell ⟨p, 2, none⟩ v').setCell ⟨p, 1, none⟩ (.int .i64 e0)) := by
  have u : Upd (fun k => k = p) wz ((wz.setCell ⟨p, 2, none⟩ v').setCell ⟨p, 1, none⟩ (.int .i64 e0)) := (Upd.setCell (F := fun k => k = p) wz ⟨p, 2, none⟩ _ rfl).trans (Upd.setCell (F := fun k => k = p) _ ⟨p, 1, none⟩ _ rfl) (fun _ _ h => h)
  refine ⟨⟨_, ((hc.upd h3 (by omega)).setTk v').setAt e0, ?_⟩, ?_⟩
  · rw [List.length_append]
    exact u.own h2 (fun k hk e => by have := (h2.lt k hk).1; omega)
  · exact (h3.below (Nat.le_of_lt hc.lt) (fun x hx => by omega)).trans (u.below (Nat.le_trans (Nat.le_of_lt hc.lt) h3.size) (fun x hx => by omega))

end Go.Proofs.YtidcodpekeaigaaDoor
