/- Texts of this seat, merged. -/
import Derived.Test.YtbglhmcahnkbfaaGreatHMg1
import Derived.Test.YtbglhmcahnkbfaaGreatChecked
import Derived.Maps.OwnOps
import Derived.Maps.OwnSet
import Derived.Maps.RangeWalk

/- A map of numbers to counts: what a look-up, one more, a removal and a count of its entries do. -/
namespace Go.Proofs.YtbglhmcahnkbfaaGreat
open Go.RowKit Go.MapKept
set_option linter.unusedVariables false
set_option maxRecDepth 20000

theorem kint : Maps.Keyed Tryz.prog 3 := Maps.int_keyed Tryz.underlying3
/-- A number of 64 bits. -/
def W64 (k : Int) : Prop := -9223372036854775808 ≤ k ∧ k ≤ 9223372036854775807
theorem W64.wf {k : Int} (h : W64 k) : (Lit.int .i64 k).wf = true := by
  have e1 : IntKind.i64.min = -9223372036854775808 := by decide
  have e2 : IntKind.i64.max = 9223372036854775807 := by decide
  simp only [Lit.wf, e1, e2, Bool.and_eq_true, decide_eq_true_eq]
  exact h
theorem key3 {k : Int} (h : W64 k) : keyOf Tryz.prog 3 (.int .i64 k) = some (.int .i64 k) := by
  simp [keyOf, Tryz.underlying3, mapKey, h.wf]
theorem zero3 (w : World) : (zeroValue 3).run Tryz.prog w = .ok (.int .i64 0) w := by
  have e : Tryz.t3.zero = some (.int .i64 0) := by kernel_rfl
  simp [zeroValue, Result.andThen, e]

/-- The counts that a map tells, and how many numbers have one. -/
def OcD (D : DataW Unit) (N : Nat) (F : Int → Nat) : Prop :=
  Maps.size D = N ∧ ∀ x, W64 x → Maps.has D (.int .i64 x) = decide (F x ≠ 0) ∧ D.atKey (.int .i64 x) (.lit (.int .i64 0)) = .lit (.int .i64 (F x : Nat))
def Oc (w : World) (m n N : Nat) (F : Int → Nat) : Prop := ∃ D : DataW Unit, w.ownsMap Tryz.prog 3 (plainElem Tryz.prog 3) m n D ∧ OcD D N F

theorem Oc.none (w : World) : Oc (w.alloc (.map #[] 0)) w.heap.size 0 0 (fun _ => 0) :=
  ⟨.map [], World.ownsMap_made w _ _ _, rfl, fun x _ => ⟨rfl, rfl⟩⟩
theorem Oc.lt {w : World} {m n N : Nat} {F : Int → Nat} (h : Oc w m n N F) : m < w.heap.size := by
  obtain ⟨D, h1, _⟩ := h; exact h1.lt
theorem Oc.upd {G : Nat → Prop} {w w' : World} {m n N : Nat} {F : Int → Nat} (h : Oc w m n N F) (u : Upd G w w') (hG : ¬ G m) : Oc w' m n N F := by
  obtain ⟨D, ⟨es, cl, hb, r⟩, h2⟩ := h
  exact ⟨D, ⟨es, cl, u.heap hb hG, r⟩, h2⟩
theorem isKey3 (k : Int) : WideAt.IsKeyLit (.int .i64 k) := by trivial

/-- One more. -/
def inc (F : Int → Nat) (k : Int) : Int → Nat := fun x => if x = k then F x + 1 else F x
/-- None any more. -/
def dele (F : Int → Nat) (k : Int) : Int → Nat := fun x => if x = k then 0 else F x
theorem lit_ne {x k : Int} (h : x ≠ k) : Lit.int .i64 x ≠ Lit.int .i64 k := fun e => h (by injection e)

theorem oc_look {w : World} {m n N : Nat} {F : Int → Nat} (h : Oc w m n N F) {k : Int} (hk : W64 k) :
    (Instr.lookup 31 (.map (some m)) (.int .i64 k) false).run Tryz.prog w = .ok (.int .i64 (F k : Nat)) w := by
  obtain ⟨D, h1, h2⟩ := h
  obtain ⟨c, hr, ha, _⟩ := h1.lookup_int kint Tryz.underlying31 Tryz.underlying3 (zero3 w) (key3 hk)
  rw [(h2.2 k hk).2] at ha
  injection ha with ha
  injection ha with _ ha
  rw [hr, ha]

theorem oc_inc {w : World} {m n N : Nat} {F : Int → Nat} (h : Oc w m n N F) {k : Int} (hk : W64 k) (hn : n < maxLen) (hF : F k + 1 ≤ 9223372036854775807) :
    ∃ w', (Instr.mapUpdate 31 (.map (some m)) (.int .i64 k) (.int .i64 ((F k : Nat) + 1))).run Tryz.prog w = .ok () w' ∧ Oc w' m (n + 1) (if F k = 0 then N + 1 else N) (inc F k) ∧ Upd (· = m) w w' := by
  obtain ⟨D, h1, h2⟩ := h
  have ht := h1.tidy kint
  obtain ⟨w', hr, h3, hg⟩ := h1.update kint Tryz.underlying31 hn (key3 hk) (plainElem_int Tryz.underlying3 (a := (F k : Nat) + 1) (W64.wf ⟨by omega, by omega⟩))
  refine ⟨w', hr, ⟨_, h3, ?_, fun x hx => ?_⟩, (Upd.of_grown hg).mono (fun x _ hx => by injection hx)⟩
  · rw [Maps.size_put ht, (h2.2 k hk).1, h2.1]
    by_cases q : F k = 0 <;> simp [q]
  · by_cases q : x = k
    · subst q
      rw [Maps.has_put_same ht.isMap (isKey3 _), Maps.atKey_put_same ht.isMap (isKey3 _)]
      simp [inc]
    · rw [Maps.has_put_other (lit_ne q), Maps.atKey_put_other (lit_ne q)]
      simpa [inc, q] using h2.2 x hx

theorem oc_del {w : World} {m n N : Nat} {F : Int → Nat} (h : Oc w m n N F) {k : Int} (hk : W64 k) (ty : TypeId) :
    ∃ w', (Builtin.delete_ #[31, 3] ty #[.map (some m), .int .i64 k]).run Tryz.prog w = .ok (.tuple #[]) w' ∧ Oc w' m n (if F k = 0 then N else N - 1) (dele F k) ∧ Upd (· = m) w w' := by
  obtain ⟨D, h1, h2⟩ := h
  have ht := h1.tidy kint
  obtain ⟨w', hr, h3, hg⟩ := h1.drop kint Tryz.underlying31 (key3 hk) ty
  refine ⟨_, hr, ⟨_, h3, ?_, fun x hx => ?_⟩, (Upd.of_grown hg.grown).mono (fun x _ hx => by injection hx)⟩
  · have := Maps.size_del (k := .int .i64 k) ht
    rw [(h2.2 k hk).1, h2.1] at this
    by_cases q : F k = 0
    · simp [q] at this ⊢; omega
    · simp [q] at this ⊢; omega
  · by_cases q : x = k
    · subst q
      rw [Maps.has_del_same, Maps.atKey_del_same]
      simp [dele]
    · rw [Maps.has_del_other (lit_ne q), Maps.atKey_del_other (lit_ne q)]
      simpa [dele, q] using h2.2 x hx

theorem oc_len {w : World} {m n N : Nat} {F : Int → Nat} (h : Oc w m n N F) (ty : TypeId) :
    (Builtin.len_ #[31] ty #[.map (some m)]).run Tryz.prog w = .ok (.int .i64 (N : Nat)) w := by
  obtain ⟨D, h1, h2⟩ := h
  rw [h1.len Tryz.underlying31 ty, h2.1]
section
variable (w : World) {ops : Array Oper} {rest : List Oper} {o : Oper} {a : Act} {Q : Exit → Act → World → Prop}
end

end Go.Proofs.YtbglhmcahnkbfaaGreat
