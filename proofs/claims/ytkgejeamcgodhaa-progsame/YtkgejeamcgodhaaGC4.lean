/- Rows and bytes that were cloned; arguments with all within in memory of a call's own. -/
import Derived.Test.YtkgejeamcgodhaaGC3
import Derived.Test.YtkgejeamcgodhaaGSame
import Derived.Test.YtkgejeamcgodhaaGRp
namespace Go.Proofs.Ytkgejeamcgodhaa
open Go.RowKit
set_option linter.unusedVariables false
set_option maxRecDepth 20000

/-- A row of arguments in a block of its own; what they name lies anywhere. -/
def OwnR (B : Nat) (w : World) (a : Option Addr) (qs : List Ar) : Prop :=
  0 < qs.length → ∃ (g : Nat) (C : Array Value), a = some ⟨g, 0, none⟩ ∧ B ≤ g ∧ w.heap[g]? = some (.cells C 30 (0, 0)) ∧ ∀ j, ∀ h : j < qs.length, HdAt w g (0 + j * 4) qs[j].h
/-- An argument all of which lies in such blocks, by their types. -/
def Ocp (P : Nat → Prop) : Nat → World → Ar → Prop
  | 0 => fun _ _ => False
  | d + 1 => fun w A => A.h.Ok w ∧ BytS P w A.h.ba A.h.bn ∧ A.ks.length = A.h.kn ∧ (0 < A.ks.length → ∃ (g : Nat) (C : Array Value), A.h.ka = some ⟨g, 0, none⟩ ∧ P g ∧ w.heap[g]? = some (.cells C 30 (0, 0)) ∧ ∀ j, ∀ h : j < A.ks.length, HdAt w g (0 + j * 4) A.ks[j].h ∧ Ocp P d w A.ks[j])
theorem Ocp.okd {P : Nat → Prop} {w : World} : ∀ (d : Nat) (A : Ar), Ocp P d w A → Okd d w A
  | 0, _, h => h
  | d + 1, A, ⟨h1, _, h2, h3⟩ => ⟨h1, h2, fun h0 => by
    obtain ⟨g, C, e, _, hg, hc⟩ := h3 h0
    exact ⟨g, 0, e, (Array.getElem?_eq_some_iff.1 hg).1, fun j hj => ⟨(hc j hj).1, Ocp.okd d _ (hc j hj).2⟩⟩⟩
theorem Ocp.mono {P Q : Nat → Prop} {w : World} (hq : ∀ x, P x → Q x) : ∀ (d : Nat) (A : Ar), Ocp P d w A → Ocp Q d w A
  | 0, _, h => h
  | d + 1, A, ⟨h1, hb, h2, h3⟩ => ⟨h1, fun h0 => by
    obtain ⟨g, C, e, hP, r⟩ := hb h0
    exact ⟨g, C, e, hq g hP, r⟩, h2, fun h0 => by
    obtain ⟨g, C, e, hP, hg, hc⟩ := h3 h0
    exact ⟨g, C, e, hq g hP, hg, fun j hj => ⟨(hc j hj).1, Ocp.mono hq d _ (hc j hj).2⟩⟩⟩
theorem BytS.upd {P F : Nat → Prop} {w w' : World} (u : Upd F w w') (hF : ∀ x, P x → ¬ F x) {ba : Option Addr} {bn : Nat} (h : BytS P w ba bn) : BytS P w' ba bn := fun h0 => by
  obtain ⟨g, C, e, hP, hg, r⟩ := h h0
  exact ⟨g, C, e, hP, u.heap hg (hF g hP), r⟩
theorem Ocp.upd {P F : Nat → Prop} {w w' : World} (u : Upd F w w') (hF : ∀ x, P x → ¬ F x) : ∀ (d : Nat) (A : Ar), Ocp P d w A → Ocp P d w' A
  | 0, _, h => h
  | d + 1, A, ⟨h1, hb, h2, h3⟩ => by
    refine ⟨{ h1 with bs := ?_ }, hb.upd u hF, h2, fun h0 => ?_⟩
    · rcases Nat.eq_zero_or_pos A.h.bn with hz | hp
      · exact ⟨h1.bs.1, fun h0 => absurd h0 (by omega)⟩
      · obtain ⟨g, C, e, hP, _⟩ := hb hp
        exact u.src h1.bs (fun b o e' f => by rw [e] at e'; injection e' with e'; injection e' with e1; subst e1; exact hF g hP f)
    · obtain ⟨g, C, e, hP, hg, hc⟩ := h3 h0
      exact ⟨g, C, e, hP, u.heap hg (hF g hP), fun j hj => ⟨(hc j hj).1.blk (u.block g (Array.getElem?_eq_some_iff.1 hg).1 (hF g hP)), Ocp.upd u hF d _ (hc j hj).2⟩⟩
theorem Ocp.more {P : Nat → Prop} {w : World} : ∀ (d : Nat) (A : Ar), Ocp P d w A → ∀ d', d ≤ d' → Ocp P d' w A
  | 0, _, h, _, _ => h.elim
  | d + 1, A, ⟨h1, hb, h2, h3⟩, d', hd => by
    obtain ⟨e, rfl⟩ : ∃ e, d' = e + 1 := ⟨d' - 1, by omega⟩
    refine ⟨h1, hb, h2, fun h0 => ?_⟩
    obtain ⟨g, C, e1, hP, hg, hc⟩ := h3 h0
    exact ⟨g, C, e1, hP, hg, fun j hj => ⟨(hc j hj).1, Ocp.more d _ (hc j hj).2 e (by omega)⟩⟩
theorem hd_cells {w : World} {g o : Nat} {C : Array Value} {h : Hd} (hg : w.heap[g]? = some (.cells C 30 (0, 0))) (k : HdAt w g o h) : C[o]? = some (.int .i64 h.k) ∧ C[o + 1]? = some (.int .i64 h.v) ∧ C[o + 2]? = some (.slice h.ka h.kn h.kc) ∧ C[o + 3]? = some (.slice h.ba h.bn h.bc) :=
  ⟨(cell_of_row w g o _ _ _ hg).symm.trans k.c0, (cell_of_row w g (o + 1) _ _ _ hg).symm.trans k.c1, (cell_of_row w g (o + 2) _ _ _ hg).symm.trans k.c2, (cell_of_row w g (o + 3) _ _ _ hg).symm.trans k.c3⟩
theorem Ocp.rowS {P : Nat → Prop} {w : World} : ∀ (d : Nat) (A : Ar), Ocp P d w A → RowS P d w A.h.ka A.h.kn
  | 0, _, h => h.elim
  | d + 1, A, ⟨h1, _, h2, h3⟩ => fun h0 => by
    obtain ⟨g, C, e, hP, hg, hc⟩ := h3 (by omega)
    refine ⟨g, C, e, hP, hg, fun j hj => ?_⟩
    obtain ⟨ha, ho⟩ := hc j (by omega)
    rw [Nat.zero_add] at ha
    obtain ⟨c0, c1, c2, c3⟩ := hd_cells hg ha
    have hr := Ocp.rowS d _ ho
    cases d with
    | zero => exact ho.elim
    | succ d =>
      obtain ⟨k1, k2, k3, _⟩ := ho
      exact ⟨_, _, _, _, _, _, _, _, c0, c1, c2, c3, k1.km, k1.kb, k1.bm, k1.bb, hr, k2⟩
/-- A row of such. -/
def OcpR (P : Nat → Prop) (d : Nat) (w : World) (a : Option Addr) (qs : List Ar) : Prop :=
  0 < qs.length → ∃ (g : Nat) (C : Array Value), a = some ⟨g, 0, none⟩ ∧ P g ∧ w.heap[g]? = some (.cells C 30 (0, 0)) ∧ ∀ j, ∀ h : j < qs.length, HdAt w g (0 + j * 4) qs[j].h ∧ Ocp P d w qs[j]
theorem OcpR.krow {P : Nat → Prop} {d : Nat} {w : World} {a : Option Addr} {qs : List Ar} (h : OcpR P d w a qs) : Krow d w a qs := fun h0 => by
  obtain ⟨g, C, e, _, hg, hc⟩ := h h0
  exact ⟨g, 0, e, (Array.getElem?_eq_some_iff.1 hg).1, fun j hj => ⟨(hc j hj).1, Ocp.okd d _ (hc j hj).2⟩⟩
theorem OcpR.rowS {P : Nat → Prop} {d : Nat} {w : World} {a : Option Addr} {qs : List Ar} (h : OcpR P d w a qs) : RowS P (d + 1) w a qs.length := fun h0 => by
  obtain ⟨g, C, e, hP, hg, hc⟩ := h h0
  refine ⟨g, C, e, hP, hg, fun j hj => ?_⟩
  obtain ⟨ha, ho⟩ := hc j hj
  rw [Nat.zero_add] at ha
  obtain ⟨c0, c1, c2, c3⟩ := hd_cells hg ha
  have hr := Ocp.rowS d _ ho
  cases d with
  | zero => exact ho.elim
  | succ d =>
    obtain ⟨k1, k2, k3, _⟩ := ho
    exact ⟨_, _, _, _, _, _, _, _, c0, c1, c2, c3, k1.km, k1.kb, k1.bm, k1.bb, hr, k2⟩
theorem OcpR.upd {P F : Nat → Prop} {d : Nat} {w w' : World} {a : Option Addr} {qs : List Ar} (h : OcpR P d w a qs) (u : Upd F w w') (hF : ∀ x, P x → ¬ F x) : OcpR P d w' a qs := fun h0 => by
  obtain ⟨g, C, e, hP, hg, hc⟩ := h h0
  exact ⟨g, C, e, hP, u.heap hg (hF g hP), fun j hj => ⟨(hc j hj).1.blk (u.block g (Array.getElem?_eq_some_iff.1 hg).1 (hF g hP)), Ocp.upd u hF d _ (hc j hj).2⟩⟩
theorem OcpR.mono {P Q : Nat → Prop} {d : Nat} {w : World} {a : Option Addr} {qs : List Ar} (h : OcpR P d w a qs) (hq : ∀ x, P x → Q x) : OcpR Q d w a qs := fun h0 => by
  obtain ⟨g, C, e, hP, hg, hc⟩ := h h0
  exact ⟨g, C, e, hq g hP, hg, fun j hj => ⟨(hc j hj).1, Ocp.mono hq d _ (hc j hj).2⟩⟩

theorem kclone_any (d : Nat) (ra : Option Addr) (rn rc : Nat) (qs : List Ar) (w : World) (h : Krow d w ra qs) (hl : qs.length = rn) (hr : rn ≤ 2199023255552) :
    Calls Try.prog 73 #[.slice ra rn rc] w fun e w' => ∃ a c, e = .returned (.slice a rn c) ∧ rn ≤ c ∧ c ≤ 9223372036854775807 ∧ OwnR w.heap.size w' a qs ∧ Below w.heap.size w w' := by
  cases ra with
  | none =>
    have h0 : qs.length = 0 := by
      rcases Nat.eq_zero_or_pos qs.length with z | z
      · exact z
      · obtain ⟨_, _, e, _⟩ := h z; cases e
    obtain rfl : rn = 0 := by omega
    refine (aclone_nil 0 rc w).mono ?_
    rintro e w' ⟨rfl, rfl⟩
    exact ⟨none, 0, rfl, Nat.le_refl _, by omega, fun z => absurd z (by omega), Below.refl _ _⟩
  | some ad =>
    refine (aclone_any ad rn rc (rowC qs) w (by rw [rowC_len, hl]) (fun u hu => ?_) (fun j u hj => ?_) hr).mono ?_
    · obtain ⟨q, _, hq⟩ := List.mem_flatMap.1 hu
      simp [arC] at hq
      rcases hq with rfl | rfl | rfl | rfl <;> rfl
    · have hjl : j < qs.length * 4 := by have := (List.getElem?_eq_some_iff.1 hj).1; rw [rowC_len] at this; exact this
      obtain ⟨b, o, e, hlt, hc⟩ := h (by omega)
      injection e with e
      subst e
      have hj4 : j / 4 < qs.length := by omega
      have hx := rowC_at qs (j / 4) hj4 (j % 4) (by omega)
      rw [show j / 4 * 4 + j % 4 = j by omega, hj] at hx
      have ha := (hc (j / 4) hj4).1
      refine ⟨b, o, rfl, hlt, ?_⟩
      rw [hx, show o + j = o + j / 4 * 4 + j % 4 by omega]
      have hm : j % 4 < 4 := by omega
      generalize j % 4 = t at *
      match t, hm with
      | 0, _ => exact ha.c0
      | 1, _ => exact ha.c1
      | 2, _ => exact ha.c2
      | 3, _ => exact ha.c3
    · rintro e w' ⟨g, c, rfl, ho, hb⟩
      rcases ho.2 with ⟨e, _⟩ | ⟨g', cap, cur, e, hg', hcur, hcap, hmx, hcs, htk⟩
      · cases e
      · injection e with e1 e2 e3
        injection e1 with e1
        injection e1 with e1
        subst e1; subst e3
        refine ⟨_, c, rfl, hcap, by unfold maxLen at hmx; omega, fun h0 => ⟨g, cur, rfl, hg', hcur, fun j hj => ?_⟩, hb⟩
        have f : ∀ t, t < 4 → w'.cell? ⟨g, 0 + j * 4 + t, none⟩ = (arC qs[j].h)[t]? := fun t ht => by
          rw [Nat.zero_add, cell_of_row w' g (j * 4 + t) _ 30 (0, 0) hcur, ← rowC_at qs j hj t ht, ← htk, List.getElem?_take, if_pos (by omega)]
          simp
        exact ⟨f 0 (by omega), f 1 (by omega), f 2 (by omega), f 3 (by omega)⟩

end Go.Proofs.Ytkgejeamcgodhaa
