/- What DiskTears has in memory: two of the states, the first of which it writes into, and a list of sectors. -/
import Derived.Test.YtnfkkhglooehfaaDPlayedX
import Derived.Test.YtnfkkhglooehfaaDCrash
namespace Go.Proofs.Ytnfkkhglooehfaa
open Go.RowKit
set_option linter.unusedVariables false

/-- Behind played and Epochs: the states of places ia and ib. -/
structure Frm (w0 w2 : World) (p gs ia ib : Nat) (d : Dk) (M : List Nat) (k0 c0 k1 c1 : Nat) (f0 f1 : Nat → List Int) : Prop where
  ok : d.ok w2 p
  row0 : w2.cell? ⟨gs, ia, none⟩ = some (.slice (some ⟨k0, 0, none⟩) 4 c0)
  row1 : w2.cell? ⟨gs, ib, none⟩ = some (.slice (some ⟨k1, 0, none⟩) 4 c1)
  p0 : Pic w2 M (.slice (some ⟨k0, 0, none⟩) 4 c0) 4 f0
  p1 : Pic w2 M (.slice (some ⟨k1, 0, none⟩) 4 c1) 4 f1
  k0M : k0 ∈ M
  dM : ∀ x ∈ d.foot p, x ∈ M
  k0d : k0 ∉ d.foot p
  k0g : k0 ≠ gs
  k01 : k0 ≠ k1
  gd : gs ∉ d.foot p
  lg : gs < w2.heap.size
  lM : ∀ x ∈ M, x < w2.heap.size
  new0 : w0.heap.size ≤ k0
  below : Below w0.heap.size w0 w2

/-- Sectors of the second, where they are listed; else of the first. -/
def mix (f0 f1 : Nat → List Int) (ks : List Nat) (i : Nat) : List Int := if i ∈ ks then f1 i else f0 i

/-- The first state, of which the sectors ks have been replaced, and the list of these. -/
structure Tr (w2 w : World) (M : List Nat) (k0 c0 : Nat) (f : Nat → List Int) (lst : Option Nat) (v8 : Value) (ks : List Nat) : Prop where
  want : ∃ vs, w.ownsRow 0 35 1 (.slice (some ⟨k0, 0, none⟩) 4 c0) 4 vs ∧ (∀ i, i < 4 → ∃ u, vs[i]? = some u ∧ Byt w (vb v8 ++ M) u (f i)) ∧
    ∀ s, lst = some s → ∃ gl cl, vs[s]? = some (.slice (some ⟨gl, 0, none⟩) 128 cl) ∧ w.ownsRow 0 5 1 (.slice (some ⟨gl, 0, none⟩) 128 cl) 128 ((f s).map (Value.int .u8)) ∧ w2.heap.size ≤ gl ∧ gl ∉ vb v8 ∧ ∀ i, i < 4 → i ≠ s → ∃ u, vs[i]? = some u ∧ Byt w (gl :: (vb v8 ++ M)) u (f i)
  keep : w.ownsRow 0 3 1 v8 ks.length (ks.map fun (k : Nat) => Value.int .i64 (k : Int))
  kn : ∀ x ∈ vb v8, w2.heap.size ≤ x
  upd : Upd (fun x => x = k0 ∨ w2.heap.size ≤ x) w2 w

theorem Tr.start {w0 w2 : World} {p gs ia ib k0 c0 k1 c1 : Nat} {d : Dk} {M : List Nat} {f0 f1 : Nat → List Int} (h : Frm w0 w2 p gs ia ib d M k0 c0 k1 c1 f0 f1) : Tr w2 w2 M k0 c0 (mix f0 f1 []) none (.slice none 0 0) [] := by
  obtain ⟨vs, hr, hj⟩ := h.p0
  refine ⟨⟨vs, hr, fun i hi => ?_, fun s hs => by cases hs⟩, World.ownsRow_nil _ _ _ _, fun x hx => by simp [vb, Value.ownBlock] at hx, Upd.refl _ _⟩
  obtain ⟨u, h1, h2⟩ := hj i hi
  exact ⟨u, h1, by simpa [vb, Value.ownBlock, mix] using h2⟩

/-- What a step of the loop turns: a variable, the list, a clone, and the place of the state. -/
theorem Tr.step {w2 w wA wB wC wD : World} {M : List Nat} {k0 c0 s gl cl : Nat} {f0 f1 : Nat → List Int} {lst : Option Nat} {v8 v8' : Value} {ks : List Nat} (h : Tr w2 w M k0 c0 (mix f0 f1 ks) lst v8 ks) (hk0 : k0 < w2.heap.size) (hM : ∀ x ∈ M, x < w2.heap.size) (hk0M : k0 ∈ M) (hs : s < 4) (hf1 : (f1 s).length = 128)
    (hA : Below w.heap.size w wA) (hB : Upd (fun x => v8.ownBlock = some x) wA wB) (ho : wB.ownsRow 0 3 1 v8' (ks.length + 1) ((ks ++ [s]).map fun (k : Nat) => Value.int .i64 (k : Int))) (hv : v8'.ownBlock = v8.ownBlock ∨ ∀ x, v8'.ownBlock = some x → wA.heap.size ≤ x)
    (hC : Below wB.heap.size wB wC) (hc : wC.ownsRow wB.heap.size 5 1 (.slice (some ⟨gl, 0, none⟩) 128 cl) 128 ((f1 s).map (Value.int .u8))) (hD : wD.heap = (wC.setCell ⟨k0, s, none⟩ (.slice (some ⟨gl, 0, none⟩) 128 cl)).heap) (hDo : wD.os = wC.os) (hDt : wD.tape = wC.tape) (hDp : wD.output = wC.output) :
    Tr w2 wD M k0 c0 (mix f0 f1 (ks ++ [s])) (some s) v8' (ks ++ [s]) := by
  have z2 := h.upd.size
  have zA := hA.size
  have zB := hB.size
  have zC := hC.size
  have hgl := hc.lt gl rfl
  have hsz : (wC.setCell ⟨k0, s, none⟩ (.slice (some ⟨gl, 0, none⟩) 128 cl)).heap.size = wC.heap.size := by simp
  -- what turns from w to wC
  have hU1 : Upd (fun x => v8.ownBlock = some x) w wC := ((Upd.of_below (F := fun x => v8.ownBlock = some x) hA).trans hB (fun _ _ h => h)).trans (Upd.of_below (F := fun x => v8.ownBlock = some x) hC) (fun _ _ h => h)
  have hU2 : Upd (fun x => x = k0) wC wD := ⟨hDo, hDt, hDp, by rw [hD, hsz]; exact Nat.le_refl _, fun k hk hx => by rw [hD]; exact heap_setCell_other wC ⟨k0, s, none⟩ k _ hx⟩
  have hgrew : Grew' w (vb v8 ++ M) (vb v8' ++ M) := by
    intro x hx
    rcases List.mem_append.1 hx with hx | hx
    · rcases hv with e | hn
      · exact .inl (List.mem_append.2 (.inl (by simpa [vb, e] using hx)))
      · exact .inr (by have := hn x (by simpa [vb] using hx); omega)
    · exact .inl (List.mem_append.2 (.inr hx))
  have hUm : Upd (· ∈ vb v8 ++ M) w wC := hU1.mono (fun x _ hx => List.mem_append.2 (.inl (by simpa [vb] using hx)))
  have hv8n : ∀ x ∈ vb v8', w2.heap.size ≤ x := by
    intro x hx
    rcases hv with e | hn
    · exact h.kn x (by simpa [vb, e] using hx)
    · have := hn x (by simpa [vb] using hx); omega
  have hv8l : ∀ x ∈ vb v8', x < wB.heap.size := fun x hx => own_lt ho hx
  obtain ⟨vs, hr, hent, _⟩ := h.want
  have hk0v : ¬ v8.ownBlock = some k0 := fun e => by have := h.kn k0 (by simp [vb, e]); omega
  have hrC : wC.ownsRow 0 35 1 (.slice (some ⟨k0, 0, none⟩) 4 c0) 4 vs := hU1.own hr (fun k hk => by simp [Value.ownBlock] at hk; subst hk; exact hk0v)
  have hst := hrC.stored s (.slice (some ⟨gl, 0, none⟩) 128 cl)
  have hrD : wD.ownsRow 0 35 1 (.slice (some ⟨k0, 0, none⟩) 4 c0) 4 (vs.set s (.slice (some ⟨gl, 0, none⟩) 128 cl)) := own_of_heap hst.1 (fun k _ => by rw [hD])
  have hvl : vs.length = 4 := by have := hr.1; simpa using this
  have hglM : gl ∉ vb v8' ++ M := by
    intro hx
    rcases List.mem_append.1 hx with hx | hx
    · have := hv8l gl hx; omega
    · have := hM gl hx; omega
  have hcD : wD.ownsRow 0 5 1 (.slice (some ⟨gl, 0, none⟩) 128 cl) 128 ((f1 s).map (Value.int .u8)) := hU2.own (own_base hc (Nat.zero_le _)) (fun k hk => by simp [Value.ownBlock] at hk; subst hk; intro e; omega)
  have hother : ∀ i, i < 4 → i ≠ s → ∃ u, (vs.set s (.slice (some ⟨gl, 0, none⟩) 128 cl))[i]? = some u ∧ Byt wD (gl :: (vb v8' ++ M)) u (mix f0 f1 (ks ++ [s]) i) := by
    intro i hi hne
    obtain ⟨u, h1, h2⟩ := hent i hi
    refine ⟨u, by rw [List.getElem?_set_ne (fun e => hne e.symm)]; exact h1, ?_⟩
    have e : mix f0 f1 (ks ++ [s]) i = mix f0 f1 ks i := by simp [mix, hne]
    rw [e]
    have h3 : Byt wC (gl :: (vb v8' ++ M)) u (mix f0 f1 ks i) := h2.upd hUm (fun x hx => by
      rcases List.mem_cons.1 hx with rfl | hx
      · exact .inr (by omega)
      · exact hgrew x hx)
    refine h3.upd (hU2.mono (fun x _ hx => ?_)) (grew_refl _ _)
    subst hx
    exact List.mem_cons_of_mem _ (List.mem_append.2 (.inr hk0M))
  have hself : mix f0 f1 (ks ++ [s]) s = f1 s := by simp [mix]
  refine ⟨⟨_, hrD, fun i hi => ?_, fun s' hs' => ?_⟩, ?_, hv8n, ?_⟩
  · by_cases hne : i = s
    · subst hne
      refine ⟨.slice (some ⟨gl, 0, none⟩) 128 cl, by rw [List.getElem?_set_self (by omega)], ⟨gl, 0, none⟩, cl, rfl, ?_, hglM⟩
      rw [hself]
      exact Src.own hcD
    · obtain ⟨u, h1, h2⟩ := hother i hi hne
      exact ⟨u, h1, h2.weaken (fun x hx => List.mem_cons_of_mem _ hx)⟩
  · injection hs' with hs'
    subst hs'
    refine ⟨gl, cl, by rw [List.getElem?_set_self (by omega)], by rw [hself]; exact hcD, by omega, fun hx => hglM (List.mem_append.2 (.inl hx)), hother⟩
  · have h1 := own_below ho hC
    have h2 := hU2.own h1 (fun k hk e => by have := hv8n k (by simp [vb, hk]); omega)
    simpa using h2
  · refine ⟨?_, ?_, ?_, ?_, fun k hk hF => ?_⟩
    · exact hU2.os.trans (hU1.os.trans h.upd.os)
    · exact hU2.tape.trans (hU1.tape.trans h.upd.tape)
    · exact hU2.output.trans (hU1.output.trans h.upd.output)
    · have := hU1.size; have := hU2.size; omega
    · have hk0' : k ≠ k0 := fun e => hF (.inl e)
      rw [hU2.block k (by have := hU1.size; omega) hk0', hU1.block k (by omega) (fun e => by have := h.kn k (by simp [vb, e]); omega), h.upd.block k hk hF]

end Go.Proofs.Ytnfkkhglooehfaa
