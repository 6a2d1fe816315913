/- What the document's Write does where the last epoch is open. -/
import Derived.Test.YtcophmafkpbdaaaR2write
namespace Go.Proofs.Ytcophmafkpbdaaa
open Go.RowKit
set_option linter.unusedVariables false

/-- An epoch that is laid anew behind a world. -/
structure Acc (W1 w : World) (M : List Nat) (v : Value) (L : List (Nat × Value × List Int)) : Prop where
  lst : Lst w M v L
  new : ∀ x, v.ownBlock = some x → W1.heap.size ≤ x
  bel : Below W1.heap.size W1 w

theorem Acc.below {W1 w w' : World} {M : List Nat} {v : Value} {L : List (Nat × Value × List Int)} (h : Acc W1 w M v L) (hb : Below w.heap.size w w') : Acc W1 w' M v L :=
  ⟨h.lst.below hb, h.new, h.bel.trans (hb.mono h.bel.size)⟩

/-- Bytes of old, seen from the epoch that is laid anew. -/
theorem byt_old {W1 w : World} {M : List Nat} {v u : Value} {bs : List Int} (h : Byt W1 M u bs) (hv : ∀ x, v.ownBlock = some x → W1.heap.size ≤ x) (hb : Below W1.heap.size W1 w) : Byt w (vb v ++ M) u bs := by
  obtain ⟨a, c, rfl, hs, hm, hc⟩ := h
  refine ⟨a, c, rfl, hs.below hb, fun hx => ?_, hc⟩
  rcases List.mem_append.1 hx with h1 | h1
  · have h2 := hv a.block (by simpa [vb] using h1)
    obtain ⟨b, o, e, hl, _⟩ := hs.2 (by omega)
    injection e with e
    subst e
    simp at h2
    omega
  · exact hm h1

/-- New bytes. -/
theorem byt_new {w w' : World} {M : List Nat} {v : Value} {gb cb : Nat} {bs : List Int} (hs : Src w' (some ⟨gb, 0, none⟩) 128 bs) (hc : 128 ≤ cb ∧ cb ≤ 9223372036854775807) (hg : w.heap.size ≤ gb) (hM : ∀ y ∈ M, y < w.heap.size) (hv : ∀ x, v.ownBlock = some x → x < w.heap.size) : Byt w' (vb v ++ M) (.slice (some ⟨gb, 0, none⟩) 128 cb) bs := by
  refine ⟨⟨gb, 0, none⟩, cb, rfl, hs, fun hx => ?_, hc⟩
  rcases List.mem_append.1 hx with h1 | h1
  · have := hv gb (by simpa [vb] using h1); omega
  · have := hM gb h1; omega

theorem Acc.lt {W1 w : World} {M : List Nat} {v : Value} {L : List (Nat × Value × List Int)} (h : Acc W1 w M v L) : ∀ x, v.ownBlock = some x → x < w.heap.size := fun x hx => (h.lst.own.lt x hx).2

theorem wpList_append_acc {P : Program} {w : World} {ops : Array Oper} {rest : List Oper} {o : Oper} {a : Act} {Q : Exit → Act → World → Prop} (hgd : o.guard = none) (s x : Operand) (t : TypeId)
    (ho : o.op = .call { callee := .builtin .append, args := #[s, x], argTypes := #[t, t] })
    (i : TypeInfo) (z : Value) (ht : P.underlying t = some (.slice 57)) (hi : P.info? 57 = some i) (hz : i.zero = some z) (hsize : i.size = 2) (hby : i.bytes = 32) (hzs : z.cells.size = 2)
    (W1 : World) (v : Value) (L : List (Nat × Value × List Int)) (M : List Nat) (hs : a.eval s = v) (hL : Acc W1 w M v L) (hM : ∀ y ∈ M, y < W1.heap.size)
    (ad : Addr) (c : Nat) (hx : a.eval x = .slice (some ad) 1 c) (S : Nat) (u : Value) (bs : List Int) (h0 : w.cell? (ad.add 0) = some (.int .i64 (S : Int))) (h1 : w.cell? (ad.add 1) = some u) (hu : u.oneCell' = true) (hb : Byt w (vb v ++ M) u bs) (hl : L.length ≤ 4096)
    (h : ∀ v' w', Hid (Acc W1 w' M v' (L ++ [(S, u, bs)])) → Upd (fun x => v.ownBlock = some x) w w' → wpList P ops Q rest (a.put o.dst v') w') :
    wpList P ops Q (o :: rest) a w := by
  refine wpList_append_lst hgd s x t ho i z ht hi hz hsize hby hzs v L M hs hL.lst (fun y hy => Nat.lt_of_lt_of_le (hM y hy) hL.bel.size) ad c hx S u bs h0 h1 hu hb hl ?_
  intro v' w' H1 H2 H3
  refine h v' w' (hid ⟨H1.out, fun x hx => ?_, hL.bel.trans (H2.below hL.bel.size (fun x hx => hL.new x hx))⟩) H2
  rcases H3.out with h | h
  · exact hL.new x (by rw [← h]; exact hx)
  · exact Nat.le_trans hL.bel.size (h x hx)

theorem heap_second (w : World) (a b : Obj) : ((w.alloc a).alloc b).heap[w.heap.size + 1]? = some b := by
  have h := heap_alloc_new (w.alloc a) b
  rwa [show (w.alloc a).heap.size = w.heap.size + 1 by simp] at h
theorem two_allocs (w : World) (a b : Obj) : Below w.heap.size w ((w.alloc a).alloc b) := ((Below.refl _ _).alloc (Nat.le_refl _) _).alloc (by simp) _
theorem one_alloc (w : World) (a : Obj) : Below w.heap.size w (w.alloc a) := (Below.refl _ _).alloc (Nat.le_refl _) _

/-- Behind the write no sector is it again. -/
theorem puts_ne {es : List (Nat × List Int)} {i j : Nat} (hr : ∀ (a b : Nat) (hab : a < b) (h : b < es.length), (es[a]'(by omega)).1 < es[b].1) (hj : j < es.length) (hp : puts i (es.take j) = true) : i < es[j].1 := by
  simp only [puts, List.any_eq_true, decide_eq_true_eq] at hp
  obtain ⟨s, hs, hi⟩ := hp
  obtain ⟨k, hk, rfl⟩ := List.getElem_of_mem hs
  rw [List.getElem_take] at hi
  have hk' : k < j := by simp at hk; omega
  have := hr k j hk' hj
  omega

theorem mem_putE (i : Nat) (bs : List Int) (es : List (Nat × List Int)) (s : Nat × List Int) (h : s ∈ putE i bs es) : s = (i, bs) ∨ s ∈ es := by
  induction es with
  | nil => left; simpa [putE] using h
  | cons a es ih =>
    simp only [putE] at h
    grind

/-- The epoch that is laid anew takes the last one's place. -/
theorem Rk.ok.close {x : Rk} {w W1 wX : World} {q l b o i : Nat} {M : List Nat} {v : Value} {L : List (Nat × Value × List Int)} {bs : List Int} {es : List (Nat × List Int)} (hU1 : Upd (fun k => k = q) w W1) (hok : x.ok W1 q M) (hA : Acc W1 wX M v L) (hl : l < x.E.length) (hE : x.E[l] = es) (eA : x.aE = some ⟨b, o, none⟩) (hlab : lab L = putE i bs es) (hi : i < x.n) (hsl : x.sl = false) :
    ∃ y : Rk, y.ok (wX.setCell ⟨b, o + l, none⟩ v) q M ∧ y.n = x.n ∧ y.gB = x.gB ∧ y.f = x.f ∧ y.E = x.E.set l (putE i bs es) ∧ y.sl = false ∧ Upd (· ∈ x.foot q) w (wX.setCell ⟨b, o + l, none⟩ v) ∧ y.aE = x.aE := by
  have hm := hok.move (Upd.of_below (F := fun _ => False) hA.bel) (fun _ _ h => h.elim) (fun _ _ h => h)
  have hs := hm.setAt hl eA hA.lst (fun s hs => by
    rw [hlab] at hs
    rcases mem_putE i bs es s hs with h | h
    · rw [h]; exact hi
    · exact hok.secs es (hE ▸ List.getElem_mem hl) s h)
  refine ⟨_, hs, rfl, rfl, rfl, by show x.E.set l (lab L) = _; rw [hlab], hsl, ?_, rfl⟩
  have hbF : b ∈ x.foot q := by simp [Rk.foot, eA, eb]
  exact ((hU1.mono (G := (· ∈ x.foot q)) (fun k _ e => by simp [Rk.foot, e])).trans (Upd.of_below (F := (· ∈ x.foot q)) hA.bel) (fun _ _ h => h)).trans (Upd.setCell (F := (· ∈ x.foot q)) wX ⟨b, o + l, none⟩ v hbF) (fun _ _ h => h)

end Go.Proofs.Ytcophmafkpbdaaa
