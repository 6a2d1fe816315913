/- Two spaces of the program beside two of the document, as they lie: what MemLives carries from call to call. -/
import Derived.Test.YtnmgapnblmikeaaMSpoil
namespace Go.Proofs.Ytnmgapnblmikeaa
open Go.RowKit Lend
set_option linter.unusedVariables false

theorem Src.hp {w w' : World} {a0 : Option Addr} {len : Nat} {zs : List Int} (h : Src w a0 len zs) (e : w'.heap = w.heap) : Src w' a0 len zs :=
  ⟨h.1, fun hl => by
    obtain ⟨b, o, e', hlt, hc⟩ := h.2 hl
    exact ⟨b, o, e', by rw [e]; exact hlt, fun j hj => by rw [← hc j hj]; exact World.cell?_of_block (a := ⟨b, o + j, none⟩) (by rw [e])⟩⟩
theorem Spc.hp {w w' : World} {p : Nat} {zs : List Int} (h : Spc w p zs) (e : w'.heap = w.heap) : Spc w' p zs := ⟨h.len, h.bytes, by rw [e]; exact h.block⟩
theorem Rsp.hp {w w' : World} {q g c : Nat} {zs : List Int} (h : Rsp w q g c zs) (e : w'.heap = w.heap) : Rsp w' q g c zs := by
  refine ⟨h.len, h.bytes, by rw [e]; exact h.head, h.own.1, ?_⟩
  rcases h.own.2 with h' | ⟨g', cap', cur, h', hb, hg, r⟩
  · exact .inl h'
  · exact .inr ⟨g', cap', cur, h', hb, by rw [e]; exact hg, r⟩

/-- A space of the program beside one of the document. -/
structure Px where
  p : Nat
  q : Nat
  g : Nat
  c : Nat
  zs : List Int

/-- All of them lie below M. -/
structure Px.Lt (a : Px) (M : Nat) : Prop where
  p : a.p < M
  q : a.q < M
  g : a.g < M
structure Px.Ge (a : Px) (B : Nat) : Prop where
  p : B ≤ a.p
  q : B ≤ a.q
  g : B ≤ a.g
structure Px.At (w : World) (a : Px) : Prop where
  s : Spc w a.p a.zs
  r : Rsp w a.q a.g a.c a.zs

theorem Px.At.lt {w : World} {a : Px} (h : a.At w) : a.Lt w.heap.size := ⟨h.s.lt, h.r.qlt, h.r.glt⟩
theorem Px.At.upd {F : Nat → Prop} {w w' : World} {a : Px} (h : a.At w) (u : Upd F w w') (M : Nat) (hM : a.Lt M) (hF : ∀ x, F x → M ≤ x) : a.At w' :=
  ⟨h.s.upd u (fun f => by have := hF _ f; have := hM.p; omega), h.r.upd u (fun f => by have := hF _ f; have := hM.q; omega) (fun f => by have := hF _ f; have := hM.g; omega)⟩
theorem Px.At.below {w w' : World} {a : Px} (h : a.At w) (u : Below w.heap.size w w') : a.At w' := ⟨h.s.below u h.s.lt, h.r.below u h.r.qlt h.r.glt⟩
theorem Px.At.hp {w w' : World} {a : Px} (h : a.At w) (e : w'.heap = w.heap) : a.At w' := ⟨h.s.hp e, h.r.hp e⟩

/-- Two of each, apart. -/
structure St (w0 w : World) (x y : Px) : Prop where
  a : x.At w
  b : y.At w
  np : x.p ≠ y.p
  ng : x.g ≠ y.g
  ga : x.Ge w0.heap.size
  gb : y.Ge w0.heap.size
  bel : Below w0.heap.size w0 w

theorem St.upd {F : Nat → Prop} {w0 w w' : World} {a b : Px} (h : St w0 w a b) (u : Upd F w w') (M : Nat) (ha : a.Lt M) (hb : b.Lt M) (hF : ∀ x, F x → M ≤ x) : St w0 w' a b :=
  ⟨h.a.upd u M ha hF, h.b.upd u M hb hF, h.np, h.ng, h.ga, h.gb, h.bel.trans (u.below h.bel.size (fun x f => by have := hF x f; have := ha.p; have := h.ga.p; omega))⟩
theorem St.below {w0 w w' : World} {a b : Px} (h : St w0 w a b) (u : Below w.heap.size w w') : St w0 w' a b :=
  ⟨h.a.below u, h.b.below u, h.np, h.ng, h.ga, h.gb, h.bel.trans (u.mono h.bel.size)⟩
theorem St.drewN {w0 w : World} {a b : Px} (h : St w0 w a b) (n : Nat) : St w0 (w.drewN n) a b := ⟨h.a.hp rfl, h.b.hp rfl, h.np, h.ng, h.ga, h.gb, below_drewN h.bel n⟩

/-- Behind an Out to both of the first. -/
theorem St.out {w0 w w1 w1' w2 : World} {a b : Px} {zs : List Int} (h : St w0 w a b) (hs : Spc w1 a.p zs) (hu : Upd (· = a.p) w w1) (e : w1'.heap = w1.heap) (eo : w1'.os = w1.os) (et : w1'.tape = w1.tape) (ep : w1'.output = w1.output) (hr : Rsp w2 a.q a.g a.c zs) (hu2 : Upd (· = a.g) w1' w2) : St w0 w2 { a with zs := zs } b := by
  have n1 := h.a.r.ne h.a.s
  have n2 := h.b.r.ne h.a.s
  have n3 := h.a.r.ne h.b.s
  have n4 := h.b.r.nqg h.a.r
  have hb1 : b.At w1 := ⟨h.b.s.upd hu (fun e => h.np e.symm), h.b.r.upd hu n2.1 n2.2⟩
  have hb1' : b.At w1' := hb1.hp e
  have hB1 : Below w0.heap.size w0 w1 := h.bel.trans (hu.below h.bel.size (fun x f => by have := h.ga.p; omega))
  have hB1' : Below w0.heap.size w0 w1' := ⟨eo.trans hB1.os, et.trans hB1.tape, ep.trans hB1.output, by rw [e]; exact hB1.size, fun k hk => by rw [e]; exact hB1.block k hk⟩
  refine ⟨⟨?_, hr⟩, ⟨hb1'.s.upd hu2 (fun e => n3.2 e.symm), hb1'.r.upd hu2 n4 (fun e => h.ng e.symm)⟩, h.np, h.ng, ⟨h.ga.p, h.ga.q, h.ga.g⟩, h.gb, hB1'.trans (hu2.below hB1'.size (fun x f => by have := h.ga.g; omega))⟩
  exact (hs.hp e).upd hu2 (fun e => n1.2 e.symm)

theorem St.like {w0 w w' : World} {a b : Px} (h : St w0 w a b) (e : w'.heap = w.heap) (eo : w'.os = w.os) (et : w'.tape = w.tape) (ep : w'.output = w.output) : St w0 w' a b :=
  ⟨h.a.hp e, h.b.hp e, h.np, h.ng, h.ga, h.gb, ⟨eo.trans h.bel.os, et.trans h.bel.tape, ep.trans h.bel.output, by rw [e]; exact h.bel.size, fun k hk => by rw [e]; exact h.bel.block k hk⟩⟩

/-- Between the two Outs: what MemLives still wants. -/
theorem St.mid {w0 w w' w1 : World} {a b : Px} (h : St w0 w a b) (e : w'.heap = w.heap) (eo : w'.os = w.os) (et : w'.tape = w.tape) (ep : w'.output = w.output) (hu : Upd (· = a.p) w' w1) : Rsp w1 a.q a.g a.c a.zs ∧ Below w0.heap.size w0 w1 := by
  have h' := h.like e eo et ep
  have n1 := h'.a.r.ne h'.a.s
  exact ⟨h'.a.r.upd hu n1.1 n1.2, h'.bel.trans (hu.below h'.bel.size (fun x f => by have := h'.ga.p; omega))⟩

end Go.Proofs.Ytnmgapnblmikeaa
