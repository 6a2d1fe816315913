/- What DiskBarriers keeps and has behind its crash. -/
import Derived.Test.YtnfkkhglooehfaaDBarrA
import Derived.Laws.AppendOwnNone
namespace Go.Proofs.Ytnfkkhglooehfaa
open Go.RowKit
set_option linter.unusedVariables false

/-- Whether a mask names a write's sector. -/
def chosen (mask : Int) (s : Snt) : Bool := bits BinOp.and IntKind.u64 (mask / 2 ^ s.sec) 1 == 1
/-- The sectors that are named, the last one first. -/
def kept (mask : Int) (es : List Snt) (j : Nat) : List Nat := (((es.take j).filter (chosen mask)).map Snt.sec).reverse
theorem kept_yes (mask : Int) (es : List Snt) (j : Nat) (h : j < es.length) (hc : chosen mask es[j] = true) : kept mask es (j + 1) = es[j].sec :: kept mask es j := by
  unfold kept
  rw [List.take_add_one, List.getElem?_eq_getElem h, List.filter_append]
  simp [hc]
theorem kept_no (mask : Int) (es : List Snt) (j : Nat) (h : j < es.length) (hc : chosen mask es[j] = false) : kept mask es (j + 1) = kept mask es j := by
  unfold kept
  rw [List.take_add_one, List.getElem?_eq_getElem h, List.filter_append]
  simp [hc]

/-- The list of sectors as it grows. -/
structure Kp (w3 wr : World) (v9 : Value) (ks : List Nat) : Prop where
  own : wr.ownsRow 0 3 1 v9 ks.length (ks.map fun (k : Nat) => Value.int .i64 (k : Int))
  nil : ks = [] → v9 = .slice none 0 0
  new : ∀ x ∈ vb v9, w3.heap.size ≤ x
  below : Below w3.heap.size w3 wr

theorem lit_own (wr : World) (o : Obj) (S : Nat) : ((wr.alloc o).alloc (.cells #[.int .i64 (S : Int)] 3)).ownsRow 0 3 1 (.slice (some ⟨wr.heap.size + 1, 0, none⟩) 1 1) 1 [.int .i64 (S : Int)] := by
  have h := World.ownsRow_lit (base := 0) (e := 3) (size := 1) (wr.alloc o) #[.int .i64 (S : Int)] 1 (Nat.zero_le _) (by unfold maxLen; omega) rfl
  simpa using h

theorem mix_nil (f0 f1 : Nat → List Int) : mix f0 f1 [] = f0 := by funext i; simp [mix]

theorem mix_snoc (f0 f1 : Nat → List Int) (ks : List Nat) (s i : Nat) : mix f0 f1 (ks ++ [s]) i = if i = s then f1 s else mix f0 f1 ks i := by
  unfold mix
  by_cases h : i = s
  · subst h; simp
  · simp [h]

/-- What is there behind the crash. -/
structure PostB (w wT : World) (p gs k : Nat) (dF : Dk) (M : List Nat) (k0 c0 k1 c1 : Nat) (f0 f1 : Nat → List Int) (kk : Option Addr) (kc : Nat) (ks : List Nat) : Prop where
  two : Two wT gs k M k0 c0 k1 c1 f0 f1
  ok : dF.ok wT p
  k0d : k0 ∉ dF.foot p
  keep : wT.ownsRow 0 3 1 (.slice kk ks.length kc) ks.length (ks.map fun (k : Nat) => Value.int .i64 (k : Int))
  kb : ∀ x ∈ vb (.slice kk ks.length kc), x ≠ k0
  below : Below w.heap.size w wT

theorem foot_settled (d : Dk) (p : Nat) (D : List Int) : ∀ k ∈ ({ d with dur := D, wr := D, ve := .slice none 0 0, eps := [], opn := false } : Dk).foot p, k ∈ d.foot p := by
  intro k hk
  simp [Dk.foot, vb, Value.ownBlock] at hk ⊢
  rcases hk with h | h | h
  · exact .inl h
  · exact .inr (.inl h)
  · exact .inr (.inr (.inl h))

theorem postB {w w2 w3 wr w5 w6 : World} {p gs k ge m ce k0 c0 k1 c1 kc : Nat} {kk : Option Addr} {ks : List Nat} {d dF : Dk} {M : List Nat} {f0 f1 : Nat → List Int} {es : List Snt} {e : Ep} {D : List Int} (h : PrepB w w2 w3 p gs k d M k0 c0 k1 c1 f0 f1 ge m ce es e) (hT : Kp w3 wr (.slice kk ks.length kc) ks) (hst : Settled wr d p D w5) (gF : dF = { d with dur := D, wr := D, ve := .slice none 0 0, eps := [], opn := false }) (hb : Below w5.heap.size w5 w6) : PostB w w6 p gs k dF M k0 c0 k1 c1 f0 f1 kk kc ks := by
  have two_r := h.two.upd (F := fun _ => False) (Upd.of_below hT.below) (fun _ _ h => h.elim) (fun h => h) (fun h => h) (fun h => h)
  have two_5 := two_r.upd hst.2 (fun x _ hx => h.dM x hx) h.gd h.k0d h.k1d
  have two_6 := two_5.upd (F := fun _ => False) (Upd.of_below hb) (fun _ _ h => h.elim) (fun h => h) (fun h => h) (fun h => h)
  subst gF
  have z1 := h.below.size
  have z2 := hT.below.size
  have z3 := hst.2.size
  exact ⟨two_6, hst.1.frame fun x hx => hb.block x (hst.1.lt x hx), fun hx => h.k0d (foot_settled d p D _ hx), own_below (hst.2.own hT.own (fun x hx hf => by
    have h1 := hT.new x (by simp [vb, hx])
    have h2 := h.ok.lt x hf
    omega)) hb, fun x hx e => by
      have h1 := hT.new x hx
      have h2 := h.k0l
      omega, ((h.below.trans (hT.below.mono z1)).trans (hst.2.below (by omega) h.new)).trans (hb.mono (by omega))⟩

/-- What a round of the second loop finds and leaves. -/
theorem PostB.round {w w6 wr : World} {p gs k k0 c0 k1 c1 kc g9 : Nat} {ks : List Nat} {dF : Dk} {M : List Nat} {f0 f1 : Nat → List Int} (h : PostB w w6 p gs k dF M k0 c0 k1 c1 f0 f1 (some ⟨g9, 0, none⟩) kc ks) (q : Nat) (hT : Tw w6 wr M k0 c0 (mix f0 f1 (ks.take q))) (hq : q < ks.length) (h4 : ∀ x ∈ ks, x < 4) :
    ∃ S aa cc uo, S < 4 ∧ wr.cell? ⟨g9, q, none⟩ = some (.int .i64 ((S : Nat) : Int)) ∧ wr.cell? ⟨gs, k + 1, none⟩ = some (.slice (some ⟨k1, 0, none⟩) 4 c1) ∧ wr.cell? ⟨k1, S, none⟩ = some (.slice (some aa) 128 cc) ∧ wr.cell? ⟨k0, S, none⟩ = some uo ∧ wr.frozen? ⟨k0, S, none⟩ = false ∧ Tw w6 (wr.setCell ⟨k0, S, none⟩ (.slice (some aa) 128 cc)) M k0 c0 (mix f0 f1 (ks.take (q + 1))) := by
  have hS4 := h4 _ (List.getElem_mem hq)
  have hkeep := hT.upd.own h.keep (fun x hx e => h.kb x (by simp [vb, hx]) e)
  obtain ⟨vs1, hr1, hent1⟩ := h.two.p1
  have hr1' := hT.upd.own hr1 (fun x hx e => by simp [Value.ownBlock] at hx; subst hx; exact h.two.k01 e.symm)
  obtain ⟨ub, hub, hbyt⟩ := hent1 ks[q] hS4
  have hUM : Upd (· ∈ M) w6 wr := hT.upd.mono (fun x _ hx => by subst hx; exact h.two.k0M)
  have hbyt' := hbyt.upd hUM (grew_refl _ _)
  obtain ⟨aa, cc, rfl, _, _⟩ := hbyt
  obtain ⟨vs0, hr0, hent0⟩ := hT.pic
  obtain ⟨uo, huo, _⟩ := hent0 ks[q] hS4
  refine ⟨ks[q], aa, cc, uo, hS4, ?_, ?_, ?_, ?_, hr0.frozenAt _, ?_⟩
  · rw [hkeep.cellAt q (by omega), List.getElem?_map, List.getElem?_eq_getElem hq]; rfl
  · exact (World.cell?_of_block (a := ⟨gs, k + 1, none⟩) (hT.upd.block gs h.two.lg (fun e => h.two.k0g e.symm))).trans h.two.row1
  · rw [hr1'.cellAt _ (by omega), hub]
  · rw [hr0.cellAt _ (by omega), huo]
  · refine hT.step h.two.k0M hS4 hbyt' (fun i _ => ?_)
    rw [List.take_add_one, List.getElem?_eq_getElem hq]
    exact mix_snoc f0 f1 _ _ i

theorem k_facts (k L : Nat) (h : k < L) : (k : Int) < (L : Int) + 1 ∧ (k : Int) + 1 < (L : Int) + 1 ∧ (0 : Int) ≤ (k : Int) + 1 := ⟨by omega, by omega, by omega⟩

/-- All epochs land and none is chosen of. -/
theorem lastB {w w1 w2 : World} {p gn gs cs L : Nat} {d : Dk} {fnow : Nat → List Int} {sts : List (Nat → List Int)} {opn : Bool} {X : List Nat} (hmem : Mem w w1 p gn d (.slice (some ⟨gs, 0, none⟩) (L + 1) cs) (L + 1) fnow sts X) (habs : Abst d fnow sts opn) (hL : L = d.eps.length) (hb : Below w1.heap.size w1 w2) :
    ∃ k0 c0 F, d.ok w2 p ∧ ∀ w5 w6 dF, dF = { d with dur := landAll d.dur (d.ab.take L), wr := landAll d.dur (d.ab.take L), ve := .slice none 0 0, eps := [], opn := false } → Settled w2 d p (landAll d.dur (d.ab.take L)) w5 → Below w5.heap.size w5 w6 → w6.cell? ⟨gs, L, none⟩ = some (.slice (some ⟨k0, 0, none⟩) 4 c0) ∧ Fin w w6 p k0 c0 dF (landAll d.dur (d.ab.take L)) F := by
  obtain ⟨k0, c0, f0, hc0, hp0, hf0, hx0⟩ := state_at hmem habs hL L (Nat.le_refl _)
  have hgs : gs ∈ MM d p gn (.slice (some ⟨gs, 0, none⟩) (L + 1) cs) := by simp [MM, vb, Value.ownBlock]
  have hlt := hmem.lt gs hgs
  have hgd := (hmem.sep2 gs rfl).1
  have hk0d : k0 ∉ d.foot p := fun hx => (hmem.xs k0 hx0).2.2 (List.mem_append.2 (.inl hx))
  have hok2 := hmem.ok.frame (w' := w2) fun x hx => hb.block x (hmem.ok.lt x hx)
  have hwr := hok2.writes
  rw [habs.n4] at hwr
  have hall : ∀ a ∈ d.ab.take L, ∀ s ∈ a, s.1 < 4 ∧ s.2.length ≤ 128 := fun a ha s hs => ⟨((hwr a (List.mem_of_mem_take ha)).2 s hs).2, by have := ((hwr a (List.mem_of_mem_take ha)).2 s hs).1; omega⟩
  have hdl : d.dur.length = 4 * 128 := by have := hok2.dur.1; rw [habs.n4] at this; simpa using this
  have hpic : Pic w2 (d.foot p) (.slice (some ⟨k0, 0, none⟩) 4 c0) 4 f0 := (hp0.weaken (fun x hx => List.mem_append.2 (.inl (List.mem_append.2 (.inl hx))))).upd (Upd.of_below hb) (grew_refl _ _) (fun x e hx => by simp [Value.ownBlock] at e; subst e; exact hk0d hx)
  refine ⟨k0, c0, f0, hok2, fun w5 w6 dF gF hst hb6 => ⟨?_, ?_⟩⟩
  · have z2 := hb.size
    have z5 := hst.2.size
    rw [World.cell?_of_block (a := ⟨gs, L, none⟩) (hb6.block gs (by omega)), World.cell?_of_block (a := ⟨gs, L, none⟩) (hst.2.block gs (by omega) hgd), World.cell?_of_block (a := ⟨gs, L, none⟩) (hb.block gs hlt)]
    exact hc0
  · subst gF
    exact (fin_of (w := w) hst habs.n4 hpic hk0d (fun j hj => by rw [sec_landAll 4 _ d.dur hdl hall j, hf0 j hj]) (hmem.below.trans (hb.mono hmem.below.size)) (fun x hx => hmem.new x (List.mem_append.2 (.inl hx)))).later hb6

end Go.Proofs.Ytnfkkhglooehfaa
