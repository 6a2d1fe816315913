/- The walk that copies arguments: all that a row of arguments of a call's own names is cloned. (Written by gen_thr1.py.) -/
import Derived.Test.YtkgejeamcgodhaaGC5
import Derived.Deep.RegionHeld3
namespace Go.Proofs.Ytkgejeamcgodhaa
open Go.RowKit
set_option linter.unusedVariables false
set_option maxRecDepth 20000

/-- Lists within that a memory can hold twice. -/
def fewA : Nat → Ar → Prop
  | 0, _ => True
  | d + 1, A => A.h.kn ≤ 2199023255552 ∧ A.h.bn ≤ 140737488355328 ∧ ∀ B ∈ A.ks, fewA d B
def fewL (d : Nat) (qs : List Ar) : Prop := qs.length ≤ 2199023255552 ∧ ∀ B ∈ qs, fewA d B

/-- Bytes stay where only arguments are written. -/
theorem BytS.keep {P F : Nat → Prop} {w w' : World} (u : Upd F w w') (hF : ∀ x, F x → ∃ C : Array Value, w.heap[x]? = some (.cells C 30 (0, 0))) {ba : Option Addr} {bn : Nat} (h : BytS P w ba bn) : BytS P w' ba bn ∧ ∀ bs, Src w ba bn bs → Src w' ba bn bs := by
  have key : 0 < bn → ∃ (g : Nat) (C : Array Value), ba = some ⟨g, 0, none⟩ ∧ P g ∧ w.heap[g]? = some (.cells C 5 (0, 0)) ∧ ¬ F g ∧ ∀ j, j < bn → ∃ x, C[j]? = some (.int .u8 x) := fun h0 => by
    obtain ⟨g, C, e, hP, hg, r⟩ := h h0
    refine ⟨g, C, e, hP, hg, fun hf => ?_, r⟩
    obtain ⟨C', hg'⟩ := hF g hf
    rw [hg] at hg'
    injection hg' with h
    injection h with _ h
    exact absurd h (by decide)
  refine ⟨fun h0 => ?_, fun bs hs => ⟨hs.1, fun h0 => ?_⟩⟩
  · obtain ⟨g, C, e, hP, hg, hf, r⟩ := key h0
    exact ⟨g, C, e, hP, u.heap hg hf, r⟩
  · obtain ⟨g, C, e, hP, hg, hf, r⟩ := key h0
    exact (u.src hs (fun b o e' f => by rw [e] at e'; injection e' with e'; injection e' with e1; subst e1; exact hf f)).2 h0

theorem copy1_go (args : Array Value) (w : World) : (callFunc 74 args).run Try.prog w = .ok (.enter 74 args) w := by kernel_rfl

theorem allS_mk {s : Ar → Ar → Prop} : ∀ (hs qs : List Ar), hs.length = qs.length → (∀ j (h1 : j < hs.length) (h2 : j < qs.length), s hs[j] qs[j]) → AllS s hs qs
  | [], [], _, _ => trivial
  | a :: hs, b :: qs, hl, h => ⟨h 0 (by simp) (by simp), allS_mk hs qs (by simpa using hl) (fun j h1 h2 => h (j + 1) (Nat.succ_lt_succ h1) (Nat.succ_lt_succ h2))⟩

/-- What the walk leaves of a row. -/
def Cpr (w0 W W' : World) (d : Nat) (a : Option Addr) (qs qs' : List Ar) : Prop :=
  0 < qs.length → ∃ (g : Nat) (C : Array Value), a = some ⟨g, 0, none⟩ ∧ w0.heap.size ≤ g ∧ W'.heap[g]? = some (.cells C 30 (0, 0)) ∧ ∀ j, ∀ h : j < qs'.length, HdAt W' g (0 + j * 4) qs'[j].h ∧ Ocp (W.heap.size ≤ ·) d W' qs'[j]

/-- One argument more is copied. -/
theorem thr1_step {w0 W V wr w2 w3 w4 : World} {d n i g kc bc : Nat} {C : Array Value} {hs qs qs4 : List Ar} {A : Ar} {ka ba : Option Addr} {hh : Hd} (hL : hs.length = n) (hN : qs.length = n) (hI : ∀ j (h1 : j < hs.length) (h2 : j < qs.length), (j < i → SameA (d + 1) hs[j] qs[j] ∧ Ocp (W.heap.size ≤ ·) (d + 1) wr hs[j]) ∧ (i ≤ j → hs[j] = qs[j])) {hil : i < qs.length} (hA : A = qs[i]) (hlt : i < n) (hgW : g < W.heap.size) (hgB : w0.heap.size ≤ g)
    (hhh : hh = ⟨A.h.k, A.h.v, ka, A.h.kn, kc, ba, A.h.bn, bc, A.h.bs⟩) (hat : HdAt w2 g (i * 4) hh) (hatj : ∀ j, ∀ h : j < hs.length, j ≠ i → HdAt w2 g (0 + j * 4) hs[j].h) (hD : Cpd V w2 g i C A ka kc ba bc) (hk : A.ks.length = A.h.kn) (hl4 : qs4.length = A.ks.length) (hS4 : AllS (SameA d) qs4 A.ks) (hC4 : Cpr w0 w3 w4 d ka A.ks qs4)
    (hU4 : Upd (fun x => 0 < A.h.kn ∧ ka = some ⟨x, 0, none⟩) w2 w4) (hU2 : Upd (· = g) wr w2) (hrow : ∀ x, 0 < A.h.kn → ka = some ⟨x, 0, none⟩ → V.heap.size ≤ x ∧ ∃ C : Array Value, w2.heap[x]? = some (.cells C 30 (0, 0))) (hsr : wr.heap.size ≤ V.heap.size) (hsw : W.heap.size ≤ wr.heap.size) (hs3 : W.heap.size ≤ w3.heap.size) :
    (hs.set i (.mk hh qs4)).length = n ∧ (∀ j (h1 : j < (hs.set i (.mk hh qs4)).length) (h2 : j < qs.length), (j < i + 1 → SameA (d + 1) (hs.set i (.mk hh qs4))[j] qs[j] ∧ Ocp (W.heap.size ≤ ·) (d + 1) w4 (hs.set i (.mk hh qs4))[j]) ∧ (i + 1 ≤ j → (hs.set i (.mk hh qs4))[j] = qs[j])) ∧
    (w4.heap[g]? = some (.cells ((C.setIfInBounds (i * 4 + 2) (.slice ka A.h.kn kc)).setIfInBounds (i * 4 + 3) (.slice ba A.h.bn bc)) 30 (0, 0)) ∧ ∀ j, ∀ h : j < (hs.set i (.mk hh qs4)).length, HdAt w4 g (0 + j * 4) (hs.set i (.mk hh qs4))[j].h) ∧ Upd (· = g) wr w4 := by
  have hgF : ¬ (0 < A.h.kn ∧ ka = some ⟨g, 0, none⟩) := fun hf => by have := (hrow g hf.1 hf.2).1; omega
  have hg2 : g < w2.heap.size := (Array.getElem?_eq_some_iff.1 hD.blk).1
  have hb4 := hU4.block g hg2 hgF
  have hUr4 : Upd (· = g) wr w4 := hU2.trans hU4 (fun x hx hf => by have := (hrow x hf.1 hf.2).1; omega)
  have hTy : ∀ x, 0 < A.h.kn ∧ ka = some ⟨x, 0, none⟩ → ∃ C : Array Value, w2.heap[x]? = some (.cells C 30 (0, 0)) := fun x hf => (hrow x hf.1 hf.2).2
  obtain ⟨hby, hsr4⟩ := hD.byt.keep hU4 hTy
  have hnew : Ocp (W.heap.size ≤ ·) (d + 1) w4 (.mk hh qs4) := by
    rw [hhh]
    refine ⟨⟨hsr4 _ hD.src, hD.bm, hD.bb, hD.km, hD.kb⟩, fun h0 => ?_, by show qs4.length = A.h.kn; omega, fun h0 => ?_⟩
    · obtain ⟨g', C', e, hP, r⟩ := hby h0
      have hP' : V.heap.size ≤ g' := hP
      exact ⟨g', C', e, by show W.heap.size ≤ g'; omega, r⟩
    · have h0' : 0 < qs4.length := h0
      obtain ⟨g', C', e, _, hg', hc'⟩ := hC4 (by omega)
      have hV' := (hrow g' (by omega) e).1
      exact ⟨g', C', e, by show W.heap.size ≤ g'; omega, hg', fun j hj => ⟨(hc' j hj).1, Ocp.mono (fun x (hx : w3.heap.size ≤ x) => by show W.heap.size ≤ x; omega) d _ (hc' j hj).2⟩⟩
  have hsame : SameA (d + 1) (.mk hh qs4) A := by
    rw [hhh]
    exact ⟨rfl, rfl, rfl, hS4⟩
  refine ⟨by simpa using hL, fun j h1 h2 => ?_, ⟨hb4.trans hD.blk, fun j hj => ?_⟩, hUr4⟩
  · have h1' : j < hs.length := by simpa using h1
    by_cases e : j = i
    · subst e
      refine ⟨fun _ => ?_, fun h => by omega⟩
      simp only [List.getElem_set_self]
      exact ⟨hA ▸ hsame, hnew⟩
    · have e' : (hs.set i (.mk hh qs4))[j] = hs[j] := by rw [List.getElem_set_ne (fun h => e h.symm)]
      rw [e']
      obtain ⟨p1, p2⟩ := hI j h1' h2
      refine ⟨fun hj => ?_, fun hj => p2 (by omega)⟩
      obtain ⟨s1, s2⟩ := p1 (by omega)
      exact ⟨s1, Ocp.upd hUr4 (fun x (hx : W.heap.size ≤ x) e => by omega) (d + 1) _ s2⟩
  · have hj' : j < hs.length := by simpa using hj
    by_cases e : j = i
    · subst e
      simp only [List.getElem_set_self, Ar.h]
      rw [Nat.zero_add]
      exact hat.blk hb4
    · have e' : (hs.set i (.mk hh qs4))[j] = hs[j] := by rw [List.getElem_set_ne (fun h => e h.symm)]
      rw [e']
      exact (hatj j hj' e).blk hb4

set_option maxHeartbeats 16000000 in
theorem through1 (w0 : World) : ∀ (d : Nat) (a : Option Addr) (n c : Nat) (qs : List Ar) (W : World), Below w0.heap.size w0 W → OwnR w0.heap.size W a qs → (∀ j, ∀ h : j < qs.length, Okd d w0 qs[j]) → qs.length = n → n ≤ c → c ≤ 9223372036854775807 → fewL d qs →
    Calls Try.prog 50 #[.agg #[.slice none 0 0, .slice none 0 0], .agg #[.slice a n c, .slice none 0 0, .slice none 0 0], .func (.func 74) #[] #[]] W fun e W' => e = .returned (.tuple #[]) ∧ ∃ qs', qs'.length = qs.length ∧ AllS (SameA d) qs' qs ∧ Cpr w0 W W' d a qs qs' ∧ Upd (fun x => 0 < n ∧ a = some ⟨x, 0, none⟩) W W' := by
  intro d
  induction d with
  | zero =>
    intro a n c qs W hW hO hK hn hc hb hw
    have h0 : qs.length = 0 := by
      rcases Nat.eq_zero_or_pos qs.length with h | h
      · exact h
      · exact (hK 0 h).elim
    obtain rfl : qs = [] := List.eq_nil_of_length_eq_zero h0
    obtain rfl : n = 0 := hn.symm
    clear hO hK hW
    go_enter Try.func50, Try.ntmps50
    go_wp2_with fail
    go_loop [11] (fun k => k = .int .i64 0) (fun _ => 0)
    case atStart => rfl
    case round =>
      subst hrel
      go_wp2_with fail
      go_end0
      exact ⟨rfl, trivial, fun h => absurd h (Nat.lt_irrefl 0), Upd.of_below (below_box2 _ _ _)⟩
  | succ d ih =>
    intro a n c qs W hW hO hK hn hc hb hw
    rcases Nat.eq_zero_or_pos n with hz | hn0
    · subst hz
      obtain rfl : qs = [] := List.eq_nil_of_length_eq_zero hn
      clear hO hK hW ih
      go_enter Try.func50, Try.ntmps50
      go_wp2_with fail
      go_loop [11] (fun k => k = .int .i64 0) (fun _ => 0)
      case atStart => rfl
      case round =>
        subst hrel
        go_wp2_with fail
        go_end0
        exact ⟨rfl, trivial, fun h => absurd h (Nat.lt_irrefl 0), Upd.of_below (below_box2 _ _ _)⟩
    obtain ⟨g, C0, rfl, hgB, hg0, hat0⟩ := hO (by omega)
    have hgW : g < W.heap.size := (Array.getElem?_eq_some_iff.1 hg0).1
    have HW := hid hW
    have HK := hid hK
    have HN := hid hn
    have IH := hid ih
    have HG0 := hid hg0
    have HAT0 := hid hat0
    have HWT := hid hw
    clear hO hK hW ih hg0 hat0 hn hw
    go_enter Try.func50, Try.ntmps50
    go_wp2_with fail
    obtain ⟨X, gX⟩ : ∃ X, X = (W.alloc (.cells #[.slice none 0 0, .slice none 0 0] 25)).alloc (.cells #[.slice (some ⟨g, 0, none⟩) n c, .slice none 0 0, .slice none 0 0] 58) := ⟨_, rfl⟩
    rw [← gX]
    have hXB : Below W.heap.size W X := by rw [gX]; exact below_box2 _ _ _
    have hXs : X.heap.size = W.heap.size + 1 + 1 := by rw [gX]; simp
    have x30 : X.heap[W.heap.size]? = some (.cells #[.slice none 0 0, .slice none 0 0] 25 (0, 0)) := by
      rw [gX, (below_box _ _).block _ (by simp)]; exact heap_alloc_new _ _
    have x40 : X.heap[W.heap.size + 1]? = some (.cells #[.slice (some ⟨g, 0, none⟩) n c, .slice none 0 0, .slice none 0 0] 58 (0, 0)) := by
      rw [gX]; have := heap_alloc_new (W.alloc (.cells #[.slice none 0 0, .slice none 0 0] 25)) (.cells #[.slice (some ⟨g, 0, none⟩) n c, .slice none 0 0, .slice none 0 0] 58); simpa using this
    have HXB := hid hXB
    have HXs := hid hXs
    have HX3 := hid x30
    have HX4 := hid x40
    clear gX hXB hXs x30 x40
    go_loopw [11] (fun k wr => ∃ (i : Nat) (hs : List Ar) (C : Array Value), i ≤ n ∧ k = .int .i64 i ∧ Hid (hs.length = n) ∧ Hid (∀ j (h1 : j < hs.length) (h2 : j < qs.length), (j < i → SameA (d + 1) hs[j] qs[j] ∧ Ocp (W.heap.size ≤ ·) (d + 1) wr hs[j]) ∧ (i ≤ j → hs[j] = qs[j])) ∧ Hid (wr.heap[g]? = some (.cells C 30 (0, 0)) ∧ ∀ j, ∀ h : j < hs.length, HdAt wr g (0 + j * 4) hs[j].h) ∧ Hid (Upd (· = g) X wr)) (fun k _ => n - (intOf k).toNat)
    case atStart => exact ⟨0, qs, C0, Nat.zero_le _, rfl, HN, hid (fun j h1 h2 => ⟨fun h => absurd h (Nat.not_lt_zero _), fun _ => rfl⟩), hid ⟨(HXB.out.block g hgW).trans HG0.out, fun j hj => (HAT0.out j hj).blk (HXB.out.block g hgW)⟩, hid (Upd.refl _ _)⟩
    case round =>
      obtain ⟨i, hs, C, hi, rfl, HL, HI, HGr, HUX⟩ := hrel
      have hWs := HXs.out
      by_cases hlt : i < n
      · have hil : i < qs.length := by rw [HN.out]; exact hlt
        have hih : i < hs.length := by rw [HL.out]; exact hlt
        have hei := (HI.out i hih hil).2 (Nat.le_refl _)
        have hOk0 := HK.out i hil
        have hwt : fewA (d + 1) qs[i] := HWT.out.2 _ (List.getElem_mem hil)
        have hAtr := HGr.out.2 i hih
        rw [hei, Nat.zero_add] at hAtr
        obtain ⟨A, hA⟩ : ∃ A, A = qs[i] := ⟨_, rfl⟩
        rw [← hA] at hAtr hOk0 hwt
        have HAe := hid hA
        have UW : Hid (Upd (· = g) W wr) := hid ((Upd.of_below HXB.out).trans HUX.out (fun _ _ h => h))
        have HKey : Hid (∀ Z : World, Upd (· = g) W Z → Below w0.heap.size w0 Z) := hid (fun Z u => HW.out.trans (u.below HW.out.size (fun x hx => by omega)))
        have hsw := UW.out.size
        have hsx := HUX.out.size
        have kat : Hid (Calls Try.prog 79 #[.agg #[.slice (some ⟨g, 0, none⟩) n c, .slice none 0 0, .slice none 0 0], .agg #[.slice none 0 0, .slice none 0 0], .int .i64 i] wr fun e w' => e = .returned (.agg (spZ g (i * 4) (some ⟨g, 0, none⟩) n c).toArray) ∧ Below wr.heap.size wr w') := hid (by have := at_none g 0 i n c wr hlt hc hb; rw [Nat.zero_add] at this; exact this)
        have y3 := HUX.out.heap HX3.out (show ¬ W.heap.size = g by omega)
        have y4 := HUX.out.heap HX4.out (show ¬ W.heap.size + 1 = g by omega)
        have t0 : wr.cell? ⟨W.heap.size, 0, none⟩ = some (.slice none 0 0) := cell_of_row wr _ 0 _ _ _ y3
        have t1 : wr.cell? ⟨W.heap.size, 1, none⟩ = some (.slice none 0 0) := cell_of_row wr _ 1 _ _ _ y3
        have r0 : wr.cell? ⟨W.heap.size + 1, 0, none⟩ = some (.slice (some ⟨g, 0, none⟩) n c) := cell_of_row wr _ 0 _ _ _ y4
        have r1 : wr.cell? ⟨W.heap.size + 1, 1, none⟩ = some (.slice none 0 0) := cell_of_row wr _ 1 _ _ _ y4
        have r2 : wr.cell? ⟨W.heap.size + 1, 2, none⟩ = some (.slice none 0 0) := cell_of_row wr _ 2 _ _ _ y4
        have HY3 := hid y3
        have HOk := hid hOk0
        have HAtr := hid hAtr
        have HWA : Hid (fewA (d + 1) A) := hid hwt
        clear y3 y4 hAtr hOk0 hwt hei hA hih
        go_wp2_with fail
        refine kat.out.mono ?_
        rintro e w1 ⟨rfl, hb1⟩
        have hs1 : wr.heap.size ≤ w1.heap.size := hb1.size
        obtain ⟨V, gV⟩ : ∃ V, w1.alloc (.cells (spZ g (i * 4) (some ⟨g, 0, none⟩) n c).toArray 81) = V := ⟨_, rfl⟩
        have hbV : Below wr.heap.size wr V := by rw [← gV]; exact hb1.trans ((below_box w1 _).mono hs1)
        have hsV : V.heap.size = w1.heap.size + 1 := by rw [← gV]; simp
        have uV : Upd (· = g) W V := UW.out.trans (Upd.of_below (F := (· = g)) hbV) (fun _ _ h => h)
        have v7 : V.heap[w1.heap.size]? = some (.cells (spZ g (i * 4) (some ⟨g, 0, none⟩) n c).toArray 81 (0, 0)) := by rw [← gV]; exact heap_alloc_new _ _
        have hgr : g < wr.heap.size := by omega
        have vg : V.heap[g]? = some (.cells C 30 (0, 0)) := (hbV.block g hgr).trans HGr.out.1
        have hbw0 := HKey.out V uV
        obtain ⟨ho1, ho2, ho3⟩ := HOk.out
        obtain ⟨hw1, hw2, hw3⟩ := HWA.out
        have hwk : fewL d A.ks := ⟨by omega, hw3⟩
        have kvs := hid (copy1_any d V g i C A (some ⟨g, 0, none⟩) n c vg (HAtr.out.blk (hbV.block g hgr)) (ho1.below hbw0) (Krow.below ho3 hbw0) ho2 hw1 hw2 (fun hp b o e => by
          obtain ⟨b', o', e', hl', _⟩ := ho1.bs.2 hp
          rw [e] at e'
          injection e' with e'
          injection e' with e1
          omega))
        have hgo := copy1_go
        have GV : Hid (w1.alloc (.cells #[.pointer (some ⟨g, i * 4, none⟩), .int .i64 (-1), .int .i64 0, .int .i64 0, .int .i64 0, .int .i64 0, .int .i64 0, .string .empty, .slice none 0 0, .slice none 0 0, .slice none 0 0, .slice none 0 0, .slice (some ⟨g, 0, none⟩) n c, .slice none 0 0, .slice none 0 0] 81) = V) := hid gV
        have HV7 := hid v7
        have HBV := hid hbV
        have HUV := hid uV
        have HSV := hid hsV
        have HVG := hid vg
        have HWK := hid hwk
        have HO1 := hid ho1
        have HO2 := hid ho2
        have HO3 : Hid (∀ j, ∀ h : j < A.ks.length, Okd d w0 A.ks[j]) := hid (fun j hj => by
          obtain ⟨b, o, _, _, hc⟩ := ho3 (by omega)
          exact (hc j hj).2)
        clear hb1 kat t0 t1 r0 r1 r2 gV v7 hbV uV hbw0 hsV vg ho1 ho2 ho3 hw1 hw2 hw3 hwk
        unfold spZ
        go_wp2_with fail
        rw [GV.out]
        refine kvs.out.mono ?_
        rintro e w2 ⟨rfl, ka, kc, ba, bc, hD⟩
        have hsV := HSV.out
        have hs2 := hD.upd.size
        have hb2s := HBV.out.size
        have ht2 : w2.heap[W.heap.size]? = some (.cells #[.slice none 0 0, .slice none 0 0] 25 (0, 0)) := (hD.upd.block _ (by omega) (by omega)).trans ((HBV.out.block _ (by omega)).trans HY3.out)
        have hq2 : w2.heap[w1.heap.size]? = some (.cells (spZ g (i * 4) (some ⟨g, 0, none⟩) n c).toArray 81 (0, 0)) := (hD.upd.block _ (by omega) (by omega)).trans HV7.out
        have hU2 : Upd (· = g) W w2 := HUV.out.trans hD.upd (fun _ _ h => h)
        have hU2r : Upd (· = g) wr w2 := (Upd.of_below (F := (· = g)) HBV.out).trans hD.upd (fun _ _ h => h)
        have HB2 : Hid (Below w0.heap.size w0 w2) := hid (HKey.out w2 hU2)
        obtain ⟨hh, ghh⟩ : ∃ hh : Hd, hh = ⟨A.h.k, A.h.v, ka, A.h.kn, kc, ba, A.h.bn, bc, A.h.bs⟩ := ⟨_, rfl⟩
        obtain ⟨cc0, cc1, cc2, cc3⟩ := hd_cells HVG.out (HAtr.out.blk (HBV.out.block g hgr))
        have hat2 : HdAt w2 g (i * 4) hh := by
          have hlt3 := (Array.getElem?_eq_some_iff.1 cc3).1
          rw [ghh]
          refine ⟨?_, ?_, ?_, ?_⟩
          · rw [cell_of_row w2 g (i * 4) _ _ _ hD.blk, Array.getElem?_setIfInBounds_ne (by omega), Array.getElem?_setIfInBounds_ne (by omega)]; exact cc0
          · rw [cell_of_row w2 g (i * 4 + 1) _ _ _ hD.blk, Array.getElem?_setIfInBounds_ne (by omega), Array.getElem?_setIfInBounds_ne (by omega)]; exact cc1
          · rw [cell_of_row w2 g (i * 4 + 2) _ _ _ hD.blk, Array.getElem?_setIfInBounds_ne (by omega), Array.getElem?_setIfInBounds_self_of_lt (by omega)]
          · rw [cell_of_row w2 g (i * 4 + 3) _ _ _ hD.blk, Array.getElem?_setIfInBounds_self_of_lt (by simp; omega)]
        have hatj : ∀ j, ∀ h : j < hs.length, j ≠ i → HdAt w2 g (0 + j * 4) hs[j].h := fun j hj hne => by
          have := hd_cells HGr.out.1 (HGr.out.2 j hj)
          rw [Nat.zero_add] at this ⊢
          obtain ⟨e0, e1, e2, e3⟩ := this
          refine ⟨?_, ?_, ?_, ?_⟩
          · rw [cell_of_row w2 g (j * 4) _ _ _ hD.blk, Array.getElem?_setIfInBounds_ne (by omega), Array.getElem?_setIfInBounds_ne (by omega)]; exact e0
          · rw [cell_of_row w2 g (j * 4 + 1) _ _ _ hD.blk, Array.getElem?_setIfInBounds_ne (by omega), Array.getElem?_setIfInBounds_ne (by omega)]; exact e1
          · rw [cell_of_row w2 g (j * 4 + 2) _ _ _ hD.blk, Array.getElem?_setIfInBounds_ne (by omega), Array.getElem?_setIfInBounds_ne (by omega)]; exact e2
          · rw [cell_of_row w2 g (j * 4 + 3) _ _ _ hD.blk, Array.getElem?_setIfInBounds_ne (by omega), Array.getElem?_setIfInBounds_ne (by omega)]; exact e3
        have hg2 : g < w2.heap.size := by omega
        have kk := hid (fun wx (hx : Below w2.heap.size w2 wx) => kids_none g (i * 4) hh (some ⟨g, 0, none⟩) n c wx (Nat.lt_of_lt_of_le hg2 hx.size) (hat2.blk (hx.block g hg2)))
        unfold spZ at kk
        have e1 : hh.ka = ka := by rw [ghh]
        have e2 : hh.kn = A.h.kn := by rw [ghh]
        have e3 : hh.kc = kc := by rw [ghh]
        rw [e1, e2, e3] at kk
        have HD := hid hD
        have HAT2 := hid hat2
        have HATJ := hid hatj
        have HU2r := hid hU2r
        have HHH := hid ghh
        have hw2a : W.heap.size < w2.heap.size := by omega
        have hw2b : w1.heap.size < w2.heap.size := by omega
        have z00 : w2.cell? ⟨W.heap.size, 0, none⟩ = some (.slice none 0 0) := cell_of_row w2 _ 0 _ _ _ ht2
        have z01 : w2.cell? ⟨W.heap.size, 1, none⟩ = some (.slice none 0 0) := cell_of_row w2 _ 1 _ _ _ ht2
        have z0 : w2.cell? ⟨w1.heap.size, 0, none⟩ = some (.pointer (some ⟨g, i * 4, none⟩)) := cell_of_row w2 _ 0 _ _ _ hq2
        have z1 : w2.cell? ⟨w1.heap.size, 1, none⟩ = some (.int .i64 (-1)) := cell_of_row w2 _ 1 _ _ _ hq2
        have z2 : w2.cell? ⟨w1.heap.size, 2, none⟩ = some (.int .i64 0) := cell_of_row w2 _ 2 _ _ _ hq2
        have z3 : w2.cell? ⟨w1.heap.size, 3, none⟩ = some (.int .i64 0) := cell_of_row w2 _ 3 _ _ _ hq2
        have z4 : w2.cell? ⟨w1.heap.size, 4, none⟩ = some (.int .i64 0) := cell_of_row w2 _ 4 _ _ _ hq2
        have z5 : w2.cell? ⟨w1.heap.size, 5, none⟩ = some (.int .i64 0) := cell_of_row w2 _ 5 _ _ _ hq2
        have z6 : w2.cell? ⟨w1.heap.size, 6, none⟩ = some (.int .i64 0) := cell_of_row w2 _ 6 _ _ _ hq2
        have z7 : w2.cell? ⟨w1.heap.size, 7, none⟩ = some (.string .empty) := cell_of_row w2 _ 7 _ _ _ hq2
        have z8 : w2.cell? ⟨w1.heap.size, 8, none⟩ = some (.slice none 0 0) := cell_of_row w2 _ 8 _ _ _ hq2
        have z9 : w2.cell? ⟨w1.heap.size, 9, none⟩ = some (.slice none 0 0) := cell_of_row w2 _ 9 _ _ _ hq2
        have z10 : w2.cell? ⟨w1.heap.size, 10, none⟩ = some (.slice none 0 0) := cell_of_row w2 _ 10 _ _ _ hq2
        have z11 : w2.cell? ⟨w1.heap.size, 11, none⟩ = some (.slice none 0 0) := cell_of_row w2 _ 11 _ _ _ hq2
        have z12 : w2.cell? ⟨w1.heap.size, 12, none⟩ = some (.slice (some ⟨g, 0, none⟩) n c) := cell_of_row w2 _ 12 _ _ _ hq2
        have z13 : w2.cell? ⟨w1.heap.size, 13, none⟩ = some (.slice none 0 0) := cell_of_row w2 _ 13 _ _ _ hq2
        have z14 : w2.cell? ⟨w1.heap.size, 14, none⟩ = some (.slice none 0 0) := cell_of_row w2 _ 14 _ _ _ hq2
        have kr : Hid (∀ w3, Below w2.heap.size w2 w3 → Calls Try.prog 50 #[.agg #[.slice none 0 0, .slice none 0 0], .agg #[.slice ka A.h.kn kc, .slice none 0 0, .slice none 0 0], .func (.func 74) #[] #[]] w3 fun e W' => e = .returned (.tuple #[]) ∧ ∃ qs', qs'.length = A.ks.length ∧ AllS (SameA d) qs' A.ks ∧ Cpr w0 w3 W' d ka A.ks qs' ∧ Upd (fun x => 0 < A.h.kn ∧ ka = some ⟨x, 0, none⟩) w3 W') := hid (fun w3 hx => IH.out ka A.h.kn kc A.ks w3 (HB2.out.trans (hx.mono HB2.out.size)) ((HD.out.row.below hx).base (by have := HB2.out.size; have := HW.out.size; omega)) HO3.out HO2.out HD.out.km HD.out.kb HWK.out)
        have hrow : ∀ x, 0 < A.h.kn → ka = some ⟨x, 0, none⟩ → V.heap.size ≤ x ∧ ∃ C : Array Value, w2.heap[x]? = some (.cells C 30 (0, 0)) := fun x h0 e => by
          obtain ⟨g', C', e', hB', hg', _⟩ := HD.out.row (by have := HO2.out; omega)
          rw [e] at e'
          injection e' with e'
          injection e' with e1
          subst e1
          exact ⟨hB', C', hg'⟩
        have HROW := hid hrow
        clear hD ht2 hq2 hU2 hat2 hatj kvs hgo cc0 cc1 cc2 cc3 e1 e2 e3 ghh hrow
        go_wp2_with fail
        go_region_held3 (fun wx => wx.cell? ⟨W.heap.size, 0, none⟩ = some (.slice none 0 0) ∧ wx.cell? ⟨W.heap.size, 1, none⟩ = some (.slice none 0 0) ∧ wx.cell? ⟨w1.heap.size, 0, none⟩ = some (.pointer (some ⟨g, i * 4, none⟩)) ∧ wx.cell? ⟨w1.heap.size, 1, none⟩ = some (.int .i64 (-1)) ∧ wx.cell? ⟨w1.heap.size, 2, none⟩ = some (.int .i64 0) ∧ wx.cell? ⟨w1.heap.size, 3, none⟩ = some (.int .i64 0) ∧ wx.cell? ⟨w1.heap.size, 4, none⟩ = some (.int .i64 0) ∧ wx.cell? ⟨w1.heap.size, 5, none⟩ = some (.int .i64 0) ∧ wx.cell? ⟨w1.heap.size, 6, none⟩ = some (.int .i64 0) ∧ wx.cell? ⟨w1.heap.size, 7, none⟩ = some (.string .empty) ∧ wx.cell? ⟨w1.heap.size, 8, none⟩ = some (.slice none 0 0) ∧ wx.cell? ⟨w1.heap.size, 9, none⟩ = some (.slice none 0 0) ∧ wx.cell? ⟨w1.heap.size, 10, none⟩ = some (.slice none 0 0) ∧ wx.cell? ⟨w1.heap.size, 11, none⟩ = some (.slice none 0 0) ∧ wx.cell? ⟨w1.heap.size, 12, none⟩ = some (.slice (some ⟨g, 0, none⟩) n c) ∧ wx.cell? ⟨w1.heap.size, 13, none⟩ = some (.slice none 0 0) ∧ wx.cell? ⟨w1.heap.size, 14, none⟩ = some (.slice none 0 0)) (go_keep) (first
          | (go_at_call 80; refine (kk.out _ (below_hp (Below.refl _ w2) (by rfl) (by rfl) (by rfl) (by rfl))).mono ?_; rintro e w3 ⟨rfl, hb3⟩; have hb3' : Below w2.heap.size w2 w3 := (below_hp (Below.refl _ w2) (by rfl) (by rfl) (by rfl) (by rfl)).trans hb3; have HB3 := hid hb3'; have y3 : ∀ o, w3.cell? ⟨W.heap.size, o, none⟩ = w2.cell? ⟨W.heap.size, o, none⟩ := (fun o => HB3.out.cell (p := ⟨W.heap.size, o, none⟩) hw2a); have y4 : ∀ o, w3.cell? ⟨w1.heap.size, o, none⟩ = w2.cell? ⟨w1.heap.size, o, none⟩ := (fun o => HB3.out.cell (p := ⟨w1.heap.size, o, none⟩) hw2b); have hs23 : w2.heap.size ≤ w3.heap.size := HB3.out.size; clear hb3 hb3')
          | (go_at_call 50; refine (kr.out _ (below_hp HB3.out (by rfl) (by rfl) (by rfl) (by rfl))).mono ?_; rintro e w4 ⟨rfl, qs4, hl4, hS4, hC4, hu4⟩; have hu4' : Upd (fun x => 0 < A.h.kn ∧ ka = some ⟨x, 0, none⟩) w3 w4 := hu4; have y5 : ∀ o, w4.cell? ⟨W.heap.size, o, none⟩ = w2.cell? ⟨W.heap.size, o, none⟩ := (fun o => (World.cell?_of_block (a := ⟨W.heap.size, o, none⟩) (hu4'.block W.heap.size (Nat.lt_of_lt_of_le hw2a hs23) (fun hf => by have := (HROW.out _ hf.1 hf.2).1; omega))).trans (y3 o)); have y6 : ∀ o, w4.cell? ⟨w1.heap.size, o, none⟩ = w2.cell? ⟨w1.heap.size, o, none⟩ := (fun o => (World.cell?_of_block (a := ⟨w1.heap.size, o, none⟩) (hu4'.block w1.heap.size (Nat.lt_of_lt_of_le hw2b hs23) (fun hf => by have := (HROW.out _ hf.1 hf.2).1; omega))).trans (y4 o)); have HL4 := hid hl4; have HS4 := hid hS4; have HC4 : Hid (Cpr w0 w3 w4 d ka A.ks qs4) := hid hC4; have HU4 : Hid (Upd (fun x => 0 < A.h.kn ∧ ka = some ⟨x, 0, none⟩) w2 w4) := hid ((Upd.of_below (F := fun x => 0 < A.h.kn ∧ ka = some ⟨x, 0, none⟩) HB3.out).trans hu4' (fun _ _ h => h)); clear hl4 hS4 hC4 hu4 hu4'))
        have HN4 := hid (thr1_step (n := n) HL.out HN.out HI.out HAe.out hlt hgW hgB HHH.out HAT2.out HATJ.out HD.out HO2.out HL4.out HS4.out HC4.out HU4.out HU2r.out HROW.out (by omega) (by omega) (by omega))
        go_wp2_with fail
        go_roundw
        case rel => exact ⟨i + 1, _, _, by omega, by go_num, hid HN4.out.1, hid HN4.out.2.1, hid HN4.out.2.2.1, hid (HUX.out.trans HN4.out.2.2.2 (fun _ _ h => h))⟩
        case measure => simp [intOf]; omega
      · obtain rfl : i = n := by omega
        have hlq : hs.length = qs.length := by rw [HL.out, HN.out]
        have HF : Hid (AllS (SameA (d + 1)) hs qs ∧ Cpr w0 W wr (d + 1) (some ⟨g, 0, none⟩) qs hs) := hid ⟨allS_mk hs qs hlq (fun j h1 h2 => ((HI.out j h1 h2).1 (by rw [HL.out] at h1; exact h1)).1), fun _ => ⟨g, C, rfl, hgB, HGr.out.1, fun j hj => ⟨HGr.out.2 j hj, ((HI.out j hj (by omega)).1 (by rw [HL.out] at hj; exact hj)).2⟩⟩⟩
        go_wp2_with fail
        go_end0
        exact ⟨rfl, hs, hlq, HF.out.1, HF.out.2, ((Upd.of_below HXB.out).trans HUX.out (fun _ _ h => h)).mono (fun x _ hx => ⟨hn0, by rw [hx]⟩)⟩

end Go.Proofs.Ytkgejeamcgodhaa
