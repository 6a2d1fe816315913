/- lex.Scan: the tokens of a text, or its first fault. -/
import Derived.Test.YtidcodpekeaigaaDoorLStep
import Derived.Test.YtidcodpekeaigaaDoorLScan1
import Derived.Deep.LoopGhost
namespace Go.Proofs.YtidcodpekeaigaaDoor
open Go.RowKit
set_option linter.unusedVariables false

/-- What Scan comes to. -/
def scanR (s : ByteArray) : Scn := if 4000 < s.size then .bad 0 4 else scanP s 0 []

/-- How Scan ends. -/
def Scanned (w : World) (r : Scn) (e : Ending) (w' : World) : Prop :=
  match r with
  | .toks l => ∃ v, e = .returned (.tuple #[v, .nilIface]) ∧ w'.ownsRow w.heap.size 33 4 v l.length (toks l)
  | .bad j why => e = .returned (.tuple #[.slice none 0 0, .iface 56 (.agg #[.int .i64 j, .int .i64 why])])

/-- The two results' variables, as they lie at the beginning. -/
def Rv (w : World) (b : Nat) : Prop := w.heap[b]? = some (.cells #[.slice none 0 0] 22 (0, 0)) ∧ w.heap[b + 1]? = some (.cells #[.nilIface] 24 (0, 0))

theorem Rv.below {B b : Nat} {w w' : World} (h : Rv w b) (u : Below B w w') (hb : b + 1 < B) : Rv w' b := ⟨by rw [u.block b (by omega)]; exact h.1, by rw [u.block (b + 1) hb]; exact h.2⟩
theorem Rv.drew {b : Nat} {w : World} (h : Rv w b) : Rv w.drew b := h

/-- The world behind the deferred call, where the scanner gave up. -/
def gone (W : World) (b j : Nat) (why : Int) : World := ((W.alloc (.cells #[.int .i64 j, .int .i64 why] 56)).setCell ⟨b, 0, none⟩ (.slice none 0 0)).setCell ⟨b + 1, 0, none⟩ (.iface 56 (.agg #[.int .i64 j, .int .i64 why]))

theorem rv_gone {W : World} {b j : Nat} {why : Int} (h : Rv W b) :
    ((W.alloc (.cells #[.int .i64 j, .int .i64 why] 56)).cell? ⟨b, 0, none⟩ = some (.slice none 0 0) ∧ (W.alloc (.cells #[.int .i64 j, .int .i64 why] 56)).frozen? ⟨b, 0, none⟩ = false) ∧
    (((W.alloc (.cells #[.int .i64 j, .int .i64 why] 56)).setCell ⟨b, 0, none⟩ (.slice none 0 0)).cell? ⟨b + 1, 0, none⟩ = some .nilIface ∧ ((W.alloc (.cells #[.int .i64 j, .int .i64 why] 56)).setCell ⟨b, 0, none⟩ (.slice none 0 0)).frozen? ⟨b + 1, 0, none⟩ = false) ∧
    (gone W b j why).cell? ⟨b, 0, none⟩ = some (.slice none 0 0) ∧ (gone W b j why).cell? ⟨b + 1, 0, none⟩ = some (.iface 56 (.agg #[.int .i64 j, .int .i64 why])) ∧ Below b W (gone W b j why) := by
  have l1 : b + 1 < W.heap.size := (Array.getElem?_eq_some_iff.1 h.2).1
  have hal : Below W.heap.size W (W.alloc (.cells #[.int .i64 j, .int .i64 why] 56)) := (Below.refl _ _).alloc (Nat.le_refl _) _
  have h1 := h.below hal l1
  have a0 := heap_setCell_same (W.alloc (.cells #[.int .i64 j, .int .i64 why] 56)) b 0 _ _ (.slice none 0 0) h1.1
  have a1 : ((W.alloc (.cells #[.int .i64 j, .int .i64 why] 56)).setCell ⟨b, 0, none⟩ (.slice none 0 0)).heap[b + 1]? = some (.cells #[.nilIface] 24 (0, 0)) := by
    rw [heap_setCell_other _ ⟨b, 0, none⟩ (b + 1) _ (by simp)]; exact h1.2
  have b1 := heap_setCell_same ((W.alloc (.cells #[.int .i64 j, .int .i64 why] 56)).setCell ⟨b, 0, none⟩ (.slice none 0 0)) (b + 1) 0 _ _ (.iface 56 (.agg #[.int .i64 j, .int .i64 why])) a1
  have b0 : (gone W b j why).heap[b]? = some (.cells #[.slice none 0 0] 22 (0, 0)) := by
    unfold gone
    rw [heap_setCell_other _ ⟨b + 1, 0, none⟩ b _ (by simp), a0]; rfl
  refine ⟨⟨heap_cells h1.1 _ _ rfl, by simp [World.frozen?, h1.1]⟩, ⟨heap_cells a1 _ _ rfl, by simp [World.frozen?, a1]⟩, heap_cells b0 _ _ rfl, heap_cells (show (gone W b j why).heap[b + 1]? = _ from b1) _ _ rfl, ?_⟩
  have u : Upd (fun k => b ≤ k) (W.alloc (.cells #[.int .i64 j, .int .i64 why] 56)) (gone W b j why) := (Upd.setCell (F := fun k => b ≤ k) _ ⟨b, 0, none⟩ _ (Nat.le_refl b)).trans (Upd.setCell (F := fun k => b ≤ k) _ ⟨b + 1, 0, none⟩ _ (Nat.le_succ b)) (fun _ _ h => h)
  exact (hal.mono (by omega)).trans (u.below (Nat.le_trans (by omega) hal.size) (fun x hx => hx))

/-- The world behind the return. -/
def done (W : World) (b : Nat) (v : Value) : World := (W.setCell ⟨b, 0, none⟩ v).setCell ⟨b + 1, 0, none⟩ .nilIface
theorem rv_done {W : World} {b : Nat} {v : Value} (h : Rv W b) :
    (W.cell? ⟨b, 0, none⟩ = some (.slice none 0 0) ∧ W.frozen? ⟨b, 0, none⟩ = false) ∧
    ((W.setCell ⟨b, 0, none⟩ v).cell? ⟨b + 1, 0, none⟩ = some .nilIface ∧ (W.setCell ⟨b, 0, none⟩ v).frozen? ⟨b + 1, 0, none⟩ = false) ∧
    (done W b v).cell? ⟨b, 0, none⟩ = some v ∧ (done W b v).cell? ⟨b + 1, 0, none⟩ = some .nilIface ∧ Upd (fun k => k = b ∨ k = b + 1) W (done W b v) := by
  have a0 := heap_setCell_same W b 0 _ _ v h.1
  have a1 : (W.setCell ⟨b, 0, none⟩ v).heap[b + 1]? = some (.cells #[.nilIface] 24 (0, 0)) := by
    rw [heap_setCell_other _ ⟨b, 0, none⟩ (b + 1) _ (by simp)]; exact h.2
  have b1 := heap_setCell_same (W.setCell ⟨b, 0, none⟩ v) (b + 1) 0 _ _ .nilIface a1
  have b0 : (done W b v).heap[b]? = some (.cells #[v] 22 (0, 0)) := by
    unfold done
    rw [heap_setCell_other _ ⟨b + 1, 0, none⟩ b _ (by simp), a0]; rfl
  exact ⟨⟨heap_cells h.1 _ _ rfl, by simp [World.frozen?, h.1]⟩, ⟨heap_cells a1 _ _ rfl, by simp [World.frozen?, a1]⟩, heap_cells b0 _ _ rfl, heap_cells (show (done W b v).heap[b + 1]? = _ from b1) _ _ rfl,
    (Upd.setCell (F := fun k => k = b ∨ k = b + 1) _ ⟨b, 0, none⟩ _ (.inl rfl)).trans (Upd.setCell (F := fun k => k = b ∨ k = b + 1) _ ⟨b + 1, 0, none⟩ _ (.inr rfl)) (fun _ _ h => h)⟩

theorem rv_new (w : World) : Rv ((w.alloc (.cells #[.slice none 0 0] 22)).alloc (.cells #[.nilIface] 24)) w.heap.size ∧ Below w.heap.size w ((w.alloc (.cells #[.slice none 0 0] 22)).alloc (.cells #[.nilIface] 24)) := by
  have h1 : Below w.heap.size w (w.alloc (.cells #[.slice none 0 0] 22)) := (Below.refl _ _).alloc (Nat.le_refl _) _
  have h2 : Below (w.alloc (.cells #[.slice none 0 0] 22)).heap.size (w.alloc (.cells #[.slice none 0 0] 22)) ((w.alloc (.cells #[.slice none 0 0] 22)).alloc (.cells #[.nilIface] 24)) := (Below.refl _ _).alloc (Nat.le_refl _) _
  have hz : (w.alloc (.cells #[.slice none 0 0] 22)).heap.size = w.heap.size + 1 := by simp
  refine ⟨⟨by rw [h2.block _ (by omega)]; exact heap_alloc_new w _, ?_⟩, h1.trans (h2.mono (by omega))⟩
  have := heap_alloc_new (w.alloc (.cells #[.slice none 0 0] 22)) (.cells #[.nilIface] 24)
  rw [hz] at this
  exact this

set_option maxRecDepth 100000 in
set_option maxHeartbeats 4000000 in
theorem scan_any (s : ByteArray) (w : World) (hs : s.size ≤ 140737488355328) :
    Calls Tryd.prog 4 #[.string s] w fun e w' => Scanned w (scanR s) e w' ∧ Below w.heap.size w w' := by
  have hmf : ∀ (fn : Fn) (first cap : Array Value) (w : World), (Instr.makeFunc fn first cap).run Tryd.prog w = .ok (.func fn first cap) w := fun _ _ _ _ => rfl
  by_cases hl : 4000 < s.size
  · have c1 : (4000 : Int) < (s.size : Int) := by omega
    have hR : scanR s = .bad 0 4 := by unfold scanR; rw [if_pos hl]
    rw [hR]
    have k1 := hid (giveup_any 0 4 ((w.alloc (.cells #[.slice none 0 0] 22)).alloc (.cells #[.nilIface] 24)))
    clear hR hl hs
    go_enter_defers Tryd.func4, Tryd.ntmps4
    go_wp2_with fail
    refine k1.out.mono ?_
    rintro e w1 ⟨rfl, rfl⟩
    go_wp2_with fail
    obtain ⟨W, gW⟩ : ∃ W, W = (w.alloc (.cells #[.slice none 0 0] 22)).alloc (.cells #[.nilIface] 24) := ⟨_, rfl⟩
    have hn := rv_new w
    rw [← gW] at hn ⊢
    obtain ⟨⟨p1, p2⟩, ⟨p3, p4⟩, p5, p6, p7⟩ := rv_gone hn.1 (j := 0) (why := 4)
    refine leaves_cons (f := 10) (args := #[.pointer (some ⟨w.heap.size, 0, none⟩), .pointer (some ⟨w.heap.size + 1, 0, none⟩)]) (by simp) (by simp [go_sem]) ?_
    refine (scan1_panic ⟨w.heap.size, 0, none⟩ ⟨w.heap.size + 1, 0, none⟩ 0 4 [] W _ _ p1 p2 p3 p4).mono ?_
    rintro e u' w'' ⟨rfl, rfl, rfl⟩
    change Leaves _ _ _ _ _ _ (gone W w.heap.size 0 4)
    have H7 := hid (hn.2.trans p7)
    clear p7 p1 p2 p3 p4 hn gW
    simp [Leaves, settle, results, Tryd.results4, go_sem, p5, p6]
    exact ⟨rfl, H7.out⟩
  · have hR : scanR s = scanP s 0 [] := by unfold scanR; rw [if_neg hl]
    rw [hR]
    have c1 : ¬ (4000 : Int) < (s.size : Int) := by omega
    obtain ⟨R, gR⟩ : ∃ R, R = scanP s 0 [] := ⟨_, rfl⟩
    rw [← gR]
    clear hR
    go_enter_defers Tryd.func4, Tryd.ntmps4
    go_wp2_with fail
    go_loopg [] (s.size) (fun g wr => ∃ (i : Nat) (l : List Tok), g = s.size - i ∧ i ≤ s.size ∧ l.length ≤ i ∧ Hid (Sk wr (w.heap.size + 1 + 1) s i l ∧ Rv wr w.heap.size ∧ Below w.heap.size w wr ∧ R = scanP s i l))
    case atStart =>
      have hn := rv_new w
      obtain ⟨W, gW⟩ : ∃ W, W = (w.alloc (.cells #[.slice none 0 0] 22)).alloc (.cells #[.nilIface] 24) := ⟨_, rfl⟩
      have hz : W.heap.size = w.heap.size + 1 + 1 := by rw [gW]; simp
      rw [← gW] at hn ⊢
      have hal : Below W.heap.size W (W.alloc (.cells #[.string s, .int .i64 0, .slice none 0 0] 40)) := (Below.refl _ _).alloc (Nat.le_refl _) _
      refine ⟨0, [], rfl, Nat.zero_le _, Nat.zero_le _, hid ⟨⟨_, ?_, World.ownsRow_nil _ _ _ _⟩, hn.1.below hal (by omega), hn.2.trans (hal.mono (by omega)), gR⟩⟩
      have := heap_alloc_new W (.cells #[.string s, .int .i64 0, .slice none 0 0] 40)
      rw [hz] at this
      exact this
    case round =>
      obtain ⟨i, l, hg, hi, hll, H⟩ := hrel
      obtain ⟨hsk, hrv, hbl, hr⟩ := H.out
      have hsk' := hsk
      obtain ⟨v, hc, ho⟩ := hsk'
      have k1 := hid (over_any (w.heap.size + 1 + 1) i s v wr hc)
      by_cases hlt : i < s.size
      · have e1 : decide (s.size ≤ i) = false := by simpa using hlt
        rw [e1] at k1
        have k2 := hid (step_any (w.heap.size + 1 + 1) i s l wr.drew hsk.hp hlt (by omega) (by omega))
        obtain ⟨S, gS⟩ : ∃ S, S = stepP s i := ⟨_, rfl⟩
        rw [← gS] at k2
        have GS := hid gS
        have HG := hid hg
        have HR := hid hr
        clear gS e1 hsk hrv hbl hr hc ho gR hg
        go_wp2_with fail
        refine k1.out.mono ?_
        rintro e w1 ⟨rfl, rfl⟩
        go_wp2_with fail
        refine k2.out.mono ?_
        intro e w2 h2
        rcases S with k | ⟨t, k⟩ | ⟨j, why⟩
        · obtain ⟨rfl, h3, h4⟩ := h2
          obtain ⟨hsk, hrv, hbl, hr⟩ := H.out
          have hst := stepP_skip hlt GS.out.symm
          have hgg := HG.out
          have HN : Hid (Sk w2 (w.heap.size + 1 + 1) s k l ∧ Rv w2 w.heap.size ∧ Below w.heap.size w w2 ∧ R = scanP s k l) := hid ⟨h3, hrv.drew.below h4 (by omega), hbl.trans (below_drew (h4.mono (by omega))), by rw [hr, scanP_skip hlt GS.out.symm]⟩
          clear h3 h4 hsk hrv hbl hr hgg
          go_wp2_with fail
          go_roundg (s.size - k)
          case measure => have := HG.out; omega
          case rel => exact ⟨k, l, rfl, hst.2, by omega, HN⟩
        · obtain ⟨rfl, h3, h4⟩ := h2
          obtain ⟨hsk, hrv, hbl, hr⟩ := H.out
          have hst := stepP_tok hlt GS.out.symm
          have HN : Hid (Sk w2 (w.heap.size + 1 + 1) s k (l ++ [t]) ∧ Rv w2 w.heap.size ∧ Below w.heap.size w w2 ∧ R = scanP s k (l ++ [t])) := hid ⟨h3, hrv.drew.below h4 (by omega), hbl.trans (below_drew (h4.mono (by omega))), by rw [hr, scanP_tok hlt GS.out.symm]⟩
          clear h3 h4 hsk hrv hbl hr
          go_wp2_with fail
          go_roundg (s.size - k)
          case measure => have := HG.out; omega
          case rel => exact ⟨k, l ++ [t], rfl, hst.2, by simp; omega, HN⟩
        · obtain ⟨rfl, h4⟩ := h2
          obtain ⟨hsk, hrv, hbl, hr⟩ := H.out
          have hR2 : R = .bad j why := by rw [hr, scanP_bad hlt GS.out.symm]
          have hrv2 := hrv.drew.below h4 (by omega)
          obtain ⟨⟨p1, p2⟩, ⟨p3, p4⟩, p5, p6, p7⟩ := rv_gone hrv2 (j := j) (why := why)
          have H7 := hid ((hbl.trans (below_drew (h4.mono (by omega)))).trans p7)
          have HP := hid (And.intro (And.intro p1 p2) (And.intro p3 p4))
          clear h4 hsk hrv hbl hr hrv2 p7 p1 p2 p3 p4
          have HR2 := hid hR2
          clear hR2
          go_wp2_with fail
          obtain ⟨⟨p1, p2⟩, p3, p4⟩ := HP.out
          refine leaves_cons (f := 10) (args := #[.pointer (some ⟨w.heap.size, 0, none⟩), .pointer (some ⟨w.heap.size + 1, 0, none⟩)]) (by simp) (by simp [go_sem]) ?_
          refine (scan1_panic ⟨w.heap.size, 0, none⟩ ⟨w.heap.size + 1, 0, none⟩ j why [] w2 _ _ p1 p2 p3 p4).mono ?_
          rintro e u' w'' ⟨rfl, rfl, rfl⟩
          change Leaves _ _ _ _ _ _ (gone w2 w.heap.size j why)
          clear p1 p2 p3 p4 HP
          simp [Leaves, settle, results, Tryd.results4, go_sem, p5, p6]
          rw [HR2.out]
          exact ⟨rfl, H7.out⟩
      · have e1 : decide (s.size ≤ i) = true := by simpa using hlt
        rw [e1] at k1
        have HR2 : Hid (R = .toks l) := hid (by rw [hr, scanP_over hlt])
        obtain ⟨va, vc, gv, _, _⟩ := own_shape ho
        subst gv
        have q2 := hc.tk
        obtain ⟨⟨p1, p2⟩, ⟨p3, p4⟩, p5, p6, p7⟩ := rv_done hrv (v := .slice va l.length vc)
        have HO : Hid ((done wr w.heap.size (.slice va l.length vc)).ownsRow w.heap.size 33 4 (.slice va l.length vc) l.length (toks l)) := by
          refine hid (own_base (p7.own ho (fun k hk e => ?_)) (show w.heap.size ≤ w.heap.size + 1 + 1 + 1 by omega))
          have := (ho.lt k hk).1
          omega
        have H7 : Hid (Below w.heap.size w (done wr w.heap.size (.slice va l.length vc))) := hid (hbl.trans (p7.below hbl.size (fun x hx => by omega)))
        clear p7 hsk hrv hbl hr hc ho gR e1
        go_wp2_with fail
        refine k1.out.mono ?_
        rintro e w1 ⟨rfl, rfl⟩
        go_wp2_with fail
        refine leaves_cons (f := 10) (args := #[.pointer (some ⟨w.heap.size, 0, none⟩), .pointer (some ⟨w.heap.size + 1, 0, none⟩)]) (by simp) (by simp [go_sem]) ?_
        refine (scan1_idle ⟨w.heap.size, 0, none⟩ ⟨w.heap.size + 1, 0, none⟩ _).mono ?_
        rintro e u' w'' ⟨rfl, rfl, rfl⟩
        change Leaves _ _ _ _ _ _ (done wr w.heap.size (.slice va l.length vc)).drew
        simp [Leaves, settle, results, Tryd.results4, go_sem, p5, p6]
        rw [HR2.out]
        exact ⟨⟨_, rfl, HO.out.drew⟩, H7.out.drew⟩

end Go.Proofs.YtidcodpekeaigaaDoor
