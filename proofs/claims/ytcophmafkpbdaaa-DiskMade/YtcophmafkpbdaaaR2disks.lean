/- What SameDisks does with a disk and the document's, that are the same. -/
import Derived.Test.YtcophmafkpbdaaaR2read
import Derived.Test.YtcophmafkpbdaaaR2image
import Derived.Test.YtcophmafkpbdaaaDTear
namespace Go.Proofs.Ytcophmafkpbdaaa
open Go.RowKit
set_option linter.unusedVariables false

theorem Ep.ok.wrs {e : Ep} {w : World} {N : Nat} (h : e.ok w N) : ∃ a c, e.v = .slice a e.es.length c ∧ e.es.length ≤ c ∧ c ≤ 9223372036854775807 ∧ Wrs w a e.ab := by
  obtain ⟨a, c, hv, h1, h2⟩ := own_shape h.row
  refine ⟨a, c, hv, h1, h2, fun hp => ?_⟩
  have hl : e.ab.length = e.es.length := by simp [Ep.ab]
  have hrow := h.row
  rw [hv] at hrow
  obtain ⟨g, rfl⟩ : ∃ g, a = some ⟨g, 0, none⟩ := by
    rcases hrow.2 with ⟨_, h⟩ | ⟨g, c, cur, h, _⟩
    · omega
    · injection h with h1 h2 h3; exact ⟨g, h1⟩
  refine ⟨g, 0, rfl, (hrow.lt g rfl).2, fun j hj => ?_⟩
  have hje : j < e.es.length := by omega
  have hsc := sentCells_at e.es j hje
  have hab : e.ab[j] = e.es[j].ab := by simp [Ep.ab]
  have hs := h.es e.es[j] (List.getElem_mem hje)
  refine ⟨?_, ⟨e.es[j].blk, 0, none⟩, e.es[j].cap, ?_, ?_⟩
  · rw [Nat.zero_add, hrow.cellAt _ (by omega), hsc.1, hab]; rfl
  · rw [Nat.zero_add, hrow.cellAt _ (by omega), hsc.2]; rfl
  · rw [hab]; exact Src.own hs.2

theorem part_epsl {w w' : World} {N : Nat} {eps E : List Ep} (h : Part w w' w.heap.size eps.length N eps.length eps E) : Epsl w' (some ⟨w.heap.size, 0, none⟩) (eps.map Ep.ab) := by
  intro hp
  have hlen : E.length = eps.length := h.len
  have hab := h.ab
  rw [List.take_of_length_le (Nat.le_refl _)] at hab
  refine ⟨w.heap.size, 0, rfl, (h.row.lt _ rfl).2, fun j hj => ?_⟩
  have hjE : j < E.length := by simp at hj; omega
  have hEj : (eps.map Ep.ab)[j] = E[j].ab := by
    have := congrArg (fun l => l[j]?) hab
    simp only [List.getElem?_eq_getElem hj] at this
    rw [List.getElem?_eq_getElem (by simp; omega)] at this
    injection this with this
    rw [← this]; simp
  obtain ⟨a, c, hv, h1, h2, h3⟩ := (h.ok E[j] (List.getElem_mem hjE)).wrs
  have hl : E[j].ab.length = E[j].es.length := by simp [Ep.ab]
  refine ⟨a, c, ?_, ?_, h2, ?_⟩
  · rw [Nat.zero_add, h.row.cellAt j (by omega), List.getElem?_append_left (by simp; omega), List.getElem?_map, List.getElem?_eq_getElem hjE, hEj, hl, ← hv]; rfl
  · rw [hEj, hl]; exact h1
  · rw [hEj]; exact h3

theorem part_epsl2 {w w' : World} {d : Dk} {N m : Nat} {E' : List Ep} {E : List (List (Nat × List Int))} (hab : d.ab = E) (hel : d.eps.length = m) (h : Part w w' w.heap.size m N m d.eps E') : Epsl w' (some ⟨w.heap.size, 0, none⟩) E := by
  subst hab
  subst hel
  exact part_epsl h

set_option maxHeartbeats 2000000 in
set_option maxRecDepth 20000 in
theorem samedisks_yes (d : Dk) (p q n m cE : Nat) (vB : Value) (f : Nat → List Int) (M : List Nat) (aE : Option Addr) (E : List (List (Nat × List Int))) (w : World) (hok : d.ok w p) (hB : w.cell? ⟨q, 0, none⟩ = some vB) (hE : w.cell? ⟨q, 1, none⟩ = some (.slice aE m cE)) (hm : E.length = m) (hp : Pic w M vB n f) (he : Epsl w aE E) (hn : d.n = n) (hn2 : n ≤ 2048) (hf : ∀ j, j < n → sec d.dur j = f j) (hab : d.ab = E) (hc : m ≤ cE) (hc2 : cE ≤ 9223372036854775807) (hsz : m ≤ 5000000000000) :
    Calls Try.prog 12 #[.pointer (some ⟨p, 0, none⟩), .pointer (some ⟨q, 0, none⟩)] w fun e w' => e = .returned (.bool true) ∧ Below w.heap.size w w' := by
  have hel : d.eps.length = m := by rw [← hm, ← hab]; simp [Dk.ab]
  obtain ⟨aB, cB, rfl, hcB, hcB2⟩ := own_shape hp.choose_spec.1
  have hql : q < w.heap.size := World.block_lt_of_cell? w ⟨q, 0, none⟩ hB
  have okX : ∀ wx, Below w.heap.size w wx → d.ok wx p := fun wx hb => hok.frame fun x hx => hb.block x (hok.lt x hx)
  have kS := hid (fun wx (hb : Below w.heap.size w wx) => dsectors d p wx (okX wx hb))
  rw [hn] at kS
  have kI := hid (fun wx (hb : Below w.heap.size w wx) => image_any d p wx (okX wx hb) [] (fun x hx => by simp at hx))
  rw [hn] at kI
  have kR := hid (fun wx (hb : Below w.heap.size w wx) => rimage_any q _ n f [] [] wx ((hb.cell (p := ⟨q, 0, none⟩) hql).trans hB) ((hp.weaken (fun x hx => by simp at hx)).upd (Upd.of_below hb) (grew_refl _ _) (fun k _ hk => by simp at hk)) hn2 (fun x hx => by simp at hx))
  have kE := hid (fun wx (hb : Below w.heap.size w wx) => epochs_any d p wx (okX wx hb) (by omega))
  rw [hel] at kE
  have HE := hid he
  have HF := hid hf
  have HAB := hid hab
  have HM := hid hm
  have HEL := hid hel
  have HB : Hid (Below w.heap.size w w.drew) := hid (Below.refl _ _).drew
  clear hok okX hp he hn hf hab hm hel
  have s1 := hB
  have s2 := hE
  clear hB hE
  go_enter Try.func12, Try.ntmps12
  go_wp2_with fail
  go_region_held3 (fun wx => wx.cell? ⟨q, 0, none⟩ = some (.slice aB n cB) ∧ wx.cell? ⟨q, 1, none⟩ = some (.slice aE m cE)) (go_keep) (first | (go_at_call 16; refine (kS.out _ HB.out).mono ?_; rintro r wS ⟨rfl, hS⟩; subst wS) | (go_at_call 20; refine (kI.out _ HB.out).mono ?_; rintro r wI ⟨gI, rfl, hpI, hgI, hbI⟩; have HP1 : Hid (Pic wI [] _ n (sec d.dur)) := hid (hpI.weaken (fun x hx => by simp at hx)); have HB' : Hid (Below w.heap.size w wI) := hid (HB.out.trans (hbI.mono HB.out.size)); have s1' : wI.cell? ⟨q, 0, none⟩ = some (.slice aB n cB) := (HB'.out.cell (p := ⟨q, 0, none⟩) hql).trans s1; have s2' : wI.cell? ⟨q, 1, none⟩ = some (.slice aE m cE) := (HB'.out.cell (p := ⟨q, 1, none⟩) hql).trans s2; clear HB hpI hgI hbI; have HB := HB'; clear HB') | (go_at_call 26; refine (kR.out _ HB.out).mono ?_; rintro r wR ⟨v', rfl, hpR, hvR, hbR⟩; have HP1' : Hid (Pic wR [] _ n (sec d.dur)) := hid (HP1.out.upd (Upd.of_below hbR) (grew_refl _ _) (fun k _ hk => by simp at hk)); have HP2 : Hid (Pic wR [] _ n f) := hid (hpR.weaken (fun x hx => by simp at hx)); have HB' : Hid (Below w.heap.size w wR) := hid (HB.out.trans (hbR.mono HB.out.size)); have s1' : wR.cell? ⟨q, 0, none⟩ = some (.slice aB n cB) := (HB'.out.cell (p := ⟨q, 0, none⟩) hql).trans s1; have s2' : wR.cell? ⟨q, 1, none⟩ = some (.slice aE m cE) := (HB'.out.cell (p := ⟨q, 1, none⟩) hql).trans s2; clear HB HP1 hpR hvR hbR; have HB := HB'; clear HB') | (go_at_call 15; refine (same_yes _ _ n _ _ [] [] _ HP1'.out HP2.out hn2 HF.out).mono ?_; rintro r wS ⟨rfl, hS⟩; subst wS; clear HP1' HP2) | (go_at_call 18; refine (kE.out _ HB.out).mono ?_; rintro r wE ⟨E', rfl, hpart⟩; have hbE := hpart.below; have HP3 := hid (part_epsl2 HAB.out HEL.out hpart); have HB' : Hid (Below w.heap.size w wE) := hid (HB.out.trans (hbE.mono HB.out.size)); have s1' : wE.cell? ⟨q, 0, none⟩ = some (.slice aB n cB) := (HB'.out.cell (p := ⟨q, 0, none⟩) hql).trans s1; have s2' : wE.cell? ⟨q, 1, none⟩ = some (.slice aE m cE) := (HB'.out.cell (p := ⟨q, 1, none⟩) hql).trans s2; clear HB hpart hbE; have HB := HB'; clear HB') | (go_at_call 38; refine (sameeps_yes E m _ aE _ cE _ HM.out HP3.out (HE.out.below HB.out) (Nat.le_refl _) (by omega) hc hc2).mono ?_; rintro r wX ⟨rfl, hbX⟩; have HB' : Hid (Below w.heap.size w wX) := hid (HB.out.trans (hbX.mono HB.out.size)); have s1' : wX.cell? ⟨q, 0, none⟩ = some (.slice aB n cB) := (HB'.out.cell (p := ⟨q, 0, none⟩) hql).trans s1; have s2' : wX.cell? ⟨q, 1, none⟩ = some (.slice aE m cE) := (HB'.out.cell (p := ⟨q, 1, none⟩) hql).trans s2; clear HB HP3 hbX; have HB := HB'; clear HB'))
  all_goals
    go_wp2_with fail
    go_ret
    exact ⟨rfl, HB.out⟩

end Go.Proofs.Ytcophmafkpbdaaa
