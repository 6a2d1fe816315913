/- The corpus and what it stands on, merged. -/
import Derived.Test.YtbgommpdmnbplaaGreatDoorCoA11

/- What Commit does. -/
namespace Go.Proofs.YtbgommpdmnbplaaGreatDoor
open Go.RowKit Num Jr
set_option linter.unusedVariables false
set_option maxRecDepth 20000

/-- The image that Commit leaves. -/
def cmtS (n gen groups used : Nat) (S : Nat → List Int) (waits : List (List Int)) : Nat → List Int :=
  if waits = [] then S else writeGo (firstOf gen n) gen (groups + 1) (needN (loadOf waits).length) S used (loadOf waits)

/-- What Commit leaves. -/
def CmtP (d : Dk) (w : World) (jp p n : Nat) (S : Nat → List Int) (gen groups used : Nat) (done waits : List (List Int)) (wv : Value) (e : Ending) (w' : World) : Prop :=
  ∃ (d' : Dk) (groups' used' : Nat) (wv' : Value), e = .returned (.int .i64 0) ∧ Js d' w' jp p n (cmtS n gen groups used S waits) gen groups' used' (done ++ waits) [] wv' ∧ Upd (· ∈ Jf d p jp wv) w w' ∧ Grew' w (Jf d p jp wv) (Jf d' p jp wv')

set_option maxHeartbeats 4000000 in
theorem commit_any (d : Dk) (jp p n gen groups used : Nat) (S : Nat → List Int) (done waits : List (List Int)) (wv : Value) (w : World) (h : Js d w jp p n S gen groups used done waits wv) (hT : Tab w) (hTf : 1 ∉ Jf d p jp wv) :
    Calls Tryz.prog 159 #[.pointer (some ⟨jp, 0, none⟩)] w (CmtP d w jp p n S gen groups used done waits wv) := by
  have hn2 : n ≤ 2048 := by rw [← h.jd.dn]; exact h.jd.ok.n2
  have hsz : szOf n ≤ 1024 := by unfold szOf; omega
  have huse := h.ji.use
  have hg1 := h.ji.g2
  have hjl : jp < w.heap.size := (Array.getElem?_eq_some_iff.1 h.jc).1
  have kU := hid (jusable jp p _ _ _ _ _ _ _ w h.jc)
  obtain ⟨m, gm⟩ : ∃ m, m = waits.length := ⟨_, rfl⟩
  have hjc := h.jc
  rw [← gm] at hjc
  have c7 : w.cell? ⟨jp, 7, none⟩ = some (.int .i64 m) := heap_cells hjc 7 _ rfl
  by_cases hm : m = 0
  · have hw0 : waits = [] := List.eq_nil_of_length_eq_zero (by rw [← gm]; exact hm)
    subst hm
    have HH := hid h
    have HW0 := hid hw0
    clear h hjc gm hw0
    go_enter Tryz.func159, Tryz.ntmps159
    go_wp2_with (first | (go_at_call 200; refine kU.out.mono ?_; rintro r w1 ⟨rfl, h⟩; subst w1))
    go_ret
    have hh := HH.out
    rw [HW0.out] at hh
    refine ⟨d, groups, used, wv, rfl, ?_, Upd.refl _ _, fun _ h => .inl h⟩
    rw [HW0.out, List.append_nil]
    unfold cmtS
    rw [if_pos rfl]
    exact hh
  · have hwn : waits ≠ [] := fun e => hm (by rw [gm, e]; rfl)
    have hmv : ¬ (m : Int) = 0 := by omega
    have hln : loadOf waits ≠ [] := fun e => hwn (loadOf_nil e)
    obtain ⟨aw, cw, gwv, hw1, hw2⟩ := own_shape h.wait
    have hroomN := h.room
    have hnp := needN_pos _ (List.length_pos_iff.2 hln)
    obtain ⟨ln, gln⟩ : ∃ ln, ln = (loadOf waits).length := ⟨_, rfl⟩
    rw [← gln] at gwv hw1 hroomN hnp
    have hlnb : ln ≤ 102400 := by unfold needN at hroomN; omega
    have hwt := h.wait
    rw [← gln, gwv] at hwt
    have hln1 : 1 ≤ ln := by rw [gln]; exact List.length_pos_iff.2 hln
    obtain ⟨g, rfl⟩ : ∃ g, aw = some ⟨g, 0, none⟩ := by
      rcases hwt.2 with ⟨_, h⟩ | ⟨g, c, cur, h, _⟩
      · omega
      · injection h with h1 h2 h3; exact ⟨g, h1⟩
    have hgf := h.wf g (by rw [gwv]; rfl)
    have hTd : 1 ∉ d.foot p := fun hx => hTf (by simp [Jf, hx])
    have hff : firstOf gen n + szOf n ≤ n := by
      unfold firstOf szOf
      have : gen % 2 * ((n - 2) / 2) ≤ 1 * ((n - 2) / 2) := Nat.mul_le_mul_right _ (by omega)
      have h2 : 2 ≤ n ∨ n < 2 := by omega
      rcases h2 with h2 | h2
      · omega
      · exfalso
        have := hnp.1
        unfold szOf at hroomN
        omega
    have hgu : groups ≤ used := by
      have hgo : ∀ (f g u : Nat) (acc : List (List Int)), g ≤ u → (grpsGo S (firstOf gen n) gen (szOf n) f g u acc).2.1 ≤ (grpsGo S (firstOf gen n) gen (szOf n) f g u acc).2.2 := by
        intro f
        induction f with
        | zero => intro g u acc hh; exact hh
        | succ f ih =>
          intro g u acc hh
          rw [grpsGo]
          split
          · exact hh
          · rename_i hne
            refine ih _ _ _ ?_
            have : loadGo S (firstOf gen n) gen (g + 1) (szOf n - u) u [] ≠ [] := fun e => hne (by rw [e]; exact recsOf_nil)
            have := needN_pos _ (List.length_pos_iff.2 this)
            omega
      have := hgo (szOf n + 1) 0 0 [] (Nat.le_refl _)
      have e : grpsGo S (firstOf gen n) gen (szOf n) (szOf n + 1) 0 0 [] = (done, groups, used) := h.ji.grp
      rw [e] at this
      exact this
    have kW := hid (wgroup_any d p n gen (firstOf gen n) (szOf n) used (groups + 1) g 0 ln cw S (loadOf waits) w.drew (h.jd.below (below_drewN (Below.refl _ _) 1)) (Src.own hwt) (bytes_loadOf h.wok) hw1 hw2 hT hTd hgf.1 (by omega) (by omega) (by omega))
    rw [gwv] at hjc
    have c0 : w.cell? ⟨jp, 0, none⟩ = some (.pointer (some ⟨p, 0, none⟩)) := heap_cells hjc 0 _ rfl
    have c1 : w.cell? ⟨jp, 1, none⟩ = some (.int .i64 gen) := heap_cells hjc 1 _ rfl
    have c2 : w.cell? ⟨jp, 2, none⟩ = some (.int .i64 (firstOf gen n : Nat)) := heap_cells hjc 2 _ rfl
    have c3 : w.cell? ⟨jp, 3, none⟩ = some (.int .i64 (szOf n : Nat)) := heap_cells hjc 3 _ rfl
    have c4 : w.cell? ⟨jp, 4, none⟩ = some (.int .i64 groups) := heap_cells hjc 4 _ rfl
    have c5 : w.cell? ⟨jp, 5, none⟩ = some (.int .i64 used) := heap_cells hjc 5 _ rfl
    have c6 : w.cell? ⟨jp, 6, none⟩ = some (.slice (some ⟨g, 0, none⟩) ln cw) := heap_cells hjc 6 _ rfl
    obtain ⟨first, gfirst⟩ : ∃ first, first = firstOf gen n := ⟨_, rfl⟩
    obtain ⟨size, gsize⟩ : ∃ size, size = szOf n := ⟨_, rfl⟩
    rw [← gfirst] at c2 kW
    rw [← gsize] at c3 kW
    have HWG : Hid (IntKind.i64.wrap ((groups : Int) + 1) = ((groups + 1 : Nat) : Int)) := hid (by rw [IntKind.wrap_i64]; omega)
    obtain ⟨NN, gNN⟩ : ∃ NN, NN = needN ln := ⟨_, rfl⟩
    have kn := hid (fun wx => need_any ln wx (by omega))
    have en : (ln + 99) / 100 = needN ln := rfl
    rw [en, ← gNN] at kn
    have HWU : Hid (IntKind.i64.wrap ((used : Int) + (NN : Int)) = ((used + NN : Nat) : Int)) := hid (by rw [IntKind.wrap_i64]; omega)
    have HH := hid h
    have GW := hid gwv
    have GLN := hid gln
    have GM := hid gm
    have GF := hid gfirst
    have GS := hid gsize
    have GNN := hid gNN
    have HWN := hid hwn
    clear h hjc gwv gln gm gfirst gsize gNN hwn hln hwt hgf hTd hT hTf en
    go_enter Tryz.func159, Tryz.ntmps159
    go_upto_region 5 with (first | (go_at_call 200; refine kU.out.mono ?_; rintro r w1 ⟨rfl, h⟩; subst w1))
    go_region_held3 (fun wx => wx.cell? ⟨jp, 0, none⟩ = some (.pointer (some ⟨p, 0, none⟩)) ∧ wx.cell? ⟨jp, 1, none⟩ = some (.int .i64 gen) ∧ wx.cell? ⟨jp, 2, none⟩ = some (.int .i64 first) ∧ wx.cell? ⟨jp, 3, none⟩ = some (.int .i64 size) ∧ wx.cell? ⟨jp, 4, none⟩ = some (.int .i64 groups) ∧ wx.cell? ⟨jp, 5, none⟩ = some (.int .i64 used) ∧ wx.cell? ⟨jp, 6, none⟩ = some (.slice (some ⟨g, 0, none⟩) ln cw)) (go_keep) (first | (go_at_call 204; rw [HWG.out]; refine kW.out.mono ?_; rintro r w2 ⟨rfl, d2, hs2, hr2⟩; have HS2 := hid hs2; have HR2 := hid hr2; have y : ∀ o, w2.cell? ⟨jp, o, none⟩ = w.cell? ⟨jp, o, none⟩ := (fun o => World.cell?_of_block (a := ⟨jp, o, none⟩) (hs2.heap hjl HH.out.jf)); have y0 := (y 0).trans c0; have y1 := (y 1).trans c1; have y2 := (y 2).trans c2; have y3 := (y 3).trans c3; have y4 := (y 4).trans c4; have y5 := (y 5).trans c5; have y6 := (y 6).trans c6; have y7 := (y 7).trans c7; clear hs2 hr2 y))
    have hJ2 : Jc w2 jp p gen first size groups used (.slice (some ⟨g, 0, none⟩) ln cw) m := by
      have := (HS2.out.heap hjl HH.out.jf).trans HH.out.jc
      rw [GW.out, ← GF.out, ← GS.out, ← GM.out] at this
      exact this
    have f4 : w2.frozen? ⟨jp, 4, none⟩ = false := frozen_of_row w2 jp 4 _ _ hJ2
    have f5 : w2.frozen? ⟨jp, 5, none⟩ = false := frozen_of_row w2 jp 5 _ _ hJ2
    have f6 : w2.frozen? ⟨jp, 6, none⟩ = false := frozen_of_row w2 jp 6 _ _ hJ2
    have f7 : w2.frozen? ⟨jp, 7, none⟩ = false := frozen_of_row w2 jp 7 _ _ hJ2
    have hfin : ∀ Z, Jc Z jp p gen first size (groups + 1) (used + NN) (.slice none 0 0) 0 → Upd (· = jp) w2 Z → CmtP d w jp p n S gen groups used done waits wv (.returned (.int .i64 0)) Z := fun Z hZ hU => by
      have hs2 := HS2.out
      have hjf2 : jp ∉ d2.foot p := hs2.out hjl HH.out.jf
      have hcm := HH.out.ji.commit waits HWN.out HH.out.wok (by rw [← GLN.out]; exact hroomN) (needN ln) (by rw [← GLN.out]; exact Nat.le_refl _)
      rw [← GF.out] at hcm
      have hS : cmtS n gen groups used S waits = writeGo first gen (groups + 1) (needN ln) S used (loadOf waits) := by unfold cmtS; rw [if_neg HWN.out, ← GLN.out, ← GF.out]
      refine ⟨d2, groups + 1, used + NN, .slice none 0 0, rfl, ?_, ?_, ?_⟩
      · rw [hS]
        refine ⟨hs2.jd.upd hU (fun k hk e => hjf2 (e ▸ hk)), HR2.out, ?_, ?_, by simpa [loadOf] using World.ownsRow_nil _ _ _ _, fun r hr => by simp at hr, Nat.zero_le _, hjf2, fun k hk => by simp [Value.ownBlock] at hk⟩
        · rw [← GF.out, ← GS.out]; exact hZ
        · rw [GNN.out, GLN.out]
          rw [GLN.out] at hcm
          exact hcm
      · refine ((show Upd (· ∈ Jf d p jp wv) w w2 from ?_).trans hU (fun x _ h => by have h' : x = jp := h; simp [Jf, h']))
        exact ((Upd.of_below (F := (· ∈ Jf d p jp wv)) (below_drewN (Below.refl w.heap.size w) 1)).trans hs2.upd (fun x _ h => by simp [Jf, h]))
      · intro x hx
        simp only [Jf, List.mem_cons, List.mem_append] at hx ⊢
        rcases hx with h | h | h
        · exact .inl (.inl h)
        · simp [vb, Value.ownBlock] at h
        · rcases hs2.grew x h with h' | h'
          · exact .inl (.inr (.inr h'))
          · exact .inr h'
    have HFIN := hid hfin
    have HJ2 := hid hJ2
    clear hJ2 hfin kW c0 c1 c2 c3 c4 c5 c6 c7 y0 y1 y2 y3
    go_upto_region 9 with fail
    go_region_with (first | (go_at_call 190; refine (kn.out _).mono ?_; rintro r wn ⟨rfl, h⟩; subst wn))
    all_goals
      go_wp2_with fail
      go_ret
      rw [HWU.out]
      refine HFIN.out _ ?_ ?_
      · have hh := (HJ2.out.turn (groups + 1) (used + NN)).wait (.slice none 0 0) 0
        have eg : ((groups + 1 : Nat) : Int) = (groups : Int) + 1 := by omega
        rw [eg] at hh
        first | exact hh | (rw [wrap64_of, HWU.out]; exact hh)
      · exact ((((Upd.setCell (F := (· = jp)) w2 ⟨jp, 4, none⟩ _ rfl).trans (Upd.setCell (F := (· = jp)) _ ⟨jp, 5, none⟩ _ rfl) (fun _ _ h => h)).trans (Upd.setCell (F := (· = jp)) _ ⟨jp, 6, none⟩ _ rfl) (fun _ _ h => h)).trans (Upd.setCell (F := (· = jp)) _ ⟨jp, 7, none⟩ _ rfl) (fun _ _ h => h)).drewN 1

end Go.Proofs.YtbgommpdmnbplaaGreatDoor
