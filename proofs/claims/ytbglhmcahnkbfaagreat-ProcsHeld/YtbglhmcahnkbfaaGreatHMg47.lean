/- Texts of this seat, merged. -/
import Derived.Test.YtbglhmcahnkbfaaGreatHMg44
import Derived.Test.YtbglhmcahnkbfaaGreatHMg43
import Derived.Deep.RegionHeld3
import Derived.Deep.DeepCutAuto
import Derived.Deep.CutBlock

/- Without defects each open file is held by as many descriptors as have it: what calls of processes keep of it. -/
namespace Go.Proofs.YtbglhmcahnkbfaaGreat
open Go.RowKit Go.ChangeMaps Go.MapKept
set_option linter.unusedVariables false
set_option maxRecDepth 20000

/-- How many of six descriptors have an open file; of all processes. -/
def c6 (f : Nat → Int) (v : Int) : Nat := (if f 0 = v then 1 else 0) + (if f 1 = v then 1 else 0) + (if f 2 = v then 1 else 0) + (if f 3 = v then 1 else 0) + (if f 4 = v then 1 else 0) + (if f 5 = v then 1 else 0)
def cP (Q : Nat → Gp) (v : Int) : Nat := c6 (Q 1).fd v + c6 (Q 2).fd v + c6 (Q 3).fd v + c6 (Q 4).fd v
/-- Each open file is held by as many as have it. -/
def HInv (O : Nat → Fl) (Q : Nat → Gp) : Prop := ∀ i : Nat, 1 ≤ i → i ≤ 10 → (O i).h = (cP Q (i : Int) : Int)

theorem if_le (p : Prop) [Decidable p] : (if p then 1 else 0 : Nat) ≤ 1 := by split <;> omega
theorem c6_le (f : Nat → Int) (v : Int) : c6 f v ≤ 6 := by
  unfold c6
  have := if_le (f 0 = v)
  have := if_le (f 1 = v)
  have := if_le (f 2 = v)
  have := if_le (f 3 = v)
  have := if_le (f 4 = v)
  have := if_le (f 5 = v)
  omega
theorem c6_pos {f : Nat → Int} {v : Int} {j : Nat} (hj : j < 6) (h : f j = v) : 1 ≤ c6 f v := by
  unfold c6
  obtain rfl | rfl | rfl | rfl | rfl | rfl : j = 0 ∨ j = 1 ∨ j = 2 ∨ j = 3 ∨ j = 4 ∨ j = 5 := by omega
  all_goals (rw [if_pos h]; omega)
theorem c6_upd (f : Nat → Int) (j : Nat) (hj : j < 6) (u v : Int) : c6 (updFd f j u) v + (if f j = v then 1 else 0) = c6 f v + (if u = v then 1 else 0) := by
  unfold c6 updFd
  obtain rfl | rfl | rfl | rfl | rfl | rfl : j = 0 ∨ j = 1 ∨ j = 2 ∨ j = 3 ∨ j = 4 ∨ j = 5 := by omega
  all_goals (simp; omega)
theorem cP_le (Q : Nat → Gp) (v : Int) : cP Q v ≤ 24 := by
  unfold cP
  have := c6_le (Q 1).fd v
  have := c6_le (Q 2).fd v
  have := c6_le (Q 3).fd v
  have := c6_le (Q 4).fd v
  omega
theorem cP_pos {Q : Nat → Gp} {v : Int} {q j : Nat} (h1 : 1 ≤ q) (h4 : q ≤ 4) (hj : j < 6) (h : (Q q).fd j = v) : 1 ≤ cP Q v := by
  have := c6_pos hj h
  unfold cP
  obtain rfl | rfl | rfl | rfl : q = 1 ∨ q = 2 ∨ q = 3 ∨ q = 4 := by omega
  all_goals omega
theorem cP_put (Q : Nat → Gp) (q : Nat) (h1 : 1 ≤ q) (h4 : q ≤ 4) (x : Gp) (v : Int) : cP (updG Q q x) v + c6 (Q q).fd v = cP Q v + c6 x.fd v := by
  unfold cP updG
  obtain rfl | rfl | rfl | rfl : q = 1 ∨ q = 2 ∨ q = 3 ∨ q = 4 := by omega
  all_goals (simp; omega)
theorem cP_fd (Q : Nat → Gp) (q j : Nat) (h1 : 1 ≤ q) (h4 : q ≤ 4) (hj : j < 6) (u v : Int) : cP (updG Q q { Q q with fd := updFd (Q q).fd j u }) v + (if (Q q).fd j = v then 1 else 0) = cP Q v + (if u = v then 1 else 0) := by
  have a := cP_put Q q h1 h4 { Q q with fd := updFd (Q q).fd j u } v
  have b := c6_upd (Q q).fd j hj u v
  have c : c6 ({ Q q with fd := updFd (Q q).fd j u } : Gp).fd v = c6 (updFd (Q q).fd j u) v := rfl
  omega
/-- As many have it where the descriptors are the same, but for processes that had none. -/
theorem cP_same {Q Q' : Nat → Gp} {v : Int} (h : ∀ i, 1 ≤ i → i ≤ 4 → ∀ j, j < 6 → (Q' i).fd j = (Q i).fd j) : cP Q' v = cP Q v := by
  have k : ∀ i, 1 ≤ i → i ≤ 4 → c6 (Q' i).fd v = c6 (Q i).fd v := fun i a b => by
    unfold c6
    rw [h i a b 0 (by omega), h i a b 1 (by omega), h i a b 2 (by omega), h i a b 3 (by omega), h i a b 4 (by omega), h i a b 5 (by omega)]
  unfold cP
  rw [k 1 (by omega) (by omega), k 2 (by omega) (by omega), k 3 (by omega) (by omega), k 4 (by omega) (by omega)]

theorem there_of {T : Ft} {i : Nat} (h1 : 1 ≤ i) (h2 : i ≤ 10) (h : (T.O i).h ≠ 0) : T.there (i : Int) = true := by
  unfold Ft.there
  rw [decide_eq_true_eq, Int.toNat_natCast]
  exact ⟨by omega, by omega, h⟩
/-- What Hold and Drop do to how often an open file is held. -/
theorem hold_O {T : Ft} {i : Nat} (h1 : 1 ≤ i) (h2 : i ≤ 10) (h : (T.O i).h ≠ 0) (hm : (T.O i).h < 1000) (k : Nat) : (((T.hold (i : Int)).1).O k).h = (T.O k).h + if k = i then 1 else 0 := by
  unfold Ft.hold
  rw [if_neg (by rw [there_of h1 h2 h]; decide), if_neg (by rw [Int.toNat_natCast]; omega), Int.toNat_natCast]
  show (updF T.O i { T.O i with h := (T.O i).h + 1 } k).h = _
  by_cases e : k = i
  · subst e; rw [updF_same, if_pos rfl]
  · rw [updF_ne _ _ _ _ e, if_neg e, Int.add_zero]
theorem drop_O {T : Ft} {i : Nat} (h1 : 1 ≤ i) (h2 : i ≤ 10) (h : 0 < (T.O i).h) (k : Nat) : (((T.drop (i : Int)).1).O k).h = (T.O k).h - if k = i then 1 else 0 := by
  have key : ∀ x : Fl, x.h = (T.O i).h - 1 → (updF T.O i x k).h = (T.O k).h - if k = i then 1 else 0 := fun x hx => by
    by_cases e : k = i
    · subst e; rw [updF_same, if_pos rfl, hx]
    · rw [updF_ne _ _ _ _ e, if_neg e, Int.sub_zero]
  unfold Ft.drop
  rw [if_neg (by rw [there_of h1 h2 (by omega)]; decide), Int.toNat_natCast]
  split
  · exact key _ rfl
  · rename_i a
    split
    · exact key _ (by show (0 : Int) = _; omega)
    · exact key _ (by show (0 : Int) = _; omega)

section
variable {g : Gt}
theorem HInv.empty (H : GOk g) (h : HInv g.T.O g.Q) (q j : Nat) (h1 : 1 ≤ q) (h4 : q ≤ 4) (hj : j < 6) : HInv (g.empty q j).T.O (g.empty q j).Q := by
  intro i a b
  have hc := cP_fd g.Q q j h1 h4 hj 0 (i : Int)
  rw [if_neg (show ¬ (0 : Int) = (i : Int) by omega)] at hc
  have hi := h i a b
  rw [empty_Q]
  have hr := H.fd q j
  unfold Gt.empty
  split
  · rename_i e0
    show (g.T.O i).h = _
    rw [if_neg (by rw [e0]; omega)] at hc
    omega
  · rename_i e0
    obtain ⟨v, hv⟩ := Int.eq_ofNat_of_zero_le hr.1
    have hp := cP_pos (Q := g.Q) h1 h4 hj (show (g.Q q).fd j = (v : Int) from hv)
    have hv1 := h v (by omega) (by omega)
    show (((g.T.drop ((g.Q q).fd j)).1).O i).h = _
    rw [hv, drop_O (by omega) (by omega) (by omega)]
    by_cases e : i = v
    · rw [if_pos e]
      rw [if_pos (by rw [hv, e])] at hc
      omega
    · rw [if_neg e]
      rw [if_neg (by rw [hv]; omega)] at hc
      omega
theorem HInv.empties (H : GOk g) (h : HInv g.T.O g.Q) (q : Nat) (h1 : 1 ≤ q) (h4 : q ≤ 4) (hs : (g.Q q).st = 1) : ∀ n, n ≤ 6 → HInv (g.empties q n).T.O (g.empties q n).Q
  | 0, _ => h
  | n + 1, hn => (HInv.empties H h q h1 h4 hs n (by omega)).empty (H.empties q hs n (by omega)).1 q n h1 h4 (by omega)
/-- One more descriptor has what another one has. -/
theorem HInv.more (H : GOk g) (h : HInv g.T.O g.Q) (q j i0 : Nat) (h1 : 1 ≤ q) (h4 : q ≤ 4) (hj : j < 6) (h0 : (g.Q q).fd j = 0) (hi : i0 < 6) (hv : (g.Q q).fd i0 ≠ 0) :
    HInv ((g.T.hold ((g.Q q).fd i0)).1).O (g.setFd q j ((g.Q q).fd i0)).Q := by
  intro i a b
  have hr := H.fd q i0
  obtain ⟨v, hv'⟩ := Int.eq_ofNat_of_zero_le hr.1
  have hp := cP_pos (Q := g.Q) h1 h4 hi (show (g.Q q).fd i0 = (v : Int) from hv')
  have hl := cP_le g.Q (v : Int)
  have hv1 := h v (by omega) (by omega)
  have hc := cP_fd g.Q q j h1 h4 hj (v : Int) (i : Int)
  rw [if_neg (by rw [h0]; omega)] at hc
  have hii := h i a b
  rw [hv', hold_O (by omega) (by omega) (by omega) (by omega)]
  show _ = ((cP (updG g.Q q { g.Q q with fd := updFd (g.Q q).fd j (v : Int) }) (i : Int) : Nat) : Int)
  by_cases e : i = v
  · rw [if_pos e]
    rw [if_pos (by rw [e])] at hc
    omega
  · rw [if_neg e]
    rw [if_neg (by omega)] at hc
    omega
theorem HInv.close (H : GOk g) (h : HInv g.T.O g.Q) (n fd : Int) : HInv (g.close n fd).1.T.O (g.close n fd).1.Q := by
  unfold Gt.close
  split
  · exact h
  rename_i a
  obtain ⟨q, i, rfl, rfl, q1, q4, i6, qs, _⟩ := file_ok H (Decidable.not_not.1 a)
  rw [Int.toNat_natCast, Int.toNat_natCast]
  exact h.empty H q i q1 q4 i6
theorem HInv.dup (H : GOk g) (h : HInv g.T.O g.Q) (n fd : Int) : HInv (g.dup n fd).1.T.O (g.dup n fd).1.Q := by
  unfold Gt.dup
  split
  · exact h
  rename_i a
  obtain ⟨q, i, rfl, rfl, q1, q4, i6, qs, hv, e⟩ := file_ok H (Decidable.not_not.1 a)
  rw [e, Int.toNat_natCast]
  split
  · exact h
  · rename_i k hk
    exact h.more H q k i q1 q4 (lowest_lt hk).1 (lowest_lt hk).2 i6 hv
theorem HInv.dup2 (H : GOk g) (h : HInv g.T.O g.Q) (hd : g.T.F.d = 0) (n fd t0 : Int) : HInv (g.dup2 n fd t0).1.T.O (g.dup2 n fd t0).1.Q := by
  unfold Gt.dup2
  split
  · exact h
  rename_i a
  split
  · exact h
  rename_i b
  split
  · exact h
  rename_i c
  obtain ⟨q, i, rfl, rfl, q1, q4, i6, qs, hv, e⟩ := file_ok H (Decidable.not_not.1 a)
  rw [e, Int.toNat_natCast]
  dsimp only
  rw [if_neg (by rw [hd]; decide)]
  have hne : i ≠ t0.toNat := fun e => c (by omega)
  have e1 : ((g.empty q t0.toNat).Q q).fd i = (g.Q q).fd i := by
    rw [empty_Q, updG_same]
    show updFd (g.Q q).fd t0.toNat 0 i = _
    rw [updFd_ne _ _ _ _ hne]
  have e2 : ((g.empty q t0.toNat).Q q).fd t0.toNat = 0 := by
    rw [empty_Q, updG_same]
    show updFd (g.Q q).fd t0.toNat 0 t0.toNat = _
    rw [updFd_same]
  have k := (h.empty H q t0.toNat q1 q4 (by omega)).more (H.empty q t0.toNat qs (by omega)) q t0.toNat i q1 q4 (by omega) e2 i6 (by rw [e1]; exact hv)
  rw [e1] at k
  exact k
theorem HInv.wait (H : GOk g) (h : HInv g.T.O g.Q) (n : Int) : HInv (g.wait n).1.T.O (g.wait n).1.Q := by
  unfold Gt.wait
  split
  · exact h
  split
  · rename_i k hk
    have hm := List.mem_of_find?_eq_some hk
    have h2 := List.find?_some hk
    have hb : 1 ≤ k ∧ k ≤ 4 := by rw [List.mem_range'_1] at hm; omega
    have hst : (g.Q k).st = 2 := by
      unfold Gt.over at h2
      exact (of_decide_eq_true h2).1
    have hz := H.ov k hst
    intro i a b
    have := h i a b
    show (g.T.O i).h = ((cP (updG g.Q k noGp) (i : Int) : Nat) : Int)
    rw [this]
    congr 1
    refine (cP_same (fun q _ _ j _ => ?_)).symm
    show (updG g.Q k noGp q).fd j = (g.Q q).fd j
    by_cases e : q = k
    · subst e; rw [updG_same, hz j]; rfl
    · rw [updG_ne _ _ _ _ e]
  · split
    · exact h
    · exact h
theorem HInv.ended (h : HInv g.T.O g.Q) (p : Nat) (co : Int) (hz : ∀ j, (g.Q p).fd j = 0) (H : GOk g) : HInv (g.ended p co).T.O (g.ended p co).Q := by
  intro i a b
  show (g.T.O i).h = _
  rw [h i a b]
  congr 1
  refine (cP_same (fun q _ _ j _ => ?_)).symm
  have e0 : ∀ n, (updG g.Q p { g.Q p with st := 2, co := co } n).fd = (g.Q n).fd := fun n => by
    by_cases e : n = p
    · subst e; rw [updG_same]
    · rw [updG_ne _ _ _ _ e]
  have s0 : ∀ n, (updG g.Q p { g.Q p with st := 2, co := co } n).st = 2 → (g.Q n).fd j = 0 := fun n hn => by
    by_cases e : n = p
    · subst e; exact hz j
    · rw [updG_ne _ _ _ _ e] at hn; exact H.ov n hn j
  have e1 : ∀ n, (Gt.leave (updG g.Q p { g.Q p with st := 2, co := co }) p n).fd j = (g.Q n).fd j := fun n => by
    unfold Gt.leave
    split
    · split
      · rename_i hs2
        exact (s0 n hs2).symm
      · show (updG g.Q p { g.Q p with st := 2, co := co } n).fd j = _
        rw [e0]
    · rw [e0]
  unfold Gt.ended
  dsimp only
  split
  · exact e1 q
  · by_cases e : q = p
    · subst e; rw [updG_same, hz j]; rfl
    · rw [updG_ne _ _ _ _ e]; exact e1 q
theorem HInv.exit (H : GOk g) (h : HInv g.T.O g.Q) (n co : Int) : HInv (g.exit n co).1.T.O (g.exit n co).1.Q := by
  unfold Gt.exit
  split
  · exact h
  rename_i a
  obtain ⟨q, rfl, q1, q4, qs⟩ := Gt.runs_lt (by simpa using a)
  rw [Int.toNat_natCast]
  obtain ⟨b, c, d⟩ := H.empties q qs 6 (Nat.le_refl _)
  refine (h.empties H q q1 q4 qs 6 (Nat.le_refl _)).ended q _ (fun j => ?_) b
  rcases Nat.lt_or_ge j 6 with h | h
  · exact d j h
  · exact (b.fd q j).2.2 h
theorem HInv.kill (H : GOk g) (h : HInv g.T.O g.Q) (n t : Int) : HInv (g.kill n t).1.T.O (g.kill n t).1.Q := by
  unfold Gt.kill
  split
  · exact h
  split
  · exact h
  split
  · exact h
  · exact h.exit H _ _

/-- How many of the first so many descriptors have an open file. -/
def cK (f : Nat → Int) (v : Int) : Nat → Nat
  | 0 => 0
  | k + 1 => cK f v k + if f k = v then 1 else 0
theorem cK_6 (f : Nat → Int) (v : Int) : cK f v 6 = c6 f v := by
  unfold c6
  simp only [cK, Nat.zero_add]
theorem cK_le (f : Nat → Int) (v : Int) : ∀ k, cK f v k ≤ k
  | 0 => Nat.le_refl 0
  | k + 1 => by
    have := cK_le f v k
    have := if_le (f k = v)
    unfold cK
    omega
theorem holdAll_O {T : Ft} {F : Nat → Int} (hF : ∀ j, j < 6 → 0 ≤ F j ∧ F j ≤ 10) (hp : ∀ j i : Nat, j < 6 → F j = (i : Int) → 1 ≤ i → 0 < (T.O i).h) (hm : ∀ i, (T.O i).h ≤ 100) (i : Nat) (h1 : 1 ≤ i) (h2 : i ≤ 10) :
    ∀ k, k ≤ 6 → ((Gt.holdAll T F k).O i).h = (T.O i).h + (cK F (i : Int) k : Int)
  | 0, _ => by show (T.O i).h = (T.O i).h + ((0 : Nat) : Int); omega
  | k + 1, hk => by
    have ih := fun i h1 h2 => holdAll_O hF hp hm i h1 h2 k (by omega)
    have ihi := ih i h1 h2
    have hFk := hF k (by omega)
    unfold Gt.holdAll cK
    split
    · rename_i e0
      rw [if_neg (by rw [e0]; omega)]
      omega
    · rename_i e0
      obtain ⟨v, hv⟩ := Int.eq_ofNat_of_zero_le hFk.1
      have iv := ih v (by omega) (by omega)
      have pv := hp k v (by omega) hv (by omega)
      have mv := hm v
      have lv := cK_le F (v : Int) k
      rw [hv, hold_O (by omega) (by omega) (by omega) (by omega)]
      by_cases e : i = v
      · rw [if_pos e, if_pos (by rw [e])]
        omega
      · rw [if_neg e, if_neg (by omega)]
        omega
theorem HInv.fork (H : GOk g) (h : HInv g.T.O g.Q) (hd : g.T.F.d = 0) (n : Int) : HInv (g.fork n).1.T.O (g.fork n).1.Q := by
  unfold Gt.fork
  split
  · exact h
  rename_i a
  obtain ⟨q, rfl, q1, q4, qs⟩ := Gt.runs_lt (by simpa using a)
  split
  · exact h
  rename_i b
  obtain ⟨f1, f4, fs⟩ := Gt.free_lt b
  rw [Int.toNat_natCast, if_neg (by rw [hd]; decide)]
  have hz : ∀ j, (g.Q g.free).fd j = 0 := fun j => by rw [H.none _ fs]; rfl
  have hm : ∀ i, (g.T.O i).h ≤ 100 := fun i => by
    by_cases hi : 1 ≤ i ∧ i ≤ 10
    · have := h i hi.1 hi.2
      have := cP_le g.Q (i : Int)
      omega
    · rw [H.T.out i (by omega)]; decide
  intro i c d
  have hi := h i c d
  have e1 := holdAll_O (T := g.T) (F := (g.Q q).fd) (fun j _ => ⟨(H.fd q j).1, (H.fd q j).2.1⟩) (fun j i hj e hi => by
    have := h i hi (by have := (H.fd q j).2.1; omega)
    have := cP_pos (Q := g.Q) q1 q4 hj e
    omega) hm i c d 6 (Nat.le_refl _)
  rw [cK_6] at e1
  have e2 := cP_put g.Q g.free f1 f4 ⟨1, (q : Int), 0, (g.Q q).fd⟩ (i : Int)
  have e3 : c6 (g.Q g.free).fd (i : Int) = 0 := by
    unfold c6
    rw [hz, hz, hz, hz, hz, hz]
    rw [if_neg (by omega)]
  have e4 : c6 (⟨1, (q : Int), 0, (g.Q q).fd⟩ : Gp).fd (i : Int) = c6 (g.Q q).fd (i : Int) := rfl
  show ((Gt.holdAll g.T (g.Q q).fd 6).O i).h = ((cP (updG g.Q g.free ⟨1, (q : Int), 0, (g.Q q).fd⟩) (i : Int) : Nat) : Int)
  omega
end

end Go.Proofs.YtbglhmcahnkbfaaGreat

/- What is true of processes without defects behind legal calls. -/
namespace Go.Proofs.YtbglhmcahnkbfaaGreat
open Go.RowKit Go.ChangeMaps Go.MapKept
set_option linter.unusedVariables false
set_option maxRecDepth 20000

/-- The parent of a process that is over runs. -/
def JInv (Q : Nat → Gp) : Prop := ∀ i, (Q i).st = 2 → qrn Q (Q i).pa = true
theorem qrn_of {Q : Nat → Gp} {r : Nat} (h1 : 1 ≤ r) (h4 : r ≤ 4) (h : (Q r).st = 1) : qrn Q (r : Int) = true := by
  unfold qrn
  rw [decide_eq_true_eq, Int.toNat_natCast]
  exact ⟨by omega, by omega, h⟩
theorem JInv.keep {Q Q' : Nat → Gp} (h : JInv Q) (k : ∀ i, (Q' i).st = (Q i).st ∧ (Q' i).pa = (Q i).pa) : JInv Q' := by
  intro i hi
  rw [(k i).1] at hi
  rw [(k i).2]
  obtain ⟨r, hr, r1, r4, rs⟩ := qrn_lt (h i hi)
  rw [hr]
  exact qrn_of r1 r4 (by rw [(k r).1]; exact rs)
theorem keep_fd (Q : Nat → Gp) (q : Nat) (f : Nat → Int) (i : Nat) : (updG Q q { Q q with fd := f } i).st = (Q i).st ∧ (updG Q q { Q q with fd := f } i).pa = (Q i).pa := by
  by_cases e : i = q
  · subst e; rw [updG_same]; exact ⟨rfl, rfl⟩
  · rw [updG_ne _ _ _ _ e]; exact ⟨rfl, rfl⟩
theorem JInv.empty {g : Gt} (h : JInv g.Q) (q j : Nat) : JInv (g.empty q j).Q := by
  rw [empty_Q]
  exact h.keep (keep_fd g.Q q _)
theorem JInv.setFd {g : Gt} (h : JInv g.Q) (q j : Nat) (v : Int) : JInv (g.setFd q j v).Q := h.keep (keep_fd g.Q q _)
theorem JInv.empties {g : Gt} (h : JInv g.Q) (q : Nat) : ∀ n, JInv (g.empties q n).Q
  | 0 => h
  | n + 1 => (JInv.empties h q n).empty q n
theorem JInv.ended {g : Gt} (h : JInv g.Q) (p : Nat) (co : Int) : JInv (g.ended p co).Q := by
  unfold Gt.ended
  dsimp only
  obtain ⟨Q0, gQ0⟩ : ∃ Q0, Q0 = updG g.Q p { g.Q p with st := 2, co := co } := ⟨_, rfl⟩
  rw [← gQ0]
  have hn : ∀ i, i ≠ p → Q0 i = g.Q i := fun i hi => by rw [gQ0, updG_ne _ _ _ _ hi]
  -- a process that runs, and isn't p, runs on
  have hr : ∀ r, r ≠ p → (g.Q r).st = 1 → (Gt.leave Q0 p r).st = 1 := fun r hrp hs => by
    unfold Gt.leave
    rw [hn r hrp]
    split
    · rw [if_neg (by rw [hs]; decide)]
      exact hs
    · exact hs
  have h2 : ∀ i, i ≠ p → (Gt.leave Q0 p i).st = 2 → (g.Q i).st = 2 ∧ (Gt.leave Q0 p i).pa = (g.Q i).pa ∧ (g.Q i).pa ≠ (p : Int) := fun i hi hs => by
    unfold Gt.leave at hs ⊢
    rw [hn i hi] at hs ⊢
    split at hs
    · rename_i a
      split at hs
      · exact absurd (show (0 : Int) = 2 from hs) (by decide)
      · rename_i b
        exact absurd hs b
    · rename_i a
      rw [if_neg a]
      exact ⟨hs, rfl, fun e => a ⟨by rw [hs]; decide, e⟩⟩
  have key : ∀ (Q2 : Nat → Gp), (∀ i, i ≠ p → Q2 i = Gt.leave Q0 p i) → ((Q2 p).st = 2 → qrn Q2 (Q2 p).pa = true) → JInv Q2 := fun Q2 e1 e2 i hi => by
    by_cases e : i = p
    · subst e; exact e2 hi
    · rw [e1 i e] at hi ⊢
      obtain ⟨a, b, c⟩ := h2 i e hi
      rw [b]
      obtain ⟨r, hr0, r1, r4, rs⟩ := qrn_lt (h i a)
      rw [hr0] at c ⊢
      have hrp : r ≠ p := fun e => c (by rw [e])
      exact qrn_of r1 r4 (by rw [e1 r hrp]; exact hr r hrp rs)
  show JInv (if qrn (Gt.leave Q0 p) (Gt.leave Q0 p p).pa = true then Gt.leave Q0 p else updG (Gt.leave Q0 p) p noGp)
  split
  · rename_i a
    exact key _ (fun _ _ => rfl) (fun _ => a)
  · refine key _ (fun i hi => updG_ne _ _ _ _ hi) (fun hs => ?_)
    rw [updG_same] at hs
    exact absurd (show (0 : Int) = 2 from hs) (by decide)
theorem JInv.exit {g : Gt} (h : JInv g.Q) (n co : Int) : JInv (g.exit n co).1.Q := by
  unfold Gt.exit
  split
  · exact h
  · exact (h.empties _ 6).ended _ _
theorem JInv.kill {g : Gt} (h : JInv g.Q) (n t : Int) : JInv (g.kill n t).1.Q := by
  unfold Gt.kill
  split
  · exact h
  split
  · exact h
  split
  · exact h
  · exact h.exit _ _
theorem JInv.fork {g : Gt} (h : JInv g.Q) (n : Int) : JInv (g.fork n).1.Q := by
  unfold Gt.fork
  split
  · exact h
  split
  · exact h
  rename_i b
  obtain ⟨f1, f4, fs⟩ := Gt.free_lt b
  intro i hi
  have hi' : (updG g.Q g.free ⟨1, n, 0, (g.Q n.toNat).fd⟩ i).st = 2 := hi
  show qrn (updG g.Q g.free ⟨1, n, 0, (g.Q n.toNat).fd⟩) (updG g.Q g.free ⟨1, n, 0, (g.Q n.toNat).fd⟩ i).pa = true
  by_cases e : i = g.free
  · rw [e, updG_same] at hi'
    exact absurd (show (1 : Int) = 2 from hi') (by decide)
  · rw [updG_ne _ _ _ _ e] at hi' ⊢
    obtain ⟨r, hr0, r1, r4, rs⟩ := qrn_lt (h i hi')
    rw [hr0]
    exact qrn_of r1 r4 (by rw [updG_ne _ _ _ _ (fun e => by rw [e] at rs; rw [rs] at fs; exact absurd fs (by decide))]; exact rs)
theorem JInv.wait {g : Gt} (h : JInv g.Q) (n : Int) : JInv (g.wait n).1.Q := by
  unfold Gt.wait
  split
  · exact h
  split
  · rename_i k hk
    have h2 := List.find?_some hk
    have hst : (g.Q k).st = 2 := by
      unfold Gt.over at h2
      exact (of_decide_eq_true h2).1
    intro i hi
    have hi' : (updG g.Q k noGp i).st = 2 := hi
    show qrn (updG g.Q k noGp) (updG g.Q k noGp i).pa = true
    by_cases e : i = k
    · rw [e, updG_same] at hi'
      exact absurd (show (0 : Int) = 2 from hi') (by decide)
    · rw [updG_ne _ _ _ _ e] at hi' ⊢
      obtain ⟨r, hr0, r1, r4, rs⟩ := qrn_lt (h i hi')
      rw [hr0]
      exact qrn_of r1 r4 (by rw [updG_ne _ _ _ _ (fun e => by rw [e, hst] at rs; exact absurd rs (by decide))]; exact rs)
  · split
    · exact h
    · exact h
theorem JInv.close {g : Gt} (h : JInv g.Q) (n fd : Int) : JInv (g.close n fd).1.Q := by
  unfold Gt.close
  split
  · exact h
  · exact h.empty _ _
theorem JInv.dup {g : Gt} (h : JInv g.Q) (n fd : Int) : JInv (g.dup n fd).1.Q := by
  unfold Gt.dup
  split
  · exact h
  split
  · exact h
  · exact h.setFd _ _ _
theorem JInv.dup2 {g : Gt} (h : JInv g.Q) (n fd t0 : Int) : JInv (g.dup2 n fd t0).1.Q := by
  unfold Gt.dup2
  split
  · exact h
  split
  · exact h
  split
  · exact h
  dsimp only
  split
  · exact h.setFd _ _ _
  · exact (h.empty _ _).setFd _ _ _

structure LOk (g : Gt) : Prop where
  ok : GOk g
  d : g.T.F.d = 0
  h : HInv g.T.O g.Q
  j : JInv g.Q
section
variable {g : Gt}
theorem LOk.fork (H : LOk g) (n : Int) : LOk (g.fork n).1 := ⟨(K3.fork H.ok n).1, (K3.fork H.ok n).2.trans H.d, H.h.fork H.ok H.d n, H.j.fork n⟩
theorem LOk.exit (H : LOk g) (n co : Int) : LOk (g.exit n co).1 := ⟨(K3.exit H.ok n co).1, (K3.exit H.ok n co).2.trans H.d, H.h.exit H.ok n co, H.j.exit n co⟩
theorem LOk.kill (H : LOk g) (n t : Int) : LOk (g.kill n t).1 := ⟨(K3.kill H.ok n t).1, (K3.kill H.ok n t).2.trans H.d, H.h.kill H.ok n t, H.j.kill n t⟩
theorem LOk.wait (H : LOk g) (n : Int) : LOk (g.wait n).1 := ⟨(K3.wait H.ok n).1, (K3.wait H.ok n).2.trans H.d, H.h.wait H.ok n, H.j.wait n⟩
theorem LOk.close (H : LOk g) (n fd : Int) : LOk (g.close n fd).1 := ⟨(K3.close H.ok n fd).1, (K3.close H.ok n fd).2.trans H.d, H.h.close H.ok n fd, H.j.close n fd⟩
theorem LOk.dup (H : LOk g) (n fd : Int) : LOk (g.dup n fd).1 := ⟨(K3.dup H.ok n fd).1, (K3.dup H.ok n fd).2.trans H.d, H.h.dup H.ok n fd, H.j.dup n fd⟩
theorem LOk.dup2 (H : LOk g) (n fd t0 : Int) : LOk (g.dup2 n fd t0).1 := ⟨(K3.dup2 H.ok n fd t0).1, (K3.dup2 H.ok n fd t0).2.trans H.d, H.h.dup2 H.ok H.d n fd t0, H.j.dup2 n fd t0⟩
theorem LOk.new : LOk (newG 0) := by
  refine ⟨GOk.new 0, rfl, fun i a b => ?_, fun i hi => ?_⟩
  · have e : ∀ q j, ((newG 0).Q q).fd j = 0 := fun q j => by
      show (if q = 1 then (⟨1, 0, 0, fun _ => 0⟩ : Gp) else noGp).fd j = 0
      split <;> rfl
    have : cP (newG 0).Q (i : Int) = 0 := by
      unfold cP c6
      simp only [e]
      rw [if_neg (by omega)]
    rw [this]
    rfl
  · have hi' : (if i = 1 then (⟨1, 0, 0, fun _ => 0⟩ : Gp) else noGp).st = 2 := hi
    split at hi'
    · exact absurd (show (1 : Int) = 2 from hi') (by decide)
    · exact absurd (show (0 : Int) = 2 from hi') (by decide)
end

/-- What 'does' leaves of two sides that may differ. -/
def Dx9 (w : World) (B : Nat) (pp f x t y L : Nat) (e : Ending) (w' : World) : Prop :=
  (∃ b, e = .returned (.bool b)) ∧ ∃ G' D' g' gd', P9 w' B G' D' pp f x t y L g' gd' ∧ (LOk g' ∧ GOk gd') ∧ Below B w w'
theorem S9.donex {wF w w' : World} {B kb : Nat} {G D : Nat → Prop} {pp f x t y L : Nat} {g' gd' : Gt} {b : Bool} (h : S9 wF B kb G D pp f x t y L g' gd' w') (hb : Below w.heap.size w wF) (hB : B ≤ w.heap.size) (hT : LOk g' ∧ GOk gd') : Dx9 w B pp f x t y L (.returned (.bool b)) w' :=
  ⟨⟨b, rfl⟩, G, D, g', gd', h.pr, hT, (hb.mono hB).trans (h.up.below (Nat.le_trans hB hb.size) (fun _ h => h.1))⟩

end Go.Proofs.YtbglhmcahnkbfaaGreat

/- Opening and installing, without memory. -/
namespace Go.Proofs.YtbglhmcahnkbfaaGreat
open Go.RowKit Go.ChangeMaps Go.MapKept
set_option linter.unusedVariables false
set_option maxRecDepth 20000

theorem ofL_memG (F : Nat → Fl) : ∀ n i, i ∈ ofL F n → 1 ≤ i ∧ i < n ∧ (F i).h = 0
  | 0, i, h => by simp [ofL] at h
  | n + 1, i, h => by
    unfold ofL at h
    rcases List.mem_append.1 h with h | h
    · have := ofL_memG F n i h
      exact ⟨this.1, by omega, this.2.2⟩
    · split at h
      · rename_i a
        rw [List.mem_singleton] at h
        subst h
        exact ⟨a.1, by omega, a.2⟩
      · simp at h
/-- What Open does to how often open files are held. -/
theorem open_O (T : Ft) (l : List UInt8) (fl : Int) :
    ((T.open_ l fl).2.2 ≠ 0 ∧ (T.open_ l fl).1.O = T.O) ∨
    ((T.open_ l fl).2.2 = 0 ∧ 1 ≤ (T.open_ l fl).2.1 ∧ (T.open_ l fl).2.1 ≤ 10 ∧ (T.O (T.open_ l fl).2.1).h = 0 ∧ ∀ k, ((T.open_ l fl).1.O k).h = (T.O k).h + if k = (T.open_ l fl).2.1 then 1 else 0) := by
  unfold Ft.open_
  split
  · exact .inl ⟨by show (22 : Int) ≠ 0; decide, rfl⟩
  split
  · exact .inl ⟨by show (23 : Int) ≠ 0; decide, rfl⟩
  rename_i hL
  split
  · rename_i he
    exact .inl ⟨he, rfl⟩
  · right
    obtain ⟨a, r, e⟩ : ∃ a r, ofL T.O 11 = a :: r := by
      cases h : ofL T.O 11 with
      | nil => exact absurd h hL
      | cons a r => exact ⟨a, r, rfl⟩
    have hm := ofL_memG T.O 11 a (by rw [e]; exact List.mem_cons_self ..)
    rw [e]
    refine ⟨rfl, hm.1, ?_, hm.2.2, fun k => ?_⟩
    · show a ≤ 10
      omega
    · show (updF T.O a _ k).h = (T.O k).h + if k = a then 1 else 0
      by_cases h : k = a
      · subst h; rw [updF_same, if_pos rfl, hm.2.2]; rfl
      · rw [updF_ne _ _ _ _ h, if_neg h, Int.add_zero]

section
variable {g : Gt}
/-- Open failed. -/
theorem LOk.open_err (H : LOk g) (l : List UInt8) (fl : Int) (he : (g.T.open_ l fl).2.2 ≠ 0) : LOk { g with T := (g.T.open_ l fl).1 } := by
  have k := K3.open_ H.ok l fl
  rcases open_O g.T l fl with h | h
  · refine ⟨k.1, k.2.trans H.d, ?_, H.j⟩
    show HInv (g.T.open_ l fl).1.O g.Q
    rw [h.2]
    exact H.h
  · exact absurd h.1 he
theorem install_cases (g : Gt) (n v : Int) (H : GOk g) : ((g.install n v).2.2 ≠ 0 ∧ (g.install n v).1 = g) ∨ ((g.install n v).2.2 = 0 ∧ ∃ q j : Nat, 1 ≤ q ∧ q ≤ 4 ∧ j < 6 ∧ (g.Q q).fd j = 0 ∧ (g.install n v).1 = g.setFd q j v) := by
  unfold Gt.install
  split
  · exact .inl ⟨by show (3 : Int) ≠ 0; decide, rfl⟩
  rename_i a
  obtain ⟨q, rfl, q1, q4, qs⟩ := Gt.runs_lt (by simpa using a)
  split
  · exact .inl ⟨by show (9 : Int) ≠ 0; decide, rfl⟩
  rw [Int.toNat_natCast]
  split
  · exact .inl ⟨by show (24 : Int) ≠ 0; decide, rfl⟩
  · rename_i i hi
    exact .inr ⟨rfl, q, i, q1, q4, (lowest_lt hi).1, (lowest_lt hi).2, rfl⟩
/-- Open made a number, Install gave it a descriptor; or didn't, and it is dropped. -/
theorem LOk.opened (H : LOk g) (l : List UInt8) (fl n : Int) (he : (g.T.open_ l fl).2.2 = 0) :
    (((({ g with T := (g.T.open_ l fl).1 } : Gt).install n ((g.T.open_ l fl).2.1 : Int)).2.2 = 0) → LOk (({ g with T := (g.T.open_ l fl).1 } : Gt).install n ((g.T.open_ l fl).2.1 : Int)).1) ∧
    (((({ g with T := (g.T.open_ l fl).1 } : Gt).install n ((g.T.open_ l fl).2.1 : Int)).2.2 ≠ 0) → LOk { (({ g with T := (g.T.open_ l fl).1 } : Gt).install n ((g.T.open_ l fl).2.1 : Int)).1 with T := ((({ g with T := (g.T.open_ l fl).1 } : Gt).install n ((g.T.open_ l fl).2.1 : Int)).1.T.drop ((g.T.open_ l fl).2.1 : Int)).1 }) := by
  have k := K3.open_ H.ok l fl
  obtain ⟨g1, gg1⟩ : ∃ g1 : Gt, g1 = { g with T := (g.T.open_ l fl).1 } := ⟨_, rfl⟩
  obtain ⟨A, gA⟩ : ∃ A, A = (g.T.open_ l fl).2.1 := ⟨_, rfl⟩
  have hO := open_O g.T l fl
  have hT : g1.T = (g.T.open_ l fl).1 := by rw [gg1]
  have hQ : g1.Q = g.Q := by rw [gg1]
  rw [← gg1] at k ⊢
  rw [← gA] at hO ⊢
  rw [← hT] at hO
  rcases hO with h | ⟨_, a1, a10, h0, hk⟩
  · exact absurd he h.1
  rcases install_cases g1 n (A : Int) k.1 with ⟨e, eg⟩ | ⟨e, q, j, q1, q4, j6, hz, eg⟩
  · refine ⟨fun h => absurd h e, fun _ => ?_⟩
    rw [eg]
    have hd := k.1.T.drop (A : Int)
    refine ⟨k.1.tbl hd, (ftdrop_d _ _).trans (k.2.trans H.d), fun i b1 b2 => ?_, ?_⟩
    · show (((g1.T.drop (A : Int)).1).O i).h = ((cP g1.Q (i : Int) : Nat) : Int)
      have hA := hk A
      rw [if_pos rfl] at hA
      rw [drop_O a1 a10 (by omega), hk i, hQ, H.h i b1 b2]
      split <;> omega
    · show JInv g1.Q
      rw [hQ]
      exact H.j
  · refine ⟨fun _ => ?_, fun h => absurd e h⟩
    have ki := K3.install k.1 n (A : Int)
    rw [eg] at ki ⊢
    refine ⟨ki.1, ki.2.trans (k.2.trans H.d), fun i b1 b2 => ?_, ?_⟩
    · have hc := cP_fd g1.Q q j q1 q4 j6 (A : Int) (i : Int)
      rw [if_neg (by rw [hz]; omega)] at hc
      have hki := hk i
      have hi := H.h i b1 b2
      rw [← hQ] at hi
      show (g1.T.O i).h = ((cP (updG g1.Q q { g1.Q q with fd := updFd (g1.Q q).fd j (A : Int) }) (i : Int) : Nat) : Int)
      by_cases ei : i = A
      · rw [if_pos ei] at hki
        rw [if_pos (by rw [ei])] at hc
        omega
      · rw [if_neg ei] at hki
        rw [if_neg (by omega)] at hc
        omega
    · show JInv (g1.setFd q j (A : Int)).Q
      refine JInv.setFd ?_ q j _
      rw [hQ]
      exact H.j
end

end Go.Proofs.YtbglhmcahnkbfaaGreat

/- What the processes' 'does' does where the sides may differ: cases 0, 1, 3 (written by gen_gdox.py). -/
namespace Go.Proofs.YtbglhmcahnkbfaaGreat
open Go.RowKit Go.ChangeMaps Go.MapKept
set_option linter.unusedVariables false
set_option maxRecDepth 20000

set_option maxHeartbeats 8000000 in
theorem dox_0 (pp f x t y L B : Nat) (G D : Nat → Prop) (g gd : Gt) (x0 x1 x2 x3 : Int) (w : World) (H : P9 w B G D pp f x t y L g gd) (H0 : LOk g) (H1 : GOk gd)
    (hq : wrap64 ((IntKind.u64.wrap x0).tmod 11) = 0) :
    Calls Tryz.prog 8 #[.pointer (some ⟨pp, 0, none⟩), .agg #[.int .i64 x0, .int .i64 x1, .int .i64 x2, .int .i64 x3]] w (Dx9 w B pp f x t y L) := by
  have hpl := H.lt
  have HB : Hid (B ≤ w.heap.size) := hid (Nat.le_trans H.gp (Nat.le_of_lt hpl))
  have HO := hid H0
  have HP0 := hid H1
  have HQ := hid hq
  have HP := hid H
  clear H H0 H1 hq
  go_enter Tryz.func8, Tryz.ntmps8
  go_upto_region 1 with fail
  obtain ⟨wF, gwF⟩ : ∃ wF, wF = w.alloc (.cells #[.int .i64 x0, .int .i64 x1, .int .i64 x2, .int .i64 x3] 26) := ⟨_, rfl⟩
  rw [← gwF]
  have hb1 : Below w.heap.size w wF := by rw [gwF]; exact (Below.refl _ _).alloc (Nat.le_refl _) _
  have hsF : w.heap.size < wF.heap.size := by rw [gwF]; simp
  have f0 : wF.cell? ⟨w.heap.size, 0, none⟩ = some (.int .i64 x0) := by rw [gwF]; simp [go_sem]
  have f1 : wF.cell? ⟨w.heap.size, 1, none⟩ = some (.int .i64 x1) := by rw [gwF]; simp [go_sem]
  have f2 : wF.cell? ⟨w.heap.size, 2, none⟩ = some (.int .i64 x2) := by rw [gwF]; simp [go_sem]
  have f3 : wF.cell? ⟨w.heap.size, 3, none⟩ = some (.int .i64 x3) := by rw [gwF]; simp [go_sem]
  have HWF := hid hb1
  clear gwF hb1
  go_upto_block 0 with fail
  rw [HQ.out]
  obtain ⟨kb, gkb⟩ : ∃ kb, kb = w.heap.size := ⟨_, rfl⟩
  rw [← gkb] at f0 f1 f2 f3 hsF ⊢
  have hS0 : S9 wF B kb G D pp f x t y L g gd wF := by
    have h := HP.out.grow HWF.out
    refine ⟨h, Upd.refl _ _, fun b hk hb => ⟨hb, fun e => ?_, fun hG => ?_, fun hR => ?_⟩⟩
    · omega
    · have h1 := (HP.out.gG b hG).2.1
      omega
    · have h1 := (HP.out.gD b hR).2.1
      omega
  have q0 := hS0.c0
  have q1 := hS0.c1
  have q2 := hS0.c2
  have q3 := hS0.c3
  have HS0 := hid hS0
  have GKB := hid gkb
  have HKB : Hid (kb ≤ kb) := hid (Nat.le_refl _)
  clear hS0 gkb
  obtain ⟨R, gR⟩ : ∃ R, R = g.fork x1 := ⟨_, rfl⟩
  obtain ⟨Z, gZ⟩ : ∃ Z, Z = gd.fork x1 := ⟨_, rfl⟩
  have HE : Hid (LOk R.1 ∧ GOk Z.1) := by rw [gR, gZ]; exact hid ⟨HO.out.fork _, HP0.out.fork _⟩
  have KP : Hid (∀ W G D gD, S9 wF B kb G D pp f x t y L g gD W → Calls Tryz.prog 26 #[.pointer (some ⟨t, 0, none⟩), .int .i64 x1] W fun e w' => e = .returned (.tuple #[.int .i64 R.2.1, .int .i64 R.2.2]) ∧ ∃ G', S9 wF B kb G' D pp f x t y L R.1 gD w') := by
    rw [gR]
    exact hid (fun W G D gD hs => (gfork_any hs.pr.tp.to HO.out.ok x1).mono (by rintro e w' ⟨he, k⟩; exact ⟨he, hs.prog k⟩))
  have KD : Hid (∀ W G D gP, S9 wF B kb G D pp f x t y L gP gd W → Calls Tryz.prog 27 #[.pointer (some ⟨y, 0, none⟩), .int .i64 x1] W fun e w' => e = .returned (.tuple #[.int .i64 Z.2.1, .int .i64 Z.2.2]) ∧ ∃ D', S9 wF B kb G D' pp f x t y L gP Z.1 w') := by
    rw [gZ]
    exact hid (fun W G D gP hs => (r9fork_any hs.pr.td.to HP0.out x1).mono (by rintro e w' ⟨he, k⟩; exact ⟨he, hs.doc1 k⟩))
  clear gR gZ
  go_wp2_with fail
  go_region_held3 (fun W => W.cell? ⟨pp, 0, none⟩ = some (.pointer (some ⟨f, 0, none⟩)) ∧ W.cell? ⟨pp, 1, none⟩ = some (.pointer (some ⟨x, 0, none⟩)) ∧ W.cell? ⟨pp, 2, none⟩ = some (.pointer (some ⟨t, 0, none⟩)) ∧ W.cell? ⟨pp, 3, none⟩ = some (.pointer (some ⟨y, 0, none⟩)) ∧ W.cell? ⟨kb, 1, none⟩ = some (.int .i64 x1)) (first | (refine ⟨?_, ?_, ?_, ?_, ?_⟩ <;> assumption) | go_keep) (first
    | (go_at_call 26; refine (KP.out _ _ _ _ (by first | exact HS0.out.drew | exact HS0.out)).mono ?_; rintro e w1 ⟨rfl, G1, hS1⟩; have zq0 := hS1.c0; have zq1 := hS1.c1; have zq2 := hS1.c2; have zq3 := hS1.c3; have zk1 := hS1.k HKB.out hsF f1; have HS1 := hid hS1; clear hS1)
    | fail)
  go_wp2_with fail
  go_region_held3 (fun W => W.cell? ⟨pp, 0, none⟩ = some (.pointer (some ⟨f, 0, none⟩)) ∧ W.cell? ⟨pp, 1, none⟩ = some (.pointer (some ⟨x, 0, none⟩)) ∧ W.cell? ⟨pp, 2, none⟩ = some (.pointer (some ⟨t, 0, none⟩)) ∧ W.cell? ⟨pp, 3, none⟩ = some (.pointer (some ⟨y, 0, none⟩)) ∧ W.cell? ⟨kb, 1, none⟩ = some (.int .i64 x1)) (first | (refine ⟨?_, ?_, ?_, ?_, ?_⟩ <;> assumption) | go_keep) (first
    | (go_at_call 27; refine (KD.out _ _ _ _ (by first | exact HS1.out.drew | exact HS1.out)).mono ?_; rintro e w2 ⟨rfl, D2, hS2⟩; have yq0 := hS2.c0; have yq1 := hS2.c1; have yq2 := hS2.c2; have yq3 := hS2.c3; have yk1 := hS2.k HKB.out hsF f1; have HS2 := hid hS2; clear hS2)
    | fail)
  by_cases e0 : R.2.1 = Z.2.1
  · have eb0 : (R.2.1 == Z.2.1) = true := by simp [e0]
    clear e0
    go_wp2_with fail
    all_goals
      go_ret
      first
      | exact HS1.out.donex HWF.out HB.out HE.out
      | exact HS2.out.donex HWF.out HB.out HE.out
      | exact HS1.out.drew.donex HWF.out HB.out HE.out
      | exact HS2.out.drew.donex HWF.out HB.out HE.out
  · have eb0 : (R.2.1 == Z.2.1) = false := by simp [e0]
    clear e0
    go_wp2_with fail
    all_goals
      go_ret
      first
      | exact HS1.out.donex HWF.out HB.out HE.out
      | exact HS2.out.donex HWF.out HB.out HE.out
      | exact HS1.out.drew.donex HWF.out HB.out HE.out
      | exact HS2.out.drew.donex HWF.out HB.out HE.out

set_option maxHeartbeats 8000000 in
theorem dox_1 (pp f x t y L B : Nat) (G D : Nat → Prop) (g gd : Gt) (x0 x1 x2 x3 : Int) (w : World) (H : P9 w B G D pp f x t y L g gd) (H0 : LOk g) (H1 : GOk gd)
    (hq : wrap64 ((IntKind.u64.wrap x0).tmod 11) = 1) :
    Calls Tryz.prog 8 #[.pointer (some ⟨pp, 0, none⟩), .agg #[.int .i64 x0, .int .i64 x1, .int .i64 x2, .int .i64 x3]] w (Dx9 w B pp f x t y L) := by
  have hpl := H.lt
  have HB : Hid (B ≤ w.heap.size) := hid (Nat.le_trans H.gp (Nat.le_of_lt hpl))
  have HO := hid H0
  have HP0 := hid H1
  have HQ := hid hq
  have HP := hid H
  clear H H0 H1 hq
  go_enter Tryz.func8, Tryz.ntmps8
  go_upto_region 1 with fail
  obtain ⟨wF, gwF⟩ : ∃ wF, wF = w.alloc (.cells #[.int .i64 x0, .int .i64 x1, .int .i64 x2, .int .i64 x3] 26) := ⟨_, rfl⟩
  rw [← gwF]
  have hb1 : Below w.heap.size w wF := by rw [gwF]; exact (Below.refl _ _).alloc (Nat.le_refl _) _
  have hsF : w.heap.size < wF.heap.size := by rw [gwF]; simp
  have f0 : wF.cell? ⟨w.heap.size, 0, none⟩ = some (.int .i64 x0) := by rw [gwF]; simp [go_sem]
  have f1 : wF.cell? ⟨w.heap.size, 1, none⟩ = some (.int .i64 x1) := by rw [gwF]; simp [go_sem]
  have f2 : wF.cell? ⟨w.heap.size, 2, none⟩ = some (.int .i64 x2) := by rw [gwF]; simp [go_sem]
  have f3 : wF.cell? ⟨w.heap.size, 3, none⟩ = some (.int .i64 x3) := by rw [gwF]; simp [go_sem]
  have HWF := hid hb1
  clear gwF hb1
  go_upto_block 0 with fail
  rw [HQ.out]
  obtain ⟨kb, gkb⟩ : ∃ kb, kb = w.heap.size := ⟨_, rfl⟩
  rw [← gkb] at f0 f1 f2 f3 hsF ⊢
  have hS0 : S9 wF B kb G D pp f x t y L g gd wF := by
    have h := HP.out.grow HWF.out
    refine ⟨h, Upd.refl _ _, fun b hk hb => ⟨hb, fun e => ?_, fun hG => ?_, fun hR => ?_⟩⟩
    · omega
    · have h1 := (HP.out.gG b hG).2.1
      omega
    · have h1 := (HP.out.gD b hR).2.1
      omega
  have q0 := hS0.c0
  have q1 := hS0.c1
  have q2 := hS0.c2
  have q3 := hS0.c3
  have HS0 := hid hS0
  have GKB := hid gkb
  have HKB : Hid (kb ≤ kb) := hid (Nat.le_refl _)
  clear hS0 gkb
  obtain ⟨R, gR⟩ : ∃ R, R = g.exit x1 x2 := ⟨_, rfl⟩
  obtain ⟨Z, gZ⟩ : ∃ Z, Z = gd.exit x1 x2 := ⟨_, rfl⟩
  have HE : Hid (LOk R.1 ∧ GOk Z.1) := by rw [gR, gZ]; exact hid ⟨HO.out.exit _ _, HP0.out.exit _ _⟩
  have KP : Hid (∀ W G D gD, S9 wF B kb G D pp f x t y L g gD W → Calls Tryz.prog 15 #[.pointer (some ⟨t, 0, none⟩), .int .i64 x1, .int .i64 x2] W fun e w' => e = .returned (.int .i64 R.2) ∧ ∃ G', S9 wF B kb G' D pp f x t y L R.1 gD w') := by
    rw [gR]
    exact hid (fun W G D gD hs => (gexit_any hs.pr.tp.to HO.out.ok x1 x2).mono (by rintro e w' ⟨he, k⟩; exact ⟨he, hs.prog k⟩))
  have KD : Hid (∀ W G D gP, S9 wF B kb G D pp f x t y L gP gd W → Calls Tryz.prog 28 #[.pointer (some ⟨y, 0, none⟩), .int .i64 x1, .int .i64 x2] W fun e w' => e = .returned (.int .i64 Z.2) ∧ ∃ D', S9 wF B kb G D' pp f x t y L gP Z.1 w') := by
    rw [gZ]
    exact hid (fun W G D gP hs => (r9exit_any hs.pr.td.to HP0.out x1 x2).mono (by rintro e w' ⟨he, k⟩; exact ⟨he, hs.doc1 k⟩))
  clear gR gZ
  go_wp2_with fail
  go_region_held3 (fun W => W.cell? ⟨pp, 0, none⟩ = some (.pointer (some ⟨f, 0, none⟩)) ∧ W.cell? ⟨pp, 1, none⟩ = some (.pointer (some ⟨x, 0, none⟩)) ∧ W.cell? ⟨pp, 2, none⟩ = some (.pointer (some ⟨t, 0, none⟩)) ∧ W.cell? ⟨pp, 3, none⟩ = some (.pointer (some ⟨y, 0, none⟩)) ∧ W.cell? ⟨kb, 1, none⟩ = some (.int .i64 x1) ∧ W.cell? ⟨kb, 2, none⟩ = some (.int .i64 x2)) (first | (refine ⟨?_, ?_, ?_, ?_, ?_, ?_⟩ <;> assumption) | go_keep) (first
    | (go_at_call 15; refine (KP.out _ _ _ _ (by first | exact HS2.out | exact HS0.out.drew | exact HS0.out)).mono ?_; rintro e w1 ⟨rfl, G1, hS1⟩; have zq0 := hS1.c0; have zq1 := hS1.c1; have zq2 := hS1.c2; have zq3 := hS1.c3; have zk1 := hS1.k HKB.out hsF f1; have zk2 := hS1.k HKB.out hsF f2; have HS1 := hid hS1; clear hS1)
    | (go_at_call 28; refine (KD.out _ _ _ _ (by first | exact HS1.out | exact HS0.out.drew | exact HS0.out)).mono ?_; rintro e w2 ⟨rfl, D2, hS2⟩; have yq0 := hS2.c0; have yq1 := hS2.c1; have yq2 := hS2.c2; have yq3 := hS2.c3; have yk1 := hS2.k HKB.out hsF f1; have yk2 := hS2.k HKB.out hsF f2; have HS2 := hid hS2; clear hS2)
    | fail)
  all_goals
    go_wp2_with fail
    go_ret
    first
    | exact HS1.out.donex HWF.out HB.out HE.out
    | exact HS2.out.donex HWF.out HB.out HE.out
    | exact HS1.out.drew.donex HWF.out HB.out HE.out
    | exact HS2.out.drew.donex HWF.out HB.out HE.out

set_option maxHeartbeats 8000000 in
theorem dox_3 (pp f x t y L B : Nat) (G D : Nat → Prop) (g gd : Gt) (x0 x1 x2 x3 : Int) (w : World) (H : P9 w B G D pp f x t y L g gd) (H0 : LOk g) (H1 : GOk gd)
    (hq : wrap64 ((IntKind.u64.wrap x0).tmod 11) = 3) :
    Calls Tryz.prog 8 #[.pointer (some ⟨pp, 0, none⟩), .agg #[.int .i64 x0, .int .i64 x1, .int .i64 x2, .int .i64 x3]] w (Dx9 w B pp f x t y L) := by
  have hpl := H.lt
  have HB : Hid (B ≤ w.heap.size) := hid (Nat.le_trans H.gp (Nat.le_of_lt hpl))
  have HO := hid H0
  have HP0 := hid H1
  have HQ := hid hq
  have HP := hid H
  clear H H0 H1 hq
  go_enter Tryz.func8, Tryz.ntmps8
  go_upto_region 1 with fail
  obtain ⟨wF, gwF⟩ : ∃ wF, wF = w.alloc (.cells #[.int .i64 x0, .int .i64 x1, .int .i64 x2, .int .i64 x3] 26) := ⟨_, rfl⟩
  rw [← gwF]
  have hb1 : Below w.heap.size w wF := by rw [gwF]; exact (Below.refl _ _).alloc (Nat.le_refl _) _
  have hsF : w.heap.size < wF.heap.size := by rw [gwF]; simp
  have f0 : wF.cell? ⟨w.heap.size, 0, none⟩ = some (.int .i64 x0) := by rw [gwF]; simp [go_sem]
  have f1 : wF.cell? ⟨w.heap.size, 1, none⟩ = some (.int .i64 x1) := by rw [gwF]; simp [go_sem]
  have f2 : wF.cell? ⟨w.heap.size, 2, none⟩ = some (.int .i64 x2) := by rw [gwF]; simp [go_sem]
  have f3 : wF.cell? ⟨w.heap.size, 3, none⟩ = some (.int .i64 x3) := by rw [gwF]; simp [go_sem]
  have HWF := hid hb1
  clear gwF hb1
  go_upto_block 0 with fail
  rw [HQ.out]
  obtain ⟨kb, gkb⟩ : ∃ kb, kb = w.heap.size := ⟨_, rfl⟩
  rw [← gkb] at f0 f1 f2 f3 hsF ⊢
  have hS0 : S9 wF B kb G D pp f x t y L g gd wF := by
    have h := HP.out.grow HWF.out
    refine ⟨h, Upd.refl _ _, fun b hk hb => ⟨hb, fun e => ?_, fun hG => ?_, fun hR => ?_⟩⟩
    · omega
    · have h1 := (HP.out.gG b hG).2.1
      omega
    · have h1 := (HP.out.gD b hR).2.1
      omega
  have q0 := hS0.c0
  have q1 := hS0.c1
  have q2 := hS0.c2
  have q3 := hS0.c3
  have HS0 := hid hS0
  have GKB := hid gkb
  have HKB : Hid (kb ≤ kb) := hid (Nat.le_refl _)
  clear hS0 gkb
  obtain ⟨R, gR⟩ : ∃ R, R = g.kill x1 x2 := ⟨_, rfl⟩
  obtain ⟨Z, gZ⟩ : ∃ Z, Z = gd.kill x1 x2 := ⟨_, rfl⟩
  have HE : Hid (LOk R.1 ∧ GOk Z.1) := by rw [gR, gZ]; exact hid ⟨HO.out.kill _ _, HP0.out.kill _ _⟩
  have KP : Hid (∀ W G D gD, S9 wF B kb G D pp f x t y L g gD W → Calls Tryz.prog 31 #[.pointer (some ⟨t, 0, none⟩), .int .i64 x1, .int .i64 x2] W fun e w' => e = .returned (.int .i64 R.2) ∧ ∃ G', S9 wF B kb G' D pp f x t y L R.1 gD w') := by
    rw [gR]
    exact hid (fun W G D gD hs => (gkill_any hs.pr.tp.to HO.out.ok x1 x2).mono (by rintro e w' ⟨he, k⟩; exact ⟨he, hs.prog k⟩))
  have KD : Hid (∀ W G D gP, S9 wF B kb G D pp f x t y L gP gd W → Calls Tryz.prog 32 #[.pointer (some ⟨y, 0, none⟩), .int .i64 x1, .int .i64 x2] W fun e w' => e = .returned (.int .i64 Z.2) ∧ ∃ D', S9 wF B kb G D' pp f x t y L gP Z.1 w') := by
    rw [gZ]
    exact hid (fun W G D gP hs => (r9kill_any hs.pr.td.to HP0.out x1 x2).mono (by rintro e w' ⟨he, k⟩; exact ⟨he, hs.doc1 k⟩))
  clear gR gZ
  go_wp2_with fail
  go_region_held3 (fun W => W.cell? ⟨pp, 0, none⟩ = some (.pointer (some ⟨f, 0, none⟩)) ∧ W.cell? ⟨pp, 1, none⟩ = some (.pointer (some ⟨x, 0, none⟩)) ∧ W.cell? ⟨pp, 2, none⟩ = some (.pointer (some ⟨t, 0, none⟩)) ∧ W.cell? ⟨pp, 3, none⟩ = some (.pointer (some ⟨y, 0, none⟩)) ∧ W.cell? ⟨kb, 1, none⟩ = some (.int .i64 x1) ∧ W.cell? ⟨kb, 2, none⟩ = some (.int .i64 x2)) (first | (refine ⟨?_, ?_, ?_, ?_, ?_, ?_⟩ <;> assumption) | go_keep) (first
    | (go_at_call 31; refine (KP.out _ _ _ _ (by first | exact HS2.out | exact HS0.out.drew | exact HS0.out)).mono ?_; rintro e w1 ⟨rfl, G1, hS1⟩; have zq0 := hS1.c0; have zq1 := hS1.c1; have zq2 := hS1.c2; have zq3 := hS1.c3; have zk1 := hS1.k HKB.out hsF f1; have zk2 := hS1.k HKB.out hsF f2; have HS1 := hid hS1; clear hS1)
    | (go_at_call 32; refine (KD.out _ _ _ _ (by first | exact HS1.out | exact HS0.out.drew | exact HS0.out)).mono ?_; rintro e w2 ⟨rfl, D2, hS2⟩; have yq0 := hS2.c0; have yq1 := hS2.c1; have yq2 := hS2.c2; have yq3 := hS2.c3; have yk1 := hS2.k HKB.out hsF f1; have yk2 := hS2.k HKB.out hsF f2; have HS2 := hid hS2; clear hS2)
    | fail)
  all_goals
    go_wp2_with fail
    go_ret
    first
    | exact HS1.out.donex HWF.out HB.out HE.out
    | exact HS2.out.donex HWF.out HB.out HE.out
    | exact HS1.out.drew.donex HWF.out HB.out HE.out
    | exact HS2.out.drew.donex HWF.out HB.out HE.out

end Go.Proofs.YtbglhmcahnkbfaaGreat
