/- Texts of this seat, merged. -/
import Derived.Test.YtoknhcjneliboaaGreatFMg2
import Derived.Test.YtoknhcjneliboaaGreatChecked
import Derived.Test.YtoknhcjneliboaaGreatFMg1
import Derived.Laws.Tables
import Derived.Deep.WholeRow
import Derived.Deep.MidRow
import Derived.Deep.RegionHeld3

/- Without defects links are how many names there are, and a marked block is a file's; links grow by one a call at most. -/
namespace Go.Proofs.YtoknhcjneliboaaGreat
set_option linter.unusedVariables false

/-- What is true without defects. -/
structure FSh (F : Fs) : Prop where
  d : F.d = 0
  l : ∀ i, i ≠ 1 → (F.P i).l = (nmc F.P i 17 : Int)
  T : ∀ b, F.T b = true → ∃ i, b ∈ (F.P i).B

theorem dfc_0_1 : dfc 0 1 = false := by decide
theorem dfc_0_2 : dfc 0 2 = false := by decide
theorem dfc_0_4 : dfc 0 4 = false := by decide

theorem rootF_sh : FSh (rootF 0) := by
  refine ⟨rfl, fun i hi => ?_, fun b hb => ?_⟩
  · have e : ∀ j, ((rootF 0).P j).Q = [] := fun j => by
      show (if j = 1 then Fn.nu 2 else Fn.no).Q = []
      split <;> rfl
    have e2 : ((rootF 0).P i).l = 0 := by
      show (if i = 1 then Fn.nu 2 else Fn.no).l = 0
      rw [if_neg hi]; rfl
    rw [e2]
    have : ∀ m, nmc (rootF 0).P i m = 0 := by
      intro m
      induction m with
      | zero => rfl
      | succ m ih => unfold nmc; rw [ih, e m]; rfl
    rw [this 17]; rfl
  · simp [rootF] at hb

theorem FSh.relB_T {F : Fs} (H : FSh F) (B : List Nat) (b : Nat) (h : (F.relB B).T b = true) : b ∉ B ∧ F.T b = true := by
  unfold Fs.relB at h
  rw [if_neg (by rw [H.d, dfc_0_2]; simp)] at h
  dsimp only at h
  split at h
  · simp at h
  · exact ⟨by assumption, h⟩

/-- A link less, where it was one too many. -/
theorem fsh_less {F : Fs} (d : F.d = 0) (n : Nat) (hn : n ≠ 1) (hl : ∀ i, i ≠ 1 → (F.P i).l = (nmc F.P i 17 : Int) + if i = n then 1 else 0) (hT : ∀ b, F.T b = true → ∃ i, b ∈ (F.P i).B) (hQ : (F.P n).Q = []) : FSh (F.less n) := by
  rw [less_eq]
  split
  · refine ⟨d, fun i hi => ?_, fun b hb => ?_⟩
    · have en : nmc (F.lnk n ((F.P n).l - 1)).P i 17 = nmc F.P i 17 := nmc_same i 17 (fun j _ => Fs.at_f Fn.Q F n { F.P n with l := (F.P n).l - 1 } rfl j)
      rw [en]
      unfold Fs.lnk
      rw [Fs.at_P]
      have := hl i hi
      split
      · rename_i e; subst e
        rw [if_pos rfl] at this
        show (F.P i).l - 1 = _
        omega
      · rename_i e
        rw [if_neg e] at this
        omega
    · obtain ⟨i, hi⟩ := hT b hb
      refine ⟨i, ?_⟩
      have : ((F.lnk n ((F.P n).l - 1)).P i).B = (F.P i).B := Fs.at_f Fn.B F n { F.P n with l := (F.P n).l - 1 } rfl i
      rw [this]; exact hi
  · rename_i hh
    have eP : ∀ j, (((F.relB (F.P n).B).at_ n Fn.no).P j) = if j = n then Fn.no else F.P j := fun j => by rw [Fs.at_P, relB_P]
    refine ⟨by show (F.relB _).d = 0; rw [relB_d]; exact d, fun i hi => ?_, fun b hb => ?_⟩
    · have en : nmc ((F.relB (F.P n).B).at_ n Fn.no).P i 17 = nmc F.P i 17 := nmc_same i 17 (fun j _ => by
        rw [eP]; split
        · rename_i e; subst e; rw [hQ]; rfl
        · rfl)
      rw [en, eP]
      have := hl i hi
      split
      · rename_i e; subst e
        rw [if_pos rfl] at this
        show (0 : Int) = _
        omega
      · rename_i e
        rw [if_neg e] at this
        omega
    · have hb' : (F.relB (F.P n).B).T b = true := hb
      unfold Fs.relB at hb'
      rw [if_neg (by rw [d, dfc_0_2]; simp)] at hb'
      dsimp only at hb'
      split at hb'
      · simp at hb'
      · rename_i hnb
        obtain ⟨i, hi⟩ := hT b hb'
        refine ⟨i, ?_⟩
        rw [eP, if_neg (fun e => hnb (by rw [← e]; exact hi))]
        exact hi

theorem FSh.make {F : Fs} (S : FSh F) (H : FOk F) (l : List UInt8) (kind : Int) : FSh (F.make l kind).1 := by
  unfold Fs.make
  split
  · exact S
  split
  · exact S
  rename_i y s n hw
  have W := H.walk_ok hw
  split
  · exact S
  rename_i hn
  split
  · exact S
  split
  · exact S
  rename_i hf
  obtain ⟨f1, f2, f3⟩ := Fs.free_lt hf
  have h0 := H.none _ f3
  have hf1 : F.free ≠ 1 := fun e => by have := H.root; rw [e] at f3; omega
  have en : ∀ i, nmc (F.at_ F.free (Fn.nu kind)).P i 17 = nmc F.P i 17 := fun i => nmc_same _ 17 (fun j _ => Fs.at_f Fn.Q F F.free _ (by rw [h0]; rfl) j)
  have hz : nmc F.P F.free 17 = 0 := by
    have := H.li F.free hf1
    rw [h0] at this
    simp only [Fn.no] at this
    omega
  refine ⟨S.d, fun i hi => ?_, fun b hb => ?_⟩
  · rw [nmc_addn _ W.lt.2, en, Fs.addn_P]
    dsimp only
    rw [Fs.at_P]
    by_cases e : i = F.free
    · rw [if_pos e, if_pos e.symm, e, hz]; rfl
    · rw [if_neg e, if_neg (fun q => e q.symm), S.l i hi]; simp
  · obtain ⟨i, hi⟩ := S.T b hb
    refine ⟨i, ?_⟩
    rw [Fs.addn_P]
    dsimp only
    rw [Fs.at_P]
    split
    · rename_i e; rw [e, h0] at hi; simp [Fn.no] at hi
    · exact hi

theorem FSh.deln_less {F : Fs} (S : FSh F) (H : FOk F) {y : List Nat} {s : List UInt8} {n : Nat} (W : Wlk F y s n) (hn : n ≠ 0) (hQ : (F.P n).Q = []) : FSh ((F.deln (Fs.dirOf y) s).less n) := by
  obtain ⟨n1, n17, nk⟩ := W.to hn
  have hnz : lk (F.P (Fs.dirOf y)).Q s ≠ 0 := by rw [← W.nn]; exact hn
  refine fsh_less (F := F.deln (Fs.dirOf y) s) S.d n (by omega) (fun i hi => ?_) (fun b hb => ?_) ?_
  · have hc := nmc_deln H (Fs.dirOf y) W.lt.2 s hnz i
    rw [← W.nn] at hc
    have e : ((F.deln (Fs.dirOf y) s).P i).l = (F.P i).l := by rw [Fs.deln_P]
    rw [e, S.l i hi]
    by_cases q : i = n
    · rw [if_pos q]; rw [if_pos q.symm] at hc; omega
    · rw [if_neg q]; rw [if_neg (fun h => q h.symm)] at hc; omega
  · obtain ⟨i, hi⟩ := S.T b hb
    exact ⟨i, by rw [Fs.deln_P]; exact hi⟩
  · rw [deln_Q]; split
    · rename_i e; subst e; rw [hQ]; rfl
    · exact hQ

theorem FSh.unlink {F : Fs} (S : FSh F) (H : FOk F) (l : List UInt8) : FSh (F.unlink l).1 := by
  unfold Fs.unlink
  split
  · exact S
  rename_i y s n hw
  have W := H.walk_ok hw
  split
  · exact S
  rename_i hn
  split
  · exact S
  rename_i hk
  split
  · rename_i h; rw [S.d, dfc_0_1] at h; simp at h
  · exact S.deln_less H W hn (H.file n hk)
theorem FSh.rmdir {F : Fs} (S : FSh F) (H : FOk F) (l : List UInt8) : FSh (F.rmdir l).1 := by
  unfold Fs.rmdir
  split
  · exact S
  rename_i y s n hw
  have W := H.walk_ok hw
  split
  · exact S
  rename_i hn
  split
  · exact S
  split
  · exact S
  rename_i hs
  have hs : F.stays n = 0 := Decidable.not_not.1 hs
  unfold Fs.stays at hs
  split at hs
  · simp at hs
  rename_i hq
  exact S.deln_less H W hn (List.eq_nil_of_length_eq_zero (by omega))

theorem FSh.link {F : Fs} (S : FSh F) (H : FOk F) (l m : List UInt8) : FSh (F.link l m).1 := by
  unfold Fs.link
  split
  · exact S
  rename_i h0
  split
  · exact S
  rename_i hk
  split
  · exact S
  rename_i y s n hw
  have W := H.walk_ok hw
  split
  · exact S
  split
  · exact S
  generalize (F.find l).1 = q at *
  have en : ∀ i, nmc (F.lnk q ((F.P q).l + 1)).P i 17 = nmc F.P i 17 := fun i => nmc_same _ 17 (fun j _ => by rw [Fs.lnk_P])
  refine ⟨S.d, fun i hi => ?_, fun b hb => ?_⟩
  · rw [nmc_addn _ W.lt.2, en, Fs.addn_P]
    dsimp only
    rw [Fs.lnk_P]
    dsimp only
    by_cases e : i = q
    · subst e; rw [if_pos rfl, if_pos rfl, S.l i hi]; omega
    · rw [if_neg e, if_neg (fun h => e h.symm), S.l i hi]; simp
  · obtain ⟨i, hi⟩ := S.T b hb
    exact ⟨i, by rw [Fs.addn_P]; dsimp only; rw [Fs.lnk_P]; exact hi⟩

theorem FSh.rename {F : Fs} (S : FSh F) (H : FOk F) (l m : List UInt8) : FSh (F.rename l m).1 := by
  unfold Fs.rename
  split
  · exact S
  rename_i y s n hw
  have W := H.walk_ok hw
  split
  · exact S
  rename_i hn
  split
  · exact S
  rename_i y2 s2 n2 hw2
  have W2 := H.walk_ok hw2
  split
  · exact S
  rename_i hnn
  split
  · exact S
  rename_i hov
  split
  · exact S
  rename_i hr
  split
  · exact S
  rename_i hf
  obtain ⟨h1, h2, h3⟩ := H.moved W W2 hn hnn hr hf
  have hnz : lk (F.P (Fs.dirOf y)).Q s ≠ 0 := by rw [← W.nn]; exact hn
  have hD := H.deln (Fs.dirOf y) s W.k
  have hq : lk ((F.deln (Fs.dirOf y) s).P (Fs.dirOf y2)).Q s2 = n2 := by
    rw [deln_Q]
    split
    · rename_i ed
      rw [lk_del]
      split
      · rename_i es
        have a := W.nn
        have b := W2.nn
        rw [ed, es, ← a] at b
        exact absurd b hnn
      · rw [← ed]; exact W2.nn.symm
    · exact W2.nn.symm
  have hc : ∀ i, nmc (((F.deln (Fs.dirOf y) s).deln (Fs.dirOf y2) s2).addn (Fs.dirOf y2) s2 n).P i 17 + (if n2 ≠ 0 ∧ n2 = i then 1 else 0) = nmc F.P i 17 := fun i => by
    rw [nmc_addn _ W2.lt.2]
    have a := nmc_deln H (Fs.dirOf y) W.lt.2 s hnz i
    rw [← W.nn] at a
    by_cases e0 : n2 = 0
    · have hz : (if n2 ≠ 0 ∧ n2 = i then 1 else 0 : Nat) = 0 := if_neg (fun q => q.1 e0)
      rw [deln_none hD _ _ (by rw [hq]; exact e0), hz]
      omega
    · have b := nmc_deln hD (Fs.dirOf y2) W2.lt.2 s2 (by rw [hq]; exact e0) i
      rw [hq] at b
      by_cases e1 : n2 = i
      · have hz : (if n2 ≠ 0 ∧ n2 = i then 1 else 0 : Nat) = 1 := if_pos ⟨e0, e1⟩
        rw [hz]; rw [if_pos e1] at b; omega
      · have hz : (if n2 ≠ 0 ∧ n2 = i then 1 else 0 : Nat) = 0 := if_neg (fun q => e1 q.2)
        rw [hz]; rw [if_neg e1] at b; omega
  have hT : ∀ b, F.T b = true → ∃ i, b ∈ ((((F.deln (Fs.dirOf y) s).deln (Fs.dirOf y2) s2).addn (Fs.dirOf y2) s2 n).P i).B := fun b hb => by
    obtain ⟨i, hi⟩ := S.T b hb
    exact ⟨i, by rw [h3 i]; exact hi⟩
  split
  · rename_i h4
    obtain ⟨h4, _⟩ := h4
    have ho : F.over n n2 = 0 := Decidable.not_not.1 (fun q => hov ⟨h4, q⟩)
    obtain ⟨q1, q2⟩ := H.over_ok ho
    obtain ⟨m1, m17, mk⟩ := W2.to h4
    have hQ : ((((F.deln (Fs.dirOf y) s).deln (Fs.dirOf y2) s2).addn (Fs.dirOf y2) s2 n).P n2).Q = [] := by
      have hne : n2 ≠ Fs.dirOf y2 := fun e => by
        have := lk_mem (Q := (F.P (Fs.dirOf y2)).Q) (s := s2) (by rw [← W2.nn]; exact h4)
        rw [← e, q1] at this; simp at this
      unfold Fs.addn Fs.nq
      rw [Fs.at_ne _ _ _ _ hne]
      refine List.eq_nil_iff_forall_not_mem.2 (fun x hx => ?_)
      have := deln_sub F _ _ n2 x (deln_sub (F.deln (Fs.dirOf y) s) _ _ n2 x hx)
      rw [q1] at this; simp at this
    refine fsh_less (F := ((F.deln (Fs.dirOf y) s).deln (Fs.dirOf y2) s2).addn (Fs.dirOf y2) s2 n) S.d n2 (by omega) (fun i hi => ?_) hT hQ
    have := hc i
    have h3l : ((((F.deln (Fs.dirOf y) s).deln (Fs.dirOf y2) s2).addn (Fs.dirOf y2) s2 n).P i).l = (F.P i).l := by rw [h3 i]
    rw [h3l, S.l i hi]
    by_cases e : i = n2
    · rw [if_pos e]
      have hz : (if n2 ≠ 0 ∧ n2 = i then 1 else 0 : Nat) = 1 := if_pos ⟨h4, e.symm⟩
      rw [hz] at this; omega
    · rw [if_neg e]
      have hz : (if n2 ≠ 0 ∧ n2 = i then 1 else 0 : Nat) = 0 := if_neg (fun q => e q.2.symm)
      rw [hz] at this; omega
  · rename_i h4
    have h40 : n2 = 0 := by
      by_cases e : n2 = 0
      · exact e
      · exact absurd ⟨e, by rw [S.d]; exact dfc_0_4⟩ h4
    show FSh (((F.deln (Fs.dirOf y) s).deln (Fs.dirOf y2) s2).addn (Fs.dirOf y2) s2 n)
    refine ⟨S.d, fun i hi => ?_, hT⟩
    have := hc i
    have hz : (if n2 ≠ 0 ∧ n2 = i then 1 else 0 : Nat) = 0 := if_neg (fun q => q.1 h40)
    rw [hz] at this
    have h3l : ((((F.deln (Fs.dirOf y) s).deln (Fs.dirOf y2) s2).addn (Fs.dirOf y2) s2 n).P i).l = (F.P i).l := by rw [h3 i]
    rw [h3l, S.l i hi]
    omega

theorem FSh.hld {F : Fs} (S : FSh F) (q : Nat) (h : Int) : FSh (F.hld q h) := by
  refine ⟨S.d, fun i hi => ?_, fun b hb => ?_⟩
  · have en : nmc (F.hld q h).P i 17 = nmc F.P i 17 := nmc_same _ 17 (fun j _ => by rw [Fs.hld_P])
    rw [en, Fs.hld_P]; exact S.l i hi
  · obtain ⟨i, hi⟩ := S.T b hb
    exact ⟨i, by rw [Fs.hld_P]; exact hi⟩
theorem FSh.hold {F : Fs} (S : FSh F) (n : Int) : FSh (F.hold n).1 := by
  unfold Fs.hold
  split
  · exact S
  split
  · exact S
  exact S.hld _ _
theorem FSh.drop {F : Fs} (S : FSh F) (H : FOk F) (n : Int) : FSh (F.drop n).1 := by
  unfold Fs.drop
  split
  · exact S
  split
  · exact S
  generalize n.toNat = q at *
  dsimp only
  rw [gone_hld]
  split
  · exact S.hld _ _
  · rename_i hh
    have hl0 : ¬ 0 < (F.P q).l := fun e => hh (.inl e)
    have hq1 : q ≠ 1 := fun e => by have := (H.dir q (by rw [e]; exact H.root)).2.2; omega
    have hk : (F.P q).k ≠ 2 := fun e => by have := (H.dir q e).2.2; omega
    have hQ := H.file q hk
    have eP : ∀ j, (((F.relB (F.P q).B).at_ q Fn.no).P j) = if j = q then Fn.no else F.P j := fun j => by rw [Fs.at_P, relB_P]
    refine ⟨by show (F.relB _).d = 0; rw [relB_d]; exact S.d, fun i hi => ?_, fun b hb => ?_⟩
    · have en : nmc ((F.relB (F.P q).B).at_ q Fn.no).P i 17 = nmc F.P i 17 := nmc_same i 17 (fun j _ => by
        rw [eP]; split
        · rename_i e; subst e; rw [hQ]; rfl
        · rfl)
      rw [en, eP]
      have := S.l i hi
      split
      · rename_i e; subst e
        show (0 : Int) = _
        omega
      · exact this
    · obtain ⟨h1, h2⟩ := S.relB_T _ _ hb
      obtain ⟨i, hi⟩ := S.T b h2
      refine ⟨i, ?_⟩
      rw [eP, if_neg (fun e => h1 (by rw [← e]; exact hi))]
      exact hi

theorem FSh.with_ {F : Fs} (S : FSh F) (n : Nat) (c : List Int) (B : List Nat) (T : Nat → Bool) (hT : ∀ b, T b = true → b ∈ B ∨ (F.T b = true ∧ (b ∈ (F.P n).B → b ∈ B))) : FSh (F.with_ n c B T) := by
  refine ⟨S.d, fun i hi => ?_, fun b hb => ?_⟩
  · have en : nmc (F.with_ n c B T).P i 17 = nmc F.P i 17 := nmc_same _ 17 (fun j _ => by rw [Fs.with_P]; split <;> simp [*])
    rw [en, Fs.with_P]
    split
    · rename_i e; subst e; exact S.l i hi
    · exact S.l i hi
  · rcases hT b hb with h | ⟨h1, h2⟩
    · exact ⟨n, by rw [Fs.with_P, if_pos rfl]; exact h⟩
    · obtain ⟨i, hi⟩ := S.T b h1
      refine ⟨i, ?_⟩
      rw [Fs.with_P]
      split
      · rename_i e; subst e; exact h2 hi
      · exact hi
theorem FSh.grown {F : Fs} (S : FSh F) (n s : Nat) (c : List Int) : FSh ((F.grow n s).ct n c) := by
  rw [grow_ct]
  refine S.with_ n _ _ _ (fun b hb => ?_)
  split at hb
  · exact .inl (List.mem_append.2 (.inr (by assumption)))
  · exact .inr ⟨hb, fun q => List.mem_append.2 (.inl q)⟩
theorem FSh.write {F : Fs} (S : FSh F) (n off : Int) (b : List Int) : FSh (F.write n off b).1 := by
  unfold Fs.write
  split
  · exact S
  split
  · exact S
  split
  · exact S
  split
  · exact S
  split
  · exact S
  exact S.grown _ _ _
theorem FSh.resize {F : Fs} (S : FSh F) (H : FOk F) (n z : Int) : FSh (F.resize n z).1 := by
  unfold Fs.resize
  split
  · exact S
  split
  · exact S
  split
  · exact S
  split
  · generalize n.toNat = q at *
    have hP : (F.relB ((F.P q).B.drop (Fs.need z.toNat))).P = F.P := relB_P _ _
    have e : (F.relB ((F.P q).B.drop (Fs.need z.toNat))).at_ q { F.P q with c := (F.P q).c.take z.toNat, B := (F.P q).B.take (Fs.need z.toNat) } = F.with_ q ((F.P q).c.take z.toNat) ((F.P q).B.take (Fs.need z.toNat)) (F.relB ((F.P q).B.drop (Fs.need z.toNat))).T := by
      unfold Fs.with_ Fs.at_
      rw [hP, relB_d]
    show FSh ((F.relB ((F.P q).B.drop (Fs.need z.toNat))).at_ q _)
    rw [e]
    refine S.with_ q _ _ _ (fun b hb => ?_)
    obtain ⟨h1, h2⟩ := S.relB_T _ _ hb
    refine .inr ⟨h2, fun h => ?_⟩
    rw [← List.take_append_drop (Fs.need z.toNat) (F.P q).B] at h
    exact (List.mem_append.1 h).resolve_right h1
  · split
    · exact S
    exact S.grown _ _ _

/-- Links are at most so many. -/
def LB (F : Fs) (m : Int) : Prop := ∀ i, (F.P i).l ≤ m
theorem LB.mono {F : Fs} {m m' : Int} (h : LB F m) (k : m ≤ m') : LB F m' := fun i => Int.le_trans (h i) k
theorem LB.root (d : Int) : LB (rootF d) 1 := fun i => by
  show (if i = 1 then Fn.nu 2 else Fn.no).l ≤ 1
  split
  · exact Int.le_refl 1
  · show (0 : Int) ≤ 1; omega
theorem LB.less {F : Fs} {m : Int} (h : LB F m) (h0 : 0 ≤ m) (n : Nat) : LB (F.less n) m := fun i => by
  rw [less_eq]
  split
  · rw [Fs.lnk_P]
    dsimp only
    have := h i
    split
    · rename_i e; subst e; omega
    · exact this
  · rw [Fs.at_P, relB_P]
    split
    · exact h0
    · exact h i
theorem LB.deln {F : Fs} {m : Int} (h : LB F m) (dr : Nat) (s : List UInt8) : LB (F.deln dr s) m := fun i => by rw [Fs.deln_P]; exact h i
theorem LB.addn {F : Fs} {m : Int} (h : LB F m) (dr : Nat) (s : List UInt8) (n : Nat) : LB (F.addn dr s n) m := fun i => by rw [Fs.addn_P]; exact h i
theorem LB.make {F : Fs} {m : Int} (h : LB F m) (h1 : 1 ≤ m) (l : List UInt8) (kind : Int) : LB (F.make l kind).1 m := by
  unfold Fs.make
  split
  · exact h
  split
  · exact h
  split
  · exact h
  split
  · exact h
  split
  · exact h
  refine LB.addn (fun i => ?_) _ _ _
  rw [Fs.at_P]
  split
  · exact h1
  · exact h i
theorem LB.unlink {F : Fs} {m : Int} (h : LB F m) (h1 : 1 ≤ m) (l : List UInt8) : LB (F.unlink l).1 m := by
  unfold Fs.unlink
  split
  · exact h
  split
  · exact h
  split
  · exact h
  split
  · exact h.deln _ _
  · exact (h.deln _ _).less (by omega) _
theorem LB.rmdir {F : Fs} {m : Int} (h : LB F m) (h1 : 1 ≤ m) (l : List UInt8) : LB (F.rmdir l).1 m := by
  unfold Fs.rmdir
  split
  · exact h
  split
  · exact h
  split
  · exact h
  split
  · exact h
  exact (h.deln _ _).less (by omega) _
theorem LB.link {F : Fs} {m : Int} (h : LB F m) (l l2 : List UInt8) : LB (F.link l l2).1 (m + 1) := by
  have h' : LB F (m + 1) := h.mono (by omega)
  unfold Fs.link
  split
  · exact h'
  split
  · exact h'
  split
  · exact h'
  split
  · exact h'
  split
  · exact h'
  refine LB.addn (fun i => ?_) _ _ _
  rw [Fs.lnk_P]
  dsimp only
  split
  · have := h (F.find l).1; omega
  · exact h' i
theorem LB.rename {F : Fs} {m : Int} (h : LB F m) (h1 : 1 ≤ m) (l l2 : List UInt8) : LB (F.rename l l2).1 m := by
  unfold Fs.rename
  split
  · exact h
  split
  · exact h
  split
  · exact h
  split
  · exact h
  split
  · exact h
  split
  · exact h
  split
  · exact h
  split
  · exact (((h.deln _ _).deln _ _).addn _ _ _).less (by omega) _
  · exact ((h.deln _ _).deln _ _).addn _ _ _
theorem LB.at_ {F : Fs} {m : Int} (h : LB F m) (n : Nat) (x : Fn) (hx : x.l ≤ m) : LB (F.at_ n x) m := fun i => by
  rw [Fs.at_P]; split
  · exact hx
  · exact h i
theorem LB.hold {F : Fs} {m : Int} (h : LB F m) (n : Int) : LB (F.hold n).1 m := by
  unfold Fs.hold
  split
  · exact h
  split
  · exact h
  exact h.at_ _ _ (h _)
theorem LB.drop {F : Fs} {m : Int} (h : LB F m) (h1 : 1 ≤ m) (n : Int) : LB (F.drop n).1 m := by
  unfold Fs.drop
  split
  · exact h
  split
  · exact h
  dsimp only
  rw [gone_hld]
  split
  · exact h.at_ _ _ (h _)
  · refine LB.at_ (fun i => ?_) _ _ (by show (0 : Int) ≤ m; omega)
    rw [relB_P]; exact h i
theorem LB.grown {F : Fs} {m : Int} (h : LB F m) (n s : Nat) (c : List Int) : LB ((F.grow n s).ct n c) m := fun i => by
  rw [grow_ct, Fs.with_P]
  split
  · exact h n
  · exact h i
theorem LB.write {F : Fs} {m : Int} (h : LB F m) (n off : Int) (b : List Int) : LB (F.write n off b).1 m := by
  unfold Fs.write
  split
  · exact h
  split
  · exact h
  split
  · exact h
  split
  · exact h
  split
  · exact h
  exact h.grown _ _ _
theorem LB.resize {F : Fs} {m : Int} (h : LB F m) (n z : Int) : LB (F.resize n z).1 m := by
  unfold Fs.resize
  split
  · exact h
  split
  · exact h
  split
  · exact h
  split
  · refine LB.at_ (fun i => ?_) _ _ (h _)
    rw [relB_P]; exact h i
  · split
    · exact h
    exact h.grown _ _ _

end Go.Proofs.YtoknhcjneliboaaGreat

/- Calls that hold nothing leave who holds what, and the defects. -/
namespace Go.Proofs.YtoknhcjneliboaaGreat
set_option linter.unusedVariables false

/-- The same defects, the same holders. -/
def SH (F F' : Fs) : Prop := F'.d = F.d ∧ ∀ i, (F'.P i).h = (F.P i).h
theorem SH.refl (F : Fs) : SH F F := ⟨rfl, fun _ => rfl⟩
theorem SH.trans {F F' F'' : Fs} (h : SH F F') (k : SH F' F'') : SH F F'' := ⟨k.1.trans h.1, fun i => (k.2 i).trans (h.2 i)⟩
theorem SH.at_ (F : Fs) (n : Nat) (x : Fn) (h : x.h = (F.P n).h) : SH F (F.at_ n x) := ⟨rfl, fun i => by
  rw [Fs.at_P]; split
  · rename_i e; subst e; exact h
  · rfl⟩
theorem SH.relB (F : Fs) (B : List Nat) : SH F (F.relB B) := ⟨relB_d F B, fun i => by rw [relB_P]⟩
theorem SH.less (F : Fs) (n : Nat) (h0 : 0 ≤ (F.P n).h) : SH F (F.less n) := by
  rw [less_eq]
  split
  · exact SH.at_ F n _ rfl
  · rename_i e
    refine (SH.relB F _).trans (SH.at_ _ n _ ?_)
    rw [relB_P]
    show (0 : Int) = _
    omega
theorem SH.deln (F : Fs) (dr : Nat) (s : List UInt8) : SH F (F.deln dr s) := SH.at_ F dr _ rfl
theorem SH.addn (F : Fs) (dr : Nat) (s : List UInt8) (n : Nat) : SH F (F.addn dr s n) := SH.at_ F dr _ rfl
theorem SH.make {F : Fs} (H : FOk F) (l : List UInt8) (kind : Int) : SH F (F.make l kind).1 := by
  unfold Fs.make
  split
  · exact SH.refl F
  split
  · exact SH.refl F
  split
  · exact SH.refl F
  split
  · exact SH.refl F
  split
  · exact SH.refl F
  rename_i hf
  obtain ⟨_, _, f3⟩ := Fs.free_lt hf
  refine (SH.at_ F F.free (Fn.nu kind) ?_).trans (SH.addn _ _ _ _)
  rw [H.none _ f3]
  rfl
theorem SH.unlink {F : Fs} (H : FOk F) (l : List UInt8) : SH F (F.unlink l).1 := by
  unfold Fs.unlink
  split
  · exact SH.refl F
  split
  · exact SH.refl F
  split
  · exact SH.refl F
  split
  · exact SH.deln _ _ _
  · exact (SH.deln _ _ _).trans (SH.less _ _ (by rw [(SH.deln F _ _).2]; exact (H.h _).1))
theorem SH.rmdir {F : Fs} (H : FOk F) (l : List UInt8) : SH F (F.rmdir l).1 := by
  unfold Fs.rmdir
  split
  · exact SH.refl F
  split
  · exact SH.refl F
  split
  · exact SH.refl F
  split
  · exact SH.refl F
  exact (SH.deln _ _ _).trans (SH.less _ _ (by rw [(SH.deln F _ _).2]; exact (H.h _).1))
theorem SH.link {F : Fs} (l l2 : List UInt8) : SH F (F.link l l2).1 := by
  unfold Fs.link
  split
  · exact SH.refl F
  split
  · exact SH.refl F
  split
  · exact SH.refl F
  split
  · exact SH.refl F
  split
  · exact SH.refl F
  exact SH.trans (F' := F.lnk (F.find l).1 ((F.P (F.find l).1).l + 1)) (SH.at_ F _ _ rfl) (SH.addn _ _ _ _)
theorem SH.rename {F : Fs} (H : FOk F) (l l2 : List UInt8) : SH F (F.rename l l2).1 := by
  unfold Fs.rename
  split
  · exact SH.refl F
  split
  · exact SH.refl F
  split
  · exact SH.refl F
  split
  · exact SH.refl F
  split
  · exact SH.refl F
  split
  · exact SH.refl F
  split
  · exact SH.refl F
  rename_i y s n _ _ y2 s2 n2 _ _ _ _ _
  have h3 : ∀ a b c d e f g, SH F (((F.deln a b).deln c d).addn e f g) := fun a b c d e f g => ((SH.deln F a b).trans (SH.deln _ c d)).trans (SH.addn _ e f g)
  split
  · exact (h3 _ _ _ _ _ _ _).trans (SH.less _ _ (by rw [(h3 _ _ _ _ _ _ _).2]; exact (H.h _).1))
  · exact h3 _ _ _ _ _ _ _
theorem SH.grown (F : Fs) (n s : Nat) (c : List Int) : SH F ((F.grow n s).ct n c) := ⟨rfl, fun i => by
  rw [grow_ct, Fs.with_P]
  split
  · rename_i e; subst e; rfl
  · rfl⟩
theorem SH.write (F : Fs) (n off : Int) (b : List Int) : SH F (F.write n off b).1 := by
  unfold Fs.write
  split
  · exact SH.refl F
  split
  · exact SH.refl F
  split
  · exact SH.refl F
  split
  · exact SH.refl F
  split
  · exact SH.refl F
  exact SH.grown _ _ _ _
theorem SH.resize (F : Fs) (n z : Int) : SH F (F.resize n z).1 := by
  unfold Fs.resize
  split
  · exact SH.refl F
  split
  · exact SH.refl F
  split
  · exact SH.refl F
  split
  · exact (SH.relB F _).trans (SH.at_ _ _ _ (by rw [relB_P]))
  · split
    · exact SH.refl F
    exact SH.grown _ _ _ _

theorem hold_P {F : Fs} {n : Int} (h : (F.hold n).2 = 0) : F.there n = true ∧ (F.hold n).1 = F.hld n.toNat ((F.P n.toNat).h + 1) := by
  unfold Fs.hold at h ⊢
  split at h
  · exact absurd (show (2 : Int) = 0 from h) (by decide)
  · rename_i e
    rw [if_neg e]
    split at h
    · exact absurd (show (11 : Int) = 0 from h) (by decide)
    · rename_i e2
      rw [if_neg e2]
      exact ⟨by simpa using e, rfl⟩
theorem hold_no {F : Fs} {n : Int} (h : (F.hold n).2 ≠ 0) : (F.hold n).1 = F := by
  unfold Fs.hold at h ⊢
  split
  · rfl
  · split
    · rfl
    · rename_i e1 e2
      rw [if_neg e1, if_neg e2] at h
      exact absurd rfl h
theorem hold_d (F : Fs) (n : Int) : (F.hold n).1.d = F.d := by
  unfold Fs.hold
  split
  · rfl
  · split <;> rfl
theorem drop_d (F : Fs) (n : Int) : (F.drop n).1.d = F.d := by
  unfold Fs.drop
  split
  · rfl
  split
  · rfl
  dsimp only
  rw [gone_hld]
  split
  · rfl
  · show (F.relB _).d = F.d
    exact relB_d _ _
theorem drop_h {F : Fs} (H : FOk F) {n : Nat} (h : 0 < (F.P n).h) : (F.drop n).2 = 0 ∧ ∀ i, ((F.drop n).1.P i).h = if i = n then (F.P n).h - 1 else (F.P i).h := by
  have hk : (F.P n).k ≠ 0 := fun e => by rw [H.none n e] at h; exact absurd h (by decide)
  have hl := H.lt hk
  have ht : F.there n = true := by
    unfold Fs.there
    simp only [Int.toNat_natCast, decide_eq_true_eq]
    exact ⟨by omega, by omega, hk⟩
  unfold Fs.drop
  rw [if_neg (by rw [ht]; simp), if_neg (by rw [Int.toNat_natCast]; omega)]
  refine ⟨rfl, fun i => ?_⟩
  dsimp only
  rw [Int.toNat_natCast, gone_hld]
  split
  · rw [Fs.hld_P]
  · rename_i e
    rw [Fs.at_P, relB_P]
    split
    · rename_i q; subst q
      show (0 : Int) = _
      omega
    · rfl

end Go.Proofs.YtoknhcjneliboaaGreat

/- What bytes.Clone (and slices.Clone of bytes) does: nil of nil; else a new row with the same bytes; nothing old turns. -/
namespace Go.Proofs.YtoknhcjneliboaaGreat
open Go.RowKit
set_option maxRecDepth 20000

theorem Tryz.cinfo5 : (Tryz.prog.info? 5).map (fun i => (i.zero, i.size, i.bytes)) = some (some (.int .u8 0), 1, 1) := by kernel_rfl

theorem clone_nil (len cap : Nat) (w : World) :
    Calls Tryz.prog 16 #[.slice none len cap] w fun e w' => e = .returned (.slice none 0 0) ∧ w' = w := by
  have hq := Lib.run_eql_slice_nil (P := Tryz.prog) w 30 5 none len cap 0 0 Tryz.underlying30
  simp only [Option.isNone_none] at hq
  go_enter Tryz.func16, Tryz.ntmps16
  go_wp2
  go_ret
  exact ⟨rfl, rfl⟩

set_option maxHeartbeats 400000 in
theorem clone_any (a : Addr) (len cap : Nat) (zs : List Int) (w : World) (hs : Src w (some a) len zs) (hr : len ≤ 140737488355328) :
    Calls Tryz.prog 16 #[.slice (some a) len cap] w fun e w' => ∃ g c, e = .returned (.slice (some ⟨g, 0, none⟩) len c) ∧
      w'.ownsRow w.heap.size 5 1 (.slice (some ⟨g, 0, none⟩) len c) len (zs.map (Value.int .u8)) ∧ Below w.heap.size w w' := by
  obtain ⟨i0, hi, hz0, hz1, hz2⟩ := info_parts Tryz.cinfo5
  have hb0 : Below w.heap.size w (w.alloc (.cells #[] 5)) := (Below.refl _ _).alloc (Nat.le_refl _) _
  obtain ⟨cs, hcs⟩ : ∃ cs, cs = zs.map (Value.int .u8) := ⟨_, rfl⟩
  have HL : Hid (cs.length = len * 1) := by show _ = _; rw [hcs]; simp [hs.1]
  have H1 : Hid (∀ u ∈ cs, u.oneCell' = true) := by rw [hcs]; exact ints_oneCell _ _
  have HN : Hid (∀ j u, cs[j]? = some u → (w.alloc (.cells #[] 5)).cell? (a.add j) = some u) := by
    intro j u hj
    have hjl : j < cs.length := (List.getElem?_eq_some_iff.1 hj).1
    have hl : cs.length = len := by rw [hcs]; simp [hs.1]
    obtain ⟨b, o, e, hlt, hc⟩ := hs.2 (by omega)
    obtain rfl := Option.some.inj e
    rw [Addr.add_lit, hb0.cell (p := ⟨b, o + j, none⟩) hlt, hc j (by omega), ← hj, hcs]
    simp [List.getD, List.getElem?_eq_getElem (show j < zs.length by have := hs.1; omega)]
  have HO : Hid ((w.alloc (.cells #[] 5)).ownsRow w.heap.size 5 1 (.slice (some ⟨w.heap.size, 0, none⟩) 0 0) 0 []) := World.ownsRow_made w #[] 0 (Nat.le_refl _) (by unfold maxLen; omega) rfl
  have HC := hid hcs
  have HB := hid hb0
  clear hcs hb0 hs
  have hq := Lib.run_eql_slice_nil (P := Tryz.prog) w 30 5 (some a) len cap 0 0 Tryz.underlying30
  simp only [Option.isNone_some] at hq
  go_enter Tryz.func16, Tryz.ntmps16
  go_wp2_with (at_builtin; go_must (refine wpList_append_own _ rfl (.tmp 5) (.tmp 6) 30 rfl w.heap.size 5 i0 (.int .u8 0) 1 1 Tryz.underlying30 hi hz0 hz1 hz2 rfl (by decide) (.slice (some ⟨w.heap.size, 0, none⟩) 0 0) 0 [] rfl HO.out a len cap cs rfl HL.out HN.out H1.out (by unfold maxLen; omega) (by omega) (by simp) ?_))
  intro v' w1 hown hgrow hnil
  rw [HC.out] at hown
  have hb1 := HB.out.grown hgrow (by simp) (by intro q hq; simp [Value.ownBlock] at hq; omega)
  obtain ⟨g, c, rfl⟩ : ∃ g c, v' = .slice (some ⟨g, 0, none⟩) len c := by
    rcases hown.2 with ⟨h, _⟩ | ⟨g, c, _, h, _⟩
    · exact absurd h (by simpa using hnil)
    · exact ⟨g, c, h⟩
  have H1 := hid hown
  clear hown hgrow hnil
  go_wp2_with fail
  go_ret
  exact ⟨g, c, rfl, H1.out, hb1⟩

end Go.Proofs.YtoknhcjneliboaaGreat

/- The pipes of the program as they lie (one block of 57 cells: two bools, five pipes of eleven cells), and what pipes.New, usable, isThere, isFull, pipe do. -/
namespace Go.Proofs.YtoknhcjneliboaaGreat.Pi
open Go.RowKit Lend
set_option linter.unusedVariables false
set_option maxRecDepth 20000

/-- A pipe: how many readers, writers, and the bytes that wait. -/
structure Pp where
  r : Nat
  w : Nat
  q : List Int

def Pp.there (x : Pp) : Bool := decide (0 < x.r) || decide (0 < x.w)

/-- The cells of a table. -/
structure Cls (C : List Value) (k : Bool) (P : Nat → Pp) : Prop where
  len : C.length = 57
  made : C[0]? = some (.bool true)
  keep : C[1]? = some (.bool k)
  r : ∀ i, i < 5 → C[2 + i * 11]? = some (.int .i64 (P i).r)
  w : ∀ i, i < 5 → C[2 + i * 11 + 1]? = some (.int .i64 (P i).w)
  n : ∀ i, i < 5 → C[2 + i * 11 + 2]? = some (.int .i64 (P i).q.length)
  le : ∀ i, i < 5 → (P i).q.length ≤ 8
  b : ∀ i, i < 5 → ∀ j, j < 8 → ∃ z, C[2 + i * 11 + 3 + j]? = some (.int .u8 z) ∧ (j < (P i).q.length → z = (P i).q.getD j 0)

/-- A table that a call made. -/
def Tb (w : World) (p : Nat) (k : Bool) (P : Nat → Pp) : Prop := ∃ C, w.heap[p]? = some (.cells (List.toArray C) 110 (0, 0)) ∧ Cls C k P

theorem Tb.lt {w : World} {p : Nat} {k : Bool} {P : Nat → Pp} (h : Tb w p k P) : p < w.heap.size := by
  obtain ⟨C, h, _⟩ := h; exact (Array.getElem?_eq_some_iff.1 h).1
theorem Tb.upd {F : Nat → Prop} {w w' : World} {p : Nat} {k : Bool} {P : Nat → Pp} (h : Tb w p k P) (u : Upd F w w') (hF : ¬ F p) : Tb w' p k P := by
  obtain ⟨C, h, hc⟩ := h; exact ⟨C, u.heap h hF, hc⟩
theorem Tb.below {B : Nat} {w w' : World} {p : Nat} {k : Bool} {P : Nat → Pp} (h : Tb w p k P) (u : Below B w w') (hF : p < B) : Tb w' p k P := by
  obtain ⟨C, h, hc⟩ := h; exact ⟨C, by rw [u.block p hF]; exact h, hc⟩
theorem Tb.hp {w w' : World} {p : Nat} {k : Bool} {P : Nat → Pp} (h : Tb w p k P) (e : w'.heap = w.heap) : Tb w' p k P := by
  obtain ⟨C, h, hc⟩ := h; exact ⟨C, by rw [e]; exact h, hc⟩
theorem cell_list {w : World} {p j : Nat} {C : List Value} {v : Value} (h : w.heap[p]? = some (.cells C.toArray 110 (0, 0))) (hc : C[j]? = some v) : w.cell? ⟨p, j, none⟩ = some v := by
  rw [cell_of_row w p j _ 110 (0, 0) h]; simpa using hc
theorem Tb.made {w : World} {p : Nat} {k : Bool} {P : Nat → Pp} (h : Tb w p k P) : w.cell? ⟨p, 0, none⟩ = some (.bool true) := by
  obtain ⟨C, h, hc⟩ := h; exact cell_list h hc.made
theorem Tb.keep {w : World} {p : Nat} {k : Bool} {P : Nat → Pp} (h : Tb w p k P) : w.cell? ⟨p, 1, none⟩ = some (.bool k) := by
  obtain ⟨C, h, hc⟩ := h; exact cell_list h hc.keep
theorem Tb.r {w : World} {p : Nat} {k : Bool} {P : Nat → Pp} (h : Tb w p k P) (i : Nat) (hi : i < 5) : w.cell? ⟨p, 2 + i * 11, none⟩ = some (.int .i64 (P i).r) := by
  obtain ⟨C, h, hc⟩ := h; exact cell_list h (hc.r i hi)
theorem Tb.w {w : World} {p : Nat} {k : Bool} {P : Nat → Pp} (h : Tb w p k P) (i : Nat) (hi : i < 5) : w.cell? ⟨p, 2 + i * 11 + 1, none⟩ = some (.int .i64 (P i).w) := by
  obtain ⟨C, h, hc⟩ := h; exact cell_list h (hc.w i hi)
theorem Tb.n {w : World} {p : Nat} {k : Bool} {P : Nat → Pp} (h : Tb w p k P) (i : Nat) (hi : i < 5) : w.cell? ⟨p, 2 + i * 11 + 2, none⟩ = some (.int .i64 (P i).q.length) := by
  obtain ⟨C, h, hc⟩ := h; exact cell_list h (hc.n i hi)
theorem Tb.le {w : World} {p : Nat} {k : Bool} {P : Nat → Pp} (h : Tb w p k P) (i : Nat) (hi : i < 5) : (P i).q.length ≤ 8 := by
  obtain ⟨C, h, hc⟩ := h; exact hc.le i hi

/-- No pipes. -/
def noPipes : Nat → Pp := fun _ => ⟨0, 0, []⟩

theorem cls_new (k : Bool) : Cls (.bool true :: .bool k :: (List.replicate 5 ([.int .i64 0, .int .i64 0, .int .i64 0] ++ List.replicate 8 (.int .u8 0))).flatten) k noPipes := by
  refine ⟨rfl, rfl, rfl, ?_, ?_, ?_, fun i _ => by simp [noPipes], ?_⟩
  · intro i hi
    obtain rfl | rfl | rfl | rfl | rfl : i = 0 ∨ i = 1 ∨ i = 2 ∨ i = 3 ∨ i = 4 := by omega
    all_goals rfl
  · intro i hi
    obtain rfl | rfl | rfl | rfl | rfl : i = 0 ∨ i = 1 ∨ i = 2 ∨ i = 3 ∨ i = 4 := by omega
    all_goals rfl
  · intro i hi
    obtain rfl | rfl | rfl | rfl | rfl : i = 0 ∨ i = 1 ∨ i = 2 ∨ i = 3 ∨ i = 4 := by omega
    all_goals rfl
  · intro i hi j hj
    refine ⟨0, ?_, fun h => absurd h (by simp [noPipes])⟩
    obtain rfl | rfl | rfl | rfl | rfl : i = 0 ∨ i = 1 ∨ i = 2 ∨ i = 3 ∨ i = 4 := by omega
    all_goals (obtain rfl | rfl | rfl | rfl | rfl | rfl | rfl | rfl : j = 0 ∨ j = 1 ∨ j = 2 ∨ j = 3 ∨ j = 4 ∨ j = 5 ∨ j = 6 ∨ j = 7 := by omega)
    all_goals rfl

/-- Does a number have the defect's bit? -/
def bit8 (d : Int) : Bool := bits .and .i64 d 8 != 0

set_option maxHeartbeats 1000000 in
theorem pnew_any (d : Int) (w : World) :
    Calls Tryz.prog 13 #[.int .i64 d] w fun e w' => e = .returned (.pointer (some ⟨w.heap.size, 0, none⟩)) ∧ Tb w' w.heap.size (bit8 d) noPipes ∧ Below w.heap.size w w' ∧ w'.heap.size = w.heap.size + 1 := by
  go_enter Tryz.func13, Tryz.ntmps13
  go_wp2
  go_ret
  exact ⟨rfl, ⟨_, by rw [heap_alloc_new w]; rfl, cls_new (bit8 d)⟩, (Below.refl _ _).alloc (Nat.le_refl _) _, by simp⟩

theorem usable_yes (p : Nat) (w : World) (h : w.cell? ⟨p, 0, none⟩ = some (.bool true)) :
    Calls Tryz.prog 91 #[.pointer (some ⟨p, 0, none⟩)] w fun e w' => e = .returned (.bool true) ∧ w' = w := by
  go_enter Tryz.func91, Tryz.ntmps91
  go_wp2
  go_ret
  exact ⟨rfl, rfl⟩
theorem usable_no (p : Nat) (w : World) (h : w.cell? ⟨p, 0, none⟩ = some (.bool false)) :
    Calls Tryz.prog 91 #[.pointer (some ⟨p, 0, none⟩)] w fun e w' => e = .returned (.bool false) ∧ w' = w := by
  go_enter Tryz.func91, Tryz.ntmps91
  go_wp2
  go_ret
  exact ⟨rfl, rfl⟩
theorem usable_nil (w : World) :
    Calls Tryz.prog 91 #[.pointer none] w fun e w' => e = .returned (.bool false) ∧ w' = w := by
  go_enter Tryz.func91, Tryz.ntmps91
  go_wp2
  go_ret
  exact ⟨rfl, rfl⟩

theorem isthere_any (p o r v : Nat) (b : Bool) (w : World) (h0 : w.cell? ⟨p, o, none⟩ = some (.int .i64 r)) (h1 : w.cell? ⟨p, o + 1, none⟩ = some (.int .i64 v)) (hb : b = (decide (0 < r) || decide (0 < v))) :
    Calls Tryz.prog 92 #[.pointer (some ⟨p, o, none⟩)] w fun e w' => e = .returned (.bool b) ∧ w' = w := by
  by_cases c : 0 < r
  · have c' : (0 : Int) < (r : Int) := by omega
    have e : b = true := by rw [hb]; simp [c]
    subst e
    clear hb
    go_enter Tryz.func92, Tryz.ntmps92
    go_wp2
    go_ret
    exact ⟨rfl, rfl⟩
  · have c' : ¬ (0 : Int) < (r : Int) := by omega
    have e : b = decide ((0 : Int) < (v : Int)) := by rw [hb]; simp [c]
    subst e
    clear hb
    go_enter Tryz.func92, Tryz.ntmps92
    go_wp2
    go_ret
    exact ⟨rfl, rfl⟩

theorem isfull_any (p o n : Nat) (b : Bool) (w : World) (h0 : w.cell? ⟨p, o + 2, none⟩ = some (.int .i64 n)) (hb : b = decide ((n : Int) = 8)) :
    Calls Tryz.prog 201 #[.pointer (some ⟨p, o, none⟩)] w fun e w' => e = .returned (.bool b) ∧ w' = w := by
  subst hb
  go_enter Tryz.func201, Tryz.ntmps201
  go_wp2
  go_ret
  exact ⟨rfl, rfl⟩

theorem ends_any (p o : Nat) (b : Bool) (w : World) :
    Calls Tryz.prog 210 #[.pointer (some ⟨p, o, none⟩), .bool b] w fun e w' => e = .returned (.pointer (some ⟨p, o + (if b then 1 else 0), none⟩)) ∧ w' = w := by
  cases b
  · go_enter Tryz.func210, Tryz.ntmps210
    go_wp2
    go_ret
    exact ⟨rfl, rfl⟩
  · go_enter Tryz.func210, Tryz.ntmps210
    go_wp2
    go_ret
    exact ⟨rfl, rfl⟩

end Go.Proofs.YtoknhcjneliboaaGreat.Pi

/- What the program's pipe and Make do. -/
namespace Go.Proofs.YtoknhcjneliboaaGreat.Pi
open Go.RowKit Lend
set_option linter.unusedVariables false
set_option maxRecDepth 20000

/-- 'T{..}' as a step of the walk: the cells are whatever they are. -/
theorem wpList_build_is {P : Program} {ops : Array Oper} {rest : List Oper} {o : Oper} {a : Act} {w : World} {Q : Exit → Act → World → Prop} (hg : o.guard = none) (t : TypeId) (parts : Array (Nat × Operand)) (ho : o.op = .build t parts) (C : Array Value)
    (hf : P.built t (parts.map fun (i, x) => (i, a.eval x)).toList = some C) (h : wpList P ops Q rest (a.put o.dst (.agg C)) w) : wpList P ops Q (o :: rest) a w :=
  wpList_build hg t parts ho (by rw [hf]; rfl) (by rw [hf]; exact h)

/-- Is there a pipe of this number? -/
def has (P : Nat → Pp) (n : Int) : Bool := decide (1 ≤ n) && decide (n ≤ 4) && (P n.toNat).there

set_option maxHeartbeats 1000000 in
theorem pipe_yes (p i : Nat) (k : Bool) (P : Nat → Pp) (w : World) (h : Tb w p k P) (h1 : 1 ≤ i) (h4 : i ≤ 4) (ht : (P i).there = true) :
    Calls Tryz.prog 209 #[.pointer (some ⟨p, 0, none⟩), .int .i64 i] w fun e w' => e = .returned (.tuple #[.pointer (some ⟨p, 2 + i * 11, none⟩), .int .i64 0]) ∧ w' = w := by
  have k1 := hid (usable_yes p w h.made)
  have k2 := hid (isthere_any p (2 + i * 11) _ _ true w (h.r i (by omega)) (h.w i (by omega)) (by rw [← ht]; rfl))
  have c1 : ¬ (i : Int) < 1 := by omega
  have c2 : ¬ 4 < (i : Int) := by omega
  have c3 : (0 : Int) ≤ i := by omega
  have c4 : (i : Int) < 5 := by omega
  clear h ht
  go_enter Tryz.func209, Tryz.ntmps209
  go_wp2_with fail
  refine k1.out.mono ?_
  rintro e w1 ⟨rfl, rfl⟩
  go_wp2_with fail
  refine k2.out.mono ?_
  rintro e w1 ⟨rfl, rfl⟩
  go_wp2_with fail
  go_ret2
  exact ⟨rfl, rfl⟩

set_option maxHeartbeats 1000000 in
theorem pipe_no (p : Nat) (n : Int) (k : Bool) (P : Nat → Pp) (w : World) (h : Tb w p k P) (hn : has P n = false) :
    Calls Tryz.prog 209 #[.pointer (some ⟨p, 0, none⟩), .int .i64 n] w fun e w' => e = .returned (.tuple #[.pointer none, .int .i64 9]) ∧ w' = w := by
  have k1 := hid (usable_yes p w h.made)
  by_cases c1 : n < 1
  · clear h hn
    go_enter Tryz.func209, Tryz.ntmps209
    go_wp2_with fail
    refine k1.out.mono ?_
    rintro e w1 ⟨rfl, rfl⟩
    go_wp2_with fail
    go_ret2
    exact ⟨rfl, rfl⟩
  · by_cases c2 : 4 < n
    · clear h hn
      go_enter Tryz.func209, Tryz.ntmps209
      go_wp2_with fail
      refine k1.out.mono ?_
      rintro e w1 ⟨rfl, rfl⟩
      go_wp2_with fail
      go_ret2
      exact ⟨rfl, rfl⟩
    · obtain ⟨i, rfl⟩ := Int.eq_ofNat_of_zero_le (show 0 ≤ n by omega)
      have ht : (P i).there = false := by simpa [has, show (1 : Int) ≤ i by omega, show (i : Int) ≤ 4 by omega] using hn
      have k2 := hid (isthere_any p (2 + i * 11) _ _ false w (h.r i (by omega)) (h.w i (by omega)) (by rw [← ht]; rfl))
      have c3 : (0 : Int) ≤ i := by omega
      have c4 : (i : Int) < 5 := by omega
      clear h ht hn
      go_enter Tryz.func209, Tryz.ntmps209
      go_wp2_with fail
      refine k1.out.mono ?_
      rintro e w1 ⟨rfl, rfl⟩
      go_wp2_with fail
      refine k2.out.mono ?_
      rintro e w1 ⟨rfl, rfl⟩
      go_wp2_with fail
      go_ret2
      exact ⟨rfl, rfl⟩

set_option maxHeartbeats 1000000 in
theorem pipe_nobody (x : Option Addr) (n : Int) (w : World) (h : Calls Tryz.prog 91 #[.pointer x] w fun e w' => e = .returned (.bool false) ∧ w' = w) :
    Calls Tryz.prog 209 #[.pointer x, .int .i64 n] w fun e w' => e = .returned (.tuple #[.pointer none, .int .i64 22]) ∧ w' = w := by
  have k1 := hid h
  clear h
  go_enter Tryz.func209, Tryz.ntmps209
  go_wp2_with fail
  refine k1.out.mono ?_
  rintro e w1 ⟨rfl, rfl⟩
  go_wp2_with fail
  go_ret2
  exact ⟨rfl, rfl⟩

/-- A table with another pipe at a number. -/
def updP (P : Nat → Pp) (i : Nat) (x : Pp) : Nat → Pp := fun j => if j = i then x else P j
theorem updP_same (P : Nat → Pp) (i : Nat) (x : Pp) : updP P i x i = x := by simp [updP]
theorem updP_ne (P : Nat → Pp) (i j : Nat) (x : Pp) (h : j ≠ i) : updP P i x j = P j := by simp [updP, h]

/-- Some cells of one pipe are stored anew. -/
theorem Cls.put {C C' : List Value} {k : Bool} {P : Nat → Pp} (h : Cls C k P) (i : Nat) (hi : i < 5) (x : Pp) (hl : C'.length = 57)
    (out : ∀ j, j < 2 + i * 11 ∨ 2 + i * 11 + 11 ≤ j → C'[j]? = C[j]?) (hr : C'[2 + i * 11]? = some (.int .i64 x.r)) (hw : C'[2 + i * 11 + 1]? = some (.int .i64 x.w)) (hn : C'[2 + i * 11 + 2]? = some (.int .i64 x.q.length))
    (hle : x.q.length ≤ 8) (hb : ∀ j, j < 8 → ∃ z, C'[2 + i * 11 + 3 + j]? = some (.int .u8 z) ∧ (j < x.q.length → z = x.q.getD j 0)) : Cls C' k (updP P i x) := by
  refine ⟨hl, by rw [out 0 (by omega)]; exact h.made, by rw [out 1 (by omega)]; exact h.keep, ?_, ?_, ?_, ?_, ?_⟩
  · intro j hj
    by_cases e : j = i
    · subst e; rw [updP_same]; exact hr
    · rw [updP_ne _ _ _ _ e, out _ (by omega)]; exact h.r j hj
  · intro j hj
    by_cases e : j = i
    · subst e; rw [updP_same]; exact hw
    · rw [updP_ne _ _ _ _ e, out _ (by omega)]; exact h.w j hj
  · intro j hj
    by_cases e : j = i
    · subst e; rw [updP_same]; exact hn
    · rw [updP_ne _ _ _ _ e, out _ (by omega)]; exact h.n j hj
  · intro j hj
    by_cases e : j = i
    · subst e; rw [updP_same]; exact hle
    · rw [updP_ne _ _ _ _ e]; exact h.le j hj
  · intro j hj m hm
    by_cases e : j = i
    · subst e; rw [updP_same]; exact hb m hm
    · rw [updP_ne _ _ _ _ e, out _ (by omega)]; exact h.b j hj m hm

/-- A new pipe's cells. -/
def newCells : List Value := [.int .i64 1, .int .i64 1, .int .i64 0, .int .u8 0, .int .u8 0, .int .u8 0, .int .u8 0, .int .u8 0, .int .u8 0, .int .u8 0, .int .u8 0]

theorem getElem?_splice_in {α : Type} (xs ys : List α) (o j : Nat) (h : o + ys.length ≤ xs.length) (hj : j < ys.length) : (splice xs o ys)[o + j]? = ys[j]? := by
  unfold splice
  rw [List.getElem?_append_right (by simp; omega), List.getElem?_append_left (by simp; omega)]
  congr 1; simp; omega
theorem getElem?_splice_out {α : Type} (xs ys : List α) (o j : Nat) (h : o + ys.length ≤ xs.length) (hj : j < o ∨ o + ys.length ≤ j) : (splice xs o ys)[j]? = xs[j]? := by
  unfold splice
  rcases hj with hj | hj
  · rw [List.getElem?_append_left (by simp; omega), List.getElem?_take_of_lt hj]
  · rw [List.getElem?_append_right (by simp; omega), List.getElem?_append_right (by simp; omega), List.getElem?_drop]
    congr 1; simp; omega
theorem length_splice {α : Type} (xs ys : List α) (o : Nat) (h : o + ys.length ≤ xs.length) : (splice xs o ys).length = xs.length := by
  unfold splice; simp; omega

theorem heap_setCells (p : Nat) (t : TypeId) : ∀ (vs : List Value) (o : Nat) (w : World) (C : List Value), w.heap[p]? = some (.cells C.toArray t (0, 0)) → o + vs.length ≤ C.length →
    (w.setCells p o vs).heap[p]? = some (.cells (splice C o vs).toArray t (0, 0))
  | [], o, w, C, h, _ => by simpa [World.setCells, splice] using h
  | v :: r, o, w, C, h, hl => by
    simp only [List.length_cons] at hl
    have h1 := heap_setCell_same w p o C.toArray t v h
    have e : (C.toArray.set! o v) = (C.set o v).toArray := by simp
    rw [World.setCells, heap_setCells p t r (o + 1) (w.setCell ⟨p, o, none⟩ v) (C.set o v) (by rw [h1]; simp) (by simp; omega)]
    congr 3
    apply List.ext_getElem?
    intro j
    rcases Nat.lt_or_ge j o with a | a
    · rw [getElem?_splice_out _ _ _ _ (by simp; omega) (by omega), getElem?_splice_out _ _ _ _ (by simp; omega) (by omega), List.getElem?_set_ne (by omega)]
    · rcases Nat.lt_or_ge j (o + (r.length + 1)) with b | b
      · obtain ⟨m, rfl⟩ := Nat.exists_eq_add_of_le a
        rw [getElem?_splice_in _ _ _ m (by simp; omega) (by simp; omega)]
        cases m with
        | zero => rw [getElem?_splice_out _ _ _ _ (by simp; omega) (by omega), Nat.add_zero, List.getElem?_set_self (by omega)]; simp
        | succ m => rw [show o + (m + 1) = o + 1 + m by omega, getElem?_splice_in _ _ _ m (by simp; omega) (by omega)]; simp
      · rw [getElem?_splice_out _ _ _ _ (by simp; omega) (by omega), getElem?_splice_out _ _ _ _ (by simp; omega) (by simp; omega), List.getElem?_set_ne (by omega)]

theorem upd_setCells (p : Nat) : ∀ (vs : List Value) (o : Nat) (w : World), Upd (· = p) w (w.setCells p o vs)
  | [], o, w => Upd.refl _ _
  | v :: r, o, w => by
    rw [World.setCells]
    exact (Upd.setCell (F := (· = p)) w ⟨p, o, none⟩ v rfl).trans (upd_setCells p r (o + 1) _) (fun _ _ h => h)

theorem size_setCells (p : Nat) : ∀ (vs : List Value) (o : Nat) (w : World), (w.setCells p o vs).heap.size = w.heap.size
  | [], _, _ => rfl
  | v :: r, o, w => by rw [World.setCells, size_setCells p r (o + 1)]; simp

theorem there_of_block {w : World} {p : Nat} {C : List Value} {t : TypeId} (h : w.heap[p]? = some (.cells C.toArray t (0, 0))) (o n : Nat) (hn : o + n ≤ C.length) : w.there p o n := fun j hj => by
  refine ⟨?_, ?_⟩
  · rw [cell_of_row w p (o + j) _ t (0, 0) h]; simp; omega
  · simp [World.frozen?, h]

/-- A new pipe stands at a number. -/
theorem Tb.newAt {w : World} {p : Nat} {k : Bool} {P : Nat → Pp} (h : Tb w p k P) (i : Nat) (hi : i < 5) : Tb (w.setCells p (2 + i * 11) newCells) p k (updP P i ⟨1, 1, []⟩) := by
  obtain ⟨C, hb, hc⟩ := h
  have hl := hc.len
  have hs : 2 + i * 11 + newCells.length ≤ C.length := by rw [hl]; simp [newCells]; omega
  have hin := fun j (hj : j < 11) => getElem?_splice_in C newCells (2 + i * 11) j hs hj
  refine ⟨_, heap_setCells p 110 newCells _ w C hb hs, hc.put i hi _ (by rw [length_splice _ _ _ hs, hl]) (fun j hj => getElem?_splice_out _ _ _ _ hs (by simpa [newCells] using hj)) (hin 0 (by omega)) (hin 1 (by omega)) (hin 2 (by omega)) (by simp) ?_⟩
  intro j hj
  refine ⟨0, ?_, fun h => absurd h (by simp)⟩
  rw [show 2 + i * 11 + 3 + j = 2 + i * 11 + (3 + j) by omega, hin (3 + j) (by omega)]
  obtain rfl | rfl | rfl | rfl | rfl | rfl | rfl | rfl : j = 0 ∨ j = 1 ∨ j = 2 ∨ j = 3 ∨ j = 4 ∨ j = 5 ∨ j = 6 ∨ j = 7 := by omega
  all_goals rfl

theorem built55 : Tryz.prog.built 107 [(0, .int .i64 1), (1, .int .i64 1)] = some newCells.toArray := by kernel_rfl
theorem csize55 : (Tryz.prog.info? 107).map (·.size) = some 11 := by kernel_rfl
theorem newCells_one : newCells.toArray.all (·.oneCell') = true := all_oneCell_toArray (fun v hv => by
  simp only [newCells, List.mem_cons, List.not_mem_nil, or_false] at hv
  rcases hv with rfl | rfl | rfl | rfl | rfl | rfl | rfl | rfl | rfl | rfl | rfl <;> rfl)

set_option maxHeartbeats 1000000 in
theorem make_yes (p i : Nat) (k : Bool) (P : Nat → Pp) (w : World) (h : Tb w p k P) (h1 : 1 ≤ i) (h4 : i ≤ 4) (low : ∀ j, 1 ≤ j → j < i → (P j).there = true) (free : (P i).there = false) :
    Calls Tryz.prog 61 #[.pointer (some ⟨p, 0, none⟩)] w fun e w' => e = .returned (.tuple #[.int .i64 i, .int .i64 0]) ∧ Tb w' p k (updP P i ⟨1, 1, []⟩) ∧ Upd (· = p) w w' ∧ w'.heap.size = w.heap.size := by
  have k1 := hid (usable_yes p w h.made)
  have H := hid h
  have LOW := hid low
  have FREE := hid free
  clear h low free
  go_enter Tryz.func61, Tryz.ntmps61
  go_wp2_with fail
  refine k1.out.mono ?_
  rintro e w1 ⟨rfl, rfl⟩
  go_wp2_with fail
  go_loop [4] (fun s => ∃ j : Nat, 1 ≤ j ∧ j ≤ i ∧ s = .int .i64 j) (fun s => i - (intOf s).toNat)
  case atStart => exact ⟨1, by omega, h1, rfl⟩
  case round =>
    obtain ⟨j, hj1, hji, rfl⟩ := hrel
    have c1 : (j : Int) ≤ 4 := by omega
    have c3 : (0 : Int) ≤ j := by omega
    have c4 : (j : Int) < 5 := by omega
    by_cases e : j < i
    · have k2 := hid (isthere_any p (2 + j * 11) _ _ true _ (H.out.r j (by omega)) (H.out.w j (by omega)) (by rw [← LOW.out j hj1 e]; rfl))
      go_wp2_with fail
      refine k2.out.mono ?_
      rintro e2 w2 ⟨rfl, rfl⟩
      go_wp2_with fail
      go_round
      case rel => exact ⟨j + 1, by omega, by omega, by go_num⟩
      case measure => simp [intOf]; omega
    · obtain rfl : j = i := by omega
      have k2 := hid (isthere_any p (2 + j * 11) _ _ false _ (H.out.r j (by omega)) (H.out.w j (by omega)) (by rw [← FREE.out]; rfl))
      go_wp2_with fail
      refine k2.out.mono ?_
      rintro e2 w2 ⟨rfl, rfl⟩
      obtain ⟨C, hC, hCl⟩ := H.out
      have HTH := hid (there_of_block hC (2 + j * 11) 11 (by rw [hCl.len]; omega))
      clear hC hCl
      have HNEW := hid (H.out.newAt j (by omega))
      obtain ⟨N, gN⟩ : ∃ N, N = newCells := ⟨_, rfl⟩
      have HSZ : Hid ((Tryz.prog.info? 107).map (·.size) = some N.toArray.size) := by rw [gN]; exact csize55
      have HB : Hid (Tryz.prog.built 107 [(0, .int .i64 1), (1, .int .i64 1)] = some N.toArray) := by rw [gN]; exact built55
      have H1 : Hid (N.toArray.all (·.oneCell') = true) := by rw [gN]; exact newCells_one
      have HT2 : Hid (_ = N.toArray.size) := hid (show 11 = N.toArray.size by rw [gN]; rfl)
      rw [← gN] at HNEW
      clear gN
      go_wp2_with (first
        | (refine wpList_build_is rfl 107 #[(0, .const (.int .i64 1)), (1, .const (.int .i64 1))] rfl N.toArray (by simpa [Act.eval] using HB.out) ?_)
        | (refine wpList_store_mid rfl 107 (.tmp 24) (.tmp 21) rfl p (2 + j * 11) N.toArray rfl rfl (by rw [← HT2.out]; exact HTH.out) HSZ.out H1.out ?_))
      go_ret2
      exact ⟨rfl, HNEW.out, upd_setCells p _ _ _, size_setCells p _ _ _⟩

set_option maxHeartbeats 1000000 in
theorem make_full (p : Nat) (k : Bool) (P : Nat → Pp) (w : World) (h : Tb w p k P) (all : ∀ j, 1 ≤ j → j ≤ 4 → (P j).there = true) :
    Calls Tryz.prog 61 #[.pointer (some ⟨p, 0, none⟩)] w fun e w' => e = .returned (.tuple #[.int .i64 0, .int .i64 23]) ∧ w' = w := by
  have k1 := hid (usable_yes p w h.made)
  have H := hid h
  have ALL := hid all
  clear h all
  go_enter Tryz.func61, Tryz.ntmps61
  go_wp2_with fail
  refine k1.out.mono ?_
  rintro e w1 ⟨rfl, rfl⟩
  go_wp2_with fail
  go_loop [4] (fun s => ∃ j : Nat, 1 ≤ j ∧ j ≤ 5 ∧ s = .int .i64 j) (fun s => 5 - (intOf s).toNat)
  case atStart => exact ⟨1, by omega, by omega, rfl⟩
  case round =>
    obtain ⟨j, hj1, hji, rfl⟩ := hrel
    by_cases e : j < 5
    · have c1 : (j : Int) ≤ 4 := by omega
      have c3 : (0 : Int) ≤ j := by omega
      have c4 : (j : Int) < 5 := by omega
      have k2 := hid (isthere_any p (2 + j * 11) _ _ true _ (H.out.r j (by omega)) (H.out.w j (by omega)) (by rw [← ALL.out j hj1 (by omega)]; rfl))
      go_wp2_with fail
      refine k2.out.mono ?_
      rintro e2 w2 ⟨rfl, rfl⟩
      go_wp2_with fail
      go_round
      case rel => exact ⟨j + 1, by omega, by omega, by go_num⟩
      case measure => simp [intOf]; omega
    · obtain rfl : j = 5 := by omega
      go_wp2_with fail
      go_ret2
      exact ⟨rfl, rfl⟩

set_option maxHeartbeats 1000000 in
theorem make_nobody (x : Option Addr) (w : World) (h : Calls Tryz.prog 91 #[.pointer x] w fun e w' => e = .returned (.bool false) ∧ w' = w) :
    Calls Tryz.prog 61 #[.pointer x] w fun e w' => e = .returned (.tuple #[.int .i64 0, .int .i64 22]) ∧ w' = w := by
  have k1 := hid h
  clear h
  go_enter Tryz.func61, Tryz.ntmps61
  go_wp2_with fail
  refine k1.out.mono ?_
  rintro e w1 ⟨rfl, rfl⟩
  go_wp2_with fail
  go_ret2
  exact ⟨rfl, rfl⟩

end Go.Proofs.YtoknhcjneliboaaGreat.Pi
