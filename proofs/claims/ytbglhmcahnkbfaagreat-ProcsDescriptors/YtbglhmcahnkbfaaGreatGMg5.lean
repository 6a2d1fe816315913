/- Texts of this seat, merged. -/
import Derived.Test.YtbglhmcahnkbfaaGreatGMg1

/- Without defects links are how many names there are, and a marked block is a file's; links grow by one a call at most. -/
namespace Go.Proofs.YtbglhmcahnkbfaaGreat
set_option linter.unusedVariables false

/-- What is true without defects. -/
structure FSh (F : Fs) : Prop where
  d : F.d = 0
  l : ∀ i, i ≠ 1 → (F.P i).l = (nmc F.P i 17 : Int)
  T : ∀ b, F.T b = true → ∃ i, b ∈ (F.P i).B

theorem dfc_0_1 : dfc 0 1 = false := by decide
theorem dfc_0_2 : dfc 0 2 = false := by decide
theorem dfc_0_4 : dfc 0 4 = false := by decide

theorem FSh.relB_T {F : Fs} (H : FSh F) (B : List Nat) (b : Nat) (h : (F.relB B).T b = true) : b ∉ B ∧ F.T b = true := by
  unfold Fs.relB at h
  rw [if_neg (by rw [H.d, dfc_0_2]; simp)] at h
  dsimp only at h
  split at h
  · simp at h
  · exact ⟨by assumption, h⟩

/-- A link less, where it was one too many. -/
theorem fsh_less {F : Fs} (d : F.d = 0) (n : Nat) (hn : n ≠ 1) (hl : ∀ i, i ≠ 1 → (F.P i).l = (nmc F.P i 17 : Int) + if i = n then 1 else 0) (hT : ∀ b, F.T b = true → ∃ i, b ∈ (F.P i).B) (hQ : (F.P n).Q = []) : FSh (F.less n) := by
  rw [less_eq]
  split
  · refine ⟨d, fun i hi => ?_, fun b hb => ?_⟩
    · have en : nmc (F.lnk n ((F.P n).l - 1)).P i 17 = nmc F.P i 17 := nmc_same i 17 (fun j _ => Fs.at_f Fn.Q F n { F.P n with l := (F.P n).l - 1 } rfl j)
      rw [en]
      unfold Fs.lnk
      rw [Fs.at_P]
      have := hl i hi
      split
      · rename_i e; subst e
        rw [if_pos rfl] at this
        show (F.P i).l - 1 = _
        omega
      · rename_i e
        rw [if_neg e] at this
        omega
    · obtain ⟨i, hi⟩ := hT b hb
      refine ⟨i, ?_⟩
      have : ((F.lnk n ((F.P n).l - 1)).P i).B = (F.P i).B := Fs.at_f Fn.B F n { F.P n with l := (F.P n).l - 1 } rfl i
      rw [this]; exact hi
  · rename_i hh
    have eP : ∀ j, (((F.relB (F.P n).B).at_ n Fn.no).P j) = if j = n then Fn.no else F.P j := fun j => by rw [Fs.at_P, relB_P]
    refine ⟨by show (F.relB _).d = 0; rw [relB_d]; exact d, fun i hi => ?_, fun b hb => ?_⟩
    · have en : nmc ((F.relB (F.P n).B).at_ n Fn.no).P i 17 = nmc F.P i 17 := nmc_same i 17 (fun j _ => by
        rw [eP]; split
        · rename_i e; subst e; rw [hQ]; rfl
        · rfl)
      rw [en, eP]
      have := hl i hi
      split
      · rename_i e; subst e
        rw [if_pos rfl] at this
        show (0 : Int) = _
        omega
      · rename_i e
        rw [if_neg e] at this
        omega
    · have hb' : (F.relB (F.P n).B).T b = true := hb
      unfold Fs.relB at hb'
      rw [if_neg (by rw [d, dfc_0_2]; simp)] at hb'
      dsimp only at hb'
      split at hb'
      · simp at hb'
      · rename_i hnb
        obtain ⟨i, hi⟩ := hT b hb'
        refine ⟨i, ?_⟩
        rw [eP, if_neg (fun e => hnb (by rw [← e]; exact hi))]
        exact hi

theorem FSh.make {F : Fs} (S : FSh F) (H : FOk F) (l : List UInt8) (kind : Int) : FSh (F.make l kind).1 := by
  unfold Fs.make
  split
  · exact S
  split
  · exact S
  rename_i y s n hw
  have W := H.walk_ok hw
  split
  · exact S
  rename_i hn
  split
  · exact S
  split
  · exact S
  rename_i hf
  obtain ⟨f1, f2, f3⟩ := Fs.free_lt hf
  have h0 := H.none _ f3
  have hf1 : F.free ≠ 1 := fun e => by have := H.root; rw [e] at f3; omega
  have en : ∀ i, nmc (F.at_ F.free (Fn.nu kind)).P i 17 = nmc F.P i 17 := fun i => nmc_same _ 17 (fun j _ => Fs.at_f Fn.Q F F.free _ (by rw [h0]; rfl) j)
  have hz : nmc F.P F.free 17 = 0 := by
    have := H.li F.free hf1
    rw [h0] at this
    simp only [Fn.no] at this
    omega
  refine ⟨S.d, fun i hi => ?_, fun b hb => ?_⟩
  · rw [nmc_addn _ W.lt.2, en, Fs.addn_P]
    dsimp only
    rw [Fs.at_P]
    by_cases e : i = F.free
    · rw [if_pos e, if_pos e.symm, e, hz]; rfl
    · rw [if_neg e, if_neg (fun q => e q.symm), S.l i hi]; simp
  · obtain ⟨i, hi⟩ := S.T b hb
    refine ⟨i, ?_⟩
    rw [Fs.addn_P]
    dsimp only
    rw [Fs.at_P]
    split
    · rename_i e; rw [e, h0] at hi; simp [Fn.no] at hi
    · exact hi

theorem FSh.deln_less {F : Fs} (S : FSh F) (H : FOk F) {y : List Nat} {s : List UInt8} {n : Nat} (W : Wlk F y s n) (hn : n ≠ 0) (hQ : (F.P n).Q = []) : FSh ((F.deln (Fs.dirOf y) s).less n) := by
  obtain ⟨n1, n17, nk⟩ := W.to hn
  have hnz : lk (F.P (Fs.dirOf y)).Q s ≠ 0 := by rw [← W.nn]; exact hn
  refine fsh_less (F := F.deln (Fs.dirOf y) s) S.d n (by omega) (fun i hi => ?_) (fun b hb => ?_) ?_
  · have hc := nmc_deln H (Fs.dirOf y) W.lt.2 s hnz i
    rw [← W.nn] at hc
    have e : ((F.deln (Fs.dirOf y) s).P i).l = (F.P i).l := by rw [Fs.deln_P]
    rw [e, S.l i hi]
    by_cases q : i = n
    · rw [if_pos q]; rw [if_pos q.symm] at hc; omega
    · rw [if_neg q]; rw [if_neg (fun h => q h.symm)] at hc; omega
  · obtain ⟨i, hi⟩ := S.T b hb
    exact ⟨i, by rw [Fs.deln_P]; exact hi⟩
  · rw [deln_Q]; split
    · rename_i e; subst e; rw [hQ]; rfl
    · exact hQ

theorem FSh.unlink {F : Fs} (S : FSh F) (H : FOk F) (l : List UInt8) : FSh (F.unlink l).1 := by
  unfold Fs.unlink
  split
  · exact S
  rename_i y s n hw
  have W := H.walk_ok hw
  split
  · exact S
  rename_i hn
  split
  · exact S
  rename_i hk
  split
  · rename_i h; rw [S.d, dfc_0_1] at h; simp at h
  · exact S.deln_less H W hn (H.file n hk)
theorem FSh.rmdir {F : Fs} (S : FSh F) (H : FOk F) (l : List UInt8) : FSh (F.rmdir l).1 := by
  unfold Fs.rmdir
  split
  · exact S
  rename_i y s n hw
  have W := H.walk_ok hw
  split
  · exact S
  rename_i hn
  split
  · exact S
  split
  · exact S
  rename_i hs
  have hs : F.stays n = 0 := Decidable.not_not.1 hs
  unfold Fs.stays at hs
  split at hs
  · simp at hs
  rename_i hq
  exact S.deln_less H W hn (List.eq_nil_of_length_eq_zero (by omega))

theorem FSh.link {F : Fs} (S : FSh F) (H : FOk F) (l m : List UInt8) : FSh (F.link l m).1 := by
  unfold Fs.link
  split
  · exact S
  rename_i h0
  split
  · exact S
  rename_i hk
  split
  · exact S
  rename_i y s n hw
  have W := H.walk_ok hw
  split
  · exact S
  split
  · exact S
  generalize (F.find l).1 = q at *
  have en : ∀ i, nmc (F.lnk q ((F.P q).l + 1)).P i 17 = nmc F.P i 17 := fun i => nmc_same _ 17 (fun j _ => by rw [Fs.lnk_P])
  refine ⟨S.d, fun i hi => ?_, fun b hb => ?_⟩
  · rw [nmc_addn _ W.lt.2, en, Fs.addn_P]
    dsimp only
    rw [Fs.lnk_P]
    dsimp only
    by_cases e : i = q
    · subst e; rw [if_pos rfl, if_pos rfl, S.l i hi]; omega
    · rw [if_neg e, if_neg (fun h => e h.symm), S.l i hi]; simp
  · obtain ⟨i, hi⟩ := S.T b hb
    exact ⟨i, by rw [Fs.addn_P]; dsimp only; rw [Fs.lnk_P]; exact hi⟩

theorem FSh.rename {F : Fs} (S : FSh F) (H : FOk F) (l m : List UInt8) : FSh (F.rename l m).1 := by
  unfold Fs.rename
  split
  · exact S
  rename_i y s n hw
  have W := H.walk_ok hw
  split
  · exact S
  rename_i hn
  split
  · exact S
  rename_i y2 s2 n2 hw2
  have W2 := H.walk_ok hw2
  split
  · exact S
  rename_i hnn
  split
  · exact S
  rename_i hov
  split
  · exact S
  rename_i hr
  split
  · exact S
  rename_i hf
  obtain ⟨h1, h2, h3⟩ := H.moved W W2 hn hnn hr hf
  have hnz : lk (F.P (Fs.dirOf y)).Q s ≠ 0 := by rw [← W.nn]; exact hn
  have hD := H.deln (Fs.dirOf y) s W.k
  have hq : lk ((F.deln (Fs.dirOf y) s).P (Fs.dirOf y2)).Q s2 = n2 := by
    rw [deln_Q]
    split
    · rename_i ed
      rw [lk_del]
      split
      · rename_i es
        have a := W.nn
        have b := W2.nn
        rw [ed, es, ← a] at b
        exact absurd b hnn
      · rw [← ed]; exact W2.nn.symm
    · exact W2.nn.symm
  have hc : ∀ i, nmc (((F.deln (Fs.dirOf y) s).deln (Fs.dirOf y2) s2).addn (Fs.dirOf y2) s2 n).P i 17 + (if n2 ≠ 0 ∧ n2 = i then 1 else 0) = nmc F.P i 17 := fun i => by
    rw [nmc_addn _ W2.lt.2]
    have a := nmc_deln H (Fs.dirOf y) W.lt.2 s hnz i
    rw [← W.nn] at a
    by_cases e0 : n2 = 0
    · have hz : (if n2 ≠ 0 ∧ n2 = i then 1 else 0 : Nat) = 0 := if_neg (fun q => q.1 e0)
      rw [deln_none hD _ _ (by rw [hq]; exact e0), hz]
      omega
    · have b := nmc_deln hD (Fs.dirOf y2) W2.lt.2 s2 (by rw [hq]; exact e0) i
      rw [hq] at b
      by_cases e1 : n2 = i
      · have hz : (if n2 ≠ 0 ∧ n2 = i then 1 else 0 : Nat) = 1 := if_pos ⟨e0, e1⟩
        rw [hz]; rw [if_pos e1] at b; omega
      · have hz : (if n2 ≠ 0 ∧ n2 = i then 1 else 0 : Nat) = 0 := if_neg (fun q => e1 q.2)
        rw [hz]; rw [if_neg e1] at b; omega
  have hT : ∀ b, F.T b = true → ∃ i, b ∈ ((((F.deln (Fs.dirOf y) s).deln (Fs.dirOf y2) s2).addn (Fs.dirOf y2) s2 n).P i).B := fun b hb => by
    obtain ⟨i, hi⟩ := S.T b hb
    exact ⟨i, by rw [h3 i]; exact hi⟩
  split
  · rename_i h4
    obtain ⟨h4, _⟩ := h4
    have ho : F.over n n2 = 0 := Decidable.not_not.1 (fun q => hov ⟨h4, q⟩)
    obtain ⟨q1, q2⟩ := H.over_ok ho
    obtain ⟨m1, m17, mk⟩ := W2.to h4
    have hQ : ((((F.deln (Fs.dirOf y) s).deln (Fs.dirOf y2) s2).addn (Fs.dirOf y2) s2 n).P n2).Q = [] := by
      have hne : n2 ≠ Fs.dirOf y2 := fun e => by
        have := lk_mem (Q := (F.P (Fs.dirOf y2)).Q) (s := s2) (by rw [← W2.nn]; exact h4)
        rw [← e, q1] at this; simp at this
      unfold Fs.addn Fs.nq
      rw [Fs.at_ne _ _ _ _ hne]
      refine List.eq_nil_iff_forall_not_mem.2 (fun x hx => ?_)
      have := deln_sub F _ _ n2 x (deln_sub (F.deln (Fs.dirOf y) s) _ _ n2 x hx)
      rw [q1] at this; simp at this
    refine fsh_less (F := ((F.deln (Fs.dirOf y) s).deln (Fs.dirOf y2) s2).addn (Fs.dirOf y2) s2 n) S.d n2 (by omega) (fun i hi => ?_) hT hQ
    have := hc i
    have h3l : ((((F.deln (Fs.dirOf y) s).deln (Fs.dirOf y2) s2).addn (Fs.dirOf y2) s2 n).P i).l = (F.P i).l := by rw [h3 i]
    rw [h3l, S.l i hi]
    by_cases e : i = n2
    · rw [if_pos e]
      have hz : (if n2 ≠ 0 ∧ n2 = i then 1 else 0 : Nat) = 1 := if_pos ⟨h4, e.symm⟩
      rw [hz] at this; omega
    · rw [if_neg e]
      have hz : (if n2 ≠ 0 ∧ n2 = i then 1 else 0 : Nat) = 0 := if_neg (fun q => e q.2.symm)
      rw [hz] at this; omega
  · rename_i h4
    have h40 : n2 = 0 := by
      by_cases e : n2 = 0
      · exact e
      · exact absurd ⟨e, by rw [S.d]; exact dfc_0_4⟩ h4
    show FSh (((F.deln (Fs.dirOf y) s).deln (Fs.dirOf y2) s2).addn (Fs.dirOf y2) s2 n)
    refine ⟨S.d, fun i hi => ?_, hT⟩
    have := hc i
    have hz : (if n2 ≠ 0 ∧ n2 = i then 1 else 0 : Nat) = 0 := if_neg (fun q => q.1 h40)
    rw [hz] at this
    have h3l : ((((F.deln (Fs.dirOf y) s).deln (Fs.dirOf y2) s2).addn (Fs.dirOf y2) s2 n).P i).l = (F.P i).l := by rw [h3 i]
    rw [h3l, S.l i hi]
    omega

theorem FSh.hld {F : Fs} (S : FSh F) (q : Nat) (h : Int) : FSh (F.hld q h) := by
  refine ⟨S.d, fun i hi => ?_, fun b hb => ?_⟩
  · have en : nmc (F.hld q h).P i 17 = nmc F.P i 17 := nmc_same _ 17 (fun j _ => by rw [Fs.hld_P])
    rw [en, Fs.hld_P]; exact S.l i hi
  · obtain ⟨i, hi⟩ := S.T b hb
    exact ⟨i, by rw [Fs.hld_P]; exact hi⟩
theorem FSh.hold {F : Fs} (S : FSh F) (n : Int) : FSh (F.hold n).1 := by
  unfold Fs.hold
  split
  · exact S
  split
  · exact S
  exact S.hld _ _
theorem FSh.drop {F : Fs} (S : FSh F) (H : FOk F) (n : Int) : FSh (F.drop n).1 := by
  unfold Fs.drop
  split
  · exact S
  split
  · exact S
  generalize n.toNat = q at *
  dsimp only
  rw [gone_hld]
  split
  · exact S.hld _ _
  · rename_i hh
    have hl0 : ¬ 0 < (F.P q).l := fun e => hh (.inl e)
    have hq1 : q ≠ 1 := fun e => by have := (H.dir q (by rw [e]; exact H.root)).2.2; omega
    have hk : (F.P q).k ≠ 2 := fun e => by have := (H.dir q e).2.2; omega
    have hQ := H.file q hk
    have eP : ∀ j, (((F.relB (F.P q).B).at_ q Fn.no).P j) = if j = q then Fn.no else F.P j := fun j => by rw [Fs.at_P, relB_P]
    refine ⟨by show (F.relB _).d = 0; rw [relB_d]; exact S.d, fun i hi => ?_, fun b hb => ?_⟩
    · have en : nmc ((F.relB (F.P q).B).at_ q Fn.no).P i 17 = nmc F.P i 17 := nmc_same i 17 (fun j _ => by
        rw [eP]; split
        · rename_i e; subst e; rw [hQ]; rfl
        · rfl)
      rw [en, eP]
      have := S.l i hi
      split
      · rename_i e; subst e
        show (0 : Int) = _
        omega
      · exact this
    · obtain ⟨h1, h2⟩ := S.relB_T _ _ hb
      obtain ⟨i, hi⟩ := S.T b h2
      refine ⟨i, ?_⟩
      rw [eP, if_neg (fun e => h1 (by rw [← e]; exact hi))]
      exact hi

theorem FSh.with_ {F : Fs} (S : FSh F) (n : Nat) (c : List Int) (B : List Nat) (T : Nat → Bool) (hT : ∀ b, T b = true → b ∈ B ∨ (F.T b = true ∧ (b ∈ (F.P n).B → b ∈ B))) : FSh (F.with_ n c B T) := by
  refine ⟨S.d, fun i hi => ?_, fun b hb => ?_⟩
  · have en : nmc (F.with_ n c B T).P i 17 = nmc F.P i 17 := nmc_same _ 17 (fun j _ => by rw [Fs.with_P]; split <;> simp [*])
    rw [en, Fs.with_P]
    split
    · rename_i e; subst e; exact S.l i hi
    · exact S.l i hi
  · rcases hT b hb with h | ⟨h1, h2⟩
    · exact ⟨n, by rw [Fs.with_P, if_pos rfl]; exact h⟩
    · obtain ⟨i, hi⟩ := S.T b h1
      refine ⟨i, ?_⟩
      rw [Fs.with_P]
      split
      · rename_i e; subst e; exact h2 hi
      · exact hi
theorem FSh.grown {F : Fs} (S : FSh F) (n s : Nat) (c : List Int) : FSh ((F.grow n s).ct n c) := by
  rw [grow_ct]
  refine S.with_ n _ _ _ (fun b hb => ?_)
  split at hb
  · exact .inl (List.mem_append.2 (.inr (by assumption)))
  · exact .inr ⟨hb, fun q => List.mem_append.2 (.inl q)⟩
theorem FSh.write {F : Fs} (S : FSh F) (n off : Int) (b : List Int) : FSh (F.write n off b).1 := by
  unfold Fs.write
  split
  · exact S
  split
  · exact S
  split
  · exact S
  split
  · exact S
  split
  · exact S
  exact S.grown _ _ _
theorem FSh.resize {F : Fs} (S : FSh F) (H : FOk F) (n z : Int) : FSh (F.resize n z).1 := by
  unfold Fs.resize
  split
  · exact S
  split
  · exact S
  split
  · exact S
  split
  · generalize n.toNat = q at *
    have hP : (F.relB ((F.P q).B.drop (Fs.need z.toNat))).P = F.P := relB_P _ _
    have e : (F.relB ((F.P q).B.drop (Fs.need z.toNat))).at_ q { F.P q with c := (F.P q).c.take z.toNat, B := (F.P q).B.take (Fs.need z.toNat) } = F.with_ q ((F.P q).c.take z.toNat) ((F.P q).B.take (Fs.need z.toNat)) (F.relB ((F.P q).B.drop (Fs.need z.toNat))).T := by
      unfold Fs.with_ Fs.at_
      rw [hP, relB_d]
    show FSh ((F.relB ((F.P q).B.drop (Fs.need z.toNat))).at_ q _)
    rw [e]
    refine S.with_ q _ _ _ (fun b hb => ?_)
    obtain ⟨h1, h2⟩ := S.relB_T _ _ hb
    refine .inr ⟨h2, fun h => ?_⟩
    rw [← List.take_append_drop (Fs.need z.toNat) (F.P q).B] at h
    exact (List.mem_append.1 h).resolve_right h1
  · split
    · exact S
    exact S.grown _ _ _

/-- Links are at most so many. -/
def LB (F : Fs) (m : Int) : Prop := ∀ i, (F.P i).l ≤ m
theorem LB.mono {F : Fs} {m m' : Int} (h : LB F m) (k : m ≤ m') : LB F m' := fun i => Int.le_trans (h i) k
theorem LB.root (d : Int) : LB (rootF d) 1 := fun i => by
  show (if i = 1 then Fn.nu 2 else Fn.no).l ≤ 1
  split
  · exact Int.le_refl 1
  · show (0 : Int) ≤ 1; omega
theorem LB.less {F : Fs} {m : Int} (h : LB F m) (h0 : 0 ≤ m) (n : Nat) : LB (F.less n) m := fun i => by
  rw [less_eq]
  split
  · rw [Fs.lnk_P]
    dsimp only
    have := h i
    split
    · rename_i e; subst e; omega
    · exact this
  · rw [Fs.at_P, relB_P]
    split
    · exact h0
    · exact h i
theorem LB.deln {F : Fs} {m : Int} (h : LB F m) (dr : Nat) (s : List UInt8) : LB (F.deln dr s) m := fun i => by rw [Fs.deln_P]; exact h i
theorem LB.addn {F : Fs} {m : Int} (h : LB F m) (dr : Nat) (s : List UInt8) (n : Nat) : LB (F.addn dr s n) m := fun i => by rw [Fs.addn_P]; exact h i
theorem LB.make {F : Fs} {m : Int} (h : LB F m) (h1 : 1 ≤ m) (l : List UInt8) (kind : Int) : LB (F.make l kind).1 m := by
  unfold Fs.make
  split
  · exact h
  split
  · exact h
  split
  · exact h
  split
  · exact h
  split
  · exact h
  refine LB.addn (fun i => ?_) _ _ _
  rw [Fs.at_P]
  split
  · exact h1
  · exact h i
theorem LB.unlink {F : Fs} {m : Int} (h : LB F m) (h1 : 1 ≤ m) (l : List UInt8) : LB (F.unlink l).1 m := by
  unfold Fs.unlink
  split
  · exact h
  split
  · exact h
  split
  · exact h
  split
  · exact h.deln _ _
  · exact (h.deln _ _).less (by omega) _
theorem LB.rmdir {F : Fs} {m : Int} (h : LB F m) (h1 : 1 ≤ m) (l : List UInt8) : LB (F.rmdir l).1 m := by
  unfold Fs.rmdir
  split
  · exact h
  split
  · exact h
  split
  · exact h
  split
  · exact h
  exact (h.deln _ _).less (by omega) _
theorem LB.link {F : Fs} {m : Int} (h : LB F m) (l l2 : List UInt8) : LB (F.link l l2).1 (m + 1) := by
  have h' : LB F (m + 1) := h.mono (by omega)
  unfold Fs.link
  split
  · exact h'
  split
  · exact h'
  split
  · exact h'
  split
  · exact h'
  split
  · exact h'
  refine LB.addn (fun i => ?_) _ _ _
  rw [Fs.lnk_P]
  dsimp only
  split
  · have := h (F.find l).1; omega
  · exact h' i
theorem LB.rename {F : Fs} {m : Int} (h : LB F m) (h1 : 1 ≤ m) (l l2 : List UInt8) : LB (F.rename l l2).1 m := by
  unfold Fs.rename
  split
  · exact h
  split
  · exact h
  split
  · exact h
  split
  · exact h
  split
  · exact h
  split
  · exact h
  split
  · exact h
  split
  · exact (((h.deln _ _).deln _ _).addn _ _ _).less (by omega) _
  · exact ((h.deln _ _).deln _ _).addn _ _ _
theorem LB.at_ {F : Fs} {m : Int} (h : LB F m) (n : Nat) (x : Fn) (hx : x.l ≤ m) : LB (F.at_ n x) m := fun i => by
  rw [Fs.at_P]; split
  · exact hx
  · exact h i
theorem LB.hold {F : Fs} {m : Int} (h : LB F m) (n : Int) : LB (F.hold n).1 m := by
  unfold Fs.hold
  split
  · exact h
  split
  · exact h
  exact h.at_ _ _ (h _)
theorem LB.drop {F : Fs} {m : Int} (h : LB F m) (h1 : 1 ≤ m) (n : Int) : LB (F.drop n).1 m := by
  unfold Fs.drop
  split
  · exact h
  split
  · exact h
  dsimp only
  rw [gone_hld]
  split
  · exact h.at_ _ _ (h _)
  · refine LB.at_ (fun i => ?_) _ _ (by show (0 : Int) ≤ m; omega)
    rw [relB_P]; exact h i
theorem LB.grown {F : Fs} {m : Int} (h : LB F m) (n s : Nat) (c : List Int) : LB ((F.grow n s).ct n c) m := fun i => by
  rw [grow_ct, Fs.with_P]
  split
  · exact h n
  · exact h i
theorem LB.write {F : Fs} {m : Int} (h : LB F m) (n off : Int) (b : List Int) : LB (F.write n off b).1 m := by
  unfold Fs.write
  split
  · exact h
  split
  · exact h
  split
  · exact h
  split
  · exact h
  split
  · exact h
  exact h.grown _ _ _
theorem LB.resize {F : Fs} {m : Int} (h : LB F m) (n z : Int) : LB (F.resize n z).1 m := by
  unfold Fs.resize
  split
  · exact h
  split
  · exact h
  split
  · exact h
  split
  · refine LB.at_ (fun i => ?_) _ _ (h _)
    rw [relB_P]; exact h i
  · split
    · exact h
    exact h.grown _ _ _

end Go.Proofs.YtbglhmcahnkbfaaGreat

/- Calls that hold nothing leave who holds what, and the defects. -/
namespace Go.Proofs.YtbglhmcahnkbfaaGreat
set_option linter.unusedVariables false

/-- The same defects, the same holders. -/
def SH (F F' : Fs) : Prop := F'.d = F.d ∧ ∀ i, (F'.P i).h = (F.P i).h
theorem SH.refl (F : Fs) : SH F F := ⟨rfl, fun _ => rfl⟩
theorem SH.trans {F F' F'' : Fs} (h : SH F F') (k : SH F' F'') : SH F F'' := ⟨k.1.trans h.1, fun i => (k.2 i).trans (h.2 i)⟩
theorem SH.at_ (F : Fs) (n : Nat) (x : Fn) (h : x.h = (F.P n).h) : SH F (F.at_ n x) := ⟨rfl, fun i => by
  rw [Fs.at_P]; split
  · rename_i e; subst e; exact h
  · rfl⟩
theorem SH.relB (F : Fs) (B : List Nat) : SH F (F.relB B) := ⟨relB_d F B, fun i => by rw [relB_P]⟩
theorem SH.less (F : Fs) (n : Nat) (h0 : 0 ≤ (F.P n).h) : SH F (F.less n) := by
  rw [less_eq]
  split
  · exact SH.at_ F n _ rfl
  · rename_i e
    refine (SH.relB F _).trans (SH.at_ _ n _ ?_)
    rw [relB_P]
    show (0 : Int) = _
    omega
theorem SH.deln (F : Fs) (dr : Nat) (s : List UInt8) : SH F (F.deln dr s) := SH.at_ F dr _ rfl
theorem SH.addn (F : Fs) (dr : Nat) (s : List UInt8) (n : Nat) : SH F (F.addn dr s n) := SH.at_ F dr _ rfl
theorem SH.make {F : Fs} (H : FOk F) (l : List UInt8) (kind : Int) : SH F (F.make l kind).1 := by
  unfold Fs.make
  split
  · exact SH.refl F
  split
  · exact SH.refl F
  split
  · exact SH.refl F
  split
  · exact SH.refl F
  split
  · exact SH.refl F
  rename_i hf
  obtain ⟨_, _, f3⟩ := Fs.free_lt hf
  refine (SH.at_ F F.free (Fn.nu kind) ?_).trans (SH.addn _ _ _ _)
  rw [H.none _ f3]
  rfl
theorem SH.unlink {F : Fs} (H : FOk F) (l : List UInt8) : SH F (F.unlink l).1 := by
  unfold Fs.unlink
  split
  · exact SH.refl F
  split
  · exact SH.refl F
  split
  · exact SH.refl F
  split
  · exact SH.deln _ _ _
  · exact (SH.deln _ _ _).trans (SH.less _ _ (by rw [(SH.deln F _ _).2]; exact (H.h _).1))
theorem SH.rmdir {F : Fs} (H : FOk F) (l : List UInt8) : SH F (F.rmdir l).1 := by
  unfold Fs.rmdir
  split
  · exact SH.refl F
  split
  · exact SH.refl F
  split
  · exact SH.refl F
  split
  · exact SH.refl F
  exact (SH.deln _ _ _).trans (SH.less _ _ (by rw [(SH.deln F _ _).2]; exact (H.h _).1))
theorem SH.link {F : Fs} (l l2 : List UInt8) : SH F (F.link l l2).1 := by
  unfold Fs.link
  split
  · exact SH.refl F
  split
  · exact SH.refl F
  split
  · exact SH.refl F
  split
  · exact SH.refl F
  split
  · exact SH.refl F
  exact SH.trans (F' := F.lnk (F.find l).1 ((F.P (F.find l).1).l + 1)) (SH.at_ F _ _ rfl) (SH.addn _ _ _ _)
theorem SH.rename {F : Fs} (H : FOk F) (l l2 : List UInt8) : SH F (F.rename l l2).1 := by
  unfold Fs.rename
  split
  · exact SH.refl F
  split
  · exact SH.refl F
  split
  · exact SH.refl F
  split
  · exact SH.refl F
  split
  · exact SH.refl F
  split
  · exact SH.refl F
  split
  · exact SH.refl F
  rename_i y s n _ _ y2 s2 n2 _ _ _ _ _
  have h3 : ∀ a b c d e f g, SH F (((F.deln a b).deln c d).addn e f g) := fun a b c d e f g => ((SH.deln F a b).trans (SH.deln _ c d)).trans (SH.addn _ e f g)
  split
  · exact (h3 _ _ _ _ _ _ _).trans (SH.less _ _ (by rw [(h3 _ _ _ _ _ _ _).2]; exact (H.h _).1))
  · exact h3 _ _ _ _ _ _ _
theorem SH.grown (F : Fs) (n s : Nat) (c : List Int) : SH F ((F.grow n s).ct n c) := ⟨rfl, fun i => by
  rw [grow_ct, Fs.with_P]
  split
  · rename_i e; subst e; rfl
  · rfl⟩
theorem SH.write (F : Fs) (n off : Int) (b : List Int) : SH F (F.write n off b).1 := by
  unfold Fs.write
  split
  · exact SH.refl F
  split
  · exact SH.refl F
  split
  · exact SH.refl F
  split
  · exact SH.refl F
  split
  · exact SH.refl F
  exact SH.grown _ _ _ _
theorem SH.resize (F : Fs) (n z : Int) : SH F (F.resize n z).1 := by
  unfold Fs.resize
  split
  · exact SH.refl F
  split
  · exact SH.refl F
  split
  · exact SH.refl F
  split
  · exact (SH.relB F _).trans (SH.at_ _ _ _ (by rw [relB_P]))
  · split
    · exact SH.refl F
    exact SH.grown _ _ _ _

theorem hold_P {F : Fs} {n : Int} (h : (F.hold n).2 = 0) : F.there n = true ∧ (F.hold n).1 = F.hld n.toNat ((F.P n.toNat).h + 1) := by
  unfold Fs.hold at h ⊢
  split at h
  · exact absurd (show (2 : Int) = 0 from h) (by decide)
  · rename_i e
    rw [if_neg e]
    split at h
    · exact absurd (show (11 : Int) = 0 from h) (by decide)
    · rename_i e2
      rw [if_neg e2]
      exact ⟨by simpa using e, rfl⟩
theorem hold_no {F : Fs} {n : Int} (h : (F.hold n).2 ≠ 0) : (F.hold n).1 = F := by
  unfold Fs.hold at h ⊢
  split
  · rfl
  · split
    · rfl
    · rename_i e1 e2
      rw [if_neg e1, if_neg e2] at h
      exact absurd rfl h
theorem hold_d (F : Fs) (n : Int) : (F.hold n).1.d = F.d := by
  unfold Fs.hold
  split
  · rfl
  · split <;> rfl
theorem drop_d (F : Fs) (n : Int) : (F.drop n).1.d = F.d := by
  unfold Fs.drop
  split
  · rfl
  split
  · rfl
  dsimp only
  rw [gone_hld]
  split
  · rfl
  · show (F.relB _).d = F.d
    exact relB_d _ _
theorem drop_h {F : Fs} (H : FOk F) {n : Nat} (h : 0 < (F.P n).h) : (F.drop n).2 = 0 ∧ ∀ i, ((F.drop n).1.P i).h = if i = n then (F.P n).h - 1 else (F.P i).h := by
  have hk : (F.P n).k ≠ 0 := fun e => by rw [H.none n e] at h; exact absurd h (by decide)
  have hl := H.lt hk
  have ht : F.there n = true := by
    unfold Fs.there
    simp only [Int.toNat_natCast, decide_eq_true_eq]
    exact ⟨by omega, by omega, hk⟩
  unfold Fs.drop
  rw [if_neg (by rw [ht]; simp), if_neg (by rw [Int.toNat_natCast]; omega)]
  refine ⟨rfl, fun i => ?_⟩
  dsimp only
  rw [Int.toNat_natCast, gone_hld]
  split
  · rw [Fs.hld_P]
  · rename_i e
    rw [Fs.at_P, relB_P]
    split
    · rename_i q; subst q
      show (0 : Int) = _
      omega
    · rfl

end Go.Proofs.YtbglhmcahnkbfaaGreat
