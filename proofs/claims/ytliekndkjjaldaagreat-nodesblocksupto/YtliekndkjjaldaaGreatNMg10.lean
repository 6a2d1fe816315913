/- Texts of this seat, merged. -/
import Derived.Test.YtliekndkjjaldaaGreatNMg9
import Derived.Test.YtliekndkjjaldaaGreatNMg8

/- Each call leaves a file system as calls make it. -/
namespace Go.Proofs.YtliekndkjjaldaaGreat
set_option linter.unusedVariables false

theorem Fs.nq_P (F : Fs) (dr : Nat) (Q : List (List UInt8 × Nat)) (i : Nat) : (F.nq dr Q).P i = { F.P i with Q := if i = dr then Q else (F.P i).Q } := by
  unfold Fs.nq
  rw [Fs.at_P]
  by_cases e : i = dr
  · subst e; simp
  · simp [e]
theorem Fs.lnk_P (F : Fs) (n : Nat) (l : Int) (i : Nat) : (F.lnk n l).P i = { F.P i with l := if i = n then l else (F.P i).l } := by
  unfold Fs.lnk
  rw [Fs.at_P]
  by_cases e : i = n
  · subst e; simp
  · simp [e]
theorem Fs.hld_P (F : Fs) (n : Nat) (h : Int) (i : Nat) : (F.hld n h).P i = { F.P i with h := if i = n then h else (F.P i).h } := by
  unfold Fs.hld
  rw [Fs.at_P]
  by_cases e : i = n
  · subst e; simp
  · simp [e]
theorem Fs.deln_P (F : Fs) (dr : Nat) (s : List UInt8) (i : Nat) : (F.deln dr s).P i = { F.P i with Q := if i = dr then del s (F.P dr).Q else (F.P i).Q } := Fs.nq_P F dr _ i
theorem Fs.addn_P (F : Fs) (dr : Nat) (s : List UInt8) (n i : Nat) : (F.addn dr s n).P i = { F.P i with Q := if i = dr then ins s n (F.P dr).Q else (F.P i).Q } := Fs.nq_P F dr _ i

theorem rootF_ok (d : Int) : FOk (rootF d) := by
  have e : ∀ i, (rootF d).P i = if i = 1 then Fn.nu 2 else Fn.no := fun _ => rfl
  have eQ : ∀ i, ((rootF d).P i).Q = [] := fun i => by rw [e]; split <;> rfl
  have ec : ∀ i, ((rootF d).P i).c = [] := fun i => by rw [e]; split <;> rfl
  have eB : ∀ i, ((rootF d).P i).B = [] := fun i => by rw [e]; split <;> rfl
  have en : ∀ i m, nmc (rootF d).P i m = 0 := fun i m => by
    induction m with
    | zero => rfl
    | succ m ih => unfold nmc; rw [ih, eQ]; rfl
  refine ⟨fun i => ?_, fun i hi => by rw [e, if_neg (by omega)], by rw [e, if_neg (by omega)], by rw [e, if_pos rfl]; rfl, fun i hi => ?_, fun i hi => eQ i, fun i hi => ⟨ec i, eB i, ?_⟩, fun i => by rw [eQ]; exact List.Pairwise.nil, fun i => by rw [eQ]; simp, fun i x hx => by rw [eQ] at hx; simp at hx, ⟨fun _ => 0, fun i x hx => by rw [eQ] at hx; simp at hx⟩,
    fun i hi => ?_, fun i hi => ?_, fun i => ?_, fun i => by rw [ec]; simp, fun i => by rw [eB, ec]; rfl, fun i b hb => by rw [eB] at hb; simp at hb, fun i => by rw [eB]; simp, fun i j b hb => by rw [eB] at hb; simp at hb, rfl, fun _ _ => rfl⟩
  · rw [e]; split <;> simp [Fn.nu, Fn.no]
  · rw [e] at hi ⊢; split at hi
    · simp [Fn.nu] at hi
    · rename_i q; rw [if_neg q]
  · rw [e] at hi ⊢; split at hi
    · rename_i q; rw [if_pos q]; rfl
    · simp [Fn.no] at hi
  · rw [en, e, if_neg hi]; simp [Fn.no]
  · rw [e] at hi ⊢; split at hi
    · rename_i q; rw [if_pos q]; simp [Fn.nu]
    · simp [Fn.no] at hi
  · rw [e]; split <;> simp [Fn.nu, Fn.no]

theorem Fs.free_lt {F : Fs} (h : F.free ≠ 0) : 1 ≤ F.free ∧ F.free < 17 ∧ (F.P F.free).k = 0 := by
  unfold Fs.free at h ⊢
  cases q : (List.range' 1 16).find? (fun i => decide ((F.P i).k = 0)) with
  | none => rw [q] at h; exact absurd rfl h
  | some i =>
    have h1 := List.find?_some q
    have h2 := List.mem_of_find?_eq_some q
    simp at h1
    rw [List.mem_range'_1] at h2
    exact ⟨by show 1 ≤ i; omega, by show i < 17; omega, h1⟩

theorem FOk.make {F : Fs} (H : FOk F) (l : List UInt8) (kind : Int) : FOk (F.make l kind).1 := by
  unfold Fs.make
  split
  · exact H
  rename_i hkind
  split
  · exact H
  rename_i y s n hw
  have W := H.walk_ok hw
  split
  · exact H
  rename_i hn
  split
  · exact H
  rename_i h6
  split
  · exact H
  rename_i hf
  obtain ⟨f1, f2, f3⟩ := Fs.free_lt hf
  have hdf : Fs.dirOf y ≠ F.free := fun e => by have := W.k; rw [e] at this; omega
  have h0 := H.none _ f3
  have hG := H.new F.free kind f1 f2 f3 (by omega)
  have ed : (F.at_ F.free (Fn.nu kind)).P (Fs.dirOf y) = F.P (Fs.dirOf y) := Fs.at_ne _ _ _ _ hdf
  have ef : (F.at_ F.free (Fn.nu kind)).P F.free = Fn.nu kind := Fs.at_self _ _ _
  have en : nmc (F.at_ F.free (Fn.nu kind)).P F.free 17 = nmc F.P F.free 17 := nmc_same _ 17 (fun j _ => Fs.at_f Fn.Q F F.free _ (by rw [h0]; rfl) j)
  have hf1 : F.free ≠ 1 := fun e => by have := H.root; rw [e] at f3; omega
  have hz := H.li F.free hf1
  rw [h0] at hz
  simp only [Fn.no] at hz
  refine hG.addn _ s F.free (by rw [ed]; exact W.k) (by rw [ed, ← W.nn]; omega) W.ne W.len (by rw [ed]; omega) hf1 (by rw [ef]; simp only [Fn.nu]; omega) (fun r => ?_) ?_
  · have := r.leaf (by rw [ef]; rfl)
    exact hdf this
  · rw [en, ef]; simp only [Fn.nu]; omega

/-- A name goes, and a link of what it named. -/
theorem FOk.deln_less {F : Fs} (H : FOk F) {y : List Nat} {s : List UInt8} {n : Nat} (W : Wlk F y s n) (hn : n ≠ 0) (hQ : (F.P n).Q = []) (hd : (F.P n).k = 2 → (F.P n).h = 0) : FOk ((F.deln (Fs.dirOf y) s).less n) := by
  have hG := H.deln (Fs.dirOf y) s W.k
  obtain ⟨n1, n17, nk⟩ := W.to hn
  have hne : n ≠ Fs.dirOf y := fun e => by
    have := lk_mem (Q := (F.P (Fs.dirOf y)).Q) (s := s) (by rw [← W.nn]; exact hn)
    rw [← e, hQ] at this; simp at this
  have e : (F.deln (Fs.dirOf y) s).P n = F.P n := by unfold Fs.deln Fs.nq; exact Fs.at_ne _ _ _ _ hne
  have hc := nmc_deln H (Fs.dirOf y) W.lt.2 s (by rw [← W.nn]; exact hn) n
  rw [← W.nn, if_pos rfl] at hc
  have hl := H.li n (by omega)
  exact hG.less n (by omega) (by rw [e]; exact nk) (by rw [e]; omega) (by rw [e]; exact hQ) (by rw [e]; exact hd)

theorem FOk.unlink {F : Fs} (H : FOk F) (l : List UInt8) : FOk (F.unlink l).1 := by
  unfold Fs.unlink
  split
  · exact H
  rename_i y s n hw
  have W := H.walk_ok hw
  split
  · exact H
  rename_i hn
  split
  · exact H
  rename_i hk
  split
  · exact H.deln _ _ W.k
  · exact H.deln_less W hn (H.file n hk) (fun e => absurd e hk)
theorem FOk.rmdir {F : Fs} (H : FOk F) (l : List UInt8) : FOk (F.rmdir l).1 := by
  unfold Fs.rmdir
  split
  · exact H
  rename_i y s n hw
  have W := H.walk_ok hw
  split
  · exact H
  rename_i hn
  split
  · exact H
  rename_i hk
  split
  · exact H
  rename_i hs
  have hs : F.stays n = 0 := Decidable.not_not.1 hs
  unfold Fs.stays at hs
  split at hs
  · simp at hs
  rename_i hq
  split at hs
  · simp at hs
  rename_i hh
  exact H.deln_less W hn (List.eq_nil_of_length_eq_zero (by omega)) (fun _ => by have := (H.h n).1; omega)

theorem FOk.find_ok {F : Fs} (H : FOk F) {l : List UInt8} (h : (F.find l).2 = 0) : (F.P (F.find l).1).k ≠ 0 ∧ ((F.P (F.find l).1).k ≠ 2 → (F.find l).1 ≠ 1) := by
  unfold Fs.find at h ⊢
  split at h
  · rename_i e
    rw [if_pos e]
    refine ⟨by have := H.root; dsimp only; omega, fun q => absurd H.root q⟩
  · rename_i e
    rw [if_neg e]
    split at h
    · rename_i e' hw
      have := Fs.walk_err hw
      simp at h; omega
    · rename_i y s n hw
      have W := H.walk_ok hw
      split at h
      · simp at h
      · rename_i hn
        rw [if_neg hn]
        obtain ⟨a, b, c⟩ := W.to hn
        exact ⟨c, fun _ => by show n ≠ 1; omega⟩

theorem FOk.link {F : Fs} (H : FOk F) (l m : List UInt8) : FOk (F.link l m).1 := by
  unfold Fs.link
  split
  · exact H
  rename_i h0
  have h0 : (F.find l).2 = 0 := Decidable.not_not.1 h0
  obtain ⟨k0, k1⟩ := H.find_ok h0
  split
  · exact H
  rename_i hk
  split
  · exact H
  rename_i y s n hw
  have W := H.walk_ok hw
  split
  · exact H
  rename_i hn
  split
  · exact H
  rename_i h6
  generalize (F.find l).1 = q at *
  have hq1 := k1 hk
  have hl := H.li q hq1
  have hG : FOk (F.lnk q ((F.P q).l + 1)) := by
    refine H.lh_ q _ rfl rfl rfl rfl k0 (fun _ => by show _ ≤ (F.P q).l + 1; omega) (fun e => absurd e hk) (H.h q) (.inl (by show 0 < (F.P q).l + 1; omega))
  have hne : Fs.dirOf y ≠ q := fun e => by rw [← e] at hk; exact hk W.k
  have ed : (F.lnk q ((F.P q).l + 1)).P (Fs.dirOf y) = F.P (Fs.dirOf y) := Fs.at_ne _ _ _ _ hne
  have eq : (F.lnk q ((F.P q).l + 1)).P q = { F.P q with l := (F.P q).l + 1 } := Fs.at_self _ _ _
  have en : nmc (F.lnk q ((F.P q).l + 1)).P q 17 = nmc F.P q 17 := nmc_same _ 17 (fun j _ => by rw [Fs.lnk_P])
  refine hG.addn _ s q (by rw [ed]; exact W.k) (by rw [ed, ← W.nn]; omega) W.ne W.len (by rw [ed]; omega) hq1 (by rw [eq]; exact k0) (fun r => ?_) ?_
  · exact hne (r.leaf (by rw [eq]; exact H.file q hk))
  · rw [en, eq]; dsimp only; omega

theorem FOk.over_ok {F : Fs} (H : FOk F) {n m : Nat} (h : F.over n m = 0) : (F.P m).Q = [] ∧ ((F.P m).k = 2 → (F.P m).h = 0) := by
  unfold Fs.over at h
  split at h
  · rename_i hk
    split at h
    · unfold Fs.stays at h
      split at h
      · simp at h
      rename_i hq
      split at h
      · simp at h
      rename_i hh
      exact ⟨List.eq_nil_of_length_eq_zero (by omega), fun _ => by have := (H.h m).1; omega⟩
    · simp at h
  · rename_i hk
    exact ⟨H.file m hk, fun e => absurd e hk⟩

/-- A node under another name, ahead of what becomes of the one that had it. -/
theorem FOk.moved {F : Fs} (H : FOk F) {y y2 : List Nat} {s s2 : List UInt8} {n n2 : Nat} (W : Wlk F y s n) (W2 : Wlk F y2 s2 n2) (hn : n ≠ 0) (hnn : n2 ≠ n) (hr : n ∉ y2) (hf : ¬ (n2 = 0 ∧ Fs.dirOf y2 ≠ Fs.dirOf y ∧ 6 ≤ (F.P (Fs.dirOf y2)).Q.length)) :
    FOk (((F.deln (Fs.dirOf y) s).deln (Fs.dirOf y2) s2).addn (Fs.dirOf y2) s2 n) ∧ (n2 ≠ 0 → (nmc (((F.deln (Fs.dirOf y) s).deln (Fs.dirOf y2) s2).addn (Fs.dirOf y2) s2 n).P n2 17 : Int) + 1 ≤ (F.P n2).l) ∧
    (∀ i, ((((F.deln (Fs.dirOf y) s).deln (Fs.dirOf y2) s2).addn (Fs.dirOf y2) s2 n).P i) = { F.P i with Q := ((((F.deln (Fs.dirOf y) s).deln (Fs.dirOf y2) s2).addn (Fs.dirOf y2) s2 n).P i).Q }) := by
  have h1 := H.deln (Fs.dirOf y) s W.k
  have k1 : ∀ i, ((F.deln (Fs.dirOf y) s).P i).k = (F.P i).k := fun i => by rw [Fs.deln_P]
  have l1 : ∀ i, ((F.deln (Fs.dirOf y) s).P i).l = (F.P i).l := fun i => by rw [Fs.deln_P]
  have h2 := h1.deln (Fs.dirOf y2) s2 (by rw [k1]; exact W2.k)
  obtain ⟨G, gG⟩ : ∃ G, G = (F.deln (Fs.dirOf y) s).deln (Fs.dirOf y2) s2 := ⟨_, rfl⟩
  have k2 : ∀ i, (G.P i).k = (F.P i).k := fun i => by rw [gG, Fs.deln_P]; exact k1 i
  have l2 : ∀ i, (G.P i).l = (F.P i).l := fun i => by rw [gG, Fs.deln_P]; exact l1 i
  have e2 : ∀ i, G.P i = { F.P i with Q := (G.P i).Q } := fun i => by
    rw [gG, Fs.deln_P, Fs.deln_P]
  have sub : ∀ i x, x ∈ (G.P i).Q → x ∈ (F.P i).Q := fun i x hx => deln_sub F _ _ i x (deln_sub (F.deln (Fs.dirOf y) s) _ _ i x (by rw [← gG]; exact hx))
  rw [← gG] at h2 ⊢
  obtain ⟨n1, n17, nk⟩ := W.to hn
  have hnz : lk (F.P (Fs.dirOf y)).Q s ≠ 0 := by rw [← W.nn]; exact hn
  have c1 := nmc_deln H (Fs.dirOf y) W.lt.2 s hnz
  have hz2 : lk (G.P (Fs.dirOf y2)).Q s2 = 0 := by
    have : (G.P (Fs.dirOf y2)).Q = del s2 ((F.deln (Fs.dirOf y) s).P (Fs.dirOf y2)).Q := by rw [gG, deln_Q, if_pos rfl]
    rw [this, lk_del, if_pos rfl]
  have hlt : (G.P (Fs.dirOf y2)).Q.length < 6 := by
    have a1 := H.len (Fs.dirOf y2)
    have e1 : (G.P (Fs.dirOf y2)).Q = del s2 ((F.deln (Fs.dirOf y) s).P (Fs.dirOf y2)).Q := by rw [gG, deln_Q, if_pos rfl]
    have a3 : (G.P (Fs.dirOf y2)).Q.length ≤ ((F.deln (Fs.dirOf y) s).P (Fs.dirOf y2)).Q.length := by rw [e1]; exact List.length_filter_le _ _
    by_cases ed : Fs.dirOf y2 = Fs.dirOf y
    · have a2 := len_del (H.srt (Fs.dirOf y)) hnz
      rw [ed] at a3 ⊢
      rw [deln_Q, if_pos rfl] at a3
      have := H.len (Fs.dirOf y)
      omega
    · have e3 : ((F.deln (Fs.dirOf y) s).P (Fs.dirOf y2)).Q = (F.P (Fs.dirOf y2)).Q := by rw [deln_Q, if_neg ed]
      by_cases hn2 : n2 = 0
      · rw [e3] at a3; omega
      · have hnz2 : lk (F.P (Fs.dirOf y2)).Q s2 ≠ 0 := by rw [← W2.nn]; exact hn2
        have a2 := len_del (H.srt (Fs.dirOf y2)) hnz2
        rw [e1, e3]; omega
  have hrch : ¬ Rch G n (Fs.dirOf y2) := fun r => by
    have r' := r.sub sub
    by_cases hk : (F.P n).k = 2
    · exact hr ((W2.on H n).2 ⟨hk, r'⟩)
    · have := r'.leaf (H.file n hk)
      have := W2.k
      rw [‹Fs.dirOf y2 = n›] at this
      exact hk this
  have c2 : ∀ i, nmc G.P i 17 ≤ nmc (F.deln (Fs.dirOf y) s).P i 17 := fun i => by
    by_cases q : lk ((F.deln (Fs.dirOf y) s).P (Fs.dirOf y2)).Q s2 = 0
    · rw [gG, deln_none h1 _ _ q]; exact Nat.le_refl _
    · have := nmc_deln h1 (Fs.dirOf y2) W2.lt.2 s2 q i
      rw [gG]; omega
  have cn := c1 n
  rw [← W.nn, if_pos rfl] at cn
  have hln := H.li n (by omega)
  have c2n := c2 n
  refine ⟨h2.addn _ s2 n (by rw [k2]; exact W2.k) hz2 W2.ne W2.len hlt (by omega) (by rw [k2]; exact nk) hrch (by rw [l2]; omega), fun hn2 => ?_, fun i => ?_⟩
  · rw [nmc_addn _ W2.lt.2, if_neg (fun e => hnn e.symm)]
    obtain ⟨m1, _, _⟩ := W2.to hn2
    have hl2 := H.li n2 (by omega)
    have q1 := c1 n2
    rw [← W.nn, if_neg (fun e => hnn e.symm)] at q1
    have hq : lk ((F.deln (Fs.dirOf y) s).P (Fs.dirOf y2)).Q s2 = n2 := by
      rw [deln_Q]
      split
      · rename_i ed
        rw [lk_del]
        split
        · rename_i es
          have a := W.nn
          have b := W2.nn
          rw [ed, es, ← a] at b
          exact absurd b hnn
        · rw [← ed]; exact W2.nn.symm
      · exact W2.nn.symm
    have := nmc_deln h1 (Fs.dirOf y2) W2.lt.2 s2 (by rw [hq]; exact hn2) n2
    rw [hq, if_pos rfl, ← gG] at this
    omega
  · rw [Fs.addn_P]; dsimp only; rw [e2 i]

theorem FOk.rename {F : Fs} (H : FOk F) (l m : List UInt8) : FOk (F.rename l m).1 := by
  unfold Fs.rename
  split
  · exact H
  rename_i y s n hw
  have W := H.walk_ok hw
  split
  · exact H
  rename_i hn
  split
  · exact H
  rename_i y2 s2 n2 hw2
  have W2 := H.walk_ok hw2
  split
  · exact H
  rename_i hnn
  split
  · exact H
  rename_i hov
  split
  · exact H
  rename_i hr
  split
  · exact H
  rename_i hf
  obtain ⟨h1, h2, h3⟩ := H.moved W W2 hn hnn hr hf
  split
  · rename_i h4
    obtain ⟨h4, _⟩ := h4
    have ho : F.over n n2 = 0 := Decidable.not_not.1 (fun q => hov ⟨h4, q⟩)
    obtain ⟨q1, q2⟩ := H.over_ok ho
    obtain ⟨m1, m17, mk⟩ := W2.to h4
    have e := h3 n2
    have hQ : ((((F.deln (Fs.dirOf y) s).deln (Fs.dirOf y2) s2).addn (Fs.dirOf y2) s2 n).P n2).Q = [] := by
      have hne : n2 ≠ Fs.dirOf y2 := fun e => by
        have := lk_mem (Q := (F.P (Fs.dirOf y2)).Q) (s := s2) (by rw [← W2.nn]; exact h4)
        rw [← e, q1] at this; simp at this
      unfold Fs.addn Fs.nq
      rw [Fs.at_ne _ _ _ _ hne]
      refine List.eq_nil_iff_forall_not_mem.2 (fun x hx => ?_)
      have := deln_sub F _ _ n2 x (deln_sub (F.deln (Fs.dirOf y) s) _ _ n2 x hx)
      rw [q1] at this; simp at this
    refine h1.less n2 (by omega) (by rw [e]; exact mk) ?_ hQ (fun hk => ?_)
    · rw [e]; exact h2 h4
    · rw [e] at hk ⊢; exact q2 hk
  · exact h1

theorem FOk.hold {F : Fs} (H : FOk F) (n : Int) : FOk (F.hold n).1 := by
  unfold Fs.hold
  split
  · exact H
  rename_i ht
  split
  · exact H
  rename_i hh
  simp only [Bool.not_eq_false, Fs.there, decide_eq_true_eq] at ht
  generalize n.toNat = q at *
  have h0 := H.h q
  have hl := H.l0 q
  refine H.lh_ q _ rfl rfl rfl rfl ht.2.2 (fun hq => H.li q hq) (fun e => (H.dir q e).2.2) ⟨?_, ?_⟩ (.inr ?_)
  · show 0 ≤ (F.P q).h + 1; omega
  · show (F.P q).h + 1 ≤ 1000; omega
  · show 0 < (F.P q).h + 1; omega
theorem FOk.drop {F : Fs} (H : FOk F) (n : Int) : FOk (F.drop n).1 := by
  unfold Fs.drop
  split
  · exact H
  rename_i ht
  split
  · exact H
  rename_i hh
  simp only [Bool.not_eq_false, Fs.there, decide_eq_true_eq] at ht
  generalize n.toNat = q at *
  have h0 := H.h q
  have hl := H.l0 q
  dsimp only
  rw [gone_hld]
  split
  · rename_i h
    refine H.lh_ q _ rfl rfl rfl rfl ht.2.2 (fun hq => H.li q hq) (fun e => (H.dir q e).2.2) ⟨?_, ?_⟩ h
    · show 0 ≤ (F.P q).h - 1; omega
    · show (F.P q).h - 1 ≤ 1000; omega
  · rename_i h
    have hq1 : q ≠ 1 := fun e => by have := (H.dir q (by rw [e]; exact H.root)).2.2; omega
    have hk : (F.P q).k ≠ 2 := fun e => by have := (H.dir q e).2.2; omega
    have := H.li q hq1
    exact H.remove q hq1 (by omega) (H.file q hk)

end Go.Proofs.YtliekndkjjaldaaGreat

/- Write and Resize leave a file system as calls make it. -/
namespace Go.Proofs.YtliekndkjjaldaaGreat
set_option linter.unusedVariables false

/-- A file of other bytes and blocks, other marks. -/
def Fs.with_ (F : Fs) (n : Nat) (c : List Int) (B : List Nat) (T : Nat → Bool) : Fs := { F.at_ n { F.P n with c := c, B := B } with T := T }
theorem Fs.with_P (F : Fs) (n : Nat) (c : List Int) (B : List Nat) (T : Nat → Bool) (i : Nat) : (F.with_ n c B T).P i = if i = n then { F.P n with c := c, B := B } else F.P i := rfl

theorem FOk.cont {F : Fs} (H : FOk F) (n : Nat) (c : List Int) (B : List Nat) (T : Nat → Bool) (hk : (F.P n).k = 1) (hc : c.length ≤ 96 ∧ ∀ z ∈ c, 0 ≤ z ∧ z < 256) (hB : B.length = Fs.need c.length)
    (hT : ∀ b ∈ B, 1 ≤ b ∧ b < 25 ∧ T b = true) (hd : B.Nodup) (ho : ∀ j, j ≠ n → ∀ b ∈ (F.P j).B, T b = true ∧ b ∉ B) (h0 : T 0 = false) (h25 : ∀ b, 25 ≤ b → T b = false) : FOk (F.with_ n c B T) := by
  have ek : ∀ i, ((F.with_ n c B T).P i).k = (F.P i).k := fun i => by rw [Fs.with_P]; split <;> simp [*]
  have el : ∀ i, ((F.with_ n c B T).P i).l = (F.P i).l := fun i => by rw [Fs.with_P]; split <;> simp [*]
  have eh : ∀ i, ((F.with_ n c B T).P i).h = (F.P i).h := fun i => by rw [Fs.with_P]; split <;> simp [*]
  have eQ : ∀ i, ((F.with_ n c B T).P i).Q = (F.P i).Q := fun i => by rw [Fs.with_P]; split <;> simp [*]
  have ec : ∀ i, ((F.with_ n c B T).P i).c = if i = n then c else (F.P i).c := fun i => by rw [Fs.with_P]; split <;> rfl
  have eB : ∀ i, ((F.with_ n c B T).P i).B = if i = n then B else (F.P i).B := fun i => by rw [Fs.with_P]; split <;> rfl
  have en : ∀ i, nmc (F.with_ n c B T).P i 17 = nmc F.P i 17 := fun i => nmc_same i 17 (fun j _ => eQ j)
  have hn := H.lt (i := n) (by omega)
  have ene : ∀ i, i ≠ n → (F.with_ n c B T).P i = F.P i := fun i hi => by rw [Fs.with_P, if_neg hi]
  refine ⟨fun i => by rw [ek]; exact H.k i, fun i hi => by rw [ene i (by omega)]; exact H.out i hi, by rw [ene 0 (by omega)]; exact H.zero, by rw [ek]; exact H.root, fun i hi => ?_, fun i hi => by rw [eQ]; rw [ek] at hi; exact H.file i hi, fun i hi => ?_, fun i => by rw [eQ]; exact H.srt i, fun i => by rw [eQ]; exact H.len i,
    fun i x hx => by rw [eQ] at hx; rw [ek]; exact H.nm i x hx, ?_, fun i hi => by rw [en, el]; exact H.li i hi, fun i hi => by rw [el, eh]; rw [ek] at hi; exact H.lh i hi, fun i => by rw [eh]; exact H.h i, fun i => ?_, fun i => ?_, fun i b hb => ?_, fun i => ?_, fun i j b h1 h2 => ?_, h0, h25⟩
  · rw [ek] at hi
    rw [ene i (fun e => by rw [e] at hi; omega)]; exact H.none i hi
  · rw [ek] at hi
    rw [ene i (fun e => by rw [e] at hi; omega)]; exact H.dir i hi
  · obtain ⟨rk, hr⟩ := H.tree
    exact ⟨rk, fun i x hx => by rw [eQ] at hx; exact hr i x hx⟩
  · rw [ec]; split
    · exact hc
    · exact H.c i
  · rw [eB, ec]; split
    · exact hB
    · exact H.B i
  · rw [eB] at hb; split at hb
    · exact hT b hb
    · rename_i e
      obtain ⟨q1, q2, q3⟩ := H.T i b hb
      exact ⟨q1, q2, (ho i e b hb).1⟩
  · rw [eB]; split
    · exact hd
    · exact H.nd i
  · rw [eB] at h1 h2
    split at h1 <;> split at h2
    · omega
    · rename_i e1 e2; exact absurd h1 (ho j e2 b h2).2
    · rename_i e1 e2; exact absurd h2 (ho i e1 b h1).2
    · exact H.ap i j b h1 h2

theorem Fs.mem_frees {F : Fs} {b : Nat} : b ∈ F.frees ↔ 1 ≤ b ∧ b < 25 ∧ F.T b = false := by
  unfold Fs.frees
  rw [List.mem_filter, List.mem_range'_1]
  cases F.T b <;> simp <;> omega
theorem Fs.frees_nd (F : Fs) : F.frees.Nodup := (List.nodup_range').sublist List.filter_sublist

theorem grow_ct (F : Fs) (n s : Nat) (c : List Int) : (F.grow n s).ct n c = F.with_ n c ((F.P n).B ++ F.frees.take (Fs.need s - (F.P n).B.length)) (fun b => if b ∈ F.frees.take (Fs.need s - (F.P n).B.length) then true else F.T b) := by
  unfold Fs.grow Fs.ct Fs.with_ Fs.at_
  simp only
  congr 1
  funext j
  by_cases e : j = n <;> simp [e]

/-- A file that grew. -/
theorem FOk.grown {F : Fs} (H : FOk F) (n s : Nat) (c : List Int) (hk : (F.P n).k = 1) (hs : s ≤ 96) (hc : c.length = s) (hz : ∀ z ∈ c, 0 ≤ z ∧ z < 256) (hl : (F.P n).c.length ≤ s) (hf : F.fits n s = true) : FOk ((F.grow n s).ct n c) := by
  rw [grow_ct]
  have hB := H.B n
  have hm : Fs.need (F.P n).c.length ≤ Fs.need s := by unfold Fs.need; omega
  simp only [Fs.fits, decide_eq_true_eq] at hf
  obtain ⟨X, gX⟩ : ∃ X, X = F.frees.take (Fs.need s - (F.P n).B.length) := ⟨_, rfl⟩
  rw [← gX]
  have hX : ∀ b ∈ X, 1 ≤ b ∧ b < 25 ∧ F.T b = false := fun b hb => Fs.mem_frees.1 (List.mem_of_mem_take (by rw [← gX]; exact hb))
  have hXl : X.length = Fs.need s - (F.P n).B.length := by rw [gX, List.length_take]; omega
  have hXn : X.Nodup := by rw [gX]; exact F.frees_nd.sublist (List.take_sublist _ _)
  have key : ∀ i b, b ∈ (F.P i).B → b ∉ X := fun i b hb q => by
    have h1 := (H.T i b hb).2.2
    rw [(hX b q).2.2] at h1; simp at h1
  refine H.cont n c _ _ hk ⟨by omega, hz⟩ (by rw [List.length_append, hXl, hc]; omega) (fun b hb => ?_) ?_ (fun j hj b hb => ⟨?_, fun q => ?_⟩) ?_ (fun b hb => ?_)
  · rcases List.mem_append.1 hb with q | q
    · obtain ⟨a1, a2, a3⟩ := H.T n b q
      refine ⟨a1, a2, ?_⟩
      split
      · rfl
      · exact a3
    · obtain ⟨a1, a2, a3⟩ := hX b q
      exact ⟨a1, a2, by simp [q]⟩
  · exact List.nodup_append.2 ⟨H.nd n, hXn, fun a ha b hb e => key n a ha (e ▸ hb)⟩
  · split
    · rfl
    · exact (H.T j b hb).2.2
  · rcases List.mem_append.1 q with q | q
    · exact hj (H.ap j n b hb q)
    · exact key j b hb q
  · split
    · rename_i q; have := (hX 0 q).1; omega
    · exact H.T0
  · split
    · rename_i q; have := (hX b q).2.1; omega
    · exact H.T25 b hb

theorem lay_len (c : List Int) (off : Nat) (b : List Int) : (Fs.lay c off b).length = max c.length (off + b.length) := by
  unfold Fs.lay
  simp
  omega
theorem lay_mem {c : List Int} {off : Nat} {b : List Int} {z : Int} (h : z ∈ Fs.lay c off b) : z ∈ c ∨ z ∈ b ∨ z = 0 := by
  unfold Fs.lay at h
  rcases List.mem_append.1 h with h | h
  · rcases List.mem_append.1 h with h | h
    · rcases List.mem_append.1 (List.mem_of_mem_take h) with h | h
      · exact .inl h
      · exact .inr (.inr (List.eq_of_mem_replicate h))
    · exact .inr (.inl h)
  · exact .inl (List.mem_of_mem_drop h)

theorem Fs.file_ok {F : Fs} (H : FOk F) {n : Int} (h : F.file n = 0) : (F.P n.toNat).k = 1 ∧ 1 ≤ n ∧ n ≤ 16 := by
  unfold Fs.file at h
  split at h
  · simp at h
  rename_i ht
  split at h
  · simp at h
  rename_i hk
  simp only [Bool.not_eq_false, Fs.there, decide_eq_true_eq] at ht
  refine ⟨?_, ht.1, ht.2.1⟩
  rcases H.k n.toNat with q | q | q
  · exact absurd q ht.2.2
  · exact q
  · exact absurd q hk

theorem FOk.write {F : Fs} (H : FOk F) (n off : Int) (b : List Int) (hb : ∀ z ∈ b, 0 ≤ z ∧ z < 256) : FOk (F.write n off b).1 := by
  unfold Fs.write
  split
  · exact H
  rename_i hf
  have hf := Decidable.not_not.1 hf
  obtain ⟨hk, _, _⟩ := Fs.file_ok H hf
  split
  · exact H
  rename_i ho
  split
  · exact H
  rename_i hb0
  split
  · exact H
  rename_i h96
  split
  · exact H
  rename_i hfit
  have hfit : F.fits n.toNat (max (F.P n.toNat).c.length (off.toNat + b.length)) = true := by simpa using hfit
  have hc := H.c n.toNat
  refine H.grown n.toNat _ _ hk (by omega) (lay_len _ _ _) (fun z hz => ?_) (by omega) hfit
  rcases lay_mem hz with q | q | q
  · exact hc.2 z q
  · exact hb z q
  · omega

theorem FOk.resize {F : Fs} (H : FOk F) (n z : Int) : FOk (F.resize n z).1 := by
  unfold Fs.resize
  split
  · exact H
  rename_i hf
  have hf := Decidable.not_not.1 hf
  obtain ⟨hk, _, _⟩ := Fs.file_ok H hf
  split
  · exact H
  rename_i ho
  split
  · exact H
  rename_i h96
  have hc := H.c n.toNat
  split
  · rename_i hlt
    generalize n.toNat = q at *
    have hB := H.B q
    have hm : Fs.need z.toNat ≤ (F.P q).B.length := by rw [hB]; unfold Fs.need; omega
    have hP : (F.relB ((F.P q).B.drop (Fs.need z.toNat))).P = F.P := relB_P _ _
    have e : (F.relB ((F.P q).B.drop (Fs.need z.toNat))).at_ q { F.P q with c := (F.P q).c.take z.toNat, B := (F.P q).B.take (Fs.need z.toNat) } = F.with_ q ((F.P q).c.take z.toNat) ((F.P q).B.take (Fs.need z.toNat)) (F.relB ((F.P q).B.drop (Fs.need z.toNat))).T := by
      unfold Fs.with_ Fs.at_
      rw [hP, relB_d]
    show FOk ((F.relB ((F.P q).B.drop (Fs.need z.toNat))).at_ q _)
    rw [e]
    have hnd := H.nd q
    have hsp : (F.P q).B = (F.P q).B.take (Fs.need z.toNat) ++ (F.P q).B.drop (Fs.need z.toNat) := (List.take_append_drop _ _).symm
    have hdis : ∀ b, b ∈ (F.P q).B.take (Fs.need z.toNat) → b ∉ (F.P q).B.drop (Fs.need z.toNat) := fun b h1 h2 => by
      rw [hsp] at hnd
      exact (List.nodup_append.1 hnd).2.2 b h1 b h2 rfl
    refine H.cont q _ _ _ hk ⟨by rw [List.length_take]; omega, fun x hx => hc.2 x (List.mem_of_mem_take hx)⟩ (by rw [List.length_take, List.length_take]; rw [show min z.toNat (F.P q).c.length = z.toNat by omega]; omega) (fun b hb => ?_) (hnd.sublist (List.take_sublist _ _)) (fun j hj b hb => ⟨?_, fun h => ?_⟩) (relB_F F _ 0 H.T0) (fun b hb => relB_F F _ b (H.T25 b hb))
    · obtain ⟨a1, a2, a3⟩ := H.T q b (List.mem_of_mem_take hb)
      exact ⟨a1, a2, relB_T F _ b a3 (hdis b hb)⟩
    · exact relB_T F _ b (H.T j b hb).2.2 (fun h => hj (H.ap j q b hb (List.mem_of_mem_drop h)))
    · exact hj (H.ap j q b hb (List.mem_of_mem_take h))
  · split
    · exact H
    rename_i hlt hfit
    have hfit : F.fits n.toNat z.toNat = true := by simpa using hfit
    refine H.grown n.toNat _ _ hk (by omega) (by simp; omega) (fun x hx => ?_) (by omega) hfit
    rcases List.mem_append.1 hx with q | q
    · exact hc.2 x q
    · have := List.eq_of_mem_replicate q; omega

end Go.Proofs.YtliekndkjjaldaaGreat

/- The program's system beside the one without memory. -/
namespace Go.Proofs.YtliekndkjjaldaaGreat
open Go.RowKit Go.ChangeMaps Go.MapKept
set_option linter.unusedVariables false
set_option maxRecDepth 20000

structure NdR (x : Nd) (y : Fn) : Prop where
  k : x.k = y.k
  l : x.l = y.l
  h : x.h = y.h
  s : x.s = y.c.length
  b : x.b.take x.s = y.c
  z : ∀ j, x.s ≤ j → x.b.getD j 0 = 0
  B : ∀ j, j < y.B.length → x.B.getD j 0 = ((y.B.getD j 0 : Nat) : Int)

structure Rel (S : Sg) (F : Fs) : Prop where
  d : S.d = F.d
  T : S.T = F.T
  P : ∀ i, i < 17 → NdR (S.P i) (F.P i)
  L : ∀ i, i < 17 → S.L i = (F.P i).Q.length
  N : ∀ i, i < 17 → ∀ s, S.N i s = lk (F.P i).Q s

theorem NdR.no : NdR noNd Fn.no := ⟨rfl, rfl, rfl, rfl, by simp [noNd, Fn.no], fun j _ => getD_zeros 96 j, fun j hj => by simp [Fn.no] at hj⟩
theorem NdR.nu (k : Int) (m : Option Nat) : NdR (newNd k m) (Fn.nu k) := ⟨rfl, rfl, rfl, rfl, by simp [newNd, Fn.nu], fun j _ => getD_zeros 96 j, fun j hj => by simp [Fn.nu] at hj⟩

theorem Rel.root (m : Nat) (d : Int) : Rel { rootG m with d := d } (rootF d) := by
  refine ⟨rfl, rfl, fun i _ => ?_, fun i _ => ?_, fun i _ s => ?_⟩
  · show NdR (if i = 1 then newNd 2 (some m) else noNd) (if i = 1 then Fn.nu 2 else Fn.no)
    split
    · exact NdR.nu 2 _
    · exact NdR.no
  · show 0 = (if i = 1 then Fn.nu 2 else Fn.no).Q.length
    split <;> rfl
  · show 0 = lk (if i = 1 then Fn.nu 2 else Fn.no).Q s
    split <;> rfl

theorem wk_congr (K K' : Nat → Int) (N N' : Nat → List UInt8 → Nat) (hK : ∀ i, i < 17 → K i = K' i) (hN : ∀ i, i < 17 → ∀ s, N i s = N' i s) (h17 : ∀ i, i < 17 → ∀ s, N i s < 17) :
    ∀ (l : List (List UInt8)) (n : Nat) (y : List Nat), n < 17 → wk K N n y l = wk K' N' n y l
  | [], n, y, _ => rfl
  | q :: r, n, y, hn => by
    cases r with
    | nil => simp only [wk, hK n hn, hN n hn]
    | cons z t =>
      have := wk_congr K K' N N' hK hN h17 (z :: t) (N n q) (y ++ [n]) (h17 n hn q)
      simp only [wk, hK n hn] at this ⊢
      rw [this, hN n hn]

theorem Rel.walk {w : World} {p : Nat} {S : Sg} {F : Fs} (H : Sy w p S) (R : Rel S F) (t : ByteArray) : wkS S t = F.walk (bl t) := by
  unfold wkS Fs.walk
  split
  · rw [wk_congr (fun i => (S.P i).k) F.K S.N F.N (fun i hi => (R.P i hi).k) (fun i hi s => R.N i hi s) (fun i hi s => H.to i s hi) _ 1 [] (by omega)]
  · rfl

theorem countP_lt {p q : Nat → Bool} (hpq : ∀ i, p i = true → q i = true) (x : Nat) (hx : q x = true) (hn : p x = false) : ∀ l : List Nat, x ∈ l → l.countP p < l.countP q
  | [], h => by simp at h
  | y :: r, h => by
    have hle : r.countP p ≤ r.countP q := List.countP_mono_left (fun i _ => hpq i)
    rw [List.countP_cons, List.countP_cons]
    rcases List.mem_cons.1 h with e | h
    · subst e
      rw [hx, hn]; simp; omega
    · have := countP_lt hpq x hx hn r h
      have h2 : (if p y = true then 1 else 0) ≤ (if q y = true then 1 else 0 : Nat) := by
        by_cases e : p y = true
        · rw [if_pos e, if_pos (hpq y e)]; exact Nat.le_refl _
        · rw [if_neg e]; omega
      omega

/-- A system that calls made leads nowhere back. -/
theorem Rel.tree {S : Sg} {F : Fs} (R : Rel S F) (H : FOk F) : Tree S := by
  obtain ⟨rk, hr⟩ := H.tree
  refine ⟨fun i => (List.range 17).countP (fun j => decide (rk j < rk i)), ?_, fun i s hi hn => ?_⟩
  · have h1 := countP_lt (p := fun j => decide (rk j < rk 1)) (q := fun _ => true) (fun _ _ => rfl) 1 rfl (by simp) (List.range 17) (by simp)
    have h2 := List.countP_le_length (p := fun _ => true) (l := List.range 17)
    simp only [List.length_range] at h2
    exact Nat.le_of_lt_succ (Nat.lt_of_lt_of_le h1 h2)
  · rw [R.N i hi] at hn ⊢
    have hm := lk_mem hn
    have h1 := hr i _ hm
    obtain ⟨_, h17, _⟩ := H.nm i _ hm
    dsimp only at h1 h17
    exact countP_lt (fun j hj => by simp at hj ⊢; omega) _ (by simpa using h1) (by simp) _ (by simpa using h17)

/-- Where a name is taken out, or put in; where a count turns. -/
theorem Rel.drop {S : Sg} {F : Fs} (R : Rel S F) (H : FOk F) (dr : Nat) (s : List UInt8) (hs : lk (F.P dr).Q s ≠ 0) : Rel (S.drop dr s) (F.deln dr s) := by
  refine ⟨R.d, R.T, fun i hi => ?_, fun i hi => ?_, fun i hi x => ?_⟩
  · have := R.P i hi
    rw [Fs.deln_P]
    exact ⟨this.k, this.l, this.h, this.s, this.b, this.z, this.B⟩
  · show (if i = dr then S.L dr - 1 else S.L i) = _
    rw [deln_Q]
    split
    · rename_i e; subst e
      have := len_del (H.srt i) hs
      rw [R.L i hi]; omega
    · exact R.L i hi
  · show (if i = dr then (fun x => if x = s then 0 else S.N dr x) else S.N i) x = _
    rw [deln_Q]
    split
    · rename_i e; subst e
      dsimp only
      rw [lk_del, R.N i hi]
    · exact R.N i hi x
theorem Rel.put {S : Sg} {F : Fs} (R : Rel S F) (H : FOk F) (dr : Nat) (s : List UInt8) (n : Nat) (hs : lk (F.P dr).Q s = 0) : Rel (S.put dr s n) (F.addn dr s n) := by
  refine ⟨R.d, R.T, fun i hi => ?_, fun i hi => ?_, fun i hi x => ?_⟩
  · have := R.P i hi
    rw [Fs.addn_P]
    exact ⟨this.k, this.l, this.h, this.s, this.b, this.z, this.B⟩
  · show (if i = dr then S.L dr + 1 else S.L i) = _
    rw [Fs.addn_P]
    dsimp only
    split
    · rename_i e; subst e
      rw [len_ins, R.L i hi]
    · exact R.L i hi
  · show (if i = dr then (fun x => if x = s then n else S.N dr x) else S.N i) x = _
    rw [Fs.addn_P]
    dsimp only
    split
    · rename_i e; subst e
      dsimp only
      rw [lk_ins (H.nk i hs), R.N i hi]
    · exact R.N i hi x
theorem Rel.at_ {S : Sg} {F : Fs} (R : Rel S F) (i : Nat) (x : Nd) (y : Fn) (h : NdR x y) (hQ : y.Q = (F.P i).Q) : Rel (S.at_ i x) (F.at_ i y) := by
  refine ⟨R.d, R.T, fun j hj => ?_, fun j hj => ?_, fun j hj s => ?_⟩
  · show NdR (updN S.P i x j) _
    rw [Fs.at_P]
    by_cases e : j = i
    · subst e; rw [updN_same, if_pos rfl]; exact h
    · rw [updN_ne _ _ _ _ e, if_neg e]; exact R.P j hj
  · rw [Fs.at_f Fn.Q F i y hQ]; exact R.L j hj
  · rw [Fs.at_f Fn.Q F i y hQ]; exact R.N j hj s
theorem Rel.link {S : Sg} {F : Fs} (R : Rel S F) (i : Nat) (hi : i < 17) (l : Int) : Rel (S.at_ i ((S.P i).link l)) (F.lnk i l) := by
  have := R.P i hi
  exact R.at_ i _ _ ⟨this.k, rfl, this.h, this.s, this.b, this.z, this.B⟩ rfl
theorem Rel.hold {S : Sg} {F : Fs} (R : Rel S F) (i : Nat) (hi : i < 17) (l : Int) : Rel (S.at_ i ((S.P i).hold l)) (F.hld i l) := by
  have := R.P i hi
  exact R.at_ i _ _ ⟨this.k, this.l, rfl, this.s, this.b, this.z, this.B⟩ rfl
theorem Rel.gone {S : Sg} {F : Fs} (R : Rel S F) (i : Nat) (hQ : (F.P i).Q = []) (bs : List Nat) : Rel ((S.tk (relT S.d bs S.T)).gone i) ((F.relB bs).at_ i Fn.no) := by
  refine ⟨by show S.d = (F.relB bs).d; rw [relB_d]; exact R.d, ?_, fun j hj => ?_, fun j hj => ?_, fun j hj s => ?_⟩
  · show relT S.d bs S.T = (F.relB bs).T
    unfold relT Fs.relB
    rw [R.d, R.T]
    split <;> rfl
  · show NdR (updN S.P i noNd j) _
    rw [Fs.at_P, relB_P]
    by_cases e : j = i
    · subst e; rw [updN_same, if_pos rfl]; exact NdR.no
    · rw [updN_ne _ _ _ _ e, if_neg e]; exact R.P j hj
  · show (if j = i then 0 else S.L j) = _
    rw [Fs.at_P, relB_P]
    split
    · rfl
    · exact R.L j hj
  · show (if j = i then (fun _ => 0) else S.N j) s = _
    rw [Fs.at_P, relB_P]
    split
    · rfl
    · exact R.N j hj s

/-- The program's system, in blocks G at most. -/
def Pf (w : World) (p : Nat) (F : Fs) (G : Nat → Prop) : Prop := ∃ S, Sy w p S ∧ Rel S F ∧ ∀ x, S.foot p x → G x
theorem Pf.mono {w : World} {p : Nat} {F : Fs} {G G' : Nat → Prop} (h : Pf w p F G) (k : ∀ x, x < w.heap.size → G x → G' x) : Pf w p F G' := by
  obtain ⟨S, h1, h2, h3⟩ := h
  exact ⟨S, h1, h2, fun x hx => k x (h1.foot_lt x hx) (h3 x hx)⟩
theorem Pf.upd {w w' : World} {p : Nat} {F : Fs} {G U : Nat → Prop} (h : Pf w p F G) (u : Upd U w w') (k : ∀ x, x < w.heap.size → G x → ¬ U x) : Pf w' p F G := by
  obtain ⟨S, h1, h2, h3⟩ := h
  exact ⟨S, h1.upd u (fun x hx => k x (h1.foot_lt x hx) (h3 x hx)), h2, h3⟩
theorem Pf.grow {w w' : World} {p : Nat} {F : Fs} {G : Nat → Prop} (h : Pf w p F G) (u : Below w.heap.size w w') : Pf w' p F G := by
  obtain ⟨S, h1, h2, h3⟩ := h
  exact ⟨S, h1.grow u, h2, h3⟩
theorem Pf.hp {w w' : World} {p : Nat} {F : Fs} {G : Nat → Prop} (h : Pf w p F G) (e : w'.heap = w.heap) : Pf w' p F G := by
  obtain ⟨S, h1, h2, h3⟩ := h
  exact ⟨S, h1.hp e, h2, h3⟩
theorem Pf.lt {w : World} {p : Nat} {F : Fs} {G : Nat → Prop} (h : Pf w p F G) : p < w.heap.size := by
  obtain ⟨S, h1, h2, h3⟩ := h
  exact h1.lt
/-- What a call leaves. -/
def PfTo (w : World) (p : Nat) (F : Fs) (G : Nat → Prop) (w' : World) : Prop := Pf w' p F (fun x => G x ∨ w.heap.size ≤ x) ∧ Upd G w w'
theorem PfTo.same {w w' : World} {p : Nat} {F : Fs} {G : Nat → Prop} (h : Pf w p F G) (u : Below w.heap.size w w') : PfTo w p F G w' := ⟨(h.grow u).mono (fun _ _ h => .inl h), Upd.of_below u⟩
theorem PfTo.of {w w' : World} {p : Nat} {S S0 : Sg} {F : Fs} {G : Nat → Prop} (h0 : ∀ x, S0.foot p x → G x) (h : Sy w' p S) (r : Rel S F) (hf : ∀ x, S.foot p x → S0.foot p x ∨ w.heap.size ≤ x) (u : Upd (S0.foot p) w w') : PfTo w p F G w' :=
  ⟨⟨S, h, r, fun x hx => (hf x hx).elim (fun q => .inl (h0 x q)) .inr⟩, u.mono (fun x _ hx => h0 x hx)⟩

end Go.Proofs.YtliekndkjjaldaaGreat
