/- Texts of this seat, merged. -/
import Derived.Test.YtbglhmcahnkbfaaGreatHMg1

/- Each call leaves a file system as calls make it. -/
namespace Go.Proofs.YtbglhmcahnkbfaaGreat
set_option linter.unusedVariables false

theorem Fs.nq_P (F : Fs) (dr : Nat) (Q : List (List UInt8 × Nat)) (i : Nat) : (F.nq dr Q).P i = { F.P i with Q := if i = dr then Q else (F.P i).Q } := by
  unfold Fs.nq
  rw [Fs.at_P]
  by_cases e : i = dr
  · subst e; simp
  · simp [e]
theorem Fs.hld_P (F : Fs) (n : Nat) (h : Int) (i : Nat) : (F.hld n h).P i = { F.P i with h := if i = n then h else (F.P i).h } := by
  unfold Fs.hld
  rw [Fs.at_P]
  by_cases e : i = n
  · subst e; simp
  · simp [e]
theorem Fs.addn_P (F : Fs) (dr : Nat) (s : List UInt8) (n i : Nat) : (F.addn dr s n).P i = { F.P i with Q := if i = dr then ins s n (F.P dr).Q else (F.P i).Q } := Fs.nq_P F dr _ i

theorem rootF_ok (d : Int) : FOk (rootF d) := by
  have e : ∀ i, (rootF d).P i = if i = 1 then Fn.nu 2 else Fn.no := fun _ => rfl
  have eQ : ∀ i, ((rootF d).P i).Q = [] := fun i => by rw [e]; split <;> rfl
  have ec : ∀ i, ((rootF d).P i).c = [] := fun i => by rw [e]; split <;> rfl
  have eB : ∀ i, ((rootF d).P i).B = [] := fun i => by rw [e]; split <;> rfl
  have en : ∀ i m, nmc (rootF d).P i m = 0 := fun i m => by
    induction m with
    | zero => rfl
    | succ m ih => unfold nmc; rw [ih, eQ]; rfl
  refine ⟨fun i => ?_, fun i hi => by rw [e, if_neg (by omega)], by rw [e, if_neg (by omega)], by rw [e, if_pos rfl]; rfl, fun i hi => ?_, fun i hi => eQ i, fun i hi => ⟨ec i, eB i, ?_⟩, fun i => by rw [eQ]; exact List.Pairwise.nil, fun i => by rw [eQ]; simp, fun i x hx => by rw [eQ] at hx; simp at hx, ⟨fun _ => 0, fun i x hx => by rw [eQ] at hx; simp at hx⟩,
    fun i hi => ?_, fun i hi => ?_, fun i => ?_, fun i => by rw [ec]; simp, fun i => by rw [eB, ec]; rfl, fun i b hb => by rw [eB] at hb; simp at hb, fun i => by rw [eB]; simp, fun i j b hb => by rw [eB] at hb; simp at hb, rfl, fun _ _ => rfl⟩
  · rw [e]; split <;> simp [Fn.nu, Fn.no]
  · rw [e] at hi ⊢; split at hi
    · simp [Fn.nu] at hi
    · rename_i q; rw [if_neg q]
  · rw [e] at hi ⊢; split at hi
    · rename_i q; rw [if_pos q]; rfl
    · simp [Fn.no] at hi
  · rw [en, e, if_neg hi]; simp [Fn.no]
  · rw [e] at hi ⊢; split at hi
    · rename_i q; rw [if_pos q]; simp [Fn.nu]
    · simp [Fn.no] at hi
  · rw [e]; split <;> simp [Fn.nu, Fn.no]

theorem Fs.free_lt {F : Fs} (h : F.free ≠ 0) : 1 ≤ F.free ∧ F.free < 17 ∧ (F.P F.free).k = 0 := by
  unfold Fs.free at h ⊢
  cases q : (List.range' 1 16).find? (fun i => decide ((F.P i).k = 0)) with
  | none => rw [q] at h; exact absurd rfl h
  | some i =>
    have h1 := List.find?_some q
    have h2 := List.mem_of_find?_eq_some q
    simp at h1
    rw [List.mem_range'_1] at h2
    exact ⟨by show 1 ≤ i; omega, by show i < 17; omega, h1⟩

theorem FOk.make {F : Fs} (H : FOk F) (l : List UInt8) (kind : Int) : FOk (F.make l kind).1 := by
  unfold Fs.make
  split
  · exact H
  rename_i hkind
  split
  · exact H
  rename_i y s n hw
  have W := H.walk_ok hw
  split
  · exact H
  rename_i hn
  split
  · exact H
  rename_i h6
  split
  · exact H
  rename_i hf
  obtain ⟨f1, f2, f3⟩ := Fs.free_lt hf
  have hdf : Fs.dirOf y ≠ F.free := fun e => by have := W.k; rw [e] at this; omega
  have h0 := H.none _ f3
  have hG := H.new F.free kind f1 f2 f3 (by omega)
  have ed : (F.at_ F.free (Fn.nu kind)).P (Fs.dirOf y) = F.P (Fs.dirOf y) := Fs.at_ne _ _ _ _ hdf
  have ef : (F.at_ F.free (Fn.nu kind)).P F.free = Fn.nu kind := Fs.at_self _ _ _
  have en : nmc (F.at_ F.free (Fn.nu kind)).P F.free 17 = nmc F.P F.free 17 := nmc_same _ 17 (fun j _ => Fs.at_f Fn.Q F F.free _ (by rw [h0]; rfl) j)
  have hf1 : F.free ≠ 1 := fun e => by have := H.root; rw [e] at f3; omega
  have hz := H.li F.free hf1
  rw [h0] at hz
  simp only [Fn.no] at hz
  refine hG.addn _ s F.free (by rw [ed]; exact W.k) (by rw [ed, ← W.nn]; omega) W.ne W.len (by rw [ed]; omega) hf1 (by rw [ef]; simp only [Fn.nu]; omega) (fun r => ?_) ?_
  · have := r.leaf (by rw [ef]; rfl)
    exact hdf this
  · rw [en, ef]; simp only [Fn.nu]; omega

theorem FOk.find_ok {F : Fs} (H : FOk F) {l : List UInt8} (h : (F.find l).2 = 0) : (F.P (F.find l).1).k ≠ 0 ∧ ((F.P (F.find l).1).k ≠ 2 → (F.find l).1 ≠ 1) := by
  unfold Fs.find at h ⊢
  split at h
  · rename_i e
    rw [if_pos e]
    refine ⟨by have := H.root; dsimp only; omega, fun q => absurd H.root q⟩
  · rename_i e
    rw [if_neg e]
    split at h
    · rename_i e' hw
      have := Fs.walk_err hw
      simp at h; omega
    · rename_i y s n hw
      have W := H.walk_ok hw
      split at h
      · simp at h
      · rename_i hn
        rw [if_neg hn]
        obtain ⟨a, b, c⟩ := W.to hn
        exact ⟨c, fun _ => by show n ≠ 1; omega⟩

theorem FOk.hold {F : Fs} (H : FOk F) (n : Int) : FOk (F.hold n).1 := by
  unfold Fs.hold
  split
  · exact H
  rename_i ht
  split
  · exact H
  rename_i hh
  simp only [Bool.not_eq_false, Fs.there, decide_eq_true_eq] at ht
  generalize n.toNat = q at *
  have h0 := H.h q
  have hl := H.l0 q
  refine H.lh_ q _ rfl rfl rfl rfl ht.2.2 (fun hq => H.li q hq) (fun e => (H.dir q e).2.2) ⟨?_, ?_⟩ (.inr ?_)
  · show 0 ≤ (F.P q).h + 1; omega
  · show (F.P q).h + 1 ≤ 1000; omega
  · show 0 < (F.P q).h + 1; omega
theorem FOk.drop {F : Fs} (H : FOk F) (n : Int) : FOk (F.drop n).1 := by
  unfold Fs.drop
  split
  · exact H
  rename_i ht
  split
  · exact H
  rename_i hh
  simp only [Bool.not_eq_false, Fs.there, decide_eq_true_eq] at ht
  generalize n.toNat = q at *
  have h0 := H.h q
  have hl := H.l0 q
  dsimp only
  rw [gone_hld]
  split
  · rename_i h
    refine H.lh_ q _ rfl rfl rfl rfl ht.2.2 (fun hq => H.li q hq) (fun e => (H.dir q e).2.2) ⟨?_, ?_⟩ h
    · show 0 ≤ (F.P q).h - 1; omega
    · show (F.P q).h - 1 ≤ 1000; omega
  · rename_i h
    have hq1 : q ≠ 1 := fun e => by have := (H.dir q (by rw [e]; exact H.root)).2.2; omega
    have hk : (F.P q).k ≠ 2 := fun e => by have := (H.dir q e).2.2; omega
    have := H.li q hq1
    exact H.remove q hq1 (by omega) (H.file q hk)

end Go.Proofs.YtbglhmcahnkbfaaGreat

/- Write and Resize leave a file system as calls make it. -/
namespace Go.Proofs.YtbglhmcahnkbfaaGreat
set_option linter.unusedVariables false

/-- A file of other bytes and blocks, other marks. -/
def Fs.with_ (F : Fs) (n : Nat) (c : List Int) (B : List Nat) (T : Nat → Bool) : Fs := { F.at_ n { F.P n with c := c, B := B } with T := T }
theorem Fs.with_P (F : Fs) (n : Nat) (c : List Int) (B : List Nat) (T : Nat → Bool) (i : Nat) : (F.with_ n c B T).P i = if i = n then { F.P n with c := c, B := B } else F.P i := rfl

theorem FOk.cont {F : Fs} (H : FOk F) (n : Nat) (c : List Int) (B : List Nat) (T : Nat → Bool) (hk : (F.P n).k = 1) (hc : c.length ≤ 96 ∧ ∀ z ∈ c, 0 ≤ z ∧ z < 256) (hB : B.length = Fs.need c.length)
    (hT : ∀ b ∈ B, 1 ≤ b ∧ b < 25 ∧ T b = true) (hd : B.Nodup) (ho : ∀ j, j ≠ n → ∀ b ∈ (F.P j).B, T b = true ∧ b ∉ B) (h0 : T 0 = false) (h25 : ∀ b, 25 ≤ b → T b = false) : FOk (F.with_ n c B T) := by
  have ek : ∀ i, ((F.with_ n c B T).P i).k = (F.P i).k := fun i => by rw [Fs.with_P]; split <;> simp [*]
  have el : ∀ i, ((F.with_ n c B T).P i).l = (F.P i).l := fun i => by rw [Fs.with_P]; split <;> simp [*]
  have eh : ∀ i, ((F.with_ n c B T).P i).h = (F.P i).h := fun i => by rw [Fs.with_P]; split <;> simp [*]
  have eQ : ∀ i, ((F.with_ n c B T).P i).Q = (F.P i).Q := fun i => by rw [Fs.with_P]; split <;> simp [*]
  have ec : ∀ i, ((F.with_ n c B T).P i).c = if i = n then c else (F.P i).c := fun i => by rw [Fs.with_P]; split <;> rfl
  have eB : ∀ i, ((F.with_ n c B T).P i).B = if i = n then B else (F.P i).B := fun i => by rw [Fs.with_P]; split <;> rfl
  have en : ∀ i, nmc (F.with_ n c B T).P i 17 = nmc F.P i 17 := fun i => nmc_same i 17 (fun j _ => eQ j)
  have hn := H.lt (i := n) (by omega)
  have ene : ∀ i, i ≠ n → (F.with_ n c B T).P i = F.P i := fun i hi => by rw [Fs.with_P, if_neg hi]
  refine ⟨fun i => by rw [ek]; exact H.k i, fun i hi => by rw [ene i (by omega)]; exact H.out i hi, by rw [ene 0 (by omega)]; exact H.zero, by rw [ek]; exact H.root, fun i hi => ?_, fun i hi => by rw [eQ]; rw [ek] at hi; exact H.file i hi, fun i hi => ?_, fun i => by rw [eQ]; exact H.srt i, fun i => by rw [eQ]; exact H.len i,
    fun i x hx => by rw [eQ] at hx; rw [ek]; exact H.nm i x hx, ?_, fun i hi => by rw [en, el]; exact H.li i hi, fun i hi => by rw [el, eh]; rw [ek] at hi; exact H.lh i hi, fun i => by rw [eh]; exact H.h i, fun i => ?_, fun i => ?_, fun i b hb => ?_, fun i => ?_, fun i j b h1 h2 => ?_, h0, h25⟩
  · rw [ek] at hi
    rw [ene i (fun e => by rw [e] at hi; omega)]; exact H.none i hi
  · rw [ek] at hi
    rw [ene i (fun e => by rw [e] at hi; omega)]; exact H.dir i hi
  · obtain ⟨rk, hr⟩ := H.tree
    exact ⟨rk, fun i x hx => by rw [eQ] at hx; exact hr i x hx⟩
  · rw [ec]; split
    · exact hc
    · exact H.c i
  · rw [eB, ec]; split
    · exact hB
    · exact H.B i
  · rw [eB] at hb; split at hb
    · exact hT b hb
    · rename_i e
      obtain ⟨q1, q2, q3⟩ := H.T i b hb
      exact ⟨q1, q2, (ho i e b hb).1⟩
  · rw [eB]; split
    · exact hd
    · exact H.nd i
  · rw [eB] at h1 h2
    split at h1 <;> split at h2
    · omega
    · rename_i e1 e2; exact absurd h1 (ho j e2 b h2).2
    · rename_i e1 e2; exact absurd h2 (ho i e1 b h1).2
    · exact H.ap i j b h1 h2

theorem Fs.mem_frees {F : Fs} {b : Nat} : b ∈ F.frees ↔ 1 ≤ b ∧ b < 25 ∧ F.T b = false := by
  unfold Fs.frees
  rw [List.mem_filter, List.mem_range'_1]
  cases F.T b <;> simp <;> omega
theorem Fs.frees_nd (F : Fs) : F.frees.Nodup := (List.nodup_range').sublist List.filter_sublist

theorem grow_ct (F : Fs) (n s : Nat) (c : List Int) : (F.grow n s).ct n c = F.with_ n c ((F.P n).B ++ F.frees.take (Fs.need s - (F.P n).B.length)) (fun b => if b ∈ F.frees.take (Fs.need s - (F.P n).B.length) then true else F.T b) := by
  unfold Fs.grow Fs.ct Fs.with_ Fs.at_
  simp only
  congr 1
  funext j
  by_cases e : j = n <;> simp [e]

/-- A file that grew. -/
theorem FOk.grown {F : Fs} (H : FOk F) (n s : Nat) (c : List Int) (hk : (F.P n).k = 1) (hs : s ≤ 96) (hc : c.length = s) (hz : ∀ z ∈ c, 0 ≤ z ∧ z < 256) (hl : (F.P n).c.length ≤ s) (hf : F.fits n s = true) : FOk ((F.grow n s).ct n c) := by
  rw [grow_ct]
  have hB := H.B n
  have hm : Fs.need (F.P n).c.length ≤ Fs.need s := by unfold Fs.need; omega
  simp only [Fs.fits, decide_eq_true_eq] at hf
  obtain ⟨X, gX⟩ : ∃ X, X = F.frees.take (Fs.need s - (F.P n).B.length) := ⟨_, rfl⟩
  rw [← gX]
  have hX : ∀ b ∈ X, 1 ≤ b ∧ b < 25 ∧ F.T b = false := fun b hb => Fs.mem_frees.1 (List.mem_of_mem_take (by rw [← gX]; exact hb))
  have hXl : X.length = Fs.need s - (F.P n).B.length := by rw [gX, List.length_take]; omega
  have hXn : X.Nodup := by rw [gX]; exact F.frees_nd.sublist (List.take_sublist _ _)
  have key : ∀ i b, b ∈ (F.P i).B → b ∉ X := fun i b hb q => by
    have h1 := (H.T i b hb).2.2
    rw [(hX b q).2.2] at h1; simp at h1
  refine H.cont n c _ _ hk ⟨by omega, hz⟩ (by rw [List.length_append, hXl, hc]; omega) (fun b hb => ?_) ?_ (fun j hj b hb => ⟨?_, fun q => ?_⟩) ?_ (fun b hb => ?_)
  · rcases List.mem_append.1 hb with q | q
    · obtain ⟨a1, a2, a3⟩ := H.T n b q
      refine ⟨a1, a2, ?_⟩
      split
      · rfl
      · exact a3
    · obtain ⟨a1, a2, a3⟩ := hX b q
      exact ⟨a1, a2, by simp [q]⟩
  · exact List.nodup_append.2 ⟨H.nd n, hXn, fun a ha b hb e => key n a ha (e ▸ hb)⟩
  · split
    · rfl
    · exact (H.T j b hb).2.2
  · rcases List.mem_append.1 q with q | q
    · exact hj (H.ap j n b hb q)
    · exact key j b hb q
  · split
    · rename_i q; have := (hX 0 q).1; omega
    · exact H.T0
  · split
    · rename_i q; have := (hX b q).2.1; omega
    · exact H.T25 b hb

theorem Fs.file_ok {F : Fs} (H : FOk F) {n : Int} (h : F.file n = 0) : (F.P n.toNat).k = 1 ∧ 1 ≤ n ∧ n ≤ 16 := by
  unfold Fs.file at h
  split at h
  · simp at h
  rename_i ht
  split at h
  · simp at h
  rename_i hk
  simp only [Bool.not_eq_false, Fs.there, decide_eq_true_eq] at ht
  refine ⟨?_, ht.1, ht.2.1⟩
  rcases H.k n.toNat with q | q | q
  · exact absurd q ht.2.2
  · exact q
  · exact absurd q hk

theorem FOk.resize {F : Fs} (H : FOk F) (n z : Int) : FOk (F.resize n z).1 := by
  unfold Fs.resize
  split
  · exact H
  rename_i hf
  have hf := Decidable.not_not.1 hf
  obtain ⟨hk, _, _⟩ := Fs.file_ok H hf
  split
  · exact H
  rename_i ho
  split
  · exact H
  rename_i h96
  have hc := H.c n.toNat
  split
  · rename_i hlt
    generalize n.toNat = q at *
    have hB := H.B q
    have hm : Fs.need z.toNat ≤ (F.P q).B.length := by rw [hB]; unfold Fs.need; omega
    have hP : (F.relB ((F.P q).B.drop (Fs.need z.toNat))).P = F.P := relB_P _ _
    have e : (F.relB ((F.P q).B.drop (Fs.need z.toNat))).at_ q { F.P q with c := (F.P q).c.take z.toNat, B := (F.P q).B.take (Fs.need z.toNat) } = F.with_ q ((F.P q).c.take z.toNat) ((F.P q).B.take (Fs.need z.toNat)) (F.relB ((F.P q).B.drop (Fs.need z.toNat))).T := by
      unfold Fs.with_ Fs.at_
      rw [hP, relB_d]
    show FOk ((F.relB ((F.P q).B.drop (Fs.need z.toNat))).at_ q _)
    rw [e]
    have hnd := H.nd q
    have hsp : (F.P q).B = (F.P q).B.take (Fs.need z.toNat) ++ (F.P q).B.drop (Fs.need z.toNat) := (List.take_append_drop _ _).symm
    have hdis : ∀ b, b ∈ (F.P q).B.take (Fs.need z.toNat) → b ∉ (F.P q).B.drop (Fs.need z.toNat) := fun b h1 h2 => by
      rw [hsp] at hnd
      exact (List.nodup_append.1 hnd).2.2 b h1 b h2 rfl
    refine H.cont q _ _ _ hk ⟨by rw [List.length_take]; omega, fun x hx => hc.2 x (List.mem_of_mem_take hx)⟩ (by rw [List.length_take, List.length_take]; rw [show min z.toNat (F.P q).c.length = z.toNat by omega]; omega) (fun b hb => ?_) (hnd.sublist (List.take_sublist _ _)) (fun j hj b hb => ⟨?_, fun h => ?_⟩) (relB_F F _ 0 H.T0) (fun b hb => relB_F F _ b (H.T25 b hb))
    · obtain ⟨a1, a2, a3⟩ := H.T q b (List.mem_of_mem_take hb)
      exact ⟨a1, a2, relB_T F _ b a3 (hdis b hb)⟩
    · exact relB_T F _ b (H.T j b hb).2.2 (fun h => hj (H.ap j q b hb (List.mem_of_mem_drop h)))
    · exact hj (H.ap j q b hb (List.mem_of_mem_take h))
  · split
    · exact H
    rename_i hlt hfit
    have hfit : F.fits n.toNat z.toNat = true := by simpa using hfit
    refine H.grown n.toNat _ _ hk (by omega) (by simp; omega) (fun x hx => ?_) (by omega) hfit
    rcases List.mem_append.1 hx with q | q
    · exact hc.2 x q
    · have := List.eq_of_mem_replicate q; omega

end Go.Proofs.YtbglhmcahnkbfaaGreat

/- Without defects links are how many names there are, and a marked block is a file's; links grow by one a call at most. -/
namespace Go.Proofs.YtbglhmcahnkbfaaGreat
set_option linter.unusedVariables false

end Go.Proofs.YtbglhmcahnkbfaaGreat

/- Calls that hold nothing leave who holds what, and the defects. -/
namespace Go.Proofs.YtbglhmcahnkbfaaGreat
set_option linter.unusedVariables false

/-- The same defects, the same holders. -/
def SH (F F' : Fs) : Prop := F'.d = F.d ∧ ∀ i, (F'.P i).h = (F.P i).h
theorem SH.refl (F : Fs) : SH F F := ⟨rfl, fun _ => rfl⟩
theorem SH.trans {F F' F'' : Fs} (h : SH F F') (k : SH F' F'') : SH F F'' := ⟨k.1.trans h.1, fun i => (k.2 i).trans (h.2 i)⟩
theorem SH.at_ (F : Fs) (n : Nat) (x : Fn) (h : x.h = (F.P n).h) : SH F (F.at_ n x) := ⟨rfl, fun i => by
  rw [Fs.at_P]; split
  · rename_i e; subst e; exact h
  · rfl⟩
theorem SH.relB (F : Fs) (B : List Nat) : SH F (F.relB B) := ⟨relB_d F B, fun i => by rw [relB_P]⟩
theorem SH.addn (F : Fs) (dr : Nat) (s : List UInt8) (n : Nat) : SH F (F.addn dr s n) := SH.at_ F dr _ rfl
theorem SH.make {F : Fs} (H : FOk F) (l : List UInt8) (kind : Int) : SH F (F.make l kind).1 := by
  unfold Fs.make
  split
  · exact SH.refl F
  split
  · exact SH.refl F
  split
  · exact SH.refl F
  split
  · exact SH.refl F
  split
  · exact SH.refl F
  rename_i hf
  obtain ⟨_, _, f3⟩ := Fs.free_lt hf
  refine (SH.at_ F F.free (Fn.nu kind) ?_).trans (SH.addn _ _ _ _)
  rw [H.none _ f3]
  rfl
theorem SH.grown (F : Fs) (n s : Nat) (c : List Int) : SH F ((F.grow n s).ct n c) := ⟨rfl, fun i => by
  rw [grow_ct, Fs.with_P]
  split
  · rename_i e; subst e; rfl
  · rfl⟩
theorem SH.resize (F : Fs) (n z : Int) : SH F (F.resize n z).1 := by
  unfold Fs.resize
  split
  · exact SH.refl F
  split
  · exact SH.refl F
  split
  · exact SH.refl F
  split
  · exact (SH.relB F _).trans (SH.at_ _ _ _ (by rw [relB_P]))
  · split
    · exact SH.refl F
    exact SH.grown _ _ _ _

theorem hold_P {F : Fs} {n : Int} (h : (F.hold n).2 = 0) : F.there n = true ∧ (F.hold n).1 = F.hld n.toNat ((F.P n.toNat).h + 1) := by
  unfold Fs.hold at h ⊢
  split at h
  · exact absurd (show (2 : Int) = 0 from h) (by decide)
  · rename_i e
    rw [if_neg e]
    split at h
    · exact absurd (show (11 : Int) = 0 from h) (by decide)
    · rename_i e2
      rw [if_neg e2]
      exact ⟨by simpa using e, rfl⟩
theorem hold_no {F : Fs} {n : Int} (h : (F.hold n).2 ≠ 0) : (F.hold n).1 = F := by
  unfold Fs.hold at h ⊢
  split
  · rfl
  · split
    · rfl
    · rename_i e1 e2
      rw [if_neg e1, if_neg e2] at h
      exact absurd rfl h
theorem hold_d (F : Fs) (n : Int) : (F.hold n).1.d = F.d := by
  unfold Fs.hold
  split
  · rfl
  · split <;> rfl
theorem drop_d (F : Fs) (n : Int) : (F.drop n).1.d = F.d := by
  unfold Fs.drop
  split
  · rfl
  split
  · rfl
  dsimp only
  rw [gone_hld]
  split
  · rfl
  · show (F.relB _).d = F.d
    exact relB_d _ _
theorem drop_h {F : Fs} (H : FOk F) {n : Nat} (h : 0 < (F.P n).h) : (F.drop n).2 = 0 ∧ ∀ i, ((F.drop n).1.P i).h = if i = n then (F.P n).h - 1 else (F.P i).h := by
  have hk : (F.P n).k ≠ 0 := fun e => by rw [H.none n e] at h; exact absurd h (by decide)
  have hl := H.lt hk
  have ht : F.there n = true := by
    unfold Fs.there
    simp only [Int.toNat_natCast, decide_eq_true_eq]
    exact ⟨by omega, by omega, hk⟩
  unfold Fs.drop
  rw [if_neg (by rw [ht]; simp), if_neg (by rw [Int.toNat_natCast]; omega)]
  refine ⟨rfl, fun i => ?_⟩
  dsimp only
  rw [Int.toNat_natCast, gone_hld]
  split
  · rw [Fs.hld_P]
  · rename_i e
    rw [Fs.at_P, relB_P]
    split
    · rename_i q; subst q
      show (0 : Int) = _
      omega
    · rfl

end Go.Proofs.YtbglhmcahnkbfaaGreat
