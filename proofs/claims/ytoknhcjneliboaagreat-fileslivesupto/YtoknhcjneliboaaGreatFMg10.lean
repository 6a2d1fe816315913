/- Texts of this seat, merged. -/
import Derived.Test.YtoknhcjneliboaaGreatFMg9

/- What is true of open files stays true, call by call. -/
namespace Go.Proofs.YtoknhcjneliboaaGreat
set_option linter.unusedVariables false

theorem cnt_upd (p q : Nat → Bool) (i : Nat) (hne : ∀ j, j ≠ i → q j = p j) : ∀ m, i < m → (List.range m).countP q + (if p i = true then 1 else 0) = (List.range m).countP p + (if q i = true then 1 else 0)
  | 0, h => absurd h (Nat.not_lt_zero _)
  | m + 1, h => by
    rw [List.range_succ, List.countP_append, List.countP_append, List.countP_singleton, List.countP_singleton]
    rcases (show i < m ∨ i = m by omega) with e | e
    · have := cnt_upd p q i hne m e
      rw [hne m (by omega)]
      omega
    · subst e
      have : (List.range i).countP q = (List.range i).countP p := List.countP_congr (fun j hj => by rw [hne j (by have := List.mem_range.1 hj; omega)])
      omega

def cb (x : Fl) (k : Int) (n : Nat) : Bool := decide (x.h ≠ 0 ∧ x.k = k ∧ x.of = (n : Int))
theorem cF_upd (O : Nat → Fl) (i : Nat) (x : Fl) (hi : i < 11) (k : Int) (n : Nat) : cF (updF O i x) k n + (if cb (O i) k n = true then 1 else 0) = cF O k n + (if cb x k n = true then 1 else 0) := by
  have h := cnt_upd (fun j => cb (O j) k n) (fun j => cb (updF O i x j) k n) i (fun j hj => by rw [updF_ne _ _ _ _ hj]) 11 hi
  rw [updF_same] at h
  exact h
theorem cF_same {O : Nat → Fl} {i : Nat} {x : Fl} (hi : i < 11) (h : x.h ≠ 0) (h' : (O i).h ≠ 0) (hk : x.k = (O i).k) (ho : x.of = (O i).of) (k : Int) (n : Nat) : cF (updF O i x) k n = cF O k n := by
  have e : cb x k n = cb (O i) k n := by unfold cb; simp [h, h', hk, ho]
  have := cF_upd O i x hi k n
  rw [e] at this
  omega
theorem cF_new {O : Nat → Fl} {i : Nat} {x : Fl} (hi : i < 11) (h : x.h ≠ 0) (h' : (O i).h = 0) (k : Int) (n : Nat) : cF (updF O i x) k n = cF O k n + if x.k = k ∧ x.of = (n : Int) then 1 else 0 := by
  have := cF_upd O i x hi k n
  have e : cb (O i) k n = false := by unfold cb; simp [h']
  have e2 : cb x k n = decide (x.k = k ∧ x.of = (n : Int)) := by unfold cb; simp [h]
  rw [e, e2] at this
  simpa using this
theorem cF_gone {O : Nat → Fl} {i : Nat} (hi : i < 11) (h : (O i).h ≠ 0) (k : Int) (n : Nat) : cF (updF O i noFl) k n + (if (O i).k = k ∧ (O i).of = (n : Int) then 1 else 0) = cF O k n := by
  have := cF_upd O i noFl hi k n
  have e : cb noFl k n = false := by unfold cb; simp [noFl]
  have e2 : cb (O i) k n = decide ((O i).k = k ∧ (O i).of = (n : Int)) := by unfold cb; simp [h]
  rw [e, e2] at this
  simpa using this
theorem cF_mem {O : Nat → Fl} {i : Nat} (hi : i < 11) (h : (O i).h ≠ 0) (n : Nat) (hn : (O i).of = (n : Int)) : 1 ≤ cF O (O i).k n :=
  List.countP_pos_iff.2 ⟨i, List.mem_range.2 hi, by simp [h, hn]⟩

/-- Pipes whose ends are as they were. -/
structure PS (P P' : Nat → Pi.Pp) : Prop where
  r : ∀ n, (P' n).r = (P n).r
  w : ∀ n, (P' n).w = (P n).w
  q : (∀ n, (P n).q.length ≤ 8) → ∀ n, (P' n).q.length ≤ 8
  c : (∀ n, Pi.clr (P n) = P n) → ∀ n, Pi.clr (P' n) = P' n
  o : (∀ n, n = 0 ∨ 5 ≤ n → P n = ⟨0, 0, []⟩) → ∀ n, n = 0 ∨ 5 ≤ n → P' n = ⟨0, 0, []⟩
theorem PS.refl (P : Nat → Pi.Pp) : PS P P := ⟨fun _ => rfl, fun _ => rfl, fun h => h, fun h => h, fun h => h⟩
theorem PS.put (P : Nat → Pi.Pp) (i : Nat) (q : List Int) (h1 : 1 ≤ i) (h4 : i ≤ 4) (ht : (P i).there = true) (hq : (∀ n, (P n).q.length ≤ 8) → q.length ≤ 8) : PS P (Pi.updP P i { P i with q := q }) := by
  have e : ∀ j, Pi.updP P i { P i with q := q } j = if j = i then { P i with q := q } else P j := fun j => rfl
  refine ⟨fun n => ?_, fun n => ?_, fun h n => ?_, fun h n => ?_, fun h n hn => ?_⟩
  · rw [e]; split
    · rename_i q; subst q; rfl
    · rfl
  · rw [e]; split
    · rename_i q; subst q; rfl
    · rfl
  · rw [e]; split
    · exact hq h
    · exact h n
  · rw [e]; split
    · exact Pi.clr_yes (show ({ P i with q := q } : Pi.Pp).there = true from ht)
    · exact h n
  · rw [e, if_neg (by omega)]; exact h n hn
theorem PS.read (P : Nat → Pi.Pp) (n c : Int) : PS P (Pi.readP P n c) := by
  unfold Pi.readP
  split
  · rename_i h
    obtain ⟨i, rfl, h1, h4, ht⟩ := Pi.has_some h
    split
    · rw [Int.toNat_natCast]
      exact PS.put P i _ h1 h4 ht (fun h => by have := h i; rw [List.length_drop]; omega)
    · exact PS.refl P
  · exact PS.refl P
theorem PS.write (P : Nat → Pi.Pp) (n : Int) (zs : List Int) : PS P (Pi.writeP P n zs) := by
  unfold Pi.writeP
  split
  · rename_i h
    obtain ⟨i, rfl, h1, h4, ht⟩ := Pi.has_some h
    split
    · exact PS.refl P
    · rw [Int.toNat_natCast]
      exact PS.put P i _ h1 h4 ht (fun h => by have := h i; rw [List.length_append, List.length_take]; omega)
  · exact PS.refl P

theorem Ft.there_lt {T : Ft} {n : Int} (h : T.there n = true) : ∃ i : Nat, n = (i : Int) ∧ 1 ≤ i ∧ i < 11 ∧ (T.O i).h ≠ 0 := by
  unfold Ft.there at h
  simp only [decide_eq_true_eq] at h
  exact ⟨n.toNat, by omega, by omega, by omega, h.2.2⟩
theorem Ft.has_lt {T : Ft} {n b : Int} (h : T.has n b = true) : ∃ i : Nat, n = (i : Int) ∧ 1 ≤ i ∧ i < 11 ∧ (T.O i).h ≠ 0 ∧ dfc (T.O i).fl b = true := by
  unfold Ft.has at h
  rw [Bool.and_eq_true] at h
  obtain ⟨i, rfl, h1, h2, h3⟩ := Ft.there_lt h.1
  exact ⟨i, rfl, h1, h2, h3, by simpa using h.2⟩

/-- An open file's offset, or holders, turn; what is below keeps who holds what. -/
theorem TOk.turn {T : Ft} (H : TOk T) {F' : Fs} {P' : Nat → Pi.Pp} (hF : FOk F') (sF : SH T.F F') (sP : PS T.P P') (i : Nat) (h1 : 1 ≤ i) (hi : i < 11) (hh : (T.O i).h ≠ 0) (x : Fl) (hk : x.k = (T.O i).k) (ho : x.of = (T.O i).of) (hx : 1 ≤ x.h ∧ x.h ≤ 1000) (hf : 0 ≤ x.off ∧ x.off ≤ 1048576) :
    TOk ⟨F', P', updF T.O i x⟩ := by
  have ec : ∀ k n, cF (updF T.O i x) k n = cF T.O k n := cF_same hi (by omega) hh hk ho
  have eu : ∀ j, updF T.O i x j = if j = i then x else T.O j := fun j => rfl
  refine ⟨hF, fun j hj => ?_, fun j hj => ?_, fun j => ?_, fun j hj => ?_, fun j => ?_, fun j => ?_, fun n => ?_, fun n => ?_, fun n => ?_, fun hkp n => ?_, fun n => ⟨?_, ?_, ?_⟩, sP.o H.po⟩
  · show updF T.O i x j = noFl
    rw [eu, if_neg (by omega)]; exact H.out j hj
  · revert hj
    show (updF T.O i x j).h = 0 → updF T.O i x j = noFl
    rw [eu]; split
    · intro e; omega
    · exact H.nn j
  · show 0 ≤ (updF T.O i x j).h ∧ (updF T.O i x j).h ≤ 1000
    rw [eu]; split
    · omega
    · exact H.h j
  · revert hj
    show (updF T.O i x j).h ≠ 0 → (updF T.O i x j).k = 1 ∨ (updF T.O i x j).k = 2 ∨ (updF T.O i x j).k = 3
    rw [eu]; split
    · intro _; rw [hk]; exact H.k i hh
    · exact H.k j
  · show 0 ≤ (updF T.O i x j).off ∧ (updF T.O i x j).off ≤ 1048576
    rw [eu]; split
    · exact hf
    · exact H.off j
  · show ∃ m : Nat, (updF T.O i x j).of = (m : Int)
    rw [eu]; split
    · rw [ho]; exact H.of i
    · exact H.of j
  · show (F'.P n).h = (cF (updF T.O i x) 1 n : Int)
    rw [ec, sF.2]; exact H.hc n
  · show (P' n).r = cF (updF T.O i x) 2 n
    rw [ec, sP.r]; exact H.r n
  · show cF (updF T.O i x) 3 n ≤ (P' n).w
    rw [ec, sP.w]; exact H.w n
  · show (P' n).w = cF (updF T.O i x) 3 n
    rw [ec, sP.w]
    refine H.ws ?_ n
    have : Ft.kp ⟨F', P', updF T.O i x⟩ = T.kp := by unfold Ft.kp; rw [sF.1]
    rw [this] at hkp; exact hkp
  · exact sP.q (fun n => (H.pq n).1) n
  · show (P' n).w ≤ 1
    rw [sP.w]; exact (H.pq n).2.1
  · exact sP.c (fun n => (H.pq n).2.2) n

/-- What is below turns, but for who holds what. -/
theorem TOk.below {T : Ft} (H : TOk T) {F' : Fs} {P' : Nat → Pi.Pp} (hF : FOk F') (sF : SH T.F F') (sP : PS T.P P') : TOk ⟨F', P', T.O⟩ :=
  ⟨hF, H.out, H.nn, H.h, H.k, H.off, H.of, fun n => by show (F'.P n).h = _; rw [sF.2]; exact H.hc n, fun n => by show (P' n).r = _; rw [sP.r]; exact H.r n, fun n => by show _ ≤ (P' n).w; rw [sP.w]; exact H.w n, fun hkp n => by
    show (P' n).w = _
    rw [sP.w]
    refine H.ws ?_ n
    have : Ft.kp ⟨F', P', T.O⟩ = T.kp := by unfold Ft.kp; rw [sF.1]
    rw [this] at hkp; exact hkp, fun n => ⟨sP.q (fun n => (H.pq n).1) n, by show (P' n).w ≤ 1; rw [sP.w]; exact (H.pq n).2.1, sP.c (fun n => (H.pq n).2.2) n⟩, sP.o H.po⟩

/-- An open file more, of a node. -/
theorem TOk.more {T : Ft} (H : TOk T) {F' : Fs} (hF : FOk F') (hd : F'.d = T.F.d) (m : Nat) (hh : ∀ n, (F'.P n).h = (T.F.P n).h + if n = m then 1 else 0) (i : Nat) (h1 : 1 ≤ i) (hi : i < 11) (h0 : (T.O i).h = 0) (g : Int) :
    TOk ⟨F', T.P, updF T.O i ⟨1, (m : Int), 0, g, 1⟩⟩ := by
  have ec : ∀ k n, cF (updF T.O i ⟨1, (m : Int), 0, g, 1⟩) k n = cF T.O k n + if (1 : Int) = k ∧ (m : Int) = (n : Int) then 1 else 0 := fun k n => cF_new (x := ⟨1, (m : Int), 0, g, 1⟩) hi (by show (1 : Int) ≠ 0; omega) h0 k n
  have eu : ∀ j, updF T.O i ⟨1, (m : Int), 0, g, 1⟩ j = if j = i then ⟨1, (m : Int), 0, g, 1⟩ else T.O j := fun j => rfl
  refine ⟨hF, fun j hj => ?_, fun j hj => ?_, fun j => ?_, fun j hj => ?_, fun j => ?_, fun j => ?_, fun n => ?_, fun n => ?_, fun n => ?_, fun hkp n => ?_, H.pq, H.po⟩
  · show updF T.O i _ j = noFl
    rw [eu, if_neg (by omega)]; exact H.out j hj
  · revert hj
    show (updF T.O i _ j).h = 0 → updF T.O i _ j = noFl
    rw [eu]; split
    · intro e; exact absurd e (by show (1 : Int) ≠ 0; omega)
    · exact H.nn j
  · show 0 ≤ (updF T.O i _ j).h ∧ (updF T.O i _ j).h ≤ 1000
    rw [eu]; split
    · show (0 : Int) ≤ 1 ∧ (1 : Int) ≤ 1000; omega
    · exact H.h j
  · revert hj
    show (updF T.O i _ j).h ≠ 0 → (updF T.O i _ j).k = 1 ∨ (updF T.O i _ j).k = 2 ∨ (updF T.O i _ j).k = 3
    rw [eu]; split
    · intro _; exact .inl rfl
    · exact H.k j
  · show 0 ≤ (updF T.O i _ j).off ∧ (updF T.O i _ j).off ≤ 1048576
    rw [eu]; split
    · show (0 : Int) ≤ 0 ∧ (0 : Int) ≤ 1048576; omega
    · exact H.off j
  · show ∃ k : Nat, (updF T.O i _ j).of = (k : Int)
    rw [eu]; split
    · exact ⟨m, rfl⟩
    · exact H.of j
  · show (F'.P n).h = (cF (updF T.O i _) 1 n : Int)
    rw [ec, hh, H.hc n]
    by_cases e : n = m
    · subst e; simp
    · have : ¬ (m : Int) = (n : Int) := by omega
      simp [e, this]
  · show (T.P n).r = cF (updF T.O i _) 2 n
    rw [ec, if_neg (by omega)]; exact H.r n
  · show cF (updF T.O i _) 3 n ≤ (T.P n).w
    rw [ec, if_neg (by omega)]; exact H.w n
  · show (T.P n).w = cF (updF T.O i _) 3 n
    rw [ec, if_neg (by omega)]
    refine H.ws ?_ n
    have : Ft.kp ⟨F', T.P, updF T.O i ⟨1, (m : Int), 0, g, 1⟩⟩ = T.kp := by unfold Ft.kp; rw [hd]
    rw [this] at hkp; exact hkp

end Go.Proofs.YtoknhcjneliboaaGreat

/- What is true of open files stays true: Open, Pipe, and the rest. -/
namespace Go.Proofs.YtoknhcjneliboaaGreat
set_option linter.unusedVariables false

theorem ofL_mem {O : Nat → Fl} : ∀ {n i : Nat}, i ∈ ofL O n → 1 ≤ i ∧ i < n ∧ (O i).h = 0
  | 0, i, h => by simp [ofL] at h
  | n + 1, i, h => by
    unfold ofL at h
    rcases List.mem_append.1 h with h | h
    · have := ofL_mem h; exact ⟨this.1, by omega, this.2.2⟩
    · split at h
      · rename_i e
        have : i = n := by simpa using h
        subst this
        exact ⟨e.1, by omega, e.2⟩
      · simp at h
theorem ofL_rise (O : Nat → Fl) : ∀ n, (ofL O n).Pairwise (· < ·)
  | 0 => List.Pairwise.nil
  | n + 1 => by
    unfold ofL
    refine List.pairwise_append.2 ⟨ofL_rise O n, ?_, fun a ha b hb => ?_⟩
    · split <;> simp
    · split at hb
      · have : b = n := by simpa using hb
        subst this
        exact (ofL_mem ha).2.1
      · simp at hb
theorem ofL_head {O : Nat → Fl} (h : ofL O 11 ≠ []) : 1 ≤ (ofL O 11).headD 0 ∧ (ofL O 11).headD 0 < 11 ∧ (O ((ofL O 11).headD 0)).h = 0 := by
  cases e : ofL O 11 with
  | nil => exact absurd e h
  | cons a r => exact ofL_mem (n := 11) (by rw [e]; exact List.mem_cons_self)

theorem Ft.node_ok {F : Fs} (H : FOk F) (l : List UInt8) (g : Int) : FOk (Ft.node F l g).1 ∧ SH F (Ft.node F l g).1 := by
  unfold Ft.node
  split
  · exact ⟨H, SH.refl F⟩
  split
  · exact ⟨H.make l 1, SH.make H l 1⟩
  split
  · exact ⟨H, SH.refl F⟩
  · exact ⟨H, SH.refl F⟩
theorem Ft.cutF_ok {F : Fs} (H : FOk F) (n : Nat) (g : Int) : FOk (Ft.cutF F n g).1 ∧ SH F (Ft.cutF F n g).1 := by
  unfold Ft.cutF
  split
  · exact ⟨H, SH.refl F⟩
  split
  · exact ⟨H, SH.refl F⟩
  split
  · exact ⟨H, SH.refl F⟩
  · exact ⟨H.resize _ _, SH.resize _ _ _⟩
theorem Ft.openN_ok {T : Ft} (H : TOk T) (l : List UInt8) (g : Int) : FOk (T.openN l g).1 ∧ (T.openN l g).1.d = T.F.d ∧ ((T.openN l g).2.2 ≠ 0 → SH T.F (T.openN l g).1) ∧ ((T.openN l g).2.2 = 0 → ∀ n, ((T.openN l g).1.P n).h = (T.F.P n).h + if n = (T.openN l g).2.1 then 1 else 0) := by
  obtain ⟨a1, a2⟩ := Ft.node_ok H.F l g
  obtain ⟨b1, b2⟩ := Ft.cutF_ok a1 (Ft.node T.F l g).2.1 g
  unfold Ft.openN
  split
  · rename_i e
    exact ⟨a1, a2.1, fun _ => a2, fun q => absurd q e⟩
  split
  · rename_i e
    exact ⟨b1, (a2.trans b2).1, fun _ => a2.trans b2, fun q => absurd q e⟩
  · dsimp only
    refine ⟨b1.hold _, (hold_d _ _).trans (a2.trans b2).1, fun q => ?_, fun q n => ?_⟩
    · rw [hold_no q]; exact a2.trans b2
    · rw [(hold_P q).2, Int.toNat_natCast, Fs.hld_P]
      dsimp only
      rw [← (a2.trans b2).2 n]
      split
      · rename_i e; subst e; rfl
      · omega
theorem TOk.open_ {T : Ft} (H : TOk T) (l : List UInt8) (g : Int) : TOk (T.open_ l g).1 := by
  obtain ⟨a1, a2, a3, a4⟩ := Ft.openN_ok H l g
  unfold Ft.open_
  split
  · exact H
  split
  · exact H
  rename_i hf
  split
  · rename_i e
    exact H.below a1 (a3 e) (PS.refl T.P)
  · rename_i e
    obtain ⟨f1, f2, f3⟩ := ofL_head hf
    exact H.more a1 a2 _ (a4 (Decidable.not_not.1 e)) _ f1 f2 f3 g

/-- Both ends of a new pipe. -/
theorem TOk.pipe {T : Ft} (H : TOk T) : TOk T.pipe.1 := by
  unfold Ft.pipe
  split
  · rename_i a b r he
    split
    · exact H
    rename_i hm
    have hm0 := Decidable.not_not.1 hm
    have hl : Pi.lowest T.P ≠ 0 := fun e => hm (by unfold Pi.makeE; rw [if_pos e]; decide)
    obtain ⟨l1, l4, _, lt⟩ := Pi.lowest_some T.P hl
    have hP : Pi.makeP T.P = Pi.updP T.P (Pi.lowest T.P) ⟨1, 1, []⟩ := by unfold Pi.makeP; rw [if_neg hl]
    have ha := ofL_mem (O := T.O) (n := 11) (i := a) (by rw [he]; exact List.mem_cons_self)
    have hb := ofL_mem (O := T.O) (n := 11) (i := b) (by rw [he]; exact List.mem_cons_of_mem _ List.mem_cons_self)
    have hab : a < b := by
      have := ofL_rise T.O 11
      rw [he] at this
      exact (List.pairwise_cons.1 this).1 b List.mem_cons_self
    have z : T.P (Pi.lowest T.P) = ⟨0, 0, []⟩ := by
      have := (H.pq (Pi.lowest T.P)).2.2
      unfold Pi.clr at this
      rw [lt] at this
      exact this.symm
    generalize Pi.lowest T.P = i at hP l1 l4 z ⊢
    have zr : cF T.O 2 i = 0 := by have := H.r i; rw [z] at this; exact this.symm
    have zw : cF T.O 3 i = 0 := by have := H.w i; rw [z] at this; exact Nat.le_zero.1 this
    have hb0 : ∀ x, (updF T.O a x b).h = 0 := fun x => by rw [updF_ne _ _ _ _ (by omega)]; exact hb.2.2
    have ec : ∀ k n, cF (updF (updF T.O a ⟨2, (i : Int), 0, 1, 1⟩) b ⟨3, (i : Int), 0, 2, 1⟩) k n = cF T.O k n + (if (2 : Int) = k ∧ (i : Int) = (n : Int) then 1 else 0) + (if (3 : Int) = k ∧ (i : Int) = (n : Int) then 1 else 0) := fun k n => by
      rw [cF_new (x := ⟨3, (i : Int), 0, 2, 1⟩) hb.2.1 (by show (1 : Int) ≠ 0; omega) (hb0 _), cF_new (x := ⟨2, (i : Int), 0, 1, 1⟩) ha.2.1 (by show (1 : Int) ≠ 0; omega) ha.2.2]
    have eu : ∀ j, updF (updF T.O a ⟨2, (i : Int), 0, 1, 1⟩) b ⟨3, (i : Int), 0, 2, 1⟩ j = if j = b then ⟨3, (i : Int), 0, 2, 1⟩ else if j = a then ⟨2, (i : Int), 0, 1, 1⟩ else T.O j := fun j => rfl
    have ep : ∀ j, Pi.makeP T.P j = if j = i then ⟨1, 1, []⟩ else T.P j := fun j => by rw [hP]; rfl
    dsimp only
    refine ⟨H.F, fun j hj => ?_, fun j hj => ?_, fun j => ?_, fun j hj => ?_, fun j => ?_, fun j => ?_, fun n => ?_, fun n => ?_, fun n => ?_, fun hkp n => ?_, fun n => ?_, fun n hn => ?_⟩
    · dsimp only
      rw [eu, if_neg (by omega), if_neg (by omega)]; exact H.out j hj
    · revert hj
      dsimp only
      rw [eu]; split
      · intro e; exact absurd e (by show (1 : Int) ≠ 0; omega)
      · split
        · intro e; exact absurd e (by show (1 : Int) ≠ 0; omega)
        · exact H.nn j
    · dsimp only
      rw [eu]; split
      · show (0 : Int) ≤ 1 ∧ (1 : Int) ≤ 1000; omega
      · split
        · show (0 : Int) ≤ 1 ∧ (1 : Int) ≤ 1000; omega
        · exact H.h j
    · revert hj
      dsimp only
      rw [eu]; split
      · intro _; exact .inr (.inr rfl)
      · split
        · intro _; exact .inr (.inl rfl)
        · exact H.k j
    · dsimp only
      rw [eu]; split
      · show (0 : Int) ≤ 0 ∧ (0 : Int) ≤ 1048576; omega
      · split
        · show (0 : Int) ≤ 0 ∧ (0 : Int) ≤ 1048576; omega
        · exact H.off j
    · dsimp only
      rw [eu]; split
      · exact ⟨i, rfl⟩
      · split
        · exact ⟨i, rfl⟩
        · exact H.of j
    · dsimp only
      rw [ec, if_neg (by omega), if_neg (by omega)]; exact H.hc n
    · dsimp only
      rw [ec, ep]
      have := H.r n
      by_cases e : n = i
      · subst e; simp; omega
      · have : ¬ (i : Int) = (n : Int) := by omega
        simp [e, this]; exact H.r n
    · dsimp only
      rw [ec, ep]
      have := H.w n
      by_cases e : n = i
      · subst e; simp; omega
      · have : ¬ (i : Int) = (n : Int) := by omega
        simp [e, this]; exact H.w n
    · dsimp only
      have hw := H.ws hkp n
      rw [ec, ep]
      by_cases e : n = i
      · subst e
        simp; omega
      · have : ¬ (i : Int) = (n : Int) := by omega
        simp [e, this]; exact hw
    · dsimp only
      rw [ep]; split
      · exact ⟨by simp, by simp, rfl⟩
      · exact H.pq n
    · dsimp only
      rw [ep, if_neg (by omega)]; exact H.po n hn
  · exact H

theorem read_le {F : Fs} (H : FOk F) (n off c : Int) (h : 0 ≤ off ∧ off ≤ 1048576) : 0 ≤ off + ((F.read n off c).1.length : Int) ∧ off + ((F.read n off c).1.length : Int) ≤ 1048576 := by
  refine ⟨by omega, ?_⟩
  unfold Fs.read
  split
  · show off + ((0 : Nat) : Int) ≤ _; omega
  split
  · show off + ((0 : Nat) : Int) ≤ _; omega
  · have := (H.c n.toNat).1
    show off + (((((F.P n.toNat).c.drop off.toNat).take c.toNat).length : Nat) : Int) ≤ _
    rw [List.length_take, List.length_drop]
    omega
theorem TOk.read {T : Ft} (H : TOk T) (n c : Int) : TOk (T.read n c).1 := by
  unfold Ft.read
  split
  · exact H
  rename_i hh
  obtain ⟨i, rfl, h1, h2, h3, _⟩ := Ft.has_lt (by simpa using hh)
  split
  · exact H.below H.F (SH.refl _) (PS.read _ _ _)
  · rw [Int.toNat_natCast]
    exact H.turn H.F (SH.refl _) (PS.refl _) i h1 h2 h3 _ rfl rfl (by have := H.h i; show 1 ≤ (T.O i).h ∧ (T.O i).h ≤ 1000; omega) (read_le H.F _ _ _ (H.off i))
theorem size_le {F : Fs} (H : FOk F) (n : Nat) : F.size n ≤ 102 := by
  unfold Fs.size
  have := (H.c n).1
  have := H.len n
  omega
theorem write_le {F : Fs} (n off : Int) (b : List Int) (h : 0 ≤ off ∧ off ≤ 1048576) : 0 ≤ off + (F.write n off b).2.1 ∧ off + (F.write n off b).2.1 ≤ 1048576 := by
  unfold Fs.write
  split
  · show 0 ≤ off + 0 ∧ off + 0 ≤ _; omega
  split
  · show 0 ≤ off + 0 ∧ off + 0 ≤ _; omega
  split
  · show 0 ≤ off + 0 ∧ off + 0 ≤ _; omega
  split
  · show 0 ≤ off + 0 ∧ off + 0 ≤ _; omega
  split
  · show 0 ≤ off + 0 ∧ off + 0 ≤ _; omega
  · show 0 ≤ off + (b.length : Int) ∧ off + (b.length : Int) ≤ _; omega
theorem Ft.from_le {T : Ft} (H : TOk T) (i : Nat) : 0 ≤ T.from_ (T.O i) ∧ T.from_ (T.O i) ≤ 1048576 := by
  unfold Ft.from_
  split
  · have := size_le H.F (T.O i).of.toNat
    omega
  · exact H.off i
theorem TOk.write {T : Ft} (H : TOk T) (n : Int) (b : List Int) (hb : ∀ z ∈ b, 0 ≤ z ∧ z < 256) : TOk (T.write n b).1 := by
  unfold Ft.write
  split
  · exact H
  rename_i hh
  obtain ⟨i, rfl, h1, h2, h3, _⟩ := Ft.has_lt (by simpa using hh)
  split
  · exact H.below H.F (SH.refl _) (PS.write _ _ _)
  split
  · exact H
  · rw [Int.toNat_natCast]
    exact H.turn (H.F.write _ _ _ hb) (SH.write _ _ _ _) (PS.refl _) i h1 h2 h3 _ rfl rfl (by have := H.h i; show 1 ≤ (T.O i).h ∧ (T.O i).h ≤ 1000; omega) (write_le _ _ _ (Ft.from_le H i))
theorem TOk.seek {T : Ft} (H : TOk T) (n off wh : Int) : TOk (T.seek n off wh).1 := by
  unfold Ft.seek
  split
  · exact H
  rename_i hh
  obtain ⟨i, rfl, h1, h2, h3⟩ := Ft.there_lt (by simpa using hh)
  split
  · exact H
  split
  · exact H
  · rename_i e
    rw [Int.toNat_natCast] at e ⊢
    exact H.turn H.F (SH.refl _) (PS.refl _) i h1 h2 h3 _ rfl rfl (by have := H.h i; show 1 ≤ (T.O i).h ∧ (T.O i).h ≤ 1000; omega) (by show 0 ≤ T.base (T.O i) wh + off ∧ T.base (T.O i) wh + off ≤ 1048576; omega)
theorem TOk.hold {T : Ft} (H : TOk T) (n : Int) : TOk (T.hold n).1 := by
  unfold Ft.hold
  split
  · exact H
  rename_i hh
  obtain ⟨i, rfl, h1, h2, h3⟩ := Ft.there_lt (by simpa using hh)
  split
  · exact H
  · rename_i e
    rw [Int.toNat_natCast] at e ⊢
    exact H.turn H.F (SH.refl _) (PS.refl _) i h1 h2 h3 _ rfl rfl (by have := H.h i; show 1 ≤ (T.O i).h + 1 ∧ (T.O i).h + 1 ≤ 1000; omega) (H.off i)

/-- The last descriptor of an open file goes. -/
theorem TOk.less {T : Ft} (H : TOk T) {F' : Fs} {P' : Nat → Pi.Pp} (i : Nat) (h1 : 1 ≤ i) (hi : i < 11) (h0 : (T.O i).h ≠ 0) (hF : FOk F') (hd : F'.d = T.F.d)
    (hh : ∀ n : Nat, (F'.P n).h + (if (T.O i).k = 1 ∧ (T.O i).of = (n : Int) then 1 else 0) = (T.F.P n).h) (hr : ∀ n : Nat, (P' n).r + (if (T.O i).k = 2 ∧ (T.O i).of = (n : Int) then 1 else 0) = (T.P n).r)
    (hw : ∀ n : Nat, (P' n).w ≤ (T.P n).w ∧ (T.P n).w ≤ (P' n).w + (if (T.O i).k = 3 ∧ (T.O i).of = (n : Int) then 1 else 0)) (hw2 : T.kp = false → ∀ n : Nat, (P' n).w + (if (T.O i).k = 3 ∧ (T.O i).of = (n : Int) then 1 else 0) = (T.P n).w)
    (hq : ∀ n, (P' n).q.length ≤ 8 ∧ Pi.clr (P' n) = P' n) (ho : ∀ n, n = 0 ∨ 5 ≤ n → P' n = ⟨0, 0, []⟩) : TOk ⟨F', P', updF T.O i noFl⟩ := by
  have ec := fun k n => cF_gone (O := T.O) hi h0 k n
  have eu : ∀ j, updF T.O i noFl j = if j = i then noFl else T.O j := fun j => rfl
  refine ⟨hF, fun j hj => ?_, fun j hj => ?_, fun j => ?_, fun j hj => ?_, fun j => ?_, fun j => ?_, fun n => ?_, fun n => ?_, fun n => ?_, fun hkp n => ?_, fun n => ⟨(hq n).1, ?_, (hq n).2⟩, ho⟩
  · show updF T.O i noFl j = noFl
    rw [eu]; split
    · rfl
    · exact H.out j hj
  · revert hj
    show (updF T.O i noFl j).h = 0 → updF T.O i noFl j = noFl
    rw [eu]; split
    · intro _; rfl
    · exact H.nn j
  · show 0 ≤ (updF T.O i noFl j).h ∧ (updF T.O i noFl j).h ≤ 1000
    rw [eu]; split
    · show (0 : Int) ≤ 0 ∧ (0 : Int) ≤ 1000; omega
    · exact H.h j
  · revert hj
    show (updF T.O i noFl j).h ≠ 0 → (updF T.O i noFl j).k = 1 ∨ (updF T.O i noFl j).k = 2 ∨ (updF T.O i noFl j).k = 3
    rw [eu]; split
    · intro e; exact absurd rfl e
    · exact H.k j
  · show 0 ≤ (updF T.O i noFl j).off ∧ (updF T.O i noFl j).off ≤ 1048576
    rw [eu]; split
    · show (0 : Int) ≤ 0 ∧ (0 : Int) ≤ 1048576; omega
    · exact H.off j
  · show ∃ m : Nat, (updF T.O i noFl j).of = (m : Int)
    rw [eu]; split
    · exact ⟨0, rfl⟩
    · exact H.of j
  · show (F'.P n).h = (cF (updF T.O i noFl) 1 n : Int)
    have e1 := ec 1 n
    have e2 := hh n
    have e3 := H.hc n
    by_cases q : (T.O i).k = 1 ∧ (T.O i).of = (n : Int)
    · rw [if_pos q] at e1 e2; omega
    · rw [if_neg q] at e1 e2; omega
  · show (P' n).r = cF (updF T.O i noFl) 2 n
    have := ec 2 n
    have := hr n
    have := H.r n
    omega
  · show cF (updF T.O i noFl) 3 n ≤ (P' n).w
    have := ec 3 n
    have := hw n
    have := H.w n
    omega
  · show (P' n).w = cF (updF T.O i noFl) 3 n
    have hk : T.kp = false := by
      have : Ft.kp ⟨F', P', updF T.O i noFl⟩ = T.kp := by unfold Ft.kp; rw [hd]
      rw [this] at hkp; exact hkp
    have := ec 3 n
    have := hw2 hk n
    have := H.ws hk n
    omega
  · have := (hw n).1
    have := (H.pq n).2.1
    show (P' n).w ≤ 1
    omega

end Go.Proofs.YtoknhcjneliboaaGreat

/- What is true of open files stays true: Drop, the calls of names. -/
namespace Go.Proofs.YtoknhcjneliboaaGreat
set_option linter.unusedVariables false

theorem clr_rw (x : Pi.Pp) : (Pi.clr x).r = x.r ∧ (Pi.clr x).w = x.w ∧ ((Pi.clr x).q = x.q ∨ (Pi.clr x).q = []) ∧ Pi.clr (Pi.clr x) = Pi.clr x := by
  unfold Pi.clr
  split
  · rename_i h
    exact ⟨rfl, rfl, .inl rfl, by first | rfl | simp [h]⟩
  · rename_i h
    unfold Pi.Pp.there at h
    simp at h
    exact ⟨by first | rw [h.1] | simp [h.1], by first | rw [h.2] | simp [h.2], .inr rfl, rfl⟩

/-- An end that somebody holds is dropped. -/
theorem dropP_yes {T : Ft} (H : TOk T) (m : Nat) (b : Bool) (he : 1 ≤ (T.P m).ends b) : Pi.dropE T.P m b = 0 ∧ 1 ≤ m ∧ m ≤ 4 ∧ Pi.dropP T.kp T.P m b = if (b && T.kp) = true then T.P else Pi.updP T.P m (Pi.clr ((T.P m).setEnds b ((T.P m).ends b - 1))) := by
  have hm : 1 ≤ m ∧ m ≤ 4 := by
    by_cases e : m = 0 ∨ 5 ≤ m
    · rw [H.po m e] at he
      unfold Pi.Pp.ends at he
      cases b <;> simp at he
    · omega
  have ht : (T.P m).there = true := by
    unfold Pi.Pp.ends at he
    unfold Pi.Pp.there
    cases b <;> simp at he ⊢ <;> omega
  have hh : Pi.has T.P m = true := by
    unfold Pi.has
    rw [Int.toNat_natCast, ht]
    simp; omega
  refine ⟨?_, hm.1, hm.2, ?_⟩
  · unfold Pi.dropE
    rw [if_pos hh, Int.toNat_natCast, if_neg (by omega)]
  · unfold Pi.dropP
    rw [if_pos hh, Int.toNat_natCast, if_neg (by omega)]

theorem TOk.drop_end {T : Ft} (H : TOk T) (i : Nat) (h1 : 1 ≤ i) (hi : i < 11) (h0 : (T.O i).h ≠ 0) (hk : (T.O i).k = 2 ∨ (T.O i).k = 3) : Pi.dropE T.P (T.O i).of (decide ((T.O i).k = 3)) = 0 ∧ TOk ⟨T.F, Pi.dropP T.kp T.P (T.O i).of (decide ((T.O i).k = 3)), updF T.O i noFl⟩ := by
  obtain ⟨m, hm⟩ := H.of i
  have hc := cF_mem hi h0 m hm
  rw [hm]
  rcases hk with k2 | k3
  · have hb : decide ((T.O i).k = 3) = false := by simp [k2]
    rw [k2] at hc
    have n1 : ∀ n : Nat, ¬ ((T.O i).k = 1 ∧ (T.O i).of = (n : Int)) := fun n => by omega
    have n3 : ∀ n : Nat, ¬ ((T.O i).k = 3 ∧ (T.O i).of = (n : Int)) := fun n => by omega
    have hr := H.r m
    obtain ⟨d1, m1, m4, d2⟩ := dropP_yes H m false (by unfold Pi.Pp.ends; simp; omega)
    rw [hb]
    refine ⟨d1, ?_⟩
    rw [d2, if_neg (by simp)]
    have ep : ∀ n, Pi.updP T.P m (Pi.clr ((T.P m).setEnds false ((T.P m).ends false - 1))) n = if n = m then Pi.clr ((T.P m).setEnds false ((T.P m).ends false - 1)) else T.P n := fun _ => rfl
    obtain ⟨q1, q2, q3, q4⟩ := clr_rw ((T.P m).setEnds false ((T.P m).ends false - 1))
    refine H.less i h1 hi h0 H.F rfl (fun n => ?_) (fun n => ?_) (fun n => ?_) (fun _ n => ?_) (fun n => ?_) (fun n hn => ?_)
    · rw [if_neg (n1 n)]; omega
    · rw [ep]
      by_cases e : n = m
      · subst e
        rw [if_pos rfl, if_pos ⟨k2, hm⟩, q1]
        show (T.P n).r - 1 + 1 = _
        omega
      · rw [if_neg e, if_neg (by rw [hm]; omega)]; omega
    · rw [ep, if_neg (n3 n)]
      by_cases e : n = m
      · subst e
        rw [if_pos rfl, q2]
        show (T.P n).w ≤ _ ∧ _ ≤ (T.P n).w + 0
        omega
      · rw [if_neg e]; omega
    · rw [ep, if_neg (n3 n)]
      by_cases e : n = m
      · subst e
        rw [if_pos rfl, q2]
        show (T.P n).w + 0 = _
        omega
      · rw [if_neg e]; omega
    · rw [ep]; split
      · refine ⟨?_, q4⟩
        rcases q3 with q3 | q3
        · rw [q3]; exact (H.pq m).1
        · rw [q3]; exact Nat.zero_le _
      · exact ⟨(H.pq n).1, (H.pq n).2.2⟩
    · rw [ep, if_neg (by omega)]; exact H.po n hn
  · have hb : decide ((T.O i).k = 3) = true := by simp [k3]
    rw [k3] at hc
    have n1 : ∀ n : Nat, ¬ ((T.O i).k = 1 ∧ (T.O i).of = (n : Int)) := fun n => by omega
    have n2 : ∀ n : Nat, ¬ ((T.O i).k = 2 ∧ (T.O i).of = (n : Int)) := fun n => by omega
    have hw := H.w m
    obtain ⟨d1, m1, m4, d2⟩ := dropP_yes H m true (by unfold Pi.Pp.ends; simp; omega)
    rw [hb]
    refine ⟨d1, ?_⟩
    rw [d2]
    cases hkp : T.kp
    · rw [if_neg (by simp)]
      have ep : ∀ n, Pi.updP T.P m (Pi.clr ((T.P m).setEnds true ((T.P m).ends true - 1))) n = if n = m then Pi.clr ((T.P m).setEnds true ((T.P m).ends true - 1)) else T.P n := fun _ => rfl
      obtain ⟨q1, q2, q3, q4⟩ := clr_rw ((T.P m).setEnds true ((T.P m).ends true - 1))
      refine H.less i h1 hi h0 H.F rfl (fun n => ?_) (fun n => ?_) (fun n => ?_) (fun _ n => ?_) (fun n => ?_) (fun n hn => ?_)
      · rw [if_neg (n1 n)]; omega
      · rw [ep, if_neg (n2 n)]
        by_cases e : n = m
        · subst e
          rw [if_pos rfl, q1]
          show (T.P n).r + 0 = _
          omega
        · rw [if_neg e]; omega
      · rw [ep]
        by_cases e : n = m
        · subst e
          rw [if_pos rfl, if_pos ⟨k3, hm⟩, q2]
          show (T.P n).w - 1 ≤ _ ∧ _ ≤ (T.P n).w - 1 + 1
          omega
        · rw [if_neg e, if_neg (by rw [hm]; omega)]; omega
      · rw [ep]
        by_cases e : n = m
        · subst e
          rw [if_pos rfl, if_pos ⟨k3, hm⟩, q2]
          show (T.P n).w - 1 + 1 = _
          omega
        · rw [if_neg e, if_neg (by rw [hm]; omega)]; omega
      · rw [ep]; split
        · refine ⟨?_, q4⟩
          rcases q3 with q3 | q3
          · rw [q3]; exact (H.pq m).1
          · rw [q3]; exact Nat.zero_le _
        · exact ⟨(H.pq n).1, (H.pq n).2.2⟩
      · rw [ep, if_neg (by omega)]; exact H.po n hn
    · rw [if_pos (by simp)]
      refine H.less i h1 hi h0 H.F rfl (fun n => ?_) (fun n => ?_) (fun n => ?_) (fun hf n => ?_) (fun n => ⟨(H.pq n).1, (H.pq n).2.2⟩) H.po
      · rw [if_neg (n1 n)]; omega
      · rw [if_neg (n2 n)]; omega
      · split <;> omega
      · rw [hf] at hkp; cases hkp

theorem TOk.drop {T : Ft} (H : TOk T) (n : Int) : TOk (T.drop n).1 := by
  unfold Ft.drop
  split
  · exact H
  rename_i hh
  obtain ⟨i, rfl, h1, hi, h0⟩ := Ft.there_lt (by simpa using hh)
  rw [Int.toNat_natCast]
  split
  · rename_i e
    exact H.turn H.F (SH.refl _) (PS.refl _) i h1 hi h0 _ rfl rfl (by have := H.h i; show 1 ≤ (T.O i).h - 1 ∧ (T.O i).h - 1 ≤ 1000; omega) (H.off i)
  split
  · rename_i e k1
    obtain ⟨m, hm⟩ := H.of i
    have hc := cF_mem hi h0 m hm
    rw [k1] at hc
    have n2 : ∀ n : Nat, ¬ ((T.O i).k = 2 ∧ (T.O i).of = (n : Int)) := fun n => by omega
    have n3 : ∀ n : Nat, ¬ ((T.O i).k = 3 ∧ (T.O i).of = (n : Int)) := fun n => by omega
    have hp : 0 < (T.F.P m).h := by rw [H.hc m]; omega
    obtain ⟨_, d2⟩ := drop_h H.F hp
    rw [hm]
    refine H.less i h1 hi h0 (H.F.drop _) (drop_d _ _) (fun n => ?_) (fun n => ?_) (fun n => ?_) (fun _ n => ?_) (fun n => ⟨(H.pq n).1, (H.pq n).2.2⟩) H.po
    · rw [d2]
      by_cases e : n = m
      · subst e
        rw [if_pos rfl, if_pos ⟨k1, hm⟩]; omega
      · rw [if_neg e, if_neg (by rw [hm]; omega)]; omega
    · rw [if_neg (n2 n)]; omega
    · rw [if_neg (n3 n)]; omega
    · rw [if_neg (n3 n)]; omega
  · rename_i e k1
    exact (H.drop_end i h1 hi h0 (by rcases H.k i h0 with k | k | k; exact absurd k k1; exact .inl k; exact .inr k)).2

theorem Ft.nameF_ok {F : Fs} (H : FOk F) (c : Int) (l m : List UInt8) : FOk (Ft.nameF F c l m).1 ∧ SH F (Ft.nameF F c l m).1 := by
  unfold Ft.nameF
  split
  · exact ⟨H.unlink l, SH.unlink H l⟩
  split
  · exact ⟨H.make l 2, SH.make H l 2⟩
  split
  · exact ⟨H.rmdir l, SH.rmdir H l⟩
  split
  · exact ⟨H.link l m, SH.link l m⟩
  split
  · exact ⟨H.rename l m, SH.rename H l m⟩
  · exact ⟨H, SH.refl F⟩
theorem TOk.name {T : Ft} (H : TOk T) (c : Int) (l m : List UInt8) : TOk (T.name c l m).1 := by
  obtain ⟨a, b⟩ := Ft.nameF_ok H.F c l m
  exact H.below a b (PS.refl _)
theorem TOk.trunc {T : Ft} (H : TOk T) (l : List UInt8) (z : Int) : TOk (T.trunc l z).1 := by
  unfold Ft.trunc
  split
  · exact H
  · exact H.below (H.F.resize _ _) (SH.resize _ _ _) (PS.refl _)

theorem TOk.new (d : Int) : TOk (newT d) := by
  have hP : ∀ i, ((rootF d).P i).h = 0 := fun i => by
    show (if i = 1 then Fn.nu 2 else Fn.no).h = 0
    split <;> rfl
  have hc : ∀ k n, cF (fun _ => noFl) k n = 0 := fun k n => by
    unfold cF
    rw [List.countP_eq_zero]
    intro i _
    simp [noFl]
  refine ⟨rootF_ok d, fun _ _ => rfl, fun _ _ => rfl, fun _ => by show (0 : Int) ≤ 0 ∧ (0 : Int) ≤ 1000; omega, fun i h => absurd rfl h, fun _ => by show (0 : Int) ≤ 0 ∧ (0 : Int) ≤ 1048576; omega, fun _ => ⟨0, rfl⟩, fun n => ?_, fun n => ?_, fun n => ?_, fun _ n => ?_, fun n => ⟨Nat.zero_le _, Nat.zero_le _, rfl⟩, fun _ _ => rfl⟩
  · show ((rootF d).P n).h = ((cF (fun _ => noFl) 1 n : Nat) : Int)
    rw [hc, hP]; rfl
  · show 0 = cF (fun _ => noFl) 2 n
    rw [hc]
  · show cF (fun _ => noFl) 3 n ≤ 0
    rw [hc]; exact Nat.le_refl _
  · show 0 = cF (fun _ => noFl) 3 n
    rw [hc]

end Go.Proofs.YtoknhcjneliboaaGreat

/- The document's file system as it lies; what has, there, file, named, look, empty and over tell. -/
namespace Go.Proofs.YtoknhcjneliboaaGreat
open Go.RowKit
set_option linter.unusedVariables false
set_option maxRecDepth 20000

theorem own_shp {w : World} {B e size n : Nat} {v : Value} {xs : List Value} (h : w.ownsRow B e size v n xs) : ∃ a c, v = .slice a n c ∧ n ≤ c ∧ c ≤ 9223372036854775807 ∧ (0 < n → ∃ q, a = some ⟨q, 0, none⟩ ∧ B ≤ q ∧ q < w.heap.size ∧ ∀ j x, xs[j]? = some x → w.cell? ⟨q, j, none⟩ = some x) := by
  obtain ⟨h1, h2⟩ := h
  rcases h2 with ⟨rfl, h2⟩ | ⟨g, c, cur, rfl, hb, hg, hnc, hcm, hcs, htake⟩
  · subst h2
    exact ⟨none, 0, rfl, Nat.le_refl _, by omega, fun h => absurd h (Nat.lt_irrefl 0)⟩
  · refine ⟨_, c, rfl, hnc, by simpa [maxLen] using hcm, fun _ => ⟨g, rfl, hb, (Array.getElem?_eq_some_iff.1 hg).1, fun j x hx => ?_⟩⟩
    have hj : j < n * size := by
      rw [← h1]
      exact (List.getElem?_eq_some_iff.1 hx).1
    have hh : w.ownsRow B e size (.slice (some ⟨g, 0, none⟩) n c) n xs := ⟨h1, .inr ⟨g, c, cur, rfl, hb, hg, hnc, hcm, hcs, htake⟩⟩
    rw [hh.cellAt j (by omega)]
    exact hx

/-- A text of bytes; names as cells. -/
def bs (l : List UInt8) : ByteArray := ⟨l.toArray⟩
theorem bl_bs (l : List UInt8) : bl (bs l) = l := by simp [bl, bs]
theorem bs_bl (t : ByteArray) : bs (bl t) = t := by simp [bl, bs]
theorem bs_eq (l : List UInt8) (t : ByteArray) : ((bs l).toList == t.toList) = decide (l = bl t) := by
  rw [ByteArray.toList_eq, ByteArray.toList_eq, Bool.eq_iff_iff, decide_eq_true_iff]
  simp [bs, bl]
def nmC : List (List UInt8 × Nat) → List Value
  | [] => []
  | x :: r => .string (bs x.1) :: .int .i64 (x.2 : Int) :: nmC r
theorem nmC_len : ∀ Q, (nmC Q).length = Q.length * 2
  | [] => rfl
  | x :: r => by simp [nmC, nmC_len r]; omega
theorem nmC_at : ∀ (Q : List (List UInt8 × Nat)) (j : Nat) (h : j < Q.length), (nmC Q)[j * 2]? = some (.string (bs Q[j].1)) ∧ (nmC Q)[j * 2 + 1]? = some (.int .i64 (Q[j].2 : Int))
  | x :: r, 0, _ => ⟨rfl, rfl⟩
  | x :: r, j + 1, h => by
    have := nmC_at r j (by simpa using h)
    rw [show (j + 1) * 2 = j * 2 + 1 + 1 by omega]
    exact this

/-- The document's system as it lies: its block, its nodes', its marks', and the three rows of each node. -/
structure Rf (w : World) (x g u : Nat) (V : Nat → Value) (F : Fs) : Prop where
  at0 : w.heap[x]? = some (.cells (List.toArray [.slice (some ⟨g, 0, none⟩) 17 17, .slice (some ⟨u, 0, none⟩) 25 25, .int .i64 F.d]) 114 (0, 0))
  nds : ∃ C : List Value, w.heap[g]? = some (.cells C.toArray 117 (0, 0)) ∧ C.length = 102 ∧ ∀ i, i < 17 → C[i * 6]? = some (.int .i64 (F.P i).k) ∧ C[i * 6 + 1]? = some (.int .i64 (F.P i).l) ∧ C[i * 6 + 2]? = some (.int .i64 (F.P i).h) ∧ C[i * 6 + 3]? = some (V (i * 3)) ∧ C[i * 6 + 4]? = some (V (i * 3 + 1)) ∧ C[i * 6 + 5]? = some (V (i * 3 + 2))
  use : ∃ D : List Value, w.heap[u]? = some (.cells D.toArray 4 (0, 0)) ∧ D.length = 25 ∧ ∀ b, b < 25 → D[b]? = some (.bool (F.T b))
  rb : ∀ i, i < 17 → w.ownsRow 0 5 1 (V (i * 3)) (F.P i).c.length ((F.P i).c.map (Value.int .u8))
  rB : ∀ i, i < 17 → w.ownsRow 0 3 1 (V (i * 3 + 1)) (F.P i).B.length ((F.P i).B.map fun (b : Nat) => Value.int .i64 (b : Int))
  rQ : ∀ i, i < 17 → w.ownsRow 0 151 2 (V (i * 3 + 2)) (F.P i).Q.length (nmC (F.P i).Q)
  ap : ∀ i j b, i < 51 → j < 51 → (V i).ownBlock = some b → (V j).ownBlock = some b → i = j
  ng : ∀ i b, i < 51 → (V i).ownBlock = some b → b ≠ x ∧ b ≠ g ∧ b ≠ u
  ne : x ≠ g ∧ x ≠ u ∧ g ≠ u
def RfFoot (x g u : Nat) (V : Nat → Value) (b : Nat) : Prop := b = x ∨ b = g ∨ b = u ∨ ∃ i, i < 51 ∧ (V i).ownBlock = some b

theorem Rf.c0 {w : World} {x g u : Nat} {V : Nat → Value} {F : Fs} (h : Rf w x g u V F) : w.cell? ⟨x, 0, none⟩ = some (.slice (some ⟨g, 0, none⟩) 17 17) := cell_list h.at0 rfl
theorem Rf.c1 {w : World} {x g u : Nat} {V : Nat → Value} {F : Fs} (h : Rf w x g u V F) : w.cell? ⟨x, 1, none⟩ = some (.slice (some ⟨u, 0, none⟩) 25 25) := cell_list h.at0 rfl
theorem Rf.c2 {w : World} {x g u : Nat} {V : Nat → Value} {F : Fs} (h : Rf w x g u V F) : w.cell? ⟨x, 2, none⟩ = some (.int .i64 F.d) := cell_list h.at0 rfl
theorem Rf.k {w : World} {x g u : Nat} {V : Nat → Value} {F : Fs} (h : Rf w x g u V F) (i : Nat) (hi : i < 17) : w.cell? ⟨g, i * 6, none⟩ = some (.int .i64 (F.P i).k) := by
  obtain ⟨C, h1, h2, h3⟩ := h.nds; exact cell_list h1 (h3 i hi).1
theorem Rf.l {w : World} {x g u : Nat} {V : Nat → Value} {F : Fs} (h : Rf w x g u V F) (i : Nat) (hi : i < 17) : w.cell? ⟨g, i * 6 + 1, none⟩ = some (.int .i64 (F.P i).l) := by
  obtain ⟨C, h1, h2, h3⟩ := h.nds; exact cell_list h1 (h3 i hi).2.1
theorem Rf.h {w : World} {x g u : Nat} {V : Nat → Value} {F : Fs} (h : Rf w x g u V F) (i : Nat) (hi : i < 17) : w.cell? ⟨g, i * 6 + 2, none⟩ = some (.int .i64 (F.P i).h) := by
  obtain ⟨C, h1, h2, h3⟩ := h.nds; exact cell_list h1 (h3 i hi).2.2.1
theorem Rf.b {w : World} {x g u : Nat} {V : Nat → Value} {F : Fs} (h : Rf w x g u V F) (i : Nat) (hi : i < 17) : w.cell? ⟨g, i * 6 + 3, none⟩ = some (V (i * 3)) := by
  obtain ⟨C, h1, h2, h3⟩ := h.nds; exact cell_list h1 (h3 i hi).2.2.2.1
theorem Rf.B {w : World} {x g u : Nat} {V : Nat → Value} {F : Fs} (h : Rf w x g u V F) (i : Nat) (hi : i < 17) : w.cell? ⟨g, i * 6 + 4, none⟩ = some (V (i * 3 + 1)) := by
  obtain ⟨C, h1, h2, h3⟩ := h.nds; exact cell_list h1 (h3 i hi).2.2.2.2.1
theorem Rf.q {w : World} {x g u : Nat} {V : Nat → Value} {F : Fs} (h : Rf w x g u V F) (i : Nat) (hi : i < 17) : w.cell? ⟨g, i * 6 + 5, none⟩ = some (V (i * 3 + 2)) := by
  obtain ⟨C, h1, h2, h3⟩ := h.nds; exact cell_list h1 (h3 i hi).2.2.2.2.2
theorem Rf.t {w : World} {x g u : Nat} {V : Nat → Value} {F : Fs} (h : Rf w x g u V F) (b : Nat) (hb : b < 25) : w.cell? ⟨u, b, none⟩ = some (.bool (F.T b)) := by
  obtain ⟨D, h1, h2, h3⟩ := h.use; exact cell_list h1 (h3 b hb)
theorem Rf.foot_lt {w : World} {x g u : Nat} {V : Nat → Value} {F : Fs} (h : Rf w x g u V F) (b : Nat) (hb : RfFoot x g u V b) : b < w.heap.size := by
  rcases hb with rfl | rfl | rfl | ⟨i, hi, hb⟩
  · exact (Array.getElem?_eq_some_iff.1 h.at0).1
  · obtain ⟨C, h1, _⟩ := h.nds; exact (Array.getElem?_eq_some_iff.1 h1).1
  · obtain ⟨D, h1, _⟩ := h.use; exact (Array.getElem?_eq_some_iff.1 h1).1
  · obtain ⟨j, hj, e⟩ : ∃ j, j < 17 ∧ (i = j * 3 ∨ i = j * 3 + 1 ∨ i = j * 3 + 2) := ⟨i / 3, by omega, by omega⟩
    rcases e with rfl | rfl | rfl
    · exact ((h.rb j hj).lt b hb).2
    · exact ((h.rB j hj).lt b hb).2
    · exact ((h.rQ j hj).lt b hb).2
theorem Rf.upd {U : Nat → Prop} {w w' : World} {x g u : Nat} {V : Nat → Value} {F : Fs} (h : Rf w x g u V F) (q : Upd U w w') (hU : ∀ b, RfFoot x g u V b → ¬ U b) : Rf w' x g u V F := by
  obtain ⟨C, h1, h2⟩ := h.nds
  obtain ⟨D, h3, h4⟩ := h.use
  exact ⟨q.heap h.at0 (hU x (.inl rfl)), ⟨C, q.heap h1 (hU g (.inr (.inl rfl))), h2⟩, ⟨D, q.heap h3 (hU u (.inr (.inr (.inl rfl)))), h4⟩,
    fun i hi => q.own (h.rb i hi) (fun k hk => hU k (.inr (.inr (.inr ⟨_, by omega, hk⟩)))), fun i hi => q.own (h.rB i hi) (fun k hk => hU k (.inr (.inr (.inr ⟨_, by omega, hk⟩)))), fun i hi => q.own (h.rQ i hi) (fun k hk => hU k (.inr (.inr (.inr ⟨_, by omega, hk⟩)))), h.ap, h.ng, h.ne⟩
theorem Rf.grow {w w' : World} {x g u : Nat} {V : Nat → Value} {F : Fs} (h : Rf w x g u V F) (q : Below w.heap.size w w') : Rf w' x g u V F := h.upd (Upd.of_below (F := fun _ => False) q) (fun _ _ h => h)

set_option maxHeartbeats 1000000 in
theorem rhas_any (x g u : Nat) (V : Nat → Value) (F : Fs) (w : World) (H : Rf w x g u V F) (b : Int) : Calls Tryz.prog 111 #[.pointer (some ⟨x, 0, none⟩), .int .i64 b] w fun e w' => e = .returned (.bool (dfc F.d b)) ∧ w' = w := by
  have c := H.c2
  have h := dfc_ne F.d b
  obtain ⟨R, gR⟩ : ∃ R, R = dfc F.d b := ⟨_, rfl⟩
  rw [← gR] at h ⊢
  clear H gR
  go_enter Tryz.func111, Tryz.ntmps111
  go_wp2_with fail
  go_ret
  exact ⟨rfl, rfl⟩

/-- The error of a name at a node. -/
def nmd (F : Fs) (n : Nat) (s : List UInt8) : Int := if (F.P n).k ≠ 2 then 20 else if s = [] then 22 else if 6 < s.length then 36 else 0

set_option maxHeartbeats 2000000 in
theorem rnamed_any (x g u : Nat) (V : Nat → Value) (F : Fs) (w : World) (H : Rf w x g u V F) (n : Nat) (hn : n < 17) (t : ByteArray) :
    Calls Tryz.prog 138 #[.pointer (some ⟨x, 0, none⟩), .int .i64 (n : Int), .string t] w fun e w' => e = .returned (.int .i64 (nmd F n (bl t))) ∧ w' = w := by
  have c0 := H.c0
  have c1 := H.k n hn
  have n0 : (0 : Int) ≤ (n : Int) := by omega
  have n1 : (n : Int) < 17 := by omega
  have hz : (t.toList == []) = decide (bl t = []) := by
    rw [ByteArray.toList_eq, Bool.eq_iff_iff]
    simp [bl]
  have hl := bl_len t
  unfold nmd
  obtain ⟨k, gk⟩ : ∃ k, k = (F.P n).k := ⟨_, rfl⟩
  rw [← gk] at c1 ⊢
  clear H gk
  by_cases h1 : k ≠ 2
  · rw [if_pos h1]
    have h2 : (k != 2) = true := by simpa using h1
    clear hz
    go_enter Tryz.func138, Tryz.ntmps138
    go_wp2_with fail
    go_ret
    exact ⟨rfl, rfl⟩
  · rw [if_neg h1]
    obtain rfl : k = 2 := by omega
    by_cases h2 : bl t = []
    · rw [if_pos h2]
      rw [show decide (bl t = []) = true by simp [h2]] at hz
      clear h1 h2 hl
      go_enter Tryz.func138, Tryz.ntmps138
      go_wp2_with fail
      go_ret
      exact ⟨rfl, rfl⟩
    · rw [if_neg h2]
      rw [show decide (bl t = []) = false by simp [h2]] at hz
      by_cases h3 : 6 < (bl t).length
      · rw [if_pos h3]
        have h4 : (6 : Int) < (t.size : Int) := by omega
        clear h1 h2 h3 hl
        go_enter Tryz.func138, Tryz.ntmps138
        go_wp2_with fail
        go_ret
        exact ⟨rfl, rfl⟩
      · rw [if_neg h3]
        have h4 : ¬ (6 : Int) < (t.size : Int) := by omega
        clear h1 h2 h3 hl
        go_enter Tryz.func138, Tryz.ntmps138
        go_wp2_with fail
        go_ret
        exact ⟨rfl, rfl⟩

theorem lk_drop (Q : List (List UInt8 × Nat)) (s : List UInt8) : ∀ j, (∀ k, ∀ h : k < Q.length, k < j → Q[k].1 ≠ s) → lk Q s = lk (Q.drop j) s := by
  induction Q with
  | nil => intro j _; simp
  | cons y r ih =>
    intro j h
    cases j with
    | zero => rfl
    | succ j =>
      rw [List.drop_succ_cons, lk_cons, if_neg (show y.1 ≠ s from h 0 (by simp) (by omega))]
      exact ih j (fun k hk hkj => h (k + 1) (by simpa using hk) (by omega))

set_option maxHeartbeats 4000000 in
theorem rlook_any (x g u : Nat) (V : Nat → Value) (F : Fs) (w : World) (H : Rf w x g u V F) (n : Nat) (hn : n < 17) (hq6 : (F.P n).Q.length ≤ 6) (t : ByteArray) :
    Calls Tryz.prog 109 #[.pointer (some ⟨x, 0, none⟩), .int .i64 (n : Int), .string t] w fun e w' => e = .returned (.int .i64 ((lk (F.P n).Q (bl t) : Nat) : Int)) ∧ Below w.heap.size w w' := by
  have c0 := H.c0
  have c1 := H.q n hn
  have n0 : (0 : Int) ≤ (n : Int) := by omega
  have n1 : (n : Int) < 17 := by omega
  obtain ⟨Q, gQ⟩ : ∃ Q, Q = (F.P n).Q := ⟨_, rfl⟩
  have hQ := H.rQ n hn
  rw [← gQ] at hQ hq6 ⊢
  obtain ⟨a, c, eV, hnc, hcm, hcell⟩ := own_shp hQ
  rw [eV] at c1
  obtain ⟨L, gL⟩ : ∃ L, L = Q.length := ⟨_, rfl⟩
  rw [← gL] at c1 hcell hnc hq6
  have GL := hid gL
  have HC := hid hcell
  obtain ⟨R, gR⟩ : ∃ R, R = lk Q (bl t) := ⟨_, rfl⟩
  rw [← gR]
  have GR := hid gR
  clear H gQ hQ hcell gL gR eV
  go_enter Tryz.func109, Tryz.ntmps109
  go_wp2_with fail
  go_loopw [18] (fun v18 wr => ∃ j : Nat, j ≤ L ∧ v18 = .int .i64 (j : Int) ∧ Hid (Below w.heap.size w wr) ∧ Hid (∀ k, ∀ h : k < Q.length, k < j → Q[k].1 ≠ bl t)) (fun v18 _ => L - (intOf v18).toNat)
  case atStart => exact ⟨0, Nat.zero_le _, rfl, hid (Below.refl _ _), hid (fun k h hk => by omega)⟩
  case round =>
    obtain ⟨j, hj, rfl, HB, HN⟩ := hrel
    by_cases e : j < L
    · have hj2 : (j : Int) < (L : Int) := by omega
      have hj0 : (0 : Int) ≤ (j : Int) := by omega
      have hjQ : j < Q.length := by rw [← GL.out]; exact e
      obtain ⟨q, rfl, _, hqs, hcc⟩ := HC.out (by omega)
      obtain ⟨y1, y2⟩ := nmC_at Q j hjQ
      have d1 := (HB.out.cell (p := ⟨q, j * 2, none⟩) hqs).trans (hcc _ _ y1)
      have d2 := (HB.out.cell (p := ⟨q, j * 2 + 1, none⟩) hqs).trans (hcc _ _ y2)
      have hs := bs_eq Q[j].1 t
      have HR : Hid (Q[j].1 = bl t → R = Q[j].2) := hid (fun h => by
        rw [GR.out, lk_drop Q (bl t) j HN.out, List.drop_eq_getElem_cons hjQ, lk_cons, if_pos h])
      have HS : Hid (Q[j].1 ≠ bl t → ∀ k, ∀ h : k < Q.length, k < j + 1 → Q[k].1 ≠ bl t) := hid (fun h k hk hkj => by
        by_cases e : k = j
        · subst e; exact h
        · exact HN.out k hk (by omega))
      generalize bs Q[j].1 = sj at d1 hs
      generalize Q[j].2 = mj at d2 HR
      by_cases hh : Q[j].1 = bl t
      · rw [show decide (Q[j].1 = bl t) = true by simp [hh]] at hs
        have HR2 := hid (HR.out hh)
        clear hcc y1 y2 hh HR HS
        go_wp2_with fail
        go_ret
        rw [HR2.out]
        exact ⟨rfl, HB.out.alloc HB.out.size _⟩
      · rw [show decide (Q[j].1 = bl t) = false by simp [hh]] at hs
        have HS2 := hid (HS.out hh)
        clear hcc y1 y2 hh HR HS
        go_wp2_with fail
        go_roundw
        case rel => exact ⟨j + 1, by omega, by go_num, hid (HB.out.alloc HB.out.size _), HS2⟩
        case measure => simp [intOf]; omega
    · have hj2 : ¬ (j : Int) < (L : Int) := by omega
      have HR : Hid (R = 0) := hid (by rw [GR.out, lk_drop Q (bl t) j HN.out, List.drop_of_length_le (by have := GL.out; omega)]; rfl)
      go_wp2_with fail
      go_ret
      rw [HR.out]
      exact ⟨rfl, HB.out⟩

end Go.Proofs.YtoknhcjneliboaaGreat

/- What the document's there, file, empty and over tell. -/
namespace Go.Proofs.YtoknhcjneliboaaGreat
open Go.RowKit
set_option linter.unusedVariables false
set_option maxRecDepth 20000

theorem there_is {F : Fs} {n : Int} (h : F.there n = true) : ∃ i : Nat, n = (i : Int) ∧ 1 ≤ i ∧ i < 17 ∧ (F.P i).k ≠ 0 := by
  simp only [Fs.there, decide_eq_true_eq] at h
  exact ⟨n.toNat, by omega, by omega, by omega, h.2.2⟩

set_option maxHeartbeats 2000000 in
theorem rthere_any (x g u : Nat) (V : Nat → Value) (F : Fs) (w : World) (H : Rf w x g u V F) (n : Int) :
    Calls Tryz.prog 96 #[.pointer (some ⟨x, 0, none⟩), .int .i64 n] w fun e w' => e = .returned (.bool (F.there n)) ∧ w' = w := by
  have c0 := H.c0
  by_cases h1 : n < 1
  · have e : F.there n = false := by simp only [Fs.there, decide_eq_false_iff_not]; omega
    rw [e]
    have h2 : ¬ 1 ≤ n := by omega
    clear H e
    go_enter Tryz.func96, Tryz.ntmps96
    go_wp2_with fail
    go_ret
    exact ⟨rfl, rfl⟩
  by_cases h2 : 16 < n
  · have e : F.there n = false := by simp only [Fs.there, decide_eq_false_iff_not]; omega
    rw [e]
    have h3 : 1 ≤ n := by omega
    have h4 : ¬ n ≤ 16 := by omega
    clear H e
    go_enter Tryz.func96, Tryz.ntmps96
    go_wp2_with fail
    go_ret
    exact ⟨rfl, rfl⟩
  obtain ⟨i, rfl⟩ : ∃ i : Nat, n = (i : Int) := ⟨n.toNat, by omega⟩
  have h3 : (1 : Int) ≤ (i : Int) := by omega
  have h4 : (i : Int) ≤ 16 := by omega
  have h5 : (0 : Int) ≤ (i : Int) := by omega
  have h6 : (i : Int) < 17 := by omega
  have c1 := H.k i (by omega)
  have e : F.there (i : Int) = ((F.P i).k != 0) := by
    rw [Bool.eq_iff_iff]
    simp only [Fs.there, decide_eq_true_eq, bne_iff_ne, ne_eq]
    exact ⟨fun h => h.2.2, fun h => ⟨h3, h4, h⟩⟩
  rw [e]
  obtain ⟨k, gk⟩ : ∃ k, k = (F.P i).k := ⟨_, rfl⟩
  rw [← gk] at c1 ⊢
  clear H gk h1 h2 e
  by_cases h0 : k = 0
  · subst h0
    go_enter Tryz.func96, Tryz.ntmps96
    go_wp2_with fail
    go_ret
    exact ⟨rfl, rfl⟩
  · have h7 : (k != 0) = true := by simpa using h0
    have h8 : (k == 0) = false := by simpa using h0
    rw [h7]
    go_enter Tryz.func96, Tryz.ntmps96
    go_wp2_with fail
    go_ret
    exact ⟨rfl, rfl⟩

set_option maxHeartbeats 2000000 in
theorem rfile_any (x g u : Nat) (V : Nat → Value) (F : Fs) (w : World) (H : Rf w x g u V F) (n : Int) :
    Calls Tryz.prog 97 #[.pointer (some ⟨x, 0, none⟩), .int .i64 n] w fun e w' => e = .returned (.int .i64 (F.file n)) ∧ w' = w := by
  have k0 := hid (rthere_any x g u V F w H n)
  have c0 := H.c0
  by_cases ht : F.there n = false
  · have e : F.file n = 2 := by unfold Fs.file; rw [if_pos ht]
    rw [e]
    rw [ht] at k0
    clear H e ht
    go_enter Tryz.func97, Tryz.ntmps97
    go_wp2_with fail
    refine k0.out.mono ?_
    rintro e w1 ⟨rfl, rfl⟩
    clear k0
    go_wp2_with fail
    go_ret
    exact ⟨rfl, rfl⟩
  · have ht' : F.there n = true := by simpa using ht
    obtain ⟨i, rfl, h1, h2, hk⟩ := there_is ht'
    have c1 := H.k i h2
    have e : F.file (i : Int) = if (F.P i).k = 2 then 21 else 0 := by unfold Fs.file; rw [if_neg ht]; rfl
    rw [e]
    rw [ht'] at k0
    have h5 : (0 : Int) ≤ (i : Int) := by omega
    have h6 : (i : Int) < 17 := by omega
    obtain ⟨k, gk⟩ : ∃ k, k = (F.P i).k := ⟨_, rfl⟩
    rw [← gk] at c1 ⊢
    clear H gk e ht ht' hk
    by_cases h0 : k = 2
    · subst h0
      rw [if_pos rfl]
      go_enter Tryz.func97, Tryz.ntmps97
      go_wp2_with fail
      refine k0.out.mono ?_
      rintro e w1 ⟨rfl, rfl⟩
      clear k0
      go_wp2_with fail
      go_ret
      exact ⟨rfl, rfl⟩
    · rw [if_neg h0]
      have h7 : (k == 2) = false := by simpa using h0
      go_enter Tryz.func97, Tryz.ntmps97
      go_wp2_with fail
      refine k0.out.mono ?_
      rintro e w1 ⟨rfl, rfl⟩
      clear k0
      go_wp2_with fail
      go_ret
      exact ⟨rfl, rfl⟩

set_option maxHeartbeats 2000000 in
theorem rempty_any (x g u : Nat) (V : Nat → Value) (F : Fs) (w : World) (H : Rf w x g u V F) (hF : FOk F) (n : Nat) (hn : n < 17) :
    Calls Tryz.prog 113 #[.pointer (some ⟨x, 0, none⟩), .int .i64 (n : Int)] w fun e w' => e = .returned (.int .i64 (F.stays n)) ∧ w' = w := by
  have c0 := H.c0
  have c1 := H.q n hn
  have c2 := H.h n hn
  obtain ⟨a, c, eV, _, _, _⟩ := own_shp (H.rQ n hn)
  rw [eV] at c1
  have n0 : (0 : Int) ≤ (n : Int) := by omega
  have n1 : (n : Int) < 17 := by omega
  unfold Fs.stays
  obtain ⟨L, gL⟩ : ∃ L, L = (F.P n).Q.length := ⟨_, rfl⟩
  obtain ⟨h, gh⟩ : ∃ h, h = (F.P n).h := ⟨_, rfl⟩
  rw [← gL] at c1 ⊢
  rw [← gh] at c2 ⊢
  clear H gL gh eV hF
  by_cases q : 0 < L
  · rw [if_pos q]
    have q' : (0 : Int) < (L : Int) := by omega
    clear q
    go_enter Tryz.func113, Tryz.ntmps113
    go_wp2_with fail
    go_ret
    exact ⟨rfl, rfl⟩
  · rw [if_neg q]
    have q' : ¬ (0 : Int) < (L : Int) := by omega
    clear q
    by_cases q2 : 0 < h
    · rw [if_pos q2]
      go_enter Tryz.func113, Tryz.ntmps113
      go_wp2_with fail
      go_ret
      exact ⟨rfl, rfl⟩
    · rw [if_neg q2]
      go_enter Tryz.func113, Tryz.ntmps113
      go_wp2_with fail
      go_ret
      exact ⟨rfl, rfl⟩

set_option maxHeartbeats 4000000 in
theorem rover_any (x g u : Nat) (V : Nat → Value) (F : Fs) (w : World) (H : Rf w x g u V F) (hF : FOk F) (n m : Nat) (hn : n < 17) (hm : m < 17) (hk : (F.P n).k ≠ 0) :
    Calls Tryz.prog 114 #[.pointer (some ⟨x, 0, none⟩), .int .i64 (n : Int), .int .i64 (m : Int)] w fun e w' => e = .returned (.int .i64 (F.over n m)) ∧ w' = w.drew := by
  have c0 := H.c0
  have c1 := H.k n hn
  have c2 := H.k m hm
  have n0 : (0 : Int) ≤ (n : Int) := by omega
  have n1 : (n : Int) < 17 := by omega
  have m0 : (0 : Int) ≤ (m : Int) := by omega
  have m1 : (m : Int) < 17 := by omega
  have ks := hid (rempty_any x g u V F w.drew (H.upd ((Upd.refl (fun _ => False) w).drewN 1) (fun _ _ h => h)) hF m hm)
  have hkn : (F.P n).k = 1 ∨ (F.P n).k = 2 := by rcases hF.k n with q | q | q <;> omega
  unfold Fs.over
  obtain ⟨E, gE⟩ : ∃ E, E = F.stays m := ⟨_, rfl⟩
  rw [← gE] at ks ⊢
  obtain ⟨kn, gn⟩ : ∃ kn, kn = (F.P n).k := ⟨_, rfl⟩
  obtain ⟨km, gm⟩ : ∃ km, km = (F.P m).k := ⟨_, rfl⟩
  rw [← gn] at c1 hkn ⊢
  rw [← gm] at c2 ⊢
  clear H gE gn gm hk hF
  by_cases h2 : km = 2
  · subst h2
    rcases hkn with rfl | rfl
    · rw [if_pos rfl, if_neg (by omega)]
      go_enter Tryz.func114, Tryz.ntmps114
      go_wp2_with fail
      go_region
      all_goals go_wp2_with fail
      all_goals go_ret
      all_goals exact ⟨rfl, rfl⟩
    · rw [if_pos rfl, if_pos rfl]
      go_enter Tryz.func114, Tryz.ntmps114
      go_wp2_with fail
      go_region
      go_wp2_with fail
      refine ks.out.mono ?_
      rintro e w1 ⟨rfl, rfl⟩
      go_wp2_with fail
      go_ret
      exact ⟨rfl, rfl⟩
  · rw [if_neg h2]
    have h3 : (km == 2) = false := by simpa using h2
    rcases hkn with rfl | rfl
    · rw [if_neg (by omega)]
      go_enter Tryz.func114, Tryz.ntmps114
      go_wp2_with fail
      go_region
      go_wp2_with fail
      go_ret
      exact ⟨rfl, rfl⟩
    · rw [if_pos rfl]
      go_enter Tryz.func114, Tryz.ntmps114
      go_wp2_with fail
      go_region
      go_wp2_with fail
      go_ret
      exact ⟨rfl, rfl⟩

end Go.Proofs.YtoknhcjneliboaaGreat
