/- What dredgerlaw02.played plays, without memory: sectors, epochs and states. -/
import Derived.Test.YtnfkkhglooehfaaDMemX
namespace Go.Proofs.Ytnfkkhglooehfaa
open Go.RowKit
set_option linter.unusedVariables false

structure Abst (d : Dk) (fnow : Nat → List Int) (sts : List (Nat → List Int)) (opn : Bool) : Prop where
  n4 : d.n = 4
  dur : d.dur = List.replicate 512 0
  opn : d.opn = opn
  nw : ∀ i, i < 4 → fnow i = sec d.wr i
  len : sts.length = d.eps.length + 1
  wrs : ∀ i, i < 4 → sec d.wr i = over (sec d.dur) d.ab i
  st : ∀ j (h : j < sts.length), ∀ i, i < 4 → sts[j] i = over (sec d.dur) (d.ab.take j) i
  ne : ∀ e ∈ d.ab, e ≠ []

theorem putE_ne (i : Nat) (bs : List Int) (es : List (Nat × List Int)) : putE i bs es ≠ [] := by
  cases es with
  | nil => simp [putE]
  | cons e es =>
    obtain ⟨j, c⟩ := e
    simp only [putE]
    split
    · simp
    · split <;> simp

theorem writeE_ne (eps : List (List (Nat × List Int))) (opn : Bool) (i : Nat) (bs : List Int) (h : ∀ e ∈ eps, e ≠ []) : ∀ e ∈ writeE eps opn i bs, e ≠ [] := by
  intro e he
  unfold writeE at he
  split at he
  · rcases List.mem_append.1 he with he | he
    · exact h e (List.dropLast_subset _ he)
    · simp at he
      subst he
      exact putE_ne _ _ _
  · rcases List.mem_append.1 he with he | he
    · exact h e he
    · simp at he
      subst he
      simp

theorem overE_len (es : List (Nat × List Int)) (he : ∀ s ∈ es, s.2.length = 128) (i : Nat) : ∀ f : Nat → List Int, (f i).length = 128 → (overE f es i).length = 128 := by
  induction es with
  | nil => intro f h; exact h
  | cons s es ih =>
    intro f h
    rw [overE_cons]
    refine ih (fun t ht => he t (by simp [ht])) _ ?_
    have h1 := he s (by simp)
    by_cases hi : i = s.1
    · simp only [if_pos hi, List.length_append, List.length_drop, h, h1]
    · simp only [if_neg hi, h]

theorem over_len (eps : List (List (Nat × List Int))) (he : ∀ e ∈ eps, ∀ s ∈ e, s.2.length = 128) (i : Nat) : ∀ f : Nat → List Int, (f i).length = 128 → (over f eps i).length = 128 := by
  induction eps with
  | nil => intro f h; exact h
  | cons e eps ih => intro f h; exact ih (fun t ht => he t (by simp [ht])) _ (overE_len e (he e (by simp)) i f h)

theorem Dk.ok.writes {d : Dk} {w : World} {p : Nat} (h : d.ok w p) : ∀ e ∈ d.ab, (e.map (·.1)).Pairwise (· < ·) ∧ ∀ s ∈ e, s.2.length = 128 ∧ s.1 < d.n := by
  intro e he
  obtain ⟨ep, hep, rfl⟩ := List.mem_map.1 he
  have := h.eps ep hep
  refine ⟨by simpa [Ep.ab, Snt.ab, Function.comp_def] using this.rise.1, fun s hs => ?_⟩
  obtain ⟨t, ht, rfl⟩ := List.mem_map.1 hs
  exact ⟨(this.es t ht).1, this.rise.2 _ (List.mem_map.2 ⟨t, ht, rfl⟩)⟩

theorem Abst.barrier {d : Dk} {fnow : Nat → List Int} {sts : List (Nat → List Int)} {opn : Bool} (h : Abst d fnow sts opn) : Abst { d with opn := false } fnow sts false := ⟨h.n4, h.dur, rfl, h.nw, h.len, h.wrs, h.st, h.ne⟩

theorem Abst.write {d d' : Dk} {w : World} {p i : Nat} {bs : List Int} {fnow : Nat → List Int} {sts : List (Nat → List Int)} {opn : Bool} (h : Abst d fnow sts opn) (hok : d.ok w p) (hn : d'.n = d.n) (hd : d'.dur = d.dur) (hw : d'.wr = splice d.wr (i * 128) bs) (ha : d'.ab = writeE d.ab d.opn i bs) (ho : d'.opn = true) (hi : i < 4) (hb : bs.length = 128)
    (base : List (Nat → List Int)) (hb0 : opn = false → base = sts) (hb1 : opn = true → base = sts.take (sts.length - 1)) :
    Abst d' (fun j => if j = i then bs else fnow j) (base ++ [fun j => if j = i then bs else fnow j]) true := by
  have hwl : d.wr.length = 4 * 128 := by have := hok.wr.1; rw [h.n4] at this; simpa using this
  have hdl : d.dur.length = 4 * 128 := by have := hok.dur.1; rw [h.n4] at this; simpa using this
  have hsec : ∀ j, j < 4 → sec d'.wr j = if j = i then bs else sec d.wr j := by
    intro j hj
    rw [hw, sec_splice d.wr bs 4 i j hwl (by omega) hi]
    by_cases hji : j = i
    · subst hji
      rw [if_pos rfl, if_pos rfl, List.drop_of_length_le (by rw [length_sec d.wr 4 j hwl hj]; omega), List.append_nil]
    · rw [if_neg hji, if_neg hji]
  have hel : d.eps.length = d.ab.length := by simp [Dk.ab]
  have hel' : d'.eps.length = d'.ab.length := by simp [Dk.ab]
  have hwrt := hok.writes
  have hlen0 : ∀ j, j < 4 → (sec d.dur j).length = 128 := fun j hj => length_sec d.dur 4 j hdl hj
  have hnow : ∀ j, j < 4 → (if j = i then bs else fnow j) = sec d'.wr j := by
    intro j hj
    rw [hsec j hj]
    by_cases hji : j = i
    · rw [if_pos hji, if_pos hji]
    · rw [if_neg hji, if_neg hji, h.nw j hj]
  cases hopn : opn
  · obtain rfl := hb0 hopn
    have hdo : d.opn = false := by rw [h.opn, hopn]
    have hab : d'.ab = d.ab ++ [[(i, bs)]] := by rw [ha, hdo]; rfl
    have hover : ∀ j, j < 4 → over (sec d.dur) d'.ab j = sec d'.wr j := by
      intro j hj
      rw [hab, over_append, hsec j hj]
      simp only [over, List.foldl, overE]
      by_cases hji : j = i
      · subst hji
        rw [if_pos rfl, if_pos rfl]
        rw [List.drop_of_length_le, List.append_nil]
        have := over_len d.ab (fun e he s hs => ((hwrt e he).2 s hs).1) j (sec d.dur) (hlen0 j hj)
        simp only [over] at this
        omega
      · rw [if_neg hji, if_neg hji]
        have := h.wrs j hj
        simp only [over] at this
        exact this.symm
    refine ⟨by rw [hn, h.n4], by rw [hd, h.dur], ho, hnow, ?_, fun j hj => by rw [hd]; exact (hover j hj).symm, fun j hj k hk => ?_, by rw [ha]; exact writeE_ne _ _ _ _ h.ne⟩
    · simp [hel', hab, h.len, hel]
    · rw [hd]
      by_cases hjs : j < base.length
      · rw [List.getElem_append_left hjs, h.st j hjs k hk, hab, List.take_append_of_le_length (by have := h.len; omega)]
      · have hjl : j = base.length := by simp at hj; omega
        subst hjl
        rw [List.getElem_concat_length rfl]
        rw [hnow k hk, List.take_of_length_le (by rw [hab]; simp; have := h.len; omega), hover k hk]
  · have hbase := hb1 hopn
    have hdo : d.opn = true := by rw [h.opn, hopn]
    have hne : d.ab ≠ [] := fun e => hok.last hdo (by have := congrArg List.length e; simp [Dk.ab] at this; exact this)
    obtain ⟨init, e, hie⟩ : ∃ init e, d.ab = init ++ [e] := ⟨d.ab.dropLast, d.ab.getLast hne, (List.dropLast_concat_getLast hne).symm⟩
    have hab : d'.ab = init ++ [putE i bs e] := by rw [ha, hdo, hie]; simp [writeE]
    have hem : e ∈ d.ab := by rw [hie]; simp
    have hinit : ∀ e' ∈ init, ∀ s ∈ e', s.2.length = 128 := fun e' he' s hs => ((hwrt e' (by rw [hie]; simp [he'])).2 s hs).1
    have hover : ∀ j, j < 4 → over (sec d.dur) d'.ab j = sec d'.wr j := by
      intro j hj
      have h1 : over (sec d.dur) d'.ab j = overE (over (sec d.dur) init) (putE i bs e) j := by rw [hab, over_append]; rfl
      rw [h1, overE_put i bs hb 4 e (hwrt e hem).1 (fun s hs => ((hwrt e hem).2 s hs).1) _ (fun k hk => over_len init hinit k _ (hlen0 k hk)) j hj, hsec j hj]
      by_cases hji : j = i
      · rw [if_pos hji, if_pos hji]
      · rw [if_neg hji, if_neg hji, h.wrs j hj, hie, over_append]
        rfl
    have hil : sts.length - 1 = init.length + 1 := by have := h.len; rw [hel, hie] at this; simp at this; omega
    refine ⟨by rw [hn, h.n4], by rw [hd, h.dur], ho, hnow, ?_, fun j hj => by rw [hd]; exact (hover j hj).symm, fun j hj k hk => ?_, by rw [ha]; exact writeE_ne _ _ _ _ h.ne⟩
    · have := h.len
      simp [hel', hab, hbase]
      omega
    · have hsl : base.length = sts.length - 1 := by rw [hbase]; simp
      rw [hd]
      by_cases hjs : j < base.length
      · rw [List.getElem_append_left hjs]
        have h9 : base[j] = sts[j]'(by omega) := by simp [hbase]
        rw [h9, h.st j (by omega) k hk, hab, hie, List.take_append_of_le_length (by omega), List.take_append_of_le_length (by omega)]
      · have hjl : j = base.length := by simp at hj; omega
        subst hjl
        rw [List.getElem_concat_length rfl]
        rw [hnow k hk, List.take_of_length_le (by rw [hab]; simp; omega), hover k hk]

end Go.Proofs.Ytnfkkhglooehfaa
