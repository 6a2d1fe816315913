/- The memory of dredgerlaw02.played: a disk, the sectors as they are, and the states; how each step turns it. -/
import Derived.Test.YtnfkkhglooehfaaDWrite
import Derived.Test.YtnfkkhglooehfaaDPic2
import Derived.Test.YtnfkkhglooehfaaDSettle
namespace Go.Proofs.Ytnfkkhglooehfaa
open Go.RowKit
set_option linter.unusedVariables false

/-- The blocks that turn. -/
def MM (d : Dk) (p gn : Nat) (vst : Value) : List Nat := d.foot p ++ gn :: vb vst

/-- X: the rows of states, and what else stays apart. -/
structure Mem (w0 wr : World) (p gn : Nat) (d : Dk) (vst : Value) (R : Nat) (fnow : Nat → List Int) (sts : List (Nat → List Int)) (X : List Nat) : Prop where
  ok : d.ok wr p
  now : Pic wr (MM d p gn vst ++ X) (.slice (some ⟨gn, 0, none⟩) 4 4) 4 fnow
  row : ∃ us, wr.ownsRow 0 42 1 vst R us ∧ (∀ j (h : j < sts.length), ∃ u k, us[j]? = some u ∧ u.ownBlock = some k ∧ k ∈ X ∧ Pic wr (MM d p gn vst ++ X) u 4 sts[j]) ∧
    ∀ i j ui uj k, i < j → j < sts.length → us[i]? = some ui → us[j]? = some uj → ui.ownBlock = some k → uj.ownBlock ≠ some k
  le : sts.length ≤ R
  sep1 : gn ∉ d.foot p
  sep2 : ∀ k, vst.ownBlock = some k → k ∉ d.foot p ∧ k ≠ gn
  xs : ∀ x ∈ X, x < wr.heap.size ∧ w0.heap.size ≤ x ∧ x ∉ MM d p gn vst
  new : ∀ x ∈ MM d p gn vst, w0.heap.size ≤ x
  below : Below w0.heap.size w0 wr

theorem grew_app {w : World} {A B X Y : List Nat} (h : Grew' w A B) (k : Grew' w X Y) : Grew' w (A ++ X) (B ++ Y) := by
  intro x hx
  rcases List.mem_append.1 hx with hx | hx
  · rcases h x hx with h1 | h1
    · exact .inl (List.mem_append.2 (.inl h1))
    · exact .inr h1
  · rcases k x hx with h1 | h1
    · exact .inl (List.mem_append.2 (.inr h1))
    · exact .inr h1

theorem Mem.lt {w0 wr : World} {p gn R : Nat} {d : Dk} {vst : Value} {fnow : Nat → List Int} {sts : List (Nat → List Int)} {X : List Nat} (h : Mem w0 wr p gn d vst R fnow sts X) : ∀ x ∈ MM d p gn vst, x < wr.heap.size := by
  intro x hx
  simp only [MM, List.mem_append, List.mem_cons] at hx
  rcases hx with hx | rfl | hx
  · exact h.ok.lt x hx
  · obtain ⟨vs, hr, _⟩ := h.now
    exact (hr.lt x rfl).2
  · obtain ⟨us, hr, _⟩ := h.row
    exact own_lt hr hx

/-- Nothing that is there turns; something new may be set apart. -/
theorem Mem.quiet {w0 wr w' : World} {p gn R : Nat} {d : Dk} {vst : Value} {fnow : Nat → List Int} {sts : List (Nat → List Int)} {X : List Nat} (h : Mem w0 wr p gn d vst R fnow sts X) (hb : Below wr.heap.size wr w') (Y : List Nat) (hY : ∀ y ∈ Y, wr.heap.size ≤ y ∧ y < w'.heap.size) : Mem w0 w' p gn d vst R fnow sts (X ++ Y) := by
  have hU : ∀ F, Upd F wr w' := fun F => Upd.of_below hb
  have hg : Grew' wr (MM d p gn vst ++ X) (MM d p gn vst ++ (X ++ Y)) := grew_app (grew_refl _ _) (fun x hx => by
    rcases List.mem_append.1 hx with h1 | h1
    · exact .inl h1
    · exact .inr (hY x h1).1)
  obtain ⟨vs, hr, hj⟩ := h.now
  obtain ⟨us, hrow, hent, hdis⟩ := h.row
  refine ⟨h.ok.frame fun k hk => hb.block k (h.ok.lt k hk), ⟨vs, own_below hr hb, fun j hl => ?_⟩, ⟨us, own_below hrow hb, fun j hl => ?_, hdis⟩, h.le, h.sep1, h.sep2, fun x hx => ?_, h.new, h.below.trans (hb.mono h.below.size)⟩
  · obtain ⟨u, h1, h2⟩ := hj j hl
    exact ⟨u, h1, h2.upd (hU _) hg⟩
  · obtain ⟨u, k, h1, h2, h3, h4⟩ := hent j hl
    obtain ⟨vs2, hr2, hj2⟩ := h4
    refine ⟨u, k, h1, h2, List.mem_append.2 (.inl h3), ⟨vs2, own_below hr2 hb, fun i hi => ?_⟩⟩
    obtain ⟨u3, h5, h6⟩ := hj2 i hi
    exact ⟨u3, h5, h6.upd (hU _) hg⟩
  · rcases List.mem_append.1 hx with h1 | h1
    · obtain ⟨h2, h3, h4⟩ := h.xs x h1
      exact ⟨Nat.lt_of_lt_of_le h2 hb.size, h3, h4⟩
    · obtain ⟨h2, h3⟩ := hY x h1
      refine ⟨h3, Nat.le_trans h.below.size h2, fun hm => ?_⟩
      have := h.lt x hm
      omega

/-- A state that is dropped from view. -/
theorem Mem.forget {w0 wr : World} {p gn R : Nat} {d : Dk} {vst : Value} {fnow : Nat → List Int} {sts : List (Nat → List Int)} {X : List Nat} (h : Mem w0 wr p gn d vst R fnow sts X) (k : Nat) : Mem w0 wr p gn d vst R fnow (sts.take k) X := by
  obtain ⟨us, hrow, hent, hdis⟩ := h.row
  refine ⟨h.ok, h.now, ⟨us, hrow, fun j hl => ?_, fun i j ui uj k hij hj => hdis i j ui uj k hij (by simp at hj; omega)⟩, Nat.le_trans (by simp; omega) h.le, h.sep1, h.sep2, h.xs, h.new, h.below⟩
  have hl' : j < sts.length := by simp at hl; omega
  obtain ⟨u, k, h1, h2, h3, h4⟩ := hent j hl'
  exact ⟨u, k, h1, h2, h3, by rw [List.getElem_take]; exact h4⟩

/-- What the blocks that turn become. -/
theorem Mem.turn {w0 wr w' : World} {p gn R R' : Nat} {d d' : Dk} {vst vst' : Value} {fnow : Nat → List Int} {sts : List (Nat → List Int)} {X : List Nat} (h : Mem w0 wr p gn d vst R fnow sts X) (hok : d'.ok w' p) (hU : Upd (· ∈ MM d p gn vst) wr w') (hg : Grew' wr (MM d p gn vst) (MM d' p gn vst'))
    (hnow : ∀ vs, wr.ownsRow 0 35 1 (.slice (some ⟨gn, 0, none⟩) 4 4) 4 vs → w'.ownsRow 0 35 1 (.slice (some ⟨gn, 0, none⟩) 4 4) 4 vs)
    (hrow' : ∀ us, wr.ownsRow 0 42 1 vst R us → ∃ us', w'.ownsRow 0 42 1 vst' R' (us ++ us')) (hle : R ≤ R') (hs1 : gn ∉ d'.foot p) (hs2 : ∀ k, vst'.ownBlock = some k → k ∉ d'.foot p ∧ k ≠ gn) : Mem w0 w' p gn d' vst' R' fnow sts X := by
  have hUM : Upd (· ∈ MM d p gn vst ++ X) wr w' := hU.mono (fun x _ hx => List.mem_append.2 (.inl hx))
  have hgM := grew_app hg (grew_refl wr X)
  obtain ⟨vs, hr, hj⟩ := h.now
  obtain ⟨us, hrow, hent, hdis⟩ := h.row
  obtain ⟨us', hr'⟩ := hrow' us hrow
  have hul : sts.length ≤ us.length := by have := hrow.1; have := h.le; omega
  refine ⟨hok, ⟨vs, hnow vs hr, fun j hl => ?_⟩, ⟨us ++ us', hr', fun j hl => ?_, fun i j ui uj k hij hj hi1 hj1 => hdis i j ui uj k hij hj ?_ ?_⟩, Nat.le_trans h.le hle, hs1, hs2, fun x hx => ?_, ?_, h.below.trans (hU.below h.below.size h.new)⟩
  · obtain ⟨u, h1, h2⟩ := hj j hl
    exact ⟨u, h1, h2.upd hUM hgM⟩
  · obtain ⟨u, k, h1, h2, h3, h4⟩ := hent j hl
    refine ⟨u, k, by rw [List.getElem?_append_left (List.getElem?_eq_some_iff.1 h1).1]; exact h1, h2, h3, ?_⟩
    obtain ⟨vs2, hr2, hj2⟩ := h4
    refine ⟨vs2, hU.own hr2 (fun q hq hx => ?_), fun i hi => ?_⟩
    · rw [h2] at hq
      injection hq with hq
      subst hq
      exact (h.xs k h3).2.2 hx
    · obtain ⟨u3, h5, h6⟩ := hj2 i hi
      exact ⟨u3, h5, h6.upd hUM hgM⟩
  · rw [List.getElem?_append_left (by omega)] at hi1; exact hi1
  · rw [List.getElem?_append_left (by omega)] at hj1; exact hj1
  · obtain ⟨h1, h2, h3⟩ := h.xs x hx
    refine ⟨Nat.lt_of_lt_of_le h1 hU.size, h2, fun hm => ?_⟩
    rcases hg x hm with h4 | h4
    · exact h3 h4
    · omega
  · intro x hx
    rcases hg x hx with h1 | h1
    · exact h.new x h1
    · have := h.below.size; omega

/-- The disk turns. -/
theorem Mem.disk {w0 wr w' : World} {p gn R : Nat} {d : Dk} {vst : Value} {fnow : Nat → List Int} {sts : List (Nat → List Int)} {X : List Nat} {d' : Dk} (h : Mem w0 wr p gn d vst R fnow sts X) (hok : d'.ok w' p) (hU : Upd (· ∈ d.foot p) wr w') (hg : Grew wr (d.foot p) (d'.foot p)) : Mem w0 w' p gn d' vst R fnow sts X := by
  have hlt := h.lt
  have hgn : gn < wr.heap.size := hlt gn (by simp [MM])
  have hvl : ∀ k, vst.ownBlock = some k → k < wr.heap.size := fun k hk => hlt k (by simp [MM, vb, hk])
  refine h.turn hok (hU.mono (fun x _ hx => List.mem_append.2 (.inl hx))) (fun x hx => ?_) (fun vs hr => hU.own hr (fun k hk => by simp [Value.ownBlock] at hk; subst hk; exact h.sep1)) (fun us hr => ⟨[], by rw [List.append_nil]; exact hU.own hr (fun k hk => (h.sep2 k hk).1)⟩) (Nat.le_refl _) (fun hx => ?_) (fun k hk => ⟨fun hx => ?_, (h.sep2 k hk).2⟩)
  · rcases List.mem_append.1 hx with hx | hx
    · rcases hg x hx with h1 | h1
      · exact .inl (List.mem_append.2 (.inl h1))
      · exact .inr h1
    · exact .inl (List.mem_append.2 (.inr hx))
  · rcases hg gn hx with h1 | h1
    · exact h.sep1 h1
    · omega
  · rcases hg k hx with h1 | h1
    · exact (h.sep2 k hk).1 h1
    · have := hvl k hk; omega

/-- The row of states grows. -/
theorem Mem.grow {w0 wr w' : World} {p gn R : Nat} {d : Dk} {vst : Value} {fnow : Nat → List Int} {sts : List (Nat → List Int)} {X : List Nat} {vst' : Value} {us' : List Value} (h : Mem w0 wr p gn d vst R fnow sts X) (hU : Upd (fun x => vst.ownBlock = some x) wr w') (hv : vst'.ownBlock = vst.ownBlock ∨ ∀ x, vst'.ownBlock = some x → wr.heap.size ≤ x)
    (hpre : ∀ us, wr.ownsRow 0 42 1 vst R us → w'.ownsRow 0 42 1 vst' (R + 1) (us ++ us')) : Mem w0 w' p gn d vst' (R + 1) fnow sts X := by
  have hlt := h.lt
  have hgn : gn < wr.heap.size := hlt gn (by simp [MM])
  have hfl : ∀ k ∈ d.foot p, k < wr.heap.size := h.ok.lt
  refine h.turn (h.ok.upd hU (fun k hk e => (h.sep2 k e).1 hk)) (hU.mono (fun x _ hx => by simp [MM, vb, hx])) (fun x hx => ?_) (fun vs hr => hU.own hr (fun k hk e => by simp [Value.ownBlock] at hk; exact (h.sep2 k e).2 hk.symm)) (fun us hr => ⟨us', hpre us hr⟩) (Nat.le_succ _) h.sep1 (fun k hk => ?_)
  · simp only [MM, List.mem_append, List.mem_cons] at hx ⊢
    rcases hx with hx | hx | hx
    · exact .inl (.inl hx)
    · exact .inl (.inr (.inl hx))
    · have hx' : vst'.ownBlock = some x := by simpa [vb] using hx
      rcases hv with hv | hv
      · exact .inl (.inr (.inr (by simp [vb, ← hv, hx'])))
      · exact .inr (hv x hx')
  · rcases hv with hv | hv
    · exact h.sep2 k (hv ▸ hk)
    · have h1 := hv k hk
      exact ⟨fun hx => by have := hfl k hx; omega, by omega⟩

/-- A sector of 'now' turns. -/
theorem Mem.setnow {w0 wr : World} {p gn R : Nat} {d : Dk} {vst : Value} {fnow : Nat → List Int} {sts : List (Nat → List Int)} {X : List Nat} {i : Nat} {u : Value} {bs : List Int} (h : Mem w0 wr p gn d vst R fnow sts X) (hi : i < 4) (hu : Byt wr (MM d p gn vst ++ X) u bs) (hu1 : u.oneCell' = true) :
    Mem w0 (wr.setCell ⟨gn, i, none⟩ u) p gn d vst R (fun j => if j = i then bs else fnow j) sts X := by
  have hU : Upd (· = gn) wr (wr.setCell ⟨gn, i, none⟩ u) := Upd.setCell wr _ _ rfl
  have hUM : Upd (· ∈ MM d p gn vst ++ X) wr (wr.setCell ⟨gn, i, none⟩ u) := hU.mono (fun x _ hx => by simp [MM, hx])
  obtain ⟨vs, hr, hj⟩ := h.now
  obtain ⟨us, hrow, hent, hdis⟩ := h.row
  have hst := hr.stored i u
  have hvl : vs.length = 4 := by have := hr.1; omega
  have hgnM : gn ∈ MM d p gn vst := by simp [MM]
  refine ⟨h.ok.upd hU (fun k hk e => h.sep1 (e ▸ hk)), ⟨vs.set i u, hst.1, fun j hl => ?_⟩, ⟨us, hU.own hrow (fun k hk => (h.sep2 k hk).2), fun j hl => ?_, hdis⟩, h.le, h.sep1, h.sep2, fun x hx => ⟨by simpa using (h.xs x hx).1, (h.xs x hx).2⟩, h.new, h.below.trans (hU.below h.below.size (fun x hx => h.new x (by simp [MM, hx])))⟩
  · by_cases hji : j = i
    · subst hji
      refine ⟨u, by simp [hvl, hl], ?_⟩
      simp only [if_true]
      exact hu.upd hUM (grew_refl _ _)
    · obtain ⟨u2, h1, h2⟩ := hj j hl
      refine ⟨u2, by rw [List.getElem?_set, if_neg (fun e => hji e.symm)]; exact h1, ?_⟩
      simp only [if_neg hji]
      exact h2.upd hUM (grew_refl _ _)
  · obtain ⟨u2, k, h1, h2, h3, h4⟩ := hent j hl
    obtain ⟨vs2, hr2, hj2⟩ := h4
    refine ⟨u2, k, h1, h2, h3, ⟨vs2, hU.own hr2 (fun q hq e => ?_), fun i' hi' => ?_⟩⟩
    · rw [h2] at hq
      injection hq with hq
      subst hq
      exact (h.xs k h3).2.2 (e ▸ hgnM)
    · obtain ⟨u3, h5, h6⟩ := hj2 i' hi'
      exact ⟨u3, h5, h6.upd hUM (grew_refl _ _)⟩

/-- The last state is laid. -/
theorem Mem.setst {w0 wr : World} {p gn R : Nat} {d : Dk} {vst : Value} {fnow : Nat → List Int} {sts : List (Nat → List Int)} {X : List Nat} {gs cs k' : Nat} {v' : Value} {f : Nat → List Int} (h : Mem w0 wr p gn d vst R fnow sts X) (hvst : vst = .slice (some ⟨gs, 0, none⟩) R cs) (hR : sts.length + 1 = R) (hp : Pic wr (MM d p gn vst ++ X) v' 4 f) (hk : v'.ownBlock = some k') (hkX : k' ∈ X) (h1 : v'.oneCell' = true)
    (hdk : ∀ us, wr.ownsRow 0 42 1 vst R us → ∀ i ui, i < sts.length → us[i]? = some ui → ui.ownBlock ≠ some k') :
    Mem w0 (wr.setCell ⟨gs, sts.length, none⟩ v') p gn d vst R fnow (sts ++ [f]) X := by
  have hU : Upd (· = gs) wr (wr.setCell ⟨gs, sts.length, none⟩ v') := Upd.setCell wr _ _ rfl
  have hgs : gs ∈ MM d p gn vst := by simp [MM, vb, hvst, Value.ownBlock]
  have hUM : Upd (· ∈ MM d p gn vst ++ X) wr (wr.setCell ⟨gs, sts.length, none⟩ v') := hU.mono (fun x _ hx => List.mem_append.2 (.inl (hx ▸ hgs)))
  have hs2 := h.sep2 gs (by rw [hvst]; rfl)
  have hpic : ∀ u q f', u.ownBlock = some q → q ∈ X → Pic wr (MM d p gn vst ++ X) u 4 f' → Pic (wr.setCell ⟨gs, sts.length, none⟩ v') (MM d p gn vst ++ X) u 4 f' := by
    intro u q f' h2 h3 h4
    obtain ⟨vs2, hr2, hj2⟩ := h4
    refine ⟨vs2, hU.own hr2 (fun q' hq e => ?_), fun i' hi' => ?_⟩
    · rw [h2] at hq
      injection hq with hq
      subst hq
      exact (h.xs q h3).2.2 (e ▸ hgs)
    · obtain ⟨u3, h5, h6⟩ := hj2 i' hi'
      exact ⟨u3, h5, h6.upd hUM (grew_refl _ _)⟩
  obtain ⟨vs, hr, hj⟩ := h.now
  obtain ⟨us, hrow, hent, hdis⟩ := h.row
  have hdk' := hdk us hrow
  rw [hvst] at hrow
  have hul : us.length = R := by have := hrow.1; omega
  have hst := hrow.stored sts.length v'
  rw [← hvst] at hst
  refine ⟨h.ok.upd hU (fun k hk e => hs2.1 (e ▸ hk)), ⟨vs, hU.own hr (fun k hk e => by simp [Value.ownBlock] at hk; exact hs2.2 (by omega)), fun j hl => ?_⟩, ⟨us.set sts.length v', hst.1, fun j hl => ?_, fun i j ui uj q hij hj hi1 hj1 hq hq2 => ?_⟩, by simp; omega, h.sep1, h.sep2, fun x hx => ⟨by simpa using (h.xs x hx).1, (h.xs x hx).2⟩, h.new, h.below.trans (hU.below h.below.size (fun x hx => h.new x (hx ▸ hgs)))⟩
  · obtain ⟨u, h2, h3⟩ := hj j hl
    exact ⟨u, h2, h3.upd hUM (grew_refl _ _)⟩
  · by_cases hjs : j = sts.length
    · subst hjs
      refine ⟨v', k', by rw [List.getElem?_set, if_pos rfl, if_pos (by omega)], hk, hkX, ?_⟩
      rw [List.getElem_concat_length rfl]
      exact hpic v' k' f hk hkX hp
    · have hl' : j < sts.length := by simp at hl; omega
      obtain ⟨u, k, h2, h3, h4, h5⟩ := hent j hl'
      refine ⟨u, k, by rw [List.getElem?_set, if_neg (fun e => hjs e.symm)]; exact h2, h3, h4, ?_⟩
      rw [List.getElem_append_left hl']
      exact hpic u k _ h3 h4 h5
  · have hi' : i < sts.length := by simp at hj; omega
    rw [List.getElem?_set, if_neg (by omega)] at hi1
    rw [List.getElem?_set] at hj1
    by_cases hjs : sts.length = j
    · rw [if_pos hjs, if_pos (by omega)] at hj1
      injection hj1 with hj1
      subst hj1
      rw [hk] at hq2
      injection hq2 with hq2
      subst hq2
      exact hdk' i ui hi' hi1 hq
    · rw [if_neg hjs] at hj1
      exact hdis i j ui uj q hij (by simp at hj; omega) hi1 hj1 hq hq2

theorem own_unique {w : World} {B B' e size n : Nat} {v : Value} {xs ys : List Value} (h : w.ownsRow B e size v n xs) (k : w.ownsRow B' e size v n ys) : xs = ys := by
  rcases h.2 with ⟨rfl, rfl⟩ | ⟨g, c, cur, rfl, _, hg, _, _, _, ht⟩
  · have h1 : xs = [] := List.eq_nil_of_length_eq_zero (by have := h.1; simpa using this)
    have h2 : ys = [] := List.eq_nil_of_length_eq_zero (by have := k.1; simpa using this)
    rw [h1, h2]
  · rcases k.2 with ⟨h', _⟩ | ⟨g', c', cur', h', _, hg', _, _, _, ht'⟩
    · cases h'
    · injection h' with e1 e2 e3
      injection e1 with e1
      injection e1 with e1
      subst e1
      rw [hg] at hg'
      injection hg' with e4
      injection e4 with e4
      subst e4
      rw [← ht, ← ht']

/-- What is new is no state's row. -/
theorem Mem.fresh {w0 wr w' : World} {p gn R : Nat} {d : Dk} {vst : Value} {fnow : Nat → List Int} {sts : List (Nat → List Int)} {X : List Nat} (h : Mem w0 wr p gn d vst R fnow sts X) (hb : Below wr.heap.size wr w') (k6 : Nat) (hk : wr.heap.size ≤ k6) :
    ∀ us, w'.ownsRow 0 42 1 vst R us → ∀ i ui, i < sts.length → us[i]? = some ui → ui.ownBlock ≠ some k6 := by
  intro us hr i ui hi hui hq
  obtain ⟨us3, hr3, he3, _⟩ := h.row
  obtain ⟨u4, k4, h5, h6, h7, _⟩ := he3 i hi
  have hu : us = us3 := own_unique hr (own_below hr3 hb)
  rw [hu, h5] at hui
  injection hui with hui
  subst hui
  rw [h6] at hq
  injection hq with hq
  have := (h.xs k4 h7).1
  omega

end Go.Proofs.Ytnfkkhglooehfaa
