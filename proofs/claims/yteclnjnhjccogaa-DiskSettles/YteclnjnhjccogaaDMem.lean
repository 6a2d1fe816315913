/- The memory of dredgerlaw02.played: a disk, the sectors as they are, and the states; how each step turns it. -/
import Derived.Test.YteclnjnhjccogaaDWrite
import Derived.Test.YteclnjnhjccogaaDPic2
import Derived.Test.YteclnjnhjccogaaDSettle
namespace Go.Proofs.Yteclnjnhjccogaa
open Go.RowKit
set_option linter.unusedVariables false

/-- The blocks that turn. -/
def MM (d : Dk) (p gn : Nat) (vst : Value) : List Nat := d.foot p ++ gn :: vb vst

structure Mem (w0 wr : World) (p gn : Nat) (d : Dk) (vst : Value) (R : Nat) (fnow : Nat → List Int) (sts : List (Nat → List Int)) : Prop where
  ok : d.ok wr p
  now : Pic wr (MM d p gn vst) (.slice (some ⟨gn, 0, none⟩) 4 4) 4 fnow
  row : ∃ us, wr.ownsRow 0 42 1 vst R us ∧ ∀ j (h : j < sts.length), ∃ u, us[j]? = some u ∧ Pic wr (MM d p gn vst) u 4 sts[j] ∧ ∀ k, u.ownBlock = some k → k ∉ MM d p gn vst
  le : sts.length ≤ R
  sep1 : gn ∉ d.foot p
  sep2 : ∀ k, vst.ownBlock = some k → k ∉ d.foot p ∧ k ≠ gn
  new : ∀ x ∈ MM d p gn vst, w0.heap.size ≤ x
  below : Below w0.heap.size w0 wr


theorem Mem.lt {w0 wr : World} {p gn R : Nat} {d : Dk} {vst : Value} {fnow : Nat → List Int} {sts : List (Nat → List Int)} (h : Mem w0 wr p gn d vst R fnow sts) : ∀ x ∈ MM d p gn vst, x < wr.heap.size := by
  intro x hx
  simp only [MM, List.mem_append, List.mem_cons] at hx
  rcases hx with hx | rfl | hx
  · exact h.ok.lt x hx
  · obtain ⟨vs, hr, _⟩ := h.now
    exact (hr.lt x rfl).2
  · obtain ⟨us, hr, _⟩ := h.row
    exact own_lt hr hx

/-- Nothing that is there turns. -/
theorem Mem.quiet {w0 wr w' : World} {p gn R : Nat} {d : Dk} {vst : Value} {fnow : Nat → List Int} {sts : List (Nat → List Int)} (h : Mem w0 wr p gn d vst R fnow sts) (hb : Below wr.heap.size wr w') : Mem w0 w' p gn d vst R fnow sts := by
  have hU : ∀ F, Upd F wr w' := fun F => Upd.of_below hb
  obtain ⟨vs, hr, hj⟩ := h.now
  obtain ⟨us, hrow, hent⟩ := h.row
  refine ⟨h.ok.frame fun k hk => hb.block k (h.ok.lt k hk), ⟨vs, own_below hr hb, fun j hl => ?_⟩, ⟨us, own_below hrow hb, fun j hl => ?_⟩, h.le, h.sep1, h.sep2, h.new, h.below.trans (hb.mono h.below.size)⟩
  · obtain ⟨u, h1, h2⟩ := hj j hl
    exact ⟨u, h1, h2.upd (hU _) (grew_refl _ _)⟩
  · obtain ⟨u, h1, h2, h3⟩ := hent j hl
    exact ⟨u, h1, h2.upd (hU _) (grew_refl _ _) h3, h3⟩

/-- A state that is dropped from view. -/
theorem Mem.forget {w0 wr : World} {p gn R : Nat} {d : Dk} {vst : Value} {fnow : Nat → List Int} {sts : List (Nat → List Int)} (h : Mem w0 wr p gn d vst R fnow sts) (k : Nat) : Mem w0 wr p gn d vst R fnow (sts.take k) := by
  obtain ⟨us, hrow, hent⟩ := h.row
  refine ⟨h.ok, h.now, ⟨us, hrow, fun j hl => ?_⟩, Nat.le_trans (by simp; omega) h.le, h.sep1, h.sep2, h.new, h.below⟩
  have hl' : j < sts.length := by simp at hl; omega
  obtain ⟨u, h1, h2, h3⟩ := hent j hl'
  exact ⟨u, h1, by rw [List.getElem_take]; exact h2, h3⟩

/-- The disk turns. -/
theorem Mem.disk {w0 wr w' : World} {p gn R : Nat} {d : Dk} {vst : Value} {fnow : Nat → List Int} {sts : List (Nat → List Int)} {d' : Dk} (h : Mem w0 wr p gn d vst R fnow sts) (hok : d'.ok w' p) (hU : Upd (· ∈ d.foot p) wr w') (hg : Grew wr (d.foot p) (d'.foot p)) : Mem w0 w' p gn d' vst R fnow sts := by
  have hlt := h.lt
  have hUM : Upd (· ∈ MM d p gn vst) wr w' := hU.mono (fun x _ hx => List.mem_append.2 (.inl hx))
  have hgM : Grew' wr (MM d p gn vst) (MM d' p gn vst) := by
    intro x hx
    rcases List.mem_append.1 hx with hx | hx
    · rcases hg x hx with h1 | h1
      · exact .inl (List.mem_append.2 (.inl h1))
      · exact .inr h1
    · exact .inl (List.mem_append.2 (.inr hx))
  have hgn : gn < wr.heap.size := hlt gn (by simp [MM])
  have hvl : ∀ k, vst.ownBlock = some k → k < wr.heap.size := fun k hk => hlt k (by simp [MM, vb, hk])
  obtain ⟨vs, hr, hj⟩ := h.now
  obtain ⟨us, hrow, hent⟩ := h.row
  have hout : ∀ k, k < wr.heap.size → k ∉ MM d p gn vst → k ∉ MM d' p gn vst := by
    intro k hk hn hx
    rcases hgM k hx with h1 | h1
    · exact hn h1
    · omega
  refine ⟨hok, ⟨vs, hU.own hr (fun k hk => by simp [Value.ownBlock] at hk; subst hk; exact h.sep1), fun j hl => ?_⟩, ⟨us, hU.own hrow (fun k hk => (h.sep2 k hk).1), fun j hl => ?_⟩, h.le, ?_, fun k hk => ⟨?_, (h.sep2 k hk).2⟩, ?_, ?_⟩
  · obtain ⟨u, h1, h2⟩ := hj j hl
    exact ⟨u, h1, h2.upd hUM hgM⟩
  · obtain ⟨u, h1, h2, h3⟩ := hent j hl
    have h2' := h2
    obtain ⟨vs2, hr2, _⟩ := h2'
    exact ⟨u, h1, h2.upd hUM hgM h3, fun k hk => hout k (hr2.lt k hk).2 (h3 k hk)⟩
  · intro hx
    rcases hg gn hx with h1 | h1
    · exact h.sep1 h1
    · omega
  · intro hx
    rcases hg k hx with h1 | h1
    · exact (h.sep2 k hk).1 h1
    · have := hvl k hk; omega
  · intro x hx
    rcases hgM x hx with h1 | h1
    · exact h.new x h1
    · have := h.below.size; omega
  · exact h.below.trans (hU.below h.below.size (fun x hx => h.new x (List.mem_append.2 (.inl hx))))

/-- A sector of 'now' turns. -/
theorem Mem.setnow {w0 wr : World} {p gn R : Nat} {d : Dk} {vst : Value} {fnow : Nat → List Int} {sts : List (Nat → List Int)} {i : Nat} {u : Value} {bs : List Int} (h : Mem w0 wr p gn d vst R fnow sts) (hi : i < 4) (hu : Byt wr (MM d p gn vst) u bs) (hu1 : u.oneCell' = true) :
    Mem w0 (wr.setCell ⟨gn, i, none⟩ u) p gn d vst R (fun j => if j = i then bs else fnow j) sts := by
  have hU : Upd (· = gn) wr (wr.setCell ⟨gn, i, none⟩ u) := Upd.setCell wr _ _ rfl
  have hUM : Upd (· ∈ MM d p gn vst) wr (wr.setCell ⟨gn, i, none⟩ u) := hU.mono (fun x _ hx => by simp [MM, hx])
  obtain ⟨vs, hr, hj⟩ := h.now
  obtain ⟨us, hrow, hent⟩ := h.row
  have hst := hr.stored i u
  have hvl : vs.length = 4 := by have := hr.1; omega
  refine ⟨h.ok.upd hU (fun k hk e => h.sep1 (e ▸ hk)), ⟨vs.set i u, hst.1, fun j hl => ?_⟩, ⟨us, hU.own hrow (fun k hk => (h.sep2 k hk).2), fun j hl => ?_⟩, h.le, h.sep1, h.sep2, h.new, h.below.trans (hU.below h.below.size (fun x hx => h.new x (by simp [MM, hx])))⟩
  · by_cases hji : j = i
    · subst hji
      refine ⟨u, by simp [hvl, hl], ?_⟩
      simp only [if_true]
      exact hu.upd hUM (grew_refl _ _)
    · obtain ⟨u2, h1, h2⟩ := hj j hl
      refine ⟨u2, by rw [List.getElem?_set, if_neg (fun e => hji e.symm)]; exact h1, ?_⟩
      simp only [if_neg hji]
      exact h2.upd hUM (grew_refl _ _)
  · obtain ⟨u2, h1, h2, h3⟩ := hent j hl
    exact ⟨u2, h1, h2.upd hUM (grew_refl _ _) h3, h3⟩

/-- The row of states grows. -/
theorem Mem.grow {w0 wr w' : World} {p gn R : Nat} {d : Dk} {vst : Value} {fnow : Nat → List Int} {sts : List (Nat → List Int)} {vst' : Value} {us' : List Value} (h : Mem w0 wr p gn d vst R fnow sts) (hU : Upd (fun x => vst.ownBlock = some x) wr w') (hv : vst'.ownBlock = vst.ownBlock ∨ ∀ x, vst'.ownBlock = some x → wr.heap.size ≤ x)
    (hpre : ∀ us, wr.ownsRow 0 42 1 vst R us → w'.ownsRow 0 42 1 vst' (R + 1) (us ++ us')) : Mem w0 w' p gn d vst' (R + 1) fnow sts := by
  have hlt := h.lt
  have hUM : Upd (· ∈ MM d p gn vst) wr w' := hU.mono (fun x _ hx => by simp [MM, vb, hx])
  have hgM : Grew' wr (MM d p gn vst) (MM d p gn vst') := by
    intro x hx
    simp only [MM, List.mem_append, List.mem_cons] at hx ⊢
    rcases hx with hx | hx | hx
    · exact .inl (.inl hx)
    · exact .inl (.inr (.inl hx))
    · have hx' : vst'.ownBlock = some x := by simpa [vb] using hx
      rcases hv with hv | hv
      · exact .inl (.inr (.inr (by simp [vb, ← hv, hx'])))
      · exact .inr (hv x hx')
  have hgn : gn < wr.heap.size := hlt gn (by simp [MM])
  have hfl : ∀ k ∈ d.foot p, k < wr.heap.size := h.ok.lt
  obtain ⟨vs, hr, hj⟩ := h.now
  obtain ⟨us, hrow, hent⟩ := h.row
  have hout : ∀ k, k < wr.heap.size → k ∉ MM d p gn vst → k ∉ MM d p gn vst' := by
    intro k hk hn hx
    rcases hgM k hx with h1 | h1
    · exact hn h1
    · omega
  refine ⟨h.ok.upd hU (fun k hk e => (h.sep2 k e).1 hk), ⟨vs, hU.own hr (fun k hk e => by simp [Value.ownBlock] at hk; exact (h.sep2 k e).2 hk.symm), fun j hl => ?_⟩, ⟨us ++ us', hpre us hrow, fun j hl => ?_⟩, Nat.le_succ_of_le h.le, h.sep1, fun k hk => ?_, ?_, ?_⟩
  · obtain ⟨u, h1, h2⟩ := hj j hl
    exact ⟨u, h1, h2.upd hUM hgM⟩
  · obtain ⟨u, h1, h2, h3⟩ := hent j hl
    have h2' := h2
    obtain ⟨vs2, hr2, _⟩ := h2'
    exact ⟨u, by rw [List.getElem?_append_left (List.getElem?_eq_some_iff.1 h1).1]; exact h1, h2.upd hUM hgM h3, fun k hk => hout k (hr2.lt k hk).2 (h3 k hk)⟩
  · rcases hv with hv | hv
    · exact h.sep2 k (hv ▸ hk)
    · have h1 := hv k hk
      exact ⟨fun hx => by have := hfl k hx; omega, by omega⟩
  · intro x hx
    rcases hgM x hx with h1 | h1
    · exact h.new x h1
    · have := h.below.size; omega
  · exact h.below.trans (hU.below h.below.size (fun x hx => h.new x (by simp [MM, vb, hx])))

/-- The last state is laid. -/
theorem Mem.setst {w0 wr : World} {p gn R : Nat} {d : Dk} {vst : Value} {fnow : Nat → List Int} {sts : List (Nat → List Int)} {gs cs : Nat} {v' : Value} {f : Nat → List Int} (h : Mem w0 wr p gn d vst R fnow sts) (hvst : vst = .slice (some ⟨gs, 0, none⟩) R cs) (hR : sts.length + 1 = R) (hp : Pic wr (MM d p gn vst) v' 4 f) (hv : ∀ k, v'.ownBlock = some k → k ∉ MM d p gn vst) (h1 : v'.oneCell' = true) :
    Mem w0 (wr.setCell ⟨gs, sts.length, none⟩ v') p gn d vst R fnow (sts ++ [f]) := by
  have hU : Upd (· = gs) wr (wr.setCell ⟨gs, sts.length, none⟩ v') := Upd.setCell wr _ _ rfl
  have hgs : gs ∈ MM d p gn vst := by simp [MM, vb, hvst, Value.ownBlock]
  have hUM : Upd (· ∈ MM d p gn vst) wr (wr.setCell ⟨gs, sts.length, none⟩ v') := hU.mono (fun x _ hx => hx ▸ hgs)
  have hs2 := h.sep2 gs (by rw [hvst]; rfl)
  obtain ⟨vs, hr, hj⟩ := h.now
  obtain ⟨us, hrow, hent⟩ := h.row
  rw [hvst] at hrow
  have hul : us.length = R := by have := hrow.1; omega
  have hst := hrow.stored sts.length v'
  rw [← hvst] at hst
  refine ⟨h.ok.upd hU (fun k hk e => hs2.1 (e ▸ hk)), ⟨vs, hU.own hr (fun k hk e => by simp [Value.ownBlock] at hk; exact hs2.2 (by omega)), fun j hl => ?_⟩, ⟨us.set sts.length v', hst.1, fun j hl => ?_⟩, by simp; omega, h.sep1, h.sep2, h.new, h.below.trans (hU.below h.below.size (fun x hx => h.new x (hx ▸ hgs)))⟩
  · obtain ⟨u, h2, h3⟩ := hj j hl
    exact ⟨u, h2, h3.upd hUM (grew_refl _ _)⟩
  · by_cases hjs : j = sts.length
    · subst hjs
      refine ⟨v', by rw [List.getElem?_set, if_pos rfl, if_pos (by omega)], ?_, hv⟩
      simp only [List.getElem_append_right (Nat.le_refl _), Nat.sub_self, List.getElem_cons_zero]
      exact hp.upd hUM (grew_refl _ _) hv
    · have hl' : j < sts.length := by simp at hl; omega
      obtain ⟨u, h2, h3, h4⟩ := hent j hl'
      refine ⟨u, by rw [List.getElem?_set, if_neg (fun e => hjs e.symm)]; exact h2, ?_, h4⟩
      rw [List.getElem_append_left hl']
      exact h3.upd hUM (grew_refl _ _) h4

end Go.Proofs.Yteclnjnhjccogaa
