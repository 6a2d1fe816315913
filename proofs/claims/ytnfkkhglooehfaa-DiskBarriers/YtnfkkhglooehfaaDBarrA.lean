/- What DiskBarriers plays, without memory; and what it has in memory. -/
import Derived.Test.YtnfkkhglooehfaaDTears
namespace Go.Proofs.Ytnfkkhglooehfaa
open Go.RowKit
set_option linter.unusedVariables false

/-- Whole writes of an epoch. -/
theorem torn_whole (es : List Snt) (hb : ∀ x ∈ es, x.bs.length = 128) : tornE es 128 = es.map Snt.ab := by
  rcases List.eq_nil_or_concat es with rfl | ⟨ini, s, rfl⟩
  · simp [tornE]
  · rw [List.concat_eq_append] at hb ⊢
    have := hb s (by simp)
    simp [tornE, Snt.ab, List.take_of_length_le (show s.bs.length ≤ 128 by omega)]

/-- A write that is there is what is there behind it. -/
theorem overE_mem (es : List Snt) (hr : (es.map Snt.sec).Pairwise (· < ·)) (s : Snt) (hs : s ∈ es) (f : Nat → List Int) (hf : (f s.sec).length = 128) (hb : ∀ x ∈ es, x.bs.length = 128) : overE f (es.map Snt.ab) s.sec = s.bs := by
  induction es generalizing f with
  | nil => simp at hs
  | cons x es ih =>
    rw [List.map_cons, List.pairwise_cons] at hr
    rw [List.map_cons, overE_cons]
    have hxb : x.bs.length = 128 := hb x (by simp)
    rcases List.mem_cons.1 hs with rfl | hs'
    · rw [overE_other _ _ (fun y hy e => by
        obtain ⟨z, hz, rfl⟩ := List.mem_map.1 hy
        have := hr.1 z.sec (List.mem_map.2 ⟨z, hz, rfl⟩)
        simp only [Snt.ab] at e
        omega)]
      simp only [Snt.ab]
      rw [if_pos trivial, List.drop_of_length_le (by omega), List.append_nil]
    · refine ih hr.2 hs' _ ?_ (fun y hy => hb y (by simp [hy]))
      show (if s.sec = x.sec then x.bs ++ (f s.sec).drop x.bs.length else f s.sec).length = 128
      have hlt := hr.1 s.sec (List.mem_map.2 ⟨s, hs', rfl⟩)
      rw [if_neg (by omega)]
      exact hf

theorem barr_math (f f0 f1 : Nat → List Int) (es : List Snt) (P : Snt → Bool) (hr : (es.map Snt.sec).Pairwise (· < ·)) (hb : ∀ x ∈ es, x.bs.length = 128) (hf : ∀ i, i < 4 → (f i).length = 128) (h0 : ∀ i, i < 4 → f0 i = f i) (h1 : ∀ i, i < 4 → f1 i = overE f (es.map Snt.ab) i) (ks : List Nat) (hk : ∀ i, i ∈ ks ↔ i ∈ (es.filter P).map Snt.sec) (i : Nat) (hi : i < 4) :
    overE f ((es.filter P).map Snt.ab) i = mix f0 f1 ks i := by
  have hrf : ((es.filter P).map Snt.sec).Pairwise (· < ·) := hr.sublist ((List.filter_sublist (p := P) (l := es)).map _)
  unfold mix
  by_cases hm : i ∈ ks
  · rw [if_pos hm, h1 i hi]
    obtain ⟨s, hs, rfl⟩ := List.mem_map.1 ((hk i).1 hm)
    have hs' := (List.mem_filter.1 hs).1
    rw [overE_mem _ hrf s hs f (hf _ hi) (fun x hx => hb x (List.mem_filter.1 hx).1), overE_mem _ hr s hs' f (hf _ hi) hb]
  · rw [if_neg hm, h0 i hi]
    refine overE_other _ _ (fun y hy e => hm ((hk i).2 ?_)) f
    obtain ⟨x, hx, rfl⟩ := List.mem_map.1 hy
    exact List.mem_map.2 ⟨x, hx, e⟩

/-- A state as it lies behind played. -/
theorem state_at {w w1 : World} {p gn gs cs L : Nat} {d : Dk} {fnow : Nat → List Int} {sts : List (Nat → List Int)} {opn : Bool} {X : List Nat} (hmem : Mem w w1 p gn d (.slice (some ⟨gs, 0, none⟩) (L + 1) cs) (L + 1) fnow sts X) (habs : Abst d fnow sts opn) (hL : L = d.eps.length) (ia : Nat) (hia : ia ≤ L) :
    ∃ k c f, w1.cell? ⟨gs, ia, none⟩ = some (.slice (some ⟨k, 0, none⟩) 4 c) ∧ Pic w1 (MM d p gn (.slice (some ⟨gs, 0, none⟩) (L + 1) cs) ++ X) (.slice (some ⟨k, 0, none⟩) 4 c) 4 f ∧ (∀ i, i < 4 → f i = over (sec d.dur) (d.ab.take ia) i) ∧ k ∈ X := by
  have hsl : sts.length = L + 1 := by rw [habs.len, hL]
  obtain ⟨us, hrow, hent, hdis⟩ := hmem.row
  obtain ⟨u, k, hu, hk, hx, hp⟩ := hent ia (by omega)
  obtain ⟨c, rfl, _⟩ := own_slice hp.choose_spec.1 hk
  exact ⟨k, c, _, by rw [hrow.cellAt ia (by omega), hu], hp, fun i hi => habs.st ia (by omega) i hi, hx⟩

/-- Two states, the first of which is written into. -/
structure Two (w : World) (gs ia : Nat) (M : List Nat) (k0 c0 k1 c1 : Nat) (f0 f1 : Nat → List Int) : Prop where
  row0 : w.cell? ⟨gs, ia, none⟩ = some (.slice (some ⟨k0, 0, none⟩) 4 c0)
  row1 : w.cell? ⟨gs, ia + 1, none⟩ = some (.slice (some ⟨k1, 0, none⟩) 4 c1)
  p0 : Pic w M (.slice (some ⟨k0, 0, none⟩) 4 c0) 4 f0
  p1 : Pic w M (.slice (some ⟨k1, 0, none⟩) 4 c1) 4 f1
  k0M : k0 ∈ M
  k0g : k0 ≠ gs
  k01 : k0 ≠ k1
  lg : gs < w.heap.size

theorem Two.upd {F : Nat → Prop} {w w' : World} {gs ia k0 c0 k1 c1 : Nat} {M : List Nat} {f0 f1 : Nat → List Int} (h : Two w gs ia M k0 c0 k1 c1 f0 f1) (u : Upd F w w') (hF : ∀ x, x < w.heap.size → F x → x ∈ M) (hg : ¬ F gs) (h0 : ¬ F k0) (h1 : ¬ F k1) : Two w' gs ia M k0 c0 k1 c1 f0 f1 := by
  have hU : Upd (· ∈ M) w w' := u.mono hF
  have hc : ∀ o, w'.cell? ⟨gs, o, none⟩ = w.cell? ⟨gs, o, none⟩ := fun o => World.cell?_of_block (a := ⟨gs, o, none⟩) (u.block gs h.lg hg)
  have hp : ∀ k c f, Pic w M (.slice (some ⟨k, 0, none⟩) 4 c) 4 f → ¬ F k → Pic w' M (.slice (some ⟨k, 0, none⟩) 4 c) 4 f := by
    intro k c f ⟨vs, hr, hj⟩ hk
    refine ⟨vs, u.own hr (fun q hq => by simp [Value.ownBlock] at hq; subst hq; exact hk), fun j hl => ?_⟩
    obtain ⟨v, h2, h3⟩ := hj j hl
    exact ⟨v, h2, h3.upd hU (grew_refl _ _)⟩
  exact ⟨(hc ia).trans h.row0, (hc (ia + 1)).trans h.row1, hp _ _ _ h.p0 h0, hp _ _ _ h.p1 h1, h.k0M, h.k0g, h.k01, Nat.lt_of_lt_of_le h.lg u.size⟩

/-- The first state, of which some sectors are those of the second. -/
structure Tw (w6 w : World) (M : List Nat) (k0 c0 : Nat) (f : Nat → List Int) : Prop where
  pic : Pic w M (.slice (some ⟨k0, 0, none⟩) 4 c0) 4 f
  upd : Upd (fun x => x = k0) w6 w

theorem Tw.step {w6 w : World} {M : List Nat} {k0 c0 s : Nat} {ub : Value} {f f' : Nat → List Int} {bs : List Int} (h : Tw w6 w M k0 c0 f) (hk0M : k0 ∈ M) (hs : s < 4) (hb : Byt w M ub bs) (hf : ∀ i, i < 4 → f' i = if i = s then bs else f i) : Tw w6 (w.setCell ⟨k0, s, none⟩ ub) M k0 c0 f' := by
  have hU : Upd (fun x => x = k0) w (w.setCell ⟨k0, s, none⟩ ub) := Upd.setCell w _ _ rfl
  have hUM : Upd (· ∈ M) w (w.setCell ⟨k0, s, none⟩ ub) := hU.mono (fun x _ hx => by subst hx; exact hk0M)
  obtain ⟨vs, hr, hj⟩ := h.pic
  have hvl : vs.length = 4 := by have := hr.1; simpa using this
  refine ⟨⟨_, (hr.stored s ub).1, fun i hi => ?_⟩, h.upd.trans hU (fun _ _ h => h)⟩
  rw [hf i hi]
  by_cases his : i = s
  · subst his
    exact ⟨ub, by rw [List.getElem?_set_self (by omega)], by rw [if_pos rfl]; exact hb.upd hUM (grew_refl _ _)⟩
  · obtain ⟨u, h1, h2⟩ := hj i hi
    exact ⟨u, by rw [List.getElem?_set_ne (fun e => his e.symm)]; exact h1, by rw [if_neg his]; exact h2.upd hUM (grew_refl _ _)⟩

theorem landAll_len (N : Nat) (eps : List (List (Nat × List Int))) : ∀ L : List Int, L.length = N * 128 → (∀ e ∈ eps, ∀ s ∈ e, s.1 < N ∧ s.2.length ≤ 128) → (landAll L eps).length = N * 128 := by
  induction eps with
  | nil => intro L h _; exact h
  | cons e eps ih => intro L h he; exact ih _ (landL_len N e L h (he e (by simp))) (fun t ht => he t (by simp [ht]))

theorem sec_landAll (N : Nat) (eps : List (List (Nat × List Int))) : ∀ L : List Int, L.length = N * 128 → (∀ e ∈ eps, ∀ s ∈ e, s.1 < N ∧ s.2.length ≤ 128) → ∀ j, sec (landAll L eps) j = over (sec L) eps j := by
  induction eps with
  | nil => intro L _ _ j; rfl
  | cons e eps ih =>
    intro L h he j
    have h1 := sec_landL N e L h (he e (by simp))
    have e1 : landAll L (e :: eps) = landAll (landL L e) eps := rfl
    have e2 : over (sec L) (e :: eps) = over (overE (sec L) e) eps := rfl
    rw [e1, e2, ih _ (landL_len N e L h (he e (by simp))) (fun t ht => he t (by simp [ht])) j]
    exact over_cong eps j _ _ (h1 j)

/-- What DiskBarriers has behind played and Epochs, of an epoch that is there. -/
structure PrepB (w w2 w3 : World) (p gs k : Nat) (d : Dk) (M : List Nat) (k0 c0 k1 c1 : Nat) (f0 f1 : Nat → List Int) (ge m ce : Nat) (es : List Snt) (e : Ep) : Prop where
  two : Two w3 gs k M k0 c0 k1 c1 f0 f1
  ok : d.ok w3 p
  dM : ∀ x ∈ d.foot p, x ∈ M
  k0d : k0 ∉ d.foot p
  k1d : k1 ∉ d.foot p
  gd : gs ∉ d.foot p
  k0l : k0 < w3.heap.size
  k1l : k1 < w3.heap.size
  k0n : w.heap.size ≤ k0
  head : w3.cell? ⟨w2.heap.size, k, none⟩ = some (.slice (some ⟨ge, 0, none⟩) m ce)
  len : es.length = m
  m4 : m ≤ 4
  mce : m ≤ ce
  cem : ce ≤ 9223372036854775807
  row : w3.ownsRow 0 57 2 (.slice (some ⟨ge, 0, none⟩) m ce) m (sentCells es)
  e0 : d.eps[k]? = some e
  secs : es.map Snt.sec = e.es.map Snt.sec
  s4 : ∀ s ∈ es, s.sec < 4
  h0 : ∀ i, i < 4 → f0 i = over (sec d.dur) (d.ab.take k) i
  h1 : ∀ i, i < 4 → f1 i = overE (over (sec d.dur) (d.ab.take k)) e.ab i
  new : ∀ x ∈ d.foot p, w.heap.size ≤ x
  below : Below w.heap.size w w3

theorem prepB {w w1 w2 w3 : World} {p gn gs cs L k : Nat} {d : Dk} {fnow : Nat → List Int} {sts : List (Nat → List Int)} {opn : Bool} {X : List Nat} {E : List Ep} (hmem : Mem w w1 p gn d (.slice (some ⟨gs, 0, none⟩) (L + 1) cs) (L + 1) fnow sts X) (habs : Abst d fnow sts opn) (hL : L = d.eps.length) (hk : k < L) (hb : Below w1.heap.size w1 w2) (hpart : Part w2 w3 w2.heap.size d.eps.length d.n d.eps.length d.eps E) :
    ∃ M k0 c0 k1 c1 f0 f1 ge m ce es e, PrepB w w2 w3 p gs k d M k0 c0 k1 c1 f0 f1 ge m ce es e := by
  have hsl : sts.length = L + 1 := by rw [habs.len, hL]
  have hb13 : Below w1.heap.size w1 w3 := hb.trans (hpart.below.mono hb.size)
  obtain ⟨k0, c0, f0, hc0, hp0, hf0, hx0⟩ := state_at hmem habs hL k (by omega)
  obtain ⟨k1, c1, f1, hc1, hp1, hf1, hx1⟩ := state_at hmem habs hL (k + 1) (by omega)
  have hgs : gs ∈ MM d p gn (.slice (some ⟨gs, 0, none⟩) (L + 1) cs) := by simp [MM, vb, Value.ownBlock]
  have hlt := hmem.lt
  have hxs0 := hmem.xs k0 hx0
  have hxs1 := hmem.xs k1 hx1
  have hne : k0 ≠ k1 := by
    obtain ⟨us, hrow, hent, hdis⟩ := hmem.row
    have e0 := hrow.cellAt k (by omega)
    have e1 := hrow.cellAt (k + 1) (by omega)
    rw [hc0] at e0
    rw [hc1] at e1
    intro e
    exact hdis k (k + 1) _ _ k0 (by omega) (by omega) e0.symm e1.symm rfl (by rw [e]; rfl)
  have hTwo1 : Two w1 gs k (MM d p gn (.slice (some ⟨gs, 0, none⟩) (L + 1) cs) ++ X) k0 c0 k1 c1 f0 f1 := ⟨hc0, hc1, hp0, hp1, List.mem_append.2 (.inr hx0), fun e => hxs0.2.2 (e ▸ hgs), hne, hlt gs hgs⟩
  have hTwo : Two w3 gs k (MM d p gn (.slice (some ⟨gs, 0, none⟩) (L + 1) cs) ++ X) k0 c0 k1 c1 f0 f1 := hTwo1.upd (F := fun _ => False) (Upd.of_below hb13) (fun _ _ h => h.elim) (fun h => h) (fun h => h) (fun h => h)
  have hel : E.length = d.eps.length := hpart.len
  obtain ⟨e, he⟩ : ∃ e, d.eps[k]? = some e := ⟨_, List.getElem?_eq_getElem (by omega)⟩
  obtain ⟨e0, he0⟩ : ∃ e0, E[k]? = some e0 := ⟨_, List.getElem?_eq_getElem (by omega)⟩
  have hab : e0.ab = e.ab := by
    have h := hpart.ab
    rw [List.take_of_length_le (Nat.le_refl _)] at h
    have h2 := congrArg (fun l => l[k]?) h
    simpa [List.getElem?_map, he, he0] using h2
  have hm0 : e0 ∈ E := List.mem_of_getElem? he0
  have hme : e ∈ d.eps := List.mem_of_getElem? he
  have hok0 := hpart.ok e0 hm0
  have hlen : e0.es.length = e.es.length := by have := congrArg List.length hab; simpa [Ep.ab] using this
  have hsecs : e0.es.map Snt.sec = e.es.map Snt.sec := by
    have := congrArg (fun l => l.map Prod.fst) hab
    simpa [Ep.ab, List.map_map, Function.comp_def, Snt.ab] using this
  have hne' : e.ab ≠ [] := habs.ne e.ab (List.mem_map.2 ⟨e, hme, rfl⟩)
  have hpos : 1 ≤ e0.es.length := by
    rw [hlen]
    rcases Nat.eq_zero_or_pos e.es.length with h | h
    · exact absurd (by simp [Ep.ab, List.eq_nil_of_length_eq_zero h]) hne'
    · exact h
  have hn4 : d.n = 4 := habs.n4
  have hrise := hok0.rise
  rw [hn4] at hrise
  have hs4 : ∀ s ∈ e0.es, s.sec < 4 := fun s hs => hrise.2 s.sec (List.mem_map.2 ⟨s, hs, rfl⟩)
  have hm4 : e0.es.length ≤ 4 := by have := rise_len hrise; simpa using this
  obtain ⟨ae, ce, hev, h1, h2⟩ := own_shape hok0.row
  obtain ⟨ge, rfl⟩ : ∃ ge, ae = some ⟨ge, 0, none⟩ := by
    rcases hok0.row.2 with ⟨_, h⟩ | ⟨g, c, cur, h, _⟩
    · omega
    · rw [hev] at h; injection h with h1 h2 h3; exact ⟨g, h1⟩
  have hrow0 := hok0.row
  rw [hev] at hrow0
  have htake : d.ab.take (k + 1) = d.ab.take k ++ [e.ab] := by
    rw [List.take_add_one]
    simp [Dk.ab, List.getElem?_map, he]
  refine ⟨_, k0, c0, k1, c1, f0, f1, ge, e0.es.length, ce, e0.es, e, ⟨hTwo, hmem.ok.frame fun x hx => hb13.block x (hmem.ok.lt x hx), fun x hx => List.mem_append.2 (.inl (List.mem_append.2 (.inl hx))), fun hx => hxs0.2.2 (List.mem_append.2 (.inl hx)), fun hx => hxs1.2.2 (List.mem_append.2 (.inl hx)), (hmem.sep2 gs rfl).1, Nat.lt_of_lt_of_le hxs0.1 hb13.size, Nat.lt_of_lt_of_le hxs1.1 hb13.size, hxs0.2.1, ?_, rfl, hm4, h1, h2, hrow0, he, hsecs, hs4, hf0, fun i hi => ?_, fun x hx => hmem.new x (List.mem_append.2 (.inl hx)), hmem.below.trans (hb13.mono hmem.below.size)⟩⟩
  · rw [hpart.row.cellAt k (by omega), List.getElem?_append_left (by simp; omega), List.getElem?_map, he0, ← hev]; rfl
  · rw [hf1 i hi, htake, over_append]; rfl

/-- What lands is what is wanted. -/
theorem barr_end {w w2 w3 : World} {p gs k ge m ce k0 c0 k1 c1 : Nat} {d : Dk} {M : List Nat} {f0 f1 : Nat → List Int} {es : List Snt} {e : Ep} (h : PrepB w w2 w3 p gs k d M k0 c0 k1 c1 f0 f1 ge m ce es e) (hn : d.n = 4) (ks : List Nat) (hsub : ∀ i ∈ ks, i ∈ es.map Snt.sec) :
    ∀ j, j < 4 → sec (landL (landAll d.dur (d.ab.take k)) (tornE (e.es.filter (fun s => decide (s.sec ∈ ks))) 128)) j = mix f0 f1 ks j := by
  have hme : e ∈ d.eps := List.mem_of_getElem? h.e0
  have heok := h.ok.eps e hme
  rw [hn] at heok
  have hbs : ∀ x ∈ e.es, x.bs.length = 128 := fun x hx => (heok.es x hx).1
  have hwr := h.ok.writes
  rw [hn] at hwr
  have hall : ∀ a ∈ d.ab.take k, ∀ s ∈ a, s.1 < 4 ∧ s.2.length ≤ 128 := fun a ha s hs => ⟨((hwr a (List.mem_of_mem_take ha)).2 s hs).2, by have := ((hwr a (List.mem_of_mem_take ha)).2 s hs).1; omega⟩
  have hdl : d.dur.length = 4 * 128 := by have := h.ok.dur.1; rw [hn] at this; simpa using this
  have hfl : ∀ i, i < 4 → (over (sec d.dur) (d.ab.take k) i).length = 128 := fun i hi => over_len _ (fun a ha s hs => ((hwr a (List.mem_of_mem_take ha)).2 s hs).1) i _ (length_sec d.dur 4 i hdl hi)
  intro j hj
  rw [torn_whole _ (fun x hx => hbs x (List.mem_filter.1 hx).1), sec_landL 4 _ _ (landAll_len 4 _ _ hdl hall) (fun s hs => by
    obtain ⟨x, hx, rfl⟩ := List.mem_map.1 hs
    have hx' := (List.mem_filter.1 hx).1
    exact ⟨heok.rise.2 x.sec (List.mem_map.2 ⟨x, hx', rfl⟩), by have := hbs x hx'; simp [Snt.ab]; omega⟩) j,
    overE_cong _ j _ _ (sec_landAll 4 _ d.dur hdl hall j)]
  refine barr_math _ f0 f1 e.es _ heok.rise.1 hbs hfl h.h0 h.h1 ks (fun i => ⟨fun hi => ?_, fun hi => ?_⟩) j hj
  · have h2 := hsub i hi
    rw [h.secs] at h2
    obtain ⟨x, hx, rfl⟩ := List.mem_map.1 h2
    exact List.mem_map.2 ⟨x, List.mem_filter.2 ⟨hx, by simpa using hi⟩, rfl⟩
  · obtain ⟨x, hx, rfl⟩ := List.mem_map.1 hi
    simpa using (List.mem_filter.1 hx).2

/-- The image, written into the first state's place. -/
theorem Tw.fin {w w6 wr : World} {p k0 c0 : Nat} {d : Dk} {D : List Int} {M : List Nat} {F : Nat → List Int} (h : Tw w6 wr M k0 c0 F) (hok : d.ok w6 p) (hn : d.n = 4) (hd : d.dur = D) (hk : k0 ∉ d.foot p) (heq : ∀ j, j < 4 → sec D j = F j) (hb : Below w.heap.size w w6) (hk0 : w.heap.size ≤ k0) : Fin w wr p k0 c0 d D F :=
  ⟨hok.upd h.upd (fun x hx e => hk (e ▸ hx)), hn, hd, h.pic.weaken (fun x hx => by simp at hx), heq, hb.trans (h.upd.below hb.size (fun x e => by omega))⟩

end Go.Proofs.Ytnfkkhglooehfaa
