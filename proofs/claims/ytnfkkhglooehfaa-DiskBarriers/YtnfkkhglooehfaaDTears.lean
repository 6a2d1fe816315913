/- The road of DiskTears: it returns true for every list of calls and every int, and leaves what was there. -/
import Derived.Test.YtnfkkhglooehfaaDTearsB
import Derived.Test.YtnfkkhglooehfaaDCrashT
namespace Go.Proofs.Ytnfkkhglooehfaa
open Go.RowKit
set_option linter.unusedVariables false

theorem Try.tinfo3 : (Try.prog.info? 3).map (fun i => (i.zero, i.size, i.bytes)) = some (some (.int .i64 0), 1, 8) := by kernel_rfl

/-- What is known of the states behind played. -/
theorem states_of {w w1 : World} {p gn : Nat} {d : Dk} {vst : Value} {fnow : Nat → List Int} {sts : List (Nat → List Int)} {opn : Bool} {X : List Nat} (hmem : Mem w w1 p gn d vst sts.length fnow sts X) (habs : Abst d fnow sts opn) :
    ∃ gs cs, vst = .slice (some ⟨gs, 0, none⟩) (d.eps.length + 1) cs ∧ d.eps.length + 1 ≤ cs ∧ cs ≤ 9223372036854775807 ∧ ∃ k0 c0, w1.cell? ⟨gs, 0, none⟩ = some (.slice (some ⟨k0, 0, none⟩) 4 c0) ∧ (∃ f0 : Nat → List Int, Pic w1 (d.foot p) (.slice (some ⟨k0, 0, none⟩) 4 c0) 4 f0 ∧ ∀ i, i < 4 → f0 i = sec d.dur i) ∧ k0 ∉ d.foot p := by
  have hl := habs.len
  obtain ⟨us, hrow, hent, hdis⟩ := hmem.row
  obtain ⟨u0, k0, hu0, hk0, hx0, hp0⟩ := hent 0 (by omega)
  obtain ⟨c0, rfl, _⟩ := own_slice hp0.choose_spec.1 hk0
  obtain ⟨av, cs, rfl, h1, h2⟩ := own_shape hrow
  obtain ⟨gs, rfl⟩ : ∃ gs, av = some ⟨gs, 0, none⟩ := by
    rcases hrow.2 with ⟨_, h⟩ | ⟨g, c, cur, h, _⟩
    · omega
    · injection h with h1 h2 h3; exact ⟨g, h1⟩
  refine ⟨gs, cs, by rw [hl], by omega, h2, k0, c0, ?_, ⟨_, hp0.weaken (fun x hx => List.mem_append.2 (.inl (List.mem_append.2 (.inl hx)))), fun i hi => habs.st 0 (by omega) i hi⟩, fun hx => (hmem.xs k0 hx0).2.2 (List.mem_append.2 (.inl hx))⟩
  rw [hrow.cellAt 0 (by omega), hu0]

/-- What DiskTears has behind played and Epochs, if there is an epoch. -/
structure Prep (w w1 w2 : World) (p gs : Nat) (d : Dk) (M : List Nat) (k0 c0 k1 c1 : Nat) (f0 f1 : Nat → List Int) (ge m ce : Nat) (es : List Snt) (e : Ep) : Prop where
  frm : Frm w w2 p gs 0 1 d M k0 c0 k1 c1 f0 f1
  head : w2.cell? ⟨w1.heap.size, 0, none⟩ = some (.slice (some ⟨ge, 0, none⟩) m ce)
  len : es.length = m
  m1 : 1 ≤ m
  m4 : m ≤ 4
  mce : m ≤ ce
  cem : ce ≤ 9223372036854775807
  row : w2.ownsRow 0 57 2 (.slice (some ⟨ge, 0, none⟩) m ce) m (sentCells es)
  gek : ge ≠ k0
  e0 : d.eps[0]? = some e
  secs : es.map Snt.sec = e.es.map Snt.sec
  s4 : ∀ s ∈ es, s.sec < 4
  h0 : ∀ i, i < 4 → f0 i = sec d.dur i
  h1 : ∀ i, i < 4 → f1 i = overE (sec d.dur) e.ab i
  l1 : ∀ i, i < 4 → (f1 i).length = 128

theorem prep {w w1 w2 : World} {p gn gs cs L : Nat} {d : Dk} {fnow : Nat → List Int} {sts : List (Nat → List Int)} {opn : Bool} {X : List Nat} {E : List Ep} (hmem : Mem w w1 p gn d (.slice (some ⟨gs, 0, none⟩) (L + 1) cs) (L + 1) fnow sts X) (habs : Abst d fnow sts opn) (hL : L = d.eps.length) (hL0 : 0 < L) (hpart : Part w1 w2 w1.heap.size d.eps.length d.n d.eps.length d.eps E) :
    ∃ M k0 c0 k1 c1 f0 f1 ge m ce es e, Prep w w1 w2 p gs d M k0 c0 k1 c1 f0 f1 ge m ce es e := by
  have hsl : sts.length = L + 1 := by rw [habs.len, hL]
  obtain ⟨k0, c0, k1, c1, hF⟩ := frm_of hmem hsl hpart.below 0 1 (by omega) (by omega)
  have hel : E.length = d.eps.length := hpart.len
  obtain ⟨e, he⟩ : ∃ e, d.eps[0]? = some e := ⟨_, List.getElem?_eq_getElem (by omega)⟩
  obtain ⟨e0, he0⟩ : ∃ e0, E[0]? = some e0 := ⟨_, List.getElem?_eq_getElem (by omega)⟩
  have hab : e0.ab = e.ab := by
    have h := hpart.ab
    rw [List.take_of_length_le (Nat.le_refl _)] at h
    have h2 := congrArg (fun l => l[0]?) h
    simpa [List.getElem?_map, he, he0] using h2
  have hm0 : e0 ∈ E := List.mem_of_getElem? he0
  have hme : e ∈ d.eps := List.mem_of_getElem? he
  have hok0 := hpart.ok e0 hm0
  have hlen : e0.es.length = e.es.length := by have := congrArg List.length hab; simpa [Ep.ab] using this
  have hsecs : e0.es.map Snt.sec = e.es.map Snt.sec := by
    have := congrArg (fun l => l.map Prod.fst) hab
    simpa [Ep.ab, List.map_map, Function.comp_def, Snt.ab] using this
  have hne : e.ab ≠ [] := habs.ne e.ab (List.mem_map.2 ⟨e, hme, rfl⟩)
  have hpos : 1 ≤ e0.es.length := by
    rw [hlen]
    rcases Nat.eq_zero_or_pos e.es.length with h | h
    · exact absurd (by simp [Ep.ab, List.eq_nil_of_length_eq_zero h]) hne
    · exact h
  have hn4 : d.n = 4 := habs.n4
  have hrise := hok0.rise
  rw [hn4] at hrise
  have hs4 : ∀ s ∈ e0.es, s.sec < 4 := fun s hs => hrise.2 s.sec (List.mem_map.2 ⟨s, hs, rfl⟩)
  have hm4 : e0.es.length ≤ 4 := by have := rise_len hrise; simpa using this
  obtain ⟨ae, ce, hev, h1, h2⟩ := own_shape hok0.row
  obtain ⟨ge, rfl⟩ : ∃ ge, ae = some ⟨ge, 0, none⟩ := by
    rcases hok0.row.2 with ⟨_, h⟩ | ⟨g, c, cur, h, _⟩
    · omega
    · rw [hev] at h; injection h with h1 h2 h3; exact ⟨g, h1⟩
  have hrow0 := hok0.row
  rw [hev] at hrow0
  have hgem : ge ∈ E.flatMap Ep.foot := List.mem_flatMap.2 ⟨e0, hm0, by simp [Ep.foot, vb, hev, Value.ownBlock]⟩
  have hgen := hpart.new ge hgem
  have hk0l : k0 < w1.heap.size := by
    obtain ⟨us, hrow, hent, _⟩ := hmem.row
    obtain ⟨u, k, q1, q2, q3, q4⟩ := hent 0 (by omega)
    have hc := (own_below hrow hpart.below).cellAt 0 (by omega)
    rw [hF.row0, q1] at hc
    injection hc with hc
    subst hc
    simp [Value.ownBlock] at q2
    subst q2
    exact (hmem.xs k0 q3).1
  have hwr := hmem.ok.writes e.ab (List.mem_map.2 ⟨e, hme, rfl⟩)
  have hdl : ∀ i, i < 4 → (sec d.dur i).length = 128 := fun i hi => length_sec d.dur 4 i (by have := hmem.ok.dur.1; rw [hn4] at this; simpa using this) hi
  have hst1 : ∀ i, i < 4 → (sts[1]'(by omega)) i = overE (sec d.dur) e.ab i := fun i hi => by
    rw [habs.st 1 (by omega) i hi]
    have : d.ab.take 1 = [e.ab] := by
      have hd : d.eps = e :: d.eps.drop 1 := by
        cases hd : d.eps with
        | nil => rw [hd] at he; simp at he
        | cons a l => rw [hd] at he; simp at he; simp [he]
      simp only [Dk.ab]
      rw [hd]; simp
    rw [this]; rfl
  refine ⟨_, k0, c0, k1, c1, _, _, ge, e0.es.length, ce, e0.es, e, ⟨hF, ?_, rfl, hpos, hm4, h1, h2, hrow0, by omega, he, hsecs, hs4, fun i hi => habs.st 0 (by omega) i hi, hst1, fun i hi => ?_⟩⟩
  · rw [hpart.row.cellAt 0 (by omega), List.getElem?_append_left (by simp; omega), List.getElem?_map, he0, ← hev]; rfl
  · rw [hst1 i hi]
    exact overE_len e.ab (fun s hs => (hwr.2 s hs).1) i _ (hdl i hi)

/-- What comes behind the crash. -/
structure Fin (w wF : World) (p k0 c0 : Nat) (d : Dk) (D : List Int) (F : Nat → List Int) : Prop where
  ok : d.ok wF p
  n4 : d.n = 4
  dur : d.dur = D
  pic : Pic wF [] (.slice (some ⟨k0, 0, none⟩) 4 c0) 4 F
  eq : ∀ j, j < 4 → sec D j = F j
  below : Below w.heap.size w wF

theorem Fin.later {w wF wG : World} {p k0 c0 : Nat} {d : Dk} {D : List Int} {F : Nat → List Int} (h : Fin w wF p k0 c0 d D F) (hb : Below wF.heap.size wF wG) : Fin w wG p k0 c0 d D F :=
  ⟨h.ok.frame fun k hk => hb.block k (h.ok.lt k hk), h.n4, h.dur, h.pic.upd (Upd.of_below hb) (grew_refl _ _) (fun k _ hk => by simp at hk), h.eq, h.below.trans (hb.mono h.below.size)⟩

theorem Fin.image {w wF : World} {p k0 c0 : Nat} {d : Dk} {D : List Int} {F : Nat → List Int} (h : Fin w wF p k0 c0 d D F) :
    Calls Try.prog 20 #[.pointer (some ⟨p, 0, none⟩)] wF fun e w' => ∃ g, e = .returned (.slice (some ⟨g, 0, none⟩) 4 4) ∧ Pic w' [] (.slice (some ⟨g, 0, none⟩) 4 4) 4 (sec D) ∧ Below wF.heap.size wF w' := by
  refine (image_any _ p wF h.ok [] (fun x hx => by simp at hx)).mono ?_
  rintro e w' ⟨g, h1, h2, h3, h4⟩
  rw [h.n4] at h1 h2
  rw [h.dur] at h2
  exact ⟨g, h1, h2.weaken (fun x hx => by simp at hx), h4⟩

theorem fin_of {w wE wF : World} {p k0 c0 : Nat} {d : Dk} {D : List Int} {F : Nat → List Int} (hst : Settled wE d p D wF) (hn : d.n = 4) (hpic : Pic wE (d.foot p) (.slice (some ⟨k0, 0, none⟩) 4 c0) 4 F) (hk : k0 ∉ d.foot p) (heq : ∀ j, j < 4 → sec D j = F j) (hb : Below w.heap.size w wE) (hnew : ∀ x ∈ d.foot p, w.heap.size ≤ x) :
    Fin w wF p k0 c0 { d with dur := D, wr := D, ve := .slice none 0 0, eps := [], opn := false } D F :=
  ⟨hst.1, hn, rfl, (hpic.upd hst.2 (grew_refl _ _) (fun k e hx => by simp [Value.ownBlock] at e; subst e; exact hk hx)).weaken (fun x hx => by simp at hx), heq, hb.trans (hst.2.below hb.size hnew)⟩

/-- What lands of the epoch is what is wanted. -/
theorem tears_end {w w1 w2 : World} {p gs ge m ce k0 c0 k1 c1 t S : Nat} {d : Dk} {M : List Nat} {f0 f1 : Nat → List Int} {es : List Snt} {e : Ep} (h : Prep w w1 w2 p gs d M k0 c0 k1 c1 f0 f1 ge m ce es e) (hok : d.ok w2 p) (hn : d.n = 4) (hd : d.dur = List.replicate 512 0) (ks : List Nat) (hks : ks = es.map Snt.sec) (hS : ks.getLast? = some S) :
    ∀ j, j < 4 → sec (landL (landAll d.dur (d.ab.take 0)) (tornE (e.es.filter (fun s => decide (s.sec ∈ ks))) t)) j = tornF f0 f1 ks S (min t 128) j := by
  have hme : e ∈ d.eps := List.mem_of_getElem? h.e0
  have heok := hok.eps e hme
  rw [hn] at heok
  have hfil : e.es.filter (fun s => decide (s.sec ∈ ks)) = e.es := by
    apply List.filter_eq_self.2
    intro s hs
    rw [hks, h.secs]
    simpa using ⟨s, hs, rfl⟩
  rw [hfil]
  rw [hks, h.secs] at hS
  rw [hks, h.secs]
  rcases List.eq_nil_or_concat e.es with he | ⟨ini, s, he⟩
  · rw [he] at hS; simp at hS
  · rw [List.concat_eq_append] at he
    have hSs : s.sec = S := by rw [he] at hS; simpa using hS
    have hr := heok.rise
    have hbs : ∀ x ∈ e.es, x.bs.length = 128 := fun x hx => (heok.es x hx).1
    have hab : e.ab = e.es.map Snt.ab := rfl
    have h1 := h.h1
    rw [hab] at h1
    rw [he] at hr hbs h1 ⊢
    have hdl : d.dur.length = 4 * 128 := by rw [hd, List.length_replicate]
    have hz : ∀ i, i < 4 → sec d.dur i = List.replicate 128 0 := by
      intro i hi
      rw [hd]
      simp only [sec, List.drop_replicate, List.take_replicate]
      congr 1
      omega
    intro j hj
    have ht : ∀ x ∈ tornE (ini ++ [s]) t, x.1 < 4 ∧ x.2.length ≤ 128 := by
      intro x hx
      have e1 : tornE (ini ++ [s]) t = ini.map Snt.ab ++ [(s.sec, s.bs.take (min t 128))] := by simp [tornE]
      rw [e1] at hx
      rcases List.mem_append.1 hx with hx | hx
      · obtain ⟨y, hy, rfl⟩ := List.mem_map.1 hx
        exact ⟨hr.2 y.sec (List.mem_map.2 ⟨y, by simp [hy], rfl⟩), by have := hbs y (by simp [hy]); simp [Snt.ab]; omega⟩
      · rcases List.mem_singleton.1 hx with rfl
        exact ⟨hr.2 s.sec (by simp), by simp; omega⟩
    have e2 : landAll d.dur (d.ab.take 0) = d.dur := by simp [landAll]
    rw [e2, sec_landL 4 _ d.dur hdl ht j, tears_math (sec d.dur) f0 f1 ini s t hr.1 hr.2 hbs hz h.h0 h1 j hj, hSs]

theorem ints_of {w : World} {v : Value} {ks : List Nat} (h : w.ownsRow 0 3 1 v ks.length (ks.map fun (k : Nat) => Value.int .i64 (k : Int))) : ∃ kk kc, v = .slice kk ks.length kc ∧ ks.length ≤ kc ∧ kc ≤ 9223372036854775807 ∧ Ints w kk ks ∧ (0 < ks.length → ∃ g, kk = some ⟨g, 0, none⟩) := by
  rcases h.2 with ⟨rfl, h0⟩ | ⟨g, c, cur, rfl, _, _, h1, h2, _⟩
  · refine ⟨none, 0, by rw [h0], by omega, by omega, fun hp => by omega, fun hp => by omega⟩
  · refine ⟨some ⟨g, 0, none⟩, c, rfl, h1, by unfold maxLen at h2; omega, fun hp => ⟨g, 0, rfl, (h.lt g rfl).2, fun j hj => ?_⟩, fun _ => ⟨g, rfl⟩⟩
    rw [Nat.zero_add, h.cellAt j (by omega), List.getElem?_map, List.getElem?_eq_getElem hj]; rfl

set_option maxHeartbeats 4000000 in
set_option maxRecDepth 20000 in
theorem tears_road (al : Option Addr) (ll cl : Nat) (torn : Int) (w : World) (hl : Dos w al ll) (hll : ll ≤ 1800000000000) (hlc : ll ≤ cl) (hcl : cl ≤ 9223372036854775807) :
    Calls Try.prog 6 #[.slice al ll cl, .int .i64 torn] w fun e w' => e = .returned (.bool true) ∧ Below w.heap.size w w' := by
  have k0 := hid (played_any al ll cl w hl hll hlc hcl)
  obtain ⟨t, gt⟩ : ∃ t : Nat, (t : Int) = (torn % 18446744073709551616) % 130 := ⟨((torn % 18446744073709551616) % 130).toNat, by omega⟩
  have ht : t < 130 := by omega
  have hw : wrap64 ((IntKind.u64.wrap torn).tmod 130) = (t : Int) := by
    rw [IntKind.wrap_u64, Int.tmod_eq_emod_of_nonneg (by omega)]; unfold wrap64; omega
  have HW := hid hw
  clear hl gt hw
  go_enter Try.func6, Try.ntmps6
  go_wp2_with fail
  refine k0.out.mono ?_
  rintro r w1 ⟨p, gn, d, vst, fnow, sts, opn, X, rfl, hmem, habs, hel⟩
  obtain ⟨gs, cs, hvst, hcs1, hcs2, k0', c0, hcell0, ⟨fz, hpic0, hfz⟩, hk0d⟩ := states_of hmem habs
  subst hvst
  have HMEM := hid hmem
  have HABS := hid habs
  obtain ⟨L, gL⟩ : ∃ L, L = d.eps.length := ⟨_, rfl⟩
  rw [← gL] at hcs1 hel ⊢
  have GL := hid gL
  have HP0 := hid hpic0
  have HK0 := hid hk0d
  have HFZ := hid hfz
  clear hmem habs gL hpic0 hk0d hfz
  have hcs0 : (0 : Int) < ((L + 1 : Nat) : Int) := by omega
  rcases Nat.eq_zero_or_pos L with hL0 | hL0
  · subst hL0
    go_wp2_with fail
    rw [HW.out]
    refine (crash_nil d p 0 t w1 HMEM.out.ok (Nat.zero_le _) (by rw [← GL.out]; omega)).mono ?_
    rintro r w6 ⟨rfl, hst⟩
    have hF := fin_of (w := w) (F := fz) hst HABS.out.n4 HP0.out HK0.out (fun j hj => (HFZ.out j hj).symm) HMEM.out.below (fun x hx => HMEM.out.new x (List.mem_append.2 (.inl hx)))
    clear hst
    obtain ⟨dF, gF⟩ : ∃ dF : Dk, dF = { d with dur := landAll d.dur (List.take 0 d.ab), wr := landAll d.dur (List.take 0 d.ab), ve := .slice none 0 0, eps := [], opn := false } := ⟨_, rfl⟩
    rw [← gF] at hF
    have HF := hid hF
    clear hF gF
    go_wp2_with fail
    refine HF.out.image.mono ?_
    rintro r w7 ⟨gi, rfl, hpi, hb7⟩
    have HF7 := hid (HF.out.later hb7)
    have HPI := hid hpi
    clear hpi hb7
    go_wp2_with fail
    refine (same_yes _ _ 4 _ _ [] [] _ HPI.out HF7.out.pic (by omega) HF7.out.eq).mono ?_
    rintro r w8 ⟨rfl, rfl⟩
    have kS := hid (dsectors _ p _ HF7.out.ok)
    rw [HF7.out.n4] at kS
    go_wp2_with fail
    refine kS.out.mono ?_
    rintro r w9 ⟨rfl, rfl⟩
    go_wp2_with fail
    go_ret
    exact ⟨rfl, HF7.out.below⟩
  · have h1L : (1 : Int) < ((L + 1 : Nat) : Int) := by omega
    have kE := hid (epochs_any d p w1 HMEM.out.ok (by rw [← GL.out]; omega))
    have HMEM2 : Hid (Mem w w1 p gn d (.slice (some ⟨gs, 0, none⟩) (L + 1) cs) (L + 1) fnow sts X) := by
      have h := HMEM.out
      have e : sts.length = L + 1 := by rw [HABS.out.len, GL.out]
      rw [e, ← GL.out] at h
      exact hid h
    have hpr := hid (fun w2 E h => prep (E := E) (w2 := w2) HMEM2.out HABS.out GL.out hL0 h)
    rw [← GL.out] at kE
    go_wp2_with fail
    rw [HW.out]
    refine kE.out.mono ?_
    rintro r w2 ⟨E, rfl, hpart⟩
    obtain ⟨M, k0, c0', k1, c1, f0, f1, ge, m, ce, es, e, hP⟩ := hpr.out w2 E (by rw [← GL.out]; exact hpart)
    have hb12 := hpart.below
    have hc2 := (hb12.cell (p := ⟨gs, 0, none⟩) (World.block_lt_of_cell? w1 _ hcell0)).trans hcell0
    rw [hP.frm.row0] at hc2
    injection hc2 with hc2
    injection hc2 with hc3 hc4 hc5
    injection hc3 with hc3
    injection hc3 with hc3
    subst hc3
    subst hc5
    have HPR := hid hP
    have hhead := hP.head
    have i0 : (0 : Int) < (L : Int) := by omega
    clear hP hpart hb12 hc4
    go_wp2_with fail
    have hm1 := HPR.out.m1
    have hm4 := HPR.out.m4
    have hgs := HPR.out.frm.lg
    go_loopw [8, 35] (fun v8 s wr => ∃ j : Nat, j ≤ m ∧ s = .int .i64 j ∧ Hid (Tr w2 wr M k0 c0' (mix f0 f1 ((es.take j).map Snt.sec)) ((es.take j).map Snt.sec).getLast? v8 ((es.take j).map Snt.sec))) (fun _ s _ => m - (intOf s).toNat)
    case atStart => exact ⟨0, by omega, rfl, hid (by simpa using Tr.start HPR.out.frm)⟩
    case round =>
      obtain ⟨j, hjm, rfl, HT⟩ := hrel
      by_cases hj : j < m
      · obtain ⟨i3, hi3, hz0, hz1, hz2⟩ := info_parts Try.tinfo3
        have hjl : j < es.length := by rw [HPR.out.len]; exact hj
        obtain ⟨s, gs'⟩ : ∃ s, s = es[j] := ⟨_, rfl⟩
        have hs4 : s.sec < 4 := HPR.out.s4 s (by rw [gs']; exact List.getElem_mem hjl)
        have htk : (es.take (j + 1)).map Snt.sec = (es.take j).map Snt.sec ++ [s.sec] := by rw [List.take_add_one, List.getElem?_eq_getElem hjl, gs', List.map_append]; rfl
        have hkl : ((es.take j).map Snt.sec).length = j := by simp; omega
        obtain ⟨ks, gk⟩ : ∃ ks, ks = (es.take j).map Snt.sec := ⟨_, rfl⟩
        rw [← gk] at HT htk hkl
        have hF := HPR.out.frm
        have hk0l : k0 < w2.heap.size := hF.lM k0 hF.k0M
        have hgel := (HPR.out.row.lt ge rfl).2
        have hrow := HT.out.upd.own HPR.out.row (fun k hk => by simp [Value.ownBlock] at hk; subst hk; have := HPR.out.gek; omega)
        have hsc := sentCells_at es j hjl
        have q0 : wr.cell? ⟨ge, j * 2, none⟩ = some (.int .i64 (s.sec : Int)) := by rw [hrow.cellAt _ (by omega), hsc.1, gs']
        have q1 : wr.cell? ⟨ge, j * 2 + 1, none⟩ = some s.val := by rw [hrow.cellAt _ (by omega), hsc.2, gs']
        have hkeep := HT.out.keep
        rw [hkl] at hkeep
        have HKP := hid hkeep
        obtain ⟨S, gS⟩ : ∃ S : Nat, S = s.sec := ⟨_, rfl⟩
        obtain ⟨V, gV⟩ : ∃ V : Value, V = s.val := ⟨_, rfl⟩
        have hVs : ∃ av cv, V = .slice (some ⟨av, 0, none⟩) 128 cv := ⟨s.blk, s.cap, by rw [gV]; rfl⟩
        obtain ⟨av, cv, hVs⟩ := hVs
        rw [← gS] at hs4 htk q0
        rw [← gV, hVs] at q1
        have HTK := hid htk
        have HKL := hid hkl
        clear gs' gS gV hVs hrow hsc hkeep htk hkl gk
        have i1 : (0 : Int) ≤ (S : Int) := by omega
        have i2 : (S : Int) < 4 := by omega
        go_wp2_with (at_builtin; go_must (refine wpList_append_where rfl (.tmp 39) (.tmp 42) 36 rfl 3 i3 (.int .i64 0) 1 8 Try.underlying36 hi3 hz0 hz1 hz2 rfl (by decide) _ j (ks.map fun (k : Nat) => Value.int .i64 (k : Int)) rfl ((HKP.out.alloc _).alloc _) ⟨wr.heap.size + 1, 0, none⟩ 1 1 [.int .i64 (S : Int)] rfl rfl ?_ (by simp [Value.oneCell']) (by unfold maxLen; omega) (by omega) ?_))
        case refine_1 =>
          intro j' u hu
          cases j' with
          | zero =>
            simp at hu
            subst hu
            have hn := heap_alloc_new (wr.alloc (.cells #[.int .i64 (S : Int), .slice (some ⟨av, 0, none⟩) 128 cv] 57)) (.cells #[.int .i64 (S : Int)] 3)
            rw [Addr.add_lit, cell_of_row _ (wr.heap.size + 1) 0 #[.int .i64 (S : Int)] 3 (0, 0) (by simpa using hn)]
            rfl
          | succ j' => simp at hu
        intro v8' wB hown hUB hnn hwhere
        obtain ⟨wA, gA⟩ : ∃ wA, wA = (wr.alloc (.cells #[.int .i64 (S : Int), .slice (some ⟨av, 0, none⟩) 128 cv] 57)).alloc (.cells #[.int .i64 (S : Int)] 3) := ⟨_, rfl⟩
        rw [← gA] at hUB
        have hbA : Below wr.heap.size wr wA := by rw [gA]; exact ((Below.refl _ _).alloc (Nat.le_refl _) _).alloc (by simp) _
        have hszA : wA.heap.size = wr.heap.size + 2 := by rw [gA]; simp
        have hvA : wA.heap[wr.heap.size]? = some (.cells #[.int .i64 (S : Int), .slice (some ⟨av, 0, none⟩) 128 cv] 57 (0, 0)) := by
          rw [gA, ((Below.refl (wr.heap.size + 1) (wr.alloc (.cells #[.int .i64 (S : Int), .slice (some ⟨av, 0, none⟩) 128 cv] 57))).alloc (by simp) _).block _ (by omega), heap_alloc_new wr]
        have hv8l : ∀ x, u8.ownBlock = some x → x < wr.heap.size := fun x hx => own_lt HKP.out (by simp [vb, hx])
        have hU2B : Upd (fun x => x = k0 ∨ w2.heap.size ≤ x) w2 wB := ((HT.out.upd.trans (Upd.of_below (F := fun x => x = k0 ∨ w2.heap.size ≤ x) hbA) (fun _ _ h => h)).trans hUB (fun x hx h => .inr (HT.out.kn x (by simp [vb, h]))))
        have hgd : k0 ≠ gs := HPR.out.frm.k0g
        have hk01 : k0 ≠ k1 := HPR.out.frm.k01
        obtain ⟨vs1, hr1, hent1⟩ := HPR.out.frm.p1
        have hk1l := (hr1.lt k1 rfl).2
        obtain ⟨ub, hub, aa, cc, hub2, hsb, hmb⟩ := hent1 S hs4
        have hal := src_lt hsb (by omega)
        have hak : aa.block ≠ k0 := fun e => hmb (by rw [e]; exact HPR.out.frm.k0M)
        have HSB : Hid (Src wB (some aa) 128 (f1 S)) := hid (hU2B.src hsb (fun b o e => by injection e with e; subst e; simp only at hal hak; omega))
        have a1 : wB.cell? ⟨wr.heap.size, 0, none⟩ = some (.int .i64 (S : Int)) := by
          rw [cell_of_row wB wr.heap.size 0 _ 57 (0, 0) (hUB.heap hvA (fun e => by have := hv8l _ e; omega))]; rfl
        have a2 : wB.cell? ⟨gs, 1, none⟩ = some (.slice (some ⟨k1, 0, none⟩) 4 c1) := by
          rw [World.cell?_of_block (a := ⟨gs, 1, none⟩) (hU2B.block gs hgs (by omega))]; exact HPR.out.frm.row1
        have hr1B := hU2B.own hr1 (fun k hk => by simp [Value.ownBlock] at hk; subst hk; omega)
        have a3 : wB.cell? ⟨k1, S, none⟩ = some (.slice (some aa) 128 cc) := by rw [hr1B.cellAt S (by omega), hub, hub2]
        obtain ⟨vs0, hr0, hent0, _⟩ := HT.out.want
        have hr0B := (hUB.own (own_below hr0 hbA) (fun k hk e => by simp [Value.ownBlock] at hk; subst hk; have := HT.out.kn k0 (by simp [vb, e]); omega))
        obtain ⟨uo, huo, _⟩ := hent0 S hs4
        have a4 : wB.cell? ⟨k0, S, none⟩ = some uo := by rw [hr0B.cellAt S (by omega), huo]
        have a5 : wB.frozen? ⟨k0, S, none⟩ = false := hr0B.frozenAt S
        have zB : wr.heap.size + 2 ≤ wB.heap.size := by have := hUB.size; omega
        have z2r : w2.heap.size ≤ wr.heap.size := HT.out.upd.size
        have HUB := hid hUB
        have HBA := hid hbA
        have HOWN := hid hown.out
        have HWH := hid hwhere.out
        have HSZ := hid hszA
        have n1 : k0 ≠ wr.heap.size := by omega
        clear gA hUB hbA hvA hv8l hU2B hr1 hent1 hub hub2 hsb hmb hr1B hr0 hent0 hr0B huo hown hnn hwhere hszA q0 q1
        go_wp2_with fail
        go_region_held3 (fun wx => wx.cell? ⟨wr.heap.size, 0, none⟩ = some (.int .i64 (S : Int)) ∧ wx.cell? ⟨gs, 1, none⟩ = some (.slice (some ⟨k1, 0, none⟩) 4 c1) ∧ wx.cell? ⟨k1, S, none⟩ = some (.slice (some aa) 128 cc)) (go_keep) (first | (go_at_call 21; refine (clone_any aa 128 cc (f1 S) _ (by exact HSB.out) (by omega)).mono ?_; rintro e wC ⟨gl, cl', rfl, hoc, hbc⟩; have b1 : wC.cell? ⟨wr.heap.size, 0, none⟩ = some (.int .i64 (S : Int)) := ((hbc.cell (p := ⟨wr.heap.size, 0, none⟩) (by show wr.heap.size < wB.heap.size; omega)).trans a1); have b2 : wC.cell? ⟨gs, 1, none⟩ = some (.slice (some ⟨k1, 0, none⟩) 4 c1) := ((hbc.cell (p := ⟨gs, 1, none⟩) (by show gs < wB.heap.size; omega)).trans a2); have b3 : wC.cell? ⟨k1, S, none⟩ = some (.slice (some aa) 128 cc) := ((hbc.cell (p := ⟨k1, S, none⟩) (by show k1 < wB.heap.size; omega)).trans a3); have b4 : wC.cell? ⟨k0, S, none⟩ = some uo := ((hbc.cell (p := ⟨k0, S, none⟩) (by show k0 < wB.heap.size; omega)).trans a4); have b5 : wC.frozen? ⟨k0, S, none⟩ = false := ((World.frozen?_of_block (a := ⟨k0, S, none⟩) (hbc.block k0 (by show k0 < wB.heap.size; omega))).trans a5); have HOC := hid hoc; have HBC := hid hbc; clear hoc hbc))
        go_wp2_with fail
        go_roundw
        case rel =>
          refine ⟨j + 1, by omega, by go_num, ?_⟩
          have hB := HBC.out
          have hst := Tr.step (wD := wC.setCell ⟨k0, S, none⟩ (.slice (some ⟨gl, 0, none⟩) 128 cl')) HT.out hk0l HPR.out.frm.lM HPR.out.frm.k0M hs4 (HPR.out.l1 S hs4) HBA.out HUB.out (v8' := v8') (by rw [HKL.out, List.map_append]; exact HOWN.out) (by rw [HSZ.out]; exact HWH.out) (⟨hB.os, hB.tape, hB.output, hB.size, hB.block⟩ : Below wB.heap.size wB wC) HOC.out rfl rfl rfl rfl
          rw [HTK.out, List.getLast?_concat]
          exact hid hst
        case measure => simp [intOf]; omega
      · obtain rfl : j = m := by omega
        have htk : (es.take j).map Snt.sec = es.map Snt.sec := by rw [List.take_of_length_le (by rw [HPR.out.len]; exact Nat.le_refl _)]
        obtain ⟨ks, gk⟩ : ∃ ks, ks = es.map Snt.sec := ⟨_, rfl⟩
        rw [htk, ← gk] at HT
        have hkl : ks.length = j := by rw [gk, List.length_map, HPR.out.len]
        obtain ⟨S, hS⟩ : ∃ S, ks.getLast? = some S := by
          rcases List.eq_nil_or_concat ks with h | ⟨a, b, h⟩
          · rw [h] at hkl; simp at hkl; omega
          · exact ⟨b, by rw [h, List.concat_eq_append, List.getLast?_concat]⟩
        rw [hS] at HT
        have hSm : S ∈ ks := List.mem_of_getLast? hS
        have hS4 : S < 4 := by
          rw [gk] at hSm
          obtain ⟨x, hx, rfl⟩ := List.mem_map.1 hSm
          exact HPR.out.s4 x hx
        obtain ⟨kk, kc, hv8, hkc1, hkc2, hints, hg8⟩ := ints_of HT.out.keep
        obtain ⟨g8, rfl⟩ := hg8 (by omega)
        subst hv8
        obtain ⟨vs, hrw, hentw, hlast⟩ := HT.out.want
        obtain ⟨gl, cl', hvS, hrg, hgl2, hgl8, hoth⟩ := hlast S rfl
        have hfS : mix f0 f1 ks S = f1 S := by simp [mix, hSm]
        rw [hfS] at hrg
        have hlst : wr.cell? ⟨g8, j - 1, none⟩ = some (.int .i64 (S : Int)) := by
          obtain ⟨b', o', e', _, hc'⟩ := hints (by omega)
          injection e' with e'; injection e' with e1 e2; subst e1; subst e2
          have h9 := hc' (j - 1) (by omega)
          rw [Nat.zero_add] at h9
          rw [h9]
          have : ks[j - 1]? = some S := by rw [List.getLast?_eq_getElem?, hkl] at hS; exact hS
          rw [List.getElem?_eq_getElem (by omega)] at this
          injection this with this
          rw [this]
        have hlst2 : wr.cell? ⟨g8, ks.length - 1, none⟩ = some (.int .i64 (S : Int)) := by rw [hkl]; exact hlst
        have i3 : (0 : Int) ≤ (ks.length : Int) - 1 := by omega
        have hw1 : wrap64 ((ks.length : Int) - 1) = ((j - 1 : Nat) : Int) := by rw [hkl]; unfold wrap64; omega
        have i1 : (0 : Int) ≤ ((j - 1 : Nat) : Int) := by omega
        have i2 : ((j - 1 : Nat) : Int) < (ks.length : Int) := by omega
        obtain ⟨T, gT⟩ : ∃ T, T = min t 128 := ⟨_, rfl⟩
        have hmin : (if (128 : Int) < (t : Int) then (128 : Int) else (t : Int)) = (T : Int) := by rw [gT]; split <;> omega
        have hT : T ≤ 128 := by omega
        have GT := hid gT
        have GK := hid gk
        have HSS := hid hS
        have HKL := hid hkl
        have HINT := hid hints
        have HRW := hid hrw
        have HRG := hid hrg
        have HVS := hid hvS
        have HOTH := hid hoth
        have hf1l := HPR.out.l1 S hS4
        have hS0 : (0 : Int) ≤ (S : Int) := by omega
        have hS4' : (S : Int) < 4 := by omega
        have hk0l : k0 < w2.heap.size := HPR.out.frm.lM k0 HPR.out.frm.k0M
        have hw2r := HT.out.upd.size
        clear gT gk hS hkl hints hentw hlast hrw hrg hvS hoth htk hSm hfS
        go_wp2_with fail
        rename World => w3
        have hglk : gl ≠ k0 := by omega
        go_loopw [12] (fun s wr => ∃ i : Nat, T ≤ i ∧ i ≤ 128 ∧ s = .int .i64 i ∧ Hid (wr.ownsRow 0 5 1 (.slice (some ⟨gl, 0, none⟩) 128 cl') 128 ((nulled (f1 S) T i).map (Value.int .u8))) ∧ Hid (Upd (fun x => x = gl) w3 wr)) (fun s _ => 128 - (intOf s).toNat)
        case atStart => exact ⟨T, Nat.le_refl _, hT, rfl, hid (by rw [nulled_start]; exact HRG.out), hid (Upd.refl _ _)⟩
        case round =>
          obtain ⟨i, hTi, hi128, rfl, HG, HU⟩ := hrel
          have hrE := HU.out.own HRW.out (fun k hk => by simp [Value.ownBlock] at hk; subst hk; exact fun e => hglk e.symm)
          have hcW : wr.cell? ⟨k0, S, none⟩ = some (.slice (some ⟨gl, 0, none⟩) 128 cl') := by rw [hrE.cellAt S (by omega), HVS.out]
          by_cases hi : i < 128
          · obtain ⟨z, hz⟩ := nulled_get (f1 S) T i hf1l hTi hi
            have hcell : wr.cell? ⟨gl, i, none⟩ = some (.int .u8 z) := by rw [HG.out.cellAt i (by omega), List.getElem?_map, hz]; rfl
            have hfr : wr.frozen? ⟨gl, i, none⟩ = false := HG.out.frozenAt i
            have HN : Hid ((wr.setCell ⟨gl, i, none⟩ (.int .u8 0)).ownsRow 0 5 1 (.slice (some ⟨gl, 0, none⟩) 128 cl') 128 ((nulled (f1 S) T (i + 1)).map (Value.int .u8))) := by
              rw [← nulled_set (f1 S) T i hf1l hTi hi, List.map_set]
              exact hid (HG.out.stored i (.int .u8 0)).1
            have HU2 : Hid (Upd (fun x => x = gl) w3 (wr.setCell ⟨gl, i, none⟩ (.int .u8 0))) := hid (HU.out.trans (Upd.setCell (F := fun x => x = gl) wr ⟨gl, i, none⟩ (.int .u8 0) rfl) (fun _ _ h => h))
            have hi' : (i : Int) < 128 := by omega
            clear hrE hz
            go_wp2_with fail
            go_roundw
            case rel => exact ⟨i + 1, by omega, by omega, by go_num, HN, HU2⟩
            case measure => simp [intOf]; omega
          · obtain rfl : i = 128 := by omega
            have hF := HPR.out.frm
            have hokE : d.ok wr p := (hF.ok.upd HT.out.upd (fun k hk h => by
              rcases h with h | h
              · exact hF.k0d (h ▸ hk)
              · have := hF.lM k (hF.dM k hk); omega)).upd HU.out (fun k hk h => by have := hF.lM k (hF.dM k hk); omega)
            have hkE := HU.out.own HT.out.keep (fun k hk e => hgl8 (by simp [vb, ← e, hk]))
            obtain ⟨kk', kc', hv', _, _, hintE, _⟩ := ints_of hkE
            injection hv' with hv1 hv2 hv3
            subst hv1
            subst hv3
            have hpicE : Pic wr (d.foot p) (.slice (some ⟨k0, 0, none⟩) 4 c0') 4 (tornF f0 f1 ks S T) := by
              refine ⟨vs, hrE, fun q hq => ?_⟩
              by_cases hqS : q = S
              · subst hqS
                have hg := HG.out
                rw [nulled_end _ _ hf1l] at hg
                exact ⟨_, HVS.out, ⟨gl, 0, none⟩, cl', rfl, by rw [tornF, if_pos rfl]; exact Src.own hg, fun hx => by have := hF.lM gl (hF.dM gl hx); omega⟩
              · obtain ⟨u, h1, h2⟩ := HOTH.out q hq hqS
                refine ⟨u, h1, ?_⟩
                rw [tornF, if_neg hqS]
                exact (h2.upd (HU.out.mono (fun x _ hx => by subst hx; exact List.mem_cons_self)) (grew_refl _ _)).weaken (fun x hx => List.mem_cons_of_mem _ (List.mem_append.2 (.inr (hF.dM x hx))))
            have hbE : Below w.heap.size w wr := (hF.below.trans (HT.out.upd.below hF.below.size (fun x hx => by
              have h0 := hF.new0
              have h1 := hF.below.size
              rcases hx with hx | hx <;> omega))).trans (HU.out.below (by have := hF.below.size; omega) (fun x hx => by have := hF.below.size; omega))
            have hrise := (HMEM.out.ok.eps e (List.mem_of_getElem? HPR.out.e0)).rise
            have hks' : ks = e.es.map Snt.sec := by rw [GK.out, HPR.out.secs]
            have hnd : ks.Nodup := by rw [hks']; exact hrise.1.imp (fun h => Nat.ne_of_lt h)
            have hin : ∀ k ∈ ks, ∃ q, ∃ h : q < e.es.length, e.es[q].sec = k := by
              intro k hk
              rw [hks'] at hk
              obtain ⟨x, hx, rfl⟩ := List.mem_map.1 hk
              obtain ⟨q, hq, rfl⟩ := List.getElem_of_mem hx
              exact ⟨q, hq, rfl⟩
            have hlt0 : 0 < d.eps.length := by rw [← GL.out]; exact hL0
            have he0 : e = d.eps[0] := by
              have := HPR.out.e0
              rw [List.getElem?_eq_getElem hlt0] at this
              injection this with this
              exact this.symm
            have heq := tears_end (t := t) HPR.out hF.ok HABS.out.n4 HABS.out.dur ks GK.out HSS.out
            rw [← GT.out] at heq
            have kCr := hid (crash_keep d p 0 t e (some ⟨g8, 0, none⟩) kc ks wr hokE hlt0 he0 (by rw [← GL.out]; omega) (by omega) hintE hkc1 hkc2 hnd hin)
            have hfin := hid (fun wF (h : Settled wr d p (landL (landAll d.dur (d.ab.take 0)) (tornE (e.es.filter (fun s => decide (s.sec ∈ ks))) t)) wF) => fin_of (w := w) h HABS.out.n4 hpicE hF.k0d heq hbE (fun x hx => HMEM.out.new x (List.mem_append.2 (.inl hx))))
            obtain ⟨DD, gD⟩ : ∃ DD, DD = landL (landAll d.dur (d.ab.take 0)) (tornE (e.es.filter (fun s => decide (s.sec ∈ ks))) t) := ⟨_, rfl⟩
            rw [← gD] at kCr hfin
            clear gD heq hin hnd hks' hrise hbE hpicE hv2 hintE hkE hokE he0 hlt0 hrE hcW hF
            go_wp2_with fail
            refine kCr.out.mono ?_
            rintro r w6 ⟨rfl, hst⟩
            have hF := hfin.out w6 hst
            clear hst
            obtain ⟨dF, gF⟩ : ∃ dF : Dk, dF = { d with dur := DD, wr := DD, ve := .slice none 0 0, eps := [], opn := false } := ⟨_, rfl⟩
            rw [← gF] at hF
            have HF := hid hF
            clear hF gF
            go_wp2_with fail
            refine HF.out.image.mono ?_
            rintro r w7 ⟨gi, rfl, hpi, hb7⟩
            have HF7 := hid (HF.out.later hb7)
            have HPI := hid hpi
            clear hpi hb7
            go_wp2_with fail
            refine (same_yes _ _ 4 _ _ [] [] _ HPI.out HF7.out.pic (by omega) HF7.out.eq).mono ?_
            rintro r w8 ⟨rfl, rfl⟩
            have kS := hid (dsectors _ p _ HF7.out.ok)
            rw [HF7.out.n4] at kS
            go_wp2_with fail
            refine kS.out.mono ?_
            rintro r w9 ⟨rfl, rfl⟩
            go_wp2_with fail
            go_ret
            exact ⟨rfl, HF7.out.below⟩

end Go.Proofs.Ytnfkkhglooehfaa
