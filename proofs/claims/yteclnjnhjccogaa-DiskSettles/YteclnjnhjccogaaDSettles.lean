/- The road of DiskSettles: it returns true for every list of calls, and leaves what was there. -/
import Derived.Test.YteclnjnhjccogaaDPlayed
import Derived.Test.YteclnjnhjccogaaDCrash0
import Derived.Test.YteclnjnhjccogaaDCopy
namespace Go.Proofs.Yteclnjnhjccogaa
open Go.RowKit
set_option linter.unusedVariables false

/-- Images that are known in a world. -/
def Known (w : World) (l : List (Value × (Nat → List Int))) : Prop := ∀ x ∈ l, Pic w [] x.1 4 x.2

theorem Known.below {w w' : World} {l : List (Value × (Nat → List Int))} (h : Known w l) (hb : Below w.heap.size w w') : Known w' l := fun x hx =>
  (h x hx).upd (Upd.of_below hb) (grew_refl _ _) (fun k _ hk => by simp at hk)

theorem Known.cons {w : World} {l : List (Value × (Nat → List Int))} {v : Value} {f : Nat → List Int} (h : Known w l) (hp : Pic w [] v 4 f) : Known w ((v, f) :: l) := fun x hx => by
  rcases List.mem_cons.1 hx with rfl | hx
  · exact hp
  · exact h x hx

theorem same_known {w : World} {l : List (Value × (Nat → List Int))} {v1 v2 : Value} {f g : Nat → List Int} (h : Known w l) (h1 : (v1, f) ∈ l) (h2 : (v2, g) ∈ l) (hfg : ∀ j, j < 4 → f j = g j) :
    Calls Try.prog 16 #[v1, v2] w fun e w' => e = .returned (.bool true) ∧ w' = w :=
  same_yes v1 v2 4 f g [] [] w (h _ h1) (h _ h2) (by omega) hfg

theorem Settled.sec {w w' : World} {d : Dk} {p : Nat} {D : List Int} (h : Settled w d p D w') : (⟨d.n, d.gd, d.cd, d.gw, d.cw, D, D, .slice none 0 0, [], false⟩ : Dk).ok w' p := h.1

theorem landAll_len (N : Nat) (eps : List (List (Nat × List Int))) : ∀ L : List Int, L.length = N * 128 → (∀ e ∈ eps, ∀ s ∈ e, s.1 < N ∧ s.2.length ≤ 128) → (landAll L eps).length = N * 128 := by
  induction eps with
  | nil => intro L h _; exact h
  | cons e eps ih => intro L h he; exact ih _ (landL_len N e L h (he e (by simp))) (fun t ht => he t (by simp [ht]))

theorem sec_landAll (N : Nat) (eps : List (List (Nat × List Int))) : ∀ L : List Int, L.length = N * 128 → (∀ e ∈ eps, ∀ s ∈ e, s.1 < N ∧ s.2.length ≤ 128) → ∀ j, sec (landAll L eps) j = over (sec L) eps j := by
  induction eps with
  | nil => intro L _ _ j; rfl
  | cons e eps ih =>
    intro L h he j
    have h1 := sec_landL N e L h (he e (by simp))
    have e1 : landAll L (e :: eps) = landAll (landL L e) eps := rfl
    have e2 : over (sec L) (e :: eps) = over (overE (sec L) e) eps := rfl
    rw [e1, e2, ih _ (landL_len N e L h (he e (by simp))) (fun t ht => he t (by simp [ht])) j]
    exact over_cong eps j _ _ (h1 j)

/-- What is known behind played. -/
structure Begun (w w1 : World) (p gs cs L ll : Nat) (d : Dk) (aL a0 : Option Addr) (cL c0 : Nat) (fL f0 : Nat → List Int) : Prop where
  ok : d.ok w1 p
  n4 : d.n = 4
  len : d.eps.length = L
  le : L ≤ ll
  row : ∃ us, w1.ownsRow 0 42 1 (.slice (some ⟨gs, 0, none⟩) (L + 1) cs) (L + 1) us ∧ us[L]? = some (.slice aL 4 cL) ∧ us[0]? = some (.slice a0 4 c0)
  pL : Pic w1 (d.foot p) (.slice aL 4 cL) 4 fL ∧ ∀ k, (Value.slice aL 4 cL).ownBlock = some k → k ∉ d.foot p
  p0 : Pic w1 (d.foot p) (.slice a0 4 c0) 4 f0 ∧ ∀ k, (Value.slice a0 4 c0).ownBlock = some k → k ∉ d.foot p
  sep : gs ∉ d.foot p
  fL : ∀ j, j < 4 → sec (landAll d.dur d.ab) j = fL j
  f0 : ∀ j, j < 4 → sec d.dur j = f0 j
  new : ∀ x ∈ d.foot p, w.heap.size ≤ x
  below : Below w.heap.size w w1
  lcs : L + 1 ≤ cs
  mcs : cs ≤ 9223372036854775807

theorem begun {w w1 : World} {p gn ll : Nat} {d : Dk} {vst : Value} {fnow : Nat → List Int} {sts : List (Nat → List Int)} {opn : Bool} (hmem : Mem w w1 p gn d vst sts.length fnow sts) (habs : Abst d fnow sts opn) (hel : d.eps.length ≤ ll) :
    ∃ gs cs L aL a0 cL c0 fL f0, vst = .slice (some ⟨gs, 0, none⟩) (L + 1) cs ∧ Begun w w1 p gs cs L ll d aL a0 cL c0 fL f0 := by
  obtain ⟨us, hrow, hent⟩ := hmem.row
  obtain ⟨aas, cs, hvs, hcs1, hcs2⟩ := own_shape hrow
  obtain ⟨L, hL⟩ : ∃ L, sts.length = L + 1 := ⟨_, habs.len⟩
  have hLe : L = d.eps.length := by have := habs.len; omega
  obtain ⟨gs, rfl⟩ : ∃ gs, aas = some ⟨gs, 0, none⟩ := by
    rcases hrow.2 with ⟨_, h⟩ | ⟨g, c, cur, h, _⟩
    · omega
    · rw [hvs] at h; injection h with h1 h2 h3; exact ⟨g, h1⟩
  subst hvs
  rw [hL] at hrow hcs1 ⊢
  obtain ⟨uL, huL, hpL, hnL⟩ := hent L (by omega)
  obtain ⟨u0, hu0, hp0, hn0⟩ := hent 0 (by omega)
  obtain ⟨aL, cL, rfl, _, _⟩ := own_shape hpL.choose_spec.1
  obtain ⟨a0, c0, rfl, _, _⟩ := own_shape hp0.choose_spec.1
  have hdl : d.dur.length = 4 * 128 := by have := hmem.ok.dur.1; rw [habs.n4] at this; simpa using this
  have hwr := hmem.ok.writes
  rw [habs.n4] at hwr
  have habl : d.ab.length = L := by rw [hLe]; simp [Dk.ab]
  have hsub : ∀ x ∈ d.foot p, x ∈ MM d p gn (.slice (some ⟨gs, 0, none⟩) sts.length cs) := fun x hx => List.mem_append.2 (.inl hx)
  refine ⟨gs, cs, L, aL, a0, cL, c0, sts[L], sts[0], rfl, ⟨hmem.ok, habs.n4, hLe.symm, by omega, ⟨us, hrow, huL, hu0⟩, ⟨hpL.weaken hsub, fun k hk hx => hnL k hk (hsub k hx)⟩, ⟨hp0.weaken hsub, fun k hk hx => hn0 k hk (hsub k hx)⟩, (hmem.sep2 gs rfl).1, ?_, ?_, fun x hx => hmem.new x (hsub x hx), hmem.below, hcs1, hcs2⟩⟩
  · intro j hj
    rw [sec_landAll 4 d.ab d.dur hdl (fun e he s hs => ⟨((hwr e he).2 s hs).2, by have := ((hwr e he).2 s hs).1; omega⟩) j, habs.st L (by omega) j hj, List.take_of_length_le (by omega)]
  · intro j hj
    rw [habs.st 0 (by omega) j hj]
    rfl

/-- A disk's image, in whatever world behind. -/
theorem image_later {w6 wx : World} {d : Dk} {p : Nat} (hok6 : d.ok w6 p) (hn : d.n = 4) (hb : Below w6.heap.size w6 wx) :
    Calls Try.prog 21 #[.pointer (some ⟨p, 0, none⟩)] wx fun e w' => ∃ g, e = .returned (.slice (some ⟨g, 0, none⟩) 4 4) ∧ Pic w' [] (.slice (some ⟨g, 0, none⟩) 4 4) 4 (sec d.dur) ∧ Below wx.heap.size wx w' := by
  have hok := hok6.frame (w' := wx) (fun k hk => hb.block k (hok6.lt k hk))
  refine (image_any _ p wx hok [] (fun x hx => by simp at hx)).mono ?_
  rintro e w' ⟨g, h1, h2, h3, h4⟩
  rw [hn] at h1 h2
  exact ⟨g, h1, h2.weaken (fun x hx => by simp at hx), h4⟩

theorem settled_foot (d : Dk) (p : Nat) (D : List Int) : ∀ k ∈ ({ d with dur := D, wr := D, ve := .slice none 0 0, eps := [], opn := false } : Dk).foot p, k ∈ d.foot p := by
  intro k hk
  simp [Dk.foot, vb, Value.ownBlock] at hk ⊢
  rcases hk with h | h | h
  · exact .inl h
  · exact .inr (.inl h)
  · exact .inr (.inr (.inl h))

structure Done (w w6 : World) (p q q3 gs L : Nat) (aL a0 : Option Addr) (cL c0 : Nat) (fA fC fL f0 : Nat → List Int) : Prop where
  im : ∀ X f, (X, f) ∈ [(p, fA), (q, fA), (q3, fC)] → ∀ wx, Below w6.heap.size w6 wx → Calls Try.prog 21 #[.pointer (some ⟨X, 0, none⟩)] wx fun e w' => ∃ g, e = .returned (.slice (some ⟨g, 0, none⟩) 4 4) ∧ Pic w' [] (.slice (some ⟨g, 0, none⟩) 4 4) 4 f ∧ Below wx.heap.size wx w'
  known : Known w6 [(.slice aL 4 cL, fL), (.slice a0 4 c0, f0)]
  cL : w6.cell? ⟨gs, L, none⟩ = some (.slice aL 4 cL)
  c0 : w6.cell? ⟨gs, 0, none⟩ = some (.slice a0 4 c0)
  lt : gs < w6.heap.size
  below : Below w.heap.size w w6
  hA : ∀ j, j < 4 → fA j = fL j
  hC : ∀ j, j < 4 → fC j = f0 j

theorem done {w w1 w2 w3 w4 w5 w6 : World} {p q q3 gs cs L ll : Nat} {d d2 d3 : Dk} {aL a0 : Option Addr} {cL c0 : Nat} {fL f0 : Nat → List Int} (hg : Begun w w1 p gs cs L ll d aL a0 cL c0 fL f0)
    (hok2 : d2.ok w2 q) (hn2 : d2.n = d.n) (hnew2 : ∀ x ∈ d2.foot q, w1.heap.size ≤ x) (hb2 : Below w1.heap.size w1 w2) (hok3 : d3.ok w3 q3) (hn3 : d3.n = d.n) (hnew3 : ∀ x ∈ d3.foot q3, w2.heap.size ≤ x) (hb3 : Below w2.heap.size w2 w3)
    (h4 : Settled w3 d p (landAll d.dur d.ab) w4) (h5 : Settled w4 d2 q (landAll d.dur d.ab) w5) (h6 : Settled w5 d3 q3 d.dur w6) :
    ∃ fA fC, Done w w6 p q q3 gs L aL a0 cL c0 fA fC fL f0 := by
  have s2 := hb2.size
  have s3 := hb3.size
  have s4 := h4.2.size
  have s5 := h5.2.size
  have l1 := hg.ok.lt
  have l2 := hok2.lt
  have l3 := hok3.lt
  have hU : Upd (· ∈ d.foot p) w1 w6 := by
    refine (((Upd.of_below (F := (· ∈ d.foot p)) hb2).trans (Upd.of_below (F := (· ∈ d.foot p)) hb3) (fun _ _ h => h)).trans h4.2 (fun _ _ h => h) |>.trans h5.2 (fun x hx h => ?_)).trans h6.2 (fun x hx h => ?_)
    · have := hnew2 x h; omega
    · have := hnew3 x h; omega
  have oA := h4.1.frame (w' := w6) (fun k hk => by
    have hk1 := l1 k (settled_foot d p _ k hk)
    rw [h6.2.block k (by omega) (fun h => by have := hnew3 k h; omega), h5.2.block k (by omega) (fun h => by have := hnew2 k h; omega)])
  have oB := h5.1.frame (w' := w6) (fun k hk => by
    have hk1 := l2 k (settled_foot d2 q _ k hk)
    rw [h6.2.block k (by omega) (fun h => by have := hnew3 k h; omega)])
  obtain ⟨us, hrow, hL, h0⟩ := hg.row
  have hrow6 := hU.own hrow (fun k hk => by simp [Value.ownBlock] at hk; subst hk; exact hg.sep)
  have hgl := (hrow.lt gs rfl).2
  have s6 := h6.2.size
  refine ⟨sec (landAll d.dur d.ab), sec d.dur, ⟨?_, ?_, ?_, ?_, by omega, ?_, hg.fL, hg.f0⟩⟩
  · intro X f hx wx hb
    simp only [List.mem_cons, List.not_mem_nil, or_false, Prod.mk.injEq] at hx
    rcases hx with ⟨rfl, rfl⟩ | ⟨rfl, rfl⟩ | ⟨rfl, rfl⟩
    · exact image_later oA hg.n4 hb
    · exact image_later oB (hn2.trans hg.n4) hb
    · exact image_later (d := { d3 with dur := d.dur, wr := d.dur, ve := .slice none 0 0, eps := [], opn := false }) h6.1 (hn3.trans hg.n4) hb
  · intro x hx
    simp only [List.mem_cons, List.not_mem_nil, or_false] at hx
    rcases hx with rfl | rfl
    · exact (hg.pL.1.upd hU (grew_refl _ _) hg.pL.2).weaken (fun x hx => by simp at hx)
    · exact (hg.p0.1.upd hU (grew_refl _ _) hg.p0.2).weaken (fun x hx => by simp at hx)
  · rw [hrow6.cellAt _ (by omega)]; exact hL
  · rw [hrow6.cellAt _ (by omega)]; exact h0
  · exact hg.below.trans (hU.below hg.below.size hg.new)

set_option maxHeartbeats 800000 in
set_option maxRecDepth 20000 in
theorem settles_road (al : Option Addr) (ll cl : Nat) (w : World) (hl : Dos w al ll) (hll : ll ≤ 1800000000000) (hlc : ll ≤ cl) (hcl : cl ≤ 9223372036854775807) :
    Calls Try.prog 7 #[.slice al ll cl] w fun e w' => e = .returned (.bool true) ∧ Below w.heap.size w w' := by
  have kp := hid (played_any al ll cl w hl hll hlc hcl)
  clear hl
  go_enter Try.func7, Try.ntmps7
  go_wp2_with fail
  refine kp.out.mono ?_
  rintro r w1 ⟨p, gn, d, vst, fnow, sts, opn, rfl, hmem, habs, hel⟩
  obtain ⟨gs, cs, L, aL, a0, cL, c0, fL, f0, rfl, hbeg⟩ := begun hmem habs hel
  clear hmem habs hel
  have hLl := hbeg.le
  have hcs1 := hbeg.lcs
  have hcs2 := hbeg.mcs
  have HG := hid hbeg
  clear hbeg
  have k1 := hid (copy_any d p w1 HG.out.ok (by rw [HG.out.len]; omega))
  go_wp2_with fail
  go_at_call 10
  refine k1.out.mono ?_
  rintro r w2 ⟨q, d2, rfl, h2⟩
  have H2 := hid h2
  clear h2 k1
  have k2 := hid (copy_any d p w2 (HG.out.ok.frame (fun k hk => H2.out.2.2.2.2.2.2.2.block k (HG.out.ok.lt k hk))) (by rw [HG.out.len]; omega))
  go_wp2_with fail
  go_at_call 10
  refine k2.out.mono ?_
  rintro r w3 ⟨q3, d3, rfl, h3⟩
  have H3 := hid h3
  clear h3 k2
  have hok1c : d.ok w3 p := (HG.out.ok.frame (w' := w2) (fun k hk => H2.out.2.2.2.2.2.2.2.block k (HG.out.ok.lt k hk))).frame (fun k hk => H3.out.2.2.2.2.2.2.2.block k (Nat.lt_of_lt_of_le (HG.out.ok.lt k hk) H2.out.2.2.2.2.2.2.2.size))
  have k3 := hid (crash_none d p L w3 hok1c (by rw [HG.out.len]; exact Nat.le_refl _) (by rw [HG.out.len]; omega))
  rw [show d.ab.take L = d.ab by rw [List.take_of_length_le]; simp [Dk.ab, HG.out.len]] at k3
  clear hok1c
  go_wp2_with fail
  go_at_call 20
  refine k3.out.mono ?_
  rintro r w4 ⟨rfl, h4⟩
  have H4 := hid h4
  clear h4 k3
  have hok2d : d2.ok w4 q := (H2.out.1.frame (w' := w3) (fun k hk => H3.out.2.2.2.2.2.2.2.block k (H2.out.1.lt k hk))).upd H4.out.2 (fun k hk hx => by have h5 := H2.out.2.2.2.2.2.2.1 k hk; have h6 := HG.out.ok.lt k hx; omega)
  have k4 := hid (flush_any d2 q w4 hok2d)
  rw [H2.out.2.2.1, H2.out.2.2.2.2.1] at k4
  clear hok2d
  go_wp2_with fail
  go_at_call 23
  refine k4.out.mono ?_
  rintro r w5 ⟨rfl, h5⟩
  have H5 := hid h5
  clear h5 k4
  have hok3e : d3.ok w5 q3 := (H3.out.1.upd H4.out.2 (fun k hk hx => by have h5 := H3.out.2.2.2.2.2.2.1 k hk; have h6 := HG.out.ok.lt k hx; have h7 := H2.out.2.2.2.2.2.2.2.size; omega)).upd H5.out.2 (fun k hk hx => by have h5 := H3.out.2.2.2.2.2.2.1 k hk; have h6 := H2.out.1.lt k hx; omega)
  have k5 := hid (crash_none d3 q3 0 w5 hok3e (Nat.zero_le _) (by
    have h7 : d3.eps.length = d3.ab.length := by simp [Dk.ab]
    have h8 : d.ab.length = L := by simp [Dk.ab, HG.out.len]
    rw [h7, H3.out.2.2.2.2.1, h8]
    omega))
  rw [List.take_zero, H3.out.2.2.1] at k5
  clear hok3e
  go_wp2_with fail
  go_at_call 20
  refine k5.out.mono ?_
  rintro r w6 ⟨rfl, h6⟩
  have H6 := hid h6
  clear h6 k5
  obtain ⟨fA, fC, hdone⟩ := done HG.out H2.out.1 H2.out.2.1 H2.out.2.2.2.2.2.2.1 H2.out.2.2.2.2.2.2.2 H3.out.1 H3.out.2.1 H3.out.2.2.2.2.2.2.1 H3.out.2.2.2.2.2.2.2 H4.out H5.out H6.out
  clear HG H2 H3 H4 H5 H6 kp
  have s1 := hdone.cL
  have s2 := hdone.c0
  have hgl := hdone.lt
  have HD := hid hdone
  have HB : Hid (Below w6.heap.size w6 w6.drew) := (Below.refl _ _).drew
  have HK : Hid (Known w6.drew [(.slice aL 4 cL, fL), (.slice a0 4 c0, f0)]) := fun x hx => (HD.out.known.below HB.out) x hx
  clear hdone
  have b1 : (0 : Int) ≤ (L : Int) := by omega
  have b2 : (L : Int) < (L : Int) + 1 := by omega
  have b3 : (0 : Int) < (L : Int) + 1 := by omega
  have hw2 : IntKind.i64.wrap (L : Int) = (L : Int) := by rw [IntKind.wrap_i64]; omega
  have hw1 : IntKind.i64.wrap ((L : Int) + 1 - 1) = (L : Int) := by rw [IntKind.wrap_i64]; omega
  have hdone0 := HD.out.below
  have HBW := hid hdone0
  clear hdone0
  go_wp2_with fail
  go_region_held3 (fun wx => wx.cell? ⟨gs, L, none⟩ = some (.slice aL 4 cL) ∧ wx.cell? ⟨gs, 0, none⟩ = some (.slice a0 4 c0)) (go_keep) (first | (go_at_call 21; refine (HD.out.im _ _ (by first | exact List.mem_cons_self | exact List.mem_cons_of_mem _ List.mem_cons_self | exact List.mem_cons_of_mem _ (List.mem_cons_of_mem _ List.mem_cons_self)) _ HB.out).mono ?_; rintro r wI ⟨gI, rfl, hpI, hbI⟩; have HK' := hid ((HK.out.below hbI).cons hpI); have HB' : Hid (Below w6.heap.size w6 wI) := hid (HB.out.trans (hbI.mono HB.out.size)); have s1' : wI.cell? ⟨gs, L, none⟩ = some (.slice aL 4 cL) := (HB'.out.cell (p := ⟨gs, L, none⟩) hgl).trans s1; have s2' : wI.cell? ⟨gs, 0, none⟩ = some (.slice a0 4 c0) := (HB'.out.cell (p := ⟨gs, 0, none⟩) hgl).trans s2; clear HK HB hpI hbI; have HK := HK'; have HB := HB'; clear HK' HB') | (go_at_call 16; refine (same_known HK.out (by first | exact List.mem_cons_self | exact List.mem_cons_of_mem _ List.mem_cons_self | exact List.mem_cons_of_mem _ (List.mem_cons_of_mem _ List.mem_cons_self)) (by first | exact List.mem_cons_self | exact List.mem_cons_of_mem _ List.mem_cons_self | exact List.mem_cons_of_mem _ (List.mem_cons_of_mem _ List.mem_cons_self) | exact List.mem_cons_of_mem _ (List.mem_cons_of_mem _ (List.mem_cons_of_mem _ List.mem_cons_self)) | exact List.mem_cons_of_mem _ (List.mem_cons_of_mem _ (List.mem_cons_of_mem _ (List.mem_cons_of_mem _ List.mem_cons_self))) | exact List.mem_cons_of_mem _ (List.mem_cons_of_mem _ (List.mem_cons_of_mem _ (List.mem_cons_of_mem _ (List.mem_cons_of_mem _ List.mem_cons_self))))) (by first | exact HD.out.hA | exact HD.out.hC | exact fun _ _ => rfl)).mono ?_; rintro r wS ⟨rfl, hS⟩; subst wS))
  go_wp2_with fail
  go_ret
  exact ⟨rfl, HBW.out.trans (HB.out.mono HBW.out.size)⟩

end Go.Proofs.Yteclnjnhjccogaa
