/- The corpus and what it stands on, merged. -/
import Derived.Test.YtbgommpdmnbplaaGreatDoorCoA20
import Derived.Test.YtbgommpdmnbplaaGreatDoorCoA1
import Derived.Test.YtbgommpdmnbplaaGreatDoorChecked
import Derived.Maps.OwnOps
import Derived.Maps.OwnSet

/- The law's 'awake': a corpus that has what is put into it. -/
namespace Go.Proofs.YtbgommpdmnbplaaGreatDoor
open Go.RowKit Co Num Jr
set_option linter.unusedVariables false
set_option maxRecDepth 20000

theorem evA (w : World) : Ev (w.alloc (.cells #[.int .i64 5] 3)) [] (.agg #[.string ⟨#[97]⟩, .string ⟨#[]⟩, .slice (some ⟨w.heap.size, 0, none⟩) 1 1, .int .i64 0, .slice none 0 0]) entA := by
  refine ⟨some ⟨w.heap.size, 0, none⟩, 1, none, 0, rfl, ⟨⟨rfl, fun _ => ⟨w.heap.size, 0, rfl, by simp, fun j hj => ?_⟩, fun h => by cases h⟩, Nat.le_refl _, by omega, fun _ b o _ hx => by simp at hx⟩, il_nil _ _⟩
  have : j = 0 := by have : j < 1 := hj; omega
  subst this
  exact heap_cells (heap_alloc_new w (.cells #[.int .i64 5] 3)) 0 _ rfl
theorem ilA (w : World) : Ilst (w.alloc (.cells #[.int .i64 5] 3)) (some ⟨w.heap.size, 0, none⟩) 1 1 [5] := ⟨rfl, fun _ => ⟨w.heap.size, 0, rfl, by simp, fun j hj => by
  have : j = 0 := by omega
  subst this
  exact heap_cells (heap_alloc_new w (.cells #[.int .i64 5] 3)) 0 _ rfl⟩, fun h => by cases h⟩

set_option maxHeartbeats 4000000 in
theorem awake_any (w : World) (hT : Tab w) (hR : Er w) : Calls Tryz.prog 34 #[] w fun r w' => r = .returned (.bool true) ∧ Below w.heap.size w w' := by
  have hTl : 1 < w.heap.size := World.block_lt_of_cell? _ _ (hT 0 (by omega))
  have k1 := hid (new_dk 40 w (by omega) (by omega))
  have HT := hid hT
  have HR := hid hR
  clear hT hR
  go_enter Tryz.func34, Tryz.ntmps34
  go_upto_region 2 with (first | (go_at_call 22; refine k1.out.mono ?_; rintro r w1 ⟨p, d, rfl, hok, hn, hd, hw, he, ho, hf, hb⟩; have HJ := hid (jd_new hok hn hd hw he ho); have HF := hid hf; have HB := hid hb; clear hok hn hd hw he ho hf hb k1))
  have hdT : 1 ∉ d.foot p := fun hx => by have := HF.out _ hx; omega
  have k2 := hid (copen_new d p 40 _ w1 HJ.out.1 HJ.out.2 (tab_in HT.out HB.out hTl) hdT (by omega) newest_zero)
  clear hdT
  go_upto_region 3 with (first | (go_at_call 10; refine k2.out.mono ?_; rintro r w2 h2; have H2 := hid h2; clear h2 k2; obtain ⟨cp, jp, d2, m2, rfl, hcp, hu2, hj2, hcpl, hml⟩ := H2.out; have HCP := hid hcp; have HU2 := hid hu2; have HJ2 := hid hj2; clear hcp hu2 hj2 H2))
  have hb2 : Below w.heap.size w w2 := HB.out.trans (HU2.out.below HB.out.size HF.out)
  have hs2 : w.heap.size ≤ w2.heap.size := hb2.size
  have hnew : ∀ x ∈ cp :: Jf d2 p jp (.slice none 0 0), w.heap.size ≤ x := fun x hx => by
    have := HB.out.size
    rcases List.mem_cons.1 hx with h | h
    · omega
    · rcases HJ2.out x h with h | h
      · exact HF.out x h
      · omega
  obtain ⟨W, gW⟩ : ∃ W, W = w2.alloc (.cells #[.int .i64 5] 3) := ⟨_, rfl⟩
  have hbW : Below w2.heap.size w2 W := by rw [gW]; exact (Below.refl _ _).alloc (Nat.le_refl _) _
  have hbw : Below w.heap.size w W := hb2.trans (hbW.mono hs2)
  have k3 := hid (put_entry d2 cp jp p 40 _ _ _ _ _ _ m2 [] (fun _ => none) _ entA W (HCP.out.below hbW) (tab_in HT.out hbw hTl) (fun hx => by have := hnew _ (List.mem_cons_of_mem _ hx); omega) (er_in HR.out hbw hTl) (fun hx => by have := hnew _ (List.mem_cons_of_mem _ hx); omega) (by omega) (by rw [gW]; exact evA w2))
  have HNEW := hid hnew
  have HBW := hid hbw
  have GW := hid gW
  have hcode0 : Hid (∀ code : Nat, (Fits 40 0 (putR entA) → PutMore (fun _ => none) entA → code = 0) → code = 0) := hid (fun code h => h entA_fits ⟨entA_may, entA_len, .inr few_none⟩)
  clear hb2 hs2 hnew gW hbW hbw
  go_wp2_with (first
    | (go_at_call 13; rw [← GW.out]; refine k3.out.mono ?_; rintro r w3 h3; have H3 := hid (Cq.step HNEW.out HBW.out HBW.out.size h3); clear h3 k3; obtain ⟨code, F3, rfl, hq3, hf3, hz3, _⟩ := H3.out; have hc0 := hcode0.out code hf3; subst hc0; have hF3 := hz3 rfl; subst hF3; have HQ3 := hid hq3; clear hq3 hf3 hz3 H3; obtain ⟨jp3, d3, S3, gen3, groups3, used3, done3, wv3, m3, K3, q1, q2, q3, q4⟩ := HQ3.out; have hK3 := keysA q1.em.keys; subst hK3; have k4 := hid (ckeys_any _ cp jp3 m3 [[97]] _ w3 q1.cc q1.em (by simp)); have HQ1 := hid q1; have HQB := hid q3; have hq4 := q4; clear q1 q2 q3 q4)
    | (go_at_call 36; refine k4.out.mono ?_; rintro r w4 ⟨v4, rfl, ho4, hb4⟩; obtain ⟨a4, c4, e4, hc41, hc42⟩ := own_shape ho4; have HO4 := hid ho4; have HB4 := hid hb4; subst e4; clear ho4 hb4 k4))
  obtain ⟨g4, eg4⟩ : ∃ g4, a4 = some ⟨g4, 0, none⟩ := by
    rcases HO4.out.2 with ⟨h, h0⟩ | ⟨g, c, cur, h, _⟩
    · cases h0
    · injection h with h1 h2 h3; exact ⟨g, h1⟩
  subst eg4
  obtain ⟨X, gX⟩ : ∃ X, X = w4.alloc (.cells #[.string ⟨#[97]⟩] 9) := ⟨_, rfl⟩
  have hbX : Below w4.heap.size w4 X := by rw [gX]; exact (Below.refl _ _).alloc (Nat.le_refl _) _
  have hcX : X.cell? ⟨w4.heap.size, 0, none⟩ = some (.string ⟨#[97]⟩) := by rw [gX]; exact heap_cells (heap_alloc_new w4 _) 0 _ rfl
  have hc4 : X.cell? ⟨g4, 0, none⟩ = some (.string ⟨#[97]⟩) := by
    have hg := (HO4.out.lt g4 rfl).2
    rw [hbX.cell (p := ⟨g4, 0, none⟩) hg, HO4.out.cellAt 0 (by decide)]
    rfl
  rw [← gX]
  have k5 := hid (Tryz.slices_Equal_string g4 0 1 c4 w4.heap.size 0 1 1 [⟨#[97]⟩] [⟨#[97]⟩] X (by simp) (by simp) (by omega) (by omega) (fun j hj => by have : j = 0 := by simpa using hj
                                                                                                                                                        subst this; exact hc4) (fun j hj => by have : j = 0 := by simpa using hj
                                                                                                                                                                                               subst this; exact hcX))
  have HBX : Hid (Below w3.heap.size w3 X) := hid (HB4.out.trans (hbX.mono HB4.out.size))
  clear gX hbX hcX hc4
  refine k5.out.mono ?_
  rintro r w5 ⟨rfl, q5, hq5⟩
  have hbw5 : Below w3.heap.size w3 w5 := by rw [hq5]; exact below_drewN HBX.out q5
  have hdec : decide (([⟨#[97]⟩] : List ByteArray).take 1 = ([⟨#[97]⟩] : List ByteArray).take 1) = true := decide_eq_true rfl
  rw [hdec]
  have hq1 := HQ1.out.below hbw5
  have k6 := hid (points_any _ cp jp3 m3 [[97]] _ w5 hq1.cc hq1.em (by simp) hq1.ok)
  have HB5 : Hid (Below w.heap.size w w5) := hid (HQB.out.trans (hbw5.mono hq4))
  clear hq1 hdec hq5 hbw5 k5
  go_wp2_with (first | (go_at_call 35; refine k6.out.mono ?_; rintro r w6 h6; have H6 := hid h6; clear h6 k6; obtain ⟨a6, n6, c6, ps, rfl, hW6, hcm6, hp6, hm6, hb6⟩ := H6.out; have hps := ptsA hp6 hm6; subst hps; have hn6 : n6 = 1 := hW6.size.symm; subst hn6; have HW6 := hid hW6; have HB6 := hid hb6; clear hW6 hp6 hm6 hb6 H6; have k7 := hid (eq_lst a6 (some ⟨w6.heap.size, 0, none⟩) 1 c6 1 1 [5] (w6.alloc (.cells #[.int .i64 5] 3)) (HW6.out.ilst.below ((Below.refl _ w6).alloc (Nat.le_refl _) _)) (ilA w6) (by omega))) | (go_at_call 58; refine k7.out.mono ?_; rintro r w7 ⟨rfl, hb7⟩; have HB7 := hid hb7; clear hb7 k7))
  go_ret
  have hb6 : Below w.heap.size w w6 := HB5.out.trans (HB6.out.mono HB5.out.size)
  have hbA : Below w6.heap.size w6 (w6.alloc (.cells #[.int .i64 5] 3)) := (Below.refl _ w6).alloc (Nat.le_refl _) _
  have hb7 := hb6.trans ((hbA.trans (HB7.out.mono hbA.size)).mono hb6.size)
  exact ⟨rfl, hb7⟩
end Go.Proofs.YtbgommpdmnbplaaGreatDoor

/- A map of numbers to true: which numbers are there. -/
namespace Go.Proofs.YtbgommpdmnbplaaGreatDoor
open Go.RowKit Go.MapKept
set_option linter.unusedVariables false
set_option maxRecDepth 20000

theorem kint : Maps.Keyed Tryz.prog 3 := Maps.int_keyed Tryz.underlying3
/-- A number of 64 bits. -/
def W64 (k : Int) : Prop := -9223372036854775808 ≤ k ∧ k ≤ 9223372036854775807
theorem W64.wf {k : Int} (h : W64 k) : (Lit.int .i64 k).wf = true := by
  have e1 : IntKind.i64.min = -9223372036854775808 := by decide
  have e2 : IntKind.i64.max = 9223372036854775807 := by decide
  simp only [Lit.wf, e1, e2, Bool.and_eq_true, decide_eq_true_eq]
  exact h
theorem key3 {k : Int} (h : W64 k) : keyOf Tryz.prog 3 (.int .i64 k) = some (.int .i64 k) := by
  simp [keyOf, Tryz.underlying3, mapKey, h.wf]
theorem zero4 (w : World) : (zeroValue 4).run Tryz.prog w = .ok (.bool false) w := by
  have e : Tryz.t4.zero = some (.bool false) := by kernel_rfl
  simp [zeroValue, Result.andThen, e]
theorem isKey3 (k : Int) : WideAt.IsKeyLit (.int .i64 k) := by trivial
theorem lit_ne {x k : Int} (h : x ≠ k) : Lit.int .i64 x ≠ Lit.int .i64 k := fun e => h (by injection e)

/-- Which numbers a map has. -/
def Ob (w : World) (m : Nat) (S : List Int) : Prop := ∃ D : DataW Unit, w.ownsMap Tryz.prog 3 (plainElem Tryz.prog 4) m S.length D ∧ Maps.size D = S.length ∧ S.Nodup ∧ ∀ x, Maps.has D (.int .i64 x) = decide (x ∈ S) ∧ D.atKey (.int .i64 x) (.lit (.bool false)) = .lit (.bool (decide (x ∈ S)))

theorem Ob.none (w : World) : Ob (w.alloc (.map #[] 0)) w.heap.size [] :=
  ⟨.map [], World.ownsMap_made w _ _ _, rfl, List.nodup_nil, fun x => ⟨rfl, rfl⟩⟩
theorem Ob.lt {w : World} {m : Nat} {S : List Int} (h : Ob w m S) : m < w.heap.size := by
  obtain ⟨D, h1, _⟩ := h; exact h1.lt
theorem Ob.isMap {w : World} {m : Nat} {S : List Int} (h : Ob w m S) : ∃ es cl, w.heap[m]? = some (.map es cl) := by
  obtain ⟨D, ⟨es, cl, hb, _⟩, _⟩ := h; exact ⟨es, cl, hb⟩
theorem Ob.upd {G : Nat → Prop} {w w' : World} {m : Nat} {S : List Int} (h : Ob w m S) (u : Upd G w w') (hG : ¬ G m) : Ob w' m S := by
  obtain ⟨D, ⟨es, cl, hb, r⟩, h2⟩ := h
  exact ⟨D, ⟨es, cl, u.heap hb hG, r⟩, h2⟩
theorem Ob.below {w w' : World} {m : Nat} {S : List Int} (h : Ob w m S) (u : Below w.heap.size w w') : Ob w' m S := h.upd (Upd.of_below (F := fun _ => False) u) (fun h => h)

theorem ob_look {w : World} {m : Nat} {S : List Int} (h : Ob w m S) {k : Int} (hk : W64 k) :
    (Instr.lookup 70 (.map (some m)) (.int .i64 k) false).run Tryz.prog w = .ok (.bool (decide (k ∈ S))) w := by
  obtain ⟨D, h1, _, _, h2⟩ := h
  obtain ⟨v, ps, hr, hv⟩ := h1.lookup kint Tryz.underlying70 (zero4 w) (plainElem_bool Tryz.underlying4 false) (key3 hk)
  rw [(h2 k).2] at hv
  rw [hr]
  unfold plainElem at hv
  rw [Tryz.underlying4] at hv
  cases v <;> simp at hv
  rw [hv.1]

/-- One number more. -/
def addN (S : List Int) (k : Int) : List Int := if k ∈ S then S else S ++ [k]
theorem mem_addN (S : List Int) (k x : Int) : x ∈ addN S k ↔ x ∈ S ∨ x = k := by
  unfold addN
  split
  · rename_i h
    constructor
    · exact .inl
    · rintro (h' | rfl)
      · exact h'
      · exact h
  · simp
theorem ob_put {w : World} {m : Nat} {S : List Int} (h : Ob w m S) {k : Int} (hk : W64 k) (hn : S.length < maxLen) :
    ∃ w', (Instr.mapUpdate 70 (.map (some m)) (.int .i64 k) (.bool true)).run Tryz.prog w = .ok () w' ∧ Ob w' m (addN S k) ∧ Upd (· = m) w w' := by
  obtain ⟨D, h1, hs, hd, h2⟩ := h
  have ht := h1.tidy kint
  obtain ⟨w', hr, h3, hg⟩ := h1.store kint Tryz.underlying70 hn (key3 hk) (plainElem_bool Tryz.underlying4 true)
  have hsz : Maps.size (D.put (.int .i64 k) (.lit (.bool true))) = (addN S k).length := by
    rw [Maps.size_put ht, (h2 k).1, hs]
    unfold addN
    by_cases q : k ∈ S <;> simp [q]
  refine ⟨w', hr, ⟨_, ?_, hsz, ?_, fun x => ?_⟩, (Upd.of_grown hg.grown).mono (fun x _ hx => by injection hx)⟩
  · rw [← hsz]
    obtain ⟨es, cl, hb, F, _, e⟩ := h3
    exact ⟨es, cl, hb, F, by rw [e]; simp [Maps.size, length_sorted], e⟩
  · unfold addN
    split
    · exact hd
    · rename_i hq
      exact List.nodup_append.2 ⟨hd, by simp, fun a ha b hb => by simp at hb; rw [hb]; exact fun e => hq (e ▸ ha)⟩
  · have hm := mem_addN S k x
    by_cases q : x = k
    · subst q
      rw [Maps.has_put_same ht.isMap (isKey3 _), Maps.atKey_put_same ht.isMap (isKey3 _)]
      simp [hm]
    · rw [Maps.has_put_other (lit_ne q), Maps.atKey_put_other (lit_ne q), (h2 x).1, (h2 x).2]
      have : decide (x ∈ S) = decide (x ∈ addN S k) := by simp [hm, q]
      rw [this]
      exact ⟨rfl, rfl⟩
theorem ob_len {w : World} {m : Nat} {S : List Int} (h : Ob w m S) (ty : TypeId) :
    (Builtin.len_ #[70] ty #[.map (some m)]).run Tryz.prog w = .ok (.int .i64 (S.length : Nat)) w := by
  obtain ⟨D, h1, h2, _⟩ := h
  rw [h1.len Tryz.underlying70 ty, h2]
end Go.Proofs.YtbgommpdmnbplaaGreatDoor

/- The road of CorpusPoints. -/
namespace Go.Proofs.YtbgommpdmnbplaaGreatDoor
open Go.RowKit Co Num Jr
set_option linter.unusedVariables false
set_option maxRecDepth 20000

theorem flat5 : ∀ (vs : List Value) (j t : Nat) (c : List Value), (∀ v ∈ vs, (cellsE v).length = 5) → (vs[j]?).map cellsE = some c → t < 5 → ((vs.map cellsE).flatten)[j * 5 + t]? = c[t]?
  | [], j, t, c, _, h, _ => by simp at h
  | v :: vs, 0, t, c, hl, h, ht => by
    simp at h
    have h5 := hl v (by simp)
    rw [List.map_cons, List.flatten_cons, List.getElem?_append_left (by omega), h]
    simp
  | v :: vs, j + 1, t, c, hl, h, ht => by
    have h5 := hl v (by simp)
    have ih := flat5 vs j t c (fun x hx => hl x (by simp [hx])) (by simpa using h) ht
    rw [List.map_cons, List.flatten_cons, List.getElem?_append_right (by omega), ← ih]
    congr 1
    omega
theorem Els.at {w : World} {B : Nat} {v : Value} {L : List Ety} (h : Els w B v L) (j : Nat) (hj : j < L.length) : ∃ (g c : Nat) (pa : Option Addr) (pc : Nat) (qa : Option Addr) (qc : Nat), v = .slice (some ⟨g, 0, none⟩) L.length c ∧ g < w.heap.size ∧ L.length ≤ c ∧ c ≤ 9223372036854775807 ∧
    w.cell? ⟨g, j * 5, none⟩ = some (.string L[j].k) ∧ w.cell? ⟨g, j * 5 + 1, none⟩ = some (.string L[j].g) ∧ w.cell? ⟨g, j * 5 + 2, none⟩ = some (.slice pa L[j].p.length pc) ∧ w.cell? ⟨g, j * 5 + 3, none⟩ = some (.int .i64 L[j].f) ∧ w.cell? ⟨g, j * 5 + 4, none⟩ = some (.slice qa L[j].q.length qc) ∧ Il w (vb v) pa L[j].p.length pc L[j].p ∧ Il w (vb v) qa L[j].q.length qc L[j].q := by
  obtain ⟨vs, h1, h2, h3, h4⟩ := h
  obtain ⟨a, c, e, hc1, hc2⟩ := own_shape h2
  obtain ⟨g, eg⟩ : ∃ g, a = some ⟨g, 0, none⟩ := by
    rcases h2.2 with ⟨h, h0⟩ | ⟨g, c', cur, h, _⟩
    · omega
    · rw [e] at h; injection h with h1 h2 h3; exact ⟨g, h1⟩
  subst eg
  obtain ⟨u, hu, pa, pc, qa, qc, eu, hp, hq⟩ := h4 j hj
  have hl5 : ∀ x ∈ vs, (cellsE x).length = 5 := fun x hx => by
    obtain ⟨i, hi, rfl⟩ := List.getElem_of_mem hx
    obtain ⟨u', hu', _, _, _, _, eu', _⟩ := h4 i (by omega)
    rw [List.getElem?_eq_getElem hi] at hu'
    injection hu' with hu'
    rw [hu', eu']
    rfl
  have hg : g < w.heap.size := (h2.lt g (by rw [e]; rfl)).2
  have hcell : ∀ t, t < 5 → w.cell? ⟨g, j * 5 + t, none⟩ = (cellsE u)[t]? := fun t ht => by
    have h2' := h2
    rw [e] at h2'
    rw [h2'.cellAt (j * 5 + t) (by omega)]
    exact flat5 vs j t (cellsE u) hl5 (by rw [hu]; rfl) ht
  refine ⟨g, c, pa, pc, qa, qc, e, hg, hc1, hc2, ?_, ?_, ?_, ?_, ?_, hp, hq⟩
  · rw [show j * 5 = j * 5 + 0 by omega, hcell 0 (by omega), eu]; rfl
  · rw [hcell 1 (by omega), eu]; rfl
  · rw [hcell 2 (by omega), eu]; rfl
  · rw [hcell 3 (by omega), eu]; rfl
  · rw [hcell 4 (by omega), eu]; rfl

theorem mem_ents {F : Sta} {K : List (List UInt8)} (hk : Keys F K) (e : Ety) : e ∈ ents F K ↔ ∃ s, F s = some e := by
  unfold ents
  rw [List.mem_filterMap]
  constructor
  · rintro ⟨s, _, h⟩; exact ⟨s, h⟩
  · rintro ⟨s, h⟩; exact ⟨s, (hk.mem s).2 (by rw [h]; simp), h⟩

set_option maxHeartbeats 8000000 in
theorem points_road (la : Option Addr) (ll lc : Nat) (w : World) (hD : Dol w la ll) (hl : ll ≤ lc) (hl2 : lc ≤ 9223372036854775807) (hT : Tab w) (hR : Er w) : Calls Tryz.prog 7 #[.slice la ll lc] w fun r w' => r = .returned (.bool true) ∧ Below w.heap.size w w' := by
  have hTl : 1 < w.heap.size := World.block_lt_of_cell? _ _ (hT 0 (by omega))
  have k1 := hid (new_dk 300 w (by omega) (by omega))
  have HT := hid hT
  have HR := hid hR
  have HD := hid hD
  clear hT hR hD
  go_enter Tryz.func7, Tryz.ntmps7
  go_upto_region 4 with (first | (go_at_call 22; refine k1.out.mono ?_; rintro r w1 ⟨p, d, rfl, hok, hn, hd, hw, he, ho, hf, hb⟩; have HJ := hid (jd_new hok hn hd hw he ho); have HF := hid hf; have HB := hid hb; clear hok hn hd hw he ho hf hb k1))
  have hdT : 1 ∉ d.foot p := fun hx => by have := HF.out _ hx; omega
  have k2 := hid (copen_new d p 300 _ w1 HJ.out.1 HJ.out.2 (tab_in HT.out HB.out hTl) hdT (by omega) newest_zero)
  clear hdT
  go_upto_region 7 with (first | (go_at_call 10; refine k2.out.mono ?_; rintro r w2 h2; have H2 := hid (cq_new h2 HF.out HB.out HB.out.size); clear h2 k2; obtain ⟨cp, rfl, hq2⟩ := H2.out; have HQ2 := hid hq2; clear hq2 H2))
  go_wp2_with fail
  go_loopw [33] (fun k wr => ∃ (i : Nat), k = .int .i64 i ∧ i ≤ ll ∧ Hid (∃ F, Cq w.heap.size w wr cp p 300 F)) (fun k _ => ll - (intOf k).toNat)
  case atStart => exact ⟨0, rfl, Nat.zero_le _, hid ⟨_, HQ2.out⟩⟩
  case round =>
    clear HQ2
    obtain ⟨i, rfl, hin, HA⟩ := hrel
    by_cases hlt : i < ll
    · obtain ⟨b, o, e, hbl, hcc⟩ := HD.out (by omega)
      subst e
      obtain ⟨F, hq⟩ := HA.out
      have hbw : Below w.heap.size w wr := by obtain ⟨_, _, _, _, _, _, _, _, _, _, _, _, h, _⟩ := hq; exact h
      obtain ⟨b', o', e', hbl', hcc'⟩ := (HD.out.below hbw) (by omega)
      injection e' with e'
      injection e' with e1 e2
      subst e1
      subst e2
      obtain ⟨op, e, pa, pc, qa, qc, c0, c1, c2, c3, c4, c5, c6, c7⟩ := hcc' i hlt
      obtain ⟨pn, gpn⟩ : ∃ pn, pn = e.p.length := ⟨_, rfl⟩
      obtain ⟨qn, gqn⟩ : ∃ qn, qn = e.q.length := ⟨_, rfl⟩
      obtain ⟨ks, gks⟩ : ∃ ks, ks = e.k := ⟨_, rfl⟩
      obtain ⟨gs, ggs⟩ : ∃ gs, gs = e.g := ⟨_, rfl⟩
      obtain ⟨fx, gfx⟩ : ∃ fx, fx = e.f := ⟨_, rfl⟩
      rw [← gks] at c1
      rw [← ggs] at c2
      rw [← gpn] at c3
      rw [← gfx] at c4
      rw [← gqn] at c5
      obtain ⟨W, gW⟩ : ∃ W, W = wr.alloc (.cells #[.int .i64 op, .string ks, .string gs, .slice pa pn pc, .int .i64 fx, .slice qa qn qc] 39) := ⟨_, rfl⟩
      have hbA : Below wr.heap.size wr W := by rw [gW]; exact (Below.refl _ _).alloc (Nat.le_refl _) _
      have hW : W.heap[wr.heap.size]? = some (.cells #[.int .i64 op, .string ks, .string gs, .slice pa pn pc, .int .i64 fx, .slice qa qn qc] 39 (0, 0)) := by rw [gW]; exact heap_alloc_new _ _
      have hEW : Ev W [] (.agg #[.string ks, .string gs, .slice pa pn pc, .int .i64 fx, .slice qa qn qc]) e := by
        rw [gks, ggs, gpn, gfx, gqn]
        exact Ev.upd (w := wr) (N := []) ⟨pa, pc, qa, qc, rfl, c6, c7⟩ (Upd.of_below (F := fun _ => False) hbA) (fun _ _ h => h.elim) (fun x hx => .inl hx)
      have hqW := hq.below hbA
      have HQW := hid hqW
      have HW := hid hW
      have GW := hid gW
      have HEW := hid hEW
      clear hcc hcc' gpn gqn gks ggs gfx gW hbA hW hEW hqW hbw c6 c7 hq
      by_cases h30 : i < 30
      · have h30v : (i : Int) < 30 := by omega
        have kP := hid (cq_put w.heap.size w W cp p 300 F _ e HQW.out HT.out HR.out hTl (by omega) HEW.out)
        go_upto_region 11 with fail
        rw [← GW.out]
        have e1 : W.cell? ⟨wr.heap.size, 1, none⟩ = some (.string ks) := heap_cells HW.out 1 _ rfl
        have e2 : W.cell? ⟨wr.heap.size, 2, none⟩ = some (.string gs) := heap_cells HW.out 2 _ rfl
        have e3 : W.cell? ⟨wr.heap.size, 3, none⟩ = some (.slice pa pn pc) := heap_cells HW.out 3 _ rfl
        have e4 : W.cell? ⟨wr.heap.size, 4, none⟩ = some (.int .i64 fx) := heap_cells HW.out 4 _ rfl
        have e5 : W.cell? ⟨wr.heap.size, 5, none⟩ = some (.slice qa qn qc) := heap_cells HW.out 5 _ rfl
        go_wp2_with (first | (go_at_call 13; refine kP.out.mono ?_; rintro r w5 ⟨code, F5, rfl, hq5, _, _⟩; have HQ5 := hid hq5; clear hq5 kP))
        go_roundw
        case rel => exact ⟨i + 1, by go_num, by omega, hid ⟨_, HQ5.out⟩⟩
        case measure => simp [intOf]; omega
      · have h30v : ¬ (i : Int) < 30 := by omega
        go_wp2_with fail
        rw [← GW.out]
        go_roundw
        case rel => exact ⟨i + 1, by go_num, by omega, hid ⟨_, HQW.out⟩⟩
        case measure => simp [intOf]; omega
    · have hltv : ¬ (i : Int) < (ll : Int) := by omega
      obtain ⟨F, hq⟩ := HA.out
      obtain ⟨jp, d, S0, gen, groups, used, done, wv, m, K, hcp, hnew, hbw, hsw⟩ := hq
      have kA := hid (all_any _ cp jp m K F wr hcp.cc hcp.em hcp.k40 hcp.ok)
      have hok := hcp.ok
      have hks := hcp.em.keys
      have hk40 := hcp.k40
      have hlenL : (ents F K).length = K.length := ents_len (fun s hs => (hks.mem s).1 hs)
      have hptr : ∀ e ∈ ents F K, (∀ x ∈ e.p, 0 ≤ x ∧ x < 2000) ∧ e.p.length ≤ 2000 := fun e he => by
        obtain ⟨s, hs⟩ := (mem_ents hks e).1 he
        obtain ⟨_, o2, o3⟩ := hok s e hs
        exact ⟨fun x hx => ptsB_all _ _ (mayB_parts o2).2.2.1 x hx, (mayB_lens o2 o3).1⟩
      obtain ⟨L, gL⟩ : ∃ L, L = ents F K := ⟨_, rfl⟩
      obtain ⟨ln, gln⟩ : ∃ ln, ln = L.length := ⟨_, rfl⟩
      rw [← gL] at kA hlenL hptr
      have hln : ln ≤ 40 := by omega
      have HCP := hid hcp
      have HBW := hid hbw
      have HPTR := hid hptr
      have GL := hid gL
      have GLN := hid gln
      have HKS := hid hks
      have hmm := @run_makeMap Tryz.prog
      clear hcp hbw hnew hok hks hk40 hlenL hptr gL gln HA HD
      go_upto_region 16 with (first | (go_at_call 27; refine kA.out.mono ?_; rintro r w3 ⟨v3, rfl, hels, hb3⟩; have HELS := hid hels; have HB3 := hid hb3; obtain ⟨vs3, _, ho3, _⟩ := hels; obtain ⟨a3, c3, ev3, hc31, hc32⟩ := own_shape ho3; rw [← GLN.out] at ev3 hc31; subst ev3; clear hb3 kA ho3))
      have hcp3 := HCP.out.below HB3.out
      have hbw3 : Below w.heap.size w w3 := HBW.out.trans (HB3.out.mono HBW.out.size)
      have HCP3 := hid hcp3
      have HBW3 := hid hbw3
      clear hcp3 hbw3 HCP HBW
      go_upto_region 18 with fail
      go_loopw [55] (fun k wx => ∃ (i : Nat), k = .int .i64 i ∧ i ≤ ln ∧ Hid (∃ T, Ob wx w3.heap.size T ∧ T.length ≤ 2000 * i ∧ (∀ x, x ∈ T ↔ ∃ e ∈ L.take i, e.f = 0 ∧ x ∈ e.p) ∧ Below w3.heap.size w3 wx)) (fun k _ => ln - (intOf k).toNat)
      case atStart => exact ⟨0, rfl, Nat.zero_le _, hid ⟨[], Ob.none w3, by simp, by simp, (Below.refl _ _).alloc (Nat.le_refl _) _⟩⟩
      case round =>
        rename World => wo
        obtain ⟨i, rfl, hin, HA⟩ := hrel
        by_cases hlt2 : i < ln
        · have hiL : i < L.length := by rw [← GLN.out]; exact hlt2
          obtain ⟨T, hob, htl, htm, hbo⟩ := HA.out
          obtain ⟨g, c, pa, pc, qa, qc, ev, hgl, _, _, c0, c1, c2, c3', c4, hp, hq⟩ := HELS.out.at i hiL
          injection ev with ev1 ev2 ev3
          subst ev1
          have hpt := HPTR.out L[i] (List.getElem_mem hiL)
          have htk : L.take (i + 1) = L.take i ++ [L[i]] := by rw [List.take_add_one, List.getElem?_eq_getElem hiL]; rfl
          obtain ⟨e, ge⟩ : ∃ e, e = L[i] := ⟨_, rfl⟩
          rw [← ge] at c0 c1 c2 c3' c4 hp hq hpt htk
          obtain ⟨pn, gpn⟩ : ∃ pn, pn = e.p.length := ⟨_, rfl⟩
          obtain ⟨qn, gqn⟩ : ∃ qn, qn = e.q.length := ⟨_, rfl⟩
          obtain ⟨ks, gks⟩ : ∃ ks, ks = e.k := ⟨_, rfl⟩
          obtain ⟨gs, ggs⟩ : ∃ gs, gs = e.g := ⟨_, rfl⟩
          obtain ⟨fx, gfx⟩ : ∃ fx, fx = e.f := ⟨_, rfl⟩
          rw [← gks] at c0
          rw [← ggs] at c1
          rw [← gpn] at c2 hp hpt
          rw [← gfx] at c3'
          rw [← gqn] at c4
          have x0 : wo.cell? ⟨g, i * 5, none⟩ = some (.string ks) := (hbo.cell (p := ⟨g, i * 5, none⟩) hgl).trans c0
          have x1 : wo.cell? ⟨g, i * 5 + 1, none⟩ = some (.string gs) := (hbo.cell (p := ⟨g, i * 5 + 1, none⟩) hgl).trans c1
          have x2 : wo.cell? ⟨g, i * 5 + 2, none⟩ = some (.slice pa pn pc) := (hbo.cell (p := ⟨g, i * 5 + 2, none⟩) hgl).trans c2
          have x3 : wo.cell? ⟨g, i * 5 + 3, none⟩ = some (.int .i64 fx) := (hbo.cell (p := ⟨g, i * 5 + 3, none⟩) hgl).trans c3'
          have x4 : wo.cell? ⟨g, i * 5 + 4, none⟩ = some (.slice qa qn qc) := (hbo.cell (p := ⟨g, i * 5 + 4, none⟩) hgl).trans c4
          obtain ⟨X, gX⟩ : ∃ X, X = wo.alloc (.cells #[.string ks, .string gs, .slice pa pn pc, .int .i64 fx, .slice qa qn qc] 37) := ⟨_, rfl⟩
          have hbX : Below wo.heap.size wo X := by rw [gX]; exact (Below.refl _ _).alloc (Nat.le_refl _) _
          have hX : X.heap[wo.heap.size]? = some (.cells #[.string ks, .string gs, .slice pa pn pc, .int .i64 fx, .slice qa qn qc] 37 (0, 0)) := by rw [gX]; exact heap_alloc_new _ _
          have hobX := hob.below hbX
          have hb3X : Below w3.heap.size w3 X := hbo.trans (hbX.mono hbo.size)
          have d2 : X.cell? ⟨wo.heap.size, 2, none⟩ = some (.slice pa pn pc) := heap_cells hX 2 _ rfl
          have hhm : w3.heap.size < wo.heap.size := hob.lt
          have hpl := hp.le
          have hpc := hp.cm
          have HP := hid hp.il
          have HX := hid hX
          have HOBX := hid hobX
          have HB3X := hid hb3X
          have GX := hid gX
          have HTM := hid htm
          have HTK := hid htk
          have GF := hid gfx
          have GPN := hid gpn
          have HPT := hid hpt.1
          have hpn := hpt.2
          clear ev2 ev3 c0 c1 c2 c3' c4 hp hq hpt htk ge gpn gqn gks ggs gfx gX hbX hX hobX hb3X hob htm hbo
          go_upto_region 20 with fail
          rw [← GX.out]
          go_upto_region 21 with fail
          go_loopw [62] (fun k wx => ∃ (t : Nat), k = .int .i64 t ∧ t ≤ pn ∧ Hid (∃ T', Ob wx w3.heap.size T' ∧ T'.length ≤ 2000 * i + t ∧ (∀ x, x ∈ T' ↔ x ∈ T ∨ (fx = 0 ∧ x ∈ e.p.take t)) ∧ Upd (· = w3.heap.size) X wx)) (fun k _ => pn - (intOf k).toNat)
          case atStart => exact ⟨0, rfl, Nat.zero_le _, hid ⟨T, HOBX.out, by omega, fun x => by simp, Upd.refl _ _⟩⟩
          case round =>
            rename World => wi
            obtain ⟨t, rfl, htn, HI⟩ := hrel
            by_cases hlt3 : t < pn
            · obtain ⟨T', hob', htl', htm', hu'⟩ := HI.out
              have hb3i : Below w3.heap.size w3 wi := HB3X.out.trans (hu'.below HB3X.out.size (fun x h => by rw [h]; exact Nat.le_refl _))
              obtain ⟨bp, op, ep, hbp, hcp'⟩ := (HP.out.below hb3i).cells (by omega)
              subst ep
              have hx := hcp' t hlt3
              obtain ⟨z, gz⟩ : ∃ z, z = e.p.getD t 0 := ⟨_, rfl⟩
              rw [← gz] at hx
              have hpl' : t < e.p.length := by rw [← GPN.out]; exact hlt3
              have hzm : z ∈ e.p := by
                rw [gz, List.getD_eq_getElem?_getD, List.getElem?_eq_getElem hpl']
                exact List.getElem_mem _
              have hz2 := HPT.out z hzm
              have htk' : e.p.take (t + 1) = e.p.take t ++ [z] := by rw [gz]; exact take_more e.p t hpl'
              have y3 : wi.cell? ⟨wo.heap.size, 3, none⟩ = some (.int .i64 fx) := heap_cells (hu'.heap HX.out (fun h => by have h' : wo.heap.size = w3.heap.size := h; omega)) 3 _ rfl
              have HTK' := hid htk'
              have HTM' := hid htm'
              have HU' := hid hu'
              have HOB' := hid hob'
              clear hcp' gz hzm htk' htm' hu' hob' hb3i hpl'
              by_cases hf : fx = 0
              · obtain ⟨w7, hr7, hob7, hu7⟩ := ob_put HOB'.out (k := z) (⟨by omega, by omega⟩) (by unfold maxLen; omega)
                have HOB7 := hid hob7
                have HU7 := hid hu7
                have GF0 := hid hf
                rw [hf] at y3
                clear hob7 hu7
                go_wp2_with fail
                go_roundw
                case rel =>
                  refine ⟨t + 1, by go_num, by omega, hid ⟨addN T' z, HOB7.out, ?_, fun x => ?_, HU'.out.trans HU7.out (fun x _ h => h)⟩⟩
                  · unfold addN
                    split
                    · omega
                    · simp; omega
                  · rw [mem_addN, HTM'.out x, HTK'.out, List.mem_append]
                    simp only [List.mem_singleton, GF0.out, true_and]
                    exact or_assoc
                case measure => simp [intOf]; omega
              · have hfv : (fx == 0) = false := by simp [hf]
                go_wp2_with fail
                go_roundw
                case rel =>
                  refine ⟨t + 1, by go_num, by omega, hid ⟨T', HOB'.out, by omega, fun x => ?_, HU'.out⟩⟩
                  rw [HTM'.out x]
                  simp [hf]
                case measure => simp [intOf]; omega
            · have hltv3 : ¬ (t : Int) < (pn : Int) := by omega
              obtain ⟨T', hob', htl', htm', hu'⟩ := HI.out
              have hb3i : Below w3.heap.size w3 wi := HB3X.out.trans (hu'.below HB3X.out.size (fun x h => by rw [h]; exact Nat.le_refl _))
              have htt : e.p.take t = e.p := List.take_of_length_le (by rw [← GPN.out]; omega)
              rw [htt] at htm'
              have HTM' := hid htm'
              have HOB' := hid hob'
              have HBI := hid hb3i
              clear htt htm' hob' hb3i hu'
              go_wp2_with fail
              go_roundw
              case rel =>
                refine ⟨i + 1, by go_num, by omega, hid ⟨T', HOB'.out, by omega, fun x => ?_, HBI.out⟩⟩
                rw [HTM'.out x, HTM.out x, HTK.out]
                constructor
                · rintro (⟨e', h1, h2, h3⟩ | ⟨h1, h2⟩)
                  · exact ⟨e', List.mem_append.2 (.inl h1), h2, h3⟩
                  · exact ⟨e, List.mem_append.2 (.inr (by simp)), by rw [← GF.out]; exact h1, h2⟩
                · rintro ⟨e', h1, h2, h3⟩
                  rcases List.mem_append.1 h1 with h | h
                  · exact .inl ⟨e', h, h2, h3⟩
                  · simp at h
                    subst h
                    exact .inr ⟨by rw [GF.out]; exact h2, h3⟩
              case measure => simp [intOf]; omega
        · have hltv2 : ¬ (i : Int) < (ln : Int) := by omega
          obtain ⟨T, hob, htl, htm, hbo⟩ := HA.out
          have htt : L.take i = L := List.take_of_length_le (by rw [← GLN.out]; omega)
          rw [htt] at htm
          have hcpo := HCP3.out.below hbo
          have kQ := hid (points_any _ cp jp m K F wo hcpo.cc hcpo.em hcpo.k40 hcpo.ok)
          have hbwo : Below w.heap.size w wo := HBW3.out.trans (hbo.mono HBW3.out.size)
          have HTM := hid htm
          have HOB := hid hob
          have HBWO := hid hbwo
          clear htt htm hob hcpo hbo hbwo
          go_upto_region 28 with (first | (go_at_call 35; refine kQ.out.mono ?_; rintro r w6 h6; have H6 := hid h6; clear h6 kQ; obtain ⟨a6, n6, c6, ps, rfl, hW6, hcm6, hp6, hm6, hb6⟩ := H6.out; have HW6 := hid hW6; have HP6 := hid hp6; have HM6 := hid hm6; have HB6 := hid hb6; clear hW6 hp6 hm6 hb6 H6))
          have hmem : ∀ x, x ∈ ps ↔ x ∈ T := fun x => by
            rw [HM6.out x, HTM.out x]
            constructor
            · rintro ⟨s, e, h1, h2, h3⟩
              exact ⟨e, by rw [GL.out]; exact (mem_ents HKS.out e).2 ⟨s, h1⟩, h2, h3⟩
            · rintro ⟨e, h1, h2, h3⟩
              rw [GL.out] at h1
              obtain ⟨s, hs⟩ := (mem_ents HKS.out e).1 h1
              exact ⟨s, e, hs, h2, h3⟩
          have hrng : ∀ x ∈ ps, 0 ≤ x ∧ x < 2000 := fun x hx => by
            obtain ⟨e, h1, _, h3⟩ := (HTM.out x).1 ((hmem x).1 hx)
            exact (HPTR.out e h1).1 x h3
          have hob6 := HOB.out.below HB6.out
          have hnd : ps.Nodup := HP6.out.imp (fun h e => by omega)
          have hTn : T.Nodup := by obtain ⟨_, _, _, h, _⟩ := HOB.out; exact h
          have hlen : ps.length = T.length := ((List.perm_ext_iff_of_nodup hnd hTn).2 hmem).length_eq
          have hn6 : n6 = ps.length := HW6.out.size.symm
          have hle6 := HW6.out.le
          have hlk : ∀ x ∈ ps, (Instr.lookup 70 (.map (some w3.heap.size)) (.int .i64 x) false).run Tryz.prog w6 = .ok (.bool true) w6 := fun x hx => by
            have hr := hrng x hx
            have := ob_look hob6 (k := x) ⟨by omega, by omega⟩
            rw [decide_eq_true ((hmem x).1 hx)] at this
            exact this
          have hbw6 : Below w.heap.size w w6 := HBWO.out.trans (HB6.out.mono HBWO.out.size)
          have kW := hid (awake_any w6 (tab_in HT.out hbw6 hTl) (er_in HR.out hbw6 hTl))
          have HLK := hid hlk
          have HLEN := hid hlen
          have HN6 := hid hn6
          have HBW6 := hid hbw6
          have hml : ∀ ty, (Builtin.len_ #[70] ty #[.map (some w3.heap.size)]).run Tryz.prog w6 = .ok (.int .i64 (n6 : Nat)) w6 := fun ty => by rw [hn6, hlen]; exact ob_len hob6 ty
          clear hmem hrng hob6 hnd hTn hlen hn6 hlk hbw6
          go_upto_region 29 with fail
          go_loop [77] (fun k => ∃ (i : Nat), k = .int .i64 i ∧ i ≤ n6) (fun k => n6 - (intOf k).toNat)
          case atStart => exact ⟨0, rfl, Nat.zero_le _⟩
          case round =>
            obtain ⟨t, rfl, htn⟩ := hrel
            by_cases hlt4 : t < n6
            · obtain ⟨g6, eg6, _, hg6, hH6⟩ := HW6.out.cells (by omega)
              subst eg6
              have htl4 : t < ps.length := by rw [← HN6.out]; exact hlt4
              have hcell : ∀ j, j < ps.length → w6.cell? ⟨g6, j, none⟩ = some (.int .i64 (ps.getD j 0)) := fun j hj => by
                have := (HW6.out.ilst).cells (by omega)
                obtain ⟨b, o, e, _, hc⟩ := this
                injection e with e
                injection e with e1 e2
                subst e1
                subst e2
                have := hc j (by have := HN6.out; omega)
                rw [Nat.zero_add] at this
                exact this
              have hx := hcell t htl4
              obtain ⟨z, gz⟩ : ∃ z, z = ps.getD t 0 := ⟨_, rfl⟩
              have hzm : z ∈ ps := by
                rw [gz, List.getD_eq_getElem?_getD, List.getElem?_eq_getElem htl4]
                exact List.getElem_mem _
              have hl := HLK.out z hzm
              rw [← gz] at hx
              by_cases ht0 : t = 0
              · subst ht0
                clear hcell gz hzm
                go_wp2_with fail
                go_round
                case rel => exact ⟨0 + 1, by go_num, by omega⟩
                case measure => simp [intOf]; omega
              · have ht0v : (0 : Int) < (t : Int) := by omega
                obtain ⟨t1, gt1⟩ : ∃ t1, t = t1 + 1 := ⟨t - 1, by omega⟩
                have hy := hcell t1 (by omega)
                obtain ⟨y, gy⟩ : ∃ y, y = ps.getD t1 0 := ⟨_, rfl⟩
                rw [← gy] at hy
                have hyz : y < z := by
                  have := List.pairwise_iff_getElem.1 HP6.out t1 t (by omega) htl4 (by omega)
                  rw [gy, gz, List.getD_eq_getElem?_getD, List.getD_eq_getElem?_getD, List.getElem?_eq_getElem htl4, List.getElem?_eq_getElem (by omega)]
                  exact this
                have hyzv : ¬ z ≤ y := by omega
                have e1 : (t : Int) - 1 = (t1 : Int) := by omega
                have ht1n : t1 < n6 := by omega
                clear hcell gz gy gt1 hzm
                go_wp2_with fail
                go_round
                case rel => exact ⟨t + 1, by go_num, by omega⟩
                case measure => simp [intOf]; omega
            · have hltv4 : ¬ (t : Int) < (n6 : Int) := by omega
              go_wp2_with (first | (go_at_call 34; refine kW.out.mono ?_; rintro r w8 ⟨rfl, hb8⟩; have HB8 := hid hb8; clear hb8 kW))
              go_ret
              exact ⟨rfl, HBW6.out.trans (HB8.out.mono HBW6.out.size)⟩
end Go.Proofs.YtbgommpdmnbplaaGreatDoor
