/- The corpus and what it stands on, merged. -/
import Derived.Test.YtbgommpdmnbplaaGreatDoorCoA26
import Derived.Test.YtbgommpdmnbplaaGreatDoorCoA25
import Derived.Test.YtbgommpdmnbplaaGreatDoorCoA22

/- CorpusFull's law. -/
namespace Go.Proofs.YtbgommpdmnbplaaGreatDoor
open Go.RowKit Co Num Jr
set_option linter.unusedVariables false
set_option maxRecDepth 20000

/-- A corpus of a law, all of it new since B, whose records leave what it has. -/
def Cr (B : Nat) (w0 w : World) (cp p n : Nat) (F : Sta) (N0 : List Nat) : Prop :=
  ∃ (jp : Nat) (d : Dk) (S : Nat → List Int) (gen groups used : Nat) (done : List (List Int)) (wv : Value) (m : Nat) (K : List (List UInt8)), Cp d w cp jp p n S gen groups used done wv m K F ∧ (∀ x ∈ cp :: Jf d p jp wv, B ≤ x) ∧ Below B w0 w ∧ B ≤ w.heap.size ∧ replay done = F ∧ N0 = cp :: Jf d p jp wv

theorem Cr.below {B : Nat} {w0 w w' : World} {cp p n : Nat} {F : Sta} {N0 : List Nat} (h : Cr B w0 w cp p n F N0) (u : Below w.heap.size w w') : Cr B w0 w' cp p n F N0 := by
  obtain ⟨jp, d, S, gen, groups, used, done, wv, m, K, h1, h2, h3, h4, h5, h6⟩ := h
  exact ⟨jp, d, S, gen, groups, used, done, wv, m, K, h1.below u, h2, h3.trans (u.mono h4), Nat.le_trans h4 u.size, h5, h6⟩
theorem Cr.bel {B : Nat} {w0 w : World} {cp p n : Nat} {F : Sta} {N0 : List Nat} (h : Cr B w0 w cp p n F N0) : Below B w0 w := by
  obtain ⟨_, _, _, _, _, _, _, _, _, _, _, _, h3, _⟩ := h
  exact h3

theorem Cr.step {B : Nat} {w0 w w' : World} {cp jp p n : Nat} {d : Dk} {S : Nat → List Int} {gen groups used : Nat} {done : List (List Int)} {wv : Value} {m : Nat} {K : List (List UInt8)} {F F2 : Sta} {zs : List Int} {more : Prop} {r : Ending} (h1 : ∀ x ∈ cp :: Jf d p jp wv, B ≤ x) (h2 : Below B w0 w) (h3 : B ≤ w.heap.size) (h5 : replay done = F) (hf : more → folR F zs = F2) (h : StepP d w cp jp p n S gen groups used done wv m K F zs F2 more r w') :
    ∃ (code : Nat) (F' : Sta) (N1 : List Nat), r = .returned (.int .i64 code) ∧ Cr B w0 w' cp p n F' N1 ∧ Upd (· ∈ cp :: Jf d p jp wv) w w' ∧ (code ≠ 0 → F' = F) := by
  obtain ⟨code, d', wv', m', K', hr, _, hu, hg, hm, hc⟩ := h
  have hb : Below B w0 w' := h2.trans (hu.below h3 h1)
  have hs : B ≤ w'.heap.size := Nat.le_trans h3 hu.size
  have hn : ∀ x ∈ cp :: Jf d' p jp wv', B ≤ x := fun x hx => by
    rcases List.mem_cons.1 hx with h | h
    · exact h1 x (by simp [h])
    · rcases hg x h with h | h
      · exact h1 x (List.mem_cons_of_mem _ h)
      · omega
  rcases hc with ⟨c1, c2, c3, g', u', c4⟩ | ⟨c1, c2, c3, g', u', c4⟩ | ⟨c1, c2, c3, c4, c5⟩
  · exact ⟨code, F2, _, hr, ⟨jp, d', _, _, g', u', _, wv', m', K', c4, hn, hb, hs, by rw [replay_snoc, h5]; exact hf c3, rfl⟩, hu, fun h => absurd c1 h⟩
  · exact ⟨code, F2, _, hr, ⟨jp, d', _, _, g', u', _, wv', m', K', c4, hn, hb, hs, replay_all F2 K' c4.em.keys c4.ok c4.k40, rfl⟩, hu, fun h => absurd c1 h⟩
  · subst c2
    exact ⟨code, F, _, hr, ⟨jp, d', _, _, groups, used, _, wv', m, K, c5, hn, hb, hs, h5, rfl⟩, hu, fun _ => rfl⟩

/-- What a change answers. -/
def ChP (B : Nat) (w0 w : World) (cp p n : Nat) (F : Sta) (N0 : List Nat) (r : Ending) (w' : World) : Prop := ∃ (code : Nat) (F' : Sta) (N1 : List Nat), r = .returned (.int .i64 code) ∧ Cr B w0 w' cp p n F' N1 ∧ Upd (· ∈ N0) w w' ∧ (code ≠ 0 → F' = F)

theorem cr_put (B : Nat) (w0 w : World) (cp p n : Nat) (F : Sta) (N0 : List Nat) (v : Value) (e : Ety) (h : Cr B w0 w cp p n F N0) (hT : Tab w0) (hR : Er w0) (hB : 1 < B) (hn4 : 4 ≤ n) (hE : Ev w [] v e) :
    Calls Tryz.prog 13 #[.pointer (some ⟨cp, 0, none⟩), v] w (ChP B w0 w cp p n F N0) := by
  obtain ⟨jp, d, S, gen, groups, used, done, wv, m, K, h1, h2, h3, h4, h5, h6⟩ := h
  refine (put_entry d cp jp p n gen groups used S done wv m K F v e w h1 (tab_in hT h3 hB) (fun hx => by have := h2 _ (List.mem_cons_of_mem _ hx); omega) (er_in hR h3 hB) (fun hx => by have := h2 _ (List.mem_cons_of_mem _ hx); omega) hn4 hE).mono ?_
  intro r w' hs
  subst h6
  exact Cr.step h2 h3 h4 h5 (fun hm => fol_put F e hm.1 (by have := putR_q e; have := hm.2.1; omega) hm.2.2) hs
theorem cr_del (B : Nat) (w0 w : World) (cp p n : Nat) (F : Sta) (N0 : List Nat) (k : ByteArray) (h : Cr B w0 w cp p n F N0) (hT : Tab w0) (hR : Er w0) (hB : 1 < B) (hn4 : 4 ≤ n) :
    Calls Tryz.prog 16 #[.pointer (some ⟨cp, 0, none⟩), .string k] w (ChP B w0 w cp p n F N0) := by
  obtain ⟨jp, d, S, gen, groups, used, done, wv, m, K, h1, h2, h3, h4, h5, h6⟩ := h
  refine (delete_entry d cp jp p n gen groups used S done wv m K F k w h1 (tab_in hT h3 hB) (fun hx => by have := h2 _ (List.mem_cons_of_mem _ hx); omega) (er_in hR h3 hB) (fun hx => by have := h2 _ (List.mem_cons_of_mem _ hx); omega) hn4).mono ?_
  intro r w' hs
  subst h6
  exact Cr.step h2 h3 h4 h5 (fun hm => fol_del F k hm.1) hs

theorem cr_new {B : Nat} {w0 w w' : World} {p n : Nat} {d : Dk} {r : Ending} {S : Nat → List Int} (h : CNewP d w p n S r w') (hf : ∀ x ∈ d.foot p, B ≤ x) (hb : Below B w0 w) (hs : B ≤ w.heap.size) :
    ∃ cp, r = .returned (.tuple #[.pointer (some ⟨cp, 0, none⟩), .int .i64 0]) ∧ ∃ N0, Cr B w0 w' cp p n (fun _ => none) N0 := by
  obtain ⟨cp, jp, d', m, hr, hc, hu, hj, hcp, hm⟩ := h
  refine ⟨cp, hr, _, jp, d', _, _, 0, 0, [], _, m, [], hc, fun x hx => ?_, hb.trans (hu.below hs hf), Nat.le_trans hs hu.size, rfl, rfl⟩
  rcases List.mem_cons.1 hx with h | h
  · omega
  · rcases hj x h with h | h
    · exact hf x h
    · omega

theorem Cr.lt {B : Nat} {w0 w : World} {cp p n : Nat} {F : Sta} {N0 : List Nat} (h : Cr B w0 w cp p n F N0) : ∀ x ∈ N0, x < w.heap.size := by
  obtain ⟨jp, d, S, gen, groups, used, done, wv, m, K, h1, h2, h3, h4, h5, h6⟩ := h
  subst h6
  intro x hx
  rcases List.mem_cons.1 hx with h | h
  · rw [h]; exact (Array.getElem?_eq_some_iff.1 h1.cc).1
  · exact h1.js.lt x h
/-- Some corpus that has F. -/
def Ca (w : World) (cp : Nat) (F : Sta) : Prop := ∃ (d : Dk) (jp p n : Nat) (S : Nat → List Int) (gen groups used : Nat) (done : List (List Int)) (wv : Value) (m : Nat) (K : List (List UInt8)), Cp d w cp jp p n S gen groups used done wv m K F
theorem Cr.ca {B : Nat} {w0 w : World} {cp p n : Nat} {F : Sta} {N0 : List Nat} (h : Cr B w0 w cp p n F N0) : Ca w cp F := by
  obtain ⟨jp, d, S, gen, groups, used, done, wv, m, K, h1, _⟩ := h
  exact ⟨d, jp, p, n, S, gen, groups, used, done, wv, m, K, h1⟩
/-- The entries of F, by their keys. -/
def Ek (F : Sta) (L : List Ety) : Prop := ∃ (w : World) (N : List Nat) (m : Nat) (K : List (List UInt8)), Em w N m K F ∧ L = ents F K
theorem Ek.unique {F : Sta} {L L' : List Ety} (h : Ek F L) (h' : Ek F L') : L = L' := by
  obtain ⟨w, N, m, K, h1, rfl⟩ := h
  obtain ⟨w', N', m', K', h1', rfl⟩ := h'
  rw [h1.unique h1']
/-- What 'all' tells. -/
def LsP (w : World) (F : Sta) (N0 : List Nat) (r : Ending) (w' : World) : Prop := ∃ (v : Value) (L : List Ety), r = .returned (.tuple #[v, .bool true]) ∧ Ek F L ∧ L.length ≤ 40 ∧ (∀ e ∈ L, e.p.length ≤ 2000 ∧ e.q.length ≤ 2000) ∧ Elt w' N0 w.heap.size v L ∧ Below w.heap.size w w'
theorem ca_all (w : World) (cp : Nat) (F : Sta) (N0 : List Nat) (hN0 : ∀ x ∈ N0, x < w.heap.size) (h : Ca w cp F) : Calls Tryz.prog 27 #[.pointer (some ⟨cp, 0, none⟩)] w (LsP w F N0) := by
  obtain ⟨d, jp, p, n, S, gen, groups, used, done, wv, m, K, h1⟩ := h
  refine (all_new N0 _ cp jp m K F w h1.cc h1.em h1.k40 h1.ok hN0).mono ?_
  rintro r w' ⟨v, rfl, h2, h3⟩
  have hks := h1.em.keys
  refine ⟨v, ents F K, rfl, ⟨_, _, _, K, h1.em, rfl⟩, ?_, fun e he => ?_, h2, h3⟩
  · rw [ents_len (fun s hs => (hks.mem s).1 hs)]; exact h1.k40
  · obtain ⟨s, hs⟩ := (mem_ents hks e).1 he
    obtain ⟨_, o2, o3⟩ := h1.ok s e hs
    exact mayB_lens o2 o3

/-- A copy of the corpus's disk. -/
def CoyP (B : Nat) (w : World) (n : Nat) (F : Sta) (r : Ending) (w' : World) : Prop := ∃ (q : Nat) (d : Dk) (S : Nat → List Int), r = .returned (.pointer (some ⟨q, 0, none⟩)) ∧ Jd d w' q n S ∧ d.rest ∧ replay (opened n S).1 = F ∧ F.ok ∧ (∀ x ∈ d.foot q, w.heap.size ≤ x) ∧ Below w.heap.size w w'
theorem cr_copy (B : Nat) (w0 w : World) (cp p n : Nat) (F : Sta) (N0 : List Nat) (h : Cr B w0 w cp p n F N0) : Calls Tryz.prog 33 #[.pointer (some ⟨p, 0, none⟩)] w (CoyP B w n F) := by
  obtain ⟨jp, d, S, gen, groups, used, done, wv, m, K, h1, h2, h3, h4, h5, h6⟩ := h
  refine (copy_any d p w h1.js.jd.ok (by rw [h1.js.rest.1]; simp)).mono ?_
  rintro r w2 ⟨q, d2, rfl, hok, hn, hd, hw, ha, ho, hf, hb⟩
  have hj := h1.js.jd.copied h1.js.rest hok hn hd hw ha ho
  exact ⟨q, d2, S, rfl, hj.1, hj.2, by rw [h1.js.ji.opened.1]; exact h5, h1.ok, hf, hb⟩

/-- A corpus opened on a copy. -/
def AgP (w : World) (F : Sta) (r : Ending) (w' : World) : Prop := ∃ cp, r = .returned (.tuple #[.pointer (some ⟨cp, 0, none⟩), .int .i64 0]) ∧ Ca w' cp F ∧ Below w.heap.size w w'
theorem cr_again (B : Nat) (w w1 : World) (n q : Nat) (F : Sta) (d : Dk) (S : Nat → List Int) (hJ : Jd d w1 q n S) (hr : d.rest) (hS : replay (opened n S).1 = F) (ho : F.ok) (hf : ∀ x ∈ d.foot q, w.heap.size ≤ x) (hb : Below w.heap.size w w1) (hT : Tab w1) (hB : 1 < w.heap.size) (hn4 : 4 ≤ n) :
    Calls Tryz.prog 10 #[.pointer (some ⟨q, 0, none⟩)] w1 (AgP w F) := by
  refine (copen_any d q n S w1 hJ hr hT (fun hx => by have := hf _ hx; omega) hn4 (by rw [hS]; exact ho)).mono ?_
  rintro r w' ⟨cp, jp, d', m, K, rfl, hc, hu, _, _, _⟩
  rw [hS] at hc
  exact ⟨cp, rfl, ⟨d', jp, q, n, _, _, _, _, _, _, m, K, hc⟩, hb.trans (hu.below hb.size hf)⟩

set_option maxHeartbeats 8000000 in
theorem full_road (sec0 : Int) (la : Option Addr) (ll lc : Nat) (w : World) (hD : Dol w la ll) (hl : ll ≤ lc) (hl2 : lc ≤ 9223372036854775807) (hT : Tab w) (hR : Er w) : Calls Tryz.prog 6 #[.int .i64 sec0, .slice la ll lc] w fun r w' => r = .returned (.bool true) ∧ Below w.heap.size w w' := by
  have hTl : 1 < w.heap.size := World.block_lt_of_cell? _ _ (hT 0 (by omega))
  obtain ⟨n, gn⟩ : ∃ n : Nat, (n : Int) = 4 + (sec0 % 18446744073709551616) % 30 := ⟨(4 + (sec0 % 18446744073709551616) % 30).toNat, by omega⟩
  have hn1 : 4 ≤ n := by omega
  have hn2 : n ≤ 33 := by omega
  have hw : wrap64 ((IntKind.u64.wrap sec0).tmod 30) = ((n - 4 : Nat) : Int) := by
    rw [IntKind.wrap_u64, Int.tmod_eq_emod_of_nonneg (by omega)]; unfold wrap64; omega
  have HW := hid hw
  have hw2 : wrap64 ((4 : Int) + ((n - 4 : Nat) : Int)) = (n : Int) := by unfold wrap64; omega
  have HW2 := hid hw2
  clear gn hw hw2
  have k1 := hid (new_dk n w (by omega) (by omega))
  have HT := hid hT
  have HR := hid hR
  have HD := hid hD
  clear hT hR hD
  go_enter Tryz.func6, Tryz.ntmps6
  go_upto_region 1 with fail
  go_upto_region 2 with (first | (go_at_call 22; rw [HW.out, HW2.out]; refine k1.out.mono ?_; rintro r w1 ⟨p, d, rfl, hok, hn, hd, hw, he, ho, hf, hb⟩; have HJ := hid (jd_new hok hn hd hw he ho); have HF := hid hf; have HB := hid hb; clear hok hn hd hw he ho hf hb k1))
  have hdT : 1 ∉ d.foot p := fun hx => by have := HF.out _ hx; omega
  have k2 := hid (copen_new d p n _ w1 HJ.out.1 HJ.out.2 (tab_in HT.out HB.out hTl) hdT (by omega) newest_zero)
  clear hdT
  go_upto_region 7 with (first | (go_at_call 10; refine k2.out.mono ?_; rintro r w2 h2; have H2 := hid (cr_new h2 HF.out HB.out HB.out.size); clear h2 k2; obtain ⟨cp, rfl, hq2⟩ := H2.out; have HQ2 := hid hq2; clear hq2 H2))
  go_wp2_with fail
  go_loopw [37] (fun k wr => ∃ (i : Nat), k = .int .i64 i ∧ i ≤ ll ∧ Hid (∃ F N0, Cr w.heap.size w wr cp p n F N0)) (fun k _ => ll - (intOf k).toNat)
  case atStart => exact ⟨0, rfl, Nat.zero_le _, hid ⟨_, HQ2.out⟩⟩
  case round =>
    clear HQ2
    obtain ⟨i, rfl, hin, HA⟩ := hrel
    by_cases hlt : i < ll
    · obtain ⟨b, o, e, hbl, hcc⟩ := HD.out (by omega)
      subst e
      obtain ⟨F, N0, hq⟩ := HA.out
      have hbw := hq.bel
      obtain ⟨b', o', e', hbl', hcc'⟩ := (HD.out.below hbw) (by omega)
      injection e' with e'
      injection e' with e1 e2
      subst e1
      subst e2
      obtain ⟨op, e, pa, pc, qa, qc, c0, c1, c2, c3, c4, c5, c6, c7⟩ := hcc' i hlt
      obtain ⟨pn, gpn⟩ : ∃ pn, pn = e.p.length := ⟨_, rfl⟩
      obtain ⟨qn, gqn⟩ : ∃ qn, qn = e.q.length := ⟨_, rfl⟩
      obtain ⟨ks, gks⟩ : ∃ ks, ks = e.k := ⟨_, rfl⟩
      obtain ⟨gs, ggs⟩ : ∃ gs, gs = e.g := ⟨_, rfl⟩
      obtain ⟨fx, gfx⟩ : ∃ fx, fx = e.f := ⟨_, rfl⟩
      rw [← gks] at c1
      rw [← ggs] at c2
      rw [← gpn] at c3
      rw [← gfx] at c4
      rw [← gqn] at c5
      obtain ⟨W, gW⟩ : ∃ W, W = wr.alloc (.cells #[.int .i64 op, .string ks, .string gs, .slice pa pn pc, .int .i64 fx, .slice qa qn qc] 39) := ⟨_, rfl⟩
      have hbA : Below wr.heap.size wr W := by rw [gW]; exact (Below.refl _ _).alloc (Nat.le_refl _) _
      have hW : W.heap[wr.heap.size]? = some (.cells #[.int .i64 op, .string ks, .string gs, .slice pa pn pc, .int .i64 fx, .slice qa qn qc] 39 (0, 0)) := by rw [gW]; exact heap_alloc_new _ _
      have hwl : wr.heap.size < W.heap.size := (Array.getElem?_eq_some_iff.1 hW).1
      have hEW : ∀ wx, Below W.heap.size W wx → Ev wx [] (.agg #[.string ks, .string gs, .slice pa pn pc, .int .i64 fx, .slice qa qn qc]) e := fun wx hb => by
        rw [gks, ggs, gpn, gfx, gqn]
        exact Ev.upd (w := wr) (N := []) ⟨pa, pc, qa, qc, rfl, c6, c7⟩ (Upd.of_below (F := fun _ => False) (hbA.trans (hb.mono hbA.size))) (fun _ _ h => h.elim) (fun x hx => .inl hx)
      have hqW := hq.below hbA
      have HQW := hid hqW
      have HW := hid hW
      have GW := hid gW
      have HEW := hid hEW
      clear hcc hcc' gpn gqn gks ggs gfx gW hbA hW hEW hqW hbw c6 c7 hq
      by_cases h25 : i ≤ 25
      · have h25v : ¬ (25 : Int) < (i : Int) := by omega
        go_upto_region 10 with fail
        rw [← GW.out]
        have kA := hid (ca_all W cp F N0 HQW.out.lt HQW.out.ca)
        go_upto_region 12 with (first | (go_at_call 27; refine kA.out.mono ?_; rintro r w3 h3; have H3 := hid h3; clear h3 kA; obtain ⟨v3, L3, rfl, hk3, hl3, hm3, he3, hb3⟩ := H3.out; have HK3 := hid hk3; have HE3 := hid he3; have HB3 := hid hb3; clear hk3 hl3 hm3 he3 hb3 H3))
        have hQ3 := HQW.out.below HB3.out
        have HQ3 := hid hQ3
        have hE3w : w3.heap[wr.heap.size]? = _ := (HB3.out.block wr.heap.size hwl).trans HW.out
        have f0 : w3.cell? ⟨wr.heap.size, 0, none⟩ = some (.int .i64 op) := heap_cells hE3w 0 _ rfl
        have f1 : w3.cell? ⟨wr.heap.size, 1, none⟩ = some (.string ks) := heap_cells hE3w 1 _ rfl
        have f2 : w3.cell? ⟨wr.heap.size, 2, none⟩ = some (.string gs) := heap_cells hE3w 2 _ rfl
        have f3 : w3.cell? ⟨wr.heap.size, 3, none⟩ = some (.slice pa pn pc) := heap_cells hE3w 3 _ rfl
        have f4 : w3.cell? ⟨wr.heap.size, 4, none⟩ = some (.int .i64 fx) := heap_cells hE3w 4 _ rfl
        have f5 : w3.cell? ⟨wr.heap.size, 5, none⟩ = some (.slice qa qn qc) := heap_cells hE3w 5 _ rfl
        obtain ⟨a3, c3v, gv3⟩ : ∃ a3 c3v, v3 = .slice a3 L3.length c3v := by
          obtain ⟨_, _, h2, _⟩ := HE3.out
          obtain ⟨a, c, ev, _, _⟩ := own_shape h2
          exact ⟨a, c, ev⟩
        have GV3 := hid gv3
        obtain ⟨kb4, gkb⟩ : ∃ kb4 : Bool, kb4 = decide (op.tmod 5 = 4) := ⟨_, rfl⟩
        clear hQ3 hE3w gv3
        cases kb4 with
        | true =>
          have hop : op.tmod 5 = 4 := of_decide_eq_true gkb.symm
          have kC := hid (cr_del w.heap.size w w3 cp p n F N0 ks HQ3.out HT.out HR.out hTl (by omega))
          clear gkb
          go_upto_region 15 with (first | (go_at_call 16; refine kC.out.mono ?_; rintro r w5 h5; have H5 := hid h5; clear h5 kC; obtain ⟨code, F5, N5, rfl, hq5, hu5, hz5⟩ := H5.out; have HQ5 := hid hq5; have HU5 := hid hu5; have HZ5 := hid hz5; clear hq5 hu5 hz5 H5))
          have kN := hid (ca_all w5 cp F5 [] (fun x hx => by simp at hx) HQ5.out.ca)
          go_upto_region 16 with (first | (go_at_call 27; refine kN.out.mono ?_; rintro r w6 h6; have H6 := hid h6; clear h6 kN; obtain ⟨v6, L6, rfl, hk6, hl6, hm6, he6, hb6⟩ := H6.out; have HK6 := hid hk6; have HL6 := hid hl6; have HM6 := hid hm6; have HE6 := hid he6; have HB6 := hid hb6; clear hk6 hl6 hm6 he6 hb6 H6))
          have hQ6 := HQ5.out.below HB6.out
          have HQ6 := hid hQ6
          have kY := hid (cr_copy w.heap.size w w6 cp p n F5 N5 hQ6)
          have hT6 := tab_in HT.out hQ6.bel hTl
          have HT6 := hid hT6
          have hs6 : w.heap.size ≤ w6.heap.size := hQ6.bel.size
          have hTl6 : 1 < w6.heap.size := by omega
          clear hQ6 hT6
          go_upto_region 17 with (first | (go_at_call 33; refine kY.out.mono ?_; rintro r w7 h7; have H7 := hid h7; clear h7 kY; obtain ⟨q7, d7, S7, rfl, hj7, hr7, hs7, ho7, hf7, hb7⟩ := H7.out; have kG := hid (cr_again w.heap.size w6 w7 n q7 F5 d7 S7 hj7 hr7 hs7 ho7 hf7 hb7 (tab_in HT6.out hb7 hTl6) hTl6 hn1); clear hj7 hr7 hs7 ho7 hf7 hb7 H7) | (go_at_call 10; refine kG.out.mono ?_; rintro r w8 h8; have H8 := hid h8; clear h8 kG; obtain ⟨cp8, rfl, hca8, hb8⟩ := H8.out; have HCA8 := hid hca8; have HB8 := hid hb8; clear hca8 hb8 H8))
          have kT := hid (ca_all w8 cp8 F5 [] (fun x hx => by simp at hx) HCA8.out)
          go_upto_region 20 with (first | (go_at_call 27; refine kT.out.mono ?_; rintro r w9 h9; have H9 := hid h9; clear h9 kT; obtain ⟨v9, L9, rfl, hk9, hl9, hm9, he9, hb9⟩ := H9.out; have HK9 := hid hk9; have HE9 := hid he9; have HB9 := hid hb9; clear hk9 hl9 hm9 he9 hb9 H9))
          have hLL : L9 = L6 := HK9.out.unique HK6.out
          subst hLL
          have hb69 : Below w6.heap.size w6 w9 := HB8.out.trans (HB9.out.mono HB8.out.size)
          have HB69 := hid hb69
          have kS := hid (same_ents _ _ v9 v6 L9 w9 HE9.out.els (HE6.out.els.below hb69) HL6.out HM6.out)
          clear hb69
          by_cases hc0 : code = 0
          · subst hc0
            go_wp2_with (first | (go_at_call 32; refine kS.out.mono ?_; rintro r w10 ⟨rfl, hb10⟩; have HB10 := hid hb10; clear hb10 kS))
            go_roundw
            case rel => exact ⟨i + 1, by go_num, by omega, hid ⟨F5, N5, (HQ6.out.below HB69.out).below HB10.out⟩⟩
            case measure => simp [intOf]; omega
          · have hcv : ¬ (code : Int) = 0 := by omega
            have hcb : ((code : Int) != 0) = true := by simp; omega
            have hFF := HZ5.out hc0
            have hL3 : L3 = L9 := by
              have h9 := HK9.out
              rw [hFF] at h9
              exact HK3.out.unique h9
            have hEl : Els w5 W.heap.size v3 L9 := by
              rw [← hL3]
              exact (HE3.out.upd HU5.out HQW.out.lt).els
            have kS2 := hid (fun wx (hb : Below w9.heap.size w9 wx) =>
              have hb6x : Below w6.heap.size w6 wx := HB69.out.trans (hb.mono HB69.out.size)
              same_ents _ _ v6 v3 L9 wx (HE6.out.els.below hb6x) (hEl.below (HB6.out.trans (hb6x.mono HB6.out.size))) HL6.out HM6.out)
            clear hFF hL3 hEl
            go_wp2_with (first | (go_at_call 32; refine kS.out.mono ?_; rintro r w10 ⟨rfl, hb10⟩; have HB10 := hid hb10; clear hb10 kS) | (go_at_call 32; refine (kS2.out _ HB10.out).mono ?_; rintro r w11 ⟨rfl, hb11⟩; have HB11 := hid hb11; clear hb11 kS2))
            go_roundw
            case rel => exact ⟨i + 1, by go_num, by omega, hid ⟨F5, N5, ((HQ6.out.below HB69.out).below HB10.out).below HB11.out⟩⟩
            case measure => simp [intOf]; omega
        | false =>
          have hop : ¬ op.tmod 5 = 4 := of_decide_eq_false gkb.symm
          have hopb : (op.tmod 5 == 4) = false := by simpa using hop
          have kC := hid (cr_put w.heap.size w w3 cp p n F N0 _ e HQ3.out HT.out HR.out hTl (by omega) (HEW.out w3 HB3.out))
          clear gkb
          go_upto_region 15 with (first | (go_at_call 13; refine kC.out.mono ?_; rintro r w5 h5; have H5 := hid h5; clear h5 kC; obtain ⟨code, F5, N5, rfl, hq5, hu5, hz5⟩ := H5.out; have HQ5 := hid hq5; have HU5 := hid hu5; have HZ5 := hid hz5; clear hq5 hu5 hz5 H5))
          have kN := hid (ca_all w5 cp F5 [] (fun x hx => by simp at hx) HQ5.out.ca)
          go_upto_region 16 with (first | (go_at_call 27; refine kN.out.mono ?_; rintro r w6 h6; have H6 := hid h6; clear h6 kN; obtain ⟨v6, L6, rfl, hk6, hl6, hm6, he6, hb6⟩ := H6.out; have HK6 := hid hk6; have HL6 := hid hl6; have HM6 := hid hm6; have HE6 := hid he6; have HB6 := hid hb6; clear hk6 hl6 hm6 he6 hb6 H6))
          have hQ6 := HQ5.out.below HB6.out
          have HQ6 := hid hQ6
          have kY := hid (cr_copy w.heap.size w w6 cp p n F5 N5 hQ6)
          have hT6 := tab_in HT.out hQ6.bel hTl
          have HT6 := hid hT6
          have hs6 : w.heap.size ≤ w6.heap.size := hQ6.bel.size
          have hTl6 : 1 < w6.heap.size := by omega
          clear hQ6 hT6
          go_upto_region 17 with (first | (go_at_call 33; refine kY.out.mono ?_; rintro r w7 h7; have H7 := hid h7; clear h7 kY; obtain ⟨q7, d7, S7, rfl, hj7, hr7, hs7, ho7, hf7, hb7⟩ := H7.out; have kG := hid (cr_again w.heap.size w6 w7 n q7 F5 d7 S7 hj7 hr7 hs7 ho7 hf7 hb7 (tab_in HT6.out hb7 hTl6) hTl6 hn1); clear hj7 hr7 hs7 ho7 hf7 hb7 H7) | (go_at_call 10; refine kG.out.mono ?_; rintro r w8 h8; have H8 := hid h8; clear h8 kG; obtain ⟨cp8, rfl, hca8, hb8⟩ := H8.out; have HCA8 := hid hca8; have HB8 := hid hb8; clear hca8 hb8 H8))
          have kT := hid (ca_all w8 cp8 F5 [] (fun x hx => by simp at hx) HCA8.out)
          go_upto_region 20 with (first | (go_at_call 27; refine kT.out.mono ?_; rintro r w9 h9; have H9 := hid h9; clear h9 kT; obtain ⟨v9, L9, rfl, hk9, hl9, hm9, he9, hb9⟩ := H9.out; have HK9 := hid hk9; have HE9 := hid he9; have HB9 := hid hb9; clear hk9 hl9 hm9 he9 hb9 H9))
          have hLL : L9 = L6 := HK9.out.unique HK6.out
          subst hLL
          have hb69 : Below w6.heap.size w6 w9 := HB8.out.trans (HB9.out.mono HB8.out.size)
          have HB69 := hid hb69
          have kS := hid (same_ents _ _ v9 v6 L9 w9 HE9.out.els (HE6.out.els.below hb69) HL6.out HM6.out)
          clear hb69
          by_cases hc0 : code = 0
          · subst hc0
            go_wp2_with (first | (go_at_call 32; refine kS.out.mono ?_; rintro r w10 ⟨rfl, hb10⟩; have HB10 := hid hb10; clear hb10 kS))
            go_roundw
            case rel => exact ⟨i + 1, by go_num, by omega, hid ⟨F5, N5, (HQ6.out.below HB69.out).below HB10.out⟩⟩
            case measure => simp [intOf]; omega
          · have hcv : ¬ (code : Int) = 0 := by omega
            have hcb : ((code : Int) != 0) = true := by simp; omega
            have hFF := HZ5.out hc0
            have hL3 : L3 = L9 := by
              have h9 := HK9.out
              rw [hFF] at h9
              exact HK3.out.unique h9
            have hEl : Els w5 W.heap.size v3 L9 := by
              rw [← hL3]
              exact (HE3.out.upd HU5.out HQW.out.lt).els
            have kS2 := hid (fun wx (hb : Below w9.heap.size w9 wx) =>
              have hb6x : Below w6.heap.size w6 wx := HB69.out.trans (hb.mono HB69.out.size)
              same_ents _ _ v6 v3 L9 wx (HE6.out.els.below hb6x) (hEl.below (HB6.out.trans (hb6x.mono HB6.out.size))) HL6.out HM6.out)
            clear hFF hL3 hEl
            go_wp2_with (first | (go_at_call 32; refine kS.out.mono ?_; rintro r w10 ⟨rfl, hb10⟩; have HB10 := hid hb10; clear hb10 kS) | (go_at_call 32; refine (kS2.out _ HB10.out).mono ?_; rintro r w11 ⟨rfl, hb11⟩; have HB11 := hid hb11; clear hb11 kS2))
            go_roundw
            case rel => exact ⟨i + 1, by go_num, by omega, hid ⟨F5, N5, ((HQ6.out.below HB69.out).below HB10.out).below HB11.out⟩⟩
            case measure => simp [intOf]; omega
      · have h25v : (25 : Int) < (i : Int) := by omega
        have hbq := HQW.out.bel
        have kw := hid (awake_any W (tab_in HT.out hbq hTl) (er_in HR.out hbq hTl))
        have HBQ := hid hbq
        clear hbq
        go_upto_region 10 with fail
        rw [← GW.out]
        go_wp2_with (first | (go_at_call 34; refine kw.out.mono ?_; rintro r w9 ⟨rfl, hb9⟩; have HB9 := hid hb9; clear hb9))
        go_ret
        exact ⟨rfl, HBQ.out.trans (HB9.out.mono HBQ.out.size)⟩
    · have hltv : ¬ (i : Int) < (ll : Int) := by omega
      obtain ⟨F, N0, hq⟩ := HA.out
      have hbq := hq.bel
      have kw := hid (awake_any wr (tab_in HT.out hbq hTl) (er_in HR.out hbq hTl))
      have HBQ := hid hbq
      clear hbq hq
      go_wp2_with (first | (go_at_call 34; refine kw.out.mono ?_; rintro r w9 ⟨rfl, hb9⟩; have HB9 := hid hb9; clear hb9))
      go_ret
      exact ⟨rfl, HBQ.out.trans (HB9.out.mono HBQ.out.size)⟩
end Go.Proofs.YtbgommpdmnbplaaGreatDoor
