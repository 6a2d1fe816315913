/- The corpus and what it stands on, merged. -/
import Derived.Test.YtbgommpdmnbplaaGreatDoorCoA29
import Derived.Test.YtbgommpdmnbplaaGreatDoorCoA28
import Derived.Test.YtbgommpdmnbplaaGreatDoorCoA20
import Derived.Laws.AppendOwn
import Derived.Laws.AppendOwnNone

/- The one call more of a corpus: what it leaves on the disk. -/
namespace Go.Proofs.YtbgommpdmnbplaaGreatDoor
open Go.RowKit Co Num Jr
set_option linter.unusedVariables false
set_option maxRecDepth 20000

theorem cmt_head {n gen groups used : Nat} {S : Nat → List Int} {zs : List Int} (i : Nat) (hi : i < 2) : cmtS n gen groups used S [zs] i = S i := by
  unfold cmtS
  rw [if_neg (by simp)]
  exact writeGo_out _ _ _ _ _ _ _ _ (.inl (by have := firstOf_ge gen n; omega))
theorem up_head {n : Nat} {S : Nat → List Int} {gen : Nat} {done : List (List Int)} {groups used : Nat} (h : JI n S gen done groups used) (hg : gen < 2147483648) (X : Nat → List Int) : upS X ((gen + 1) % 2) (headB (gen + 1)) ((gen + 1) % 2) ≠ S ((gen + 1) % 2) := by
  intro e
  have e1 : upS X ((gen + 1) % 2) (headB (gen + 1)) ((gen + 1) % 2) = headB (gen + 1) := by simp [upS]
  rw [e1] at e
  have h1 := h.other
  rw [← e, rightH_head (gen + 1) (by omega) (by omega)] at h1
  omega

/-- A mixture of two images. -/
def Mxd (S W T : Nat → List Int) : Prop := ∀ j, T j = S j ∨ T j = W j ∨ ∃ t, t < 128 ∧ T j = (W j).take t ++ (S j).drop t
theorem Mxd.byt {S W T : Nat → List Int} (hT : Mxd S W T) (hS : ∀ i, Bytes (S i)) (hW : ∀ i, Bytes (W i)) : ∀ i, Bytes (T i) := fun i => by
  rcases hT i with e | e | ⟨t, _, e⟩
  · rw [e]; exact hS i
  · rw [e]; exact hW i
  · rw [e]
    intro z hz
    rcases List.mem_append.1 hz with h | h
    · exact hW i z (List.mem_of_mem_take h)
    · exact hS i z (List.mem_of_mem_drop h)
theorem Mxd.len {S W T : Nat → List Int} (hT : Mxd S W T) (hS : ∀ i, (S i).length = 128) (hW : ∀ i, (W i).length = 128) : ∀ i, (T i).length = 128 := fun i => by
  rcases hT i with e | e | ⟨t, ht, e⟩
  · rw [e]; exact hS i
  · rw [e]; exact hW i
  · rw [e, List.length_append, List.length_take, List.length_drop, hS, hW]; omega
theorem Jd.durS {d : Dk} {w : World} {p n : Nat} {S : Nat → List Int} (h : Jd d w p n S) (hr : d.rest) : ∀ j, j < n → sec d.dur j = S j := fun j hj => by
  have := h.ov j hj
  have e1 : d.ab = [] := by simp [Dk.ab, hr.1]
  rw [e1] at this
  exact this

/-- A corpus of a law, with its disk's image. -/
def Crk (B : Nat) (w0 w : World) (cp p n : Nat) (S : Nat → List Int) (F : Sta) (N0 : List Nat) : Prop :=
  ∃ (jp : Nat) (d : Dk) (gen groups used : Nat) (done : List (List Int)) (wv : Value) (m : Nat) (K : List (List UInt8)), Cp d w cp jp p n S gen groups used done wv m K F ∧ (∀ x ∈ cp :: Jf d p jp wv, B ≤ x) ∧ Below B w0 w ∧ B ≤ w.heap.size ∧ replay done = F ∧ N0 = cp :: Jf d p jp wv
theorem Cr.crk {B : Nat} {w0 w : World} {cp p n : Nat} {F : Sta} {N0 : List Nat} (h : Cr B w0 w cp p n F N0) : ∃ S, Crk B w0 w cp p n S F N0 := by
  obtain ⟨jp, d, S, gen, groups, used, done, wv, m, K, h1, h2, h3, h4, h5, h6⟩ := h
  exact ⟨S, jp, d, gen, groups, used, done, wv, m, K, h1, h2, h3, h4, h5, h6⟩
theorem Crk.cr {B : Nat} {w0 w : World} {cp p n : Nat} {S : Nat → List Int} {F : Sta} {N0 : List Nat} (h : Crk B w0 w cp p n S F N0) : Cr B w0 w cp p n F N0 := by
  obtain ⟨jp, d, gen, groups, used, done, wv, m, K, h1, h2, h3, h4, h5, h6⟩ := h
  exact ⟨jp, d, S, gen, groups, used, done, wv, m, K, h1, h2, h3, h4, h5, h6⟩
theorem Crk.below {B : Nat} {w0 w w' : World} {cp p n : Nat} {S : Nat → List Int} {F : Sta} {N0 : List Nat} (h : Crk B w0 w cp p n S F N0) (u : Below w.heap.size w w') : Crk B w0 w' cp p n S F N0 := by
  obtain ⟨jp, d, gen, groups, used, done, wv, m, K, h1, h2, h3, h4, h5, h6⟩ := h
  exact ⟨jp, d, gen, groups, used, done, wv, m, K, h1.below u, h2, h3.trans (u.mono h4), Nat.le_trans h4 u.size, h5, h6⟩
theorem Crk.facts {B : Nat} {w0 w : World} {cp p n : Nat} {S : Nat → List Int} {F : Sta} {N0 : List Nat} (h : Crk B w0 w cp p n S F N0) : F.ok ∧ (∀ i, Bytes (S i)) ∧ (∀ i, (S i).length = 128) := by
  obtain ⟨jp, d, gen, groups, used, done, wv, m, K, h1, h2, h3, h4, h5, h6⟩ := h
  exact ⟨h1.ok, h1.js.jd.byt, h1.js.jd.all⟩

/-- A disk's image, apart from what is written into. -/
def ImgP (w : World) (n : Nat) (S : Nat → List Int) (N0 : List Nat) (r : Ending) (w' : World) : Prop := ∃ g, r = .returned (.slice (some ⟨g, 0, none⟩) n n) ∧ Pic w' N0 (.slice (some ⟨g, 0, none⟩) n n) n S ∧ w.heap.size ≤ g ∧ Below w.heap.size w w'
theorem jd_image (d : Dk) (p n : Nat) (S : Nat → List Int) (w : World) (N0 : List Nat) (h : Jd d w p n S) (hr : d.rest) (hN0 : ∀ x ∈ N0, x < w.heap.size) : Calls Tryz.prog 28 #[.pointer (some ⟨p, 0, none⟩)] w (ImgP w n S N0) := by
  refine (image_any d p w h.ok N0 hN0).mono ?_
  rintro r w' ⟨g, rfl, hp, hg, hb⟩
  rw [h.dn] at hp
  exact ⟨g, by rw [h.dn], (hp.eq (h.durS hr)).weaken (fun x hx => List.mem_cons_of_mem _ hx), hg, hb⟩
theorem crk_image (B : Nat) (w0 w : World) (cp p n : Nat) (S : Nat → List Int) (F : Sta) (N0 : List Nat) (h : Crk B w0 w cp p n S F N0) : Calls Tryz.prog 28 #[.pointer (some ⟨p, 0, none⟩)] w (ImgP w n S N0) := by
  have hl := h.cr.lt
  obtain ⟨jp, d, gen, groups, used, done, wv, m, K, h1, h2, h3, h4, h5, h6⟩ := h
  exact jd_image d p n S w N0 h1.js.jd h1.js.rest hl
theorem Pic.later {w w' : World} {N0 : List Nat} {g n c : Nat} {B : Nat} {S : Nat → List Int} (h : Pic w N0 (.slice (some ⟨g, 0, none⟩) n c) n S) (u : Upd (· ∈ N0) w w') (hg : B ≤ g) (hN : ∀ x ∈ N0, x < B) : Pic w' [] (.slice (some ⟨g, 0, none⟩) n c) n S :=
  (h.upd u (grew_refl _ _) (fun k hk hx => by
    have e : g = k := by simpa [Value.ownBlock] using hk
    have := hN k hx
    omega)).weaken (fun x hx => by simp at hx)
theorem Pic.below {w w' : World} {v : Value} {n : Nat} {S : Nat → List Int} (h : Pic w [] v n S) (hb : Below w.heap.size w w') : Pic w' [] v n S := h.upd (Upd.of_below hb) (grew_refl _ _) (fun k hk hx => by simp at hx)

/-- What the one call more leaves. -/
def KepS (w : World) (cp p n : Nat) (S : Nat → List Int) (F : Sta) (N0 : List Nat) (B : Nat) (w0 : World) (r : Ending) (w' : World) : Prop :=
  ∃ (code : Nat) (d' : Dk) (S' : Nat → List Int) (F' : Sta), r = .returned (.int .i64 code) ∧ Jd d' w' p n S' ∧ d'.rest ∧ Ca w' cp F' ∧ F'.ok ∧ Upd (· ∈ N0) w w' ∧ Below B w0 w' ∧ B ≤ w'.heap.size ∧
   ((code = 0 ∧ ∃ j, j < 2 ∧ S' j ≠ S j) ∨ ((∀ j, j < 2 → S' j = S j) ∧ ∀ T : Nat → List Int, Mxd S S' T → replay (opened n T).1 = F ∨ replay (opened n T).1 = F'))

theorem Crk.step {B : Nat} {w0 w w' : World} {cp jp p n : Nat} {d : Dk} {S : Nat → List Int} {gen groups used : Nat} {done : List (List Int)} {wv : Value} {m : Nat} {K : List (List UInt8)} {F F2 : Sta} {zs : List Int} {more : Prop} {r : Ending} (h0 : Cp d w cp jp p n S gen groups used done wv m K F) (h1 : ∀ x ∈ cp :: Jf d p jp wv, B ≤ x) (h2 : Below B w0 w) (h3 : B ≤ w.heap.size) (h5 : replay done = F) (hf : more → folR F zs = F2) (h : StepP d w cp jp p n S gen groups used done wv m K F zs F2 more r w') : KepS w cp p n S F (cp :: Jf d p jp wv) B w0 r w' := by
  obtain ⟨code, d', wv', m', K', hr, _, hu, hg, hm, hc⟩ := h
  have hb : Below B w0 w' := h2.trans (hu.below h3 h1)
  have hs : B ≤ w'.heap.size := Nat.le_trans h3 hu.size
  rcases hc with ⟨c1, c2, c3, g', u', c4⟩ | ⟨c1, c2, c3, g', u', c4⟩ | ⟨c1, c2, c3, c4, c5⟩
  · exact ⟨code, d', _, F2, hr, c4.js.jd, c4.js.rest, ⟨d', jp, p, n, _, _, _, _, _, _, _, _, c4⟩, c4.ok, hu, hb, hs, .inr ⟨fun j hj => cmt_head j hj, fun T hT => kept_core h0.js.ji h5 zs c2 (hf c3) T hT⟩⟩
  · exact ⟨code, d', _, F2, hr, c4.js.jd, c4.js.rest, ⟨d', jp, p, n, _, _, _, _, _, _, _, _, c4⟩, c4.ok, hu, hb, hs, .inl ⟨c1, (gen + 1) % 2, by omega, up_head h0.js.ji c2 _⟩⟩
  · refine ⟨code, d, S, F, hr, c5.js.jd, c5.js.rest, ⟨d, jp, p, n, _, _, _, _, _, _, _, _, c5⟩, c5.ok, hu, hb, hs, .inr ⟨fun j hj => rfl, fun T hT => .inl ?_⟩⟩
    have e : T = S := funext fun j => by
      rcases hT j with e | e | ⟨t, _, e⟩
      · exact e
      · exact e
      · rw [e, List.take_append_drop]
    rw [e, h0.js.ji.opened.1]
    exact h5

theorem crk_put (B : Nat) (w0 w : World) (cp p n : Nat) (S : Nat → List Int) (F : Sta) (N0 : List Nat) (v : Value) (e : Ety) (h : Crk B w0 w cp p n S F N0) (hT : Tab w0) (hR : Er w0) (hB : 1 < B) (hn4 : 4 ≤ n) (hE : Ev w [] v e) :
    Calls Tryz.prog 13 #[.pointer (some ⟨cp, 0, none⟩), v] w (KepS w cp p n S F N0 B w0) := by
  obtain ⟨jp, d, gen, groups, used, done, wv, m, K, h1, h2, h3, h4, h5, h6⟩ := h
  refine (put_entry d cp jp p n gen groups used S done wv m K F v e w h1 (tab_in hT h3 hB) (fun hx => by have := h2 _ (List.mem_cons_of_mem _ hx); omega) (er_in hR h3 hB) (fun hx => by have := h2 _ (List.mem_cons_of_mem _ hx); omega) hn4 hE).mono ?_
  intro r w' hs
  subst h6
  exact Crk.step h1 h2 h3 h4 h5 (fun hm => fol_put F e hm.1 (by have := putR_q e; have := hm.2.1; omega) hm.2.2) hs
theorem crk_del (B : Nat) (w0 w : World) (cp p n : Nat) (S : Nat → List Int) (F : Sta) (N0 : List Nat) (k : ByteArray) (h : Crk B w0 w cp p n S F N0) (hT : Tab w0) (hR : Er w0) (hB : 1 < B) (hn4 : 4 ≤ n) :
    Calls Tryz.prog 16 #[.pointer (some ⟨cp, 0, none⟩), .string k] w (KepS w cp p n S F N0 B w0) := by
  obtain ⟨jp, d, gen, groups, used, done, wv, m, K, h1, h2, h3, h4, h5, h6⟩ := h
  refine (delete_entry d cp jp p n gen groups used S done wv m K F k w h1 (tab_in hT h3 hB) (fun hx => by have := h2 _ (List.mem_cons_of_mem _ hx); omega) (er_in hR h3 hB) (fun hx => by have := h2 _ (List.mem_cons_of_mem _ hx); omega) hn4).mono ?_
  intro r w' hs
  subst h6
  exact Crk.step h1 h2 h3 h4 h5 (fun hm => fol_del F k hm.1) hs

/-- What a change answers, and where the corpus lies then. -/
def ChG (B : Nat) (w0 w : World) (cp p n : Nat) (N0 : List Nat) (r : Ending) (w' : World) : Prop := ∃ (code : Nat) (F' : Sta) (N1 : List Nat), r = .returned (.int .i64 code) ∧ Cr B w0 w' cp p n F' N1 ∧ Upd (· ∈ N0) w w' ∧ ∀ x ∈ N1, x ∈ N0 ∨ w.heap.size ≤ x
theorem Cr.stepG {B : Nat} {w0 w w' : World} {cp jp p n : Nat} {d : Dk} {S : Nat → List Int} {gen groups used : Nat} {done : List (List Int)} {wv : Value} {m : Nat} {K : List (List UInt8)} {F F2 : Sta} {zs : List Int} {more : Prop} {r : Ending} (h1 : ∀ x ∈ cp :: Jf d p jp wv, B ≤ x) (h2 : Below B w0 w) (h3 : B ≤ w.heap.size) (h5 : replay done = F) (hf : more → folR F zs = F2) (h : StepP d w cp jp p n S gen groups used done wv m K F zs F2 more r w') : ChG B w0 w cp p n (cp :: Jf d p jp wv) r w' := by
  obtain ⟨code, d', wv', m', K', hr, _, hu, hg, hm, hc⟩ := h
  have hb : Below B w0 w' := h2.trans (hu.below h3 h1)
  have hs : B ≤ w'.heap.size := Nat.le_trans h3 hu.size
  have hgg : ∀ x ∈ cp :: Jf d' p jp wv', x ∈ cp :: Jf d p jp wv ∨ w.heap.size ≤ x := fun x hx => by
    rcases List.mem_cons.1 hx with h | h
    · exact .inl (by simp [h])
    · exact (hg x h).imp (fun h => List.mem_cons_of_mem _ h) id
  have hn : ∀ x ∈ cp :: Jf d' p jp wv', B ≤ x := fun x hx => by
    rcases hgg x hx with h | h
    · exact h1 x h
    · omega
  rcases hc with ⟨c1, c2, c3, g', u', c4⟩ | ⟨c1, c2, c3, g', u', c4⟩ | ⟨c1, c2, c3, c4, c5⟩
  · exact ⟨code, F2, _, hr, ⟨jp, d', _, _, g', u', _, wv', m', K', c4, hn, hb, hs, by rw [replay_snoc, h5]; exact hf c3, rfl⟩, hu, hgg⟩
  · exact ⟨code, F2, _, hr, ⟨jp, d', _, _, g', u', _, wv', m', K', c4, hn, hb, hs, replay_all F2 K' c4.em.keys c4.ok c4.k40, rfl⟩, hu, hgg⟩
  · subst c2
    exact ⟨code, F, _, hr, ⟨jp, d', _, _, groups, used, _, wv', m, K, c5, hn, hb, hs, h5, rfl⟩, hu, hgg⟩
theorem crg_put (B : Nat) (w0 w : World) (cp p n : Nat) (F : Sta) (N0 : List Nat) (v : Value) (e : Ety) (h : Cr B w0 w cp p n F N0) (hT : Tab w0) (hR : Er w0) (hB : 1 < B) (hn4 : 4 ≤ n) (hE : Ev w [] v e) :
    Calls Tryz.prog 13 #[.pointer (some ⟨cp, 0, none⟩), v] w (ChG B w0 w cp p n N0) := by
  obtain ⟨jp, d, S, gen, groups, used, done, wv, m, K, h1, h2, h3, h4, h5, h6⟩ := h
  refine (put_entry d cp jp p n gen groups used S done wv m K F v e w h1 (tab_in hT h3 hB) (fun hx => by have := h2 _ (List.mem_cons_of_mem _ hx); omega) (er_in hR h3 hB) (fun hx => by have := h2 _ (List.mem_cons_of_mem _ hx); omega) hn4 hE).mono ?_
  intro r w' hs
  subst h6
  exact Cr.stepG h2 h3 h4 h5 (fun hm => fol_put F e hm.1 (by have := putR_q e; have := hm.2.1; omega) hm.2.2) hs
theorem crg_del (B : Nat) (w0 w : World) (cp p n : Nat) (F : Sta) (N0 : List Nat) (k : ByteArray) (h : Cr B w0 w cp p n F N0) (hT : Tab w0) (hR : Er w0) (hB : 1 < B) (hn4 : 4 ≤ n) :
    Calls Tryz.prog 16 #[.pointer (some ⟨cp, 0, none⟩), .string k] w (ChG B w0 w cp p n N0) := by
  obtain ⟨jp, d, S, gen, groups, used, done, wv, m, K, h1, h2, h3, h4, h5, h6⟩ := h
  refine (delete_entry d cp jp p n gen groups used S done wv m K F k w h1 (tab_in hT h3 hB) (fun hx => by have := h2 _ (List.mem_cons_of_mem _ hx); omega) (er_in hR h3 hB) (fun hx => by have := h2 _ (List.mem_cons_of_mem _ hx); omega) hn4).mono ?_
  intro r w' hs
  subst h6
  exact Cr.stepG h2 h3 h4 h5 (fun hm => fol_del F k hm.1) hs

/-- The first sectors of an image, as a list. -/
theorem Pic.imgk {w : World} {M : List Nat} {g n c : Nat} {f : Nat → List Int} (h : Pic w M (.slice (some ⟨g, 0, none⟩) n c) n f) (k : Nat) (hk : k ≤ n) : Img w (some ⟨g, 0, none⟩) ((List.range k).map f) := by
  have hlen := h.len
  obtain ⟨vs, ho, hj⟩ := h
  refine fun h0 => ⟨g, 0, rfl, (ho.lt g rfl).2, fun j hjl => ?_⟩
  have hjk : j < k := by simpa using hjl
  have hjn : j < n := by omega
  obtain ⟨u, h3, a, c, e, hs, _, hc1, hc2⟩ := hj j hjn
  have hl := hlen j hjn
  refine ⟨u, by rw [Nat.zero_add, ho.cellAt _ (by omega)]; exact h3, ?_⟩
  rw [List.getElem_map, List.getElem_range]
  exact ⟨some a, c, by rw [e, hl], by rw [hl]; exact hs, fun _ b o _ hx => by simp at hx, by omega, hc2, fun h => by simp at h, by omega⟩

theorem heads_same (g1 g2 : Nat) (S W : Nat → List Int) (M1 M2 : List Nat) (w : World) (h1 : Pic w M1 (.slice (some ⟨g1, 0, none⟩) 80 80) 80 S) (h2 : Pic w M2 (.slice (some ⟨g2, 0, none⟩) 80 80) 80 W) (he : ∀ j, j < 2 → W j = S j) :
    Calls Tryz.prog 29 #[.slice (some ⟨g1, 0, none⟩) 2 80, .slice (some ⟨g2, 0, none⟩) 2 80] w fun e w' => e = .returned (.bool true) ∧ w' = w := by
  have e2 : (List.range 2).map W = (List.range 2).map S := by
    have a0 := he 0 (by omega)
    have a1 := he 1 (by omega)
    simp [List.range_succ, a0, a1]
  have i2 := h2.imgk 2 (by omega)
  rw [e2] at i2
  have k := hid (img_eqf (some ⟨g1, 0, none⟩) (some ⟨g2, 0, none⟩) 2 80 80 _ w (h1.imgk 2 (by omega)) i2 (by simp) (by omega) (by omega) (by omega) (by omega))
  clear h1 h2 e2 i2
  go_enter Tryz.func29, Tryz.ntmps29
  go_wp2_with fail
  refine k.out.mono ?_
  rintro r w2 ⟨rfl, h⟩
  subst w2
  go_wp2_with fail
  go_ret
  exact ⟨rfl, rfl⟩
theorem heads_no (g1 g2 : Nat) (S W : Nat → List Int) (M1 M2 : List Nat) (w : World) (h1 : Pic w M1 (.slice (some ⟨g1, 0, none⟩) 80 80) 80 S) (h2 : Pic w M2 (.slice (some ⟨g2, 0, none⟩) 80 80) 80 W) (hS : ∀ i, Bytes (S i)) (hW : ∀ i, Bytes (W i)) (j : Nat) (hj : j < 2) (he : W j ≠ S j) :
    Calls Tryz.prog 29 #[.slice (some ⟨g1, 0, none⟩) 2 80, .slice (some ⟨g2, 0, none⟩) 2 80] w fun e w' => e = .returned (.bool false) ∧ w' = w :=
  same_no (some ⟨g1, 0, none⟩) (some ⟨g2, 0, none⟩) 2 80 80 ((List.range 2).map S) ((List.range 2).map W) w (h1.imgk 2 (by omega)) (h2.imgk 2 (by omega)) (by simp) (by simp) (by omega) (by omega) (by omega) (by omega)
    (fun l hl => by obtain ⟨i, _, rfl⟩ := List.mem_map.1 hl; exact hS i) (fun l hl => by obtain ⟨i, _, rfl⟩ := List.mem_map.1 hl; exact hW i) j hj (by
      rw [List.getElem?_map, List.getElem?_map, List.getElem?_range hj]
      simp only [Option.map_some, ne_eq, Option.some.injEq]
      exact fun h => he h.symm)

/-- The disk of a mixed image. -/
def OfC (w : World) (T : Nat → List Int) (r : Ending) (w' : World) : Prop := ∃ (q : Nat) (d : Dk), r = .returned (.tuple #[.pointer (some ⟨q, 0, none⟩), .int .i64 0]) ∧ Jd d w' q 80 T ∧ d.rest ∧ (∀ x ∈ d.foot q, w.heap.size ≤ x) ∧ Below w.heap.size w w'
theorem of_case (a : Option Addr) (c : Nat) (T : Nat → List Int) (w : World) (hi : Img w a ((List.range 80).map T)) (h1 : 80 ≤ c) (h2 : c ≤ 9223372036854775807) (hl : ∀ i, (T i).length = 128) (hB : ∀ i, Bytes (T i)) : Calls Tryz.prog 30 #[.slice a 80 c] w (OfC w T) := by
  refine (dof_any a 80 c ((List.range 80).map T) w hi (by simp) h1 h2).mono ?_
  intro r w' h
  have hgi : Gi ((List.range 80).map T) := ⟨by simp, by simp, fun l hlm => by
    obtain ⟨j, _, rfl⟩ := List.mem_map.1 hlm
    exact hl j⟩
  obtain ⟨_, p6, d6, e6, hok6, dn6, dd6, dw6, de6, do6, df6, hb6⟩ := h.resolve_left (fun h => h.1 hgi)
  have hj6 := jd_pic hok6 (by rw [dn6]; simp) dd6 dw6 de6 do6 hB hl
  exact ⟨p6, d6, e6, hj6.1, hj6.2, df6, hb6⟩
end Go.Proofs.YtbgommpdmnbplaaGreatDoor

/- slices.Clone of the law's calls; the row with one call more. -/
namespace Go.Proofs.YtbgommpdmnbplaaGreatDoor
open Go.RowKit Co Num Jr
set_option linter.unusedVariables false
set_option maxRecDepth 20000

theorem infoDo : (Tryz.prog.info? 39).map (fun i => (i.zero, i.size, i.bytes)) = some (some (.agg #[.int .i64 0, .string ⟨#[]⟩, .string ⟨#[]⟩, .slice none 0 0, .int .i64 0, .slice none 0 0]), 6, 96) := by kernel_rfl

theorem doclone_nil (len cap : Nat) (w : World) :
    Calls Tryz.prog 26 #[.slice none len cap] w fun e w' => e = .returned (.slice none 0 0) ∧ w' = w := by
  have hq := Lib.run_eql_slice_nil (P := Tryz.prog) w 23 39 none len cap 0 0 Tryz.underlying23
  simp only [Option.isNone_none] at hq
  go_enter Tryz.func26, Tryz.ntmps26
  go_wp2_with fail
  go_ret
  exact ⟨rfl, rfl⟩

set_option maxHeartbeats 1000000 in
theorem doclone_any (a : Addr) (len cap : Nat) (cs : List Value) (w : World) (hl : cs.length = len * 6) (h1 : ∀ u ∈ cs, u.oneCell' = true) (hc : ∀ j u, cs[j]? = some u → ∃ b o, a = ⟨b, o, none⟩ ∧ b < w.heap.size ∧ w.cell? ⟨b, o + j, none⟩ = some u) (hr : len ≤ 12) :
    Calls Tryz.prog 26 #[.slice (some a) len cap] w fun e w' => ∃ g c, e = .returned (.slice (some ⟨g, 0, none⟩) len c) ∧ w'.ownsRow w.heap.size 39 6 (.slice (some ⟨g, 0, none⟩) len c) len cs ∧ Below w.heap.size w w' := by
  obtain ⟨i0, hi, hz0, hz1, hz2⟩ := info_parts infoDo
  have hb0 : Below w.heap.size w (w.alloc (.cells #[] 39)) := (Below.refl _ _).alloc (Nat.le_refl _) _
  have HL : Hid (cs.length = len * 6) := hid hl
  have H1 := hid h1
  have HN : Hid (∀ j u, cs[j]? = some u → (w.alloc (.cells #[] 39)).cell? (a.add j) = some u) := by
    intro j u hj
    obtain ⟨b, o, rfl, hlt, hcc⟩ := hc j u hj
    rw [Addr.add_lit, hb0.cell (p := ⟨b, o + j, none⟩) hlt, hcc]
  have HO : Hid ((w.alloc (.cells #[] 39)).ownsRow w.heap.size 39 6 (.slice (some ⟨w.heap.size, 0, none⟩) 0 0) 0 []) := World.ownsRow_made w #[] 0 (Nat.le_refl _) (by unfold maxLen; omega) rfl
  have HB := hid hb0
  clear hb0 hl h1 hc
  have hq := Lib.run_eql_slice_nil (P := Tryz.prog) w 23 39 (some a) len cap 0 0 Tryz.underlying23
  simp only [Option.isNone_some] at hq
  go_enter Tryz.func26, Tryz.ntmps26
  go_wp2_with (at_builtin; go_must (refine wpList_append_own _ rfl (.tmp 5) (.tmp 6) 23 rfl w.heap.size 39 i0 _ 6 96 Tryz.underlying23 hi hz0 hz1 hz2 rfl (by decide) (.slice (some ⟨w.heap.size, 0, none⟩) 0 0) 0 [] rfl HO.out a len cap cs rfl HL.out HN.out H1.out (by unfold maxLen; omega) (by omega) (by simp) ?_))
  intro v' w1 hown hgrow hnil
  have hb1 := HB.out.grown hgrow (by simp) (by intro q hq; simp [Value.ownBlock] at hq; omega)
  obtain ⟨g, c, rfl⟩ : ∃ g c, v' = .slice (some ⟨g, 0, none⟩) len c := by
    rcases hown.2 with ⟨h, _⟩ | ⟨g, c, _, h, _⟩
    · exact absurd h (by simpa using hnil)
    · exact ⟨g, c, h⟩
  have H2 := hid hown
  clear hown hgrow hnil
  go_wp2_with fail
  go_ret
  exact ⟨g, c, rfl, H2.out, hb1⟩

/-- The cells of calls, one behind the other. -/
def Dlc (W : World) (cs : List Value) (m : Nat) : Prop := cs.length = m * 6 ∧ (∀ u ∈ cs, u.oneCell' = true) ∧ ∀ j, j < m → ∃ (op : Int) (e : Ety) (pa : Option Addr) (pc : Nat) (qa : Option Addr) (qc : Nat), cs[j * 6]? = some (.int .i64 op) ∧ cs[j * 6 + 1]? = some (.string e.k) ∧ cs[j * 6 + 2]? = some (.string e.g) ∧ cs[j * 6 + 3]? = some (.slice pa e.p.length pc) ∧ cs[j * 6 + 4]? = some (.int .i64 e.f) ∧ cs[j * 6 + 5]? = some (.slice qa e.q.length qc) ∧ Il W [] pa e.p.length pc e.p ∧ Il W [] qa e.q.length qc e.q

theorem Dlc.nil (W : World) : Dlc W [] 0 := ⟨rfl, fun u hu => by simp at hu, fun j hj => absurd hj (Nat.not_lt_zero j)⟩
theorem Dlc.below {W W' : World} {cs : List Value} {m : Nat} (h : Dlc W cs m) (u : Below W.heap.size W W') : Dlc W' cs m := by
  obtain ⟨h1, h2, h3⟩ := h
  refine ⟨h1, h2, fun j hj => ?_⟩
  obtain ⟨op, x, pa, pc, qa, qc, c0, c1, c2, c3, c4, c5, c6, c7⟩ := h3 j hj
  have hu : Upd (fun _ => False) W W' := Upd.of_below u
  exact ⟨op, x, pa, pc, qa, qc, c0, c1, c2, c3, c4, c5, c6.upd hu (fun _ _ _ _ h => h) (fun x hx => .inl hx), c7.upd hu (fun _ _ _ _ h => h) (fun x hx => .inl hx)⟩
theorem Dlc.push {W : World} {cs : List Value} {m : Nat} (h : Dlc W cs m) (op : Int) (e : Ety) (pa : Option Addr) (pc : Nat) (qa : Option Addr) (qc : Nat) (hp : Il W [] pa e.p.length pc e.p) (hq : Il W [] qa e.q.length qc e.q) : Dlc W (cs ++ [.int .i64 op, .string e.k, .string e.g, .slice pa e.p.length pc, .int .i64 e.f, .slice qa e.q.length qc]) (m + 1) := by
  obtain ⟨h1, h2, h3⟩ := h
  refine ⟨by simp [h1]; omega, fun u hu => ?_, fun j hj => ?_⟩
  · rcases List.mem_append.1 hu with h | h
    · exact h2 u h
    · simp at h
      rcases h with rfl | rfl | rfl | rfl | rfl | rfl <;> simp [Value.oneCell']
  · rcases Nat.lt_or_ge j m with hl | hl
    · obtain ⟨op, x, pa, pc, qa, qc, c0, c1, c2, c3, c4, c5, c6, c7⟩ := h3 j hl
      exact ⟨op, x, pa, pc, qa, qc, by rw [List.getElem?_append_left (by omega)]; exact c0, by rw [List.getElem?_append_left (by omega)]; exact c1, by rw [List.getElem?_append_left (by omega)]; exact c2, by rw [List.getElem?_append_left (by omega)]; exact c3, by rw [List.getElem?_append_left (by omega)]; exact c4, by rw [List.getElem?_append_left (by omega)]; exact c5, c6, c7⟩
    · obtain rfl : j = m := by omega
      refine ⟨op, e, pa, pc, qa, qc, ?_, ?_, ?_, ?_, ?_, ?_, hp, hq⟩
      · rw [List.getElem?_append_right (by omega), h1, Nat.sub_self]; rfl
      · rw [List.getElem?_append_right (by omega), h1, Nat.add_sub_cancel_left]; rfl
      · rw [List.getElem?_append_right (by omega), h1, Nat.add_sub_cancel_left]; rfl
      · rw [List.getElem?_append_right (by omega), h1, Nat.add_sub_cancel_left]; rfl
      · rw [List.getElem?_append_right (by omega), h1, Nat.add_sub_cancel_left]; rfl
      · rw [List.getElem?_append_right (by omega), h1, Nat.add_sub_cancel_left]; rfl

/-- The first calls of the law's list, as cells. -/
theorem Dol.cells {W : World} {b o n : Nat} (h : Dol W (some ⟨b, o, none⟩) n) (m : Nat) (hm : m ≤ n) : ∃ cs, Dlc W cs m ∧ ∀ j u, cs[j]? = some u → ∃ b' o', (⟨b, o, none⟩ : Addr) = ⟨b', o', none⟩ ∧ b' < W.heap.size ∧ W.cell? ⟨b', o' + j, none⟩ = some u := by
  induction m with
  | zero => exact ⟨[], Dlc.nil W, fun j u hj => by simp at hj⟩
  | succ m ih =>
    obtain ⟨cs, h1, h2⟩ := ih (by omega)
    obtain ⟨b', o', e, hb, hc⟩ := h (by omega)
    injection e with e
    injection e with e1 e2
    subst e1
    subst e2
    obtain ⟨op, x, pa, pc, qa, qc, c0, c1, c2, c3, c4, c5, c6, c7⟩ := hc m (by omega)
    refine ⟨_, h1.push op x pa pc qa qc c6 c7, fun j u hj => ⟨b, o, rfl, hb, ?_⟩⟩
    have hl := h1.1
    rcases Nat.lt_or_ge j cs.length with hlt | hge
    · rw [List.getElem?_append_left hlt] at hj
      obtain ⟨b', o', e, _, hc'⟩ := h2 j u hj
      injection e with e1 e2
      subst e1
      subst e2
      exact hc'
    · rw [List.getElem?_append_right hge] at hj
      obtain ⟨i, rfl⟩ : ∃ i, j = m * 6 + i := ⟨j - m * 6, by omega⟩
      rw [hl, Nat.add_sub_cancel_left] at hj
      rcases (show i = 0 ∨ i = 1 ∨ i = 2 ∨ i = 3 ∨ i = 4 ∨ i = 5 by
        have := (List.getElem?_eq_some_iff.1 hj).1
        simp at this
        omega) with rfl | rfl | rfl | rfl | rfl | rfl
      · simp at hj; subst hj; exact c0
      · simp at hj; subst hj; rw [show o + (m * 6 + 1) = o + m * 6 + 1 by omega]; exact c1
      · simp at hj; subst hj; rw [show o + (m * 6 + 2) = o + m * 6 + 2 by omega]; exact c2
      · simp at hj; subst hj; rw [show o + (m * 6 + 3) = o + m * 6 + 3 by omega]; exact c3
      · simp at hj; subst hj; rw [show o + (m * 6 + 4) = o + m * 6 + 4 by omega]; exact c4
      · simp at hj; subst hj; rw [show o + (m * 6 + 5) = o + m * 6 + 5 by omega]; exact c5

/-- What Clone of the first calls tells. -/
def DclP (w : World) (m : Nat) (cs : List Value) (r : Ending) (w' : World) : Prop := ∃ v, r = .returned v ∧ w'.ownsRow w.heap.size 39 6 v m cs ∧ Below w.heap.size w w'
theorem Dol.pick {W : World} {la : Option Addr} {ll : Nat} (h : Dol W la ll) (m : Nat) (hm : m ≤ ll) (hr : m ≤ 12) : ∃ cs, Dlc W cs m ∧ ∀ (lc : Nat) (wx : World), Below W.heap.size W wx → Calls Tryz.prog 26 #[.slice la m lc] wx (DclP wx m cs) := by
  cases la with
  | none =>
    have hl : m = 0 := by
      rcases Nat.eq_zero_or_pos ll with h0 | h0
      · omega
      · obtain ⟨b, o, e, _⟩ := h h0
        cases e
    subst hl
    refine ⟨[], Dlc.nil W, fun lc wx hb => (doclone_nil 0 lc wx).mono ?_⟩
    rintro r w' ⟨rfl, rfl⟩
    exact ⟨_, rfl, World.ownsRow_nil _ _ _ _, Below.refl _ _⟩
  | some a =>
    rcases Nat.eq_zero_or_pos m with h0 | h0
    · subst h0
      refine ⟨[], Dlc.nil W, fun lc wx hb => (doclone_any a 0 lc [] wx rfl (fun u hu => by simp at hu) (fun j u hj => by simp at hj) (by omega)).mono ?_⟩
      rintro r w' ⟨g, c, rfl, h1, h2⟩
      exact ⟨_, rfl, h1, h2⟩
    · obtain ⟨b, o, e, _⟩ := h (by omega)
      injection e with e
      subst e
      obtain ⟨cs, h1, h2⟩ := h.cells m hm
      refine ⟨cs, h1, fun lc wx hb => (doclone_any ⟨b, o, none⟩ m lc cs wx h1.1 h1.2.1 (fun j u hj => ?_) hr).mono ?_⟩
      · obtain ⟨b', o', e, hl, hc⟩ := h2 j u hj
        exact ⟨b', o', e, Nat.lt_of_lt_of_le hl hb.size, (hb.cell (p := ⟨b', o' + j, none⟩) hl).trans hc⟩
      · rintro r w' ⟨g, c, rfl, h3, h4⟩
        exact ⟨_, rfl, h3, h4⟩

theorem run_append_do (w : World) (ty : TypeId) (v : Value) (m g B : Nat) (cs six : List Value) (hown : w.ownsRow B 39 6 v m cs) (h6 : six.length = 6) (h1 : ∀ u ∈ six, u.oneCell' = true) (hsix : ∀ j u, six[j]? = some u → w.cell? ((⟨g, 0, none⟩ : Addr).add j) = some u) (hm : m ≤ 12) :
    ∃ av cv w', (Builtin.append_ #[23, 23] ty #[v, .slice (some ⟨g, 0, none⟩) 1 1]).run Tryz.prog w = .ok (.slice av (m + 1) cv) w' ∧ w'.ownsRow 0 39 6 (.slice av (m + 1) cv) (m + 1) (cs ++ six) ∧ Upd (fun x => v.ownBlock = some x) w w' ∧ ((Value.slice av (m + 1) cv).ownBlock = v.ownBlock ∨ ∀ x, (Value.slice av (m + 1) cv).ownBlock = some x → w.heap.size ≤ x) := by
  obtain ⟨i0, hi0, hz0, hz1, hz2⟩ := info_parts infoDo
  obtain ⟨v', w', hr, ho, hgr, _, hW⟩ := run_append_where (P := Tryz.prog) w 23 ty 39 i0 _ 6 96 Tryz.underlying23 hi0 hz0 hz1 hz2 rfl (by decide) v m cs (own_base hown (Nat.zero_le _)) ⟨g, 0, none⟩ 1 1 six (by rw [h6]) hsix h1 (by unfold maxLen; omega) (by omega)
  obtain ⟨av, cv, rfl, _, _⟩ := own_shape ho
  exact ⟨av, cv, w', hr, ho, (Upd.of_grown hgr).mono fun x _ hx => hx.symm, hW⟩
theorem step_append_do {ops : Array Oper} {o : Oper} {a : Act} {w : World} {K : Act → World → Prop} {Q : Exit → Act → World → Prop} {E : Prop}
    (hg : o.guard = none) (d x : Operand) (hop : o.op = Op.call { callee := Callee.builtin Builtin.append, args := #[d, x], argTypes := #[23, 23] })
    (v : Value) (m g B : Nat) (cs six : List Value) (hd : a.eval d = v) (hx : a.eval x = .slice (some ⟨g, 0, none⟩) 1 1) (hown : w.ownsRow B 39 6 v m cs) (h6 : six.length = 6) (h1 : ∀ u ∈ six, u.oneCell' = true) (hsix : ∀ j u, six[j]? = some u → w.cell? ((⟨g, 0, none⟩ : Addr).add j) = some u) (hm : m ≤ 12)
    (hK : ∀ av cv w', Hid (w'.ownsRow 0 39 6 (.slice av (m + 1) cv) (m + 1) (cs ++ six)) → Hid (Upd (fun x => v.ownBlock = some x) w w') → Hid ((Value.slice av (m + 1) cv).ownBlock = v.ownBlock ∨ ∀ x, (Value.slice av (m + 1) cv).ownBlock = some x → w.heap.size ≤ x) → K (a.put o.dst (.slice av (m + 1) cv)) w') :
    if Region.wanted o (yielded ops a.tmps) = true then Oper.wp Tryz.prog o a w K Q else E := by
  obtain ⟨av, cv, w', hr, k1, k2, k3⟩ := run_append_do w o.type v m g B cs six hown h6 h1 hsix hm
  exact jstep_append_is hg d x 23 23 hop v _ hd hx hr (hK av cv w' k1 k2 k3)

/-- The law's list with one call more, new since W1. -/
def RdyD (W1 wx : World) (a : Option Addr) (m c : Nat) (cs : List Value) : Prop := Below W1.heap.size W1 wx ∧ wx.ownsRow 0 39 6 (.slice a m c) m cs ∧ ∀ x, (Value.slice a m c).ownBlock = some x → W1.heap.size ≤ x
theorem rdyD {W1 wx w6 w7 w8 : World} {m : Nat} {cs six : List Value} {v : Value} {av : Option Addr} {cv : Nat} (hx : Below W1.heap.size W1 wx) (ho : w6.ownsRow wx.heap.size 39 6 v m cs) (hb6 : Below wx.heap.size wx w6) (hb7 : Below w6.heap.size w6 w7)
    (hO : w8.ownsRow 0 39 6 (.slice av (m + 1) cv) (m + 1) (cs ++ six)) (hU : Upd (fun x => v.ownBlock = some x) w7 w8) (hW : (Value.slice av (m + 1) cv).ownBlock = v.ownBlock ∨ ∀ x, (Value.slice av (m + 1) cv).ownBlock = some x → w7.heap.size ≤ x) : RdyD W1 w8 av (m + 1) cv (cs ++ six) := by
  have hb67 := hb6.trans (hb7.mono hb6.size)
  have hb8 : Below wx.heap.size wx w8 := hb67.trans (hU.below hb67.size (fun x hx => (ho.lt x hx).1))
  have hs := hx.size
  have hs2 := hb67.size
  refine ⟨hx.trans (hb8.mono hx.size), hO, fun x hxx => ?_⟩
  rcases hW with h | h
  · rw [h] at hxx
    have := (ho.lt x hxx).1
    omega
  · have := h x hxx
    omega
theorem newcells (X : World) (six : List Value) (t : TypeId) : ∀ j u, six[j]? = some u → (X.alloc (.cells six.toArray t)).cell? ((⟨X.heap.size, 0, none⟩ : Addr).add j) = some u := fun j u hj => by
  rw [Addr.add_lit, Nat.zero_add]
  exact heap_cells (heap_alloc_new X _) j _ (by simpa using hj)
theorem oldcells {X w6 : World} {six : List Value} {t : TypeId} (hb : Below (X.alloc (.cells six.toArray t)).drew.heap.size (X.alloc (.cells six.toArray t)).drew w6) : ∀ j u, six[j]? = some u → w6.cell? ((⟨X.heap.size, 0, none⟩ : Addr).add j) = some u := fun j u hj => by
  have h := newcells X six t j u hj
  rw [Addr.add_lit, Nat.zero_add] at h ⊢
  refine (hb.cell (p := ⟨X.heap.size, j, none⟩) ?_).trans h
  show X.heap.size < (X.alloc (.cells six.toArray t)).heap.size
  simp

/-- A call of the law's own list. -/
theorem dlc_at {W w : World} {cs : List Value} {m c : Nat} {a : Option Addr} (h : Dlc W cs m) (ho : w.ownsRow 0 39 6 (.slice a m c) m cs) (i : Nat) (hi : i < m) : ∃ (g : Nat) (op : Int) (e : Ety) (pa : Option Addr) (pc : Nat) (qa : Option Addr) (qc : Nat), a = some ⟨g, 0, none⟩ ∧ g < w.heap.size ∧
    w.cell? ⟨g, i * 6, none⟩ = some (.int .i64 op) ∧ w.cell? ⟨g, i * 6 + 1, none⟩ = some (.string e.k) ∧ w.cell? ⟨g, i * 6 + 2, none⟩ = some (.string e.g) ∧ w.cell? ⟨g, i * 6 + 3, none⟩ = some (.slice pa e.p.length pc) ∧ w.cell? ⟨g, i * 6 + 4, none⟩ = some (.int .i64 e.f) ∧ w.cell? ⟨g, i * 6 + 5, none⟩ = some (.slice qa e.q.length qc) ∧ Il W [] pa e.p.length pc e.p ∧ Il W [] qa e.q.length qc e.q := by
  obtain ⟨h1, h2, h3⟩ := h
  obtain ⟨g, rfl⟩ : ∃ g, a = some ⟨g, 0, none⟩ := by
    rcases ho.2 with ⟨_, h⟩ | ⟨g, c, cur, h, _⟩
    · omega
    · injection h with h1 h2 h3; exact ⟨g, h1⟩
  obtain ⟨op, x, pa, pc, qa, qc, c0, c1, c2, c3, c4, c5, c6, c7⟩ := h3 i hi
  have hcell : ∀ k, k < 6 → w.cell? ⟨g, i * 6 + k, none⟩ = cs[i * 6 + k]? := fun k hk => ho.cellAt _ (by omega)
  exact ⟨g, op, x, pa, pc, qa, qc, rfl, (ho.lt g rfl).2, (hcell 0 (by omega)).trans c0, (hcell 1 (by omega)).trans c1, (hcell 2 (by omega)).trans c2, (hcell 3 (by omega)).trans c3, (hcell 4 (by omega)).trans c4, (hcell 5 (by omega)).trans c5, c6, c7⟩
end Go.Proofs.YtbgommpdmnbplaaGreatDoor
