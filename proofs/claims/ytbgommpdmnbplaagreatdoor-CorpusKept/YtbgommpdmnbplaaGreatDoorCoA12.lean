/- The corpus and what it stands on, merged. -/
import Derived.Test.YtbgommpdmnbplaaGreatDoorCoA8
import Derived.Test.YtbgommpdmnbplaaGreatDoorCoA11

/- A corpus as it lies; what find, Get and Keys do. -/
namespace Go.Proofs.YtbgommpdmnbplaaGreatDoor
open Go.RowKit Co Num Jr
set_option linter.unusedVariables false
set_option maxRecDepth 20000

/-- A corpus as it lies: its journal, without records that wait, and its map of entries. -/
structure Cp (d : Dk) (w : World) (cp jp p n : Nat) (S : Nat → List Int) (gen groups used : Nat) (done : List (List Int)) (wv : Value) (m : Nat) (K : List (List UInt8)) (F : Sta) : Prop where
  js : Js d w jp p n S gen groups used done [] wv
  cc : w.heap[cp]? = some (.cells #[.pointer (some ⟨jp, 0, none⟩), .map (some m)] 77 (0, 0))
  em : Em w (cp :: Jf d p jp wv) m K F
  ok : F.ok
  k40 : K.length ≤ 40
  cf : cp ∉ Jf d p jp wv
  mf : m ∉ Jf d p jp wv

theorem Em.sub {w : World} {N N' : List Nat} {m : Nat} {K : List (List UInt8)} {F : Sta} (h : Em w N m K F) (hs : ∀ x ∈ N', x ∈ N ∨ w.heap.size ≤ x) : Em w N' m K F :=
  h.upd (Upd.refl (fun _ => False) w) (fun h => h) (fun _ _ h => h.elim) hs

theorem Cp.below {d : Dk} {w w' : World} {cp jp p n : Nat} {S : Nat → List Int} {gen groups used : Nat} {done : List (List Int)} {wv : Value} {m : Nat} {K : List (List UInt8)} {F : Sta} (h : Cp d w cp jp p n S gen groups used done wv m K F) (u : Below w.heap.size w w') : Cp d w' cp jp p n S gen groups used done wv m K F :=
  ⟨h.js.below u, (Upd.of_below (F := fun _ => False) u).heap h.cc (fun h => h), h.em.below u, h.ok, h.k40, h.cf, h.mf⟩

theorem cusable (cp jp m : Nat) (w : World) (h : w.heap[cp]? = some (.cells #[.pointer (some ⟨jp, 0, none⟩), .map (some m)] 77 (0, 0))) : Calls Tryz.prog 44 #[.pointer (some ⟨cp, 0, none⟩)] w fun r w' => r = .returned (.bool true) ∧ w' = w := by
  have c0 : w.cell? ⟨cp, 0, none⟩ = some (.pointer (some ⟨jp, 0, none⟩)) := heap_cells h 0 _ rfl
  clear h
  go_enter Tryz.func44, Tryz.ntmps44
  go_wp2
  go_ret
  exact ⟨rfl, rfl⟩

theorem kb_enc (s : List UInt8) : ∃ b : ByteArray, encStr s = .string b ∧ kb b = s := ⟨⟨s.toArray⟩, rfl, by simp [kb]⟩

/-- What find tells of a key that is there. -/
def FindP (w : World) (N : List Nat) (e : Ety) (r : Ending) (w' : World) : Prop := ∃ v, r = .returned (.tuple #[v, .int .i64 0]) ∧ Ev w' N v e ∧ Below w.heap.size w w'

set_option maxHeartbeats 4000000 in
theorem find_there (N : List Nat) (cp jp m : Nat) (K : List (List UInt8)) (F : Sta) (s : ByteArray) (e : Ety) (w : World) (hc : w.heap[cp]? = some (.cells #[.pointer (some ⟨jp, 0, none⟩), .map (some m)] 77 (0, 0))) (hm : Em w N m K F) (hF : F (kb s) = some e) (hk : isKey s = true) : Calls Tryz.prog 59 #[.pointer (some ⟨cp, 0, none⟩), .string s] w (FindP w N e) := by
  have hss := isKey_size hk
  obtain ⟨W, gW⟩ : ∃ W, W = w.alloc (.cells #[.string ⟨#[]⟩, .string ⟨#[]⟩, .slice none 0 0, .int .i64 0, .slice none 0 0] 37) := ⟨_, rfl⟩
  have hbW : Below w.heap.size w W := by rw [gW]; exact (Below.refl _ _).alloc (Nat.le_refl _) _
  have hcl : cp < w.heap.size := (Array.getElem?_eq_some_iff.1 hc).1
  have hcW : W.heap[cp]? = some (.cells #[.pointer (some ⟨jp, 0, none⟩), .map (some m)] 77 (0, 0)) := (hbW.block cp hcl).trans hc
  have hW : W.heap[w.heap.size]? = some (.cells #[.string ⟨#[]⟩, .string ⟨#[]⟩, .slice none 0 0, .int .i64 0, .slice none 0 0] 37 (0, 0)) := by rw [gW]; exact heap_alloc_new _ _
  have k1 := hid (cusable cp jp m W hcW)
  have k2 := hid (fun wx => iskey_any s wx)
  rw [hk] at k2
  have c1 : W.cell? ⟨cp, 1, none⟩ = some (.map (some m)) := heap_cells hcW 1 _ rfl
  rcases em_look_in hm hbW s (by unfold maxLen; omega) with ⟨hF', _⟩ | ⟨e', v, hF', hE, hr, _⟩
  · rw [hF] at hF'; cases hF'
  · rw [hF] at hF'
    injection hF' with hF'
    subst hF'
    obtain ⟨pa, pc, qa, qc, rfl, hp, hq⟩ := hE
    unfold entV at hr
    obtain ⟨pn, gpn⟩ : ∃ pn, pn = e.p.length := ⟨_, rfl⟩
    obtain ⟨qn, gqn⟩ : ∃ qn, qn = e.q.length := ⟨_, rfl⟩
    obtain ⟨ks, gks⟩ : ∃ ks, ks = e.k := ⟨_, rfl⟩
    obtain ⟨gs, ggs⟩ : ∃ gs, gs = e.g := ⟨_, rfl⟩
    obtain ⟨fx, gfx⟩ : ∃ fx, fx = e.f := ⟨_, rfl⟩
    rw [← gpn, ← gqn, ← gks, ← ggs, ← gfx] at hr
    rw [← gpn] at hp
    rw [← gqn] at hq
    have HP := hid hp
    have HQ := hid hq
    have GP := hid gpn
    have GQ := hid gqn
    have GK := hid gks
    have GG := hid ggs
    have GF := hid gfx
    have GW := hid gW
    have HBW := hid hbW
    have HW := hid hW
    have hwl : w.heap.size < W.heap.size := (Array.getElem?_eq_some_iff.1 hW).1
    clear gpn gqn gks ggs gfx hp hq gW hW hbW hc hcl hcW hm hF hk hss
    go_enter Tryz.func59, Tryz.ntmps59
    go_upto_region 1 with fail
    rw [← GW.out]
    go_upto_region 8 with (first | (go_at_call 44; refine k1.out.mono ?_; rintro r wx ⟨rfl, h⟩; subst wx) | (go_at_call 45; refine (k2.out _).mono ?_; rintro r wx ⟨rfl, h⟩; subst wx))
    obtain ⟨X, gX⟩ : ∃ X, X = W.alloc (.cells #[.string ks, .string gs, .slice pa pn pc, .int .i64 fx, .slice qa qn qc] 37) := ⟨_, rfl⟩
    have hbX : Below W.heap.size W X := by rw [gX]; exact (Below.refl _ _).alloc (Nat.le_refl _) _
    have hX : X.heap[W.heap.size]? = some (.cells #[.string ks, .string gs, .slice pa pn pc, .int .i64 fx, .slice qa qn qc] 37 (0, 0)) := by rw [gX]; exact heap_alloc_new _ _
    rw [← gX]
    have hX1 := (hbX.block w.heap.size hwl).trans HW.out
    have d0 : X.cell? ⟨W.heap.size, 0, none⟩ = some (.string ks) := heap_cells hX 0 _ rfl
    have d1 : X.cell? ⟨W.heap.size, 1, none⟩ = some (.string gs) := heap_cells hX 1 _ rfl
    have d2 : X.cell? ⟨W.heap.size, 2, none⟩ = some (.slice pa pn pc) := heap_cells hX 2 _ rfl
    have d3 : X.cell? ⟨W.heap.size, 3, none⟩ = some (.int .i64 fx) := heap_cells hX 3 _ rfl
    have d4 : X.cell? ⟨W.heap.size, 4, none⟩ = some (.slice qa qn qc) := heap_cells hX 4 _ rfl
    have HTH := hid (there_of_block (C := [.string ⟨#[]⟩, .string ⟨#[]⟩, .slice none 0 0, .int .i64 0, .slice none 0 0]) hX1 0 5 (by simp))
    have HX1 := hid hX1
    have HBX := hid hbX
    clear gX hX hX1 hbX
    go_wp2_with (refine wpList_store_mid rfl 37 (.tmp 4) (.tmp 28) rfl w.heap.size 0 #[.string ks, .string gs, .slice pa pn pc, .int .i64 fx, .slice qa qn qc] rfl rfl HTH.out esize (by simp [Value.oneCell']) ?_)
    have hZ := set_row (cs := [.string ks, .string gs, .slice pa pn pc, .int .i64 fx, .slice qa qn qc]) HX1.out rfl
    refine bodyPost_ret (cell_tmp_result rfl _ _ w.heap.size 0 rfl [.string ks, .string gs, .slice pa pn pc, .int .i64 fx, .slice qa qn qc] _ (rangeAt_block hZ) Tryz.underlying37 rfl esize) rfl ?_
    have hU := upd_setCells w.heap.size [.string ks, .string gs, .slice pa pn pc, .int .i64 fx, .slice qa qn qc] 0 X
    have hUW : Upd (· = w.heap.size) W (X.setCells w.heap.size 0 [.string ks, .string gs, .slice pa pn pc, .int .i64 fx, .slice qa qn qc]) := (Upd.of_below HBX.out).trans hU (fun x _ h => h)
    have hbZ := HBW.out.trans (hUW.below HBW.out.size (fun x h => by rw [h]; exact Nat.le_refl _))
    refine ⟨_, rfl, Ev.upd (w := w) (N := N) ⟨pa, pc, qa, qc, ?_, by rw [← GP.out]; exact HP.out, by rw [← GQ.out]; exact HQ.out⟩ (Upd.of_below (F := fun _ => False) hbZ) (fun _ _ h => h.elim) (fun x hx => .inl hx), hbZ⟩
    rw [← GP.out, ← GQ.out, ← GK.out, ← GG.out, ← GF.out]; rfl
end Go.Proofs.YtbgommpdmnbplaaGreatDoor

/- What Get and Keys tell. -/
namespace Go.Proofs.YtbgommpdmnbplaaGreatDoor
open Go.RowKit Co Num Jr
set_option linter.unusedVariables false
set_option maxRecDepth 20000

/-- What Get tells of a key that is there. -/
def GetP (w : World) (e : Ety) (r : Ending) (w' : World) : Prop := ∃ v, r = .returned (.tuple #[v, .int .i64 0]) ∧ EvN w' w.heap.size v e ∧ Below w.heap.size w w'

theorem mayB_lens {e : Ety} (h : mayB e = true) (hl : (putR e).length ≤ 2000) : e.p.length ≤ 2000 ∧ e.q.length ≤ 2000 := by
  obtain ⟨_, _, m3, _, _, _⟩ := mayB_parts h
  have := ptsB_len _ _ m3 (by omega)
  have := putR_q e
  omega

set_option maxHeartbeats 4000000 in
theorem get_there (N : List Nat) (cp jp m : Nat) (K : List (List UInt8)) (F : Sta) (s : ByteArray) (e : Ety) (w : World) (hc : w.heap[cp]? = some (.cells #[.pointer (some ⟨jp, 0, none⟩), .map (some m)] 77 (0, 0))) (hm : Em w N m K F) (hF : F (kb s) = some e) (hk : isKey s = true) (hl : e.p.length ≤ 2000 ∧ e.q.length ≤ 2000) : Calls Tryz.prog 24 #[.pointer (some ⟨cp, 0, none⟩), .string s] w (GetP w e) := by
  obtain ⟨W, gW⟩ : ∃ W, W = w.alloc (.cells #[.string ⟨#[]⟩, .string ⟨#[]⟩, .slice none 0 0, .int .i64 0, .slice none 0 0] 37) := ⟨_, rfl⟩
  have hbW : Below w.heap.size w W := by rw [gW]; exact (Below.refl _ _).alloc (Nat.le_refl _) _
  have hcl : cp < w.heap.size := (Array.getElem?_eq_some_iff.1 hc).1
  have hcW : W.heap[cp]? = some (.cells #[.pointer (some ⟨jp, 0, none⟩), .map (some m)] 77 (0, 0)) := (hbW.block cp hcl).trans hc
  have hW : W.heap[w.heap.size]? = some (.cells #[.string ⟨#[]⟩, .string ⟨#[]⟩, .slice none 0 0, .int .i64 0, .slice none 0 0] 37 (0, 0)) := by rw [gW]; exact heap_alloc_new _ _
  have k1 := hid (find_there N cp jp m K F s e W hcW (hm.below hbW) hF hk)
  have hwl : w.heap.size < W.heap.size := (Array.getElem?_eq_some_iff.1 hW).1
  have GW := hid gW
  have HBW := hid hbW
  have HW := hid hW
  have HL := hid hl
  clear gW hbW hW hcW hc hm hF hk hcl hl
  go_enter Tryz.func24, Tryz.ntmps24
  go_upto_region 1 with fail
  rw [← GW.out]
  go_upto_region 2 with (first | (go_at_call 59; refine k1.out.mono ?_; rintro r w1 ⟨v1, rfl, hE1, hb1⟩; obtain ⟨pa, pc, qa, qc, rfl, hp, hq⟩ := hE1; unfold entV; obtain ⟨pn, gpn⟩ : ∃ pn, pn = e.p.length := ⟨_, rfl⟩; obtain ⟨qn, gqn⟩ : ∃ qn, qn = e.q.length := ⟨_, rfl⟩; obtain ⟨ks, gks⟩ : ∃ ks, ks = e.k := ⟨_, rfl⟩; obtain ⟨gs, ggs⟩ : ∃ gs, gs = e.g := ⟨_, rfl⟩; obtain ⟨fx, gfx⟩ : ∃ fx, fx = e.f := ⟨_, rfl⟩; rw [← gpn, ← gqn, ← gks, ← ggs, ← gfx]; have HE1 : Hid (Ev w1 N (entV ks gs pa pn pc fx qa qn qc) e) := hid (by rw [gpn, gqn, gks, ggs, gfx]; exact ⟨pa, pc, qa, qc, rfl, hp, hq⟩); have HB1 := hid hb1; clear hp hq gpn gqn gks ggs gfx hb1 k1))
  obtain ⟨X, gX⟩ : ∃ X, X = w1.alloc (.cells #[.string ks, .string gs, .slice pa pn pc, .int .i64 fx, .slice qa qn qc] 37) := ⟨_, rfl⟩
  have hbX : Below w1.heap.size w1 X := by rw [gX]; exact (Below.refl _ _).alloc (Nat.le_refl _) _
  have hX : X.heap[w1.heap.size]? = some (.cells #[.string ks, .string gs, .slice pa pn pc, .int .i64 fx, .slice qa qn qc] 37 (0, 0)) := by rw [gX]; exact heap_alloc_new _ _
  rw [← gX]
  have hbWX : Below W.heap.size W X := HB1.out.trans (hbX.mono HB1.out.size)
  have k2 := hid (ecopied_any N _ e X (HE1.out.upd (Upd.of_below (F := fun _ => False) hbX) (fun _ _ h => h.elim) (fun x hx => .inl hx)) (by have := HL.out; omega) (by have := HL.out; omega))
  unfold entV at k2
  have d0 : X.cell? ⟨w1.heap.size, 0, none⟩ = some (.string ks) := heap_cells hX 0 _ rfl
  have d1 : X.cell? ⟨w1.heap.size, 1, none⟩ = some (.string gs) := heap_cells hX 1 _ rfl
  have d2 : X.cell? ⟨w1.heap.size, 2, none⟩ = some (.slice pa pn pc) := heap_cells hX 2 _ rfl
  have d3 : X.cell? ⟨w1.heap.size, 3, none⟩ = some (.int .i64 fx) := heap_cells hX 3 _ rfl
  have d4 : X.cell? ⟨w1.heap.size, 4, none⟩ = some (.slice qa qn qc) := heap_cells hX 4 _ rfl
  have HBX := hid hbWX
  clear gX hX hbX hbWX
  go_wp2_with (first
    | (go_at_call 50; refine k2.out.mono ?_; rintro r w2 ⟨v2, rfl, hE2, hb2⟩; have HE2 := hid hE2; have HB2 : Hid (Below W.heap.size W w2) := hid (HBX.out.trans (hb2.mono HBX.out.size)); have HXS : Hid (W.heap.size ≤ X.heap.size) := hid HBX.out.size; obtain ⟨pa2, pc2, qa2, qc2, e2, _, _⟩ := hE2 [] (by simp); unfold entV at e2; have HTH := hid (there_of_block (C := [.string ⟨#[]⟩, .string ⟨#[]⟩, .slice none 0 0, .int .i64 0, .slice none 0 0]) ((HB2.out.block w.heap.size hwl).trans HW.out) 0 5 (by simp)); have HX1 := hid ((HB2.out.block w.heap.size hwl).trans HW.out); obtain ⟨vk, gvk⟩ : ∃ vk, vk = e.k := ⟨_, rfl⟩; obtain ⟨vg, gvg⟩ : ∃ vg, vg = e.g := ⟨_, rfl⟩; obtain ⟨vp, gvp⟩ : ∃ vp, vp = e.p.length := ⟨_, rfl⟩; obtain ⟨vq, gvq⟩ : ∃ vq, vq = e.q.length := ⟨_, rfl⟩; obtain ⟨vf, gvf⟩ : ∃ vf, vf = e.f := ⟨_, rfl⟩; rw [← gvk, ← gvg, ← gvp, ← gvq, ← gvf] at e2; subst e2; clear hE2 hb2 k2 gvk gvg gvp gvq gvf)
    | (refine wpList_store_mid rfl 37 (.tmp 4) (.tmp 15) rfl w.heap.size 0 #[.string vk, .string vg, .slice pa2 vp pc2, .int .i64 vf, .slice qa2 vq qc2] rfl rfl HTH.out esize (by simp [Value.oneCell']) ?_))
  have hZ := set_row (cs := [.string vk, .string vg, .slice pa2 vp pc2, .int .i64 vf, .slice qa2 vq qc2]) HX1.out rfl
  refine bodyPost_ret (cell_tmp_result rfl _ _ w.heap.size 0 rfl [.string vk, .string vg, .slice pa2 vp pc2, .int .i64 vf, .slice qa2 vq qc2] _ (rangeAt_block hZ) Tryz.underlying37 rfl esize) rfl ?_
  have hU := upd_setCells w.heap.size [.string vk, .string vg, .slice pa2 vp pc2, .int .i64 vf, .slice qa2 vq qc2] 0 w2
  have hbZ := (HBW.out.trans (HB2.out.mono HBW.out.size)).trans (hU.below (Nat.le_trans HBW.out.size HB2.out.size) (fun x h => by rw [h]; exact Nat.le_refl _))
  refine ⟨_, rfl, fun M hM => ?_, hbZ⟩
  have hM2 : ∀ x ∈ w.heap.size :: M, x < X.heap.size := fun x hx => by
    have := HXS.out
    rcases List.mem_cons.1 hx with rfl | hx
    · omega
    · have := hM x hx; omega
  have := (HE2.out _ hM2).upd (N' := M) hU (fun b _ h => .inl (by simp [h])) (fun x hx => .inl (by simp [hx]))
  exact this

set_option maxHeartbeats 1000000 in
theorem ckeys_any (N : List Nat) (cp jp m : Nat) (K : List (List UInt8)) (F : Sta) (w : World) (hc : w.heap[cp]? = some (.cells #[.pointer (some ⟨jp, 0, none⟩), .map (some m)] 77 (0, 0))) (hm : Em w N m K F) (hk : K.length ≤ 40) : Calls Tryz.prog 36 #[.pointer (some ⟨cp, 0, none⟩)] w (KeysP w K) := by
  have k1 := hid (cusable cp jp m w hc)
  have k2 := hid (ekeys_any N m K F w hm hk)
  have c1 : w.cell? ⟨cp, 1, none⟩ = some (.map (some m)) := heap_cells hc 1 _ rfl
  clear hc hm
  go_enter Tryz.func36, Tryz.ntmps36
  go_wp2_with (first | (go_at_call 44; refine k1.out.mono ?_; rintro r wx ⟨rfl, h⟩; subst wx) | (go_at_call 88; refine k2.out.mono ?_; rintro r w2 ⟨v, rfl, ho, hb⟩))
  go_ret
  exact ⟨v, rfl, ho, hb⟩
end Go.Proofs.YtbgommpdmnbplaaGreatDoor

/- What the law's 'all' gathers: the entries of a corpus, by their keys. -/
namespace Go.Proofs.YtbgommpdmnbplaaGreatDoor
open Go.RowKit Co Num Jr
set_option linter.unusedVariables false
set_option maxRecDepth 20000

/-- The entries of keys. -/
def ents (F : Sta) (K : List (List UInt8)) : List Ety := K.filterMap F
theorem ents_snoc {F : Sta} {K : List (List UInt8)} {s : List UInt8} {e : Ety} (h : F s = some e) : ents F (K ++ [s]) = ents F K ++ [e] := by simp [ents, h]
theorem ents_len {F : Sta} : ∀ {K : List (List UInt8)}, (∀ s ∈ K, F s ≠ none) → (ents F K).length = K.length
  | [], _ => rfl
  | s :: K, h => by
    have ih := ents_len (F := F) (K := K) (fun t ht => h t (by simp [ht]))
    cases hs : F s with
    | none => exact absurd hs (h s (by simp))
    | some e => simp only [ents, List.filterMap_cons, hs, List.length_cons] at ih ⊢; rw [ih]

/-- An entry's cells. -/
def cellsE : Value → List Value
  | .agg cs => cs.toList
  | _ => []
/-- Entries in a row of the law's own, new since B. -/
def Els (w : World) (B : Nat) (v : Value) (L : List Ety) : Prop := ∃ vs : List Value, vs.length = L.length ∧ w.ownsRow 0 37 5 v L.length (vs.map cellsE).flatten ∧ (∀ x ∈ vb v, B ≤ x) ∧ ∀ j, ∀ h : j < L.length, ∃ u, vs[j]? = some u ∧ Ev w (vb v) u L[j]

theorem Els.nil (w : World) (B : Nat) : Els w B (.slice none 0 0) [] := ⟨[], rfl, World.ownsRow_nil _ _ _ _, fun x hx => by simp [vb, Value.ownBlock] at hx, fun j h => absurd h (by simp)⟩
theorem Els.below {w w' : World} {B : Nat} {v : Value} {L : List Ety} (h : Els w B v L) (u : Below w.heap.size w w') : Els w' B v L := by
  obtain ⟨vs, h1, h2, h3, h4⟩ := h
  refine ⟨vs, h1, own_below h2 u, h3, fun j hj => ?_⟩
  obtain ⟨x, hx, hE⟩ := h4 j hj
  exact ⟨x, hx, hE.upd (Upd.of_below (F := fun _ => False) u) (fun _ _ h => h.elim) (fun y hy => .inl hy)⟩
theorem Els.lt {w : World} {B : Nat} {v : Value} {L : List Ety} (h : Els w B v L) : ∀ x ∈ vb v, x < w.heap.size := by
  obtain ⟨vs, h1, h2, h3, h4⟩ := h
  exact fun x hx => own_lt h2 hx
theorem Els.push {w w' : World} {B : Nat} {v v' u : Value} {L : List Ety} {e : Ety} {vs : List Value} (h1 : vs.length = L.length) (h3 : ∀ x ∈ vb v, B ≤ x) (h4 : ∀ j, ∀ h : j < L.length, ∃ u, vs[j]? = some u ∧ Ev w (vb v) u L[j]) (hE : Ev w (vb v) u e)
    (hO : w'.ownsRow 0 37 5 v' (L.length + 1) ((vs.map cellsE).flatten ++ cellsE u)) (hU : Upd (fun x => v.ownBlock = some x) w w') (hW : v'.ownBlock = v.ownBlock ∨ ∀ x, v'.ownBlock = some x → w.heap.size ≤ x) (hB : B ≤ w.heap.size) : Els w' B v' (L ++ [e]) := by
  have hvb : ∀ x, v.ownBlock = some x → x ∈ vb v := fun x hx => by simp [vb, hx]
  have hN : ∀ x ∈ vb v', x ∈ vb v ∨ w.heap.size ≤ x := fun x hx => by
    have h' : v'.ownBlock = some x := by simpa [vb] using hx
    rcases hW with hw | hw
    · exact .inl (hvb x (by rw [← hw]; exact h'))
    · exact .inr (hw x h')
  refine ⟨vs ++ [u], by simp [h1], by simpa using hO, fun x hx => ?_, fun j hj => ?_⟩
  · rcases hN x hx with h | h
    · exact h3 x h
    · omega
  · rcases Nat.lt_or_ge j L.length with hl | hl
    · obtain ⟨y, hy, hEy⟩ := h4 j hl
      refine ⟨y, by rw [List.getElem?_append_left (by omega)]; exact hy, ?_⟩
      rw [List.getElem_append_left hl]
      exact hEy.upd hU (fun b _ hb => .inl (hvb b hb)) hN
    · have : j = L.length := by simp at hj; omega
      subst this
      refine ⟨u, by rw [List.getElem?_append_right (by omega), h1]; simp, ?_⟩
      rw [List.getElem_append_right (Nat.le_refl _)]
      simp only [Nat.sub_self, List.getElem_singleton]
      exact hE.upd hU (fun b _ hb => .inl (hvb b hb)) hN

theorem infoE : (Tryz.prog.info? 37).map (fun i => (i.zero, i.size, i.bytes)) = some (some zeroE, 5, 88) := by kernel_rfl

/-- What 'all' gathers. -/
def AllP (w : World) (L : List Ety) (r : Ending) (w' : World) : Prop := ∃ v, r = .returned (.tuple #[v, .bool true]) ∧ Els w' w.heap.size v L ∧ Below w.heap.size w w'

set_option maxHeartbeats 4000000 in
theorem all_any (N : List Nat) (cp jp m : Nat) (K : List (List UInt8)) (F : Sta) (w : World) (hc : w.heap[cp]? = some (.cells #[.pointer (some ⟨jp, 0, none⟩), .map (some m)] 77 (0, 0))) (hm : Em w N m K F) (hk : K.length ≤ 40) (ho : F.ok) : Calls Tryz.prog 27 #[.pointer (some ⟨cp, 0, none⟩)] w (AllP w (ents F K)) := by
  obtain ⟨i0, hi0, hz0, hz1, hz2⟩ := info_parts infoE
  have hcl : cp < w.heap.size := (Array.getElem?_eq_some_iff.1 hc).1
  have k1 := hid (ckeys_any N cp jp m K F w hc hm hk)
  have hall : ∀ s ∈ K, F s ≠ none := fun s hs => (hm.keys.mem s).1 hs
  obtain ⟨kn, gkn⟩ : ∃ kn, kn = K.length := ⟨_, rfl⟩
  have HC := hid hc
  have HM := hid hm
  have HO := hid ho
  have HALL := hid hall
  have GKN := hid gkn
  rw [← gkn] at hk
  clear hc hm ho hall gkn
  go_enter Tryz.func27, Tryz.ntmps27
  go_upto_region 3 with (first | (go_at_call 36; refine k1.out.mono ?_; rintro r wk ⟨vk, rfl, hok, hbk⟩; rw [← GKN.out] at hok; obtain ⟨ak, ck, gvk, hck1, hck2⟩ := own_shape hok; have HOK := hid hok; have HBK := hid hbk; subst gvk; clear hok hbk k1))
  go_loopw [4, 12] (fun v k wr => ∃ (i : Nat) (a c : _) , v = .slice a i c ∧ k = .int .i64 i ∧ i ≤ kn ∧ Hid (Els wr wk.heap.size v (ents F (K.take i)) ∧ Below wk.heap.size wk wr)) (fun _ k _ => kn - (intOf k).toNat)
  case atStart => exact ⟨0, none, 0, rfl, rfl, Nat.zero_le _, hid ⟨by simpa [ents] using Els.nil wk wk.heap.size, Below.refl _ _⟩⟩
  case round =>
    obtain ⟨i, av, cv, rfl, rfl, hin, HA⟩ := hrel
    by_cases hlt : i < kn
    · have hil : i < K.length := by rw [← GKN.out]; exact hlt
      obtain ⟨e, he⟩ : ∃ e, F K[i] = some e := by
        cases h : F K[i] with
        | none => exact absurd h (HALL.out _ (List.getElem_mem hil))
        | some e => exact ⟨e, rfl⟩
      obtain ⟨sb, hsb, hkb⟩ := kb_enc K[i]
      obtain ⟨o1, o2, o3⟩ := HO.out _ _ he
      have hik : isKey sb = true := by
        have h1 := (mayB_parts o2).1
        have : sb = e.k := by
          have e1 : kb sb = kb e.k := by rw [hkb, o1]
          unfold kb at e1
          have : sb.data = e.k.data := Array.toList_inj.1 e1
          cases sb; cases hek : e.k; rw [hek] at this; simp at this; rw [this]
        rw [this]; exact h1
      obtain ⟨gk, ek⟩ : ∃ gk, ak = some ⟨gk, 0, none⟩ := by
        rcases HOK.out.2 with ⟨h, h0⟩ | ⟨g, c, cur, h, _⟩
        · omega
        · injection h with h1 h2 h3; exact ⟨g, h1⟩
      subst ek
      have hcell : wr.cell? ⟨gk, i, none⟩ = some (.string sb) := by
        have hg := (HOK.out.lt gk rfl).2
        rw [HA.out.2.cell (p := ⟨gk, i, none⟩) hg, HOK.out.cellAt i (by omega), List.getElem?_map, List.getElem?_eq_getElem hil]
        simp [hsb]
      have hbwr : Below w.heap.size w wr := HBK.out.trans (HA.out.2.mono HBK.out.size)
      have k2 := hid (get_there N cp jp m K F sb e wr ((hbwr.block cp hcl).trans HC.out) (HM.out.below hbwr) (by rw [hkb]; exact he) hik (mayB_lens o2 o3))
      have HE := hid he
      have HOW : Hid (Els wr wk.heap.size (.slice av i cv) (ents F (K.take i))) := hid HA.out.1
      clear he hsb hkb o1 o2 o3 hik hbwr
      go_upto_region 6 with (first | (go_at_call 24; refine k2.out.mono ?_; rintro r w2 ⟨v2, rfl, hE2, hb2⟩; obtain ⟨pa, pc, qa, qc, e2, _, _⟩ := hE2 [] (by simp); have HE2 := hid hE2; have HB2 := hid hb2; unfold entV at e2; obtain ⟨vk2, gvk⟩ : ∃ vk, vk = e.k := ⟨_, rfl⟩; obtain ⟨vg, gvg⟩ : ∃ vg, vg = e.g := ⟨_, rfl⟩; obtain ⟨vp, gvp⟩ : ∃ vp, vp = e.p.length := ⟨_, rfl⟩; obtain ⟨vq, gvq⟩ : ∃ vq, vq = e.q.length := ⟨_, rfl⟩; obtain ⟨vf, gvf⟩ : ∃ vf, vf = e.f := ⟨_, rfl⟩; rw [← gvk, ← gvg, ← gvp, ← gvq, ← gvf] at e2; subst e2; clear hE2 hb2 k2 gvk gvg gvp gvq gvf))
      obtain ⟨X, gX⟩ : ∃ X, X = w2.alloc (.cells #[.string vk2, .string vg, .slice pa vp pc, .int .i64 vf, .slice qa vq qc] 37) := ⟨_, rfl⟩
      have hbX : Below w2.heap.size w2 X := by rw [gX]; exact (Below.refl _ _).alloc (Nat.le_refl _) _
      have hX : X.heap[w2.heap.size]? = some (.cells #[.string vk2, .string vg, .slice pa vp pc, .int .i64 vf, .slice qa vq qc] 37 (0, 0)) := by rw [gX]; exact heap_alloc_new _ _
      rw [← gX]
      have d0 : X.cell? ⟨w2.heap.size, 0, none⟩ = some (.string vk2) := heap_cells hX 0 _ rfl
      have d1 : X.cell? ⟨w2.heap.size, 1, none⟩ = some (.string vg) := heap_cells hX 1 _ rfl
      have d2 : X.cell? ⟨w2.heap.size, 2, none⟩ = some (.slice pa vp pc) := heap_cells hX 2 _ rfl
      have d3 : X.cell? ⟨w2.heap.size, 3, none⟩ = some (.int .i64 vf) := heap_cells hX 3 _ rfl
      have d4 : X.cell? ⟨w2.heap.size, 4, none⟩ = some (.slice qa vq qc) := heap_cells hX 4 _ rfl
      have HBX : Hid (Below wr.heap.size wr X) := hid (HB2.out.trans (hbX.mono HB2.out.size))
      have HX2 := hid hbX
      clear gX hX hbX hcell
      have hel : (ents F (K.take i)).length = i := by
        rw [ents_len (fun s hs => HALL.out s (List.mem_of_mem_take hs)), List.length_take]
        omega
      obtain ⟨vs, r1, r2, r3, r4⟩ := HOW.out
      rw [hel] at r2
      have HEL := hid hel
      have R1 := hid r1
      have R2 := hid r2
      have R3 := hid r3
      have R4 := hid r4
      obtain ⟨us, gus⟩ : ∃ us, us = (vs.map cellsE).flatten := ⟨_, rfl⟩
      rw [← gus] at R2
      have GUS := hid gus
      have HXA : ∀ o : Obj, Hid (Below wr.heap.size wr (X.alloc o)) := fun o => hid (HBX.out.alloc HBX.out.size o)
      have HOX : ∀ o : Obj, Hid ((X.alloc o).ownsRow 0 37 5 (.slice av i cv) i us) := fun o => hid (own_below R2.out (HXA o).out)
      have HNW : Hid (∀ j u, ([.string vk2, .string vg, .slice pa vp pc, .int .i64 vf, .slice qa vq qc] : List Value)[j]? = some u → (X.alloc (.cells #[.string vk2, .string vg, .slice pa vp pc, .int .i64 vf, .slice qa vq qc] 37)).cell? ((⟨X.heap.size, 0, none⟩ : Addr).add j) = some u) := hid (fun j u hj => by
        have ea : (⟨X.heap.size, 0, none⟩ : Addr).add j = ⟨X.heap.size, j, none⟩ := by
          simp only [Addr.add]
          split
          · rename_i h0; rw [h0]
          · simp
        rw [ea]
        exact heap_cells (heap_alloc_new X _) j _ (by simpa using hj))
      clear hel r1 r2 r3 r4 gus HOW
      go_wp2_with (at_builtin; go_must (refine wpList_append_where rfl (.tmp 24) (.tmp 26) 58 rfl 37 i0 _ 5 88 Tryz.underlying58 hi0 hz0 hz1 hz2 rfl (by decide) (.slice av i cv) i us rfl (HOX _).out ⟨X.heap.size, 0, none⟩ 1 1 [.string vk2, .string vg, .slice pa vp pc, .int .i64 vf, .slice qa vq qc] rfl rfl HNW.out (by simp [Value.oneCell']) (by unfold maxLen; omega) (by omega) ?_; intro v3 w3 hO3 hU3 hN3 hW3; have HO3 := hO3; have HU3 := hid hU3; have HW3 := hW3; clear hO3 hU3 hN3 hW3))
      obtain ⟨Y, gY⟩ : ∃ Y, Y = X.alloc (.cells #[.string vk2, .string vg, .slice pa vp pc, .int .i64 vf, .slice qa vq qc] 37) := ⟨_, rfl⟩
      have hbY := (HXA (.cells #[.string vk2, .string vg, .slice pa vp pc, .int .i64 vf, .slice qa vq qc] 37)).out
      have hU := HU3.out
      have hW := HW3.out
      rw [← gY] at hbY hU hW
      have hB2Y : Below w2.heap.size w2 Y := by rw [gY]; exact HX2.out.alloc HX2.out.size _
      have hlt' : ∀ x ∈ vb (.slice av i cv), x < wr.heap.size := fun x hx => own_lt R2.out hx
      have hEe : Ev Y (vb (.slice av i cv)) (.agg #[.string vk2, .string vg, .slice pa vp pc, .int .i64 vf, .slice qa vq qc]) e := (HE2.out _ hlt').upd (Upd.of_below (F := fun _ => False) hB2Y) (fun _ _ h => h.elim) (fun y hy => .inl hy)
      have hsz : wk.heap.size ≤ Y.heap.size := Nat.le_trans HA.out.2.size hbY.size
      have hels : Els w3 wk.heap.size v3 (ents F (K.take i) ++ [e]) := by
        refine Els.push (w := Y) (v := .slice av i cv) R1.out R3.out (fun j hj => ?_) hEe (by rw [HEL.out, ← GUS.out]; exact HO3.out) hU hW hsz
        obtain ⟨y, hy, hEy⟩ := R4.out j hj
        exact ⟨y, hy, hEy.upd (Upd.of_below (F := fun _ => False) hbY) (fun _ _ h => h.elim) (fun z hz => .inl hz)⟩
      have htk : ents F (K.take (i + 1)) = ents F (K.take i) ++ [e] := by
        rw [List.take_add_one, List.getElem?_eq_getElem hil]
        exact ents_snoc HE.out
      have hb3 : Below wk.heap.size wk w3 := (HA.out.2.trans (hbY.mono HA.out.2.size)).trans (hU.below hsz (fun x hx => R3.out x (by simp [vb, hx])))
      obtain ⟨a3, c3, e3, _, _⟩ := own_shape HO3.out
      subst e3
      go_roundw
      case rel => exact ⟨i + 1, a3, c3, rfl, by go_num, by omega, hid ⟨by rw [htk]; exact hels, hb3⟩⟩
      case measure => simp [intOf]; omega
    · have hltv : ¬ (i : Int) < (kn : Int) := by omega
      have hiK : K.take i = K := List.take_of_length_le (by rw [← GKN.out]; omega)
      have hels := HA.out.1
      rw [hiK] at hels
      have HELS := hid hels
      clear hiK hels
      go_wp2_with fail
      go_ret2
      refine ⟨_, rfl, ?_, HBK.out.trans (HA.out.2.mono HBK.out.size)⟩
      obtain ⟨vs, q1, q2, q3, q4⟩ := HELS.out
      exact ⟨vs, q1, q2, fun x hx => Nat.le_trans HBK.out.size (q3 x hx), q4⟩
end Go.Proofs.YtbgommpdmnbplaaGreatDoor
