/- The journal, merged. -/
import Derived.Test.YtkmnhpnlkmiiiaaGreatDoorJMg1
import Derived.Laws.CopyOwn
import Derived.Test.YtkmnhpnlkmiiiaaGreatDoorJMg2

/- A group of which some sectors are there, the last of these torn: it is there whole, or not at all. -/
namespace Go.Proofs.YtkmnhpnlkmiiiaaGreatDoor
open Go.RowKit Num Jr
set_option linter.unusedVariables false
set_option maxRecDepth 20000

namespace Jr
theorem rightS_end {zs : List Int} {place gen num : Nat} (h : rightS zs place gen num = true) : zs.getD 127 0 = 165 := by
  unfold rightS at h
  obtain ⟨h1, h2, h3⟩ := of_decide_eq_true h
  obtain ⟨l, gl⟩ : ∃ l, l = (zs.drop 21).take (zs.getD 1 0).toNat := ⟨_, rfl⟩
  have hl : l.length ≤ 100 := by rw [gl, List.length_take]; omega
  rw [← gl] at h3
  rw [h3, sectB, seald]
  rw [List.getD_eq_getElem?_getD, List.getElem?_append_right (by simp [length_le]; omega)]
  have e : 127 - (([74, ((l.length : Nat) : Int)] ++ le place 2 ++ le gen 8 ++ [if decide (zs.getD 12 0 = 1) then 1 else 0] ++ le num 8 ++ l ++ List.replicate (102 - l.length) 0) ++ le (Crc.crc ([74, ((l.length : Nat) : Int)] ++ le place 2 ++ le gen 8 ++ [if decide (zs.getD 12 0 = 1) then 1 else 0] ++ le num 8 ++ l ++ List.replicate (102 - l.length) 0)) 4).length = 0 := by
    simp [length_le]; omega
  rw [e]
  rfl

/-- A sector that was torn over noughts. -/
theorem torn_bad (zs : List Int) (t place gen num : Nat) (ht : t < 128) : rightS (zs.take t ++ zero128.drop t) place gen num = false := by
  cases hr : rightS (zs.take t ++ zero128.drop t) place gen num with
  | false => rfl
  | true =>
    have h := rightS_end hr
    exfalso
    have h0 : (zs.take t ++ zero128.drop t).getD 127 0 = 0 := by
      rw [List.getD_eq_getElem?_getD]
      have hl : (zs.take t).length ≤ t := by rw [List.length_take]; omega
      rw [List.getElem?_append_right (by omega)]
      cases hx : (zero128.drop t)[127 - (zs.take t).length]? with
      | none => rfl
      | some x =>
        have hm : x ∈ zero128 := List.mem_of_mem_drop (List.mem_of_getElem? hx)
        exact List.eq_of_mem_replicate hm
    omega

theorem loadGo_part (first gen num : Nat) (T : Nat → List Int) : ∀ (f : Nat) (S : Nat → List Int) (place : Nat) (load acc : List Int) (k : Nat), needN load.length ≤ f →
    (∀ j, place ≤ j → j < place + needN load.length → T (first + j) = writeGo first gen num f S place load (first + j) ∨ rightS (T (first + j)) j gen num = false) →
    (∃ j, place ≤ j ∧ j < place + needN load.length ∧ rightS (T (first + j)) j gen num = false) → loadGo T first gen num k place acc = []
  | 0, S, place, load, acc, k, hf, hT, ⟨j, h1, h2, _⟩ => by omega
  | f + 1, S, place, load, acc, 0, hf, hT, _ => rfl
  | f + 1, S, place, load, acc, k + 1, hf, hT, ⟨j, h1, h2, h3⟩ => by
    rw [loadGo]
    by_cases hb : rightS (T (first + place)) place gen num = false
    · rw [if_neg (by rw [hb]; simp)]
    · have hl : load ≠ [] := fun e => by rw [e] at h2; simp [needN] at h2; omega
      have hp : 0 < load.length := List.length_pos_iff.2 hl
      have hn := needN_pos load.length hp
      have hd : needN (load.drop 100).length = needN load.length - 1 := by rw [List.length_drop]; unfold needN; omega
      have hj : place < j := by
        rcases Nat.lt_or_ge place j with h | h
        · exact h
        · obtain rfl : j = place := by omega
          exact absurd h3 hb
      have hTp : T (first + place) = sectB place gen num (decide (load.drop 100 = [])) (load.take 100) := by
        rcases hT place (Nat.le_refl _) (by omega) with h | h
        · rw [h, writeGo, if_neg hl, writeGo_out first gen num f _ (place + 1) (load.drop 100) (first + place) (by omega)]
          simp [upS]
        · exact absurd h hb
      have hlen : 100 < load.length := by
        rcases Nat.lt_or_ge 100 load.length with h | h
        · exact h
        · unfold needN at h2; omega
      have hz : load.drop 100 ≠ [] := fun e => by have := congrArg List.length e; rw [List.length_drop] at this; simp at this; omega
      have htl : (load.take 100).length = min 100 load.length := by rw [List.length_take]
      rw [hTp, if_pos (rightS_sect _ _ _ _ _ (by omega) (by omega)), sectB_last, sectB_used, sectB_load, if_neg (by simp [hz]), if_neg (by rw [htl]; omega)]
      refine loadGo_part first gen num T f (upS S (first + place) (sectB place gen num (decide (load.drop 100 = [])) (load.take 100))) (place + 1) (load.drop 100) _ k (by omega) (fun i hi1 hi2 => ?_) ⟨j, by omega, by omega, h3⟩
      have := hT i (by omega) (by omega)
      rw [writeGo, if_neg hl] at this
      exact this

/-- Behind a crash within Commit. -/
theorem JI.whole {n : Nat} {S : Nat → List Int} {gen : Nat} {done : List (List Int)} {groups used : Nat} (h : JI n S gen done groups used) (waits : List (List Int)) (hw : waits ≠ []) (hr : ∀ r ∈ waits, RecOk r) (hroom : needN (loadOf waits).length ≤ szOf n - used) (f : Nat) (hf : needN (loadOf waits).length ≤ f) (T : Nat → List Int)
    (hT : ∀ i, T i = S i ∨ T i = writeGo (firstOf gen n) gen (groups + 1) f S used (loadOf waits) i ∨ ∃ t, t < 128 ∧ T i = (writeGo (firstOf gen n) gen (groups + 1) f S used (loadOf waits) i).take t ++ (S i).drop t) :
    (Jr.opened n T).1 = done ∨ (Jr.opened n T).1 = done ++ waits := by
  obtain ⟨W, gW⟩ : ∃ W, W = writeGo (firstOf gen n) gen (groups + 1) f S used (loadOf waits) := ⟨_, rfl⟩
  rw [← gW] at hT
  have hout : ∀ i, (i < firstOf gen n + used ∨ firstOf gen n + used + needN (loadOf waits).length ≤ i) → W i = S i := fun i hi => by rw [gW]; exact writeGo_out _ _ _ _ _ _ _ i hi
  have hTo : ∀ i, (i < firstOf gen n + used ∨ firstOf gen n + used + needN (loadOf waits).length ≤ i) → T i = S i := fun i hi => by
    rcases hT i with e | e | ⟨t, _, e⟩
    · exact e
    · rw [e]; exact hout i hi
    · rw [e, hout i hi, List.take_append_drop]
  have hf2 := firstOf_ge gen n
  have huse := h.use
  have hTi : ∀ j, used ≤ j → j < used + needN (loadOf waits).length → T (firstOf gen n + j) = W (firstOf gen n + j) ∨ rightS (T (firstOf gen n + j)) j gen (groups + 1) = false := fun j h1 h2 => by
    have hz := h.zero j h1 (by omega)
    rcases hT (firstOf gen n + j) with e | e | ⟨t, ht, e⟩
    · right
      rw [e, hz]
      have := torn_bad [] 0 j gen (groups + 1) (by omega)
      simpa using this
    · exact .inl e
    · right
      rw [e, hz]
      exact torn_bad _ t j gen (groups + 1) ht
  by_cases hbad : ∃ j, used ≤ j ∧ j < used + needN (loadOf waits).length ∧ rightS (T (firstOf gen n + j)) j gen (groups + 1) = false
  · left
    have hload : ∀ k, loadGo T (firstOf gen n) gen (groups + 1) k used [] = [] := fun k => loadGo_part (firstOf gen n) gen (groups + 1) T f S used (loadOf waits) [] k hf (fun j h1 h2 => by rw [← gW]; exact hTi j h1 h2) hbad
    have hg : grpsGo S (firstOf gen n) gen (szOf n) (szOf n + 1) 0 0 [] = (done, groups, used) := h.grp
    have := grpsGo_then S T (firstOf gen n) gen (szOf n) h.len (szOf n + 1) 0 0 [] (Nat.zero_le _) (by omega) (fun i hi => by rw [hg] at hi; exact hTo _ (.inl (by simp at hi; omega)))
    obtain ⟨f', hf', he⟩ := this
    rw [hg] at hf' he
    simp only at hf' he
    have hgr : grps T (firstOf gen n) gen (szOf n) = (done, groups, used) := by
      show grpsGo T (firstOf gen n) gen (szOf n) (szOf n + 1) 0 0 [] = _
      rw [he]
      obtain ⟨f', rfl⟩ : ∃ k, f' = k + 1 := ⟨f' - 1, by omega⟩
      rw [grpsGo, hload, if_pos recsOf_nil]
    have hnew : Jr.newest T = gen := by
      have := h.newest
      unfold Jr.newest at this ⊢
      rw [hTo 0 (.inl (by omega)), hTo 1 (.inl (by omega))]
      exact this
    have hg1 := h.g1
    unfold Jr.opened
    rw [hnew, if_neg (by omega)]
    rw [hgr]
  · right
    have hTW : T = W := by
      funext i
      by_cases hi : i < firstOf gen n + used ∨ firstOf gen n + used + needN (loadOf waits).length ≤ i
      · rw [hTo i hi, hout i hi]
      · have h1 : used ≤ i - firstOf gen n := by omega
        have h2 : i - firstOf gen n < used + needN (loadOf waits).length := by omega
        have e : firstOf gen n + (i - firstOf gen n) = i := by omega
        rcases hTi _ h1 h2 with h | h
        · rw [e] at h; exact h
        · exact absurd ⟨_, h1, h2, h⟩ hbad
    rw [hTW, gW]
    exact congrArg (·.1) (h.commit waits hw hr hroom f hf).opened.1
end Jr
end Go.Proofs.YtkmnhpnlkmiiiaaGreatDoor

/- Bytes held against each other, whatever they are; lists of other lengths. -/
namespace Go.Proofs.YtkmnhpnlkmiiiaaGreatDoor
open Go.RowKit Num Jr
set_option linter.unusedVariables false
set_option maxRecDepth 20000

set_option maxHeartbeats 400000 in
theorem equal_some (a0 a1 : Option Addr) (n c m d : Nat) (xs ys : List Int) (w : World) (h0 : Src w a0 n xs) (h1 : Src w a1 m ys) :
    Calls Tryz.prog 12 #[.slice a0 n c, .slice a1 m d] w fun e w' => (∃ b, e = .returned (.bool b)) ∧ w' = w := by
  have e0 := h0.convert (P := Tryz.prog) c 29 5 9 Tryz.underlying29 Tryz.underlying5 Tryz.underlying9
  have e1 := h1.convert (P := Tryz.prog) d 29 5 9 Tryz.underlying29 Tryz.underlying5 Tryz.underlying9
  obtain ⟨S, gS⟩ : ∃ S, S = strOfNums xs := ⟨_, rfl⟩
  obtain ⟨R, gR⟩ : ∃ R, R = strOfNums ys := ⟨_, rfl⟩
  rw [← gS] at e0
  rw [← gR] at e1
  clear gS gR h0 h1
  go_enter Tryz.func12, Tryz.ntmps12
  go_wp2
  go_ret
  exact ⟨⟨_, rfl⟩, rfl⟩

set_option maxHeartbeats 400000 in
theorem eqf_len (a1 a2 : Option Addr) (n m c1 c2 : Nat) (w : World) (h : n ≠ m) :
    Calls Tryz.prog 11 #[.slice a1 n c1, .slice a2 m c2, .func (.func 12) #[] #[]] w fun e w' => e = .returned (.bool false) ∧ w' = w := by
  have hv : ¬ (n : Int) = (m : Int) := by omega
  go_enter Tryz.func11, Tryz.ntmps11
  go_wp2_with fail
  go_ret
  exact ⟨rfl, rfl⟩

end Go.Proofs.YtkmnhpnlkmiiiaaGreatDoor

/- A mixture of two images, as it comes to be: some sectors are the second one's, the last of these in a block of its own. -/
namespace Go.Proofs.YtkmnhpnlkmiiiaaGreatDoor
open Go.RowKit Num Jr
set_option linter.unusedVariables false
set_option maxRecDepth 20000

def Mx (w0 w : World) (v : Value) (n : Nat) (S W T : Nat → List Int) (last : Int) : Prop :=
  ∃ vs, w.ownsRow 0 29 1 v n vs ∧ (∀ k, v.ownBlock = some k → w0.heap.size ≤ k) ∧ Below w0.heap.size w0 w ∧ (∀ j, j < n → ∃ u, vs[j]? = some u ∧ Byt w (vb v) u (T j)) ∧ (∀ j, T j = S j ∨ T j = W j) ∧
    (last = -1 ∨ ∃ l g c : Nat, last = (l : Int) ∧ l < n ∧ T l = W l ∧ vs[l]? = some (.slice (some ⟨g, 0, none⟩) 128 c) ∧ w.ownsRow w0.heap.size 5 1 (.slice (some ⟨g, 0, none⟩) 128 c) 128 ((W l).map (Value.int .u8)) ∧ g ∉ vb v ∧ ∀ j, j < n → j ≠ l → ∃ u, vs[j]? = some u ∧ Byt w [g] u (T j))

theorem Mx.start {w0 w : World} {v : Value} {n : Nat} {S W : Nat → List Int} (h : Pic w (vb v) v n S) (hv : ∀ k, v.ownBlock = some k → w0.heap.size ≤ k) (hb : Below w0.heap.size w0 w) : Mx w0 w v n S W S (-1) := by
  obtain ⟨vs, ho, hj⟩ := h
  exact ⟨vs, ho, hv, hb, hj, fun _ => .inl rfl, .inl rfl⟩

/-- A sector of the second image goes in. -/
theorem Mx.set {w0 w w1 : World} {v : Value} {n i g c k cv : Nat} {S W T : Nat → List Int} {last : Int} (h : Mx w0 w v n S W T last) (hi : i < n) (hb : Below w.heap.size w w1) (ho : w1.ownsRow w.heap.size 5 1 (.slice (some ⟨g, 0, none⟩) 128 c) 128 ((W i).map (Value.int .u8))) (gv : v = .slice (some ⟨k, 0, none⟩) n cv) :
    Mx w0 (w1.setCell ⟨k, i, none⟩ (.slice (some ⟨g, 0, none⟩) 128 c)) v n S W (fun j => if j = i then W i else T j) i := by
  obtain ⟨vs, hr, hv, hbw, hj, hT, _⟩ := h
  have hkv : vb v = [k] := by rw [gv]; simp [vb, Value.ownBlock]
  have hk : k < w.heap.size := own_lt hr (by rw [hkv]; simp)
  have hg := ho.lt g rfl
  have hgk : g ≠ k := by omega
  have hr1 := own_below hr hb
  rw [gv] at hr1
  have hst := (hr1.stored i (.slice (some ⟨g, 0, none⟩) 128 c)).1
  rw [← gv] at hst
  obtain ⟨w2, gw2⟩ : ∃ w2, w2 = w1.setCell ⟨k, i, none⟩ (.slice (some ⟨g, 0, none⟩) 128 c) := ⟨_, rfl⟩
  rw [← gw2] at hst ⊢
  have hU : Upd (· = k) w1 w2 := by rw [gw2]; exact Upd.setCell w1 _ _ rfl
  have hvl : vs.length = n := by have := hr.1; omega
  have ho2 := hU.own ho (fun x hx e => hgk ((show g = x by simpa [Value.ownBlock] using hx).trans e))
  have hcap := own_cap ho2
  have hs0 := hbw.size
  have hsrc : Src w2 (some ⟨g, 0, none⟩) 128 (W i) := Src.own ho2
  have hold : ∀ j u, j < n → Byt w (vb v) u (T j) → Byt w2 (vb v) u (T j) ∧ Byt w2 [g] u (T j) := fun j u _ hby => by
    have h2 : Byt w2 (vb v) u (T j) := (hby.upd (Upd.of_below hb) (grew_refl _ _)).upd (hU.mono (fun x _ hx => by rw [hkv]; have e : x = k := hx; simp [e])) (grew_refl _ _)
    refine ⟨h2, ?_⟩
    obtain ⟨a, c', e, hs, _, hc⟩ := hby
    obtain ⟨a2, c2, e2, hs2, _, hc2⟩ := h2
    have hlt := src_lt hs (by omega)
    rw [e] at e2
    injection e2 with e3 e4 e5
    injection e3 with e3
    subst e3
    refine ⟨a, c2, by rw [e, e5], hs2, fun hx => ?_, hc2⟩
    have : a.block = g := by simpa using hx
    omega
  refine ⟨vs.set i (.slice (some ⟨g, 0, none⟩) 128 c), hst, hv, (hbw.trans (hb.mono hs0)).trans (hU.below (Nat.le_trans hs0 hb.size) (fun x hx => by have e : x = k := hx; rw [e]; exact hv k (by rw [gv]; rfl))), fun j hl => ?_, fun j => ?_, .inr ⟨i, g, c, rfl, hi, by simp, by simp [hvl, hi], own_base ho2 hs0, by rw [hkv]; simpa using hgk, fun j hl hne => ?_⟩⟩
  · by_cases e : j = i
    · subst e
      refine ⟨_, by rw [List.getElem?_set, if_pos rfl, if_pos (by omega)], ?_⟩
      simp only [if_true]
      exact ⟨⟨g, 0, none⟩, c, rfl, hsrc, by rw [hkv]; simpa using hgk, hcap.1, hcap.2⟩
    · obtain ⟨u, h1, h2⟩ := hj j hl
      refine ⟨u, by rw [List.getElem?_set, if_neg (fun h => e h.symm)]; exact h1, ?_⟩
      simp only [if_neg e]
      exact (hold j u hl h2).1
  · by_cases e : j = i
    · subst e; simp
    · simp only [if_neg e]; exact hT j
  · obtain ⟨u, h1, h2⟩ := hj j hl
    refine ⟨u, by rw [List.getElem?_set, if_neg (fun h => hne h.symm)]; exact h1, ?_⟩
    simp only [if_neg hne]
    exact (hold j u hl h2).2

theorem Mx.below {w0 w w1 : World} {v : Value} {n : Nat} {S W T : Nat → List Int} {last : Int} (h : Mx w0 w v n S W T last) (hb : Below w.heap.size w w1) : Mx w0 w1 v n S W T last := by
  obtain ⟨vs, hr, hv, hbw, hj, hT, hl⟩ := h
  refine ⟨vs, own_below hr hb, hv, hbw.trans (hb.mono hbw.size), fun j hjn => ?_, hT, ?_⟩
  · obtain ⟨u, h1, h2⟩ := hj j hjn
    exact ⟨u, h1, h2.upd (Upd.of_below hb) (grew_refl _ _)⟩
  · rcases hl with h | ⟨l, g, c, h1, h2, h3, h4, h5, h6, h7⟩
    · exact .inl h
    · exact .inr ⟨l, g, c, h1, h2, h3, h4, own_below h5 hb, h6, fun j hjn hne => by
        obtain ⟨u, q1, q2⟩ := h7 j hjn hne
        exact ⟨u, q1, q2.upd (Upd.of_below hb) (grew_refl _ _)⟩⟩

/-- What the mixture is in the end. -/
def MixP (w : World) (n : Nat) (S W : Nat → List Int) (v : Value) (w' : World) : Prop := ∃ T : Nat → List Int, Pic w' [] v n T ∧ (∀ j, T j = S j ∨ T j = W j ∨ ∃ t, t < 128 ∧ T j = (W j).take t ++ (S j).drop t) ∧ Below w.heap.size w w'

theorem Mx.whole {w0 w : World} {v : Value} {n : Nat} {S W T : Nat → List Int} {last : Int} (h : Mx w0 w v n S W T last) : MixP w0 n S W v w := by
  obtain ⟨vs, hr, hv, hbw, hj, hT, hl⟩ := h
  refine ⟨T, ⟨vs, hr, fun j hjn => ?_⟩, fun j => ?_, hbw⟩
  · obtain ⟨u, h1, h2⟩ := hj j hjn
    exact ⟨u, h1, h2.weaken (fun x hx => by simp at hx)⟩
  · rcases hT j with h | h
    · exact .inl h
    · exact .inr (.inl h)

/-- The last of these, torn. -/
theorem Mx.torn {w0 w w1 : World} {v : Value} {n l g c t : Nat} {S W T : Nat → List Int} {vs : List Value} (hr : w.ownsRow 0 29 1 v n vs) (hbw : Below w0.heap.size w0 w) (hT : ∀ j, T j = S j ∨ T j = W j) (hl : l < n) (hvl : vs[l]? = some (.slice (some ⟨g, 0, none⟩) 128 c)) (hgv : g ∉ vb v) (h7 : ∀ j, j < n → j ≠ l → ∃ u, vs[j]? = some u ∧ Byt w [g] u (T j)) (hg0 : w0.heap.size ≤ g)
    (ht : t < 128) (hU : Upd (· = g) w w1) (ho : w1.ownsRow 0 5 1 (.slice (some ⟨g, 0, none⟩) 128 c) 128 (((W l).take t ++ (S l).drop t).map (Value.int .u8))) : MixP w0 n S W v w1 := by
  have hcap := own_cap ho
  refine ⟨fun j => if j = l then (W l).take t ++ (S l).drop t else T j, ⟨vs, hU.own hr (fun k hk e => hgv (by have e' : k = g := e; simp [vb, hk, e'])), fun j hjn => ?_⟩, fun j => ?_, hbw.trans (hU.below hbw.size (fun x hx => by have e : x = g := hx; omega))⟩
  · by_cases e : j = l
    · subst e
      refine ⟨_, hvl, ?_⟩
      simp only [if_true]
      exact ⟨⟨g, 0, none⟩, c, rfl, Src.own ho, by simp, hcap.1, hcap.2⟩
    · obtain ⟨u, h1, h2⟩ := h7 j hjn e
      refine ⟨u, h1, ?_⟩
      simp only [if_neg e]
      exact (h2.upd (hU.mono (fun x _ hx => by have e : x = g := hx; simp [e])) (grew_refl _ _)).weaken (fun x hx => by simp at hx)
  · by_cases e : j = l
    · subst e
      right; right
      exact ⟨t, ht, by simp⟩
    · simp only [if_neg e]
      rcases hT j with h | h
      · exact .inl h
      · exact .inr (.inl h)

end Go.Proofs.YtkmnhpnlkmiiiaaGreatDoor

/- What dredgerplain.Mixed does. -/
namespace Go.Proofs.YtkmnhpnlkmiiiaaGreatDoor
open Go.RowKit Num Jr
set_option linter.unusedVariables false
set_option maxRecDepth 20000

theorem Mx.cell {w0 w w1 : World} {n i k cv : Nat} {S W T : Nat → List Int} {last : Int} (h : Mx w0 w (.slice (some ⟨k, 0, none⟩) n cv) n S W T last) (hb : Below w.heap.size w w1) (hi : i < n) : ∃ old, w1.cell? ⟨k, i, none⟩ = some old := by
  obtain ⟨vs, hr, _, _, hj, _⟩ := h
  obtain ⟨u, hu, _⟩ := hj i hi
  exact ⟨u, by rw [(own_below hr hb).cellAt i (by omega)]; exact hu⟩
theorem Mx.frozen {w0 w w1 : World} {n k cv : Nat} {S W T : Nat → List Int} {last : Int} (h : Mx w0 w (.slice (some ⟨k, 0, none⟩) n cv) n S W T last) (hb : Below w.heap.size w w1) (i : Nat) : w1.frozen? ⟨k, i, none⟩ = false := by
  obtain ⟨vs, hr, _⟩ := h
  exact (own_below hr hb).frozenAt i

set_option maxHeartbeats 4000000 in
theorem mixed_any (g1 g2 n c1 c2 : Nat) (S W : Nat → List Int) (M1 M2 : List Nat) (mask torn : Int) (w : World) (hp1 : Pic w M1 (.slice (some ⟨g1, 0, none⟩) n c1) n S) (hp2 : Pic w M2 (.slice (some ⟨g2, 0, none⟩) n c2) n W) (hn : n ≤ 2048) (hn1 : 1 ≤ n) :
    Calls Tryz.prog 17 #[.slice (some ⟨g1, 0, none⟩) n c1, .slice (some ⟨g2, 0, none⟩) n c2, .int .u64 mask, .int .i64 torn] w fun e w' => ∃ v, e = .returned v ∧ MixP w n S W v w' := by
  have k1 := hid (pimage_any (.slice (some ⟨g1, 0, none⟩) n c1) n S M1 [] w hp1 hn (fun x hx => by simp at hx))
  obtain ⟨vs1, hr1, he1⟩ := hp1
  obtain ⟨vs2, hr2, he2⟩ := hp2
  have hc1 := own_cap hr1
  have hc2 := own_cap hr2
  have HR1 := hid hr1
  have HR2 := hid hr2
  have HE1 := hid he1
  have HE2 := hid he2
  clear hr1 hr2 he1 he2
  go_enter Tryz.func17, Tryz.ntmps17
  go_wp2_with fail
  refine k1.out.mono ?_
  rintro r w1 ⟨vo, rfl, hpo, hvo, hb1⟩
  rw [List.append_nil] at hpo
  have hM := Mx.start (W := W) hpo hvo hb1
  obtain ⟨vs, hro, _⟩ := hpo
  obtain ⟨ao, co, gvo, hco1, hco2⟩ := own_shape hro
  obtain ⟨k, rfl⟩ : ∃ k, ao = some ⟨k, 0, none⟩ := by
    rcases hro.2 with ⟨_, h⟩ | ⟨g, c, cur, h, _⟩
    · omega
    · rw [gvo] at h; injection h with h1 h2 h3; exact ⟨g, h1⟩
  subst gvo
  have HM := hid hM
  clear hM hro hvo hb1 k1
  go_wp2_with fail
  go_loopw [10, 11, 17] (fun kk last ii wr => ∃ (i k0 : Nat) (lst : Int), ii = .int .i64 i ∧ i ≤ n ∧ kk = .int .i64 k0 ∧ k0 ≤ i ∧ last = .int .i64 lst ∧ Hid (∃ T, Mx w wr (.slice (some ⟨k, 0, none⟩) n co) n S W T lst)) (fun _ _ ii _ => n - (intOf ii).toNat)
  case atStart => exact ⟨0, 0, -1, rfl, Nat.zero_le _, rfl, Nat.le_refl _, rfl, hid ⟨_, HM.out⟩⟩
  case round =>
    clear HM
    obtain ⟨i, k0, lst, rfl, hi, rfl, hk0, rfl, HX⟩ := hrel
    obtain ⟨T, hM⟩ := HX.out
    have hbw : Below w.heap.size w wr := by obtain ⟨_, _, _, h, _⟩ := hM; exact h
    by_cases hlt : i < n
    · obtain ⟨u1, hu1, hby1⟩ := HE1.out i hlt
      obtain ⟨u2, hu2, hby2⟩ := HE2.out i hlt
      obtain ⟨a1, d1, rfl, hs1, _, hd11, hd12⟩ := hby1.upd (Upd.of_below hbw) (grew_refl _ _)
      obtain ⟨a2, d2, rfl, hs2, _, hd21, hd22⟩ := hby2.upd (Upd.of_below hbw) (grew_refl _ _)
      have e1 : wr.cell? ⟨g1, i, none⟩ = some (.slice (some a1) 128 d1) := by rw [(own_below HR1.out hbw).cellAt i (by omega)]; exact hu1
      have e2 : wr.cell? ⟨g2, i, none⟩ = some (.slice (some a2) 128 d2) := by rw [(own_below HR2.out hbw).cellAt i (by omega)]; exact hu2
      have HS1 := hid hs1
      have HS2 := hid hs2
      have HMX := hid hM
      have HB := hid hbw
      clear hM hbw hs1 hs2 hu1 hu2 hby1 hby2 HX
      go_upto_region 6 with fail
      go_region_held3 (fun wx => wx.cell? ⟨g1, i, none⟩ = some (.slice (some a1) 128 d1) ∧ wx.cell? ⟨g2, i, none⟩ = some (.slice (some a2) 128 d2)) (exact ⟨e1, e2⟩) (first | (go_at_call 12; refine (equal_some (some a1) (some a2) 128 d1 128 d2 (S i) (W i) _ (HS1.out.heap (by rfl)) (HS2.out.heap (by rfl))).mono ?_; rintro r wx ⟨⟨b, rfl⟩, h⟩; subst wx))
      cases b with
      | true =>
        go_wp2_with fail
        go_roundw
        case rel => exact ⟨i + 1, k0, lst, by go_num, by omega, rfl, by omega, rfl, hid ⟨T, HMX.out.below (Below.refl _ wr).drew⟩⟩
        case measure => simp [intOf]; omega
      | false =>
        have e2d : wr.drew.cell? ⟨g2, i, none⟩ = some (.slice (some a2) 128 d2) := e2
        have kC := hid (clone_any a2 128 d2 (W i) wr.drew (HS2.out.heap rfl) (by omega))
        go_upto_region 8 with fail
        · go_wp2_with (first | (go_at_call 30; refine kC.out.mono ?_; rintro r w3 ⟨gc, cc, rfl, ho3, hb3⟩; have HO3 := hid ho3; have HB3 := hid (show Below wr.heap.size wr w3 from (Below.refl _ wr).drew.trans hb3); clear ho3 hb3 kC; obtain ⟨old, x1⟩ := HMX.out.cell HB3.out hlt; have x2 := HMX.out.frozen HB3.out i))
          go_roundw
          case rel => exact ⟨i + 1, k0 + 1, i, by go_num, by omega, by go_num, by omega, rfl, hid ⟨_, HMX.out.set hlt HB3.out HO3.out rfl⟩⟩
          case measure => simp [intOf]; omega
        · exact ⟨⟨i + 1, k0 + 1, lst, by go_num, by omega, by go_num, by omega, rfl, hid ⟨T, HMX.out.below (Below.refl _ wr).drew⟩⟩, by simp [intOf]; omega⟩
        · exact ⟨⟨i + 1, by omega, by omega, k0 + 1, by omega, by omega, hid ⟨T, HMX.out.below (Below.refl _ wr).drew⟩⟩, by simp [intOf]; omega⟩
    · obtain rfl : i = n := by omega
      have HMX := hid hM
      obtain ⟨vs, hr, hv, hb, hj, hTT, hl⟩ := hM
      have HB := hid hb
      clear HX hbw hb
      rcases hl with rfl | ⟨l, g, c, rfl, hli, hTl, hvl, hog, hgv, h7⟩
      · clear hr hv hj hTT
        go_wp2_with fail
        go_ret
        exact ⟨_, rfl, HMX.out.whole⟩
      · by_cases ht0 : torn < 0
        · have ht0' : ¬ 0 ≤ torn := by omega
          have hl0 : (0 : Int) ≤ (l : Int) := by omega
          clear hr hv hj hTT hvl hog hgv h7
          go_wp2_with fail
          go_ret
          exact ⟨_, rfl, HMX.out.whole⟩
        · obtain ⟨t, rfl⟩ : ∃ t : Nat, torn = (t : Int) := ⟨torn.toNat, by omega⟩
          obtain ⟨u1, hu1, hby1⟩ := HE1.out l hli
          obtain ⟨a1, d1, rfl, hs1, _, hd11, hd12⟩ := hby1.upd (Upd.of_below HB.out) (grew_refl _ _)
          have e1 : wr.cell? ⟨g1, l, none⟩ = some (.slice (some a1) 128 d1) := by rw [(own_below HR1.out HB.out).cellAt l (by omega)]; exact hu1
          by_cases ht : t < 128
          · have hkv : vb (.slice (some ⟨k, 0, none⟩) i co) = [k] := by simp [vb, Value.ownBlock]
            have hkg : k ≠ g := fun e => hgv (by rw [hkv, e]; simp)
            have hg0 : w.heap.size ≤ g := (hog.lt g rfl).1
            have hg1 : g1 ≠ g := fun e => by have := own_lt HR1.out (k := g1) (by simp [vb, Value.ownBlock]); omega
            have e3 : wr.cell? ⟨k, l, none⟩ = some (.slice (some ⟨g, 0, none⟩) 128 c) := by rw [hr.cellAt l (by omega)]; exact hvl
            obtain ⟨b1, o1, ea, _, _⟩ := hs1.2 (by omega)
            injection ea with ea
            subst ea
            have hSl := hs1.1
            obtain ⟨cur, hcur, hcc1, hcc2, hk3, hk4⟩ := own_heap hog
            have hsm : Src wr.drew (some ⟨b1, o1 + t, none⟩) (128 - t) ((S l).drop t) := by
              have := Src.mid (hs1.heap (w' := wr.drew) rfl) t (128 - t) (by omega)
              rwa [List.take_of_length_le (by rw [List.length_drop]; omega)] at this
            have crun := run_copy_row2 (P := Tryz.prog) wr.drew 29 29 3 5 1 g t (128 - t) (c - t) ⟨b1, o1 + t, none⟩ (128 - t) (d1 - t) (128 - t) cur.toArray 5 (((S l).drop t).map (Value.int .u8)) Tryz.underlying29 Tryz.psz5 hcur (by simp) (by simp; omega) (src_cells hsm) (by simp; omega) (u8_one _)
            obtain ⟨W7, g7⟩ : ∃ W7, W7 = wr.drew.setRow g (cur.toArray.toList.take t ++ ((S l).drop t).map (Value.int .u8) ++ cur.toArray.toList.drop (t + (((S l).drop t).map (Value.int .u8)).length)).toArray := ⟨_, rfl⟩
            rw [← g7] at crun
            have hrow : W7.heap[g]? = some (.cells (cur.toArray.toList.take t ++ ((S l).drop t).map (Value.int .u8) ++ cur.toArray.toList.drop (t + (((S l).drop t).map (Value.int .u8)).length)).toArray 5 (0, 0)) := by rw [g7]; exact setRow_heap wr.drew g _ _ _ _ hcur
            have hU7 : Upd (· = g) wr W7 := by
              rw [g7]
              exact ⟨rfl, rfl, rfl, by simp, fun x _ hx => setRow_other wr.drew g x _ hx⟩
            have ho7 : W7.ownsRow 0 5 1 (.slice (some ⟨g, 0, none⟩) 128 c) 128 (((W l).take t ++ (S l).drop t).map (Value.int .u8)) := by
              have hWl : (W l).length = 128 := by have := hog.1; simpa using this
              have hDl : ((S l).drop t).length = 128 - t := by rw [List.length_drop]; omega
              have hct : cur.take t = ((W l).take t).map (Value.int .u8) := by
                rw [List.map_take, ← hk4, List.take_take]
                congr 1
                omega
              refine ⟨by simp only [List.length_map, List.length_append, List.length_take, hDl]; omega, .inr ⟨g, c, _, rfl, Nat.zero_le _, hrow, hcc1, hcc2, ?_, ?_⟩⟩
              · simp only [List.size_toArray, List.length_append, List.length_take, List.length_map, List.length_drop]
                omega
              · show List.take (128 * 1) (cur.take t ++ ((S l).drop t).map (Value.int .u8) ++ cur.drop (t + (((S l).drop t).map (Value.int .u8)).length)) = _
                rw [hct, ← List.map_append]
                have hl2 : (((W l).take t ++ (S l).drop t).map (Value.int .u8)).length = 128 := by
                  simp only [List.length_map, List.length_append, List.length_take, hDl]; omega
                rw [List.take_append_of_le_length (by omega), List.take_of_length_le (by omega)]
            have hP := hid (Mx.torn hr HB.out hTT hli hvl hgv h7 hg0 ht hU7 ho7)
            have q1 : W7.cell? ⟨k, l, none⟩ = some (.slice (some ⟨g, 0, none⟩) 128 c) := by rw [g7]; exact (cell_setRow_block _ _ _ _ hkg).trans e3
            have q2 : W7.cell? ⟨g1, l, none⟩ = some (.slice (some ⟨b1, o1, none⟩) 128 d1) := by rw [g7]; exact (cell_setRow_block _ _ _ _ hg1).trans e1
            have ht1 : (t : Int) < 128 := by omega
            have ht2 : (0 : Int) ≤ (t : Int) := by omega
            have hl0 : (0 : Int) ≤ (l : Int) := by omega
            have ht3 : (t : Int) ≤ (c : Int) := by omega
            have ht4 : ¬ (c : Int) = (t : Int) := by omega
            have ht5 : (t : Int) ≤ (d1 : Int) := by omega
            have ht6 : ¬ (d1 : Int) = (t : Int) := by omega
            clear hr hv hj hTT hvl hog hgv h7 hs1 hu1 hby1 hsm hcur hk3 hk4 hrow hU7 ho7 g7 hSl hkv
            have ht7 : (t : Int) ≤ 128 := by omega
            go_upto_region 13 with fail
            go_region_held3 (fun wx => wx.cell? ⟨k, l, none⟩ = some (.slice (some ⟨g, 0, none⟩) 128 c) ∧ wx.cell? ⟨g1, l, none⟩ = some (.slice (some ⟨b1, o1, none⟩) 128 d1)) (first | go_keep | exact ⟨q1, q2⟩) (fail)
            go_wp2_with fail
            go_ret
            exact ⟨_, rfl, hP.out⟩
          · clear hr hv hj hTT hvl hog hgv h7 hs1 hu1 hby1
            have ht' : ¬ (t : Int) < 128 := by omega
            have hl0 : (0 : Int) ≤ (l : Int) := by omega
            have ht00 : (0 : Int) ≤ (t : Int) := by omega
            go_wp2_with fail
            go_ret
            exact ⟨_, rfl, HMX.out.whole⟩
end Go.Proofs.YtkmnhpnlkmiiiaaGreatDoor

/- A list of records cloned; an image that was mixed, as a list, and the disk that it makes. -/
namespace Go.Proofs.YtkmnhpnlkmiiiaaGreatDoor
open Go.RowKit Num Jr
set_option linter.unusedVariables false
set_option maxRecDepth 20000

set_option maxHeartbeats 1000000 in
theorem rclone_rl (v : Value) (L : List (List Int)) (M : List Nat) (w : World) (h : Rl w M v L) (hM : ∀ x ∈ M, x < w.heap.size) (hfew : L.length ≤ 102400) :
    Calls Tryz.prog 18 #[v] w fun e w' => ∃ v', e = .returned v' ∧ Rl w' M v' L ∧ (∀ x, v'.ownBlock = some x → w.heap.size ≤ x) ∧ Below w.heap.size w w' := by
  obtain ⟨i0, hi0, hz0, hz1, hz2⟩ := info_parts Tryz.infoTB
  have HR := hid h
  obtain ⟨us, ho, hv, hj⟩ := h
  have HJ := hid hj
  obtain ⟨n, gn⟩ : ∃ n, n = L.length := ⟨_, rfl⟩
  rw [← gn] at ho hfew
  have GN := hid gn
  have hul : us.length = n := by have := ho.1; omega
  clear gn hj
  obtain ⟨a, c, gv, hc1, hc2⟩ := own_shape ho
  have ha : (a = none ∧ n = 0 ∧ c = 0) ∨ ∃ g, a = some ⟨g, 0, none⟩ := by
    rcases ho.2 with ⟨h, h0⟩ | ⟨g, c, cur, h, _⟩
    · rw [gv] at h; injection h with h1 h2 h3; exact .inl ⟨h1, h2, h3⟩
    · rw [gv] at h; injection h with h1 h2 h3; exact .inr ⟨g, h1⟩
  rcases ha with ⟨rfl, hn0, hc0⟩ | ⟨g, rfl⟩
  · subst hn0
    subst hc0
    subst gv
    have hq := Lib.run_eql_slice_nil (P := Tryz.prog) w 22 29 none 0 0 0 0 Tryz.underlying22
    simp only [Option.isNone_none] at hq
    go_enter Tryz.func18, Tryz.ntmps18
    go_wp2_with fail
    go_ret
    exact ⟨_, rfl, HR.out, fun x hx => by simp [Value.ownBlock] at hx, Below.refl _ _⟩
  · subst gv
    have hb0 : Below w.heap.size w (w.alloc (.cells #[] 29)) := (Below.refl _ _).alloc (Nat.le_refl _) _
    have ho0 := own_below ho hb0
    have HN : Hid (∀ j u, us[j]? = some u → (w.alloc (.cells #[] 29)).cell? ((⟨g, 0, none⟩ : Addr).add j) = some u) := by
      intro j u hu
      have hjl : j < n := by have := (List.getElem?_eq_some_iff.1 hu).1; omega
      have := ho0.cellAt j (by omega)
      rw [Addr.add_lit, Nat.zero_add, this]; exact hu
    have H1 : Hid (∀ u ∈ us, u.oneCell' = true) := by
      intro u hu
      obtain ⟨j, hjl, rfl⟩ := List.getElem_of_mem hu
      obtain ⟨u', h1, a, c, e, _⟩ := HJ.out j (by have := GN.out; omega)
      rw [List.getElem?_eq_getElem hjl] at h1
      injection h1 with h1
      rw [h1, e]; simp [Value.oneCell']
    have HL : Hid (us.length = n * 1) := by show _ = _; omega
    have HO : Hid ((w.alloc (.cells #[] 29)).ownsRow w.heap.size 29 1 (.slice (some ⟨w.heap.size, 0, none⟩) 0 0) 0 []) := World.ownsRow_made w #[] 0 (Nat.le_refl _) (by unfold maxLen; omega) rfl
    have HB := hid hb0
    have hq := Lib.run_eql_slice_nil (P := Tryz.prog) w 22 29 (some ⟨g, 0, none⟩) n c 0 0 Tryz.underlying22
    simp only [Option.isNone_some] at hq
    clear hb0 ho0 ho hv
    go_enter Tryz.func18, Tryz.ntmps18
    go_wp2_with (at_builtin; go_must (refine wpList_append_own _ rfl (.tmp 5) (.tmp 6) 22 rfl w.heap.size 29 i0 (.slice none 0 0) 1 24 Tryz.underlying22 hi0 hz0 hz1 hz2 rfl (by decide) (.slice (some ⟨w.heap.size, 0, none⟩) 0 0) 0 [] rfl HO.out ⟨g, 0, none⟩ n c us rfl HL.out HN.out H1.out (by unfold maxLen; omega) (by omega) (by simp) ?_))
    intro v' w1 hown hgrow hnil
    have hb1 := HB.out.grown hgrow (by simp) (by intro q hq; simp [Value.ownBlock] at hq; omega)
    have HO1 := hid hown
    obtain ⟨a', c', gv', _, _⟩ := own_shape hown
    rw [gv']
    have GV := hid gv'
    clear hown hgrow hnil gv'
    go_wp2_with fail
    go_ret
    refine ⟨_, rfl, ?_, fun x hx => ?_, hb1⟩
    · rw [← GV.out]
      have ho1 := HO1.out
      have hnew : ∀ x, v'.ownBlock = some x → w.heap.size ≤ x := fun x hx => (ho1.lt x hx).1
      refine ⟨us, own_base (by rw [← GN.out]; simpa using ho1) (Nat.zero_le _), fun k hk hx => ?_, fun j hjl => ?_⟩
      · have := hnew k hk; have := hM k hx; omega
      · obtain ⟨u, h1, h2⟩ := HJ.out j hjl
        refine ⟨u, h1, (h2.weaken (M' := M) (fun x hx => List.mem_append.2 (.inr hx))).upd (Upd.of_below hb1) (fun x hx => ?_)⟩
        rcases List.mem_append.1 hx with h | h
        · exact .inr (hnew x (by simpa [vb] using h))
        · exact .inl h
    · have ho1 := HO1.out
      rw [GV.out] at ho1
      exact (ho1.lt x hx).1

theorem Pic.eq {w : World} {M : List Nat} {v : Value} {n : Nat} {f g : Nat → List Int} (h : Pic w M v n f) (e : ∀ j, j < n → f j = g j) : Pic w M v n g := by
  obtain ⟨vs, h1, h2⟩ := h
  exact ⟨vs, h1, fun j hj => by rw [← e j hj]; exact h2 j hj⟩

theorem Pic.len {w : World} {M : List Nat} {v : Value} {n : Nat} {f : Nat → List Int} (h : Pic w M v n f) (j : Nat) (hj : j < n) : (f j).length = 128 := by
  obtain ⟨vs, h1, h2⟩ := h
  obtain ⟨u, _, a, c, _, hs, _⟩ := h2 j hj
  exact hs.1

/-- An image as a list. -/
theorem Pic.img {w : World} {M : List Nat} {v : Value} {n : Nat} {f : Nat → List Int} (h : Pic w M v n f) : ∃ a c, v = .slice a n c ∧ n ≤ c ∧ c ≤ 9223372036854775807 ∧ Img w a ((List.range n).map f) := by
  have hlen := h.len
  obtain ⟨vs, ho, hj⟩ := h
  obtain ⟨a, c, rfl, h1, h2⟩ := own_shape ho
  refine ⟨a, c, rfl, h1, h2, fun h0 => ?_⟩
  have h0' : 0 < n := by simpa using h0
  obtain ⟨g, rfl⟩ : ∃ g, a = some ⟨g, 0, none⟩ := by
    rcases ho.2 with ⟨_, h⟩ | ⟨g, c, cur, h, _⟩
    · omega
    · injection h with h1 h2 h3; exact ⟨g, h1⟩
  refine ⟨g, 0, rfl, (ho.lt g rfl).2, fun j hjl => ?_⟩
  have hjn : j < n := by simpa using hjl
  obtain ⟨u, h3, a, c, e, hs, _, hc1, hc2⟩ := hj j hjn
  have hl := hlen j hjn
  refine ⟨u, by rw [Nat.zero_add, ho.cellAt _ (by omega)]; exact h3, ?_⟩
  rw [List.getElem_map, List.getElem_range]
  exact ⟨some a, c, by rw [e, hl], by rw [hl]; exact hs, fun _ b o _ hx => by simp at hx, by omega, hc2, fun h => by simp at h, by omega⟩

theorem flat_sec (n : Nat) (f : Nat → List Int) (hl : ∀ j, j < n → (f j).length = 128) (i : Nat) (hi : i < n) : sec ((List.range n).map f).flatten i = f i := by
  have key : ∀ (L : List (List Int)) (k : Nat), (∀ l ∈ L, l.length = 128) → ∀ h : k < L.length, sec L.flatten k = L[k] := by
    intro L
    induction L with
    | nil => intro k _ h; simp at h
    | cons x L ih =>
      intro k hL h
      have hx : x.length = 128 := hL x (List.mem_cons_self ..)
      cases k with
      | zero =>
        show (List.take 128 (List.drop (0 * 128) (x ++ L.flatten))) = x
        rw [Nat.zero_mul, List.drop_zero, List.take_append_of_le_length (by omega), List.take_of_length_le (by omega)]
      | succ k =>
        have hk : k < L.length := by simpa using h
        have := ih k (fun l hl => hL l (List.mem_cons_of_mem _ hl)) hk
        show (List.take 128 (List.drop ((k + 1) * 128) (x ++ L.flatten))) = L[k]
        rw [List.drop_append, List.drop_eq_nil_of_le (by omega), List.nil_append, ← this]
        show _ = (List.take 128 (List.drop (k * 128) L.flatten))
        congr 2
        omega
  have := key ((List.range n).map f) i (fun l hlm => by
    obtain ⟨j, hj, rfl⟩ := List.mem_map.1 hlm
    exact hl j (List.mem_range.1 hj)) (by simpa using hi)
  rw [this, List.getElem_map, List.getElem_range]

/-- The disk of an image that is known by a function. -/
theorem jd_pic {d : Dk} {w : World} {p n : Nat} {T : Nat → List Int} (hok : d.ok w p) (hn : d.n = n) (hd : d.dur = ((List.range n).map T).flatten) (hw : d.wr = d.dur) (he : d.eps = []) (ho : d.opn = false) (hB : ∀ i, Bytes (T i)) (hl : ∀ i, (T i).length = 128) : Jd d w p n T ∧ d.rest := by
  refine ⟨⟨hok, hn, fun i hi => ?_, fun i hi => ?_, hB, hl, by rw [he]; simp, .inr he⟩, he, ho⟩
  · rw [hw, hd]; exact flat_sec n T (fun j _ => hl j) i hi
  · have e1 : d.ab = [] := by simp [Dk.ab, he]
    rw [e1]
    show sec d.dur i = T i
    rw [hd]; exact flat_sec n T (fun j _ => hl j) i hi
end Go.Proofs.YtkmnhpnlkmiiiaaGreatDoor

/- JournalWhole: behind a crash within Commit the group is there whole, or not at all. -/
namespace Go.Proofs.YtkmnhpnlkmiiiaaGreatDoor
open Go.RowKit Num Jr
set_option linter.unusedVariables false
set_option maxRecDepth 20000

/-- What a disk that is mixed opens with. -/
theorem whole_case {d : Dk} {w : World} {jp p n gen groups used : Nat} {S : Nat → List Int} {done waits : List (List Int)} {wv : Value} (h : Js d w jp p n S gen groups used done waits wv) (T : Nat → List Int)
    (hT : ∀ j, T j = S j ∨ T j = cmtS n gen groups used S waits j ∨ ∃ t, t < 128 ∧ T j = (cmtS n gen groups used S waits j).take t ++ (S j).drop t) : (opened n T).1 = done ∨ (waits ≠ [] ∧ (opened n T).1 = done ++ waits) := by
  by_cases hw : waits = []
  · left
    have e : T = S := funext fun j => by
      have := hT j
      unfold cmtS at this
      rw [if_pos hw] at this
      rcases this with e | e | ⟨t, _, e⟩
      · exact e
      · exact e
      · rw [e, List.take_append_drop]
    rw [e, h.ji.opened.1]
  · have := h.ji.whole waits hw h.wok h.room (needN (loadOf waits).length) (Nat.le_refl _) T (fun i => by
      have := hT i
      unfold cmtS at this
      rw [if_neg hw] at this
      exact this)
    rcases this with e | e
    · exact .inl e
    · exact .inr ⟨hw, e⟩

theorem mix_byt {S W T : Nat → List Int} (hS : ∀ i, Bytes (S i)) (hW : ∀ i, Bytes (W i)) (hT : ∀ j, T j = S j ∨ T j = W j ∨ ∃ t, t < 128 ∧ T j = (W j).take t ++ (S j).drop t) : ∀ i, Bytes (T i) := fun i => by
  rcases hT i with e | e | ⟨t, _, e⟩
  · rw [e]; exact hS i
  · rw [e]; exact hW i
  · rw [e]
    intro z hz
    rcases List.mem_append.1 hz with h | h
    · exact hW i z (List.mem_of_mem_take h)
    · exact hS i z (List.mem_of_mem_drop h)
theorem mix_len {S W T : Nat → List Int} (hS : ∀ i, (S i).length = 128) (hW : ∀ i, (W i).length = 128) (hT : ∀ j, T j = S j ∨ T j = W j ∨ ∃ t, t < 128 ∧ T j = (W j).take t ++ (S j).drop t) : ∀ i, (T i).length = 128 := fun i => by
  rcases hT i with e | e | ⟨t, ht, e⟩
  · rw [e]; exact hS i
  · rw [e]; exact hW i
  · rw [e, List.length_append, List.length_take, List.length_drop, hS, hW]; omega

theorem Jd.durS {d : Dk} {w : World} {p n : Nat} {S : Nat → List Int} (h : Jd d w p n S) (hr : d.rest) : ∀ j, j < n → sec d.dur j = S j := fun j hj => by
  have := h.ov j hj
  have e1 : d.ab = [] := by simp [Dk.ab, hr.1]
  rw [e1] at this
  exact this

set_option maxHeartbeats 8000000 in
theorem whole_road (al : Option Addr) (n cl : Nat) (L : List (List Int)) (la : Option Addr) (m lc : Nat) (mask torn : Int) (w : World) (hi : Img w al L) (hn : L.length = n) (hc : n ≤ cl) (hc2 : cl ≤ 9223372036854775807) (hsz : n * 24 ≤ 140737488351232) (hB : ∀ l ∈ L, Bytes l) (hT : Tab w) (hD : Dos3 w la m) (hm : m ≤ lc) (hm2 : lc ≤ 9223372036854775807) :
    Calls Tryz.prog 4 #[.slice al n cl, .slice la m lc, .int .u64 mask, .int .i64 torn] w fun e w' => e = .returned (.bool true) ∧ Below w.heap.size w w' := by
  obtain ⟨i0, hi0, hz0, hz1, hz2⟩ := info_parts Tryz.infoTB
  have hTl : 1 < w.heap.size := World.block_lt_of_cell? _ _ (hT 0 (by omega))
  have kF := hid (filled_any al n cl L la m lc w hi hn hc hc2 hsz hB hT hD hm hm2)
  have HN := hid hn
  have HT := hid hT
  clear hi hn hB hT hD
  go_enter Tryz.func4, Tryz.ntmps4
  go_wp2_with fail
  refine kF.out.mono ?_
  rintro r w1 h1
  rcases h1 with ⟨hng, rfl, hb1⟩ | ⟨hg, h4, p, jp, vd, vw, rfl, hfl⟩
  · have HB1 := hid hb1
    clear hb1 hng kF
    go_wp2_with fail
    go_ret
    exact ⟨rfl, HB1.out⟩
  · rw [HN.out] at hfl h4
    obtain ⟨d, S, gen, groups, used, done, waits, wv, hjs, htw⟩ := hfl
    have hn2 : n ≤ 2048 := by rw [← hjs.jd.dn]; exact hjs.jd.ok.n2
    have hTf : 1 ∉ Jf d p jp wv := fun hx => by have := htw.m _ hx; omega
    have kI := hid (image_any d p w1 hjs.jd.ok (Jf d p jp wv) hjs.lt)
    rw [hjs.jd.dn] at kI
    have HJ1 := hid hjs
    have HT1 := hid htw
    have HF := hid hTf
    clear hjs htw hTf kF hg
    go_wp2_with fail
    refine kI.out.mono ?_
    rintro r w2 ⟨g1, rfl, hp1, hg1, hb2⟩
    have hp1' := hid (hp1.eq (HJ1.out.jd.durS HJ1.out.rest))
    have hj2 := HJ1.out.below hb2
    have HT2 := hid (HT1.out.below hb2)
    have hT2 : Tab w2 := HT.out.below HT2.out.b hTl
    have kM := hid (commit_any d jp p n gen groups used S done waits wv w2 hj2 hT2 HF.out)
    have HG1 := hid hg1
    clear hp1 hj2 hT2 hb2 hg1 kI
    go_wp2_with fail
    refine kM.out.mono ?_
    rintro r w3 h3
    obtain ⟨d3, groups3, used3, wv3, e3, hj3, hu3, hg3⟩ := h3
    subst e3
    have HT3 := hid (HT2.out.move hu3 hg3 hj3.lt)
    have HP3 := hid ((hp1'.out.weaken (M' := Jf d p jp wv) (fun x hx => List.mem_cons_of_mem _ hx)).upd hu3 hg3 (fun k hk hx => by
      have e : g1 = k := by simpa [Value.ownBlock] using hk
      have := HJ1.out.lt k hx
      have := HG1.out
      omega))
    obtain ⟨W, gW⟩ : ∃ W, W = cmtS n gen groups used S waits := ⟨_, rfl⟩
    rw [← gW] at hj3
    have GW := hid gW
    have kI2 := hid (image_any d3 p w3 hj3.jd.ok [] (fun x hx => by simp at hx))
    rw [hj3.jd.dn] at kI2
    have HJ3 := hid hj3
    clear hj3 hu3 hg3 kM gW hp1'
    go_wp2_with fail
    refine kI2.out.mono ?_
    rintro r w4 ⟨g2, rfl, hp2, hg2, hb4⟩
    have HT4 := hid (HT3.out.below hb4)
    have kX := hid (mixed_any g1 g2 n n n S W _ _ mask torn w4 ((HP3.out.weaken (M' := []) (fun x hx => by simp at hx)).upd (Upd.of_below hb4) (grew_refl _ _) (fun k hk hx => by simp at hx)) (hp2.eq (HJ3.out.jd.durS HJ3.out.rest)) hn2 (by omega))
    clear hp2 hg2 hb4 kI2
    go_wp2_with fail
    refine kX.out.mono ?_
    rintro r w5 ⟨v5, rfl, T, hpT, hTT, hb5⟩
    have HT5 := hid (HT4.out.below hb5)
    obtain ⟨a5, c5, e5, hc51, hc52, him5⟩ := hpT.img
    subst e5
    have hTl' := mix_len HJ1.out.jd.all HJ3.out.jd.all hTT
    have hTb' := mix_byt HJ1.out.jd.byt HJ3.out.jd.byt hTT
    have kO := hid (dof_any a5 n c5 ((List.range n).map T) w5 him5 (by simp) hc51 hc52)
    rw [GW.out] at hTT
    have hcase := whole_case HJ1.out T hTT
    have HCS := hid hcase
    have HTL := hid hTl'
    have HTB := hid hTb'
    have hgi : Gi ((List.range n).map T) := ⟨by simp; omega, by simp; omega, fun l hl => by
      obtain ⟨j, _, rfl⟩ := List.mem_map.1 hl
      exact hTl' j⟩
    have HGI := hid hgi
    clear hpT hTT hb5 him5 hcase hTl' hTb' hgi kX
    go_wp2_with fail
    refine kO.out.mono ?_
    rintro r w6 h6
    obtain ⟨_, p6, d6, e6, hok6, dn6, dd6, dw6, de6, do6, df6, hb6⟩ := h6.resolve_left (fun h => h.1 HGI.out)
    subst e6
    have hj6 := jd_pic hok6 (by rw [dn6]; simp) dd6 dw6 de6 do6 HTB.out HTL.out
    have HT6 := hid (HT5.out.below hb6)
    have hT6 : Tab w6 := HT.out.below HT6.out.b hTl
    have kL := hid (lrecs_any d6 p6 n T w6 hj6.1 hj6.2 hT6 h4)
    clear hok6 dn6 dd6 dw6 de6 do6 df6 hb6 hj6 hT6 h6 kO
    go_wp2_with fail
    refine kL.out.mono ?_
    rintro r w7 ⟨v7, m7, rfl, hr7, hb7⟩
    have HT7 := hid (HT6.out.below hb7)
    have hfew := HJ1.out.few
    have hok1 := (HJ1.out.ji.few HJ1.out.jd.byt).2
    have HOK := hid hok1
    have HFEW := hid hfew
    clear hb7 kL hfew hok1
    rcases HCS.out with hcs | ⟨hw0, hcs⟩
    · rw [hcs] at hr7
      obtain ⟨a7, c7, e7, hc71, hc72, him7⟩ := hr7.img (fun l hl => by have := (HOK.out l hl).2.1; omega)
      subst e7
      obtain ⟨ad, cd, gvd, hcd1, hcd2, himd⟩ := HT7.out.rd.img
      have kE := hid (img_eqf a7 ad done.length c7 cd done w7 him7 himd rfl hc71 hc72 hcd1 hcd2)
      obtain ⟨ln, gln⟩ : ∃ ln, ln = done.length := ⟨_, rfl⟩
      rw [← gln] at kE gvd hc71 hcd1
      rw [← gln]
      have HB7 := hid HT7.out.b
      subst gvd
      clear him7 himd gln hcs hr7
      clear HT7 HT6 HT5 HT4 HT3 HT2 HT1
      go_wp2_with fail
      refine kE.out.mono ?_
      rintro r wx ⟨rfl, h⟩
      subst wx
      go_wp2_with fail
      go_ret
      exact ⟨rfl, HB7.out⟩
    · rw [hcs] at hr7
      have hokw : ∀ l ∈ done ++ waits, RecOk l := fun l hl => by
        rcases List.mem_append.1 hl with h | h
        · exact HOK.out l h
        · exact HJ1.out.wok l h
      have hr7' := hid (hr7.rl hokw [] (fun x hx => by simp at hx))
      obtain ⟨a7, c7, e7, hc71, hc72, him7⟩ := hr7'.out.img
      subst e7
      obtain ⟨ad, cd, gvd, hcd1, hcd2, himd⟩ := HT7.out.rd.img
      obtain ⟨ln, gln⟩ : ∃ ln, ln = done.length := ⟨_, rfl⟩
      obtain ⟨lw, glw⟩ : ∃ lw, lw = waits.length := ⟨_, rfl⟩
      have hlw : 0 < lw := by rw [glw]; exact List.length_pos_iff.2 hw0
      have hll : (done ++ waits).length = ln + lw := by rw [List.length_append, gln, glw]
      have kE := hid (eqf_len a7 ad (done ++ waits).length done.length c7 cd w7 (by rw [hll, ← gln]; omega))
      have hfd := HFEW.out.1
      have hfw := HFEW.out.2
      have kC := hid (rclone_rl vd done (vb vw ++ Jf d3 p jp wv3) w7 HT7.out.rd (fun x hx => by
        rcases List.mem_append.1 hx with h | h
        · exact HT7.out.rq.lt x h
        · exact HT7.out.ml x h) hfd)
      rw [hll, ← gln] at kE
      rw [← gln] at gvd hcd1 hfd
      rw [← glw] at hfw
      rw [hll] at hr7' hc71
      rw [hll]
      have GLN := hid gln
      have GLW := hid glw
      have HLL := hid hll
      subst gvd
      clear him7 himd gln glw hll hcs hr7 hw0 hokw
      clear HT6 HT5 HT4 HT3 HT2 HT1
      go_wp2_with fail
      refine kE.out.mono ?_
      rintro r wx ⟨rfl, h⟩
      subst wx
      go_wp2_with fail
      refine kC.out.mono ?_
      rintro r w8 ⟨v8, rfl, hr8, hn8, hb8⟩
      have ht8 := HT7.out.swap hb8 hr8 hn8
      obtain ⟨us, ho5, hv5, hus5⟩ := ht8.rd
      obtain ⟨us2, ho6, hv6, hus6⟩ := ht8.rq
      obtain ⟨a8, c8, g8, hc81, hc82⟩ := own_shape ho5
      rw [← GLN.out] at ho5 g8
      rw [← GLW.out] at ho6
      have hul : us2.length = lw := by have := ho6.1; omega
      obtain ⟨aw, cw, gvw, hcw1, hcw2⟩ := own_shape ho6
      obtain ⟨g, rfl⟩ : ∃ g, aw = some ⟨g, 0, none⟩ := by
        rcases ho6.2 with ⟨h, h0⟩ | ⟨g, c, cur, h, _⟩
        · omega
        · rw [gvw] at h; injection h with h1 h2 h3; exact ⟨g, h1⟩
      subst gvw
      have hcells : ∀ j u, us2[j]? = some u → w8.cell? ((⟨g, 0, none⟩ : Addr).add j) = some u := fun j u hu => by
        have hjl : j < lw := by have := (List.getElem?_eq_some_iff.1 hu).1; omega
        have := ho6.cellAt j (by omega)
        rw [Addr.add_lit, Nat.zero_add, this]; exact hu
      have hone : ∀ u ∈ us2, u.oneCell' = true := fun u hu => by
        obtain ⟨j, hj, rfl⟩ := List.getElem_of_mem hu
        obtain ⟨u', h1, a, c, e, _⟩ := hus6 j (by have := GLW.out; omega)
        rw [List.getElem?_eq_getElem hj] at h1
        injection h1 with h1
        rw [h1, e]; simp [Value.oneCell']
      obtain ⟨vd', w9, hrun, hO6, hG6, hN6, hW6⟩ := run_append_where (P := Tryz.prog) w8 22 22 29 i0 _ 1 24 Tryz.underlying22 hi0 hz0 hz1 hz2 rfl (by decide) v8 ln us ho5 ⟨g, 0, none⟩ lw cw us2 (by rw [hul, Nat.mul_one]) hcells hone (by unfold maxLen; omega) (by omega)
      have hU6 : Upd (fun x => v8.ownBlock = some x) w8 w9 := (Upd.of_grown hG6).mono fun x _ hx => hx.symm
      have hj6 := ht8.join (us := us) (us2 := us2) (vd' := vd') (w' := w9) (by rw [← GLN.out]; exact ho5) hus5 (by rw [hul, GLW.out]) hus6 (by rw [← GLN.out, ← GLW.out]; exact hO6) hU6 hW6
      obtain ⟨av, cv, ev, hcv1, hcv2, himv⟩ := hj6.rd.img
      have hr79 : Rl w9 [] (.slice a7 (ln + lw) c7) (done ++ waits) := hr7'.out.below (hb8.trans (hU6.below hb8.size (fun x hx => hn8 x hx)))
      obtain ⟨a7', c7', e7', hc73, hc74, him7⟩ := hr79.img
      rw [HLL.out] at ev hcv1 e7' hc73
      injection e7' with e71 e72 e73
      subst e71
      subst e73
      have KE4 := hid (img_eqf a7 av (ln + lw) c7 cv (done ++ waits) w9 him7 himv HLL.out hc73 hc74 hcv1 hcv2)
      subst ev
      have HB9 := hid hj6.b
      have HRUN := hid hrun
      rw [g8] at HRUN
      rw [g8]
      clear ht8 hr8 hn8 hb8 hr79 him7 himv hj6 hO6 hG6 hN6 hW6 hU6 hrun hone hcells hus5 hus6 ho5 ho6 hv5 hv6 hr7' kE kC HT7 g8
      go_wp2_with (at_builtin; refine wpList_append_g rfl (.tmp 60) (.tmp 61) 22 rfl _ _ _ _ rfl rfl HRUN.out ?_)
      refine KE4.out.mono ?_
      rintro r wx ⟨rfl, h⟩
      subst wx
      go_wp2_with fail
      go_ret
      exact ⟨rfl, HB9.out⟩
end Go.Proofs.YtkmnhpnlkmiiiaaGreatDoor
