/- The journal, merged. -/
import Derived.Test.YtkmnhpnlkmiiiaaGreatDoorJMg1
import Derived.Laws.CopyOwn
import Derived.Test.YtkmnhpnlkmiiiaaGreatDoorJMg2
import Derived.Test.YtkmnhpnlkmiiiaaGreatDoorQPic2

/- A group of which some sectors are there, the last of these torn: it is there whole, or not at all. -/
namespace Go.Proofs.YtkmnhpnlkmiiiaaGreatDoor
open Go.RowKit Num Jr
set_option linter.unusedVariables false
set_option maxRecDepth 20000

namespace Jr
theorem rightS_end {zs : List Int} {place gen num : Nat} (h : rightS zs place gen num = true) : zs.getD 127 0 = 165 := by
  unfold rightS at h
  obtain ⟨h1, h2, h3⟩ := of_decide_eq_true h
  obtain ⟨l, gl⟩ : ∃ l, l = (zs.drop 21).take (zs.getD 1 0).toNat := ⟨_, rfl⟩
  have hl : l.length ≤ 100 := by rw [gl, List.length_take]; omega
  rw [← gl] at h3
  rw [h3, sectB, seald]
  rw [List.getD_eq_getElem?_getD, List.getElem?_append_right (by simp [length_le]; omega)]
  have e : 127 - (([74, ((l.length : Nat) : Int)] ++ le place 2 ++ le gen 8 ++ [if decide (zs.getD 12 0 = 1) then 1 else 0] ++ le num 8 ++ l ++ List.replicate (102 - l.length) 0) ++ le (Crc.crc ([74, ((l.length : Nat) : Int)] ++ le place 2 ++ le gen 8 ++ [if decide (zs.getD 12 0 = 1) then 1 else 0] ++ le num 8 ++ l ++ List.replicate (102 - l.length) 0)) 4).length = 0 := by
    simp [length_le]; omega
  rw [e]
  rfl

/-- A sector that was torn over noughts. -/
theorem torn_bad (zs : List Int) (t place gen num : Nat) (ht : t < 128) : rightS (zs.take t ++ zero128.drop t) place gen num = false := by
  cases hr : rightS (zs.take t ++ zero128.drop t) place gen num with
  | false => rfl
  | true =>
    have h := rightS_end hr
    exfalso
    have h0 : (zs.take t ++ zero128.drop t).getD 127 0 = 0 := by
      rw [List.getD_eq_getElem?_getD]
      have hl : (zs.take t).length ≤ t := by rw [List.length_take]; omega
      rw [List.getElem?_append_right (by omega)]
      cases hx : (zero128.drop t)[127 - (zs.take t).length]? with
      | none => rfl
      | some x =>
        have hm : x ∈ zero128 := List.mem_of_mem_drop (List.mem_of_getElem? hx)
        exact List.eq_of_mem_replicate hm
    omega

theorem loadGo_part (first gen num : Nat) (T : Nat → List Int) : ∀ (f : Nat) (S : Nat → List Int) (place : Nat) (load acc : List Int) (k : Nat), needN load.length ≤ f →
    (∀ j, place ≤ j → j < place + needN load.length → T (first + j) = writeGo first gen num f S place load (first + j) ∨ rightS (T (first + j)) j gen num = false) →
    (∃ j, place ≤ j ∧ j < place + needN load.length ∧ rightS (T (first + j)) j gen num = false) → loadGo T first gen num k place acc = []
  | 0, S, place, load, acc, k, hf, hT, ⟨j, h1, h2, _⟩ => by omega
  | f + 1, S, place, load, acc, 0, hf, hT, _ => rfl
  | f + 1, S, place, load, acc, k + 1, hf, hT, ⟨j, h1, h2, h3⟩ => by
    rw [loadGo]
    by_cases hb : rightS (T (first + place)) place gen num = false
    · rw [if_neg (by rw [hb]; simp)]
    · have hl : load ≠ [] := fun e => by rw [e] at h2; simp [needN] at h2; omega
      have hp : 0 < load.length := List.length_pos_iff.2 hl
      have hn := needN_pos load.length hp
      have hd : needN (load.drop 100).length = needN load.length - 1 := by rw [List.length_drop]; unfold needN; omega
      have hj : place < j := by
        rcases Nat.lt_or_ge place j with h | h
        · exact h
        · obtain rfl : j = place := by omega
          exact absurd h3 hb
      have hTp : T (first + place) = sectB place gen num (decide (load.drop 100 = [])) (load.take 100) := by
        rcases hT place (Nat.le_refl _) (by omega) with h | h
        · rw [h, writeGo, if_neg hl, writeGo_out first gen num f _ (place + 1) (load.drop 100) (first + place) (by omega)]
          simp [upS]
        · exact absurd h hb
      have hlen : 100 < load.length := by
        rcases Nat.lt_or_ge 100 load.length with h | h
        · exact h
        · unfold needN at h2; omega
      have hz : load.drop 100 ≠ [] := fun e => by have := congrArg List.length e; rw [List.length_drop] at this; simp at this; omega
      have htl : (load.take 100).length = min 100 load.length := by rw [List.length_take]
      rw [hTp, if_pos (rightS_sect _ _ _ _ _ (by omega) (by omega)), sectB_last, sectB_used, sectB_load, if_neg (by simp [hz]), if_neg (by rw [htl]; omega)]
      refine loadGo_part first gen num T f (upS S (first + place) (sectB place gen num (decide (load.drop 100 = [])) (load.take 100))) (place + 1) (load.drop 100) _ k (by omega) (fun i hi1 hi2 => ?_) ⟨j, by omega, by omega, h3⟩
      have := hT i (by omega) (by omega)
      rw [writeGo, if_neg hl] at this
      exact this

/-- Behind a crash within Commit. -/
theorem JI.whole {n : Nat} {S : Nat → List Int} {gen : Nat} {done : List (List Int)} {groups used : Nat} (h : JI n S gen done groups used) (waits : List (List Int)) (hw : waits ≠ []) (hr : ∀ r ∈ waits, RecOk r) (hroom : needN (loadOf waits).length ≤ szOf n - used) (f : Nat) (hf : needN (loadOf waits).length ≤ f) (T : Nat → List Int)
    (hT : ∀ i, T i = S i ∨ T i = writeGo (firstOf gen n) gen (groups + 1) f S used (loadOf waits) i ∨ ∃ t, t < 128 ∧ T i = (writeGo (firstOf gen n) gen (groups + 1) f S used (loadOf waits) i).take t ++ (S i).drop t) :
    (Jr.opened n T).1 = done ∨ (Jr.opened n T).1 = done ++ waits := by
  obtain ⟨W, gW⟩ : ∃ W, W = writeGo (firstOf gen n) gen (groups + 1) f S used (loadOf waits) := ⟨_, rfl⟩
  rw [← gW] at hT
  have hout : ∀ i, (i < firstOf gen n + used ∨ firstOf gen n + used + needN (loadOf waits).length ≤ i) → W i = S i := fun i hi => by rw [gW]; exact writeGo_out _ _ _ _ _ _ _ i hi
  have hTo : ∀ i, (i < firstOf gen n + used ∨ firstOf gen n + used + needN (loadOf waits).length ≤ i) → T i = S i := fun i hi => by
    rcases hT i with e | e | ⟨t, _, e⟩
    · exact e
    · rw [e]; exact hout i hi
    · rw [e, hout i hi, List.take_append_drop]
  have hf2 := firstOf_ge gen n
  have huse := h.use
  have hTi : ∀ j, used ≤ j → j < used + needN (loadOf waits).length → T (firstOf gen n + j) = W (firstOf gen n + j) ∨ rightS (T (firstOf gen n + j)) j gen (groups + 1) = false := fun j h1 h2 => by
    have hz := h.zero j h1 (by omega)
    rcases hT (firstOf gen n + j) with e | e | ⟨t, ht, e⟩
    · right
      rw [e, hz]
      have := torn_bad [] 0 j gen (groups + 1) (by omega)
      simpa using this
    · exact .inl e
    · right
      rw [e, hz]
      exact torn_bad _ t j gen (groups + 1) ht
  by_cases hbad : ∃ j, used ≤ j ∧ j < used + needN (loadOf waits).length ∧ rightS (T (firstOf gen n + j)) j gen (groups + 1) = false
  · left
    have hload : ∀ k, loadGo T (firstOf gen n) gen (groups + 1) k used [] = [] := fun k => loadGo_part (firstOf gen n) gen (groups + 1) T f S used (loadOf waits) [] k hf (fun j h1 h2 => by rw [← gW]; exact hTi j h1 h2) hbad
    have hg : grpsGo S (firstOf gen n) gen (szOf n) (szOf n + 1) 0 0 [] = (done, groups, used) := h.grp
    have := grpsGo_then S T (firstOf gen n) gen (szOf n) h.len (szOf n + 1) 0 0 [] (Nat.zero_le _) (by omega) (fun i hi => by rw [hg] at hi; exact hTo _ (.inl (by simp at hi; omega)))
    obtain ⟨f', hf', he⟩ := this
    rw [hg] at hf' he
    simp only at hf' he
    have hgr : grps T (firstOf gen n) gen (szOf n) = (done, groups, used) := by
      show grpsGo T (firstOf gen n) gen (szOf n) (szOf n + 1) 0 0 [] = _
      rw [he]
      obtain ⟨f', rfl⟩ : ∃ k, f' = k + 1 := ⟨f' - 1, by omega⟩
      rw [grpsGo, hload, if_pos recsOf_nil]
    have hnew : Jr.newest T = gen := by
      have := h.newest
      unfold Jr.newest at this ⊢
      rw [hTo 0 (.inl (by omega)), hTo 1 (.inl (by omega))]
      exact this
    have hg1 := h.g1
    unfold Jr.opened
    rw [hnew, if_neg (by omega)]
    rw [hgr]
  · right
    have hTW : T = W := by
      funext i
      by_cases hi : i < firstOf gen n + used ∨ firstOf gen n + used + needN (loadOf waits).length ≤ i
      · rw [hTo i hi, hout i hi]
      · have h1 : used ≤ i - firstOf gen n := by omega
        have h2 : i - firstOf gen n < used + needN (loadOf waits).length := by omega
        have e : firstOf gen n + (i - firstOf gen n) = i := by omega
        rcases hTi _ h1 h2 with h | h
        · rw [e] at h; exact h
        · exact absurd ⟨_, h1, h2, h⟩ hbad
    rw [hTW, gW]
    exact congrArg (·.1) (h.commit waits hw hr hroom f hf).opened.1
end Jr
end Go.Proofs.YtkmnhpnlkmiiiaaGreatDoor

/- Bytes held against each other, whatever they are; lists of other lengths. -/
namespace Go.Proofs.YtkmnhpnlkmiiiaaGreatDoor
open Go.RowKit Num Jr
set_option linter.unusedVariables false
set_option maxRecDepth 20000

set_option maxHeartbeats 400000 in
theorem equal_some (a0 a1 : Option Addr) (n c m d : Nat) (xs ys : List Int) (w : World) (h0 : Src w a0 n xs) (h1 : Src w a1 m ys) :
    Calls Tryz.prog 12 #[.slice a0 n c, .slice a1 m d] w fun e w' => (∃ b, e = .returned (.bool b)) ∧ w' = w := by
  have e0 := h0.convert (P := Tryz.prog) c 29 5 9 Tryz.underlying29 Tryz.underlying5 Tryz.underlying9
  have e1 := h1.convert (P := Tryz.prog) d 29 5 9 Tryz.underlying29 Tryz.underlying5 Tryz.underlying9
  obtain ⟨S, gS⟩ : ∃ S, S = strOfNums xs := ⟨_, rfl⟩
  obtain ⟨R, gR⟩ : ∃ R, R = strOfNums ys := ⟨_, rfl⟩
  rw [← gS] at e0
  rw [← gR] at e1
  clear gS gR h0 h1
  go_enter Tryz.func12, Tryz.ntmps12
  go_wp2
  go_ret
  exact ⟨⟨_, rfl⟩, rfl⟩

set_option maxHeartbeats 400000 in
theorem eqf_len (a1 a2 : Option Addr) (n m c1 c2 : Nat) (w : World) (h : n ≠ m) :
    Calls Tryz.prog 11 #[.slice a1 n c1, .slice a2 m c2, .func (.func 12) #[] #[]] w fun e w' => e = .returned (.bool false) ∧ w' = w := by
  have hv : ¬ (n : Int) = (m : Int) := by omega
  go_enter Tryz.func11, Tryz.ntmps11
  go_wp2_with fail
  go_ret
  exact ⟨rfl, rfl⟩

end Go.Proofs.YtkmnhpnlkmiiiaaGreatDoor

/- A mixture of two images, as it comes to be: some sectors are the second one's, the last of these in a block of its own. -/
namespace Go.Proofs.YtkmnhpnlkmiiiaaGreatDoor
open Go.RowKit Num Jr
set_option linter.unusedVariables false
set_option maxRecDepth 20000

def Mx (w0 w : World) (v : Value) (n : Nat) (S W T : Nat → List Int) (last : Int) : Prop :=
  ∃ vs, w.ownsRow 0 29 1 v n vs ∧ (∀ k, v.ownBlock = some k → w0.heap.size ≤ k) ∧ Below w0.heap.size w0 w ∧ (∀ j, j < n → ∃ u, vs[j]? = some u ∧ Byt w (vb v) u (T j)) ∧ (∀ j, T j = S j ∨ T j = W j) ∧
    (last = -1 ∨ ∃ l g c : Nat, last = (l : Int) ∧ l < n ∧ T l = W l ∧ vs[l]? = some (.slice (some ⟨g, 0, none⟩) 128 c) ∧ w.ownsRow w0.heap.size 5 1 (.slice (some ⟨g, 0, none⟩) 128 c) 128 ((W l).map (Value.int .u8)) ∧ g ∉ vb v ∧ ∀ j, j < n → j ≠ l → ∃ u, vs[j]? = some u ∧ Byt w [g] u (T j))

theorem Mx.start {w0 w : World} {v : Value} {n : Nat} {S W : Nat → List Int} (h : Pic w (vb v) v n S) (hv : ∀ k, v.ownBlock = some k → w0.heap.size ≤ k) (hb : Below w0.heap.size w0 w) : Mx w0 w v n S W S (-1) := by
  obtain ⟨vs, ho, hj⟩ := h
  exact ⟨vs, ho, hv, hb, hj, fun _ => .inl rfl, .inl rfl⟩

/-- A sector of the second image goes in. -/
theorem Mx.set {w0 w w1 : World} {v : Value} {n i g c k cv : Nat} {S W T : Nat → List Int} {last : Int} (h : Mx w0 w v n S W T last) (hi : i < n) (hb : Below w.heap.size w w1) (ho : w1.ownsRow w.heap.size 5 1 (.slice (some ⟨g, 0, none⟩) 128 c) 128 ((W i).map (Value.int .u8))) (gv : v = .slice (some ⟨k, 0, none⟩) n cv) :
    Mx w0 (w1.setCell ⟨k, i, none⟩ (.slice (some ⟨g, 0, none⟩) 128 c)) v n S W (fun j => if j = i then W i else T j) i := by
  obtain ⟨vs, hr, hv, hbw, hj, hT, _⟩ := h
  have hkv : vb v = [k] := by rw [gv]; simp [vb, Value.ownBlock]
  have hk : k < w.heap.size := own_lt hr (by rw [hkv]; simp)
  have hg := ho.lt g rfl
  have hgk : g ≠ k := by omega
  have hr1 := own_below hr hb
  rw [gv] at hr1
  have hst := (hr1.stored i (.slice (some ⟨g, 0, none⟩) 128 c)).1
  rw [← gv] at hst
  obtain ⟨w2, gw2⟩ : ∃ w2, w2 = w1.setCell ⟨k, i, none⟩ (.slice (some ⟨g, 0, none⟩) 128 c) := ⟨_, rfl⟩
  rw [← gw2] at hst ⊢
  have hU : Upd (· = k) w1 w2 := by rw [gw2]; exact Upd.setCell w1 _ _ rfl
  have hvl : vs.length = n := by have := hr.1; omega
  have ho2 := hU.own ho (fun x hx e => hgk ((show g = x by simpa [Value.ownBlock] using hx).trans e))
  have hcap := own_cap ho2
  have hs0 := hbw.size
  have hsrc : Src w2 (some ⟨g, 0, none⟩) 128 (W i) := Src.own ho2
  have hold : ∀ j u, j < n → Byt w (vb v) u (T j) → Byt w2 (vb v) u (T j) ∧ Byt w2 [g] u (T j) := fun j u _ hby => by
    have h2 : Byt w2 (vb v) u (T j) := (hby.upd (Upd.of_below hb) (grew_refl _ _)).upd (hU.mono (fun x _ hx => by rw [hkv]; have e : x = k := hx; simp [e])) (grew_refl _ _)
    refine ⟨h2, ?_⟩
    obtain ⟨a, c', e, hs, _, hc⟩ := hby
    obtain ⟨a2, c2, e2, hs2, _, hc2⟩ := h2
    have hlt := src_lt hs (by omega)
    rw [e] at e2
    injection e2 with e3 e4 e5
    injection e3 with e3
    subst e3
    refine ⟨a, c2, by rw [e, e5], hs2, fun hx => ?_, hc2⟩
    have : a.block = g := by simpa using hx
    omega
  refine ⟨vs.set i (.slice (some ⟨g, 0, none⟩) 128 c), hst, hv, (hbw.trans (hb.mono hs0)).trans (hU.below (Nat.le_trans hs0 hb.size) (fun x hx => by have e : x = k := hx; rw [e]; exact hv k (by rw [gv]; rfl))), fun j hl => ?_, fun j => ?_, .inr ⟨i, g, c, rfl, hi, by simp, by simp [hvl, hi], own_base ho2 hs0, by rw [hkv]; simpa using hgk, fun j hl hne => ?_⟩⟩
  · by_cases e : j = i
    · subst e
      refine ⟨_, by rw [List.getElem?_set, if_pos rfl, if_pos (by omega)], ?_⟩
      simp only [if_true]
      exact ⟨⟨g, 0, none⟩, c, rfl, hsrc, by rw [hkv]; simpa using hgk, hcap.1, hcap.2⟩
    · obtain ⟨u, h1, h2⟩ := hj j hl
      refine ⟨u, by rw [List.getElem?_set, if_neg (fun h => e h.symm)]; exact h1, ?_⟩
      simp only [if_neg e]
      exact (hold j u hl h2).1
  · by_cases e : j = i
    · subst e; simp
    · simp only [if_neg e]; exact hT j
  · obtain ⟨u, h1, h2⟩ := hj j hl
    refine ⟨u, by rw [List.getElem?_set, if_neg (fun h => hne h.symm)]; exact h1, ?_⟩
    simp only [if_neg hne]
    exact (hold j u hl h2).2

theorem Mx.below {w0 w w1 : World} {v : Value} {n : Nat} {S W T : Nat → List Int} {last : Int} (h : Mx w0 w v n S W T last) (hb : Below w.heap.size w w1) : Mx w0 w1 v n S W T last := by
  obtain ⟨vs, hr, hv, hbw, hj, hT, hl⟩ := h
  refine ⟨vs, own_below hr hb, hv, hbw.trans (hb.mono hbw.size), fun j hjn => ?_, hT, ?_⟩
  · obtain ⟨u, h1, h2⟩ := hj j hjn
    exact ⟨u, h1, h2.upd (Upd.of_below hb) (grew_refl _ _)⟩
  · rcases hl with h | ⟨l, g, c, h1, h2, h3, h4, h5, h6, h7⟩
    · exact .inl h
    · exact .inr ⟨l, g, c, h1, h2, h3, h4, own_below h5 hb, h6, fun j hjn hne => by
        obtain ⟨u, q1, q2⟩ := h7 j hjn hne
        exact ⟨u, q1, q2.upd (Upd.of_below hb) (grew_refl _ _)⟩⟩

/-- What the mixture is in the end. -/
def MixP (w : World) (n : Nat) (S W : Nat → List Int) (v : Value) (w' : World) : Prop := ∃ T : Nat → List Int, Pic w' [] v n T ∧ (∀ j, T j = S j ∨ T j = W j ∨ ∃ t, t < 128 ∧ T j = (W j).take t ++ (S j).drop t) ∧ Below w.heap.size w w'

theorem Mx.whole {w0 w : World} {v : Value} {n : Nat} {S W T : Nat → List Int} {last : Int} (h : Mx w0 w v n S W T last) : MixP w0 n S W v w := by
  obtain ⟨vs, hr, hv, hbw, hj, hT, hl⟩ := h
  refine ⟨T, ⟨vs, hr, fun j hjn => ?_⟩, fun j => ?_, hbw⟩
  · obtain ⟨u, h1, h2⟩ := hj j hjn
    exact ⟨u, h1, h2.weaken (fun x hx => by simp at hx)⟩
  · rcases hT j with h | h
    · exact .inl h
    · exact .inr (.inl h)

/-- The last of these, torn. -/
theorem Mx.torn {w0 w w1 : World} {v : Value} {n l g c t : Nat} {S W T : Nat → List Int} {vs : List Value} (hr : w.ownsRow 0 29 1 v n vs) (hbw : Below w0.heap.size w0 w) (hT : ∀ j, T j = S j ∨ T j = W j) (hl : l < n) (hvl : vs[l]? = some (.slice (some ⟨g, 0, none⟩) 128 c)) (hgv : g ∉ vb v) (h7 : ∀ j, j < n → j ≠ l → ∃ u, vs[j]? = some u ∧ Byt w [g] u (T j)) (hg0 : w0.heap.size ≤ g)
    (ht : t < 128) (hU : Upd (· = g) w w1) (ho : w1.ownsRow 0 5 1 (.slice (some ⟨g, 0, none⟩) 128 c) 128 (((W l).take t ++ (S l).drop t).map (Value.int .u8))) : MixP w0 n S W v w1 := by
  have hcap := own_cap ho
  refine ⟨fun j => if j = l then (W l).take t ++ (S l).drop t else T j, ⟨vs, hU.own hr (fun k hk e => hgv (by have e' : k = g := e; simp [vb, hk, e'])), fun j hjn => ?_⟩, fun j => ?_, hbw.trans (hU.below hbw.size (fun x hx => by have e : x = g := hx; omega))⟩
  · by_cases e : j = l
    · subst e
      refine ⟨_, hvl, ?_⟩
      simp only [if_true]
      exact ⟨⟨g, 0, none⟩, c, rfl, Src.own ho, by simp, hcap.1, hcap.2⟩
    · obtain ⟨u, h1, h2⟩ := h7 j hjn e
      refine ⟨u, h1, ?_⟩
      simp only [if_neg e]
      exact (h2.upd (hU.mono (fun x _ hx => by have e : x = g := hx; simp [e])) (grew_refl _ _)).weaken (fun x hx => by simp at hx)
  · by_cases e : j = l
    · subst e
      right; right
      exact ⟨t, ht, by simp⟩
    · simp only [if_neg e]
      rcases hT j with h | h
      · exact .inl h
      · exact .inr (.inl h)

end Go.Proofs.YtkmnhpnlkmiiiaaGreatDoor

/- What dredgerplain.Mixed does. -/
namespace Go.Proofs.YtkmnhpnlkmiiiaaGreatDoor
open Go.RowKit Num Jr
set_option linter.unusedVariables false
set_option maxRecDepth 20000

theorem Mx.cell {w0 w w1 : World} {n i k cv : Nat} {S W T : Nat → List Int} {last : Int} (h : Mx w0 w (.slice (some ⟨k, 0, none⟩) n cv) n S W T last) (hb : Below w.heap.size w w1) (hi : i < n) : ∃ old, w1.cell? ⟨k, i, none⟩ = some old := by
  obtain ⟨vs, hr, _, _, hj, _⟩ := h
  obtain ⟨u, hu, _⟩ := hj i hi
  exact ⟨u, by rw [(own_below hr hb).cellAt i (by omega)]; exact hu⟩
theorem Mx.frozen {w0 w w1 : World} {n k cv : Nat} {S W T : Nat → List Int} {last : Int} (h : Mx w0 w (.slice (some ⟨k, 0, none⟩) n cv) n S W T last) (hb : Below w.heap.size w w1) (i : Nat) : w1.frozen? ⟨k, i, none⟩ = false := by
  obtain ⟨vs, hr, _⟩ := h
  exact (own_below hr hb).frozenAt i

set_option maxHeartbeats 4000000 in
theorem mixed_any (g1 g2 n c1 c2 : Nat) (S W : Nat → List Int) (M1 M2 : List Nat) (mask torn : Int) (w : World) (hp1 : Pic w M1 (.slice (some ⟨g1, 0, none⟩) n c1) n S) (hp2 : Pic w M2 (.slice (some ⟨g2, 0, none⟩) n c2) n W) (hn : n ≤ 2048) (hn1 : 1 ≤ n) :
    Calls Tryz.prog 17 #[.slice (some ⟨g1, 0, none⟩) n c1, .slice (some ⟨g2, 0, none⟩) n c2, .int .u64 mask, .int .i64 torn] w fun e w' => ∃ v, e = .returned v ∧ MixP w n S W v w' := by
  have k1 := hid (pimage_any (.slice (some ⟨g1, 0, none⟩) n c1) n S M1 [] w hp1 hn (fun x hx => by simp at hx))
  obtain ⟨vs1, hr1, he1⟩ := hp1
  obtain ⟨vs2, hr2, he2⟩ := hp2
  have hc1 := own_cap hr1
  have hc2 := own_cap hr2
  have HR1 := hid hr1
  have HR2 := hid hr2
  have HE1 := hid he1
  have HE2 := hid he2
  clear hr1 hr2 he1 he2
  go_enter Tryz.func17, Tryz.ntmps17
  go_wp2_with fail
  refine k1.out.mono ?_
  rintro r w1 ⟨vo, rfl, hpo, hvo, hb1⟩
  rw [List.append_nil] at hpo
  have hM := Mx.start (W := W) hpo hvo hb1
  obtain ⟨vs, hro, _⟩ := hpo
  obtain ⟨ao, co, gvo, hco1, hco2⟩ := own_shape hro
  obtain ⟨k, rfl⟩ : ∃ k, ao = some ⟨k, 0, none⟩ := by
    rcases hro.2 with ⟨_, h⟩ | ⟨g, c, cur, h, _⟩
    · omega
    · rw [gvo] at h; injection h with h1 h2 h3; exact ⟨g, h1⟩
  subst gvo
  have HM := hid hM
  clear hM hro hvo hb1 k1
  go_wp2_with fail
  go_loopw [10, 11, 17] (fun kk last ii wr => ∃ (i k0 : Nat) (lst : Int), ii = .int .i64 i ∧ i ≤ n ∧ kk = .int .i64 k0 ∧ k0 ≤ i ∧ last = .int .i64 lst ∧ Hid (∃ T, Mx w wr (.slice (some ⟨k, 0, none⟩) n co) n S W T lst)) (fun _ _ ii _ => n - (intOf ii).toNat)
  case atStart => exact ⟨0, 0, -1, rfl, Nat.zero_le _, rfl, Nat.le_refl _, rfl, hid ⟨_, HM.out⟩⟩
  case round =>
    clear HM
    obtain ⟨i, k0, lst, rfl, hi, rfl, hk0, rfl, HX⟩ := hrel
    obtain ⟨T, hM⟩ := HX.out
    have hbw : Below w.heap.size w wr := by obtain ⟨_, _, _, h, _⟩ := hM; exact h
    by_cases hlt : i < n
    · obtain ⟨u1, hu1, hby1⟩ := HE1.out i hlt
      obtain ⟨u2, hu2, hby2⟩ := HE2.out i hlt
      obtain ⟨a1, d1, rfl, hs1, _, hd11, hd12⟩ := hby1.upd (Upd.of_below hbw) (grew_refl _ _)
      obtain ⟨a2, d2, rfl, hs2, _, hd21, hd22⟩ := hby2.upd (Upd.of_below hbw) (grew_refl _ _)
      have e1 : wr.cell? ⟨g1, i, none⟩ = some (.slice (some a1) 128 d1) := by rw [(own_below HR1.out hbw).cellAt i (by omega)]; exact hu1
      have e2 : wr.cell? ⟨g2, i, none⟩ = some (.slice (some a2) 128 d2) := by rw [(own_below HR2.out hbw).cellAt i (by omega)]; exact hu2
      have HS1 := hid hs1
      have HS2 := hid hs2
      have HMX := hid hM
      have HB := hid hbw
      clear hM hbw hs1 hs2 hu1 hu2 hby1 hby2 HX
      go_upto_region 6 with fail
      go_region_held3 (fun wx => wx.cell? ⟨g1, i, none⟩ = some (.slice (some a1) 128 d1) ∧ wx.cell? ⟨g2, i, none⟩ = some (.slice (some a2) 128 d2)) (exact ⟨e1, e2⟩) (first | (go_at_call 12; refine (equal_some (some a1) (some a2) 128 d1 128 d2 (S i) (W i) _ (HS1.out.heap (by rfl)) (HS2.out.heap (by rfl))).mono ?_; rintro r wx ⟨⟨b, rfl⟩, h⟩; subst wx))
      cases b with
      | true =>
        go_wp2_with fail
        go_roundw
        case rel => exact ⟨i + 1, k0, lst, by go_num, by omega, rfl, by omega, rfl, hid ⟨T, HMX.out.below (Below.refl _ wr).drew⟩⟩
        case measure => simp [intOf]; omega
      | false =>
        have e2d : wr.drew.cell? ⟨g2, i, none⟩ = some (.slice (some a2) 128 d2) := e2
        have kC := hid (clone_any a2 128 d2 (W i) wr.drew (HS2.out.heap rfl) (by omega))
        go_upto_region 8 with fail
        · go_wp2_with (first | (go_at_call 30; refine kC.out.mono ?_; rintro r w3 ⟨gc, cc, rfl, ho3, hb3⟩; have HO3 := hid ho3; have HB3 := hid (show Below wr.heap.size wr w3 from (Below.refl _ wr).drew.trans hb3); clear ho3 hb3 kC; obtain ⟨old, x1⟩ := HMX.out.cell HB3.out hlt; have x2 := HMX.out.frozen HB3.out i))
          go_roundw
          case rel => exact ⟨i + 1, k0 + 1, i, by go_num, by omega, by go_num, by omega, rfl, hid ⟨_, HMX.out.set hlt HB3.out HO3.out rfl⟩⟩
          case measure => simp [intOf]; omega
        · exact ⟨⟨i + 1, k0 + 1, lst, by go_num, by omega, by go_num, by omega, rfl, hid ⟨T, HMX.out.below (Below.refl _ wr).drew⟩⟩, by simp [intOf]; omega⟩
        · exact ⟨⟨i + 1, by omega, by omega, k0 + 1, by omega, by omega, hid ⟨T, HMX.out.below (Below.refl _ wr).drew⟩⟩, by simp [intOf]; omega⟩
    · obtain rfl : i = n := by omega
      have HMX := hid hM
      obtain ⟨vs, hr, hv, hb, hj, hTT, hl⟩ := hM
      have HB := hid hb
      clear HX hbw hb
      rcases hl with rfl | ⟨l, g, c, rfl, hli, hTl, hvl, hog, hgv, h7⟩
      · clear hr hv hj hTT
        go_wp2_with fail
        go_ret
        exact ⟨_, rfl, HMX.out.whole⟩
      · by_cases ht0 : torn < 0
        · have ht0' : ¬ 0 ≤ torn := by omega
          have hl0 : (0 : Int) ≤ (l : Int) := by omega
          clear hr hv hj hTT hvl hog hgv h7
          go_wp2_with fail
          go_ret
          exact ⟨_, rfl, HMX.out.whole⟩
        · obtain ⟨t, rfl⟩ : ∃ t : Nat, torn = (t : Int) := ⟨torn.toNat, by omega⟩
          obtain ⟨u1, hu1, hby1⟩ := HE1.out l hli
          obtain ⟨a1, d1, rfl, hs1, _, hd11, hd12⟩ := hby1.upd (Upd.of_below HB.out) (grew_refl _ _)
          have e1 : wr.cell? ⟨g1, l, none⟩ = some (.slice (some a1) 128 d1) := by rw [(own_below HR1.out HB.out).cellAt l (by omega)]; exact hu1
          by_cases ht : t < 128
          · have hkv : vb (.slice (some ⟨k, 0, none⟩) i co) = [k] := by simp [vb, Value.ownBlock]
            have hkg : k ≠ g := fun e => hgv (by rw [hkv, e]; simp)
            have hg0 : w.heap.size ≤ g := (hog.lt g rfl).1
            have hg1 : g1 ≠ g := fun e => by have := own_lt HR1.out (k := g1) (by simp [vb, Value.ownBlock]); omega
            have e3 : wr.cell? ⟨k, l, none⟩ = some (.slice (some ⟨g, 0, none⟩) 128 c) := by rw [hr.cellAt l (by omega)]; exact hvl
            obtain ⟨b1, o1, ea, _, _⟩ := hs1.2 (by omega)
            injection ea with ea
            subst ea
            have hSl := hs1.1
            obtain ⟨cur, hcur, hcc1, hcc2, hk3, hk4⟩ := own_heap hog
            have hsm : Src wr.drew (some ⟨b1, o1 + t, none⟩) (128 - t) ((S l).drop t) := by
              have := Src.mid (hs1.heap (w' := wr.drew) rfl) t (128 - t) (by omega)
              rwa [List.take_of_length_le (by rw [List.length_drop]; omega)] at this
            have crun := run_copy_row2 (P := Tryz.prog) wr.drew 29 29 3 5 1 g t (128 - t) (c - t) ⟨b1, o1 + t, none⟩ (128 - t) (d1 - t) (128 - t) cur.toArray 5 (((S l).drop t).map (Value.int .u8)) Tryz.underlying29 Tryz.psz5 hcur (by simp) (by simp; omega) (src_cells hsm) (by simp; omega) (u8_one _)
            obtain ⟨W7, g7⟩ : ∃ W7, W7 = wr.drew.setRow g (cur.toArray.toList.take t ++ ((S l).drop t).map (Value.int .u8) ++ cur.toArray.toList.drop (t + (((S l).drop t).map (Value.int .u8)).length)).toArray := ⟨_, rfl⟩
            rw [← g7] at crun
            have hrow : W7.heap[g]? = some (.cells (cur.toArray.toList.take t ++ ((S l).drop t).map (Value.int .u8) ++ cur.toArray.toList.drop (t + (((S l).drop t).map (Value.int .u8)).length)).toArray 5 (0, 0)) := by rw [g7]; exact setRow_heap wr.drew g _ _ _ _ hcur
            have hU7 : Upd (· = g) wr W7 := by
              rw [g7]
              exact ⟨rfl, rfl, rfl, by simp, fun x _ hx => setRow_other wr.drew g x _ hx⟩
            have ho7 : W7.ownsRow 0 5 1 (.slice (some ⟨g, 0, none⟩) 128 c) 128 (((W l).take t ++ (S l).drop t).map (Value.int .u8)) := by
              have hWl : (W l).length = 128 := by have := hog.1; simpa using this
              have hDl : ((S l).drop t).length = 128 - t := by rw [List.length_drop]; omega
              have hct : cur.take t = ((W l).take t).map (Value.int .u8) := by
                rw [List.map_take, ← hk4, List.take_take]
                congr 1
                omega
              refine ⟨by simp only [List.length_map, List.length_append, List.length_take, hDl]; omega, .inr ⟨g, c, _, rfl, Nat.zero_le _, hrow, hcc1, hcc2, ?_, ?_⟩⟩
              · simp only [List.size_toArray, List.length_append, List.length_take, List.length_map, List.length_drop]
                omega
              · show List.take (128 * 1) (cur.take t ++ ((S l).drop t).map (Value.int .u8) ++ cur.drop (t + (((S l).drop t).map (Value.int .u8)).length)) = _
                rw [hct, ← List.map_append]
                have hl2 : (((W l).take t ++ (S l).drop t).map (Value.int .u8)).length = 128 := by
                  simp only [List.length_map, List.length_append, List.length_take, hDl]; omega
                rw [List.take_append_of_le_length (by omega), List.take_of_length_le (by omega)]
            have hP := hid (Mx.torn hr HB.out hTT hli hvl hgv h7 hg0 ht hU7 ho7)
            have q1 : W7.cell? ⟨k, l, none⟩ = some (.slice (some ⟨g, 0, none⟩) 128 c) := by rw [g7]; exact (cell_setRow_block _ _ _ _ hkg).trans e3
            have q2 : W7.cell? ⟨g1, l, none⟩ = some (.slice (some ⟨b1, o1, none⟩) 128 d1) := by rw [g7]; exact (cell_setRow_block _ _ _ _ hg1).trans e1
            have ht1 : (t : Int) < 128 := by omega
            have ht2 : (0 : Int) ≤ (t : Int) := by omega
            have hl0 : (0 : Int) ≤ (l : Int) := by omega
            have ht3 : (t : Int) ≤ (c : Int) := by omega
            have ht4 : ¬ (c : Int) = (t : Int) := by omega
            have ht5 : (t : Int) ≤ (d1 : Int) := by omega
            have ht6 : ¬ (d1 : Int) = (t : Int) := by omega
            clear hr hv hj hTT hvl hog hgv h7 hs1 hu1 hby1 hsm hcur hk3 hk4 hrow hU7 ho7 g7 hSl hkv
            have ht7 : (t : Int) ≤ 128 := by omega
            go_upto_region 13 with fail
            go_region_held3 (fun wx => wx.cell? ⟨k, l, none⟩ = some (.slice (some ⟨g, 0, none⟩) 128 c) ∧ wx.cell? ⟨g1, l, none⟩ = some (.slice (some ⟨b1, o1, none⟩) 128 d1)) (first | go_keep | exact ⟨q1, q2⟩) (fail)
            go_wp2_with fail
            go_ret
            exact ⟨_, rfl, hP.out⟩
          · clear hr hv hj hTT hvl hog hgv h7 hs1 hu1 hby1
            have ht' : ¬ (t : Int) < 128 := by omega
            have hl0 : (0 : Int) ≤ (l : Int) := by omega
            have ht00 : (0 : Int) ≤ (t : Int) := by omega
            go_wp2_with fail
            go_ret
            exact ⟨_, rfl, HMX.out.whole⟩
end Go.Proofs.YtkmnhpnlkmiiiaaGreatDoor

/- A list of records cloned; an image that was mixed, as a list, and the disk that it makes. -/
namespace Go.Proofs.YtkmnhpnlkmiiiaaGreatDoor
open Go.RowKit Num Jr
set_option linter.unusedVariables false
set_option maxRecDepth 20000

set_option maxHeartbeats 1000000 in
theorem rclone_rl (v : Value) (L : List (List Int)) (M : List Nat) (w : World) (h : Rl w M v L) (hM : ∀ x ∈ M, x < w.heap.size) (hfew : L.length ≤ 102400) :
    Calls Tryz.prog 18 #[v] w fun e w' => ∃ v', e = .returned v' ∧ Rl w' M v' L ∧ (∀ x, v'.ownBlock = some x → w.heap.size ≤ x) ∧ Below w.heap.size w w' := by
  obtain ⟨i0, hi0, hz0, hz1, hz2⟩ := info_parts Tryz.infoTB
  have HR := hid h
  obtain ⟨us, ho, hv, hj⟩ := h
  have HJ := hid hj
  obtain ⟨n, gn⟩ : ∃ n, n = L.length := ⟨_, rfl⟩
  rw [← gn] at ho hfew
  have GN := hid gn
  have hul : us.length = n := by have := ho.1; omega
  clear gn hj
  obtain ⟨a, c, gv, hc1, hc2⟩ := own_shape ho
  have ha : (a = none ∧ n = 0 ∧ c = 0) ∨ ∃ g, a = some ⟨g, 0, none⟩ := by
    rcases ho.2 with ⟨h, h0⟩ | ⟨g, c, cur, h, _⟩
    · rw [gv] at h; injection h with h1 h2 h3; exact .inl ⟨h1, h2, h3⟩
    · rw [gv] at h; injection h with h1 h2 h3; exact .inr ⟨g, h1⟩
  rcases ha with ⟨rfl, hn0, hc0⟩ | ⟨g, rfl⟩
  · subst hn0
    subst hc0
    subst gv
    have hq := Lib.run_eql_slice_nil (P := Tryz.prog) w 22 29 none 0 0 0 0 Tryz.underlying22
    simp only [Option.isNone_none] at hq
    go_enter Tryz.func18, Tryz.ntmps18
    go_wp2_with fail
    go_ret
    exact ⟨_, rfl, HR.out, fun x hx => by simp [Value.ownBlock] at hx, Below.refl _ _⟩
  · subst gv
    have hb0 : Below w.heap.size w (w.alloc (.cells #[] 29)) := (Below.refl _ _).alloc (Nat.le_refl _) _
    have ho0 := own_below ho hb0
    have HN : Hid (∀ j u, us[j]? = some u → (w.alloc (.cells #[] 29)).cell? ((⟨g, 0, none⟩ : Addr).add j) = some u) := by
      intro j u hu
      have hjl : j < n := by have := (List.getElem?_eq_some_iff.1 hu).1; omega
      have := ho0.cellAt j (by omega)
      rw [Addr.add_lit, Nat.zero_add, this]; exact hu
    have H1 : Hid (∀ u ∈ us, u.oneCell' = true) := by
      intro u hu
      obtain ⟨j, hjl, rfl⟩ := List.getElem_of_mem hu
      obtain ⟨u', h1, a, c, e, _⟩ := HJ.out j (by have := GN.out; omega)
      rw [List.getElem?_eq_getElem hjl] at h1
      injection h1 with h1
      rw [h1, e]; simp [Value.oneCell']
    have HL : Hid (us.length = n * 1) := by show _ = _; omega
    have HO : Hid ((w.alloc (.cells #[] 29)).ownsRow w.heap.size 29 1 (.slice (some ⟨w.heap.size, 0, none⟩) 0 0) 0 []) := World.ownsRow_made w #[] 0 (Nat.le_refl _) (by unfold maxLen; omega) rfl
    have HB := hid hb0
    have hq := Lib.run_eql_slice_nil (P := Tryz.prog) w 22 29 (some ⟨g, 0, none⟩) n c 0 0 Tryz.underlying22
    simp only [Option.isNone_some] at hq
    clear hb0 ho0 ho hv
    go_enter Tryz.func18, Tryz.ntmps18
    go_wp2_with (at_builtin; go_must (refine wpList_append_own _ rfl (.tmp 5) (.tmp 6) 22 rfl w.heap.size 29 i0 (.slice none 0 0) 1 24 Tryz.underlying22 hi0 hz0 hz1 hz2 rfl (by decide) (.slice (some ⟨w.heap.size, 0, none⟩) 0 0) 0 [] rfl HO.out ⟨g, 0, none⟩ n c us rfl HL.out HN.out H1.out (by unfold maxLen; omega) (by omega) (by simp) ?_))
    intro v' w1 hown hgrow hnil
    have hb1 := HB.out.grown hgrow (by simp) (by intro q hq; simp [Value.ownBlock] at hq; omega)
    have HO1 := hid hown
    obtain ⟨a', c', gv', _, _⟩ := own_shape hown
    rw [gv']
    have GV := hid gv'
    clear hown hgrow hnil gv'
    go_wp2_with fail
    go_ret
    refine ⟨_, rfl, ?_, fun x hx => ?_, hb1⟩
    · rw [← GV.out]
      have ho1 := HO1.out
      have hnew : ∀ x, v'.ownBlock = some x → w.heap.size ≤ x := fun x hx => (ho1.lt x hx).1
      refine ⟨us, own_base (by rw [← GN.out]; simpa using ho1) (Nat.zero_le _), fun k hk hx => ?_, fun j hjl => ?_⟩
      · have := hnew k hk; have := hM k hx; omega
      · obtain ⟨u, h1, h2⟩ := HJ.out j hjl
        refine ⟨u, h1, (h2.weaken (M' := M) (fun x hx => List.mem_append.2 (.inr hx))).upd (Upd.of_below hb1) (fun x hx => ?_)⟩
        rcases List.mem_append.1 hx with h | h
        · exact .inr (hnew x (by simpa [vb] using h))
        · exact .inl h
    · have ho1 := HO1.out
      rw [GV.out] at ho1
      exact (ho1.lt x hx).1

theorem Pic.eq {w : World} {M : List Nat} {v : Value} {n : Nat} {f g : Nat → List Int} (h : Pic w M v n f) (e : ∀ j, j < n → f j = g j) : Pic w M v n g := by
  obtain ⟨vs, h1, h2⟩ := h
  exact ⟨vs, h1, fun j hj => by rw [← e j hj]; exact h2 j hj⟩

theorem Pic.len {w : World} {M : List Nat} {v : Value} {n : Nat} {f : Nat → List Int} (h : Pic w M v n f) (j : Nat) (hj : j < n) : (f j).length = 128 := by
  obtain ⟨vs, h1, h2⟩ := h
  obtain ⟨u, _, a, c, _, hs, _⟩ := h2 j hj
  exact hs.1

/-- An image as a list. -/
theorem Pic.img {w : World} {M : List Nat} {v : Value} {n : Nat} {f : Nat → List Int} (h : Pic w M v n f) : ∃ a c, v = .slice a n c ∧ n ≤ c ∧ c ≤ 9223372036854775807 ∧ Img w a ((List.range n).map f) := by
  have hlen := h.len
  obtain ⟨vs, ho, hj⟩ := h
  obtain ⟨a, c, rfl, h1, h2⟩ := own_shape ho
  refine ⟨a, c, rfl, h1, h2, fun h0 => ?_⟩
  have h0' : 0 < n := by simpa using h0
  obtain ⟨g, rfl⟩ : ∃ g, a = some ⟨g, 0, none⟩ := by
    rcases ho.2 with ⟨_, h⟩ | ⟨g, c, cur, h, _⟩
    · omega
    · injection h with h1 h2 h3; exact ⟨g, h1⟩
  refine ⟨g, 0, rfl, (ho.lt g rfl).2, fun j hjl => ?_⟩
  have hjn : j < n := by simpa using hjl
  obtain ⟨u, h3, a, c, e, hs, _, hc1, hc2⟩ := hj j hjn
  have hl := hlen j hjn
  refine ⟨u, by rw [Nat.zero_add, ho.cellAt _ (by omega)]; exact h3, ?_⟩
  rw [List.getElem_map, List.getElem_range]
  exact ⟨some a, c, by rw [e, hl], by rw [hl]; exact hs, fun _ b o _ hx => by simp at hx, by omega, hc2, fun h => by simp at h, by omega⟩

theorem flat_sec (n : Nat) (f : Nat → List Int) (hl : ∀ j, j < n → (f j).length = 128) (i : Nat) (hi : i < n) : sec ((List.range n).map f).flatten i = f i := by
  have key : ∀ (L : List (List Int)) (k : Nat), (∀ l ∈ L, l.length = 128) → ∀ h : k < L.length, sec L.flatten k = L[k] := by
    intro L
    induction L with
    | nil => intro k _ h; simp at h
    | cons x L ih =>
      intro k hL h
      have hx : x.length = 128 := hL x (List.mem_cons_self ..)
      cases k with
      | zero =>
        show (List.take 128 (List.drop (0 * 128) (x ++ L.flatten))) = x
        rw [Nat.zero_mul, List.drop_zero, List.take_append_of_le_length (by omega), List.take_of_length_le (by omega)]
      | succ k =>
        have hk : k < L.length := by simpa using h
        have := ih k (fun l hl => hL l (List.mem_cons_of_mem _ hl)) hk
        show (List.take 128 (List.drop ((k + 1) * 128) (x ++ L.flatten))) = L[k]
        rw [List.drop_append, List.drop_eq_nil_of_le (by omega), List.nil_append, ← this]
        show _ = (List.take 128 (List.drop (k * 128) L.flatten))
        congr 2
        omega
  have := key ((List.range n).map f) i (fun l hlm => by
    obtain ⟨j, hj, rfl⟩ := List.mem_map.1 hlm
    exact hl j (List.mem_range.1 hj)) (by simpa using hi)
  rw [this, List.getElem_map, List.getElem_range]

/-- The disk of an image that is known by a function. -/
theorem jd_pic {d : Dk} {w : World} {p n : Nat} {T : Nat → List Int} (hok : d.ok w p) (hn : d.n = n) (hd : d.dur = ((List.range n).map T).flatten) (hw : d.wr = d.dur) (he : d.eps = []) (ho : d.opn = false) (hB : ∀ i, Bytes (T i)) (hl : ∀ i, (T i).length = 128) : Jd d w p n T ∧ d.rest := by
  refine ⟨⟨hok, hn, fun i hi => ?_, fun i hi => ?_, hB, hl, by rw [he]; simp, .inr he⟩, he, ho⟩
  · rw [hw, hd]; exact flat_sec n T (fun j _ => hl j) i hi
  · have e1 : d.ab = [] := by simp [Dk.ab, he]
    rw [e1]
    show sec d.dur i = T i
    rw [hd]; exact flat_sec n T (fun j _ => hl j) i hi
end Go.Proofs.YtkmnhpnlkmiiiaaGreatDoor

/- JournalWhole: behind a crash within Commit the group is there whole, or not at all. -/
namespace Go.Proofs.YtkmnhpnlkmiiiaaGreatDoor
open Go.RowKit Num Jr
set_option linter.unusedVariables false
set_option maxRecDepth 20000

/-- What a disk that is mixed opens with. -/
theorem whole_case {d : Dk} {w : World} {jp p n gen groups used : Nat} {S : Nat → List Int} {done waits : List (List Int)} {wv : Value} (h : Js d w jp p n S gen groups used done waits wv) (T : Nat → List Int)
    (hT : ∀ j, T j = S j ∨ T j = cmtS n gen groups used S waits j ∨ ∃ t, t < 128 ∧ T j = (cmtS n gen groups used S waits j).take t ++ (S j).drop t) : (opened n T).1 = done ∨ (waits ≠ [] ∧ (opened n T).1 = done ++ waits) := by
  by_cases hw : waits = []
  · left
    have e : T = S := funext fun j => by
      have := hT j
      unfold cmtS at this
      rw [if_pos hw] at this
      rcases this with e | e | ⟨t, _, e⟩
      · exact e
      · exact e
      · rw [e, List.take_append_drop]
    rw [e, h.ji.opened.1]
  · have := h.ji.whole waits hw h.wok h.room (needN (loadOf waits).length) (Nat.le_refl _) T (fun i => by
      have := hT i
      unfold cmtS at this
      rw [if_neg hw] at this
      exact this)
    rcases this with e | e
    · exact .inl e
    · exact .inr ⟨hw, e⟩

theorem mix_byt {S W T : Nat → List Int} (hS : ∀ i, Bytes (S i)) (hW : ∀ i, Bytes (W i)) (hT : ∀ j, T j = S j ∨ T j = W j ∨ ∃ t, t < 128 ∧ T j = (W j).take t ++ (S j).drop t) : ∀ i, Bytes (T i) := fun i => by
  rcases hT i with e | e | ⟨t, _, e⟩
  · rw [e]; exact hS i
  · rw [e]; exact hW i
  · rw [e]
    intro z hz
    rcases List.mem_append.1 hz with h | h
    · exact hW i z (List.mem_of_mem_take h)
    · exact hS i z (List.mem_of_mem_drop h)
theorem mix_len {S W T : Nat → List Int} (hS : ∀ i, (S i).length = 128) (hW : ∀ i, (W i).length = 128) (hT : ∀ j, T j = S j ∨ T j = W j ∨ ∃ t, t < 128 ∧ T j = (W j).take t ++ (S j).drop t) : ∀ i, (T i).length = 128 := fun i => by
  rcases hT i with e | e | ⟨t, ht, e⟩
  · rw [e]; exact hS i
  · rw [e]; exact hW i
  · rw [e, List.length_append, List.length_take, List.length_drop, hS, hW]; omega

theorem Jd.durS {d : Dk} {w : World} {p n : Nat} {S : Nat → List Int} (h : Jd d w p n S) (hr : d.rest) : ∀ j, j < n → sec d.dur j = S j := fun j hj => by
  have := h.ov j hj
  have e1 : d.ab = [] := by simp [Dk.ab, hr.1]
  rw [e1] at this
  exact this

set_option maxHeartbeats 8000000 in
theorem whole_road (al : Option Addr) (n cl : Nat) (L : List (List Int)) (la : Option Addr) (m lc : Nat) (mask torn : Int) (w : World) (hi : Img w al L) (hn : L.length = n) (hc : n ≤ cl) (hc2 : cl ≤ 9223372036854775807) (hsz : n * 24 ≤ 140737488351232) (hB : ∀ l ∈ L, Bytes l) (hT : Tab w) (hD : Dos3 w la m) (hm : m ≤ lc) (hm2 : lc ≤ 9223372036854775807) :
    Calls Tryz.prog 4 #[.slice al n cl, .slice la m lc, .int .u64 mask, .int .i64 torn] w fun e w' => e = .returned (.bool true) ∧ Below w.heap.size w w' := by
  obtain ⟨i0, hi0, hz0, hz1, hz2⟩ := info_parts Tryz.infoTB
  have hTl : 1 < w.heap.size := World.block_lt_of_cell? _ _ (hT 0 (by omega))
  have kF := hid (filled_any al n cl L la m lc w hi hn hc hc2 hsz hB hT hD hm hm2)
  have HN := hid hn
  have HT := hid hT
  clear hi hn hB hT hD
  go_enter Tryz.func4, Tryz.ntmps4
  go_wp2_with fail
  refine kF.out.mono ?_
  rintro r w1 h1
  rcases h1 with ⟨hng, rfl, hb1⟩ | ⟨hg, h4, p, jp, vd, vw, rfl, hfl⟩
  · have HB1 := hid hb1
    clear hb1 hng kF
    go_wp2_with fail
    go_ret
    exact ⟨rfl, HB1.out⟩
  · rw [HN.out] at hfl h4
    obtain ⟨d, S, gen, groups, used, done, waits, wv, hjs, htw⟩ := hfl
    have hn2 : n ≤ 2048 := by rw [← hjs.jd.dn]; exact hjs.jd.ok.n2
    have hTf : 1 ∉ Jf d p jp wv := fun hx => by have := htw.m _ hx; omega
    have kI := hid (image_any d p w1 hjs.jd.ok (Jf d p jp wv) hjs.lt)
    rw [hjs.jd.dn] at kI
    have HJ1 := hid hjs
    have HT1 := hid htw
    have HF := hid hTf
    clear hjs htw hTf kF hg
    go_wp2_with fail
    refine kI.out.mono ?_
    rintro r w2 ⟨g1, rfl, hp1, hg1, hb2⟩
    have hp1' := hid (hp1.eq (HJ1.out.jd.durS HJ1.out.rest))
    have hj2 := HJ1.out.below hb2
    have HT2 := hid (HT1.out.below hb2)
    have hT2 : Tab w2 := HT.out.below HT2.out.b hTl
    have kM := hid (commit_any d jp p n gen groups used S done waits wv w2 hj2 hT2 HF.out)
    have HG1 := hid hg1
    clear hp1 hj2 hT2 hb2 hg1 kI
    go_wp2_with fail
    refine kM.out.mono ?_
    rintro r w3 h3
    obtain ⟨d3, groups3, used3, wv3, e3, hj3, hu3, hg3⟩ := h3
    subst e3
    have HT3 := hid (HT2.out.move hu3 hg3 hj3.lt)
    have HP3 := hid ((hp1'.out.weaken (M' := Jf d p jp wv) (fun x hx => List.mem_cons_of_mem _ hx)).upd hu3 hg3 (fun k hk hx => by
      have e : g1 = k := by simpa [Value.ownBlock] using hk
      have := HJ1.out.lt k hx
      have := HG1.out
      omega))
    obtain ⟨W, gW⟩ : ∃ W, W = cmtS n gen groups used S waits := ⟨_, rfl⟩
    rw [← gW] at hj3
    have GW := hid gW
    have kI2 := hid (image_any d3 p w3 hj3.jd.ok [] (fun x hx => by simp at hx))
    rw [hj3.jd.dn] at kI2
    have HJ3 := hid hj3
    clear hj3 hu3 hg3 kM gW hp1'
    go_wp2_with fail
    refine kI2.out.mono ?_
    rintro r w4 ⟨g2, rfl, hp2, hg2, hb4⟩
    have HT4 := hid (HT3.out.below hb4)
    have kX := hid (mixed_any g1 g2 n n n S W _ _ mask torn w4 ((HP3.out.weaken (M' := []) (fun x hx => by simp at hx)).upd (Upd.of_below hb4) (grew_refl _ _) (fun k hk hx => by simp at hx)) (hp2.eq (HJ3.out.jd.durS HJ3.out.rest)) hn2 (by omega))
    clear hp2 hg2 hb4 kI2
    go_wp2_with fail
    refine kX.out.mono ?_
    rintro r w5 ⟨v5, rfl, T, hpT, hTT, hb5⟩
    have HT5 := hid (HT4.out.below hb5)
    obtain ⟨a5, c5, e5, hc51, hc52, him5⟩ := hpT.img
    subst e5
    have hTl' := mix_len HJ1.out.jd.all HJ3.out.jd.all hTT
    have hTb' := mix_byt HJ1.out.jd.byt HJ3.out.jd.byt hTT
    have kO := hid (dof_any a5 n c5 ((List.range n).map T) w5 him5 (by simp) hc51 hc52)
    rw [GW.out] at hTT
    have hcase := whole_case HJ1.out T hTT
    have HCS := hid hcase
    have HTL := hid hTl'
    have HTB := hid hTb'
    have hgi : Gi ((List.range n).map T) := ⟨by simp; omega, by simp; omega, fun l hl => by
      obtain ⟨j, _, rfl⟩ := List.mem_map.1 hl
      exact hTl' j⟩
    have HGI := hid hgi
    clear hpT hTT hb5 him5 hcase hTl' hTb' hgi kX
    go_wp2_with fail
    refine kO.out.mono ?_
    rintro r w6 h6
    obtain ⟨_, p6, d6, e6, hok6, dn6, dd6, dw6, de6, do6, df6, hb6⟩ := h6.resolve_left (fun h => h.1 HGI.out)
    subst e6
    have hj6 := jd_pic hok6 (by rw [dn6]; simp) dd6 dw6 de6 do6 HTB.out HTL.out
    have HT6 := hid (HT5.out.below hb6)
    have hT6 : Tab w6 := HT.out.below HT6.out.b hTl
    have kL := hid (lrecs_any d6 p6 n T w6 hj6.1 hj6.2 hT6 h4)
    clear hok6 dn6 dd6 dw6 de6 do6 df6 hb6 hj6 hT6 h6 kO
    go_wp2_with fail
    refine kL.out.mono ?_
    rintro r w7 ⟨v7, m7, rfl, hr7, hb7⟩
    have HT7 := hid (HT6.out.below hb7)
    have hfew := HJ1.out.few
    have hok1 := (HJ1.out.ji.few HJ1.out.jd.byt).2
    have HOK := hid hok1
    have HFEW := hid hfew
    clear hb7 kL hfew hok1
    rcases HCS.out with hcs | ⟨hw0, hcs⟩
    · rw [hcs] at hr7
      obtain ⟨a7, c7, e7, hc71, hc72, him7⟩ := hr7.img (fun l hl => by have := (HOK.out l hl).2.1; omega)
      subst e7
      obtain ⟨ad, cd, gvd, hcd1, hcd2, himd⟩ := HT7.out.rd.img
      have kE := hid (img_eqf a7 ad done.length c7 cd done w7 him7 himd rfl hc71 hc72 hcd1 hcd2)
      obtain ⟨ln, gln⟩ : ∃ ln, ln = done.length := ⟨_, rfl⟩
      rw [← gln] at kE gvd hc71 hcd1
      rw [← gln]
      have HB7 := hid HT7.out.b
      subst gvd
      clear him7 himd gln hcs hr7
      clear HT7 HT6 HT5 HT4 HT3 HT2 HT1
      go_wp2_with fail
      refine kE.out.mono ?_
      rintro r wx ⟨rfl, h⟩
      subst wx
      go_wp2_with fail
      go_ret
      exact ⟨rfl, HB7.out⟩
    · rw [hcs] at hr7
      have hokw : ∀ l ∈ done ++ waits, RecOk l := fun l hl => by
        rcases List.mem_append.1 hl with h | h
        · exact HOK.out l h
        · exact HJ1.out.wok l h
      have hr7' := hid (hr7.rl hokw [] (fun x hx => by simp at hx))
      obtain ⟨a7, c7, e7, hc71, hc72, him7⟩ := hr7'.out.img
      subst e7
      obtain ⟨ad, cd, gvd, hcd1, hcd2, himd⟩ := HT7.out.rd.img
      obtain ⟨ln, gln⟩ : ∃ ln, ln = done.length := ⟨_, rfl⟩
      obtain ⟨lw, glw⟩ : ∃ lw, lw = waits.length := ⟨_, rfl⟩
      have hlw : 0 < lw := by rw [glw]; exact List.length_pos_iff.2 hw0
      have hll : (done ++ waits).length = ln + lw := by rw [List.length_append, gln, glw]
      have kE := hid (eqf_len a7 ad (done ++ waits).length done.length c7 cd w7 (by rw [hll, ← gln]; omega))
      have hfd := HFEW.out.1
      have hfw := HFEW.out.2
      have kC := hid (rclone_rl vd done (vb vw ++ Jf d3 p jp wv3) w7 HT7.out.rd (fun x hx => by
        rcases List.mem_append.1 hx with h | h
        · exact HT7.out.rq.lt x h
        · exact HT7.out.ml x h) hfd)
      rw [hll, ← gln] at kE
      rw [← gln] at gvd hcd1 hfd
      rw [← glw] at hfw
      rw [hll] at hr7' hc71
      rw [hll]
      have GLN := hid gln
      have GLW := hid glw
      have HLL := hid hll
      subst gvd
      clear him7 himd gln glw hll hcs hr7 hw0 hokw
      clear HT6 HT5 HT4 HT3 HT2 HT1
      go_wp2_with fail
      refine kE.out.mono ?_
      rintro r wx ⟨rfl, h⟩
      subst wx
      go_wp2_with fail
      refine kC.out.mono ?_
      rintro r w8 ⟨v8, rfl, hr8, hn8, hb8⟩
      have ht8 := HT7.out.swap hb8 hr8 hn8
      obtain ⟨us, ho5, hv5, hus5⟩ := ht8.rd
      obtain ⟨us2, ho6, hv6, hus6⟩ := ht8.rq
      obtain ⟨a8, c8, g8, hc81, hc82⟩ := own_shape ho5
      rw [← GLN.out] at ho5 g8
      rw [← GLW.out] at ho6
      have hul : us2.length = lw := by have := ho6.1; omega
      obtain ⟨aw, cw, gvw, hcw1, hcw2⟩ := own_shape ho6
      obtain ⟨g, rfl⟩ : ∃ g, aw = some ⟨g, 0, none⟩ := by
        rcases ho6.2 with ⟨h, h0⟩ | ⟨g, c, cur, h, _⟩
        · omega
        · rw [gvw] at h; injection h with h1 h2 h3; exact ⟨g, h1⟩
      subst gvw
      have hcells : ∀ j u, us2[j]? = some u → w8.cell? ((⟨g, 0, none⟩ : Addr).add j) = some u := fun j u hu => by
        have hjl : j < lw := by have := (List.getElem?_eq_some_iff.1 hu).1; omega
        have := ho6.cellAt j (by omega)
        rw [Addr.add_lit, Nat.zero_add, this]; exact hu
      have hone : ∀ u ∈ us2, u.oneCell' = true := fun u hu => by
        obtain ⟨j, hj, rfl⟩ := List.getElem_of_mem hu
        obtain ⟨u', h1, a, c, e, _⟩ := hus6 j (by have := GLW.out; omega)
        rw [List.getElem?_eq_getElem hj] at h1
        injection h1 with h1
        rw [h1, e]; simp [Value.oneCell']
      obtain ⟨vd', w9, hrun, hO6, hG6, hN6, hW6⟩ := run_append_where (P := Tryz.prog) w8 22 22 29 i0 _ 1 24 Tryz.underlying22 hi0 hz0 hz1 hz2 rfl (by decide) v8 ln us ho5 ⟨g, 0, none⟩ lw cw us2 (by rw [hul, Nat.mul_one]) hcells hone (by unfold maxLen; omega) (by omega)
      have hU6 : Upd (fun x => v8.ownBlock = some x) w8 w9 := (Upd.of_grown hG6).mono fun x _ hx => hx.symm
      have hj6 := ht8.join (us := us) (us2 := us2) (vd' := vd') (w' := w9) (by rw [← GLN.out]; exact ho5) hus5 (by rw [hul, GLW.out]) hus6 (by rw [← GLN.out, ← GLW.out]; exact hO6) hU6 hW6
      obtain ⟨av, cv, ev, hcv1, hcv2, himv⟩ := hj6.rd.img
      have hr79 : Rl w9 [] (.slice a7 (ln + lw) c7) (done ++ waits) := hr7'.out.below (hb8.trans (hU6.below hb8.size (fun x hx => hn8 x hx)))
      obtain ⟨a7', c7', e7', hc73, hc74, him7⟩ := hr79.img
      rw [HLL.out] at ev hcv1 e7' hc73
      injection e7' with e71 e72 e73
      subst e71
      subst e73
      have KE4 := hid (img_eqf a7 av (ln + lw) c7 cv (done ++ waits) w9 him7 himv HLL.out hc73 hc74 hcv1 hcv2)
      subst ev
      have HB9 := hid hj6.b
      have HRUN := hid hrun
      rw [g8] at HRUN
      rw [g8]
      clear ht8 hr8 hn8 hb8 hr79 him7 himv hj6 hO6 hG6 hN6 hW6 hU6 hrun hone hcells hus5 hus6 ho5 ho6 hv5 hv6 hr7' kE kC HT7 g8
      go_wp2_with (at_builtin; refine wpList_append_g rfl (.tmp 60) (.tmp 61) 22 rfl _ _ _ _ rfl rfl HRUN.out ?_)
      refine KE4.out.mono ?_
      rintro r wx ⟨rfl, h⟩
      subst wx
      go_wp2_with fail
      go_ret
      exact ⟨rfl, HB9.out⟩
end Go.Proofs.YtkmnhpnlkmiiiaaGreatDoor

/- A head that is written over another one, and torn: it is the new one, the old one, or none. -/
namespace Go.Proofs.YtkmnhpnlkmiiiaaGreatDoor
open Go.RowKit Num Jr
set_option linter.unusedVariables false
set_option maxRecDepth 20000

namespace Jr
theorem xor_byte (a b j : Nat) : a / 2 ^ j % 256 = (b / 2 ^ j % 256) ^^^ ((a ^^^ b) / 2 ^ j % 256) := by
  rw [Nat.xor_div_two_pow, show (256 : Nat) = 2 ^ 8 from rfl, Nat.xor_mod_two_pow, ← Nat.xor_assoc, Nat.xor_comm (b / 2 ^ j % 2 ^ 8), Nat.xor_assoc, Nat.xor_self, Nat.xor_zero]

/-- Four bytes that part give sums that part. -/
theorem four_parts (P Q : List Int) (a b : Nat) (hP : Bytes P) (hQ : Bytes Q) (ha : a < 4294967296) (hb : b < 4294967296) (hne : a ≠ b) : Crc.crc (P ++ le a 4 ++ Q) ≠ Crc.crc (P ++ le b 4 ++ Q) := by
  have el : ∀ u : Nat, le u 4 = [((u % 256 : Nat) : Int), ((u / 256 % 256 : Nat) : Int), ((u / 65536 % 256 : Nat) : Int), ((u / 16777216 % 256 : Nat) : Int)] := fun u => by
    show [] ++ [((u / 256 ^ 0 % 256 : Nat) : Int)] ++ [((u / 256 ^ 1 % 256 : Nat) : Int)] ++ [((u / 256 ^ 2 % 256 : Nat) : Int)] ++ [((u / 256 ^ 3 % 256 : Nat) : Int)] = _
    simp
  have h0 : a ^^^ b ≠ 0 := fun e => hne (Crc.xor_zero e)
  have hx := Crc.xor_lt a b ha hb
  have hs := Crc.run_lt P 4294967295 (by omega) hP
  have hsplit : ∀ u : Nat, Crc.run 4294967295 (P ++ le u 4 ++ Q) = Crc.run (Crc.stp (Crc.stp (Crc.stp (Crc.stp (Crc.run 4294967295 P) (u % 256)) (u / 256 % 256)) (u / 65536 % 256)) (u / 16777216 % 256)) Q := fun u => by
    rw [el, List.append_assoc, Crc.run_append, Crc.run_append]; rfl
  have l : ∀ u : Nat, Crc.stp (Crc.stp (Crc.stp (Crc.stp (Crc.run 4294967295 P) (u % 256)) (u / 256 % 256)) (u / 65536 % 256)) (u / 16777216 % 256) < 4294967296 := fun u =>
    Crc.stp_lt _ _ (Crc.stp_lt _ _ (Crc.stp_lt _ _ (Crc.stp_lt _ _ hs (by omega)) (by omega)) (by omega)) (by omega)
  have hbu := Crc.burst4 (Crc.run 4294967295 P) (b % 256) (b / 256 % 256) (b / 65536 % 256) (b / 16777216 % 256) (a ^^^ b) hx h0
  have y0 := xor_byte a b 0
  have y1 := xor_byte a b 8
  have y2 := xor_byte a b 16
  have y3 := xor_byte a b 24
  simp only [Nat.pow_zero, Nat.div_one, show 2 ^ 8 = 256 from rfl, show 2 ^ 16 = 65536 from rfl, show 2 ^ 24 = 16777216 from rfl] at y0 y1 y2 y3
  rw [← y0, ← y1, ← y2, ← y3] at hbu
  unfold Crc.crc
  rw [hsplit, hsplit]
  intro hc
  apply hbu
  have la := l a
  have lb := l b
  refine Crc.run_inj Q _ _ la lb hQ ?_
  have ra := Crc.run_lt Q _ la hQ
  have rb := Crc.run_lt Q _ lb hQ
  omega

theorem le_inj (a b : Nat) : ∀ k, le a k = le b k → a % 256 ^ k = b % 256 ^ k
  | 0, _ => by simp [Nat.mod_one]
  | k + 1, h => by
    have h' : le a k ++ [((a / 256 ^ k % 256 : Nat) : Int)] = le b k ++ [((b / 256 ^ k % 256 : Nat) : Int)] := h
    obtain ⟨h1, h2⟩ := List.append_inj' h' rfl
    have h3 := le_inj a b k h1
    have h4 : a / 256 ^ k % 256 = b / 256 ^ k % 256 := by
      have := List.cons.inj h2
      have h5 := this.1
      omega
    rw [Nat.pow_succ, Nat.mod_mul, Nat.mod_mul, h3, h4]

theorem le_eight (k : Nat) (h : k < 4294967296) : le k 8 = le k 4 ++ [0, 0, 0, 0] := by
  have e : le k 8 = le k 4 ++ [((k / 256 ^ 4 % 256 : Nat) : Int)] ++ [((k / 256 ^ 5 % 256 : Nat) : Int)] ++ [((k / 256 ^ 6 % 256 : Nat) : Int)] ++ [((k / 256 ^ 7 % 256 : Nat) : Int)] := rfl
  rw [e, Nat.div_eq_of_lt (show k < 256 ^ 4 by omega), Nat.div_eq_of_lt (show k < 256 ^ 5 by omega), Nat.div_eq_of_lt (show k < 256 ^ 6 by omega), Nat.div_eq_of_lt (show k < 256 ^ 7 by omega)]
  simp

/-- Heads with the same sum are the same. -/
theorem heads_sum (a b : Nat) (ha : a < 4294967296) (hb : b < 4294967296) (h : Crc.crc (headBody a) = Crc.crc (headBody b)) : a = b := by
  refine Classical.byContradiction fun hne => ?_
  have e : ∀ k, k < 4294967296 → headBody k = [72, 0, 0, 0] ++ le k 4 ++ List.replicate 115 0 := fun k hk => by
    unfold headBody
    rw [le_eight k hk]
    simp only [List.append_assoc]
    rfl
  rw [e a ha, e b hb] at h
  exact four_parts [72, 0, 0, 0] (List.replicate 115 0) a b (by intro x hx; simp at hx; omega) (bytes_rep 115) ha hb hne h

theorem head_parts (k : Nat) : headB k = [72, 0, 0, 0] ++ le k 8 ++ (List.replicate 111 0 ++ le (Crc.crc (headBody k)) 4 ++ [165]) := by
  simp [headB, seald, headBody]
theorem head_take (k : Nat) : (headB k).take 12 = [72, 0, 0, 0] ++ le k 8 := by
  rw [head_parts]
  exact List.take_left' (by simp [length_le])
theorem head_drop (k : Nat) : (headB k).drop 12 = List.replicate 111 0 ++ le (Crc.crc (headBody k)) 4 ++ [165] := by
  rw [head_parts]
  exact List.drop_left' (by simp [length_le])

/-- What a torn head can be. -/
theorem torn_head (g t k : Nat) (old : List Int) (hg : g ≤ 2147483648) (hk : k ≤ 2147483648) (ho : old = zero128 ∨ ∃ k0, k0 ≤ 2147483648 ∧ old = headB k0) (h : (headB g).take t ++ old.drop t = headB k) : headB k = headB g ∨ headB k = old := by
  have hol : old.length = 128 := by
    rcases ho with rfl | ⟨k0, _, rfl⟩
    · simp [zero128]
    · exact length_headB k0
  rcases Nat.lt_or_ge t 12 with ht | ht
  · right
    have hd := congrArg (List.drop 12) h
    have hlt : ((headB g).take t).length = t := by rw [List.length_take, length_headB]; omega
    rw [List.drop_append, List.drop_eq_nil_of_le (by omega), List.nil_append, List.drop_drop, hlt, show t + (12 - t) = 12 by omega, head_drop] at hd
    rcases ho with rfl | ⟨k0, hk0, rfl⟩
    · exfalso
      have e : (zero128.drop 12)[115]? = some 0 := by simp [zero128]
      have e2 : (List.replicate 111 (0 : Int) ++ le (Crc.crc (headBody k)) 4 ++ [165])[115]? = some 165 := by
        rw [List.getElem?_append_right (by simp [length_le])]
        simp [length_le]
      rw [hd, e2] at e
      exact absurd e (by decide)
    · rw [head_drop] at hd
      obtain ⟨h1, _⟩ := List.append_inj' hd rfl
      obtain ⟨_, h2⟩ := List.append_inj h1 rfl
      have h3 := le_inj _ _ 4 h2
      have c1 : ∀ z, Crc.crc z < 256 ^ 4 := fun z => by unfold Crc.crc; omega
      rw [Nat.mod_eq_of_lt (c1 _), Nat.mod_eq_of_lt (c1 _)] at h3
      rw [heads_sum k0 k (by omega) (by omega) h3]
  · left
    have hd := congrArg (List.take 12) h
    have hlt : 12 ≤ ((headB g).take t).length := by rw [List.length_take, length_headB]; omega
    rw [List.take_append_of_le_length hlt, List.take_take, show min 12 t = 12 by omega, head_take, head_take] at hd
    have h2 := List.append_cancel_left hd
    have h3 := le_inj _ _ 8 h2
    rw [Nat.mod_eq_of_lt (show g < 256 ^ 8 by omega), Nat.mod_eq_of_lt (show k < 256 ^ 8 by omega)] at h3
    rw [h3]
end Jr
end Go.Proofs.YtkmnhpnlkmiiiaaGreatDoor

/- A crash within Compact's head: the old records, or the new ones. -/
namespace Go.Proofs.YtkmnhpnlkmiiiaaGreatDoor
open Go.RowKit Num Jr
set_option linter.unusedVariables false
set_option maxRecDepth 20000

namespace Jr
theorem JI.moved {n : Nat} {S : Nat → List Int} {gen : Nat} {done : List (List Int)} {groups used : Nat} (h : JI n S gen done groups used) (load : List Int) (f : Nat) (hroom : needN load.length ≤ szOf n) (hg : gen < 2147483648) (t : Nat) (zs : List Int)
    (hz : zs = (headB (gen + 1)).take t ++ (S ((gen + 1) % 2)).drop t) (hne : zs ≠ headB (gen + 1)) (T : Nat → List Int) (hTo : T ((gen + 1) % 2) = zs) (hTi : ∀ i, i ≠ (gen + 1) % 2 → T i = beginS n gen S f load i) : (Jr.opened n T).1 = done := by
  obtain ⟨B, gB⟩ : ∃ B, B = beginS n gen S f load := ⟨_, rfl⟩
  rw [← gB] at hTi
  obtain ⟨W, gW⟩ : ∃ W, W = wipeS S (List.range' (firstOf (gen + 1) n) (szOf n)) := ⟨_, rfl⟩
  have hB : B = writeGo (firstOf (gen + 1) n) (gen + 1) 1 f W 0 load := by rw [gB, beginS, gW]
  have hout : ∀ i, (i < firstOf (gen + 1) n + 0 ∨ firstOf (gen + 1) n + 0 + needN load.length ≤ i) → B i = W i := fun i hi => by rw [hB]; exact writeGo_out _ _ _ _ _ _ _ i hi
  have hf1 := firstOf_ge (gen + 1) n
  have hf0 := firstOf_ge gen n
  have hh : T (gen % 2) = S (gen % 2) := by
    rw [hTi _ (by omega), hout _ (.inl (by omega)), gW]
    unfold wipeS
    rw [if_neg (by rw [List.mem_range'_1]; omega)]
  have hold : ∀ j, j < szOf n → T (firstOf gen n + j) = S (firstOf gen n + j) := fun j hj => by
    have hap : ∀ i, i < szOf n → firstOf (gen + 1) n + i ≠ firstOf gen n + j := fun i hi => area_apart gen n i j hi hj
    have hno : ¬ (firstOf (gen + 1) n ≤ firstOf gen n + j ∧ firstOf gen n + j < firstOf (gen + 1) n + szOf n) := fun hc => hap (firstOf gen n + j - firstOf (gen + 1) n) (by omega) (by omega)
    rw [hTi _ (by omega), hout _ (by omega), gW]
    unfold wipeS
    rw [if_neg (by rw [List.mem_range'_1]; exact hno)]
  have hro : rightH (T ((gen + 1) % 2)) ((gen + 1) % 2) < gen := by
    rw [hTo]
    have hg1 := h.g1
    by_cases h0 : rightH zs ((gen + 1) % 2) = 0
    · omega
    · obtain ⟨k1, k2, k3, k4⟩ := rightH_is (rfl : rightH zs ((gen + 1) % 2) = rightH zs ((gen + 1) % 2)) h0
      have hth := torn_head (gen + 1) t _ (S ((gen + 1) % 2)) (by omega) k2 (by
        rcases h.oth with e | ⟨k, _, hk, _, e⟩
        · exact .inl e
        · exact .inr ⟨k, hk, e⟩) (by rw [← hz]; exact k4)
      rcases hth with e | e
      · exact absurd (k4.trans e) hne
      · have ezs : zs = S ((gen + 1) % 2) := k4.trans e
        rw [ezs]; exact h.other
  have hnew : Jr.newest T = gen := by
    have h1 := h.head
    rw [← hh] at h1
    unfold Jr.newest
    rcases (show gen % 2 = 0 ∨ gen % 2 = 1 by omega) with e | e
    · have e2 : (gen + 1) % 2 = 1 := by omega
      rw [e] at h1
      rw [e2] at hro
      omega
    · have e2 : (gen + 1) % 2 = 0 := by omega
      rw [e] at h1
      rw [e2] at hro
      omega
  have hgr : grps T (firstOf gen n) gen (szOf n) = (done, groups, used) := by
    have hgs : grpsGo S (firstOf gen n) gen (szOf n) (szOf n + 1) 0 0 [] = (done, groups, used) := h.grp
    have huse := h.use
    show grpsGo T (firstOf gen n) gen (szOf n) (szOf n + 1) 0 0 [] = _
    rw [← hgs]
    refine grpsGo_eq S T (firstOf gen n) gen (szOf n) h.len (szOf n + 1) 0 0 [] (Nat.zero_le _) (by omega) (fun i hi => ?_) (fun i hi hi2 => ?_)
    · rw [hgs] at hi
      exact hold i (by simp at hi; omega)
    · rw [hgs] at hi
      rw [hold i hi2, h.zero i (by simpa using hi) hi2]
  have hg1 := h.g1
  unfold Jr.opened
  rw [hnew, if_neg (by omega), hgr]
end Jr
end Go.Proofs.YtkmnhpnlkmiiiaaGreatDoor

/- Lists of bytes that part at a place: EqualFunc tells so. -/
namespace Go.Proofs.YtkmnhpnlkmiiiaaGreatDoor
open Go.RowKit Num Jr
set_option linter.unusedVariables false
set_option maxRecDepth 20000

set_option maxHeartbeats 1000000 in
theorem eqf_diff (a1 a2 : Option Addr) (n c1 c2 : Nat) (L1 L2 : List (List Int)) (w : World) (h1 : Img w a1 L1) (h2 : Img w a2 L2) (hn1 : L1.length = n) (hn2 : L2.length = n) (k1 : n ≤ c1) (k2 : c1 ≤ 9223372036854775807) (k3 : n ≤ c2) (k4 : c2 ≤ 9223372036854775807)
    (hB1 : ∀ l ∈ L1, Bytes l) (hB2 : ∀ l ∈ L2, Bytes l) (j : Nat) (hj : j < n) (hne : L1[j]? ≠ L2[j]?) :
    Calls Tryz.prog 11 #[.slice a1 n c1, .slice a2 n c2, .func (.func 12) #[] #[]] w fun e w' => e = .returned (.bool false) ∧ w' = w := by
  have H1 := hid h1
  have H2 := hid h2
  have HN1 := hid hn1
  have HN2 := hid hn2
  have HB1 := hid hB1
  have HB2 := hid hB2
  have HNE := hid hne
  clear h1 h2 hn1 hn2 hB1 hB2 hne
  go_enter Tryz.func11, Tryz.ntmps11
  go_wp2_with fail
  go_loop [17] (fun k => ∃ i : Nat, k = .int .i64 i ∧ i ≤ j) (fun k => n - (intOf k).toNat)
  case atStart => exact ⟨0, rfl, Nat.zero_le _⟩
  case round =>
    obtain ⟨i, rfl, hi⟩ := hrel
    have hlt : i < n := by omega
    have hil : i < L1.length := by rw [HN1.out]; exact hlt
    have hil2 : i < L2.length := by rw [HN2.out]; exact hlt
    obtain ⟨b1, o1, e1, hb1, hc1⟩ := H1.out (by omega)
    obtain ⟨b2, o2, e2, hb2, hc2⟩ := H2.out (by omega)
    subst e1
    subst e2
    obtain ⟨u, hu, a, cc, eu, hs, _⟩ := hc1 i hil
    obtain ⟨u2, hu2, a', cc2, eu2, hs2, _⟩ := hc2 i hil2
    subst eu
    subst eu2
    have ke := hid (equal_dec a a' L1[i].length cc L2[i].length cc2 L1[i] L2[i] w hs hs2 (HB1.out _ (List.getElem_mem hil)) (HB2.out _ (List.getElem_mem hil2)))
    have hij : L1[i] = L2[i] → i < j := fun e => by
      rcases Nat.lt_or_ge i j with h | h
      · exact h
      · obtain rfl : i = j := by omega
        exact absurd (by rw [List.getElem?_eq_getElem hil, List.getElem?_eq_getElem hil2, e]) HNE.out
    obtain ⟨B, gB⟩ : ∃ B, B = decide (L1[i] = L2[i]) := ⟨_, rfl⟩
    have hij' : B = true → i < j := fun e => hij (of_decide_eq_true (gB ▸ e))
    rw [← gB] at ke
    have HIJ := hid hij'
    obtain ⟨m, gm⟩ : ∃ m, m = L1[i].length := ⟨_, rfl⟩
    obtain ⟨m2, gm2⟩ : ∃ m2, m2 = L2[i].length := ⟨_, rfl⟩
    rw [← gm, ← gm2] at ke
    rw [← gm] at hu
    rw [← gm2] at hu2
    clear hc1 hc2 hs hs2 gm gm2 gB hij hij'
    go_wp2_with fail
    refine ke.out.mono ?_
    rintro r w2 ⟨rfl, h⟩
    subst w2
    cases B with
    | true =>
      have hlj := HIJ.out rfl
      go_wp2_with fail
      go_round
      case rel => exact ⟨i + 1, by go_num, by omega⟩
      case measure => simp [intOf]; omega
    | false =>
      go_wp2_with fail
      go_ret
      exact ⟨rfl, rfl⟩

theorem same_no (a1 a2 : Option Addr) (n c1 c2 : Nat) (L1 L2 : List (List Int)) (w : World) (h1 : Img w a1 L1) (h2 : Img w a2 L2) (hn1 : L1.length = n) (hn2 : L2.length = n) (k1 : n ≤ c1) (k2 : c1 ≤ 9223372036854775807) (k3 : n ≤ c2) (k4 : c2 ≤ 9223372036854775807)
    (hB1 : ∀ l ∈ L1, Bytes l) (hB2 : ∀ l ∈ L2, Bytes l) (j : Nat) (hj : j < n) (hne : L1[j]? ≠ L2[j]?) :
    Calls Tryz.prog 23 #[.slice a1 n c1, .slice a2 n c2] w fun e w' => e = .returned (.bool false) ∧ w' = w := by
  have k := hid (eqf_diff a1 a2 n c1 c2 L1 L2 w h1 h2 hn1 hn2 k1 k2 k3 k4 hB1 hB2 j hj hne)
  clear h1 h2 hn1 hn2 hB1 hB2 hne
  go_enter Tryz.func23, Tryz.ntmps23
  go_wp2_with fail
  refine k.out.mono ?_
  rintro r w2 ⟨rfl, h⟩
  subst w2
  go_wp2_with fail
  go_ret
  exact ⟨rfl, rfl⟩
end Go.Proofs.YtkmnhpnlkmiiiaaGreatDoor

/- dredgerplain.Image: the sector at a place is a row of its own, the others lie outside it. -/
namespace Go.Proofs.YtkmnhpnlkmiiiaaGreatDoor
open Go.RowKit
set_option linter.unusedVariables false
set_option maxRecDepth 20000

/-- Entries of a row that is made, the one at a place in a block of its own. -/
def EntO (w0 w : World) (v : Value) (i : Nat) (f : Nat → List Int) (o : Nat) : Prop := ∃ vs, w.ownsRow 0 29 1 v i vs ∧ (∀ j, j < i → ∃ u, vs[j]? = some u ∧ Byt w (vb v) u (f j)) ∧
  (o < i → ∃ g c, vs[o]? = some (.slice (some ⟨g, 0, none⟩) 128 c) ∧ w.ownsRow w0.heap.size 5 1 (.slice (some ⟨g, 0, none⟩) 128 c) 128 ((f o).map (Value.int .u8)) ∧ g ∉ vb v ∧ ∀ j, j < i → j ≠ o → ∃ u, vs[j]? = some u ∧ Byt w (g :: vb v) u (f j))

theorem entO_push {w0 wr w2 w3 : World} {vo v' : Value} {i o gb cb : Nat} {f : Nat → List Int} {us : List Value} (hsz : w0.heap.size ≤ wr.heap.size) (huo : wr.ownsRow 0 29 1 vo i us) (hue : ∀ j, j < i → ∃ u, us[j]? = some u ∧ Byt wr (vb vo) u (f j))
    (hat : o < i → ∃ g c, us[o]? = some (.slice (some ⟨g, 0, none⟩) 128 c) ∧ wr.ownsRow w0.heap.size 5 1 (.slice (some ⟨g, 0, none⟩) 128 c) 128 ((f o).map (Value.int .u8)) ∧ g ∉ vb vo ∧ ∀ j, j < i → j ≠ o → ∃ u, us[j]? = some u ∧ Byt wr (g :: vb vo) u (f j))
    (hB2 : Below wr.heap.size wr w2) (hO : w2.ownsRow wr.heap.size 5 1 (.slice (some ⟨gb, 0, none⟩) 128 cb) 128 ((f i).map (Value.int .u8))) {ob : Obj} (hO3 : w3.ownsRow 0 29 1 v' (i + 1) (us ++ [.slice (some ⟨gb, 0, none⟩) 128 cb])) (hU3 : Upd (fun x => vo.ownBlock = some x) (w2.alloc ob) w3)
    (hW3 : v'.ownBlock = vo.ownBlock ∨ ∀ x, v'.ownBlock = some x → (w2.alloc ob).heap.size ≤ x) : EntO w0 w3 v' (i + 1) f o := by
  have hsz2 := hB2.size
  have hgb := hO.lt gb rfl
  have hul : us.length = i := by have := huo.1; omega
  have hba : Below w2.heap.size w2 (w2.alloc ob) := (Below.refl _ _).alloc (Nat.le_refl _) _
  have hbr : Below wr.heap.size wr (w2.alloc ob) := hB2.trans (hba.mono hsz2)
  have hsa : (w2.alloc ob).heap.size = w2.heap.size + 1 := by simp
  have hv' : ∀ x ∈ vb v', x ∈ vb vo ∨ (w2.alloc ob).heap.size ≤ x := fun x hx => by
    have hx' : v'.ownBlock = some x := by simpa [vb] using hx
    rcases hW3 with h' | h'
    · exact .inl (by simp [vb, ← h', hx'])
    · exact .inr (h' x hx')
  have hvo : ∀ x ∈ vb vo, x < wr.heap.size := fun x hx => own_lt huo hx
  have step : ∀ (G : List Nat) (u : Value) (bs : List Int), Byt wr (G ++ vb vo) u bs → Byt w3 (G ++ vb v') u bs := fun G u bs hb => by
    refine (hb.upd (Upd.of_below hbr) (grew_refl _ _)).upd (hU3.mono (fun x _ hx => List.mem_append.2 (.inr (by have hx' : vo.ownBlock = some x := hx; simp [vb, hx'])))) (fun x hx => ?_)
    rcases List.mem_append.1 hx with h | h
    · exact .inl (List.mem_append.2 (.inl h))
    · rcases hv' x h with h | h
      · exact .inl (List.mem_append.2 (.inr h))
      · exact .inr h
  have hown3 : ∀ (g : Nat) (c B : Nat) (xs : List Value), wr.ownsRow B 5 1 (.slice (some ⟨g, 0, none⟩) 128 c) 128 xs → g ∉ vb vo → w3.ownsRow B 5 1 (.slice (some ⟨g, 0, none⟩) 128 c) 128 xs := fun g c B xs ho hg =>
    hU3.own (own_below ho hbr) (fun k hk e => by
      have e' : g = k := by simpa [Value.ownBlock] using hk
      have e2 : vo.ownBlock = some k := e
      exact hg (by rw [e']; simp [vb, e2]))
  have hgbo : gb ∉ vb vo := fun h => by have := hvo gb h; omega
  have hgb3 : w3.ownsRow wr.heap.size 5 1 (.slice (some ⟨gb, 0, none⟩) 128 cb) 128 ((f i).map (Value.int .u8)) :=
    hU3.own (own_below hO hba) (fun k hk e => by
      have e' : gb = k := by simpa [Value.ownBlock] using hk
      have e2 : vo.ownBlock = some k := e
      exact hgbo (by rw [e']; simp [vb, e2]))
  have hgbv : gb ∉ vb v' := fun h => by
    rcases hv' gb h with h | h
    · exact hgbo h
    · omega
  have hnew : (us ++ [Value.slice (some ⟨gb, 0, none⟩) 128 cb])[i]? = some (.slice (some ⟨gb, 0, none⟩) 128 cb) := by rw [← hul]; simp
  have hbyt : ∀ G : List Nat, gb ∉ G → Byt w3 (G ++ vb v') (.slice (some ⟨gb, 0, none⟩) 128 cb) (f i) := fun G hG => ⟨⟨gb, 0, none⟩, cb, rfl, Src.own hgb3, fun hx => by
    rcases List.mem_append.1 hx with h | h
    · exact hG h
    · exact hgbv h, own_cap hgb3⟩
  refine ⟨_, hO3, fun j hj => ?_, fun ho => ?_⟩
  · rcases (show j < i ∨ j = i by omega) with hj' | rfl
    · obtain ⟨u, h1, h2⟩ := hue j hj'
      exact ⟨u, by rw [List.getElem?_append_left (List.getElem?_eq_some_iff.1 h1).1]; exact h1, step [] u _ h2⟩
    · exact ⟨_, hnew, hbyt [] (by simp)⟩
  · rcases (show o < i ∨ o = i by omega) with ho' | rfl
    · obtain ⟨g, c, h1, h2, h3, h4⟩ := hat ho'
      have hgl := h2.lt g rfl
      refine ⟨g, c, by rw [List.getElem?_append_left (List.getElem?_eq_some_iff.1 h1).1]; exact h1, hown3 g c _ _ h2 h3, fun h => ?_, fun j hj hne => ?_⟩
      · rcases hv' g h with h | h
        · exact h3 h
        · omega
      · rcases (show j < i ∨ j = i by omega) with hj' | rfl
        · obtain ⟨u, q1, q2⟩ := h4 j hj' hne
          exact ⟨u, by rw [List.getElem?_append_left (List.getElem?_eq_some_iff.1 q1).1]; exact q1, step [g] u _ q2⟩
        · exact ⟨_, hnew, hbyt [g] (by simp; omega)⟩
    · refine ⟨gb, cb, hnew, own_base hgb3 hsz, hgbv, fun j hj hne => ?_⟩
      obtain ⟨u, h1, h2⟩ := hue j (by omega)
      refine ⟨u, by rw [List.getElem?_append_left (List.getElem?_eq_some_iff.1 h1).1]; exact h1, step [gb] u _ ?_⟩
      obtain ⟨a, c, e, hs, hm, hc⟩ := h2
      refine ⟨a, c, e, hs, fun hx => ?_, hc⟩
      rcases List.mem_append.1 hx with h | h
      · have hl := src_lt hs (by omega)
        have : a.block = gb := by simpa using h
        omega
      · exact hm h

set_option maxHeartbeats 1000000 in
theorem pimage_at (v : Value) (n : Nat) (f : Nat → List Int) (M0 : List Nat) (o : Nat) (w : World) (hp : Pic w M0 v n f) (hn : n ≤ 2048) :
    Calls Tryz.prog 22 #[v] w fun e w' => ∃ v', e = .returned v' ∧ EntO w w' v' n f o ∧ (∀ x, v'.ownBlock = some x → w.heap.size ≤ x) ∧ Below w.heap.size w w' := by
  obtain ⟨i0, hi0, hz0, hz1, hz2⟩ := info_parts Tryz.infoTB
  obtain ⟨vs, hrow, hent⟩ := hp
  obtain ⟨ae, c, rfl, hc1, hc2⟩ := own_shape hrow
  have HROW := hid hrow
  have HENT := hid hent
  clear hrow hent
  go_enter Tryz.func22, Tryz.ntmps22
  go_wp2_with fail
  go_loopw [3, 8] (fun vo k wr => ∃ i : Nat, k = .int .i64 i ∧ i ≤ n ∧ Hid (EntO w wr vo i f o) ∧ Hid (∀ x, vo.ownBlock = some x → w.heap.size ≤ x) ∧ Below w.heap.size w wr) (fun _ k _ => n - (intOf k).toNat)
  case atStart => exact ⟨0, rfl, Nat.zero_le _, ⟨[], World.ownsRow_nil _ _ _ _, fun j hj => absurd hj (Nat.not_lt_zero j), fun h => absurd h (Nat.not_lt_zero o)⟩, (fun x hx => by simp [Value.ownBlock] at hx), Below.refl _ _⟩
  case round =>
    obtain ⟨i, rfl, hi, HE, HV, hbr⟩ := hrel
    obtain ⟨vo, hvo⟩ : ∃ vo, vo = u3 := ⟨_, rfl⟩
    rw [← hvo] at HE HV ⊢
    clear hvo
    by_cases hlt : i < n
    · obtain ⟨u, hu, a, cc, rfl, hs, hm⟩ := HENT.out i hlt
      obtain ⟨g, rfl⟩ : ∃ g, ae = some ⟨g, 0, none⟩ := by
        rcases HROW.out.2 with ⟨_, h⟩ | ⟨g, c, cur, h, _⟩
        · omega
        · injection h with h1 h2 h3; exact ⟨g, h1⟩
      have hc : wr.cell? ⟨g, i, none⟩ = some (.slice (some a) 128 cc) := by
        rw [(own_below HROW.out hbr).cellAt _ (by omega)]
        exact hu
      have kc := hid (clone_any a 128 cc (f i) wr (hs.below hbr) (by omega))
      clear hu hs
      go_wp2_with fail
      refine kc.out.mono ?_
      rintro r w2 ⟨gb, cb, rfl, hown, hb2⟩
      have HO := hid hown
      have HB2 := hid hb2
      clear hown hb2 hc
      obtain ⟨us, huo, hue, hat⟩ := HE.out
      have HUO0 := hid huo
      have HAT := hid hat
      have huo2 := own_below huo HB2.out
      have HUO := hid huo2
      have HUE := hid hue
      clear huo huo2 hue hat
      have hsz := hbr.size
      have hsz2 := HB2.out.size
      have hgb := HO.out.lt gb rfl
      go_wp2_with (at_builtin; go_must (refine wpList_append_where rfl _ _ 22 rfl 29 i0 _ 1 24 Tryz.underlying22 hi0 hz0 hz1 hz2 rfl (by decide) vo i us rfl (HUO.out.alloc _) ⟨_, 0, none⟩ 1 1 [.slice (some ⟨gb, 0, none⟩) 128 cb] rfl rfl (by intro j u hj; rw [Addr.add_lit]; refine heap_cells (heap_alloc_new _ _) _ u ?_; simpa using hj) (by simp [Value.oneCell']) (by unfold maxLen; omega) (by omega) ?_))
      intro v' w3 hO3 hU3 hN3 hW3
      have hbw3 : Below w.heap.size w w3 := by
        refine (hbr.trans (HB2.out.mono hsz)).trans ((((Below.refl w2.heap.size w2).alloc (Nat.le_refl _) _).mono (by omega)).trans (hU3.below (by simp; omega) (fun x hx => HV.out x hx)))
      have hent' : EntO w w3 v' (i + 1) f o := entO_push hsz HUO0.out HUE.out HAT.out HB2.out HO.out hO3.out hU3 (by simpa using hW3.out)
      have hv' : ∀ x, v'.ownBlock = some x → w.heap.size ≤ x := by
        intro x hx
        rcases hW3.out with h' | h'
        · exact HV.out x (h' ▸ hx)
        · have := h' x hx; omega
      have HE3 := hid hent'
      have HV3 := hid hv'
      clear hent' hv' hU3
      go_wp2_with fail
      go_roundw
      case rel => exact ⟨i + 1, by go_num, by omega, HE3.out, HV3.out, hbw3⟩
      case measure => simp [intOf]; omega
    · obtain rfl : i = n := by omega
      go_wp2_with fail
      go_ret
      exact ⟨vo, rfl, HE.out, HV.out, hbr⟩

end Go.Proofs.YtkmnhpnlkmiiiaaGreatDoor

/- JournalMoves: behind a crash within Compact's head the records are the old ones, or the new ones. -/
namespace Go.Proofs.YtkmnhpnlkmiiiaaGreatDoor
open Go.RowKit Num Jr
set_option linter.unusedVariables false
set_option maxRecDepth 20000

theorem jwait (jp p gen first size groups used cnt : Nat) (wv : Value) (w : World) (h : Jc w jp p gen first size groups used wv cnt) : Calls Tryz.prog 24 #[.pointer (some ⟨jp, 0, none⟩)] w fun e w' => e = .returned (.int .i64 cnt) ∧ w' = w := by
  have k := hid (jusable jp p gen first size groups used cnt wv w h)
  have c7 : w.cell? ⟨jp, 7, none⟩ = some (.int .i64 cnt) := heap_cells h 7 _ rfl
  clear h
  go_enter Tryz.func24, Tryz.ntmps24
  go_wp2_with (first | (go_at_call 33; refine k.out.mono ?_; rintro r w1 ⟨rfl, h⟩; subst w1))
  go_ret
  exact ⟨rfl, rfl⟩

/-- The sector at the place, torn over by other bytes. -/
theorem entO_torn {w w1 : World} {v : Value} {n o g c : Nat} {f : Nat → List Int} {zs : List Int} {vs : List Value} (hr : w.ownsRow 0 29 1 v n vs) (hvl : vs[o]? = some (.slice (some ⟨g, 0, none⟩) 128 c)) (hgv : g ∉ vb v) (h7 : ∀ j, j < n → j ≠ o → ∃ u, vs[j]? = some u ∧ Byt w (g :: vb v) u (f j))
    (hU : Upd (· = g) w w1) (ho : w1.ownsRow 0 5 1 (.slice (some ⟨g, 0, none⟩) 128 c) 128 (zs.map (Value.int .u8))) : Pic w1 [] v n (fun j => if j = o then zs else f j) := by
  have hcap := own_cap ho
  refine ⟨vs, hU.own hr (fun k hk e => hgv (by have e' : k = g := e; simp [vb, hk, e'])), fun j hjn => ?_⟩
  by_cases e : j = o
  · subst e
    refine ⟨_, hvl, ?_⟩
    simp only [if_true]
    exact ⟨⟨g, 0, none⟩, c, rfl, Src.own ho, by simp, hcap.1, hcap.2⟩
  · obtain ⟨u, h1, h2⟩ := h7 j hjn e
    refine ⟨u, h1, ?_⟩
    simp only [if_neg e]
    exact (h2.upd (hU.mono (fun x _ hx => by have e : x = g := hx; simp [e])) (grew_refl _ _)).weaken (fun x hx => by simp at hx)

theorem torn_mod (torn : Int) : ∃ tn : Nat, tn ≤ 128 ∧ wrap64 ((IntKind.u64.wrap torn).tmod 129) = (tn : Int) := by
  have h0 : 0 ≤ IntKind.u64.wrap torn := by
    unfold IntKind.wrap
    simp [IntKind.signed, IntKind.bits]
    omega
  obtain ⟨x, hx⟩ : ∃ x : Nat, IntKind.u64.wrap torn = (x : Int) := ⟨(IntKind.u64.wrap torn).toNat, by omega⟩
  rw [hx]
  have e : (x : Int).tmod 129 = ((x % 129 : Nat) : Int) := rfl
  rw [e]
  have hy : x % 129 < 129 := by omega
  generalize x % 129 = y at hy
  exact ⟨y, by omega, by unfold wrap64; omega⟩

set_option maxHeartbeats 8000000 in
theorem moves_road (al : Option Addr) (n cl : Nat) (L : List (List Int)) (la : Option Addr) (m lc : Nat) (ra : Option Addr) (rn rc : Nat) (R : List (List Int)) (torn : Int) (w : World) (hi : Img w al L) (hn : L.length = n) (hc : n ≤ cl) (hc2 : cl ≤ 9223372036854775807) (hsz : n * 24 ≤ 140737488351232) (hB : ∀ l ∈ L, Bytes l) (hT : Tab w) (hD : Dos3 w la m) (hm : m ≤ lc) (hm2 : lc ≤ 9223372036854775807)
    (hR : Img w ra R) (hRn : R.length = rn) (hrc : rn ≤ rc) (hrc2 : rc ≤ 9223372036854775807) (hRB : ∀ l ∈ R, Bytes l) :
    Calls Tryz.prog 5 #[.slice al n cl, .slice la m lc, .slice ra rn rc, .int .i64 torn] w fun e w' => e = .returned (.bool true) ∧ Below w.heap.size w w' := by
  obtain ⟨i0, hi0, hz0, hz1, hz2⟩ := info_parts Tryz.infoTB
  have hTl : 1 < w.heap.size := World.block_lt_of_cell? _ _ (hT 0 (by omega))
  have kF := hid (filled_any al n cl L la m lc w hi hn hc hc2 hsz hB hT hD hm hm2)
  have HN := hid hn
  have HT := hid hT
  have HR := hid hR
  have HRN := hid hRn
  have HRB := hid hRB
  clear hi hn hB hT hD hR hRn hRB
  go_enter Tryz.func5, Tryz.ntmps5
  go_wp2_with fail
  refine kF.out.mono ?_
  rintro r w1 h1
  rcases h1 with ⟨hng, rfl, hb1⟩ | ⟨hg, h4, p, jp, vd, vw, rfl, hfl⟩
  · have HB1 := hid hb1
    clear hb1 hng kF
    go_wp2_with fail
    go_ret
    exact ⟨rfl, HB1.out⟩
  · rw [HN.out] at hfl h4
    obtain ⟨d, S, gen, groups, used, done, waits, wv, hjs, htw⟩ := hfl
    have hn2 : n ≤ 2048 := by rw [← hjs.jd.dn]; exact hjs.jd.ok.n2
    have hTf : 1 ∉ Jf d p jp wv := fun hx => by have := htw.m _ hx; omega
    have HJ1 := hid hjs
    have HT1 := hid htw
    have HF := hid hTf
    obtain ⟨o, go⟩ : ∃ o, o = (gen + 1) % 2 := ⟨_, rfl⟩
    have ho2 : o < 2 := by omega
    have GO := hid go
    clear hjs htw hTf kF hg go
    go_wp2_with fail
    go_loopw [14, 42] (fun vh k wr => ∃ i : Nat, k = .int .i64 i ∧ i ≤ 2 ∧ Hid (EntO w1 wr vh i S o) ∧ Hid (∀ x, vh.ownBlock = some x → w1.heap.size ≤ x) ∧ Below w1.heap.size w1 wr) (fun _ k _ => 2 - (intOf k).toNat)
    case atStart => exact ⟨0, rfl, Nat.zero_le _, hid ⟨[], own_base (World.ownsRow_made w1 #[] 0 (Nat.le_refl _) (by unfold maxLen; omega) rfl) (Nat.zero_le _), fun j hj => absurd hj (Nat.not_lt_zero j), fun h => absurd h (Nat.not_lt_zero o)⟩, hid (fun x hx => by simp [Value.ownBlock] at hx; omega), (Below.refl _ _).alloc (Nat.le_refl _) _⟩
    case round =>
      obtain ⟨i, rfl, hi, HE, HV, hbr⟩ := hrel
      obtain ⟨vo, hvo⟩ : ∃ vo, vo = u14 := ⟨_, rfl⟩
      rw [← hvo] at HE HV ⊢
      clear hvo
      by_cases hlt : i < 2
      · have hltv : (i : Int) < 2 := by omega
        have kc := hid (dread d p i wr (HJ1.out.jd.below hbr).ok (by rw [HJ1.out.jd.dn]; omega))
        rw [HJ1.out.jd.wr i (by omega)] at kc
        go_wp2_with fail
        refine kc.out.mono ?_
        rintro r w2 ⟨gb, cb, rfl, hown, hb2⟩
        have HO := hid hown
        have HB2 := hid hb2
        clear hown hb2 kc
        obtain ⟨us, huo, hue, hat⟩ := HE.out
        have HUO0 := hid huo
        have HAT := hid hat
        have huo2 := own_below huo HB2.out
        have HUO := hid huo2
        have HUE := hid hue
        clear huo huo2 hue hat
        have hsz := hbr.size
        have hsz2 := HB2.out.size
        have hgb := HO.out.lt gb rfl
        go_wp2_with (at_builtin; go_must (refine wpList_append_where rfl _ _ 22 rfl 29 i0 _ 1 24 Tryz.underlying22 hi0 hz0 hz1 hz2 rfl (by decide) vo i us rfl (HUO.out.alloc _) ⟨_, 0, none⟩ 1 1 [.slice (some ⟨gb, 0, none⟩) 128 cb] rfl rfl (by intro j u hj; rw [Addr.add_lit]; refine heap_cells (heap_alloc_new _ _) _ u ?_; simpa using hj) (by simp [Value.oneCell']) (by unfold maxLen; omega) (by omega) ?_))
        intro v' w3 hO3 hU3 hN3 hW3
        have hbw3 : Below w1.heap.size w1 w3 := by
          refine (hbr.trans (HB2.out.mono hsz)).trans ((((Below.refl w2.heap.size w2).alloc (Nat.le_refl _) _).mono (by omega)).trans (hU3.below (by simp; omega) (fun x hx => HV.out x hx)))
        have hent' : EntO w1 w3 v' (i + 1) S o := entO_push hsz HUO0.out HUE.out HAT.out HB2.out HO.out hO3.out hU3 (by simpa using hW3.out)
        have hv' : ∀ x, v'.ownBlock = some x → w1.heap.size ≤ x := by
          intro x hx
          rcases hW3.out with h' | h'
          · exact HV.out x (h' ▸ hx)
          · have := h' x hx; omega
        have HE3 := hid hent'
        have HV3 := hid hv'
        clear hent' hv' hU3
        go_wp2_with fail
        go_roundw
        case rel => exact ⟨i + 1, by go_num, by omega, HE3, HV3, hbw3⟩
        case measure => simp [intOf]; omega
      · have hltv : ¬ (i : Int) < 2 := by omega
        have hoi : (o : Int) < (i : Int) := by omega
        obtain ⟨vs, hvr, _, hvo⟩ := HE.out
        obtain ⟨gh, ch, hvs, hgr, hgv, _⟩ := hvo (by omega)
        obtain ⟨ah, cvh, gvh, hch1, hch2⟩ := own_shape hvr
        obtain ⟨kh, rfl⟩ : ∃ kh, ah = some ⟨kh, 0, none⟩ := by
          rcases hvr.2 with ⟨_, h⟩ | ⟨g, c, cur, h, _⟩
          · omega
          · rw [gvh] at h; injection h with h1 h2 h3; exact ⟨g, h1⟩
        have hkh : w1.heap.size ≤ kh := HV.out kh (by rw [gvh]; rfl)
        have hgh : w1.heap.size ≤ gh := (hgr.lt gh rfl).1
        have HJ3 := hid (HJ1.out.below hbr)
        have HT3 := hid (HT1.out.below hbr)
        have hT3 : Tab wr := HT.out.below HT3.out.b hTl
        have hsw : w.heap.size ≤ w1.heap.size := HT1.out.s
        have kM := hid (compact_any d jp p n gen groups used S done waits wv ra rn rc R wr HJ3.out hT3 HF.out (HR.out.below HT3.out.b) HRN.out hrc hrc2 HRB.out h4)
        have HVR := hid hvr
        have HVS := hid hvs
        have HGR := hid hgr
        clear hvr hvs hgr hgv hvo hT3 HE HV
        subst gvh
        go_wp2_with fail
        refine kM.out.mono ?_
        rintro r w4 ⟨code, rfl, hu4, hcode⟩
        have hlt4 : ∀ x, x ∈ Jf d p jp wv → x < w1.heap.size := HJ1.out.lt
        have HVR4 := hid (hu4.own HVR.out (fun x hx e => by have e' : kh = x := (by simpa [Value.ownBlock] using hx); have := hlt4 x e; omega))
        have HGR4 := hid (hu4.own HGR.out (fun x hx e => by have e' : gh = x := (by simpa [Value.ownBlock] using hx); have := hlt4 x e; omega))
        clear kM HVR HGR
        obtain ⟨us2, ho6, _, _⟩ := HT3.out.rq
        obtain ⟨aw, cw, gvw, hcw1, hcw2⟩ := own_shape ho6
        obtain ⟨lw, glw⟩ : ∃ lw, lw = waits.length := ⟨_, rfl⟩
        rw [← glw] at gvw
        have GLW := hid glw
        have GVW := hid gvw
        rw [gvw]
        clear ho6 gvw glw hcw1 hcw2
        rcases hcode with ⟨h0, hw0, hRok, hgen, hroom, d4, groups4, used4, hj4, hg4⟩ | ⟨h0, hj4, h3⟩
        · subst h0
          have hlw : lw = 0 := by rw [GLW.out, hw0]; rfl
          subst hlw
          have HT4 := hid (HT3.out.move hu4 hg4 hj4.lt)
          obtain ⟨G, gG⟩ : ∃ G, G = gen + 1 := ⟨_, rfl⟩
          obtain ⟨W, gW⟩ : ∃ W, W = upS (beginS n gen S (needN (loadOf R).length) (loadOf R)) ((gen + 1) % 2) (headB (gen + 1)) := ⟨_, rfl⟩
          rw [← gW, ← gG] at hj4
          have kI := hid (image_any d4 p w4 hj4.jd.ok [] (fun x hx => by simp at hx))
          rw [hj4.jd.dn] at kI
          have HJ4 := hid hj4
          have HRok := hid hRok
          have HGEN := hid hgen
          have HROOM := hid hroom
          have GW := hid gW
          have GG := hid gG
          have hrem : Int.tmod (G : Int) 2 = (o : Int) := by
            have e : (G : Int).tmod 2 = ((G % 2 : Nat) : Int) := rfl
            rw [e, GO.out, gG]
          have ho0 : ¬ (o : Int) < 0 := by omega
          have h4v : ¬ (n : Int) < 4 := by omega
          clear hj4 hu4 hg4 hw0 hRok hgen hroom gW gG
          go_wp2_with fail
          refine kI.out.mono ?_
          rintro r w5 ⟨g5, rfl, hp5, hg5, hb5⟩
          have HP5 := hid (hp5.eq (HJ4.out.jd.durS HJ4.out.rest))
          have HJ5 := hid (HJ4.out.below hb5)
          have HT5 := hid (HT4.out.below hb5)
          have HVR5 := hid (own_below HVR4.out hb5)
          have HGR5 := hid (own_below HGR4.out hb5)
          have kG := hid (jgen jp p G _ _ _ _ _ _ w5 HJ5.out.jc)
          clear hp5 hb5 kI HVR4 HGR4
          go_wp2_with fail
          refine kG.out.mono ?_
          rintro r wx ⟨rfl, h⟩
          subst wx
          go_wp2_with fail
          obtain ⟨tn, htn, etn⟩ := torn_mod torn
          rw [etn]
          obtain ⟨W6, gW6⟩ : ∃ W6, W6 = w5.alloc (.cells #[.int .i64 0, .int .i64 tn, .int .i64 128] 3) := ⟨_, rfl⟩
          have hb6 : Below w5.heap.size w5 W6 := by rw [gW6]; exact (Below.refl _ _).alloc (Nat.le_refl _) _
          have x0 : ∀ i, i < 3 → ∃ t : Nat, t ≤ 128 ∧ W6.cell? ⟨w5.heap.size, i, none⟩ = some (.int .i64 t) := fun i hi => by
            rw [gW6]
            rcases (show i = 0 ∨ i = 1 ∨ i = 2 by omega) with rfl | rfl | rfl
            · exact ⟨0, by omega, by simp [go_sem]⟩
            · exact ⟨tn, htn, by simp [go_sem]⟩
            · exact ⟨128, by omega, by simp [go_sem]⟩
          have hs6 : W6.heap.size = w5.heap.size + 1 := by rw [gW6]; simp
          rw [← gW6]
          have HX0 := hid x0
          have HB6 := hid hb6
          have HS6 := hid hs6
          have hgo : o = G % 2 := by rw [GO.out, GG.out]
          have HGO := hid hgo
          have hWo : W o = headB G := by rw [GW.out, GO.out, GG.out]; simp [upS]
          have HWO := hid hWo
          clear gW6 x0 hb6 hs6 etn htn kG hgo hWo
          go_loopw [103] (fun kk wr => ∃ i : Nat, i ≤ 3 ∧ kk = .int .i64 i ∧ Hid (Below w5.heap.size w5 wr) ∧ Hid (Below W6.heap.size W6 wr)) (fun kk _ => 3 - (intOf kk).toNat)
          case atStart => exact ⟨0, by omega, rfl, HB6, hid (Below.refl _ _)⟩
          case round =>
            obtain ⟨i, hi3, rfl, HBR, HB6r⟩ := hrel
            by_cases hlt : i < 3
            · have hltv : (i : Int) < 3 := by omega
              obtain ⟨t, ht, x1⟩ := HX0.out i hlt
              have x1r := (HB6r.out.cell (p := ⟨w5.heap.size, i, none⟩) (by have := HS6.out; show w5.heap.size < _; omega)).trans x1
              have kP := hid (pimage_at (.slice (some ⟨g5, 0, none⟩) n n) n W [] o wr ((HP5.out.weaken (M' := []) (fun x hx => by simp at hx)).upd (Upd.of_below HBR.out) (grew_refl _ _) (fun k hk hx => by simp at hx)) hn2)
              obtain ⟨T, gT⟩ : ∃ T, T = fun j => if j = o then (headB G).take t ++ (S o).drop t else W j := ⟨_, rfl⟩
              have hTo : T o = (headB G).take t ++ (S o).drop t := by rw [gT]; simp
              have hTi : ∀ j, j ≠ o → T j = W j := fun j hj => by rw [gT]; simp [hj]
              have HTW : Hid ((headB G).take t ++ (S o).drop t = headB G → ∀ j, T j = W j) := hid (fun hz j => by
                by_cases e : j = o
                · rw [e, hTo, hz, HWO.out]
                · exact hTi j e)
              have HTB : Hid (∀ j, Bytes (T j)) := hid (fun j => by
                by_cases e : j = o
                · rw [e, hTo]
                  intro z hz
                  rcases List.mem_append.1 hz with h | h
                  · have hb := HJ5.out.jd.byt o
                    rw [HWO.out] at hb
                    exact hb z (List.mem_of_mem_take h)
                  · exact HJ1.out.jd.byt o z (List.mem_of_mem_drop h)
                · rw [hTi j e]; exact HJ5.out.jd.byt j)
              have HTL : Hid (∀ j, (T j).length = 128) := hid (fun j => by
                by_cases e : j = o
                · rw [e, hTo, List.length_append, List.length_take, List.length_drop, length_headB, HJ1.out.jd.all]; omega
                · rw [hTi j e]; exact HJ5.out.jd.all j)
              have HGI : Hid (Gi ((List.range n).map T)) := hid ⟨by simp; omega, by simp; omega, fun l hl => by
                obtain ⟨j, _, rfl⟩ := List.mem_map.1 hl
                exact HTL.out j⟩
              have HNE : Hid (¬ (headB G).take t ++ (S o).drop t = headB G → ((List.range n).map T)[o]? ≠ ((List.range n).map W)[o]?) := hid (fun hz => by
                rw [List.getElem?_map, List.getElem?_map, List.getElem?_range (by omega)]
                simp only [Option.map_some, ne_eq, Option.some.injEq]
                rw [hTo, HWO.out]; exact hz)
              have HOLD : Hid (¬ (headB G).take t ++ (S o).drop t = headB G → (opened n T).1 = done) := hid (fun hz => by
                have hGO : (gen + 1) % 2 = o := GO.out.symm
                refine HJ1.out.ji.moved (loadOf R) (needN (loadOf R).length) HROOM.out HGEN.out t ((headB G).take t ++ (S o).drop t) (by rw [hGO, GG.out]) (by rw [← GG.out]; exact hz) T (by rw [hGO]; exact hTo) (fun j hj => ?_)
                rw [hGO] at hj
                rw [hTi j hj, GW.out]
                unfold upS
                rw [if_neg (by rw [hGO]; exact hj)])
              have HGT := hid gT
              clear gT hTo hTi x1
              go_wp2_with fail
              refine kP.out.mono ?_
              rintro r w7 ⟨vx, rfl, hEx, hvx, hb7⟩
              obtain ⟨vs7, hr7, hj7, hat7⟩ := hEx
              obtain ⟨g, c, hvs7, hog, hgv, h7⟩ := hat7 (by omega)
              obtain ⟨ax, co, gvx, hco1, hco2⟩ := own_shape hr7
              obtain ⟨k, rfl⟩ : ∃ k, ax = some ⟨k, 0, none⟩ := by
                rcases hr7.2 with ⟨_, h⟩ | ⟨g, c, cur, h, _⟩
                · omega
                · rw [gvx] at h; injection h with h1 h2 h3; exact ⟨g, h1⟩
              subst gvx
              have hkv : vb (.slice (some ⟨k, 0, none⟩) n co) = [k] := by simp [vb, Value.ownBlock]
              have hkg : k ≠ g := fun e => hgv (by rw [hkv, e]; simp)
              have hg0 : wr.heap.size ≤ g := (hog.lt g rfl).1
              have e3 : w7.cell? ⟨k, o, none⟩ = some (.slice (some ⟨g, 0, none⟩) 128 c) := by rw [hr7.cellAt o (by omega)]; exact hvs7
              have hb57 : Below w5.heap.size w5 w7 := HBR.out.trans (hb7.mono HBR.out.size)
              have hvr7 := own_below HVR5.out hb57
              have hgr7 := own_below HGR5.out hb57
              have hkhl : kh < w5.heap.size := (HVR5.out.lt kh rfl).2
              have hsr := HBR.out.size
              have hkhg : kh ≠ g := by omega
              have e1 : w7.cell? ⟨kh, o, none⟩ = some (.slice (some ⟨gh, 0, none⟩) 128 ch) := by rw [hvr7.cellAt o (by omega)]; exact HVS.out
              have hs1 : Src w7 (some ⟨gh, 0, none⟩) 128 (S o) := Src.own hgr7
              have hchc := own_cap hgr7
              have hgc := own_cap hog
              rcases Nat.lt_or_ge t 128 with ht1 | ht1
              · have hSl := hs1.1
                have hWl : (W o).length = 128 := HJ5.out.jd.all o
                obtain ⟨cur, hcur, hcc1, hcc2, hk3, hk4⟩ := own_heap hog
                have hsm : Src w7.drew (some ⟨gh, t, none⟩) (128 - t) ((S o).drop t) := by
                  have := Src.mid (hs1.heap (w' := w7.drew) rfl) t (128 - t) (by omega)
                  rw [List.take_of_length_le (by rw [List.length_drop]; omega), Nat.zero_add] at this
                  exact this
                have crun := run_copy_row2 (P := Tryz.prog) w7.drew 29 29 3 5 1 g t (128 - t) (c - t) ⟨gh, t, none⟩ (128 - t) (ch - t) (128 - t) cur.toArray 5 (((S o).drop t).map (Value.int .u8)) Tryz.underlying29 Tryz.psz5 hcur (by simp) (by simp; omega) (src_cells hsm) (by simp; omega) (u8_one _)
                obtain ⟨w8, g7⟩ : ∃ w8, w8 = w7.drew.setRow g (cur.toArray.toList.take t ++ ((S o).drop t).map (Value.int .u8) ++ cur.toArray.toList.drop (t + (((S o).drop t).map (Value.int .u8)).length)).toArray := ⟨_, rfl⟩
                rw [← g7] at crun
                have hrow : w8.heap[g]? = some (.cells (cur.toArray.toList.take t ++ ((S o).drop t).map (Value.int .u8) ++ cur.toArray.toList.drop (t + (((S o).drop t).map (Value.int .u8)).length)).toArray 5 (0, 0)) := by rw [g7]; exact setRow_heap w7.drew g _ _ _ _ hcur
                have hU7 : Upd (· = g) w7 w8 := by
                  rw [g7]
                  exact ⟨rfl, rfl, rfl, by simp, fun x _ hx => setRow_other w7.drew g x _ hx⟩
                have ho7 : w8.ownsRow 0 5 1 (.slice (some ⟨g, 0, none⟩) 128 c) 128 (((W o).take t ++ (S o).drop t).map (Value.int .u8)) := by
                  have hDl : ((S o).drop t).length = 128 - t := by rw [List.length_drop]; omega
                  have hct : cur.take t = ((W o).take t).map (Value.int .u8) := by
                    rw [List.map_take, ← hk4, List.take_take]
                    congr 1
                    omega
                  refine ⟨by simp only [List.length_map, List.length_append, List.length_take, hDl]; omega, .inr ⟨g, c, _, rfl, Nat.zero_le _, hrow, hcc1, hcc2, ?_, ?_⟩⟩
                  · simp only [List.size_toArray, List.length_append, List.length_take, List.length_map, List.length_drop]
                    omega
                  · show List.take (128 * 1) (cur.take t ++ ((S o).drop t).map (Value.int .u8) ++ cur.drop (t + (((S o).drop t).map (Value.int .u8)).length)) = _
                    rw [hct, ← List.map_append]
                    have hl2 : (((W o).take t ++ (S o).drop t).map (Value.int .u8)).length = 128 := by
                      simp only [List.length_map, List.length_append, List.length_take, hDl]; omega
                    rw [List.take_append_of_le_length (by omega), List.take_of_length_le (by omega)]
                rw [HWO.out] at ho7
                have hP8 : Pic w8 [] (.slice (some ⟨k, 0, none⟩) n co) n T := by rw [HGT.out]; exact entO_torn hr7 hvs7 hgv h7 hU7 ho7
                have hb8 : Below wr.heap.size wr w8 := hb7.trans (hU7.below hb7.size (fun x hx => by have e : x = g := hx; omega))
                have q1 : w8.cell? ⟨k, o, none⟩ = some (.slice (some ⟨g, 0, none⟩) 128 c) := by rw [g7]; exact (cell_setRow_block _ _ _ _ hkg).trans e3
                have q2 : w8.cell? ⟨kh, o, none⟩ = some (.slice (some ⟨gh, 0, none⟩) 128 ch) := by rw [g7]; exact (cell_setRow_block _ _ _ _ hkhg).trans e1
                have t1 : (t : Int) < 128 := by omega
                have t2 : (0 : Int) ≤ (t : Int) := by omega
                have t3 : (t : Int) ≤ (c : Int) := by omega
                have t4 : ¬ (c : Int) = (t : Int) := by omega
                have t5 : (t : Int) ≤ (ch : Int) := by omega
                have t6 : ¬ (ch : Int) = (t : Int) := by omega
                have t7 : (t : Int) ≤ 128 := by omega
                have o1 : (0 : Int) ≤ (o : Int) := by omega
                have o2 : (o : Int) < (n : Int) := by omega
                clear hr7 hj7 hat7 hvs7 hog hgv h7 hs1 hsm hcur hk3 hk4 hrow hU7 ho7 g7 hSl hWl hkv hvr7 hgr7 hb7 hvx hb57 kP
                go_upto_region 27 with fail
                go_region_held3 (fun wx => wx.cell? ⟨k, o, none⟩ = some (.slice (some ⟨g, 0, none⟩) 128 c) ∧ wx.cell? ⟨kh, o, none⟩ = some (.slice (some ⟨gh, 0, none⟩) 128 ch)) (first | go_keep | exact ⟨q1, q2⟩) (fail)
                clear crun q1 q2 e1 e3
                have HP8 := hid hP8
                have HB8 := hid hb8
                obtain ⟨a8, c8, e8, hc81, hc82, him8⟩ := hP8.img
                injection e8 with e81 e82 e83
                subst e81
                subst e83
                have kO := hid (dof_any (some ⟨k, 0, none⟩) n co ((List.range n).map T) w8 him8 (by simp) hc81 hc82)
                clear hP8 hb8 him8 e82
                go_wp2_with fail
                refine kO.out.mono ?_
                rintro r w9 h9
                obtain ⟨_, p9, d9, e9, hok9, dn9, dd9, dw9, de9, do9, df9, hb9⟩ := h9.resolve_left (fun h => h.1 HGI.out)
                subst e9
                have hj9 := jd_pic hok9 (by rw [dn9]; simp) dd9 dw9 de9 do9 HTB.out HTL.out
                have hbr9 : Below wr.heap.size wr w9 := HB8.out.trans (hb9.mono HB8.out.size)
                have HB9 := hid hbr9
                have hb59 := HBR.out.trans (hbr9.mono HBR.out.size)
                have HT9 := hid (HT5.out.below hb59)
                have hT9 : Tab w9 := HT.out.below HT9.out.b hTl
                have kL := hid (lrecs_any d9 p9 n T w9 hj9.1 hj9.2 hT9 h4)
                have hP9 := (HP8.out.upd (Upd.of_below hb9) (grew_refl _ _) (fun k hk hx => by simp at hx))
                have hW9 := ((HP5.out.weaken (M' := []) (fun x hx => by simp at hx)).upd (Upd.of_below hb59) (grew_refl _ _) (fun k hk hx => by simp at hx))
                have HP9 := hid hP9
                have HW9 := hid hW9
                clear hok9 dn9 dd9 dw9 de9 do9 df9 hj9 hbr9 hT9 h9 kO hP9 hW9 hb59
                by_cases hz : (headB G).take t ++ (S o).drop t = headB G
                · have kS := hid (same_yes (.slice (some ⟨k, 0, none⟩) n co) (.slice (some ⟨g5, 0, none⟩) n n) n T W [] [] w9 HP9.out HW9.out hn2 (fun j hj => HTW.out hz j))
                  go_wp2_with fail
                  refine kS.out.mono ?_
                  rintro r wx ⟨rfl, h⟩
                  subst wx
                  clear kS
                  go_wp2_with fail
                  refine kL.out.mono ?_
                  rintro r w10 ⟨v10, m10, rfl, hr10, hb10⟩
                  have eT : T = W := funext (HTW.out hz)
                  rw [eT, HJ5.out.ji.opened.1] at hr10
                  obtain ⟨a10, c10, e10, hc101, hc102, him10⟩ := hr10.img (fun l hl => by have := (HRok.out l hl).2.1; omega)
                  subst e10
                  have hbR : Below w.heap.size w w10 := HT9.out.b.trans (hb10.mono HT9.out.s)
                  have kE := hid (img_eqf a10 ra R.length c10 rc R w10 him10 (HR.out.below hbR) rfl hc101 hc102 (by rw [HRN.out]; exact hrc) hrc2)
                  rw [HRN.out] at kE
                  rw [HRN.out]
                  have HB10 := hid (HB9.out.trans (hb10.mono HB9.out.size))
                  clear hr10 him10 hbR hb10 kL eT
                  go_wp2_with fail
                  refine kE.out.mono ?_
                  rintro r wx ⟨rfl, h⟩
                  subst wx
                  go_wp2_with fail
                  go_roundw
                  case rel => exact ⟨i + 1, by omega, by go_num, hid (HBR.out.trans (HB10.out.mono HBR.out.size)), hid (HB6r.out.trans (HB10.out.mono HB6r.out.size))⟩
                  case measure => simp [intOf]; omega
                · obtain ⟨a9, c9, e9, hc91, hc92, him9⟩ := HP9.out.img
                  injection e9 with e91 e92 e93
                  subst e91
                  subst e93
                  obtain ⟨a9', c9', e9', hc91', hc92', him9'⟩ := HW9.out.img
                  injection e9' with e91' e92' e93'
                  subst e91'
                  subst e93'
                  have kS := hid (same_no (some ⟨k, 0, none⟩) (some ⟨g5, 0, none⟩) n co n ((List.range n).map T) ((List.range n).map W) w9 him9 him9' (by simp) (by simp) hc91 hc92 hc91' hc92' (fun l hl => by obtain ⟨j, _, rfl⟩ := List.mem_map.1 hl; exact HTB.out j) (fun l hl => by obtain ⟨j, _, rfl⟩ := List.mem_map.1 hl; exact HJ5.out.jd.byt j) o (by omega) (HNE.out hz))
                  clear him9 him9' e92 e92'
                  go_wp2_with fail
                  refine kS.out.mono ?_
                  rintro r wx ⟨rfl, h⟩
                  subst wx
                  clear kS
                  go_wp2_with fail
                  refine kL.out.mono ?_
                  rintro r w10 ⟨v10, m10, rfl, hr10, hb10⟩
                  rw [HOLD.out hz] at hr10
                  have hok := (HJ1.out.ji.few HJ1.out.jd.byt).2
                  obtain ⟨a10, c10, e10, hc101, hc102, him10⟩ := hr10.img (fun l hl => by have := (hok l hl).2.1; omega)
                  subst e10
                  obtain ⟨ad, cd, gvd, hcd1, hcd2, himd⟩ := (HT9.out.below hb10).rd.img
                  have kE := hid (img_eqf a10 ad done.length c10 cd done w10 him10 himd rfl hc101 hc102 hcd1 hcd2)
                  obtain ⟨ln, gln⟩ : ∃ ln, ln = done.length := ⟨_, rfl⟩
                  rw [← gln] at kE gvd hc101 hcd1
                  rw [← gln]
                  rw [gvd]
                  have HB10 := hid (HB9.out.trans (hb10.mono HB9.out.size))
                  have GVD := hid gvd
                  clear hr10 him10 himd hb10 kL hok gln gvd
                  go_wp2_with fail
                  refine kE.out.mono ?_
                  rintro r wx ⟨rfl, h⟩
                  subst wx
                  go_wp2_with fail
                  rw [← GVD.out]
                  go_roundw
                  case rel => exact ⟨i + 1, by omega, by go_num, hid (HBR.out.trans (HB10.out.mono HBR.out.size)), hid (HB6r.out.trans (HB10.out.mono HB6r.out.size))⟩
                  case measure => simp [intOf]; omega
              · have hz0 : (headB G).take t ++ (S o).drop t = headB G := by
                  rw [List.take_of_length_le (by rw [length_headB]; omega), List.drop_eq_nil_of_le (by have := hs1.1; omega), List.append_nil]
                have hP7 : Pic w7 [] (.slice (some ⟨k, 0, none⟩) n co) n T := Pic.eq (f := W) ⟨vs7, hr7, fun j hj => by
                  obtain ⟨u, q1, q2⟩ := hj7 j hj
                  exact ⟨u, q1, q2.weaken (fun x hx => by simp at hx)⟩⟩ (fun j _ => (HTW.out hz0 j).symm)
                obtain ⟨w8, g8⟩ : ∃ w8, w8 = w7.drew := ⟨_, rfl⟩
                have hP8 : Pic w8 [] (.slice (some ⟨k, 0, none⟩) n co) n T := by rw [g8]; exact hP7.upd (Upd.of_below (Below.refl _ w7).drew) (grew_refl _ _) (fun k hk hx => by simp at hx)
                have hb8 : Below wr.heap.size wr w8 := by rw [g8]; exact hb7.drew
                have crun := fun (A B : Option Addr) (x y : Nat) => run_copy_none (P := Tryz.prog) w7.drew 29 29 3 5 A B (128 - t) x (128 - t) y Tryz.underlying29 Tryz.psz5 (by rw [show 128 - t = 0 by omega]; rfl)
                have crun0 := fun (A B : Option Addr) (x y : Nat) => run_copy_none (P := Tryz.prog) w7.drew 29 29 3 5 A B 0 x 0 y Tryz.underlying29 Tryz.psz5 rfl
                have G8 := hid g8
                have t2 : (0 : Int) ≤ (t : Int) := by omega
                have t3 : (t : Int) ≤ (c : Int) := by omega
                have t5 : (t : Int) ≤ (ch : Int) := by omega
                have t7 : (t : Int) ≤ 128 := by omega
                have o1 : (0 : Int) ≤ (o : Int) := by omega
                have o2 : (o : Int) < (n : Int) := by omega
                clear hr7 hj7 hat7 hvs7 hog hgv h7 hs1 hkv hvr7 hgr7 hb7 hvx hb57 kP hP7 hz0 ht1 g8
                have HP80 := hid hP8
                have HB80 := hid hb8
                clear hP8 hb8
                go_upto_region 27 with fail
                by_cases hct : t = c
                · subst hct
                  by_cases hht : t = ch
                  · subst hht
                    go_region_held3 (fun wx => wx.cell? ⟨k, o, none⟩ = some (.slice (some ⟨g, 0, none⟩) 128 t) ∧ wx.cell? ⟨kh, o, none⟩ = some (.slice (some ⟨gh, 0, none⟩) 128 t)) (first | go_keep | exact ⟨e3, e1⟩) (fail)
                    rw [← G8.out]
                    have hP8 := HP80.out
                    have hb8 := HB80.out
                    clear crun crun0 e1 e3
                    have HP8 := hid hP8
                    have HB8 := hid hb8
                    obtain ⟨a8, c8, e8, hc81, hc82, him8⟩ := hP8.img
                    injection e8 with e81 e82 e83
                    subst e81
                    subst e83
                    have kO := hid (dof_any (some ⟨k, 0, none⟩) n co ((List.range n).map T) w8 him8 (by simp) hc81 hc82)
                    clear hP8 hb8 him8 e82
                    go_wp2_with fail
                    refine kO.out.mono ?_
                    rintro r w9 h9
                    obtain ⟨_, p9, d9, e9, hok9, dn9, dd9, dw9, de9, do9, df9, hb9⟩ := h9.resolve_left (fun h => h.1 HGI.out)
                    subst e9
                    have hj9 := jd_pic hok9 (by rw [dn9]; simp) dd9 dw9 de9 do9 HTB.out HTL.out
                    have hbr9 : Below wr.heap.size wr w9 := HB8.out.trans (hb9.mono HB8.out.size)
                    have HB9 := hid hbr9
                    have hb59 := HBR.out.trans (hbr9.mono HBR.out.size)
                    have HT9 := hid (HT5.out.below hb59)
                    have hT9 : Tab w9 := HT.out.below HT9.out.b hTl
                    have kL := hid (lrecs_any d9 p9 n T w9 hj9.1 hj9.2 hT9 h4)
                    have hP9 := (HP8.out.upd (Upd.of_below hb9) (grew_refl _ _) (fun k hk hx => by simp at hx))
                    have hW9 := ((HP5.out.weaken (M' := []) (fun x hx => by simp at hx)).upd (Upd.of_below hb59) (grew_refl _ _) (fun k hk hx => by simp at hx))
                    have HP9 := hid hP9
                    have HW9 := hid hW9
                    clear hok9 dn9 dd9 dw9 de9 do9 df9 hj9 hbr9 hT9 h9 kO hP9 hW9 hb59
                    by_cases hz : (headB G).take t ++ (S o).drop t = headB G
                    · have kS := hid (same_yes (.slice (some ⟨k, 0, none⟩) n co) (.slice (some ⟨g5, 0, none⟩) n n) n T W [] [] w9 HP9.out HW9.out hn2 (fun j hj => HTW.out hz j))
                      go_wp2_with fail
                      refine kS.out.mono ?_
                      rintro r wx ⟨rfl, h⟩
                      subst wx
                      clear kS
                      go_wp2_with fail
                      refine kL.out.mono ?_
                      rintro r w10 ⟨v10, m10, rfl, hr10, hb10⟩
                      have eT : T = W := funext (HTW.out hz)
                      rw [eT, HJ5.out.ji.opened.1] at hr10
                      obtain ⟨a10, c10, e10, hc101, hc102, him10⟩ := hr10.img (fun l hl => by have := (HRok.out l hl).2.1; omega)
                      subst e10
                      have hbR : Below w.heap.size w w10 := HT9.out.b.trans (hb10.mono HT9.out.s)
                      have kE := hid (img_eqf a10 ra R.length c10 rc R w10 him10 (HR.out.below hbR) rfl hc101 hc102 (by rw [HRN.out]; exact hrc) hrc2)
                      rw [HRN.out] at kE
                      rw [HRN.out]
                      have HB10 := hid (HB9.out.trans (hb10.mono HB9.out.size))
                      clear hr10 him10 hbR hb10 kL eT
                      go_wp2_with fail
                      refine kE.out.mono ?_
                      rintro r wx ⟨rfl, h⟩
                      subst wx
                      go_wp2_with fail
                      go_roundw
                      case rel => exact ⟨i + 1, by omega, by go_num, hid (HBR.out.trans (HB10.out.mono HBR.out.size)), hid (HB6r.out.trans (HB10.out.mono HB6r.out.size))⟩
                      case measure => simp [intOf]; omega
                    · obtain ⟨a9, c9, e9, hc91, hc92, him9⟩ := HP9.out.img
                      injection e9 with e91 e92 e93
                      subst e91
                      subst e93
                      obtain ⟨a9', c9', e9', hc91', hc92', him9'⟩ := HW9.out.img
                      injection e9' with e91' e92' e93'
                      subst e91'
                      subst e93'
                      have kS := hid (same_no (some ⟨k, 0, none⟩) (some ⟨g5, 0, none⟩) n co n ((List.range n).map T) ((List.range n).map W) w9 him9 him9' (by simp) (by simp) hc91 hc92 hc91' hc92' (fun l hl => by obtain ⟨j, _, rfl⟩ := List.mem_map.1 hl; exact HTB.out j) (fun l hl => by obtain ⟨j, _, rfl⟩ := List.mem_map.1 hl; exact HJ5.out.jd.byt j) o (by omega) (HNE.out hz))
                      clear him9 him9' e92 e92'
                      go_wp2_with fail
                      refine kS.out.mono ?_
                      rintro r wx ⟨rfl, h⟩
                      subst wx
                      clear kS
                      go_wp2_with fail
                      refine kL.out.mono ?_
                      rintro r w10 ⟨v10, m10, rfl, hr10, hb10⟩
                      rw [HOLD.out hz] at hr10
                      have hok := (HJ1.out.ji.few HJ1.out.jd.byt).2
                      obtain ⟨a10, c10, e10, hc101, hc102, him10⟩ := hr10.img (fun l hl => by have := (hok l hl).2.1; omega)
                      subst e10
                      obtain ⟨ad, cd, gvd, hcd1, hcd2, himd⟩ := (HT9.out.below hb10).rd.img
                      have kE := hid (img_eqf a10 ad done.length c10 cd done w10 him10 himd rfl hc101 hc102 hcd1 hcd2)
                      obtain ⟨ln, gln⟩ : ∃ ln, ln = done.length := ⟨_, rfl⟩
                      rw [← gln] at kE gvd hc101 hcd1
                      rw [← gln]
                      rw [gvd]
                      have HB10 := hid (HB9.out.trans (hb10.mono HB9.out.size))
                      have GVD := hid gvd
                      clear hr10 him10 himd hb10 kL hok gln gvd
                      go_wp2_with fail
                      refine kE.out.mono ?_
                      rintro r wx ⟨rfl, h⟩
                      subst wx
                      go_wp2_with fail
                      rw [← GVD.out]
                      go_roundw
                      case rel => exact ⟨i + 1, by omega, by go_num, hid (HBR.out.trans (HB10.out.mono HBR.out.size)), hid (HB6r.out.trans (HB10.out.mono HB6r.out.size))⟩
                      case measure => simp [intOf]; omega
                  · have t8 : ¬ (ch : Int) = (t : Int) := by omega
                    go_region_held3 (fun wx => wx.cell? ⟨k, o, none⟩ = some (.slice (some ⟨g, 0, none⟩) 128 t) ∧ wx.cell? ⟨kh, o, none⟩ = some (.slice (some ⟨gh, 0, none⟩) 128 ch)) (first | go_keep | exact ⟨e3, e1⟩) (fail)
                    rw [← G8.out]
                    have hP8 := HP80.out
                    have hb8 := HB80.out
                    clear crun crun0 e1 e3
                    have HP8 := hid hP8
                    have HB8 := hid hb8
                    obtain ⟨a8, c8, e8, hc81, hc82, him8⟩ := hP8.img
                    injection e8 with e81 e82 e83
                    subst e81
                    subst e83
                    have kO := hid (dof_any (some ⟨k, 0, none⟩) n co ((List.range n).map T) w8 him8 (by simp) hc81 hc82)
                    clear hP8 hb8 him8 e82
                    go_wp2_with fail
                    refine kO.out.mono ?_
                    rintro r w9 h9
                    obtain ⟨_, p9, d9, e9, hok9, dn9, dd9, dw9, de9, do9, df9, hb9⟩ := h9.resolve_left (fun h => h.1 HGI.out)
                    subst e9
                    have hj9 := jd_pic hok9 (by rw [dn9]; simp) dd9 dw9 de9 do9 HTB.out HTL.out
                    have hbr9 : Below wr.heap.size wr w9 := HB8.out.trans (hb9.mono HB8.out.size)
                    have HB9 := hid hbr9
                    have hb59 := HBR.out.trans (hbr9.mono HBR.out.size)
                    have HT9 := hid (HT5.out.below hb59)
                    have hT9 : Tab w9 := HT.out.below HT9.out.b hTl
                    have kL := hid (lrecs_any d9 p9 n T w9 hj9.1 hj9.2 hT9 h4)
                    have hP9 := (HP8.out.upd (Upd.of_below hb9) (grew_refl _ _) (fun k hk hx => by simp at hx))
                    have hW9 := ((HP5.out.weaken (M' := []) (fun x hx => by simp at hx)).upd (Upd.of_below hb59) (grew_refl _ _) (fun k hk hx => by simp at hx))
                    have HP9 := hid hP9
                    have HW9 := hid hW9
                    clear hok9 dn9 dd9 dw9 de9 do9 df9 hj9 hbr9 hT9 h9 kO hP9 hW9 hb59
                    by_cases hz : (headB G).take t ++ (S o).drop t = headB G
                    · have kS := hid (same_yes (.slice (some ⟨k, 0, none⟩) n co) (.slice (some ⟨g5, 0, none⟩) n n) n T W [] [] w9 HP9.out HW9.out hn2 (fun j hj => HTW.out hz j))
                      go_wp2_with fail
                      refine kS.out.mono ?_
                      rintro r wx ⟨rfl, h⟩
                      subst wx
                      clear kS
                      go_wp2_with fail
                      refine kL.out.mono ?_
                      rintro r w10 ⟨v10, m10, rfl, hr10, hb10⟩
                      have eT : T = W := funext (HTW.out hz)
                      rw [eT, HJ5.out.ji.opened.1] at hr10
                      obtain ⟨a10, c10, e10, hc101, hc102, him10⟩ := hr10.img (fun l hl => by have := (HRok.out l hl).2.1; omega)
                      subst e10
                      have hbR : Below w.heap.size w w10 := HT9.out.b.trans (hb10.mono HT9.out.s)
                      have kE := hid (img_eqf a10 ra R.length c10 rc R w10 him10 (HR.out.below hbR) rfl hc101 hc102 (by rw [HRN.out]; exact hrc) hrc2)
                      rw [HRN.out] at kE
                      rw [HRN.out]
                      have HB10 := hid (HB9.out.trans (hb10.mono HB9.out.size))
                      clear hr10 him10 hbR hb10 kL eT
                      go_wp2_with fail
                      refine kE.out.mono ?_
                      rintro r wx ⟨rfl, h⟩
                      subst wx
                      go_wp2_with fail
                      go_roundw
                      case rel => exact ⟨i + 1, by omega, by go_num, hid (HBR.out.trans (HB10.out.mono HBR.out.size)), hid (HB6r.out.trans (HB10.out.mono HB6r.out.size))⟩
                      case measure => simp [intOf]; omega
                    · obtain ⟨a9, c9, e9, hc91, hc92, him9⟩ := HP9.out.img
                      injection e9 with e91 e92 e93
                      subst e91
                      subst e93
                      obtain ⟨a9', c9', e9', hc91', hc92', him9'⟩ := HW9.out.img
                      injection e9' with e91' e92' e93'
                      subst e91'
                      subst e93'
                      have kS := hid (same_no (some ⟨k, 0, none⟩) (some ⟨g5, 0, none⟩) n co n ((List.range n).map T) ((List.range n).map W) w9 him9 him9' (by simp) (by simp) hc91 hc92 hc91' hc92' (fun l hl => by obtain ⟨j, _, rfl⟩ := List.mem_map.1 hl; exact HTB.out j) (fun l hl => by obtain ⟨j, _, rfl⟩ := List.mem_map.1 hl; exact HJ5.out.jd.byt j) o (by omega) (HNE.out hz))
                      clear him9 him9' e92 e92'
                      go_wp2_with fail
                      refine kS.out.mono ?_
                      rintro r wx ⟨rfl, h⟩
                      subst wx
                      clear kS
                      go_wp2_with fail
                      refine kL.out.mono ?_
                      rintro r w10 ⟨v10, m10, rfl, hr10, hb10⟩
                      rw [HOLD.out hz] at hr10
                      have hok := (HJ1.out.ji.few HJ1.out.jd.byt).2
                      obtain ⟨a10, c10, e10, hc101, hc102, him10⟩ := hr10.img (fun l hl => by have := (hok l hl).2.1; omega)
                      subst e10
                      obtain ⟨ad, cd, gvd, hcd1, hcd2, himd⟩ := (HT9.out.below hb10).rd.img
                      have kE := hid (img_eqf a10 ad done.length c10 cd done w10 him10 himd rfl hc101 hc102 hcd1 hcd2)
                      obtain ⟨ln, gln⟩ : ∃ ln, ln = done.length := ⟨_, rfl⟩
                      rw [← gln] at kE gvd hc101 hcd1
                      rw [← gln]
                      rw [gvd]
                      have HB10 := hid (HB9.out.trans (hb10.mono HB9.out.size))
                      have GVD := hid gvd
                      clear hr10 him10 himd hb10 kL hok gln gvd
                      go_wp2_with fail
                      refine kE.out.mono ?_
                      rintro r wx ⟨rfl, h⟩
                      subst wx
                      go_wp2_with fail
                      rw [← GVD.out]
                      go_roundw
                      case rel => exact ⟨i + 1, by omega, by go_num, hid (HBR.out.trans (HB10.out.mono HBR.out.size)), hid (HB6r.out.trans (HB10.out.mono HB6r.out.size))⟩
                      case measure => simp [intOf]; omega
                · have t9 : ¬ (c : Int) = (t : Int) := by omega
                  by_cases hht : t = ch
                  · subst hht
                    go_region_held3 (fun wx => wx.cell? ⟨k, o, none⟩ = some (.slice (some ⟨g, 0, none⟩) 128 c) ∧ wx.cell? ⟨kh, o, none⟩ = some (.slice (some ⟨gh, 0, none⟩) 128 t)) (first | go_keep | exact ⟨e3, e1⟩) (fail)
                    rw [← G8.out]
                    have hP8 := HP80.out
                    have hb8 := HB80.out
                    clear crun crun0 e1 e3
                    have HP8 := hid hP8
                    have HB8 := hid hb8
                    obtain ⟨a8, c8, e8, hc81, hc82, him8⟩ := hP8.img
                    injection e8 with e81 e82 e83
                    subst e81
                    subst e83
                    have kO := hid (dof_any (some ⟨k, 0, none⟩) n co ((List.range n).map T) w8 him8 (by simp) hc81 hc82)
                    clear hP8 hb8 him8 e82
                    go_wp2_with fail
                    refine kO.out.mono ?_
                    rintro r w9 h9
                    obtain ⟨_, p9, d9, e9, hok9, dn9, dd9, dw9, de9, do9, df9, hb9⟩ := h9.resolve_left (fun h => h.1 HGI.out)
                    subst e9
                    have hj9 := jd_pic hok9 (by rw [dn9]; simp) dd9 dw9 de9 do9 HTB.out HTL.out
                    have hbr9 : Below wr.heap.size wr w9 := HB8.out.trans (hb9.mono HB8.out.size)
                    have HB9 := hid hbr9
                    have hb59 := HBR.out.trans (hbr9.mono HBR.out.size)
                    have HT9 := hid (HT5.out.below hb59)
                    have hT9 : Tab w9 := HT.out.below HT9.out.b hTl
                    have kL := hid (lrecs_any d9 p9 n T w9 hj9.1 hj9.2 hT9 h4)
                    have hP9 := (HP8.out.upd (Upd.of_below hb9) (grew_refl _ _) (fun k hk hx => by simp at hx))
                    have hW9 := ((HP5.out.weaken (M' := []) (fun x hx => by simp at hx)).upd (Upd.of_below hb59) (grew_refl _ _) (fun k hk hx => by simp at hx))
                    have HP9 := hid hP9
                    have HW9 := hid hW9
                    clear hok9 dn9 dd9 dw9 de9 do9 df9 hj9 hbr9 hT9 h9 kO hP9 hW9 hb59
                    by_cases hz : (headB G).take t ++ (S o).drop t = headB G
                    · have kS := hid (same_yes (.slice (some ⟨k, 0, none⟩) n co) (.slice (some ⟨g5, 0, none⟩) n n) n T W [] [] w9 HP9.out HW9.out hn2 (fun j hj => HTW.out hz j))
                      go_wp2_with fail
                      refine kS.out.mono ?_
                      rintro r wx ⟨rfl, h⟩
                      subst wx
                      clear kS
                      go_wp2_with fail
                      refine kL.out.mono ?_
                      rintro r w10 ⟨v10, m10, rfl, hr10, hb10⟩
                      have eT : T = W := funext (HTW.out hz)
                      rw [eT, HJ5.out.ji.opened.1] at hr10
                      obtain ⟨a10, c10, e10, hc101, hc102, him10⟩ := hr10.img (fun l hl => by have := (HRok.out l hl).2.1; omega)
                      subst e10
                      have hbR : Below w.heap.size w w10 := HT9.out.b.trans (hb10.mono HT9.out.s)
                      have kE := hid (img_eqf a10 ra R.length c10 rc R w10 him10 (HR.out.below hbR) rfl hc101 hc102 (by rw [HRN.out]; exact hrc) hrc2)
                      rw [HRN.out] at kE
                      rw [HRN.out]
                      have HB10 := hid (HB9.out.trans (hb10.mono HB9.out.size))
                      clear hr10 him10 hbR hb10 kL eT
                      go_wp2_with fail
                      refine kE.out.mono ?_
                      rintro r wx ⟨rfl, h⟩
                      subst wx
                      go_wp2_with fail
                      go_roundw
                      case rel => exact ⟨i + 1, by omega, by go_num, hid (HBR.out.trans (HB10.out.mono HBR.out.size)), hid (HB6r.out.trans (HB10.out.mono HB6r.out.size))⟩
                      case measure => simp [intOf]; omega
                    · obtain ⟨a9, c9, e9, hc91, hc92, him9⟩ := HP9.out.img
                      injection e9 with e91 e92 e93
                      subst e91
                      subst e93
                      obtain ⟨a9', c9', e9', hc91', hc92', him9'⟩ := HW9.out.img
                      injection e9' with e91' e92' e93'
                      subst e91'
                      subst e93'
                      have kS := hid (same_no (some ⟨k, 0, none⟩) (some ⟨g5, 0, none⟩) n co n ((List.range n).map T) ((List.range n).map W) w9 him9 him9' (by simp) (by simp) hc91 hc92 hc91' hc92' (fun l hl => by obtain ⟨j, _, rfl⟩ := List.mem_map.1 hl; exact HTB.out j) (fun l hl => by obtain ⟨j, _, rfl⟩ := List.mem_map.1 hl; exact HJ5.out.jd.byt j) o (by omega) (HNE.out hz))
                      clear him9 him9' e92 e92'
                      go_wp2_with fail
                      refine kS.out.mono ?_
                      rintro r wx ⟨rfl, h⟩
                      subst wx
                      clear kS
                      go_wp2_with fail
                      refine kL.out.mono ?_
                      rintro r w10 ⟨v10, m10, rfl, hr10, hb10⟩
                      rw [HOLD.out hz] at hr10
                      have hok := (HJ1.out.ji.few HJ1.out.jd.byt).2
                      obtain ⟨a10, c10, e10, hc101, hc102, him10⟩ := hr10.img (fun l hl => by have := (hok l hl).2.1; omega)
                      subst e10
                      obtain ⟨ad, cd, gvd, hcd1, hcd2, himd⟩ := (HT9.out.below hb10).rd.img
                      have kE := hid (img_eqf a10 ad done.length c10 cd done w10 him10 himd rfl hc101 hc102 hcd1 hcd2)
                      obtain ⟨ln, gln⟩ : ∃ ln, ln = done.length := ⟨_, rfl⟩
                      rw [← gln] at kE gvd hc101 hcd1
                      rw [← gln]
                      rw [gvd]
                      have HB10 := hid (HB9.out.trans (hb10.mono HB9.out.size))
                      have GVD := hid gvd
                      clear hr10 him10 himd hb10 kL hok gln gvd
                      go_wp2_with fail
                      refine kE.out.mono ?_
                      rintro r wx ⟨rfl, h⟩
                      subst wx
                      go_wp2_with fail
                      rw [← GVD.out]
                      go_roundw
                      case rel => exact ⟨i + 1, by omega, by go_num, hid (HBR.out.trans (HB10.out.mono HBR.out.size)), hid (HB6r.out.trans (HB10.out.mono HB6r.out.size))⟩
                      case measure => simp [intOf]; omega
                  · have t8 : ¬ (ch : Int) = (t : Int) := by omega
                    go_region_held3 (fun wx => wx.cell? ⟨k, o, none⟩ = some (.slice (some ⟨g, 0, none⟩) 128 c) ∧ wx.cell? ⟨kh, o, none⟩ = some (.slice (some ⟨gh, 0, none⟩) 128 ch)) (first | go_keep | exact ⟨e3, e1⟩) (fail)
                    rw [← G8.out]
                    have hP8 := HP80.out
                    have hb8 := HB80.out
                    clear crun crun0 e1 e3
                    have HP8 := hid hP8
                    have HB8 := hid hb8
                    obtain ⟨a8, c8, e8, hc81, hc82, him8⟩ := hP8.img
                    injection e8 with e81 e82 e83
                    subst e81
                    subst e83
                    have kO := hid (dof_any (some ⟨k, 0, none⟩) n co ((List.range n).map T) w8 him8 (by simp) hc81 hc82)
                    clear hP8 hb8 him8 e82
                    go_wp2_with fail
                    refine kO.out.mono ?_
                    rintro r w9 h9
                    obtain ⟨_, p9, d9, e9, hok9, dn9, dd9, dw9, de9, do9, df9, hb9⟩ := h9.resolve_left (fun h => h.1 HGI.out)
                    subst e9
                    have hj9 := jd_pic hok9 (by rw [dn9]; simp) dd9 dw9 de9 do9 HTB.out HTL.out
                    have hbr9 : Below wr.heap.size wr w9 := HB8.out.trans (hb9.mono HB8.out.size)
                    have HB9 := hid hbr9
                    have hb59 := HBR.out.trans (hbr9.mono HBR.out.size)
                    have HT9 := hid (HT5.out.below hb59)
                    have hT9 : Tab w9 := HT.out.below HT9.out.b hTl
                    have kL := hid (lrecs_any d9 p9 n T w9 hj9.1 hj9.2 hT9 h4)
                    have hP9 := (HP8.out.upd (Upd.of_below hb9) (grew_refl _ _) (fun k hk hx => by simp at hx))
                    have hW9 := ((HP5.out.weaken (M' := []) (fun x hx => by simp at hx)).upd (Upd.of_below hb59) (grew_refl _ _) (fun k hk hx => by simp at hx))
                    have HP9 := hid hP9
                    have HW9 := hid hW9
                    clear hok9 dn9 dd9 dw9 de9 do9 df9 hj9 hbr9 hT9 h9 kO hP9 hW9 hb59
                    by_cases hz : (headB G).take t ++ (S o).drop t = headB G
                    · have kS := hid (same_yes (.slice (some ⟨k, 0, none⟩) n co) (.slice (some ⟨g5, 0, none⟩) n n) n T W [] [] w9 HP9.out HW9.out hn2 (fun j hj => HTW.out hz j))
                      go_wp2_with fail
                      refine kS.out.mono ?_
                      rintro r wx ⟨rfl, h⟩
                      subst wx
                      clear kS
                      go_wp2_with fail
                      refine kL.out.mono ?_
                      rintro r w10 ⟨v10, m10, rfl, hr10, hb10⟩
                      have eT : T = W := funext (HTW.out hz)
                      rw [eT, HJ5.out.ji.opened.1] at hr10
                      obtain ⟨a10, c10, e10, hc101, hc102, him10⟩ := hr10.img (fun l hl => by have := (HRok.out l hl).2.1; omega)
                      subst e10
                      have hbR : Below w.heap.size w w10 := HT9.out.b.trans (hb10.mono HT9.out.s)
                      have kE := hid (img_eqf a10 ra R.length c10 rc R w10 him10 (HR.out.below hbR) rfl hc101 hc102 (by rw [HRN.out]; exact hrc) hrc2)
                      rw [HRN.out] at kE
                      rw [HRN.out]
                      have HB10 := hid (HB9.out.trans (hb10.mono HB9.out.size))
                      clear hr10 him10 hbR hb10 kL eT
                      go_wp2_with fail
                      refine kE.out.mono ?_
                      rintro r wx ⟨rfl, h⟩
                      subst wx
                      go_wp2_with fail
                      go_roundw
                      case rel => exact ⟨i + 1, by omega, by go_num, hid (HBR.out.trans (HB10.out.mono HBR.out.size)), hid (HB6r.out.trans (HB10.out.mono HB6r.out.size))⟩
                      case measure => simp [intOf]; omega
                    · obtain ⟨a9, c9, e9, hc91, hc92, him9⟩ := HP9.out.img
                      injection e9 with e91 e92 e93
                      subst e91
                      subst e93
                      obtain ⟨a9', c9', e9', hc91', hc92', him9'⟩ := HW9.out.img
                      injection e9' with e91' e92' e93'
                      subst e91'
                      subst e93'
                      have kS := hid (same_no (some ⟨k, 0, none⟩) (some ⟨g5, 0, none⟩) n co n ((List.range n).map T) ((List.range n).map W) w9 him9 him9' (by simp) (by simp) hc91 hc92 hc91' hc92' (fun l hl => by obtain ⟨j, _, rfl⟩ := List.mem_map.1 hl; exact HTB.out j) (fun l hl => by obtain ⟨j, _, rfl⟩ := List.mem_map.1 hl; exact HJ5.out.jd.byt j) o (by omega) (HNE.out hz))
                      clear him9 him9' e92 e92'
                      go_wp2_with fail
                      refine kS.out.mono ?_
                      rintro r wx ⟨rfl, h⟩
                      subst wx
                      clear kS
                      go_wp2_with fail
                      refine kL.out.mono ?_
                      rintro r w10 ⟨v10, m10, rfl, hr10, hb10⟩
                      rw [HOLD.out hz] at hr10
                      have hok := (HJ1.out.ji.few HJ1.out.jd.byt).2
                      obtain ⟨a10, c10, e10, hc101, hc102, him10⟩ := hr10.img (fun l hl => by have := (hok l hl).2.1; omega)
                      subst e10
                      obtain ⟨ad, cd, gvd, hcd1, hcd2, himd⟩ := (HT9.out.below hb10).rd.img
                      have kE := hid (img_eqf a10 ad done.length c10 cd done w10 him10 himd rfl hc101 hc102 hcd1 hcd2)
                      obtain ⟨ln, gln⟩ : ∃ ln, ln = done.length := ⟨_, rfl⟩
                      rw [← gln] at kE gvd hc101 hcd1
                      rw [← gln]
                      rw [gvd]
                      have HB10 := hid (HB9.out.trans (hb10.mono HB9.out.size))
                      have GVD := hid gvd
                      clear hr10 him10 himd hb10 kL hok gln gvd
                      go_wp2_with fail
                      refine kE.out.mono ?_
                      rintro r wx ⟨rfl, h⟩
                      subst wx
                      go_wp2_with fail
                      rw [← GVD.out]
                      go_roundw
                      case rel => exact ⟨i + 1, by omega, by go_num, hid (HBR.out.trans (HB10.out.mono HBR.out.size)), hid (HB6r.out.trans (HB10.out.mono HB6r.out.size))⟩
                      case measure => simp [intOf]; omega
            · have hltv : ¬ (i : Int) < 3 := by omega
              have kW := hid (jwait jp p G _ _ _ _ 0 _ wr (HJ5.out.below HBR.out).jc)
              have HBE := hid ((HT5.out.below HBR.out).b)
              go_wp2_with fail
              refine kW.out.mono ?_
              rintro r wx ⟨rfl, h⟩
              subst wx
              go_wp2_with fail
              go_ret
              exact ⟨rfl, HBE.out⟩
        · have HJ4 := hid hj4
          by_cases hw0 : waits = []
          · have hlw : lw = 0 := by rw [GLW.out, hw0]; rfl
            subst hlw
            have HT4 := hid (HT3.out.move hu4 (fun _ h => .inl h) hj4.lt)
            have hT4 : Tab w4 := HT.out.below HT4.out.b hTl
            have kL := hid (lrecs_any d p n S w4 hj4.jd hj4.rest hT4 h4)
            rw [hj4.ji.opened.1] at kL
            have hc1 : ¬ (code : Int) = 0 := by omega
            have hc3 : ((code : Int) == 0) = false := by simp; omega
            clear hj4 hu4 h3 hw0 hT4
            go_wp2_with fail
            refine kL.out.mono ?_
            rintro r w5 ⟨v5, m5, rfl, hr5, hb5⟩
            have HT5 := hid (HT4.out.below hb5)
            have hok := (HJ4.out.ji.few HJ4.out.jd.byt).2
            obtain ⟨a7, c7, e7, hc71, hc72, him7⟩ := hr5.img (fun l hl => by have := (hok l hl).2.1; omega)
            subst e7
            obtain ⟨ad, cd, gvd, hcd1, hcd2, himd⟩ := HT5.out.rd.img
            have kE := hid (img_eqf a7 ad done.length c7 cd done w5 him7 himd rfl hc71 hc72 hcd1 hcd2)
            obtain ⟨ln, gln⟩ : ∃ ln, ln = done.length := ⟨_, rfl⟩
            rw [← gln] at kE gvd hc71 hcd1
            rw [← gln]
            have HB7 := hid HT5.out.b
            subst gvd
            clear him7 himd gln hr5 hok hb5 kL
            clear HT5 HT4 HT3 HT1
            go_wp2_with fail
            refine kE.out.mono ?_
            rintro r wx ⟨rfl, h⟩
            subst wx
            go_wp2_with fail
            go_ret
            exact ⟨rfl, HB7.out⟩
          · have hlw : 0 < lw := by rw [GLW.out]; exact List.length_pos_iff.2 hw0
            have hlw' : (0 : Int) < (lw : Int) := by omega
            have hc3 := h3 hw0
            subst hc3
            have HB4 := hid (HT3.out.b.trans (hu4.below HT3.out.s HT3.out.m))
            clear hj4 hu4 h3 hw0 hlw
            go_wp2_with fail
            go_ret
            exact ⟨rfl, HB4.out⟩
end Go.Proofs.YtkmnhpnlkmiiiaaGreatDoor
