/- What disk.find and disk.put do, for every epoch: where a sector stands; the epoch with the write put into it. -/
import Derived.Test.YtkmnhpnlkmiiiaaGreatDoorInsert
import Derived.Test.YtkmnhpnlkmiiiaaGreatDoorSClone
namespace Go.Proofs.YtkmnhpnlkmiiiaaGreatDoor
open Go.RowKit
set_option linter.unusedVariables false

set_option maxHeartbeats 400000 in
theorem find_any (ae : Option Addr) (n c : Nat) (sec : Nat → Int) (bv : Nat → Value) (i : Int) (w : World) (hs : Sents w ae n sec bv) (hr : ∀ j k, j < k → k < n → sec j < sec k) (hn : n ≤ 1152921504606846976) :
    Calls Tryz.prog 58 #[.slice ae n c, .int .i64 i] w fun e w' => ∃ (k : Nat) (f : Bool), e = .returned (.tuple #[.int .i64 k, .bool f]) ∧ k ≤ n ∧ (∀ j, j < k → sec j < i) ∧ (∀ j, k ≤ j → j < n → i ≤ sec j) ∧ (f = true ↔ k < n ∧ sec k = i) ∧ Below w.heap.size w w' := by
  have k := hid (search_any ae n c sec bv i w hs hr hn)
  clear hs hr
  go_enter Tryz.func58, Tryz.ntmps58
  go_wp2_with fail
  refine k.out.mono ?_
  rintro e w1 ⟨k, f, rfl, h1, h2, h3, h4, hb⟩
  have H := hid (And.intro h2 (And.intro h3 h4))
  clear h2 h3 h4
  go_wp2_with fail
  go_ret2
  exact ⟨k, f, rfl, h1, H.out.1, H.out.2.1, H.out.2.2, hb⟩

def secAt (es : List Snt) (j : Nat) : Int := ((es[j]?).map (fun s => (s.sec : Int))).getD 0
def valAt (es : List Snt) (j : Nat) : Value := ((es[j]?).map Snt.val).getD (.slice none 0 0)

theorem secAt_eq (es : List Snt) (j : Nat) (h : j < es.length) : secAt es j = (es[j].sec : Int) := by simp [secAt, h]
theorem valAt_eq (es : List Snt) (j : Nat) (h : j < es.length) : valAt es j = es[j].val := by simp [valAt, h]

theorem own_shape {w : World} {B e size n : Nat} {v : Value} {xs : List Value} (h : w.ownsRow B e size v n xs) : ∃ ae c, v = .slice ae n c ∧ n ≤ c ∧ c ≤ 9223372036854775807 := by
  rcases h.2 with ⟨rfl, rfl⟩ | ⟨g, c, cur, rfl, _, _, h1, h2, _⟩
  · exact ⟨none, 0, rfl, by omega, by omega⟩
  · exact ⟨_, c, rfl, h1, by unfold maxLen at h2; omega⟩

theorem sents_of {w : World} {ae : Option Addr} {n c : Nat} {es : List Snt} (h : w.ownsRow 0 108 2 (.slice ae n c) n (sentCells es)) (hn : n = es.length) : Sents w ae n (secAt es) (valAt es) := by
  intro h0
  rcases h.2 with ⟨_, e⟩ | ⟨g, c', cur, e, _, hg, _⟩
  · omega
  · injection e with e1 e2 e3
    subst e1; subst e3
    refine ⟨g, 0, rfl, (Array.getElem?_eq_some_iff.1 hg).1, fun i hi => ?_⟩
    have hl : i < es.length := by omega
    have := sentCells_at es i hl
    constructor
    · rw [show 0 + i * 2 = i * 2 by omega, h.cellAt _ (by omega), this.1, secAt_eq _ _ hl]
    · rw [show 0 + i * 2 + 1 = i * 2 + 1 by omega, h.cellAt _ (by omega), this.2, valAt_eq _ _ hl]

theorem rise_sec {es : List Snt} {n : Nat} (h : Rise n (es.map Snt.sec)) : ∀ j k, j < k → k < es.length → secAt es j < secAt es k := by
  intro j k hjk hk
  rw [secAt_eq _ _ (by omega), secAt_eq _ _ hk]
  have := List.pairwise_iff_getElem.1 h.1 j k (by simp; omega) (by simpa using hk) hjk
  simp at this
  omega

theorem rising_len (l : List Nat) (n : Nat) : ∀ m, m ≤ n → l.Pairwise (· < ·) → (∀ x ∈ l, m ≤ x ∧ x < n) → l.length + m ≤ n := by
  induction l with
  | nil => intro m hm _ _; simpa using hm
  | cons a l ih =>
    intro m hm hp hx
    rw [List.pairwise_cons] at hp
    have ha := hx a (by simp)
    have := ih (m + 1) (by omega) hp.2 (fun x hx' => ⟨by have := hp.1 x hx'; omega, (hx x (by simp [hx'])).2⟩)
    simp
    omega

theorem rise_len {es : List Snt} {n : Nat} (h : Rise n (es.map Snt.sec)) : es.length ≤ n := by
  have := rising_len (es.map Snt.sec) n 0 (Nat.zero_le _) h.1 (fun x hx => ⟨Nat.zero_le _, h.2 x hx⟩)
  simpa using this

/-- What put leaves. -/
def Put (w : World) (e : Ep) (n i : Nat) (bs : List Int) (r : Ending) (w' : World) : Prop :=
  ∃ e' : Ep, r = .returned e'.v ∧ e'.ok w' n ∧ e'.ab = putE i bs e.ab ∧ Upd (· ∈ e.foot) w w' ∧ (∀ x ∈ e'.foot, x ∈ e.foot ∨ w.heap.size ≤ x) ∧ e'.foot.Nodup ∧ e'.es ≠ []

theorem ab_fst (es : List Snt) (j : Nat) (h : j < (es.map Snt.ab).length) : ((es.map Snt.ab)[j]).1 = (es[j]'(by simpa using h)).sec := by simp [Snt.ab]

/-- A write that is there gets other bytes. -/
theorem put_set {w w' : World} {e : Ep} {n i k : Nat} {bs : List Int} (he : e.ok w n) (hnd : e.foot.Nodup) (hk : k < e.es.length) (hik : e.es[k].sec = i) (h1 : ∀ j, j < k → secAt e.es j < i) (hbl : bs.length = 128)
    (hU : Upd (· = e.es[k].blk) w w') (hw : w'.ownsRow 0 5 1 e.es[k].val 128 (bs.map (Value.int .u8))) : Put w e n i bs (.returned e.v) w' := by
  obtain ⟨s, hs⟩ : ∃ s, s = e.es[k] := ⟨_, rfl⟩
  rw [← hs] at hik hU hw
  have hmem : s ∈ e.es := by rw [hs]; exact List.getElem_mem hk
  have hsplit : e.es = e.es.take k ++ s :: e.es.drop (k + 1) := by rw [hs]; simp
  have hset : e.es.set k { s with bs := bs } = e.es.take k ++ { s with bs := bs } :: e.es.drop (k + 1) := by
    rw [List.set_eq_take_append_cons_drop, if_pos hk]
  have hmapb : (e.es.set k { s with bs := bs }).map Snt.blk = e.es.map Snt.blk := by
    rw [hset]
    conv => rhs; rw [hsplit]
    simp
  have hmaps : (e.es.set k { s with bs := bs }).map Snt.sec = e.es.map Snt.sec := by
    rw [hset]
    conv => rhs; rw [hsplit]
    simp
  have hcells : sentCells (e.es.set k { s with bs := bs }) = sentCells e.es := by
    rw [hset]
    conv => rhs; rw [hsplit]
    simp [sentCells, Snt.val]
  have hfoot : ({ v := e.v, es := e.es.set k { s with bs := bs } } : Ep).foot = e.foot := by simp only [Ep.foot, hmapb]
  have hblk : s.blk ∈ e.foot := by simp only [Ep.foot, List.mem_append, List.mem_map]; exact .inr ⟨s, hmem, rfl⟩
  have hnd2 := hnd
  simp only [Ep.foot, List.nodup_append] at hnd2
  refine ⟨{ v := e.v, es := e.es.set k { s with bs := bs } }, rfl, ⟨?_, ?_, by rw [show ({ v := e.v, es := e.es.set k { s with bs := bs } } : Ep).es = e.es.set k { s with bs := bs } from rfl, hmaps]; exact he.rise⟩, ?_, hU.mono (fun x _ hx => hx ▸ hblk), fun x hx => .inl (by rwa [hfoot] at hx), by rw [hfoot]; exact hnd, ?_⟩
  · simp only [List.length_set, hcells]
    refine hU.own he.row fun x hx he' => ?_
    have : x ∈ vb e.v := by simp [vb, hx]
    exact hnd2.2.2 x this s.blk (List.mem_map.2 ⟨s, hmem, rfl⟩) he'
  · intro u hu
    simp only [hset, List.mem_append, List.mem_cons] at hu
    have hother : ∀ u ∈ e.es, u.blk ≠ s.blk → u.ok w' := fun u hu hne => (he.es u hu).frame (hU.block _ (he.es u hu).lt hne)
    have hndb := hnd2.2.1
    rw [hsplit, List.map_append, List.map_cons, List.nodup_append, List.nodup_cons] at hndb
    rcases hu with hu | rfl | hu
    · exact hother u (List.mem_of_mem_take hu) (hndb.2.2 u.blk (List.mem_map.2 ⟨u, hu, rfl⟩) s.blk (by simp))
    · exact ⟨hbl, hw⟩
    · refine hother u (List.mem_of_mem_drop hu) (fun e => hndb.2.1.1 (List.mem_map.2 ⟨u, hu, e⟩))
  · have hki : (e.es.map Snt.ab).length = e.es.length := by simp
    rw [show e.ab = e.es.map Snt.ab from rfl, putE_set i bs (e.es.map Snt.ab) k (by omega) ?_ ?_]
    · simp only [Ep.ab, hset, List.map_append, List.map_cons]
      rw [List.set_eq_take_append_cons_drop, if_pos (by omega), List.map_take, List.map_drop]
      simp [Snt.ab, hik]
    · intro j h hj
      rw [ab_fst]
      have := h1 j hj
      rw [secAt_eq _ _ (by omega)] at this
      omega
    · rw [ab_fst, ← hs]; exact hik
  · intro h
    have : (e.es.set k { s with bs := bs }).length = 0 := by
      have := congrArg List.length h
      simpa using this
    simp at this
    rw [this] at hk
    simp at hk

/-- A write that is not there is put in. -/
theorem put_new {w w1 w' : World} {e : Ep} {n i k gb cb : Nat} {bs : List Int} {v' : Value} (he : e.ok w n) (hnd : e.foot.Nodup) (hi : i < n) (hk : k ≤ e.es.length) (h1 : ∀ j, j < k → secAt e.es j < i) (h2 : ∀ j, k ≤ j → j < e.es.length → (i : Int) < secAt e.es j) (hbl : bs.length = 128)
    (hB : Below w.heap.size w w1) (hgb : w.heap.size ≤ gb) (hgb1 : gb < w1.heap.size) (hgo : w1.ownsRow 0 5 1 (.slice (some ⟨gb, 0, none⟩) 128 cb) 128 (bs.map (Value.int .u8)))
    (hU : Upd (fun x => e.v.ownBlock = some x) w1 w') (hrow : w'.ownsRow 0 108 2 v' (e.es.length + 1) ((sentCells e.es).take (k * 2) ++ ([.int .i64 i, .slice (some ⟨gb, 0, none⟩) 128 cb] ++ (sentCells e.es).drop (k * 2))))
    (hv : v'.ownBlock = e.v.ownBlock ∨ ∀ x, v'.ownBlock = some x → w1.heap.size ≤ x) : Put w e n i bs (.returned v') w' := by
  have hnd2 := hnd
  simp only [Ep.foot, List.nodup_append] at hnd2
  have hU' : Upd (· ∈ e.foot) w w' := (Upd.of_below hB).trans hU (fun x _ hx => by simp [Ep.foot, vb, hx])
  have hlt := he.lt
  have hm : (e.es.take k ++ ⟨i, gb, cb, bs⟩ :: e.es.drop k).map Snt.blk = (e.es.map Snt.blk).take k ++ gb :: (e.es.map Snt.blk).drop k := by simp [List.map_take, List.map_drop]
  have hperm : ((e.es.take k ++ (⟨i, gb, cb, bs⟩ : Snt) :: e.es.drop k).map Snt.blk).Perm (gb :: e.es.map Snt.blk) := by
    rw [hm]
    refine List.perm_middle.trans (List.Perm.cons _ ?_)
    rw [List.take_append_drop]
  have hold : ∀ s ∈ e.es, s.ok w' := fun s hs => by
    have hl := (he.es s hs).lt
    refine (he.es s hs).frame ((hU.block _ (Nat.lt_of_lt_of_le hl hB.size) ?_).trans (hB.block _ hl))
    intro hx
    exact hnd2.2.2 s.blk (by simp [vb, hx]) s.blk (List.mem_map.2 ⟨s, hs, rfl⟩) rfl
  refine ⟨{ v := v', es := e.es.take k ++ ⟨i, gb, cb, bs⟩ :: e.es.drop k }, rfl, ⟨?_, ?_, ?_⟩, ?_, hU', ?_, ?_, by simp⟩
  · rw [sentCells_append, show sentCells ((⟨i, gb, cb, bs⟩ : Snt) :: e.es.drop k) = [.int .i64 i, .slice (some ⟨gb, 0, none⟩) 128 cb] ++ sentCells (e.es.drop k) by simp [sentCells, Snt.val], ← sentCells_take, ← sentCells_drop]
    have hl : (e.es.take k ++ (⟨i, gb, cb, bs⟩ : Snt) :: e.es.drop k).length = e.es.length + 1 := by simp; omega
    rw [hl]
    exact hrow
  · intro u hu
    simp only [List.mem_append, List.mem_cons] at hu
    rcases hu with hu | rfl | hu
    · exact hold u (List.mem_of_mem_take hu)
    · refine ⟨hbl, hU.own hgo fun x hx he' => ?_⟩
      simp [Value.ownBlock, Snt.val] at hx
      subst hx
      have := own_lt he.row (k := gb) (by simp [vb, he'])
      omega
    · exact hold u (List.mem_of_mem_drop hu)
  · have hr := he.rise
    constructor
    · simp only [List.map_append, List.map_cons]
      have hsp : e.es.map Snt.sec = (e.es.take k).map Snt.sec ++ (e.es.drop k).map Snt.sec := by rw [← List.map_append, List.take_append_drop]
      have hp := hr.1
      rw [hsp, List.pairwise_append] at hp
      have hA : ∀ x ∈ (e.es.take k).map Snt.sec, x < i := by
        intro x hx
        obtain ⟨s, hs, rfl⟩ := List.mem_map.1 hx
        obtain ⟨j, hj, rfl⟩ := List.getElem_of_mem hs
        simp at hj
        have := h1 j (by omega)
        rw [secAt_eq _ _ (by omega)] at this
        simp
        omega
      have hB' : ∀ x ∈ (e.es.drop k).map Snt.sec, i < x := by
        intro x hx
        obtain ⟨s, hs, rfl⟩ := List.mem_map.1 hx
        obtain ⟨j, hj, rfl⟩ := List.getElem_of_mem hs
        simp at hj
        have := h2 (k + j) (by omega) (by omega)
        rw [secAt_eq _ _ (by omega)] at this
        simp
        omega
      rw [List.pairwise_append, List.pairwise_cons]
      refine ⟨hp.1, ⟨hB', hp.2.1⟩, fun x hx y hy => ?_⟩
      rw [List.mem_cons] at hy
      rcases hy with rfl | hy
      · exact hA x hx
      · exact Nat.lt_trans (hA x hx) (hB' y hy)
    · intro x hx
      simp only [List.map_append, List.map_cons, List.mem_append, List.mem_cons] at hx
      rcases hx with hx | rfl | hx
      · exact hr.2 x (List.mem_map.2 (by obtain ⟨s, hs, h⟩ := List.mem_map.1 hx; exact ⟨s, List.mem_of_mem_take hs, h⟩))
      · exact hi
      · exact hr.2 x (List.mem_map.2 (by obtain ⟨s, hs, h⟩ := List.mem_map.1 hx; exact ⟨s, List.mem_of_mem_drop hs, h⟩))
  · rw [show e.ab = e.es.map Snt.ab from rfl, putE_at i bs (e.es.map Snt.ab) k (by simpa using hk) ?_ ?_]
    · simp [Ep.ab, Snt.ab, List.map_take, List.map_drop]
    · intro j h hj
      rw [ab_fst]
      have hj' : j < e.es.length := by simpa using h
      have := h1 j hj
      rw [secAt_eq _ _ hj'] at this
      omega
    · intro j h hj
      rw [ab_fst]
      have hj' : j < e.es.length := by simpa using h
      have := h2 j hj hj'
      rw [secAt_eq _ _ hj'] at this
      omega
  · intro x hx
    simp only [Ep.foot, List.mem_append] at hx
    rcases hx with hx | hx
    · have hx' : v'.ownBlock = some x := by simpa [vb] using hx
      rcases hv with hv | hv
      · exact .inl (by simp [Ep.foot, vb, ← hv, hx'])
      · exact .inr (Nat.le_trans hB.size (hv x hx'))
    · have := hperm.mem_iff.1 hx
      rw [List.mem_cons] at this
      rcases this with rfl | this
      · exact .inr hgb
      · exact .inl (by simp only [Ep.foot, List.mem_append]; exact .inr this)
  · simp only [Ep.foot, List.nodup_append]
    refine ⟨by simp only [vb]; cases v'.ownBlock <;> simp, hperm.nodup_iff.2 (List.nodup_cons.2 ⟨fun hx => ?_, hnd2.2.1⟩), fun x hx y hy he' => ?_⟩
    · have := hlt gb (by simp only [Ep.foot, List.mem_append]; exact .inr hx)
      omega
    · subst he'
      have hx' : v'.ownBlock = some x := by simpa [vb] using hx
      have := hperm.mem_iff.1 hy
      rw [List.mem_cons] at this
      rcases hv with hv | hv
      · have hx2 : x ∈ vb e.v := by simp [vb, ← hv, hx']
        rcases this with rfl | this
        · have := own_lt he.row hx2
          omega
        · exact hnd2.2.2 x hx2 x this rfl
      · have h3 := hv x hx'
        rcases this with rfl | this
        · omega
        · have := hlt x (by simp only [Ep.foot, List.mem_append]; exact .inr this)
          have := hB.size
          omega

end Go.Proofs.YtkmnhpnlkmiiiaaGreatDoor
