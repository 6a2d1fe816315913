/- What becomes of a disk's memory when it is written to: the steps of Write, without the walk. -/
import Derived.Test.YtkmnhpnlkmiiiaaGreatDoorDSec
namespace Go.Proofs.YtkmnhpnlkmiiiaaGreatDoor
open Go.RowKit
set_option linter.unusedVariables false

theorem nodup_swap {A B B' : List Nat} {N : Nat} (h : (A ++ B).Nodup) (hB : B'.Nodup) (hs : ∀ x ∈ B', x ∈ B ∨ N ≤ x) (hA : ∀ x ∈ A, x < N) : (A ++ B').Nodup := by
  rw [List.nodup_append] at h ⊢
  refine ⟨h.1, hB, fun a ha b hb e => ?_⟩
  subst e
  rcases hs a hb with h' | h'
  · exact h.2.2 a ha a h' rfl
  · have := hA a ha; omega

theorem foot_split (d : Dk) (p : Nat) (init : List Ep) (e : Ep) (h : d.eps = init ++ [e]) : d.foot p = (p :: d.gd :: d.gw :: (vb d.ve ++ init.flatMap Ep.foot)) ++ e.foot := by
  simp [Dk.foot, h]

/-- Which blocks an object has behind a call: those that it had, or new ones. -/
def Grew (w : World) (F F' : List Nat) : Prop := ∀ x ∈ F', x ∈ F ∨ w.heap.size ≤ x

theorem Grew.refl (w : World) (F : List Nat) : Grew w F F := fun _ h => .inl h

theorem Dk.ok.wrote {d : Dk} {w1 w2 w4 : World} {p i ge ce : Nat} {init : List Ep} {e e' : Ep} {bs : List Int} (hok : d.ok w1 p) (heps : d.eps = init ++ [e]) (hve : d.ve = .slice (some ⟨ge, 0, none⟩) (init.length + 1) ce)
    (he' : e'.ok w2 d.n) (hU2 : Upd (· ∈ e.foot) w1 w2) (hf : ∀ x ∈ e'.foot, x ∈ e.foot ∨ w1.heap.size ≤ x) (hnd : e'.foot.Nodup)
    (hU4 : Upd (fun x => x = ge ∨ x = d.gw) w2 w4) (hrow : w4.ownsRow 0 80 1 d.ve (init.length + 1) (init.map Ep.v ++ [e'.v]))
    (hw : w4.ownsRow 0 5 1 (.slice (some ⟨d.gw, 0, none⟩) (d.n * 128) d.cw) (d.n * 128) ((splice d.wr (i * 128) bs).map (Value.int .u8))) (hopn : d.opn = true) :
    ({ d with eps := init ++ [e'], wr := splice d.wr (i * 128) bs } : Dk).ok w4 p ∧ Upd (· ∈ d.foot p) w1 w4 ∧ Grew w1 (d.foot p) (({ d with eps := init ++ [e'], wr := splice d.wr (i * 128) bs } : Dk).foot p) := by
  have hfs := foot_split d p init e heps
  have hlt := hok.lt
  have hnd0 := hok.nodup
  rw [hfs] at hnd0 hlt
  have hfs' : ({ d with eps := init ++ [e'], wr := splice d.wr (i * 128) bs } : Dk).foot p = (p :: d.gd :: d.gw :: (vb d.ve ++ init.flatMap Ep.foot)) ++ e'.foot := foot_split _ p init e' rfl
  have hA : ∀ x ∈ p :: d.gd :: d.gw :: (vb d.ve ++ init.flatMap Ep.foot), x < w1.heap.size := fun x hx => hlt x (List.mem_append.2 (.inl hx))
  have hge : ge ∈ vb d.ve := by simp [hve, vb, Value.ownBlock]
  have hvbe : vb d.ve = [ge] := by simp [hve, vb, Value.ownBlock]
  have hnd1 := nodup_swap hnd0 hnd hf hA
  have hU : Upd (· ∈ d.foot p) w1 w4 := by
    rw [hfs]
    refine (hU2.mono (fun x _ hx => List.mem_append.2 (.inr hx))).trans hU4 (fun x _ hx => ?_)
    rcases hx with rfl | rfl
    · simp [hvbe]
    · simp
  rw [hvbe] at hnd0 hnd1 hA hfs'
  -- blocks that stay
  have hstay : ∀ x ∈ p :: d.gd :: init.flatMap Ep.foot, w4.heap[x]? = w1.heap[x]? := by
    intro x hx
    have hxA : x ∈ p :: d.gd :: d.gw :: ([ge] ++ init.flatMap Ep.foot) := by
      simp only [List.mem_cons, List.mem_append] at hx ⊢
      rcases hx with rfl | rfl | hx
      · simp
      · simp
      · exact .inr (.inr (.inr (.inr hx)))
    have hxl := hA x hxA
    have hxe : x ∉ e.foot := fun hxe => (List.nodup_append.1 hnd0).2.2 x hxA x hxe rfl
    have hne : x ≠ ge ∧ x ≠ d.gw := by
      have h1 := (List.nodup_append.1 hnd0).1
      simp only [List.nodup_cons, List.mem_cons, List.singleton_append, not_or] at h1
      simp only [List.mem_cons] at hx
      rcases hx with rfl | rfl | hx
      · exact ⟨h1.1.2.2.1, h1.1.2.1⟩
      · exact ⟨h1.2.1.2.1, h1.2.1.1⟩
      · exact ⟨fun e => h1.2.2.2.1 (e ▸ hx), fun e => h1.2.2.1.2 (e ▸ hx)⟩
    rw [hU4.block x (Nat.lt_of_lt_of_le hxl hU2.size) (by simp [hne.1, hne.2]), hU2.block x hxl hxe]
  have he4 : e'.ok w4 d.n := by
    refine he'.frame fun k hk => hU4.block k (he'.lt k hk) ?_
    have h3 := (List.nodup_append.1 hnd1).2.2
    rintro (rfl | rfl)
    · exact h3 k (by simp) k hk rfl
    · exact h3 d.gw (by simp) d.gw hk rfl
  refine ⟨⟨(hstay p (by simp)).trans hok.cells, own_of_heap hok.dur ?_, hw, ?_, ?_, by rw [hfs']; exact hnd1, hok.n1, hok.n2, fun _ => by simp⟩, hU, ?_⟩
  · intro k hk; simp [Value.ownBlock] at hk; subst hk; exact hstay _ (by simp)
  · simpa using hrow
  · intro u hu
    simp only [List.mem_append, List.mem_singleton] at hu
    rcases hu with hu | rfl
    · exact (hok.eps u (by rw [heps]; simp [hu])).frame fun k hk => hstay k (by simp only [List.mem_cons, List.mem_flatMap]; exact .inr (.inr ⟨u, hu, hk⟩))
    · exact he4
  · intro x hx
    rw [hfs'] at hx
    rw [hfs, hvbe]
    rcases List.mem_append.1 hx with hx | hx
    · exact .inl (List.mem_append.2 (.inl hx))
    · rcases hf x hx with h | h
      · exact .inl (List.mem_append.2 (.inr h))
      · exact .inr h

theorem Dk.ok.opened {d : Dk} {w w1 : World} {p : Nat} {v' : Value} (hok : d.ok w p) (hU : Upd (fun x => d.ve.ownBlock = some x) w w1) (hrow : w1.ownsRow 0 80 1 v' (d.eps.length + 1) (d.eps.map Ep.v ++ [.slice none 0 0]))
    (hv : v'.ownBlock = d.ve.ownBlock ∨ ∀ x, v'.ownBlock = some x → w.heap.size ≤ x) :
    ({ d with ve := v', eps := d.eps ++ [⟨.slice none 0 0, []⟩], opn := true } : Dk).ok ((w1.setCell ⟨p, 2, none⟩ v').setCell ⟨p, 3, none⟩ (.bool true)) p ∧ Upd (· ∈ d.foot p) w ((w1.setCell ⟨p, 2, none⟩ v').setCell ⟨p, 3, none⟩ (.bool true)) ∧
      Grew w (d.foot p) (({ d with ve := v', eps := d.eps ++ [⟨.slice none 0 0, []⟩], opn := true } : Dk).foot p) := by
  have hlt := hok.lt
  have hnd := hok.nodup
  have hUw : Upd (· = p) w1 ((w1.setCell ⟨p, 2, none⟩ v').setCell ⟨p, 3, none⟩ (.bool true)) := (Upd.setCell (F := (· = p)) w1 ⟨p, 2, none⟩ v' rfl).trans (Upd.setCell (F := (· = p)) _ ⟨p, 3, none⟩ _ rfl) (fun x _ hx => hx)
  have hU2 : Upd (· ∈ d.foot p) w ((w1.setCell ⟨p, 2, none⟩ v').setCell ⟨p, 3, none⟩ (.bool true)) := by
    refine (hU.mono (fun x _ hx => ?_)).trans hUw (fun x _ hx => ?_)
    · simp [Dk.foot, vb, hx]
    · simp [Dk.foot, hx]
  have hfoot : ({ d with ve := v', eps := d.eps ++ [⟨.slice none 0 0, []⟩], opn := true } : Dk).foot p = p :: d.gd :: d.gw :: (vb v' ++ d.eps.flatMap Ep.foot) := by
    simp [Dk.foot, Ep.foot, vb, Value.ownBlock]
  simp only [Dk.foot, List.nodup_cons, List.mem_cons, List.mem_append, not_or] at hnd
  have hpv : d.ve.ownBlock ≠ some p := fun h => hnd.1.2.2.1 (by simp [vb, h])
  have hp1 := hU.heap hok.cells hpv
  have hpl : p < w.heap.size := hlt p (by simp [Dk.foot])
  have hstay : ∀ x ∈ d.gd :: d.gw :: d.eps.flatMap Ep.foot, ((w1.setCell ⟨p, 2, none⟩ v').setCell ⟨p, 3, none⟩ (.bool true)).heap[x]? = w.heap[x]? := by
    intro x hx
    have hxF : x ∈ d.foot p := by
      simp only [Dk.foot, List.mem_cons, List.mem_append] at hx ⊢
      rcases hx with rfl | rfl | hx
      · simp
      · simp
      · exact .inr (.inr (.inr (.inr hx)))
    have hxl := hlt x hxF
    have hne : x ≠ p ∧ d.ve.ownBlock ≠ some x := by
      simp only [List.mem_cons] at hx
      rcases hx with rfl | rfl | hx
      · exact ⟨fun e => hnd.1.1 e.symm, fun h => hnd.2.1.2.1 (by simp [vb, h])⟩
      · exact ⟨fun e => hnd.1.2.1 e.symm, fun h => hnd.2.2.1.1 (by simp [vb, h])⟩
      · exact ⟨fun e => hnd.1.2.2.2 (e ▸ hx), fun h => (List.nodup_append.1 hnd.2.2.2).2.2 x (by simp [vb, h]) x hx rfl⟩
    rw [hUw.block x (Nat.lt_of_lt_of_le hxl hU.size) hne.1, hU.block x hxl hne.2]
  have hv'p : ∀ x, v'.ownBlock = some x → x ≠ p := by
    intro x hx e
    subst e
    rcases hv with hv | hv
    · exact hpv (hv ▸ hx)
    · have := hv x hx; omega
  refine ⟨⟨?_, own_of_heap hok.dur ?_, own_of_heap hok.wr ?_, ?_, ?_, ?_, hok.n1, hok.n2, fun _ => by simp⟩, hU2, ?_⟩
  · have h1 := heap_setCell_same w1 p 2 _ _ v' hp1
    have h2 := heap_setCell_same _ p 3 _ _ (.bool true) h1
    rw [h2]
    rfl
  · intro k hk; simp [Value.ownBlock] at hk; subst hk; exact hstay _ (by simp)
  · intro k hk; simp [Value.ownBlock] at hk; subst hk; exact hstay _ (by simp)
  · have : ((w1.setCell ⟨p, 2, none⟩ v').setCell ⟨p, 3, none⟩ (.bool true)).ownsRow 0 80 1 v' (d.eps.length + 1) (d.eps.map Ep.v ++ [.slice none 0 0]) := hUw.own hrow hv'p
    simpa using this
  · intro u hu
    simp only [List.mem_append, List.mem_singleton] at hu
    rcases hu with hu | rfl
    · exact (hok.eps u hu).frame fun k hk => hstay k (by simp only [List.mem_cons, List.mem_flatMap]; exact .inr (.inr ⟨u, hu, hk⟩))
    · exact ⟨World.ownsRow_nil _ _ _ _, fun s hs => by simp at hs, ⟨by simp, fun x hx => by simp at hx⟩⟩
  · rw [hfoot]
    simp only [List.nodup_cons, List.mem_cons, List.mem_append, not_or, List.nodup_append]
    have hvin : ∀ x, x ∈ vb v' → x ∈ vb d.ve ∨ w.heap.size ≤ x := by
      intro x hx
      have hx' : v'.ownBlock = some x := by simpa [vb] using hx
      rcases hv with hv | hv
      · exact .inl (by simp [vb, ← hv, hx'])
      · exact .inr (hv x hx')
    have hgd := hlt d.gd (by simp [Dk.foot])
    have hgw := hlt d.gw (by simp [Dk.foot])
    have hnd3 := List.nodup_append.1 hnd.2.2.2
    refine ⟨⟨hnd.1.1, hnd.1.2.1, fun h => ?_, hnd.1.2.2.2⟩, ⟨hnd.2.1.1, fun h => ?_, hnd.2.1.2.2⟩, ⟨fun h => ?_, hnd.2.2.1.2⟩, by simp only [vb]; cases v'.ownBlock <;> simp, hnd3.2.1, ?_⟩
    · rcases hvin p h with h' | h'
      · exact hnd.1.2.2.1 h'
      · omega
    · rcases hvin _ h with h' | h'
      · exact hnd.2.1.2.1 h'
      · omega
    · rcases hvin _ h with h' | h'
      · exact hnd.2.2.1.1 h'
      · omega
    · intro a ha b hb e
      subst e
      rcases hvin a ha with h' | h'
      · exact hnd3.2.2 a h' a hb rfl
      · have := hlt a (by simp only [Dk.foot, List.mem_cons, List.mem_append]; exact .inr (.inr (.inr (.inr hb))))
        omega
  · intro x hx
    rw [hfoot] at hx
    simp only [List.mem_cons, List.mem_append] at hx
    simp only [Dk.foot, List.mem_cons, List.mem_append]
    rcases hx with rfl | rfl | rfl | hx | hx
    · simp
    · simp
    · simp
    · have hx' : v'.ownBlock = some x := by simpa [vb] using hx
      rcases hv with hv | hv
      · exact .inl (.inr (.inr (.inr (.inl (by simp [vb, ← hv, hx'])))))
      · exact .inr (hv x hx')
    · exact .inl (.inr (.inr (.inr (.inr hx))))

end Go.Proofs.YtkmnhpnlkmiiiaaGreatDoor
