/- Whether the first process runs; its memory; what each call is; forget. -/
import Derived.Test.YtdkkohbkihaojaaGreatKTab
namespace Go.Proofs.YtdkkohbkihaojaaGreat
open Go.RowKit
set_option linter.unusedVariables false

theorem One.upd {F : Nat → Prop} {w w' : World} {a : Option Addr} (h : One w a) (u : Upd F w w') (hF : ∀ g, a = some ⟨g, 0, none⟩ → ¬ F g) : One w' a := by
  obtain ⟨g, rfl, hl, hc⟩ := h
  exact ⟨g, rfl, Nat.lt_of_lt_of_le hl u.size, (World.cell?_of_block (a := ⟨g, 0, none⟩) (u.block g hl (hF g rfl))).trans hc⟩

theorem running_one (t f : Nat) (w : World) (h : Tq w t f 0 first) :
    Calls Tryz.prog 18 #[.pointer (some ⟨t, 0, none⟩)] w fun e w' => ∃ a c, e = .returned (.slice a 1 c) ∧ One w' a ∧ (∀ g, a = some ⟨g, 0, none⟩ → w.heap.size ≤ g) ∧ Below w.heap.size w w' := by
  refine (qrunning_any t f 0 first w h).mono ?_
  rintro e w' ⟨v, rfl, hr, hv, hb⟩
  have hL : runL first 5 = [.int .i64 1] := by simp [runL, qruns, first, noProc]
  rw [hL] at hr
  rcases hr.2 with ⟨_, h0⟩ | ⟨g, c, cur, rfl, _, hg, _⟩
  · simp at h0
  · exact ⟨_, c, rfl, ⟨g, rfl, (hr.lt g rfl).2, by rw [hr.cellAt 0 (by simp)]; rfl⟩, fun x hx => by injection hx with hx; injection hx with hx; subst hx; exact hv g rfl, hb⟩

theorem kruns_one (k f t : Nat) (s : Option Addr) (w : World) (h : Kk w k f t s) :
    Calls Tryz.prog 10 #[.pointer (some ⟨k, 0, none⟩), .int .i64 1] w fun e w' => e = .returned (.bool true) ∧ Below w.heap.size w w' := by
  have c1 := h.cells 1 _ rfl
  have k1 := hid (running_one t f w h.2.1)
  clear h
  go_enter Tryz.func10, Tryz.ntmps10
  go_wp2_with fail
  refine k1.out.mono ?_
  rintro e w1 ⟨a, c, rfl, ho, _, hb⟩
  have k2 := hid (scontains_one a c 1 true w1 ho (by decide))
  have HB := hid hb
  clear ho hb k1
  go_wp2_with fail
  refine k2.out.mono ?_
  rintro e w2 ⟨rfl, rfl⟩
  go_wp2_with fail
  go_ret
  exact ⟨rfl, HB.out⟩

theorem mbuilt : (Tryz.prog.built 73 [(0, .bool true)]).isSome = true := by kernel_rfl

set_option maxHeartbeats 1000000 in
theorem mnew_some (w : World) :
    Calls Tryz.prog 19 #[] w fun e w' => e = .returned (.pointer (some ⟨w.heap.size, 0, none⟩)) ∧ Below w.heap.size w w' := by
  obtain ⟨C, gC⟩ := Option.isSome_iff_exists.1 mbuilt
  have HC := hid gC
  clear gC
  go_enter Tryz.func19, Tryz.ntmps19
  go_wp2_with (refine wpList_build_is rfl 73 #[(0, .const (.bool true))] rfl C (by simpa [Act.eval] using HC.out) ?_)
  go_ret
  exact ⟨rfl, (Below.refl _ _).alloc (Nat.le_refl _) _⟩

theorem spaceof_some (k f t s : Nat) (w : World) (h : Kk w k f t (some ⟨s, 0, none⟩)) :
    Calls Tryz.prog 12 #[.pointer (some ⟨k, 0, none⟩), .int .i64 1] w fun e w' => e = .returned (.pointer (some ⟨s, 0, none⟩)) ∧ w' = w := by
  have c3 := h.cells 3 _ rfl
  clear h
  go_enter Tryz.func12, Tryz.ntmps12
  go_wp2_with fail
  go_ret
  exact ⟨rfl, rfl⟩

set_option maxHeartbeats 1000000 in
theorem spaceof_none (k f t : Nat) (w : World) (h : Kk w k f t none) :
    Calls Tryz.prog 12 #[.pointer (some ⟨k, 0, none⟩), .int .i64 1] w fun e w' => ∃ s, e = .returned (.pointer (some ⟨s, 0, none⟩)) ∧ Kk w' k f t (some ⟨s, 0, none⟩) ∧ Upd (· = k) w w' := by
  have c3 := h.cells 3 _ rfl
  have hk := h.lt
  have ht := h.2.1.lt
  have H := hid h
  have k1 := hid (mnew_some w.drew)
  have kb : Hid (Calls Tryz.prog 19 #[] w.drew fun e w' => e = .returned (.pointer (some ⟨w.heap.size, 0, none⟩)) ∧ Below w.heap.size w w') := by
    refine hid (k1.out.mono ?_)
    rintro e w' ⟨rfl, hb⟩
    exact ⟨rfl, ⟨hb.os, hb.tape, hb.output, hb.size, hb.block⟩⟩
  clear h k1
  go_enter Tryz.func12, Tryz.ntmps12
  go_wp2_with fail
  go_region_held3 (fun _ => True) (trivial) ((go_at_call 19; refine kb.out.mono ?_; rintro e w2 ⟨rfl, hb⟩; have s3 := (H.out.below hb hk ht).cells 3 _ rfl; have s4 := (H.out.below hb hk ht).fz 3; have HB := hid hb; clear hb))
  go_wp2_with fail
  go_ret
  have h2 := H.out.below HB.out hk ht
  have u2 : Upd (· = k) w2 (w2.setCell ⟨k, 3, none⟩ (.pointer (some ⟨w.heap.size, 0, none⟩))) := Upd.setCell (F := (· = k)) w2 ⟨k, 3, none⟩ _ rfl
  refine ⟨w.heap.size, rfl, ⟨?_, h2.2.1.upd u2 (fun e => h2.2.2 e.symm), h2.2.2⟩, (Upd.of_below (F := (· = k)) HB.out).trans u2 (fun _ _ h => h)⟩
  rw [heap_setCell_same w2 k 3 _ _ _ h2.1]; rfl

end Go.Proofs.YtdkkohbkihaojaaGreat
