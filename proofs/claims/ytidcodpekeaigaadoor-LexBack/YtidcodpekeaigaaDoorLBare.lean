/- Tokens without places: the walk. -/
import Derived.Test.YtidcodpekeaigaaDoorLAhead
namespace Go.Proofs.YtidcodpekeaigaaDoor
open Go.RowKit
set_option linter.unusedVariables false

/-- Tokens as they are read in a slice. -/
def Trd (w : World) (v : Value) (l : List Tok) : Prop :=
  ∃ a c, v = .slice a l.length c ∧ l.length ≤ c ∧ c ≤ maxLen ∧ (0 < l.length → ∃ g o, a = some ⟨g, o, none⟩ ∧ g < w.heap.size ∧ ∀ j (h : j < l.length),
    w.cell? ⟨g, o + j * 4, none⟩ = some (.int .i64 l[j].kind) ∧ w.cell? ⟨g, o + j * 4 + 1, none⟩ = some (.int .i64 l[j].at_) ∧ w.cell? ⟨g, o + j * 4 + 2, none⟩ = some (.string l[j].text) ∧ w.cell? ⟨g, o + j * 4 + 3, none⟩ = some (.int .i64 l[j].num))

theorem Trd.own {w : World} {B : Nat} {v : Value} {l : List Tok} (h : w.ownsRow B 33 4 v l.length (toks l)) : Trd w v l := by
  obtain ⟨a, c, rfl, h1, h2⟩ := own_shape h
  refine ⟨a, c, rfl, h1, h2, fun hl => ?_⟩
  obtain ⟨g, d, e⟩ := own_some h hl
  cases e
  refine ⟨g, 0, rfl, (h.lt g rfl).2, fun j hj => ?_⟩
  have := toks_cells h j hj
  simpa using this
theorem Trd.below {w w' : World} {v : Value} {l : List Tok} (h : Trd w v l) (hb : Below w.heap.size w w') : Trd w' v l := by
  obtain ⟨a, c, rfl, h1, h2, h3⟩ := h
  refine ⟨a, c, rfl, h1, h2, fun hl => ?_⟩
  obtain ⟨g, o, e, hg, hc⟩ := h3 hl
  refine ⟨g, o, e, Nat.lt_of_lt_of_le hg hb.size, fun j hj => ?_⟩
  obtain ⟨c0, c1, c2, c3⟩ := hc j hj
  exact ⟨(hb.cell (p := ⟨g, _, none⟩) hg).trans c0, (hb.cell (p := ⟨g, _, none⟩) hg).trans c1, (hb.cell (p := ⟨g, _, none⟩) hg).trans c2, (hb.cell (p := ⟨g, _, none⟩) hg).trans c3⟩

/-- The tokens behind the first one. -/
theorem Trd.tail {w : World} {g o c : Nat} {t : Tok} {l : List Tok} (h : Trd w (.slice (some ⟨g, o, none⟩) (l.length + 1) c) (t :: l)) :
    ∃ v', Trd w v' l ∧ ∀ W : World, (Instr.slice 22 (.slice (some ⟨g, o, none⟩) (l.length + 1) c) (some (.int .i64 1)) none none).run Tryd.prog W = .ok v' W := by
  obtain ⟨a, c', e, h1, h2, h3⟩ := h
  cases e
  obtain ⟨g', o', e, hg, hc⟩ := h3 (by simp)
  cases e
  have hsz : ∀ W : World, (sizeOf 33).run Tryd.prog W = .ok 4 W := fun W => by kernel_rfl
  refine ⟨sliced (some ⟨g, o, none⟩) 1 (l.length + 1) c 4, ⟨_, c - 1, by simp [sliced]; rfl, by simp at h1; omega, by omega, fun hl => ?_⟩, fun W => ?_⟩
  · simp at h1
    have hne : ¬ c = 1 := by omega
    refine ⟨g, o + 4, by rw [if_neg hne]; simp [Addr.add_lit], hg, fun j hj => ?_⟩
    obtain ⟨c0, c1, c2, c3⟩ := hc (j + 1) (by simpa using hj)
    rw [show o + (j + 1) * 4 = o + 4 + j * 4 by omega] at c0 c1 c2 c3
    exact ⟨c0, c1, c2, c3⟩
  · rw [run_slice_l (P := Tryd.prog) W 22 (some ⟨g, o, none⟩) (l.length + 1) c Tryd.underlying22 .i64 1 (by omega) (by omega)]
    have := hsz W
    rw [show Tryd.prog.elem 22 = 33 by kernel_rfl, this]
    rfl

set_option maxHeartbeats 4000000 in
theorem bare_any (v : Value) (l : List Tok) (w : World) (h : Trd w v l) (hn : l.length ≤ 5000) :
    Calls Tryd.prog 9 #[v] w fun e w' => ∃ v', e = .returned v' ∧ w'.ownsRow w.heap.size 33 4 v' l.length (toks (l.map bareT)) ∧ Below w.heap.size w w' := by
  obtain ⟨i0, hi0, hz0, hz1, hz2⟩ := info_parts Tryd.infoTT
  have HT := hid h
  obtain ⟨a, c, rfl, h1, h2, _⟩ := h
  obtain ⟨n, gn⟩ : ∃ n, n = l.length := ⟨_, rfl⟩
  rw [← gn] at hn ⊢
  have GN := hid gn
  have H1 := hid h1
  clear gn h1 h2
  go_enter Tryd.func9, Tryd.ntmps9
  go_wp2_with fail
  go_loopw [8, 3] (fun k q wr => ∃ j : Nat, j ≤ n ∧ k = .int .i64 j ∧ Hid (wr.ownsRow w.heap.size 33 4 q j (toks ((l.take j).map bareT))) ∧ Hid (Below w.heap.size w wr)) (fun k _ _ => n - (intOf k).toNat)
  case atStart => exact ⟨0, Nat.zero_le _, rfl, hid (World.ownsRow_nil _ _ _ _), hid (Below.refl _ _)⟩
  case round =>
    obtain ⟨j, hj, rfl, HO, HB⟩ := hrel
    by_cases hlt : j < n
    · have hjl : j < l.length := by rw [← GN.out]; exact hlt
      have ht := HT.out.below HB.out
      obtain ⟨a', c', e, _, _, h3⟩ := ht
      cases e
      obtain ⟨g, o, rfl, hg, hc⟩ := h3 (by omega)
      obtain ⟨p0, p1, p2, p3⟩ := hc j hjl
      have HTK : Hid (toks ((l.take (j + 1)).map bareT) = toks ((l.take j).map bareT) ++ tokc (bareT l[j])) := hid (by rw [List.take_succ_eq_append_getElem hjl, List.map_append, List.map_cons, List.map_nil, toks_snoc])
      obtain ⟨t, gt⟩ : ∃ t, t = l[j] := ⟨_, rfl⟩
      rw [← gt] at p0 p1 p2 p3 HTK
      clear gt hc h3
      by_cases e2 : t.kind = 2
      · rw [e2] at p0
        have HTC : Hid (tokc (bareT t) = [Value.int .i64 2, .int .i64 0, .string ⟨#[]⟩, .int .i64 t.num]) := hid (by simp [tokc, bareT, e2])
        have hb3 : Below wr.heap.size wr ((wr.alloc (.cells #[.int .i64 2, .int .i64 0, .string ⟨#[]⟩, .int .i64 t.num] 33)).alloc (.cells #[.int .i64 2, .int .i64 0, .string ⟨#[]⟩, .int .i64 t.num] 33)) := (below_one wr _).trans ((below_one (wr.alloc (.cells #[.int .i64 2, .int .i64 0, .string ⟨#[]⟩, .int .i64 t.num] 33)) _).mono (below_one wr _).size)
        have HCEL : Hid (∀ a x, [Value.int .i64 2, .int .i64 0, .string ⟨#[]⟩, .int .i64 t.num][a]? = some x → ((wr.alloc (.cells #[.int .i64 2, .int .i64 0, .string ⟨#[]⟩, .int .i64 t.num] 33)).alloc (.cells #[.int .i64 2, .int .i64 0, .string ⟨#[]⟩, .int .i64 t.num] 33)).cell? ((⟨wr.heap.size + 1, 0, none⟩ : Addr).add a) = some x) := by
          refine hid (fun a x hx => ?_)
          have hh := heap_alloc_new (wr.alloc (.cells #[.int .i64 2, .int .i64 0, .string ⟨#[]⟩, .int .i64 t.num] 33)) (.cells #[.int .i64 2, .int .i64 0, .string ⟨#[]⟩, .int .i64 t.num] 33)
          rw [show (wr.alloc (.cells #[.int .i64 2, .int .i64 0, .string ⟨#[]⟩, .int .i64 t.num] 33)).heap.size = wr.heap.size + 1 by simp] at hh
          rw [Addr.add_lit, Nat.zero_add]
          exact heap_cells hh a x (by simpa using hx)
        have HO2 := hid (own_below HO.out hb3)
        have HMX : Hid (j + 1 ≤ maxLen) := hid (by unfold maxLen; omega)
        have HBY : Hid ((j + 1) * 40 ≤ 140737488355328) := hid (by omega)
        have HBS := hid (Nat.le_trans HB.out.size hb3.size)
        have HB3 := hid (HB.out.trans (hb3.mono HB.out.size))
        clear hb3
        go_wp2_with (at_builtin; go_must (refine wpList_append_own _ rfl (.tmp 17) (.tmp 19) 22 rfl w.heap.size 33 i0 _ 4 40 Tryd.underlying22 hi0 hz0 hz1 hz2 rfl (by decide) _ j (toks ((l.take j).map bareT)) rfl HO2.out ⟨wr.heap.size + 1, 0, none⟩ 1 1 [Value.int .i64 2, .int .i64 0, .string ⟨#[]⟩, .int .i64 t.num] rfl rfl HCEL.out (by simp [Value.oneCell']) HMX.out HBY.out HBS.out ?_; intro v4 w4 ho4 hg4 hn4))
        have HO4 : Hid (w4.ownsRow w.heap.size 33 4 v4 (j + 1) (toks ((l.take (j + 1)).map bareT))) := hid (by rw [HTK.out, HTC.out]; exact ho4)
        have HB4 : Hid (Below w.heap.size w w4) := hid (HB3.out.trans ((Upd.of_grown hg4).below HBS.out (fun x hx => (HO2.out.lt x hx.symm).1)))
        clear ho4 hg4 hn4
        go_wp2_with fail
        go_roundw
        case rel => exact ⟨j + 1, by omega, by go_num, HO4, HB4⟩
        case measure => simp [intOf]; omega
      · have HTC : Hid (tokc (bareT t) = [Value.int .i64 t.kind, .int .i64 0, .string t.text, .int .i64 t.num]) := hid (by simp [tokc, bareT, e2])
        have hb3 : Below wr.heap.size wr ((wr.alloc (.cells #[.int .i64 t.kind, .int .i64 0, .string t.text, .int .i64 t.num] 33)).alloc (.cells #[.int .i64 t.kind, .int .i64 0, .string t.text, .int .i64 t.num] 33)) := (below_one wr _).trans ((below_one (wr.alloc (.cells #[.int .i64 t.kind, .int .i64 0, .string t.text, .int .i64 t.num] 33)) _).mono (below_one wr _).size)
        have HCEL : Hid (∀ a x, [Value.int .i64 t.kind, .int .i64 0, .string t.text, .int .i64 t.num][a]? = some x → ((wr.alloc (.cells #[.int .i64 t.kind, .int .i64 0, .string t.text, .int .i64 t.num] 33)).alloc (.cells #[.int .i64 t.kind, .int .i64 0, .string t.text, .int .i64 t.num] 33)).cell? ((⟨wr.heap.size + 1, 0, none⟩ : Addr).add a) = some x) := by
          refine hid (fun a x hx => ?_)
          have hh := heap_alloc_new (wr.alloc (.cells #[.int .i64 t.kind, .int .i64 0, .string t.text, .int .i64 t.num] 33)) (.cells #[.int .i64 t.kind, .int .i64 0, .string t.text, .int .i64 t.num] 33)
          rw [show (wr.alloc (.cells #[.int .i64 t.kind, .int .i64 0, .string t.text, .int .i64 t.num] 33)).heap.size = wr.heap.size + 1 by simp] at hh
          rw [Addr.add_lit, Nat.zero_add]
          exact heap_cells hh a x (by simpa using hx)
        have HO2 := hid (own_below HO.out hb3)
        have HMX : Hid (j + 1 ≤ maxLen) := hid (by unfold maxLen; omega)
        have HBY : Hid ((j + 1) * 40 ≤ 140737488355328) := hid (by omega)
        have HBS := hid (Nat.le_trans HB.out.size hb3.size)
        have HB3 := hid (HB.out.trans (hb3.mono HB.out.size))
        clear hb3
        go_wp2_with (at_builtin; go_must (refine wpList_append_own _ rfl (.tmp 17) (.tmp 19) 22 rfl w.heap.size 33 i0 _ 4 40 Tryd.underlying22 hi0 hz0 hz1 hz2 rfl (by decide) _ j (toks ((l.take j).map bareT)) rfl HO2.out ⟨wr.heap.size + 1, 0, none⟩ 1 1 [Value.int .i64 t.kind, .int .i64 0, .string t.text, .int .i64 t.num] rfl rfl HCEL.out (by simp [Value.oneCell']) HMX.out HBY.out HBS.out ?_; intro v4 w4 ho4 hg4 hn4))
        have HO4 : Hid (w4.ownsRow w.heap.size 33 4 v4 (j + 1) (toks ((l.take (j + 1)).map bareT))) := hid (by rw [HTK.out, HTC.out]; exact ho4)
        have HB4 : Hid (Below w.heap.size w w4) := hid (HB3.out.trans ((Upd.of_grown hg4).below HBS.out (fun x hx => (HO2.out.lt x hx.symm).1)))
        clear ho4 hg4 hn4
        go_wp2_with fail
        go_roundw
        case rel => exact ⟨j + 1, by omega, by go_num, HO4, HB4⟩
        case measure => simp [intOf]; omega
    · obtain rfl : j = n := by omega
      go_wp2_with fail
      go_ret
      have e3 : l.take j = l := List.take_of_length_le (by rw [GN.out]; exact Nat.le_refl _)
      have := HO.out
      rw [e3] at this
      exact ⟨_, rfl, this, HB.out⟩

end Go.Proofs.YtidcodpekeaigaaDoor
