/- What the document's Copy, In and Out do. -/
import Derived.Test.YtnmgapnblmikeaaMRef
namespace Go.Proofs.Ytnmgapnblmikeaa
open Go.RowKit Lend
set_option linter.unusedVariables false

set_option maxHeartbeats 1000000 in
theorem rcopy_any (q g c : Nat) (zs : List Int) (w : World) (h : Rsp w q g c zs) :
    Calls Try.prog 12 #[.pointer (some ⟨q, 0, none⟩)] w fun e w' => ∃ q' g' c', e = .returned (.pointer (some ⟨q', 0, none⟩)) ∧ Rsp w' q' g' c' zs ∧ w.heap.size ≤ q' ∧ w.heap.size ≤ g' ∧ Below w.heap.size w w' := by
  obtain ⟨i0, hi, hz0, hz1, hz2⟩ := info_parts Try.linfo5
  have hb0 : Below w.heap.size w (w.alloc (.cells #[] 5)) := (Below.refl _ _).alloc (Nat.le_refl _) _
  have hcell : (w.alloc (.cells #[] 5)).cell? ⟨q, 0, none⟩ = some (.slice (some ⟨g, 0, none⟩) 2048 c) := (hb0.cell (p := ⟨q, 0, none⟩) h.qlt).trans h.cell
  obtain ⟨cs, hcs⟩ : ∃ cs, cs = zs.map (Value.int .u8) := ⟨_, rfl⟩
  have HL : Hid (cs.length = 2048 * 1) := by show _ = _; rw [hcs]; simp [h.len]
  have H1 : Hid (∀ u ∈ cs, u.oneCell' = true) := by rw [hcs]; exact ints_oneCell _ _
  have HN : Hid (∀ j u, cs[j]? = some u → (w.alloc (.cells #[] 5)).cell? ((⟨g, 0, none⟩ : Addr).add j) = some u) := by rw [hcs]; exact hid (src_cells (h.all.below hb0))
  have HO : Hid ((w.alloc (.cells #[] 5)).ownsRow w.heap.size 5 1 (.slice (some ⟨w.heap.size, 0, none⟩) 0 0) 0 []) := World.ownsRow_made w #[] 0 (Nat.le_refl _) (by unfold maxLen; omega) rfl
  have HC := hid hcs
  have HB := hid hb0
  have H := hid h
  clear hcs hb0 h
  go_enter Try.func12, Try.ntmps12
  go_wp2_with (at_builtin; go_must (refine wpList_append_own _ rfl (.tmp 3) (.tmp 7) 27 rfl w.heap.size 5 i0 (.int .u8 0) 1 1 Try.underlying27 hi hz0 hz1 hz2 rfl (by decide) (.slice (some ⟨w.heap.size, 0, none⟩) 0 0) 0 [] rfl HO.out ⟨g, 0, none⟩ 2048 c cs rfl HL.out HN.out H1.out (by unfold maxLen; omega) (by omega) (by simp) ?_))
  intro v' w1 hown hgrow hnil
  rw [HC.out] at hown
  have hb1 := HB.out.grown hgrow (by simp) (by intro q hq; simp [Value.ownBlock] at hq; omega)
  obtain ⟨g', c', rfl⟩ : ∃ g' c', v' = .slice (some ⟨g', 0, none⟩) 2048 c' := by
    rcases hown.2 with ⟨h, _⟩ | ⟨g, c, _, h, _⟩
    · exact absurd h (by simpa using hnil)
    · exact ⟨g, c, by simpa using h⟩
  have H1 := hid hown
  clear hown hgrow hnil
  go_wp2_with fail
  go_ret
  have hlt := H1.out.lt g' rfl
  refine ⟨w1.heap.size, g', c', rfl, ⟨H.out.len, H.out.bytes, heap_alloc_new w1 _, ?_⟩, hb1.size, hlt.1, hb1.alloc hb1.size _⟩
  have := own_base (H1.out.alloc (.cells #[.slice (some ⟨g', 0, none⟩) 2048 c'] 42)) (Nat.zero_le _)
  simpa using this

set_option maxHeartbeats 1000000 in
theorem rin_no (q : Nat) (addr n : Int) (w : World) (h0 : -9223372036854775808 ≤ addr) (h1 : addr ≤ 9223372036854775807) (hp : isPart addr n = false) :
    Calls Try.prog 19 #[.pointer (some ⟨q, 0, none⟩), .int .i64 addr, .int .i64 n] w fun e w' => e = .returned (.tuple #[.slice none 0 0, .int .i64 14]) ∧ w' = w := by
  have k2 := hid (rpart_any addr n w h0 h1)
  rw [hp] at k2
  clear hp
  go_enter Try.func19, Try.ntmps19
  go_wp2_with fail
  refine k2.out.mono ?_
  rintro e w1 ⟨rfl, rfl⟩
  go_wp2_with fail
  go_ret2
  exact ⟨rfl, rfl⟩

set_option maxHeartbeats 1000000 in
theorem rout_no (q n c : Nat) (addr : Int) (a0 : Option Addr) (w : World) (h0 : -9223372036854775808 ≤ addr) (h1 : addr ≤ 9223372036854775807) (hp : isPart addr n = false) :
    Calls Try.prog 15 #[.pointer (some ⟨q, 0, none⟩), .int .i64 addr, .slice a0 n c] w fun e w' => e = .returned (.int .i64 14) ∧ w' = w := by
  have k2 := hid (rpart_any addr n w h0 h1)
  rw [hp] at k2
  clear hp
  go_enter Try.func15, Try.ntmps15
  go_wp2_with fail
  refine k2.out.mono ?_
  rintro e w1 ⟨rfl, rfl⟩
  go_wp2_with fail
  go_ret
  exact ⟨rfl, rfl⟩

set_option maxHeartbeats 1000000 in
theorem rin_yes (q g c k n : Nat) (addr : Int) (zs : List Int) (w : World) (h : Rsp w q g c zs) (ha : addr = 4096 + (k : Int)) (hk : k + n ≤ 2048) :
    Calls Try.prog 19 #[.pointer (some ⟨q, 0, none⟩), .int .i64 addr, .int .i64 n] w fun e w' => ∃ g' c', e = .returned (.tuple #[.slice (some ⟨g', 0, none⟩) n c', .int .i64 0]) ∧
      w'.ownsRow w.heap.size 5 1 (.slice (some ⟨g', 0, none⟩) n c') n (((zs.drop k).take n).map (Value.int .u8)) ∧ Below w.heap.size w w' := by
  obtain ⟨i0, hi, hz0, hz1, hz2⟩ := info_parts Try.linfo5
  have k2 := hid (rpart_any addr n w (by omega) (by omega))
  have hp : isPart addr n = true := by simp [isPart]; omega
  rw [hp] at k2
  have hb0 : Below w.heap.size w (w.alloc (.cells #[] 5)) := (Below.refl _ _).alloc (Nat.le_refl _) _
  have hcell : (w.alloc (.cells #[] 5)).cell? ⟨q, 0, none⟩ = some (.slice (some ⟨g, 0, none⟩) 2048 c) := (hb0.cell (p := ⟨q, 0, none⟩) h.qlt).trans h.cell
  have hcap := h.cap
  unfold maxLen at hcap
  have hsrc := hid (fun o (ho : 0 < n → o = k) => (h.src k n o hk ho).below hb0)
  obtain ⟨T, gT⟩ : ∃ T, T = (zs.drop k).take n := ⟨_, rfl⟩
  rw [← gT] at hsrc ⊢
  have hTl : T.length = n := by rw [gT]; simp; rw [h.len]; omega
  obtain ⟨cs, hcs⟩ : ∃ cs, cs = T.map (Value.int .u8) := ⟨_, rfl⟩
  have HL : Hid (cs.length = (k + n - k) * 1) := by show _ = _; rw [hcs]; simp [hTl]
  have H1 : Hid (∀ u ∈ cs, u.oneCell' = true) := by rw [hcs]; exact ints_oneCell _ _
  have HN : Hid (∀ o, (0 < n → o = k) → ∀ j u, cs[j]? = some u → (w.alloc (.cells #[] 5)).cell? ((⟨g, o, none⟩ : Addr).add j) = some u) := by rw [hcs]; exact hid (fun o ho => src_cells (hsrc.out o ho))
  have HO : Hid ((w.alloc (.cells #[] 5)).ownsRow w.heap.size 5 1 (.slice (some ⟨w.heap.size, 0, none⟩) 0 0) 0 []) := World.ownsRow_made w #[] 0 (Nat.le_refl _) (by unfold maxLen; omega) rfl
  have HC := hid hcs
  have HB := hid hb0
  have hw : wrap64 (addr - 4096) = (k : Int) := by unfold wrap64; omega
  have hw2 : wrap64 ((k : Int) + (n : Int)) = ((k + n : Nat) : Int) := by unfold wrap64; omega
  have i1 : (0 : Int) ≤ (k : Int) := by omega
  have i2 : (k : Int) ≤ ((k + n : Nat) : Int) := by omega
  have i3 : ((k + n : Nat) : Int) ≤ (c : Int) := by omega
  have hnk : Hid (k + n - k = n) := hid (by omega)
  clear hcs hb0 h hp ha hsrc gT hTl
  by_cases hck : c = k
  · have hck' : c - k = 0 := by omega
    go_enter Try.func19, Try.ntmps19
    go_wp2_with fail
    refine k2.out.mono ?_
    rintro e w1 ⟨rfl, rfl⟩
    go_wp2_with (at_builtin; go_must (refine wpList_append_own _ rfl (.tmp 12) (.tmp 23) 27 rfl w1.heap.size 5 i0 (.int .u8 0) 1 1 Try.underlying27 hi hz0 hz1 hz2 rfl (by decide) (.slice (some ⟨w1.heap.size, 0, none⟩) 0 0) 0 [] rfl HO.out ⟨g, 0, none⟩ (k + n - k) _ cs rfl HL.out (HN.out 0 (by omega)) H1.out (by unfold maxLen; omega) (by omega) (by simp) ?_))
    intro v' w2 hown hgrow hnil
    rw [HC.out] at hown
    have hb1 := HB.out.grown hgrow (by simp) (by intro q hq; simp [Value.ownBlock] at hq; omega)
    obtain ⟨g', c', rfl⟩ : ∃ g' c', v' = .slice (some ⟨g', 0, none⟩) n c' := by
      rcases hown.2 with ⟨h, _⟩ | ⟨g, c, _, h, _⟩
      · exact absurd h (by simpa using hnil)
      · exact ⟨g, c, by simpa using h⟩
    have H1 := hid hown
    clear hown hgrow hnil
    go_wp2_with fail
    go_ret2
    exact ⟨g', c', rfl, H1.out, hb1⟩
  · have hck' : ¬ (c = k) := hck
    go_enter Try.func19, Try.ntmps19
    go_wp2_with fail
    refine k2.out.mono ?_
    rintro e w1 ⟨rfl, rfl⟩
    go_wp2_with (at_builtin; go_must (refine wpList_append_own _ rfl (.tmp 12) (.tmp 23) 27 rfl w1.heap.size 5 i0 (.int .u8 0) 1 1 Try.underlying27 hi hz0 hz1 hz2 rfl (by decide) (.slice (some ⟨w1.heap.size, 0, none⟩) 0 0) 0 [] rfl HO.out ⟨g, k, none⟩ (k + n - k) _ cs rfl HL.out (HN.out k (by omega)) H1.out (by unfold maxLen; omega) (by omega) (by simp) ?_))
    intro v' w2 hown hgrow hnil
    rw [HC.out] at hown
    have hb1 := HB.out.grown hgrow (by simp) (by intro q hq; simp [Value.ownBlock] at hq; omega)
    obtain ⟨g', c', rfl⟩ : ∃ g' c', v' = .slice (some ⟨g', 0, none⟩) n c' := by
      rcases hown.2 with ⟨h, _⟩ | ⟨g, c, _, h, _⟩
      · exact absurd h (by simpa using hnil)
      · exact ⟨g, c, by simpa using h⟩
    have H1 := hid hown
    clear hown hgrow hnil
    go_wp2_with fail
    go_ret2
    exact ⟨g', c', rfl, H1.out, hb1⟩

set_option maxHeartbeats 1000000 in
theorem rout_yes (q g c k n cb : Nat) (addr : Int) (a0 : Option Addr) (zs bs : List Int) (w : World) (h : Rsp w q g c zs) (hs : Src w a0 n bs) (hb : Bytes bs) (ha : addr = 4096 + (k : Int)) (hk : k + n ≤ 2048) :
    Calls Try.prog 15 #[.pointer (some ⟨q, 0, none⟩), .int .i64 addr, .slice a0 n cb] w fun e w' => e = .returned (.int .i64 0) ∧ Rsp w' q g c (splice zs k bs) ∧ Upd (· = g) w w' := by
  have k2 := hid (rpart_any addr n w (by omega) (by omega))
  have hp : isPart addr n = true := by simp [isPart]; omega
  rw [hp] at k2
  have hcell := h.cell
  have hcap := h.cap
  unfold maxLen at hcap
  obtain ⟨cur, hcur, hcl, hct, _, _⟩ := h.row
  have hw : wrap64 (addr - 4096) = (k : Int) := by unfold wrap64; omega
  have i1 : (0 : Int) ≤ (k : Int) := by omega
  have i2 : (k : Int) ≤ 2048 := by omega
  have H := hid h
  have HS := hid hs
  have HB := hid hb
  have HCU := hid hcur
  have HCL := hid hcl
  have HCT := hid hct
  have hfin : Hid (∀ w2, w2.heap[g]? = some (.cells (splice cur k (bs.map (Value.int .u8))).toArray 5 (0, 0)) → Upd (· = g) w w2 → Rsp w2 q g c (splice zs k bs)) := by
    refine hid (fun w2 h2 hu => ⟨?_, ?_, ?_, ?_⟩)
    · rw [length_splice _ _ _ (by rw [hs.1, h.len]; omega), h.len]
    · unfold splice
      exact (h.bytes.take _).append (hb.append (h.bytes.drop _))
    · exact hu.heap h.head (fun e => h.nqg h (by simpa using e))
    · have hl1 : (bs.map (Value.int .u8)).length = n := by rw [List.length_map, hs.1]
      have hl2 : (splice cur k (bs.map (Value.int .u8))).length = c := by rw [length_splice _ _ _ (by rw [hl1, hcl]; omega), hcl]
      have hst : (splice cur k (bs.map (Value.int .u8))).take 2048 = (splice zs k bs).map (Value.int .u8) := by
        have e1 : (splice zs k bs).map (Value.int .u8) = splice (zs.map (Value.int .u8)) k (bs.map (Value.int .u8)) := by
          simp [splice, List.map_append, List.map_take, List.map_drop]
        rw [e1, ← hct]
        apply List.ext_getElem?
        intro j
        simp only [splice, List.getElem?_take, List.getElem?_append, List.getElem?_drop, List.length_take, hcl, hl1]
        by_cases hj : j < 2048
        · simp only [hj, if_true]
          by_cases h1 : j < min k c
          · rw [if_pos h1, if_pos (show j < min k (min 2048 c) by omega)]
          · rw [if_neg h1, if_neg (show ¬ j < min k (min 2048 c) by omega)]
            rw [show min k c = k by omega, show min k (min 2048 c) = k by omega]
            by_cases h2 : j - k < n
            · rw [if_pos h2, if_pos h2]
            · rw [if_neg h2, if_neg h2, if_pos (by omega)]
        · simp only [hj, if_false]
          rw [if_neg (show ¬ j < min k (min 2048 c) by omega), if_neg (by omega), if_neg (by omega)]
      refine ⟨by simp; rw [length_splice _ _ _ (by rw [hs.1, h.len]; omega), h.len], .inr ⟨g, c, (splice cur k (bs.map (Value.int .u8))).toArray, rfl, Nat.zero_le _, h2, by omega, by unfold maxLen; omega, by simp [hl2], ?_⟩⟩
      simpa using hst
  clear h hs hb ha hp hcur hcl hct
  by_cases hck : c = k
  · have hck' : c - k = 0 := by omega
    go_enter Try.func15, Try.ntmps15
    go_wp2_with fail
    refine k2.out.mono ?_
    rintro e w1 ⟨rfl, rfl⟩
    go_wp2_with (refine wpList_copy_upd rfl (.tmp 18) (.tmp 19) 27 27 rfl 5 Try.underlying27 csize5 (some ⟨g, 0, none⟩) a0 (2048 - k) _ n cb rfl rfl g k cur 5 HCU.out (bs.map (Value.int .u8)) ?_ ?_ ?_ ?_ ?_)
    case refine_1 => rw [List.length_map, HS.out.1]; exact (Nat.min_eq_left (by omega)).symm
    case refine_2 =>
      intro hl
      rw [List.length_map, HS.out.1] at hl
      obtain ⟨b, x, rfl, _, hc⟩ := HS.out.2 hl
      exact ⟨absurd hl (by omega), _, rfl, src_cells HS.out⟩
    case refine_3 => rw [List.length_map, HS.out.1, HCL.out]; omega
    case refine_4 => exact ints_oneCell _ _
    intro w2 hg hu
    have hr := hfin.out w2 hg.out hu
    have HR := hid hr
    clear hr
    go_wp2_with fail
    go_ret
    exact ⟨rfl, HR.out, hu⟩
  · have hck' : ¬ (c = k) := hck
    go_enter Try.func15, Try.ntmps15
    go_wp2_with fail
    refine k2.out.mono ?_
    rintro e w1 ⟨rfl, rfl⟩
    go_wp2_with (refine wpList_copy_upd rfl (.tmp 18) (.tmp 19) 27 27 rfl 5 Try.underlying27 csize5 (some ⟨g, k, none⟩) a0 (2048 - k) _ n cb rfl rfl g k cur 5 HCU.out (bs.map (Value.int .u8)) ?_ ?_ ?_ ?_ ?_)
    case refine_1 => rw [List.length_map, HS.out.1]; exact (Nat.min_eq_left (by omega)).symm
    case refine_2 =>
      intro hl
      rw [HS.out.1] at hl
      obtain ⟨b, x, rfl, _, hc⟩ := HS.out.2 hl
      exact ⟨_, rfl, fun j a ha => src_cells HS.out j _ (by rw [List.getElem?_map, ha]; rfl)⟩
    case refine_3 => rw [List.length_map, HS.out.1, HCL.out]; omega
    case refine_4 => exact ints_oneCell _ _
    intro w2 hg hu
    have hr := hfin.out w2 hg.out hu
    have HR := hid hr
    clear hr
    go_wp2_with fail
    go_ret
    exact ⟨rfl, HR.out, hu⟩

end Go.Proofs.Ytnmgapnblmikeaa
