/- Texts of this seat, merged. -/
import Derived.Test.YtoknhcjneliboaaGreatFMg11

/- What the document's Look does, and slices.Equal of what both tell. -/
namespace Go.Proofs.YtoknhcjneliboaaGreat.Pi
open Go.RowKit Lend
set_option linter.unusedVariables false
set_option maxRecDepth 20000

set_option maxHeartbeats 2000000 in
theorem rlook_any (B q g : Nat) (d : Int) (A : Nat → Option Addr × Nat) (R : Nat → Pp) (w : World) (h : Rt B w q g d A R) :
    Calls Tryz.prog 47 #[.pointer (some ⟨q, 0, none⟩)] w fun e w' => ∃ v, e = .returned v ∧ w'.ownsRow w.heap.size 51 4 v (countP R 5) (looks R 5) ∧ Below w.heap.size w w' := by
  obtain ⟨i0, hi0, hz0, hz1, hz2⟩ := info_parts Tryz.info51
  have e1 := h.cellL
  have H := hid h
  clear h
  go_enter Tryz.func47, Tryz.ntmps47
  go_wp2_with fail
  go_loopw [3, 11] (fun v s wr => ∃ j : Nat, j ≤ 5 ∧ s = .int .i64 j ∧ Hid (wr.ownsRow w.heap.size 51 4 v (countP R j) (looks R j)) ∧ Hid (Below w.heap.size w wr)) (fun _ s _ => 5 - (intOf s).toNat)
  case atStart => exact ⟨0, by omega, rfl, hid (World.ownsRow_nil _ _ _ _), hid (Below.refl _ _)⟩
  case round =>
    obtain ⟨j, hj5, rfl, HR, HB⟩ := hrel
    by_cases h5 : j < 5
    · have c3 : (0 : Int) ≤ j := by omega
      have c4 : (j : Int) < 5 := by omega
      have hT := H.out.below HB.out
      have y0 := hT.cell0 j h5
      have y1 := hT.cell1 j h5
      have y2 := hT.cell2 j h5
      have y3 := hT.cell3 j h5
      simp only [rsl] at y3
      have hcl := countP_le R j
      obtain ⟨r, gr⟩ : ∃ r, r = (R j).r := ⟨_, rfl⟩
      obtain ⟨u, gu⟩ : ∃ u, u = (R j).w := ⟨_, rfl⟩
      obtain ⟨n, gn⟩ : ∃ n, n = (R j).q.length := ⟨_, rfl⟩
      obtain ⟨aa, ga⟩ : ∃ aa, aa = (A j).1 := ⟨_, rfl⟩
      obtain ⟨cc, gc⟩ : ∃ cc, cc = (A j).2 := ⟨_, rfl⟩
      rw [← gr] at y1
      rw [← gu] at y2
      rw [← gn, ← ga, ← gc] at y3
      cases ht : (R j).there
      · rw [ht] at y0
        obtain ⟨wA, gA⟩ : ∃ wA, wA = wr.alloc (.cells #[.bool false, .int .i64 r, .int .i64 u, .slice aa n cc] 153) := ⟨_, rfl⟩
        have hbA : Below wr.heap.size wr wA := by rw [gA]; exact (Below.refl _ _).alloc (Nat.le_refl _) _
        have HT := hid ht
        have HBA := hid hbA
        have GA := hid gA
        clear hT ht gr gu gn ga gc gA hbA
        go_wp2_with fail
        rw [← GA.out]
        go_roundw
        case rel => exact ⟨j + 1, by omega, by go_num, by simpa [countP, looks, HT.out] using hid (own_below HR.out HBA.out), hid (HB.out.trans (HBA.out.mono HB.out.size))⟩
        case measure => simp [intOf]; omega
      · rw [ht] at y0
        have hb1 : Below wr.heap.size wr (wr.alloc (.cells #[.bool true, .int .i64 r, .int .i64 u, .slice aa n cc] 153)) := (Below.refl _ _).alloc (Nat.le_refl _) _
        have hb2 : Below wr.heap.size wr ((wr.alloc (.cells #[.bool true, .int .i64 r, .int .i64 u, .slice aa n cc] 153)).alloc (.cells #[.int .i64 j, .int .i64 r, .int .i64 u, .int .i64 n] 51)) := hb1.alloc hb1.size _
        have HROW := hid (own_below HR.out hb2)
        have HCEL : Hid (∀ a x, [Value.int .i64 j, .int .i64 r, .int .i64 u, .int .i64 n][a]? = some x → ((wr.alloc (.cells #[.bool true, .int .i64 r, .int .i64 u, .slice aa n cc] 153)).alloc (.cells #[.int .i64 j, .int .i64 r, .int .i64 u, .int .i64 n] 51)).cell? ((⟨wr.heap.size + 1, 0, none⟩ : Addr).add a) = some x) := by
          refine hid (fun a x hx => ?_)
          have hh := heap_alloc_new (wr.alloc (.cells #[.bool true, .int .i64 r, .int .i64 u, .slice aa n cc] 153)) (.cells #[.int .i64 j, .int .i64 r, .int .i64 u, .int .i64 n] 51)
          rw [show (wr.alloc (.cells #[.bool true, .int .i64 r, .int .i64 u, .slice aa n cc] 153)).heap.size = wr.heap.size + 1 by simp] at hh
          rw [Addr.add_lit, Nat.zero_add, cell_of_row _ (wr.heap.size + 1) a _ 51 (0, 0) hh]
          simpa using hx
        have hmx : countP R j + 1 ≤ maxLen := by unfold maxLen; omega
        have hby : (countP R j + 1) * 32 ≤ 140737488355328 := by omega
        have hbs : w.heap.size ≤ ((wr.alloc (.cells #[.bool true, .int .i64 r, .int .i64 u, .slice aa n cc] 153)).alloc (.cells #[.int .i64 j, .int .i64 r, .int .i64 u, .int .i64 n] 51)).heap.size := Nat.le_trans HB.out.size hb2.size
        have HMX := hid hmx
        have HBY := hid hby
        have HBS := hid hbs
        have HB2' := hid hb2
        have HT := hid ht
        have GI : Hid (infoCells j (R j) = [.int .i64 j, .int .i64 r, .int .i64 u, .int .i64 n]) := hid (by rw [infoCells, ← gr, ← gu, ← gn])
        clear hT ht gr gu gn ga gc hb1 hb2 hmx hby hbs hcl
        go_wp2_with (at_builtin; go_must (refine wpList_append_own _ rfl (.tmp 18) (.tmp 28) 48 rfl w.heap.size 51 i0 _ 4 32 Tryz.underlying48 hi0 hz0 hz1 hz2 rfl (by decide) _ (countP R j) (looks R j) rfl HROW.out ⟨wr.heap.size + 1, 0, none⟩ 1 1 [.int .i64 j, .int .i64 r, .int .i64 u, .int .i64 n] rfl rfl HCEL.out (by simp [Value.oneCell']) HMX.out HBY.out HBS.out ?_; intro v4 w4 ho4 hg4 hn4))
        have h1 := HB.out.trans (HB2'.out.mono HB.out.size)
        have h2 : Below w.heap.size w w4 := h1.trans ((Upd.of_grown hg4).below h1.size (fun x hx => (HROW.out.lt x hx.symm).1))
        have HN : Hid (w4.ownsRow w.heap.size 51 4 v4 (countP R (j + 1)) (looks R (j + 1))) := by
          simp only [countP, looks, HT.out, if_true]; rw [GI.out]; exact hid ho4
        have HB2 := hid h2
        clear ho4 hg4 hn4 h1 h2
        go_wp2_with fail
        go_roundw
        case rel => exact ⟨j + 1, by omega, by go_num, HN, HB2⟩
        case measure => simp [intOf]; omega
    · obtain rfl : j = 5 := by omega
      go_wp2_with fail
      go_ret
      exact ⟨_, rfl, HR.out, HB.out⟩

theorem looks_clr {P P0 : Nat → Pp} : ∀ n, (∀ i, i < n → P i = clr (P0 i)) → looks P0 n = looks P n ∧ countP P0 n = countP P n
  | 0, _ => ⟨rfl, rfl⟩
  | n + 1, h => by
    obtain ⟨h1, h2⟩ := looks_clr n (fun i hi => h i (by omega))
    have hn := h n (by omega)
    have ht : (P n).there = (P0 n).there := by rw [hn, clr_there]
    simp only [looks, countP, ht, h1, h2]
    cases hh : (P0 n).there
    · simp
    · rw [hn, clr_yes hh]; simp
theorem look_spec (p : Nat) (k : Bool) (P : Nat → Pp) (w : World) (h : Tc w p k P) :
    Calls Tryz.prog 50 #[.pointer (some ⟨p, 0, none⟩)] w fun e w' => ∃ v, e = .returned v ∧ w'.ownsRow w.heap.size 51 4 v (countP P 5) (looks P 5) ∧ Below w.heap.size w w' := by
  obtain ⟨P0, ht, he⟩ := h.ex
  have := looks_clr 5 he
  rw [← this.1, ← this.2]
  exact look_any p k P0 w ht

theorem looks_len (P : Nat → Pp) : ∀ n, (looks P n).length = countP P n * 4
  | 0 => rfl
  | n + 1 => by
    have := looks_len P n
    simp only [looks, countP]; split
    · rw [List.length_append, this]; simp [infoCells]; omega
    · exact this
theorem looks_int (P : Nat → Pp) : ∀ n j, j < (looks P n).length → ∃ y : Int, (looks P n)[j]? = some (.int .i64 y)
  | 0, j, h => by simp [looks] at h
  | n + 1, j, h => by
    have ih := looks_int P n j
    simp only [looks] at h ⊢
    split at h
    · rename_i ht
      rw [if_pos ht]
      rcases Nat.lt_or_ge j (looks P n).length with h1 | h1
      · rw [List.getElem?_append_left h1]; exact ih h1
      · rw [List.getElem?_append_right h1]
        rw [List.length_append] at h
        simp only [infoCells, List.length_cons, List.length_nil] at h ⊢
        obtain hj | hj | hj | hj : j - (looks P n).length = 0 ∨ j - (looks P n).length = 1 ∨ j - (looks P n).length = 2 ∨ j - (looks P n).length = 3 := by omega
        all_goals (rw [hj]; exact ⟨_, rfl⟩)
    · rename_i ht
      rw [if_neg ht]; exact ih h

set_option maxHeartbeats 2000000 in
theorem sequal_yes (v1 v2 : Value) (B n : Nat) (xs : List Value) (w : World) (h1 : w.ownsRow B 51 4 v1 n xs) (h2 : w.ownsRow B 51 4 v2 n xs) (hx : ∀ j, j < xs.length → ∃ y : Int, xs[j]? = some (.int .i64 y)) (hn : n ≤ 5) :
    Calls Tryz.prog 46 #[v1, v2] w fun e w' => e = .returned (.bool true) ∧ w'.heap = w.heap ∧ Upd (fun _ => False) w w' := by
  have hl : xs.length = n * 4 := h1.1
  have shape : ∀ v, w.ownsRow B 51 4 v n xs → ∃ a c, v = .slice a n c ∧ (0 < n → ∃ g, a = some ⟨g, 0, none⟩ ∧ ∀ j x, j < n * 4 → xs[j]? = some x → w.cell? ⟨g, j, none⟩ = some x) := by
    intro v h
    rcases h.2 with ⟨rfl, rfl⟩ | ⟨g, cap, cur, rfl, _⟩
    · exact ⟨none, 0, rfl, fun h => absurd h (Nat.lt_irrefl 0)⟩
    · exact ⟨_, cap, rfl, fun _ => ⟨g, rfl, fun j x hj hx => by rw [h.cellAt j hj]; exact hx⟩⟩
  obtain ⟨a1, c1, rfl, s1⟩ := shape v1 h1
  obtain ⟨a2, c2, rfl, s2⟩ := shape v2 h2
  have S1 := hid s1
  have S2 := hid s2
  have HX := hid hx
  have HL := hid hl
  clear s1 s2 hx h1 h2 shape hl
  go_enter Tryz.func46, Tryz.ntmps46
  go_wp2_with fail
  go_loopw [13] (fun s wr => ∃ j : Nat, j ≤ n ∧ s = .int .i64 j ∧ Hid (wr.heap = w.heap ∧ Upd (fun _ => False) w wr)) (fun s _ => n - (intOf s).toNat)
  case atStart => exact ⟨0, Nat.zero_le _, rfl, hid ⟨rfl, Upd.refl _ _⟩⟩
  case round =>
    obtain ⟨j, hj, rfl, HH⟩ := hrel
    by_cases h : j < n
    · obtain ⟨g1, rfl, k1⟩ := S1.out (by omega)
      obtain ⟨g2, rfl, k2⟩ := S2.out (by omega)
      have hl := HL.out
      obtain ⟨y0, x0⟩ := HX.out (j * 4) (by omega)
      obtain ⟨y1, x1⟩ := HX.out (j * 4 + 1) (by omega)
      obtain ⟨y2, x2⟩ := HX.out (j * 4 + 2) (by omega)
      obtain ⟨y3, x3⟩ := HX.out (j * 4 + 3) (by omega)
      have cv : ∀ g o v, w.cell? ⟨g, o, none⟩ = some v → wr.cell? ⟨g, o, none⟩ = some v := fun g o v hv => by
        rw [← hv]; exact World.cell?_of_block (a := ⟨g, o, none⟩) (by rw [HH.out.1])
      have p0 := cv _ _ _ (k1 _ _ (by omega) x0)
      have p1 := cv _ _ _ (k1 _ _ (by omega) x1)
      have p2 := cv _ _ _ (k1 _ _ (by omega) x2)
      have p3 := cv _ _ _ (k1 _ _ (by omega) x3)
      have q0 := cv _ _ _ (k2 _ _ (by omega) x0)
      have q1 := cv _ _ _ (k2 _ _ (by omega) x1)
      have q2 := cv _ _ _ (k2 _ _ (by omega) x2)
      have q3 := cv _ _ _ (k2 _ _ (by omega) x3)
      clear cv k1 k2 x0 x1 x2 x3 hl S1 S2
      go_wp2_with fail
      go_region_held3 (fun wx => wx.cell? ⟨g1, j * 4, none⟩ = some (.int .i64 y0) ∧ wx.cell? ⟨g1, j * 4 + 1, none⟩ = some (.int .i64 y1) ∧ wx.cell? ⟨g1, j * 4 + 2, none⟩ = some (.int .i64 y2) ∧ wx.cell? ⟨g1, j * 4 + 3, none⟩ = some (.int .i64 y3) ∧ wx.cell? ⟨g2, j * 4, none⟩ = some (.int .i64 y0) ∧ wx.cell? ⟨g2, j * 4 + 1, none⟩ = some (.int .i64 y1) ∧ wx.cell? ⟨g2, j * 4 + 2, none⟩ = some (.int .i64 y2) ∧ wx.cell? ⟨g2, j * 4 + 3, none⟩ = some (.int .i64 y3)) (go_keep) (fail)
      go_wp2_with fail
      go_roundw
      case rel => exact ⟨j + 1, by omega, by go_num, hid ⟨HH.out.1, HH.out.2.drewN 1⟩⟩
      case measure => simp [intOf]; omega
    · obtain rfl : j = n := by omega
      go_wp2_with fail
      go_ret
      exact ⟨rfl, HH.out.1, HH.out.2⟩

end Go.Proofs.YtoknhcjneliboaaGreat.Pi
