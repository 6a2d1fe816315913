/- Texts of this seat, merged. -/
import Derived.Test.YtoknhcjneliboaaGreatFMg26
import Derived.Test.YtoknhcjneliboaaGreatFMg1
import Derived.Test.YtoknhcjneliboaaGreatFMg24

/- slices.Equal of what Look tells; what it tells are numbers. -/
namespace Go.Proofs.YtoknhcjneliboaaGreat
open Go.RowKit Go.ChangeMaps Go.MapKept
set_option linter.unusedVariables false
set_option maxRecDepth 20000

theorem oiL_len (O : Nat → Fl) : ∀ n, (oiL O n).length = oiN O n * 6
  | 0 => rfl
  | n + 1 => by
    have := oiL_len O n
    simp only [oiL, oiN]; split
    · exact this
    · rw [List.length_append, this]; simp [oiV]; omega
theorem oiL_int (O : Nat → Fl) : ∀ n j, j < (oiL O n).length → ∃ y : Int, (oiL O n)[j]? = some (.int .i64 y)
  | 0, j, h => by simp [oiL] at h
  | n + 1, j, h => by
    have ih := oiL_int O n j
    simp only [oiL] at h ⊢
    split at h
    · rename_i ht
      rw [if_pos ht]; exact ih h
    · rename_i ht
      rw [if_neg ht]
      rcases Nat.lt_or_ge j (oiL O n).length with h1 | h1
      · rw [List.getElem?_append_left h1]; exact ih h1
      · rw [List.getElem?_append_right h1]
        rw [List.length_append] at h
        simp only [oiV, List.length_cons, List.length_nil] at h ⊢
        obtain hj | hj | hj | hj | hj | hj : j - (oiL O n).length = 0 ∨ j - (oiL O n).length = 1 ∨ j - (oiL O n).length = 2 ∨ j - (oiL O n).length = 3 ∨ j - (oiL O n).length = 4 ∨ j - (oiL O n).length = 5 := by omega
        all_goals (rw [hj]; exact ⟨_, rfl⟩)

set_option maxHeartbeats 2000000 in
theorem oequal_yes (v1 v2 : Value) (B n : Nat) (xs : List Value) (w : World) (h1 : w.ownsRow B 40 6 v1 n xs) (h2 : w.ownsRow B 40 6 v2 n xs) (hx : ∀ j, j < xs.length → ∃ y : Int, xs[j]? = some (.int .i64 y)) (hn : n ≤ 11) :
    Calls Tryz.prog 39 #[v1, v2] w fun e w' => e = .returned (.bool true) ∧ Below w.heap.size w w' := by
  have hl : xs.length = n * 6 := h1.1
  have shape : ∀ v, w.ownsRow B 40 6 v n xs → ∃ a c, v = .slice a n c ∧ (0 < n → ∃ g, a = some ⟨g, 0, none⟩ ∧ ∀ j x, j < n * 6 → xs[j]? = some x → w.cell? ⟨g, j, none⟩ = some x) := by
    intro v h
    rcases h.2 with ⟨rfl, rfl⟩ | ⟨g, cap, cur, rfl, _⟩
    · exact ⟨none, 0, rfl, fun h => absurd h (Nat.lt_irrefl 0)⟩
    · exact ⟨_, cap, rfl, fun _ => ⟨g, rfl, fun j x hj hx => by rw [h.cellAt j hj]; exact hx⟩⟩
  obtain ⟨a1, c1, rfl, s1⟩ := shape v1 h1
  obtain ⟨a2, c2, rfl, s2⟩ := shape v2 h2
  have S1 := hid s1
  have S2 := hid s2
  have HX := hid hx
  have HL := hid hl
  clear s1 s2 hx h1 h2 shape hl
  go_enter Tryz.func39, Tryz.ntmps39
  go_wp2_with fail
  go_loopw [13] (fun s wr => ∃ j : Nat, j ≤ n ∧ s = .int .i64 j ∧ Hid (wr.heap = w.heap ∧ Upd (fun _ => False) w wr)) (fun s _ => n - (intOf s).toNat)
  case atStart => exact ⟨0, Nat.zero_le _, rfl, hid ⟨rfl, Upd.refl _ _⟩⟩
  case round =>
    obtain ⟨j, hj, rfl, HH⟩ := hrel
    by_cases h : j < n
    · obtain ⟨g1, rfl, k1⟩ := S1.out (by omega)
      obtain ⟨g2, rfl, k2⟩ := S2.out (by omega)
      have hl := HL.out
      obtain ⟨y0, x0⟩ := HX.out (j * 6) (by omega)
      obtain ⟨y1, x1⟩ := HX.out (j * 6 + 1) (by omega)
      obtain ⟨y2, x2⟩ := HX.out (j * 6 + 2) (by omega)
      obtain ⟨y3, x3⟩ := HX.out (j * 6 + 3) (by omega)
      obtain ⟨y4, x4⟩ := HX.out (j * 6 + 4) (by omega)
      obtain ⟨y5, x5⟩ := HX.out (j * 6 + 5) (by omega)
      have cv : ∀ g o v, w.cell? ⟨g, o, none⟩ = some v → wr.cell? ⟨g, o, none⟩ = some v := fun g o v hv => by
        rw [← hv]; exact World.cell?_of_block (a := ⟨g, o, none⟩) (by rw [HH.out.1])
      have p0 := cv _ _ _ (k1 _ _ (by omega) x0)
      have p1 := cv _ _ _ (k1 _ _ (by omega) x1)
      have p2 := cv _ _ _ (k1 _ _ (by omega) x2)
      have p3 := cv _ _ _ (k1 _ _ (by omega) x3)
      have p4 := cv _ _ _ (k1 _ _ (by omega) x4)
      have p5 := cv _ _ _ (k1 _ _ (by omega) x5)
      have q0 := cv _ _ _ (k2 _ _ (by omega) x0)
      have q1 := cv _ _ _ (k2 _ _ (by omega) x1)
      have q2 := cv _ _ _ (k2 _ _ (by omega) x2)
      have q3 := cv _ _ _ (k2 _ _ (by omega) x3)
      have q4 := cv _ _ _ (k2 _ _ (by omega) x4)
      have q5 := cv _ _ _ (k2 _ _ (by omega) x5)
      clear cv k1 k2 x0 x1 x2 x3 x4 x5 hl S1 S2
      go_wp2_with fail
      go_region_held3 (fun wx => wx.cell? ⟨g1, j * 6, none⟩ = some (.int .i64 y0) ∧ wx.cell? ⟨g1, j * 6 + 1, none⟩ = some (.int .i64 y1) ∧ wx.cell? ⟨g1, j * 6 + 2, none⟩ = some (.int .i64 y2) ∧ wx.cell? ⟨g1, j * 6 + 3, none⟩ = some (.int .i64 y3) ∧ wx.cell? ⟨g1, j * 6 + 4, none⟩ = some (.int .i64 y4) ∧ wx.cell? ⟨g1, j * 6 + 5, none⟩ = some (.int .i64 y5) ∧ wx.cell? ⟨g2, j * 6, none⟩ = some (.int .i64 y0) ∧ wx.cell? ⟨g2, j * 6 + 1, none⟩ = some (.int .i64 y1) ∧ wx.cell? ⟨g2, j * 6 + 2, none⟩ = some (.int .i64 y2) ∧ wx.cell? ⟨g2, j * 6 + 3, none⟩ = some (.int .i64 y3) ∧ wx.cell? ⟨g2, j * 6 + 4, none⟩ = some (.int .i64 y4) ∧ wx.cell? ⟨g2, j * 6 + 5, none⟩ = some (.int .i64 y5)) (go_keep) (fail)
      go_wp2_with fail
      go_roundw
      case rel => exact ⟨j + 1, by omega, by go_num, hid ⟨HH.out.1, HH.out.2.drewN 1⟩⟩
      case measure => simp [intOf]; omega
    · obtain rfl : j = n := by omega
      go_wp2_with fail
      go_ret
      exact ⟨rfl, HH.out.2.below (Nat.le_refl _) (fun _ h => h.elim)⟩


end Go.Proofs.YtoknhcjneliboaaGreat
