/- Texts of this seat, merged. -/
import Derived.Test.YtbglhmcahnkbfaaGreatGMg42
import Derived.Test.YtbglhmcahnkbfaaGreatGMg48
import Derived.Deep.RegionHeld3

/- slices.Equal of processes; 'same'. -/
namespace Go.Proofs.YtbglhmcahnkbfaaGreat
open Go.RowKit Go.ChangeMaps Go.MapKept
set_option linter.unusedVariables false
set_option maxRecDepth 20000

theorem piL_int (Q : Nat → Gp) : ∀ n j, j < (piL Q n).length → ∃ y : Int, (piL Q n)[j]? = some (.int .i64 y)
  | 0, j, h => absurd h (Nat.not_lt_zero j)
  | n + 1, j, h => by
    have ih := piL_int Q n j
    unfold piL at h ⊢
    split at h
    · rename_i ht
      rw [if_pos ht]
      exact ih h
    · rename_i ht
      rw [if_neg ht]
      rcases Nat.lt_or_ge j (piL Q n).length with h1 | h1
      · rw [List.getElem?_append_left h1]; exact ih h1
      · rw [List.getElem?_append_right h1]
        rw [List.length_append] at h
        simp only [piV, List.length_cons, List.length_nil] at h ⊢
        obtain hj | hj | hj | hj | hj | hj | hj | hj | hj | hj : j - (piL Q n).length = 0 ∨ j - (piL Q n).length = 1 ∨ j - (piL Q n).length = 2 ∨ j - (piL Q n).length = 3 ∨ j - (piL Q n).length = 4 ∨ j - (piL Q n).length = 5 ∨ j - (piL Q n).length = 6 ∨ j - (piL Q n).length = 7 ∨ j - (piL Q n).length = 8 ∨ j - (piL Q n).length = 9 := by omega
        all_goals (rw [hj]; exact ⟨_, rfl⟩)

set_option maxHeartbeats 4000000 in
theorem piequal_yes (v1 v2 : Value) (B n : Nat) (xs : List Value) (w : World) (h1 : w.ownsRow B 42 10 v1 n xs) (h2 : w.ownsRow B 42 10 v2 n xs) (hx : ∀ j, j < xs.length → ∃ y : Int, xs[j]? = some (.int .i64 y)) (hn : n ≤ 5) :
    Calls Tryz.prog 39 #[v1, v2] w fun e w' => e = .returned (.bool true) ∧ Below w.heap.size w w' := by
  have hl : xs.length = n * 10 := h1.1
  have shape : ∀ v, w.ownsRow B 42 10 v n xs → ∃ a c, v = .slice a n c ∧ (0 < n → ∃ g, a = some ⟨g, 0, none⟩ ∧ ∀ j x, j < n * 10 → xs[j]? = some x → w.cell? ⟨g, j, none⟩ = some x) := by
    intro v h
    rcases h.2 with ⟨rfl, rfl⟩ | ⟨g, cap, cur, rfl, _⟩
    · exact ⟨none, 0, rfl, fun h => absurd h (Nat.lt_irrefl 0)⟩
    · exact ⟨_, cap, rfl, fun _ => ⟨g, rfl, fun j x hj hx => by rw [h.cellAt j hj]; exact hx⟩⟩
  obtain ⟨a1, c1, rfl, s1⟩ := shape v1 h1
  obtain ⟨a2, c2, rfl, s2⟩ := shape v2 h2
  have S1 := hid s1
  have S2 := hid s2
  have HX := hid hx
  have HL := hid hl
  clear s1 s2 hx h1 h2 shape hl
  go_enter Tryz.func39, Tryz.ntmps39
  go_wp2_with fail
  go_loopw [13] (fun s wr => ∃ j : Nat, j ≤ n ∧ s = .int .i64 j ∧ Hid (wr.heap = w.heap ∧ Upd (fun _ => False) w wr)) (fun s _ => n - (intOf s).toNat)
  case atStart => exact ⟨0, Nat.zero_le _, rfl, hid ⟨rfl, Upd.refl _ _⟩⟩
  case round =>
    obtain ⟨j, hj, rfl, HH⟩ := hrel
    by_cases h : j < n
    · obtain ⟨g1, rfl, k1⟩ := S1.out (by omega)
      obtain ⟨g2, rfl, k2⟩ := S2.out (by omega)
      have hl := HL.out
      obtain ⟨y0, x0⟩ := HX.out (j * 10) (by omega)
      obtain ⟨y1, x1⟩ := HX.out (j * 10 + 1) (by omega)
      obtain ⟨y2, x2⟩ := HX.out (j * 10 + 2) (by omega)
      obtain ⟨y3, x3⟩ := HX.out (j * 10 + 3) (by omega)
      obtain ⟨y4, x4⟩ := HX.out (j * 10 + 4) (by omega)
      obtain ⟨y5, x5⟩ := HX.out (j * 10 + 5) (by omega)
      obtain ⟨y6, x6⟩ := HX.out (j * 10 + 6) (by omega)
      obtain ⟨y7, x7⟩ := HX.out (j * 10 + 7) (by omega)
      obtain ⟨y8, x8⟩ := HX.out (j * 10 + 8) (by omega)
      obtain ⟨y9, x9⟩ := HX.out (j * 10 + 9) (by omega)
      have cv : ∀ g o v, w.cell? ⟨g, o, none⟩ = some v → wr.cell? ⟨g, o, none⟩ = some v := fun g o v hv => by
        rw [← hv]; exact World.cell?_of_block (a := ⟨g, o, none⟩) (by rw [HH.out.1])
      have p0 := cv _ _ _ (k1 _ _ (by omega) x0)
      have p1 := cv _ _ _ (k1 _ _ (by omega) x1)
      have p2 := cv _ _ _ (k1 _ _ (by omega) x2)
      have p3 := cv _ _ _ (k1 _ _ (by omega) x3)
      have p4 := cv _ _ _ (k1 _ _ (by omega) x4)
      have p5 := cv _ _ _ (k1 _ _ (by omega) x5)
      have p6 := cv _ _ _ (k1 _ _ (by omega) x6)
      have p7 := cv _ _ _ (k1 _ _ (by omega) x7)
      have p8 := cv _ _ _ (k1 _ _ (by omega) x8)
      have p9 := cv _ _ _ (k1 _ _ (by omega) x9)
      have q0 := cv _ _ _ (k2 _ _ (by omega) x0)
      have q1 := cv _ _ _ (k2 _ _ (by omega) x1)
      have q2 := cv _ _ _ (k2 _ _ (by omega) x2)
      have q3 := cv _ _ _ (k2 _ _ (by omega) x3)
      have q4 := cv _ _ _ (k2 _ _ (by omega) x4)
      have q5 := cv _ _ _ (k2 _ _ (by omega) x5)
      have q6 := cv _ _ _ (k2 _ _ (by omega) x6)
      have q7 := cv _ _ _ (k2 _ _ (by omega) x7)
      have q8 := cv _ _ _ (k2 _ _ (by omega) x8)
      have q9 := cv _ _ _ (k2 _ _ (by omega) x9)
      have hq6 := fun W : World => eq6 y4 y5 y6 y7 y8 y9 W
      clear cv k1 k2 x0 x1 x2 x3 x4 x5 x6 x7 x8 x9 hl S1 S2
      go_wp2_with fail
      go_region_held3 (fun wx => wx.cell? ⟨g1, j * 10, none⟩ = some (.int .i64 y0) ∧ wx.cell? ⟨g1, j * 10 + 1, none⟩ = some (.int .i64 y1) ∧ wx.cell? ⟨g1, j * 10 + 2, none⟩ = some (.int .i64 y2) ∧ wx.cell? ⟨g1, j * 10 + 3, none⟩ = some (.int .i64 y3) ∧ wx.cell? ⟨g1, j * 10 + 4, none⟩ = some (.int .i64 y4) ∧ wx.cell? ⟨g1, j * 10 + 5, none⟩ = some (.int .i64 y5) ∧ wx.cell? ⟨g1, j * 10 + 6, none⟩ = some (.int .i64 y6) ∧ wx.cell? ⟨g1, j * 10 + 7, none⟩ = some (.int .i64 y7) ∧ wx.cell? ⟨g1, j * 10 + 8, none⟩ = some (.int .i64 y8) ∧ wx.cell? ⟨g1, j * 10 + 9, none⟩ = some (.int .i64 y9) ∧ wx.cell? ⟨g2, j * 10, none⟩ = some (.int .i64 y0) ∧ wx.cell? ⟨g2, j * 10 + 1, none⟩ = some (.int .i64 y1) ∧ wx.cell? ⟨g2, j * 10 + 2, none⟩ = some (.int .i64 y2) ∧ wx.cell? ⟨g2, j * 10 + 3, none⟩ = some (.int .i64 y3) ∧ wx.cell? ⟨g2, j * 10 + 4, none⟩ = some (.int .i64 y4) ∧ wx.cell? ⟨g2, j * 10 + 5, none⟩ = some (.int .i64 y5) ∧ wx.cell? ⟨g2, j * 10 + 6, none⟩ = some (.int .i64 y6) ∧ wx.cell? ⟨g2, j * 10 + 7, none⟩ = some (.int .i64 y7) ∧ wx.cell? ⟨g2, j * 10 + 8, none⟩ = some (.int .i64 y8) ∧ wx.cell? ⟨g2, j * 10 + 9, none⟩ = some (.int .i64 y9)) (go_keep) (fail)
      go_wp2_with fail
      go_roundw
      case rel => exact ⟨j + 1, by omega, by go_num, hid ⟨HH.out.1, HH.out.2.drewN 1⟩⟩
      case measure => simp [intOf]; omega
    · obtain rfl : j = n := by omega
      go_wp2_with fail
      go_ret
      exact ⟨rfl, HH.out.2.below (Nat.le_refl _) (fun _ h => h.elim)⟩

end Go.Proofs.YtbglhmcahnkbfaaGreat

/- Both sides' processes have the same. -/
namespace Go.Proofs.YtbglhmcahnkbfaaGreat
open Go.RowKit Go.ChangeMaps Go.MapKept
set_option linter.unusedVariables false
set_option maxRecDepth 20000

set_option maxHeartbeats 16000000 in
theorem same_yes9 (w : World) (B : Nat) (G D : Nat → Prop) (pp f x t y L : Nat) (g : Gt) (H : P9 w B G D pp f x t y L g g) (H0 : GOk g) :
    Calls Tryz.prog 9 #[.pointer (some ⟨pp, 0, none⟩)] w fun e w' => e = .returned (.bool true) ∧ Below w.heap.size w w' := by
  have HH := hid (fun (W : World) (hb : Below w.heap.size w W) => H.grow hb)
  have c0 := H.c0
  have c1 := H.c1
  have c2 := H.c2
  have c3 := H.c3
  obtain ⟨Dn, hYs, _, _, _⟩ := H.td
  obtain ⟨gg, s, q, Dn1, Dp1, hR, hDD⟩ := hYs.td
  have d1 := hR.cs
  have HR := hid (fun (W : World) (hb : Below w.heap.size w W) => hR.grow hb)
  have HT := hid H0.T
  have HF := hid H0.T.F
  have HTP : Hid (∀ W, Below w.heap.size w W → ∃ Gn, Tp W f g.T Gn) := hid (fun W hb => by
    obtain ⟨Gn, h1, _⟩ := (HH.out W hb).tp
    exact ⟨Gn, h1.tp⟩)
  have HTD : Hid (∀ W, Below w.heap.size w W → ∃ Dn, Td W x g.T Dn) := hid (fun W hb => by
    obtain ⟨Dn, h1, _⟩ := (HH.out W hb).td
    exact ⟨Dn, h1.td⟩)
  obtain ⟨m0, gm0⟩ : ∃ m0, m0 = piN g.Q 5 := ⟨_, rfl⟩
  obtain ⟨k0, gk0⟩ : ∃ k0, k0 = piL g.Q 5 := ⟨_, rfl⟩
  have hm0 : m0 ≤ 5 := by rw [gm0]; exact piN_le _ _
  have hj0 : Hid (∀ j, j < k0.length → ∃ y : Int, k0[j]? = some (.int .i64 y)) := by rw [gk0]; exact hid (piL_int g.Q 5)
  have P1 : Hid (∀ W, Below w.heap.size w W → Calls Tryz.prog 11 #[.pointer (some ⟨t, 0, none⟩)] W fun e w' => ∃ v, e = .returned v ∧ Hid (w'.ownsRow 0 42 10 v m0 k0) ∧ Hid (Below W.heap.size W w')) := by
    rw [gm0, gk0]
    refine hid (fun W hb => (glook_any (HH.out W hb).tp.tab).mono ?_)
    rintro e w' ⟨⟨v, rfl, h1⟩, h3⟩
    exact ⟨v, rfl, hid (own_base h1 (Nat.zero_le _)), hid h3⟩
  have P2 : Hid (∀ W, Below w.heap.size w W → Calls Tryz.prog 40 #[.pointer (some ⟨y, 0, none⟩)] W fun e w' => ∃ v, e = .returned v ∧ Hid (w'.ownsRow 0 42 10 v m0 k0) ∧ Hid (Below W.heap.size W w')) := by
    rw [gm0, gk0]
    refine hid (fun W hb => (r9look_any (HH.out W hb).td).mono ?_)
    rintro e w' ⟨⟨v, rfl, h1⟩, h3⟩
    exact ⟨v, rfl, hid (own_base h1 (Nat.zero_le _)), hid h3⟩
  have P3 : Hid (∀ W v1 v2, W.ownsRow 0 42 10 v1 m0 k0 → W.ownsRow 0 42 10 v2 m0 k0 → Calls Tryz.prog 39 #[v1, v2] W fun e w' => e = .returned (.bool true) ∧ Hid (Below W.heap.size W w')) := by
    refine hid (fun W v1 v2 h1 h2 => (piequal_yes v1 v2 0 m0 k0 W h1 h2 hj0.out hm0).mono ?_)
    rintro e w' ⟨rfl, h⟩
    exact ⟨rfl, hid h⟩
  clear gm0 gk0
  obtain ⟨RL, gRL⟩ : ∃ RL, RL = rnL g.Q 5 := ⟨_, rfl⟩
  obtain ⟨rn, grn⟩ : ∃ rn, rn = RL.length := ⟨_, rfl⟩
  have hrn : rn ≤ 5 := by rw [grn, gRL]; exact rnL_le g.Q 5
  have e1 : RL.map natV = (RL.map fun b : Nat => (b : Int)).map (Value.int .i64) := by rw [List.map_map]; rfl
  obtain ⟨zs, gz⟩ : ∃ zs, zs = (RL.map fun b : Nat => (b : Int)) := ⟨_, rfl⟩
  rw [← gz] at e1
  have Q1 : Hid (∀ W, Below w.heap.size w W → Calls Tryz.prog 14 #[.pointer (some ⟨t, 0, none⟩)] W fun e w' => ∃ a c, e = .returned (.slice a rn c) ∧ Hid (Rdv w' a rn (zs.map (Value.int .i64))) ∧ Hid (Below W.heap.size W w')) := by
    refine hid (fun W hb => (grunning_any (HH.out W hb).tp.tab).mono ?_)
    rintro e w' ⟨⟨v, rfl, h1⟩, h3⟩
    rw [← gRL, ← grn, e1] at h1
    obtain ⟨a, c, rfl, _⟩ := own_shp h1
    exact ⟨a, c, rfl, hid (Rdv.of h1), hid h3⟩
  have Q2 : Hid (∀ W, Below w.heap.size w W → Calls Tryz.prog 41 #[.pointer (some ⟨y, 0, none⟩)] W fun e w' => ∃ a c, e = .returned (.slice a rn c) ∧ Hid (Rdv w' a rn (zs.map (Value.int .i64))) ∧ Hid (Below W.heap.size W w')) := by
    refine hid (fun W hb => (r9running_any (HH.out W hb).td).mono ?_)
    rintro e w' ⟨⟨v, rfl, h1⟩, h3⟩
    rw [← gRL, ← grn, e1] at h1
    obtain ⟨a, c, rfl, _⟩ := own_shp h1
    exact ⟨a, c, rfl, hid (Rdv.of h1), hid h3⟩
  have Q3 : Hid (∀ W a1 c1 a2 c2, Rdv W a1 rn (zs.map (Value.int .i64)) → Rdv W a2 rn (zs.map (Value.int .i64)) → Calls Tryz.prog 13 #[.slice a1 rn c1, .slice a2 rn c2] W fun e w' => e = .returned (.bool true) ∧ Hid (Below W.heap.size W w')) := by
    refine hid (fun W a1 c1 a2 c2 h1 h2 => (ieq_yes a1 a2 rn c1 c2 (by omega) zs W h1 h2).mono ?_)
    rintro e w' ⟨rfl, h⟩
    exact ⟨rfl, hid h⟩
  clear gRL grn e1 gz
  obtain ⟨n0, gn0⟩ : ∃ n0, n0 = oiN g.T.O 11 := ⟨_, rfl⟩
  obtain ⟨l0, gl0⟩ : ∃ l0, l0 = oiL g.T.O 11 := ⟨_, rfl⟩
  have hn0 : n0 ≤ 11 := by rw [gn0]; exact oiN_le _ _
  have hi0 : Hid (∀ j, j < l0.length → ∃ y : Int, l0[j]? = some (.int .i64 y)) := by rw [gl0]; exact hid (oiL_int g.T.O 11)
  have A1 : Hid (∀ W, Below w.heap.size w W → Calls Tryz.prog 12 #[.pointer (some ⟨f, 0, none⟩)] W fun e w' => ∃ v, e = .returned v ∧ Hid (w'.ownsRow 0 46 6 v n0 l0) ∧ Hid (Below W.heap.size W w')) := by
    rw [gn0, gl0]
    refine hid (fun W hb => ?_)
    obtain ⟨Gn, hg⟩ := HTP.out W hb
    refine (tplook W f g.T Gn hg HT.out).mono ?_
    rintro e w' ⟨⟨v, rfl, h1⟩, h3⟩
    exact ⟨v, rfl, hid (own_base h1 (Nat.zero_le _)), hid h3⟩
  have A2 : Hid (∀ W, Below w.heap.size w W → Calls Tryz.prog 43 #[.pointer (some ⟨x, 0, none⟩)] W fun e w' => ∃ v, e = .returned v ∧ Hid (w'.ownsRow 0 46 6 v n0 l0) ∧ Hid (Below W.heap.size W w')) := by
    rw [gn0, gl0]
    refine hid (fun W hb => ?_)
    obtain ⟨Dn, hg⟩ := HTD.out W hb
    refine (tdlook W x g.T Dn hg HT.out).mono ?_
    rintro e w' ⟨⟨v, rfl, h1⟩, h3⟩
    exact ⟨v, rfl, hid (own_base h1 (Nat.zero_le _)), hid h3⟩
  have A3 : Hid (∀ W v1 v2, W.ownsRow 0 46 6 v1 n0 l0 → W.ownsRow 0 46 6 v2 n0 l0 → Calls Tryz.prog 42 #[v1, v2] W fun e w' => e = .returned (.bool true) ∧ Hid (Below W.heap.size W w')) := by
    refine hid (fun W v1 v2 h1 h2 => (oequal_yes v1 v2 0 n0 l0 W h1 h2 hi0.out hn0).mono ?_)
    rintro e w' ⟨rfl, h⟩
    exact ⟨rfl, hid h⟩
  clear gn0 gl0
  obtain ⟨n, gn⟩ : ∃ n, n = (thr g.T.F 17).length := ⟨_, rfl⟩
  have hn17 : n ≤ 17 := by rw [gn]; exact thr_len g.T.F 17
  have B1 : Hid (∀ W, Below w.heap.size w W → Calls Tryz.prog 45 #[.pointer (some ⟨f, 0, none⟩)] W fun e w' => ∃ a c cs, e = .returned (.slice a n c) ∧ Hid (w'.ownsRow 0 113 8 (.slice a n c) n cs ∧ LkL w' (fun b => W.heap.size ≤ b) g.T.F (thr g.T.F 17) cs) ∧ Hid (Below W.heap.size W w')) := by
    rw [gn]
    refine hid (fun W hb => ?_)
    obtain ⟨Gn, hg⟩ := HTP.out W hb
    refine (tpnodes W f g.T Gn hg HF.out).mono ?_
    rintro e w' ⟨⟨v, cs, rfl, h1, h2⟩, h3⟩
    obtain ⟨a, c, rfl, _⟩ := own_shp h1
    exact ⟨a, c, cs, rfl, hid ⟨h1, h2⟩, hid h3⟩
  have B2 : Hid (∀ W, Below w.heap.size w W → Calls Tryz.prog 46 #[.pointer (some ⟨s, 0, none⟩)] W fun e w' => ∃ a c cs, e = .returned (.slice a n c) ∧ Hid (w'.ownsRow 0 113 8 (.slice a n c) n cs ∧ LkL w' (fun b => W.heap.size ≤ b) g.T.F (thr g.T.F 17) cs) ∧ Hid (Below W.heap.size W w')) := by
    rw [gn]
    refine hid (fun W hb => ((HR.out W hb).looks HF.out).mono ?_)
    rintro e w' ⟨⟨v, cs, rfl, h1, h2⟩, h3⟩
    obtain ⟨a, c, rfl, _⟩ := own_shp h1
    exact ⟨a, c, cs, rfl, hid ⟨h1, h2⟩, hid h3⟩
  have B3 : Hid (∀ (W : World) W1 W2 a1 c1 cs1 a2 c2 cs2, W.ownsRow 0 113 8 (.slice a1 n c1) n cs1 → LkL W (fun b => W1 ≤ b) g.T.F (thr g.T.F 17) cs1 → W.ownsRow 0 113 8 (.slice a2 n c2) n cs2 → LkL W (fun b => W2 ≤ b) g.T.F (thr g.T.F 17) cs2 → Calls Tryz.prog 44 #[.slice a1 n c1, .slice a2 n c2] W fun e w' => e = .returned (.bool true) ∧ Hid (Below W.heap.size W w')) := by
    refine hid (fun W W1 W2 a1 c1 cs1 a2 c2 cs2 h1 h2 h3 h4 => (samenodes_yes g.T.F HF.out (thr g.T.F 17) n gn.symm hn17 a1 a2 c1 c2 cs1 cs2 W _ _ h1 h3 h2 h4).mono ?_)
    rintro e w' ⟨rfl, h⟩
    exact ⟨rfl, hid h⟩
  have HS : Hid (∀ W, Below w.heap.size w W → W.cell? ⟨pp, 0, none⟩ = some (.pointer (some ⟨f, 0, none⟩)) ∧ W.cell? ⟨pp, 1, none⟩ = some (.pointer (some ⟨x, 0, none⟩)) ∧ W.cell? ⟨pp, 2, none⟩ = some (.pointer (some ⟨t, 0, none⟩)) ∧ W.cell? ⟨pp, 3, none⟩ = some (.pointer (some ⟨y, 0, none⟩)) ∧ W.cell? ⟨x, 1, none⟩ = some (.pointer (some ⟨s, 0, none⟩))) := hid (fun W hb => ⟨(HH.out W hb).c0, (HH.out W hb).c1, (HH.out W hb).c2, (HH.out W hb).c3, (HR.out W hb).cs⟩)
  generalize thr g.T.F 17 = th at B1 B2 B3
  generalize g.T.F = F at B1 B2 B3
  clear H H0 hR hDD hYs gn hi0 hn0 hm0 hj0 hrn hn17 HT HF HH HR HTP HTD
  go_enter Tryz.func9, Tryz.ntmps9
  go_wp2_with fail
  go_region_held3 (fun W => W.cell? ⟨pp, 0, none⟩ = some (.pointer (some ⟨f, 0, none⟩)) ∧ W.cell? ⟨pp, 1, none⟩ = some (.pointer (some ⟨x, 0, none⟩)) ∧ W.cell? ⟨pp, 2, none⟩ = some (.pointer (some ⟨t, 0, none⟩)) ∧ W.cell? ⟨pp, 3, none⟩ = some (.pointer (some ⟨y, 0, none⟩)) ∧ W.cell? ⟨x, 1, none⟩ = some (.pointer (some ⟨s, 0, none⟩))) (first | (refine ⟨?_, ?_, ?_, ?_, ?_⟩ <;> assumption) | exact HS.out _ (Below.refl _ _).drew | go_keep) (first
    | (go_at_call 11; refine (P1.out _ (Below.refl _ _).drew).mono ?_; rintro e w1 ⟨v1, rfl, HO1, hb1⟩; have HB1 : Hid (Below w.heap.size w w1) := hid ((Below.refl _ _).drew.trans hb1.out); obtain ⟨u1x0, u1x1, u1x2, u1x3, u1x4⟩ := HS.out w1 HB1.out; clear hb1)
    | (go_at_call 40; refine (P2.out _ HB1.out).mono ?_; rintro e w2 ⟨v2, rfl, HO2, hb2⟩; have HB2 : Hid (Below w.heap.size w w2) := hid (HB1.out.trans (hb2.out.mono HB1.out.size)); have HO1' := hid ((Upd.of_below (F := fun _ => False) hb2.out).own HO1.out (fun _ _ h => h)); obtain ⟨u2x0, u2x1, u2x2, u2x3, u2x4⟩ := HS.out w2 HB2.out; clear hb2 HO1)
    | (go_at_call 39; refine (P3.out w2 _ _ HO1'.out HO2.out).mono ?_; rintro e w3 ⟨rfl, hb3⟩; have HB3 : Hid (Below w.heap.size w w3) := hid (HB2.out.trans (hb3.out.mono HB2.out.size)); obtain ⟨u3x0, u3x1, u3x2, u3x3, u3x4⟩ := HS.out w3 HB3.out; clear hb3 HO1' HO2)
    | (go_at_call 14; refine (Q1.out _ HB3.out).mono ?_; rintro e w4 ⟨a4, c4, rfl, HO4, hb4⟩; have HB4 : Hid (Below w.heap.size w w4) := hid (HB3.out.trans (hb4.out.mono HB3.out.size)); obtain ⟨u4x0, u4x1, u4x2, u4x3, u4x4⟩ := HS.out w4 HB4.out; clear hb4)
    | (go_at_call 41; refine (Q2.out _ HB4.out).mono ?_; rintro e w5 ⟨a5, c5, rfl, HO5, hb5⟩; have HB5 : Hid (Below w.heap.size w w5) := hid (HB4.out.trans (hb5.out.mono HB4.out.size)); have HO4' := hid (HO4.out.below hb5.out); obtain ⟨u5x0, u5x1, u5x2, u5x3, u5x4⟩ := HS.out w5 HB5.out; clear hb5 HO4)
    | (go_at_call 13; refine (Q3.out w5 _ _ _ _ HO4'.out HO5.out).mono ?_; rintro e w6 ⟨rfl, hb6⟩; have HB6 : Hid (Below w.heap.size w w6) := hid (HB5.out.trans (hb6.out.mono HB5.out.size)); obtain ⟨u6x0, u6x1, u6x2, u6x3, u6x4⟩ := HS.out w6 HB6.out; clear hb6 HO4' HO5)
    | (go_at_call 12; refine (A1.out _ HB6.out).mono ?_; rintro e w7 ⟨v7, rfl, HO7, hb7⟩; have HB7 : Hid (Below w.heap.size w w7) := hid (HB6.out.trans (hb7.out.mono HB6.out.size)); obtain ⟨u7x0, u7x1, u7x2, u7x3, u7x4⟩ := HS.out w7 HB7.out; clear hb7)
    | (go_at_call 43; refine (A2.out _ HB7.out).mono ?_; rintro e w8 ⟨v8, rfl, HO8, hb8⟩; have HB8 : Hid (Below w.heap.size w w8) := hid (HB7.out.trans (hb8.out.mono HB7.out.size)); have HO7' := hid ((Upd.of_below (F := fun _ => False) hb8.out).own HO7.out (fun _ _ h => h)); obtain ⟨u8x0, u8x1, u8x2, u8x3, u8x4⟩ := HS.out w8 HB8.out; clear hb8 HO7)
    | (go_at_call 42; refine (A3.out w8 _ _ HO7'.out HO8.out).mono ?_; rintro e w9 ⟨rfl, hb9⟩; have HB9 : Hid (Below w.heap.size w w9) := hid (HB8.out.trans (hb9.out.mono HB8.out.size)); obtain ⟨u9x0, u9x1, u9x2, u9x3, u9x4⟩ := HS.out w9 HB9.out; clear hb9 HO7' HO8)
    | (go_at_call 45; refine (B1.out _ HB9.out).mono ?_; rintro e wa ⟨aa, ca, csa, rfl, HOa, hba⟩; have HBa : Hid (Below w.heap.size w wa) := hid (HB9.out.trans (hba.out.mono HB9.out.size)); obtain ⟨uax0, uax1, uax2, uax3, uax4⟩ := HS.out wa HBa.out; clear hba)
    | (go_at_call 46; refine (B2.out _ HBa.out).mono ?_; rintro e wb ⟨ab, cb, csb, rfl, HOb, hbb⟩; have HBb : Hid (Below w.heap.size w wb) := hid (HBa.out.trans (hbb.out.mono HBa.out.size)); have HOa' := hid (And.intro ((Upd.of_below (F := fun _ => False) hbb.out).own HOa.out.1 (fun _ _ h => h)) (LkL.upd (Upd.of_below (F := fun _ => False) hbb.out) (fun _ _ _ h => h) (fun _ _ h => h) HOa.out.2)); obtain ⟨ubx0, ubx1, ubx2, ubx3, ubx4⟩ := HS.out wb HBb.out; clear hbb HOa)
    | (go_at_call 44; refine (B3.out wb _ _ _ _ _ _ _ _ HOa'.out.1 HOa'.out.2 HOb.out.1 HOb.out.2).mono ?_; rintro e wc ⟨rfl, hbc⟩; have HBc : Hid (Below w.heap.size w wc) := hid (HBb.out.trans (hbc.out.mono HBb.out.size)); obtain ⟨ucx0, ucx1, ucx2, ucx3, ucx4⟩ := HS.out wc HBc.out; clear hbc HOa' HOb)
    | fail)
  all_goals
    go_wp2_with fail
    go_ret
    exact ⟨rfl, HBc.out⟩

end Go.Proofs.YtbglhmcahnkbfaaGreat
