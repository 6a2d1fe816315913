/- What grow does to a file that is alone in its system. -/
import Derived.Test.YtdnblbahecpmkaaGreatNTake
import Derived.BigQuiet
namespace Go.Proofs.YtdnblbahecpmkaaGreat
open Go.RowKit Go.ChangeMaps Go.MapKept
set_option linter.unusedVariables false
set_option maxRecDepth 20000

/-- How many blocks so many bytes need. -/
def need (s : Nat) : Nat := (s + 15) / 16

theorem need_le {s : Nat} (h : s ≤ 96) : need s ≤ 6 := by unfold need; omega
theorem need_mono {s t : Nat} (h : s ≤ t) : need s ≤ need t := by unfold need; omega

theorem Sg.bl_self (S : Sg) (i : Nat) : S.bl i (S.P i) S.T = S := by
  have := S.at_self i
  unfold Sg.at_ at this
  unfold Sg.bl
  exact this

set_option maxHeartbeats 4000000 in
set_option maxRecDepth 20000 in
theorem grow_more (p : Nat) (S : Sg) (w : World) (i : Nat) (hi : i < 17) (x : Nd) (T : Nat → Bool) (H : Sy w p (S.bl i x T)) (hB : Bok x T (need x.s)) (size : Nat) (hs : x.s < size) (hz : size ≤ 96) :
    Calls Tryz.prog 59 #[.pointer (some ⟨p, 0, none⟩), .pointer (some ⟨p, 1 + i * 107, none⟩), .int .i64 (size : Int)] w fun e w' => e = .returned (.int .i64 0) ∧ (∃ B' T', Sy w' p (S.bl i { x with B := B', s := size } T') ∧ Bok { x with B := B', s := size } T' (need size)) ∧ Upd (· = p) w w' := by
  have hP : (S.bl i x T).P i = x := updN_same _ _ _
  have c3 := H.s i hi
  rw [hP] at c3
  obtain ⟨q0, g0⟩ : ∃ q0, q0 = need x.s := ⟨_, rfl⟩
  obtain ⟨q1, g1⟩ : ∃ q1, q1 = need size := ⟨_, rfl⟩
  have h01 : q0 ≤ q1 := by rw [g0, g1]; exact need_mono (by omega)
  have h16 : q1 ≤ 6 := by rw [g1]; exact need_le hz
  rw [← g0] at hB
  rw [← g1]
  obtain ⟨s0, gs⟩ : ∃ s0, s0 = x.s := ⟨_, rfl⟩
  rw [← gs] at c3 hs
  have K0 : Hid (∀ W, Calls Tryz.prog 76 #[.int .i64 (s0 : Int)] W fun e w' => e = .returned (.int .i64 (q0 : Int)) ∧ w' = W) := by
    refine hid (fun W => ?_)
    have := needed_any s0 (by omega) W
    rw [show (s0 + 15) / 16 = q0 by rw [g0, gs]; rfl] at this
    exact this
  have K1 : Hid (∀ W, Calls Tryz.prog 76 #[.int .i64 (size : Int)] W fun e w' => e = .returned (.int .i64 (q1 : Int)) ∧ w' = W) := by
    refine hid (fun W => ?_)
    have := needed_any size (by omega) W
    rw [show (size + 15) / 16 = q1 by rw [g1]; rfl] at this
    exact this
  have a1 : ¬ (size : Int) ≤ (s0 : Int) := by omega
  have a2 : (0 : Int) ≤ (q0 : Int) := by omega
  have a3 : (q0 : Int) ≤ (q1 : Int) := by omega
  have a4 : (q1 : Int) ≤ 6 := by omega
  have HH := hid H
  have HB := hid hB
  clear H hB hP g0 g1 gs
  go_enter Tryz.func59, Tryz.ntmps59
  go_wp2_with fail
  go_quiet ((go_at_call 76; first | refine Calls.quiet_of_same (K0.out _) | refine Calls.quiet_of_same (K1.out _)))
  obtain ⟨o, go⟩ : ∃ o, o = if 6 = q0 then 1 + i * 107 + 100 else 1 + i * 107 + 100 + q0 := ⟨_, rfl⟩
  have hA : (if 6 = q0 then (⟨p, 1 + i * 107 + 100, none⟩ : Addr) else ⟨p, 1 + i * 107 + 100 + q0, none⟩) = ⟨p, o, none⟩ := by
    rw [go]; split <;> rfl
  have ho : 0 < q1 - q0 → o = 1 + i * 107 + (100 + q0) := fun h => by
    rw [go, if_neg (by omega)]; omega
  rw [hA]
  have HO := hid ho
  clear hA go ho K0 K1
  obtain ⟨W1, g1⟩ : ∃ W1, W1 = w.drewN nq := ⟨_, rfl⟩
  rw [← g1]
  have hS1 : Sy W1 p (S.bl i x T) := HH.out.hp (by rw [g1]; rfl)
  have hU1 : Upd (· = p) w W1 := by rw [g1]; exact (Upd.refl _ _).drewN _
  have hcnt : cnt T 25 = q0 := HB.out.n
  have k1 := hid (free_any p (S.bl i x T) W1 hS1 (by show cnt T 25 ≤ 24; omega))
  rw [show cnt (S.bl i x T).T 25 = q0 from hcnt] at k1
  have k2 : Hid (∀ W, Below W1.heap.size W1 W → Calls Tryz.prog 78 #[.pointer (some ⟨p, 0, none⟩), .slice (some ⟨p, o, none⟩) (q1 - q0) (6 - q0)] W fun e w' => e = .returned (.tuple #[]) ∧ Hid ((∃ B' T', Sy w' p (S.bl i { x with B := B' } T') ∧ Bok { x with B := B' } T' q1) ∧ Upd (· = p) w w')) := by
    refine hid (fun W hW => ?_)
    refine (take_any p S W i hi x T (hS1.grow hW) q0 (q1 - q0) (6 - q0) o HO.out (by omega) (by omega) (by omega) HB.out).mono ?_
    rintro e w' ⟨rfl, ⟨B', T', h1, h2, _⟩, u⟩
    rw [show q0 + (q1 - q0) = q1 by omega] at h2
    exact ⟨rfl, hid ⟨⟨B', T', h1, h2⟩, (hU1.trans (Upd.of_below (F := (· = p)) hW) (fun _ _ h => h)).trans u (fun _ _ h => h)⟩⟩
  have a5 : ¬ ((24 - q0 : Nat) : Int) < ((q1 - q0 : Nat) : Int) := by omega
  clear hS1 hU1 hcnt g1 HH HB
  go_wp2_with fail
  refine k1.out.mono ?_
  rintro e w2 ⟨rfl, hb2⟩
  have k3 := hid (k2.out w2 hb2)
  clear k1 k2 hb2
  go_wp2_with fail
  refine k3.out.mono ?_
  rintro e w3 ⟨rfl, H3⟩
  clear k3
  obtain ⟨⟨B', T', h1, h2⟩, u⟩ := H3.out
  have c4 := h1.s i hi
  have f4 := h1.fz (1 + i * 107 + 3)
  have hP3 : (S.bl i { x with B := B' } T').P i = { x with B := B' } := updN_same _ _ _
  rw [hP3] at c4
  have h5 := h1.sizeTo i hi size
  rw [hP3] at h5
  have e5 : (S.bl i { x with B := B' } T').at_ i (Nd.size { x with B := B' } size) = S.bl i { x with B := B', s := size } T' := by
    unfold Sg.bl Sg.at_ Nd.size
    congr 1
    funext j
    by_cases e : j = i <;> simp [updN, e]
  rw [e5] at h5
  have H5 : Hid ((∃ B' T', Sy (w3.setCell ⟨p, 1 + i * 107 + 3, none⟩ (.int .i64 (size : Int))) p (S.bl i { x with B := B', s := size } T') ∧ Bok { x with B := B', s := size } T' q1) ∧ Upd (· = p) w (w3.setCell ⟨p, 1 + i * 107 + 3, none⟩ (.int .i64 (size : Int)))) :=
    hid ⟨⟨B', T', h5, ⟨h2.in_, h2.ne, h2.n⟩⟩, u.trans (Upd.setCell (F := (· = p)) w3 ⟨p, _, none⟩ _ rfl) (fun _ _ h => h)⟩
  clear h1 h2 u h5 e5 hP3 H3
  go_wp2_with fail
  go_ret
  exact ⟨rfl, H5.out.1, H5.out.2⟩

set_option maxHeartbeats 1000000 in
theorem grow_same (p : Nat) (S : Sg) (w : World) (i : Nat) (hi : i < 17) (x : Nd) (T : Nat → Bool) (H : Sy w p (S.bl i x T)) (size : Nat) (hs : size ≤ x.s) :
    Calls Tryz.prog 59 #[.pointer (some ⟨p, 0, none⟩), .pointer (some ⟨p, 1 + i * 107, none⟩), .int .i64 (size : Int)] w fun e w' => e = .returned (.int .i64 0) ∧ w' = w := by
  have hP : (S.bl i x T).P i = x := updN_same _ _ _
  have c3 := H.s i hi
  rw [hP] at c3
  have a1 : (size : Int) ≤ (x.s : Int) := by omega
  clear H hP
  go_enter Tryz.func59, Tryz.ntmps59
  go_wp2_with fail
  go_ret
  exact ⟨rfl, rfl⟩

/-- A file gets at least a size. -/
theorem grow_any (p : Nat) (S : Sg) (w : World) (i : Nat) (hi : i < 17) (x : Nd) (T : Nat → Bool) (H : Sy w p (S.bl i x T)) (hB : Bok x T (need x.s)) (size : Nat) (hz : size ≤ 96) :
    Calls Tryz.prog 59 #[.pointer (some ⟨p, 0, none⟩), .pointer (some ⟨p, 1 + i * 107, none⟩), .int .i64 (size : Int)] w fun e w' => e = .returned (.int .i64 0) ∧ (∃ B' T', Sy w' p (S.bl i { x with B := B', s := max x.s size } T') ∧ Bok { x with B := B', s := max x.s size } T' (need (max x.s size))) ∧ Upd (· = p) w w' := by
  by_cases h : x.s < size
  · rw [Nat.max_eq_right (Nat.le_of_lt h)]
    exact grow_more p S w i hi x T H hB size h hz
  · rw [Nat.max_eq_left (by omega)]
    refine (grow_same p S w i hi x T H size (by omega)).mono ?_
    rintro e w' ⟨rfl, rfl⟩
    exact ⟨rfl, ⟨x.B, T, H, hB⟩, Upd.refl _ _⟩

end Go.Proofs.YtdnblbahecpmkaaGreat
