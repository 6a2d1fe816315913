/- What free and ready do; what Open does. -/
import Derived.Test.YtdnblbahecpmkaaGreatFMove
namespace Go.Proofs.YtdnblbahecpmkaaGreat
open Go.RowKit Go.ChangeMaps Go.MapKept
set_option linter.unusedVariables false
set_option maxRecDepth 20000

/-- The numbers from 1 up to one that no open file has. -/
def frL (F : Nat → Fl) : Nat → List Nat
  | 0 => []
  | n + 1 => frL F n ++ if 1 ≤ n ∧ (F n).h = 0 then [n] else []
theorem frL_le (F : Nat → Fl) : ∀ n, (frL F n).length ≤ n
  | 0 => Nat.le_refl _
  | n + 1 => by
    have := frL_le F n
    unfold frL
    split <;> simp <;> omega
theorem frL_none (F : Nat → Fl) : ∀ n, (∀ j, 1 ≤ j → j < n → (F j).h ≠ 0) → frL F n = []
  | 0, _ => rfl
  | n + 1, h => by
    unfold frL
    rw [frL_none F n (fun j h1 h2 => h j h1 (by omega))]
    by_cases e : 1 ≤ n ∧ (F n).h = 0
    · exact absurd e.2 (h n e.1 (by omega))
    · rw [if_neg e]; rfl
theorem frL_first (F : Nat → Fl) (f : Nat) (h1 : 1 ≤ f) (hf : (F f).h = 0) (hj : ∀ j, 1 ≤ j → j < f → (F j).h ≠ 0) : ∀ n, f < n → ∃ r, frL F n = f :: r
  | 0, h => by omega
  | n + 1, h => by
    unfold frL
    by_cases e : f = n
    · subst e
      rw [frL_none F f hj, if_pos ⟨h1, hf⟩]
      exact ⟨[], rfl⟩
    · obtain ⟨r, hr⟩ := frL_first F f h1 hf hj n (by omega)
      rw [hr]
      exact ⟨_, rfl⟩

set_option maxHeartbeats 2000000 in
set_option maxRecDepth 20000 in
theorem ffree_any (w : World) (t p q : Nat) (F : Nat → Fl) (H : Tf w t p q F) : Calls Tryz.prog 24 #[.pointer (some ⟨t, 0, none⟩)] w fun e w' => (∃ v, e = .returned v ∧ w'.ownsRow w.heap.size 3 1 v (frL F 11).length ((frL F 11).map fun (i : Nat) => Value.int .i64 (i : Int))) ∧ Below w.heap.size w w' := by
  obtain ⟨i0, hi0, hz0, hz1, hz2⟩ := info_parts infoI
  have HH := hid H
  clear H
  go_enter Tryz.func24, Tryz.ntmps24
  go_wp2_with fail
  go_loopw [3, 4] (fun v k wr => ∃ j : Nat, 1 ≤ j ∧ j ≤ 11 ∧ k = .int .i64 (j : Int) ∧ Hid (wr.ownsRow w.heap.size 3 1 v (frL F j).length ((frL F j).map fun (i : Nat) => Value.int .i64 (i : Int)) ∧ Below w.heap.size w wr)) (fun _ k _ => 11 - (intOf k).toNat)
  case atStart => exact ⟨1, by omega, by omega, rfl, hid ⟨World.ownsRow_nil _ _ _ _, Below.refl _ _⟩⟩
  case round =>
    obtain ⟨j, hj1, hj11, rfl, HQ⟩ := hrel
    by_cases e : j = 11
    · subst e
      go_wp2_with fail
      go_ret
      exact ⟨⟨_, rfl, HQ.out.1⟩, HQ.out.2⟩
    · have hj : j < 11 := by omega
      have hj2 : (j : Int) ≤ 10 := by omega
      have hj3 : (j : Int) < 11 := by omega
      have hj0 : (0 : Int) ≤ (j : Int) := by omega
      have c4 := (HH.out.grow HQ.out.2).c4 j hj
      have hfl := frL_le F j
      clear e
      by_cases h0 : (F j).h = 0
      · rw [h0] at c4
        have HC : Hid (frL F (j + 1) = frL F j ++ [j]) := hid (by rw [frL, if_pos ⟨hj1, h0⟩])
        have hsz := HQ.out.2.size
        clear h0
        go_wp2_with (at_builtin; go_must (refine wpList_append_own _ rfl (.tmp 17) (.tmp 19) 40 rfl w.heap.size 3 i0 _ 1 8 Tryz.underlying40 hi0 hz0 hz1 hz2 rfl (by decide) _ (frL F j).length ((frL F j).map fun (i : Nat) => Value.int .i64 (i : Int)) rfl (HQ.out.1.alloc _) ⟨_, 0, none⟩ 1 1 [.int .i64 (j : Int)] rfl rfl (cell_one_new _ _ _) (by simp [Value.oneCell']) (by unfold maxLen; omega) (by omega) (by simp; omega) ?_))
        intro v' w6 hO6 hG6 hN6
        have hb6 : Below w.heap.size w w6 := by
          have u : Upd _ _ w6 := Upd.of_grown hG6
          refine (HQ.out.2.trans ((one_new wr _).mono hsz)).trans (u.below (by simp; omega) (fun k hk => ?_))
          exact (HQ.out.1.lt k hk.symm).1
        have HQ6 : Hid (w6.ownsRow w.heap.size 3 1 v' (frL F (j + 1)).length ((frL F (j + 1)).map fun (i : Nat) => Value.int .i64 (i : Int)) ∧ Below w.heap.size w w6) := by
          rw [HC.out]
          refine hid ⟨?_, hb6⟩
          simpa using hO6
        clear hO6 hG6 hN6 hb6
        go_wp2_with fail
        go_roundw
        case rel => exact ⟨j + 1, by omega, by omega, by go_num, HQ6⟩
        case measure => simp [intOf]; omega
      · have HC : Hid (frL F (j + 1) = frL F j) := hid (by rw [frL, if_neg (fun e => h0 e.2)]; simp)
        obtain ⟨n, gn⟩ : ∃ n, n = (F j).h := ⟨_, rfl⟩
        rw [← gn] at c4 h0
        clear gn
        go_wp2_with fail
        go_roundw
        case rel => exact ⟨j + 1, by omega, by omega, by go_num, by rw [HC.out]; exact HQ⟩
        case measure => simp [intOf]; omega

set_option maxHeartbeats 2000000 in
set_option maxRecDepth 20000 in
theorem ready_file (w : World) (t p q : Nat) (S : Sg) (i : Nat) (h1 : 1 ≤ i) (hi : i < 17) (x : Nd) (T : Nat → Bool) (F : Nat → Fl) (H : Fw w t p q S i x T F) (fl : Int) (hw : (bits BinOp.and IntKind.i64 fl 2 == 0) = false) (hc : (bits BinOp.and IntKind.i64 fl 32 == 0) = true) :
    Calls Tryz.prog 26 #[.pointer (some ⟨t, 0, none⟩), .int .i64 (i : Int), .int .i64 fl] w fun e w' => e = .returned (.int .i64 0) ∧ Below w.heap.size w w' := by
  have k1 := hid (stat_file p S w i h1 hi x T H.sy H.k)
  have cs := H.tf.s
  obtain ⟨s, gs⟩ : ∃ s, s = x.s := ⟨_, rfl⟩
  rw [← gs] at k1
  obtain ⟨l, gl⟩ : ∃ l, l = x.l := ⟨_, rfl⟩
  rw [← gl] at k1
  clear H gs gl
  go_enter Tryz.func26, Tryz.ntmps26
  go_wp2_with fail
  refine k1.out.mono ?_
  rintro e w2 ⟨rfl, hb2⟩
  have HB2 := hid hb2
  clear k1 hb2
  go_wp2_with fail
  go_ret
  exact ⟨rfl, HB2.out.trans ((one_new w2 _).mono HB2.out.size)⟩

end Go.Proofs.YtdnblbahecpmkaaGreat
