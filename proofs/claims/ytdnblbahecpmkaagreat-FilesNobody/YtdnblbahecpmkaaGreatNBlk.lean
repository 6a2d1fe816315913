/- What allocated and free tell; what take does. -/
import Derived.Test.YtdnblbahecpmkaaGreatNFile
namespace Go.Proofs.YtdnblbahecpmkaaGreat
open Go.RowKit Go.ChangeMaps Go.MapKept
set_option linter.unusedVariables false
set_option maxRecDepth 20000

/-- The marks as they are read. -/
def mkL (T : Nat → Bool) : List Value := (List.range 25).map fun b => .bool (T b)
theorem mkL_len (T : Nat → Bool) : (mkL T).length = 25 := by simp [mkL]
theorem csizeB : (Tryz.prog.info? 4).map (·.size) = some 1 := by kernel_rfl
theorem ix_mark (T : Nat → Bool) (j : Nat) (hj : j < 25) (w : World) : (Instr.index 92 (.agg (mkL T).toArray) (.int .i64 (j : Int))).run Tryz.prog w = .ok (.bool (T j)) w := by
  have hn : (0 : Int) ≤ (j : Int) ∧ (j : Int) < 25 := by omega
  obtain ⟨i0, hi0⟩ : ∃ i, Tryz.prog.info? 4 = some i := by
    cases e : Tryz.prog.info? 4 with
    | none => have := csizeB; simp [e] at this
    | some i => exact ⟨i, rfl⟩
  have hs0 : i0.size = 1 := by have := csizeB; simpa [hi0] using this
  have he : (mkL T)[j]? = some (.bool (T j)) := by simp [mkL, hj]
  simp [Instr.index, run_underlying Tryz.underlying92, asIntOf, hn, go_sem, sizeOf, typeInfo, hi0, hs0]
  rw [if_pos hj, he]
  rfl

theorem Sy.marks {w : World} {p : Nat} {S : Sg} (h : Sy w p S) : w.rangeAt p 1820 (mkL S.T) := fun j v hv => by
  have hj : j < 25 := by
    rcases Nat.lt_or_ge j 25 with q | q
    · exact q
    · rw [List.getElem?_eq_none (by rw [mkL_len]; exact q)] at hv; simp at hv
  have e : (mkL S.T)[j]? = some (.bool (S.T j)) := by simp [mkL, hj]
  rw [e] at hv
  injection hv with hv
  rw [← hv]
  exact h.t j hj

theorem csizeM : (Tryz.prog.info? 92).map (·.size) = some 25 := by kernel_rfl

set_option maxHeartbeats 2000000 in
set_option maxRecDepth 20000 in
theorem alloc_any (p : Nat) (S : Sg) (w : World) (H : Sy w p S) : Calls Tryz.prog 52 #[.pointer (some ⟨p, 0, none⟩)] w fun e w' => (∃ a c, e = .returned (.slice a (cnt S.T 25) c)) ∧ Below w.heap.size w w' := by
  obtain ⟨i0, hi0, hz0, hz1, hz2⟩ := info_parts infoI
  have HR := hid H.marks
  obtain ⟨T, gT⟩ : ∃ T, T = S.T := ⟨_, rfl⟩
  rw [← gT] at HR ⊢
  obtain ⟨M, gM⟩ : ∃ M, M = mkL T := ⟨_, rfl⟩
  have HX : Hid (∀ (j : Nat) (W : World), j < 25 → (Instr.index 92 (.agg M.toArray) (.int .i64 (j : Int))).run Tryz.prog W = .ok (.bool (T j)) W) := hid (fun j W hj => by rw [gM]; exact ix_mark T j hj W)
  have HL : Hid ((Tryz.prog.info? 92).map (·.size) = some M.length) := by rw [gM, mkL_len]; exact hid csizeM
  rw [← gM] at HR
  clear gM gT H
  go_enter Tryz.func52, Tryz.ntmps52
  go_wp2_with (refine wpList_load_mid rfl 92 (.tmp 8) rfl p 1820 rfl M _ HR.out Tryz.underlying92 rfl HL.out ?_)
  go_loopw [3, 10] (fun v k wr => ∃ j : Nat, j ≤ 25 ∧ k = .int .i64 (j : Int) ∧ (∃ a c, v = .slice a (cnt T j) c) ∧ Hid (∃ xs, wr.ownsRow w.heap.size 3 1 v (cnt T j) xs ∧ Below w.heap.size w wr)) (fun _ k _ => 25 - (intOf k).toNat)
  case atStart => exact ⟨0, by omega, rfl, ⟨none, 0, rfl⟩, hid ⟨[], World.ownsRow_nil _ _ _ _, Below.refl _ _⟩⟩
  case round =>
    obtain ⟨j, hj25, rfl, ⟨a, c, rfl⟩, HQ⟩ := hrel
    by_cases e : j = 25
    · subst e
      go_wp2_with fail
      go_ret
      exact ⟨⟨_, _, rfl⟩, by obtain ⟨_, _, h⟩ := HQ.out; exact h⟩
    · have hj : j < 25 := by omega
      have hj2 : (j : Int) < 25 := by omega
      have hx := HX.out j wr hj
      have hcl := cnt_le T j
      clear e
      cases ht : T j with
      | false =>
        rw [ht] at hx
        have HC : Hid (cnt T (j + 1) = cnt T j) := hid (by simp [cnt, ht])
        clear ht
        go_wp2_with fail
        go_roundw
        case rel => exact ⟨j + 1, by omega, by go_num, ⟨a, c, by rw [HC.out]⟩, by rw [HC.out]; exact HQ⟩
        case measure => simp [intOf]; omega
      | true =>
        rw [ht] at hx
        have HC : Hid (cnt T (j + 1) = cnt T j + 1) := hid (by simp [cnt, ht])
        clear ht
        obtain ⟨xs, hO, hB⟩ := HQ.out
        have hsz := hB.size
        have HO := hid hO
        have HB := hid hB
        clear HQ hO hB
        go_wp2_with (at_builtin; go_must (refine wpList_append_own _ rfl (.tmp 15) (.tmp 17) 40 rfl w.heap.size 3 i0 _ 1 8 Tryz.underlying40 hi0 hz0 hz1 hz2 rfl (by decide) _ (cnt T j) xs rfl (HO.out.alloc _) ⟨_, 0, none⟩ 1 1 [.int .i64 (j : Int)] rfl rfl (cell_one_new _ _ _) (by simp [Value.oneCell']) (by unfold maxLen; omega) (by omega) (by simp; omega) ?_))
        intro v' w6 hO6 hG6 hN6
        obtain ⟨va, vc, rfl⟩ : ∃ va vc, v' = .slice va (cnt T j + 1) vc := by
          rcases hO6.2 with ⟨h1, h2⟩ | ⟨g, c, cur, rfl, _⟩
          · omega
          · exact ⟨_, c, rfl⟩
        have hb6 : Below w.heap.size w w6 := by
          have u : Upd _ _ w6 := Upd.of_grown hG6
          refine (HB.out.trans ((one_new wr _).mono hsz)).trans (u.below (by simp; omega) (fun k hk => ?_))
          exact (HO.out.lt k hk.symm).1
        have HQ6 : Hid (∃ ys, w6.ownsRow w.heap.size 3 1 (.slice va (cnt T j + 1) vc) (cnt T (j + 1)) ys ∧ Below w.heap.size w w6) := by rw [HC.out]; exact hid ⟨_, hO6, hb6⟩
        clear hO6 hG6 hN6 hb6
        go_wp2_with fail
        go_roundw
        case rel => exact ⟨j + 1, by omega, by go_num, ⟨va, vc, by rw [HC.out]⟩, HQ6⟩
        case measure => simp [intOf]; omega

theorem free_any (p : Nat) (S : Sg) (w : World) (H : Sy w p S) (hc : cnt S.T 25 ≤ 24) : Calls Tryz.prog 77 #[.pointer (some ⟨p, 0, none⟩)] w fun e w' => e = .returned (.int .i64 ((24 - cnt S.T 25 : Nat) : Int)) ∧ Below w.heap.size w w' := by
  have k1 := hid (alloc_any p S w H)
  obtain ⟨n, gn⟩ : ∃ n, n = cnt S.T 25 := ⟨_, rfl⟩
  rw [← gn] at hc k1 ⊢
  have c1 : IntKind.i64.wrap (24 - (n : Int)) = ((24 - n : Nat) : Int) := by rw [IntKind.wrap_i64]; omega
  clear gn H
  go_enter Tryz.func77, Tryz.ntmps77
  go_wp2_with fail
  refine k1.out.mono ?_
  rintro e w1 ⟨⟨a, c, rfl⟩, hb⟩
  have HB := hid hb
  clear hb k1
  go_wp2_with fail
  go_ret
  refine ⟨?_, HB.out⟩
  first
  | rfl
  | (show Ending.returned (Value.int .i64 (24 - (n : Int))) = _
     congr 2
     omega)

end Go.Proofs.YtdnblbahecpmkaaGreat
