/- The document's refs. (Written by gen_uses.py.) -/
import Derived.Test.YtkgejeamcgodhaaGU2
import Derived.Test.YtkgejeamcgodhaaGSame
namespace Go.Proofs.Ytkgejeamcgodhaa
open Go.RowKit
set_option linter.unusedVariables false
set_option maxRecDepth 20000

set_option maxHeartbeats 8000000 in
theorem rrefs_any : ∀ (d : Nat) (ra : Option Addr) (rn rc : Nat) (qs : List Ar) (W : World), Krow d W ra qs → qs.length = rn → rn ≤ rc → rc ≤ 9223372036854775807 → cntL d qs ≤ 1048576 →
    Calls Try.prog 54 #[.slice ra rn rc] W fun e w' => ∃ a n c, e = .returned (.slice a n c) ∧ Ilst w' a n c (refsL d qs) ∧ Below W.heap.size W w' := by
  intro d
  induction d with
  | zero =>
    intro ra rn rc qs W hK hrn hrc hrb hcn
    have h0 : qs.length = 0 := by
      rcases Nat.eq_zero_or_pos qs.length with h | h
      · exact h
      · obtain ⟨_, _, _, _, hc⟩ := hK h
        exact (hc 0 h).2.elim
    obtain rfl : qs = [] := List.eq_nil_of_length_eq_zero h0
    obtain rfl : rn = 0 := hrn.symm
    clear hK
    go_enter Try.func54, Try.ntmps54
    go_wp2_with fail
    go_loopw [3, 8] (fun v k wr => k = .int .i64 0 ∧ v = .slice none 0 0 ∧ wr = W) (fun _ _ _ => 0)
    case atStart => exact ⟨rfl, rfl, by first | rfl | trivial⟩
    case round =>
      obtain ⟨rfl, rfl, rfl⟩ := hrel
      go_wp2_with fail
      go_ret
      exact ⟨none, 0, 0, rfl, ⟨rfl, fun h => by omega, fun _ => rfl⟩, Below.refl _ _⟩
  | succ d ih =>
    intro ra rn rc qs W hK hrn hrc hrb hcn
    obtain ⟨i0, hi0, hz0, hz1, hz2⟩ := info_parts infoInt
    have HK := hid hK
    have HN := hid hrn
    have IH := hid ih
    clear hK ih hrn
    go_enter Try.func54, Try.ntmps54
    go_wp2_with fail
    go_loopw [3, 8] (fun vx k wr => ∃ (i : Nat) (vv : Value), i ≤ rn ∧ k = .int .i64 i ∧ vv = vx ∧ Hid (wr.ownsRow W.heap.size 3 1 vv (refsL (d + 1) (qs.take i)).length ((refsL (d + 1) (qs.take i)).map (Value.int .i64))) ∧ Hid (Below W.heap.size W wr)) (fun _ k _ => rn - (intOf k).toNat)
    case atStart => exact ⟨0, _, by omega, rfl, rfl, hid (World.ownsRow_nil _ _ _ _), hid (Below.refl _ _)⟩
    case round =>
      obtain ⟨i, vv, hi, rfl, rfl, HO, HB⟩ := hrel
      by_cases hlt : i < rn
      · have hil : i < qs.length := by rw [HN.out]; exact hlt
        obtain ⟨b, o, rfl, hbl, hcs⟩ := HK.out (by omega)
        have hat := (hcs i hil).1
        obtain ⟨ho1, ho2, ho3⟩ := (hcs i hil).2
        have hRM := refsL_more (d + 1) qs i hil
        have hCM := cntL_more (d + 1) qs i hil
        have hCL := cntL_le (d + 1) qs (i + 1)
        have hRL := refsL_le (d + 1) (qs.take i)
        generalize qs[i] = A at *
        have q0 : wr.cell? ⟨b, o + i * 4, none⟩ = some (.int .i64 A.h.k) := (HB.out.cell (p := ⟨b, o + i * 4, none⟩) hbl).trans hat.c0
        have q1 : wr.cell? ⟨b, o + i * 4 + 1, none⟩ = some (.int .i64 A.h.v) := (HB.out.cell (p := ⟨b, o + i * 4 + 1, none⟩) hbl).trans hat.c1
        have q2 : wr.cell? ⟨b, o + i * 4 + 2, none⟩ = some (.slice A.h.ka A.h.kn A.h.kc) := (HB.out.cell (p := ⟨b, o + i * 4 + 2, none⟩) hbl).trans hat.c2
        have q3 : wr.cell? ⟨b, o + i * 4 + 3, none⟩ = some (.slice A.h.ba A.h.bn A.h.bc) := (HB.out.cell (p := ⟨b, o + i * 4 + 3, none⟩) hbl).trans hat.c3
        have hkm := ho1.km
        have hkb := ho1.kb
        have hc1 : cntA (d + 1) A = 1 + cntL d A.ks := rfl
        have hcd : cntL d A.ks ≤ 1048576 := by omega
        have HRM := hid hRM
        have HR1 : Hid (refsA (d + 1) A = (if A.h.k = 2 then [A.h.v] else []) ++ refsL d A.ks) := hid rfl
        have hr5 := refsL_le d A.ks
        have HK5 : Hid (Krow d W A.h.ka A.ks) := hid ho3
        have k5 : Hid (∀ Z : World, Below W.heap.size W Z → Calls Try.prog 54 #[.slice A.h.ka A.h.kn A.h.kc] Z fun e w' => ∃ a n c, e = .returned (.slice a n c) ∧ Ilst w' a n c (refsL d A.ks) ∧ Below Z.heap.size Z w') := hid (fun Z hZ => IH.out _ _ _ A.ks Z (HK5.out.below hZ) ho2 hkm hkb hcd)
        have hws := HB.out.size
        obtain ⟨V, gV⟩ : ∃ V, wr.alloc (.cells #[.int .i64 A.h.k, .int .i64 A.h.v, .slice A.h.ka A.h.kn A.h.kc, .slice A.h.ba A.h.bn A.h.bc] 30) = V := ⟨_, rfl⟩
        have hbV : Below wr.heap.size wr V := by rw [← gV]; exact below_box wr _
        have v0 : V.heap[wr.heap.size]? = some (.cells #[.int .i64 A.h.k, .int .i64 A.h.v, .slice A.h.ka A.h.kn A.h.kc, .slice A.h.ba A.h.bn A.h.bc] 30 (0, 0)) := by rw [← gV]; exact heap_alloc_new _ _
        have HV0 := hid v0
        have HBV : Hid (Below W.heap.size W V) := hid (HB.out.trans (hbV.mono HB.out.size))
        have HOV : Hid (V.ownsRow W.heap.size 3 1 vv (refsL (d + 1) (qs.take i)).length ((refsL (d + 1) (qs.take i)).map (Value.int .i64))) := hid (own_move HO.out (fun x hx _ => hbV.block x hx))
        have hsV : V.heap.size = wr.heap.size + 1 := by rw [← gV]; simp
        have GV := hid gV
        clear hat hcs ho1 ho2 ho3 hRM gV hbV v0
        generalize refsL (d + 1) (qs.take i) = S at *
        have hsl : S.length ≤ 1048576 := by omega
        by_cases hk : A.h.k = 2
        · have HOV2 := HOV
          have HBV2 := HBV
          rw [← GV.out] at HOV2 HBV2
          rw [hk] at q0 HOV2 HBV2
          have hsz1 : (wr.alloc (.cells #[.int .i64 2, .int .i64 A.h.v, .slice A.h.ka A.h.kn A.h.kc, .slice A.h.ba A.h.bn A.h.bc] 30)).heap.size = wr.heap.size + 1 := by simp
          go_wp2_with (at_builtin; go_must (refine wpList_append_own _ rfl (.tmp 15) (.tmp 18) 44 rfl W.heap.size 3 i0 _ 1 8 Try.underlying44 hi0 hz0 hz1 hz2 rfl (by decide) _ S.length (S.map (Value.int .i64)) rfl (HOV2.out.alloc _) ⟨_, 0, none⟩ 1 1 [.int .i64 A.h.v] rfl rfl (by have h9 := cell_one_new (wr.alloc (.cells #[.int .i64 2, .int .i64 A.h.v, .slice A.h.ka A.h.kn A.h.kc, .slice A.h.ba A.h.bn A.h.bc] 30)) (.int .i64 A.h.v) 3; rw [hsz1] at h9; exact h9) (by simp [Value.oneCell']) (by unfold maxLen; omega) (by omega) (by simp; omega) ?_))
          intro v' w3 hO3 hG3 hN3
          obtain ⟨S2, gS2⟩ : ∃ S2, S ++ [A.h.v] = S2 := ⟨_, rfl⟩
          have HS2 : Hid (S ++ (if A.h.k = 2 then [A.h.v] else []) = S2) := hid (by rw [if_pos hk]; exact gS2)
          have HO2 : Hid (w3.ownsRow W.heap.size 3 1 v' S2.length (S2.map (Value.int .i64))) := hid (by rw [← gS2]; simpa using hO3)
          have hb3 : Below W.heap.size W w3 := ((HBV2.out.alloc HBV2.out.size _).grown hG3 (by simp; omega) (fun k hk => (HO.out.lt k hk).1))
          have HB3 := hid hb3
          have x3 : w3.heap[wr.heap.size]? = some (.cells #[.int .i64 2, .int .i64 A.h.v, .slice A.h.ka A.h.kn A.h.kc, .slice A.h.ba A.h.bn A.h.bc] 30 (0, 0)) := (hG3.block _ (by simp; omega) (fun e => by have := (HO.out.lt _ e.symm).2; omega)).trans (((below_box _ _).block _ (by simp)).trans (heap_alloc_new _ _))
          have z2 : w3.cell? ⟨wr.heap.size, 2, none⟩ = some (.slice A.h.ka A.h.kn A.h.kc) := cell_of_row _ _ 2 _ _ _ x3
          have hsl2 : S2.length ≤ 1048577 := by rw [← gS2]; simp; omega
          clear hO3 hG3 hN3 hb3 x3 gS2
          have HZ : Hid (Below W.heap.size W w3) := HB3
          go_wp2_with fail
          refine (k5.out _ HZ.out).mono ?_
          rintro e w5 ⟨a5, n5, c5, rfl, hI5, hb5⟩
          have HI5 := hid hI5
          have HB5 : Hid (Below W.heap.size W w5) := hid (HZ.out.trans (hb5.mono HZ.out.size))
          have HO5 : Hid (w5.ownsRow W.heap.size 3 1 v' S2.length (S2.map (Value.int .i64))) := hid (own_move HO2.out (fun x hx _ => hb5.block x hx))
          have hn5 := hI5.size
          have hs5 := HB5.out.size
          clear hI5 hb5
          go_wp2_with (at_builtin; go_must (refine wpList_append_lst _ rfl (.tmp 20) (.tmp 23) 44 rfl W.heap.size i0 Try.underlying44 hi0 hz0 hz1 hz2 _ S2.length (S2.map (Value.int .i64)) rfl HO5.out a5 n5 c5 (refsL d A.ks) rfl HI5.out (by omega) (by omega) ?_))
          intro v6 w6 hO6 hG6
          have HO6 : Hid (w6.ownsRow W.heap.size 3 1 v6 (S2 ++ refsL d A.ks).length ((S2 ++ refsL d A.ks).map (Value.int .i64))) := hid (by simpa [hn5] using hO6)
          have HB6 := hid (HB5.out.grown hG6 (by omega) (fun k hk => (HO5.out.lt k hk).1))
          clear hO6 hG6
          go_wp2_with fail
          go_roundw
          case rel => exact ⟨i + 1, _, by omega, by go_num, rfl, by rw [HRM.out, HR1.out, ← List.append_assoc, HS2.out]; exact HO6, HB6⟩
          case measure => simp [intOf]; omega
        · obtain ⟨S2, gS2⟩ : ∃ S2, S = S2 := ⟨_, rfl⟩
          have HS2 : Hid (S ++ (if A.h.k = 2 then [A.h.v] else []) = S2) := hid (by rw [if_neg hk, List.append_nil]; exact gS2)
          have HO2 : Hid (V.ownsRow W.heap.size 3 1 vv S2.length (S2.map (Value.int .i64))) := hid (by rw [← gS2]; exact HOV.out)
          have hsl2 : S2.length ≤ 1048577 := by rw [← gS2]; omega
          clear gS2
          have HZ : Hid (Below W.heap.size W V) := HBV
          go_wp2_with fail
          rw [GV.out]
          refine (k5.out _ HZ.out).mono ?_
          rintro e w5 ⟨a5, n5, c5, rfl, hI5, hb5⟩
          have HI5 := hid hI5
          have HB5 : Hid (Below W.heap.size W w5) := hid (HZ.out.trans (hb5.mono HZ.out.size))
          have HO5 : Hid (w5.ownsRow W.heap.size 3 1 vv S2.length (S2.map (Value.int .i64))) := hid (own_move HO2.out (fun x hx _ => hb5.block x hx))
          have hn5 := hI5.size
          have hs5 := HB5.out.size
          clear hI5 hb5
          go_wp2_with (at_builtin; go_must (refine wpList_append_lst _ rfl (.tmp 20) (.tmp 23) 44 rfl W.heap.size i0 Try.underlying44 hi0 hz0 hz1 hz2 _ S2.length (S2.map (Value.int .i64)) rfl HO5.out a5 n5 c5 (refsL d A.ks) rfl HI5.out (by omega) (by omega) ?_))
          intro v6 w6 hO6 hG6
          have HO6 : Hid (w6.ownsRow W.heap.size 3 1 v6 (S2 ++ refsL d A.ks).length ((S2 ++ refsL d A.ks).map (Value.int .i64))) := hid (by simpa [hn5] using hO6)
          have HB6 := hid (HB5.out.grown hG6 (by omega) (fun k hk => (HO5.out.lt k hk).1))
          clear hO6 hG6
          go_wp2_with fail
          go_roundw
          case rel => exact ⟨i + 1, _, by omega, by go_num, rfl, by rw [HRM.out, HR1.out, ← List.append_assoc, HS2.out]; exact HO6, HB6⟩
          case measure => simp [intOf]; omega
      · obtain rfl : i = rn := by omega
        have hT : qs.take i = qs := List.take_of_length_le (by rw [HN.out]; exact Nat.le_refl _)
        rw [hT] at HO
        obtain ⟨a3, c3, rfl, _, hI⟩ := own_lst HO.out
        have HI := hid hI
        clear hI
        go_wp2_with fail
        go_ret
        exact ⟨a3, _, c3, rfl, HI.out, HB.out⟩

end Go.Proofs.Ytkgejeamcgodhaa
