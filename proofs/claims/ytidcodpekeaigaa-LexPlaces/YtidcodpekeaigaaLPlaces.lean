/- The law of places. -/
import Derived.Test.YtidcodpekeaigaaLPlaced
import Derived.Deep.QuietTactic
import Derived.BigQuiet
namespace Go.Proofs.Ytidcodpekeaigaa
open Go.RowKit
set_option linter.unusedVariables false

set_option maxHeartbeats 1000000 in
theorem slhasp_yes (a b : ByteArray) (w : World) (h : b.size ≤ a.size) (he : a.extract 0 b.size = b) (ha : a.size ≤ 4000) :
    Calls Try.prog 21 #[.string a, .string b] w fun e w' => e = .returned (.bool true) ∧ w' = w := by
  have c1 : (b.size : Int) ≤ (a.size : Int) := by omega
  have hsl : ∀ W : World, (Instr.slice 9 (.string a) none (some (.int .i64 b.size)) none).run Try.prog W = .ok (.string b) W := fun W => by
    rw [run_slice_string_to_if W 9 a .i64 b.size Try.underlying9, if_pos ⟨by omega, c1⟩]
    rw [show ((b.size : Int)).toNat = b.size by omega, he]
  clear he
  go_enter Try.func21, Try.ntmps21
  go_wp2
  go_ret
  exact ⟨rfl, rfl⟩

set_option maxHeartbeats 1000000 in
theorem hasp_yes (a b : ByteArray) (w : World) (h : b.size ≤ a.size) (he : a.extract 0 b.size = b) (ha : a.size ≤ 4000) :
    Calls Try.prog 12 #[.string a, .string b] w fun e w' => e = .returned (.bool true) ∧ w' = w := by
  have k1 := hid (slhasp_yes a b w h he ha)
  go_enter Try.func12, Try.ntmps12
  go_wp2_with fail
  refine k1.out.mono ?_
  rintro e w1 ⟨rfl, rfl⟩
  go_wp2_with fail
  go_ret
  exact ⟨rfl, rfl⟩

theorem extract_extract' (s : ByteArray) (a n : Nat) (h : a + n ≤ s.size) : (s.extract a s.size).extract 0 n = s.extract a (a + n) := by
  apply ByteArray.ext
  apply Array.toList_inj.1
  simp only [ByteArray.data_extract, Array.toList_extract, List.extract_eq_take_drop]
  have hl : s.data.toList.length = s.size := by simp
  rw [List.take_of_length_le (l := s.data.toList.drop a) (by simp)]
  rw [List.drop_zero, show a + n - a = n by omega, Nat.sub_zero]

set_option maxRecDepth 100000 in
set_option maxHeartbeats 8000000 in
theorem lexplaces_any (s : ByteArray) (w : World) (hs : s.size ≤ 140737488355328) :
    Calls Try.prog 5 #[.string s] w fun e w' => e = .returned (.bool true) ∧ Below w.heap.size w w' := by
  have k1 := hid (scan_any s w hs)
  have HL := hid (fun l => scanR_len (s := s) (l := l))
  have HPL := hid (fun l => scanR_placed (s := s) (l := l))
  have k2 := hid (fun w1 => rscan_any s w1 hs)
  obtain ⟨R, gR⟩ : ∃ R, R = scanR s := ⟨_, rfl⟩
  rw [← gR] at k1 k2 HL HPL
  clear gR
  go_enter Try.func5, Try.ntmps5
  go_wp2_with fail
  refine k1.out.mono ?_
  rintro e w1 ⟨h1, hb1⟩
  have HB1 := hid hb1
  rcases R with l | ⟨j, why⟩
  · obtain ⟨v1, rfl, ho1⟩ := h1
    have HO1 := hid ho1
    clear hb1 ho1
    go_wp2_with fail
    refine (k2.out w1).mono ?_
    rintro e w2 ⟨h2, hb2⟩
    obtain ⟨v2, rfl, ho2⟩ := h2
    have k3 := hid (is_nil 0 0 w2)
    rw [show decide ((0 : Int) = 0 ∧ (0 : Int) = 0) = true by decide] at k3
    have ho1 := own_below HO1.out hb2
    obtain ⟨a1, c1, rfl, _, _⟩ := own_shape ho1
    obtain ⟨a2, c2, rfl, _, _⟩ := own_shape ho2
    have HO2 := hid ho1
    have HB2 : Hid (Below w.heap.size w w2) := hid (HB1.out.trans (hb2.mono HB1.out.size))
    have hlen := HL.out l rfl
    obtain ⟨hpl, hsz⟩ := HPL.out l rfl
    have HP := hid hpl
    clear hb2 ho2 ho1 k1 k2 HL HPL hpl HO1 HB1 hs
    obtain ⟨n, gn⟩ : ∃ n, n = l.length := ⟨_, rfl⟩
    rw [← gn] at hlen ⊢
    have GN := hid gn
    clear gn
    go_wp2_with fail
    refine k3.out.mono ?_
    rintro e w3 ⟨rfl, rfl⟩
    go_wp2_with fail
    go_loopw [37, 8] (fun k q wr => ∃ j : Nat, j ≤ n ∧ k = .int .i64 j ∧ q = .int .i64 (endAt 0 l j) ∧ Hid (Below w3.heap.size w3 wr)) (fun k _ _ => n - (intOf k).toNat)
    case atStart => exact ⟨0, Nat.zero_le _, rfl, rfl, hid (Below.refl _ _)⟩
    case round =>
      obtain ⟨j, hj, rfl, rfl, HB⟩ := hrel
      by_cases h : j < n
      · have hjl : j < l.length := by rw [← GN.out]; exact h
        have h1 := own_below HO2.out HB.out
        obtain ⟨g1, d1, e1⟩ := own_some h1 (by omega)
        cases e1
        obtain ⟨p0, p1, p2, p3⟩ := toks_cells h1 j hjl
        obtain ⟨f1, f2, f3, f4, f5⟩ := HP.out.at_ j hjl
        have hsl : ∀ W : World, (Instr.slice 9 (.string s) (some (.int .i64 (tb l[j]))) none none).run Try.prog W = .ok (.string (s.extract (tb l[j]) s.size)) W := fun W => by
          rw [run_slice_string_from_if W 9 s .i64 (tb l[j]) Try.underlying9, if_pos ⟨by omega, by omega⟩]; rfl
        have kp := hid (fun W => hasp_yes (s.extract (tb l[j]) s.size) l[j].text W (by rw [size_extract' s (Nat.le_refl _)]; omega) (by rw [extract_extract' s _ _ f2, f3]) (by rw [size_extract' s (Nat.le_refl _)]; omega))
        have hk3 : (l[j].kind = 3 ∧ tb l[j] = l[j].at_ + 1) ∨ (¬ l[j].kind = 3 ∧ tb l[j] = l[j].at_) := by
          unfold tb
          by_cases e : l[j].kind = 3
          · left; exact ⟨e, by rw [if_pos e]⟩
          · right; exact ⟨e, by rw [if_neg e]⟩
        obtain ⟨y0, g0⟩ : ∃ y0, y0 = l[j].kind := ⟨_, rfl⟩
        obtain ⟨y1, g1'⟩ : ∃ y1, y1 = l[j].at_ := ⟨_, rfl⟩
        obtain ⟨y2, g2'⟩ : ∃ y2, y2 = l[j].text := ⟨_, rfl⟩
        obtain ⟨y3, g3⟩ : ∃ y3, y3 = l[j].num := ⟨_, rfl⟩
        obtain ⟨T, gT⟩ : ∃ T, T = tb l[j] := ⟨_, rfl⟩
        obtain ⟨E0, gE0⟩ : ∃ E0, E0 = endAt 0 l j := ⟨_, rfl⟩
        rw [← g0] at p0 hk3 f4
        rw [← g1'] at p1 f1 hk3
        rw [← g2'] at p2 kp f2 f3 f4 f5
        rw [← g3] at p3
        rw [← gT] at hsl kp f2 f3 f5 hk3
        rw [← gE0] at f1 ⊢
        obtain ⟨X, gX⟩ : ∃ X, X = s.extract T s.size := ⟨_, rfl⟩
        rw [← gX] at hsl kp
        have F5 := hid f5
        clear h1 g0 g1' g2' g3 gT gX f3 f5 gE0
        have m1 : decide ((y1 : Int) < (E0 : Int)) = false := by simp; omega
        rcases hk3 with ⟨rfl, rfl⟩ | ⟨m2, rfl⟩
        · have c5 : IntKind.i64.wrap ((y1 : Int) + 1) = (y1 : Int) + 1 := by rw [IntKind.wrap_i64]; omega
          have c6 : IntKind.i64.wrap ((y1 : Int) + 1 + y2.size) = (y1 : Int) + 1 + y2.size := by rw [IntKind.wrap_i64]; omega
          have hsl' : ∀ W : World, (Instr.slice 9 (.string s) (some (.int .i64 ((y1 : Int) + 1))) none none).run Try.prog W = .ok (.string X) W := hsl
          clear f4 hsl
          by_cases m3 : y2 = ⟨#[]⟩
          · subst m3
            go_wp2_with fail
            go_quiet ((go_at_call 12; refine Calls.quiet_of_same (kp.out _)))
            go_wp2_with fail
            go_roundw
            case rel => exact ⟨j + 1, by omega, by go_num, by rw [F5.out]; go_num, hid (HB.out.trans ((below_drewN (below_one wr _) _).mono HB.out.size))⟩
            case measure => simp [intOf]; omega
          · have m4 : (y2.toList == []) = false := by
              rw [ByteArray.toList_eq]
              cases h : y2.data.toList with
              | nil => exact absurd (ByteArray.ext (Array.toList_inj.1 h)) m3
              | cons x r => rfl
            go_wp2_with fail
            go_quiet ((go_at_call 12; refine Calls.quiet_of_same (kp.out _)))
            go_wp2_with fail
            go_roundw
            case rel => exact ⟨j + 1, by omega, by go_num, by rw [F5.out]; go_num, hid (HB.out.trans ((below_drewN (below_one wr _) _).mono HB.out.size))⟩
            case measure => simp [intOf]; omega
        · have c6 : IntKind.i64.wrap ((T : Int) + y2.size) = (T : Int) + y2.size := by rw [IntKind.wrap_i64]; omega
          have m3 : ¬ y2 = ⟨#[]⟩ := fun e => m2 (f4 (by rw [e]; rfl))
          have m4 : (y2.toList == []) = false := by
            rw [ByteArray.toList_eq]
            cases h : y2.data.toList with
            | nil => exact absurd (ByteArray.ext (Array.toList_inj.1 h)) m3
            | cons x r => rfl
          clear f4 m3
          go_wp2_with fail
          go_quiet ((go_at_call 12; refine Calls.quiet_of_same (kp.out _)))
          go_wp2_with fail
          go_roundw
          case rel => exact ⟨j + 1, by omega, by go_num, by rw [F5.out]; go_num, hid (HB.out.trans ((below_drewN (below_one wr _) _).mono HB.out.size))⟩
          case measure => simp [intOf]; omega
      · obtain rfl : j = n := by omega
        have hov := HP.out.over
        rw [← GN.out] at hov
        have m1 : (endAt 0 l j : Int) ≤ (s.size : Int) := by omega
        obtain ⟨E0, gE0⟩ : ∃ E0, E0 = endAt 0 l j := ⟨_, rfl⟩
        rw [← gE0] at m1 ⊢
        clear gE0 hov
        go_wp2_with fail
        go_ret
        exact ⟨rfl, HB2.out.trans (HB.out.mono HB2.out.size)⟩
  · obtain rfl := h1
    clear hb1
    go_wp2_with fail
    refine (k2.out w1).mono ?_
    rintro e w2 ⟨h2, hb2⟩
    obtain rfl := h2
    have k3 := hid (is_fault j why j why w2)
    rw [show decide (why = why ∧ (j : Int) = j) = true by simp] at k3
    have HB2 := hid hb2
    clear hb2 k1 k2 HL HPL
    go_wp2_with fail
    refine k3.out.mono ?_
    rintro e w3 ⟨rfl, hb3⟩
    have HB3 := hid hb3
    clear hb3
    go_wp2_with fail
    go_loopw [37, 8] (fun k q wr => k = .int .i64 0 ∧ q = .int .i64 0 ∧ wr = w3) (fun k _ _ => 0)
    case atStart => exact ⟨rfl, rfl, rfl⟩
    case round =>
      obtain ⟨rfl, rfl, rfl⟩ := hrel
      have m1 : (0 : Int) ≤ (s.size : Int) := by omega
      go_wp2_with fail
      go_ret
      have s1 := HB1.out.size
      have s2 := HB2.out.size
      exact ⟨rfl, (HB1.out.trans (HB2.out.mono s1)).trans (HB3.out.mono (Nat.le_trans s1 s2))⟩

end Go.Proofs.Ytidcodpekeaigaa
