/- The law of blanks. -/
import Derived.Test.YtidcodpekeaigaaLBare
import Derived.Deep.Cut
import Derived.Deep.CutRange
namespace Go.Proofs.Ytidcodpekeaigaa
open Go.RowKit
set_option linter.unusedVariables false

theorem numP_bad {s : ByteArray} {i d j : Nat} {why : Int} (hi : i ≤ s.size) (hd' : d ≤ s.size) (h : numP s i d = .bad j why) : j ≤ s.size := by
  have key : ∀ (base : Int) (D : Nat), base ≤ 16 → D ≤ s.size → numD s i base D = .bad j why → j ≤ s.size := by
    intro base D hb hD h
    have := amt_le (s := s) (base := base) (top := 2147483649) (n := 0) (i := D) hb hD
    unfold numD numE at h
    split at h
    · cases h; exact hi
    split at h
    · cases h; exact hi
    split at h
    · cases h; exact this
    · cases h
  unfold numP at h
  split at h
  · rename_i hx
    exact key 16 (d + 2) (by omega) (Nat.le_of_lt (digit_lt (by omega) hx.2.2)) h
  · exact key 10 d (by omega) hd' h
theorem stepP_bad {s : ByteArray} {i j : Nat} {why : Int} (hi : i < s.size) (h : stepP s i = .bad j why) : j ≤ s.size := by
  unfold stepP at h
  split at h
  · cases h
  split at h
  · cases h
  split at h
  · cases h
  split at h
  · cases h
  split at h
  · unfold txtP at h
    split at h
    · cases h
    · cases h; omega
  split at h
  · exact numP_bad (Nat.le_of_lt hi) hi h
  unfold wordP at h
  split at h
  · exact numP_bad (Nat.le_of_lt hi) (Nat.le_of_lt hi) h
  split at h
  · cases h
  · cases h; omega
theorem scanP_end {s : ByteArray} {i j : Nat} {why : Int} {acc : List Tok} (h : scanP s i acc = .bad j why) : j ≤ s.size := by
  by_cases hl : i < s.size
  · rcases hs : stepP s i with k | ⟨t, k⟩ | ⟨j', why'⟩
    · rw [scanP_skip hl hs] at h
      have := stepP_skip hl hs
      exact scanP_end h
    · rw [scanP_tok hl hs] at h
      have := stepP_tok hl hs
      exact scanP_end h
    · rw [scanP_bad hl hs] at h
      cases h
      exact stepP_bad hl hs
  · rw [scanP_over hl] at h
    cases h
termination_by s.size - i
theorem scanR_end {s : ByteArray} {j : Nat} {why : Int} (h : scanR s = .bad j why) : j ≤ 4000 := by
  unfold scanR at h
  split at h
  · cases h; omega
  · have := scanP_end h
    omega

theorem drop_in {α : Type} (A B : List α) {m : Nat} (h : m < A.length) : (A ++ B).drop m = A[m] :: (A ++ B).drop (m + 1) := by
  rw [List.drop_eq_getElem_cons (by rw [List.length_append]; omega), List.getElem_append_left h]

set_option maxRecDepth 100000 in
set_option maxHeartbeats 8000000 in
theorem lexblanks_any (s : ByteArray) (k : Int) (w : World) (hs : s.size ≤ 140737488351232) (hk : -9223372036854775808 ≤ k ∧ k ≤ 9223372036854775807) :
    Calls Try.prog 4 #[.string s, .int .i64 k] w fun e w' => e = .returned (.bool true) ∧ Below w.heap.size w w' := by
  obtain ⟨r, gr⟩ : ∃ r : Int, r = k % 18446744073709551616 % 4 := ⟨_, rfl⟩
  have hr : r = 0 ∨ r = 1 ∨ r = 2 ∨ r = 3 := by omega
  have g1 : (IntKind.u64.wrap k).tmod 4 = r := by
    have e : IntKind.u64.wrap k = k % 18446744073709551616 := by rw [IntKind.wrap_u64]
    rw [e, Int.tmod_eq_emod_of_nonneg (by omega), gr]
  clear gr
  go_enter Try.func4, Try.ntmps4
  go_upto_region 1 with fail
  go_cut [5] from 6 (fun s5 wx => ∃ (p : ByteArray) (pre : List Tok), s5 = .string p ∧ Hid (Ahead p pre) ∧ Hid (Below w.heap.size w wx))
  case first =>
    rcases hr with rfl | rfl | rfl | rfl
    · go_wp2_with fail
      go_meet
      case rel => exact ⟨_, _, rfl, hid ahead0, hid (below_one _ _)⟩
    · go_wp2_with fail
      go_meet
      case rel => exact ⟨_, _, rfl, hid ahead1, hid (below_one _ _)⟩
    · obtain ⟨pre, ha⟩ := ahead2
      have HA := hid ha
      clear ha
      go_wp2_with fail
      go_meet
      case rel => exact ⟨_, _, rfl, HA, hid (below_one _ _)⟩
    · obtain ⟨pre, ha⟩ := ahead3
      have HA := hid ha
      clear ha
      go_wp2_with fail
      go_meet
      case rel => exact ⟨_, _, rfl, HA, hid (below_one _ _)⟩
  case rest =>
    obtain ⟨p, pre, rfl, HA, HB0⟩ := hcut
    have hn := HA.out.size
    have hz := size_app p s
    have k1 := hid (scan_any s wc (by omega))
    have k2 := hid (fun w1 => scan_any (p ++ s) w1 (by rw [size_app]; omega))
    have k3 := hid (fun w1 => rscan_any s w1 (by omega))
    have HSH := hid (fun h => HA.out.scanR s h)
    have hbig : 4000 < (p ++ s).size → scanR (p ++ s) = .bad 0 4 := fun h => by unfold scanR; rw [if_pos h]
    have HL := hid (fun l => scanR_len (s := s) (l := l))
    have HJ := hid (fun j why => scanR_end (s := s) (j := j) (why := why))
    obtain ⟨n, gn⟩ : ∃ n, n = p.size := ⟨_, rfl⟩
    obtain ⟨R, gR⟩ : ∃ R, R = scanR s := ⟨_, rfl⟩
    obtain ⟨R2, gR2⟩ : ∃ R2, R2 = scanR (p ++ s) := ⟨_, rfl⟩
    rw [← gn] at hn hz HSH
    rw [← gR] at k1 k3 HSH HL HJ
    rw [← gR2] at k2 HSH hbig
    have hN : (p.size : Int) = (n : Int) := by rw [gn]
    have HLI : Hid (∀ t ∈ pre, t.kind = 5 ∧ t.at_ < n) := hid (fun t ht => by rw [gn]; exact HA.out.lines t ht)
    have HFW := hid HA.out.few
    have cs : IntKind.i64.wrap ((n : Int) + (s.size : Int)) = (n : Int) + (s.size : Int) := by rw [IntKind.wrap_i64]; omega
    clear gR gR2 gn HA hr g1 hk
    go_wp2_with fail
    refine k1.out.mono ?_
    rintro e w1 ⟨h1, hb1⟩
    by_cases hlen : 4000 < n + s.size
    · have hR2 : R2 = .bad 0 4 := hbig (by rw [hz]; exact hlen)
      subst hR2
      have c1 : (4000 : Int) < (n : Int) + (s.size : Int) := by omega
      have k5 := hid (fun w2 => is_fault 0 4 0 4 w2)
      have HB1 := hid (HB0.out.trans (hb1.mono HB0.out.size))
      clear hb1 hbig HSH k3 HL HJ
      rcases R with l | ⟨j, why⟩
      · obtain ⟨v1, rfl, ho1⟩ := h1
        clear ho1
        go_wp2_with fail
        refine (k2.out w1).mono ?_
        rintro e w2 ⟨h2, hb2⟩
        obtain rfl := h2
        have HB2 := hid (HB1.out.trans (hb2.mono HB1.out.size))
        clear hb2
        go_wp2_with fail
        refine (k5.out w2).mono ?_
        rintro e w3 ⟨rfl, hb3⟩
        have HB3 := hid (HB2.out.trans (hb3.mono HB2.out.size))
        clear hb3
        go_wp2_with fail
        go_ret
        exact ⟨rfl, HB3.out⟩
      · obtain rfl := h1
        go_wp2_with fail
        refine (k2.out w1).mono ?_
        rintro e w2 ⟨h2, hb2⟩
        obtain rfl := h2
        have HB2 := hid (HB1.out.trans (hb2.mono HB1.out.size))
        clear hb2
        go_wp2_with fail
        refine (k5.out w2).mono ?_
        rintro e w3 ⟨rfl, hb3⟩
        have HB3 := hid (HB2.out.trans (hb3.mono HB2.out.size))
        clear hb3
        go_wp2_with fail
        go_ret
        exact ⟨rfl, HB3.out⟩
    · have hR2 := HSH.out (by omega)
      have c1 : ¬ (4000 : Int) < (n : Int) + (s.size : Int) := by omega
      have HB1 := hid (HB0.out.trans (hb1.mono HB0.out.size))
      clear hb1 hbig HSH
      rcases R with l | ⟨j, why⟩
      · have hR2' : R2 = .toks (pre ++ l.map (shT n)) := hR2
        subst hR2'
        have hll := HL.out l rfl
        obtain ⟨v1, rfl, ho1⟩ := h1
        have HO1 := hid ho1
        clear ho1 hR2 HL HJ
        go_wp2_with fail
        refine (k2.out w1).mono ?_
        rintro e w2 ⟨h2, hb2⟩
        obtain ⟨v2, rfl, ho2⟩ := h2
        have HO1' := hid (own_below HO1.out hb2)
        have HO2 := hid ho2
        have HB2 := hid (HB1.out.trans (hb2.mono HB1.out.size))
        clear hb2 ho2
        go_wp2_with fail
        refine (k3.out w2).mono ?_
        rintro e w3 ⟨h3, hb3⟩
        obtain ⟨v3, rfl, ho3⟩ := h3
        have k4 := hid (is_nil 0 0 w3)
        rw [show decide ((0 : Int) = 0 ∧ (0 : Int) = 0) = true by decide] at k4
        have k5 := hid (seq_yes v1 v3 _ _ l w3 (own_below HO1'.out hb3) ho3 (by omega))
        have HO3 := hid (own_below HO1'.out hb3)
        have HO4 := hid (own_below HO2.out hb3)
        have HB3 := hid (HB2.out.trans (hb3.mono HB2.out.size))
        clear hb3 ho3 HO1 HO2 HO1' k1 k2 k3
        go_wp2_with fail
        refine k4.out.mono ?_
        rintro e w4 ⟨rfl, rfl⟩
        go_wp2_with fail
        refine k5.out.mono ?_
        rintro e w5 ⟨rfl, hh5, hu5⟩
        have hb5 : Below w4.heap.size w4 w5 := hu5.below (Nat.le_refl _) (fun x hx => hx.elim)
        have HB5 := hid (HB3.out.trans (hb5.mono HB3.out.size))
        have T1 := hid (Trd.own (own_below HO3.out hb5))
        have T2 := hid (Trd.own (own_below HO4.out hb5))
        clear hu5 hh5 hb5 HO3 HO4 k4 k5
        go_wp2_with fail
        go_loop [8] (fun q => ∃ m, m ≤ pre.length ∧ Hid (Trd w5 q ((pre ++ l.map (shT n)).drop m))) (fun q => (match q with | .slice _ len _ => len | _ => 0))
        case atStart => exact ⟨0, Nat.zero_le _, T2⟩
        case round =>
          obtain ⟨m, hm, HT⟩ := hrel
          have kb1 := hid (bare_any v1 l w5 T1.out (by omega))
          by_cases hlt : m < pre.length
          · have hdr := drop_in pre (l.map (shT n)) hlt
            obtain ⟨hk5, hat⟩ := HLI.out pre[m] (List.getElem_mem hlt)
            have ht := HT.out
            rw [hdr] at ht
            obtain ⟨a, c, e, h1, h2, h3⟩ := ht
            subst e
            obtain ⟨g, o, rfl, hg, hcc⟩ := h3 (by simp)
            obtain ⟨q0, q1, q2, q3⟩ := hcc 0 (by simp)
            rw [List.length_cons] at h1 ⊢
            have ht2 : Trd w5 (.slice (some ⟨g, o, none⟩) (((pre ++ l.map (shT n)).drop (m + 1)).length + 1) c) (pre[m] :: (pre ++ l.map (shT n)).drop (m + 1)) := by
              have := HT.out
              rw [hdr] at this
              exact this
            obtain ⟨v', hv', hsl⟩ := ht2.tail
            have HV := hid hv'
            simp only [List.getElem_cons_zero, Nat.zero_mul, Nat.add_zero] at q0 q1
            rw [hk5] at q0
            obtain ⟨y, gy⟩ : ∃ y, y = pre[m].at_ := ⟨_, rfl⟩
            rw [← gy] at q1 hat
            have hsh : ∃ a' c', v' = .slice a' ((pre ++ l.map (shT n)).drop (m + 1)).length c' := by
              obtain ⟨a', c', e, _⟩ := hv'
              exact ⟨a', c', e⟩
            obtain ⟨a', c', rfl⟩ := hsh
            obtain ⟨len, gl⟩ : ∃ len, len = ((pre ++ l.map (shT n)).drop (m + 1)).length := ⟨_, rfl⟩
            rw [← gl] at hsl HV h1 ⊢
            have cy : (y : Int) < (n : Int) := by omega
            clear hdr hcc h3 ht2 hv' q2 q3 gy hk5 gl kb1
            go_wp2_with fail
            go_round
            case rel => exact ⟨m + 1, hlt, HV⟩
            case measure => simp
          · have hdr : (pre ++ l.map (shT n)).drop m = l.map (shT n) := by
              rw [show m = pre.length by omega, List.drop_left]
            rw [hdr] at HT
            have HX0 := HT
            obtain ⟨a, c, e, h1, h2, h3⟩ := HT.out
            subst e
            cases l with
            | nil =>
              have HX : Hid (Trd w5 (.slice a 0 c) (([] : List Tok).map (shT n))) := HX0
              clear h1 h2 h3 hdr HT HX0
              simp only [List.map_nil, List.length_nil]
              go_wp2_with fail
              refine (kb1.out).mono ?_
              rintro e w6 ⟨vb1, rfl, hbo1, hbb1⟩
              have kb2 := hid (bare_any (.slice a 0 c) (([] : List Tok).map (shT n)) w6 (HX.out.below hbb1) (by rw [List.length_map]; omega))
              have HBO := hid hbo1
              have HBB := hid (HB5.out.trans (hbb1.mono HB5.out.size))
              clear hbo1 hbb1
              go_wp2_with fail
              refine (kb2.out).mono ?_
              rintro e w7 ⟨vb2, rfl, hbo2, hbb2⟩
              rw [bare_map, List.length_map] at hbo2
              have hlb : ([] : List Tok).length = (([] : List Tok).map bareT).length := by rw [List.length_map]
              have k8 := hid (seq_yes vb1 vb2 _ _ (([] : List Tok).map bareT) w7 (by rw [← hlb]; exact own_below HBO.out hbb2) (by rw [← hlb]; exact hbo2) (by rw [← hlb]; omega))
              have HB7 := hid (HBB.out.trans (hbb2.mono HBB.out.size))
              clear hbo2 hbb2 hlb
              go_wp2_with fail
              refine (k8.out).mono ?_
              rintro e w8 ⟨rfl, _, hu8⟩
              have HB8 := hid (HB7.out.trans (hu8.below HB7.out.size (fun x hx => hx.elim)))
              clear hu8
              go_wp2_with fail
              go_ret
              exact ⟨rfl, HB8.out⟩
            | cons t l' =>
              obtain ⟨g, o, rfl, hg, hcc⟩ := h3 (by simp)
              obtain ⟨z0, z1, z2, z3⟩ := hcc 0 (by simp)
              simp only [List.map_cons, List.getElem_cons_zero, Nat.zero_mul, Nat.add_zero] at z0 z1
              rw [show (shT n t).kind = t.kind from rfl] at z0
              have hat : n ≤ (shT n t).at_ := Nat.le_add_right _ _
              obtain ⟨y, gy⟩ : ∃ y, y = (shT n t).at_ := ⟨_, rfl⟩
              rw [← gy] at z1 hat
              have HX : Hid (Trd w5 (.slice (some ⟨g, o, none⟩) (l'.length + 1) c) ((t :: l').map (shT n))) := hid (by have h := HX0.out; rw [List.length_map] at h; exact h)
              have cy : decide ((y : Int) < (n : Int)) = false := by simp; omega
              have cy2 : ¬ (y : Int) < (n : Int) := by omega
              obtain ⟨K, gK⟩ : ∃ K, K = t.kind := ⟨_, rfl⟩
              rw [← gK] at z0
              have hl0 : (0 : Int) < ((l'.length + 1 : Nat) : Int) := by omega
              clear h1 h2 h3 hdr HT hcc z2 z3 gy gK HX0
              simp only [List.map_cons, List.length_cons, List.length_map]
              by_cases hk5 : K = 5
              · subst hk5
                go_wp2_with fail
                refine (kb1.out).mono ?_
                rintro e w6 ⟨vb1, rfl, hbo1, hbb1⟩
                have kb2 := hid (bare_any (.slice (some ⟨g, o, none⟩) (l'.length + 1) c) ((t :: l').map (shT n)) w6 (HX.out.below hbb1) (by rw [List.length_map]; omega))
                have HBO := hid hbo1
                have HBB := hid (HB5.out.trans (hbb1.mono HB5.out.size))
                clear hbo1 hbb1
                go_wp2_with fail
                refine (kb2.out).mono ?_
                rintro e w7 ⟨vb2, rfl, hbo2, hbb2⟩
                rw [bare_map, List.length_map] at hbo2
                have hlb : (t :: l').length = ((t :: l').map bareT).length := by rw [List.length_map]
                have k8 := hid (seq_yes vb1 vb2 _ _ ((t :: l').map bareT) w7 (by rw [← hlb]; exact own_below HBO.out hbb2) (by rw [← hlb]; exact hbo2) (by rw [← hlb]; omega))
                have HB7 := hid (HBB.out.trans (hbb2.mono HBB.out.size))
                clear hbo2 hbb2 hlb
                go_wp2_with fail
                refine (k8.out).mono ?_
                rintro e w8 ⟨rfl, _, hu8⟩
                have HB8 := hid (HB7.out.trans (hu8.below HB7.out.size (fun x hx => hx.elim)))
                clear hu8
                go_wp2_with fail
                go_ret
                exact ⟨rfl, HB8.out⟩
              · go_wp2_with fail
                refine (kb1.out).mono ?_
                rintro e w6 ⟨vb1, rfl, hbo1, hbb1⟩
                have kb2 := hid (bare_any (.slice (some ⟨g, o, none⟩) (l'.length + 1) c) ((t :: l').map (shT n)) w6 (HX.out.below hbb1) (by rw [List.length_map]; omega))
                have HBO := hid hbo1
                have HBB := hid (HB5.out.trans (hbb1.mono HB5.out.size))
                clear hbo1 hbb1
                go_wp2_with fail
                refine (kb2.out).mono ?_
                rintro e w7 ⟨vb2, rfl, hbo2, hbb2⟩
                rw [bare_map, List.length_map] at hbo2
                have hlb : (t :: l').length = ((t :: l').map bareT).length := by rw [List.length_map]
                have k8 := hid (seq_yes vb1 vb2 _ _ ((t :: l').map bareT) w7 (by rw [← hlb]; exact own_below HBO.out hbb2) (by rw [← hlb]; exact hbo2) (by rw [← hlb]; omega))
                have HB7 := hid (HBB.out.trans (hbb2.mono HBB.out.size))
                clear hbo2 hbb2 hlb
                go_wp2_with fail
                refine (k8.out).mono ?_
                rintro e w8 ⟨rfl, _, hu8⟩
                have HB8 := hid (HB7.out.trans (hu8.below HB7.out.size (fun x hx => hx.elim)))
                clear hu8
                go_wp2_with fail
                go_ret
                exact ⟨rfl, HB8.out⟩
      · have hR2' : R2 = .bad (n + j) why := hR2
        subst hR2'
        obtain rfl := h1
        have hj := HJ.out j why rfl
        clear hR2 HL HJ
        go_wp2_with fail
        refine (k2.out w1).mono ?_
        rintro e w2 ⟨h2, hb2⟩
        obtain rfl := h2
        have HB2 := hid (HB1.out.trans (hb2.mono HB1.out.size))
        clear hb2
        go_wp2_with fail
        refine (k3.out w2).mono ?_
        rintro e w3 ⟨h3, hb3⟩
        obtain rfl := h3
        have HB3 := hid (HB2.out.trans (hb3.mono HB2.out.size))
        have k4 := hid (is_fault j why j why w3)
        rw [show decide (why = why ∧ (j : Int) = j) = true by simp] at k4
        have k5 := hid (fun w4 => seq_yes (.slice none 0 0) (.slice none 0 0) 0 0 [] w4 (World.ownsRow_nil _ _ _ _) (World.ownsRow_nil _ _ _ _) (Nat.zero_le _))
        have k6 : Hid (∀ W : World, Calls Try.prog 9 #[.iface 53 (.agg #[.int .i64 ((n : Int) + (j : Int)), .int .i64 why]), .int .i64 ((j : Int) + (n : Int)), .int .i64 why] W fun e w' => e = .returned (.bool true) ∧ Below W.heap.size W w') := hid (fun W => by
          have := is_fault ((n : Int) + (j : Int)) why ((j : Int) + (n : Int)) why W
          rwa [show decide (why = why ∧ ((n : Int) + (j : Int)) = (j : Int) + (n : Int)) = true by simp; omega] at this)
        have cj : IntKind.i64.wrap ((j : Int) + (n : Int)) = (j : Int) + (n : Int) := by rw [IntKind.wrap_i64]; omega
        have cj2 : wrap64 ((j : Int) + (n : Int)) = (j : Int) + (n : Int) := by unfold wrap64; omega
        clear hb3 k1 k2 k3
        go_wp2_with fail
        refine k4.out.mono ?_
        rintro e w4 ⟨rfl, hb4⟩
        have HB4 := hid (HB3.out.trans (hb4.mono HB3.out.size))
        clear hb4
        go_wp2_with fail
        refine (k5.out w4).mono ?_
        rintro e w5 ⟨rfl, _, hu5⟩
        have HB5 := hid (HB4.out.trans (hu5.below HB4.out.size (fun x hx => hx.elim)))
        clear hu5
        go_wp2_with fail
        refine (k6.out w5).mono ?_
        rintro e w6 ⟨rfl, hb6⟩
        have HB6 := hid (HB5.out.trans (hb6.mono HB5.out.size))
        clear hb6
        go_wp2_with fail
        go_ret
        exact ⟨rfl, HB6.out⟩

end Go.Proofs.Ytidcodpekeaigaa
