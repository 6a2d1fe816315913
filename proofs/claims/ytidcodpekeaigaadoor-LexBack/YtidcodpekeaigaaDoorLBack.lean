/- The law of there and back. -/
import Derived.Test.YtidcodpekeaigaaDoorLPrint
namespace Go.Proofs.YtidcodpekeaigaaDoor
open Go.RowKit
set_option linter.unusedVariables false

theorem scanR_small {s : ByteArray} {l : List Tok} (h : scanR s = .toks l) : ∀ t ∈ l, t.text.size ≤ 4000 := by
  obtain ⟨hp, hz⟩ := scanR_placed h
  intro t ht
  obtain ⟨j, hj, rfl⟩ := List.mem_iff_getElem.1 ht
  have := (hp.at_ j hj).2.1
  omega
theorem prB_size : ∀ (l : List Tok) (prev : Option Int), (∀ t ∈ l, Good t) → (∀ t ∈ l, t.text.size ≤ 4000) → (prB prev l).size ≤ 4003 * l.length
  | [], prev, _, _ => by show 0 ≤ _; omega
  | t :: l, prev, hg, hz => by
    have ih := prB_size l (some t.kind) (fun x hx => hg x (List.mem_cons_of_mem _ hx)) (fun x hx => hz x (List.mem_cons_of_mem _ hx))
    have hw := wrB_size (hg t (by simp)) (hz t (by simp))
    have e : (ByteArray.mk #[32]).size = 1 := rfl
    rw [List.length_cons]
    unfold prB
    split
    · rw [size_app, size_app, e]; omega
    · rw [size_app]; omega

set_option maxRecDepth 100000 in
set_option maxHeartbeats 4000000 in
theorem lexback_any (s : ByteArray) (w : World) (hs : s.size ≤ 140737488355328) (ht : TabOk w.heap.size w) :
    Calls Tryd.prog 3 #[.string s] w fun e w' => e = .returned (.bool true) ∧ Below w.heap.size w w' := by
  have k1 := hid (scan_any s w hs)
  have HL := hid (fun l => scanR_len (s := s) (l := l))
  have HG := hid (fun l => scanR_good (s := s) (l := l))
  have HZ := hid (fun l => scanR_small (s := s) (l := l))
  have HK := hid (fun l => scanR_back (s := s) (l := l))
  have HT := hid ht
  have k2 := hid (fun w1 => rscan_any s w1 hs)
  obtain ⟨R, gR⟩ : ∃ R, R = scanR s := ⟨_, rfl⟩
  rw [← gR] at k1 k2 HL HG HZ HK
  clear gR ht
  go_enter Tryd.func3, Tryd.ntmps3
  go_wp2_with fail
  refine k1.out.mono ?_
  rintro e w1 ⟨h1, hb1⟩
  have HB1 := hid hb1
  rcases R with l | ⟨j, why⟩
  · obtain ⟨v1, rfl, ho1⟩ := h1
    have HO1 := hid ho1
    clear hb1 ho1
    go_wp2_with fail
    refine (k2.out w1).mono ?_
    rintro e w2 ⟨h2, hb2⟩
    obtain ⟨v2, rfl, ho2⟩ := h2
    have hll := HL.out l rfl
    have hgl := HG.out l rfl
    have hzl := HZ.out l rfl
    have hsz := prB_size l none hgl hzl
    have HKL := hid (HK.out l rfl)
    have k3 := hid (is_nil 0 0 w2)
    rw [show decide ((0 : Int) = 0 ∧ (0 : Int) = 0) = true by decide] at k3
    have k4 := hid (seq_yes v1 v2 w.heap.size w1.heap.size l w2 (own_below HO1.out hb2) ho2 (by omega))
    have HO2 := hid (own_below HO1.out hb2)
    have HB2 := hid (HB1.out.trans (hb2.mono HB1.out.size))
    have HGL := hid hgl
    have HZL := hid hzl
    clear hb2 ho2 HL HG HZ HK k1 k2 hgl hzl HO1
    go_wp2_with fail
    refine k3.out.mono ?_
    rintro e w3 ⟨rfl, rfl⟩
    go_wp2_with fail
    refine k4.out.mono ?_
    rintro e w4 ⟨rfl, _, hu⟩
    have hb4 : Below w3.heap.size w3 w4 := hu.below (Nat.le_refl _) (fun x hx => hx.elim)
    have HB4 := hid (HB2.out.trans (hb4.mono HB2.out.size))
    have HO4 := hid (own_below HO2.out hb4)
    have k5 := hid (print_any v1 w.heap.size l w4 HO4.out HGL.out HZL.out hll (fun w' hw' => HT.out w' (HB4.out.trans (hw'.mono HB4.out.size))))
    clear hu hb4 HO2 k3 k4
    obtain ⟨T, gT⟩ : ∃ T, T = prB none l := ⟨_, rfl⟩
    rw [← gT] at k5 hsz HKL
    clear gT
    go_wp2_with fail
    refine k5.out.mono ?_
    rintro e w5 ⟨rfl, hb5⟩
    have k6 := hid (scan_any T w5 (by omega))
    have HB5 := hid (HB4.out.trans (hb5.mono HB4.out.size))
    have HO5 := hid (own_below HO4.out hb5)
    clear hb5 k5 HO4
    by_cases hbig : 4000 < T.size
    · have c1 : (4000 : Int) < (T.size : Int) := by omega
      rw [show scanR T = .bad 0 4 by unfold scanR; rw [if_pos hbig]] at k6
      clear HKL
      go_wp2_with fail
      refine k6.out.mono ?_
      rintro e w6 ⟨h6, hb6⟩
      obtain rfl := h6
      have HB6 := hid (HB5.out.trans (hb6.mono HB5.out.size))
      have k7 := hid (is_fault 0 4 0 4 w6)
      clear hb6
      go_wp2_with fail
      refine k7.out.mono ?_
      rintro e w7 ⟨rfl, hb7⟩
      have HB7 := hid (HB6.out.trans (hb7.mono HB6.out.size))
      clear hb7
      go_wp2_with fail
      go_ret
      exact ⟨rfl, HB7.out⟩
    · have c1 : ¬ (4000 : Int) < (T.size : Int) := by omega
      obtain ⟨l', hl1, hl2⟩ := HKL.out (by omega)
      rw [hl1] at k6
      have hlen : l'.length = l.length := by
        have := congrArg List.length hl2
        simpa using this
      have HL2 := hid hl2
      have HLEN := hid hlen
      clear HKL hl1 hl2 hlen
      go_wp2_with fail
      refine k6.out.mono ?_
      rintro e w6 ⟨⟨v6, rfl, ho6⟩, hb6⟩
      have HB6 := hid (HB5.out.trans (hb6.mono HB5.out.size))
      have HO6 := hid (own_below HO5.out hb6)
      have HV6 := hid ho6
      have kb1 := hid (bare_any v1 l w6 (Trd.own HO6.out) (by omega))
      clear hb6 ho6
      go_wp2_with fail
      refine kb1.out.mono ?_
      rintro e w7 ⟨vb1, rfl, hbo1, hbb1⟩
      have kb2 := hid (bare_any v6 l' w7 (Trd.own (own_below HV6.out hbb1)) (by have := HLEN.out; omega))
      have HBO := hid hbo1
      have HB7 := hid (HB6.out.trans (hbb1.mono HB6.out.size))
      clear hbo1 hbb1
      go_wp2_with fail
      refine kb2.out.mono ?_
      rintro e w8 ⟨vb2, rfl, hbo2, hbb2⟩
      rw [HL2.out, HLEN.out] at hbo2
      have hlb : l.length = (l.map bareT).length := by rw [List.length_map]
      have k8 := hid (seq_yes vb1 vb2 _ _ (l.map bareT) w8 (by rw [← hlb]; exact own_below HBO.out hbb2) (by rw [← hlb]; exact hbo2) (by rw [← hlb]; omega))
      have HB8 := hid (HB7.out.trans (hbb2.mono HB7.out.size))
      clear hbo2 hbb2 hlb
      go_wp2_with fail
      refine k8.out.mono ?_
      rintro e w9 ⟨rfl, _, hu9⟩
      have HB9 := hid (HB8.out.trans (hu9.below HB8.out.size (fun x hx => hx.elim)))
      clear hu9
      go_wp2_with fail
      go_ret
      exact ⟨rfl, HB9.out⟩
  · obtain rfl := h1
    clear hb1
    go_wp2_with fail
    refine (k2.out w1).mono ?_
    rintro e w2 ⟨h2, hb2⟩
    obtain rfl := h2
    have k3 := hid (is_fault j why j why w2)
    rw [show decide (why = why ∧ (j : Int) = j) = true by simp] at k3
    have k4 := hid (fun w4 => seq_yes (.slice none 0 0) (.slice none 0 0) 0 0 [] w4 (World.ownsRow_nil _ _ _ _) (World.ownsRow_nil _ _ _ _) (Nat.zero_le _))
    have HB2 := hid (HB1.out.trans (hb2.mono HB1.out.size))
    clear hb2 HL HG HZ HK k1 k2
    go_wp2_with fail
    refine k3.out.mono ?_
    rintro e w3 ⟨rfl, hb3⟩
    have HB3 := hid (HB2.out.trans (hb3.mono HB2.out.size))
    clear hb3
    go_wp2_with fail
    refine (k4.out w3).mono ?_
    rintro e w4 ⟨rfl, _, hu⟩
    have HB4 := hid (HB3.out.trans (hu.below HB3.out.size (fun x hx => hx.elim)))
    clear hu
    go_wp2_with fail
    go_ret
    exact ⟨rfl, HB4.out⟩

end Go.Proofs.YtidcodpekeaigaaDoor
