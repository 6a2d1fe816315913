/- The document's kids of an argument. -/
import Derived.Test.YtoohihlpjodhaaaGRef2
import Derived.Test.YtoohihlpjodhaaaGKids
import Derived.Test.YtoohihlpjodhaaaGCan6
namespace Go.Proofs.Ytoohihlpjodhaaa
open Go.RowKit
set_option linter.unusedVariables false
set_option maxRecDepth 20000

set_option maxHeartbeats 8000000 in
theorem rkids_any (T : Ty) (h : Hd) (w : World) (hT : T.Ok w) (hk : h.Ok w) (hp : partsN T = true) (hf : fitsB T = true) :
    Calls Try.prog 67 #[.agg #[.int .i64 T.k, .int .i64 T.s, .int .i64 T.lo, .int .i64 T.hi, .int .i64 T.d, .string T.o, .slice T.va T.vn T.vc, .slice T.ta T.tn T.tc, .slice T.ea T.en T.ec, .slice T.na T.nn T.nc], .agg #[.int .i64 h.k, .int .i64 h.v, .slice h.ka h.kn h.kc, .slice h.ba h.bn h.bc]] w fun e w' => ∃ ta tn tc, e = .returned (.tuple #[.slice ta tn tc, .bool (countB T h.kn)]) ∧ (mis T h = 0 → Ints w' ta (kidTy T h) ∧ (kidTy T h).length = tn ∧ tn ≤ 9223372036854775807) ∧ Below w.heap.size w w' := by
  obtain ⟨i0, hi0, hz0, hz1, hz2⟩ := info_parts infoInt
  have hem := hT.em
  have heb := hT.eb
  have hkm := hk.km
  have hkb := hk.kb
  have hel := hT.el
  have HE := hid hT.es
  have HM := hid (fun (hm : mis T h = 0) => mis_kind hm)
  clear hT hk
  obtain ⟨M, gM⟩ : ∃ M, M = mis T h := ⟨_, rfl⟩
  rw [← gM]
  rw [← gM] at HM
  clear gM
  obtain ⟨CB, gC⟩ : ∃ CB, CB = countB T h.kn := ⟨_, rfl⟩
  rw [← gC]
  obtain ⟨K, gK⟩ : ∃ K, K = kidTy T h := ⟨_, rfl⟩
  rw [← gK]
  unfold kidTy at gK
  unfold countB at gC HM
  by_cases e6 : T.k = 6
  · rw [if_pos (.inl e6)] at gK
    rw [if_pos e6] at gC
    simp only [if_pos e6] at HM
    have he1 : T.en = 1 := by unfold partsN at hp; rw [if_pos (.inl e6)] at hp; simpa using hp
    have hu := HE.out (by omega)
    have HK := hid gK
    have HC := hid gC
    clear gK gC hp hf
    obtain ⟨k, s, lo, hi, d, o, va, vn, vc, vs, ta, tn, tc, ts, ea, en, ec, es, na, nn, nc⟩ := T
    obtain ⟨ak, av, ka, kn, kc, ba, bn, bc, bs⟩ := h
    dsimp only at *
    subst e6
    subst he1
    obtain ⟨eb, eo, rfl, hebl, hec⟩ := hu
    rcases (show kn = 0 ∨ kn = 1 ∨ 2 ≤ kn by omega) with rfl | rfl | hk2
    · go_enter Try.func67, Try.ntmps67
      go_wp2_with fail
      go_ret2
      exact ⟨some ⟨eb, eo, none⟩, 0, ec, by rw [HC.out]; rfl, fun _ => ⟨by rw [HK.out]; exact fun h => absurd h (Nat.lt_irrefl 0), by rw [HK.out]; rfl, by omega⟩, below_box2 _ _ _⟩
    · go_enter Try.func67, Try.ntmps67
      go_wp2_with fail
      go_ret2
      refine ⟨some ⟨eb, eo, none⟩, 1, ec, by rw [HC.out]; rfl, fun _ => ⟨?_, by rw [HK.out]; rfl, by omega⟩, below_box2 _ _ _⟩
      rw [HK.out]
      refine Ints.below (w := w) (fun _ => ⟨eb, eo, rfl, hebl, fun j hj => ?_⟩) (below_box2 _ _ _)
      obtain rfl : j = 0 := by simpa using hj
      have := hec 0 (by omega)
      simpa using this
    · have hmin2 : (if (1 : Int) < (kn : Int) then 1 else (kn : Int)) = 1 := by rw [if_pos (by omega)]
      have hk3 : ¬ ((kn : Int) ≤ 1) := by omega
      have hmin3 : (if (kn : Int) < 1 then (kn : Int) else 1) = 1 := by rw [if_neg (by omega)]
      go_enter Try.func67, Try.ntmps67
      go_wp2_with fail
      go_ret2
      first | refine ⟨some ⟨eb, eo, none⟩, 1, ec, ?_, ?_, ?_⟩ | refine ⟨some ⟨eb, eo, none⟩, 1, ⟨ec, ?_⟩, ?_, ?_⟩
      · rw [HC.out, decide_eq_false (by omega)]; rfl
      · intro hM
        have := (HM.out hM).2.1
        simp at this
        omega
      · exact below_box2 _ _ _
  · by_cases e7 : T.k = 7
    · rw [if_pos (.inr e7)] at gK
      rw [if_neg e6, if_pos e7] at gC
      simp only [if_neg e6, if_pos e7] at HM
      have he1 : T.en = 1 := by unfold partsN at hp; rw [if_pos (.inr e7)] at hp; simpa using hp
      have hf8 : T.hi ≤ 8 := by unfold fitsB rangeB at hf; simp [e7] at hf; omega
      have hu := HE.out (by omega)
      have HK := hid gK
      have HC := hid gC
      clear gK gC hp hf
      obtain ⟨k, s, lo, hi, d, o, va, vn, vc, vs, ta, tn, tc, ts, ea, en, ec, es, na, nn, nc⟩ := T
      obtain ⟨ak, av, ka, kn, kc, ba, bn, bc, bs⟩ := h
      dsimp only at *
      subst e7
      subst he1
      obtain ⟨eb, eo, rfl, hebl, hec⟩ := hu
      by_cases hlo : (kn : Int) < lo
      · go_enter Try.func67, Try.ntmps67
        go_wp2_with fail
        go_ret2
        first | refine ⟨none, 0, 0, ?_, ?_, ?_⟩ | refine ⟨none, 0, ⟨0, ?_⟩, ?_, ?_⟩
        · rw [HC.out, decide_eq_false (by omega)]; rfl
        · intro hM
          have := (HM.out hM).2.1
          simp at this
          omega
        · exact below_box2 _ _ _
      · by_cases hhi : hi < (kn : Int)
        · go_enter Try.func67, Try.ntmps67
          go_wp2_with fail
          go_ret2
          first | refine ⟨none, 0, 0, ?_, ?_, ?_⟩ | refine ⟨none, 0, ⟨0, ?_⟩, ?_, ?_⟩
          · rw [HC.out, decide_eq_false (by omega)]; rfl
          · intro hM
            have := (HM.out hM).2.1
            simp at this
            omega
          · exact below_box2 _ _ _
        · have hk8 : kn ≤ 8 := by omega
          have hx0 : w.cell? ⟨eb, eo, none⟩ = some (.int .i64 (es.getD 0 0)) := by have := hec 0 (by omega); simpa using this
          have HCt : Hid (CB = true) := hid (by rw [HC.out, decide_eq_true (by omega)])
          clear HC HM hec
          generalize es.getD 0 0 = x at *
          have HX0 := hid hx0
          clear hx0
          go_enter Try.func67, Try.ntmps67
          go_wp2_with fail
          obtain ⟨X, gX⟩ : ∃ X, X = (w.alloc (.cells #[.int .i64 7, .int .i64 s, .int .i64 lo, .int .i64 hi, .int .i64 d, .string o, .slice va vn vc, .slice ta tn tc, .slice (some ⟨eb, eo, none⟩) 1 ec, .slice na nn nc] 52)).alloc (.cells #[.int .i64 ak, .int .i64 av, .slice ka kn kc, .slice ba bn bc] 30) := ⟨_, rfl⟩
          rw [← gX]
          have hXB : Below w.heap.size w X := by rw [gX]; exact below_box2 _ _ _
          have hXs : X.heap.size = w.heap.size + 1 + 1 := by rw [gX]; simp
          have x8 : X.cell? ⟨w.heap.size, 8, none⟩ = some (.slice (some ⟨eb, eo, none⟩) 1 ec) := by rw [gX]; simp
          have xe : X.cell? ⟨eb, eo, none⟩ = some (.int .i64 x) := (hXB.cell (p := ⟨eb, eo, none⟩) hebl).trans HX0.out
          have HXB := hid hXB
          have HXs := hid hXs
          clear gX hXB hXs
          go_loopw [7, 35] (fun v k wr => ∃ j : Nat, j ≤ kn ∧ k = .int .i64 j ∧ Hid (wr.ownsRow X.heap.size 3 1 v (List.replicate j x).length ((List.replicate j x).map (Value.int .i64))) ∧ Hid (Below X.heap.size X wr)) (fun _ k _ => kn - (intOf k).toNat)
          case atStart => exact ⟨0, Nat.zero_le _, rfl, hid (World.ownsRow_nil _ _ _ _), hid (Below.refl _ _)⟩
          case round =>
            obtain ⟨j, hj, rfl, HW, HB⟩ := hrel
            by_cases hlt : j < kn
            · have y8 : wr.cell? ⟨w.heap.size, 8, none⟩ = some (.slice (some ⟨eb, eo, none⟩) 1 ec) := (HB.out.cell (p := ⟨w.heap.size, 8, none⟩) (show w.heap.size < X.heap.size by rw [HXs.out]; omega)).trans x8
              have ye : wr.cell? ⟨eb, eo, none⟩ = some (.int .i64 x) := (HB.out.cell (p := ⟨eb, eo, none⟩) (show eb < X.heap.size by rw [HXs.out]; omega)).trans xe
              have hsz := HB.out.size
              have hjl : (List.replicate j x).length = j := by simp
              go_wp2_with (at_builtin; go_must (refine wpList_append_own _ rfl (.tmp 37) (.tmp 42) 44 rfl X.heap.size 3 i0 _ 1 8 Try.underlying44 hi0 hz0 hz1 hz2 rfl (by decide) _ (List.replicate j x).length ((List.replicate j x).map (Value.int .i64)) rfl (HW.out.alloc _) ⟨_, 0, none⟩ 1 1 [.int .i64 x] rfl rfl (cell_one_new _ _ _) (by simp [Value.oneCell']) (by rw [List.length_replicate]; unfold maxLen; omega) (by rw [List.length_replicate]; omega) (by simp; omega) ?_))
              intro v' w5 hO5 hG5 hN5
              have HO5 : Hid (w5.ownsRow X.heap.size 3 1 v' (List.replicate (j + 1) x).length ((List.replicate (j + 1) x).map (Value.int .i64))) := by
                have := hO5
                rw [show (List.replicate (j + 1) x).length = j + 1 by simp, show (List.replicate (j + 1) x).map (Value.int .i64) = List.replicate j (Value.int .i64 x) ++ [.int .i64 x] by rw [List.map_replicate, List.replicate_succ']]
                first | exact hid this | exact hid (by simpa using this)
              have HB5 := hid ((HB.out.alloc HB.out.size _).grown hG5 (by simp; omega) (fun k hk => (HW.out.lt k hk).1))
              clear hO5 hG5 hN5
              go_wp2_with fail
              go_roundw
              case rel => exact ⟨j + 1, by omega, by go_num, HO5, HB5⟩
              case measure => simp [intOf]; omega
            · obtain rfl : j = kn := by omega
              obtain ⟨av', cv', rfl, hv⟩ := own_ints HW.out
              have HV := hid hv
              clear hv
              go_wp2_with fail
              go_ret2
              refine ⟨av', _, cv', by rw [HCt.out]; rfl, fun _ => ⟨?_, ?_, by simp; omega⟩, HXB.out.trans (HB.out.mono HXB.out.size)⟩
              · rw [HK.out]; exact HV.out
              · rw [HK.out]
    · rw [if_neg (by omega)] at gK
      rw [if_neg e6, if_neg e7] at gC
      simp only [if_neg e6, if_neg e7] at HM
      by_cases e8 : T.k = 8
      · rw [if_pos e8] at gK gC
        simp only [if_pos e8] at HM
        have HK := hid gK
        have HC := hid gC
        clear gK gC hp hf e6 e7
        have HL := hid hel
        clear hel
        obtain ⟨k, s, lo, hi, d, o, va, vn, vc, vs, ta, tn, tc, ts, ea, en, ec, es, na, nn, nc⟩ := T
        obtain ⟨ak, av, ka, kn, kc, ba, bn, bc, bs⟩ := h
        dsimp only at *
        subst e8
        go_enter Try.func67, Try.ntmps67
        go_wp2_with fail
        go_region
        go_wp2_with fail
        go_ret2
        refine ⟨ea, en, ec, ?_, fun _ => ⟨?_, ?_, by omega⟩, ?_⟩
        · have : decide (kn = en) = ((kn : Int) == (en : Int)) := by rw [Bool.eq_iff_iff]; simp; omega
          rw [HC.out, this]
          rfl
        · rw [HK.out]
          refine HE.out.below ?_
          exact below_drew (below_box2 _ _ _)
        · rw [HK.out]; exact HL.out
        · exact below_drew (below_box2 _ _ _)
      · rw [if_neg e8] at gK gC
        simp only [if_neg e8] at HM
        by_cases e9 : T.k = 9
        · rw [if_pos e9] at gK gC
          simp only [if_pos e9] at HM
          have hkv : kindB T h = true → h.k ≠ 2 := fun hh => by unfold kindB at hh; simp [e9] at hh; omega
          have hvv : valueB T h = true → 0 ≤ h.v ∧ h.v < (T.en : Int) := fun hh => by unfold valueB at hh; simpa [e9] using hh
          have HKV := hid hkv
          have HVV := hid hvv
          have HK := hid gK
          have HC := hid gC
          clear gK gC hp hf e6 e7 e8 hkv hvv
          have HL := hid hel
          clear hel
          generalize kindB T h = KB at *
          generalize valueB T h = VB at *
          obtain ⟨k, s, lo, hi, d, o, va, vn, vc, vs, ta, tn, tc, ts, ea, en, ec, es, na, nn, nc⟩ := T
          obtain ⟨ak, av, ka, kn, kc, ba, bn, bc, bs⟩ := h
          dsimp only at *
          subst e9
          have hcb : decide (kn = 1) = ((kn : Int) == 1) := by rw [Bool.eq_iff_iff]; simp; omega
          rw [hcb] at HC
          clear hcb
          by_cases hv0 : av < 0
          · go_enter Try.func67, Try.ntmps67
            go_wp2_with fail
            go_ret2
            first | refine ⟨none, 0, 0, ?_, ?_, ?_⟩ | refine ⟨none, 0, ⟨0, ?_⟩, ?_, ?_⟩
            · rw [HC.out]; rfl
            · intro hM
              obtain ⟨m1, _, m3⟩ := HM.out hM
              have := HVV.out (m3 (HKV.out m1))
              omega
            · exact below_box2 _ _ _
          · by_cases hve : (en : Int) ≤ av
            · go_enter Try.func67, Try.ntmps67
              go_wp2_with fail
              go_ret2
              first | refine ⟨none, 0, 0, ?_, ?_, ?_⟩ | refine ⟨none, 0, ⟨0, ?_⟩, ?_, ?_⟩
              · rw [HC.out]; rfl
              · intro hM
                obtain ⟨m1, _, m3⟩ := HM.out hM
                have := HVV.out (m3 (HKV.out m1))
                omega
              · exact below_box2 _ _ _
            · obtain ⟨av, rfl⟩ : ∃ m : Nat, av = (m : Int) := ⟨av.toNat, by omega⟩
              have hv1 : av < en := by omega
              obtain ⟨eb, eo, rfl, hebl, hec⟩ := HE.out (by rw [HL.out]; omega)
              go_enter Try.func67, Try.ntmps67
              go_wp2_with fail
              go_ret2
              first | refine ⟨some ⟨eb, eo + av, none⟩, 1, ec - av, ?_, ?_, ?_⟩ | refine ⟨some ⟨eb, eo + av, none⟩, 1, ⟨ec - av, ?_⟩, ?_, ?_⟩
              · rw [HC.out]; rfl
              · intro hM
                have hI : Ints ((w.alloc (.cells #[.int .i64 9, .int .i64 s, .int .i64 lo, .int .i64 hi, .int .i64 d, .string o, .slice va vn vc, .slice ta tn tc, .slice (some ⟨eb, eo, none⟩) en ec, .slice na nn nc] 52)).alloc (.cells #[.int .i64 ak, .int .i64 (av : Int), .slice ka kn kc, .slice ba bn bc] 30)) (some ⟨eb, eo + av, none⟩) K := by
                  rw [HK.out]
                  refine Ints.below (w := w) (fun _ => ⟨eb, eo + av, rfl, hebl, fun j hj => ?_⟩) (below_box2 _ _ _)
                  obtain rfl : j = 0 := by simpa using hj
                  have := hec av (by rw [HL.out]; exact hv1)
                  simpa using this
                exact ⟨hI, by rw [HK.out]; rfl, by omega⟩
              · exact below_box2 _ _ _
        · rw [if_neg e9] at gK gC
          have HK := hid gK
          have HC := hid gC
          clear gK gC hp hf hel HM HE
          obtain ⟨k, s, lo, hi, d, o, va, vn, vc, vs, ta, tn, tc, ts, ea, en, ec, es, na, nn, nc⟩ := T
          obtain ⟨ak, av, ka, kn, kc, ba, bn, bc, bs⟩ := h
          dsimp only at *
          go_enter Try.func67, Try.ntmps67
          go_wp2_with fail
          go_ret2
          exact ⟨none, 0, 0, by rw [HC.out]; rfl, fun _ => ⟨by rw [HK.out]; exact fun h => absurd h (Nat.lt_irrefl 0), by rw [HK.out]; rfl, by omega⟩, below_box2 _ _ _⟩

end Go.Proofs.Ytoohihlpjodhaaa
