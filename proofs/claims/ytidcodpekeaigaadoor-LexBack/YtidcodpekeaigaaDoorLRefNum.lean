/- The document's number. -/
import Derived.Test.YtidcodpekeaigaaDoorLRef
import Derived.Deep.Cut
import Derived.Deep.CutRange
namespace Go.Proofs.YtidcodpekeaigaaDoor
open Go.RowKit
set_option linter.unusedVariables false

theorem amt_tops (s : ByteArray) (base : Int) (hb : 2 ≤ base ∧ base ≤ 16) (n m : Int) (i : Nat) (h0 : 0 ≤ m) (h : n = min m 2147483649) :
    (amt s base 2147483649 n i).2 = (amt s base 1099511627776 m i).2 ∧ (amt s base 2147483649 n i).1 = min (amt s base 1099511627776 m i).1 2147483649 := by
  by_cases hl : val (bt s i) < base
  · rw [amt_go hb.2 hl, amt_go hb.2 hl]
    have := digit_lt hb.2 hl
    have hv := val_ge (bt_range s i).1
    have h1 : 0 ≤ m * base := Int.mul_nonneg h0 (by omega)
    refine amt_tops s base hb _ _ (i + 1) (by omega) ?_
    rcases Int.lt_or_le m 2147483649 with hm | hm
    · have e : n = m := by omega
      rw [e]
      omega
    · have e : n = 2147483649 := by omega
      have h2 : 2147483649 * 2 ≤ n * base := by rw [e]; omega
      have h3 : 2147483649 * 2 ≤ m * base := Int.mul_le_mul hm hb.1 (by omega) h0
      omega
  · rw [amt_stop hl, amt_stop hl]
    exact ⟨rfl, h⟩
termination_by s.size - i

theorem numP_none {s : ByteArray} {i d : Nat} (h : isDig (bt s d) = false) : numP s i d = .bad i 120 := by
  have h1 : ¬ bt s d = 48 := fun e => by rw [e] at h; cases h
  have h2 : ¬ val (bt s d) < 10 := by
    have h0 := (bt_range s d).1
    unfold val
    simp [isDig] at h
    split
    · omega
    · split <;> omega
  unfold numP
  rw [if_neg (fun h => h1 h.1)]
  unfold numD numE
  rw [amt_stop h2, if_pos rfl]

theorem four_results {fn : Func} {t u v x : Tmp} (h : fn.results = #[.tmp t, .tmp u, .tmp v, .tmp x]) (tmps : Array Value) (P : Program) (w : World) :
    (results fn tmps).run P w = .ok (.tuple #[tmps.getD t undef, tmps.getD u undef, tmps.getD v undef, tmps.getD x undef]) w := by
  simp [results, h]

/-- What a number comes to, as the document tells it. -/
def told (r : Stp) : Value :=
  match r with
  | .skip _ => .tuple #[]
  | .tok t k => .tuple #[.int .i64 t.num, .int .i64 k, .int .i64 0, .int .i64 0]
  | .bad j why => .tuple #[.int .i64 0, .int .i64 0, .int .i64 j, .int .i64 why]

def BaseAt (s : ByteArray) (d : Nat) (base : Int) (D : Nat) : Prop :=
  (base = 10 ∨ base = 16) ∧ D ≤ s.size ∧ d ≤ D ∧ val (bt s D) < base ∧ ∀ i, numP s i d = numD s i base D

set_option maxRecDepth 100000 in
set_option maxHeartbeats 8000000 in
theorem rnumber_any (i d : Nat) (s : ByteArray) (w : World) (hi : i < s.size) (hs : s.size ≤ 4000) (hd : (bt s i = 45 ∧ d = i + 1) ∨ (¬ bt s i = 45 ∧ d = i)) (hg : isDig (bt s d) = true) :
    Calls Tryd.prog 31 #[.string s, .int .i64 i] w fun e w' => e = .returned (told (numP s i d)) ∧ w' = w := by
  have HX := index_bt s i hi
  have hdl : d < s.size := bt_lt (fun e => by rw [e] at hg; cases hg)
  have hid' : i ≤ d := by rcases hd with h | h <;> omega
  obtain ⟨V, gV⟩ : ∃ V, V = told (numP s i d) := ⟨_, rfl⟩
  rw [← gV]
  have GV := hid gV
  have HG := hid hg
  obtain ⟨x, gx⟩ : ∃ x, x = bt s i := ⟨_, rfl⟩
  rw [← gx] at HX hd
  have GX := hid gx
  clear gV hg gx
  go_enter Tryd.func31, Tryd.ntmps31
  go_upto_if 16 with fail
  go_cut [8] from 9 (fun s8 wx => s8 = .int .i64 d ∧ wx = w)
  case first =>
    rcases hd with ⟨e1, rfl⟩ | ⟨e1, rfl⟩
    · have c5 : IntKind.i64.wrap ((i : Int) + 1) = (i : Int) + 1 := by rw [IntKind.wrap_i64]; omega
      subst e1
      go_wp2_with fail
      go_meet
      case rel => exact ⟨by go_num, rfl⟩
    · go_wp2_with fail
      go_meet
      case rel => exact ⟨rfl, rfl⟩
  case rest =>
    obtain ⟨rfl, rfl⟩ := hcut
    have k0 := hid (rat_any d s wc (by omega))
    have k1 := hid (rat_any (d + 1) s wc (by omega))
    have k2 := hid (rat_any (d + 2) s wc (by omega))
    have k3 := hid (rhex_any (bt s (d + 2)) (bt_range s (d + 2)) wc)
    have hxg := hx_ge (bt_range s (d + 2)).1
    have c5 : IntKind.i64.wrap ((d : Int) + 1) = (d : Int) + 1 := by rw [IntKind.wrap_i64]; omega
    have c6 : IntKind.i64.wrap ((d : Int) + 2) = (d : Int) + 2 := by rw [IntKind.wrap_i64]; omega
    have HD := hid hd
    clear hd
    go_upto_region 5 with fail
    go_cut [37] from 10 (fun s37 wx => ∃ B : Bool, s37 = .bool B ∧ wx = wc ∧ Hid (B = true ↔ (bt s d = 48 ∧ bt s (d + 1) = 120 ∧ val (bt s (d + 2)) < 16)))
    case first =>
      by_cases e0 : bt s d = 48
      · by_cases e1 : bt s (d + 1) = 120
        · rw [e0] at k0
          rw [e1] at k1
          have HB : Hid (decide (0 ≤ hx (bt s (d + 2))) = true ↔ (bt s d = 48 ∧ bt s (d + 1) = 120 ∧ val (bt s (d + 2)) < 16)) := hid (by rw [decide_eq_true_iff, hxg]; simp [e0, e1])
          obtain ⟨b, gb⟩ : ∃ b, b = bt s (d + 2) := ⟨_, rfl⟩
          rw [← gb] at k2 k3
          obtain ⟨y, gx⟩ : ∃ y, y = hx b := ⟨_, rfl⟩
          rw [← gx] at k3
          have HB' : Hid (decide (0 ≤ y) = true ↔ (bt s d = 48 ∧ bt s (d + 1) = 120 ∧ val (bt s (d + 2)) < 16)) := hid (by rw [gx, gb]; exact HB.out)
          clear gb gx e0 e1 hxg HB
          go_wp2_with fail
          refine k0.out.mono ?_
          rintro e w1 ⟨rfl, rfl⟩
          go_wp2_with fail
          refine k1.out.mono ?_
          rintro e w1 ⟨rfl, rfl⟩
          go_wp2_with fail
          refine k2.out.mono ?_
          rintro e w1 ⟨rfl, rfl⟩
          go_wp2_with fail
          refine k3.out.mono ?_
          rintro e w1 ⟨rfl, rfl⟩
          go_wp2_with fail
          go_meet
          case rel => exact ⟨decide (0 ≤ y), rfl, rfl, HB'⟩
        · have HB : Hid (false = true ↔ (bt s d = 48 ∧ bt s (d + 1) = 120 ∧ val (bt s (d + 2)) < 16)) := hid (by simp [e1])
          rw [e0] at k0
          obtain ⟨b, gb⟩ : ∃ b, b = bt s (d + 1) := ⟨_, rfl⟩
          rw [← gb] at k1 e1
          clear e0 gb hxg
          go_wp2_with fail
          refine k0.out.mono ?_
          rintro e w1 ⟨rfl, rfl⟩
          go_wp2_with fail
          refine k1.out.mono ?_
          rintro e w1 ⟨rfl, rfl⟩
          go_wp2_with fail
          go_meet
          case rel => exact ⟨false, rfl, rfl, HB⟩
      · have HB : Hid (false = true ↔ (bt s d = 48 ∧ bt s (d + 1) = 120 ∧ val (bt s (d + 2)) < 16)) := hid (by simp [e0])
        obtain ⟨b, gb⟩ : ∃ b, b = bt s d := ⟨_, rfl⟩
        rw [← gb] at k0 e0
        clear gb hxg
        go_wp2_with fail
        refine k0.out.mono ?_
        rintro e w1 ⟨rfl, rfl⟩
        go_wp2_with fail
        go_meet
        case rel => exact ⟨false, rfl, rfl, HB⟩
    case rest =>
      obtain ⟨B, rfl, rfl, HB⟩ := hcut
      clear k0 k1 k2 k3 hxg
      go_upto_if 37 with fail
      go_cut [8, 9] from 10 (fun s8 s9 wx => ∃ (D : Nat) (base : Int), s8 = .int .i64 D ∧ s9 = .int .i64 base ∧ wx = wc ∧ Hid (BaseAt s d base D))
      case first =>
        cases B
        · have HR : Hid (BaseAt s d 10 d) := by
            refine hid ⟨.inl rfl, Nat.le_of_lt hdl, Nat.le_refl d, ?_, fun j => ?_⟩
            · have := HG.out
              simp [isDig] at this
              unfold val
              rw [if_pos this]
              omega
            · unfold numP
              rw [if_neg (fun h => absurd (HB.out.2 h) (by decide))]
          go_wp2_with fail
          go_meet
          case rel => exact ⟨d, 10, rfl, rfl, rfl, HR⟩
        · have hb := HB.out.1 rfl
          have HR : Hid (BaseAt s d 16 (d + 2)) := hid ⟨.inr rfl, Nat.le_of_lt (digit_lt (by omega) hb.2.2), by omega, hb.2.2, fun j => by unfold numP; rw [if_pos hb]⟩
          clear hb
          go_wp2_with fail
          go_meet
          case rel => exact ⟨d + 2, 16, by go_num, rfl, rfl, HR⟩
      case rest =>
        obtain ⟨D, base, rfl, rfl, rfl, HR⟩ := hcut
        clear c5 c6 HB
        have hD := HR.out.2.1
        have hbb : 2 ≤ base ∧ base ≤ 16 := by rcases HR.out.1 with h | h <;> omega
        obtain ⟨P, gP⟩ : ∃ P, P = amt s base 1099511627776 0 D := ⟨_, rfl⟩
        have GP := hid gP
        clear gP
        have kf := hid (rat_any D s wc (by omega))
        have kh := hid (rhex_any (bt s D) (bt_range s D) wc)
        have kz := hid (rfl : bt s D = bt s D)
        obtain ⟨b, gb⟩ : ∃ b, b = bt s D := ⟨_, rfl⟩
        rw [← gb] at kf kh
        have GB := hid gb
        clear gb kz
        go_wp2_with fail
        refine kf.out.mono ?_
        rintro e w1 ⟨rfl, rfl⟩
        go_wp2_with fail
        refine kh.out.mono ?_
        rintro e w1 ⟨rfl, rfl⟩
        go_wp2_with fail
        go_loop [8, 10, 11] (fun s8 s10 s11 => ∃ (m : Nat) (n : Int), s8 = .int .i64 m ∧ s10 = .int .i64 n ∧ s11 = .int .i64 (hx (bt s m)) ∧ m ≤ s.size ∧ 0 ≤ n ∧ n ≤ 1099511627776 ∧ Hid (P = amt s base 1099511627776 n m)) (fun s8 s10 s11 => s.size - (intOf s8).toNat)
        case atStart => exact ⟨D, 0, rfl, rfl, by rw [GB.out], hD, by omega, by omega, GP⟩
        case round =>
          obtain ⟨m, n, rfl, rfl, rfl, hm, hn0, hn1, HP⟩ := hrel
          have hq := hx_dig (b := bt s m) hbb.2 (bt_range s m).1
          have hv0 := val_ge (bt_range s m).1
          have hv1 := val_le (b := bt s m)
          by_cases hl : val (bt s m) < base
          · have hsz := digit_lt hbb.2 hl
            have hp := HP.out
            rw [amt_go hbb.2 hl] at hp
            have hxv := hx_val hbb.2 hl
            have kn1 := hid (rat_any (m + 1) s w1 (by omega))
            have kn2 := hid (rhex_any (bt s (m + 1)) (bt_range s (m + 1)) w1)
            have c7 : IntKind.i64.wrap ((m : Int) + 1) = (m : Int) + 1 := by rw [IntKind.wrap_i64]; omega
            rw [hxv]
            obtain ⟨d0, gd⟩ : ∃ d0, d0 = val (bt s m) := ⟨_, rfl⟩
            rw [← gd] at hl hv0 hv1 hp ⊢
            have f0 : 0 ≤ n * base := Int.mul_nonneg hn0 (by omega)
            have f1 : n * base ≤ 1099511627776 * 16 := Int.mul_le_mul hn1 hbb.2 (by omega) (by omega)
            have c1 : IntKind.i64.wrap (n * base) = n * base := by rw [IntKind.wrap_i64]; omega
            have c2 : IntKind.i64.wrap (n * base + d0) = n * base + d0 := by rw [IntKind.wrap_i64]; omega
            obtain ⟨b1, gb1⟩ : ∃ b1, b1 = bt s (m + 1) := ⟨_, rfl⟩
            rw [← gb1] at kn1 kn2
            have GB1 := hid gb1
            by_cases hmx : 1099511627776 < n * base + d0
            · rw [show min (n * base + d0) 1099511627776 = 1099511627776 by omega] at hp
              have HQ := hid hp
              clear hp gd hxv hq gb1
              go_wp2_with fail
              refine kn1.out.mono ?_
              rintro e w1 ⟨rfl, rfl⟩
              go_wp2_with fail
              refine kn2.out.mono ?_
              rintro e w1 ⟨rfl, rfl⟩
              go_wp2_with fail
              go_round
              case rel => exact ⟨m + 1, _, by go_num, rfl, by rw [GB1.out], by omega, by omega, by omega, HQ⟩
              case measure => simp [intOf]; omega
            · rw [show min (n * base + d0) 1099511627776 = n * base + d0 by omega] at hp
              have HQ := hid hp
              clear hp gd hxv hq gb1
              go_wp2_with fail
              refine kn1.out.mono ?_
              rintro e w1 ⟨rfl, rfl⟩
              go_wp2_with fail
              refine kn2.out.mono ?_
              rintro e w1 ⟨rfl, rfl⟩
              go_wp2_with fail
              go_round
              case rel => exact ⟨m + 1, _, by go_num, rfl, by rw [GB1.out], by omega, by omega, by omega, HQ⟩
              case measure => simp [intOf]; omega
          · have hp := HP.out
            rw [amt_stop hl] at hp
            have hnq : ¬ (0 ≤ hx (bt s m) ∧ hx (bt s m) < base) := fun h => hl (hq.1 h)
            obtain ⟨y, gy⟩ : ∃ y, y = hx (bt s m) := ⟨_, rfl⟩
            rw [← gy] at hnq ⊢
            have HQ := hid hp
            have ha := amt_tops s base hbb 0 0 D (by omega) (by omega)
            rw [← GP.out, hp] at ha
            have kb := hid (rat_any m s w1 (by omega))
            have kc := hid (inner_any (bt s m) w1)
            have HV : Hid (V = told (numE s i D (min n 2147483649) m)) := hid (by
              rw [GV.out, HR.out.2.2.2.2 i]
              unfold numD
              rw [ha.1, ha.2])
            have hmD : ¬ m = D := fun e => by
              have h2 := HR.out.2.2.2.1
              rw [e] at hl
              exact hl h2
            have HX' := HX
            clear hq hp hl gy ha HP HQ hv0 hv1
            by_cases e2 : 2147483648 < n
            · have HV2 : Hid (V = .tuple #[.int .i64 0, .int .i64 0, .int .i64 i, .int .i64 122]) := hid (by
                rw [HV.out]; unfold numE; rw [if_neg hmD, if_pos (by omega)]; rfl)
              clear kb kc HV
              go_wp2_with fail
              all_goals
                refine bodyPost_ret (four_results rfl _ _ _) rfl ?_
                exact ⟨by rw [HV2.out]; rfl, rfl⟩
            · rw [show min n 2147483649 = n by omega] at HV
              by_cases e3 : inNm (bt s m) = true
              · have HV2 : Hid (V = .tuple #[.int .i64 0, .int .i64 0, .int .i64 m, .int .i64 120]) := hid (by
                  rw [HV.out]; unfold numE; rw [if_neg hmD, if_neg e2, if_pos e3]; rfl)
                rw [e3] at kc
                obtain ⟨c, gc⟩ : ∃ c, c = bt s m := ⟨_, rfl⟩
                rw [← gc] at kb kc
                clear gc e3 HV
                go_wp2_with fail
                all_goals
                  refine kb.out.mono ?_
                  rintro e w1 ⟨rfl, rfl⟩
                  go_wp2_with fail
                all_goals
                  refine kc.out.mono ?_
                  rintro e w1 ⟨rfl, rfl⟩
                  go_wp2_with fail
                all_goals
                  refine bodyPost_ret (four_results rfl _ _ _) rfl ?_
                  exact ⟨by rw [HV2.out]; rfl, rfl⟩
              · have HV2 : Hid (V = .tuple #[.int .i64 (sgn s i n), .int .i64 m, .int .i64 0, .int .i64 0]) := hid (by
                  rw [HV.out]; unfold numE; rw [if_neg hmD, if_neg e2, if_neg e3]; rfl)
                have e3' : inNm (bt s m) = false := by simpa using e3
                rw [e3'] at kc
                obtain ⟨c, gc⟩ : ∃ c, c = bt s m := ⟨_, rfl⟩
                rw [← gc] at kb kc
                unfold sgn at HV2
                rw [← GX.out] at HV2
                by_cases ex : x = 45
                · rw [if_pos ex] at HV2
                  subst ex
                  have cn : IntKind.i64.wrap (- n) = - n := by rw [IntKind.wrap_i64]; omega
                  clear gc e3 e3' HV
                  go_wp2_with fail
                  all_goals
                    refine kb.out.mono ?_
                    rintro e w1 ⟨rfl, rfl⟩
                    go_wp2_with fail
                  all_goals
                    refine kc.out.mono ?_
                    rintro e w1 ⟨rfl, rfl⟩
                    go_wp2_with fail
                  all_goals
                    refine bodyPost_ret (four_results rfl _ _ _) rfl ?_
                    exact ⟨by rw [HV2.out]; rfl, rfl⟩
                · rw [if_neg ex] at HV2
                  clear gc e3 e3' HV
                  go_wp2_with fail
                  all_goals
                    refine kb.out.mono ?_
                    rintro e w1 ⟨rfl, rfl⟩
                    go_wp2_with fail
                  all_goals
                    refine kc.out.mono ?_
                    rintro e w1 ⟨rfl, rfl⟩
                    go_wp2_with fail
                  all_goals
                    refine bodyPost_ret (four_results rfl _ _ _) rfl ?_
                    exact ⟨by rw [HV2.out]; rfl, rfl⟩

end Go.Proofs.YtidcodpekeaigaaDoor
