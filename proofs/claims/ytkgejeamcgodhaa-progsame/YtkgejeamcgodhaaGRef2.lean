/- The document's value of an argument. -/
import Derived.Test.YtkgejeamcgodhaaGRef1
namespace Go.Proofs.Ytkgejeamcgodhaa
open Go.RowKit Go.Lib
set_option linter.unusedVariables false
set_option maxRecDepth 20000

def rvalI (T : Ty) (h : Hd) : Int := if (T.k = 5 → h.k = 1) ∧ valueB T h = false then 153 else 0
theorem any_take {α : Type} (l : List α) (f : α → Bool) (d : α) (j : Nat) (h : j < l.length) : (l.take (j + 1)).any f = ((l.take j).any f || f (l.getD j d)) := by
  rw [List.take_add_one, List.getElem?_eq_getElem h, List.any_append, List.getD_eq_getElem?_getD, List.getElem?_eq_getElem h]
  simp

set_option maxHeartbeats 8000000 in
theorem rvalue_any (T : Ty) (h : Hd) (w : World) (hT : T.Ok w) (hk : h.Ok w) : Calls Try.prog 68 #[.agg #[.int .i64 T.k, .int .i64 T.s, .int .i64 T.lo, .int .i64 T.hi, .int .i64 T.d, .string T.o, .slice T.va T.vn T.vc, .slice T.ta T.tn T.tc, .slice T.ea T.en T.ec, .slice T.na T.nn T.nc], .agg #[.int .i64 h.k, .int .i64 h.v, .slice h.ka h.kn h.kc, .slice h.ba h.bn h.bc]] w fun e w' => e = .returned (.int .i64 (rvalI T h)) ∧ Below w.heap.size w w' := by
  have k2 := hid (fun o o' => rflags_any h.v T.va T.vn T.vc T.vs ((w.alloc o).alloc o') (hT.vs.below (below_box2 w o o')) hT.vl (by have := hT.vm; have := hT.vb; omega))
  have hcv := fun o o' => (hk.bs.below (below_box2 w o o')).convert (P := Try.prog) h.bc 28 5 9 Try.underlying28 Try.underlying5 Try.underlying9
  have HVS := hid (fun o o' => hT.vs.below (below_box2 w o o'))
  have HTS := hid (fun o o' => hT.ts.below (below_box2 w o o'))
  have HVL := hid hT.vl
  have HTL := hid hT.tl
  have hvm := hT.vm
  have hvb := hT.vb
  have htm := hT.tm
  have htb := hT.tb
  have hbm := hk.bm
  have hbb := hk.bb
  have hem := hT.em
  have heb := hT.eb
  clear hk hT
  obtain ⟨R, gR⟩ : ∃ R, R = rvalI T h := ⟨_, rfl⟩
  rw [← gR]
  have HR := hid gR
  clear gR
  unfold rvalI valueB at HR
  obtain ⟨k, s, lo, hi, d, o, va, vn, vc, vs, ta, tn, tc, ts, ea, en, ec, es, na, nn, nc⟩ := T
  obtain ⟨ak, av, ka, kn, kc, ba, bn, bc, bs⟩ := h
  dsimp only at *
  generalize strOfNums bs = S at *
  by_cases e5 : k = 5 ∧ ak = 1
  · obtain ⟨rfl, rfl⟩ := e5
    replace HR : Hid (R = if vs.any (fun x => decide (av = x)) = false then 153 else 0) := hid (by rw [HR.out]; simp)
    clear k2 hcv HTS HTL
    go_enter Try.func68, Try.ntmps68
    go_wp2_with fail
    go_loop [5, 48] (fun u k => ∃ j : Nat, j ≤ vn ∧ k = .int .i64 j ∧ u = .bool ((vs.take j).any (fun x => decide (av = x)))) (fun _ k => vn - (intOf k).toNat)
    case atStart => exact ⟨0, Nat.zero_le _, rfl, rfl⟩
    case round =>
      obtain ⟨j, hj, rfl, rfl⟩ := hrel
      by_cases hlt : j < vn
      · have hjl : j < vs.length := by rw [HVL.out]; exact hlt
        obtain ⟨b, o', rfl, hbl, hcs⟩ := HVS.out (.cells #[.int .i64 5, .int .i64 s, .int .i64 lo, .int .i64 hi, .int .i64 d, .string o, .slice va vn vc, .slice ta tn tc, .slice ea en ec, .slice na nn nc] 52) (.cells #[.int .i64 1, .int .i64 av, .slice ka kn kc, .slice ba bn bc] 30) (by omega)
        have hci := hcs j hjl
        have HM := hid (any_take vs (fun x => decide (av = x)) 0 j hjl)
        generalize vs.getD j 0 = x at hci HM
        generalize hB : (vs.take j).any (fun x => decide (av = x)) = B at *
        clear hcs hbl hjl hB
        cases B
        · go_wp2_with fail
          go_round
          case rel => exact ⟨j + 1, by omega, by go_num, by rw [HM.out]; congr 1; rw [Bool.eq_iff_iff]; simp only [Bool.false_or, beq_iff_eq, decide_eq_true_eq]; exact ⟨Eq.symm, Eq.symm⟩⟩
          case measure => simp [intOf]; omega
        · go_wp2_with fail
          go_round
          case rel => exact ⟨j + 1, by omega, by go_num, by rw [HM.out]; rfl⟩
          case measure => simp [intOf]; omega
      · obtain rfl : j = vn := by omega
        have HF : Hid ((vs.take j).any (fun x => decide (av = x)) = vs.any (fun x => decide (av = x))) := hid (by rw [List.take_of_length_le (by rw [HVL.out]; exact Nat.le_refl _)])
        rw [HF.out]
        generalize vs.any (fun x => decide (av = x)) = B at *
        cases B
        all_goals
          go_wp2_with fail
          go_ret
          exact ⟨ret_int (by rw [HR.out]; rfl), below_box2 _ _ _⟩
  · by_cases e10 : k = 10
    · subst e10
      replace HR : Hid (R = if ts.any (fun t => decide (S = t)) = false then 153 else 0) := hid (by rw [HR.out]; simp)
      clear k2 HVS HVL e5
      go_enter Try.func68, Try.ntmps68
      go_wp2_with fail
      go_loop [5, 78] (fun u k => ∃ j : Nat, j ≤ tn ∧ k = .int .i64 j ∧ u = .bool ((ts.take j).any (fun x => decide (S = x)))) (fun _ k => tn - (intOf k).toNat)
      case atStart => exact ⟨0, Nat.zero_le _, rfl, rfl⟩
      case round =>
        obtain ⟨j, hj, rfl, rfl⟩ := hrel
        by_cases hlt : j < tn
        · have hjl : j < ts.length := by rw [HTL.out]; exact hlt
          obtain ⟨b, o', rfl, hbl, hcs⟩ := HTS.out (.cells #[.int .i64 10, .int .i64 s, .int .i64 lo, .int .i64 hi, .int .i64 d, .string o, .slice va vn vc, .slice ta tn tc, .slice ea en ec, .slice na nn nc] 52) (.cells #[.int .i64 ak, .int .i64 av, .slice ka kn kc, .slice ba bn bc] 30) (by omega)
          have hci := hcs j hjl
          have HM := hid (any_take ts (fun x => decide (S = x)) .empty j hjl)
          generalize ts.getD j .empty = x at hci HM
          generalize hB : (ts.take j).any (fun x => decide (S = x)) = B at *
          clear hcs hbl hjl hB
          cases B
          · by_cases hx : x = S
            · have hx1 : (x.toList == S.toList) = true := (bytes_beq_iff x S).2 hx
              have HX := hid hx
              clear hx
              go_wp2_with fail
              go_round
              case rel => exact ⟨j + 1, by omega, by go_num, by rw [HM.out, HX.out]; simp⟩
              case measure => simp [intOf]; omega
            · have hx1 : (x.toList == S.toList) = false := (bytes_beq_false_iff x S).2 hx
              have HX := hid hx
              clear hx
              go_wp2_with fail
              go_round
              case rel => exact ⟨j + 1, by omega, by go_num, by rw [HM.out]; congr 1; have := HX.out; simp; exact fun e => this e.symm⟩
              case measure => simp [intOf]; omega
          · go_wp2_with fail
            go_round
            case rel => exact ⟨j + 1, by omega, by go_num, by rw [HM.out]; rfl⟩
            case measure => simp [intOf]; omega
        · obtain rfl : j = tn := by omega
          have HF : Hid ((ts.take j).any (fun x => decide (S = x)) = ts.any (fun x => decide (S = x))) := hid (by rw [List.take_of_length_le (by rw [HTL.out]; exact Nat.le_refl _)])
          rw [HF.out]
          generalize ts.any (fun x => decide (S = x)) = B at *
          cases B
          all_goals
            go_wp2_with fail
            go_ret
            exact ⟨ret_int (by rw [HR.out]; rfl), below_box2 _ _ _⟩
    · have e5' : ¬ (k = 5 ∧ (ak == 1) = true) := by simpa using e5
      by_cases e5k : k = 5
      · subst e5k
        have h1 : (ak == 1) = false := by simpa using e5
        replace HR : Hid (R = 0) := hid (by rw [HR.out, if_neg (fun hh => e5 ⟨rfl, hh.1 rfl⟩)])
        clear e5 e5' e10 k2 hcv HVS HTS
        go_enter Try.func68, Try.ntmps68
        go_wp2_with fail
        go_ret
        exact ⟨ret_int (by rw [HR.out]), below_box2 _ _ _⟩
      · replace HR : Hid (R = if (if k = 1 then decide (lo ≤ av ∧ av ≤ hi) else if k = 2 then decide (av = lo) else if k = 3 then orB av vs else if k = 9 then decide (0 ≤ av ∧ av < (en : Int)) else if k = 11 then decide (lo ≤ (bn : Int) ∧ (bn : Int) ≤ hi) else true) = false then 153 else 0) := hid (by rw [HR.out]; simp only [e5k, e10, if_false, false_implies, true_and])
        generalize orB av vs = R1 at *
        clear e5 e5' HVS HTS hcv
        go_enter Try.func68, Try.ntmps68
        go_wp2_with (refine (k2.out _ _).mono ?_; rintro e w1 ⟨rfl, rfl⟩)
        all_goals
          go_ret
          refine ⟨ret_int ?_, below_box2 _ _ _⟩
          rw [HR.out]
          clear HR k2
          simp only [beq_iff_eq, beq_eq_false_iff_ne] at *
          first | (simp [*]; done) | (simp [*]; omega) | (simp_all; done) | (simp_all; omega)

end Go.Proofs.Ytkgejeamcgodhaa
