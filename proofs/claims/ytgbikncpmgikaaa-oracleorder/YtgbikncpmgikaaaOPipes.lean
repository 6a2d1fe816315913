/- What Pipes does. -/
import Derived.Test.YtgbikncpmgikaaaOHeld
namespace Go.Proofs.Ytgbikncpmgikaaa
open Go.RowKit
set_option linter.unusedVariables false
set_option maxRecDepth 20000

/-- A pipe has as many ends as open files are such ends of it. -/
def pipeB (F G : Int → Nat) (p : Rec) : Bool := (p 1 == (F (p 0) : Int)) && (p 2 == (G (p 0) : Int))
/-- The rule of pipes. -/
noncomputable def pipesB (l : List Rec) (F G : Int → Nat) : Bool := l.all (pipeB F G) && (wiB F (cn (l.map (· 0))) && wiB G (cn (l.map (· 0))))

set_option maxHeartbeats 8000000 in
theorem pipes_any (w : World) (a : Option Addr) (l : List Rec) (c : Nat) (a2 : Option Addr) (r : List Rec) (c2 : Nat) (hP : Recs w 4 a l) (hl : l.length ≤ 35184372088832) (hR : Recs w 6 a2 r) (hr : r.length ≤ 35184372088832) :
    Calls Try.prog 12 #[.slice a l.length c, .slice a2 r.length c2] w fun e w' => e = .returned (.bool (pipesB l (cn (opn 2 r)) (cn (opn 3 r)))) ∧ Upd (fun _ => False) w w' := by
  have HP := hid hP
  have HR := hid hR
  have KO := hid (opened_any w a2 r c2 2 hR hr)
  have KO2 : Hid (∀ w1, Upd (fun _ => False) w w1 → Calls Try.prog 18 #[.slice a2 r.length c2, .int .i64 3] w1 fun e w' => ∃ N, e = .returned (.map (some w1.heap.size)) ∧ Oc w' w1.heap.size r.length N (cn (opn 3 r)) ∧ Upd (fun _ => False) w1 w') :=
    hid fun w1 hu => opened_any w1 a2 r c2 3 (hR.upd hu (fun _ _ _ _ _ h => h)) hr
  obtain ⟨n, gn⟩ : ∃ n, n = l.length := ⟨_, rfl⟩
  have GN := hid gn
  obtain ⟨m, gm⟩ : ∃ m, m = r.length := ⟨_, rfl⟩
  rw [← gn] at hl ⊢
  rw [← gm] at hr KO KO2 ⊢
  obtain ⟨F, gF⟩ : ∃ F, F = cn (opn 2 r) := ⟨_, rfl⟩
  obtain ⟨G, gG⟩ : ∃ G, G = cn (opn 3 r) := ⟨_, rfl⟩
  rw [← gF] at KO ⊢
  rw [← gG] at KO2 ⊢
  clear hR hP gn gm gF gG HR
  have hmm := @run_makeMap Try.prog
  go_enter Try.func12, Try.ntmps12
  go_wp2_with fail
  refine KO.out.mono ?_
  rintro e w1 ⟨N1, rfl, hO1, hU1⟩
  have K2 := hid (KO2.out w1 hU1)
  have HO1 := hid hO1
  have HU1 := hid hU1
  have hAl := hO1.lt
  clear KO KO2 hO1 hU1
  go_wp2_with fail
  refine K2.out.mono ?_
  rintro e w2 ⟨N2, rfl, hO2, hU2⟩
  have HO2 := hid hO2
  have HF2 := hid (HO1.out.upd hU2 (fun h => h))
  have HU2 := hid (HU1.out.trans hU2 (fun _ _ h => h))
  have hBl := hO2.lt
  clear K2 hO2 hU2 HO1 HU1
  generalize hA : w.heap.size = A at *
  generalize w1.heap.size = B at *
  have HT0 : Hid (∃ N, Oc (w2.alloc (.map #[] 0)) w2.heap.size 0 N (cn ((l.take 0).map (· 0)))) := hid ⟨0, Oc.none w2⟩
  have HF0 : Hid (Oc (w2.alloc (.map #[] 0)) A m N1 F) := hid (HF2.out.upd (Upd.alloc (fun _ => False) _ _) (fun h => h))
  have HG0 : Hid (Oc (w2.alloc (.map #[] 0)) B m N2 G) := hid (HO2.out.upd (Upd.alloc (fun _ => False) _ _) (fun h => h))
  have HU0 : Hid (Upd (fun _ => False) w (w2.alloc (.map #[] 0))) := hid (HU2.out.trans (Upd.alloc (fun _ => False) _ _) (fun _ _ h => h))
  have hws := HU2.out.size
  have hA2 := HF2.out.lt
  clear HO2 HF2 HU2
  go_wp2_with fail
  clear hmm
  generalize w2.heap.size = C at *
  go_loopw [17] (fun k wi => ∃ (j : Nat), j ≤ n ∧ k = .int .i64 j ∧ Hid ((l.take j).all (pipeB F G) = true) ∧ Hid (∃ N, Oc wi C j N (cn ((l.take j).map (· 0)))) ∧ Hid (Oc wi A m N1 F) ∧ Hid (Oc wi B m N2 G) ∧ Hid (Upd (fun _ => False) w wi)) (fun k _ => n - (intOf k).toNat)
  case atStart => exact ⟨0, by omega, rfl, hid rfl, HT0, HF0, HG0, HU0⟩
  case round =>
    clear HT0 HF0 HG0 HU0
    obtain ⟨j, hj, rfl, HA, HM, HF, HG, HU⟩ := hrel
    rename World => wi
    by_cases hlt : j < n
    · have hln : j < l.length := by rw [← GN.out]; exact hlt
      obtain ⟨b, o, rfl, hbl, hc⟩ := (HP.out.upd HU.out (fun _ _ _ _ _ h => h)).ex (by omega)
      have hw := HP.out.wf _ (getD_mem l j rec0 hln)
      have HTk : Hid ((l.take (j + 1)).map (· 0) = (l.take j).map (· 0) ++ [l.getD j rec0 0]) := hid (by rw [take_snoc l j rec0 hln, List.map_append]; rfl)
      have HAk : Hid ((l.take (j + 1)).all (pipeB F G) = pipeB F G (l.getD j rec0)) := hid (by rw [take_snoc l j rec0 hln, List.all_append, HA.out]; simp)
      have HNo : Hid (pipeB F G (l.getD j rec0) = false → pipesB l F G = false) := hid fun h => by
        unfold pipesB
        have : l.all (pipeB F G) = false := by
          rw [List.all_eq_false]
          exact ⟨_, getD_mem l j rec0 hln, by rw [h]; simp⟩
        rw [this]; rfl
      unfold pipeB at HAk HNo
      have c0 := hc j hln 0 (by omega)
      have c1 := hc j hln 1 (by omega)
      have c2 := hc j hln 2 (by omega)
      have c3 := hc j hln 3 (by omega)
      rw [Nat.add_zero] at c0
      have W0 := hid (hw 0)
      generalize l.getD j rec0 0 = x0 at *
      generalize l.getD j rec0 1 = x1 at *
      generalize l.getD j rec0 2 = x2 at *
      generalize l.getD j rec0 3 = x3 at *
      clear hc hw
      have hX : Upd (fun _ => False) wi (wi.alloc (.cells #[.int .i64 x0, .int .i64 x1, .int .i64 x2, .int .i64 x3] 54)) := Upd.alloc _ _ _
      obtain ⟨N, hO⟩ := HM.out
      have hlk := oc_look (HF.out.upd hX (fun h => h)) W0.out
      have hlk3 := oc_look (HG.out.upd hX (fun h => h)) W0.out
      have hle : ((l.take j).map (· 0)).length ≤ j := by rw [List.length_map]; exact List.length_take_le j l
      obtain ⟨hlk2, hwr, w3, hup, hO2, hU2⟩ := oc_step (hO.upd hX (fun h => h)) W0.out (by omega) (by omega)
      have HM2 : Hid (∃ N, Oc w3 C (j + 1) N (cn ((l.take (j + 1)).map (· 0)))) := hid (by rw [HTk.out]; exact hO2)
      have HF2 : Hid (Oc w3 A m N1 F) := hid ((HF.out.upd hX (fun h => h)).upd hU2 (by omega))
      have HG2 : Hid (Oc w3 B m N2 G) := hid ((HG.out.upd hX (fun h => h)).upd hU2 (by omega))
      have HU1 : Hid (Upd (fun _ => False) w (wi.alloc (.cells #[.int .i64 x0, .int .i64 x1, .int .i64 x2, .int .i64 x3] 54))) := hid (HU.out.trans hX (fun _ _ h => h))
      have HU2 : Hid (Upd (fun _ => False) w w3) := hid (HU1.out.trans hU2 (fun x h1 h2 => by omega))
      generalize (cn ((l.take j).map (· 0)) x0 : Int) = g at hlk2 hup hwr
      generalize (F x0 : Int) = f at *
      generalize (G x0 : Int) = f2 at *
      clear hX hO hO2 hU2 hle HM HF HG HU
      cases b1 : x1 == f <;> cases b2 : x2 == f2
      all_goals
        have b5 : (x1 != f) = !(x1 == f) := rfl
        have b6 : (x2 != f2) = !(x2 == f2) := rfl
        rw [b1] at b5
        rw [b2] at b6
        rw [b1, b2] at HAk HNo
        go_wp2_with fail
        first
          | (go_roundw
             case rel => exact ⟨j + 1, by omega, by go_num, hid (HAk.out.trans rfl), HM2, HF2, HG2, HU2⟩
             case measure => simp [intOf]; omega)
          | (go_ret
             rw [HNo.out rfl]
             exact ⟨rfl, HU1.out⟩)
    · have hin : j = n := by omega
      subst hin
      have HA' : Hid (pipesB l F G = (wiB F (cn (l.map (· 0))) && wiB G (cn (l.map (· 0))))) := by
        have := HA.out
        rw [List.take_of_length_le (by rw [← GN.out]; exact Nat.le_refl _)] at this
        exact hid (by unfold pipesB; rw [this]; rfl)
      obtain ⟨N, hO⟩ := HM.out
      rw [List.take_of_length_le (by rw [← GN.out]; exact Nat.le_refl _)] at hO
      have KW := hid (within_any wi A C _ _ _ _ _ _ HF.out hO)
      have KW2 : Hid (∀ wj, Upd (fun _ => False) wi wj → Calls Try.prog 19 #[.map (some B), .map (some C)] wj fun e w' => e = .returned (.bool (wiB G (cn (l.map (· 0))))) ∧ Upd (fun _ => False) wj w') :=
        hid fun wj hu => within_any wj B C _ _ _ _ _ _ (HG.out.upd hu (fun h => h)) (hO.upd hu (fun h => h))
      clear HA HM HF HG hO
      generalize wiB F (cn (l.map (· 0))) = b1 at *
      generalize wiB G (cn (l.map (· 0))) = b2 at *
      go_wp2_with fail
      refine KW.out.mono ?_
      rintro e w3 ⟨rfl, hU3⟩
      have KW3 := hid (KW2.out w3 hU3)
      have HU3 : Hid (Upd (fun _ => False) w w3) := hid (HU.out.trans hU3 (fun _ _ h => h))
      clear KW KW2 hU3 HU
      cases b1
      · go_wp2_with fail
        go_ret
        rw [HA'.out]
        exact ⟨rfl, HU3.out⟩
      · go_wp2_with fail
        refine KW3.out.mono ?_
        rintro e w4 ⟨rfl, hU4⟩
        have HU4 : Hid (Upd (fun _ => False) w w4) := hid (HU3.out.trans hU4 (fun _ _ h => h))
        clear KW3 hU4
        go_wp2_with fail
        go_ret
        rw [HA'.out]
        exact ⟨by simp, HU4.out⟩

end Go.Proofs.Ytgbikncpmgikaaa
