/- Texts of this seat, merged. -/
import Derived.Test.YtbglhmcahnkbfaaGreatHMg52
import Derived.Test.YtbglhmcahnkbfaaGreatHMg48
import Derived.Test.YtbglhmcahnkbfaaGreatHMg31
import Derived.Deep.RegionWith
import Derived.Deep.DeepCutAuto
import Derived.Deep.CutBlock

/- The road of ProcsOver. -/
namespace Go.Proofs.YtbglhmcahnkbfaaGreat
open Go.RowKit Go.ChangeMaps Go.MapKept
set_option linter.unusedVariables false
set_option maxRecDepth 20000

theorem Rdv.box1 {W : World} {v : Int} : Rdv (W.alloc (.cells #[.int .i64 v] 3)) (some ⟨W.heap.size, 0, none⟩) 1 ([v].map (Value.int .i64)) := by
  refine ⟨rfl, fun _ => ⟨W.heap.size, 0, rfl, by simp, fun j hj => ?_⟩⟩
  obtain rfl : j = 0 := by simpa using hj
  simp [go_sem]

set_option maxHeartbeats 16000000 in
theorem gover_road (al : Option Addr) (ll cl : Nat) (w : World) (hd : Dos9 w al ll) (hll : ll ≤ cl) (hcl : cl ≤ 9223372036854775807) :
    Calls Tryz.prog 5 #[.slice al ll cl] w fun e w' => e = .returned (.bool true) ∧ Below w.heap.size w w' := by
  have k1 := hid (glegal_any al ll cl w hd hll hcl)
  clear hd
  have KN : Hid (∀ W pp f t g, Pg w W pp f t g → Calls Tryz.prog 14 #[.pointer (some ⟨t, 0, none⟩)] W fun e w' => (∃ (a : Option Addr) (c : Nat), e = .returned (.slice a (rnL g.Q 5).length c) ∧ (0 < (rnL g.Q 5).length → ∃ q o, a = some ⟨q, o, none⟩ ∧ q < w'.heap.size ∧ w'.cell? ⟨q, o, none⟩ = some (.int .i64 (((rnL g.Q 5).headD 0 : Nat) : Int)))) ∧ Pg w w' pp f t g) := hid (fun W pp f t g h => (grunning_any h.tab).mono (by
    rintro e w' ⟨⟨v, rfl, h1⟩, h3⟩
    obtain ⟨a, c, rfl, _, _, hc⟩ := own_shp h1
    refine ⟨⟨a, c, rfl, fun h0 => ?_⟩, h.grow h3⟩
    obtain ⟨q, rfl, _, hq, hcc⟩ := hc h0
    refine ⟨q, 0, rfl, hq, hcc 0 _ ?_⟩
    cases hr : rnL g.Q 5 with
    | nil => rw [hr] at h0; exact absurd h0 (Nat.lt_irrefl 0)
    | cons b r => rfl))
  have KE : Hid (∀ W pp f t g (q : Nat), LOk g → qrn g.Q (q : Int) = true → Pg w W pp f t g → Calls Tryz.prog 15 #[.pointer (some ⟨t, 0, none⟩), .int .i64 (q : Int), .int .i64 3] W fun e w' => e = .returned (.int .i64 0) ∧ Pg w w' pp f t (g.exit (q : Int) 3).1) := hid (fun W pp f t g q hg hq h => h.prog (R := fun e => e = .returned (.int .i64 0)) (fun G hz => (gexit_any hz hg.ok (q : Int) 3).mono (by
    rintro e w' ⟨he, k⟩
    exact ⟨by rw [he, (exit_less 3 hq).1], k⟩)))
  go_enter Tryz.func5, Tryz.ntmps5
  go_wp2_with fail
  refine k1.out.mono ?_
  rintro e w1 ⟨pp, f, t, rfl, h1⟩
  obtain ⟨g0, hg0, hp0⟩ := h1.pg
  have HP0 : Hid (∃ g, LOk g ∧ (rnL g.Q 5).length ≤ 5 ∧ Pg w w1 pp f t g) := hid ⟨g0, hg0, rnL_le _ _, hp0⟩
  clear h1 hg0 hp0 k1
  go_wp2_with fail
  go_loopw [4] (fun v4 wr => ∃ i : Nat, i ≤ 5 ∧ v4 = .int .i64 (i : Int) ∧ Hid (∃ g, LOk g ∧ i + (rnL g.Q 5).length ≤ 5 ∧ Pg w wr pp f t g)) (fun v4 _ => 6 - (intOf v4).toNat)
  case atStart => exact ⟨0, by omega, rfl, hid (by obtain ⟨g, a, b, c⟩ := HP0.out; exact ⟨g, a, by omega, c⟩)⟩
  case round =>
    clear HP0
    obtain ⟨i, hi5, rfl, HQ⟩ := hrel
    obtain ⟨g, hg, hm, hP⟩ := HQ.out
    have c2 := hP.c2
    have k2 := hid (KN.out _ _ _ _ g hP)
    obtain ⟨m, gm⟩ : ∃ m, m = (rnL g.Q 5).length := ⟨_, rfl⟩
    rw [← gm] at k2 hm
    have HG := hid hg
    have HM := hid gm
    clear HQ hP hg gm
    by_cases h0 : m = 0
    · subst h0
      obtain ⟨hpi, hoi⟩ := none_left HG.out HM.out.symm
      have KL : Hid (∀ W, Pg w W pp f t g → Calls Tryz.prog 12 #[.pointer (some ⟨f, 0, none⟩)] W fun e w' => (∃ a c, e = .returned (.slice a 0 c)) ∧ Pg w w' pp f t g) := hid (fun W h => by
        obtain ⟨Gn, hg⟩ := h.tp
        refine (tplook W f _ Gn hg HG.out.ok.T).mono ?_
        rintro e w' ⟨⟨v, rfl, h1⟩, h3⟩
        rw [hoi] at h1
        obtain ⟨a, c, rfl, _⟩ := own_shp h1
        exact ⟨⟨a, c, rfl⟩, h.grow h3⟩)
      have KG : Hid (∀ W, Pg w W pp f t g → Calls Tryz.prog 11 #[.pointer (some ⟨t, 0, none⟩)] W fun e w' => (∃ a c, e = .returned (.slice a 0 c)) ∧ Pg w w' pp f t g) := hid (fun W h => (glook_any h.tab).mono (by
        rintro e w' ⟨⟨v, rfl, h1⟩, h3⟩
        rw [hpi] at h1
        obtain ⟨a, c, rfl, _⟩ := own_shp h1
        exact ⟨⟨a, c, rfl⟩, h.grow h3⟩))
      have KR : Hid (∀ w0 W p2 f2 t2, Pg w0 W p2 f2 t2 (newG 0) → Calls Tryz.prog 14 #[.pointer (some ⟨t2, 0, none⟩)] W fun e w' => (∃ a c, e = .returned (.slice a 1 c) ∧ Rdv w' a 1 ([(1 : Int)].map (Value.int .i64))) ∧ Below W.heap.size W w') := hid (fun w0 W p2 f2 t2 h => (grunning_any h.tab).mono (by
        rintro e w' ⟨⟨v, rfl, h1⟩, h3⟩
        rw [new_runs] at h1
        obtain ⟨a, c, rfl, _⟩ := own_shp h1
        exact ⟨⟨a, c, rfl, Rdv.of h1⟩, h3⟩))
      clear hpi hoi KN KE
      go_wp2_with fail
      refine k2.out.mono ?_
      rintro e w2 ⟨⟨a2, d2, rfl, _⟩, h2⟩
      have c0 := h2.c0
      have k3 := hid (KL.out _ h2)
      clear h2 k2 KL
      go_wp2_with fail
      refine k3.out.mono ?_
      rintro e w3 ⟨⟨a3, d3, rfl⟩, h3⟩
      have c2' := h3.c2
      have k4 := hid (KG.out _ h3)
      clear h3 k3 KG
      go_wp2_with fail
      refine k4.out.mono ?_
      rintro e w4 ⟨⟨a4, d4, rfl⟩, h4⟩
      have k5 := hid (fresh_pg_in h4 0)
      clear h4 k4
      go_wp2_with fail
      refine k5.out.mono ?_
      rintro e w5 ⟨p2, f2, t2, rfl, h5, h5'⟩
      have cc := h5.c2
      have k6 := hid (KR.out _ _ _ _ _ h5)
      have HB5 := hid h5'.2
      clear h5 h5' k5 KR
      go_wp2_with fail
      refine k6.out.mono ?_
      rintro e w6 ⟨⟨a6, d6, rfl, h6⟩, b6⟩
      have hbx := one_new w6 (Obj.cells #[.int .i64 1] 3)
      have k7 := hid (ieq_yes a6 (some ⟨w6.heap.size, 0, none⟩) 1 d6 1 (by omega) [(1 : Int)] (w6.alloc (.cells #[.int .i64 1] 3)) (h6.below hbx) Rdv.box1)
      have HB6 := hid ((HB5.out.trans (b6.mono HB5.out.size)).trans (hbx.mono (Nat.le_trans HB5.out.size b6.size)))
      clear h6 b6 hbx k6 HB5
      go_wp2_with fail
      refine k7.out.mono ?_
      rintro e w7 ⟨rfl, b7⟩
      go_wp2_with fail
      go_ret
      exact ⟨rfl, HB6.out.trans (b7.mono HB6.out.size)⟩
    · have hm0 : (0 : Int) < (m : Int) := by omega
      have hi9 : ¬ (9 : Int) < (i : Int) := by omega
      have hd9 : decide ((9 : Int) < (i : Int)) = false := decide_eq_false hi9
      obtain ⟨q, gq⟩ : ∃ q, q = (rnL g.Q 5).headD 0 := ⟨_, rfl⟩
      have hq : qrn g.Q (q : Int) = true := by
        cases hr : rnL g.Q 5 with
        | nil => rw [hr] at HM; exact absurd HM.out h0
        | cons b r =>
          have := mem_rnL 5 (show b ∈ rnL g.Q 5 by rw [hr]; exact List.mem_cons_self ..)
          rw [gq, hr]
          exact this.2
      have hx := exit_less 3 hq
      have HX : Hid (∃ g, LOk g ∧ (i + 1) + (rnL g.Q 5).length ≤ 5 ∧ True) := hid ⟨_, HG.out.exit (q : Int) 3, by have := hx.2; have := HM.out; omega, trivial⟩
      have HL : Hid ((i + 1) + (rnL (g.exit (q : Int) 3).1.Q 5).length ≤ 5) := hid (by have := hx.2; have := HM.out; omega)
      have KNm : Hid (∀ W, Pg w W pp f t g → Calls Tryz.prog 14 #[.pointer (some ⟨t, 0, none⟩)] W fun e w' => (∃ (a : Option Addr) (c q' o : Nat), e = .returned (.slice a m c) ∧ a = some ⟨q', o, none⟩ ∧ w'.cell? ⟨q', o, none⟩ = some (.int .i64 (q : Int))) ∧ Pg w w' pp f t g) := hid (fun W h => (KN.out W pp f t g h).mono (by
        rintro e w' ⟨⟨a, c, rfl, hr⟩, h3⟩
        obtain ⟨q', o, e1, _, hc⟩ := hr (by have := HM.out; omega)
        exact ⟨⟨a, c, q', o, by rw [HM.out], e1, by rw [gq]; exact hc⟩, h3⟩))
      have KEq : Hid (∀ W, Pg w W pp f t g → Calls Tryz.prog 15 #[.pointer (some ⟨t, 0, none⟩), .int .i64 (q : Int), .int .i64 3] W fun e w' => e = .returned (.int .i64 0) ∧ Pg w w' pp f t (g.exit (q : Int) 3).1) := hid (fun W h => KE.out W pp f t g q HG.out hq h)
      clear hx hq HX KN KE gq
      go_wp2_with fail
      refine k2.out.mono ?_
      rintro e w2 ⟨⟨a, c, rfl, _⟩, h2⟩
      have c2 := h2.c2
      have H2 := hid h2
      clear h2 k2
      go_wp2_with fail
      go_cut [32] (fun v32 wx => v32 = .bool false ∧ Hid (Pg w wx pp f t (g.exit (q : Int) 3).1))
      case first =>
        go_region_with (first
          | (go_at_call 14; refine (KNm.out _ (by first | exact H2.out.grow (Below.refl _ _).drew | exact H2.out)).mono ?_; rintro e w3 ⟨⟨a3, d3, q3, o3, rfl, rfl, hc3⟩, h3⟩; have c3 := h3.c2; have H3 := hid h3; clear h3)
          | (go_at_call 15; refine (KEq.out _ H3.out).mono ?_; rintro e w4 ⟨rfl, h4⟩; have H4 := hid h4; clear h4))
        all_goals
          go_wp2_with fail
          go_meet
          case rel =>
            first
            | exact ⟨rfl, H4⟩
            | exact ⟨rfl, hid (H4.out.grow (Below.refl _ _).drew)⟩
      case rest =>
        obtain ⟨rfl, HX⟩ := hcut
        go_wp2_with fail
        go_roundw
        case rel => exact ⟨i + 1, by omega, by go_num, hid ⟨_, HG.out.exit (q : Int) 3, HL.out, HX.out⟩⟩
        case measure => simp [intOf]; omega

end Go.Proofs.YtbglhmcahnkbfaaGreat
