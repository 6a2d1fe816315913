/- Texts of this seat, merged. -/
import Derived.Test.YtbglhmcahnkbfaaGreatHMg52
import Derived.Test.YtbglhmcahnkbfaaGreatHMg48
import Derived.Test.YtbglhmcahnkbfaaGreatHMg54
import Derived.Test.YtbglhmcahnkbfaaGreatHMg31

/- The road of ProcsHeld. -/
namespace Go.Proofs.YtbglhmcahnkbfaaGreat
open Go.RowKit Go.ChangeMaps Go.MapKept
set_option linter.unusedVariables false
set_option maxRecDepth 20000

theorem Rdv.one1 {W : World} {v : Int} : Rdv (W.alloc (.cells #[.int .i64 v] 3)) (some ⟨W.heap.size, 0, none⟩) 1 ([v].map (Value.int .i64)) := by
  refine ⟨rfl, fun _ => ⟨W.heap.size, 0, rfl, by simp, fun j hj => ?_⟩⟩
  obtain rfl : j = 0 := by simpa using hj
  simp [go_sem]

set_option maxHeartbeats 16000000 in
theorem gheld_road (al : Option Addr) (ll cl : Nat) (w : World) (hd : Dos9 w al ll) (hll : ll ≤ cl) (hcl : cl ≤ 9223372036854775807) :
    Calls Tryz.prog 4 #[.slice al ll cl] w fun e w' => e = .returned (.bool true) ∧ Below w.heap.size w w' := by
  have k1 := hid (glegal_any al ll cl w hd hll hcl)
  clear hd
  go_enter Tryz.func4, Tryz.ntmps4
  go_wp2_with fail
  refine k1.out.mono ?_
  rintro e w1 ⟨pp, f, t, rfl, h1⟩
  obtain ⟨g, hg, hP⟩ := h1.pg
  have HG := hid hg
  clear h1 hg k1
  obtain ⟨b, w2, gb, hmm, hO2, hB2⟩ : ∃ b w2, b = w1.heap.size ∧ (Instr.makeMap 31 none).run Tryz.prog w1 = .ok (.map (some b)) w2 ∧ Oc w2 b 0 0 (fun _ => 0) ∧ Below w1.heap.size w1 w2 :=
    ⟨_, _, rfl, run_makeMap _ _, Oc.none w1, one_new w1 _⟩
  have HP := hid hP
  have hP2 := hP.grow hB2
  have c2 := hP2.c2
  obtain ⟨ps, gps⟩ : ∃ ps, ps = prL g.Q 5 := ⟨_, rfl⟩
  obtain ⟨n, gn⟩ : ∃ n, n = ps.length := ⟨_, rfl⟩
  have kL : Hid (Calls Tryz.prog 11 #[.pointer (some ⟨t, 0, none⟩)] w2 fun e w' => (∃ a c, e = .returned (.slice a n c) ∧ Rws w' w2.heap.size a ps 10 (fun i => piV i (g.Q i))) ∧ Below w2.heap.size w2 w') := hid ((glook_any hP2.tab).mono (by
    rintro e w' ⟨⟨v, rfl, h1⟩, h3⟩
    obtain ⟨e1, e2⟩ := pr_flat g.Q 5
    rw [e1, e2, ← gps, ← gn] at h1
    obtain ⟨a, c, rfl, hr⟩ := Rws.of (is := ps) (L := 10) (f := fun i => piV i (g.Q i)) (fun i => rfl) gn h1
    exact ⟨⟨a, c, rfl, hr⟩, h3⟩))
  have GPS := hid gps
  have GN := hid gn
  have GB := hid gb
  have hbl : b < w2.heap.size := hO2.lt
  have HO2 := hid hO2
  have HB2 := hid hB2
  have hn5 : n ≤ 5 := by rw [gn, gps]; unfold prL; exact Nat.le_trans (List.length_filter_le ..) (by simp)
  clear hP hP2 gps gn gb hO2 hB2
  go_wp2_with fail
  refine kL.out.mono ?_
  rintro e w3 ⟨⟨a, c, rfl, hR⟩, hb3⟩
  have HR3 := hid hR
  have HO3 : Hid (Oc w3 b (6 * 0) (nNZ (FJ g.Q (ps.take 0)) 11) (FJ g.Q (ps.take 0))) := by
    have := HO2.out.upd (Upd.of_below (F := fun _ => False) hb3) (fun h => h)
    rw [List.take_zero, FJ_nil, nNZ_no]
    exact hid this
  have HB3 : Hid (Below w1.heap.size w1 w3) := hid (HB2.out.trans (hb3.mono HB2.out.size))
  have hw23 := hb3.size
  clear hR hb3 HO2 HB2 kL c2
  go_wp2_with fail
  go_loopw [21] (fun v21 wr => ∃ i : Nat, i ≤ n ∧ v21 = .int .i64 (i : Int) ∧ Hid (Oc wr b (6 * i) (nNZ (FJ g.Q (ps.take i)) 11) (FJ g.Q (ps.take i))) ∧ Hid (Rws wr w2.heap.size a ps 10 (fun i => piV i (g.Q i))) ∧ Hid (Below w1.heap.size w1 wr)) (fun v21 _ => n - (intOf v21).toNat)
  case atStart => exact ⟨0, by omega, rfl, HO3, HR3, HB3⟩
  case round =>
    clear HO3 HR3 HB3
    obtain ⟨i, hi, rfl, HO, HR, HB⟩ := hrel
    rename World => wr
    by_cases hlt : i < n
    · have hil : i < ps.length := by rw [← GN.out]; exact hlt
      obtain ⟨q, rfl, hq1, hq2, hh⟩ := HR.out (by omega)
      have hh := hh i hil
      have HTK : Hid (ps.take (i + 1) = ps.take i ++ [ps[i]]) := hid (take_more _ _ hil)
      generalize ps[i] = p at hh HTK
      obtain ⟨F, gF⟩ : ∃ F, F = (g.Q p).fd := ⟨_, rfl⟩
      have HF : Hid (∀ j, 0 ≤ F j ∧ F j ≤ 10) := hid (fun j => by rw [gF]; have := HG.out.ok.fd p j; omega)
      have d0 : wr.cell? ⟨q, i * 10, none⟩ = some (.int .i64 (p : Int)) := hh 0 (by omega) _ rfl
      have d1 := hh 1 (by omega) _ rfl
      have d2 := hh 2 (by omega) _ rfl
      have d3 := hh 3 (by omega) _ rfl
      have d4 := hh 4 (by omega) _ rfl
      have d5 := hh 5 (by omega) _ rfl
      have d6 := hh 6 (by omega) _ rfl
      have d7 := hh 7 (by omega) _ rfl
      have d8 := hh 8 (by omega) _ rfl
      have d9 := hh 9 (by omega) _ rfl
      rw [← gF] at d4 d5 d6 d7 d8 d9
      have GF := hid gF
      clear hh gF
      generalize (g.Q p).pa = pa at d1
      generalize (g.Q p).st = st at d2
      generalize (g.Q p).co = co at d3
      obtain ⟨V, gV⟩ : ∃ V, V = fdV F := ⟨_, rfl⟩
      have HIX : Hid (∀ j : Nat, j < 6 → ∀ W : World, (Instr.index 40 (.agg V.toArray) (.int .i64 (j : Int))).run Tryz.prog W = .ok (.int .i64 (F j)) W) := by rw [gV]; exact hid (fun j hj W => ixF6 F j hj W)
      have HV : Hid (Value.agg #[.int .i64 (F 0), .int .i64 (F 1), .int .i64 (F 2), .int .i64 (F 3), .int .i64 (F 4), .int .i64 (F 5)] = .agg V.toArray) := by rw [gV]; exact hid rfl
      clear gV
      have hbX := one_new wr (Obj.cells #[.int .i64 (p : Int), .int .i64 pa, .int .i64 st, .int .i64 co, .int .i64 (F 0), .int .i64 (F 1), .int .i64 (F 2), .int .i64 (F 3), .int .i64 (F 4), .int .i64 (F 5)] 42)
      have HO4 : Hid (Oc (wr.alloc (.cells #[.int .i64 (p : Int), .int .i64 pa, .int .i64 st, .int .i64 co, .int .i64 (F 0), .int .i64 (F 1), .int .i64 (F 2), .int .i64 (F 3), .int .i64 (F 4), .int .i64 (F 5)] 42)) b (6 * i + 0) (nNZ (FK g.Q (ps.take i) F 0) 11) (FK g.Q (ps.take i) F 0)) := by
        rw [FK_0]
        exact hid (HO.out.upd (Upd.of_below (F := fun _ => False) hbX) (fun h => h))
      have HR4 : Hid (Rws (wr.alloc (.cells #[.int .i64 (p : Int), .int .i64 pa, .int .i64 st, .int .i64 co, .int .i64 (F 0), .int .i64 (F 1), .int .i64 (F 2), .int .i64 (F 3), .int .i64 (F 4), .int .i64 (F 5)] 42)) w2.heap.size (some ⟨q, 0, none⟩) ps 10 (fun i => piV i (g.Q i))) := hid (HR.out.below hbX)
      have HB4 : Hid (Below w1.heap.size w1 (wr.alloc (.cells #[.int .i64 (p : Int), .int .i64 pa, .int .i64 st, .int .i64 co, .int .i64 (F 0), .int .i64 (F 1), .int .i64 (F 2), .int .i64 (F 3), .int .i64 (F 4), .int .i64 (F 5)] 42))) := hid (HB.out.trans (hbX.mono HB.out.size))
      clear hbX HO HR HB
      go_wp2_with fail
      rw [HV.out]
      generalize wr.alloc (.cells #[.int .i64 (p : Int), .int .i64 pa, .int .i64 st, .int .i64 co, .int .i64 (F 0), .int .i64 (F 1), .int .i64 (F 2), .int .i64 (F 3), .int .i64 (F 4), .int .i64 (F 5)] 42) = w4 at HO4 HR4 HB4 ⊢
      clear d0 d1 d2 d3 d4 d5 d6 d7 d8 d9 HV
      go_loopw [27] (fun v27 wx => ∃ j : Nat, j ≤ 6 ∧ v27 = .int .i64 (j : Int) ∧ Hid (Oc wx b (6 * i + j) (nNZ (FK g.Q (ps.take i) F j) 11) (FK g.Q (ps.take i) F j)) ∧ Hid (Rws wx w2.heap.size (some ⟨q, 0, none⟩) ps 10 (fun i => piV i (g.Q i))) ∧ Hid (Below w1.heap.size w1 wx)) (fun v27 _ => 6 - (intOf v27).toNat)
      case atStart => exact ⟨0, by omega, rfl, HO4, HR4, HB4⟩
      case round =>
        clear HO4 HR4 HB4
        obtain ⟨j, hj, rfl, HO5, HR5, HB5⟩ := hrel
        rename World => wx
        by_cases hjl : j < 6
        · have hix := HIX.out j hjl
          have hFj := HF.out j
          have hlk := oc_look HO5.out (k := F j) ⟨by omega, by omega⟩
          have hcl : FK g.Q (ps.take i) F j (F j) ≤ 1000 := by
            have := FK_le g.Q (ps.take i) F j (F j)
            rw [List.length_take] at this
            omega
          obtain ⟨w6, hup, hO6, hU6⟩ := oc_more HO5.out hFj.1 hFj.2 (by omega) hcl
          have HO6 : Hid (Oc w6 b (6 * i + (j + 1)) (nNZ (FK g.Q (ps.take i) F (j + 1)) 11) (FK g.Q (ps.take i) F (j + 1))) := by
            rw [FK_inc] at hO6
            exact hid hO6
          have HR6 : Hid (Rws w6 w2.heap.size (some ⟨q, 0, none⟩) ps 10 (fun i => piV i (g.Q i))) := hid (HR5.out.upd hU6 (fun x hx => by omega))
          have HB6 : Hid (Below w1.heap.size w1 w6) := hid (HB5.out.trans (hU6.below HB5.out.size (fun x hx => by have := GB.out; omega)))
          have hwr : IntKind.i64.wrap ((FK g.Q (ps.take i) F j (F j) : Int) + 1) = (FK g.Q (ps.take i) F j (F j) : Int) + 1 := by rw [IntKind.wrap_i64]; omega
          generalize (FK g.Q (ps.take i) F j (F j) : Int) = fi at hlk hup hwr
          clear hO6 hU6 hcl HO5 HR5 HB5
          go_wp2_with fail
          go_roundw
          case rel => exact ⟨j + 1, by omega, by go_num, HO6, HR6, HB6⟩
          case measure => simp [intOf]; omega
        · obtain rfl : j = 6 := by omega
          have HO6 : Hid (Oc wx b (6 * (i + 1)) (nNZ (FJ g.Q (ps.take (i + 1))) 11) (FJ g.Q (ps.take (i + 1)))) := by
            have := HO5.out
            rw [GF.out, FK_6, ← HTK.out] at this
            exact hid this
          clear HO5
          go_wp2_with fail
          go_roundw
          case rel => exact ⟨i + 1, by omega, by go_num, HO6, HR5, HB5⟩
          case measure => simp [intOf]; omega
    · obtain rfl : i = n := by omega
      obtain ⟨os, gos⟩ : ∃ os, os = opn g.T.O 11 := ⟨_, rfl⟩
      obtain ⟨no, gno⟩ : ∃ no, no = os.length := ⟨_, rfl⟩
      have hno : no ≤ 11 := by rw [gno, gos]; unfold opn; exact Nat.le_trans (List.length_filter_le ..) (by simp)
      have hPr := HP.out.grow HB.out
      have c0 := hPr.c0
      obtain ⟨Gn, hgn⟩ := hPr.tp
      have kF : Hid (Calls Tryz.prog 12 #[.pointer (some ⟨f, 0, none⟩)] wr fun e w' => (∃ a c, e = .returned (.slice a no c) ∧ Rws w' wr.heap.size a os 6 (fun i => oiV i (g.T.O i))) ∧ Below wr.heap.size wr w') := hid ((tplook wr f _ Gn hgn HG.out.ok.T).mono (by
        rintro e w' ⟨⟨v, rfl, h1⟩, h3⟩
        obtain ⟨e1, e2⟩ := opn_flat g.T.O 11
        rw [e1, e2, ← gos, ← gno] at h1
        obtain ⟨a, c, rfl, hr⟩ := Rws.of (is := os) (L := 6) (f := fun i => oiV i (g.T.O i)) (fun i => rfl) gno h1
        exact ⟨⟨a, c, rfl, hr⟩, h3⟩))
      have HOn : Hid (Oc wr b (6 * i) (nNZ (FJ g.Q ps) 11) (FJ g.Q ps)) := by
        have := HO.out
        rw [List.take_of_length_le (by rw [GN.out]; exact Nat.le_refl _)] at this
        exact hid this
      have GOS := hid gos
      have GNO := hid gno
      clear hPr hgn HO gos gno hlt
      go_wp2_with fail
      refine kF.out.mono ?_
      rintro e w5 ⟨⟨a5, c5, rfl, hR5⟩, hb5⟩
      have HR5 := hid hR5
      have HO5 := hid (HOn.out.upd (Upd.of_below (F := fun _ => False) hb5) (fun h => h))
      have HB5 := hid (HB.out.trans (hb5.mono HB.out.size))
      clear hR5 hb5 HOn HB kF c0
      have KR : Hid (∀ w0 W p2 f2 t2, Pg w0 W p2 f2 t2 (newG 0) → Calls Tryz.prog 14 #[.pointer (some ⟨t2, 0, none⟩)] W fun e w' => (∃ a c, e = .returned (.slice a 1 c) ∧ Rdv w' a 1 ([(1 : Int)].map (Value.int .i64))) ∧ Below W.heap.size W w') := hid (fun w0 W p2 f2 t2 h => (grunning_any h.tab).mono (by
        rintro e w' ⟨⟨v, rfl, h1⟩, h3⟩
        rw [new_runs] at h1
        obtain ⟨a, c, rfl, _⟩ := own_shp h1
        exact ⟨⟨a, c, rfl, Rdv.of h1⟩, h3⟩))
      go_wp2_with fail
      go_loopw [43] (fun v43 wx => ∃ j : Nat, j ≤ no ∧ v43 = .int .i64 (j : Int) ∧ Hid (Oc wx b (6 * i) (nNZ (FJ g.Q ps) 11) (FJ g.Q ps)) ∧ Hid (Rws wx wr.heap.size a5 os 6 (fun i => oiV i (g.T.O i))) ∧ Hid (Below w1.heap.size w1 wx)) (fun v43 _ => no - (intOf v43).toNat)
      case atStart => exact ⟨0, by omega, rfl, HO5, HR5, HB5⟩
      case round =>
        clear HO5 HR5 HB5
        obtain ⟨j, hj, rfl, HO, HR, HB⟩ := hrel
        rename World => wx
        by_cases hlt : j < no
        · have hjl : j < os.length := by rw [← GNO.out]; exact hlt
          obtain ⟨q, rfl, hq1, hq2, hh⟩ := HR.out (by omega)
          have hh := hh j hjl
          have hmem : os[j] ∈ opn g.T.O 11 := by rw [← GOS.out]; exact List.getElem_mem hjl
          generalize os[j] = p at hh hmem
          obtain ⟨hp11, hph⟩ := mem_opn.1 hmem
          have hp1 : 1 ≤ p := by
            rcases Nat.eq_zero_or_pos p with rfl | h
            · exact absurd (by rw [HG.out.ok.T.out 0 (.inl rfl)]; rfl) hph
            · exact h
          have hva : (g.T.O p).h = (FJ g.Q ps (p : Int) : Int) := by rw [HG.out.h p hp1 (by omega), GPS.out, FJ_cP HG.out.ok p hp1]
          have hh0 := (HG.out.ok.T.h p).1
          have d0 : wx.cell? ⟨q, j * 6, none⟩ = some (.int .i64 (p : Int)) := hh 0 (by omega) _ rfl
          have d1 := hh 1 (by omega) _ rfl
          have d2 := hh 2 (by omega) _ rfl
          have d3 := hh 3 (by omega) _ rfl
          have d4 := hh 4 (by omega) _ rfl
          have d5 := hh 5 (by omega) _ rfl
          clear hh hmem
          generalize (g.T.O p).k = zk at d1
          generalize (g.T.O p).of = zo at d2
          generalize (g.T.O p).off = zf at d3
          generalize (g.T.O p).fl = zl at d4
          generalize (g.T.O p).h = zh at d5 hva hh0 hph
          have hz1 : ¬ zh < 1 := by omega
          have hzd : decide (zh < 1) = false := decide_eq_false hz1
          have hbX := one_new wx (Obj.cells #[.int .i64 (p : Int), .int .i64 zk, .int .i64 zo, .int .i64 zf, .int .i64 zl, .int .i64 zh] 46)
          have HO4 : Hid (Oc (wx.alloc (.cells #[.int .i64 (p : Int), .int .i64 zk, .int .i64 zo, .int .i64 zf, .int .i64 zl, .int .i64 zh] 46)) b (6 * i) (nNZ (FJ g.Q ps) 11) (FJ g.Q ps)) := hid (HO.out.upd (Upd.of_below (F := fun _ => False) hbX) (fun h => h))
          have HR4 : Hid (Rws (wx.alloc (.cells #[.int .i64 (p : Int), .int .i64 zk, .int .i64 zo, .int .i64 zf, .int .i64 zl, .int .i64 zh] 46)) wr.heap.size (some ⟨q, 0, none⟩) os 6 (fun i => oiV i (g.T.O i))) := hid (HR.out.below hbX)
          have HB4 : Hid (Below w1.heap.size w1 (wx.alloc (.cells #[.int .i64 (p : Int), .int .i64 zk, .int .i64 zo, .int .i64 zf, .int .i64 zl, .int .i64 zh] 46))) := hid (HB.out.trans (hbX.mono HB.out.size))
          have hlk := oc_look HO4.out (k := (p : Int)) ⟨by omega, by omega⟩
          rw [← hva] at hlk
          clear hbX HO HR HB hva
          go_wp2_with fail
          go_roundw
          case rel => exact ⟨j + 1, by omega, by go_num, HO4, HR4, HB4⟩
          case measure => simp [intOf]; omega
        · obtain rfl : j = no := by omega
          have HN : Hid ((if FJ g.Q ps 0 = 0 then nNZ (FJ g.Q ps) 11 else nNZ (FJ g.Q ps) 11 - 1) = j) := by
            have e0 : dele (FJ g.Q ps) 0 0 = 0 := by unfold dele; rw [if_pos rfl]
            have e1 : ∀ i : Nat, 1 ≤ i → dele (FJ g.Q ps) 0 (i : Int) = cP g.Q (i : Int) := fun i hi => by
              unfold dele
              rw [if_neg (by omega), GPS.out, FJ_cP HG.out.ok i hi]
            have e2 := nNZ_open HG.out (dele (FJ g.Q ps) 0) e0 e1 11 (Nat.le_refl _)
            have e3 : nNZ (dele (FJ g.Q ps) 0) 11 + z1 (FJ g.Q ps 0) = nNZ (FJ g.Q ps) 11 := nNZ_del (FJ g.Q ps) 10
            have e4 := (opn_flat g.T.O 11).2
            rw [← GOS.out, ← GNO.out] at e4
            refine hid ?_
            by_cases z : FJ g.Q ps 0 = 0
            · rw [if_pos z]; rw [z1_0 z] at e3; omega
            · rw [if_neg z]; rw [z1_1 z] at e3; omega
          obtain ⟨w7, hdl, hO7, hU7⟩ := oc_del HO.out (k := 0) ⟨by omega, by omega⟩ 0
          rw [HN.out] at hO7
          have hml : ∀ ty, (Builtin.len_ #[31] ty #[.map (some b)]).run Tryz.prog w7 = .ok (.int .i64 (j : Nat)) w7 := fun ty => oc_len hO7 ty
          have HB7 := hid (HB.out.trans (hU7.below HB.out.size (fun x hx => by have := GB.out; omega)))
          have k5 := hid (fresh_pg_in (HP.out.grow HB7.out) 0)
          clear HO hO7 hU7 HN HR HB
          go_wp2_with fail
          refine k5.out.mono ?_
          rintro e w8 ⟨p2, f2, t2, rfl, h5, h5'⟩
          have cc := h5.c2
          have k6 := hid (KR.out _ _ _ _ _ h5)
          have HB5 := hid h5'.2
          clear h5 h5' k5 KR hdl hml
          go_wp2_with fail
          refine k6.out.mono ?_
          rintro e w9 ⟨⟨a6, d6, rfl, h6⟩, b6⟩
          have hbx := one_new w9 (Obj.cells #[.int .i64 1] 3)
          have k7 := hid (ieq_yes a6 (some ⟨w9.heap.size, 0, none⟩) 1 d6 1 (by omega) [(1 : Int)] (w9.alloc (.cells #[.int .i64 1] 3)) (h6.below hbx) Rdv.one1)
          have HB6 := hid ((HB5.out.trans (b6.mono HB5.out.size)).trans (hbx.mono (Nat.le_trans HB5.out.size b6.size)))
          clear h6 b6 hbx k6 HB5
          go_wp2_with fail
          refine k7.out.mono ?_
          rintro e w10 ⟨rfl, b7⟩
          go_wp2_with fail
          go_ret
          exact ⟨rfl, HB6.out.trans (b7.mono HB6.out.size)⟩

end Go.Proofs.YtbglhmcahnkbfaaGreat
