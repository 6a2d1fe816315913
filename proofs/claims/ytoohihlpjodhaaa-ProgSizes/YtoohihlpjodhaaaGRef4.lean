/- What is wrong with an argument, as the document asks it. -/
import Derived.Test.YtoohihlpjodhaaaGRef3
import Derived.Test.YtoohihlpjodhaaaGRef4a
import Derived.Deep.RegionWith
namespace Go.Proofs.Ytoohihlpjodhaaa
open Go.RowKit
set_option linter.unusedVariables false
set_option maxRecDepth 20000

set_option maxHeartbeats 16000000 in
theorem rarg_any (a : Option Addr) (m c : Nat) (l : List Ty) (hm : l.length = m) (hmb : m ≤ 9223372036854775807) (hG : Good l) (pc : Nat) :
    ∀ (d n : Nat) (A : Ar) (w : World), Tys w a l → n < l.length → Okd d w A → pc < w.heap.size → w.cell? ⟨pc, 0, none⟩ = some (.slice a m c) → w.cell? ⟨pc, 4, none⟩ = some (.bool true) →
      Calls Try.prog 35 #[.pointer (some ⟨pc, 0, none⟩), .int .i64 n, .agg #[.int .i64 A.h.k, .int .i64 A.h.v, .slice A.h.ka A.h.kn A.h.kc, .slice A.h.ba A.h.bn A.h.bc]] w fun e w' => e = .returned (.int .i64 (chk l d n A)) ∧ Below w.heap.size w w' := by
  intro d
  induction d with
  | zero => intro n A w _ _ hA; exact hA.elim
  | succ d ih =>
    intro n A w hT hnl hA hpc p0 p4
    have hnm : n < m := by omega
    obtain ⟨g1, g2, g3⟩ := hG n hnl
    have hT0 : l[n].Ok w := by
      obtain ⟨_, _, _, _, htc⟩ := hT (by omega)
      exact (htc n hnl).2
    obtain ⟨tb, to', rfl, htl, htc⟩ := hT (by omega)
    obtain ⟨c0, c1, c2', c3, c4, c5, c6, c7, c8, c9⟩ := (htc n hnl).1
    have HP0 := hid p0
    have HP4 := hid p4
    obtain ⟨R, gR⟩ : ∃ R, R = chk l (d + 1) n A := ⟨_, rfl⟩
    rw [← gR]
    rw [chk_at l d n hnl A] at gR
    have HKid := hid (kid_ok hG n hnl A.h hT0.el)
    have HT := hid hT
    have IH := hid ih
    have HN := hid hm
    clear htc hT ih hm
    obtain ⟨ho1, ho2, ho3⟩ := hA
    have HA1 := hid ho1
    have HA2 := hid ho2
    have HA3 := hid ho3
    have hkm := ho1.km
    have hkb := ho1.kb
    clear ho1 ho2 ho3
    have k1 := hid (fun wx => rkind_any l[n] A.h wx)
    have k2 := hid (fun wx (hb : Below w.heap.size w wx) => rbare_any A.h wx (HA1.out.below hb))
    have k3 := hid (fun wx (hb : Below w.heap.size w wx) => rkids_any l[n] A.h wx (hT0.below hb) (HA1.out.below hb) g2 g3)
    have k4 := hid (fun wx (hb : Below w.heap.size w wx) => rvalue_any l[n] A.h wx (hT0.below hb) (HA1.out.below hb))
    have HKT := hid (kind_two l[n] A.h)
    have HM2 := hid (mis_two l[n] A.h)
    have HMis : Hid (mis l[n] A.h = if kindB l[n] A.h = false then 152 else if countB l[n] A.h.kn = false then 151 else if A.h.k ≠ 2 ∧ valueB l[n] A.h = false then 153 else 0) := hid rfl
    have hTel := hT0.em
    have hTeb := hT0.eb
    clear hT0 g1 g2 g3
    generalize l[n] = T at *
    have HR := hid gR
    clear gR
    have hAne : ∀ o1 o2, ((w.alloc o1).alloc o2).cell? ⟨pc, 4, none⟩ = some (.bool true) := fun o1 o2 => ((below_box2 w o1 o2).cell (p := ⟨pc, 4, none⟩) hpc).trans p4
    go_enter Try.func35, Try.ntmps35
    go_wp2_with fail
    obtain ⟨X, gX⟩ : ∃ X, X = (w.alloc (.cells #[.int .i64 A.h.k, .int .i64 A.h.v, .slice A.h.ka A.h.kn A.h.kc, .slice A.h.ba A.h.bn A.h.bc] 30)).alloc (.cells #[.int .i64 T.k, .int .i64 T.s, .int .i64 T.lo, .int .i64 T.hi, .int .i64 T.d, .string T.o, .slice T.va T.vn T.vc, .slice T.ta T.tn T.tc, .slice T.ea T.en T.ec, .slice T.na T.nn T.nc] 52) := ⟨_, rfl⟩
    rw [← gX]
    have HX : Hid (Below w.heap.size w X) := hid (by rw [gX]; exact below_box2 _ _ _)
    have hXs : X.heap.size = w.heap.size + 1 + 1 := by rw [gX]; simp
    have xa : X.heap[w.heap.size]? = some (.cells #[.int .i64 A.h.k, .int .i64 A.h.v, .slice A.h.ka A.h.kn A.h.kc, .slice A.h.ba A.h.bn A.h.bc] 30 (0, 0)) := by
      rw [gX, (below_box _ _).block _ (by simp)]; exact heap_alloc_new _ _
    have xt : X.heap[w.heap.size + 1]? = some (.cells #[.int .i64 T.k, .int .i64 T.s, .int .i64 T.lo, .int .i64 T.hi, .int .i64 T.d, .string T.o, .slice T.va T.vn T.vc, .slice T.ta T.tn T.tc, .slice T.ea T.en T.ec, .slice T.na T.nn T.nc] 52 (0, 0)) := by
      rw [gX]
      have := heap_alloc_new (w.alloc (.cells #[.int .i64 A.h.k, .int .i64 A.h.v, .slice A.h.ka A.h.kn A.h.kc, .slice A.h.ba A.h.bn A.h.bc] 30)) (.cells #[.int .i64 T.k, .int .i64 T.s, .int .i64 T.lo, .int .i64 T.hi, .int .i64 T.d, .string T.o, .slice T.va T.vn T.vc, .slice T.ta T.tn T.tc, .slice T.ea T.en T.ec, .slice T.na T.nn T.nc] 52)
      simpa using this
    have hX1 : w.heap.size < X.heap.size := by omega
    have hX2 : w.heap.size + 1 < X.heap.size := by omega
    have HXs := hid hXs
    clear hXs
    have xp : X.cell? ⟨pc, 4, none⟩ = some (.bool true) := (HX.out.cell (p := ⟨pc, 4, none⟩) hpc).trans p4
    have HXA := hid xa
    have HXT := hid xt
    have a0 : X.cell? ⟨w.heap.size, 0, none⟩ = some (.int .i64 A.h.k) := cell_of_row _ _ 0 _ _ _ xa
    have a1 : X.cell? ⟨w.heap.size, 1, none⟩ = some (.int .i64 A.h.v) := cell_of_row _ _ 1 _ _ _ xa
    have a2 : X.cell? ⟨w.heap.size, 2, none⟩ = some (.slice A.h.ka A.h.kn A.h.kc) := cell_of_row _ _ 2 _ _ _ xa
    have a3 : X.cell? ⟨w.heap.size, 3, none⟩ = some (.slice A.h.ba A.h.bn A.h.bc) := cell_of_row _ _ 3 _ _ _ xa
    have t0 : X.cell? ⟨w.heap.size + 1, 0, none⟩ = some (.int .i64 T.k) := cell_of_row _ _ 0 _ _ _ xt
    have t1 : X.cell? ⟨w.heap.size + 1, 1, none⟩ = some (.int .i64 T.s) := cell_of_row _ _ 1 _ _ _ xt
    have t2 : X.cell? ⟨w.heap.size + 1, 2, none⟩ = some (.int .i64 T.lo) := cell_of_row _ _ 2 _ _ _ xt
    have t3 : X.cell? ⟨w.heap.size + 1, 3, none⟩ = some (.int .i64 T.hi) := cell_of_row _ _ 3 _ _ _ xt
    have t4 : X.cell? ⟨w.heap.size + 1, 4, none⟩ = some (.int .i64 T.d) := cell_of_row _ _ 4 _ _ _ xt
    have t5 : X.cell? ⟨w.heap.size + 1, 5, none⟩ = some (.string T.o) := cell_of_row _ _ 5 _ _ _ xt
    have t6 : X.cell? ⟨w.heap.size + 1, 6, none⟩ = some (.slice T.va T.vn T.vc) := cell_of_row _ _ 6 _ _ _ xt
    have t7 : X.cell? ⟨w.heap.size + 1, 7, none⟩ = some (.slice T.ta T.tn T.tc) := cell_of_row _ _ 7 _ _ _ xt
    have t8 : X.cell? ⟨w.heap.size + 1, 8, none⟩ = some (.slice T.ea T.en T.ec) := cell_of_row _ _ 8 _ _ _ xt
    have t9 : X.cell? ⟨w.heap.size + 1, 9, none⟩ = some (.slice T.na T.nn T.nc) := cell_of_row _ _ 9 _ _ _ xt
    clear gX xa xt hAne c0 c1 c2' c3 c4 c5 c6 c7 c8 c9 p0 p4
    by_cases hkk : A.h.k = rkindI T A.h
    · have heq : (A.h.k != rkindI T A.h) = false := by simpa using hkk
      have HKT2 : Hid (kindB T A.h = rbareB A.h) := hid (by
        have h1 := HKT.out
        rw [decide_eq_true hkk] at h1
        simpa using h1)
      generalize hRK : rkindI T A.h = RK at *
      clear hRK hkk HKT
      go_region_held3 (fun wx => wx.cell? ⟨w.heap.size, 0, none⟩ = some (.int .i64 A.h.k) ∧ wx.cell? ⟨w.heap.size, 1, none⟩ = some (.int .i64 A.h.v) ∧ wx.cell? ⟨w.heap.size, 2, none⟩ = some (.slice A.h.ka A.h.kn A.h.kc) ∧ wx.cell? ⟨w.heap.size, 3, none⟩ = some (.slice A.h.ba A.h.bn A.h.bc) ∧ wx.cell? ⟨w.heap.size + 1, 0, none⟩ = some (.int .i64 T.k) ∧ wx.cell? ⟨w.heap.size + 1, 1, none⟩ = some (.int .i64 T.s) ∧ wx.cell? ⟨w.heap.size + 1, 2, none⟩ = some (.int .i64 T.lo) ∧ wx.cell? ⟨w.heap.size + 1, 3, none⟩ = some (.int .i64 T.hi) ∧ wx.cell? ⟨w.heap.size + 1, 4, none⟩ = some (.int .i64 T.d) ∧ wx.cell? ⟨w.heap.size + 1, 5, none⟩ = some (.string T.o) ∧ wx.cell? ⟨w.heap.size + 1, 6, none⟩ = some (.slice T.va T.vn T.vc) ∧ wx.cell? ⟨w.heap.size + 1, 7, none⟩ = some (.slice T.ta T.tn T.tc) ∧ wx.cell? ⟨w.heap.size + 1, 8, none⟩ = some (.slice T.ea T.en T.ec) ∧ wx.cell? ⟨w.heap.size + 1, 9, none⟩ = some (.slice T.na T.nn T.nc)) (go_keep) (first
        | (go_at_call 65; refine (k1.out _).mono ?_; rintro e w1 ⟨rfl, hb1⟩; have y1 : ∀ b o, b < X.heap.size → w1.cell? ⟨b, o, none⟩ = X.cell? ⟨b, o, none⟩ := cell_like hb1 (by rfl); have HB1 := hid ((below_hp HX.out (by rfl) (by rfl) (by rfl) (by rfl)).trans (hb1.mono HX.out.size)); have hs1 : X.heap.size ≤ w1.heap.size := hb1.size; have HXX1 : Hid (Below X.heap.size X w1) := hid ((below_hp (Below.refl _ X) (by rfl) (by rfl) (by rfl) (by rfl)).trans hb1); clear hb1)
        | (go_at_call 66; refine (k2.out _ (below_hp HB1.out (by rfl) (by rfl) (by rfl) (by rfl))).mono ?_; rintro e w2 ⟨rfl, hb2⟩; have y2 : ∀ b o, b < X.heap.size → w2.cell? ⟨b, o, none⟩ = X.cell? ⟨b, o, none⟩ := fun b o h => (cell_like (X := w1) hb2 (by rfl) b o (Nat.lt_of_lt_of_le h hs1)).trans (y1 b o h); have HXX2 : Hid (Below X.heap.size X w2) := hid (HXX1.out.trans ((((below_hp (Below.refl _ w1) (by rfl) (by rfl) (by rfl) (by rfl)).trans hb2) : Below w1.heap.size w1 w2).mono HXX1.out.size)); clear hb2))
      have HB2 := hid (HX.out.trans (HXX2.out.mono HX.out.size))
      have hs2 : X.heap.size ≤ w2.heap.size := HXX2.out.size
      generalize hBB : rbareB A.h = BB at *
      clear hBB
      cases BB
      · have HR2 : Hid (R = 152) := hid (by
          have h2 := HMis.out
          rw [HKT2.out] at h2
          have h3 : mis T A.h = 152 := by rw [h2]; rfl
          rw [HR.out, h3]
          rfl)
        go_wp2_with fail
        go_ret
        exact ⟨ret_int (by rw [HR2.out]), HB2.out⟩
      · have hMv := HM2.out HKT2.out
        have HM3 : Hid (mis T A.h = if countB T A.h.kn = false then 151 else rvalI T A.h) := hid (by
          have h2 := HMis.out
          rw [HKT2.out, if_neg (by simp), hMv] at h2
          exact h2)
        clear hMv HM2 HMis HKT2 k1 k2 y1
        have z0 := (y2 _ 0 hX1).trans a0
        have z1 := (y2 _ 1 hX1).trans a1
        have z2 := (y2 _ 2 hX1).trans a2
        have z3 := (y2 _ 3 hX1).trans a3
        have s0 := (y2 _ 0 hX2).trans t0
        have s1 := (y2 _ 1 hX2).trans t1
        have s2 := (y2 _ 2 hX2).trans t2
        have s3 := (y2 _ 3 hX2).trans t3
        have s4 := (y2 _ 4 hX2).trans t4
        have s5 := (y2 _ 5 hX2).trans t5
        have s6 := (y2 _ 6 hX2).trans t6
        have s7 := (y2 _ 7 hX2).trans t7
        have s8 := (y2 _ 8 hX2).trans t8
        have s9 := (y2 _ 9 hX2).trans t9
        clear y2
        go_wp2_with fail
        refine (k3.out _ HB2.out).mono ?_
        rintro e w3 ⟨ta, tn, tc, rfl, hI3, hb3⟩
        have HI3 := hid hI3
        have HXX3 : Hid (Below X.heap.size X w3) := hid (HXX2.out.trans (hb3.mono HXX2.out.size))
        have HB3 := hid (HX.out.trans (HXX3.out.mono HX.out.size))
        have y3 : ∀ b o, b < X.heap.size → w3.cell? ⟨b, o, none⟩ = X.cell? ⟨b, o, none⟩ := fun b o h => HXX3.out.cell (p := ⟨b, o, none⟩) h
        clear hI3 hb3 z0 z1 z2 z3 s0 s1 s2 s3 s4 s5 s6 s7 s8 s9 k3
        generalize hCB : countB T A.h.kn = CB at *
        clear hCB
        cases CB
        · have HR2 : Hid (R = 151) := hid (by
            have h3 : mis T A.h = 151 := by rw [HM3.out]; rfl
            rw [HR.out, h3]
            rfl)
          go_wp2_with fail
          go_ret
          exact ⟨ret_int (by rw [HR2.out]), HB3.out⟩
        · have z0 := (y3 _ 0 hX1).trans a0
          have z1 := (y3 _ 1 hX1).trans a1
          have z2 := (y3 _ 2 hX1).trans a2
          have z3 := (y3 _ 3 hX1).trans a3
          have s0 := (y3 _ 0 hX2).trans t0
          have s1 := (y3 _ 1 hX2).trans t1
          have s2 := (y3 _ 2 hX2).trans t2
          have s3 := (y3 _ 3 hX2).trans t3
          have s4 := (y3 _ 4 hX2).trans t4
          have s5 := (y3 _ 5 hX2).trans t5
          have s6 := (y3 _ 6 hX2).trans t6
          have s7 := (y3 _ 7 hX2).trans t7
          have s8 := (y3 _ 8 hX2).trans t8
          have s9 := (y3 _ 9 hX2).trans t9
          clear y3
          replace HM3 : Hid (mis T A.h = rvalI T A.h) := hid (by rw [HM3.out]; rfl)
          go_wp2_with fail
          refine (k4.out _ HB3.out).mono ?_
          rintro e w4 ⟨rfl, hb4⟩
          have HXX4 : Hid (Below X.heap.size X w4) := hid (HXX3.out.trans (hb4.mono HXX3.out.size))
          have HB34 := hid hb4
          have HB4 := hid (HX.out.trans (HXX4.out.mono HX.out.size))
          have y4 : ∀ b o, b < X.heap.size → w4.cell? ⟨b, o, none⟩ = X.cell? ⟨b, o, none⟩ := fun b o h => HXX4.out.cell (p := ⟨b, o, none⟩) h
          clear hb4 z0 z1 z2 z3 s0 s1 s2 s3 s4 s5 s6 s7 s8 s9 k4
          generalize hRV : rvalI T A.h = RV at *
          clear hRV
          by_cases hr0 : RV = 0
          · subst hr0
            have hmis := HM3.out
            obtain ⟨hkl, hka⟩ := HKid.out hmis
            obtain ⟨hI, hIl, hIb⟩ := HI3.out hmis
            have HR2 : Hid (R = chkL (chk l d) (kidTy T A.h) A.ks) := hid (by rw [HR.out, if_pos hmis])
            have HI4 := hid (hI.below HB34.out)
            have HKL := hid hkl
            have HKA := hid hka
            have HIL := hid hIl
            clear hkl hka hI hIl hmis HR HM3 HKid HI3
            generalize kidTy T A.h = KT at *
            have z0 := (y4 _ 0 hX1).trans a0
            have z2 := (y4 _ 2 hX1).trans a2
            have zp := (y4 pc 4 (by omega)).trans xp
            clear y4 a0 a1 a2 a3 t0 t1 t2 t3 t4 t5 t6 t7 t8 t9
            have key : (A.h.k == 2) = true ∨ (A.h.k == 2) = false := by cases (A.h.k == 2) <;> simp
            generalize A.h = hh at *
            generalize A.ks = ks at *
            obtain ⟨ak, av, ka, kn, kc, ba, bn, bc, bs⟩ := hh
            dsimp only at *
            rcases key with hk3 | hk3
            all_goals
              go_wp2_with fail
              go_loopw [69] (fun k wr => ∃ j : Nat, j ≤ kn ∧ k = .int .i64 j ∧ Hid (∀ i (hi : i < j) (h : i < ks.length), chk l d (KT.getD i 0) ks[i] = 0) ∧ Hid (Below w4.heap.size w4 wr)) (fun k _ => kn - (intOf k).toNat)
              case atStart => exact ⟨0, Nat.zero_le _, rfl, hid (fun i hi => absurd hi (Nat.not_lt_zero _)), hid (Below.refl _ _)⟩
              case round =>
                obtain ⟨j, hj, rfl, HZ, HBr⟩ := hrel
                by_cases hlt : j < kn
                · have hjl : j < ks.length := by rw [HA2.out]; exact hlt
                  have hjt : j < KT.length := by rw [HKL.out]; exact hlt
                  obtain ⟨b, o, rfl, hbl, hcs⟩ := HA3.out (by omega)
                  have HBw : Hid (Below w.heap.size w wr) := hid (HB4.out.trans (HBr.out.mono HB4.out.size))
                  obtain ⟨q0, q1, q2, q3⟩ := (hcs j hjl).1.blk (HBw.out.block b hbl)
                  have hOk := (hcs j hjl).2
                  have hta := ahead_at HKA.out j hjt
                  obtain ⟨tb2, to2, rfl, htbl, htcs⟩ := HI4.out.below HBr.out (by omega)
                  have hct := htcs j hjt
                  have HStop := hid (fun (hz : ∀ i (hi : i < j), chk l d (KT.getD i 0) (ks[i]'(by omega)) = 0) => chkL_stop (f := chk l d) KT ks j hjt hjl hz)
                  have HNext : Hid (chk l d (KT.getD j 0) ks[j] = 0 → ∀ i (hi : i < j + 1) (h : i < ks.length), chk l d (KT.getD i 0) ks[i] = 0) := hid (fun h0 i hi h => by
                    rcases Nat.lt_or_ge i j with h' | h'
                    · exact HZ.out i h' h
                    · obtain rfl : i = j := by omega
                      exact h0)
                  obtain ⟨t, ht⟩ : ∃ t : Nat, KT.getD j 0 = (t : Int) := ⟨(KT.getD j 0).toNat, by omega⟩
                  rw [ht] at hct HStop HNext hta
                  clear ht htcs hcs
                  have htl2 : t < l.length := by omega
                  generalize ks[j] = B at *
                  have hwr := HBw.out.size
                  have hpw : pc < wr.heap.size := by omega
                  have hbw : b < wr.heap.size := by omega
                  have kr := hid (fun wx (hx : Below wr.heap.size wr wx) => IH.out t B wx (HT.out.below (HBw.out.trans (hx.mono HBw.out.size))) htl2 (Okd.below (HBw.out.trans (hx.mono HBw.out.size)) d B hOk) (Nat.lt_of_lt_of_le hpw hx.size) (((HBw.out.trans (hx.mono HBw.out.size)).cell (p := ⟨pc, 0, none⟩) hpc).trans HP0.out) (((HBw.out.trans (hx.mono HBw.out.size)).cell (p := ⟨pc, 4, none⟩) hpc).trans HP4.out))
                  generalize hE : chk l d (t : Int) B = E at *
                  clear hE hOk hta
                  generalize B.h = bh at *
                  go_wp2_with fail
                  obtain ⟨Y, gY⟩ : ∃ Y, Y = wr.alloc (.cells #[.int .i64 bh.k, .int .i64 bh.v, .slice bh.ka bh.kn bh.kc, .slice bh.ba bh.bn bh.bc] 30) := ⟨_, rfl⟩
                  rw [← gY]
                  have HYB : Hid (Below wr.heap.size wr Y) := hid (by rw [gY]; exact below_box _ _)
                  have hYs : wr.heap.size < Y.heap.size := by rw [gY]; simp
                  have hy : Y.heap[wr.heap.size]? = some (.cells #[.int .i64 bh.k, .int .i64 bh.v, .slice bh.ka bh.kn bh.kc, .slice bh.ba bh.bn bh.bc] 30 (0, 0)) := by rw [gY]; exact heap_alloc_new _ _
                  have e0 : Y.cell? ⟨wr.heap.size, 0, none⟩ = some (.int .i64 bh.k) := cell_of_row _ _ 0 _ _ _ hy
                  have e1 : Y.cell? ⟨wr.heap.size, 1, none⟩ = some (.int .i64 bh.v) := cell_of_row _ _ 1 _ _ _ hy
                  have e2 : Y.cell? ⟨wr.heap.size, 2, none⟩ = some (.slice bh.ka bh.kn bh.kc) := cell_of_row _ _ 2 _ _ _ hy
                  have e3 : Y.cell? ⟨wr.heap.size, 3, none⟩ = some (.slice bh.ba bh.bn bh.bc) := cell_of_row _ _ 3 _ _ _ hy
                  have e4 : Y.cell? ⟨tb2, to2 + j, none⟩ = some (.int .i64 (t : Int)) := (HYB.out.cell (p := ⟨tb2, to2 + j, none⟩) htbl).trans hct
                  have htY : tb2 < Y.heap.size := by omega
                  have hjtn : j < tn := by have := HIL.out; have := HKL.out; omega
                  clear gY hy q0 q1 q2 q3 hct
                  go_region_held3 (fun wx => wx.cell? ⟨tb2, to2 + j, none⟩ = some (.int .i64 (t : Int)) ∧ wx.cell? ⟨wr.heap.size, 0, none⟩ = some (.int .i64 bh.k) ∧ wx.cell? ⟨wr.heap.size, 1, none⟩ = some (.int .i64 bh.v) ∧ wx.cell? ⟨wr.heap.size, 2, none⟩ = some (.slice bh.ka bh.kn bh.kc) ∧ wx.cell? ⟨wr.heap.size, 3, none⟩ = some (.slice bh.ba bh.bn bh.bc)) (go_keep) ((go_at_call 35; refine (kr.out _ (below_hp HYB.out (by rfl) (by rfl) (by rfl) (by rfl))).mono ?_; rintro e w5 ⟨rfl, hb5⟩; have y5 : ∀ b o, b < Y.heap.size → w5.cell? ⟨b, o, none⟩ = Y.cell? ⟨b, o, none⟩ := cell_like hb5 (by rfl); have HB5 : Hid (Below wr.heap.size wr w5) := hid ((below_hp HYB.out (by rfl) (by rfl) (by rfl) (by rfl)).trans (hb5.mono HYB.out.size)); clear hb5))
                  have HB45 := hid (HBr.out.trans (HB5.out.mono HBr.out.size))
                  by_cases hE0 : E = 0
                  · subst hE0
                    go_wp2_with fail
                    go_roundw
                    case rel => exact ⟨j + 1, by omega, by go_num, hid (HNext.out rfl), HB45⟩
                    case measure => simp [intOf]; omega
                  · have hE1 : (E != 0) = true := by simpa using hE0
                    go_wp2_with fail
                    go_ret
                    refine ⟨ret_int ?_, HB4.out.trans (HB45.out.mono HB4.out.size)⟩
                    rw [HR2.out, HStop.out (fun i hi => HZ.out i hi (by omega)) hE0]
                · obtain rfl : j = kn := by omega
                  go_wp2_with fail
                  go_ret
                  refine ⟨ret_int ?_, HB4.out.trans (HBr.out.mono HB4.out.size)⟩
                  rw [HR2.out, chkL_zero KT ks (by rw [HKL.out, HA2.out]) (fun i hi => HZ.out i (by rw [← HA2.out]; exact hi) hi)]
          · have hr1 : (RV != 0) = true := by simpa using hr0
            have HR2 : Hid (R = RV) := hid (by rw [HR.out, HM3.out, if_neg hr0])
            clear y4
            go_wp2_with fail
            go_ret
            exact ⟨ret_int (by rw [HR2.out]), HB4.out⟩
    · have HR2 : Hid (R = 152) := hid (by
        have h1 := HKT.out
        rw [decide_eq_false hkk] at h1
        have h2 := HMis.out
        rw [h1] at h2
        have h3 : mis T A.h = 152 := by rw [h2]; rfl
        rw [HR.out, h3]
        rfl)
      have hne : (A.h.k != rkindI T A.h) = true := by simpa using hkk
      generalize rkindI T A.h = RK at *
      go_region_with ((go_at_call 65; refine (k1.out _).mono ?_; rintro e w1 ⟨rfl, hb1⟩; have y1 : ∀ b o, b < X.heap.size → w1.cell? ⟨b, o, none⟩ = X.cell? ⟨b, o, none⟩ := cell_like hb1 (by rfl); have HB1 := hid ((below_hp HX.out (by rfl) (by rfl) (by rfl) (by rfl)).trans (hb1.mono HX.out.size)); clear hb1))
      all_goals
        go_wp2_with fail
        go_ret
        exact ⟨ret_int (by rw [HR2.out]), HB1.out⟩

end Go.Proofs.Ytoohihlpjodhaaa
