/- Texts of this seat, merged. -/
import Derived.Test.YtoknhcjneliboaaGreatFMg45
import Derived.Test.YtoknhcjneliboaaGreatFMg48
import Derived.BigQuiet

/- The road of FilesHeld. -/
namespace Go.Proofs.YtoknhcjneliboaaGreat
open Go.RowKit Go.ChangeMaps Go.MapKept
open Tm (incF Rg Mp mp_lookup mp_entry)
set_option linter.unusedVariables false
set_option maxRecDepth 20000

theorem kp0 {T : Ft} (h : T.F.d = 0) : T.kp = false := by
  unfold Ft.kp
  rw [h]
  decide

set_option maxHeartbeats 16000000 in
theorem fheld_road (al : Option Addr) (ll cl : Nat) (w : World) (hd : DosS w al ll) (hll : ll ≤ cl) (hcl : cl ≤ 9223372036854775807) :
    Calls Tryz.prog 4 #[.slice al ll cl] w fun e w' => e = .returned (.bool true) ∧ Below w.heap.size w w' := by
  have k1 := hid (tpnew w 0)
  have k2 := hid (fun W => tdnew W 0)
  have HD := hid hd
  clear hd
  go_enter Tryz.func4, Tryz.ntmps4
  go_wp2_with fail
  refine k1.out.mono ?_
  rintro e w1 ⟨t, rfl, hp1, hb1⟩
  have HP1 := hid hp1
  have HB1 := hid hb1
  clear hp1 hb1 k1
  go_wp2_with fail
  refine (k2.out w1).mono ?_
  rintro e w2 ⟨x, rfl, hr2, hb2⟩
  have HL := hid (Lvf.made HP1.out HB1.out hr2 hb2)
  clear hr2 hb2 k2 HP1 HB1
  go_wp2_with fail
  generalize w2.alloc (Obj.cells #[.pointer (some ⟨t, 0, none⟩), .pointer (some ⟨x, 0, none⟩)] 29) = w3 at HL ⊢
  generalize w2.heap.size = pp at HL ⊢
  go_loopw [19] (fun v19 wr => ∃ i : Nat, i ≤ ll ∧ v19 = .int .i64 (i : Int) ∧ Hid (Lvf w wr pp t x 0 (min i 60))) (fun v19 _ => ll - (intOf v19).toNat)
  case atStart => exact ⟨0, by omega, rfl, HL⟩
  case round =>
    clear HL
    obtain ⟨i, hil, rfl, HQ⟩ := hrel
    by_cases h : i < ll
    · obtain ⟨b, o, rfl, hbl, hat⟩ := HD.out (by omega)
      obtain ⟨x0, x1, x2, x3, t4, t5, ab, lb, cb, zs, D0, h4, h5, hz, hc⟩ := hat i h
      have D := D0.below HQ.out.2
      have c0 := D.c0
      have c1 := D.c1
      have c2 := D.c2
      have c3 := D.c3
      have c4 := D.c4
      have c5 := D.c5
      have c6 := D.c6
      obtain ⟨W1, g1⟩ : ∃ W1, W1 = wr.alloc (Obj.cells #[.int .i64 x0, .int .i64 x1, .int .i64 x2, .int .i64 x3, .string t4, .string t5, .slice ab lb cb] 32) := ⟨_, rfl⟩
      have b1 : Below wr.heap.size wr W1 := by rw [g1]; exact (Below.refl _ _).alloc (Nat.le_refl _) _
      have r1 : W1.heap[wr.heap.size]? = some (.cells #[.int .i64 x0, .int .i64 x1, .int .i64 x2, .int .i64 x3, .string t4, .string t5, .slice ab lb cb] 32 (0, 0)) := by rw [g1]; exact heap_alloc_new _ _
      by_cases h60 : i < 60
      · have i60 : (i : Int) < 60 := by omega
        have e0 : min i 60 = i := by omega
        have e1 : min (i + 1) 60 = i + 1 := by omega
        have kD := hid (HQ.out.step (by omega) D0 h4 h5 hz W1 b1)
        rw [e0] at kD
        have d0 : W1.cell? ⟨wr.heap.size, 0, none⟩ = some (.int .i64 x0) := by rw [cell_of_row W1 _ 0 _ _ _ r1]; rfl
        have d1 : W1.cell? ⟨wr.heap.size, 1, none⟩ = some (.int .i64 x1) := by rw [cell_of_row W1 _ 1 _ _ _ r1]; rfl
        have d2 : W1.cell? ⟨wr.heap.size, 2, none⟩ = some (.int .i64 x2) := by rw [cell_of_row W1 _ 2 _ _ _ r1]; rfl
        have d3 : W1.cell? ⟨wr.heap.size, 3, none⟩ = some (.int .i64 x3) := by rw [cell_of_row W1 _ 3 _ _ _ r1]; rfl
        have d4 : W1.cell? ⟨wr.heap.size, 4, none⟩ = some (.string t4) := by rw [cell_of_row W1 _ 4 _ _ _ r1]; rfl
        have d5 : W1.cell? ⟨wr.heap.size, 5, none⟩ = some (.string t5) := by rw [cell_of_row W1 _ 5 _ _ _ r1]; rfl
        have d6 : W1.cell? ⟨wr.heap.size, 6, none⟩ = some (.slice ab lb cb) := by rw [cell_of_row W1 _ 6 _ _ _ r1]; rfl
        have GA := hid g1
        have E1 := hid e1
        clear g1 D D0 hat h4 h5 hz hc b1 r1 HQ e0 e1
        go_wp2_with fail
        rw [← GA.out]
        go_wp2_with fail
        refine kD.out.mono ?_
        rintro e w4 ⟨rfl, h4⟩
        have H4 := hid h4
        clear h4 kD
        go_wp2_with fail
        go_roundw
        case rel => exact ⟨i + 1, by omega, by go_num, by rw [E1.out]; exact H4⟩
        case measure => simp [intOf]; omega
      · have i60 : ¬ (i : Int) < 60 := by omega
        have H4 : Hid (Lvf w W1 pp t x 0 (min (i + 1) 60)) := hid (by
          rw [show min (i + 1) 60 = min i 60 by omega]
          exact HQ.out.grow b1)
        have GA := hid g1
        clear g1 D D0 hat h4 h5 hz hc b1 r1 HQ
        go_wp2_with fail
        rw [← GA.out]
        go_roundw
        case rel => exact ⟨i + 1, by omega, by go_num, H4⟩
        case measure => simp [intOf]; omega
    · obtain rfl : i = ll := by omega
      obtain ⟨⟨G, D8, T, q1, q2, q3, q4⟩, q5⟩ := HQ.out
      have hkp := kp0 q4
      have HC := hid (fun W (hW : Below wr.heap.size wr W) => (q1.grow hW).c0)
      have HT := hid q2
      have HBw := hid q5
      obtain ⟨os, gos⟩ : ∃ os, os = opn T.O 11 := ⟨_, rfl⟩
      obtain ⟨ps, gps⟩ : ∃ ps, ps = pth T.P 5 := ⟨_, rfl⟩
      obtain ⟨on, gon⟩ : ∃ on, on = os.length := ⟨_, rfl⟩
      obtain ⟨pn, gpn⟩ : ∃ pn, pn = ps.length := ⟨_, rfl⟩
      have hon : on ≤ 10 := by rw [gon, gos]; exact q2.opn_len
      have hpn : pn ≤ 5 := by rw [gpn, gps, ← (pth_flat T.P 5).2]; exact Pi.countP_le _ _
      obtain ⟨n, gn⟩ : ∃ n, n = (thr T.F 17).length := ⟨_, rfl⟩
      have hn17 : n ≤ 17 := by rw [gn]; exact thr_len T.F 17
      have hn0 : 0 < n := by
        rw [gn]
        refine List.length_pos_of_mem (a := 1) ?_
        unfold thr
        rw [List.mem_filter, List.mem_range]
        exact ⟨by omega, by simp [q2.F.root]⟩
      have KO : Hid (∀ W, Below wr.heap.size wr W → Calls Tryz.prog 9 #[.pointer (some ⟨t, 0, none⟩)] W fun e w' => ∃ a c, e = .returned (.slice a on c) ∧ Hid (Rws w' W.heap.size a os 6 (fun i => oiV i (T.O i))) ∧ Hid (Below W.heap.size W w')) := by
        refine hid (fun W hb => (tplook W t T G (q1.grow hb).tp HT.out).mono ?_)
        rintro e w' ⟨⟨v, rfl, h1⟩, h3⟩
        rw [(opn_flat T.O 11).1, (opn_flat T.O 11).2, ← gos, ← gon] at h1
        obtain ⟨a, c, rfl, h2⟩ := Rws.of (L := 6) (f := fun i => oiV i (T.O i)) (fun i => rfl) gon h1
        exact ⟨a, c, rfl, hid h2, hid h3⟩
      have KP : Hid (∀ W, Below wr.heap.size wr W → Calls Tryz.prog 11 #[.pointer (some ⟨t, 0, none⟩)] W fun e w' => ∃ a c, e = .returned (.slice a pn c) ∧ Hid (Rws w' W.heap.size a ps 4 (fun i => Pi.infoCells i (T.P i))) ∧ Hid (Below W.heap.size W w')) := by
        refine hid (fun W hb => (tppipes W t T G (q1.grow hb).tp).mono ?_)
        rintro e w' ⟨v, rfl, h1, h3⟩
        rw [(pth_flat T.P 5).1, (pth_flat T.P 5).2, ← gps, ← gpn] at h1
        obtain ⟨a, c, rfl, h2⟩ := Rws.of (L := 4) (f := fun i => Pi.infoCells i (T.P i)) (fun i => rfl) gpn h1
        exact ⟨a, c, rfl, hid h2, hid h3⟩
      have KN : Hid (∀ W, Below wr.heap.size wr W → Calls Tryz.prog 10 #[.pointer (some ⟨t, 0, none⟩)] W fun e w' => ∃ a c, e = .returned (.slice a n c) ∧ Hid (Nds w' a T.F (thr T.F 17)) ∧ Hid (Below W.heap.size W w')) := by
        refine hid (fun W hb => (tpnodes W t T G (q1.grow hb).tp HT.out.F).mono ?_)
        rintro e w' ⟨⟨v, cs, rfl, h1, h2⟩, h3⟩
        rw [← gn] at h1
        obtain ⟨a, c, rfl, _⟩ := own_shp h1
        exact ⟨a, c, rfl, hid (nds_of gn h1 h2), hid h3⟩
      have HK : Hid (∀ i ∈ os, ((T.O i).k = 1 ∨ (T.O i).k = 2 ∨ (T.O i).k = 3) ∧ ∃ m : Nat, (T.O i).of = (m : Int) ∧ m < 17) := by
        rw [gos]
        exact hid (fun i hi => q2.key (mem_opn.1 hi).2)
      have HHD : Hid (∀ i : Nat, (T.F.P i).h = (cntK T.O os 1 (i : Int) : Int)) := by
        rw [gos]
        exact hid (fun i => by rw [cntK_opn]; exact q2.hc i)
      have HRD : Hid (∀ i : Nat, (T.P i).r = cntK T.O os 2 (i : Int) ∧ (T.P i).w = cntK T.O os 3 (i : Int)) := by
        rw [gos]
        exact hid (fun i => by rw [cntK_opn, cntK_opn]; exact ⟨q2.r i, q2.ws hkp i⟩)
      have GON := hid gon
      have GPN := hid gpn
      have GN := hid gn
      have HPM : Hid (∀ i ∈ ps, i < 5) := by
        rw [gps]
        exact hid (fun i hi => List.mem_range.1 (List.mem_filter.1 hi).1)
      clear HQ q1 q2 q3 q4 q5 gos gps gon gpn gn hkp h hil hll hcl HD
      have hmm := @run_makeMap Tryz.prog
      obtain ⟨W1, gW1⟩ : ∃ W1, W1 = wr.alloc (.map #[] 0) := ⟨_, rfl⟩
      have b1 : Below wr.heap.size wr W1 := by rw [gW1]; exact (Below.refl _ _).alloc (Nat.le_refl _) _
      have s1 : W1.heap.size = wr.heap.size + 1 := by rw [gW1]; simp
      have m1 : Mp W1 wr.heap.size (fun _ _ => 0) := by rw [gW1]; exact Tm.Mp.none (heap_alloc_new _ _)
      have pc1 := HC.out W1 b1
      have KO1 := hid (KO.out W1 b1)
      have GW1 := hid gW1
      have M1 := hid m1
      have B1 := hid b1
      obtain ⟨m, gm⟩ : ∃ m, m = wr.heap.size := ⟨_, rfl⟩
      rw [gW1] at pc1
      clear gW1 m1 b1
      go_wp2_with fail
      clear hmm
      rw [← GW1.out]
      rw [← gm] at M1 s1 ⊢
      refine KO1.out.mono ?_
      rintro e w5 ⟨a5, c5, rfl, HR5, HB5⟩
      clear KO1 pc1
      have HB5' : Hid (Below wr.heap.size wr w5) := hid (B1.out.trans (HB5.out.mono B1.out.size))
      have M5 : Hid (Mp w5 m (cntK T.O (os.take 0))) := by
        rw [List.take_zero, cntK_nil]
        exact hid (M1.out.upd (Upd.of_below (F := fun _ => False) HB5.out) (fun h => h))
      have HR5' : Hid (Rws w5 (m + 1) a5 os 6 (fun i => oiV i (T.O i))) := by rw [← s1]; exact HR5
      have GM := hid gm
      clear HB5 M1 B1 HR5 GW1 s1 gm
      go_wp2_with fail
      go_loopw [37] (fun v37 wx => ∃ j : Nat, j ≤ on ∧ v37 = .int .i64 (j : Int) ∧ Hid (Mp wx m (cntK T.O (os.take j))) ∧ Hid (Rws wx (m + 1) a5 os 6 (fun i => oiV i (T.O i))) ∧ Hid (Below wr.heap.size wr wx)) (fun v37 _ => on - (intOf v37).toNat)
      case atStart => exact ⟨0, by omega, rfl, M5, HR5', HB5'⟩
      case round =>
        clear M5 HR5' HB5'
        obtain ⟨j, hj, rfl, HM, HR, HB⟩ := hrel
        rename World => wx
        by_cases hjl : j < on
        · have hjo : j < os.length := by rw [← GON.out]; exact hjl
          obtain ⟨q, rfl, hBq, hq, hh⟩ := HR.out (by omega)
          have hmem : os[j] ∈ os := List.getElem_mem hjo
          have HST : Hid (os.take (j + 1) = os.take j ++ [os[j]]) := hid (take_more _ _ hjo)
          have hh := hh j hjo
          generalize os[j] = i at hh hmem HST
          obtain ⟨hk, mo, hmo, hm17⟩ := HK.out i hmem
          have hrg := rg_of hk hmo hm17
          have c0 := hh 0 (by omega) _ rfl
          have c1 := hh 1 (by omega) _ rfl
          have c2 := hh 2 (by omega) _ rfl
          have c3 := hh 3 (by omega) _ rfl
          have c4 := hh 4 (by omega) _ rfl
          have c5 := hh 5 (by omega) _ rfl
          rw [Nat.add_zero] at c0
          have HSN : Hid (cntK T.O (os.take (j + 1)) = incF (cntK T.O (os.take j)) (T.O i).k (T.O i).of) := by rw [HST.out, cntK_snoc]; exact hid rfl
          have hcl : cntK T.O (os.take j) (T.O i).k (T.O i).of ≤ 1000 := by
            have := cntK_le T.O (os.take j) (T.O i).k (T.O i).of
            rw [List.length_take] at this
            omega
          clear hh hmem HST hk hmo hm17
          generalize (T.O i).k = fk at c1 hrg HSN hcl
          generalize (T.O i).of = fo at c2 hrg HSN hcl
          generalize (T.O i).off = ff at c3
          generalize (T.O i).fl = fg at c4
          generalize (T.O i).h = fh at c5
          obtain ⟨w6, g6⟩ : ∃ w6, w6 = wx.alloc (.cells #[.int .i64 (i : Int), .int .i64 fk, .int .i64 fo, .int .i64 ff, .int .i64 fg, .int .i64 fh] 40) := ⟨_, rfl⟩
          have b6 : Below wx.heap.size wx w6 := by rw [g6]; exact one_new _ _
          have r6 : w6.heap[wx.heap.size]? = some (.cells #[.int .i64 (i : Int), .int .i64 fk, .int .i64 fo, .int .i64 ff, .int .i64 fg, .int .i64 fh] 40 (0, 0)) := by rw [g6]; exact heap_alloc_new _ _
          have z6 : wx.heap.size < w6.heap.size := by rw [g6]; simp
          have hM0 : Mp w6.drew m (cntK T.O (os.take j)) := HM.out.upd ((Upd.of_below (F := fun _ => False) b6).drewN 1) (fun h => h)
          have hmx : m < wx.heap.size := HM.out.lt
          have d1 : w6.cell? ⟨wx.heap.size, 1, none⟩ = some (.int .i64 fk) := by rw [cell_of_row w6 _ 1 _ _ _ r6]; rfl
          have d2 : w6.cell? ⟨wx.heap.size, 2, none⟩ = some (.int .i64 fo) := by rw [cell_of_row w6 _ 2 _ _ _ r6]; rfl
          have hlk : (Instr.lookup 36 (.map (some m)) (.agg #[.int .i64 fk, .int .i64 fo]) false).run Tryz.prog w6.drew = .ok (.int .i64 (cntK T.O (os.take j) fk fo)) w6.drew := mp_lookup hM0 fk fo hrg
          obtain ⟨v0, st, w7, hme, hM1, hU1, w8, hes, hM2, hU2⟩ := mp_entry hM0 fk fo hrg
          have hlk1 : (Instr.lookup 36 (.map (some m)) (.agg #[.int .i64 fk, .int .i64 fo]) false).run Tryz.prog w7 = .ok (.int .i64 (cntK T.O (os.take j) fk fo)) w7 := mp_lookup hM1 fk fo hrg
          have hme' : (Instr.mapEntry 36 (.map (some m)) (.agg #[.int .i64 fk, .int .i64 fo])).run Tryz.prog w6.drew = .ok (.tuple #[v0, st]) w7 := hme
          have hwr : IntKind.i64.wrap ((cntK T.O (os.take j) fk fo : Int) + 1) = (cntK T.O (os.take j) fk fo : Int) + 1 := by rw [IntKind.wrap_i64]; omega
          have a1 : w7.cell? ⟨wx.heap.size, 1, none⟩ = some (.int .i64 fk) := (World.cell?_of_block (a := ⟨wx.heap.size, 1, none⟩) (hU1.block wx.heap.size z6 (by omega))).trans d1
          have a2 : w7.cell? ⟨wx.heap.size, 2, none⟩ = some (.int .i64 fo) := (World.cell?_of_block (a := ⟨wx.heap.size, 2, none⟩) (hU1.block wx.heap.size z6 (by omega))).trans d2
          have z7 : wx.heap.size < w7.heap.size := Nat.lt_of_lt_of_le z6 hU1.size
          have b1 : w8.cell? ⟨wx.heap.size, 1, none⟩ = some (.int .i64 fk) := (World.cell?_of_block (a := ⟨wx.heap.size, 1, none⟩) (hU2.block wx.heap.size z7 (by omega))).trans a1
          have b2 : w8.cell? ⟨wx.heap.size, 2, none⟩ = some (.int .i64 fo) := (World.cell?_of_block (a := ⟨wx.heap.size, 2, none⟩) (hU2.block wx.heap.size z7 (by omega))).trans a2
          have u8 : Upd (· = m) wx w8 := ((Upd.of_below (F := (· = m)) b6).trans (⟨hU1.os, hU1.tape, hU1.output, hU1.size, hU1.block⟩ : Upd (· = m) w6 w7) (fun _ _ h => h)).trans hU2 (fun _ _ h => h)
          have HM8 : Hid (Mp w8 m (cntK T.O (os.take (j + 1)))) := by rw [HSN.out]; exact hid hM2
          have HR8 := hid (HR.out.upd u8 (fun b hb e => by omega))
          have HB8 : Hid (Below wr.heap.size wr w8) := hid (HB.out.trans (u8.below HB.out.size (fun b hb => by have := GM.out; omega)))
          obtain ⟨fi, gfi⟩ : ∃ fi : Int, fi = (cntK T.O (os.take j) fk fo : Int) := ⟨_, rfl⟩
          rw [← gfi] at hlk hlk1 hes hwr
          have GA := hid g6
          clear hM0 hM1 hM2 hU1 hU2 hme gfi u8 HM HR HB HSN hcl b6 r6 z6 z7 g6 hrg hBq
          go_wp2_with fail
          rw [← GA.out]
          go_wp2_with fail
          go_region_held3 (fun W => W.cell? ⟨wx.heap.size, 1, none⟩ = some (.int .i64 fk) ∧ W.cell? ⟨wx.heap.size, 2, none⟩ = some (.int .i64 fo)) (go_keep) (fail)
          all_goals
            go_wp2_with fail
            go_roundw
            case rel => exact ⟨j + 1, by omega, by go_num, HM8, HR8, HB8⟩
            case measure => simp [intOf]; omega
        · obtain rfl : j = on := by omega
          have HMn : Hid (Mp wx m (cntK T.O os)) := by
            have := HM.out
            rw [List.take_of_length_le (by rw [GON.out]; exact Nat.le_refl _)] at this
            exact hid this
          clear HM HR hjl hj
          have pc1 := HC.out wx HB.out
          have KN1 := hid (KN.out wx HB.out)
          go_wp2_with fail
          refine KN1.out.mono ?_
          rintro e w9 ⟨a9, c9, rfl, HN9, HB9⟩
          have HM9 : Hid (Mp w9 m (cntK T.O os)) := hid (HMn.out.upd (Upd.of_below (F := fun _ => False) HB9.out) (fun h => h))
          have HB9' : Hid (Below wr.heap.size wr w9) := hid (HB.out.trans (HB9.out.mono HB.out.size))
          clear HMn HB KN1 pc1 HB9
          go_wp2_with fail
          go_loopw [58] (fun v58 wy => ∃ s : Nat, s ≤ n ∧ v58 = .int .i64 (s : Int) ∧ Hid (Mp wy m (cntK T.O os)) ∧ Hid (Nds wy a9 T.F (thr T.F 17)) ∧ Hid (Below wr.heap.size wr wy)) (fun v58 _ => n - (intOf v58).toNat)
          case atStart => exact ⟨0, by omega, rfl, HM9, HN9, HB9'⟩
          case round =>
            clear HM9 HN9 HB9'
            obtain ⟨s, hs, rfl, HM, HN, HB⟩ := hrel
            rename World => wy
            by_cases hsl : s < n
            · have htl : s < (thr T.F 17).length := by rw [← GN.out]; exact hsl
              obtain ⟨q, o, rfl, hq, hh⟩ := HN.out (by omega)
              obtain ⟨ba, bc, na, nc, ma, mc, D⟩ := hh s htl
              have hmem : (thr T.F 17)[s] ∈ thr T.F 17 := List.getElem_mem htl
              generalize (thr T.F 17)[s] = i at D hmem
              have hi17 : i < 17 := by
                unfold thr at hmem
                exact List.mem_range.1 (List.mem_filter.1 hmem).1
              have hyh := HHD.out i
              generalize T.F.P i = y at D hyh
              have c0 := D.c0
              have c1 := D.c1
              have c2 := D.c2
              have c3 := D.c3
              have c4 := D.c4
              have c5 := D.c5
              have c6 := D.c6
              have c7 := D.c7
              clear hmem D hh htl
              generalize y.Q.length = lq at c6 c7 c3
              generalize (y.c.length : Int) + (lq : Int) = sz at c3
              generalize y.k = yk at c1
              generalize y.l = yl at c2
              generalize y.h = yh at c4 hyh
              generalize y.B.length = lb at c5
              obtain ⟨w6, g6⟩ : ∃ w6, w6 = wy.alloc (.cells #[.int .i64 (i : Int), .int .i64 yk, .int .i64 yl, .int .i64 sz, .int .i64 yh, .slice ba lb bc, .slice na lq nc, .slice ma lq mc] 47) := ⟨_, rfl⟩
              have b6 : Below wy.heap.size wy w6 := by rw [g6]; exact one_new _ _
              have r6 : w6.heap[wy.heap.size]? = some (.cells #[.int .i64 (i : Int), .int .i64 yk, .int .i64 yl, .int .i64 sz, .int .i64 yh, .slice ba lb bc, .slice na lq nc, .slice ma lq mc] 47 (0, 0)) := by rw [g6]; exact heap_alloc_new _ _
              have hM0 : Mp w6.drew m (cntK T.O os) := HM.out.upd ((Upd.of_below (F := fun _ => False) b6).drewN 1) (fun h => h)
              have d0 : w6.cell? ⟨wy.heap.size, 0, none⟩ = some (.int .i64 (i : Int)) := by rw [cell_of_row w6 _ 0 _ _ _ r6]; rfl
              have d4 : w6.cell? ⟨wy.heap.size, 4, none⟩ = some (.int .i64 yh) := by rw [cell_of_row w6 _ 4 _ _ _ r6]; rfl
              have hlk : (Instr.lookup 36 (.map (some m)) (.agg #[.int .i64 1, .int .i64 (i : Int)]) false).run Tryz.prog w6.drew = .ok (.int .i64 yh) w6.drew := by
                rw [hyh]
                exact mp_lookup hM0 1 (i : Int) (rg_of (.inl rfl) rfl hi17)
              have HM6 : Hid (Mp w6.drew m (cntK T.O os)) := hid hM0
              have HN6 : Hid (Nds w6.drew (some ⟨q, o, none⟩) T.F (thr T.F 17)) := hid (HN.out.below b6.drew)
              have HB6 : Hid (Below wr.heap.size wr w6.drew) := hid (HB.out.trans (b6.drew.mono HB.out.size))
              have GA := hid g6
              clear hM0 hyh HM HN HB b6 r6 g6
              go_wp2_with fail
              rw [← GA.out]
              go_wp2_with fail
              go_region
              go_wp2_with fail
              go_roundw
              case rel => exact ⟨s + 1, by omega, by go_num, HM6, HN6, HB6⟩
              case measure => simp [intOf]; omega
            · obtain rfl : s = n := by omega
              clear HN hsl hs
              have pc1 := HC.out wy HB.out
              have KP1 := hid (KP.out wy HB.out)
              go_wp2_with fail
              refine KP1.out.mono ?_
              rintro e wa ⟨aa, ca, rfl, HRa, HBa⟩
              have HMa : Hid (Mp wa m (cntK T.O os)) := hid (HM.out.upd (Upd.of_below (F := fun _ => False) HBa.out) (fun h => h))
              have HBa' : Hid (Below wr.heap.size wr wa) := hid (HB.out.trans (HBa.out.mono HB.out.size))
              generalize wy.heap.size = By at HRa
              clear HM HB KP1 pc1 HBa
              go_wp2_with fail
              go_loopw [77] (fun v77 wz => ∃ s : Nat, s ≤ pn ∧ v77 = .int .i64 (s : Int) ∧ Hid (Mp wz m (cntK T.O os)) ∧ Hid (Rws wz By aa ps 4 (fun i => Pi.infoCells i (T.P i))) ∧ Hid (Below wr.heap.size wr wz)) (fun v77 _ => pn - (intOf v77).toNat)
              case atStart => exact ⟨0, by omega, rfl, HMa, HRa, HBa'⟩
              case round =>
                clear HMa HRa HBa'
                obtain ⟨s2, hs2, rfl, HM, HR, HB⟩ := hrel
                rename World => wz
                by_cases hsl : s2 < pn
                · have hjo : s2 < ps.length := by rw [← GPN.out]; exact hsl
                  obtain ⟨q, rfl, hBq, hq, hh⟩ := HR.out (by omega)
                  have hmem : ps[s2] ∈ ps := List.getElem_mem hjo
                  have hh := hh s2 hjo
                  generalize ps[s2] = i at hh hmem
                  have hi5 := HPM.out i hmem
                  obtain ⟨hr, hw⟩ := HRD.out i
                  have c0 := hh 0 (by omega) _ rfl
                  have c1 := hh 1 (by omega) _ rfl
                  have c2 := hh 2 (by omega) _ rfl
                  have c3 := hh 3 (by omega) _ rfl
                  rw [Nat.add_zero] at c0
                  rw [hr] at c1
                  rw [hw] at c2
                  clear hh hmem hr hw
                  generalize (T.P i).q.length = lq at c3
                  obtain ⟨w6, g6⟩ : ∃ w6, w6 = wz.alloc (.cells #[.int .i64 (i : Int), .int .i64 (cntK T.O os 2 (i : Int) : Int), .int .i64 (cntK T.O os 3 (i : Int) : Int), .int .i64 (lq : Int)] 51) := ⟨_, rfl⟩
                  have b6 : Below wz.heap.size wz w6 := by rw [g6]; exact one_new _ _
                  have r6 : w6.heap[wz.heap.size]? = some (.cells #[.int .i64 (i : Int), .int .i64 (cntK T.O os 2 (i : Int) : Int), .int .i64 (cntK T.O os 3 (i : Int) : Int), .int .i64 (lq : Int)] 51 (0, 0)) := by rw [g6]; exact heap_alloc_new _ _
                  have hM0 : Mp w6.drew m (cntK T.O os) := HM.out.upd ((Upd.of_below (F := fun _ => False) b6).drewN 1) (fun h => h)
                  have d0 : w6.cell? ⟨wz.heap.size, 0, none⟩ = some (.int .i64 (i : Int)) := by rw [cell_of_row w6 _ 0 _ _ _ r6]; rfl
                  have d1 : w6.cell? ⟨wz.heap.size, 1, none⟩ = some (.int .i64 (cntK T.O os 2 (i : Int) : Int)) := by rw [cell_of_row w6 _ 1 _ _ _ r6]; rfl
                  have d2 : w6.cell? ⟨wz.heap.size, 2, none⟩ = some (.int .i64 (cntK T.O os 3 (i : Int) : Int)) := by rw [cell_of_row w6 _ 2 _ _ _ r6]; rfl
                  have hlk2 : (Instr.lookup 36 (.map (some m)) (.agg #[.int .i64 2, .int .i64 (i : Int)]) false).run Tryz.prog w6.drew = .ok (.int .i64 (cntK T.O os 2 (i : Int))) w6.drew := mp_lookup hM0 2 (i : Int) (rg_of (.inr (.inl rfl)) rfl (m := i) (by omega))
                  have hlk3 : (Instr.lookup 36 (.map (some m)) (.agg #[.int .i64 3, .int .i64 (i : Int)]) false).run Tryz.prog w6.drew = .ok (.int .i64 (cntK T.O os 3 (i : Int))) w6.drew := mp_lookup hM0 3 (i : Int) (rg_of (.inr (.inr rfl)) rfl (m := i) (by omega))
                  have hM1 : Mp w6 m (cntK T.O os) := HM.out.upd (Upd.of_below (F := fun _ => False) b6) (fun h => h)
                  have hlk4 : (Instr.lookup 36 (.map (some m)) (.agg #[.int .i64 2, .int .i64 (i : Int)]) false).run Tryz.prog w6 = .ok (.int .i64 (cntK T.O os 2 (i : Int))) w6 := mp_lookup hM1 2 (i : Int) (rg_of (.inr (.inl rfl)) rfl (m := i) (by omega))
                  have hlk5 : (Instr.lookup 36 (.map (some m)) (.agg #[.int .i64 3, .int .i64 (i : Int)]) false).run Tryz.prog w6 = .ok (.int .i64 (cntK T.O os 3 (i : Int))) w6 := mp_lookup hM1 3 (i : Int) (rg_of (.inr (.inr rfl)) rfl (m := i) (by omega))
                  have HM6 : Hid (Mp w6.drew m (cntK T.O os)) := hid hM0
                  have HR6 := hid (HR.out.below b6.drew)
                  have HB6 : Hid (Below wr.heap.size wr w6.drew) := hid (HB.out.trans (b6.drew.mono HB.out.size))
                  obtain ⟨f2, gf2⟩ : ∃ f2 : Int, f2 = (cntK T.O os 2 (i : Int) : Int) := ⟨_, rfl⟩
                  obtain ⟨f3, gf3⟩ : ∃ f3 : Int, f3 = (cntK T.O os 3 (i : Int) : Int) := ⟨_, rfl⟩
                  rw [← gf2] at c1 d1 hlk2 hlk4 g6
                  rw [← gf3] at c2 d2 hlk3 hlk5 g6
                  have GA := hid g6
                  clear hM0 hM1 HM HR HB b6 r6 g6 gf2 gf3
                  go_wp2_with fail
                  rw [← GA.out]
                  go_wp2_with fail
                  go_region_held3 (fun W => W.cell? ⟨wz.heap.size, 0, none⟩ = some (.int .i64 (i : Int)) ∧ W.cell? ⟨wz.heap.size, 1, none⟩ = some (.int .i64 f2) ∧ W.cell? ⟨wz.heap.size, 2, none⟩ = some (.int .i64 f3)) (go_keep) (fail)
                  all_goals
                    go_wp2_with fail
                    go_roundw
                    case rel => exact ⟨s2 + 1, by omega, by go_num, HM6, HR6, HB6⟩
                    case measure => simp [intOf]; omega
                · obtain rfl : s2 = pn := by omega
                  clear HM HR hsl hs2
                  have pc1 := HC.out wz HB.out
                  have KO2 := hid (KO.out wz HB.out)
                  go_wp2_with fail
                  refine KO2.out.mono ?_
                  rintro e wb ⟨ab, cb, rfl, HRb, HBb⟩
                  have HBb' : Hid (Below wr.heap.size wr wb) := hid (HB.out.trans (HBb.out.mono HB.out.size))
                  have pc2 := HC.out wb HBb'.out
                  have KN2 := hid (KN.out wb HBb'.out)
                  have hon' : (j : Int) ≤ 10 := by omega
                  have hn0' : (0 : Int) < (s : Int) := by omega
                  clear KO2 HB HRb HBb pc1
                  go_wp2_with fail
                  refine KN2.out.mono ?_
                  rintro e wc ⟨ac, cc, rfl, HNc, HBc⟩
                  have HBe : Hid (Below w.heap.size w wc) := hid (HBw.out.trans ((HBb'.out.trans (HBc.out.mono HBb'.out.size)).mono HBw.out.size))
                  clear KN2 HNc HBc HBb'
                  go_wp2_with fail
                  go_ret
                  exact ⟨rfl, HBe.out⟩

end Go.Proofs.YtoknhcjneliboaaGreat
