/- Texts of this seat, merged. -/
import Derived.Test.YtbglhmcahnkbfaaGreatGMg36
import Derived.Test.YtbglhmcahnkbfaaGreatGMg28
import Derived.Test.YtbglhmcahnkbfaaGreatGMg21
import Derived.Test.YtbglhmcahnkbfaaGreatGMg18
import Derived.Deep.DeepCutAuto
import Derived.Test.YtbglhmcahnkbfaaGreatGMg19

/- What a node's look tells, of any node. (Written by gen_np23.py.) -/
namespace Go.Proofs.YtbglhmcahnkbfaaGreat
open Go.RowKit Go.ChangeMaps Go.MapKept
set_option linter.unusedVariables false
set_option maxRecDepth 20000

set_option maxHeartbeats 1000000 in
theorem iclone_any (a : Addr) (len cap : Nat) (cs : List Value) (w : World) (hl : cs.length = len * 1) (h1 : ∀ u ∈ cs, u.oneCell' = true) (hc : ∀ j u, cs[j]? = some u → ∃ b o, a = ⟨b, o, none⟩ ∧ b < w.heap.size ∧ w.cell? ⟨b, o + j, none⟩ = some u) (hr : len ≤ 17592186044416) :
    Calls Tryz.prog 126 #[.slice (some a) len cap] w fun e w' => ∃ g c, e = .returned (.slice (some ⟨g, 0, none⟩) len c) ∧ w'.ownsRow w.heap.size 3 1 (.slice (some ⟨g, 0, none⟩) len c) len cs ∧ Below w.heap.size w w' := by
  obtain ⟨i0, hi, hz0, hz1, hz2⟩ := info_parts infoI3
  have hb0 : Below w.heap.size w (w.alloc (.cells #[] 3)) := (Below.refl _ _).alloc (Nat.le_refl _) _
  have HL : Hid (cs.length = len * 1) := hid hl
  have H1 := hid h1
  have HN : Hid (∀ j u, cs[j]? = some u → (w.alloc (.cells #[] 3)).cell? (a.add j) = some u) := by
    intro j u hj
    obtain ⟨b, o, rfl, hlt, hcc⟩ := hc j u hj
    rw [Addr.add_lit, hb0.cell (p := ⟨b, o + j, none⟩) hlt, hcc]
  have HO : Hid ((w.alloc (.cells #[] 3)).ownsRow w.heap.size 3 1 (.slice (some ⟨w.heap.size, 0, none⟩) 0 0) 0 []) := World.ownsRow_made w #[] 0 (Nat.le_refl _) (by unfold maxLen; omega) rfl
  have HB := hid hb0
  clear hb0 hl h1 hc
  have hq := Lib.run_eql_slice_nil (P := Tryz.prog) w 48 3 (some a) len cap 0 0 Tryz.underlying48
  simp only [Option.isNone_some] at hq
  go_enter Tryz.func126, Tryz.ntmps126
  go_wp2_with (at_builtin; go_must (refine wpList_append_own _ rfl (.tmp 5) (.tmp 6) 48 rfl w.heap.size 3 i0 _ 1 8 Tryz.underlying48 hi hz0 hz1 hz2 rfl (by decide) (.slice (some ⟨w.heap.size, 0, none⟩) 0 0) 0 [] rfl HO.out a len cap cs rfl HL.out HN.out H1.out (by unfold maxLen; omega) (by omega) (by simp) ?_))
  intro v' w1 hown hgrow hnil
  have hb1 := HB.out.grown hgrow (by simp) (by intro q hq; simp [Value.ownBlock] at hq; omega)
  obtain ⟨g, c, rfl⟩ : ∃ g c, v' = .slice (some ⟨g, 0, none⟩) len c := by
    rcases hown.2 with ⟨h, _⟩ | ⟨g, c, _, h, _⟩
    · exact absurd h (by simpa using hnil)
    · exact ⟨g, c, h⟩
  have H2 := hid hown
  clear hown hgrow hnil
  go_wp2_with fail
  go_ret
  exact ⟨g, c, rfl, H2.out, hb1⟩


/-- What a node's look tells. -/
def LookP (w : World) (i : Nat) (y : Fn) (e : Ending) (w' : World) : Prop := (∃ c : List Value, e = .returned (.agg c.toArray) ∧ LkN w' (fun b => w.heap.size ≤ b) i y c) ∧ Below w.heap.size w w'

theorem keys_at (m : Option Nat) (w : World) : Calls Tryz.prog 129 #[.map m] w fun e w' => e = .returned (.func (.func 146) #[] #[.pointer (some ⟨w.heap.size, 0, none⟩)]) ∧ w' = w.alloc (.cells #[.map m] 142) :=
  callsIn_wide.1 (Tryz.maps_Keys_129 m w)

set_option maxHeartbeats 8000000 in
theorem plook (p i : Nat) (S : Sg) (F : Fs) (w : World) (HS : Sy w p S) (R : Rel S F) (hF : FOk F) (hi : i < 17) (hk : (F.P i).k ≠ 0) :
    Calls Tryz.prog 105 #[.pointer (some ⟨p, 1 + i * 107, none⟩), .int .i64 (i : Int)] w (LookP w i (F.P i)) := by
  obtain ⟨i3, hi3, ht0, ht1, ht2⟩ := info_parts infoI3
  have hkc := hF.k i
  have hB := hF.B i
  have hc96 := (hF.c i).1
  have hq6 := hF.len i
  have hdir := hF.dir i
  have hfile := hF.file i
  have hsrt := hF.srt i
  have hnm := hF.nm i
  have RP := R.P i hi
  have RN := R.N i hi
  have RL := R.L i hi
  obtain ⟨y, gy⟩ : ∃ y, y = F.P i := ⟨_, rfl⟩
  rw [← gy] at hkc hB hc96 hq6 hdir hfile hsrt hnm RP RN RL hk ⊢
  have HSW : Hid (∀ W, Below w.heap.size w W → Sy W p S) := hid (fun W hb => HS.grow hb)
  have hp : p < w.heap.size := HS.lt
  have HFT := hid HS.foot_lt
  obtain ⟨k, gk⟩ : ∃ k, k = y.k := ⟨_, rfl⟩
  obtain ⟨l, gl⟩ : ∃ l, l = y.l := ⟨_, rfl⟩
  obtain ⟨hh, ghh⟩ : ∃ hh, hh = y.h := ⟨_, rfl⟩
  obtain ⟨L1, gL1⟩ : ∃ L1, L1 = y.c.length := ⟨_, rfl⟩
  obtain ⟨L3, gL3⟩ : ∃ L3, L3 = y.Q.length := ⟨_, rfl⟩
  have HCL : Hid (∀ W, Below w.heap.size w W → W.cell? ⟨p, 1 + i * 107, none⟩ = some (.int .i64 k) ∧ W.cell? ⟨p, 1 + i * 107 + 1, none⟩ = some (.int .i64 l) ∧ W.cell? ⟨p, 1 + i * 107 + 2, none⟩ = some (.int .i64 hh)) := hid (fun W hb => by
    have h := HSW.out W hb
    have h0 := h.k i hi
    have h1 := h.l i hi
    have h2 := h.h i hi
    rw [RP.k, ← gk] at h0
    rw [RP.l, ← gl] at h1
    rw [RP.h, ← ghh] at h2
    exact ⟨h0, h1, h2⟩)
  have KL : Hid (∀ W, Below w.heap.size w W → Calls Tryz.prog 110 #[.pointer (some ⟨p, 1 + i * 107, none⟩)] W fun e w' => e = .returned (.int .i64 ((L1 : Int) + (L3 : Int))) ∧ w' = W) := hid (fun W hb => by
    have h := HSW.out W hb
    refine (length_any p (1 + i * 107) k (S.P i).s (S.P i).m (S.L i) (S.N i) W (HCL.out W hb).1 (h.s i hi) (h.m i hi) (h.nms i hi)).mono ?_
    rintro e w' ⟨rfl, rfl⟩
    refine ⟨?_, rfl⟩
    congr 2
    rw [RL, RP.s]
    by_cases e2 : k = 2
    · rw [if_pos e2, gL1, gL3, (hdir (by rw [← gk]; exact e2)).1]; simp
    · rw [if_neg e2, gL1, gL3, hfile (by rw [← gk]; exact e2)]; simp)
  obtain ⟨PP, gPP⟩ : ∃ PP, PP = LookP w i y := ⟨_, rfl⟩
  have GPP := hid gPP
  rw [← gPP]
  have GG := hid (And.intro gk (And.intro gl (And.intro ghh (And.intro gL1 gL3))))
  have HD := hid (And.intro hkc (And.intro hB (And.intro hc96 (And.intro hq6 (And.intro hdir (And.intro hfile (And.intro hsrt hnm)))))))
  have HRP := hid RP
  have HRN := hid RN
  have HRL := hid RL
  have HK := hid hk
  obtain ⟨c0, c1, c2⟩ := HCL.out w (Below.refl _ _)
  clear hkc hB hc96 hq6 hdir hfile hsrt hnm RP RN RL R hF HS gPP gk gl ghh gL1 gL3 gy hk
  go_enter Tryz.func105, Tryz.ntmps105
  go_upto_region 1 with fail
  go_cut [5] (fun v5 wx => v5 = .pointer (some ⟨w.heap.size + 1, 0, none⟩) ∧ Hid (wx.heap[w.heap.size]? = some (.cells (List.toArray [.int .i64 0, .int .i64 0, .int .i64 0, .int .i64 0, .int .i64 0, .slice none 0 0, .slice none 0 0, .slice none 0 0]) 113 (0, 0)) ∧ wx.heap[w.heap.size + 1]? = some (.cells (List.toArray [.int .i64 (i : Int), .int .i64 k, .int .i64 l, .int .i64 ((L1 : Int) + (L3 : Int)), .int .i64 hh, .slice none 0 0, .slice none 0 0, .slice none 0 0]) 113 (0, 0)) ∧ Below w.heap.size w wx ∧ wx.heap.size = w.heap.size + 2))
  case first =>
    go_region_held3 (fun wx => wx.cell? ⟨p, 1 + i * 107, none⟩ = some (.int .i64 k) ∧ wx.cell? ⟨p, 1 + i * 107 + 1, none⟩ = some (.int .i64 l) ∧ wx.cell? ⟨p, 1 + i * 107 + 2, none⟩ = some (.int .i64 hh)) (first | exact HCL.out _ ((alloc1 _ _).drew) | exact HCL.out _ (((alloc1 _ _).trans ((alloc1 _ _).mono (by simp))).drew) | go_keep) ((go_at_call 110; refine (KL.out _ (by first | exact (alloc1 _ _).drew | exact ((alloc1 _ _).trans ((alloc1 _ _).mono (by simp))).drew)).mono ?_; rintro e w2 ⟨rfl, rfl⟩))
    all_goals
      go_wp2_with fail
      go_meet
      case rel =>
        refine ⟨rfl, hid ⟨?_, ?_, ?_, by simp⟩⟩
        · exact (Below.heap_alloc _ _ _ (by simp)).trans (heap_alloc_new w _)
        · have := heap_alloc_new (w.alloc (Obj.cells #[.int .i64 0, .int .i64 0, .int .i64 0, .int .i64 0, .int .i64 0, .slice none 0 0, .slice none 0 0, .slice none 0 0] 113)) (Obj.cells #[.int .i64 (i : Int), .int .i64 k, .int .i64 l, .int .i64 ((L1 : Int) + (L3 : Int)), .int .i64 hh, .slice none 0 0, .slice none 0 0, .slice none 0 0] 113)
          rw [show (w.alloc (Obj.cells #[.int .i64 0, .int .i64 0, .int .i64 0, .int .i64 0, .int .i64 0, .slice none 0 0, .slice none 0 0, .slice none 0 0] 113)).heap.size = w.heap.size + 1 by simp] at this
          exact this
        · exact ((alloc1 _ _).trans ((alloc1 _ _).mono (by simp))).drew
  case rest =>
    obtain ⟨rfl, HW⟩ := hcut
    obtain ⟨W1, gW1⟩ : ∃ W1, W1 = wc := ⟨_, rfl⟩
    rw [← gW1] at HW ⊢
    clear gW1 c0 c1 c2
    have HB1 := hid HW.out.2.2.1
    obtain ⟨c0, c1, c2⟩ := HCL.out W1 HB1.out
    have k1 := hid (isdir_any p (1 + i * 107) k W1 c0)
    obtain ⟨q5, gq5⟩ : ∃ q5, q5 = w.heap.size + 1 := ⟨_, rfl⟩
    obtain ⟨q4, gq4⟩ : ∃ q4, q4 = w.heap.size := ⟨_, rfl⟩
    have GQ := hid (And.intro gq5 gq4)
    rw [← gq5, ← gq4]
    clear c1 c2 gq4 gq5
    by_cases hk2 : k = 2
    · rw [show decide (k = 2) = true by simp [hk2]] at k1
      have hS1 := HSW.out W1 HB1.out
      have hkS : (S.P i).k = 2 := by rw [HRP.out.k, ← GG.out.1]; exact hk2
      obtain ⟨mb, em⟩ := Option.isSome_iff_exists.1 (hS1.dir i hi hkS)
      have cm := hS1.m i hi
      have hnms := hS1.nms i hi
      rw [em] at cm hnms
      have hmb : mb < w.heap.size := HFT.out mb (.inr ⟨i, hi, em⟩)
      have hmp : ¬ mb = p := fun e => hS1.np i hi (by rw [em, e])
      have hnmsw : Hid (∀ s : ByteArray, s.size ≤ 9223372036854775807 → ∀ W : World, W.heap[mb]? = w.heap[mb]? → (Instr.lookup 142 (.map (some mb)) (.string s) false).run Tryz.prog W = .ok (.int .i64 (lk y.Q (bl s) : Int)) W) := hid (fun s hs W hW => by
        have h := hnms.look s hs W (fun b hb => by injection hb with hb; subst hb; rw [hW]; exact (HB1.out.block mb hmb).symm)
        rw [HRN.out] at h
        exact h)
      have hdd := HD.out.2.2.2.2.1 (by rw [← GG.out.1]; exact hk2)
      have hB0 : Hid (y.B = []) := hid hdd.2.1
      have hq6 : L3 ≤ 6 := by rw [GG.out.2.2.2.2]; exact HD.out.2.2.2.1
      have k2 := hid (keys_at (some mb) W1)
      have k3 := hid (names_any mb W1 (S.L i) (S.N i) y.Q hnms HRN.out HRL.out HD.out.2.2.2.1 HD.out.2.2.2.2.2.2.1 (fun x hx => by have := (HD.out.2.2.2.2.2.2.2 x hx).1; omega))
      clear hnms hS1 hkS em hdd c0 hk2
      go_wp2_with fail
      refine k1.out.mono ?_
      rintro e w2 ⟨rfl, rfl⟩
      clear k1
      go_wp2_with fail
      refine k2.out.mono ?_
      rintro e w3 ⟨rfl, rfl⟩
      clear k2
      go_wp2_with fail
      refine k3.out.mono ?_
      rintro e w4 ⟨⟨vN, rfl, hO4⟩, hB4⟩
      clear k3
      rename World => w4
      obtain ⟨W1, gW1⟩ : ∃ W1, W1 = w2 := ⟨_, rfl⟩
      rw [← gW1] at hO4 hB4 HB1 HW cm
      clear gW1
      have hsz := HW.out.2.2.2
      have hx5 : w4.heap[q5]? = some _ := (hB4.block q5 (by rw [hsz, GQ.out.1]; omega)).trans (by rw [GQ.out.1]; exact HW.out.2.1)
      have hx4 : w4.heap[q4]? = some _ := (hB4.block q4 (by rw [hsz, GQ.out.2]; omega)).trans (by rw [GQ.out.2]; exact HW.out.1)
      obtain ⟨na, nc, en, hnc, hncm, _⟩ := own_shp hO4
      subst en
      have hgL3 : y.Q.length = L3 := GG.out.2.2.2.2.symm
      rw [hgL3] at hO4 ⊢
      have hq54 : q5 = q4 + 1 := by rw [GQ.out.1, GQ.out.2]
      have hq5s : W1.heap.size = q5 + 1 := by rw [hsz, GQ.out.1]
      have hpq : p < q5 := by rw [GQ.out.1]; omega
      have hmq : mb < q5 := by rw [GQ.out.1]; omega
      have hbase : Below w.heap.size w W1 := HB1.out
      have HS0 : Hid (LkS (w4.setCell ⟨q5, 6, none⟩ (.slice na L3 nc)) q5 q5 i y L3 0 (.slice none 0 0) (.slice na L3 nc) (.slice none 0 0)) := hid (by
        have hbx : w4.heap[q5]? = some (.cells (lkC i y (.slice none 0 0) (.slice none 0 0) (.slice none 0 0)).toArray 113 (0, 0)) := by
          obtain ⟨e1, e2, e3, e4, e5⟩ := GG.out
          rw [hx5, e1, e2, e3, e4, e5]; rfl
        have hst : Upd (· = q5) w4 (w4.setCell ⟨q5, 6, none⟩ (.slice na L3 nc)) := Upd.setCell w4 ⟨q5, 6, none⟩ _ rfl
        have hnN : ∀ c, (Value.slice na L3 nc).ownBlock = some c → q5 ≤ c ∧ c ≠ q5 := fun c hc => by
          have := (hO4.lt c hc).1
          omega
        refine ⟨set6 hbx _, by rw [hB0.out]; exact World.ownsRow_nil _ _ _ _, hst.own (own_mono (by rw [List.take_of_length_le (by omega)]; exact hO4) (Nat.zero_le _)) (fun c hc => (hnN c hc).2), World.ownsRow_nil _ _ _ _, Nat.le_refl _, fun c hc => by simp [Value.ownBlock] at hc, hnN, fun c hc => by simp [Value.ownBlock] at hc, fun c hc e => by simp [Value.ownBlock] at hc, fun c hc e => by simp [Value.ownBlock] at hc, fun c hc e => by simp [Value.ownBlock] at e⟩)
      have HB0 : Hid (Below q5 W1 (w4.setCell ⟨q5, 6, none⟩ (.slice na L3 nc))) := hid ((hB4.mono (by omega)).trans ((Upd.setCell (F := (· = q5)) w4 ⟨q5, 6, none⟩ (.slice na L3 nc) rfl).below (by have := hB4.size; omega) (fun c hc => by rw [hc]; exact Nat.le_refl _)))
      have HSS : Hid (∀ W : World, Below q5 W1 W → W.cell? ⟨p, 1 + i * 107 + 106, none⟩ = some (.map (some mb)) ∧ W.heap[mb]? = w.heap[mb]?) := hid (fun W hb => ⟨(hb.cell (p := ⟨p, 1 + i * 107 + 106, none⟩) hpq).trans cm, (hb.block mb hmq).trans (hbase.block mb hmb)⟩)
      have HX4 : Hid (∀ W : World, Below q5 W1 W → W.heap[q4]? = some (.cells (List.toArray [.int .i64 0, .int .i64 0, .int .i64 0, .int .i64 0, .int .i64 0, .slice none 0 0, .slice none 0 0, .slice none 0 0]) 113 (0, 0))) := hid (fun W hb => (hb.block q4 (by omega)).trans (by rw [GQ.out.2]; exact HW.out.1))
      have z6 := cell_list hx5 (j := 6) rfl
      have y6 : w4.frozen? ⟨q5, 6, none⟩ = false := by simp [World.frozen?, hx5]
      have HWB := hid hbase
      have HQ54 := hid hq54
      have HQS : Hid (q5 ≤ W1.heap.size) := hid (by omega)
      clear hx5 hx4 hO4 hB4 hsz cm hbase HW HB1 hgL3 hq54 hq5s
      go_upto_region 6 with fail
      obtain ⟨w6, gw6⟩ : ∃ w6, w6 = w4.setCell ⟨q5, 6, none⟩ (.slice na L3 nc) := ⟨_, rfl⟩
      rw [← gw6] at HS0 HB0 ⊢
      clear gw6 z6 y6
      have z6 := cell_list HS0.out.box (j := 6) rfl
      go_wp2_with fail
      go_loopw [42] (fun v42 wx => ∃ (t : Nat) (vM : Value), t ≤ L3 ∧ v42 = .int .i64 (t : Int) ∧ Hid (LkS wx q5 q5 i y L3 t (.slice none 0 0) (.slice na L3 nc) vM) ∧ Hid (Below q5 W1 wx)) (fun v42 _ => L3 - (intOf v42).toNat)
      case atStart => exact ⟨0, _, Nat.zero_le _, rfl, HS0, HB0⟩
      case round =>
        rename World => wx
        clear z6 HS0 HB0
        obtain ⟨t, vM, ht, rfl, HS, HBt⟩ := hrel
        obtain ⟨ma, mc, emM, hmc, hmcm, _⟩ := own_shp HS.out.rM
        subst emM
        by_cases htl : t < L3
        · have t2 : (t : Int) < (L3 : Int) := by omega
          have t0 : (0 : Int) ≤ (t : Int) := by omega
          have t3 : t + 1 ≤ L3 := htl
          have htQ : t < y.Q.length := by rw [← GG.out.2.2.2.2]; exact htl
          have hrN := HS.out.rN
          obtain ⟨na', nc', en', _, _, hcell⟩ := own_shp hrN
          injection en' with en1 _ en3
          subst en1 en3
          obtain ⟨q, rfl, _, hqs, hcc⟩ := hcell (by omega)
          have b1' := hcc t (.string (bs y.Q[t].1)) (by rw [List.getElem?_map, List.take_of_length_le (by have := GG.out.2.2.2.2; omega), List.getElem?_eq_getElem htQ]; rfl)
          have hmem : y.Q[t] ∈ y.Q := List.getElem_mem htQ
          have HLU : Hid (∀ W : World, W.heap[mb]? = w.heap[mb]? → (Instr.lookup 142 (.map (some mb)) (.string (bs y.Q[t].1)) false).run Tryz.prog W = .ok (.int .i64 (y.Q[t].2 : Int)) W) := hid (fun W hW => by
            have h := hnmsw.out (bs y.Q[t].1) (by have := (HD.out.2.2.2.2.2.2.2 _ hmem).2.2.2.2; have h2 := bl_len (bs y.Q[t].1); rw [bl_bs] at h2; omega) W hW
            rw [bl_bs, lk_of HD.out.2.2.2.2.2.2.1 hmem] at h
            exact h)
          have HTK : Hid ((y.Q.take (t + 1)).map ndV = (y.Q.take t).map ndV ++ [.int .i64 (y.Q[t].2 : Int)]) := hid (by
            rw [← List.take_append_getElem htQ, List.map_append]
            rfl)
          generalize bs y.Q[t].1 = sj at b1' HLU
          generalize y.Q[t].2 = mj at HLU HTK
          have z7 := cell_list HS.out.box (j := 7) rfl
          have HBa : Hid (Below wx.heap.size wx (wx.alloc (.cells #[.int .i64 (mj : Int)] 3)).drew) := hid (alloc1 _ _).drew
          have HBb : Hid (Below q5 W1 (wx.alloc (.cells #[.int .i64 (mj : Int)] 3)).drew) := hid (HBt.out.trans (HBa.out.mono (Nat.le_of_lt HS.out.lt)))
          have HOM : Hid ((wx.alloc (.cells #[.int .i64 (mj : Int)] 3)).drew.ownsRow 0 3 1 (.slice ma t mc) t ((y.Q.take t).map ndV)) := hid ((Upd.of_below (F := fun _ => False) HBa.out).own HS.out.rM (fun _ _ h => h))
          have HCM : Hid ((wx.alloc (.cells #[.int .i64 (mj : Int)] 3)).drew.cell? ⟨wx.heap.size, 0, none⟩ = some (.int .i64 (mj : Int))) := hid (cell_list (heap_alloc_new wx (.cells #[.int .i64 (mj : Int)] 3)) rfl)
          have z7' := (HBa.out.cell (p := ⟨q5, 7, none⟩) HS.out.lt).trans z7
          clear hcell hcc htQ hrN hmem
          go_wp2_with fail
          refine wp_region_held_drew (S := (fun W : World => W.cell? ⟨p, 1 + i * 107 + 106, none⟩ = some (.map (some mb)) ∧ W.heap[mb]? = w.heap[mb]?)) (by kernel_rfl) ?_ (fun hHeld => ?_)
          · (try dsimp only); exact HSS.out _ HBt.out.drew
          refine wpAnyH_take (i := 0) (v := ?_) rfl (by kernel_rfl) (by kernel_rfl) (by kernel_rfl) (fun _ _ _ h => h) (Or.inl ⟨by rfl, ?_⟩) (by assumption) ?_
          rotate_left 1
          · intro w hSw
            (try dsimp only at hSw)
            go_simp
            try with_reducible rfl
          (try simp only [Act.put, List.getElem_toArray, List.getElem_cons_zero, List.setIfInBounds_toArray, List.set_cons_zero, List.set_cons_succ])
          refine wpAnyH_take (i := 2) (v := ?_) rfl (by kernel_rfl) (by kernel_rfl) (by kernel_rfl) (fun _ _ _ h => h) (Or.inl ⟨by rfl, ?_⟩) (by assumption) ?_
          rotate_left 1
          · intro w hSw
            (try dsimp only at hSw)
            go_simp
            try with_reducible rfl
          (try simp only [Act.put, List.getElem_toArray, List.getElem_cons_succ, List.getElem_cons_zero, List.setIfInBounds_toArray, List.set_cons_zero, List.set_cons_succ])
          refine wpAnyH_take (i := 3) (v := ?_) rfl (by kernel_rfl) (by kernel_rfl) (by kernel_rfl) (fun _ _ _ h => h) (Or.inl ⟨by rfl, ?_⟩) (by assumption) ?_
          rotate_left 1
          · intro w hSw
            (try dsimp only at hSw)
            go_simp
            try with_reducible rfl
          (try simp only [Act.put, List.getElem_toArray, List.getElem_cons_succ, List.getElem_cons_zero, List.setIfInBounds_toArray, List.set_cons_zero, List.set_cons_succ])
          refine wpAnyH_take (i := 4) (v := ?_) rfl (by kernel_rfl) (by kernel_rfl) (by kernel_rfl) (fun _ _ _ h => h) (Or.inl ⟨by rfl, ?_⟩) (by assumption) ?_
          rotate_left 1
          · intro w hSw
            (try dsimp only at hSw)
            go_simp
            try with_reducible rfl
          (try simp only [Act.put, List.getElem_toArray, List.getElem_cons_succ, List.getElem_cons_zero, List.setIfInBounds_toArray, List.set_cons_zero, List.set_cons_succ])
          refine wpAnyH_take (i := 5) (v := ?_) rfl (by kernel_rfl) (by kernel_rfl) (by kernel_rfl) (fun _ _ _ h => h) (Or.inl ⟨by rfl, ?_⟩) (by assumption) ?_
          rotate_left 1
          · intro w hSw
            (try dsimp only at hSw)
            go_simp
            try with_reducible rfl
          (try simp only [Act.put, List.getElem_toArray, List.getElem_cons_succ, List.getElem_cons_zero, List.setIfInBounds_toArray, List.set_cons_zero, List.set_cons_succ])
          refine wpAnyH_take (i := 6) (v := ?_) rfl (by kernel_rfl) (by kernel_rfl) (by kernel_rfl) (fun _ _ _ h => h) (Or.inl ⟨by rfl, ?_⟩) (by assumption) ?_
          rotate_left 1
          · intro w hSw
            (try dsimp only at hSw)
            go_simp
            try with_reducible rfl
          (try simp only [Act.put, List.getElem_toArray, List.getElem_cons_succ, List.getElem_cons_zero, List.setIfInBounds_toArray, List.set_cons_zero, List.set_cons_succ])
          refine wpAnyH_take (i := 7) (v := ?_) rfl (by kernel_rfl) (by kernel_rfl) (by kernel_rfl) (fun _ _ _ h => h) (Or.inl ⟨by rfl, ?_⟩) (by assumption) ?_
          rotate_left 1
          · intro w hSw
            (try dsimp only at hSw)
            have hlu := HLU.out w hSw.2
            go_simp
            try with_reducible rfl
          (try simp only [Act.put, List.getElem_toArray, List.getElem_cons_succ, List.getElem_cons_zero, List.setIfInBounds_toArray, List.set_cons_zero, List.set_cons_succ])
          refine wpAnyH_ready (rs := [1, 8]) (by kernel_rfl) (by simp) ?_
          refine AllReadyH.cons rfl (fun K hK => ?_) (AllReadyH.cons rfl (fun K hK => ?_) (AllReadyH.nil))
          · go_simp
            refine hK.out _ _ ?_ (fun hHeld => ?_)
            · exact HSS.out _ HBt.out.drew
            clear hK K
            (try simp only [Act.put, List.getElem_toArray, List.getElem_cons_succ, List.getElem_cons_zero, List.setIfInBounds_toArray, List.set_cons_zero, List.set_cons_succ])
            refine wpAnyH_ready (rs := [8]) (by kernel_rfl) (by simp) ?_
            refine AllReadyH.cons rfl (fun K hK => ?_) (AllReadyH.nil)
            go_simp
            refine hK.out _ _ ?_ (fun hHeld => ?_)
            · exact HSS.out _ HBb.out
            clear hK K
            (try simp only [Act.put, List.getElem_toArray, List.getElem_cons_succ, List.getElem_cons_zero, List.setIfInBounds_toArray, List.set_cons_zero, List.set_cons_succ])
            refine wpAnyH_ready (rs := [9]) (by kernel_rfl) (by simp) ?_
            refine AllReadyH.cons rfl (fun K hK => ?_) (AllReadyH.nil)
            refine step_nat (by rfl) _ _ (by rfl) (.slice ma t mc) t _ (by first | (simp [Act.eval]; done) | (simp [Act.eval]; rfl)) HOM.out _ (.int .i64 (mj : Int)) (by first | (simp [Act.eval]; done) | (simp [Act.eval]; rfl)) HCM.out rfl (by omega) ?_
            intro av9 cv9 w9 HO9 HU9 HW9
            have HB9 : Hid (Below q5 W1 w9) := hid (HBb.out.trans (HU9.out.below (Nat.le_trans HQS.out HBb.out.size) (fun c hc => (HS.out.nM c hc).1)))
            refine hK.out _ _ ?_ (fun hHeld => ?_)
            · exact HSS.out _ HB9.out
            clear hK K
            (try simp only [Act.put, List.getElem_toArray, List.getElem_cons_succ, List.getElem_cons_zero, List.setIfInBounds_toArray, List.set_cons_zero, List.set_cons_succ])
            refine wpAnyH_take (i := 10) (v := ?_) rfl (by kernel_rfl) (by kernel_rfl) (by kernel_rfl) (fun _ _ _ h => h) (Or.inl ⟨by rfl, ?_⟩) (by assumption) ?_
            rotate_left 1
            · intro w hSw
              (try dsimp only at hSw)
              go_simp
              try with_reducible rfl
            (try simp only [Act.put, List.getElem_toArray, List.getElem_cons_succ, List.getElem_cons_zero, List.setIfInBounds_toArray, List.set_cons_zero, List.set_cons_succ])
            refine wpAnyH_ready (rs := [11]) (by kernel_rfl) (by simp) ?_
            refine AllReadyH.cons rfl (fun K hK => ?_) (AllReadyH.nil)
            skip
            have HS9 := hid (HS.out.node HBa.out (by rw [HTK.out]; exact HO9.out) HU9.out HW9.out)
            have hbx9 : w9.heap[q5]? = some _ := HU9.out.heap ((HBa.out.block q5 HS.out.lt).trans HS.out.box) (fun e => (HS.out.nM q5 e).2 rfl)
            have z9 := cell_list hbx9 (j := 7) rfl
            have y9 : w9.frozen? ⟨q5, 7, none⟩ = false := by simp [World.frozen?, hbx9]
            have HB10 : Hid (Below q5 W1 (w9.setCell ⟨q5, 7, none⟩ (.slice av9 (t + 1) cv9))) := hid (HB9.out.trans ((Upd.setCell (F := (· = q5)) w9 ⟨q5, 7, none⟩ _ rfl).below (Nat.le_trans HQS.out HB9.out.size) (fun c hc => by rw [hc]; exact Nat.le_refl _)))
            clear hbx9
            go_simp
            refine hK.out _ _ ?_ (fun hHeld => ?_)
            · exact HSS.out _ HB10.out
            clear hK K
            (try simp only [Act.put, List.getElem_toArray, List.getElem_cons_succ, List.getElem_cons_zero, List.setIfInBounds_toArray, List.set_cons_zero, List.set_cons_succ])
            refine wpAnyH_done (by kernel_rfl) ?_ _
            clear z9 y9 hHeld
            go_wp2_with fail
            go_roundw
            case rel => exact ⟨t + 1, _, t3, by go_num, HS9, HB10⟩
            case measure => simp [intOf]; omega
          · go_simp
            refine hK.out _ _ ?_ (fun hHeld => ?_)
            · exact HSS.out _ HBb.out
            clear hK K
            (try simp only [Act.put, List.getElem_toArray, List.getElem_cons_succ, List.getElem_cons_zero, List.setIfInBounds_toArray, List.set_cons_zero, List.set_cons_succ])
            refine wpAnyH_ready (rs := [1]) (by kernel_rfl) (by simp) ?_
            refine AllReadyH.cons rfl (fun K hK => ?_) (AllReadyH.nil)
            go_simp
            refine hK.out _ _ ?_ (fun hHeld => ?_)
            · exact HSS.out _ HBb.out
            clear hK K
            (try simp only [Act.put, List.getElem_toArray, List.getElem_cons_succ, List.getElem_cons_zero, List.setIfInBounds_toArray, List.set_cons_zero, List.set_cons_succ])
            refine wpAnyH_ready (rs := [9]) (by kernel_rfl) (by simp) ?_
            refine AllReadyH.cons rfl (fun K hK => ?_) (AllReadyH.nil)
            refine step_nat (by rfl) _ _ (by rfl) (.slice ma t mc) t _ (by first | (simp [Act.eval]; done) | (simp [Act.eval]; rfl)) HOM.out _ (.int .i64 (mj : Int)) (by first | (simp [Act.eval]; done) | (simp [Act.eval]; rfl)) HCM.out rfl (by omega) ?_
            intro av9 cv9 w9 HO9 HU9 HW9
            have HB9 : Hid (Below q5 W1 w9) := hid (HBb.out.trans (HU9.out.below (Nat.le_trans HQS.out HBb.out.size) (fun c hc => (HS.out.nM c hc).1)))
            refine hK.out _ _ ?_ (fun hHeld => ?_)
            · exact HSS.out _ HB9.out
            clear hK K
            (try simp only [Act.put, List.getElem_toArray, List.getElem_cons_succ, List.getElem_cons_zero, List.setIfInBounds_toArray, List.set_cons_zero, List.set_cons_succ])
            refine wpAnyH_take (i := 10) (v := ?_) rfl (by kernel_rfl) (by kernel_rfl) (by kernel_rfl) (fun _ _ _ h => h) (Or.inl ⟨by rfl, ?_⟩) (by assumption) ?_
            rotate_left 1
            · intro w hSw
              (try dsimp only at hSw)
              go_simp
              try with_reducible rfl
            (try simp only [Act.put, List.getElem_toArray, List.getElem_cons_succ, List.getElem_cons_zero, List.setIfInBounds_toArray, List.set_cons_zero, List.set_cons_succ])
            refine wpAnyH_ready (rs := [11]) (by kernel_rfl) (by simp) ?_
            refine AllReadyH.cons rfl (fun K hK => ?_) (AllReadyH.nil)
            skip
            have HS9 := hid (HS.out.node HBa.out (by rw [HTK.out]; exact HO9.out) HU9.out HW9.out)
            have hbx9 : w9.heap[q5]? = some _ := HU9.out.heap ((HBa.out.block q5 HS.out.lt).trans HS.out.box) (fun e => (HS.out.nM q5 e).2 rfl)
            have z9 := cell_list hbx9 (j := 7) rfl
            have y9 : w9.frozen? ⟨q5, 7, none⟩ = false := by simp [World.frozen?, hbx9]
            have HB10 : Hid (Below q5 W1 (w9.setCell ⟨q5, 7, none⟩ (.slice av9 (t + 1) cv9))) := hid (HB9.out.trans ((Upd.setCell (F := (· = q5)) w9 ⟨q5, 7, none⟩ _ rfl).below (Nat.le_trans HQS.out HB9.out.size) (fun c hc => by rw [hc]; exact Nat.le_refl _)))
            clear hbx9
            go_simp
            refine hK.out _ _ ?_ (fun hHeld => ?_)
            · exact HSS.out _ HB10.out
            clear hK K
            (try simp only [Act.put, List.getElem_toArray, List.getElem_cons_succ, List.getElem_cons_zero, List.setIfInBounds_toArray, List.set_cons_zero, List.set_cons_succ])
            refine wpAnyH_done (by kernel_rfl) ?_ _
            clear z9 y9 hHeld
            go_wp2_with fail
            go_roundw
            case rel => exact ⟨t + 1, _, t3, by go_num, HS9, HB10⟩
            case measure => simp [intOf]; omega
        · have t2 : ¬ (t : Int) < (L3 : Int) := by omega
          have et : t = L3 := by omega
          rw [et] at HS
          clear et
          have hD := HS.out.done GG.out.2.2.2.2
          have hbx := HS.out.box
          have e8 : lkC i y (.slice none 0 0) (.slice na L3 nc) (.slice ma L3 mc) = [.int .i64 (i : Int), .int .i64 k, .int .i64 l, .int .i64 ((L1 : Int) + (L3 : Int)), .int .i64 hh, .slice none 0 0, .slice na L3 nc, .slice ma L3 mc] := by
            obtain ⟨e1, e2, e3, e4, e5⟩ := GG.out
            unfold lkC
            rw [e1, e2, e3, e4, e5]
          rw [e8] at hbx hD
          have hx4 := HX4.out wx HBt.out
          have h5 := heap_setCells q4 113 [.int .i64 (i : Int), .int .i64 k, .int .i64 l, .int .i64 ((L1 : Int) + (L3 : Int)), .int .i64 hh, .slice none 0 0, .slice na L3 nc, .slice ma L3 mc] 0 wx _ hx4 (by simp)
          rw [splice_all _ _ (by simp)] at h5
          have H5 := hid h5
          have HU := hid (upd_setCells q4 [.int .i64 (i : Int), .int .i64 k, .int .i64 l, .int .i64 ((L1 : Int) + (L3 : Int)), .int .i64 hh, .slice none 0 0, .slice na L3 nc, .slice ma L3 mc] 0 wx)
          have HDD := hid hD
          have z0 := cell_list hbx (j := 0) rfl
          have z1 := cell_list hbx (j := 1) rfl
          have z2 := cell_list hbx (j := 2) rfl
          have z3 := cell_list hbx (j := 3) rfl
          have z4 := cell_list hbx (j := 4) rfl
          have z5 := cell_list hbx (j := 5) rfl
          have z6 := cell_list hbx (j := 6) rfl
          have z7 := cell_list hbx (j := 7) rfl
          have n0 := cell_list hx4 (j := 0) rfl
          have f0 : wx.frozen? ⟨q4, 0, none⟩ = false := by simp [World.frozen?, hx4]
          have n1 := cell_list hx4 (j := 1) rfl
          have f1 : wx.frozen? ⟨q4, 1, none⟩ = false := by simp [World.frozen?, hx4]
          have n2 := cell_list hx4 (j := 2) rfl
          have f2 : wx.frozen? ⟨q4, 2, none⟩ = false := by simp [World.frozen?, hx4]
          have n3 := cell_list hx4 (j := 3) rfl
          have f3 : wx.frozen? ⟨q4, 3, none⟩ = false := by simp [World.frozen?, hx4]
          have n4 := cell_list hx4 (j := 4) rfl
          have f4 : wx.frozen? ⟨q4, 4, none⟩ = false := by simp [World.frozen?, hx4]
          have n5 := cell_list hx4 (j := 5) rfl
          have f5 : wx.frozen? ⟨q4, 5, none⟩ = false := by simp [World.frozen?, hx4]
          have n6 := cell_list hx4 (j := 6) rfl
          have f6 : wx.frozen? ⟨q4, 6, none⟩ = false := by simp [World.frozen?, hx4]
          have n7 := cell_list hx4 (j := 7) rfl
          have f7 : wx.frozen? ⟨q4, 7, none⟩ = false := by simp [World.frozen?, hx4]
          have hne : ¬ q5 = q4 := by have := HQ54.out; omega
          have hne2 : ¬ q4 = q5 := by have := HQ54.out; omega
          clear hD hbx e8 hx4 h5
          go_wp2_with fail
          (try simp only [Exit.inBlock, Exit.then])
          refine bodyPost_ret (cell_result rfl _ _ q4 0 rfl [.int .i64 (i : Int), .int .i64 k, .int .i64 l, .int .i64 ((L1 : Int) + (L3 : Int)), .int .i64 hh, .slice none 0 0, .slice na L3 nc, .slice ma L3 mc] _ (rangeAt_block H5.out) Tryz.underlying113 rfl csizeNd) rfl ?_
          rw [GPP.out]
          have hq5w := GQ.out.1
          have hq54 := HQ54.out
          refine ⟨⟨_, rfl, HDD.out.upd HU.out (fun b _ hb e => by omega) (fun b _ hb => by omega)⟩, ?_⟩
          have h1 : Below w.heap.size w wx := HWB.out.trans (HBt.out.mono (by omega))
          exact h1.trans (HU.out.below h1.size (fun c hc => by rw [hc, GQ.out.2]; exact Nat.le_refl _))
    · rw [show decide (k = 2) = false by simp [hk2]] at k1
      have hs : (S.P i).s = L1 := by rw [HRP.out.s, GG.out.2.2.2.1]
      have hc96 : L1 ≤ 96 := by rw [GG.out.2.2.2.1]; exact HD.out.2.2.1
      have k2 := hid (fblocks_any p S W1 (HSW.out W1 HB1.out) i hi L1 hs hc96)
      have hBl : y.B.length = (L1 + 15) / 16 := by rw [HD.out.2.1, GG.out.2.2.2.1]; rfl
      have k3 := hid (iclone_any ⟨p, 1 + i * 107 + 100, none⟩ ((L1 + 15) / 16) 6 (y.B.map natV) W1.drew (by rw [List.length_map, hBl]; omega) (fun u hu => by obtain ⟨z, _, rfl⟩ := List.mem_map.1 hu; rfl) (fun j u hj => by
        have hjl : j < y.B.length := by have := (List.getElem?_eq_some_iff.1 hj).1; rwa [List.length_map] at this
        refine ⟨p, 1 + i * 107 + 100, rfl, Nat.lt_of_lt_of_le hp HB1.out.size, ?_⟩
        have h1 := (HSW.out W1 HB1.out).B i hi j (by omega)
        rw [HRP.out.B j hjl] at h1
        rw [show 1 + i * 107 + 100 + j = 1 + i * 107 + (100 + j) by omega]
        refine Eq.trans h1 ?_
        rw [List.getElem?_map, List.getElem?_eq_getElem hjl] at hj
        rw [List.getD_eq_getElem?_getD, List.getElem?_eq_getElem hjl]
        exact hj) (by omega))
      have hQ0 : y.Q = [] := HD.out.2.2.2.2.2.1 (by rw [← GG.out.1]; exact hk2)
      obtain ⟨LB, gLB⟩ : ∃ LB, LB = (L1 + 15) / 16 := ⟨_, rfl⟩
      rw [← gLB] at k2 k3 hBl
      have HBL := hid hBl
      have HQ0 := hid hQ0
      have hL3 : L3 = 0 := by rw [GG.out.2.2.2.2, hQ0]; rfl
      have HL3 := hid hL3
      clear hBl hQ0 gLB hL3 hs
      go_wp2_with fail
      refine k1.out.mono ?_
      rintro e w2 ⟨rfl, rfl⟩
      clear k1
      go_wp2_with fail
      refine k2.out.mono ?_
      rintro e w3 ⟨rfl, rfl⟩
      clear k2
      go_wp2_with fail
      refine k3.out.mono ?_
      rintro e w4 ⟨g4, cc4, rfl, hO4, hB4⟩
      have hs1 : w2.drew.heap.size = w2.heap.size := rfl
      rw [hs1] at hO4 hB4
      have hB4' : Below w2.heap.size w2 w4 := ⟨hB4.os, hB4.tape, hB4.output, hB4.size, hB4.block⟩
      have hsz := HW.out.2.2.2
      have hx5 : w4.heap[q5]? = some _ := (hB4'.block q5 (by rw [hsz, GQ.out.1]; omega)).trans (by rw [GQ.out.1]; exact HW.out.2.1)
      have hx4 : w4.heap[q4]? = some _ := (hB4'.block q4 (by rw [hsz, GQ.out.2]; omega)).trans (by rw [GQ.out.2]; exact HW.out.1)
      have HO4 := hid hO4
      have HB4 := hid (HB1.out.trans (hB4'.mono HB1.out.size))
      have hg4 : w.heap.size + 2 ≤ g4 := by have := (hO4.lt g4 rfl).1; omega
      have HX5 := hid hx5
      have HX4 := hid hx4
      have z0 := cell_list hx5 (j := 0) rfl
      have z1 := cell_list hx5 (j := 1) rfl
      have z2 := cell_list hx5 (j := 2) rfl
      have z3 := cell_list hx5 (j := 3) rfl
      have z4 := cell_list hx5 (j := 4) rfl
      have z5 := cell_list hx5 (j := 5) rfl
      have z6 := cell_list hx5 (j := 6) rfl
      have z7 := cell_list hx5 (j := 7) rfl
      have y5 : w4.frozen? ⟨q5, 5, none⟩ = false := by simp [World.frozen?, hx5]
      have n0 := cell_list hx4 (j := 0) rfl
      have n1 := cell_list hx4 (j := 1) rfl
      have n2 := cell_list hx4 (j := 2) rfl
      have n3 := cell_list hx4 (j := 3) rfl
      have n4 := cell_list hx4 (j := 4) rfl
      have n5 := cell_list hx4 (j := 5) rfl
      have n6 := cell_list hx4 (j := 6) rfl
      have n7 := cell_list hx4 (j := 7) rfl
      have f0 : w4.frozen? ⟨q4, 0, none⟩ = false := by simp [World.frozen?, hx4]
      have f1 : w4.frozen? ⟨q4, 1, none⟩ = false := by simp [World.frozen?, hx4]
      have f2 : w4.frozen? ⟨q4, 2, none⟩ = false := by simp [World.frozen?, hx4]
      have f3 : w4.frozen? ⟨q4, 3, none⟩ = false := by simp [World.frozen?, hx4]
      have f4 : w4.frozen? ⟨q4, 4, none⟩ = false := by simp [World.frozen?, hx4]
      have f5 : w4.frozen? ⟨q4, 5, none⟩ = false := by simp [World.frozen?, hx4]
      have f6 : w4.frozen? ⟨q4, 6, none⟩ = false := by simp [World.frozen?, hx4]
      have f7 : w4.frozen? ⟨q4, 7, none⟩ = false := by simp [World.frozen?, hx4]
      have hne : ¬ q5 = q4 := by rw [GQ.out.1, GQ.out.2]; omega
      have hne2 : ¬ q4 = q5 := by rw [GQ.out.1, GQ.out.2]; omega
      have HNE := hid hne
      clear hx5 hx4 hB4 hB4' hO4 k3 hsz hs1 HW c0
      have u5 : Upd (· = q5) w4 (w4.setCell ⟨q5, 5, none⟩ (.slice (some ⟨g4, 0, none⟩) LB cc4)) := Upd.setCell w4 ⟨q5, 5, none⟩ _ rfl
      have hz5 := u5.heap HX4.out hne2
      have h5 := heap_setCells q4 113 [.int .i64 (i : Int), .int .i64 k, .int .i64 l, .int .i64 ((L1 : Int) + (L3 : Int)), .int .i64 hh, .slice (some ⟨g4, 0, none⟩) LB cc4, .slice none 0 0, .slice none 0 0] 0 _ _ hz5 (by simp)
      rw [splice_all _ _ (by simp)] at h5
      have u4 := upd_setCells q4 [.int .i64 (i : Int), .int .i64 k, .int .i64 l, .int .i64 ((L1 : Int) + (L3 : Int)), .int .i64 hh, .slice (some ⟨g4, 0, none⟩) LB cc4, .slice none 0 0, .slice none 0 0] 0 (w4.setCell ⟨q5, 5, none⟩ (.slice (some ⟨g4, 0, none⟩) LB cc4))
      have H5 := hid h5
      have HU := hid (And.intro u5 u4)
      clear u5 u4 hz5 h5
      go_wp2_with fail
      (try simp only [Exit.inBlock, Exit.then])
      refine bodyPost_ret (cell_result rfl _ _ q4 0 rfl [.int .i64 (i : Int), .int .i64 k, .int .i64 l, .int .i64 ((L1 : Int) + (L3 : Int)), .int .i64 hh, .slice (some ⟨g4, 0, none⟩) LB cc4, .slice none 0 0, .slice none 0 0] _ (rangeAt_block H5.out) Tryz.underlying113 rfl csizeNd) rfl ?_
      rw [GPP.out]
      refine ⟨⟨_, rfl, .slice (some ⟨g4, 0, none⟩) LB cc4, .slice none 0 0, .slice none 0 0, ?_, ?_, ?_, ?_, ?_⟩, ?_⟩
      · obtain ⟨e1, e2, e3, e4, e5⟩ := GG.out
        rw [e1, e2, e3, e4, e5]; rfl
      · rw [HBL.out]
        exact HU.out.2.own (HU.out.1.own (own_mono HO4.out (Nat.zero_le _)) (fun c hc e => by have hc' : g4 = c := Option.some.inj hc; have e' : c = q5 := e; have := GQ.out.1; omega)) (fun c hc e => by have hc' : g4 = c := Option.some.inj hc; have e' : c = q4 := e; have := GQ.out.2; omega)
      · rw [HQ0.out]; exact World.ownsRow_nil _ _ _ _
      · rw [HQ0.out]; exact World.ownsRow_nil _ _ _ _
      · intro c hc
        rcases hc with q | q | q
        · have q' : g4 = c := Option.some.inj q
          omega
        · simp [Value.ownBlock] at q
        · simp [Value.ownBlock] at q
      · have h1 := HB4.out
        have h2 := h1.size
        exact h1.trans ((HU.out.1.below h2 (fun c hc => by rw [hc, GQ.out.1]; omega)).trans (HU.out.2.below (Nat.le_trans h2 HU.out.1.size) (fun c hc => by rw [hc, GQ.out.2]; omega)))

end Go.Proofs.YtbglhmcahnkbfaaGreat

/- What Look of the program's system tells. -/
namespace Go.Proofs.YtbglhmcahnkbfaaGreat
open Go.RowKit Go.ChangeMaps Go.MapKept
set_option linter.unusedVariables false
set_option maxRecDepth 20000

set_option maxHeartbeats 4000000 in
theorem plooks_any (p : Nat) (F : Fs) (G : Nat → Prop) (w : World) (H : Pf w p F G) (hF : FOk F) :
    Calls Tryz.prog 81 #[.pointer (some ⟨p, 0, none⟩)] w (LooksP w F) := by
  obtain ⟨S, HS, R, _⟩ := H
  obtain ⟨i0, hi0, hz0, hz1, hz2⟩ := info_parts infoNd
  obtain ⟨PP, gPP⟩ : ∃ PP, PP = LooksP w F := ⟨_, rfl⟩
  have GPP := hid gPP
  rw [← gPP]
  have k1 := hid HS.usable
  have HSW : Hid (∀ W, Below w.heap.size w W → Sy W p S) := hid (fun W hb => HS.grow hb)
  have hp : p < w.heap.size := HS.lt
  have HF := hid hF
  have HR := hid R
  clear HS R hF gPP
  go_enter Tryz.func81, Tryz.ntmps81
  go_wp2_with fail
  refine k1.out.mono ?_
  rintro e w1 ⟨rfl, rfl⟩
  clear k1
  go_wp2_with fail
  rename World => w
  go_loopw [3, 8] (fun v3 v8 wr => ∃ (j n : Nat) (a' : Option Addr) (c' : Nat) (cs : List Value), j ≤ 17 ∧ n ≤ j ∧ v8 = .int .i64 (j : Int) ∧ v3 = .slice a' n c' ∧ Hid ((thr F j).length = n) ∧ Hid (wr.ownsRow 0 113 8 (.slice a' n c') n cs) ∧ Hid (∀ b, (Value.slice a' n c').ownBlock = some b → w.heap.size ≤ b) ∧ Hid (LkL wr (fun b => w.heap.size ≤ b ∧ (Value.slice a' n c').ownBlock ≠ some b) F (thr F j) cs) ∧ Hid (Below w.heap.size w wr)) (fun _ v8 _ => 17 - (intOf v8).toNat)
  case atStart => exact ⟨0, 0, none, 0, [], Nat.zero_le _, Nat.le_refl _, rfl, rfl, hid rfl, hid (World.ownsRow_nil _ _ _ _), hid (fun b hb => by simp [Value.ownBlock] at hb), hid rfl, hid (Below.refl _ _)⟩
  case round =>
    obtain ⟨j, n, a', c', cs, hj, hn, rfl, rfl, HK, HO, HNW, HLK, HB⟩ := hrel
    have HBs := HB.out.size
    by_cases hlt : j < 17
    · have hj2 : (j : Int) < 17 := by omega
      have hj0 : (0 : Int) ≤ (j : Int) := by omega
      have hj3 : j + 1 ≤ 17 := hlt
      have hk0 := (HSW.out wr HB.out).k j hlt
      rw [(HR.out.P j hlt).k] at hk0
      have HY : Hid ((F.P j).k ≠ 0 → thr F (j + 1) = thr F j ++ [j]) := hid thr_yes
      have HN : Hid ((F.P j).k = 0 → thr F (j + 1) = thr F j) := hid thr_no
      have k2 := hid (isthere_any p (1 + j * 107) (F.P j).k wr hk0)
      have KL : Hid ((F.P j).k ≠ 0 → Calls Tryz.prog 105 #[.pointer (some ⟨p, 1 + j * 107, none⟩), .int .i64 (j : Int)] wr (LookP wr j (F.P j))) := hid (fun h => plook p j S F wr (HSW.out wr HB.out) HR.out HF.out hlt h)
      obtain ⟨k, gk⟩ : ∃ k, k = (F.P j).k := ⟨_, rfl⟩
      rw [← gk] at hk0 HY HN k2 KL
      clear gk hk0
      by_cases hk : k = 0
      · have e := HN.out hk
        rw [← e] at HK HLK
        rw [show decide (k ≠ 0) = false by simp [hk]] at k2
        clear HY HN e KL hk
        go_wp2_with fail
        refine k2.out.mono ?_
        rintro e w2 ⟨rfl, rfl⟩
        clear k2
        go_wp2_with fail
        go_roundw
        case rel => exact ⟨j + 1, n, a', c', cs, hj3, by omega, by go_num, rfl, HK, HO, HNW, HLK, HB⟩
        case measure => simp [intOf]; omega
      · have HE := hid (HY.out hk)
        have k3 := hid (KL.out hk)
        rw [show decide (k ≠ 0) = true by simp [hk]] at k2
        clear HY HN KL hk
        go_wp2_with fail
        refine k2.out.mono ?_
        rintro e w2 ⟨rfl, rfl⟩
        clear k2
        go_wp2_with fail
        refine k3.out.mono ?_
        rintro e w3 ⟨⟨cN, rfl, vB, vN, vM, rfl, g1, g2, g3, g4⟩, hB3⟩
        obtain ⟨ba, bc, rfl, _⟩ := own_shp g1
        obtain ⟨na, nc, rfl, _⟩ := own_shp g2
        obtain ⟨ma, mc, rfl, _⟩ := own_shp g3
        have HLN : Hid (LkN w3 (fun b => w2.heap.size ≤ b) j (F.P j) (lkC j (F.P j) (.slice ba (F.P j).B.length bc) (.slice na (F.P j).Q.length nc) (.slice ma (F.P j).Q.length mc))) := hid ⟨_, _, _, rfl, g1, g2, g3, g4⟩
        have HB3 := hid hB3
        clear g1 g2 g3 g4
        unfold lkC at HLN ⊢
        generalize ((F.P j).c.length : Int) + ((F.P j).Q.length : Int) = s1 at HLN ⊢
        generalize (F.P j).k = k1 at HLN ⊢
        generalize (F.P j).l = l1 at HLN ⊢
        generalize (F.P j).h = h1 at HLN ⊢
        generalize (F.P j).B.length = bn at HLN ⊢
        generalize (F.P j).Q.length = nn at HLN ⊢
        clear k3 hB3
        go_wp2_with (at_builtin; go_must (refine wpList_append_where rfl (.tmp 17) (.tmp 25) 69 rfl 113 i0 _ 8 112 Tryz.underlying69 hi0 hz0 hz1 hz2 rfl (by decide) (.slice a' n c') n _ rfl ((Upd.of_below (F := fun _ => False) (HB3.out.trans ((alloc1 w3 _).mono HB3.out.size))).own HO.out (fun _ _ h => h)) ⟨_, 0, none⟩ 1 1 [.int .i64 (j : Int), .int .i64 k1, .int .i64 l1, .int .i64 s1, .int .i64 h1, .slice ba bn bc, .slice na nn nc, .slice ma nn mc] rfl rfl (by intro a u hj; rw [Addr.add_lit, Nat.zero_add, cell_of_row _ _ a _ 113 (0, 0) (by exact heap_alloc_new _ _)]; simpa using hj) (by simp [Value.oneCell']) (by unfold maxLen; omega) (by omega) ?_))
        intro v7 w7 hO hU _ hW
        obtain ⟨va, vc, rfl⟩ : ∃ va vc, v7 = .slice va (n + 1) vc := by
          rcases hO.out.2 with ⟨h1, _⟩ | ⟨g, c, cur, rfl, _⟩
          · omega
          · exact ⟨_, c, rfl⟩
        have hbW := HB3.out.trans ((alloc1 w3 (.cells #[.int .i64 (j : Int), .int .i64 k1, .int .i64 l1, .int .i64 s1, .int .i64 h1, .slice ba bn bc, .slice na nn nc, .slice ma nn mc] 113)).mono HB3.out.size)
        have HM : Hid (LkL w7 (fun b => w.heap.size ≤ b ∧ (Value.slice va (n + 1) vc).ownBlock ≠ some b) F (thr F (j + 1)) (cs ++ [.int .i64 (j : Int), .int .i64 k1, .int .i64 l1, .int .i64 s1, .int .i64 h1, .slice ba bn bc, .slice na nn nc, .slice ma nn mc])) := hid (by
          rw [HE.out]
          refine LkL.more HLK.out (by rw [HK.out]; exact HO.out) hbW ?_ HBs hU (hW.out.imp (fun q => q) (fun q b hb => by have := q b hb; simpa using this))
          exact HLN.out.upd (Upd.of_below (F := fun _ => False) (alloc1 w3 _)) (fun _ _ _ h => h) (fun b _ hb => hb))
        have HK2 : Hid ((thr F (j + 1)).length = n + 1) := hid (by rw [HE.out, List.length_append, HK.out]; rfl)
        have HNW2 : Hid (∀ b, (Value.slice va (n + 1) vc).ownBlock = some b → w.heap.size ≤ b) := hid (fun b hb => by
          rcases hW.out with q | q
          · rw [q] at hb; exact HNW.out b hb
          · have h1 := q b hb
            have h2 := HB3.out.size
            omega)
        have HB9 : Hid (Below w.heap.size w w7) := hid (HB.out.trans ((hbW.mono HBs).trans (hU.below (Nat.le_trans HBs hbW.size) (fun c hc => HNW.out c hc))))
        clear hU hW hbW HLK HO HNW
        go_wp2_with fail
        go_roundw
        case rel => exact ⟨j + 1, n + 1, va, vc, _, hj3, by omega, by go_num, rfl, HK2, hO, HNW2, HM, HB9⟩
        case measure => simp [intOf]; omega
    · have hj2 : ¬ (j : Int) < 17 := by omega
      obtain rfl : j = 17 := by omega
      go_wp2_with fail
      rw [GPP.out]
      refine ⟨⟨_, cs, rfl, ?_, ?_⟩, HB.out⟩
      · rw [HK.out]; exact HO.out
      · exact LkL.upd (Upd.refl (fun _ => False) _) (fun _ _ _ h => h) (fun _ _ h => h.1) HLK.out

end Go.Proofs.YtbglhmcahnkbfaaGreat

/- Blocks of the program's system, with what it tells. (Written by gen_np25.py.) -/
namespace Go.Proofs.YtbglhmcahnkbfaaGreat
open Go.RowKit Go.ChangeMaps Go.MapKept
set_option linter.unusedVariables false
set_option maxRecDepth 20000

end Go.Proofs.YtbglhmcahnkbfaaGreat
