/- The corpus and what it stands on, merged. -/
import Derived.Test.YtbgommpdmnbplaaGreatDoorCoA30
import Derived.Deep.RegionHeld3
import Derived.Deep.RegionWith
import Derived.Deep.RegionLaw
import Derived.Deep.DeepCutAuto
import Derived.Deep.CutBlock
import Derived.BigQuiet

/- CorpusKept's law. (Written by gen_cokep.py.) -/
namespace Go.Proofs.YtbgommpdmnbplaaGreatDoor
open Go.RowKit Co Num Jr
set_option linter.unusedVariables false
set_option maxRecDepth 20000

set_option maxHeartbeats 16000000 in
theorem kept_road (la : Option Addr) (ll lc : Nat) (op : Int) (e : Ety) (pa : Option Addr) (pc : Nat) (qa : Option Addr) (qc : Nat) (mask torn : Int) (w : World) (hD : Dol w la ll) (hl : ll ≤ lc) (hl2 : lc ≤ 9223372036854775807) (hp : Il w [] pa e.p.length pc e.p) (hq : Il w [] qa e.q.length qc e.q) (hT : Tab w) (hR : Er w) :
    Calls Tryz.prog 5 #[.slice la ll lc, .agg #[.int .i64 op, .string e.k, .string e.g, .slice pa e.p.length pc, .int .i64 e.f, .slice qa e.q.length qc], .int .u64 mask, .int .i64 torn] w fun r w' => r = .returned (.bool true) ∧ Below w.heap.size w w' := by
  have hTl0 : 1 < w.heap.size := World.block_lt_of_cell? _ _ (hT 0 (by omega))
  obtain ⟨Wb, gWb⟩ : ∃ Wb, Wb = w.alloc (.cells #[.int .i64 op, .string e.k, .string e.g, .slice pa e.p.length pc, .int .i64 e.f, .slice qa e.q.length qc] 39) := ⟨_, rfl⟩
  have hbb : Below w.heap.size w Wb := by rw [gWb]; exact (Below.refl _ _).alloc (Nat.le_refl _) _
  have hWb : Wb.heap[w.heap.size]? = some (.cells #[.int .i64 op, .string e.k, .string e.g, .slice pa e.p.length pc, .int .i64 e.f, .slice qa e.q.length qc] 39 (0, 0)) := by rw [gWb]; exact heap_alloc_new _ _
  have hbl : w.heap.size < Wb.heap.size := (Array.getElem?_eq_some_iff.1 hWb).1
  have hTl : 1 < Wb.heap.size := by omega
  have hub : Upd (fun _ => False) w Wb := Upd.of_below hbb
  have hpb : Il Wb [] pa e.p.length pc e.p := hp.upd hub (fun _ _ _ _ h => h) (fun x hx => .inl hx)
  have hqb : Il Wb [] qa e.q.length qc e.q := hq.upd hub (fun _ _ _ _ h => h) (fun x hx => .inl hx)
  obtain ⟨m, hm, hm2, hmin⟩ : ∃ m : Nat, m ≤ ll ∧ m ≤ 12 ∧ (if (12 : Int) < (ll : Int) then (12 : Int) else (ll : Int)) = (m : Int) := by
    by_cases h : 12 < ll
    · exact ⟨12, by omega, by omega, by rw [if_pos (by omega)]; rfl⟩
    · exact ⟨ll, by omega, by omega, by rw [if_neg (by omega)]⟩
  have hmin2 : min (ll : Int) 12 = (m : Int) := by
    rw [← hmin]
    split <;> omega
  have hmlc : (m : Int) ≤ (lc : Int) := by omega
  obtain ⟨cs, hcs, hcl⟩ := (hD.below hbb).pick m hm hm2
  have hcs' := hcs.push op e pa pc qa qc hpb hqb
  have hEv : ∀ wx, Below Wb.heap.size Wb wx → Ev wx [] (.agg #[.string e.k, .string e.g, .slice pa e.p.length pc, .int .i64 e.f, .slice qa e.q.length qc]) e := fun wx hb => Ev.upd (w := Wb) (N := []) ⟨pa, pc, qa, qc, rfl, hpb, hqb⟩ (Upd.of_below (F := fun _ => False) hb) (fun _ _ h => h.elim) (fun x hx => .inl hx)
  obtain ⟨pn, gpn⟩ : ∃ pn, pn = e.p.length := ⟨_, rfl⟩
  obtain ⟨qn, gqn⟩ : ∃ qn, qn = e.q.length := ⟨_, rfl⟩
  obtain ⟨ks, gks⟩ : ∃ ks, ks = e.k := ⟨_, rfl⟩
  obtain ⟨gs, ggs⟩ : ∃ gs, gs = e.g := ⟨_, rfl⟩
  obtain ⟨fx, gfx⟩ : ∃ fx, fx = e.f := ⟨_, rfl⟩
  rw [← gpn, ← gqn, ← gks, ← ggs, ← gfx] at gWb hWb hcs' hEv
  rw [← gpn, ← gqn, ← gks, ← ggs, ← gfx]
  have k1 := hid (new_dk 80 Wb (by omega) (by omega))
  have HT := hid (tab_in hT hbb hTl0)
  have HR := hid (er_in hR hbb hTl0)
  have GWB := hid gWb
  have HBB := hid hbb
  have HBOX : Hid (∀ wx, Below Wb.heap.size Wb wx → wx.heap[w.heap.size]? = some (.cells #[.int .i64 op, .string ks, .string gs, .slice pa pn pc, .int .i64 fx, .slice qa qn qc] 39 (0, 0))) := hid (fun wx hb => (hb.block _ hbl).trans hWb)
  have HCS := hid hcs'
  have HCL := hid hcl
  have HEV := hid hEv
  clear gWb hWb hbb hT hR hD hp hq hpb hqb hub hcs hcs' hcl hEv gpn gqn gks ggs gfx
  go_enter Tryz.func5, Tryz.ntmps5
  go_upto_region 1 with fail
  rw [← GWB.out]
  go_upto_region 2 with (first | (go_at_call 22; refine k1.out.mono ?_; rintro r w1 ⟨p, d, rfl, hok, hn, hd, hw, he, ho, hf, hb⟩; have HJ := hid (jd_new hok hn hd hw he ho); have HF := hid hf; have HB := hid hb; clear hok hn hd hw he ho hf hb k1))
  have hdT : 1 ∉ d.foot p := fun hx => by have := HF.out _ hx; omega
  have k2 := hid (copen_new d p 80 _ w1 HJ.out.1 HJ.out.2 (tab_in HT.out HB.out hTl) hdT (by omega) newest_zero)
  clear hdT
  go_upto_region 7 with (first | (go_at_call 10; refine k2.out.mono ?_; rintro r w2 h2; have H2 := hid (cr_new h2 HF.out HB.out HB.out.size); clear h2 k2; obtain ⟨cp, rfl, hq2⟩ := H2.out; have HQ2 := hid hq2; clear hq2 H2))
  have hbel2 : Below Wb.heap.size Wb w2 := HQ2.out.elim (fun _ h => h.bel)
  have hs1 : w.heap.size < w2.heap.size := Nat.lt_of_lt_of_le hbl hbel2.size
  have hN2 : ∃ N0, Cr Wb.heap.size Wb w2 cp p 80 (fun _ => none) N0 ∧ ∀ x ∈ N0, x < w2.heap.size := HQ2.out.elim (fun N0 h => ⟨N0, h, h.lt⟩)
  have HN2 := hid hN2
  have e0 : w2.cell? ⟨w.heap.size, 0, none⟩ = some (.int .i64 op) := heap_cells (HBOX.out w2 hbel2) 0 _ rfl
  have e1 : w2.cell? ⟨w.heap.size, 1, none⟩ = some (.string ks) := heap_cells (HBOX.out w2 hbel2) 1 _ rfl
  have e2 : w2.cell? ⟨w.heap.size, 2, none⟩ = some (.string gs) := heap_cells (HBOX.out w2 hbel2) 2 _ rfl
  have e3 : w2.cell? ⟨w.heap.size, 3, none⟩ = some (.slice pa pn pc) := heap_cells (HBOX.out w2 hbel2) 3 _ rfl
  have e4 : w2.cell? ⟨w.heap.size, 4, none⟩ = some (.int .i64 fx) := heap_cells (HBOX.out w2 hbel2) 4 _ rfl
  have e5 : w2.cell? ⟨w.heap.size, 5, none⟩ = some (.slice qa qn qc) := heap_cells (HBOX.out w2 hbel2) 5 _ rfl
  have HB0 : Hid (Below w2.heap.size w2 w2.drew) := hid (Below.refl _ _).drew
  have kc : Hid (∀ wx, Below w2.heap.size w2 wx → Calls Tryz.prog 26 #[.slice la m lc] wx (fun r w' => DclP wx m cs r w' ∧ Below w2.heap.size w2 w')) := hid (fun wx hx => (HCL.out lc wx (hbel2.trans (hx.mono hbel2.size))).mono (fun r w' h => ⟨h, by obtain ⟨v, _, _, hb⟩ := h; exact hx.trans (hb.mono hx.size)⟩))
  clear hN2 hbel2 HQ2 HCL
  go_cut [44, 45, 46] (fun v44 v45 v46 wx => ∃ a c, v44 = .slice a (m + 1) c ∧ v45 = .int .i64 ((m + 1 : Nat) : Int) ∧ v46 = .int .i64 0 ∧ Hid (RdyD w2 wx a (m + 1) c (cs ++ [.int .i64 op, .string ks, .string gs, .slice pa pn pc, .int .i64 fx, .slice qa qn qc])))
  case first =>
    go_region_law (first
      | (go_simp; go_at_call 26; refine (kc.out _ (by first | exact HB0.out | exact ((Below.refl _ w2).alloc (Nat.le_refl _) _).drew)).mono ?_; rintro r w6 ⟨⟨v6, rfl, ho6, hb6⟩, hbw6⟩; obtain ⟨a6, c6, gv6, _, _⟩ := own_shape ho6; subst gv6; have HO6 := hid ho6; have HB6 := hid hb6; have HBW6 := hid hbw6; have y0 := (hbw6.cell (p := ⟨w.heap.size, 0, none⟩) hs1).trans e0; have y1 := (hbw6.cell (p := ⟨w.heap.size, 1, none⟩) hs1).trans e1; have y2 := (hbw6.cell (p := ⟨w.heap.size, 2, none⟩) hs1).trans e2; have y3 := (hbw6.cell (p := ⟨w.heap.size, 3, none⟩) hs1).trans e3; have y4 := (hbw6.cell (p := ⟨w.heap.size, 4, none⟩) hs1).trans e4; have y5 := (hbw6.cell (p := ⟨w.heap.size, 5, none⟩) hs1).trans e5; clear ho6 hb6 hbw6)
      | (refine step_append_do (by rfl) _ _ (by rfl) _ m _ _ cs [.int .i64 op, .string ks, .string gs, .slice pa pn pc, .int .i64 fx, .slice qa qn qc] (by simp [Act.eval]; rfl) (by simp [Act.eval]; rfl) (by first | exact HO6.out | exact own_below HO6.out ((Below.refl _ _).alloc (Nat.le_refl _) _)) rfl (by simp [Value.oneCell']) (by first | exact newcells _ [.int .i64 op, .string ks, .string gs, .slice pa pn pc, .int .i64 fx, .slice qa qn qc] _ | exact oldcells HB6.out) hm2 ?_; intro a8 c8 w8 HO8 HU8 HW8))
    all_goals
      go_wp2_with fail
      go_meet
      case rel => exact ⟨a8, c8, rfl, rfl, rfl, by first | exact hid (rdyD HB0.out HO6.out HB6.out ((Below.refl _ _).alloc (Nat.le_refl _) _) HO8.out HU8.out HW8.out) | exact hid (rdyD (((Below.refl _ w2).alloc (Nat.le_refl _) _).drew) HO6.out HB6.out (Below.refl _ _) HO8.out HU8.out HW8.out)⟩
  case rest =>
    clear kc HB0 e0 e1 e2 e3 e4 e5
    obtain ⟨a9, c9, rfl, rfl, rfl, HRD⟩ := hcut
    obtain ⟨wF, gwF⟩ : ∃ wF, wF = wc := ⟨_, rfl⟩
    rw [← gwF] at HRD ⊢
    clear gwF
    obtain ⟨cz, gcz⟩ : ∃ cz, cz = cs ++ [.int .i64 op, .string ks, .string gs, .slice pa pn pc, .int .i64 fx, .slice qa qn qc] := ⟨_, rfl⟩
    rw [← gcz] at HRD HCS
    clear gcz
    obtain ⟨M1, gM1⟩ : ∃ M1, M1 = m + 1 := ⟨_, rfl⟩
    rw [← gM1] at HRD HCS ⊢
    have hMa : m < M1 := by omega
    have hMb : M1 ≤ m + 1 := by omega
    clear gM1
    have hsF : w2.heap.size ≤ wF.heap.size := HRD.out.1.size
    have HOW : Hid (wF.ownsRow 0 39 6 (.slice a9 M1 c9) M1 cz) := hid HRD.out.2.1
    obtain ⟨g9, gg9⟩ : ∃ g9, a9 = some ⟨g9, 0, none⟩ := by
      rcases HOW.out.2 with ⟨_, h⟩ | ⟨g, c, cur, h, _⟩
      · omega
      · injection h with h1 h2 h3; exact ⟨g, h1⟩
    subst gg9
    have hg9 : w2.heap.size ≤ g9 := HRD.out.2.2 g9 rfl
    have hg9F : g9 < wF.heap.size := (HOW.out.lt g9 rfl).2
    have HQF : Hid (∃ F N0, Cr Wb.heap.size Wb wF cp p 80 F N0 ∧ ∀ x ∈ N0, x < w2.heap.size ∨ wF.heap.size ≤ x) := hid (HN2.out.elim (fun N0 h => ⟨_, N0, h.1.below HRD.out.1, fun x hx => .inl (h.2 x hx)⟩))
    clear HN2 HRD
    go_wp2_with fail
    go_loopw [46] (fun k wr => ∃ i : Nat, k = .int .i64 i ∧ i ≤ m ∧ Hid (∃ F N0, Cr Wb.heap.size Wb wr cp p 80 F N0 ∧ ∀ x ∈ N0, x < w2.heap.size ∨ wF.heap.size ≤ x) ∧ Hid (wr.ownsRow 0 39 6 (.slice (some ⟨g9, 0, none⟩) M1 c9) M1 cz) ∧ wF.heap.size ≤ wr.heap.size) (fun k _ => M1 - (intOf k).toNat)
    case atStart => exact ⟨0, rfl, Nat.zero_le _, HQF, HOW, Nat.le_refl _⟩
    case round =>
      clear HQF HOW
      obtain ⟨i, rfl, hin, HA, HOR, hsr⟩ := hrel
      obtain ⟨F, N0, hq, hN0⟩ := HA.out
      obtain ⟨g9', op2, e2, pa2, pc2, qa2, qc2, eg, hgl, c0, c1, c2, c3, c4, c5, c6, c7⟩ := dlc_at HCS.out HOR.out i (by omega)
      injection eg with eg
      injection eg with eg
      subst eg
      have hbw := hq.bel
      obtain ⟨pn2, gpn⟩ : ∃ pn, pn = e2.p.length := ⟨_, rfl⟩
      obtain ⟨qn2, gqn⟩ : ∃ qn, qn = e2.q.length := ⟨_, rfl⟩
      obtain ⟨ks2, gks⟩ : ∃ ks, ks = e2.k := ⟨_, rfl⟩
      obtain ⟨gs2, ggs⟩ : ∃ gs, gs = e2.g := ⟨_, rfl⟩
      obtain ⟨fx2, gfx⟩ : ∃ fx, fx = e2.f := ⟨_, rfl⟩
      rw [← gks] at c1
      rw [← ggs] at c2
      rw [← gpn] at c3
      rw [← gfx] at c4
      rw [← gqn] at c5
      obtain ⟨W, gW⟩ : ∃ W, W = wr.alloc (.cells #[.int .i64 op2, .string ks2, .string gs2, .slice pa2 pn2 pc2, .int .i64 fx2, .slice qa2 qn2 qc2] 39) := ⟨_, rfl⟩
      have hbA : Below wr.heap.size wr W := by rw [gW]; exact (Below.refl _ _).alloc (Nat.le_refl _) _
      have hW : W.heap[wr.heap.size]? = some (.cells #[.int .i64 op2, .string ks2, .string gs2, .slice pa2 pn2 pc2, .int .i64 fx2, .slice qa2 qn2 qc2] 39 (0, 0)) := by rw [gW]; exact heap_alloc_new _ _
      have hwl : wr.heap.size < W.heap.size := (Array.getElem?_eq_some_iff.1 hW).1
      have hbwW : Below Wb.heap.size Wb W := hbw.trans (hbA.mono hbw.size)
      have hEW : Ev W [] (.agg #[.string ks2, .string gs2, .slice pa2 pn2 pc2, .int .i64 fx2, .slice qa2 qn2 qc2]) e2 := by
        rw [gks, ggs, gpn, gfx, gqn]
        exact Ev.upd (w := Wb) (N := []) ⟨pa2, pc2, qa2, qc2, rfl, c6, c7⟩ (Upd.of_below (F := fun _ => False) hbwW) (fun _ _ h => h.elim) (fun x hx => .inl hx)
      have HQW := hid (hq.below hbA)
      have HOA := hid (own_below HOR.out hbA)
      have HN0 := hid hN0
      have HW := hid hW
      have GW := hid gW
      have HEW := hid hEW
      have hvlt : (i : Int) < (M1 : Int) := by omega
      have f0 : W.cell? ⟨wr.heap.size, 0, none⟩ = some (.int .i64 op2) := heap_cells hW 0 _ rfl
      have f1 : W.cell? ⟨wr.heap.size, 1, none⟩ = some (.string ks2) := heap_cells hW 1 _ rfl
      have f2 : W.cell? ⟨wr.heap.size, 2, none⟩ = some (.string gs2) := heap_cells hW 2 _ rfl
      have f3 : W.cell? ⟨wr.heap.size, 3, none⟩ = some (.slice pa2 pn2 pc2) := heap_cells hW 3 _ rfl
      have f4 : W.cell? ⟨wr.heap.size, 4, none⟩ = some (.int .i64 fx2) := heap_cells hW 4 _ rfl
      have f5 : W.cell? ⟨wr.heap.size, 5, none⟩ = some (.slice qa2 qn2 qc2) := heap_cells hW 5 _ rfl
      clear gpn gqn gks ggs gfx gW hbA hW hEW hbw hbwW c6 c7 hq hN0 HA HOR
      by_cases hlt : i < m
      · have hne : ¬ (i : Int) = (m : Int) := by omega
        have hneb : ((i : Int) == (m : Int)) = false := by simpa using hne
        go_upto_region 10 with fail
        rw [← GW.out]
        obtain ⟨kb4, gkb⟩ : ∃ kb4 : Bool, kb4 = decide (op2.tmod 5 = 4) := ⟨_, rfl⟩
        cases kb4 with
        | true =>
          have hop : op2.tmod 5 = 4 := of_decide_eq_true gkb.symm
          have kC := hid (crg_del Wb.heap.size Wb W cp p 80 F N0 ks2 HQW.out HT.out HR.out hTl (by omega))
          clear gkb
          go_wp2_with (first | (go_at_call 16; refine kC.out.mono ?_; rintro r w5 h5; have H5 := hid h5; clear h5 kC; obtain ⟨code, F5, N5, rfl, hq5, hu5, hn5⟩ := H5.out; have HQ5 := hid hq5; have HU5 := hid hu5; have HN5 := hid hn5; clear hq5 hu5 hn5 H5))
          go_roundw
          case rel =>
            have hsW := HU5.out.size
            exact ⟨i + 1, by go_num, by omega, hid ⟨F5, N5, HQ5.out, fun x hx => by
              rcases HN5.out x hx with h | h
              · exact HN0.out x h
              · right; omega⟩, hid (HU5.out.own HOA.out (fun k hk hx => by
              have e : g9 = k := by simpa [Value.ownBlock] using hk
              rcases HN0.out k hx with h | h <;> omega)), by omega⟩
          case measure => simp [intOf]; omega
        | false =>
          have hop : ¬ op2.tmod 5 = 4 := of_decide_eq_false gkb.symm
          have hopb : (op2.tmod 5 == 4) = false := by simpa using hop
          have kC := hid (crg_put Wb.heap.size Wb W cp p 80 F N0 _ e2 HQW.out HT.out HR.out hTl (by omega) HEW.out)
          clear gkb
          go_wp2_with (first | (go_at_call 13; refine kC.out.mono ?_; rintro r w5 h5; have H5 := hid h5; clear h5 kC; obtain ⟨code, F5, N5, rfl, hq5, hu5, hn5⟩ := H5.out; have HQ5 := hid hq5; have HU5 := hid hu5; have HN5 := hid hn5; clear hq5 hu5 hn5 H5))
          go_roundw
          case rel =>
            have hsW := HU5.out.size
            exact ⟨i + 1, by go_num, by omega, hid ⟨F5, N5, HQ5.out, fun x hx => by
              rcases HN5.out x hx with h | h
              · exact HN0.out x h
              · right; omega⟩, hid (HU5.out.own HOA.out (fun k hk hx => by
              have e : g9 = k := by simpa [Value.ownBlock] using hk
              rcases HN0.out k hx with h | h <;> omega)), by omega⟩
          case measure => simp [intOf]; omega
      · obtain rfl : i = m := by omega
        clear hlt
        go_upto_region 10 with fail
        rw [← GW.out]
        clear f0 f1 f2 f3 f4 f5 c0 c1 c2 c3 c4 c5
        have hqW := HQW.out
        obtain ⟨S, hk⟩ := hqW.crk
        have HK := hid hk
        have hNl := hqW.lt
        have HNL := hid hNl
        have kA := hid (ca_all W cp F N0 hNl hqW.ca)
        clear hqW hk hNl HQW HOA HN0 HW HEW GW
        go_upto_region 16 with (first | (go_at_call 27; refine kA.out.mono ?_; rintro r w3 h3; have H3 := hid h3; clear h3 kA; obtain ⟨v3, L3, rfl, hk3, hl3, hm3, he3, hb3⟩ := H3.out; have HK3 := hid hk3; have HL3 := hid hl3; have HM3 := hid hm3; have HE3 := hid he3; have HB3 := hid hb3; clear hk3 hl3 hm3 he3 hb3 H3))
        have HK3' := hid (HK.out.below HB3.out)
        have kI := hid (crk_image Wb.heap.size Wb w3 cp p 80 S F N0 HK3'.out)
        go_upto_region 17 with (first | (go_at_call 28; refine kI.out.mono ?_; rintro r w4 h4; have H4 := hid h4; clear h4 kI; obtain ⟨g1, rfl, hp1, hg1, hb4⟩ := H4.out; have HP1 := hid hp1; have HG1 := hid hg1; have HB4 := hid hb4; clear hp1 hg1 hb4 H4))
        have HK4 := hid (HK3'.out.below HB4.out)
        have hbel4 := HK4.out.cr.bel
        have f0 : w4.cell? ⟨w.heap.size, 0, none⟩ = some (.int .i64 op) := heap_cells (HBOX.out w4 hbel4) 0 _ rfl
        have f1 : w4.cell? ⟨w.heap.size, 1, none⟩ = some (.string ks) := heap_cells (HBOX.out w4 hbel4) 1 _ rfl
        have f2 : w4.cell? ⟨w.heap.size, 2, none⟩ = some (.string gs) := heap_cells (HBOX.out w4 hbel4) 2 _ rfl
        have f3 : w4.cell? ⟨w.heap.size, 3, none⟩ = some (.slice pa pn pc) := heap_cells (HBOX.out w4 hbel4) 3 _ rfl
        have f4 : w4.cell? ⟨w.heap.size, 4, none⟩ = some (.int .i64 fx) := heap_cells (HBOX.out w4 hbel4) 4 _ rfl
        have f5 : w4.cell? ⟨w.heap.size, 5, none⟩ = some (.slice qa qn qc) := heap_cells (HBOX.out w4 hbel4) 5 _ rfl
        have kP := hid (crk_put Wb.heap.size Wb w4 cp p 80 S F N0 _ e HK4.out HT.out HR.out hTl (by omega) (HEV.out w4 hbel4))
        have kD := hid (crk_del Wb.heap.size Wb w4 cp p 80 S F N0 ks HK4.out HT.out HR.out hTl (by omega))
        have HFS := hid HK4.out.facts
        have hs3 := HB3.out.size
        have hs4 := HB4.out.size
        clear hbel4 HK HK3' HK4
        obtain ⟨kb4, gkb⟩ : ∃ kb4 : Bool, kb4 = decide (op.tmod 5 = 4) := ⟨_, rfl⟩
        cases kb4 with
        | true =>
          have hop : op.tmod 5 = 4 := of_decide_eq_true gkb.symm
          clear gkb
          go_upto_region 20 with (first | (go_at_call 16; refine kD.out.mono ?_; rintro r w5 h5; have H5 := hid h5; clear h5 kP kD; obtain ⟨code, d5, S5, F5, rfl, hj5, hr5, hca5, hok5, hu5, hb5, hB5, hc5⟩ := H5.out; have HJ5 := hid hj5; have HRE5 := hid hr5; have HCA5 := hid hca5; have HOK5 := hid hok5; have HU5 := hid hu5; have HB5 := hid hb5; have HC5 := hid hc5; clear hj5 hr5 hca5 hok5 hu5 hb5 hB5 hc5 H5))
          clear f0 f1 f2 f3 f4 f5
          have HE5 := hid (((HE3.out.below HB4.out).upd HU5.out HNL.out).els)
          have HP5 := hid (HP1.out.later HU5.out HG1.out (fun x hx => Nat.lt_of_lt_of_le (HNL.out x hx) hs3))
          have kN := hid (ca_all w5 cp F5 [] (fun x hx => by simp at hx) HCA5.out)
          go_upto_region 23 with (first | (go_at_call 27; refine kN.out.mono ?_; rintro r w6 h6; have H6 := hid h6; clear h6 kN; obtain ⟨v6, L6, rfl, hk6, hl6, hm6, he6, hb6⟩ := H6.out; have HK6 := hid hk6; have HL6 := hid hl6; have HM6 := hid hm6; have HE6 := hid he6; have HB6 := hid hb6; clear hk6 hl6 hm6 he6 hb6 H6))
          have HJ6 := hid (HJ5.out.below HB6.out)
          have kI2 := hid (jd_image d5 p 80 S5 w6 [] HJ6.out HRE5.out (fun x hx => by simp at hx))
          go_upto_region 26 with (first | (go_at_call 28; refine kI2.out.mono ?_; rintro r w7 h7; have H7 := hid h7; clear h7 kI2; obtain ⟨g2, rfl, hp2, hg2, hb7⟩ := H7.out; have HP2 := hid hp2; have HB7 := hid hb7; clear hp2 hg2 hb7 H7))
          have hb67 := HB6.out.trans (HB7.out.mono HB6.out.size)
          have HP7 := hid (HP5.out.below hb67)
          have HE7 := hid (HE5.out.below hb67)
          have HE67 := hid (HE6.out.els.below HB7.out)
          have HBX7 : Hid (Below Wb.heap.size Wb w7) := hid (HB5.out.trans (hb67.mono HB5.out.size))
          clear hb67
          rcases HC5.out with ⟨hc0, j, hj, hne⟩ | ⟨hsm, hmix⟩
          · subst hc0
            have kS := hid (fun wx (hb : Below w7.heap.size w7 wx) => heads_no g1 g2 S S5 _ _ wx (HP7.out.below hb) (HP2.out.below hb) HFS.out.2.1 HJ5.out.byt j hj hne)
            go_region_held3 (fun _ => True) (trivial) (first | (go_at_call 29; refine (kS.out _ (by first | exact Below.refl _ _ | exact below_drewN (Below.refl _ _) 1)).mono ?_; rintro r wx ⟨rfl, h⟩; subst wx))
            go_wp2_with fail
            go_ret
            exact ⟨rfl, by first | exact HBB.out.trans (HBX7.out.mono HBB.out.size) | exact below_drewN (HBB.out.trans (HBX7.out.mono HBB.out.size)) 1⟩
          · have kS := hid (fun wx (hb : Below w7.heap.size w7 wx) => heads_same g1 g2 S S5 _ _ wx (HP7.out.below hb) (HP2.out.below hb) hsm)
            have HMX := hid hmix
            have kX : Hid (∀ wx, Below w7.heap.size w7 wx → Calls Tryz.prog 31 #[.slice (some ⟨g1, 0, none⟩) 80 80, .slice (some ⟨g2, 0, none⟩) 80 80, .int .u64 mask, .int .i64 torn] wx fun e w' => ∃ v, e = .returned v ∧ MixP w7 80 S S5 v w') := hid (fun wx hb => (mixed_any g1 g2 80 80 80 S S5 _ _ mask torn wx (HP7.out.below hb) (HP2.out.below hb) (by omega) (by omega)).mono (fun e w' h => by
              obtain ⟨v, h1, T, h2, h3, h4⟩ := h
              exact ⟨v, h1, T, h2, h3, hb.trans (h4.mono hb.size)⟩))
            clear hsm hmix HC5
            go_region_held3 (fun _ => True) (trivial) (first | (go_at_call 29; refine (kS.out _ (by first | exact Below.refl _ _ | exact below_drewN (Below.refl _ _) 1)).mono ?_; rintro r wx ⟨rfl, h⟩; subst wx))
            go_upto_region 29 with (first
              | (go_at_call 31; refine (kX.out _ (by first | exact Below.refl _ _ | exact below_drewN (Below.refl _ _) 1)).mono ?_; rintro r w8 ⟨v8, rfl, h8⟩; have H8 := hid h8; clear h8 kX; obtain ⟨T, hpT, hTT, hb8⟩ := H8.out; obtain ⟨a8, c8, e8, hc81, hc82, him8⟩ := hpT.img; subst e8; have HTT : Hid (Mxd S S5 T) := hid hTT; have kO := hid (of_case a8 c8 T w8 him8 hc81 hc82 (HTT.out.len HFS.out.2.2 HJ5.out.all) (HTT.out.byt HFS.out.2.1 HJ5.out.byt)); have HB8 := hid hb8; clear hpT hTT hb8 him8 H8)
              | (go_at_call 30; refine kO.out.mono ?_; rintro r w9 h9; have H9 := hid h9; clear h9 kO; obtain ⟨q9, d9, rfl, hj9, hr9, hf9, hb9⟩ := H9.out; have HJ9 := hid hj9; have HR9 := hid hr9; have HF9 := hid hf9; have HB9 := hid hb9; clear hj9 hr9 hf9 hb9 H9))
            obtain ⟨FT, gFT⟩ : ∃ FT, FT = replay (opened 80 T).1 := ⟨_, rfl⟩
            have hcase := HMX.out T HTT.out
            rw [← gFT] at hcase
            have hFok : FT.ok := by
              rcases hcase with h | h
              · rw [h]; exact HFS.out.1
              · rw [h]; exact HOK5.out
            have hbx8 : Below Wb.heap.size Wb w8 := HBX7.out.trans (HB8.out.mono HBX7.out.size)
            have hbx9 : Below Wb.heap.size Wb w9 := hbx8.trans (HB9.out.mono hbx8.size)
            have hs8 := hbx8.size
            have kG := hid (cr_again Wb.heap.size w8 w9 80 q9 FT d9 T HJ9.out HR9.out gFT.symm hFok HF9.out HB9.out (tab_in HT.out hbx9 hTl) (by omega) (by omega))
            have HCASE := hid hcase
            have HBX8 := hid hbx8
            clear gFT hcase hFok hbx8 hbx9 HJ9 HR9 HF9 HTT HMX
            go_upto_region 34 with (first | (go_at_call 10; refine kG.out.mono ?_; rintro r w10 h10; have H10 := hid h10; clear h10 kG; obtain ⟨cp10, rfl, hca10, hb10⟩ := H10.out; have HCA10 := hid hca10; have HB10 := hid hb10; clear hca10 hb10 H10))
            have kT := hid (ca_all w10 cp10 FT [] (fun x hx => by simp at hx) HCA10.out)
            go_upto_region 35 with (first | (go_at_call 27; refine kT.out.mono ?_; rintro r w11 h11; have H11 := hid h11; clear h11 kT; obtain ⟨v11, L11, rfl, hk11, hl11, hm11, he11, hb11⟩ := H11.out; have HK11 := hid hk11; have HL11 := hid hl11; have HM11 := hid hm11; have HE11 := hid he11.els; have HB11 := hid hb11; clear hk11 hl11 hm11 he11 hb11 H11))
            have hb811 : Below w8.heap.size w8 w11 := HB10.out.trans (HB11.out.mono HB10.out.size)
            have hb711 : Below w7.heap.size w7 w11 := HB8.out.trans (hb811.mono HB8.out.size)
            have HX11 : Hid (Below Wb.heap.size Wb w11) := hid (HBX7.out.trans (hb711.mono HBX7.out.size))
            have HEa := hid (HE7.out.below hb711)
            have HEb := hid (HE67.out.below hb711)
            clear hb811 hb711
            rcases HCASE.out with hF | hF
            · rw [hF] at HK11
              have hLL : L11 = L3 := HK11.out.unique HK3.out
              subst hLL
              have kS1 := hid (same_ents _ _ v11 v3 L11 w11 HE11.out HEa.out HL3.out HM3.out)
              go_wp2_with (first | (go_at_call 32; refine kS1.out.mono ?_; rintro r w12 ⟨rfl, hb12⟩; have HB12 := hid hb12; clear hb12 kS1))
              go_ret
              exact ⟨rfl, HBB.out.trans ((HX11.out.trans (HB12.out.mono HX11.out.size)).mono HBB.out.size)⟩
            · rw [hF] at HK11
              have hLL : L11 = L6 := HK11.out.unique HK6.out
              subst hLL
              have kS1 := hid (ents_any _ _ v11 v3 L11 L3 w11 HE11.out HEa.out HL11.out HL3.out HM11.out HM3.out)
              have kS2 := hid (fun wx (hb : Below w11.heap.size w11 wx) => same_ents _ _ v11 v6 L11 wx (HE11.out.below hb) (HEb.out.below hb) HL11.out HM11.out)
              go_wp2_with (first | (go_at_call 32; refine kS1.out.mono ?_; rintro r w12 ⟨B12, rfl, hb12⟩; have HB12 := hid hb12; clear hb12 kS1; cases B12) | (go_at_call 32; refine (kS2.out _ HB12.out).mono ?_; rintro r w13 ⟨rfl, hb13⟩; have HB13 := hid (HB12.out.trans (hb13.mono HB12.out.size)); clear hb13 kS2))
              all_goals first
                | (go_ret; exact ⟨rfl, HBB.out.trans ((HX11.out.trans (HB13.out.mono HX11.out.size)).mono HBB.out.size)⟩)
                | (go_ret; exact ⟨rfl, HBB.out.trans ((HX11.out.trans (HB12.out.mono HX11.out.size)).mono HBB.out.size)⟩)
                | (go_wp2_with (first | (go_at_call 32; refine (kS2.out _ HB12.out).mono ?_; rintro r w13 ⟨rfl, hb13⟩; have HB13 := hid (HB12.out.trans (hb13.mono HB12.out.size)); clear hb13 kS2))
                   go_ret
                   first | exact ⟨rfl, HBB.out.trans ((HX11.out.trans (HB13.out.mono HX11.out.size)).mono HBB.out.size)⟩ | exact ⟨rfl, HBB.out.trans ((HX11.out.trans (HB12.out.mono HX11.out.size)).mono HBB.out.size)⟩)
        | false =>
          have hop : ¬ op.tmod 5 = 4 := of_decide_eq_false gkb.symm
          have hopb : (op.tmod 5 == 4) = false := by simpa using hop
          clear gkb
          go_upto_region 20 with (first | (go_at_call 13; refine kP.out.mono ?_; rintro r w5 h5; have H5 := hid h5; clear h5 kP kD; obtain ⟨code, d5, S5, F5, rfl, hj5, hr5, hca5, hok5, hu5, hb5, hB5, hc5⟩ := H5.out; have HJ5 := hid hj5; have HRE5 := hid hr5; have HCA5 := hid hca5; have HOK5 := hid hok5; have HU5 := hid hu5; have HB5 := hid hb5; have HC5 := hid hc5; clear hj5 hr5 hca5 hok5 hu5 hb5 hB5 hc5 H5))
          clear f0 f1 f2 f3 f4 f5
          have HE5 := hid (((HE3.out.below HB4.out).upd HU5.out HNL.out).els)
          have HP5 := hid (HP1.out.later HU5.out HG1.out (fun x hx => Nat.lt_of_lt_of_le (HNL.out x hx) hs3))
          have kN := hid (ca_all w5 cp F5 [] (fun x hx => by simp at hx) HCA5.out)
          go_upto_region 23 with (first | (go_at_call 27; refine kN.out.mono ?_; rintro r w6 h6; have H6 := hid h6; clear h6 kN; obtain ⟨v6, L6, rfl, hk6, hl6, hm6, he6, hb6⟩ := H6.out; have HK6 := hid hk6; have HL6 := hid hl6; have HM6 := hid hm6; have HE6 := hid he6; have HB6 := hid hb6; clear hk6 hl6 hm6 he6 hb6 H6))
          have HJ6 := hid (HJ5.out.below HB6.out)
          have kI2 := hid (jd_image d5 p 80 S5 w6 [] HJ6.out HRE5.out (fun x hx => by simp at hx))
          go_upto_region 26 with (first | (go_at_call 28; refine kI2.out.mono ?_; rintro r w7 h7; have H7 := hid h7; clear h7 kI2; obtain ⟨g2, rfl, hp2, hg2, hb7⟩ := H7.out; have HP2 := hid hp2; have HB7 := hid hb7; clear hp2 hg2 hb7 H7))
          have hb67 := HB6.out.trans (HB7.out.mono HB6.out.size)
          have HP7 := hid (HP5.out.below hb67)
          have HE7 := hid (HE5.out.below hb67)
          have HE67 := hid (HE6.out.els.below HB7.out)
          have HBX7 : Hid (Below Wb.heap.size Wb w7) := hid (HB5.out.trans (hb67.mono HB5.out.size))
          clear hb67
          rcases HC5.out with ⟨hc0, j, hj, hne⟩ | ⟨hsm, hmix⟩
          · subst hc0
            have kS := hid (fun wx (hb : Below w7.heap.size w7 wx) => heads_no g1 g2 S S5 _ _ wx (HP7.out.below hb) (HP2.out.below hb) HFS.out.2.1 HJ5.out.byt j hj hne)
            go_region_held3 (fun _ => True) (trivial) (first | (go_at_call 29; refine (kS.out _ (by first | exact Below.refl _ _ | exact below_drewN (Below.refl _ _) 1)).mono ?_; rintro r wx ⟨rfl, h⟩; subst wx))
            go_wp2_with fail
            go_ret
            exact ⟨rfl, by first | exact HBB.out.trans (HBX7.out.mono HBB.out.size) | exact below_drewN (HBB.out.trans (HBX7.out.mono HBB.out.size)) 1⟩
          · have kS := hid (fun wx (hb : Below w7.heap.size w7 wx) => heads_same g1 g2 S S5 _ _ wx (HP7.out.below hb) (HP2.out.below hb) hsm)
            have HMX := hid hmix
            have kX : Hid (∀ wx, Below w7.heap.size w7 wx → Calls Tryz.prog 31 #[.slice (some ⟨g1, 0, none⟩) 80 80, .slice (some ⟨g2, 0, none⟩) 80 80, .int .u64 mask, .int .i64 torn] wx fun e w' => ∃ v, e = .returned v ∧ MixP w7 80 S S5 v w') := hid (fun wx hb => (mixed_any g1 g2 80 80 80 S S5 _ _ mask torn wx (HP7.out.below hb) (HP2.out.below hb) (by omega) (by omega)).mono (fun e w' h => by
              obtain ⟨v, h1, T, h2, h3, h4⟩ := h
              exact ⟨v, h1, T, h2, h3, hb.trans (h4.mono hb.size)⟩))
            clear hsm hmix HC5
            go_region_held3 (fun _ => True) (trivial) (first | (go_at_call 29; refine (kS.out _ (by first | exact Below.refl _ _ | exact below_drewN (Below.refl _ _) 1)).mono ?_; rintro r wx ⟨rfl, h⟩; subst wx))
            go_upto_region 29 with (first
              | (go_at_call 31; refine (kX.out _ (by first | exact Below.refl _ _ | exact below_drewN (Below.refl _ _) 1)).mono ?_; rintro r w8 ⟨v8, rfl, h8⟩; have H8 := hid h8; clear h8 kX; obtain ⟨T, hpT, hTT, hb8⟩ := H8.out; obtain ⟨a8, c8, e8, hc81, hc82, him8⟩ := hpT.img; subst e8; have HTT : Hid (Mxd S S5 T) := hid hTT; have kO := hid (of_case a8 c8 T w8 him8 hc81 hc82 (HTT.out.len HFS.out.2.2 HJ5.out.all) (HTT.out.byt HFS.out.2.1 HJ5.out.byt)); have HB8 := hid hb8; clear hpT hTT hb8 him8 H8)
              | (go_at_call 30; refine kO.out.mono ?_; rintro r w9 h9; have H9 := hid h9; clear h9 kO; obtain ⟨q9, d9, rfl, hj9, hr9, hf9, hb9⟩ := H9.out; have HJ9 := hid hj9; have HR9 := hid hr9; have HF9 := hid hf9; have HB9 := hid hb9; clear hj9 hr9 hf9 hb9 H9))
            obtain ⟨FT, gFT⟩ : ∃ FT, FT = replay (opened 80 T).1 := ⟨_, rfl⟩
            have hcase := HMX.out T HTT.out
            rw [← gFT] at hcase
            have hFok : FT.ok := by
              rcases hcase with h | h
              · rw [h]; exact HFS.out.1
              · rw [h]; exact HOK5.out
            have hbx8 : Below Wb.heap.size Wb w8 := HBX7.out.trans (HB8.out.mono HBX7.out.size)
            have hbx9 : Below Wb.heap.size Wb w9 := hbx8.trans (HB9.out.mono hbx8.size)
            have hs8 := hbx8.size
            have kG := hid (cr_again Wb.heap.size w8 w9 80 q9 FT d9 T HJ9.out HR9.out gFT.symm hFok HF9.out HB9.out (tab_in HT.out hbx9 hTl) (by omega) (by omega))
            have HCASE := hid hcase
            have HBX8 := hid hbx8
            clear gFT hcase hFok hbx8 hbx9 HJ9 HR9 HF9 HTT HMX
            go_upto_region 34 with (first | (go_at_call 10; refine kG.out.mono ?_; rintro r w10 h10; have H10 := hid h10; clear h10 kG; obtain ⟨cp10, rfl, hca10, hb10⟩ := H10.out; have HCA10 := hid hca10; have HB10 := hid hb10; clear hca10 hb10 H10))
            have kT := hid (ca_all w10 cp10 FT [] (fun x hx => by simp at hx) HCA10.out)
            go_upto_region 35 with (first | (go_at_call 27; refine kT.out.mono ?_; rintro r w11 h11; have H11 := hid h11; clear h11 kT; obtain ⟨v11, L11, rfl, hk11, hl11, hm11, he11, hb11⟩ := H11.out; have HK11 := hid hk11; have HL11 := hid hl11; have HM11 := hid hm11; have HE11 := hid he11.els; have HB11 := hid hb11; clear hk11 hl11 hm11 he11 hb11 H11))
            have hb811 : Below w8.heap.size w8 w11 := HB10.out.trans (HB11.out.mono HB10.out.size)
            have hb711 : Below w7.heap.size w7 w11 := HB8.out.trans (hb811.mono HB8.out.size)
            have HX11 : Hid (Below Wb.heap.size Wb w11) := hid (HBX7.out.trans (hb711.mono HBX7.out.size))
            have HEa := hid (HE7.out.below hb711)
            have HEb := hid (HE67.out.below hb711)
            clear hb811 hb711
            rcases HCASE.out with hF | hF
            · rw [hF] at HK11
              have hLL : L11 = L3 := HK11.out.unique HK3.out
              subst hLL
              have kS1 := hid (same_ents _ _ v11 v3 L11 w11 HE11.out HEa.out HL3.out HM3.out)
              go_wp2_with (first | (go_at_call 32; refine kS1.out.mono ?_; rintro r w12 ⟨rfl, hb12⟩; have HB12 := hid hb12; clear hb12 kS1))
              go_ret
              exact ⟨rfl, HBB.out.trans ((HX11.out.trans (HB12.out.mono HX11.out.size)).mono HBB.out.size)⟩
            · rw [hF] at HK11
              have hLL : L11 = L6 := HK11.out.unique HK6.out
              subst hLL
              have kS1 := hid (ents_any _ _ v11 v3 L11 L3 w11 HE11.out HEa.out HL11.out HL3.out HM11.out HM3.out)
              have kS2 := hid (fun wx (hb : Below w11.heap.size w11 wx) => same_ents _ _ v11 v6 L11 wx (HE11.out.below hb) (HEb.out.below hb) HL11.out HM11.out)
              go_wp2_with (first | (go_at_call 32; refine kS1.out.mono ?_; rintro r w12 ⟨B12, rfl, hb12⟩; have HB12 := hid hb12; clear hb12 kS1; cases B12) | (go_at_call 32; refine (kS2.out _ HB12.out).mono ?_; rintro r w13 ⟨rfl, hb13⟩; have HB13 := hid (HB12.out.trans (hb13.mono HB12.out.size)); clear hb13 kS2))
              all_goals first
                | (go_ret; exact ⟨rfl, HBB.out.trans ((HX11.out.trans (HB13.out.mono HX11.out.size)).mono HBB.out.size)⟩)
                | (go_ret; exact ⟨rfl, HBB.out.trans ((HX11.out.trans (HB12.out.mono HX11.out.size)).mono HBB.out.size)⟩)
                | (go_wp2_with (first | (go_at_call 32; refine (kS2.out _ HB12.out).mono ?_; rintro r w13 ⟨rfl, hb13⟩; have HB13 := hid (HB12.out.trans (hb13.mono HB12.out.size)); clear hb13 kS2))
                   go_ret
                   first | exact ⟨rfl, HBB.out.trans ((HX11.out.trans (HB13.out.mono HX11.out.size)).mono HBB.out.size)⟩ | exact ⟨rfl, HBB.out.trans ((HX11.out.trans (HB12.out.mono HX11.out.size)).mono HBB.out.size)⟩)

end Go.Proofs.YtbgommpdmnbplaaGreatDoor
