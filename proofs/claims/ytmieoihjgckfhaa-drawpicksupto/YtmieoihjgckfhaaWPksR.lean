/- The road of DrawPicks: whatever table, programs, draws and calls came in, the program picks what the document picks. -/
import Derived.Test.YtmieoihjgckfhaaWRPick
import Derived.Deep.RegionHeld3
namespace Go.Proofs.Ytmieoihjgckfhaa
open Go.RowKit
set_option linter.unusedVariables false
set_option maxRecDepth 20000

set_option maxHeartbeats 8000000 in
theorem pks_road (a : Option Addr) (m c : Nat) (a2 : Option Addr) (m2 c2 : Nat) (l : List Ty) (q : List Cl) (w : World) (hT : Tys w a l) (hm : l.length = m) (hmb : m ≤ 9223372036854775807) (hQ : Cls w a2 q) (hq : q.length = m2) (hqb : m2 ≤ 1099511627776) (hcb : ∀ C ∈ q, C.an ≤ 4398046511104) (pa : Option Addr) (pn pc : Nat) (P : List (List Int)) (L : Nat) (hP : Prs w pa pn P) (hL : ∀ p ∈ P, p.length ≤ L) (hLn : pn * L + L ≤ 4611686018427387904) (hpn : pn ≤ 1099511627776)
    (da : Option Addr) (dn dc : Nat) (dl : List Int) (hd : Ilst w da dn dc dl) (hdn : dn ≤ 17592186044416) (ba : Option Addr) (bn bc : Nat) (ks : List Int) (hk : Ilst w ba bn bc ks) (hbn : bn ≤ 17592186044416) :
    Calls Try.prog 5 #[.agg #[.slice a m c, .slice a2 m2 c2], .slice pa pn pc, .slice da dn dc, .slice ba bn bc] w fun e w' => e = .returned (.bool true) ∧ Below w.heap.size w w' := by
  subst hq
  obtain rfl := hd.size
  obtain rfl := hk.size
  obtain ⟨X, gX⟩ : ∃ X, w.alloc (.cells #[.slice a m c, .slice a2 q.length c2] 34) = X := ⟨_, rfl⟩
  have hB : Below w.heap.size w X := by rw [← gX]; exact below_box w _
  have x0 : X.heap[w.heap.size]? = some (.cells #[.slice a m c, .slice a2 q.length c2] 34 (0, 0)) := by rw [← gX]; exact heap_alloc_new _ _
  have hXs : X.heap.size = w.heap.size + 1 := by rw [← gX]; simp
  have c0 : X.cell? ⟨w.heap.size, 0, none⟩ = some (.slice a m c) := cell_of_row _ _ 0 _ _ _ x0
  have c1 : X.cell? ⟨w.heap.size, 1, none⟩ = some (.slice a2 q.length c2) := cell_of_row _ _ 1 _ _ _ x0
  have HY : Hid (∀ W, Below X.heap.size X W → W.cell? ⟨w.heap.size, 0, none⟩ = some (.slice a m c) ∧ W.cell? ⟨w.heap.size, 1, none⟩ = some (.slice a2 q.length c2)) := hid fun W hW =>
    ⟨(hW.cell (p := ⟨w.heap.size, 0, none⟩) (show w.heap.size < X.heap.size by omega)).trans c0, (hW.cell (p := ⟨w.heap.size, 1, none⟩) (show w.heap.size < X.heap.size by omega)).trans c1⟩
  have K1 : Hid (∀ W, W.heap.size = X.heap.size → Below X.heap.size X W → Calls Try.prog 16 #[.agg #[.slice a m c, .slice a2 q.length c2], .slice pa pn pc] W fun e w' => ∃ cs : List Cc, e = .returned (.pointer (some ⟨X.heap.size + 1 + 1, 0, none⟩)) ∧ Cw w' (X.heap.size + 1 + 1 + 1) (X.heap.size + 1 + 1) (X.heap.size + 1) cs ∧ cs.map (fun x => (x.rs, x.ts)) = q.map (mt l) ∧ Mp w' (X.heap.size + 1) (cntA q.length P pn) ∧ Below X.heap.size X w') := hid fun W hs hW => by
    have hb := hB.trans (hW.mono hB.size)
    refine (weigh_any a m c a2 q.length c2 l q W (hT.below hb) hm hmb (hQ.below hb) rfl hqb hcb pa pn pc P L (hP.below hb) hL hLn hpn).mono ?_
    rintro e w' ⟨cs, rfl, h1, h2, h3, h4⟩
    rw [hs] at h1 h3
    exact ⟨cs, by rw [hs], h1, h2, h3, hW.trans (h4.mono hW.size)⟩
  have K2 : Hid (∀ W, Below X.heap.size X W → Calls Try.prog 17 #[.agg #[.slice a m c, .slice a2 q.length c2], .slice pa pn pc] W fun e w' => ∃ p, e = .returned (.pointer (some ⟨p, 0, none⟩)) ∧ Rc w' p a m c a2 q.length c2 pa pn pc l q P ∧ Below W.heap.size W w') := hid fun W hW => by
    have hb := hB.trans (hW.mono hB.size)
    exact rweigh W a m c a2 q.length c2 pa pn pc l q P (hT.below hb) hm hmb (hQ.below hb) rfl hqb (hP.below hb)
  have HT := hid hT
  have HQ := hid hQ
  have HP := hid hP
  have HDL := hid hd
  have HKS := hid hk
  have HB := hid hB
  have GX := hid gX
  have HCB := hid hcb
  have HLL := hid hL
  clear hB gX x0 hXs hT hQ hP hcb hL hd hk
  go_enter Try.func5, Try.ntmps5
  go_wp2_with fail
  rw [GX.out]
  go_region_held3 (fun wx => wx.cell? ⟨w.heap.size, 0, none⟩ = some (.slice a m c) ∧ wx.cell? ⟨w.heap.size, 1, none⟩ = some (.slice a2 q.length c2)) (go_keep) (first
    | (go_at_call 16; refine (K1.out _ (by rfl) (below_hp (Below.refl _ X) (by rfl) (by rfl) (by rfl) (by rfl))).mono ?_; rintro e w1 ⟨cs, rfl, hC, hmap, hM, hb1⟩; have z0 := (HY.out w1 hb1).1; have z1 := (HY.out w1 hb1).2; have HC := hid hC; have HMP := hid hmap; have HM := hid hM; have HB1 := hid hb1; clear hC hmap hM hb1)
    | (go_at_call 17; refine (K2.out _ (below_hp HB1.out (by rfl) (by rfl) (by rfl) (by rfl))).mono ?_; rintro e w3 ⟨p, rfl, hR, hb3⟩; have HB3 : Hid (Below w1.heap.size w1 w3) := hid ((below_hp (Below.refl _ w1) (by rfl) (by rfl) (by rfl) (by rfl)).trans hb3); have HR := hid hR; have y0 := (HY.out w3 (HB1.out.trans (HB3.out.mono HB1.out.size))).1; have y1 := (HY.out w3 (HB1.out.trans (HB3.out.mono HB1.out.size))).2; clear hR hb3))
  have hX3 := HB1.out.trans (HB3.out.mono HB1.out.size)
  have hW3 := HB.out.trans (hX3.mono HB.out.size)
  have k3 := hid (dnew da dl.length dc dl w3 (HDL.out.below hW3) hdn)
  have HX3 := hid hX3
  have HW3 := hid hW3
  clear K1 K2 z0 z1 y0 y1 c0 c1 hX3 hW3
  go_wp2_with fail
  refine k3.out.mono ?_
  rintro e w4 ⟨pd1, rfl, hD4, hb4⟩
  have k4 := hid (rnew da dl.length dc dl w4 (HDL.out.below (HW3.out.trans (hb4.mono HW3.out.size))) hdn)
  have HD4 := hid hD4
  have HB4 := hid hb4
  clear k3 hD4 hb4
  go_wp2_with fail
  refine k4.out.mono ?_
  rintro e w5 ⟨pd2, rfl, hR5, hb5⟩
  have hD5 := HD4.out.below hb5
  have b35 := HB4.out.trans (hb5.mono HB4.out.size)
  have s3 := HB4.out.size
  have s4 := hb5.size
  have sX := HX3.out.size
  have q1 := HD4.out.base
  have q2 := HD4.out.lt
  have q3 := hR5.base
  have q4 := hR5.lt
  have hpl : p < w3.heap.size := (Array.getElem?_eq_some_iff.1 HR.out.blk).1
  have hR5c := HR.out.below b35
  have hX5 := HX3.out.trans (b35.mono HX3.out.size)
  have hW5 := HW3.out.trans (b35.mono HW3.out.size)
  have KG : Hid (∀ W, Upd (fun x => x = pd1 ∨ x = pd2) w5 W → Rc W p a m c a2 q.length c2 pa pn pc l q P ∧ W.cell? ⟨w.heap.size, 1, none⟩ = some (.slice a2 q.length c2) ∧ Below w.heap.size w W) := hid fun W hW => by
    have h1 : Below X.heap.size X W := hX5.trans (hW.below hX5.size (fun x hx => by omega))
    have h2 : Below w.heap.size w W := HB.out.trans (h1.mono HB.out.size)
    exact ⟨{ hR5c with blk := hW.heap hR5c.blk (fun h => by omega), ty := HT.out.below h2, cl := HQ.out.below h2, pr := HP.out.below h2 }, (HY.out W h1).2, h2⟩
  have hN : cs.length = q.length := by
    have := congrArg List.length HMP.out
    simpa using this
  have hts : ∀ x ∈ cs, x.n ≤ 9223372036854775807 := fun x hx => by
    rcases (HC.out.ok x hx).2 with ⟨_, h⟩ | ⟨g, cp, cur, _, _, _, h1, h2, _⟩
    · omega
    · unfold maxLen at h2; omega
  obtain ⟨F, gF⟩ : ∃ F, cntA q.length P pn = F := ⟨_, rfl⟩
  have KR : Hid (∀ W, Rc W p a m c a2 q.length c2 pa pn pc l q P → ∀ i k, Calls Try.prog 19 #[.pointer (some ⟨p, 0, none⟩), .int .i64 i, .int .i64 k] W fun e w' => e = .returned (.int .i64 (wtC cs F i k)) ∧ Below W.heap.size W w') := hid fun W hW i k => by
    rw [← gF]
    exact rweight_any W p a m c a2 q.length c2 pa pn pc l q P L hW HLL.out hLn hpn HCB.out cs HMP.out i k
  have b15 := Upd.of_below (F := fun _ => False) (HB3.out.trans (b35.mono HB3.out.size))
  have HC5 := hid (HC.out.upd b15 (fun h => h) (fun _ _ _ h => h))
  have HM5 : Hid (Mp w5 (X.heap.size + 1) F) := hid (by rw [← gF]; exact HM.out.upd b15 (fun h => h))
  have HD5 := hid hD5
  have HR5 := hid hR5
  have HNN := hid hN
  have HTS := hid hts
  clear k4 hD5 hR5 hb5 b35 hR5c hX5 hW5 hN hts gF b15 HC HM HR HB1 HB3 HB4 HD4 HX3 HW3 HMP HCB HLL HT HQ HP HDL
  go_wp2_with fail
  go_loopw [31] (fun k wr => ∃ (j u : Nat), j ≤ ks.length ∧ k = .int .i64 j ∧ Hid (Cw wr (X.heap.size + 1 + 1 + 1) (X.heap.size + 1 + 1) (X.heap.size + 1) cs) ∧ Hid (Mp wr (X.heap.size + 1) F) ∧ Hid (Dw wr w3.heap.size pd1 dl u) ∧ Hid (Rw wr w4.heap.size pd2 dl u) ∧ Hid (Upd (fun x => x = pd1 ∨ x = pd2) w5 wr)) (fun k _ => ks.length - (intOf k).toNat)
  case atStart => exact ⟨0, 0, by omega, rfl, HC5, HM5, HD5, HR5, hid (Upd.refl _ _)⟩
  case round =>
    obtain ⟨j, u, hj, rfl, HC, HM, HD, HR, HU⟩ := hrel
    rename World => wr
    obtain ⟨hRc, hy, hbw⟩ := KG.out wr HU.out
    by_cases hjl : j < ks.length
    · obtain ⟨b0, o0, rfl, hbl, hc⟩ := (HKS.out.below hbw).cells (by omega)
      have hcj := hc j hjl
      have hji : (j : Int) < (ks.length : Int) := by omega
      generalize ks.getD j 0 = z at hcj
      obtain ⟨f, gf⟩ : ∃ f : Nat → Int, ∀ k : Nat, f k = wtC cs F z k := ⟨fun k => wtC cs F z k, fun _ => rfl⟩
      have g0 : ∀ k, 0 ≤ f k := fun k => by rw [gf]; exact (wtC_ge cs F z k).1
      have g1 : ∀ k, f k ≤ 25 := fun k => by rw [gf]; exact (wtC_ge cs F z k).2
      have hcl : cs.length ≤ 1099511627776 := by rw [HNN.out]; exact hqb
      by_cases hz : z < (q.length : Int) ∧ 0 < q.length
      · have hpos : 0 < sumW f cs.length := sum_pos cs F z f gf (by rw [HNN.out]; exact hz.1) (by rw [HNN.out]; exact hz.2)
        have k5 := hid (pick_any wr _ _ _ cs F z HC.out HM.out (by omega) hcl HTS.out _ pd1 dl u HD.out f gf hpos)
        rw [HNN.out] at k5 hpos
        have K6 : Hid (∀ W, Upd (· = pd1) wr W → Calls Try.prog 21 #[.pointer (some ⟨p, 0, none⟩), .pointer (some ⟨pd2, 0, none⟩), .int .i64 z] W fun e w' => ∃ b : Nat, e = .returned (.tuple #[.int .i64 b, .bool true]) ∧ b < q.length ∧ sumW f b ≤ nx (sumW f q.length) dl u ∧ nx (sumW f q.length) dl u < sumW f (b + 1) ∧ Rw w' w4.heap.size pd2 dl (nu (sumW f q.length) dl u) ∧ Upd (· = pd2) W w') := hid fun W hW => by
          have hU := HU.out.trans (hW.mono (G := fun x => x = pd1 ∨ x = pd2) (fun _ _ h => .inl h)) (fun _ _ h => h)
          have hRW := (KG.out W hU).1
          refine rpick_any W p w4.heap.size pd2 a2 q.length c2 (cell_of_row _ _ 1 _ _ _ hRW.blk) (Array.getElem?_eq_some_iff.1 hRW.blk).1 (by omega) z hz.1 hz.2 hqb dl u (HR.out.upd hW (fun x h1 h2 => by omega)) f g0 g1 hpos (fun V hV k => ?_)
          rw [gf]
          exact KR.out V (KG.out V (hU.trans (hV.mono (G := fun x => x = pd1 ∨ x = pd2) (fun _ _ h => .inr h)) (fun _ _ h => h))).1 z k
        have HP1 : Hid (∀ b c : Nat, sumW f b ≤ nx (sumW f q.length) dl u → nx (sumW f q.length) dl u < sumW f (b + 1) → sumW f c ≤ nx (sumW f q.length) dl u → nx (sumW f q.length) dl u < sumW f (c + 1) → b = c) := hid fun b c h1 h2 h3 h4 => pick_one f g0 _ b c h1 h2 h3 h4
        generalize nx (sumW f q.length) dl u = r at k5 K6 HP1
        generalize nu (sumW f q.length) dl u = u' at k5 K6
        clear hc hbl hRc hbw hpos hcl hz hy
        go_wp2_with fail
        refine k5.out.mono ?_
        rintro e w6 ⟨b, rfl, hbN, hb1, hb2, hD6, hU6⟩
        have k6 := hid (K6.out w6 hU6)
        have HU6 := hid (HU.out.trans (hU6.mono (G := fun x => x = pd1 ∨ x = pd2) (fun _ _ h => .inl h)) (fun _ _ h => h))
        have HC6 : Hid (Cw w6 (X.heap.size + 1 + 1 + 1) (X.heap.size + 1 + 1) (X.heap.size + 1) cs) := hid (by obtain ⟨_, _, hdb, _⟩ := HD.out.ex; exact HC.out.tag hU6 hdb)
        have HM6 : Hid (Mp w6 (X.heap.size + 1) F) := hid (by obtain ⟨_, _, hdb, _⟩ := HD.out.ex; exact HM.out.tag hU6 hdb)
        have HR6 := hid (HR.out.upd hU6 (fun x h1 h2 => by omega))
        have HD6 := hid hD6
        have HB12 := hid (And.intro hb1 hb2)
        clear k5 K6 hU6 hD6 HC HM HD HR HU hb1 hb2
        go_wp2_with fail
        refine k6.out.mono ?_
        rintro e w7 ⟨b', rfl, hbN', hb1, hb2, hR7, hU7⟩
        obtain rfl : b = b' := HP1.out b b' HB12.out.1 HB12.out.2 hb1 hb2
        have HU7 := hid (HU6.out.trans (hU7.mono (G := fun x => x = pd1 ∨ x = pd2) (fun _ _ h => .inr h)) (fun _ _ h => h))
        have HC7 : Hid (Cw w7 (X.heap.size + 1 + 1 + 1) (X.heap.size + 1 + 1) (X.heap.size + 1) cs) := hid (by obtain ⟨_, _, hdb, _⟩ := HR6.out.ex; exact HC6.out.tagR hU7 hdb)
        have HM7 : Hid (Mp w7 (X.heap.size + 1) F) := hid (by obtain ⟨_, _, hdb, _⟩ := HR6.out.ex; exact HM6.out.tag hU7 hdb)
        have HD7 := hid (HD6.out.upd hU7 (fun x h1 h2 => by omega))
        have HR7 := hid hR7
        have k7 := hid (used_any w7 _ pd1 dl u' HD7.out)
        have k8 := hid (rused_any w7 _ pd2 dl u' HR7.out)
        have hy7 := (KG.out w7 HU7.out).2.1
        have d1 : ¬ (b : Int) < 0 := by omega
        have d2 : ¬ (q.length : Int) ≤ (b : Int) := by omega
        have d3 : ¬ q.length ≤ b := by omega
        clear k6 hU7 hR7 HU6 HC6 HM6 HR6 HD6 HB12 hb1 hb2
        go_wp2_with fail
        refine k7.out.mono ?_
        rintro e w8 ⟨rfl, rfl⟩
        go_wp2_with fail
        refine k8.out.mono ?_
        rintro e w8 ⟨rfl, rfl⟩
        clear k7 k8
        go_wp2_with fail
        go_roundw
        case rel => exact ⟨j + 1, u', by omega, by go_num, HC7, HM7, HD7, HR7, HU7⟩
        case measure => simp [intOf]; omega
      · have hz0 : sumW f cs.length = 0 := sum_zero cs F z f gf (by rw [HNN.out]; exact hz)
        have k5 := hid (pick_zero wr _ _ _ cs F z HC.out HM.out (by omega) hcl HTS.out _ pd1 dl u HD.out f gf hz0)
        have K6 : Hid (∀ W, Below wr.heap.size wr W → Calls Try.prog 21 #[.pointer (some ⟨p, 0, none⟩), .pointer (some ⟨pd2, 0, none⟩), .int .i64 z] W fun e w' => e = .returned (.tuple #[.int .i64 0, .bool false]) ∧ w' = W) := hid fun W hW =>
          rpick_none W p pd2 a2 q.length c2 (cell_of_row _ _ 1 _ _ _ (KG.out W (HU.out.trans (Upd.of_below (F := fun _ => False) hW) (fun _ _ h => h.elim))).1.blk) z hz
        clear hc hbl hRc hbw hcl hz hz0 hy
        go_wp2_with fail
        refine k5.out.mono ?_
        rintro e w6 ⟨rfl, hb6⟩
        have k6 := hid (K6.out w6 hb6)
        have hU6 := Upd.of_below (F := fun _ => False) hb6
        have HU6 := hid (HU.out.trans hU6 (fun _ _ h => h.elim))
        have HC6 := hid (HC.out.upd hU6 (fun h => h) (fun _ _ _ h => h))
        have HM6 := hid (HM.out.upd hU6 (fun h => h))
        have HR6 := hid (HR.out.below hb6)
        have HD6 := hid (HD.out.below hb6)
        have k7 := hid (used_any w6 _ pd1 dl u HD6.out)
        have k8 := hid (rused_any w6 _ pd2 dl u HR6.out)
        clear k5 K6 hU6 hb6 HC HM HD HR HU
        go_wp2_with fail
        refine k6.out.mono ?_
        rintro e w7 ⟨rfl, rfl⟩
        clear k6
        go_wp2_with fail
        refine k7.out.mono ?_
        rintro e w8 ⟨rfl, rfl⟩
        go_wp2_with fail
        refine k8.out.mono ?_
        rintro e w8 ⟨rfl, rfl⟩
        clear k7 k8
        go_wp2_with fail
        go_roundw
        case rel => exact ⟨j + 1, u, by omega, by go_num, HC6, HM6, HD6, HR6, HU6⟩
        case measure => simp [intOf]; omega
    · have hji : ¬ (j : Int) < (ks.length : Int) := by omega
      have HBW := hid hbw
      clear hRc hbw hy
      go_wp2_with fail
      go_ret
      exact ⟨rfl, HBW.out⟩

end Go.Proofs.Ytmieoihjgckfhaa
