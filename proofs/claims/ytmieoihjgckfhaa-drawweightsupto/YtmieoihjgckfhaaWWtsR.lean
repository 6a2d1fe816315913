/- The road of DrawWeights: whatever table and programs came in, the program's weights are the document's. -/
import Derived.Test.YtmieoihjgckfhaaWRAny
import Derived.Deep.RegionHeld3
namespace Go.Proofs.Ytmieoihjgckfhaa
open Go.RowKit
set_option linter.unusedVariables false
set_option maxRecDepth 20000

set_option maxHeartbeats 8000000 in
theorem wts_road (a : Option Addr) (m c : Nat) (a2 : Option Addr) (m2 c2 : Nat) (l : List Ty) (q : List Cl) (w : World) (hT : Tys w a l) (hm : l.length = m) (hmb : m ≤ 9223372036854775807) (hQ : Cls w a2 q) (hq : q.length = m2) (hqb : m2 ≤ 1099511627776) (hcb : ∀ C ∈ q, C.an ≤ 4398046511104) (pa : Option Addr) (pn pc : Nat) (P : List (List Int)) (L : Nat) (hP : Prs w pa pn P) (hL : ∀ p ∈ P, p.length ≤ L) (hLn : pn * L + L ≤ 4611686018427387904) (hpn : pn ≤ 1099511627776) (x y : Int) :
    Calls Try.prog 4 #[.agg #[.slice a m c, .slice a2 m2 c2], .slice pa pn pc, .int .i64 x, .int .i64 y] w fun e w' => e = .returned (.bool true) ∧ Below w.heap.size w w' := by
  subst hq
  obtain ⟨X, gX⟩ : ∃ X, w.alloc (.cells #[.slice a m c, .slice a2 q.length c2] 34) = X := ⟨_, rfl⟩
  have hB : Below w.heap.size w X := by rw [← gX]; exact below_box w _
  have x0 : X.heap[w.heap.size]? = some (.cells #[.slice a m c, .slice a2 q.length c2] 34 (0, 0)) := by rw [← gX]; exact heap_alloc_new _ _
  have hXs : X.heap.size = w.heap.size + 1 := by rw [← gX]; simp
  have c0 : X.cell? ⟨w.heap.size, 0, none⟩ = some (.slice a m c) := cell_of_row _ _ 0 _ _ _ x0
  have c1 : X.cell? ⟨w.heap.size, 1, none⟩ = some (.slice a2 q.length c2) := cell_of_row _ _ 1 _ _ _ x0
  have HY : Hid (∀ W, Below X.heap.size X W → W.cell? ⟨w.heap.size, 0, none⟩ = some (.slice a m c) ∧ W.cell? ⟨w.heap.size, 1, none⟩ = some (.slice a2 q.length c2)) := hid fun W hW =>
    ⟨(hW.cell (p := ⟨w.heap.size, 0, none⟩) (show w.heap.size < X.heap.size by omega)).trans c0, (hW.cell (p := ⟨w.heap.size, 1, none⟩) (show w.heap.size < X.heap.size by omega)).trans c1⟩
  have K1 : Hid (∀ W, W.heap.size = X.heap.size → Below X.heap.size X W → Calls Try.prog 16 #[.agg #[.slice a m c, .slice a2 q.length c2], .slice pa pn pc] W fun e w' => ∃ cs : List Cc, e = .returned (.pointer (some ⟨X.heap.size + 1 + 1, 0, none⟩)) ∧ Cw w' (X.heap.size + 1 + 1 + 1) (X.heap.size + 1 + 1) (X.heap.size + 1) cs ∧ cs.map (fun x => (x.rs, x.ts)) = q.map (mt l) ∧ Mp w' (X.heap.size + 1) (cntA q.length P pn) ∧ Below X.heap.size X w') := hid fun W hs hW => by
    have hb := hB.trans (hW.mono hB.size)
    refine (weigh_any a m c a2 q.length c2 l q W (hT.below hb) hm hmb (hQ.below hb) rfl hqb hcb pa pn pc P L (hP.below hb) hL hLn hpn).mono ?_
    rintro e w' ⟨cs, rfl, h1, h2, h3, h4⟩
    rw [hs] at h1 h3
    exact ⟨cs, by rw [hs], h1, h2, h3, hW.trans (h4.mono hW.size)⟩
  have K2 : Hid (∀ W, Below X.heap.size X W → Calls Try.prog 17 #[.agg #[.slice a m c, .slice a2 q.length c2], .slice pa pn pc] W fun e w' => ∃ p, e = .returned (.pointer (some ⟨p, 0, none⟩)) ∧ Rc w' p a m c a2 q.length c2 pa pn pc l q P ∧ Below W.heap.size W w') := hid fun W hW => by
    have hb := hB.trans (hW.mono hB.size)
    exact rweigh W a m c a2 q.length c2 pa pn pc l q P (hT.below hb) hm hmb (hQ.below hb) rfl hqb (hP.below hb)
  have HB := hid hB
  have GX := hid gX
  have HCB := hid hcb
  have HLL := hid hL
  clear hB gX x0 hXs hT hQ hP hcb hL
  go_enter Try.func4, Try.ntmps4
  go_wp2_with fail
  rw [GX.out]
  go_region_held3 (fun wx => wx.cell? ⟨w.heap.size, 0, none⟩ = some (.slice a m c) ∧ wx.cell? ⟨w.heap.size, 1, none⟩ = some (.slice a2 q.length c2)) (go_keep) (first
    | (go_at_call 16; refine (K1.out _ (by rfl) (below_hp (Below.refl _ X) (by rfl) (by rfl) (by rfl) (by rfl))).mono ?_; rintro e w1 ⟨cs, rfl, hC, hmap, hM, hb1⟩; have z0 := (HY.out w1 hb1).1; have z1 := (HY.out w1 hb1).2; have HC := hid hC; have HMP := hid hmap; have HM := hid hM; have HB1 := hid hb1; clear hC hmap hM hb1)
    | (go_at_call 17; refine (K2.out _ (below_hp HB1.out (by rfl) (by rfl) (by rfl) (by rfl))).mono ?_; rintro e w3 ⟨p, rfl, hR, hb3⟩; have HB3 : Hid (Below w1.heap.size w1 w3) := hid ((below_hp (Below.refl _ w1) (by rfl) (by rfl) (by rfl) (by rfl)).trans hb3); have HR := hid hR; have y0 := (HY.out w3 (HB1.out.trans (HB3.out.mono HB1.out.size))).1; have y1 := (HY.out w3 (HB1.out.trans (HB3.out.mono HB1.out.size))).2; clear hR hb3))
  have hN : cs.length = q.length := by
    have := congrArg List.length HMP.out
    simpa using this
  have hts : ∀ x ∈ cs, x.n ≤ 9223372036854775807 := fun x hx => by
    rcases (HC.out.ok x hx).2 with ⟨_, h⟩ | ⟨g, cp, cur, _, _, _, h1, h2, _⟩
    · omega
    · unfold maxLen at h2; omega
  obtain ⟨V, gV⟩ : ∃ V : Int → Int → Int, ∀ i k, V i k = wtC cs (cntA q.length P pn) i k := ⟨fun i k => wtC cs (cntA q.length P pn) i k, fun _ _ => rfl⟩
  have KC : Hid (∀ W, Below w3.heap.size w3 W → ∀ i k, Calls Try.prog 18 #[.pointer (some ⟨X.heap.size + 1 + 1, 0, none⟩), .int .i64 i, .int .i64 k] W fun e w' => e = .returned (.int .i64 (V i k)) ∧ Below W.heap.size W w') := hid fun W hW i k => by
    have hb := Upd.of_below (F := fun _ => False) (HB3.out.trans (hW.mono HB3.out.size))
    rw [gV]
    exact weight_any W _ _ _ cs _ i k (HC.out.upd hb (fun h => h) (fun _ _ _ h => h)) (HM.out.upd hb (fun h => h)) (by omega) hts
  have KR : Hid (∀ W, Below w3.heap.size w3 W → ∀ i k, Calls Try.prog 19 #[.pointer (some ⟨p, 0, none⟩), .int .i64 i, .int .i64 k] W fun e w' => e = .returned (.int .i64 (V i k)) ∧ Below W.heap.size W w') := hid fun W hW i k => by
    rw [gV]
    exact rweight_any W p a m c a2 q.length c2 pa pn pc l q P L (HR.out.below hW) HLL.out hLn hpn HCB.out cs HMP.out i k
  have HZ : Hid (∀ W, Below w3.heap.size w3 W → W.cell? ⟨w.heap.size, 1, none⟩ = some (.slice a2 q.length c2)) := hid fun W hW =>
    (HY.out W ((HB1.out.trans (HB3.out.mono HB1.out.size)).trans (hW.mono (Nat.le_trans HB1.out.size HB3.out.size)))).2
  have HBW : Hid (Below w.heap.size w w3) := hid (HB.out.trans ((HB1.out.trans (HB3.out.mono HB1.out.size)).mono HB.out.size))
  clear K1 K2 gV hts hN HC HM HMP HR HB1 HB3 HY z0 z1 y0 y1 c0 c1
  go_wp2_with fail
  go_loopw [11] (fun k wr => ∃ z : Int, -1 ≤ z ∧ z ≤ (q.length : Int) + 1 ∧ k = .int .i64 z ∧ Hid (Below w3.heap.size w3 wr)) (fun k _ => ((q.length : Int) + 1 - intOf k).toNat)
  case atStart => exact ⟨-1, by omega, by omega, rfl, hid (Below.refl _ _)⟩
  case round =>
    obtain ⟨z, hz1, hz2, rfl, HW⟩ := hrel
    rename World => wr
    have yr := HZ.out wr HW.out
    by_cases hz : z ≤ (q.length : Int)
    · go_wp2_with fail
      go_loopw [12] (fun k wz => ∃ t : Int, -1 ≤ t ∧ t ≤ (q.length : Int) + 1 ∧ k = .int .i64 t ∧ Hid (Below w3.heap.size w3 wz)) (fun k _ => ((q.length : Int) + 1 - intOf k).toNat)
      case atStart => exact ⟨-1, by omega, by omega, rfl, HW⟩
      case round =>
        obtain ⟨t, ht1, ht2, rfl, HI⟩ := hrel
        rename World => wz
        have yz := HZ.out wz HI.out
        by_cases ht : t ≤ (q.length : Int)
        · have k1 := hid (KC.out wz HI.out z t)
          have k2 : Hid (∀ W, Below w3.heap.size w3 W → Calls Try.prog 19 #[.pointer (some ⟨p, 0, none⟩), .int .i64 z, .int .i64 t] W fun e w' => e = .returned (.int .i64 (V z t)) ∧ Below W.heap.size W w') := hid fun W hW => KR.out W hW z t
          generalize V z t = v at k1 k2
          have hwr : IntKind.i64.wrap (t + 1) = t + 1 := by rw [IntKind.wrap_i64]; omega
          go_wp2_with fail
          refine k1.out.mono ?_
          rintro e w4 ⟨rfl, hb4⟩
          have HB4 := hid (HI.out.trans (hb4.mono HI.out.size))
          have k3 := hid (k2.out w4 HB4.out)
          clear k1 k2 hb4
          go_wp2_with fail
          refine k3.out.mono ?_
          rintro e w5 ⟨rfl, hb5⟩
          have HB5 := hid (HB4.out.trans (hb5.mono HB4.out.size))
          clear k3 hb5
          go_wp2_with fail
          go_roundw
          case rel => exact ⟨t + 1, by omega, by omega, rfl, HB5⟩
          case measure => simp [intOf]; omega
        · have hwr : IntKind.i64.wrap (z + 1) = z + 1 := by rw [IntKind.wrap_i64]; omega
          go_wp2_with fail
          go_roundw
          case rel => exact ⟨z + 1, by omega, by omega, rfl, HI⟩
          case measure => simp [intOf]; omega
    · have k1 := hid (KC.out wr HW.out x y)
      have k2 : Hid (∀ W, Below w3.heap.size w3 W → Calls Try.prog 19 #[.pointer (some ⟨p, 0, none⟩), .int .i64 x, .int .i64 y] W fun e w' => e = .returned (.int .i64 (V x y)) ∧ Below W.heap.size W w') := hid fun W hW => KR.out W hW x y
      generalize V x y = v at k1 k2
      go_wp2_with fail
      refine k1.out.mono ?_
      rintro e w4 ⟨rfl, hb4⟩
      have HB4 := hid (HW.out.trans (hb4.mono HW.out.size))
      have k3 := hid (k2.out w4 HB4.out)
      clear k1 k2 hb4
      go_wp2_with fail
      refine k3.out.mono ?_
      rintro e w5 ⟨rfl, hb5⟩
      have HB5 := hid (HBW.out.trans ((HB4.out.trans (hb5.mono HB4.out.size)).mono HBW.out.size))
      clear k3 hb5
      go_wp2_with fail
      go_ret
      exact ⟨rfl, HB5.out⟩

end Go.Proofs.Ytmieoihjgckfhaa
