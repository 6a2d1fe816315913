/- The road of DrawAll: whatever table, programs and call came in, it returns true, and what was there stays. -/
import Derived.Test.YtmieoihjgckfhaaWPick
import Derived.Test.YtmieoihjgckfhaaWMet
import Derived.Test.YtmieoihjgckfhaaWWeigh2
namespace Go.Proofs.Ytmieoihjgckfhaa
open Go.RowKit
set_option linter.unusedVariables false
set_option maxRecDepth 20000

theorem wtC_one (cs : List Cc) (F : Int → Int → Nat) (a : Int) (b : Nat) (ha : a < cs.length) (hb : b < cs.length) : 1 ≤ wtC cs F a b := by
  have h2 : hasB cs.length (b : Int) = true := by simp [hasB]; omega
  by_cases h : a < 0
  · rw [wtC_neg cs F a b h h2]; omega
  · obtain ⟨x, rfl⟩ : ∃ x : Nat, a = (x : Int) := ⟨a.toNat, by omega⟩
    rw [wtC_pos cs F x b (by omega) hb]
    split <;> omega
theorem sumW_strict (f : Nat → Int) (N : Nat) (h : ∀ k, k < N → 1 ≤ f k) (h0 : ∀ k, 0 ≤ f k) : ∀ i j, i < j → j ≤ N → sumW f i < sumW f j := fun i j hij hj => by
  have h1 := sumW_mono f h0 (i + 1) j (by omega)
  have h2 := h i (by omega)
  simp only [sumW] at h1
  omega

set_option maxHeartbeats 8000000 in
theorem all_road (a : Option Addr) (m c : Nat) (a2 : Option Addr) (m2 c2 : Nat) (l : List Ty) (q : List Cl) (w : World) (hT : Tys w a l) (hm : l.length = m) (hmb : m ≤ 9223372036854775807) (hQ : Cls w a2 q) (hq : q.length = m2) (hqb : m2 ≤ 1099511627776) (hcb : ∀ C ∈ q, C.an ≤ 4398046511104) (pa : Option Addr) (pn pc : Nat) (P : List (List Int)) (L : Nat) (hP : Prs w pa pn P) (hL : ∀ p ∈ P, p.length ≤ L) (hLn : pn * L + L ≤ 4611686018427387904) (hpn : pn ≤ 1099511627776) (n : Int) :
    Calls Try.prog 6 #[.agg #[.slice a m c, .slice a2 m2 c2], .slice pa pn pc, .int .i64 n] w fun e w' => e = .returned (.bool true) ∧ Below w.heap.size w w' := by
  subst hq
  obtain ⟨X, gX⟩ : ∃ X, w.alloc (.cells #[.slice a m c, .slice a2 q.length c2] 34) = X := ⟨_, rfl⟩
  have hB : Below w.heap.size w X := by rw [← gX]; exact below_box w _
  have x0 : X.heap[w.heap.size]? = some (.cells #[.slice a m c, .slice a2 q.length c2] 34 (0, 0)) := by rw [← gX]; exact heap_alloc_new _ _
  have hXs : X.heap.size = w.heap.size + 1 := by rw [← gX]; simp
  have k1 := hid (weigh_any a m c a2 q.length c2 l q X (hT.below hB) hm hmb (hQ.below hB) rfl hqb hcb pa pn pc P L (hP.below hB) hL hLn hpn)
  have HB := hid hB
  have GX := hid gX
  have HX0 := hid x0
  have HXs := hid hXs
  have HCB := hid hcb
  clear hB gX x0 hXs hT hQ hP hcb
  go_enter Try.func6, Try.ntmps6
  go_wp2_with fail
  rw [GX.out]
  refine k1.out.mono ?_
  rintro e w1 ⟨cs, rfl, hC, hmap, hM, hb1⟩
  have hN : cs.length = q.length := by
    have := congrArg List.length hmap
    simpa using this
  have hts : ∀ x ∈ cs, x.n ≤ 9223372036854775807 := fun x hx => by
    rcases (hC.ok x hx).2 with ⟨_, h⟩ | ⟨g, cp, cur, _, _, _, h1, h2, _⟩
    · omega
    · unfold maxLen at h2; omega
  obtain ⟨F, gF⟩ : ∃ F, F = cntA q.length P pn := ⟨_, rfl⟩
  rw [← gF] at hM
  obtain ⟨f, gf⟩ : ∃ f : Nat → Int, ∀ k : Nat, f k = wtC cs F n k := ⟨fun k => wtC cs F n k, fun _ => rfl⟩
  have g0 : ∀ k, 0 ≤ f k := fun k => by rw [gf]; exact (wtC_ge cs F n k).1
  have g1 : ∀ k, f k ≤ 25 := fun k => by rw [gf]; exact (wtC_ge cs F n k).2
  have HS := hid (sumW_ge f g0 g1)
  have KC : Hid (∀ W, Below w1.heap.size w1 W → Cw W (X.heap.size + 1 + 1 + 1) (X.heap.size + 1 + 1) (X.heap.size + 1) cs ∧ Mp W (X.heap.size + 1) F) := hid fun W hW =>
    ⟨hC.upd (Upd.of_below (F := fun _ => False) hW) (fun h => h) (fun _ _ _ h => h), hM.upd (Upd.of_below (F := fun _ => False) hW) (fun h => h)⟩
  have KW : Hid (∀ W, Below w1.heap.size w1 W → ∀ k : Nat, Calls Try.prog 18 #[.pointer (some ⟨X.heap.size + 1 + 1, 0, none⟩), .int .i64 n, .int .i64 (k : Int)] W fun e w' => e = .returned (.int .i64 (f k)) ∧ Below W.heap.size W w') := hid fun W hW k => by
    rw [gf]
    exact weight_any W _ _ _ cs F n k (KC.out W hW).1 (KC.out W hW).2 (by omega) hts
  have HY : Hid (∀ W, Below w1.heap.size w1 W → W.cell? ⟨w.heap.size, 1, none⟩ = some (.slice a2 q.length c2)) := hid fun W hW => by
    have h1 := HXs.out
    have h2 := hb1.size
    exact (hW.cell (p := ⟨w.heap.size, 1, none⟩) (show w.heap.size < w1.heap.size by omega)).trans ((hb1.cell (p := ⟨w.heap.size, 1, none⟩) (show w.heap.size < X.heap.size by omega)).trans (cell_of_row _ _ 1 _ _ _ HX0.out))
  have HBW : Hid (Below w.heap.size w w1) := hid (HB.out.trans (hb1.mono HB.out.size))
  have y1 := HY.out w1 (Below.refl _ _)
  have HGF := hid gf
  have HTS := hid hts
  have HNN := hid hN
  have hpX : X.heap.size + 1 + 1 < w1.heap.size := hC.pl
  clear k1 hC hmap hM hb1 gF gf hts
  by_cases h64 : 64 < q.length
  · have h64' : (64 : Int) < (q.length : Int) := by omega
    go_wp2_with fail
    go_ret
    exact ⟨rfl, HBW.out⟩
  · have h64' : ¬ (64 : Int) < (q.length : Int) := by omega
    by_cases hn : (q.length : Int) ≤ n
    · go_wp2_with fail
      go_ret
      exact ⟨rfl, HBW.out⟩
    · have H1 : Hid (∀ k, k < q.length → 1 ≤ f k) := hid fun k hk => by rw [HGF.out]; exact wtC_one cs F n k (by rw [HNN.out]; omega) (by rw [HNN.out]; exact hk)
      have hmm := @run_makeMap Try.prog
      go_wp2_with fail
      go_loopw [8, 31] (fun v k wr => ∃ i : Nat, i ≤ q.length ∧ k = .int .i64 i ∧ v = .int .i64 (sumW f i) ∧ Hid (Below w1.heap.size w1 wr)) (fun _ k _ => q.length - (intOf k).toNat)
      case atStart => exact ⟨0, by omega, rfl, rfl, hid (Below.refl _ _)⟩
      case round =>
        obtain ⟨i, hi, rfl, rfl, HW⟩ := hrel
        rename World => wr
        by_cases hlt : i < q.length
        · have k3 := hid (KW.out wr HW.out i)
          have hs1 := HS.out i
          have HE : Hid (sumW f (i + 1) = sumW f i + f i) := hid rfl
          have hfi := g0 i
          have hfj := g1 i
          generalize f i = fi at k3 HE hfi hfj
          generalize sumW f i = si at HE hs1 ⊢
          have hwr : IntKind.i64.wrap (si + fi) = si + fi := by rw [IntKind.wrap_i64]; omega
          go_wp2_with fail
          refine k3.out.mono ?_
          rintro e w3 ⟨rfl, hb3⟩
          have HB3 := hid (HW.out.trans (hb3.mono HW.out.size))
          clear k3 hb3
          go_wp2_with fail
          go_roundw
          case rel => exact ⟨i + 1, by omega, by go_num, by rw [HE.out], HB3⟩
          case measure => simp [intOf]; omega
        · have hge : ¬ (i : Int) < (q.length : Int) := by omega
          have hiN : i = q.length := by omega
          have HIN := hid hiN
          obtain ⟨S, gS⟩ : ∃ S, sumW f i = S := ⟨_, rfl⟩
          have hS := HS.out i
          rw [gS] at hS ⊢
          have GS := hid gS
          have hSb : S ≤ 1600 := by omega
          obtain ⟨Z, gZ⟩ : ∃ Z, wr.alloc (.map #[] 0) = Z := ⟨_, rfl⟩
          have bZ : Below wr.heap.size wr Z := by rw [← gZ]; exact below_box wr _
          have HZ : Hid (Below w1.heap.size w1 Z) := hid (HW.out.trans (bZ.mono HW.out.size))
          have HZM : Hid (Z.heap[wr.heap.size]? = some (.map (Es 0) 0)) := hid (by rw [← gZ]; exact heap_alloc_new _ _)
          have hws := HW.out.size
          have GZ := hid gZ
          clear gS gZ bZ hiN hi hlt
          go_wp2_with fail
          rw [GZ.out]
          go_loopw [43] (fun k wz => ∃ (j kk : Nat), (j : Int) ≤ S ∧ k = .int .i64 j ∧ kk ≤ q.length ∧ Hid ((j : Int) ≤ sumW f kk) ∧ Hid (kk = 0 → j = 0) ∧ Hid (0 < kk → sumW f (kk - 1) < (j : Int)) ∧ Hid (wz.heap[wr.heap.size]? = some (.map (Es kk) kk)) ∧ Hid (Below w1.heap.size w1 wz)) (fun k _ => S.toNat - (intOf k).toNat)
          case atStart => exact ⟨0, 0, by omega, rfl, by omega, hid (by simp [sumW]), hid (fun _ => rfl), hid (fun h => by omega), HZM, HZ⟩
          case round =>
            obtain ⟨j, kk, hj, rfl, hkk, Ha, Hb, Hc, Hm, HQ⟩ := hrel
            rename World => wz
            by_cases hjS : (j : Int) < S
            · have b1 := below_box wz (.cells #[.int .i64 (j : Int)] 3)
              have k4 := hid (dnew (some ⟨wz.heap.size, 0, none⟩) 1 1 [(j : Int)] _ (one_ilst' wz j) (by omega))
              have HB1 := hid (HQ.out.trans (b1.mono HQ.out.size))
              have HM1 : Hid ((wz.alloc (.cells #[.int .i64 (j : Int)] 3)).heap[wr.heap.size]? = some (.map (Es kk) kk)) := hid ((b1.block _ (Array.getElem?_eq_some_iff.1 Hm.out).1).trans Hm.out)
              clear b1
              go_wp2_with fail
              refine k4.out.mono ?_
              rintro e w4 ⟨pd, rfl, hD, hb4⟩
              have HB4 := hid (HB1.out.trans (hb4.mono HB1.out.size))
              have hM4 := (hb4.block _ (Array.getElem?_eq_some_iff.1 HM1.out).1).trans HM1.out
              obtain ⟨hC4, hMp4⟩ := KC.out w4 HB4.out
              have hSN : sumW f cs.length = S := by rw [HNN.out, ← HIN.out]; exact GS.out
              have k5 := hid (pick_any w4 _ _ _ cs F n hC4 hMp4 (by omega) (by rw [HNN.out]; omega) HTS.out _ pd [(j : Int)] 0 hD f HGF.out (by rw [hSN]; omega))
              have hnx : nx S [(j : Int)] 0 = j := by
                unfold nx
                rw [if_neg (by simp; omega)]
                show (j : Int) % 18446744073709551616 % S = j
                have e1 : (j : Int) % 18446744073709551616 = j := Int.emod_eq_of_lt (by omega) (by omega)
                rw [e1, Int.emod_eq_of_lt (by omega) hjS]
              rw [hSN, hnx] at k5
              have hne : wr.heap.size ≠ pd := fun e => by
                obtain ⟨da, dc, hdb, _⟩ := hD.ex
                rw [← e, hM4] at hdb
                cases hdb
              have hdl := hD.lt
              have hdB := hD.base
              have HM4 := hid hM4
              have hq1 : w1.heap.size ≤ pd := by have := HB1.out.size; omega
              clear k4 hD hb4 hM4 hC4 hMp4 HB1 HM1 hSN hnx hdB
              go_wp2_with fail
              refine k5.out.mono ?_
              rintro e w5 ⟨b, rfl, hbN, hb1, hb2, _, hU5⟩
              rw [HNN.out] at hbN
              have HB5 := hid (HB4.out.trans (hU5.below HB4.out.size (fun x hx => by omega)))
              have hM5 := hU5.heap HM4.out hne
              have hbk : b = kk ∨ b + 1 = kk := by
                have st := sumW_strict f q.length H1.out g0
                have h1 : b ≤ kk := by
                  rcases Nat.lt_or_ge kk b with x | x
                  · have := st kk b x (by omega); have := Ha.out; omega
                  · exact x
                rcases Nat.lt_or_ge b (kk - 1) with x | x
                · have := sumW_mono f g0 (b + 1) (kk - 1) (by omega)
                  have := Hc.out (by omega)
                  omega
                · omega
              obtain ⟨w6, k', hmu, rfl, hM6, hU6⟩ := met_put hM5 hbk
              have HM6 := hid hM6
              have HB6 := hid (HB5.out.trans (hU6.below HB5.out.size (fun x hx => by omega)))
              have HA6 : Hid (((j + 1 : Nat) : Int) ≤ sumW f (b + 1)) := hid (by omega)
              have HC6 : Hid (0 < b + 1 → sumW f (b + 1 - 1) < ((j + 1 : Nat) : Int)) := hid (fun _ => by rw [Nat.add_sub_cancel]; omega)
              clear k5 hU5 hM5 hM6 hU6 hbk hb1 hb2
              go_wp2_with fail
              go_roundw
              case rel => exact ⟨j + 1, b + 1, by omega, by go_num, by omega, HA6, hid (fun h => by omega), HC6, HM6, HB6⟩
              case measure => simp [intOf]; omega
            · have hjE : (j : Int) = S := by omega
              have hkE : kk = q.length := by
                rcases Nat.lt_or_ge kk q.length with x | x
                · have h1 := sumW_strict f q.length H1.out g0 kk q.length x (Nat.le_refl _)
                  have h2 := Ha.out
                  have h3 := GS.out
                  rw [HIN.out] at h3
                  omega
                · omega
              have hln : wz.heap[wr.heap.size]? = some (.map (Es q.length) q.length) := by rw [← hkE]; exact Hm.out
              have hEs := Es_size q.length
              have hgo := met_len hln 3
              have y2 := HY.out wz HQ.out
              have HFB : Hid (Below w.heap.size w wz) := hid (HBW.out.trans (HQ.out.mono HBW.out.size))
              clear hjE hkE
              go_wp2_with fail
              go_ret
              exact ⟨rfl, HFB.out⟩

end Go.Proofs.Ytmieoihjgckfhaa
