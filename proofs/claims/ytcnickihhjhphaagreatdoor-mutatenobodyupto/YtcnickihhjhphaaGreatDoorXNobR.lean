/- The road of MutateNobody: whatever table and number came in, it returns true, and what was there stays. -/
import Derived.Test.YtcnickihhjhphaaGreatDoorXNob2
import Derived.Test.YtcnickihhjhphaaGreatDoorWWeigh1
namespace Go.Proofs.YtcnickihhjhphaaGreatDoor
open Go.RowKit
set_option linter.unusedVariables false
set_option maxRecDepth 20000

/-- What lies in a block of two: nil, and one that is no call's. -/
theorem two_nob {X : World} {q : Nat} {t t' : TypeId} {C : Array Value} (hq : X.heap[q + 1]? = some (.cells #[.pointer none, .pointer (some ⟨q, 0, none⟩)] t (0, 0))) (hz : X.heap[q]? = some (.cells C t' (0, 0))) (hC : C[0]? = some (.bool false)) (i : Nat) (hi : i < 2) : ∃ d, X.cell? ⟨q + 1, i, none⟩ = some d ∧ Nob X d := by
  obtain rfl | rfl : i = 0 ∨ i = 1 := by omega
  · exact ⟨_, cell_of_row _ _ 0 _ _ _ hq, .inl rfl⟩
  · exact ⟨_, cell_of_row _ _ 1 _ _ _ hq, .inr ⟨q, rfl, (Array.getElem?_eq_some_iff.1 hz).1, by rw [cell_of_row _ _ 0 _ _ _ hz]; exact hC⟩⟩

theorem Nob.ptr {w : World} {d : Value} (h : Nob w d) : ∃ dp, d = .pointer dp := by
  rcases h with rfl | ⟨z, rfl, _⟩
  · exact ⟨_, rfl⟩
  · exact ⟨_, rfl⟩

set_option maxHeartbeats 8000000 in
theorem mnobody_road (a : Option Addr) (m c : Nat) (a2 : Option Addr) (m2 c2 : Nat) (l : List Ty) (q : List Cl) (n : Int) (w : World) (hT : Tys w a l) (hm : l.length = m) (hmb : m ≤ 9223372036854775807) (hQ : Cls w a2 q) (hq : q.length = m2) (hqb : m2 ≤ 1099511627776) (hcb : ∀ C ∈ q, C.an ≤ 4398046511104) :
    Calls Tryz.prog 3 #[.agg #[.slice a m c, .slice a2 m2 c2], .int .i64 n] w fun e w' => e = .returned (.bool true) ∧ Below w.heap.size w w' := by
  obtain ⟨X0, gX0⟩ : ∃ X0, w.alloc (.cells #[.slice a m c, .slice a2 m2 c2] 25) = X0 := ⟨_, rfl⟩
  have hB0 : Below w.heap.size w X0 := by rw [← gX0]; exact below_box w _
  have x0 : X0.heap[w.heap.size]? = some (.cells #[.slice a m c, .slice a2 m2 c2] 25 (0, 0)) := by rw [← gX0]; exact heap_alloc_new _ _
  have k0 : Hid (Calls Tryz.prog 4 #[.agg #[.slice a m c, .slice a2 m2 c2], .slice none 0 0] X0 fun e w' => (∃ p, e = .returned (.pointer (some ⟨p, 0, none⟩))) ∧ Below X0.heap.size X0 w') := hid (by
    refine (weigh_nil a m c a2 m2 c2 l q X0 (hT.below hB0) hm hmb (hQ.below hB0) hq hqb hcb).mono ?_
    rintro e w' ⟨cs, rfl, _, _, _, hb⟩
    exact ⟨⟨_, rfl⟩, hb⟩)
  have HB0 := hid hB0
  have GX0 := hid gX0
  have HX00 := hid x0
  clear hT hQ gX0 hB0 x0
  go_enter Tryz.func3, Tryz.ntmps3
  go_wp2_with fail
  rw [GX0.out]
  refine k0.out.mono ?_
  rintro e w1 ⟨⟨pw, rfl⟩, hb1⟩
  obtain ⟨pc, gpc⟩ : ∃ pc : Value, pc = .pointer (some ⟨pw, 0, none⟩) := ⟨_, rfl⟩
  obtain ⟨X, gX⟩ : ∃ X, (w1.alloc (.cells #[.bool false, .slice none 0 0, .int .i64 0] 31)).alloc (.cells #[.pointer none, .pointer (some ⟨w1.heap.size, 0, none⟩)] 28) = X := ⟨_, rfl⟩
  have h0 : w.heap.size < X0.heap.size := (Array.getElem?_eq_some_iff.1 HX00.out).1
  have hbX : Below w1.heap.size w1 X := by rw [← gX]; exact below_box2 w1 _ _
  have hs : X.heap.size = w1.heap.size + 1 + 1 := by rw [← gX]; simp
  have hB : Below w.heap.size w X := (HB0.out.trans (hb1.mono HB0.out.size)).trans (hbX.mono (Nat.le_trans HB0.out.size hb1.size))
  have x0 : X.heap[w.heap.size]? = some (.cells #[.slice a m c, .slice a2 m2 c2] 25 (0, 0)) := by
    rw [hbX.block _ (Nat.lt_of_lt_of_le h0 hb1.size), hb1.block _ h0]; exact HX00.out
  have x1 : X.heap[w1.heap.size]? = some (.cells #[.bool false, .slice none 0 0, .int .i64 0] 31 (0, 0)) := by
    rw [← gX, (below_box (w1.alloc _) _).block _ (by simp)]; exact heap_alloc_new _ _
  have x2 : X.heap[w1.heap.size + 1]? = some (.cells #[.pointer none, .pointer (some ⟨w1.heap.size, 0, none⟩)] 28 (0, 0)) := by
    have := heap_alloc_new (w1.alloc (.cells #[.bool false, .slice none 0 0, .int .i64 0] 31)) (.cells #[.pointer none, .pointer (some ⟨w1.heap.size, 0, none⟩)] 28)
    rw [← gX]; simpa using this
  have hwX : w.heap.size < X.heap.size := (Array.getElem?_eq_some_iff.1 x0).1
  have HN : Hid (∀ i, i < 2 → ∃ d, X.cell? ⟨w1.heap.size + 1, i, none⟩ = some d ∧ Nob X d) := hid (two_nob x2 x1 rfl)
  have HX0 : Hid (∀ W, Below X.heap.size X W → W.cell? ⟨w.heap.size, 0, none⟩ = some (.slice a m c) ∧ W.cell? ⟨w.heap.size, 1, none⟩ = some (.slice a2 m2 c2)) := hid fun W hW =>
    ⟨(hW.cell (p := ⟨w.heap.size, 0, none⟩) hwX).trans (cell_of_row _ _ 0 _ _ _ x0), (hW.cell (p := ⟨w.heap.size, 1, none⟩) hwX).trans (cell_of_row _ _ 1 _ _ _ x0)⟩
  have HB := hid hB
  have GX := hid gX
  have HS := hid hs
  have GPC := hid gpc
  clear x0 x1 x2 hs hB gX hbX hb1 h0 k0 gpc
  go_wp2_with fail
  rw [GX.out, ← GPC.out]
  go_loopw [32] (fun k wr => ∃ i : Nat, i ≤ 2 ∧ k = .int .i64 i ∧ Hid (Below X.heap.size X wr)) (fun k _ => 2 - (intOf k).toNat)
  case atStart => exact ⟨0, by omega, rfl, hid (Below.refl _ _)⟩
  case round =>
    obtain ⟨i, hi, rfl, HW⟩ := hrel
    rename World => wr
    have hs := HS.out
    by_cases hlt : i < 2
    · obtain ⟨d, hd, hnob⟩ := HN.out i hlt
      have hdw : wr.cell? ⟨w1.heap.size + 1, i, none⟩ = some d := (HW.out.cell (p := ⟨w1.heap.size + 1, i, none⟩) (show w1.heap.size + 1 < X.heap.size by omega)).trans hd
      obtain ⟨dp, rfl⟩ := hnob.ptr
      have HD := hid hnob
      obtain ⟨y0, y1⟩ := HX0.out wr HW.out
      have hli : (i : Int) < 2 := by omega
      clear hd hnob
      have k0 := hid (insert_dnob wr a m c a2 m2 c2 pc (.pointer dp) n (HD.out.below HW.out))
      go_wp2_with fail
      refine k0.out.mono ?_
      rintro e v0 ⟨rfl, hb0⟩
      have HV0 : Hid (Below X.heap.size X v0) := hid (HW.out.trans (hb0.mono HW.out.size))
      clear k0 hb0 y0 y1 hdw
      have k1 := hid (remove_nob v0 a m c a2 m2 c2 dp (HD.out.below HV0.out))
      obtain ⟨y0, y1⟩ := HX0.out v0 HV0.out
      go_wp2_with fail
      refine k1.out.mono ?_
      rintro e v1 ⟨rfl, hb1⟩
      have HV1 : Hid (Below X.heap.size X v1) := hid (HV0.out.trans (hb1.mono HV0.out.size))
      clear k1 hb1 y0 y1 HV0
      have k2 := hid (change_nob v1 a m c a2 m2 c2 dp (HD.out.below HV1.out))
      obtain ⟨y0, y1⟩ := HX0.out v1 HV1.out
      go_wp2_with fail
      refine k2.out.mono ?_
      rintro e v2 ⟨rfl, hb2⟩
      have HV2 : Hid (Below X.heap.size X v2) := hid (HV1.out.trans (hb2.mono HV1.out.size))
      clear k2 hb2 y0 y1 HV1
      have k3 := hid (splice_nob v2 a m c a2 m2 c2 dp n (HD.out.below HV2.out))
      obtain ⟨y0, y1⟩ := HX0.out v2 HV2.out
      go_wp2_with fail
      refine k3.out.mono ?_
      rintro e v3 ⟨rfl, hb3⟩
      have HV3 : Hid (Below X.heap.size X v3) := hid (HV2.out.trans (hb3.mono HV2.out.size))
      clear k3 hb3 y0 y1 HV2
      have k4 := hid (mutate_dnob v3 a m c a2 m2 c2 pc (.pointer dp) n (HD.out.below HV3.out))
      obtain ⟨y0, y1⟩ := HX0.out v3 HV3.out
      go_wp2_with fail
      refine k4.out.mono ?_
      rintro e v4 ⟨rfl, hb4⟩
      have HV4 : Hid (Below X.heap.size X v4) := hid (HV3.out.trans (hb4.mono HV3.out.size))
      clear k4 hb4 y0 y1 HV3
      obtain ⟨V, gV⟩ : ∃ V, v4.alloc (.cells #[.int .i64 2, .int .i64 2, .int .i64 2, .int .i64 2, .int .i64 2] 35) = V := ⟨_, rfl⟩
      have HVV : Hid (Below X.heap.size X V) := hid (HV4.out.trans ((by rw [← gV]; exact below_box v4 _ : Below v4.heap.size v4 V).mono HV4.out.size))
      have hV5 : ∀ j, j < 5 → V.cell? ⟨v4.heap.size, j, none⟩ = some (.int .i64 2) := fun j hj => by
        rw [← gV, cell_of_row _ _ j _ _ _ (heap_alloc_new v4 _)]
        rcases j with _ | _ | _ | _ | _ | j
        · rfl
        · rfl
        · rfl
        · rfl
        · rfl
        · omega
      have HV5 := hid hV5
      have GV := hid gV
      clear gV hV5
      go_wp2_with fail
      rw [GV.out]
      go_loopw [78] (fun k wq => ∃ j : Nat, j ≤ 5 ∧ k = .int .i64 j ∧ wq = V) (fun k _ => 5 - (intOf k).toNat)
      case atStart => exact ⟨0, by omega, rfl, by first | rfl | trivial⟩
      case round =>
        obtain ⟨j, hj, rfl, rfl⟩ := hrel
        by_cases hj5 : j < 5
        · have hc := HV5.out j hj5
          have hlj : (j : Int) < 5 := by omega
          go_wp2_with fail
          go_roundw
          case rel => exact ⟨j + 1, by omega, by go_num, by first | rfl | trivial⟩
          case measure => simp [intOf]; omega
        · have hgj : ¬ (j : Int) < 5 := by omega
          go_wp2_with fail
          go_roundw
          case rel => exact ⟨i + 1, by omega, by go_num, HVV⟩
          case measure => simp [intOf]; omega
    · have hge : ¬ (i : Int) < 2 := by omega
      obtain ⟨Z, gZ⟩ : ∃ Z, (wr.alloc (.cells #[.bool false, .slice none 0 0, .map none] 45)).alloc (.cells #[.pointer none, .pointer (some ⟨wr.heap.size, 0, none⟩)] 26) = Z := ⟨_, rfl⟩
      have hBZ : Below wr.heap.size wr Z := by rw [← gZ]; exact below_box2 wr _ _
      have hsZ : Z.heap.size = wr.heap.size + 1 + 1 := by rw [← gZ]; simp
      have z0 : Z.heap[wr.heap.size]? = some (.cells #[.bool false, .slice none 0 0, .map none] 45 (0, 0)) := by
        rw [← gZ, (below_box (wr.alloc _) _).block _ (by simp)]; exact heap_alloc_new _ _
      have z1 : Z.heap[wr.heap.size + 1]? = some (.cells #[.pointer none, .pointer (some ⟨wr.heap.size, 0, none⟩)] 26 (0, 0)) := by
        have := heap_alloc_new (wr.alloc (.cells #[.bool false, .slice none 0 0, .map none] 45)) (.cells #[.pointer none, .pointer (some ⟨wr.heap.size, 0, none⟩)] 26)
        rw [← gZ]; simpa using this
      have HN2 : Hid (∀ i, i < 2 → ∃ d, Z.cell? ⟨wr.heap.size + 1, i, none⟩ = some d ∧ Nob Z d) := hid (two_nob z1 z0 rfl)
      have HXZ : Hid (Below X.heap.size X Z) := hid (HW.out.trans (hBZ.mono HW.out.size))
      have GZ := hid gZ
      have HSZ := hid hsZ
      clear z0 z1 hBZ gZ hsZ HW HN
      go_wp2_with fail
      rw [GZ.out]
      go_loopw [90] (fun k wq => ∃ i : Nat, i ≤ 2 ∧ k = .int .i64 i ∧ Hid (Below Z.heap.size Z wq)) (fun k _ => 2 - (intOf k).toNat)
      case atStart => exact ⟨0, by omega, rfl, hid (Below.refl _ _)⟩
      case round =>
        obtain ⟨j, hj, rfl, HQ⟩ := hrel
        rename World => wq
        have hsz := HSZ.out
        have HXQ0 : Hid (Below X.heap.size X wq) := hid (HXZ.out.trans (HQ.out.mono HXZ.out.size))
        by_cases hjl : j < 2
        · obtain ⟨d, hd, hnob⟩ := HN2.out j hjl
          have hdw : wq.cell? ⟨wr.heap.size + 1, j, none⟩ = some d := (HQ.out.cell (p := ⟨wr.heap.size + 1, j, none⟩) (show wr.heap.size + 1 < Z.heap.size by omega)).trans hd
          have HD0 := hid (hnob.below HQ.out)
          obtain ⟨y0, y1⟩ := HX0.out wq HXQ0.out
          have hli : (j : Int) < 2 := by omega
          have hxw : w.heap.size < X.heap.size := hwX
          clear hd hnob
          go_wp2_with fail
          go_region_held3 (fun wx => wx.cell? ⟨w.heap.size, 0, none⟩ = some (.slice a m c) ∧ wx.cell? ⟨w.heap.size, 1, none⟩ = some (.slice a2 m2 c2)) (go_keep) (first
            | (go_at_call 10; refine (dnew none 0 0 [] _ ⟨rfl, fun h => absurd h (Nat.lt_irrefl 0), fun _ => rfl⟩ (by omega)).mono ?_; rintro e w3 ⟨pd, rfl, hDw, hb3⟩; have hb3' : Below wq.heap.size wq w3 := (below_hp (Below.refl _ wq) (by rfl) (by rfl) (by rfl) (by rfl)).trans hb3; have HB3 : Hid (Below X.heap.size X w3) := hid (HXQ0.out.trans (hb3'.mono HXQ0.out.size)); have HQ3 : Hid (Below wq.heap.size wq w3) := hid hb3'; have HD3 : Hid (pd < w3.heap.size ∧ w3.cell? ⟨pd, 0, none⟩ = some (.bool true)) := (by obtain ⟨aa, cc, h1, _⟩ := hDw.ex; exact hid ⟨(Array.getElem?_eq_some_iff.1 h1).1, hDw.c0⟩); obtain ⟨y6, y7⟩ := HX0.out w3 HB3.out; clear hb3 hb3' hDw)
            | (go_at_call 5; refine (insert_cnob _ a m c a2 m2 c2 d pd n (HD0.out.below (below_hp HQ3.out (by rfl) (by rfl) (by rfl) (by rfl))) HD3.out.1 HD3.out.2).mono ?_; rintro e w4 ⟨rfl, hb4⟩; have HQ4 : Hid (Below wq.heap.size wq w4) := hid (HQ3.out.trans (hb4.mono HQ3.out.size)); have HB4 : Hid (Below X.heap.size X w4) := hid (HXQ0.out.trans (HQ4.out.mono HXQ0.out.size)); obtain ⟨y8, y9⟩ := HX0.out w4 HB4.out; clear hb4))
          have HXQ1 := HB4
          have HD1 := hid (HD0.out.below HQ4.out)
          clear HB3 HQ3 HD3 y6 y7 hdw
          go_wp2_with fail
          go_region_held3 (fun wx => wx.cell? ⟨w.heap.size, 0, none⟩ = some (.slice a m c) ∧ wx.cell? ⟨w.heap.size, 1, none⟩ = some (.slice a2 m2 c2)) (go_keep) (first
            | (go_at_call 10; refine (dnew none 0 0 [] _ ⟨rfl, fun h => absurd h (Nat.lt_irrefl 0), fun _ => rfl⟩ (by omega)).mono ?_; rintro e w6 ⟨pe, rfl, hDw, hb6⟩; have hb6' : Below w4.heap.size w4 w6 := (below_hp (Below.refl _ w4) (by rfl) (by rfl) (by rfl) (by rfl)).trans hb6; have HB6 : Hid (Below X.heap.size X w6) := hid (HXQ1.out.trans (hb6'.mono HXQ1.out.size)); have HQ6 : Hid (Below w4.heap.size w4 w6) := hid hb6'; have HD6 : Hid (pe < w6.heap.size ∧ w6.cell? ⟨pe, 0, none⟩ = some (.bool true)) := (by obtain ⟨aa, cc, h1, _⟩ := hDw.ex; exact hid ⟨(Array.getElem?_eq_some_iff.1 h1).1, hDw.c0⟩); obtain ⟨z6, z7⟩ := HX0.out w6 HB6.out; clear hb6 hb6' hDw)
            | (go_at_call 9; refine (mutate_cnob _ a m c a2 m2 c2 d pe n (HD1.out.below (below_hp HQ6.out (by rfl) (by rfl) (by rfl) (by rfl))) HD6.out.1 HD6.out.2).mono ?_; rintro e w7 ⟨rfl, hb7⟩; have HQ7 : Hid (Below w4.heap.size w4 w7) := hid (HQ6.out.trans (hb7.mono HQ6.out.size)); have HB7 : Hid (Below X.heap.size X w7) := hid (HXQ1.out.trans (HQ7.out.mono HXQ1.out.size)); obtain ⟨z8, z9⟩ := HX0.out w7 HB7.out; clear hb7))
          have HZ7 := hid (HQ.out.trans ((HQ4.out.trans (HQ7.out.mono HQ4.out.size)).mono HQ.out.size))
          go_wp2_with fail
          go_roundw
          case rel => exact ⟨j + 1, by omega, by go_num, HZ7⟩
          case measure => simp [intOf]; omega
        · have hgj : ¬ (j : Int) < 2 := by omega
          have HE : Hid (Below w.heap.size w wq) := hid (HB.out.trans (HXQ0.out.mono HB.out.size))
          go_wp2_with fail
          go_ret
          exact ⟨rfl, HE.out⟩

end Go.Proofs.YtcnickihhjhphaaGreatDoor
