/- The road of GenNobody: whatever table and number came in, it returns true, and what was there stays. -/
import Derived.Test.YtmccgdfkkcnlfaaGreatDoorGNob
import Derived.Test.YtmccgdfkkcnlfaaGreatDoorWWeigh1
import Derived.Deep.RegionHeld3
namespace Go.Proofs.YtmccgdfkkcnlfaaGreatDoor
open Go.RowKit
set_option linter.unusedVariables false
set_option maxRecDepth 20000

theorem heap3 (w : World) (o1 o2 o3 : Obj) : (((w.alloc o1).alloc o2).alloc o3).heap[w.heap.size]? = some o1 ∧ (((w.alloc o1).alloc o2).alloc o3).heap[w.heap.size + 1]? = some o2 ∧ (((w.alloc o1).alloc o2).alloc o3).heap[w.heap.size + 1 + 1]? = some o3 ∧ (((w.alloc o1).alloc o2).alloc o3).heap.size = w.heap.size + 1 + 1 + 1 ∧ Below w.heap.size w (((w.alloc o1).alloc o2).alloc o3) := by
  have s1 : (w.alloc o1).heap.size = w.heap.size + 1 := by simp
  have s2 : ((w.alloc o1).alloc o2).heap.size = w.heap.size + 1 + 1 := by simp
  have n1 := heap_alloc_new w o1
  have n2 := heap_alloc_new (w.alloc o1) o2
  have n3 := heap_alloc_new ((w.alloc o1).alloc o2) o3
  rw [s1] at n2
  rw [s2] at n3
  have b1 := below_box w o1
  have b2 := below_box (w.alloc o1) o2
  have b3 := below_box ((w.alloc o1).alloc o2) o3
  refine ⟨?_, ?_, n3, by simp, (b1.trans (b2.mono (by omega))).trans (b3.mono (by omega))⟩
  · rw [b3.block _ (by omega), b2.block _ (by omega)]; exact n1
  · rw [b3.block _ (by omega)]; exact n2

/-- What lies in a block of two: nil, and one that is no call's. -/
theorem two_nob {X : World} {q : Nat} {t t' : TypeId} {C : Array Value} (hq : X.heap[q + 1]? = some (.cells #[.pointer none, .pointer (some ⟨q, 0, none⟩)] t (0, 0))) (hz : X.heap[q]? = some (.cells C t' (0, 0))) (hC : C[0]? = some (.bool false)) (i : Nat) (hi : i < 2) : ∃ d, X.cell? ⟨q + 1, i, none⟩ = some d ∧ Nob X d := by
  obtain rfl | rfl : i = 0 ∨ i = 1 := by omega
  · exact ⟨_, cell_of_row _ _ 0 _ _ _ hq, .inl rfl⟩
  · exact ⟨_, cell_of_row _ _ 1 _ _ _ hq, .inr ⟨q, rfl, (Array.getElem?_eq_some_iff.1 hz).1, by rw [cell_of_row _ _ 0 _ _ _ hz]; exact hC⟩⟩

set_option maxHeartbeats 8000000 in
theorem gnobody_road (a : Option Addr) (m c : Nat) (a2 : Option Addr) (m2 c2 : Nat) (l : List Ty) (q : List Cl) (n : Int) (w : World) (hT : Tys w a l) (hm : l.length = m) (hmb : m ≤ 9223372036854775807) (hQ : Cls w a2 q) (hq : q.length = m2) (hqb : m2 ≤ 1099511627776) (hcb : ∀ C ∈ q, C.an ≤ 4398046511104) :
    Calls Tryz.prog 3 #[.agg #[.slice a m c, .slice a2 m2 c2], .int .i64 n] w fun e w' => e = .returned (.bool true) ∧ Below w.heap.size w w' := by
  obtain ⟨X, gX⟩ : ∃ X, ((w.alloc (.cells #[.slice a m c, .slice a2 m2 c2] 25)).alloc (.cells #[.bool false, .slice none 0 0, .int .i64 0] 29)).alloc (.cells #[.pointer none, .pointer (some ⟨w.heap.size + 1, 0, none⟩)] 26) = X := ⟨_, rfl⟩
  obtain ⟨x0, x1, x2, hs, hB⟩ := heap3 w (.cells #[.slice a m c, .slice a2 m2 c2] 25) (.cells #[.bool false, .slice none 0 0, .int .i64 0] 29) (.cells #[.pointer none, .pointer (some ⟨w.heap.size + 1, 0, none⟩)] 26)
  rw [gX] at x0 x1 x2 hs hB
  have HN : Hid (∀ i, i < 2 → ∃ d, X.cell? ⟨w.heap.size + 1 + 1, i, none⟩ = some d ∧ Nob X d) := hid (two_nob x2 x1 rfl)
  have HX0 : Hid (∀ W, Below X.heap.size X W → W.cell? ⟨w.heap.size, 0, none⟩ = some (.slice a m c) ∧ W.cell? ⟨w.heap.size, 1, none⟩ = some (.slice a2 m2 c2)) := hid fun W hW =>
    ⟨(hW.cell (p := ⟨w.heap.size, 0, none⟩) (show w.heap.size < X.heap.size by omega)).trans (cell_of_row _ _ 0 _ _ _ x0), (hW.cell (p := ⟨w.heap.size, 1, none⟩) (show w.heap.size < X.heap.size by omega)).trans (cell_of_row _ _ 1 _ _ _ x0)⟩
  have KW : Hid (∀ W, Below X.heap.size X W → Calls Tryz.prog 7 #[.agg #[.slice a m c, .slice a2 m2 c2], .slice none 0 0] W fun e w' => (∃ p, e = .returned (.pointer (some ⟨p, 0, none⟩))) ∧ Below W.heap.size W w') := hid fun W hW => by
    have hbw : Below w.heap.size w W := hB.trans (hW.mono hB.size)
    refine (weigh_nil a m c a2 m2 c2 l q W (hT.below hbw) hm hmb (hQ.below hbw) hq hqb hcb).mono ?_
    rintro e w' ⟨cs, rfl, _, _, _, hb⟩
    exact ⟨⟨_, rfl⟩, hb⟩
  have HB := hid hB
  have GX := hid gX
  have HS := hid hs
  clear x0 x1 x2 hs hB gX hT hQ
  go_enter Tryz.func3, Tryz.ntmps3
  go_wp2_with fail
  rw [GX.out]
  go_loopw [21] (fun k wr => ∃ i : Nat, i ≤ 2 ∧ k = .int .i64 i ∧ Hid (Below X.heap.size X wr)) (fun k _ => 2 - (intOf k).toNat)
  case atStart => exact ⟨0, by omega, rfl, hid (Below.refl _ _)⟩
  case round =>
    obtain ⟨i, hi, rfl, HW⟩ := hrel
    rename World => wr
    have hs := HS.out
    by_cases hlt : i < 2
    · obtain ⟨d, hd, hnob⟩ := HN.out i hlt
      have hdw : wr.cell? ⟨w.heap.size + 1 + 1, i, none⟩ = some d := (HW.out.cell (p := ⟨w.heap.size + 1 + 1, i, none⟩) (show w.heap.size + 1 + 1 < X.heap.size by omega)).trans hd
      have HD := hid hnob
      obtain ⟨y0, y1⟩ := HX0.out wr HW.out
      have k1 := hid (garg_nob wr a m c a2 m2 c2 n d (hnob.below HW.out))
      have hli : (i : Int) < 2 := by omega
      clear hd hnob
      go_wp2_with fail
      refine k1.out.mono ?_
      rintro e w1 ⟨rfl, hb1⟩
      obtain ⟨W1, g1⟩ : ∃ W1, w1.alloc (.cells #[.int .i64 0, .int .i64 0, .slice none 0 0, .slice none 0 0] 34) = W1 := ⟨_, rfl⟩
      have HB1 : Hid (Below X.heap.size X W1) := by
        have := HW.out.trans (hb1.mono HW.out.size)
        rw [← g1]; exact hid (this.trans ((below_box w1 _).mono this.size))
      obtain ⟨y2, y3⟩ := HX0.out W1 HB1.out
      have k2 := hid (gstep_nob W1 a m c a2 m2 c2 n d (HD.out.below HB1.out))
      have G1 := hid g1
      rw [← g1] at y2 y3
      clear k1 hb1 g1 y0 y1 HW hdw
      go_wp2_with fail
      rw [G1.out]
      refine k2.out.mono ?_
      rintro e w2 ⟨rfl, hb2⟩
      obtain ⟨W2, g2⟩ : ∃ W2, w2.alloc (.cells #[.int .i64 0, .slice none 0 0] 39) = W2 := ⟨_, rfl⟩
      have HB2 : Hid (Below X.heap.size X W2) := by
        have := HB1.out.trans (hb2.mono HB1.out.size)
        rw [← g2]; exact hid (this.trans ((below_box w2 _).mono this.size))
      obtain ⟨y4, y5⟩ := HX0.out W2 HB2.out
      have HD2 := hid (HD.out.below HB2.out)
      have G2 := hid g2
      clear k2 hb2 g2 y2 y3 HB1 G1
      go_wp2_with fail
      rw [G2.out]
      have hxw : w.heap.size < X.heap.size := by omega
      go_region_held3 (fun wx => wx.cell? ⟨w.heap.size, 0, none⟩ = some (.slice a m c) ∧ wx.cell? ⟨w.heap.size, 1, none⟩ = some (.slice a2 m2 c2)) (go_keep) (first
        | (go_at_call 7; refine (KW.out _ (below_hp HB2.out (by rfl) (by rfl) (by rfl) (by rfl))).mono ?_; rintro e w3 ⟨⟨pc, rfl⟩, hb3⟩; have hb3' : Below W2.heap.size W2 w3 := (below_hp (Below.refl _ W2) (by rfl) (by rfl) (by rfl) (by rfl)).trans hb3; have HB3 : Hid (Below X.heap.size X w3) := hid (HB2.out.trans (hb3'.mono HB2.out.size)); obtain ⟨y6, y7⟩ := HX0.out w3 HB3.out; clear hb3 hb3')
        | (go_at_call 6; refine (gprog_dnob _ a m c a2 m2 c2 n _ d (HD.out.below (below_hp HB3.out (by rfl) (by rfl) (by rfl) (by rfl)))).mono ?_; rintro e w4 ⟨rfl, hb4⟩; have HB4 : Hid (Below X.heap.size X w4) := hid ((below_hp HB3.out (by rfl) (by rfl) (by rfl) (by rfl)).trans (hb4.mono HB3.out.size)); obtain ⟨y8, y9⟩ := HX0.out w4 HB4.out; clear hb4))
      go_wp2_with fail
      go_roundw
      case rel => exact ⟨i + 1, by omega, by go_num, HB4⟩
      case measure => simp [intOf]; omega
    · have hge : ¬ (i : Int) < 2 := by omega
      obtain ⟨Z, gZ⟩ : ∃ Z, (wr.alloc (.cells #[.bool false, .slice none 0 0, .map none] 51)).alloc (.cells #[.pointer none, .pointer (some ⟨wr.heap.size, 0, none⟩)] 46) = Z := ⟨_, rfl⟩
      have hBZ : Below wr.heap.size wr Z := by rw [← gZ]; exact below_box2 wr _ _
      have hsZ : Z.heap.size = wr.heap.size + 1 + 1 := by rw [← gZ]; simp
      have z0 : Z.heap[wr.heap.size]? = some (.cells #[.bool false, .slice none 0 0, .map none] 51 (0, 0)) := by
        rw [← gZ, (below_box (wr.alloc _) _).block _ (by simp)]; exact heap_alloc_new _ _
      have z1 : Z.heap[wr.heap.size + 1]? = some (.cells #[.pointer none, .pointer (some ⟨wr.heap.size, 0, none⟩)] 46 (0, 0)) := by
        have := heap_alloc_new (wr.alloc (.cells #[.bool false, .slice none 0 0, .map none] 51)) (.cells #[.pointer none, .pointer (some ⟨wr.heap.size, 0, none⟩)] 46)
        rw [← gZ]; simpa using this
      have HN2 : Hid (∀ i, i < 2 → ∃ d, Z.cell? ⟨wr.heap.size + 1, i, none⟩ = some d ∧ Nob Z d) := hid (two_nob z1 z0 rfl)
      have HXZ : Hid (Below X.heap.size X Z) := hid (HW.out.trans (hBZ.mono HW.out.size))
      have GZ := hid gZ
      have HSZ := hid hsZ
      clear z0 z1 hBZ gZ hsZ HW HN
      go_wp2_with fail
      rw [GZ.out]
      go_loopw [63] (fun k wq => ∃ i : Nat, i ≤ 2 ∧ k = .int .i64 i ∧ Hid (Below Z.heap.size Z wq)) (fun k _ => 2 - (intOf k).toNat)
      case atStart => exact ⟨0, by omega, rfl, hid (Below.refl _ _)⟩
      case round =>
        obtain ⟨j, hj, rfl, HQ⟩ := hrel
        rename World => wq
        have hsz := HSZ.out
        have HXQ : Hid (Below X.heap.size X wq) := hid (HXZ.out.trans (HQ.out.mono HXZ.out.size))
        by_cases hjl : j < 2
        · obtain ⟨d, hd, hnob⟩ := HN2.out j hjl
          have hdw : wq.cell? ⟨wr.heap.size + 1, j, none⟩ = some d := (HQ.out.cell (p := ⟨wr.heap.size + 1, j, none⟩) (show wr.heap.size + 1 < Z.heap.size by omega)).trans hd
          have HD := hid (hnob.below HQ.out)
          obtain ⟨y0, y1⟩ := HX0.out wq HXQ.out
          have hli : (j : Int) < 2 := by omega
          have hxw : w.heap.size < X.heap.size := by omega
          clear hd hnob
          go_wp2_with fail
          go_region_held3 (fun wx => wx.cell? ⟨w.heap.size, 0, none⟩ = some (.slice a m c) ∧ wx.cell? ⟨w.heap.size, 1, none⟩ = some (.slice a2 m2 c2)) (go_keep) (first
            | (go_at_call 8; refine (dnew none 0 0 [] _ ⟨rfl, fun h => absurd h (Nat.lt_irrefl 0), fun _ => rfl⟩ (by omega)).mono ?_; rintro e w3 ⟨pd, rfl, hDw, hb3⟩; have hb3' : Below wq.heap.size wq w3 := (below_hp (Below.refl _ wq) (by rfl) (by rfl) (by rfl) (by rfl)).trans hb3; have HB3 : Hid (Below X.heap.size X w3) := hid (HXQ.out.trans (hb3'.mono HXQ.out.size)); have HQ3 : Hid (Below wq.heap.size wq w3) := hid hb3'; have HD3 : Hid (pd < w3.heap.size ∧ w3.cell? ⟨pd, 0, none⟩ = some (.bool true)) := (by obtain ⟨aa, cc, h1, _⟩ := hDw.ex; exact hid ⟨(Array.getElem?_eq_some_iff.1 h1).1, hDw.c0⟩); obtain ⟨y6, y7⟩ := HX0.out w3 HB3.out; clear hb3 hb3' hDw)
            | (go_at_call 6; refine (gprog_cnob _ a m c a2 m2 c2 n d pd (HD.out.below (below_hp HQ3.out (by rfl) (by rfl) (by rfl) (by rfl))) HD3.out.1 HD3.out.2).mono ?_; rintro e w4 ⟨rfl, hb4⟩; have HQ4 : Hid (Below wq.heap.size wq w4) := hid (HQ3.out.trans (hb4.mono HQ3.out.size)); have HB4 : Hid (Below X.heap.size X w4) := hid (HXQ.out.trans (HQ4.out.mono HXQ.out.size)); obtain ⟨y8, y9⟩ := HX0.out w4 HB4.out; clear hb4))
          have HZ4 := hid (HQ.out.trans (HQ4.out.mono HQ.out.size))
          go_wp2_with fail
          go_roundw
          case rel => exact ⟨j + 1, by omega, by go_num, HZ4⟩
          case measure => simp [intOf]; omega
        · have hgj : ¬ (j : Int) < 2 := by omega
          have HE : Hid (Below w.heap.size w wq) := hid (HB.out.trans (HXQ.out.mono HB.out.size))
          go_wp2_with fail
          go_ret
          exact ⟨rfl, HE.out⟩

end Go.Proofs.YtmccgdfkkcnlfaaGreatDoor
