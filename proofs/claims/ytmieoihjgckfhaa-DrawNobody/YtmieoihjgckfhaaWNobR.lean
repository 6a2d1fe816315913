/- The road of DrawNobody: whatever number came in, it returns true, and what was there stays. -/
import Derived.Test.YtmieoihjgckfhaaWNob
import Derived.Test.YtmieoihjgckfhaaWWeigh1
namespace Go.Proofs.Ytmieoihjgckfhaa
open Go.RowKit
set_option linter.unusedVariables false
set_option maxRecDepth 20000

/-- A call without anything. -/
def zeroCl : Cl := ⟨⟨#[]⟩, 0, none, 0, 0, [], none, 0, 0, ⟨#[]⟩⟩
theorem zero_cls (w : World) : Cls (w.alloc (.cells #[.string ⟨#[]⟩, .int .i64 0, .slice none 0 0, .slice none 0 0, .string ⟨#[]⟩] 55)) (some ⟨w.heap.size, 0, none⟩) [zeroCl] := fun _ => by
  refine ⟨w.heap.size, 0, rfl, by simp, fun j hj => ?_⟩
  obtain rfl : j = 0 := by simpa using hj
  have h := heap_alloc_new w (.cells #[.string ⟨#[]⟩, .int .i64 0, .slice none 0 0, .slice none 0 0, .string ⟨#[]⟩] 55)
  refine ⟨⟨cell_of_row _ _ 0 _ _ _ h, cell_of_row _ _ 1 _ _ _ h, cell_of_row _ _ 2 _ _ _ h, cell_of_row _ _ 3 _ _ _ h, cell_of_row _ _ 4 _ _ _ h⟩, ⟨fun h => absurd h (Nat.lt_irrefl 0), rfl, Nat.le_refl _, Nat.zero_le _, Nat.le_refl _, Nat.zero_le _⟩⟩

/-- What lies in a block of two: nil, and one that is no call's. -/
theorem two_nob {w X : World} {q : Nat} {t t' : TypeId} {C : Array Value} (hq : X.heap[q + 1]? = some (.cells #[.pointer none, .pointer (some ⟨q, 0, none⟩)] t (0, 0))) (hz : X.heap[q]? = some (.cells C t' (0, 0))) (hC : C[0]? = some (.bool false)) (i : Nat) (hi : i < 2) : ∃ d, X.cell? ⟨q + 1, i, none⟩ = some d ∧ Nob X d := by
  obtain rfl | rfl : i = 0 ∨ i = 1 := by omega
  · exact ⟨_, cell_of_row _ _ 0 _ _ _ hq, .inl rfl⟩
  · exact ⟨_, cell_of_row _ _ 1 _ _ _ hq, .inr ⟨q, rfl, (Array.getElem?_eq_some_iff.1 hz).1, by rw [cell_of_row _ _ 0 _ _ _ hz]; exact hC⟩⟩

set_option maxHeartbeats 8000000 in
theorem nobody_road (n : Int) (w : World) (hn : n ≤ 9223372036854775807) :
    Calls Try.prog 8 #[.int .i64 n] w fun e w' => e = .returned (.bool true) ∧ Below w.heap.size w w' := by
  obtain ⟨X, gX⟩ : ∃ X, (w.alloc (.cells #[.bool false, .slice none 0 0, .int .i64 0] 51)).alloc (.cells #[.pointer none, .pointer (some ⟨w.heap.size, 0, none⟩)] 24) = X := ⟨_, rfl⟩
  have hB : Below w.heap.size w X := by rw [← gX]; exact below_box2 w _ _
  have hs : X.heap.size = w.heap.size + 1 + 1 := by rw [← gX]; simp
  have x0 : X.heap[w.heap.size]? = some (.cells #[.bool false, .slice none 0 0, .int .i64 0] 51 (0, 0)) := by
    rw [← gX, (below_box (w.alloc _) _).block _ (by simp)]; exact heap_alloc_new _ _
  have x1 : X.heap[w.heap.size + 1]? = some (.cells #[.pointer none, .pointer (some ⟨w.heap.size, 0, none⟩)] 24 (0, 0)) := by
    have := heap_alloc_new (w.alloc (.cells #[.bool false, .slice none 0 0, .int .i64 0] 51)) (.cells #[.pointer none, .pointer (some ⟨w.heap.size, 0, none⟩)] 24)
    rw [← gX]; simpa using this
  have HN : Hid (∀ i, i < 2 → ∃ d, X.cell? ⟨w.heap.size + 1, i, none⟩ = some d ∧ Nob X d) := hid (two_nob (w := w) x1 x0 rfl)
  have HB := hid hB
  have GX := hid gX
  have HS := hid hs
  clear x0 x1 hB gX hs
  go_enter Try.func8, Try.ntmps8
  go_wp2_with fail
  rw [GX.out]
  go_loopw [15] (fun k wr => ∃ i : Nat, i ≤ 2 ∧ k = .int .i64 i ∧ Hid (Below X.heap.size X wr)) (fun k _ => 2 - (intOf k).toNat)
  case atStart => exact ⟨0, by omega, rfl, hid (Below.refl _ _)⟩
  case round =>
    obtain ⟨i, hi, rfl, HW⟩ := hrel
    rename World => wr
    have hs := HS.out
    by_cases hlt : i < 2
    · obtain ⟨d, hd, hnob⟩ := HN.out i hlt
      have hdw : wr.cell? ⟨w.heap.size + 1, i, none⟩ = some d := (HW.out.cell (p := ⟨w.heap.size + 1, i, none⟩) (show w.heap.size + 1 < X.heap.size by omega)).trans hd
      have HD := hid (hnob.below HW.out)
      have k1 := hid (next_nob wr d n HD.out)
      have hli : (i : Int) < 2 := by omega
      clear hd hnob
      go_wp2_with fail
      refine k1.out.mono ?_
      rintro e w1 ⟨rfl, n1, rfl⟩
      have k2 := hid (used_nob (wr.drewN n1) d HD.out)
      clear k1
      go_wp2_with fail
      refine k2.out.mono ?_
      rintro e w1 ⟨rfl, rfl⟩
      clear k2
      obtain ⟨W, gW⟩ : ∃ W, (wr.drewN n1).alloc (.cells #[.string ⟨#[]⟩, .int .i64 0, .slice none 0 0, .slice none 0 0, .string ⟨#[]⟩] 55) = W := ⟨_, rfl⟩
      have hcls : Cls W (some ⟨wr.heap.size, 0, none⟩) [zeroCl] := by rw [← gW]; exact zero_cls (wr.drewN n1)
      have hbW : Below wr.heap.size wr W := by rw [← gW]; exact (below_drewN (Below.refl _ wr) n1).trans (below_box (wr.drewN n1) _)
      have k3 := hid (weigh_nil none 0 0 (some ⟨wr.heap.size, 0, none⟩) 1 1 [] [zeroCl] W (fun h => absurd h (Nat.lt_irrefl 0)) rfl (by omega) hcls rfl (by omega) (fun C hC => by obtain rfl : C = zeroCl := (by simpa using hC); exact Nat.zero_le _))
      have HB1 := hid hbW
      have GW := hid gW
      clear hcls hbW gW
      go_wp2_with fail
      rw [GW.out]
      refine k3.out.mono ?_
      rintro e w2 ⟨cs, rfl, hC, _, _, hb2⟩
      obtain ⟨v, hv, _⟩ := hC.ex
      generalize W.heap.size + 1 + 1 = pc at hv hC ⊢
      have c0 : w2.cell? ⟨pc, 0, none⟩ = some (.bool true) := cell_of_row _ _ 0 _ _ _ hv
      have HB2 := hid (HB1.out.trans (hb2.mono HB1.out.size))
      have k4 := hid (pick_dnob w2 pc d (-1) (HD.out.below HB2.out) c0)
      clear k3 hC hv hb2 c0 HB1
      go_wp2_with fail
      refine k4.out.mono ?_
      rintro e w3 ⟨rfl, rfl⟩
      clear k4
      have HB3 := hid (HW.out.trans (HB2.out.mono HW.out.size))
      go_wp2_with fail
      go_roundw
      case rel => exact ⟨i + 1, by omega, by go_num, HB3⟩
      case measure => simp [intOf]; omega
    · have hge : ¬ (i : Int) < 2 := by omega
      have HBW : Hid (Below w.heap.size w wr) := hid (HB.out.trans (HW.out.mono (by omega)))
      obtain ⟨Z, gZ⟩ : ∃ Z, (wr.alloc (.cells #[.bool false, .slice none 0 0, .map none] 59)).alloc (.cells #[.pointer none, .pointer (some ⟨wr.heap.size, 0, none⟩)] 36) = Z := ⟨_, rfl⟩
      have hBZ : Below wr.heap.size wr Z := by rw [← gZ]; exact below_box2 wr _ _
      have hsZ : Z.heap.size = wr.heap.size + 1 + 1 := by rw [← gZ]; simp
      have x0 : Z.heap[wr.heap.size]? = some (.cells #[.bool false, .slice none 0 0, .map none] 59 (0, 0)) := by
        rw [← gZ, (below_box (wr.alloc _) _).block _ (by simp)]; exact heap_alloc_new _ _
      have x1 : Z.heap[wr.heap.size + 1]? = some (.cells #[.pointer none, .pointer (some ⟨wr.heap.size, 0, none⟩)] 36 (0, 0)) := by
        have := heap_alloc_new (wr.alloc (.cells #[.bool false, .slice none 0 0, .map none] 59)) (.cells #[.pointer none, .pointer (some ⟨wr.heap.size, 0, none⟩)] 36)
        rw [← gZ]; simpa using this
      have HN2 : Hid (∀ i, i < 2 → ∃ d, Z.cell? ⟨wr.heap.size + 1, i, none⟩ = some d ∧ Nob Z d) := hid (two_nob (w := w) x1 x0 rfl)
      have HBZ := hid (HBW.out.trans (hBZ.mono HBW.out.size))
      have GZ := hid gZ
      have HSZ := hid hsZ
      clear x0 x1 hBZ gZ hsZ HW HN
      go_wp2_with fail
      rw [GZ.out]
      go_loopw [47] (fun k wq => ∃ i : Nat, i ≤ 2 ∧ k = .int .i64 i ∧ Hid (Below Z.heap.size Z wq)) (fun k _ => 2 - (intOf k).toNat)
      case atStart => exact ⟨0, by omega, rfl, hid (Below.refl _ _)⟩
      case round =>
        obtain ⟨j, hj, rfl, HQ⟩ := hrel
        rename World => wq
        have hsz := HSZ.out
        by_cases hjl : j < 2
        · obtain ⟨d, hd, hnob⟩ := HN2.out j hjl
          have hdw : wq.cell? ⟨wr.heap.size + 1, j, none⟩ = some d := (HQ.out.cell (p := ⟨wr.heap.size + 1, j, none⟩) (show wr.heap.size + 1 < Z.heap.size by omega)).trans hd
          have HD := hid (hnob.below HQ.out)
          have b1 := below_box wq (.cells #[.int .i64 n] 3)
          have k1 := hid (dnew (some ⟨wq.heap.size, 0, none⟩) 1 1 [n] _ (one_ilst' wq n) (by omega))
          have HB1 := hid b1
          have hli : (j : Int) < 2 := by omega
          clear hd hnob b1
          go_wp2_with fail
          refine k1.out.mono ?_
          rintro e w1 ⟨p1, rfl, _, hb1⟩
          have HB2 := hid (HB1.out.trans (hb1.mono HB1.out.size))
          have k2 := hid (pick_cnob w1 d (.pointer (some ⟨p1, 0, none⟩)) (-1) (HD.out.below HB2.out))
          have k3 := hid (weight_nob w1 d n n (HD.out.below HB2.out))
          clear k1 hb1 HB1
          go_wp2_with fail
          refine k2.out.mono ?_
          rintro e w3 ⟨rfl, rfl⟩
          clear k2
          go_wp2_with fail
          refine k3.out.mono ?_
          rintro e w4 ⟨rfl, rfl⟩
          clear k3
          have HB3 := hid (HQ.out.trans (HB2.out.mono HQ.out.size))
          go_wp2_with fail
          go_roundw
          case rel => exact ⟨j + 1, by omega, by go_num, HB3⟩
          case measure => simp [intOf]; omega
        · have hgj : ¬ (j : Int) < 2 := by omega
          have b1 := below_box wq (.cells #[.int .i64 7] 3)
          have HQB : Hid (Below w.heap.size w wq) := hid (HBZ.out.trans (HQ.out.mono HBZ.out.size))
          have HB1 := hid (HQB.out.trans (b1.mono HQB.out.size))
          have k1 := hid (dnew (some ⟨wq.heap.size, 0, none⟩) 1 1 [7] _ (one_ilst' wq 7) (by omega))
          clear b1 HQB
          go_wp2_with fail
          refine k1.out.mono ?_
          rintro e w8 ⟨p8, rfl, hD, hb⟩
          have HB8 := hid (HB1.out.trans (hb.mono HB1.out.size))
          have k9 := hid (next_any w8 _ p8 [7] 0 5 hD (by omega))
          have h9 := hD.base
          have h10 := HB1.out.size
          rw [show nx 5 [7] 0 = 2 by decide] at k9
          clear k1 hD hb HB1
          go_wp2_with fail
          refine k9.out.mono ?_
          rintro e w9 ⟨rfl, _, hU⟩
          have HB9 := hid (HB8.out.trans (hU.below HB8.out.size (fun x hx => by omega)))
          clear k9 hU HB8
          go_wp2_with fail
          go_ret
          exact ⟨rfl, HB9.out⟩

end Go.Proofs.Ytmieoihjgckfhaa
