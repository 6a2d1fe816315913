/- What named does of nodes that are no directories, Links of one node, and awake. -/
import Derived.Test.YtgbikncpmgikaaaOBlocks
namespace Go.Proofs.Ytgbikncpmgikaaa
open Go.RowKit
set_option linter.unusedVariables false
set_option maxRecDepth 20000

set_option maxHeartbeats 2000000 in
theorem named_none (w : World) (a : Option Addr) (l : List Nd) (c : Nat) (hR : Nds w a l) (hl : l.length ≤ 35184372088832) (hk : ∀ d ∈ l, d.k = 0) :
    Calls Try.prog 21 #[.slice a l.length c] w fun e w' => e = .returned (.map (some w.heap.size)) ∧ Oc w' w.heap.size 0 0 (fun _ => 0) ∧ Upd (fun _ => False) w w' := by
  have HR := hid hR
  have HK := hid hk
  obtain ⟨n, gn⟩ : ∃ n, n = l.length := ⟨_, rfl⟩
  have GN := hid gn
  rw [← gn] at hl ⊢
  clear hR gn hk
  have hmm := @run_makeMap Try.prog
  go_enter Try.func21, Try.ntmps21
  go_wp2_with fail
  clear hmm
  go_loopw [10] (fun k wr => ∃ (i : Nat), i ≤ n ∧ k = .int .i64 i ∧ Hid (Oc wr w.heap.size 0 0 (fun _ => 0)) ∧ Hid (Upd (fun _ => False) w wr)) (fun k _ => n - (intOf k).toNat)
  case atStart => exact ⟨0, by omega, rfl, hid (Oc.none w), hid (Upd.alloc _ _ _)⟩
  case round =>
    obtain ⟨i, hi, rfl, HM, HU⟩ := hrel
    rename World => wr
    by_cases hlt : i < n
    · have hln : i < l.length := by rw [← GN.out]; exact hlt
      obtain ⟨b, o, rfl, hbl, hc⟩ := (HR.out.upd (w := wr) HU.out (fun _ _ h => h)).ex (by omega)
      obtain ⟨c0, c1, c2, c3, c4, c5, c6, c7⟩ := hc i hln
      rw [HK.out _ (getD_mem l i nd0 hln)] at c1
      generalize l.getD i nd0 = d at *
      obtain ⟨x, x1, x2, x3, x4, ba, bs, bc, na, nn, nc, oa, on, oc⟩ := d
      dsimp only at *
      generalize bs.length = bn at c5
      clear hc
      have hX : Upd (fun _ => False) wr (wr.alloc (.cells #[.int .i64 x, .int .i64 0, .int .i64 x2, .int .i64 x3, .int .i64 x4, .slice ba bn bc, .slice na nn nc, .slice oa on oc] 47)) := Upd.alloc _ _ _
      have HO3 := hid (HM.out.upd hX (fun h => h))
      have HU3 : Hid (Upd (fun _ => False) w (wr.alloc (.cells #[.int .i64 x, .int .i64 0, .int .i64 x2, .int .i64 x3, .int .i64 x4, .slice ba bn bc, .slice na nn nc, .slice oa on oc] 47))) := hid (HU.out.trans hX (fun _ _ h => h))
      clear hX HM HU
      go_wp2_with fail
      go_roundw
      case rel => exact ⟨i + 1, by omega, by go_num, HO3, HU3⟩
      case measure => simp [intOf]; omega
    · have hin : i = n := by omega
      subst hin
      go_wp2_with fail
      go_ret
      exact ⟨rfl, HM.out, HU.out⟩

set_option maxHeartbeats 4000000 in
theorem links_one (w : World) (a : Option Addr) (d : Nd) (c : Nat) (hR : Nds w a [d]) (hk : d.k = 0) (hn : d.n = 1) :
    Calls Try.prog 15 #[.slice a 1 c] w fun e w' => e = .returned (.bool (d.l == 1)) ∧ Upd (fun _ => False) w w' := by
  have HR := hid hR
  have KN := hid (named_none w a [d] c hR (by simp) (fun x hx => by simp at hx; rw [hx]; exact hk))
  have HK := hid hk
  have HN := hid hn
  obtain ⟨R, gR⟩ : ∃ R, R = (d.l == 1) := ⟨_, rfl⟩
  have GR := hid gR
  rw [← gR]
  clear hR hk hn gR
  go_enter Try.func15, Try.ntmps15
  go_wp2_with fail
  refine KN.out.mono ?_
  rintro e w1 ⟨rfl, hO, hU⟩
  have HO := hid hO
  have HU1 := hid hU
  clear KN hO hU
  go_wp2_with fail
  generalize w.heap.size = A at *
  go_loopw [11] (fun k wr => ∃ (i : Nat), i ≤ 1 ∧ k = .int .i64 i ∧ Hid (i = 1 → R = true) ∧ Hid (Oc wr A 0 0 (fun _ => 0)) ∧ Hid (Upd (fun _ => False) w wr)) (fun k _ => 1 - (intOf k).toNat)
  case atStart => exact ⟨0, by omega, rfl, hid (fun h => by cases h), HO, HU1⟩
  case round =>
    clear HO HU1
    obtain ⟨i, hi, rfl, HA, HO, HU⟩ := hrel
    rename World => wr
    have hi2 : i = 0 ∨ i = 1 := by omega
    clear hi
    rcases hi2 with rfl | rfl
    · obtain ⟨b, o, rfl, hbl, hc⟩ := (HR.out.upd (w := wr) HU.out (fun _ _ h => h)).ex (by simp)
      obtain ⟨c0, c1, c2, c3, c4, c5, c6, c7⟩ := hc 0 (by simp)
      simp only [List.getD_cons_zero, Nat.zero_mul, Nat.add_zero] at c0 c1 c2 c3 c4 c5 c6 c7
      rw [HN.out] at c0
      rw [HK.out] at c1
      clear hc
      generalize d.bs.length = bn at c5
      have hX : Upd (fun _ => False) wr (wr.alloc (.cells #[.int .i64 1, .int .i64 0, .int .i64 d.l, .int .i64 d.s, .int .i64 d.h, .slice d.ba bn d.bc, .slice d.na d.nn d.nc, .slice d.oa d.on d.oc] 47)) := Upd.alloc _ _ _
      have HO3 := hid (HO.out.upd hX (fun h => h))
      have hlk := oc_look HO3.out (k := 1) ⟨by omega, by omega⟩
      have HU3 : Hid (Upd (fun _ => False) w (wr.alloc (.cells #[.int .i64 1, .int .i64 0, .int .i64 d.l, .int .i64 d.s, .int .i64 d.h, .slice d.ba bn d.bc, .slice d.na d.nn d.nc, .slice d.oa d.on d.oc] 47))) := hid (HU.out.trans hX (fun _ _ h => h))
      clear hX HO HU
      cases b1 : d.l == 1
      · have b2 : (d.l != 1) = true := by simp [bne, b1]
        have HE : Hid (R = false) := hid (GR.out.trans b1)
        go_wp2_with fail
        go_ret
        rw [HE.out]
        exact ⟨rfl, HU3.out⟩
      · have HE : Hid (R = true) := hid (GR.out.trans b1)
        have b2 : (d.l != 1) = false := by simp [bne, b1]
        go_wp2_with fail
        go_roundw
        case rel => exact ⟨1, by omega, rfl, hid (fun _ => HE.out), HO3, HU3⟩
        case measure => decide
    · have HE : Hid (R = true) := hid (HA.out rfl)
      have KN := hid (nums_any wr a [d] c (HR.out.upd (w := wr) HU.out (fun _ _ h => h)) (by simp))
      go_wp2_with fail
      refine KN.out.mono ?_
      rintro e w2 ⟨N2, rfl, hO2, hU2⟩
      have KW := hid (within_any w2 A wr.heap.size _ _ _ _ _ _ (HO.out.upd hU2 (fun h => h)) hO2)
      have hwi : wiB (fun _ => 0) (cn ([d].map Nd.n)) = true := wiB_true (fun k _ h => absurd rfl h)
      rw [hwi] at KW
      have HU2 : Hid (Upd (fun _ => False) w w2) := hid (HU.out.trans hU2 (fun _ _ h => h))
      clear KN hO2 hU2 hwi
      go_wp2_with fail
      refine KW.out.mono ?_
      rintro e w3 ⟨rfl, hU3⟩
      have HU3 : Hid (Upd (fun _ => False) w w3) := hid (HU2.out.trans hU3 (fun _ _ h => h))
      clear KW hU3
      go_wp2_with fail
      go_ret
      rw [HE.out]
      exact ⟨rfl, HU3.out⟩

theorem nds_one (w : World) (x : Int) : Nds (w.alloc (.cells #[.int .i64 1, .int .i64 0, .int .i64 x, .int .i64 0, .int .i64 0, .slice none 0 0, .slice none 0 0, .slice none 0 0] 47)) (some ⟨w.heap.size, 0, none⟩) [⟨1, 0, x, 0, 0, none, [], 0, none, 0, 0, none, 0, 0⟩] :=
  ⟨fun d hd => by
    simp only [List.mem_singleton] at hd
    subst hd
    exact ⟨⟨by dsimp only; omega, by dsimp only; omega⟩, ⟨by dsimp only; omega, by dsimp only; omega⟩, ⟨fun y hy => (by cases hy), fun h => absurd h (by simp)⟩, by simp⟩,
   fun _ => ⟨w.heap.size, 0, rfl, by simp, fun j hj => by
    obtain rfl : j = 0 := by simpa using hj
    have h := heap_alloc_new w (.cells #[.int .i64 1, .int .i64 0, .int .i64 x, .int .i64 0, .int .i64 0, .slice none 0 0, .slice none 0 0, .slice none 0 0] 47)
    exact ⟨cell_of_row _ _ 0 _ _ _ h, cell_of_row _ _ 1 _ _ _ h, cell_of_row _ _ 2 _ _ _ h, cell_of_row _ _ 3 _ _ _ h, cell_of_row _ _ 4 _ _ _ h, cell_of_row _ _ 5 _ _ _ h, cell_of_row _ _ 6 _ _ _ h, cell_of_row _ _ 7 _ _ _ h⟩⟩⟩

set_option maxHeartbeats 4000000 in
theorem awake_any (w : World) : Calls Try.prog 10 #[] w fun e w' => e = .returned (.bool true) ∧ Upd (fun _ => False) w w' := by
  have K1 := hid (links_one _ _ _ 1 (nds_one w 1) rfl rfl)
  have K2 : Hid (∀ w1 : World, _) := hid fun w1 => links_one _ _ _ 1 (nds_one w1 2) rfl rfl
  go_enter Try.func10, Try.ntmps10
  go_wp2_with fail
  refine K1.out.mono ?_
  rintro e w1 ⟨rfl, hU1⟩
  have HU1 : Hid (Upd (fun _ => False) w w1) := hid ((Upd.alloc _ _ _).trans hU1 (fun _ _ h => h))
  have e1 : ((1 : Int) == 1) = true := rfl
  clear K1 hU1
  go_wp2_with fail
  refine (K2.out w1).mono ?_
  rintro e w2 ⟨rfl, hU2⟩
  have HU2 : Hid (Upd (fun _ => False) w w2) := hid (HU1.out.trans ((Upd.alloc _ _ _).trans hU2 (fun _ _ h => h)) (fun _ _ h => h))
  have e2 : ((2 : Int) == 1) = false := rfl
  clear K2 hU2
  go_wp2_with fail
  go_ret
  exact ⟨rfl, HU2.out⟩

end Go.Proofs.Ytgbikncpmgikaaa
