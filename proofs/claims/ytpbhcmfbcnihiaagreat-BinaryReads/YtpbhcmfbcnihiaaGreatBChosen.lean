/- The chosen codec: which one is chosen, what its Write writes. -/
import Derived.Test.YtpbhcmfbcnihiaaGreatBList
import Derived.Test.YtpbhcmfbcnihiaaGreatBMk
namespace Go.Proofs.YtpbhcmfbcnihiaaGreat
open Go.RowKit Num
set_option linter.unusedVariables false
set_option maxRecDepth 20000

set_option maxHeartbeats 4000000 in
theorem choose_any (b o lb rb : Nat) (r : Int) (f0 f1 g0 g1 : Array Value) (k0 k1 j0 j1 : Nat) (W : World) (h : W.cell? ⟨b, o + 1, none⟩ = some (.int .i64 r)) (hbl : b < W.heap.size) (hl : lb < W.heap.size) (hr : rb < W.heap.size)
    (l0 : W.cell? ⟨lb, 0, none⟩ = some (fv k0 f0)) (l1 : W.cell? ⟨lb, 1, none⟩ = some (fv k1 f1)) (r0 : W.cell? ⟨rb, 0, none⟩ = some (fv j0 g0)) (r1 : W.cell? ⟨rb, 1, none⟩ = some (fv j1 g1)) (k : Bool) (hk : decide (r = -1) = k) :
    Calls Tryz.prog 88 #[.pointer (some ⟨b, o, none⟩), pt lb, pt rb] W fun e w' => e = .returned (.agg #[fv (if k = true then k0 else j0) (if k = true then f0 else g0), fv (if k = true then k1 else j1) (if k = true then f1 else g1)]) ∧ Below W.heap.size W w' := by
  cases k
  · have hc : r ≠ -1 := of_decide_eq_false hk
    have b0 : (r == -1) = false := by simp [hc]
    simp only [Bool.false_eq_true, if_false]
    clear hk hc
    go_enter Tryz.func88, Tryz.ntmps88
    go_wp2_with fail
    refine bodyPost_ret (cell_result rfl _ _ W.heap.size 0 rfl [fv j0 g0, fv j1 g1] _ (rangeAt_block (t := 114) (heap1 W _)) Tryz.underlying114 rfl csize114) rfl ?_
    exact ⟨rfl, below_box _ _⟩
  · have hc : r = -1 := of_decide_eq_true hk
    subst hc
    simp only [if_true]
    clear hk
    go_enter Tryz.func88, Tryz.ntmps88
    go_wp2_with fail
    refine bodyPost_ret (cell_result rfl _ _ W.heap.size 0 rfl [fv k0 f0, fv k1 f1] _ (rangeAt_block (t := 114) (heap1 W _)) Tryz.underlying114 rfl csize114) rfl ?_
    exact ⟨rfl, below_box _ _⟩

theorem fld114_0 (k j : Nat) (a b : Array Value) : (fun w => (Instr.field 114 (.agg #[fv k a, fv j b]) 0).run Tryz.prog w) = fun w => .ok (fv k a) w := by kernel_rfl
theorem fld114_1 (k j : Nat) (a b : Array Value) : (fun w => (Instr.field 114 (.agg #[fv k a, fv j b]) 1).run Tryz.prog w) = fun w => .ok (fv j b) w := by kernel_rfl
theorem fld41_0 (k j : Nat) (a b : Array Value) : (fun w => (Instr.field 41 (.agg #[fv k a, fv j b]) 0).run Tryz.prog w) = fun w => .ok (fv k a) w := by kernel_rfl
theorem fld41_1 (k j : Nat) (a b : Array Value) : (fun w => (Instr.field 41 (.agg #[fv k a, fv j b]) 1).run Tryz.prog w) = fun w => .ok (fv j b) w := by kernel_rfl

set_option maxHeartbeats 4000000 in
theorem chosen_wr (B : Nat) (wc : World) (q lb rb : Nat) (hq : B ≤ q ∧ q < wc.heap.size) (hl : B ≤ lb ∧ lb < wc.heap.size) (hr : B ≤ rb ∧ rb < wc.heap.size) (f0 f1 g0 g1 : Array Value) (k0 k1 j0 j1 : Nat)
    (h1 : wc.cell? ⟨q, 0, none⟩ = some (fv 88 #[pt lb, pt rb])) (l0 : wc.cell? ⟨lb, 0, none⟩ = some (fv k0 f0)) (l1 : wc.cell? ⟨lb, 1, none⟩ = some (fv k1 f1)) (r0 : wc.cell? ⟨rb, 0, none⟩ = some (fv j0 g0)) (r1 : wc.cell? ⟨rb, 1, none⟩ = some (fv j1 g1))
    (e0 e1 : Cp → List Int) (o0 o1 : Cp → Prop) (hL : Wr B wc CpAt e0 o0 k0 f0) (hR : Wr B wc CpAt e1 o1 j0 g0) :
    Wr B wc CpAt (fun c => if c.r = -1 then e0 c else e1 c) (fun c => (c.r = -1 → o0 c) ∧ (c.r ≠ -1 → o1 c)) 118 #[pt q] := by
  refine ⟨fun args w => by kernel_rfl, fun W b o c v xs hW hv hx hok hO hlen => ?_⟩
  show Calls Tryz.prog 118 #[v, .pointer (some ⟨b, o, none⟩), pt q] W _
  dsimp only at hlen hok ⊢
  have c1 := (hW.atc 0 hq.2 (by omega)).trans h1
  obtain ⟨k, hk⟩ : ∃ k, decide (c.r = -1) = k := ⟨_, rfl⟩
  have hs := hW.size
  have kc := hid (choose_any b o lb rb c.r f0 f1 g0 g1 k0 k1 j0 j1 W hx.2.1.2.2 hx.1.2.1 (by omega) (by omega) ((hW.atc 0 hl.2 (by omega)).trans l0) ((hW.atc 1 hl.2 (by omega)).trans l1) ((hW.atc 0 hr.2 (by omega)).trans r0) ((hW.atc 1 hr.2 (by omega)).trans r1) k hk)
  have kw : Wr B wc CpAt (fun x => if c.r = -1 then e0 x else e1 x) (fun x => (c.r = -1 → o0 x) ∧ (c.r ≠ -1 → o1 x)) (if k = true then k0 else j0) (if k = true then f0 else g0) := by
    cases k
    · have hc := of_decide_eq_false hk
      simp only [Bool.false_eq_true, if_false]
      exact hR.imp (fun x h => h.2 hc) (fun x => by rw [if_neg hc])
    · have hc := of_decide_eq_true hk
      simp only [if_true]
      exact hL.imp (fun x h => h.1 hc) (fun x => by rw [if_pos hc])
  have hgo := kw.1
  have k2 := hid (fun wx (hb : Below W.heap.size W wx) => kw.2 wx b o c v xs (hW.trans (Upd.of_below hb) (fun _ _ h => h)) hv (hx.keep (Keep.below hb)) hok (own_below hO hb) hlen)
  dsimp only at k2
  generalize (if c.r = -1 then e0 c else e1 c) = E at k2 hlen ⊢
  generalize (if k = true then k0 else j0) = K0 at kc k2 hgo
  generalize (if k = true then f0 else g0) = F0 at kc k2
  generalize (if k = true then k1 else j1) = K1 at kc
  generalize (if k = true then f1 else g1) = F1 at kc
  clear hx hk hok hO hv hW kw hL hR l0 l1 r0 r1 h1
  go_enter Tryz.func118, Tryz.ntmps118
  go_wp2_with fail
  refine kc.out.mono ?_
  rintro e w1 ⟨rfl, hb1⟩
  have HB := hid hb1
  have hfl := congrFun (fld114_0 K0 K1 F0 F1) w1
  clear hb1 kc
  go_wp2_with fail
  refine (k2.out _ HB.out).mono ?_
  rintro e w2 ⟨v', rfl, hO2, hU2, hF2⟩
  have HO2 := hid hO2
  have HW2 : Hid (Ow W w2 v v') := hid (((Ow.refl W v).below HB.out).trans ⟨hU2, hF2⟩)
  clear hO2 hU2 hF2 k2 hgo
  go_wp2_with fail
  go_ret
  exact ⟨v', rfl, HO2.out, HW2.out.upd, HW2.out.fr⟩

end Go.Proofs.YtpbhcmfbcnihiaaGreat
