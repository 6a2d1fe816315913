/- The road of PipesLives. -/
import Derived.Test.YtemdckmnedlfcaaPRef5
namespace Go.Proofs.Ytemdckmnedlfcaa
open Go.RowKit Lend
set_option linter.unusedVariables false

set_option maxHeartbeats 1000000 in
theorem clone_both (ab : Option Addr) (lb cb : Nat) (zs : List Int) (w : World) (hs : Src w ab lb zs) (hr : lb ≤ 140737488355328) (hnil : ab = none → lb = 0 ∧ cb = 0) :
    Calls Try.prog 10 #[.slice ab lb cb] w fun e w' => ∃ v, e = .returned v ∧ w'.ownsRow w.heap.size 5 1 v lb (zs.map (Value.int .u8)) ∧ Below w.heap.size w w' := by
  cases ab with
  | some a =>
    refine (clone_any a lb cb zs w hs hr).mono ?_
    rintro e w' ⟨g, c, rfl, ho, hb⟩
    exact ⟨_, rfl, ho, hb⟩
  | none =>
    obtain ⟨rfl, rfl⟩ := hnil rfl
    obtain rfl : zs = [] := List.eq_nil_of_length_eq_zero hs.1
    refine (clone_nil 0 0 w).mono ?_
    rintro e w' ⟨rfl, rfl⟩
    exact ⟨_, rfl, World.ownsRow_nil _ _ _ _, Below.refl _ _⟩

set_option maxHeartbeats 1000000 in
theorem spoil_any (v : Value) (n c : Nat) (ad : Option Addr) (xs : List Int) (w : World) (B : Nat) (hv : v = .slice ad n c) (ho : w.ownsRow B 5 1 v n (xs.map (Value.int .u8))) (hn : n ≤ 140737488355328) :
    Calls Try.prog 16 #[v] w fun e w' => e = .returned (.tuple #[]) ∧ Upd (fun x => v.ownBlock = some x) w w' := by
  rcases ho.2 with ⟨h1, h2⟩ | ⟨g, cap, cur, h1, _⟩
  · subst h1
    subst h2
    clear hv
    go_enter Try.func16, Try.ntmps16
    go_wp2_with fail
    go_loop [5] (fun s => s = .int .i64 0) (fun _ => 0)
    case atStart => rfl
    case round =>
      subst hrel
      go_wp2_with fail
      go_end0
      exact ⟨rfl, Upd.refl _ _⟩
  · subst h1
    have HO := hid ho
    clear ho hv
    go_enter Try.func16, Try.ntmps16
    go_wp2_with fail
    go_loopw [5] (fun s wr => ∃ (i : Nat) (ys : List Int), i ≤ n ∧ s = .int .i64 i ∧ Hid (wr.ownsRow B 5 1 (.slice (some ⟨g, 0, none⟩) n cap) n (ys.map (Value.int .u8))) ∧ Upd (fun x => (Value.slice (some ⟨g, 0, none⟩) n cap).ownBlock = some x) w wr) (fun s _ => n - (intOf s).toNat)
    case atStart => exact ⟨0, xs, by omega, rfl, HO, Upd.refl _ _⟩
    case round =>
      obtain ⟨i, ys, hi, rfl, HW, hu⟩ := hrel
      by_cases h : i < n
      · have hl : ys.length = n := by have := HW.out.1; simpa using this
        have hcell : wr.cell? ⟨g, i, none⟩ = some (.int .u8 (ys.getD i 0)) := by
          rw [HW.out.cellAt i (by omega), List.getElem?_map, List.getD_eq_getElem?_getD, List.getElem?_eq_getElem (by omega)]; rfl
        have hfr : wr.frozen? ⟨g, i, none⟩ = false := HW.out.frozenAt i
        obtain ⟨z, gz⟩ : ∃ z, z = ys.getD i 0 := ⟨_, rfl⟩
        rw [← gz] at hcell
        have HN : Hid (∀ y, (wr.setCell ⟨g, i, none⟩ (.int .u8 y)).ownsRow B 5 1 (.slice (some ⟨g, 0, none⟩) n cap) n ((ys.set i y).map (Value.int .u8))) := by
          refine hid (fun y => ?_)
          rw [List.map_set]
          exact (HW.out.stored i (.int .u8 y)).1
        clear gz
        go_wp2_with fail
        go_roundw
        case rel => exact ⟨i + 1, _, by omega, by go_num, hid (HN.out _), hu.trans (Upd.setCell (F := fun x => (Value.slice (some ⟨g, 0, none⟩) n cap).ownBlock = some x) wr ⟨g, i, none⟩ _ rfl) (fun _ _ h => h)⟩
        case measure => simp [intOf]; omega
      · obtain rfl : i = n := by omega
        go_wp2_with fail
        go_end0
        exact ⟨rfl, hu⟩

/-- Both tables, as PipesLives carries them from call to call. -/
structure Lv (w0 w : World) (p q g : Nat) (d : Int) (A : Nat → Option Addr × Nat) (P : Nat → Pp) : Prop where
  tc : Tc w p (bit8 d) P
  rt : Rt w0.heap.size w q g d A P
  gep : w0.heap.size ≤ p
  bel : Below w0.heap.size w0 w

section
variable {w0 w w1 w2 : World} {p q g : Nat} {d : Int} {A A' : Nat → Option Addr × Nat} {P P' : Nat → Pp}
theorem Lv.below (h : Lv w0 w p q g d A P) (u : Below w.heap.size w w1) : Lv w0 w1 p q g d A P :=
  ⟨h.tc.below u h.tc.lt, h.rt.below u, h.gep, h.bel.trans (u.mono h.bel.size)⟩
theorem Lv.like (h : Lv w0 w p q g d A P) (e : w1.heap = w.heap) (u : Upd (fun _ => False) w w1) : Lv w0 w1 p q g d A P :=
  ⟨h.tc.hp e, h.rt.hp e, h.gep, h.bel.trans (u.below h.bel.size (fun _ f => f.elim))⟩
theorem Lv.drew (h : Lv w0 w p q g d A P) (n : Nat) : Lv w0 (w.drewN n) p q g d A P :=
  ⟨h.tc.hp rfl, h.rt.hp rfl, h.gep, below_drewN h.bel n⟩
theorem Tc.type {k : Bool} (h : Tc w p k P) : ∃ C, w.heap[p]? = some (.cells C 58 (0, 0)) := by
  obtain ⟨P0, ⟨C, hb, _⟩, _⟩ := h.ex; exact ⟨_, hb⟩
theorem Rt.ne_p {B : Nat} (h : Rt B w q g d A P) (hp : ∃ C, w.heap[p]? = some (.cells C 58 (0, 0))) : q ≠ p ∧ g ≠ p ∧ ∀ i, i < 5 → ∀ b, (rsl A P i).ownBlock = some b → b ≠ p := by
  obtain ⟨C, hp⟩ := hp
  refine ⟨fun e => ?_, fun e => ?_, fun i hi b hb => ne_of_type hp (by decide) (h.own i hi) b hb⟩
  · have := h.head; rw [e, hp] at this; cases this
  · obtain ⟨C', hg, _⟩ := h.row; rw [e, hp] at hg; cases hg
/-- Behind a call of the program's: what the document's has is as it was. -/
theorem Lv.mid (h : Lv w0 w p q g d A P) (u : Upd (· = p) w w1) : Rt w0.heap.size w1 q g d A P ∧ Below w0.heap.size w0 w1 := by
  have n := h.rt.ne_p h.tc.type
  exact ⟨h.rt.upd u n.1 n.2.1 n.2.2, h.bel.trans (u.below h.bel.size (fun x f => by have := h.gep; omega))⟩
/-- Behind both. -/
theorem Lv.both (h : Lv w0 w p q g d A P) (u : Upd (· = p) w w1) (ht : Tc w1 p (bit8 d) P') (hr : Rt w0.heap.size w2 q g d A' P') (u2 : Upd (· = g) w1 w2) : Lv w0 w2 p q g d A' P' := by
  have m := h.mid u
  have n := m.1.ne_p ht.type
  exact ⟨ht.upd u2 (fun e => n.2.1 e.symm), hr, h.gep, m.2.trans (u2.below m.2.size (fun x f => by have := h.rt.geg; omega))⟩
/-- Behind a call that spoils a row of bytes. -/
theorem Lv.spoiled {B n : Nat} {v : Value} {xs : List Value} (h : Lv w0 w p q g d A P) (ho : w.ownsRow B 5 1 v n xs) (hB : w0.heap.size ≤ B) (u : Upd (fun x => v.ownBlock = some x) w w1) (hn : ∀ i, i < 5 → ∀ b, (rsl A P i).ownBlock = some b → v.ownBlock ≠ some b) : Lv w0 w1 p q g d A P := by
  obtain ⟨C, hp⟩ := h.tc.type
  obtain ⟨C', hg, _⟩ := h.rt.row
  exact ⟨h.tc.upd u (fun e => ne_of_type hp (by decide) ho p e rfl), h.rt.upd u (fun e => ne_of_type h.rt.head (by decide) ho q e rfl) (fun e => ne_of_type hg (by decide) ho g e rfl) hn, h.gep,
    h.bel.trans (u.below h.bel.size (fun x f => by have := (ho.lt x f).1; omega))⟩
theorem Tc.q8 {k : Bool} (h : Tc w p k P) : ∀ i, i < 5 → (P i).q.length ≤ 8 := by
  intro i hi
  obtain ⟨P0, ht, he⟩ := h.ex
  rw [he i hi]; unfold clr; split
  · exact ht.le i hi
  · simp
end

set_option maxHeartbeats 8000000 in
set_option maxRecDepth 20000 in
theorem lives_road (d : Int) (al : Option Addr) (ll cl : Nat) (w : World) (hd : Dos w al ll) (hl : ll ≤ cl) (hcl : cl ≤ 9223372036854775807) :
    Calls Try.prog 3 #[.int .i64 d, .slice al ll cl] w fun e w' => e = .returned (.bool true) ∧ Below w.heap.size w w' := by
  have k0 := hid (pnew_any d w)
  have HD := hid hd
  clear hd
  go_enter Try.func3, Try.ntmps3
  go_wp2_with fail
  refine k0.out.mono ?_
  rintro e w1 ⟨rfl, ht, hb, hz⟩
  have kn := hid (rnew_any d w1 w.heap.size hb.size)
  have HT := hid ht
  have HB := hid hb
  obtain ⟨p, gp⟩ : ∃ p, p = w.heap.size := ⟨_, rfl⟩
  rw [← gp] at HT ⊢
  have GP := hid gp
  clear ht hb hz gp k0
  go_wp2_with fail
  refine kn.out.mono ?_
  rintro e w2 ⟨q, g, rfl, hr, hb2⟩
  have HF : Hid (Lv w w2 p q g d (fun _ => (none, 0)) noPipes) := by
    refine hid ⟨⟨⟨noPipes, HT.out.below hb2 HT.out.lt, fun i hi => rfl⟩, fun i hi => by simp [noPipes]⟩, hr, by rw [GP.out]; exact Nat.le_refl _, HB.out.trans (hb2.mono HB.out.size)⟩
  clear kn hr hb2 HT HB GP
  go_wp2_with fail
  go_loopw [33] (fun s wr => ∃ (i : Nat) (A : Nat → Option Addr × Nat) (P : Nat → Pp), i ≤ ll ∧ s = .int .i64 i ∧ Hid (Lv w wr p q g d A P)) (fun s _ => ll - (intOf s).toNat)
  case atStart => exact ⟨0, _, _, by omega, rfl, HF⟩
  case round =>
    obtain ⟨i, A, P, hil, rfl, HF0⟩ := hrel
    clear HF
    by_cases h : i < ll
    · obtain ⟨b, o, rfl, hh⟩ := HD.out (by omega)
      obtain ⟨x0, x1, x2, x3, ab, lb, cb, bs, hdo⟩ := hh i h
      have HS0 := hid hdo.src
      have hdo := hdo.below HF0.out.bel
      have c0 := hdo.c0
      have c1 := hdo.c1
      have c2 := hdo.c2
      have c3 := hdo.c3
      have c4 := hdo.c4
      have hle := hdo.le
      have hnil := hdo.nil
      have hrch := hdo.reach
      obtain ⟨wA, gA⟩ : ∃ wA, wA = wr.alloc (.cells #[.int .i64 x0, .int .i64 x1, .int .i64 x2, .bool x3, .slice ab lb cb] 29) := ⟨_, rfl⟩
      have hbA : Below wr.heap.size wr wA := by rw [gA]; exact (Below.refl _ _).alloc (Nat.le_refl _) _
      have hA : wA.heap[wr.heap.size]? = some (.cells #[.int .i64 x0, .int .i64 x1, .int .i64 x2, .bool x3, .slice ab lb cb] 29 (0, 0)) := by rw [gA]; exact heap_alloc_new wr _
      have HKL : Hid (wr.heap.size < wA.heap.size) := hid (Array.getElem?_eq_some_iff.1 hA).1
      have HFA := hid (HF0.out.below hbA)
      have hplt := HF0.out.tc.lt
      have hglt := HF0.out.rt.glt
      have e0 := cell_of_row wA wr.heap.size 0 _ 29 (0, 0) hA
      have e1 := cell_of_row wA wr.heap.size 1 _ 29 (0, 0) hA
      have e2 := cell_of_row wA wr.heap.size 2 _ 29 (0, 0) hA
      have e3 := cell_of_row wA wr.heap.size 3 _ 29 (0, 0) hA
      have e4 := cell_of_row wA wr.heap.size 4 _ 29 (0, 0) hA
      simp at e0 e1 e2 e3 e4
      have GA := hid gA
      clear hh gA hbA hdo hA
      by_cases h80 : 80 < i
      · have i80 : (80 : Int) < (i : Int) := by omega
        have HF := HFA
        clear HFA HF0
        go_wp2_with fail
        rw [← GA.out]
        have kL1 := hid (look_spec p (bit8 d) _ wA HF.out.tc)
        go_wp2_with fail
        refine kL1.out.mono ?_
        rintro e wl ⟨v1, rfl, ho1, hb1⟩
        have HF1 := hid (HF.out.below hb1)
        have HO1 := hid ho1
        clear ho1 hb1 kL1 HF
        have kL2 := hid (rlook_any _ _ _ _ _ _ wl HF1.out.rt)
        go_wp2_with fail
        refine kL2.out.mono ?_
        rintro e wm ⟨v2, rfl, ho2, hb2⟩
        have HF2 := hid (HF1.out.below hb2)
        have kE := hid (sequal_yes v1 v2 0 _ _ wm (own_base (own_below HO1.out hb2) (Nat.zero_le _)) (own_base ho2 (Nat.zero_le _)) (looks_int _ 5) (countP_le _ 5))
        clear ho2 hb2 kL2 HF1 HO1
        go_wp2_with fail
        refine kE.out.mono ?_
        rintro e wn ⟨rfl, hh, hu⟩
        have HF3 := hid (HF2.out.like hh hu)
        clear hh hu kE HF2
        go_wp2_with fail
        go_ret
        exact ⟨rfl, HF3.out.bel⟩
      · have i80 : ¬ (80 : Int) < (i : Int) := by omega
        have kC := hid (clone_both ab lb cb bs wA (HS0.out.below HFA.out.bel) hrch hnil)
        go_wp2_with fail
        rw [← GA.out]
        go_wp2_with fail
        refine kC.out.mono ?_
        rintro e wC ⟨gv, rfl, hog, hbC⟩
        have HFC := hid (HFA.out.below hbC)
        have HOG := hid hog
        have HKC : Hid (wr.heap.size < wC.heap.size) := hid (Nat.lt_of_lt_of_le HKL.out hbC.size)
        have HAC : Hid (wA.heap.size ≤ wC.heap.size) := hid hbC.size
        have HOLD : Hid (∀ j, j < 5 → ∀ b, (rsl A P j).ownBlock = some b → b < wA.heap.size) := hid (fun j hj b hb => (((HFA.out.rt.own j hj)).lt b hb).2)
        have s0 := (hbC.cell (p := ⟨wr.heap.size, 0, none⟩) HKL.out).trans e0
        have s1 := (hbC.cell (p := ⟨wr.heap.size, 1, none⟩) HKL.out).trans e1
        have s2 := (hbC.cell (p := ⟨wr.heap.size, 2, none⟩) HKL.out).trans e2
        have s3 := (hbC.cell (p := ⟨wr.heap.size, 3, none⟩) HKL.out).trans e3
        have s4 := (hbC.cell (p := ⟨wr.heap.size, 4, none⟩) HKL.out).trans e4
        have hgeA := HFA.out.bel.size
        clear hog hbC kC e0 e1 e2 e3 e4 c0 c1 c2 c3 c4 HFA HF0 GA
        obtain ⟨s, hs, hs6⟩ : ∃ s : Nat, wrap64 ((IntKind.u64.wrap x0).tmod 6) = (s : Int) ∧ s < 6 := by
          have h0 : 0 ≤ IntKind.u64.wrap x0 ∧ IntKind.u64.wrap x0 < 18446744073709551616 := by rw [IntKind.wrap_u64]; omega
          rw [Int.tmod_eq_emod_of_nonneg h0.1]
          refine ⟨(IntKind.u64.wrap x0 % 6).toNat, ?_, by omega⟩
          unfold wrap64; omega
        rcases (show s = 0 ∨ s = 1 ∨ s = 2 ∨ s = 3 ∨ s = 4 ∨ s = 5 by omega) with rfl | rfl | rfl | rfl | rfl | rfl
        · simp only [Int.cast_ofNat_Int] at hs
          have k1 := hid (make_spec p (bit8 d) P wC HFC.out.tc)
          go_wp2_with fail
          refine k1.out.mono ?_
          rintro e wD ⟨rfl, htD, huD⟩
          have m := HFC.out.mid huD
          have k2 := hid (rmake_any _ q g d A P wD m.1)
          have HTD := hid htD
          have HUD := hid huD
          clear htD huD m k1
          go_wp2_with fail
          refine k2.out.mono ?_
          rintro e wE ⟨rfl, ⟨A', hrE⟩, huE⟩
          have HF := hid (HFC.out.both HUD.out HTD.out hrE huE)
          clear hrE huE k2 HTD HUD
          have kL1 := hid (look_spec p (bit8 d) _ wE HF.out.tc)
          go_wp2_with fail
          refine kL1.out.mono ?_
          rintro e wl ⟨v1, rfl, ho1, hb1⟩
          have HF1 := hid (HF.out.below hb1)
          have HO1 := hid ho1
          clear ho1 hb1 kL1 HF
          have kL2 := hid (rlook_any _ _ _ _ _ _ wl HF1.out.rt)
          go_wp2_with fail
          refine kL2.out.mono ?_
          rintro e wm ⟨v2, rfl, ho2, hb2⟩
          have HF2 := hid (HF1.out.below hb2)
          have kE := hid (sequal_yes v1 v2 0 _ _ wm (own_base (own_below HO1.out hb2) (Nat.zero_le _)) (own_base ho2 (Nat.zero_le _)) (looks_int _ 5) (countP_le _ 5))
          clear ho2 hb2 kL2 HF1 HO1
          go_wp2_with fail
          refine kE.out.mono ?_
          rintro e wn ⟨rfl, hh, hu⟩
          have HF3 := hid (HF2.out.like hh hu)
          clear hh hu kE HF2
          go_wp2_with fail
          go_roundw
          case rel => exact ⟨i + 1, _, _, by omega, by go_num, HF3⟩
          case measure => simp [intOf]; omega
        · simp only [Int.cast_ofNat_Int] at hs
          have k1 := hid (read_spec p x1 x2 (bit8 d) P wC HFC.out.tc)
          go_wp2_with fail
          refine k1.out.mono ?_
          rintro e wD ⟨vr, rfl, hoD, htD, huD⟩
          have m := HFC.out.mid huD
          have k2 := hid (rread_any _ q g x1 x2 d A P wD m.1 m.2.size HFC.out.tc.q8)
          have t1 := (World.cell?_of_block (a := ⟨wr.heap.size, 1, none⟩) (huD.block wr.heap.size HKC.out (by show ¬ wr.heap.size = p; omega))).trans s1
          have t2 := (World.cell?_of_block (a := ⟨wr.heap.size, 2, none⟩) (huD.block wr.heap.size HKC.out (by show ¬ wr.heap.size = p; omega))).trans s2
          have HTD := hid htD
          have HUD := hid huD
          have HOD := hid hoD
          clear htD huD m k1 hoD
          go_wp2_with fail
          refine k2.out.mono ?_
          rintro e wE ⟨ar, cr, rfl, hsE, hlE⟩
          obtain ⟨A', hrE, hnE⟩ := hlE.rt
          have hoE := hlE.upd.own HOD.out (fun b hb => by
            obtain ⟨C', hg, _⟩ := (HFC.out.mid HUD.out).1.row
            exact ne_of_type hg (by decide) HOD.out b hb)
          obtain ⟨a1, c1, hv, _, _, hs1, _⟩ := own_slice hoE
          have hlen : (readL P x1 x2).length ≤ 140737488355328 := by
            unfold readL; split
            · split
              · rename_i hh _
                obtain ⟨j, rfl, j1, j4, _⟩ := has_some hh
                have := HFC.out.tc.q8 j (by omega)
                simp; omega
              · simp
            · simp
          have HFE := hid (HFC.out.both HUD.out HTD.out hrE hlE.upd)
          have kE := hid (equal_yes a1 ar _ c1 _ cr _ wE hs1 hsE)
          have kS := hid (spoil_any vr _ c1 a1 _ wE _ hv hoE hlen)
          have HNE : Hid (∀ j, j < 5 → ∀ b, (rsl A' (readP P x1 x2) j).ownBlock = some b → vr.ownBlock ≠ some b) := hid (fun j hj b hb e => by
            have y := HOD.out.lt b e
            rcases hnE j hj b hb with x | x
            · have := HOLD.out j hj b x
              have := HAC.out
              omega
            · omega)
          have HOE := hid hoE
          have HV := hid hv
          clear hsE hlE hrE hnE hoE hs1 hv k2 HOD HTD HUD hlen
          rw [HV.out] at kS ⊢
          go_wp2_with fail
          refine kE.out.mono ?_
          rintro e wF ⟨rfl, rfl⟩
          go_wp2_with fail
          refine kS.out.mono ?_
          rintro e wG ⟨rfl, huG⟩
          have HF := hid (HFE.out.spoiled HOE.out (by exact HFC.out.bel.size) (by rw [HV.out]; exact huG) HNE.out)
          clear huG kE kS HFE HOE HNE
          have kL1 := hid (look_spec p (bit8 d) _ wG HF.out.tc)
          go_wp2_with fail
          refine kL1.out.mono ?_
          rintro e wl ⟨v1, rfl, ho1, hb1⟩
          have HF1 := hid (HF.out.below hb1)
          have HO1 := hid ho1
          clear ho1 hb1 kL1 HF
          have kL2 := hid (rlook_any _ _ _ _ _ _ wl HF1.out.rt)
          go_wp2_with fail
          refine kL2.out.mono ?_
          rintro e wm ⟨v2, rfl, ho2, hb2⟩
          have HF2 := hid (HF1.out.below hb2)
          have kE := hid (sequal_yes v1 v2 0 _ _ wm (own_base (own_below HO1.out hb2) (Nat.zero_le _)) (own_base ho2 (Nat.zero_le _)) (looks_int _ 5) (countP_le _ 5))
          clear ho2 hb2 kL2 HF1 HO1
          go_wp2_with fail
          refine kE.out.mono ?_
          rintro e wn ⟨rfl, hh, hu⟩
          have HF3 := hid (HF2.out.like hh hu)
          clear hh hu kE HF2
          go_wp2_with fail
          go_roundw
          case rel => exact ⟨i + 1, _, _, by omega, by go_num, HF3⟩
          case measure => simp [intOf]; omega
        · simp only [Int.cast_ofNat_Int] at hs
          obtain ⟨ag, cg, hv, _, _, hsg, _⟩ := own_slice HOG.out
          have k1 := hid (write_spec p lb cg x1 ag (bit8 d) P bs wC HFC.out.tc hsg)
          have HV := hid hv
          clear hv hsg
          rw [HV.out]
          go_wp2_with fail
          refine k1.out.mono ?_
          rintro e wD ⟨rfl, htD, huD⟩
          have m := HFC.out.mid huD
          have k2 := hid (rwrite_any _ q g lb cb x1 d ab bs A P wD m.1 m.2.size HFC.out.tc.q8 (HS0.out.below m.2) hle hrch)
          have t1 := (World.cell?_of_block (a := ⟨wr.heap.size, 1, none⟩) (huD.block wr.heap.size HKC.out (by show ¬ wr.heap.size = p; omega))).trans s1
          have t4 := (World.cell?_of_block (a := ⟨wr.heap.size, 4, none⟩) (huD.block wr.heap.size HKC.out (by show ¬ wr.heap.size = p; omega))).trans s4
          have HTD := hid htD
          have HUD := hid huD
          clear htD huD m k1
          go_wp2_with fail
          refine k2.out.mono ?_
          rintro e wE ⟨rfl, hlE⟩
          obtain ⟨A', hrE, hnE⟩ := hlE.rt
          have hoD := HUD.out.own HOG.out (fun b hb => by
            obtain ⟨C', hp⟩ := HFC.out.tc.type
            exact ne_of_type hp (by decide) HOG.out b hb)
          have hoE := hlE.upd.own hoD (fun b hb => by
            obtain ⟨C', hg, _⟩ := (HFC.out.mid HUD.out).1.row
            exact ne_of_type hg (by decide) hoD b hb)
          obtain ⟨a1, c1, hv1, _, _, hs1, _⟩ := own_slice hoE
          have e14 : a1 = ag ∧ c1 = cg := by rw [HV.out] at hv1; injection hv1 with y1 y2 y3; exact ⟨y1.symm, y3.symm⟩
          obtain ⟨rfl, rfl⟩ := e14
          have HFE := hid (HFC.out.both HUD.out HTD.out hrE hlE.upd)
          have r4 := (World.cell?_of_block (a := ⟨wr.heap.size, 4, none⟩) (hlE.upd.block wr.heap.size (Nat.lt_of_lt_of_le HKC.out HUD.out.size) (by show ¬ wr.heap.size = g; omega))).trans t4
          have kE := hid (equal_yes a1 ab _ c1 _ cb _ wE hs1 (HS0.out.below HFE.out.bel))
          have kS := hid (spoil_any gv _ c1 a1 _ wE _ HV.out hoE hrch)
          have HNE : Hid (∀ j, j < 5 → ∀ b, (rsl A' (writeP P x1 bs) j).ownBlock = some b → gv.ownBlock ≠ some b) := hid (fun j hj b hb e => by
            have y := hoD.lt b e
            have y2 := HOG.out.lt b e
            rcases hnE j hj b hb with x | x
            · have := HOLD.out j hj b x
              omega
            · omega)
          have HOE := hid hoE
          clear hlE hrE hnE hoE hs1 k2 HTD HUD hoD hv1
          rw [HV.out] at kS
          go_wp2_with fail
          refine kE.out.mono ?_
          rintro e wF ⟨rfl, rfl⟩
          go_wp2_with fail
          refine kS.out.mono ?_
          rintro e wG ⟨rfl, huG⟩
          have HF := hid (HFE.out.spoiled HOE.out hgeA (by rw [HV.out]; exact huG) HNE.out)
          clear huG kE kS HFE HOE HNE
          have kL1 := hid (look_spec p (bit8 d) _ wG HF.out.tc)
          go_wp2_with fail
          refine kL1.out.mono ?_
          rintro e wl ⟨v1, rfl, ho1, hb1⟩
          have HF1 := hid (HF.out.below hb1)
          have HO1 := hid ho1
          clear ho1 hb1 kL1 HF
          have kL2 := hid (rlook_any _ _ _ _ _ _ wl HF1.out.rt)
          go_wp2_with fail
          refine kL2.out.mono ?_
          rintro e wm ⟨v2, rfl, ho2, hb2⟩
          have HF2 := hid (HF1.out.below hb2)
          have kE := hid (sequal_yes v1 v2 0 _ _ wm (own_base (own_below HO1.out hb2) (Nat.zero_le _)) (own_base ho2 (Nat.zero_le _)) (looks_int _ 5) (countP_le _ 5))
          clear ho2 hb2 kL2 HF1 HO1
          go_wp2_with fail
          refine kE.out.mono ?_
          rintro e wn ⟨rfl, hh, hu⟩
          have HF3 := hid (HF2.out.like hh hu)
          clear hh hu kE HF2
          go_wp2_with fail
          go_roundw
          case rel => exact ⟨i + 1, _, _, by omega, by go_num, HF3⟩
          case measure => simp [intOf]; omega
        · simp only [Int.cast_ofNat_Int] at hs
          obtain ⟨ag, cg, hv, _, _, hsg, _⟩ := own_slice HOG.out
          have k1 := hid (write_spec p lb cg x1 ag (bit8 d) P bs wC HFC.out.tc hsg)
          have HV := hid hv
          clear hv hsg
          rw [HV.out]
          go_wp2_with fail
          refine k1.out.mono ?_
          rintro e wD ⟨rfl, htD, huD⟩
          have m := HFC.out.mid huD
          have k2 := hid (rwrite_any _ q g lb cb x1 d ab bs A P wD m.1 m.2.size HFC.out.tc.q8 (HS0.out.below m.2) hle hrch)
          have t1 := (World.cell?_of_block (a := ⟨wr.heap.size, 1, none⟩) (huD.block wr.heap.size HKC.out (by show ¬ wr.heap.size = p; omega))).trans s1
          have t4 := (World.cell?_of_block (a := ⟨wr.heap.size, 4, none⟩) (huD.block wr.heap.size HKC.out (by show ¬ wr.heap.size = p; omega))).trans s4
          have HTD := hid htD
          have HUD := hid huD
          clear htD huD m k1
          go_wp2_with fail
          refine k2.out.mono ?_
          rintro e wE ⟨rfl, hlE⟩
          obtain ⟨A', hrE, hnE⟩ := hlE.rt
          have hoD := HUD.out.own HOG.out (fun b hb => by
            obtain ⟨C', hp⟩ := HFC.out.tc.type
            exact ne_of_type hp (by decide) HOG.out b hb)
          have hoE := hlE.upd.own hoD (fun b hb => by
            obtain ⟨C', hg, _⟩ := (HFC.out.mid HUD.out).1.row
            exact ne_of_type hg (by decide) hoD b hb)
          obtain ⟨a1, c1, hv1, _, _, hs1, _⟩ := own_slice hoE
          have e14 : a1 = ag ∧ c1 = cg := by rw [HV.out] at hv1; injection hv1 with y1 y2 y3; exact ⟨y1.symm, y3.symm⟩
          obtain ⟨rfl, rfl⟩ := e14
          have HFE := hid (HFC.out.both HUD.out HTD.out hrE hlE.upd)
          have r4 := (World.cell?_of_block (a := ⟨wr.heap.size, 4, none⟩) (hlE.upd.block wr.heap.size (Nat.lt_of_lt_of_le HKC.out HUD.out.size) (by show ¬ wr.heap.size = g; omega))).trans t4
          have kE := hid (equal_yes a1 ab _ c1 _ cb _ wE hs1 (HS0.out.below HFE.out.bel))
          have kS := hid (spoil_any gv _ c1 a1 _ wE _ HV.out hoE hrch)
          have HNE : Hid (∀ j, j < 5 → ∀ b, (rsl A' (writeP P x1 bs) j).ownBlock = some b → gv.ownBlock ≠ some b) := hid (fun j hj b hb e => by
            have y := hoD.lt b e
            have y2 := HOG.out.lt b e
            rcases hnE j hj b hb with x | x
            · have := HOLD.out j hj b x
              omega
            · omega)
          have HOE := hid hoE
          clear hlE hrE hnE hoE hs1 k2 HTD HUD hoD hv1
          rw [HV.out] at kS
          go_wp2_with fail
          refine kE.out.mono ?_
          rintro e wF ⟨rfl, rfl⟩
          go_wp2_with fail
          refine kS.out.mono ?_
          rintro e wG ⟨rfl, huG⟩
          have HF := hid (HFE.out.spoiled HOE.out hgeA (by rw [HV.out]; exact huG) HNE.out)
          clear huG kE kS HFE HOE HNE
          have kL1 := hid (look_spec p (bit8 d) _ wG HF.out.tc)
          go_wp2_with fail
          refine kL1.out.mono ?_
          rintro e wl ⟨v1, rfl, ho1, hb1⟩
          have HF1 := hid (HF.out.below hb1)
          have HO1 := hid ho1
          clear ho1 hb1 kL1 HF
          have kL2 := hid (rlook_any _ _ _ _ _ _ wl HF1.out.rt)
          go_wp2_with fail
          refine kL2.out.mono ?_
          rintro e wm ⟨v2, rfl, ho2, hb2⟩
          have HF2 := hid (HF1.out.below hb2)
          have kE := hid (sequal_yes v1 v2 0 _ _ wm (own_base (own_below HO1.out hb2) (Nat.zero_le _)) (own_base ho2 (Nat.zero_le _)) (looks_int _ 5) (countP_le _ 5))
          clear ho2 hb2 kL2 HF1 HO1
          go_wp2_with fail
          refine kE.out.mono ?_
          rintro e wn ⟨rfl, hh, hu⟩
          have HF3 := hid (HF2.out.like hh hu)
          clear hh hu kE HF2
          go_wp2_with fail
          go_roundw
          case rel => exact ⟨i + 1, _, _, by omega, by go_num, HF3⟩
          case measure => simp [intOf]; omega
        · simp only [Int.cast_ofNat_Int] at hs
          go_wp2_with fail
          have HF := HFC
          clear HFC
          go_region_held3 (fun wx => wx.cell? ⟨wr.heap.size, 1, none⟩ = some (.int .i64 x1) ∧ wx.cell? ⟨wr.heap.size, 3, none⟩ = some (.bool x3)) (go_keep) (first | (go_at_call 19; refine (hold_spec p x1 (bit8 d) x3 P _ (by exact HF.out.tc.hp rfl)).mono ?_; rintro e wD ⟨rfl, htD, huD⟩; have HFD := hid (HF.out.drew 1); have HTD := hid htD; have HUD := hid huD; have r1 : wD.cell? ⟨wr.heap.size, 1, none⟩ = some (.int .i64 x1) := (World.cell?_of_block (a := ⟨wr.heap.size, 1, none⟩) (huD.block wr.heap.size HKC.out (by show ¬ wr.heap.size = p; omega))).trans s1; have r3 : wD.cell? ⟨wr.heap.size, 3, none⟩ = some (.bool x3) := (World.cell?_of_block (a := ⟨wr.heap.size, 3, none⟩) (huD.block wr.heap.size HKC.out (by show ¬ wr.heap.size = p; omega))).trans s3; clear htD huD HF) | (go_at_call 20; refine (rhold_any _ q g x1 d x3 A P _ (by exact (HFD.out.mid HUD.out).1) (by exact HFD.out.tc.most)).mono ?_; rintro e wE ⟨rfl, ⟨A', hrE⟩, huE⟩; have HF := hid (HFD.out.both HUD.out HTD.out hrE huE); have v1 : wE.cell? ⟨wr.heap.size, 1, none⟩ = some (.int .i64 x1) := (World.cell?_of_block (a := ⟨wr.heap.size, 1, none⟩) (huE.block wr.heap.size (Nat.lt_of_lt_of_le HKC.out HUD.out.size) (by show ¬ wr.heap.size = g; omega))).trans r1; have v3 : wE.cell? ⟨wr.heap.size, 3, none⟩ = some (.bool x3) := (World.cell?_of_block (a := ⟨wr.heap.size, 3, none⟩) (huE.block wr.heap.size (Nat.lt_of_lt_of_le HKC.out HUD.out.size) (by show ¬ wr.heap.size = g; omega))).trans r3; clear hrE huE HFD HTD HUD r1 r3))
          have kL1 := hid (look_spec p (bit8 d) _ wE HF.out.tc)
          go_wp2_with fail
          refine kL1.out.mono ?_
          rintro e wl ⟨v1, rfl, ho1, hb1⟩
          have HF1 := hid (HF.out.below hb1)
          have HO1 := hid ho1
          clear ho1 hb1 kL1 HF
          have kL2 := hid (rlook_any _ _ _ _ _ _ wl HF1.out.rt)
          go_wp2_with fail
          refine kL2.out.mono ?_
          rintro e wm ⟨v2, rfl, ho2, hb2⟩
          have HF2 := hid (HF1.out.below hb2)
          have kE := hid (sequal_yes v1 v2 0 _ _ wm (own_base (own_below HO1.out hb2) (Nat.zero_le _)) (own_base ho2 (Nat.zero_le _)) (looks_int _ 5) (countP_le _ 5))
          clear ho2 hb2 kL2 HF1 HO1
          go_wp2_with fail
          refine kE.out.mono ?_
          rintro e wn ⟨rfl, hh, hu⟩
          have HF3 := hid (HF2.out.like hh hu)
          clear hh hu kE HF2
          go_wp2_with fail
          go_roundw
          case rel => exact ⟨i + 1, _, _, by omega, by go_num, HF3⟩
          case measure => simp [intOf]; omega
        · simp only [Int.cast_ofNat_Int] at hs
          go_wp2_with fail
          have HF := HFC
          clear HFC
          go_region_held3 (fun wx => wx.cell? ⟨wr.heap.size, 1, none⟩ = some (.int .i64 x1) ∧ wx.cell? ⟨wr.heap.size, 3, none⟩ = some (.bool x3)) (go_keep) (first | (go_at_call 21; refine (drop_spec p x1 (bit8 d) x3 P _ (by exact HF.out.tc.hp rfl)).mono ?_; rintro e wD ⟨rfl, htD, huD⟩; have HFD := hid (HF.out.drew 1); have HTD := hid htD; have HUD := hid huD; have r1 : wD.cell? ⟨wr.heap.size, 1, none⟩ = some (.int .i64 x1) := (World.cell?_of_block (a := ⟨wr.heap.size, 1, none⟩) (huD.block wr.heap.size HKC.out (by show ¬ wr.heap.size = p; omega))).trans s1; have r3 : wD.cell? ⟨wr.heap.size, 3, none⟩ = some (.bool x3) := (World.cell?_of_block (a := ⟨wr.heap.size, 3, none⟩) (huD.block wr.heap.size HKC.out (by show ¬ wr.heap.size = p; omega))).trans s3; clear htD huD HF) | (go_at_call 22; refine (rdrop_any _ q g x1 d x3 A P _ (by exact (HFD.out.mid HUD.out).1) (by exact HFD.out.tc.most)).mono ?_; rintro e wE ⟨rfl, ⟨A', hrE⟩, huE⟩; have HF := hid (HFD.out.both HUD.out HTD.out hrE huE); have v1 : wE.cell? ⟨wr.heap.size, 1, none⟩ = some (.int .i64 x1) := (World.cell?_of_block (a := ⟨wr.heap.size, 1, none⟩) (huE.block wr.heap.size (Nat.lt_of_lt_of_le HKC.out HUD.out.size) (by show ¬ wr.heap.size = g; omega))).trans r1; have v3 : wE.cell? ⟨wr.heap.size, 3, none⟩ = some (.bool x3) := (World.cell?_of_block (a := ⟨wr.heap.size, 3, none⟩) (huE.block wr.heap.size (Nat.lt_of_lt_of_le HKC.out HUD.out.size) (by show ¬ wr.heap.size = g; omega))).trans r3; clear hrE huE HFD HTD HUD r1 r3))
          have kL1 := hid (look_spec p (bit8 d) _ wE HF.out.tc)
          go_wp2_with fail
          refine kL1.out.mono ?_
          rintro e wl ⟨v1, rfl, ho1, hb1⟩
          have HF1 := hid (HF.out.below hb1)
          have HO1 := hid ho1
          clear ho1 hb1 kL1 HF
          have kL2 := hid (rlook_any _ _ _ _ _ _ wl HF1.out.rt)
          go_wp2_with fail
          refine kL2.out.mono ?_
          rintro e wm ⟨v2, rfl, ho2, hb2⟩
          have HF2 := hid (HF1.out.below hb2)
          have kE := hid (sequal_yes v1 v2 0 _ _ wm (own_base (own_below HO1.out hb2) (Nat.zero_le _)) (own_base ho2 (Nat.zero_le _)) (looks_int _ 5) (countP_le _ 5))
          clear ho2 hb2 kL2 HF1 HO1
          go_wp2_with fail
          refine kE.out.mono ?_
          rintro e wn ⟨rfl, hh, hu⟩
          have HF3 := hid (HF2.out.like hh hu)
          clear hh hu kE HF2
          go_wp2_with fail
          go_roundw
          case rel => exact ⟨i + 1, _, _, by omega, by go_num, HF3⟩
          case measure => simp [intOf]; omega
    · obtain rfl : i = ll := by omega
      have HF := HF0
      clear HF0
      have kL1 := hid (look_spec p (bit8 d) _ wr HF.out.tc)
      go_wp2_with fail
      refine kL1.out.mono ?_
      rintro e wl ⟨v1, rfl, ho1, hb1⟩
      have HF1 := hid (HF.out.below hb1)
      have HO1 := hid ho1
      clear ho1 hb1 kL1 HF
      have kL2 := hid (rlook_any _ _ _ _ _ _ wl HF1.out.rt)
      go_wp2_with fail
      refine kL2.out.mono ?_
      rintro e wm ⟨v2, rfl, ho2, hb2⟩
      have HF2 := hid (HF1.out.below hb2)
      have kE := hid (sequal_yes v1 v2 0 _ _ wm (own_base (own_below HO1.out hb2) (Nat.zero_le _)) (own_base ho2 (Nat.zero_le _)) (looks_int _ 5) (countP_le _ 5))
      clear ho2 hb2 kL2 HF1 HO1
      go_wp2_with fail
      refine kE.out.mono ?_
      rintro e wn ⟨rfl, hh, hu⟩
      have HF3 := hid (HF2.out.like hh hu)
      clear hh hu kE HF2
      go_wp2_with fail
      go_ret
      exact ⟨rfl, HF3.out.bel⟩

end Go.Proofs.Ytemdckmnedlfcaa
