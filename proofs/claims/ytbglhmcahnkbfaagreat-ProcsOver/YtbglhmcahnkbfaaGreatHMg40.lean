/- Texts of this seat, merged. -/
import Derived.Test.YtbglhmcahnkbfaaGreatHMg39
import Derived.Deep.MidRow
import Derived.Deep.RegionHeld3

/- The program's processes: Exit, Kill. -/
namespace Go.Proofs.YtbglhmcahnkbfaaGreat
open Go.RowKit Go.ChangeMaps Go.MapKept
set_option linter.unusedVariables false
set_option maxRecDepth 20000

section
variable {w0 w : World} {p f : Nat} {g : Gt} {G : Nat → Prop}
set_option maxHeartbeats 4000000 in
theorem gexit_any (h : ZpTo w0 p f g G w) (H0 : GOk g) (n co : Int) :
    Calls Tryz.prog 15 #[.pointer (some ⟨p, 0, none⟩), .int .i64 n, .int .i64 co] w fun e w' => e = .returned (.int .i64 (g.exit n co).2) ∧ ZpTo w0 p f (g.exit n co).1 G w' := by
  unfold Gt.exit
  cases hr : g.runs n
  · rw [if_pos rfl]
    have k1 := hid (gproc_no p f _ n g.Q w h.tab hr)
    have H := hid h
    clear h hr H0
    go_enter Tryz.func15, Tryz.ntmps15
    go_wp2_with fail
    refine k1.out.mono ?_
    rintro e w1 ⟨rfl, rfl⟩
    go_wp2_with fail
    go_ret
    exact ⟨rfl, H.out⟩
  rw [if_neg (by decide), ← and255 co]
  obtain ⟨q, rfl, h1, h4, hs⟩ := qrn_lt hr
  rw [Int.toNat_natCast]
  have k1 := hid (gproc_yes p f q _ g.Q w h.tab ⟨h1, h4⟩ hs)
  have HE := hid (H0.empties q hs)
  have H := hid h
  obtain ⟨N, gN⟩ : ∃ N, N = gpC noGp := ⟨_, rfl⟩
  have HSZ : Hid ((Tryz.prog.info? 79).map (·.size) = some N.toArray.size) := by rw [gN]; exact hid csizeGp
  have HBU : Hid (Tryz.prog.built 79 [] = some N.toArray) := by rw [gN]; exact hid builtGp
  have HO1 : Hid (N.toArray.all (·.oneCell') = true) := by rw [gN]; exact hid (by simp [gpC, Value.oneCell'])
  have HT2 : Hid (9 = N.toArray.size) := by rw [gN]; exact hid rfl
  have GN := hid gN
  clear h hr hs gN
  go_enter Tryz.func15, Tryz.ntmps15
  go_wp2_with fail
  refine k1.out.mono ?_
  rintro e w1 ⟨rfl, rfl⟩
  clear k1
  go_wp2_with fail
  go_loopw [19] (fun s wr => ∃ j : Nat, j ≤ 6 ∧ s = .int .i64 (j : Int) ∧ Hid (ZpTo w0 p f (g.empties q j) G wr)) (fun s _ => 6 - (intOf s).toNat)
  case atStart => exact ⟨0, by omega, rfl, H⟩
  case round =>
    clear H
    obtain ⟨j, hj6, rfl, HR⟩ := hrel
    by_cases e6 : j = 6
    · subst e6
      obtain ⟨g6, gg6⟩ : ∃ g6, g6 = g.empties q 6 := ⟨_, rfl⟩
      have HG6 : Hid (GOk g6 ∧ (g6.Q q).st = 1) := by rw [gg6]; exact hid ⟨(HE.out 6 (Nat.le_refl _)).1, (HE.out 6 (Nat.le_refl _)).2.1⟩
      rw [← gg6] at HR
      have GG6 := hid gg6
      clear gg6 HE
      have hr0 := HR.out
      have cs := hr0.tab.st q (by omega)
      have cc := hr0.tab.co q (by omega)
      have f0 := hr0.tab.fz (2 + q * 9)
      have f2 := hr0.tab.fz (2 + q * 9 + 2)
      obtain ⟨c, gc⟩ : ∃ c, c = bits BinOp.and IntKind.i64 co 255 := ⟨_, rfl⟩
      have hA : ZpTo w0 p f { g6 with Q := updG g6.Q q { g6.Q q with st := 2, co := c } } G ((wr.setCell ⟨p, 2 + q * 9, none⟩ (.int .i64 2)).setCell ⟨p, 2 + q * 9 + 2, none⟩ (.int .i64 c)) := by
        have a := hr0.put (hr0.tab.stTo q (by omega) 2) (Upd.setCell (F := (· = p)) wr ⟨p, _, none⟩ _ rfl)
        have b := a.put (a.tab.coTo q (by omega) c) (Upd.setCell (F := (· = p)) _ ⟨p, _, none⟩ _ rfl)
        have e : updG (updG g6.Q q { g6.Q q with st := 2 }) q { (updG g6.Q q { g6.Q q with st := 2 } q) with co := c } = updG g6.Q q { g6.Q q with st := 2, co := c } := by
          rw [updG_updG, updG_same]
        have b' : ZpTo w0 p f { g6 with Q := updG (updG g6.Q q { g6.Q q with st := 2 }) q { (updG g6.Q q { g6.Q q with st := 2 } q) with co := c } } G ((wr.setCell ⟨p, 2 + q * 9, none⟩ (.int .i64 2)).setCell ⟨p, 2 + q * 9 + 2, none⟩ (.int .i64 c)) := b
        rw [e] at b'
        exact b'
      rw [gc] at hA
      obtain ⟨Q0, gQ0⟩ : ∃ Q0, Q0 = updG g6.Q q { g6.Q q with st := 2, co := c } := ⟨_, rfl⟩
      have gQ1 := gQ0
      rw [gc] at gQ1
      have hz0 : ∀ i, (Q0 i).st = 0 → Q0 i = noGp := fun i hi => by
        rw [gQ0] at hi ⊢
        by_cases e : i = q
        · subst e; rw [updG_same] at hi; exact absurd (show (2 : Int) = 0 from hi) (by decide)
        · rw [updG_ne _ _ _ _ e] at hi ⊢; exact HG6.out.1.none i hi
      have ho0 : ∀ i, 5 ≤ i → Q0 i = noGp := fun i hi => by
        rw [gQ0, updG_ne _ _ _ _ (by omega)]; exact HG6.out.1.out i (.inr hi)
      rw [← gQ1] at hA
      have k2 := hid (gleave_any hA q h1 hz0 ho0)
      obtain ⟨Q1, gQ2⟩ : ∃ Q1, Q1 = Gt.leave Q0 q := ⟨_, rfl⟩
      have k2 : Hid (Calls Tryz.prog 54 #[.pointer (some ⟨p, 0, none⟩), .int .i64 (q : Int)] ((wr.setCell ⟨p, 2 + q * 9, none⟩ (.int .i64 2)).setCell ⟨p, 2 + q * 9 + 2, none⟩ (.int .i64 (bits BinOp.and IntKind.i64 co 255))) fun e w' => e = .returned (.tuple #[]) ∧ ZpTo w0 p f { g6 with Q := Q1 } G w') := by rw [gQ2]; exact k2
      have HF : Hid (g6.ended q (bits BinOp.and IntKind.i64 co 255) = { g6 with Q := if qrn Q1 (Q1 q).pa = true then Q1 else updG Q1 q noGp }) := by
        refine hid ?_
        unfold Gt.ended
        rw [gQ2, gQ1]
        rfl
      clear hA hz0 ho0 gQ0 gQ1 gQ2 gc hr0 HR HG6
      generalize (g6.Q q).st = s at cs
      generalize (g6.Q q).co = s2 at cc
      go_wp2_with fail
      refine k2.out.mono ?_
      rintro e w2 ⟨rfl, h2⟩
      have cp : w2.cell? ⟨p, 2 + q * 9 + 1, none⟩ = some (.int .i64 (Q1 q).pa) := h2.tab.pa q (by omega)
      have hth := h2.tab.th q (by omega)
      cases hb : qrn Q1 (Q1 q).pa
      · have k3 := hid (gruns_any p f _ Q1 (Q1 q).pa false w2 h2.tab hb.symm)
        have hB : ZpTo w0 p f (g6.ended q (bits BinOp.and IntKind.i64 co 255)) G (w2.setCells p (2 + q * 9) (gpC noGp)) := by
          rw [HF.out, if_neg (by rw [hb]; decide)]
          exact h2.put (h2.tab.put q (by omega) noGp) (upd_setCells p (gpC noGp) _ _)
        rw [← GN.out, GG6.out] at hB
        have HB := hid hB
        have HTH := hid hth
        clear hB hth hb h2 k2 HF
        generalize (Q1 q).pa = a at cp k3
        go_wp2_with fail
        refine k3.out.mono ?_
        rintro e w3 ⟨rfl, h3⟩
        subst w3
        go_wp2_with (first
          | (refine wpList_build_is rfl 79 #[] rfl N.toArray (by simpa using HBU.out) ?_)
          | (refine wpList_store_mid rfl 79 (.tmp 47) (.tmp 46) rfl p (2 + q * 9) N.toArray rfl rfl (by rw [← HT2.out]; exact HTH.out) HSZ.out HO1.out ?_))
        go_ret
        exact ⟨rfl, HB.out⟩
      · have k3 := hid (gruns_any p f _ Q1 (Q1 q).pa true w2 h2.tab hb.symm)
        have hB : ZpTo w0 p f (g6.ended q (bits BinOp.and IntKind.i64 co 255)) G w2 := by
          rw [HF.out, if_pos hb]
          exact h2
        rw [GG6.out] at hB
        have HB := hid hB
        clear hB hth hb h2 k2 HF
        generalize (Q1 q).pa = a at cp k3
        go_wp2_with fail
        refine k3.out.mono ?_
        rintro e w3 ⟨rfl, h3⟩
        subst w3
        go_wp2_with fail
        go_ret
        exact ⟨rfl, HB.out⟩
    · have hj : j < 6 := by omega
      have c3 : (0 : Int) ≤ j := by omega
      have c4 : (j : Int) < 6 := by omega
      have k2 := hid (gempty_any HR.out (HE.out j (by omega)).1.T q (by omega) j hj)
      clear HR
      go_wp2_with fail
      refine k2.out.mono ?_
      rintro e2 w2 ⟨rfl, h2⟩
      have HR2 := hid h2
      clear h2 k2
      go_wp2_with fail
      go_roundw
      case rel => exact ⟨j + 1, by omega, by go_num, HR2⟩
      case measure => simp [intOf]; omega

set_option maxHeartbeats 1000000 in
theorem gkill_any (h : ZpTo w0 p f g G w) (H0 : GOk g) (n t : Int) :
    Calls Tryz.prog 31 #[.pointer (some ⟨p, 0, none⟩), .int .i64 n, .int .i64 t] w fun e w' => e = .returned (.int .i64 (g.kill n t).2) ∧ ZpTo w0 p f (g.kill n t).1 G w' := by
  unfold Gt.kill
  have k3 := hid (gexit_any h H0 t 128)
  have H := hid h
  cases hr : g.runs n
  · rw [if_pos rfl]
    have k1 := hid (gproc_no p f _ n g.Q w h.tab hr)
    clear h hr H0 k3
    go_enter Tryz.func31, Tryz.ntmps31
    go_wp2_with fail
    refine k1.out.mono ?_
    rintro e w1 ⟨rfl, rfl⟩
    go_wp2_with fail
    go_ret
    exact ⟨rfl, H.out⟩
  rw [if_neg (by decide)]
  obtain ⟨q, rfl, h1, h4, hs⟩ := qrn_lt hr
  have k1 := hid (gproc_yes p f q _ g.Q w h.tab ⟨h1, h4⟩ hs)
  cases ht : g.runs t
  · rw [if_pos rfl]
    have k2 := hid (gproc_no p f _ t g.Q w h.tab ht)
    clear h hr H0 ht hs k3
    go_enter Tryz.func31, Tryz.ntmps31
    go_wp2_with fail
    refine k1.out.mono ?_
    rintro e w1 ⟨rfl, h⟩
    subst w1
    go_wp2_with fail
    refine k2.out.mono ?_
    rintro e w1 ⟨rfl, h⟩
    subst w1
    go_wp2_with fail
    go_ret
    exact ⟨rfl, H.out⟩
  rw [if_neg (by decide)]
  obtain ⟨r, rfl, r1, r4, rs⟩ := qrn_lt ht
  have k2 := hid (gproc_yes p f r _ g.Q w h.tab ⟨r1, r4⟩ rs)
  clear h hr H0 ht hs rs
  by_cases e1 : (r : Int) = 1
  · by_cases e2 : (q : Int) = 1
    · rw [if_neg (fun e => e.2 e2)]
      rw [e1] at k2 k3
      rw [e2] at k1 
      have K4 := k3
      rw [e1, e2]
      clear H k3
      go_enter Tryz.func31, Tryz.ntmps31
      go_wp2_with fail
      refine k1.out.mono ?_
      rintro e w1 ⟨rfl, h⟩
      subst w1
      go_wp2_with fail
      refine k2.out.mono ?_
      rintro e w1 ⟨rfl, h⟩
      subst w1
      go_wp2_with fail
      refine K4.out.mono ?_
      rintro e w2 ⟨rfl, h⟩
      go_wp2_with fail
      go_ret
      exact ⟨rfl, h⟩
    · rw [if_pos ⟨e1, e2⟩]
      rw [e1] at k2
      rw [e1]
      clear k3
      go_enter Tryz.func31, Tryz.ntmps31
      go_wp2_with fail
      refine k1.out.mono ?_
      rintro e w1 ⟨rfl, h⟩
      subst w1
      go_wp2_with fail
      refine k2.out.mono ?_
      rintro e w1 ⟨rfl, h⟩
      subst w1
      go_wp2_with fail
      go_ret
      exact ⟨rfl, H.out⟩
  · rw [if_neg (fun e => e1 e.1)]
    clear H
    go_enter Tryz.func31, Tryz.ntmps31
    go_wp2_with fail
    refine k1.out.mono ?_
    rintro e w1 ⟨rfl, h⟩
    subst w1
    go_wp2_with fail
    refine k2.out.mono ?_
    rintro e w1 ⟨rfl, h⟩
    subst w1
    go_wp2_with fail
    refine k3.out.mono ?_
    rintro e w2 ⟨rfl, h⟩
    go_wp2_with fail
    go_ret
    exact ⟨rfl, h⟩
end

end Go.Proofs.YtbglhmcahnkbfaaGreat

/- The program's processes: Fork. -/
namespace Go.Proofs.YtbglhmcahnkbfaaGreat
open Go.RowKit Go.ChangeMaps Go.MapKept
set_option linter.unusedVariables false
set_option maxRecDepth 20000

theorem ixF60 : (fun (f : Nat → Int) (W : World) => (Instr.index 40 (.agg (fdV f).toArray) (.int .i64 0)).run Tryz.prog W) = (fun (f : Nat → Int) (W : World) => .ok (.int .i64 (f 0)) W) := by kernel_rfl
theorem ixF61 : (fun (f : Nat → Int) (W : World) => (Instr.index 40 (.agg (fdV f).toArray) (.int .i64 1)).run Tryz.prog W) = (fun (f : Nat → Int) (W : World) => .ok (.int .i64 (f 1)) W) := by kernel_rfl
theorem ixF62 : (fun (f : Nat → Int) (W : World) => (Instr.index 40 (.agg (fdV f).toArray) (.int .i64 2)).run Tryz.prog W) = (fun (f : Nat → Int) (W : World) => .ok (.int .i64 (f 2)) W) := by kernel_rfl
theorem ixF63 : (fun (f : Nat → Int) (W : World) => (Instr.index 40 (.agg (fdV f).toArray) (.int .i64 3)).run Tryz.prog W) = (fun (f : Nat → Int) (W : World) => .ok (.int .i64 (f 3)) W) := by kernel_rfl
theorem ixF64 : (fun (f : Nat → Int) (W : World) => (Instr.index 40 (.agg (fdV f).toArray) (.int .i64 4)).run Tryz.prog W) = (fun (f : Nat → Int) (W : World) => .ok (.int .i64 (f 4)) W) := by kernel_rfl
theorem ixF65 : (fun (f : Nat → Int) (W : World) => (Instr.index 40 (.agg (fdV f).toArray) (.int .i64 5)).run Tryz.prog W) = (fun (f : Nat → Int) (W : World) => .ok (.int .i64 (f 5)) W) := by kernel_rfl
theorem ixF6 (f : Nat → Int) (j : Nat) (hj : j < 6) (W : World) : (Instr.index 40 (.agg (fdV f).toArray) (.int .i64 (j : Int))).run Tryz.prog W = .ok (.int .i64 (f j)) W := by
  obtain rfl | rfl | rfl | rfl | rfl | rfl : j = 0 ∨ j = 1 ∨ j = 2 ∨ j = 3 ∨ j = 4 ∨ j = 5 := by omega
  · exact congrFun (congrFun ixF60 f) W
  · exact congrFun (congrFun ixF61 f) W
  · exact congrFun (congrFun ixF62 f) W
  · exact congrFun (congrFun ixF63 f) W
  · exact congrFun (congrFun ixF64 f) W
  · exact congrFun (congrFun ixF65 f) W
theorem csizeF6 : (Tryz.prog.info? 40).map (·.size) = some 6 := by kernel_rfl
section
variable {w0 w : World} {p f : Nat} {g : Gt} {G : Nat → Prop}
set_option maxHeartbeats 8000000 in
theorem gfork_any (h : ZpTo w0 p f g G w) (H0 : GOk g) (n : Int) :
    Calls Tryz.prog 26 #[.pointer (some ⟨p, 0, none⟩), .int .i64 n] w fun e w' => e = .returned (.tuple #[.int .i64 (g.fork n).2.1, .int .i64 (g.fork n).2.2]) ∧ ZpTo w0 p f (g.fork n).1 G w' := by
  unfold Gt.fork
  have H := hid h
  cases hr : g.runs n
  · rw [if_pos rfl]
    have k1 := hid (gproc_no p f _ n g.Q w h.tab hr)
    clear h hr H0
    go_enter Tryz.func26, Tryz.ntmps26
    go_wp2_with fail
    refine k1.out.mono ?_
    rintro e w1 ⟨rfl, rfl⟩
    go_wp2_with fail
    go_ret2
    exact ⟨rfl, H.out⟩
  rw [if_neg (by decide)]
  obtain ⟨q, rfl, h1, h4, hs⟩ := qrn_lt hr
  have k1 := hid (gproc_yes p f q _ g.Q w h.tab ⟨h1, h4⟩ hs)
  have k2 := hid (gfree_any p f _ g.Q w h.tab)
  rw [← frQ_free] at k2
  rw [Int.toNat_natCast]
  by_cases hf : g.free = 0
  · rw [if_pos hf]
    rw [hf] at k2
    clear h hr H0 hs hf
    go_enter Tryz.func26, Tryz.ntmps26
    go_wp2_with fail
    refine k1.out.mono ?_
    rintro e w1 ⟨rfl, h⟩
    subst w1
    go_wp2_with fail
    refine k2.out.mono ?_
    rintro e w1 ⟨rfl, h⟩
    subst w1
    go_wp2_with fail
    go_ret2
    exact ⟨rfl, H.out⟩
  rw [if_neg hf]
  obtain ⟨f1, f4, fs⟩ := Gt.free_lt hf
  obtain ⟨c, gc⟩ : ∃ c, c = g.free := ⟨_, rfl⟩
  rw [← gc] at f1 f4 fs k2 hf ⊢
  have hcq : c ≠ q := fun e => by rw [e, hs] at fs; exact absurd fs (by decide)
  obtain ⟨F, gF⟩ : ∃ F, F = (g.Q q).fd := ⟨_, rfl⟩
  have t := h.tab
  have z0 := t.z q (by omega) 0 (by omega)
  have z1 := t.z q (by omega) 1 (by omega)
  have z2 := t.z q (by omega) 2 (by omega)
  have z3 := t.z q (by omega) 3 (by omega)
  have z4 := t.z q (by omega) 4 (by omega)
  have z5 := t.z q (by omega) 5 (by omega)
  have y0 := t.st c (by omega)
  have y1 := t.pa c (by omega)
  have y2 := t.co c (by omega)
  have y3 := t.z c (by omega) 0 (by omega)
  have y4 := t.z c (by omega) 1 (by omega)
  have y5 := t.z c (by omega) 2 (by omega)
  have y6 := t.z c (by omega) 3 (by omega)
  have y7 := t.z c (by omega) 4 (by omega)
  have y8 := t.z c (by omega) 5 (by omega)
  have v0 := t.fz (2 + c * 9)
  have v1 := t.fz (2 + c * 9 + 1)
  have v2 := t.fz (2 + c * 9 + 2)
  have v3 := t.fz (2 + c * 9 + 3)
  have v4 := t.fz (2 + c * 9 + 4)
  have v5 := t.fz (2 + c * 9 + 5)
  have v6 := t.fz (2 + c * 9 + 6)
  have v7 := t.fz (2 + c * 9 + 7)
  have v8 := t.fz (2 + c * 9 + 8)
  rw [Nat.add_zero] at z0 y3
  rw [← gF] at z0 z1 z2 z3 z4 z5 ⊢
  obtain ⟨g1, gg1⟩ : ∃ g1 : Gt, g1 = { g with Q := updG g.Q c ⟨1, (q : Int), 0, F⟩ } := ⟨_, rfl⟩
  have hA : ZpTo w0 p f g1 G (w.setCells p (2 + c * 9) (gpC ⟨1, (q : Int), 0, F⟩)).drew := by
    rw [gg1]
    exact (h.put (t.put c (by omega) _) (upd_setCells p _ _ w)).drew
  have hT1 : g1.T = g.T := by rw [gg1]
  have hQ1 : g1.Q q = g.Q q := by rw [gg1]; exact updG_ne _ _ _ _ (fun e => hcq e.symm)
  have HFin : Hid ((⟨updG g.Q c ⟨1, (q : Int), 0, F⟩, if dfc g.T.F.d 16 = true then g.T else Gt.holdAll g.T F 6⟩ : Gt) = { g1 with T := if dfc g1.T.F.d 16 = true then g1.T else Gt.holdAll g1.T F 6 }) := hid (by rw [gg1])
  rw [HFin.out]
  obtain ⟨T1, gT1⟩ : ∃ T1, T1 = if dfc g1.T.F.d 16 = true then g1.T else Gt.holdAll g1.T F 6 := ⟨_, rfl⟩
  rw [← gT1]
  have GT1 := hid gT1
  clear gT1
  have HA := hid hA
  have HF1 : Hid ((g1.Q q).fd = F) := hid (by rw [hQ1, gF])
  have HTk : Hid (TOk g1.T) := hid (by rw [hT1]; exact H0.T)
  have c3 : (0 : Int) ≤ c := by omega
  have c4 : (c : Int) < 5 := by omega
  have c5 : ¬ (c : Int) = 0 := by omega
  clear h hr H0 hs hf H hA hT1 hQ1 gg1 gF gc t HFin fs
  generalize (g.Q c).st = s0 at y0
  generalize (g.Q c).pa = s1 at y1
  generalize (g.Q c).co = s2 at y2
  generalize (g.Q c).fd 0 = s3 at y3
  generalize (g.Q c).fd 1 = s4 at y4
  generalize (g.Q c).fd 2 = s5 at y5
  generalize (g.Q c).fd 3 = s6 at y6
  generalize (g.Q c).fd 4 = s7 at y7
  generalize (g.Q c).fd 5 = s8 at y8
  go_enter Tryz.func26, Tryz.ntmps26
  go_wp2_with fail
  refine k1.out.mono ?_
  rintro e w1 ⟨rfl, h⟩
  subst w1
  go_wp2_with fail
  refine k2.out.mono ?_
  rintro e w1 ⟨rfl, h⟩
  subst w1
  clear k1 k2
  go_wp2_with fail
  go_region
  obtain ⟨W2, g2⟩ : ∃ W2, W2 = (((((((((w.setCell ⟨p, 2 + c * 9, none⟩ (.int .i64 1)).setCell ⟨p, 2 + c * 9 + 1, none⟩ (.int .i64 (q : Int))).setCell ⟨p, 2 + c * 9 + 2, none⟩ (.int .i64 0)).setCell ⟨p, 2 + c * 9 + 3, none⟩ (.int .i64 (F 0))).setCell ⟨p, 2 + c * 9 + 4, none⟩ (.int .i64 (F 1))).setCell ⟨p, 2 + c * 9 + 5, none⟩ (.int .i64 (F 2))).setCell ⟨p, 2 + c * 9 + 6, none⟩ (.int .i64 (F 3))).setCell ⟨p, 2 + c * 9 + 7, none⟩ (.int .i64 (F 4))).setCell ⟨p, 2 + c * 9 + 8, none⟩ (.int .i64 (F 5))).drew := ⟨_, rfl⟩
  have e2 : W2 = (w.setCells p (2 + c * 9) (gpC ⟨1, (q : Int), 0, F⟩)).drew := g2
  rw [← g2]
  have ha := HA.out
  rw [← e2] at ha
  have HA2 := hid ha
  clear HA ha e2 g2 z0 z1 z2 z3 z4 z5 y0 y1 y2 y3 y4 y5 y6 y7 y8 v0 v1 v2 v3 v4 v5 v6 v7 v8
  cases hd : dfc g1.T.F.d 16
  · have HT1 : Hid (T1 = Gt.holdAll g1.T F 6) := hid (by rw [GT1.out, if_neg (by rw [hd]; decide)])
    have k3 := hid (ghas_any W2 p _ 16 false HA2.out.tab.df hd)
    have HR : Hid (W2.rangeAt p (2 + q * 9 + 3) (fdV F)) := by
      have := HA2.out.tab.fds q (by omega)
      rw [HF1.out] at this
      exact hid this
    obtain ⟨L, gL⟩ : ∃ L, L = fdV F := ⟨_, rfl⟩
    have HSZ : Hid ((Tryz.prog.info? 40).map (·.size) = some L.length) := by rw [gL]; exact hid csizeF6
    have HIX : Hid (∀ j : Nat, j < 6 → ∀ W : World, (Instr.index 40 (.agg L.toArray) (.int .i64 (j : Int))).run Tryz.prog W = .ok (.int .i64 (F j)) W) := by rw [gL]; exact hid (fun j hj W => ixF6 F j hj W)
    rw [← gL] at HR
    clear hd gL
    go_wp2_with fail
    refine k3.out.mono ?_
    rintro e w3 ⟨rfl, h3⟩
    subst w3
    clear k3
    go_wp2_with (refine wpList_load_mid rfl 40 (.tmp 40) rfl p (2 + q * 9 + 3) rfl L _ HR.out Tryz.underlying40 rfl HSZ.out ?_)
    go_loopw [42] (fun s wr => ∃ j : Nat, j ≤ 6 ∧ s = .int .i64 (j : Int) ∧ Hid (ZpTo w0 p f { g1 with T := Gt.holdAll g1.T F j } G wr)) (fun s _ => 6 - (intOf s).toNat)
    case atStart => exact ⟨0, by omega, rfl, HA2⟩
    case round =>
      clear HA2 HR
      obtain ⟨j, hj6, rfl, HR⟩ := hrel
      by_cases e6 : j = 6
      · subst e6
        go_wp2_with fail
        go_ret2
        exact ⟨rfl, by rw [HT1.out]; exact HR.out⟩
      · have hj : j < 6 := by omega
        have b3 : (0 : Int) ≤ j := by omega
        have b4 : (j : Int) < 6 := by omega
        have hix := HIX.out j hj
        by_cases ez : F j = 0
        · have HR2 : Hid (ZpTo w0 p f { g1 with T := Gt.holdAll g1.T F (j + 1) } G wr) := hid (by
            rw [show Gt.holdAll g1.T F (j + 1) = Gt.holdAll g1.T F j from if_pos ez]
            exact HR.out)
          rw [ez] at hix
          clear HR ez
          go_wp2_with fail
          go_roundw
          case rel => exact ⟨j + 1, by omega, by go_num, HR2⟩
          case measure => simp [intOf]; omega
        · have k4 := hid (HR.out.hold (holdAll_ok HTk.out F j) (F j))
          have HE : Hid (Gt.holdAll g1.T F (j + 1) = ((Gt.holdAll g1.T F j).hold (F j)).1) := hid (if_neg ez)
          have fl := HR.out.tab.fl
          clear HR
          generalize F j = v at hix ez k4 HE
          go_wp2_with fail
          refine k4.out.mono ?_
          rintro e w4 ⟨rfl, h4⟩
          have HR2 : Hid (ZpTo w0 p f { g1 with T := Gt.holdAll g1.T F (j + 1) } G w4) := hid (by rw [HE.out]; exact h4)
          clear h4 k4 HE
          go_wp2_with fail
          go_roundw
          case rel => exact ⟨j + 1, by omega, by go_num, HR2⟩
          case measure => simp [intOf]; omega
  · have HT1 : Hid (T1 = g1.T) := hid (by rw [GT1.out, if_pos hd])
    have k3 := hid (ghas_any W2 p _ 16 true HA2.out.tab.df hd)
    clear hd
    go_wp2_with fail
    refine k3.out.mono ?_
    rintro e w3 ⟨rfl, h3⟩
    subst w3
    go_wp2_with fail
    go_ret2
    exact ⟨rfl, by rw [HT1.out]; exact HA2.out⟩
end

end Go.Proofs.YtbglhmcahnkbfaaGreat

/- The program's processes: Wait. -/
namespace Go.Proofs.YtbglhmcahnkbfaaGreat
open Go.RowKit Go.ChangeMaps Go.MapKept
set_option linter.unusedVariables false
set_option maxRecDepth 20000

theorem four_results {fn : Func} {t u v x : Tmp} (h : fn.results = #[.tmp t, .tmp u, .tmp v, .tmp x]) (tmps : Array Value) (P : Program) (w : World) :
    (results fn tmps).run P w = .ok (.tuple #[tmps.getD t undef, tmps.getD u undef, tmps.getD v undef, tmps.getD x undef]) w := by
  simp [results, h]

/-- All five processes as one value. -/
def gL (Q : Nat → Gp) : List Value := gpC (Q 0) ++ (gpC (Q 1) ++ (gpC (Q 2) ++ (gpC (Q 3) ++ gpC (Q 4))))
theorem gL_len (Q : Nat → Gp) : (gL Q).length = 45 := rfl
theorem gL_at (Q : Nat → Gp) (i : Nat) (hi : i < 5) (k : Nat) (hk : k < 9) : (gL Q)[i * 9 + k]? = (gpC (Q i))[k]? := by
  obtain rfl | rfl | rfl | rfl | rfl : i = 0 ∨ i = 1 ∨ i = 2 ∨ i = 3 ∨ i = 4 := by omega
  all_goals (obtain rfl | rfl | rfl | rfl | rfl | rfl | rfl | rfl | rfl : k = 0 ∨ k = 1 ∨ k = 2 ∨ k = 3 ∨ k = 4 ∨ k = 5 ∨ k = 6 ∨ k = 7 ∨ k = 8 := by omega)
  all_goals rfl
theorem ixG0 : (fun (Q : Nat → Gp) (W : World) => (Instr.index 80 (.agg (gL Q).toArray) (.int .i64 0)).run Tryz.prog W) = (fun (Q : Nat → Gp) (W : World) => .ok (.agg (gpC (Q 0)).toArray) W) := by kernel_rfl
theorem ixG1 : (fun (Q : Nat → Gp) (W : World) => (Instr.index 80 (.agg (gL Q).toArray) (.int .i64 1)).run Tryz.prog W) = (fun (Q : Nat → Gp) (W : World) => .ok (.agg (gpC (Q 1)).toArray) W) := by kernel_rfl
theorem ixG2 : (fun (Q : Nat → Gp) (W : World) => (Instr.index 80 (.agg (gL Q).toArray) (.int .i64 2)).run Tryz.prog W) = (fun (Q : Nat → Gp) (W : World) => .ok (.agg (gpC (Q 2)).toArray) W) := by kernel_rfl
theorem ixG3 : (fun (Q : Nat → Gp) (W : World) => (Instr.index 80 (.agg (gL Q).toArray) (.int .i64 3)).run Tryz.prog W) = (fun (Q : Nat → Gp) (W : World) => .ok (.agg (gpC (Q 3)).toArray) W) := by kernel_rfl
theorem ixG4 : (fun (Q : Nat → Gp) (W : World) => (Instr.index 80 (.agg (gL Q).toArray) (.int .i64 4)).run Tryz.prog W) = (fun (Q : Nat → Gp) (W : World) => .ok (.agg (gpC (Q 4)).toArray) W) := by kernel_rfl
theorem ixG (Q : Nat → Gp) (j : Nat) (hj : j < 5) (W : World) : (Instr.index 80 (.agg (gL Q).toArray) (.int .i64 (j : Int))).run Tryz.prog W = .ok (.agg #[.int .i64 (Q j).st, .int .i64 (Q j).pa, .int .i64 (Q j).co, .int .i64 ((Q j).fd 0), .int .i64 ((Q j).fd 1), .int .i64 ((Q j).fd 2), .int .i64 ((Q j).fd 3), .int .i64 ((Q j).fd 4), .int .i64 ((Q j).fd 5)]) W := by
  obtain rfl | rfl | rfl | rfl | rfl : j = 0 ∨ j = 1 ∨ j = 2 ∨ j = 3 ∨ j = 4 := by omega
  · exact congrFun (congrFun ixG0 Q) W
  · exact congrFun (congrFun ixG1 Q) W
  · exact congrFun (congrFun ixG2 Q) W
  · exact congrFun (congrFun ixG3 Q) W
  · exact congrFun (congrFun ixG4 Q) W
theorem csizeGs : (Tryz.prog.info? 80).map (·.size) = some 45 := by kernel_rfl
theorem Th.range {w : World} {p f : Nat} {d : Int} {Q : Nat → Gp} (h : Th w p f d Q) : w.rangeAt p 2 (gL Q) := fun j v hv => by
  obtain ⟨C, hb, hc⟩ := h
  have hj : j < 45 := by
    rcases Nat.lt_or_ge j 45 with q | q
    · exact q
    · rw [List.getElem?_eq_none (by rw [gL_len]; exact q)] at hv; simp at hv
  have e : j = j / 9 * 9 + j % 9 := by omega
  rw [e, gL_at Q (j / 9) (by omega) (j % 9) (by omega), ← hc.at_ (j / 9) (by omega) (j % 9) (by omega)] at hv
  rw [show 2 + j = 2 + j / 9 * 9 + j % 9 by omega]
  exact cell_list hb hv

theorem r14 : List.range' 1 4 = [1, 2, 3, 4] := rfl
theorem wait_at {g : Gt} {q : Int} {j : Nat} (hr : g.runs q = true) (h1 : 1 ≤ j) (h4 : j ≤ 4) (hb : ∀ i, 1 ≤ i → i < j → g.over q i = false) (ho : g.over q j = true) : g.wait q = (g.put j noGp, (j : Int), (g.Q j).co, false, 0) := by
  have e : (List.range' 1 4).find? (g.over q) = some j := by
    rw [r14]
    obtain rfl | rfl | rfl | rfl : j = 1 ∨ j = 2 ∨ j = 3 ∨ j = 4 := by omega
    · simp [List.find?, ho]
    · simp [List.find?, ho, hb 1 (by omega) (by omega)]
    · simp [List.find?, ho, hb 1 (by omega) (by omega), hb 2 (by omega) (by omega)]
    · simp [List.find?, ho, hb 1 (by omega) (by omega), hb 2 (by omega) (by omega), hb 3 (by omega) (by omega)]
  unfold Gt.wait
  rw [if_neg (by rw [hr]; decide), e]
theorem wait_none {g : Gt} {q : Int} {b : Bool} (hr : g.runs q = true) (hb : ∀ i, 1 ≤ i → i < 5 → g.over q i = false) (hc : b = true ↔ ∃ i, 1 ≤ i ∧ i < 5 ∧ g.child q i = true) : g.wait q = if b = true then (g, 0, 0, true, 0) else (g, 0, 0, false, 10) := by
  have e : (List.range' 1 4).find? (g.over q) = none := by
    rw [r14]
    simp [List.find?, hb 1 (by omega) (by omega), hb 2 (by omega) (by omega), hb 3 (by omega) (by omega), hb 4 (by omega) (by omega)]
  have e2 : (List.range' 1 4).any (g.child q) = b := by
    have : (List.range' 1 4).any (g.child q) = true ↔ b = true := by
      rw [hc, List.any_eq_true]
      constructor
      · rintro ⟨x, hx, hy⟩
        rw [List.mem_range'_1] at hx
        exact ⟨x, by omega, by omega, hy⟩
      · rintro ⟨x, h1, h2, hy⟩
        exact ⟨x, by rw [List.mem_range'_1]; omega, hy⟩
    cases b
    · exact Bool.eq_false_iff.2 (fun h => by have := this.1 h; exact absurd this (by decide))
    · exact this.2 rfl
  unfold Gt.wait
  rw [if_neg (by rw [hr]; decide), e, e2]

section
variable {w0 w : World} {p f : Nat} {g : Gt} {G : Nat → Prop}
set_option maxHeartbeats 8000000 in
theorem gwait_any (h : ZpTo w0 p f g G w) (H0 : GOk g) (n : Int) :
    Calls Tryz.prog 29 #[.pointer (some ⟨p, 0, none⟩), .int .i64 n] w fun e w' => e = .returned (.tuple #[.int .i64 (g.wait n).2.1, .int .i64 (g.wait n).2.2.1, .bool (g.wait n).2.2.2.1, .int .i64 (g.wait n).2.2.2.2]) ∧ ZpTo w0 p f (g.wait n).1 G w' := by
  have H := hid h
  cases hr : g.runs n
  · rw [show g.wait n = (g, 0, 0, false, 3) by unfold Gt.wait; rw [if_pos hr]]
    have k1 := hid (gproc_no p f _ n g.Q w h.tab hr)
    clear h hr H0
    go_enter Tryz.func29, Tryz.ntmps29
    go_wp2_with fail
    refine k1.out.mono ?_
    rintro e w1 ⟨rfl, rfl⟩
    go_wp2_with fail
    (try simp only [Exit.inBlock, Exit.then])
    refine bodyPost_ret (four_results rfl _ _ _) rfl ?_
    exact ⟨rfl, H.out⟩
  have HRun := hid hr
  obtain ⟨q, rfl, h1, h4, hs⟩ := qrn_lt hr
  have k1 := hid (gproc_yes p f q _ g.Q w h.tab ⟨h1, h4⟩ hs)
  have HOv : Hid (∀ i, g.over (q : Int) i = decide ((g.Q i).st = 2 ∧ (g.Q i).pa = (q : Int))) := hid (fun i => rfl)
  have HCh : Hid (∀ i, g.child (q : Int) i = decide ((g.Q i).pa = (q : Int))) := hid (fun i => by
    unfold Gt.child
    rw [decide_eq_decide]
    refine ⟨fun h => h.2, fun h => ⟨fun e => ?_, h⟩⟩
    rw [H0.none i e] at h
    have : (0 : Int) = (q : Int) := h
    omega)
  have HZ : Hid ((g.Q 0).pa ≠ (q : Int)) := hid (fun e => by
    rw [H0.out 0 (.inl rfl)] at e
    have : (0 : Int) = (q : Int) := e
    omega)
  have hR := hid h.tab.range
  have hpl := h.1.plt
  obtain ⟨L, gLe⟩ : ∃ L, L = gL g.Q := ⟨_, rfl⟩
  have HS : Hid ((Tryz.prog.info? 80).map (·.size) = some L.length) := by rw [csizeGs, gLe, gL_len]; exact hid rfl
  have HIX : Hid (∀ j : Nat, j < 5 → ∀ W : World, (Instr.index 80 (.agg L.toArray) (.int .i64 (j : Int))).run Tryz.prog W = .ok (.agg #[.int .i64 (g.Q j).st, .int .i64 (g.Q j).pa, .int .i64 (g.Q j).co, .int .i64 ((g.Q j).fd 0), .int .i64 ((g.Q j).fd 1), .int .i64 ((g.Q j).fd 2), .int .i64 ((g.Q j).fd 3), .int .i64 ((g.Q j).fd 4), .int .i64 ((g.Q j).fd 5)]) W) := by
    rw [gLe]; exact hid (fun j hj W => ixG g.Q j hj W)
  rw [← gLe] at hR
  clear h hr hs gLe H0
  go_enter Tryz.func29, Tryz.ntmps29
  go_wp2_with fail
  refine k1.out.mono ?_
  rintro e w1 ⟨rfl, hw1⟩
  subst w1
  clear k1
  go_wp2_with (refine wpList_load_mid rfl 80 (.tmp 24) rfl p 2 rfl L _ hR.out Tryz.underlying80 rfl HS.out ?_)
  go_loopw [10, 26] (fun ch k wr => ∃ (j : Nat) (b : Bool), j ≤ 5 ∧ k = .int .i64 (j : Int) ∧ ch = .bool b ∧ Hid ((∀ i, 1 ≤ i → i < j → g.over (q : Int) i = false) ∧ (b = true ↔ ∃ i, 1 ≤ i ∧ i < j ∧ g.child (q : Int) i = true)) ∧ Hid (ZpTo w0 p f g G wr) ∧ Hid (w.heap.size ≤ wr.heap.size)) (fun _ k _ => 5 - (intOf k).toNat)
  case atStart => exact ⟨0, false, by omega, rfl, rfl, hid ⟨fun i _ hi => absurd hi (Nat.not_lt_zero i), fun h => absurd h (by decide), fun ⟨i, _, hi, _⟩ => absurd hi (Nat.not_lt_zero i)⟩, H, hid (Nat.le_refl _)⟩
  case round =>
    clear H hR HS
    obtain ⟨j, b, hj5, rfl, rfl, HI, HR, HSz⟩ := hrel
    by_cases e5 : j = 5
    · subst e5
      have HW := hid (wait_none HRun.out HI.out.1 HI.out.2)
      cases b
      · have HW : Hid (g.wait (q : Int) = (g, 0, 0, false, 10)) := HW
        clear HI HOv HCh HZ
        go_wp2_with fail
        (try simp only [Exit.inBlock, Exit.then])
        refine bodyPost_ret (four_results rfl _ _ _) rfl ?_
        exact ⟨by rw [HW.out]; rfl, by rw [HW.out]; exact HR.out⟩
      · have HW : Hid (g.wait (q : Int) = (g, 0, 0, true, 0)) := HW
        clear HI HOv HCh HZ
        go_wp2_with fail
        (try simp only [Exit.inBlock, Exit.then])
        refine bodyPost_ret (four_results rfl _ _ _) rfl ?_
        exact ⟨by rw [HW.out]; rfl, by rw [HW.out]; exact HR.out⟩
    · have hj : j < 5 := by omega
      have c3 : (0 : Int) ≤ j := by omega
      have c4 : (j : Int) < 5 := by omega
      have hix := HIX.out j hj
      obtain ⟨x3, gx3⟩ : ∃ x3, x3 = (g.Q j).fd 0 := ⟨_, rfl⟩
      obtain ⟨x4, gx4⟩ : ∃ x4, x4 = (g.Q j).fd 1 := ⟨_, rfl⟩
      obtain ⟨x5, gx5⟩ : ∃ x5, x5 = (g.Q j).fd 2 := ⟨_, rfl⟩
      obtain ⟨x6, gx6⟩ : ∃ x6, x6 = (g.Q j).fd 3 := ⟨_, rfl⟩
      obtain ⟨x7, gx7⟩ : ∃ x7, x7 = (g.Q j).fd 4 := ⟨_, rfl⟩
      obtain ⟨x8, gx8⟩ : ∃ x8, x8 = (g.Q j).fd 5 := ⟨_, rfl⟩
      rw [← gx3, ← gx4, ← gx5, ← gx6, ← gx7, ← gx8] at hix
      clear gx3 gx4 gx5 gx6 gx7 gx8
      have hov := HOv.out j
      have hch := HCh.out j
      by_cases ep : (g.Q j).pa = (q : Int)
      · have hj1 : 1 ≤ j := by
          rcases Nat.eq_zero_or_pos j with e | e
          · subst e; exact absurd ep HZ.out
          · exact e
        rw [ep] at hix
        by_cases e2 : (g.Q j).st = 2
        · have HW := hid (wait_at HRun.out hj1 (by omega) HI.out.1 (by rw [hov]; exact decide_eq_true ⟨e2, ep⟩))
          rw [e2] at hix
          obtain ⟨x2, gx2⟩ : ∃ x2, x2 = (g.Q j).co := ⟨_, rfl⟩
          rw [← gx2] at hix HW
          have hbA : Below wr.heap.size wr (wr.alloc (.cells #[.int .i64 2, .int .i64 (q : Int), .int .i64 x2, .int .i64 x3, .int .i64 x4, .int .i64 x5, .int .i64 x6, .int .i64 x7, .int .i64 x8] 79)) := one_new _ _
          have hTA := HR.out.grow hbA
          have hTH := hTA.tab.th j hj
          have hPUT := hTA.put (hTA.tab.put j hj noGp) (upd_setCells p (gpC noGp) _ _)
          have hz : (wr.alloc (.cells #[.int .i64 2, .int .i64 (q : Int), .int .i64 x2, .int .i64 x3, .int .i64 x4, .int .i64 x5, .int .i64 x6, .int .i64 x7, .int .i64 x8] 79)).cell? ⟨wr.heap.size, 2, none⟩ = some (.int .i64 x2) := by simp [go_sem]
          have hqr : p < wr.heap.size := HR.out.1.plt
          have hsz : wr.heap.size < (wr.alloc (.cells #[.int .i64 2, .int .i64 (q : Int), .int .i64 x2, .int .i64 x3, .int .i64 x4, .int .i64 x5, .int .i64 x6, .int .i64 x7, .int .i64 x8] 79)).heap.size := by simp
          obtain ⟨N, gN⟩ : ∃ N, N = gpC noGp := ⟨_, rfl⟩
          have HSZ : Hid ((Tryz.prog.info? 79).map (·.size) = some N.toArray.size) := by rw [gN]; exact hid csizeGp
          have HBU : Hid (Tryz.prog.built 79 [] = some N.toArray) := by rw [gN]; exact hid builtGp
          have HO1 : Hid (N.toArray.all (·.oneCell') = true) := by rw [gN]; exact hid (by simp [gpC, Value.oneCell'])
          have HT2 : Hid (9 = N.toArray.size) := by rw [gN]; exact hid rfl
          rw [← gN] at hPUT
          have hz2 : ((wr.alloc (.cells #[.int .i64 2, .int .i64 (q : Int), .int .i64 x2, .int .i64 x3, .int .i64 x4, .int .i64 x5, .int .i64 x6, .int .i64 x7, .int .i64 x8] 79)).setCells p (2 + j * 9) N.toArray.toList).cell? ⟨wr.heap.size, 2, none⟩ = some (.int .i64 x2) := by
            have hu := upd_setCells p N.toArray.toList (2 + j * 9) (wr.alloc (.cells #[.int .i64 2, .int .i64 (q : Int), .int .i64 x2, .int .i64 x3, .int .i64 x4, .int .i64 x5, .int .i64 x6, .int .i64 x7, .int .i64 x8] 79))
            exact (World.cell?_of_block (a := ⟨wr.heap.size, 2, none⟩) (hu.block wr.heap.size hsz (by omega))).trans hz
          have hz3 : ((wr.alloc (.cells #[.int .i64 2, .int .i64 (q : Int), .int .i64 x2, .int .i64 x3, .int .i64 x4, .int .i64 x5, .int .i64 x6, .int .i64 x7, .int .i64 x8] 79)).setCells p (2 + j * 9) N).cell? ⟨wr.heap.size, 2, none⟩ = some (.int .i64 x2) := hz2
          have HPUT := hid hPUT
          have HTH := hid hTH
          clear hPUT hTH hTA hbA hz gN hov hch ep e2 HI HOv HCh HZ HR gx2
          go_wp2_with (first
            | (refine wpList_build_is rfl 79 #[] rfl N.toArray (by simpa using HBU.out) ?_)
            | (refine wpList_store_mid rfl 79 (.tmp 42) (.tmp 39) rfl p (2 + j * 9) N.toArray rfl rfl (by rw [← HT2.out]; exact HTH.out) HSZ.out HO1.out ?_))
          go_region_held3 (fun wx => wx.cell? ⟨wr.heap.size, 2, none⟩ = some (.int .i64 x2)) (go_keep) (fail)
          go_wp2_with fail
          (try simp only [Exit.inBlock, Exit.then])
          refine bodyPost_ret (four_results rfl _ _ _) rfl ?_
          exact ⟨by rw [HW.out]; rfl, by rw [HW.out]; exact HPUT.out.drew⟩
        · have HI2 : Hid ((∀ i, 1 ≤ i → i < j + 1 → g.over (q : Int) i = false) ∧ (true = true ↔ ∃ i, 1 ≤ i ∧ i < j + 1 ∧ g.child (q : Int) i = true)) := by
            refine hid ⟨fun i a c => ?_, fun _ => ⟨j, hj1, by omega, by rw [hch]; exact decide_eq_true ep⟩, fun _ => rfl⟩
            by_cases e : i = j
            · subst e; rw [hov]; exact decide_eq_false (fun h => e2 h.1)
            · exact HI.out.1 i a (by omega)
          have HR2 := hid (HR.out.grow (one_new wr (Obj.cells #[.int .i64 (g.Q j).st, .int .i64 (q : Int), .int .i64 (g.Q j).co, .int .i64 x3, .int .i64 x4, .int .i64 x5, .int .i64 x6, .int .i64 x7, .int .i64 x8] 79)))
          clear HI HR hov hch ep
          generalize (g.Q j).st = s0 at hix e2 HR2
          generalize (g.Q j).co = s2 at hix HR2
          go_wp2_with fail
          go_roundw
          case rel => exact ⟨j + 1, true, by omega, by go_num, rfl, HI2, HR2, hid (by have := HSz.out; simp; omega)⟩
          case measure => simp [intOf]; omega
      · have HI2 : Hid ((∀ i, 1 ≤ i → i < j + 1 → g.over (q : Int) i = false) ∧ (b = true ↔ ∃ i, 1 ≤ i ∧ i < j + 1 ∧ g.child (q : Int) i = true)) := by
          refine hid ⟨fun i a c => ?_, fun hb => ?_, fun ⟨i, a, c, d⟩ => ?_⟩
          · by_cases e : i = j
            · subst e; rw [hov]; exact decide_eq_false (fun h => ep h.2)
            · exact HI.out.1 i a (by omega)
          · obtain ⟨i, a, c, d⟩ := HI.out.2.1 hb
            exact ⟨i, a, by omega, d⟩
          · refine HI.out.2.2 ⟨i, a, ?_, d⟩
            by_cases e : i = j
            · subst e
              rw [hch] at d
              exact absurd (of_decide_eq_true d) ep
            · omega
        have HR2 := hid (HR.out.grow (one_new wr (Obj.cells #[.int .i64 (g.Q j).st, .int .i64 (g.Q j).pa, .int .i64 (g.Q j).co, .int .i64 x3, .int .i64 x4, .int .i64 x5, .int .i64 x6, .int .i64 x7, .int .i64 x8] 79)))
        clear HI HR hov hch
        generalize (g.Q j).st = s0 at hix HR2
        generalize (g.Q j).pa = s1 at hix ep HR2
        generalize (g.Q j).co = s2 at hix HR2
        go_wp2_with fail
        go_roundw
        case rel => exact ⟨j + 1, b, by omega, by go_num, rfl, HI2, HR2, hid (by have := HSz.out; simp; omega)⟩
        case measure => simp [intOf]; omega
end

end Go.Proofs.YtbglhmcahnkbfaaGreat

/- The program's processes: Look, Running, New. -/
namespace Go.Proofs.YtbglhmcahnkbfaaGreat
open Go.RowKit Go.ChangeMaps Go.MapKept
set_option linter.unusedVariables false
set_option maxRecDepth 20000

/-- A process as Look tells it; those below a number that are there. -/
def piV (i : Nat) (x : Gp) : List Value := [.int .i64 (i : Int), .int .i64 x.pa, .int .i64 x.st, .int .i64 x.co, .int .i64 (x.fd 0), .int .i64 (x.fd 1), .int .i64 (x.fd 2), .int .i64 (x.fd 3), .int .i64 (x.fd 4), .int .i64 (x.fd 5)]
def piL (Q : Nat → Gp) : Nat → List Value
  | 0 => []
  | n + 1 => if (Q n).st = 0 then piL Q n else piL Q n ++ piV n (Q n)
def piN (Q : Nat → Gp) : Nat → Nat
  | 0 => 0
  | n + 1 => if (Q n).st = 0 then piN Q n else piN Q n + 1
theorem piN_le (Q : Nat → Gp) : ∀ n, piN Q n ≤ n
  | 0 => Nat.le_refl _
  | n + 1 => by have := piN_le Q n; unfold piN; split <;> omega
/-- The numbers below one that run. -/
def rnL (Q : Nat → Gp) : Nat → List Nat
  | 0 => []
  | n + 1 => if qrn Q (n : Int) = true then rnL Q n ++ [n] else rnL Q n
theorem rnL_le (Q : Nat → Gp) : ∀ n, (rnL Q n).length ≤ n
  | 0 => Nat.le_refl _
  | n + 1 => by have := rnL_le Q n; unfold rnL; split <;> simp <;> omega

theorem infoPI : (Tryz.prog.info? 42).map (fun i => (i.zero, i.size, i.bytes)) = some (some (.agg #[.int .i64 0, .int .i64 0, .int .i64 0, .int .i64 0, .int .i64 0, .int .i64 0, .int .i64 0, .int .i64 0, .int .i64 0, .int .i64 0]), 10, 80) := by kernel_rfl
theorem infoI9p : (Tryz.prog.info? 3).map (fun i => (i.zero, i.size, i.bytes)) = some (some (.int .i64 0), 1, 8) := by kernel_rfl

section
variable {w : World} {p f : Nat} {d : Int} {Q : Nat → Gp}
set_option maxHeartbeats 8000000 in
theorem glook_any (h : Th w p f d Q) :
    Calls Tryz.prog 11 #[.pointer (some ⟨p, 0, none⟩)] w fun e w' => (∃ v, e = .returned v ∧ w'.ownsRow w.heap.size 42 10 v (piN Q 5) (piL Q 5)) ∧ Below w.heap.size w w' := by
  obtain ⟨i0, hi0, hz0, hz1, hz2⟩ := info_parts infoPI
  have k1 := hid (gusable_yes p f w h.fl)
  have hR := hid h.range
  obtain ⟨L, gLe⟩ : ∃ L, L = gL Q := ⟨_, rfl⟩
  have HS : Hid ((Tryz.prog.info? 80).map (·.size) = some L.length) := by rw [csizeGs, gLe, gL_len]; exact hid rfl
  have HIX : Hid (∀ j : Nat, j < 5 → ∀ W : World, (Instr.index 80 (.agg L.toArray) (.int .i64 (j : Int))).run Tryz.prog W = .ok (.agg #[.int .i64 (Q j).st, .int .i64 (Q j).pa, .int .i64 (Q j).co, .int .i64 ((Q j).fd 0), .int .i64 ((Q j).fd 1), .int .i64 ((Q j).fd 2), .int .i64 ((Q j).fd 3), .int .i64 ((Q j).fd 4), .int .i64 ((Q j).fd 5)]) W) := by
    rw [gLe]; exact hid (fun j hj W => ixG Q j hj W)
  rw [← gLe] at hR
  clear h gLe
  go_enter Tryz.func11, Tryz.ntmps11
  go_wp2_with fail
  refine k1.out.mono ?_
  rintro e w1 ⟨rfl, rfl⟩
  clear k1
  go_wp2_with (refine wpList_load_mid rfl 80 (.tmp 11) rfl p 2 rfl L _ hR.out Tryz.underlying80 rfl HS.out ?_)
  go_loopw [3, 13] (fun v k wr => ∃ (j : Nat) (a : Option Addr) (c : Nat), j ≤ 5 ∧ k = .int .i64 (j : Int) ∧ v = .slice a (piN Q j) c ∧ Hid (wr.ownsRow w1.heap.size 42 10 (.slice a (piN Q j) c) (piN Q j) (piL Q j)) ∧ Hid (Below w1.heap.size w1 wr)) (fun _ k _ => 5 - (intOf k).toNat)
  case atStart => exact ⟨0, none, 0, by omega, rfl, rfl, hid (World.ownsRow_nil _ _ _ _), hid (Below.refl _ _)⟩
  case round =>
    obtain ⟨j, a, c, hj5, rfl, rfl, HO, HB⟩ := hrel
    by_cases e : j = 5
    · subst e
      go_wp2_with fail
      go_ret
      exact ⟨⟨_, rfl, HO.out⟩, HB.out⟩
    · have hj : j < 5 := by omega
      have hix := HIX.out j hj
      have hj6 : (j : Int) < 5 := by omega
      have hcl := piN_le Q j
      have HN : Hid ((Q j).st = 0 → piL Q (j + 1) = piL Q j ∧ piN Q (j + 1) = piN Q j) := hid (fun e => ⟨by rw [piL, if_pos e], by rw [piN, if_pos e]⟩)
      have HY : Hid ((Q j).st ≠ 0 → piL Q (j + 1) = piL Q j ++ piV j (Q j) ∧ piN Q (j + 1) = piN Q j + 1) := hid (fun e => ⟨by rw [piL, if_neg e], by rw [piN, if_neg e]⟩)
      have hX := one_new wr (.cells #[.int .i64 (Q j).st, .int .i64 (Q j).pa, .int .i64 (Q j).co, .int .i64 ((Q j).fd 0), .int .i64 ((Q j).fd 1), .int .i64 ((Q j).fd 2), .int .i64 ((Q j).fd 3), .int .i64 ((Q j).fd 4), .int .i64 ((Q j).fd 5)] 79)
      have HB2 : Hid (Below w1.heap.size w1 (wr.alloc (.cells #[.int .i64 (Q j).st, .int .i64 (Q j).pa, .int .i64 (Q j).co, .int .i64 ((Q j).fd 0), .int .i64 ((Q j).fd 1), .int .i64 ((Q j).fd 2), .int .i64 ((Q j).fd 3), .int .i64 ((Q j).fd 4), .int .i64 ((Q j).fd 5)] 79))) := hid (HB.out.trans (hX.mono HB.out.size))
      have HO2 : Hid ((wr.alloc (.cells #[.int .i64 (Q j).st, .int .i64 (Q j).pa, .int .i64 (Q j).co, .int .i64 ((Q j).fd 0), .int .i64 ((Q j).fd 1), .int .i64 ((Q j).fd 2), .int .i64 ((Q j).fd 3), .int .i64 ((Q j).fd 4), .int .i64 ((Q j).fd 5)] 79)).ownsRow w1.heap.size 42 10 (.slice a (piN Q j) c) (piN Q j) (piL Q j)) := hid ((Upd.of_below (F := fun _ => False) hX).own HO.out (fun _ _ h => h))
      clear hX HO HB e
      by_cases hh : (Q j).st = 0
      · obtain ⟨e1, e2⟩ := HN.out hh
        have HO3 := HO2
        rw [← e1, ← e2] at HO3
        have E2 := hid e2
        rw [hh] at HO3 HB2 hix
        clear HN HY e1 e2 hh HO2
        go_wp2_with fail
        go_roundw
        case rel => exact ⟨j + 1, a, c, by omega, by go_num, by rw [E2.out], HO3, HB2⟩
        case measure => simp [intOf]; omega
      · obtain ⟨e1, e2⟩ := HY.out hh
        have E1 := hid e1
        have E2 := hid e2
        have E3 : Hid (piV j (Q j) = [.int .i64 (j : Int), .int .i64 (Q j).pa, .int .i64 (Q j).st, .int .i64 (Q j).co, .int .i64 ((Q j).fd 0), .int .i64 ((Q j).fd 1), .int .i64 ((Q j).fd 2), .int .i64 ((Q j).fd 3), .int .i64 ((Q j).fd 4), .int .i64 ((Q j).fd 5)]) := hid rfl
        clear HN HY e1 e2
        generalize (Q j).st = x0 at hix HB2 HO2 hh E3
        generalize (Q j).pa = x1 at hix HB2 HO2 E3
        generalize (Q j).co = x2 at hix HB2 HO2 E3
        generalize (Q j).fd 0 = x3 at hix HB2 HO2 E3
        generalize (Q j).fd 1 = x4 at hix HB2 HO2 E3
        generalize (Q j).fd 2 = x5 at hix HB2 HO2 E3
        generalize (Q j).fd 3 = x6 at hix HB2 HO2 E3
        generalize (Q j).fd 4 = x7 at hix HB2 HO2 E3
        generalize (Q j).fd 5 = x8 at hix HB2 HO2 E3
        rw [E3.out] at E1
        generalize piN Q j = nn at HO2 E2 hcl ⊢
        generalize piL Q j = ll at HO2 E1
        go_wp2_with (at_builtin; go_must (refine wpList_append_own _ rfl (.tmp 20) (.tmp 31) 32 rfl w1.heap.size 42 i0 _ 10 80 Tryz.underlying32 hi0 hz0 hz1 hz2 rfl (by decide) _ nn ll rfl (HO2.out.alloc _) ⟨_, 0, none⟩ 1 1 [.int .i64 (j : Int), .int .i64 x1, .int .i64 x0, .int .i64 x2, .int .i64 x3, .int .i64 x4, .int .i64 x5, .int .i64 x6, .int .i64 x7, .int .i64 x8] rfl rfl (cells_new _ _ _ _ (by simp)) (by simp [Value.oneCell']) (by unfold maxLen; omega) (by omega) (by have := HB2.out.size; simp at this ⊢; omega) ?_))
        intro v' w6 hO6 hG6 hN6
        obtain ⟨va, vc, rfl, _⟩ := own_shp hO6
        have HB6 : Hid (Below w1.heap.size w1 w6) := hid ((HB2.out.alloc HB2.out.size _).grown hG6 (by have := HB2.out.size; simp at this ⊢; omega) (fun x hx => (HO2.out.lt x hx).1))
        have HO6 : Hid (w6.ownsRow w1.heap.size 42 10 (.slice va (nn + 1) vc) (nn + 1) (piL Q (j + 1))) := hid (by rw [E1.out]; exact hO6)
        clear hO6 hG6 hN6 HO2 HB2
        go_wp2_with fail
        go_roundw
        case rel => exact ⟨j + 1, va, vc, by omega, by go_num, by rw [E2.out], by rw [E2.out]; exact HO6, HB6⟩
        case measure => simp [intOf]; omega

set_option maxHeartbeats 4000000 in
theorem grunning_any (h : Th w p f d Q) :
    Calls Tryz.prog 14 #[.pointer (some ⟨p, 0, none⟩)] w fun e w' => (∃ v, e = .returned v ∧ w'.ownsRow w.heap.size 3 1 v (rnL Q 5).length ((rnL Q 5).map natV)) ∧ Below w.heap.size w w' := by
  obtain ⟨i0, hi0, hz0, hz1, hz2⟩ := info_parts infoI9p
  have k1 := hid (gusable_yes p f w h.fl)
  have H := hid h
  clear h
  go_enter Tryz.func14, Tryz.ntmps14
  go_wp2_with fail
  refine k1.out.mono ?_
  rintro e w1 ⟨rfl, rfl⟩
  clear k1
  go_wp2_with fail
  go_loopw [3, 8] (fun v k wr => ∃ (j : Nat) (a : Option Addr) (c : Nat), j ≤ 5 ∧ k = .int .i64 (j : Int) ∧ v = .slice a (rnL Q j).length c ∧ Hid (wr.ownsRow w1.heap.size 3 1 (.slice a (rnL Q j).length c) (rnL Q j).length ((rnL Q j).map natV)) ∧ Hid (Below w1.heap.size w1 wr)) (fun _ k _ => 5 - (intOf k).toNat)
  case atStart => exact ⟨0, none, 0, by omega, rfl, rfl, hid (World.ownsRow_nil _ _ _ _), hid (Below.refl _ _)⟩
  case round =>
    obtain ⟨j, a, c, hj5, rfl, rfl, HO, HB⟩ := hrel
    by_cases e : j = 5
    · subst e
      go_wp2_with fail
      go_ret
      exact ⟨⟨_, rfl, HO.out⟩, HB.out⟩
    · have hj : j < 5 := by omega
      have c3 : (0 : Int) ≤ j := by omega
      have c4 : (j : Int) < 5 := by omega
      have hle := rnL_le Q j
      have hT : Th wr p f d Q := H.out.upd (Upd.of_below (F := fun _ => False) HB.out) (fun h => h)
      cases hq : qrn Q (j : Int)
      · have HN : Hid (rnL Q (j + 1) = rnL Q j) := hid (by rw [rnL, if_neg (by rw [hq]; decide)])
        have k2 := hid (gruns_any p f d Q (j : Int) false wr hT hq.symm)
        clear hT hq e
        go_wp2_with fail
        refine k2.out.mono ?_
        rintro e2 w2 ⟨rfl, h2⟩
        subst w2
        go_wp2_with fail
        go_roundw
        case rel => exact ⟨j + 1, a, c, by omega, by go_num, by rw [HN.out], by rw [HN.out]; exact HO, HB⟩
        case measure => simp [intOf]; omega
      · have HN : Hid (rnL Q (j + 1) = rnL Q j ++ [j]) := hid (by rw [rnL, if_pos hq])
        have k2 := hid (gruns_any p f d Q (j : Int) true wr hT hq.symm)
        clear hT hq e
        obtain ⟨ll, gll⟩ : ∃ ll, ll = rnL Q j := ⟨_, rfl⟩
        rw [← gll] at HO HN hle ⊢
        obtain ⟨nn, gnn⟩ : ∃ nn, nn = ll.length := ⟨_, rfl⟩
        rw [← gnn] at HO hle ⊢
        have GNN := hid gnn
        clear gll gnn
        go_wp2_with fail
        refine k2.out.mono ?_
        rintro e2 w2 ⟨rfl, h2⟩
        subst w2
        go_wp2_with (at_builtin; go_must (refine wpList_append_own _ rfl (.tmp 14) (.tmp 16) 48 rfl w1.heap.size 3 i0 _ 1 8 Tryz.underlying48 hi0 hz0 hz1 hz2 rfl (by decide) _ nn (ll.map natV) rfl (HO.out.alloc _) ⟨_, 0, none⟩ 1 1 [.int .i64 (j : Int)] rfl rfl (cells_new _ _ _ _ (by simp)) (by simp [Value.oneCell']) (by unfold maxLen; omega) (by omega) (by have := HB.out.size; simp at this ⊢; omega) ?_))
        intro v' w6 hO6 hG6 hN6
        obtain ⟨va, vc, rfl, _⟩ := own_shp hO6
        have HB6 : Hid (Below w1.heap.size w1 w6) := hid ((HB.out.alloc HB.out.size _).grown hG6 (by have := HB.out.size; simp at this ⊢; omega) (fun x hx => (HO.out.lt x hx).1))
        have EL : Hid ((rnL Q (j + 1)).length = nn + 1) := hid (by rw [HN.out, List.length_append, GNN.out]; rfl)
        have HO6 : Hid (w6.ownsRow w1.heap.size 3 1 (.slice va (nn + 1) vc) (nn + 1) ((rnL Q (j + 1)).map natV)) := hid (by rw [HN.out, List.map_append]; exact hO6)
        clear hO6 hG6 hN6 HO HB
        go_wp2_with fail
        go_roundw
        case rel => exact ⟨j + 1, va, vc, by omega, by go_num, by rw [EL.out], by rw [EL.out]; exact HO6, HB6⟩
        case measure => simp [intOf]; omega
end

end Go.Proofs.YtbglhmcahnkbfaaGreat
