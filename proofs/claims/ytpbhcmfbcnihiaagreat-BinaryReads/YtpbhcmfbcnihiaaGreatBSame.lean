/- Executed programs that hold the same: SameExecs tells so. -/
import Derived.Test.YtpbhcmfbcnihiaaGreatBPure
import Derived.Test.YtpbhcmfbcnihiaaGreatEqual
import Derived.Test.YtpbhcmfbcnihiaaGreatBCan1
import Derived.Deep.RegionHeld3
import Derived.WalkSpells
import Derived.Laws.EntriesVeiled
namespace Go.Proofs.YtpbhcmfbcnihiaaGreat
open Go.RowKit Num
set_option linter.unusedVariables false
set_option maxRecDepth 20000

theorem box2a (w : World) (o1 o2 : Obj) : Below w.heap.size w ((w.alloc o1).alloc o2) := (below_box w o1).trans ((below_box _ o2).mono (below_box w o1).size)

set_option maxHeartbeats 4000000 in
theorem eqw_yes (a1 : Option Addr) (n c1 : Nat) (a2 : Option Addr) (c2 : Nat) (l : List Wd) (N1 N2 : Nat → Prop) (w : World) (h1 : Lies 2 WdAt N1 w a1 l) (h2 : Lies 2 WdAt N2 w a2 l) (hn : l.length = n) (hm : n ≤ 9223372036854775807) :
    Calls Tryz.prog 31 #[.slice a1 n c1, .slice a2 n c2] w fun e w' => e = .returned (.bool true) ∧ Below w.heap.size w w' := by
  have H1 := hid h1
  have H2 := hid h2
  have HN := hid hn
  clear h1 h2 hn
  go_enter Tryz.func31, Tryz.ntmps31
  go_wp2_with fail
  go_loopw [13] (fun s wr => ∃ j : Nat, j ≤ n ∧ s = .int .i64 j ∧ Hid (Below w.heap.size w wr)) (fun s _ => n - (intOf s).toNat)
  case atStart => exact ⟨0, Nat.zero_le _, rfl, hid (Below.refl _ _)⟩
  case round =>
    obtain ⟨j, hj, rfl, HB⟩ := hrel
    by_cases h : j < n
    · have hjl : j < l.length := by rw [HN.out]; exact h
      obtain ⟨b1, o1, rfl, _, hb1, hc1⟩ := H1.out.keep (fun _ _ _ h => WdAt.keep (Keep.below HB.out) h) (Keep.below HB.out) (by omega)
      obtain ⟨b2, o2, rfl, _, hb2, hc2⟩ := H2.out.keep (fun _ _ _ h => WdAt.keep (Keep.below HB.out) h) (Keep.below HB.out) (by omega)
      obtain ⟨⟨_, _, p0⟩, ⟨_, _, p1⟩⟩ := hc1 j hjl
      obtain ⟨⟨_, _, q0⟩, ⟨_, _, q1⟩⟩ := hc2 j hjl
      generalize l[j].r = y0 at p0 q0
      generalize l[j].v = y1 at p1 q1
      have hsz := HB.out.size
      clear hc1 hc2 hjl
      go_wp2_with fail
      go_region_held3 (fun wx => wx.cell? ⟨b1, o1 + j * 2, none⟩ = some (.int .i64 y0) ∧ wx.cell? ⟨b1, o1 + j * 2 + 1, none⟩ = some (.int .i64 y1) ∧ wx.cell? ⟨b2, o2 + j * 2, none⟩ = some (.int .i64 y0) ∧ wx.cell? ⟨b2, o2 + j * 2 + 1, none⟩ = some (.int .i64 y1)) (go_keep) (fail)
      go_wp2_with fail
      go_roundw
      case rel => exact ⟨j + 1, by omega, by go_num, hid ⟨HB.out.os, HB.out.tape, HB.out.output, HB.out.size, HB.out.block⟩⟩
      case measure => simp [intOf]; omega
    · obtain rfl : j = n := by omega
      go_wp2_with fail
      go_ret
      exact ⟨rfl, HB.out⟩

set_option maxHeartbeats 4000000 in
theorem samecp_yes (a r s v : Int) (ba : Option Addr) (bn bc : Nat) (da : Option Addr) (dn dc : Nat) (bs : List Int) (w : World) (h1 : Src w ba bn bs) (h2 : Src w da dn bs) :
    Calls Tryz.prog 33 #[.agg #[.int .i64 a, .int .i64 r, .int .i64 s, .int .i64 v, .slice ba bn bc], .agg #[.int .i64 a, .int .i64 r, .int .i64 s, .int .i64 v, .slice da dn dc]] w fun e w' => e = .returned (.bool true) ∧ Below w.heap.size w w' := by
  have k := hid (fun o1 o2 => equal_yes ba da bn bc dn dc bs ((w.alloc o1).alloc o2) (h1.below (box2a w o1 o2)) (h2.below (box2a w o1 o2)))
  clear h1 h2
  go_enter Tryz.func33, Tryz.ntmps33
  go_wp2_with fail
  refine (k.out _ _).mono ?_
  rintro e w1 ⟨rfl, rfl⟩
  go_wp2_with fail
  go_ret
  exact ⟨rfl, box2a _ _ _⟩

set_option maxHeartbeats 4000000 in
theorem eqfc_yes (a1 : Option Addr) (n c1 : Nat) (a2 : Option Addr) (c2 : Nat) (l : List Cp) (N1 N2 : Nat → Prop) (w : World) (h1 : Lies 5 CpAt N1 w a1 l) (h2 : Lies 5 CpAt N2 w a2 l) (hn : l.length = n) (hm : n ≤ 9223372036854775807) :
    Calls Tryz.prog 32 #[.slice a1 n c1, .slice a2 n c2, .func (.func 33) #[] #[]] w fun e w' => e = .returned (.bool true) ∧ Below w.heap.size w w' := by
  have H1 := hid h1
  have H2 := hid h2
  have HN := hid hn
  clear h1 h2 hn
  go_enter Tryz.func32, Tryz.ntmps32
  go_wp2_with fail
  go_loopw [17] (fun s wr => ∃ j : Nat, j ≤ n ∧ s = .int .i64 j ∧ Hid (Below w.heap.size w wr)) (fun s _ => n - (intOf s).toNat)
  case atStart => exact ⟨0, Nat.zero_le _, rfl, hid (Below.refl _ _)⟩
  case round =>
    obtain ⟨j, hj, rfl, HB⟩ := hrel
    by_cases h : j < n
    · have hjl : j < l.length := by rw [HN.out]; exact h
      obtain ⟨b1, o1, rfl, _, hb1, hc1⟩ := H1.out.keep (fun _ _ _ h => CpAt.keep (Keep.below HB.out) h) (Keep.below HB.out) (by omega)
      obtain ⟨b2, o2, rfl, _, hb2, hc2⟩ := H2.out.keep (fun _ _ _ h => CpAt.keep (Keep.below HB.out) h) (Keep.below HB.out) (by omega)
      obtain ⟨⟨_, _, p0⟩, ⟨_, _, p1⟩, ⟨_, _, p2⟩, ⟨_, _, p3⟩, ⟨_, _, ba, bn, bc, p4, s1, _, _, _⟩⟩ := hc1 j hjl
      obtain ⟨⟨_, _, q0⟩, ⟨_, _, q1⟩, ⟨_, _, q2⟩, ⟨_, _, q3⟩, ⟨_, _, da, dn, dc, q4, s2, _, _, _⟩⟩ := hc2 j hjl
      generalize l[j] = C at p0 p1 p2 p3 q0 q1 q2 q3 s1 s2
      have k := hid (fun o1 o2 => samecp_yes C.a C.r C.s C.v ba bn bc da dn dc C.bs ((wr.alloc o1).alloc o2) (s1.below (box2a wr o1 o2)) (s2.below (box2a wr o1 o2)))
      have hsz := HB.out.size
      have hb2' : b2 ≠ wr.heap.size := by omega
      clear hc1 hc2 hjl s1 s2
      go_wp2_with fail
      refine (k.out _ _).mono ?_
      rintro e w2 ⟨rfl, b2'⟩
      have HB2 := hid (HB.out.trans (((box2a wr _ _).trans (b2'.mono (box2a wr _ _).size)).mono HB.out.size))
      clear b2' k
      go_wp2_with fail
      go_roundw
      case rel => exact ⟨j + 1, by omega, by go_num, HB2⟩
      case measure => simp [intOf]; omega
    · obtain rfl : j = n := by omega
      go_wp2_with fail
      go_ret
      exact ⟨rfl, HB.out⟩

set_option maxHeartbeats 4000000 in
theorem sameex_yes (x : Ex) (ca : Option Addr) (cn cc : Nat) (wa : Option Addr) (wn wc : Nat) (da : Option Addr) (dc : Nat) (va : Option Addr) (vc : Nat) (N1 N2 : Nat → Prop) (w : World) (h1 : Lies 5 CpAt N1 w ca x.cs) (h2 : Lies 5 CpAt N2 w da x.cs) (hcn : x.cs.length = cn) (hcm : cn ≤ 9223372036854775807) (g1 : Lies 2 WdAt N1 w wa x.ws) (g2 : Lies 2 WdAt N2 w va x.ws) (hwn : x.ws.length = wn) (hwm : wn ≤ 9223372036854775807) :
    Calls Tryz.prog 30 #[.agg #[.int .i64 x.n, .slice ca cn cc, .slice wa wn wc], .agg #[.int .i64 x.n, .slice da cn dc, .slice va wn vc]] w fun e w' => e = .returned (.bool true) ∧ Below w.heap.size w w' := by
  have K := hid (fun (w' : World) (hb : Below w.heap.size w w') => And.intro (h1.keep (N' := N1) (W' := w') (fun _ _ _ h => CpAt.keep (Keep.below hb) h) (Keep.below hb)) (And.intro (h2.keep (N' := N2) (W' := w') (fun _ _ _ h => CpAt.keep (Keep.below hb) h) (Keep.below hb)) (And.intro (g1.keep (N' := N1) (W' := w') (fun _ _ _ h => WdAt.keep (Keep.below hb) h) (Keep.below hb)) (g2.keep (N' := N2) (W' := w') (fun _ _ _ h => WdAt.keep (Keep.below hb) h) (Keep.below hb)))))
  have k1 := hid (fun w' hb => eqw_yes wa wn wc va vc x.ws N1 N2 w' (K.out w' hb).2.2.1 (K.out w' hb).2.2.2 hwn hwm)
  have k2 := hid (fun w' hb => eqfc_yes ca cn cc da dc x.cs N1 N2 w' (K.out w' hb).1 (K.out w' hb).2.1 hcn hcm)
  generalize x.n = q
  clear h1 h2 g1 g2 K
  have hbx := hid (box2a w)
  go_enter Tryz.func30, Tryz.ntmps30
  go_wp2_with fail
  refine (k1.out _ (hbx.out _ _)).mono ?_
  rintro e w1 ⟨rfl, b1⟩
  have B1 := hid ((box2a w _ _).trans (b1.mono (box2a w _ _).size))
  have hz := b1.size
  simp at hz
  have y1 : w1.cell? ⟨w.heap.size, 1, none⟩ = some (.slice ca cn cc) := (b1.cell (p := ⟨w.heap.size, 1, none⟩) (by simp; omega)).trans (by rw [(below_box _ _).cell (p := ⟨w.heap.size, 1, none⟩) (by simp)]; simp)
  have y2 : w1.cell? ⟨w.heap.size + 1, 1, none⟩ = some (.slice da cn dc) := (b1.cell (p := ⟨w.heap.size + 1, 1, none⟩) (by simp)).trans (by simp)
  clear b1 k1
  go_wp2_with fail
  refine (k2.out _ B1.out).mono ?_
  rintro e w2 ⟨rfl, b2⟩
  have B2 := hid (B1.out.trans (b2.mono B1.out.size))
  clear b2 k2
  go_wp2_with fail
  go_ret
  exact ⟨rfl, B2.out⟩

set_option maxHeartbeats 4000000 in
theorem eqfx_yes (a1 : Option Addr) (n c1 : Nat) (a2 : Option Addr) (c2 : Nat) (l : List Ex) (N1 N2 : Nat → Prop) (w : World) (h1 : Lies 3 ExAt N1 w a1 l) (h2 : Lies 3 ExAt N2 w a2 l) (hn : l.length = n) (hm : n ≤ 9223372036854775807) :
    Calls Tryz.prog 29 #[.slice a1 n c1, .slice a2 n c2, .func (.func 30) #[] #[]] w fun e w' => e = .returned (.bool true) ∧ Below w.heap.size w w' := by
  have H1 := hid h1
  have H2 := hid h2
  have HN := hid hn
  clear h1 h2 hn
  go_enter Tryz.func29, Tryz.ntmps29
  go_wp2_with fail
  go_loopw [17] (fun s wr => ∃ j : Nat, j ≤ n ∧ s = .int .i64 j ∧ Hid (Below w.heap.size w wr)) (fun s _ => n - (intOf s).toNat)
  case atStart => exact ⟨0, Nat.zero_le _, rfl, hid (Below.refl _ _)⟩
  case round =>
    obtain ⟨j, hj, rfl, HB⟩ := hrel
    by_cases h : j < n
    · have hjl : j < l.length := by rw [HN.out]; exact h
      obtain ⟨b1, o1, rfl, _, hb1, hc1⟩ := H1.out.keep (fun _ _ _ h => ExAt.keep (Keep.below HB.out) h) (Keep.below HB.out) (by omega)
      obtain ⟨b2, o2, rfl, _, hb2, hc2⟩ := H2.out.keep (fun _ _ _ h => ExAt.keep (Keep.below HB.out) h) (Keep.below HB.out) (by omega)
      obtain ⟨⟨_, _, p0⟩, hl1, hl2⟩ := hc1 j hjl
      obtain ⟨⟨_, _, q0⟩, hl3, hl4⟩ := hc2 j hjl
      obtain ⟨ca, cn, cc, p1, e1, m1, m1', L1⟩ := hl1.lies
      obtain ⟨wa, wn, wc, p2, e2, m2, m2', L2⟩ := hl2.lies
      obtain ⟨da, dn, dc, q1, e3, m3, m3', L3⟩ := hl3.lies
      obtain ⟨va, vn, vc, q2, e4, m4, m4', L4⟩ := hl4.lies
      obtain rfl : cn = dn := by omega
      obtain rfl : wn = vn := by omega
      generalize l[j] = C at p0 q0 e1 L1 e2 L2 L3 L4
      have k := hid (fun o1 o2 => sameex_yes C ca cn cc wa wn wc da dc va vc N1 N2 ((wr.alloc o1).alloc o2) (L1.keep (fun _ _ _ h => CpAt.keep (Keep.below (box2a wr o1 o2)) h) (Keep.below (box2a wr o1 o2))) (L3.keep (fun _ _ _ h => CpAt.keep (Keep.below (box2a wr o1 o2)) h) (Keep.below (box2a wr o1 o2))) e1 (by omega) (L2.keep (fun _ _ _ h => WdAt.keep (Keep.below (box2a wr o1 o2)) h) (Keep.below (box2a wr o1 o2))) (L4.keep (fun _ _ _ h => WdAt.keep (Keep.below (box2a wr o1 o2)) h) (Keep.below (box2a wr o1 o2))) e2 (by omega))
      have hsz := HB.out.size
      have hb2' : b2 ≠ wr.heap.size := by omega
      clear hc1 hc2 hjl hl1 hl2 hl3 hl4 L1 L2 L3 L4 e1 e2 e3 e4
      go_wp2_with fail
      refine (k.out _ _).mono ?_
      rintro e w2 ⟨rfl, b2'⟩
      have HB2 := hid (HB.out.trans (((box2a wr _ _).trans (b2'.mono (box2a wr _ _).size)).mono HB.out.size))
      clear b2' k
      go_wp2_with fail
      go_roundw
      case rel => exact ⟨j + 1, by omega, by go_num, HB2⟩
      case measure => simp [intOf]; omega
    · obtain rfl : j = n := by omega
      go_wp2_with fail
      go_ret
      exact ⟨rfl, HB.out⟩

theorem samex_yes (a1 : Option Addr) (n c1 : Nat) (a2 : Option Addr) (c2 : Nat) (l : List Ex) (N1 N2 : Nat → Prop) (w : World) (h1 : Lies 3 ExAt N1 w a1 l) (h2 : Lies 3 ExAt N2 w a2 l) (hn : l.length = n) (hm : n ≤ 9223372036854775807) :
    Calls Tryz.prog 16 #[.slice a1 n c1, .slice a2 n c2] w fun e w' => e = .returned (.bool true) ∧ Below w.heap.size w w' := by
  have k := hid (eqfx_yes a1 n c1 a2 c2 l N1 N2 w h1 h2 hn hm)
  clear h1 h2
  go_enter Tryz.func16, Tryz.ntmps16
  go_wp2_with fail
  refine k.out.mono ?_
  rintro e w1 ⟨rfl, b1⟩
  have B1 := hid b1
  clear b1
  go_wp2_with fail
  go_ret
  exact ⟨rfl, B1.out⟩

end Go.Proofs.YtpbhcmfbcnihiaaGreat
