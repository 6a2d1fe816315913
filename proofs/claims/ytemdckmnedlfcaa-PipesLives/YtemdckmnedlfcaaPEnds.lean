/- The road of PipesEnds. -/
import Derived.Test.YtemdckmnedlfcaaPLook
import Derived.Test.YtemdckmnedlfcaaEqual
namespace Go.Proofs.Ytemdckmnedlfcaa
open Go.RowKit Lend
set_option linter.unusedVariables false

/-- A table and its maker's frame. -/
structure Tf (w0 w : World) (p : Nat) (P : Nat → Pp) : Prop where
  tb : Tb w p false P
  ge : w0.heap.size ≤ p
  bel : Below w0.heap.size w0 w

theorem Tf.upd {w0 w w' : World} {p : Nat} {P P' : Nat → Pp} (h : Tf w0 w p P) (ht : Tb w' p false P') (u : Upd (· = p) w w') : Tf w0 w' p P' :=
  ⟨ht, h.ge, h.bel.trans (u.below h.bel.size (fun x f => by have := h.ge; omega))⟩
theorem Tf.below {w0 w w' : World} {p : Nat} {P : Nat → Pp} (h : Tf w0 w p P) (u : Below w.heap.size w w') : Tf w0 w' p P :=
  ⟨h.tb.below u h.tb.lt, h.ge, h.bel.trans (u.mono h.bel.size)⟩

/-- Only pipe 1. -/
def one (x : Pp) : Nat → Pp := fun j => if j = 1 then x else ⟨0, 0, []⟩
theorem one_at (x : Pp) : one x 1 = x := rfl
theorem upd_one (x y : Pp) : updP (one x) 1 y = one y := by
  funext j; unfold updP one; by_cases h : j = 1 <;> simp [h]
theorem upd_none (y : Pp) : updP noPipes 1 y = one y := by
  funext j; unfold updP one noPipes; by_cases h : j = 1 <;> simp [h]

set_option maxHeartbeats 4000000 in
theorem ends_road (a0 : Option Addr) (len cap : Nat) (zs : List Int) (count : Int) (w : World) (hs : Src w a0 len zs) (hl : len ≤ cap) (hcap : cap ≤ 9223372036854775807) :
    Calls Try.prog 5 #[.slice a0 len cap, .int .i64 count] w fun e w' => e = .returned (.bool true) ∧ Below w.heap.size w w' := by
  have k0 := hid (pnew_any 0 w)
  have HS := hid hs
  clear hs
  go_enter Try.func5, Try.ntmps5
  go_wp2_with fail
  refine k0.out.mono ?_
  rintro e w1 ⟨rfl, ht, hb, hz⟩
  have HT : Hid (Tf w w1 w.heap.size noPipes) := hid ⟨ht, Nat.le_refl _, hb⟩
  obtain ⟨p, gp⟩ : ∃ p, p = w.heap.size := ⟨_, rfl⟩
  rw [← gp] at HT ⊢
  have GP := hid gp
  clear k0 ht hb hz gp
  have k1 := hid (make_yes p 1 false noPipes w1 HT.out.tb (by omega) (by omega) (fun j h1 h2 => by omega) rfl)
  go_wp2_with fail
  refine k1.out.mono ?_
  rintro e w2 ⟨rfl, ht, hu, hz⟩
  rw [upd_none] at ht
  have HT2 := hid (HT.out.upd ht hu)
  clear k1 ht hu hz HT
  -- the first Write
  obtain ⟨m, gm⟩ : ∃ m, m = min len 8 := ⟨_, rfl⟩
  have kW : Hid (Calls Try.prog 17 #[.pointer (some ⟨p, 0, none⟩), .int .i64 1, .slice a0 len cap] w2 fun e w' => e = .returned (.tuple #[.int .i64 m, .bool false, .int .i64 0]) ∧ Tf w w' p (one ⟨1, 1, zs.take m⟩)) := by
    rcases Nat.eq_zero_or_pos len with h0 | h0
    · subst h0
      obtain rfl : m = 0 := by omega
      have := write_nil p 1 cap a0 false _ w2 HT2.out.tb (by omega) (by omega) (by decide)
      refine hid (this.mono ?_)
      rintro e w' ⟨rfl, rfl⟩
      exact ⟨rfl, HT2.out⟩
    · obtain ⟨b, o, rfl, hlt, _⟩ := HS.out.2 h0
      have := write_some p 1 m len cap ⟨b, o, none⟩ false _ zs w2 HT2.out.tb (by omega) (by omega) (by decide) h0 (by decide) (HS.out.below HT2.out.bel) (by rw [gm]; rfl)
      refine hid (this.mono ?_)
      rintro e w' ⟨rfl, ht, hu, _⟩
      rw [upd_one] at ht
      exact ⟨rfl, HT2.out.upd ht hu⟩
  have hml : m ≤ len := by omega
  have hm8 : m ≤ 8 := by omega
  have hmin : (if (8 : Int) < (len : Int) then (8 : Int) else (len : Int)) = (m : Int) := by split <;> omega
  have GM := hid gm
  clear gm
  go_wp2_with fail
  refine kW.out.mono ?_
  rintro e w3 ⟨rfl, ht⟩
  have HT3 := hid ht
  have k2 := hid (drop_yes p 1 false true _ w3 ht.tb (by omega) (by omega) rfl (by simp [one, Pp.ends]) (by simp [one, Pp.ends]) (fun _ => rfl))
  rw [upd_one] at k2
  clear ht kW HT2
  go_wp2_with fail
  refine k2.out.mono ?_
  rintro e w4 ⟨rfl, ht, hu, hz⟩
  have HT4 : Hid (Tf w w4 p (one ⟨1, 0, zs.take m⟩)) := hid (HT3.out.upd ht hu)
  have k3 := hid (drop_none p 1 false true _ w4 HT4.out.tb (by omega) (by omega) rfl rfl)
  clear ht hu hz k2 HT3
  go_wp2_with fail
  refine k3.out.mono ?_
  rintro e w4 ⟨rfl, rfl⟩
  clear k3
  -- the first Read
  have hzl : (zs.take m).length = m := by have := HS.out.1; simp; omega
  have kR : Hid (Calls Try.prog 13 #[.pointer (some ⟨p, 0, none⟩), .int .i64 1, .int .i64 8] w4 fun e w' => ∃ ga c, e = .returned (.tuple #[.slice ga m c, .bool false, .int .i64 0]) ∧ Src w' ga m (zs.take m) ∧ Tf w w' p (one ⟨1, 0, []⟩)) := by
    rcases Nat.eq_zero_or_pos m with h0 | h0
    · subst h0
      have := read_empty p 1 8 false _ w4 HT4.out.tb (by omega) (by omega) rfl (by omega) rfl
      refine hid (this.mono ?_)
      rintro e w' ⟨rfl, hh, hu⟩
      exact ⟨none, 0, rfl, Src.nil _ _, HT4.out.upd (HT4.out.tb.hp hh) (hu.mono (fun _ _ h => h.elim))⟩
    · have := read_some p 1 m 8 false _ w4 HT4.out.tb (by omega) (by omega) rfl (by omega) (by rw [one_at]; show 0 < (zs.take m).length; omega) (by rw [one_at]; show (m : Int) = if ((zs.take m).length : Int) < 8 then ((zs.take m).length : Int) else 8; rw [hzl]; split <;> omega)
      refine hid (this.mono ?_)
      rintro e w' ⟨g, c, rfl, ho, ht, hu⟩
      rw [upd_one, one_at] at ht
      have e1 : ((zs.take m).drop m) = [] := List.drop_of_length_le (by omega)
      have e2 : ((zs.take m).take m) = zs.take m := List.take_of_length_le (by omega)
      simp only [e1] at ht
      rw [one_at] at ho
      simp only [e2] at ho
      exact ⟨_, c, rfl, Src.own ho, HT4.out.upd ht hu⟩
  have d1 : (m : Int) ≤ cap := by omega
  have d2 : (0 : Int) ≤ m := by omega
  go_wp2_with fail
  refine kR.out.mono ?_
  rintro e w5 ⟨ga, c, rfl, hsr, ht⟩
  have HT5 := hid ht
  have hsb : Src w5 a0 m (zs.take m) := by
    have h := HS.out.below ht.bel
    refine ⟨hzl, fun hm => ?_⟩
    obtain ⟨b, o, rfl, hlt, hc⟩ := h.2 (by omega)
    exact ⟨b, o, rfl, hlt, fun j hj => by rw [hc j (by omega)]; simp [List.getD, hj]⟩
  have kE := hid (fun d => equal_yes ga a0 m c m d (zs.take m) w5 hsr hsb)
  clear ht hsr hsb kR HT4
  go_wp2_with fail
  refine (kE.out cap).mono ?_
  rintro e w5 ⟨rfl, rfl⟩
  clear kE
  obtain ⟨q, hq, hq1, hq8⟩ : ∃ q : Nat, wrap64 (1 + wrap64 ((IntKind.u64.wrap count).tmod 8)) = (q : Int) ∧ 1 ≤ q ∧ q ≤ 8 := by
    have h0 : 0 ≤ IntKind.u64.wrap count ∧ IntKind.u64.wrap count < 18446744073709551616 := by rw [IntKind.wrap_u64]; omega
    rw [Int.tmod_eq_emod_of_nonneg h0.1]
    refine ⟨(1 + IntKind.u64.wrap count % 8).toNat, ?_, by omega, by omega⟩
    unfold wrap64; omega
  have HQ := hid hq
  have k4 := hid (read_empty p 1 q false _ w5 HT5.out.tb (by omega) (by omega) rfl (by omega) rfl)
  clear hq
  go_wp2_with fail
  rw [HQ.out]
  refine k4.out.mono ?_
  rintro e w6 ⟨rfl, hh, hu⟩
  have HT6 : Hid (Tf w w6 p (one ⟨1, 0, []⟩)) := hid (HT5.out.upd (HT5.out.tb.hp hh) (hu.mono (fun _ _ h => h.elim)))
  have k5 := hid (hold_yes p 1 false true _ w6 HT6.out.tb (by omega) (by omega) rfl (by simp [one, Pp.ends]))
  rw [upd_one] at k5
  have hd : (decide (0 < (one ⟨1, 0, []⟩ 1).w)) = false := rfl
  rw [hd]
  clear hh hu k4 HT5 hd
  go_wp2_with fail
  refine k5.out.mono ?_
  rintro e w7 ⟨rfl, ht, hu, hz⟩
  have HT7 : Hid (Tf w w7 p (one ⟨1, 1, []⟩)) := hid (HT6.out.upd ht hu)
  have k6 := hid (drop_yes p 1 false false _ w7 HT7.out.tb (by omega) (by omega) rfl (by simp [one, Pp.ends]) (by simp [one, Pp.ends]) (fun h => by cases h))
  rw [upd_one] at k6
  clear ht hu hz k5 HT6
  go_wp2_with fail
  refine k6.out.mono ?_
  rintro e w8 ⟨rfl, ht, hu, hz⟩
  have HT8 : Hid (Tf w w8 p (one ⟨0, 1, []⟩)) := hid (HT7.out.upd ht hu)
  have k7 := hid (write_broken p 1 len cap a0 false _ w8 HT8.out.tb (by omega) (by omega) rfl rfl)
  clear ht hu hz k6 HT7
  go_wp2_with fail
  refine k7.out.mono ?_
  rintro e w8 ⟨rfl, rfl⟩
  have k8 := hid (drop_yes p 1 false true _ w8 HT8.out.tb (by omega) (by omega) rfl (by simp [one, Pp.ends]) (by simp [one, Pp.ends]) (fun _ => rfl))
  rw [upd_one] at k8
  clear k7
  go_wp2_with fail
  refine k8.out.mono ?_
  rintro e w9 ⟨rfl, ht, hu, hz⟩
  have HT9 : Hid (Tf w w9 p (one ⟨0, 0, []⟩)) := hid (HT8.out.upd ht hu)
  have k9 := hid (read_err (some ⟨p, 0, none⟩) 1 9 1 w9 (pipe_no p 1 false _ w9 HT9.out.tb rfl) (by omega))
  have k10 := hid (look_any p false _ w9 HT9.out.tb)
  clear ht hu hz k8 HT8
  go_wp2_with fail
  refine k9.out.mono ?_
  rintro e w9 ⟨rfl, rfl⟩
  go_wp2_with fail
  refine k10.out.mono ?_
  rintro e w10 ⟨v, rfl, ho, hb⟩
  have hv : ∃ aa cc, v = .slice aa 0 cc := by
    rcases ho.2 with ⟨h, _⟩ | ⟨g, cp, cur, h, _⟩
    · exact ⟨_, _, h⟩
    · exact ⟨_, _, h⟩
  obtain ⟨aa, cc, rfl⟩ := hv
  have HBE := hid ((HT9.out.below hb).bel)
  clear ho hb k9 k10 HT9
  go_wp2_with fail
  go_ret
  exact ⟨rfl, HBE.out⟩

end Go.Proofs.Ytemdckmnedlfcaa
