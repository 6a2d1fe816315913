/- Texts of this seat, merged. -/
import Derived.Test.YtoknhcjneliboaaGreatFMg25
import Derived.Test.YtoknhcjneliboaaGreatFMg20
import Derived.Test.YtoknhcjneliboaaGreatFMg23
import Derived.BigQuiet
import Derived.Test.YtoknhcjneliboaaGreatFMg21

/- What Write does to any system, its errors too. -/
namespace Go.Proofs.YtoknhcjneliboaaGreat
open Go.RowKit Go.ChangeMaps Go.MapKept
set_option linter.unusedVariables false
set_option maxRecDepth 20000

set_option maxHeartbeats 2000000 in
theorem write_err (p : Nat) (S : Sg) (F : Fs) (w : World) (H : Sy w p S) (R : Rel S F) (n off : Int) (a : Option Addr) (len c : Nat) (E : Int) (hE : ¬ E = 0) (he : F.file n = E) :
    Calls Tryz.prog 220 #[.pointer (some ⟨p, 0, none⟩), .int .i64 n, .int .i64 off, .slice a len c] w fun e w' => e = .returned (.tuple #[.int .i64 0, .int .i64 E]) ∧ w' = w := by
  have k0 := hid (file_no p S F w H R n (by rw [he]; exact hE))
  rw [he] at k0
  clear H R he
  go_enter Tryz.func220, Tryz.ntmps220
  go_wp2_with fail
  refine k0.out.mono ?_
  rintro e w1 ⟨rfl, rfl⟩
  clear k0
  go_wp2_with fail
  go_ret2
  exact ⟨rfl, rfl⟩

set_option maxHeartbeats 4000000 in
theorem write_no (p : Nat) (S : Sg) (w : World) (H : Sy w p S) (hT0 : S.T 0 = false) (i : Nat) (h1 : 1 ≤ i) (hi : i < 17) (hk : (S.P i).k = 1) (off : Int) (a : Option Addr) (len c : Nat) (E : Int)
    (he : (off < 0 ∧ E = 22) ∨ (0 ≤ off ∧ len = 0 ∧ E = 0) ∨ (0 ≤ off ∧ 0 < len ∧ 96 < off + (len : Int) ∧ E = 27) ∨ (0 ≤ off ∧ 0 < len ∧ off + (len : Int) ≤ 96 ∧ ¬ need (max (S.P i).s (off.toNat + len)) - need (S.P i).s ≤ (frL S.T).length ∧ E = 28)) :
    Calls Tryz.prog 220 #[.pointer (some ⟨p, 0, none⟩), .int .i64 (i : Int), .int .i64 off, .slice a len c] w fun e w' => e = .returned (.tuple #[.int .i64 0, .int .i64 E]) ∧ Below w.heap.size w w' := by
  have k1 := hid (file_yes p S w H i h1 hi hk)
  rcases he with ⟨ho, rfl⟩ | ⟨ho, rfl, rfl⟩ | ⟨ho, hl, h96, rfl⟩ | ⟨ho, hl, h96, hf, rfl⟩
  · clear H
    go_enter Tryz.func220, Tryz.ntmps220
    go_wp2_with fail
    refine k1.out.mono ?_
    rintro e w1 ⟨rfl, rfl⟩
    clear k1
    go_wp2_with fail
    go_ret2
    exact ⟨rfl, Below.refl _ _⟩
  · have a1 : ¬ off < 0 := by omega
    clear H
    go_enter Tryz.func220, Tryz.ntmps220
    go_wp2_with fail
    refine k1.out.mono ?_
    rintro e w1 ⟨rfl, rfl⟩
    clear k1
    go_wp2_with fail
    go_ret2
    exact ⟨rfl, Below.refl _ _⟩
  · have a1 : ¬ off < 0 := by omega
    have a2 : ¬ (len : Int) = 0 := by omega
    clear H
    by_cases h2 : 96 < off
    · go_enter Tryz.func220, Tryz.ntmps220
      go_wp2_with fail
      refine k1.out.mono ?_
      rintro e w1 ⟨rfl, rfl⟩
      clear k1
      go_wp2_with fail
      go_ret2
      exact ⟨rfl, Below.refl _ _⟩
    · have a4 : (96 : Int) - off < (len : Int) := by omega
      have a6 : IntKind.i64.wrap ((96 : Int) - off) = (96 : Int) - off := by rw [IntKind.wrap_i64]; omega
      have a7 : off ≤ 96 := by omega
      go_enter Tryz.func220, Tryz.ntmps220
      go_wp2_with fail
      refine k1.out.mono ?_
      rintro e w1 ⟨rfl, rfl⟩
      clear k1
      go_wp2_with fail
      go_ret2
      exact ⟨rfl, Below.refl _ _⟩
  · obtain ⟨o, rfl⟩ : ∃ o : Nat, off = (o : Int) := ⟨off.toNat, by omega⟩
    have a1 : ¬ (o : Int) < 0 := by omega
    have a2 : ¬ (len : Int) = 0 := by omega
    have a3 : ¬ (96 : Int) < (o : Int) := by omega
    have a4 : ¬ (96 : Int) - (o : Int) < (len : Int) := by omega
    have a5 : IntKind.i64.wrap ((o : Int) + (len : Int)) = (o : Int) + (len : Int) := by rw [IntKind.wrap_i64]; omega
    have a6 : IntKind.i64.wrap ((96 : Int) - (o : Int)) = (96 : Int) - (o : Int) := by rw [IntKind.wrap_i64]; omega
    have a7 : (o : Int) ≤ 96 := by omega
    have a8 : (0 : Int) ≤ (o : Int) := by omega
    have k2 : Hid (Calls Tryz.prog 118 #[.pointer (some ⟨p, 0, none⟩), .pointer (some ⟨p, 1 + i * 107, none⟩), .int .i64 ((o : Int) + (len : Int))] w fun e w' => e = .returned (.int .i64 28) ∧ Below w.heap.size w w') := by
      have := grow_all p S w H hT0 i hi (o + len) (by omega)
      rw [show ((o + len : Nat) : Int) = (o : Int) + (len : Int) by omega] at this
      refine hid (this.mono ?_)
      rintro e w' (⟨_, rfl, h⟩ | ⟨h, _⟩)
      · exact ⟨rfl, h⟩
      · exact absurd h (by simpa using hf)
    clear H hf
    go_enter Tryz.func220, Tryz.ntmps220
    go_wp2_with fail
    refine k1.out.mono ?_
    rintro e w1 ⟨rfl, rfl⟩
    clear k1
    go_wp2_with fail
    refine k2.out.mono ?_
    rintro e w2 ⟨rfl, hb⟩
    have HB := hid hb
    clear k2 hb
    go_wp2_with fail
    go_ret2
    exact ⟨rfl, HB.out⟩

theorem fits_rel {S : Sg} {F : Fs} (R : Rel S F) (H : FOk F) (i : Nat) (hi : i < 17) (s : Nat) : F.fits i s = decide (need s - need (S.P i).s ≤ (frL S.T).length) := by
  unfold Fs.fits
  rw [H.B i, frees_frL, ← R.T, (R.P i hi).s]
  rfl

theorem foot_bl {S : Sg} {p i : Nat} {x : Nd} {T : Nat → Bool} (hm : x.m = (S.P i).m) (b : Nat) (h : (S.bl i x T).foot p b) : S.foot p b := by
  rcases h with h | ⟨j, hj, h⟩
  · exact .inl h
  · refine .inr ⟨j, hj, ?_⟩
    rw [← h]
    show _ = (updN S.P i x j).m
    by_cases e : j = i
    · subst e; rw [updN_same, hm]
    · rw [updN_ne _ _ _ _ e]

theorem pwrite (p : Nat) (F : Fs) (G : Nat → Prop) (w : World) (H : Pf w p F G) (hF : FOk F) (n off : Int) (a : Option Addr) (len c : Nat) (zs : List Int) (hsrc : Src w a len zs) (ha : ∀ b o, a = some ⟨b, o, none⟩ → ¬ G b) :
    Calls Tryz.prog 220 #[.pointer (some ⟨p, 0, none⟩), .int .i64 n, .int .i64 off, .slice a len c] w fun e w' => e = .returned (.tuple #[.int .i64 (F.write n off zs).2.1, .int .i64 (F.write n off zs).2.2]) ∧ PfTo w p (F.write n off zs).1 G w' := by
  have HP := H
  obtain ⟨S, HS, R, hG⟩ := H
  have hzl := hsrc.1
  by_cases hf : F.file n ≠ 0
  · have e : F.write n off zs = (F, 0, F.file n) := by unfold Fs.write; rw [if_pos hf]
    rw [e]
    refine (write_err p S F w HS R n off a len c _ hf rfl).mono ?_
    rintro e w' ⟨rfl, rfl⟩
    exact ⟨rfl, PfTo.same HP (Below.refl _ _)⟩
  have hf0 := Decidable.not_not.1 hf
  obtain ⟨fk, f1, f2⟩ := Fs.file_ok hF hf0
  obtain ⟨i, rfl⟩ : ∃ i : Nat, n = (i : Int) := ⟨n.toNat, by omega⟩
  have hi : i < 17 := by omega
  have fk : (F.P i).k = 1 := fk
  have r := R.P i hi
  have hk : (S.P i).k = 1 := r.k.trans fk
  have hT0 : S.T 0 = false := by rw [R.T]; exact hF.T0
  have hno := fun E h => write_no p S w HS hT0 i (by omega) hi hk off a len c E h
  by_cases ho : off < 0
  · have e : F.write (i : Int) off zs = (F, 0, 22) := by unfold Fs.write; rw [if_neg hf, if_pos ho]
    rw [e]
    refine (hno 22 (.inl ⟨ho, rfl⟩)).mono ?_
    rintro e w' ⟨rfl, h⟩
    exact ⟨rfl, PfTo.same HP h⟩
  by_cases hl : zs = []
  · have e : F.write (i : Int) off zs = (F, 0, 0) := by unfold Fs.write; rw [if_neg hf, if_neg ho, if_pos hl]
    rw [e]
    refine (hno 0 (.inr (.inl ⟨by omega, by rw [← hzl, hl]; rfl, rfl⟩))).mono ?_
    rintro e w' ⟨rfl, h⟩
    exact ⟨rfl, PfTo.same HP h⟩
  have hl0 : 0 < len := by
    rcases Nat.eq_zero_or_pos len with q | q
    · exact absurd (List.eq_nil_of_length_eq_zero (by omega)) hl
    · exact q
  by_cases h96 : 96 < off + (zs.length : Int)
  · have e : F.write (i : Int) off zs = (F, 0, 27) := by unfold Fs.write; rw [if_neg hf, if_neg ho, if_neg hl, if_pos h96]
    rw [e]
    refine (hno 27 (.inr (.inr (.inl ⟨by omega, hl0, by omega, rfl⟩)))).mono ?_
    rintro e w' ⟨rfl, h⟩
    exact ⟨rfl, PfTo.same HP h⟩
  have hfr := fits_rel R hF i hi (max (F.P i).c.length (off.toNat + zs.length))
  by_cases hfit : F.fits i (max (F.P i).c.length (off.toNat + zs.length)) = false
  · have e : F.write (i : Int) off zs = (F, 0, 28) := by
      unfold Fs.write; rw [if_neg hf, if_neg ho, if_neg hl, if_neg h96]; exact if_pos hfit
    rw [e]
    refine (hno 28 (.inr (.inr (.inr ⟨by omega, hl0, by omega, ?_, rfl⟩)))).mono ?_
    · rw [hfit] at hfr
      have := of_decide_eq_false hfr.symm
      rw [r.s, ← hzl]
      rw [r.s] at this
      exact this
    · rintro e w' ⟨rfl, h⟩
      exact ⟨rfl, PfTo.same HP h⟩
  · obtain ⟨o, rfl⟩ : ∃ o : Nat, off = (o : Int) := ⟨off.toNat, by omega⟩
    have e : F.write (i : Int) (o : Int) zs = ((F.grow i (max (F.P i).c.length (o + zs.length))).ct i (Fs.lay (F.P i).c o zs), (zs.length : Int), 0) := by
      unfold Fs.write; rw [if_neg hf, if_neg ho, if_neg hl, if_neg h96]; exact if_neg hfit
    rw [e]
    have hfit' : F.fits i (max (F.P i).c.length (o + zs.length)) = true := by simpa using hfit
    have hfr' := hfr
    rw [show (o : Int).toNat = o from rfl, hfit'] at hfr'
    have hle := of_decide_eq_true hfr'.symm
    have hc := hF.c i
    refine (write_gen p S w HS hT0 i (by omega) hi hk (by rw [r.s]; exact hc.1) o len c a zs hsrc (fun b q hq e => ha b q hq (by rw [e]; exact hG p (.inl rfl))) hl0 (by omega) (by rw [r.s, ← hzl]; rw [r.s] at hle; exact hle)).mono ?_
    rintro e w' ⟨rfl, B', q1, q2, q3, u⟩
    refine ⟨by rw [hzl], ?_⟩
    obtain ⟨y1, y2⟩ := lay_row (b := (S.P i).b) (c := (F.P i).c) (zs := zs) (off := o) (HS.ok i hi).b (by rw [← r.s]; exact r.b) (by rw [← r.s]; exact r.z) (by omega) hc.1
    have hM : max (S.P i).s (o + len) = max (F.P i).c.length (o + zs.length) := by rw [r.s, hzl]
    rw [hM] at q1 q2
    exact Into.to ⟨_, q1, R.grown hF i hi _ (by omega) B' _ _ y1 y2 (lay_len _ _ _) hfit' q2 q3, fun x hx => foot_bl (S := S) (x := { S.P i with B := B', s := max (F.P i).c.length (o + zs.length), b := splice (S.P i).b o zs }) rfl x hx, upd_p u⟩ hG

end Go.Proofs.YtoknhcjneliboaaGreat

/- What cut and Resize do to any system. -/
namespace Go.Proofs.YtoknhcjneliboaaGreat
open Go.RowKit Go.ChangeMaps Go.MapKept
set_option linter.unusedVariables false
set_option maxRecDepth 20000

set_option maxHeartbeats 4000000 in
theorem cut_gen (p : Nat) (S : Sg) (w : World) (H : Sy w p S) (i : Nat) (hi : i < 17) (hs : (S.P i).s ≤ 96) (size : Nat) (hz : size < (S.P i).s) (bs : List Nat) (hbl : bs.length = need (S.P i).s - need size)
    (hbb : ∀ j, j < need (S.P i).s - need size → (S.P i).B.getD (need size + j) 0 = ((bs.getD j 0 : Nat) : Int)) (hbt : ∀ b ∈ bs, b < 25) :
    Calls Tryz.prog 117 #[.pointer (some ⟨p, 0, none⟩), .pointer (some ⟨p, 1 + i * 107, none⟩), .int .i64 (size : Int)] w fun e w' => e = .returned (.tuple #[]) ∧ Sy w' p (S.bl i { S.P i with s := size, b := splice (S.P i).b size (List.replicate (96 - size) 0) } (relT S.d bs S.T)) ∧ Upd (· = p) w w' := by
  obtain ⟨x, gx⟩ : ∃ x, x = S.P i := ⟨_, rfl⟩
  obtain ⟨TR, gT⟩ : ∃ TR, TR = relT S.d bs S.T := ⟨_, rfl⟩
  have hrel := fun W (hW : Sy W p S) => release_gen p S W hW i hi (need size)
  rw [← gT, ← gx]
  have etk : S.tk TR = S.bl i x TR := by
    have := (S.tk TR).bl_self i
    rw [gx]
    exact this.symm
  rw [← gx] at hs hz hbl hbb
  have c3 := H.s i hi
  rw [← gx] at c3
  obtain ⟨q0, g0⟩ : ∃ q0, q0 = need size := ⟨_, rfl⟩
  obtain ⟨q1, g1⟩ : ∃ q1, q1 = need x.s := ⟨_, rfl⟩
  have h01 : q0 ≤ q1 := by rw [g0, g1]; exact need_mono (by omega)
  have h16 : q1 ≤ 6 := by rw [g1]; exact need_le hs
  rw [← g1] at hbl hbb
  rw [← g0] at hbl hbb hrel
  obtain ⟨s0, gs⟩ : ∃ s0, s0 = x.s := ⟨_, rfl⟩
  rw [← gs] at c3 hs hz
  have K0 : Hid (∀ W, Calls Tryz.prog 140 #[.int .i64 (size : Int)] W fun e w' => e = .returned (.int .i64 (q0 : Int)) ∧ w' = W) := by
    refine hid (fun W => ?_)
    have := needed_any size (by omega) W
    rw [show (size + 15) / 16 = q0 by rw [g0]; rfl] at this
    exact this
  have K1 : Hid (∀ W, Calls Tryz.prog 140 #[.int .i64 (s0 : Int)] W fun e w' => e = .returned (.int .i64 (q1 : Int)) ∧ w' = W) := by
    refine hid (fun W => ?_)
    have := needed_any s0 (by omega) W
    rw [show (s0 + 15) / 16 = q1 by rw [g1, gs]; rfl] at this
    exact this
  have K2 : Hid (Calls Tryz.prog 139 #[.pointer (some ⟨p, 0, none⟩), .slice (some (if 6 = q0 then ⟨p, 1 + i * 107 + 100, none⟩ else ⟨p, 1 + i * 107 + 100 + q0, none⟩)) (q1 - q0) (6 - q0)] w.drew fun e w' => e = .returned (.tuple #[]) ∧ Hid (Sy w' p (S.bl i x TR) ∧ Upd (· = p) w w')) := by
    obtain ⟨o, go⟩ : ∃ o, o = if 6 = q0 then 1 + i * 107 + 100 else 1 + i * 107 + 100 + q0 := ⟨_, rfl⟩
    have hA : (if 6 = q0 then (⟨p, 1 + i * 107 + 100, none⟩ : Addr) else ⟨p, 1 + i * 107 + 100 + q0, none⟩) = ⟨p, o, none⟩ := by
      rw [go]; split <;> rfl
    have ho : 0 < q1 - q0 → o = 1 + i * 107 + (100 + q0) := fun h => by
      rw [go, if_neg (by omega)]; omega
    rw [hA]
    have k := hrel w.drew (H.hp rfl) (q1 - q0) (6 - q0) o ho (by omega) (by omega) (by omega) bs hbl (by rw [← gx]; exact hbb) hbt
    rw [← gT, etk] at k
    refine hid (k.mono ?_)
    rintro e w' ⟨rfl, h1, u⟩
    exact ⟨rfl, hid ⟨h1, ((Upd.refl (· = p) w).drewN 1).trans u (fun _ _ h => h)⟩⟩
  have a2 : (0 : Int) ≤ (q0 : Int) := by omega
  have a3 : (q0 : Int) ≤ (q1 : Int) := by omega
  have a4 : (q1 : Int) ≤ 6 := by omega
  have a5 : (0 : Int) ≤ (size : Int) := by omega
  have a6 : (size : Int) ≤ 96 := by omega
  have GS := hid gs
  have HS0 := hid (And.intro hs hz)
  clear H g0 g1 gs hs hz hrel hbl hbb hbt etk gT
  have KC : Hid (∀ W, Sy W p (S.bl i x TR) → W.cell? ⟨p, 1 + i * 107 + 3, none⟩ = some (.int .i64 (s0 : Int))) := by
    refine hid (fun W h => ?_)
    have := h.s i hi
    rw [show (S.bl i x TR).P i = x from updN_same _ _ _] at this
    rw [GS.out]
    exact this
  by_cases e6 : 6 = q0
  · rw [if_pos e6] at K2
    subst e6
    obtain rfl : q1 = 6 := by omega
    have K0 : Hid (∀ W, Calls Tryz.prog 140 #[.int .i64 (size : Int)] W fun e w' => e = .returned (.int .i64 6) ∧ w' = W) := K0
    have K1 : Hid (∀ W, Calls Tryz.prog 140 #[.int .i64 (s0 : Int)] W fun e w' => e = .returned (.int .i64 6) ∧ w' = W) := K1
    rw [Nat.sub_self] at K2
    go_enter Tryz.func117, Tryz.ntmps117
    go_wp2_with fail
    go_region_held3 (fun W => W.cell? ⟨p, 1 + i * 107 + 3, none⟩ = some (.int .i64 (s0 : Int))) (go_keep) (first | (go_at_call 140; first | (refine (K0.out _).mono ?_; rintro e w' ⟨rfl, rfl⟩) | (refine (K1.out _).mono ?_; rintro e w' ⟨rfl, rfl⟩)) | (go_at_call 139; refine K2.out.mono ?_; rintro e w2 ⟨rfl, H2⟩; have c4 := KC.out w2 H2.out.1))
    obtain ⟨h1, u2⟩ := H2.out
    obtain ⟨C, hC, hSl⟩ := h1.blk
    have hP2 : (S.bl i x TR).P i = x := updN_same _ _ _
    have hcl : ∀ j, j < 96 - size → (w2.cell? ⟨p, 1 + i * 107 + 4 + size + j, none⟩).isSome = true := fun j hj => by
      have := h1.b i hi (size + j) (by omega)
      rw [show 1 + i * 107 + (4 + (size + j)) = 1 + i * 107 + 4 + size + j by omega] at this
      rw [this]
      rfl
    have hclr := fun ty => Lib.run_clear_slice (P := Tryz.prog) w2 30 5 ty (.int .u8 0) Tryz.underlying30 Tryz.zeroValue5 rfl rfl p (1 + i * 107 + 4 + size) (96 - size) (96 - size) (by have := HS0.out; omega) hcl (fun j _ => h1.fz _)
    obtain ⟨W3, g3⟩ : ∃ W3, W3 = w2.setCells p (1 + i * 107 + 4 + size) (List.replicate (96 - size) (.int .u8 0)) := ⟨_, rfl⟩
    rw [← g3] at hclr
    have u3 : Upd (· = p) w2 W3 := by rw [g3]; exact upd_setCells _ _ _ _
    have hS3 : Sy W3 p _ := h1.over i hi C hC hSl size (List.replicate (96 - size) 0) (by have := HS0.out; simp; omega) (by
      rw [g3, show 1 + i * 107 + (4 + size) = 1 + i * 107 + 4 + size by omega, List.map_replicate]
      exact heap_setCells p 103 _ _ w2 C hC (by rw [hSl.len]; have := HS0.out; simp; omega)) u3
    have e3 : (S.bl i x TR).at_ i (((S.bl i x TR).P i).over size (List.replicate (96 - size) 0)) = S.bl i { x with b := splice x.b size (List.replicate (96 - size) 0) } TR := by
      rw [hP2]
      unfold Sg.bl Sg.at_ Nd.over
      congr 1
      funext j
      by_cases e : j = i <;> simp [updN, e]
    rw [e3] at hS3
    have hS4 := hS3.sizeTo i hi size
    have e4 : (S.bl i { x with b := splice x.b size (List.replicate (96 - size) 0) } TR).at_ i (Nd.size ((S.bl i { x with b := splice x.b size (List.replicate (96 - size) 0) } TR).P i) size) = S.bl i { x with s := size, b := splice x.b size (List.replicate (96 - size) 0) } TR := by
      rw [show (S.bl i { x with b := splice x.b size (List.replicate (96 - size) 0) } TR).P i = { x with b := splice x.b size (List.replicate (96 - size) 0) } from updN_same _ _ _]
      unfold Sg.bl Sg.at_ Nd.size
      congr 1
      funext j
      by_cases e : j = i <;> simp [updN, e]
    rw [e4] at hS4
    have c5 := hS3.s i hi
    have f5 := hS3.fz (1 + i * 107 + 3)
    have HQ : Hid (Sy (W3.setCell ⟨p, 1 + i * 107 + 3, none⟩ (.int .i64 (size : Int))) p (S.bl i { x with s := size, b := splice x.b size (List.replicate (96 - size) 0) } TR) ∧ Upd (· = p) w (W3.setCell ⟨p, 1 + i * 107 + 3, none⟩ (.int .i64 (size : Int)))) :=
      hid ⟨hS4, (u2.trans u3 (fun _ _ h => h)).trans (Upd.setCell (F := (· = p)) W3 ⟨p, _, none⟩ _ rfl) (fun _ _ h => h)⟩
    have n96 : ¬ 96 = size := by have := HS0.out; omega
    have n0 : ¬ 96 - size = 0 := by have := HS0.out; omega
    clear h1 u2 hC hSl hP2 hcl u3 hS3 e3 hS4 e4 g3 H2 c4
    go_wp2_with fail
    go_end0
    exact ⟨rfl, HQ.out.1, HQ.out.2⟩
  · rw [if_neg e6] at K2
    go_enter Tryz.func117, Tryz.ntmps117
    go_wp2_with fail
    go_region_held3 (fun W => W.cell? ⟨p, 1 + i * 107 + 3, none⟩ = some (.int .i64 (s0 : Int))) (go_keep) (first | (go_at_call 140; first | (refine (K0.out _).mono ?_; rintro e w' ⟨rfl, rfl⟩) | (refine (K1.out _).mono ?_; rintro e w' ⟨rfl, rfl⟩)) | (go_at_call 139; refine K2.out.mono ?_; rintro e w2 ⟨rfl, H2⟩; have c4 := KC.out w2 H2.out.1))
    obtain ⟨h1, u2⟩ := H2.out
    obtain ⟨C, hC, hSl⟩ := h1.blk
    have hP2 : (S.bl i x TR).P i = x := updN_same _ _ _
    have hcl : ∀ j, j < 96 - size → (w2.cell? ⟨p, 1 + i * 107 + 4 + size + j, none⟩).isSome = true := fun j hj => by
      have := h1.b i hi (size + j) (by omega)
      rw [show 1 + i * 107 + (4 + (size + j)) = 1 + i * 107 + 4 + size + j by omega] at this
      rw [this]
      rfl
    have hclr := fun ty => Lib.run_clear_slice (P := Tryz.prog) w2 30 5 ty (.int .u8 0) Tryz.underlying30 Tryz.zeroValue5 rfl rfl p (1 + i * 107 + 4 + size) (96 - size) (96 - size) (by have := HS0.out; omega) hcl (fun j _ => h1.fz _)
    obtain ⟨W3, g3⟩ : ∃ W3, W3 = w2.setCells p (1 + i * 107 + 4 + size) (List.replicate (96 - size) (.int .u8 0)) := ⟨_, rfl⟩
    rw [← g3] at hclr
    have u3 : Upd (· = p) w2 W3 := by rw [g3]; exact upd_setCells _ _ _ _
    have hS3 : Sy W3 p _ := h1.over i hi C hC hSl size (List.replicate (96 - size) 0) (by have := HS0.out; simp; omega) (by
      rw [g3, show 1 + i * 107 + (4 + size) = 1 + i * 107 + 4 + size by omega, List.map_replicate]
      exact heap_setCells p 103 _ _ w2 C hC (by rw [hSl.len]; have := HS0.out; simp; omega)) u3
    have e3 : (S.bl i x TR).at_ i (((S.bl i x TR).P i).over size (List.replicate (96 - size) 0)) = S.bl i { x with b := splice x.b size (List.replicate (96 - size) 0) } TR := by
      rw [hP2]
      unfold Sg.bl Sg.at_ Nd.over
      congr 1
      funext j
      by_cases e : j = i <;> simp [updN, e]
    rw [e3] at hS3
    have hS4 := hS3.sizeTo i hi size
    have e4 : (S.bl i { x with b := splice x.b size (List.replicate (96 - size) 0) } TR).at_ i (Nd.size ((S.bl i { x with b := splice x.b size (List.replicate (96 - size) 0) } TR).P i) size) = S.bl i { x with s := size, b := splice x.b size (List.replicate (96 - size) 0) } TR := by
      rw [show (S.bl i { x with b := splice x.b size (List.replicate (96 - size) 0) } TR).P i = { x with b := splice x.b size (List.replicate (96 - size) 0) } from updN_same _ _ _]
      unfold Sg.bl Sg.at_ Nd.size
      congr 1
      funext j
      by_cases e : j = i <;> simp [updN, e]
    rw [e4] at hS4
    have c5 := hS3.s i hi
    have f5 := hS3.fz (1 + i * 107 + 3)
    have HQ : Hid (Sy (W3.setCell ⟨p, 1 + i * 107 + 3, none⟩ (.int .i64 (size : Int))) p (S.bl i { x with s := size, b := splice x.b size (List.replicate (96 - size) 0) } TR) ∧ Upd (· = p) w (W3.setCell ⟨p, 1 + i * 107 + 3, none⟩ (.int .i64 (size : Int)))) :=
      hid ⟨hS4, (u2.trans u3 (fun _ _ h => h)).trans (Upd.setCell (F := (· = p)) W3 ⟨p, _, none⟩ _ rfl) (fun _ _ h => h)⟩
    have n96 : ¬ 96 = size := by have := HS0.out; omega
    have n0 : ¬ 96 - size = 0 := by have := HS0.out; omega
    clear h1 u2 hC hSl hP2 hcl u3 hS3 e3 hS4 e4 g3 H2 c4
    go_wp2_with fail
    go_end0
    exact ⟨rfl, HQ.out.1, HQ.out.2⟩

end Go.Proofs.YtoknhcjneliboaaGreat

/- What Resize and Read do to any system. -/
namespace Go.Proofs.YtoknhcjneliboaaGreat
open Go.RowKit Go.ChangeMaps Go.MapKept
set_option linter.unusedVariables false
set_option maxRecDepth 20000

/-- A file that is cut. -/
theorem Rel.cut {S : Sg} {F : Fs} (R : Rel S F) (H : FOk F) (i : Nat) (hi : i < 17) (hb96 : (S.P i).b.length = 96) (z : Nat) (hz : z < (F.P i).c.length) :
    Rel (S.bl i { S.P i with s := z, b := splice (S.P i).b z (List.replicate (96 - z) 0) } (relT S.d ((F.P i).B.drop (Fs.need z)) S.T)) ((F.relB ((F.P i).B.drop (Fs.need z))).at_ i { F.P i with c := (F.P i).c.take z, B := (F.P i).B.take (Fs.need z) }) := by
  have r := R.P i hi
  have hc := (H.c i).1
  have hfit : z + (List.replicate (96 - z) (0 : Int)).length ≤ (S.P i).b.length := by simp [hb96]; omega
  have hsl : (splice (S.P i).b z (List.replicate (96 - z) 0)).length = 96 := by rw [length_splice _ _ _ hfit, hb96]
  have eP : ∀ j, ((F.relB ((F.P i).B.drop (Fs.need z))).at_ i { F.P i with c := (F.P i).c.take z, B := (F.P i).B.take (Fs.need z) }).P j = if j = i then { F.P i with c := (F.P i).c.take z, B := (F.P i).B.take (Fs.need z) } else F.P j := fun j => by rw [Fs.at_P, relB_P]
  have eQ : ∀ j, (((F.relB ((F.P i).B.drop (Fs.need z))).at_ i { F.P i with c := (F.P i).c.take z, B := (F.P i).B.take (Fs.need z) }).P j).Q = (F.P j).Q := fun j => by
    rw [eP]
    split
    · rename_i e; rw [e]
    · rfl
  refine ⟨by show S.d = (F.relB _).d; rw [relB_d]; exact R.d, ?_, fun j hj => ?_, fun j hj => by rw [eQ]; exact R.L j hj, fun j hj s => by rw [eQ]; exact R.N j hj s⟩
  · show relT S.d _ S.T = (F.relB _).T
    unfold relT Fs.relB
    rw [R.d, R.T]
    split <;> rfl
  · show NdR (updN S.P i _ j) _
    rw [eP]
    by_cases e : j = i
    · subst e
      rw [updN_same, if_pos rfl]
      refine ⟨r.k, r.l, r.h, ?_, ?_, fun k hk => ?_, fun k hk => ?_⟩
      · show z = ((F.P j).c.take z).length
        rw [List.length_take]; omega
      · show (splice (S.P j).b z (List.replicate (96 - z) 0)).take z = (F.P j).c.take z
        rw [← r.b]
        refine ext_getD (by rw [List.length_take, hsl, List.length_take, List.length_take, hb96, r.s]; omega) (fun k hk => ?_)
        have hk' : k < z := by rw [List.length_take] at hk; omega
        rw [getD_take _ _ _ hk', getD_take _ _ _ hk', getD_take _ _ _ (by rw [r.s]; omega), getD_splice_out _ _ _ _ hfit (by omega)]
      · change z ≤ k at hk
        show (splice (S.P j).b z (List.replicate (96 - z) 0)).getD k 0 = 0
        by_cases q : k < 96
        · obtain ⟨m, rfl⟩ : ∃ m, k = z + m := ⟨k - z, by omega⟩
          rw [getD_splice_in _ _ _ _ hfit (by simp; omega)]
          exact getD_zeros _ _
        · exact getD_over _ _ (by omega)
      · change k < ((F.P j).B.take (Fs.need z)).length at hk
        rw [List.length_take] at hk
        show (S.P j).B.getD k 0 = ((((F.P j).B.take (Fs.need z)).getD k 0 : Nat) : Int)
        rw [getD_take_nat _ _ _ (by omega)]
        exact r.B k (by omega)
    · rw [updN_ne _ _ _ _ e, if_neg e]
      exact R.P j hj

set_option maxHeartbeats 2000000 in
theorem resize_err (p : Nat) (S : Sg) (F : Fs) (w : World) (H : Sy w p S) (R : Rel S F) (n z : Int) (E : Int) (hE : ¬ E = 0) (he : F.file n = E) :
    Calls Tryz.prog 81 #[.pointer (some ⟨p, 0, none⟩), .int .i64 n, .int .i64 z] w fun e w' => e = .returned (.int .i64 E) ∧ w' = w := by
  have k0 := hid (file_no p S F w H R n (by rw [he]; exact hE))
  rw [he] at k0
  clear H R he
  go_enter Tryz.func81, Tryz.ntmps81
  go_wp2_with fail
  refine k0.out.mono ?_
  rintro e w1 ⟨rfl, rfl⟩
  clear k0
  go_wp2_with fail
  go_ret
  exact ⟨rfl, rfl⟩
set_option maxHeartbeats 2000000 in
theorem resize_out (p : Nat) (S : Sg) (w : World) (H : Sy w p S) (i : Nat) (h1 : 1 ≤ i) (hi : i < 17) (hk : (S.P i).k = 1) (z : Int) (hz : z < 0 ∨ 96 < z) :
    Calls Tryz.prog 81 #[.pointer (some ⟨p, 0, none⟩), .int .i64 (i : Int), .int .i64 z] w fun e w' => e = .returned (.int .i64 (if z < 0 then 22 else 27)) ∧ w' = w := by
  have k1 := hid (file_yes p S w H i h1 hi hk)
  clear H
  rcases hz with h | h
  · rw [if_pos h]
    go_enter Tryz.func81, Tryz.ntmps81
    go_wp2_with fail
    refine k1.out.mono ?_
    rintro e w1 ⟨rfl, rfl⟩
    go_wp2_with fail
    go_ret
    exact ⟨rfl, rfl⟩
  · have h0 : ¬ z < 0 := by omega
    rw [if_neg h0]
    go_enter Tryz.func81, Tryz.ntmps81
    go_wp2_with fail
    refine k1.out.mono ?_
    rintro e w1 ⟨rfl, rfl⟩
    go_wp2_with fail
    go_ret
    exact ⟨rfl, rfl⟩
set_option maxHeartbeats 2000000 in
theorem resize_in (p : Nat) (S : Sg) (w : World) (H : Sy w p S) (i : Nat) (h1 : 1 ≤ i) (hi : i < 17) (hk : (S.P i).k = 1) (z : Nat) (hz : z ≤ 96) (Q : Ending → World → Prop)
    (kc : z < (S.P i).s → Hid (Calls Tryz.prog 117 #[.pointer (some ⟨p, 0, none⟩), .pointer (some ⟨p, 1 + i * 107, none⟩), .int .i64 (z : Int)] w fun e w' => e = .returned (.tuple #[]) ∧ Hid (Q (.returned (.int .i64 0)) w')))
    (kg : ¬ z < (S.P i).s → Hid (Calls Tryz.prog 118 #[.pointer (some ⟨p, 0, none⟩), .pointer (some ⟨p, 1 + i * 107, none⟩), .int .i64 (z : Int)] w fun e w' => ∃ er : Int, e = .returned (.int .i64 er) ∧ Hid (Q (.returned (.int .i64 er)) w'))) :
    Calls Tryz.prog 81 #[.pointer (some ⟨p, 0, none⟩), .int .i64 (i : Int), .int .i64 (z : Int)] w Q := by
  have k1 := hid (file_yes p S w H i h1 hi hk)
  have c3 := H.s i hi
  have h0 : ¬ (z : Int) < 0 := by omega
  have h2 : ¬ (96 : Int) < (z : Int) := by omega
  obtain ⟨s, gs⟩ : ∃ s, s = (S.P i).s := ⟨_, rfl⟩
  rw [← gs] at c3 kc kg
  clear H gs hk
  by_cases h : z < s
  · have h3 : (z : Int) < (s : Int) := by omega
    have k2 := kc h
    clear kc kg
    go_enter Tryz.func81, Tryz.ntmps81
    go_wp2_with fail
    refine k1.out.mono ?_
    rintro e w1 ⟨rfl, rfl⟩
    clear k1
    go_wp2_with fail
    refine k2.out.mono ?_
    rintro e w2 ⟨rfl, HQ⟩
    clear k2
    go_wp2_with fail
    exact HQ.out
  · have h3 : ¬ (z : Int) < (s : Int) := by omega
    have k2 := kg h
    clear kc kg
    go_enter Tryz.func81, Tryz.ntmps81
    go_wp2_with fail
    refine k1.out.mono ?_
    rintro e w1 ⟨rfl, rfl⟩
    clear k1
    go_wp2_with fail
    refine k2.out.mono ?_
    rintro e w2 ⟨er, rfl, HQ⟩
    clear k2
    go_wp2_with fail
    exact HQ.out

theorem presize (p : Nat) (F : Fs) (G : Nat → Prop) (w : World) (H : Pf w p F G) (hF : FOk F) (n z : Int) :
    Calls Tryz.prog 81 #[.pointer (some ⟨p, 0, none⟩), .int .i64 n, .int .i64 z] w fun e w' => e = .returned (.int .i64 (F.resize n z).2) ∧ PfTo w p (F.resize n z).1 G w' := by
  have HP := H
  obtain ⟨S, HS, R, hG⟩ := H
  by_cases hf : F.file n ≠ 0
  · have e : F.resize n z = (F, F.file n) := by unfold Fs.resize; rw [if_pos hf]
    rw [e]
    refine (resize_err p S F w HS R n z _ hf rfl).mono ?_
    rintro e w' ⟨rfl, rfl⟩
    exact ⟨rfl, PfTo.same HP (Below.refl _ _)⟩
  have hf0 := Decidable.not_not.1 hf
  obtain ⟨fk, f1, f2⟩ := Fs.file_ok hF hf0
  obtain ⟨i, rfl⟩ : ∃ i : Nat, n = (i : Int) := ⟨n.toNat, by omega⟩
  have hi : i < 17 := by omega
  have fk : (F.P i).k = 1 := fk
  have r := R.P i hi
  have hk : (S.P i).k = 1 := r.k.trans fk
  have hT0 : S.T 0 = false := by rw [R.T]; exact hF.T0
  by_cases h0 : z < 0
  · have e : F.resize (i : Int) z = (F, 22) := by unfold Fs.resize; rw [if_neg hf, if_pos h0]
    rw [e]
    refine (resize_out p S w HS i (by omega) hi hk z (.inl h0)).mono ?_
    rintro e w' ⟨rfl, rfl⟩
    rw [if_pos h0]
    exact ⟨rfl, PfTo.same HP (Below.refl _ _)⟩
  by_cases h96 : 96 < z
  · have e : F.resize (i : Int) z = (F, 27) := by unfold Fs.resize; rw [if_neg hf, if_neg h0, if_pos h96]
    rw [e]
    refine (resize_out p S w HS i (by omega) hi hk z (.inr h96)).mono ?_
    rintro e w' ⟨rfl, rfl⟩
    rw [if_neg h0]
    exact ⟨rfl, PfTo.same HP (Below.refl _ _)⟩
  obtain ⟨m, rfl⟩ : ∃ m : Nat, z = (m : Int) := ⟨z.toNat, by omega⟩
  have hm : m ≤ 96 := by omega
  have hc := hF.c i
  have hB := hF.B i
  refine resize_in p S w HS i (by omega) hi hk m hm _ (fun hlt => ?_) (fun hge => ?_)
  · have hlt' : m < (F.P i).c.length := by rw [r.s] at hlt; exact hlt
    have e : F.resize (i : Int) (m : Int) = ((F.relB ((F.P i).B.drop (Fs.need m))).at_ i { F.P i with c := (F.P i).c.take m, B := (F.P i).B.take (Fs.need m) }, 0) := by
      unfold Fs.resize; rw [if_neg hf, if_neg h0, if_neg h96]; exact if_pos hlt'
    rw [e]
    have hn : (F.P i).B.length = need (S.P i).s := by rw [hB, r.s]; rfl
    refine hid ((cut_gen p S w HS i hi (by rw [r.s]; exact hc.1) m hlt ((F.P i).B.drop (Fs.need m)) (by rw [List.length_drop, hn]; rfl) (fun j hj => ?_) (fun b hb => (hF.T i b (List.mem_of_mem_drop hb)).2.1)).mono ?_)
    · have : ((F.P i).B.drop (Fs.need m)).getD j 0 = (F.P i).B.getD (need m + j) 0 := by
        rw [List.getD_eq_getElem?_getD, List.getElem?_drop, List.getD_eq_getElem?_getD]; rfl
      rw [this]
      exact r.B _ (by omega)
    · rintro e w' ⟨rfl, h, u⟩
      exact ⟨rfl, hid ⟨rfl, Into.to ⟨_, h, R.cut hF i hi (HS.ok i hi).b m hlt', fun x hx => foot_bl (S := S) (x := { S.P i with s := m, b := splice (S.P i).b m (List.replicate (96 - m) 0) }) rfl x hx, upd_p u⟩ hG⟩⟩
  · have hge' : ¬ m < (F.P i).c.length := by rw [r.s] at hge; exact hge
    have hfr := fits_rel R hF i hi m
    have hmax : max (S.P i).s m = m := Nat.max_eq_right (by omega)
    refine hid ((grow_all p S w HS hT0 i hi m hm).mono ?_)
    rintro e w' (⟨h, rfl, hb⟩ | ⟨h, rfl, B', q1, q2, q3, u⟩)
    · rw [hmax] at h
      have hfit : F.fits i m = false := by rw [hfr]; exact decide_eq_false h
      have e : F.resize (i : Int) (m : Int) = (F, 28) := by
        unfold Fs.resize; rw [if_neg hf, if_neg h0, if_neg h96]
        exact (if_neg hge').trans (if_pos hfit)
      exact ⟨28, rfl, hid (by rw [e]; exact ⟨rfl, PfTo.same HP hb⟩)⟩
    · rw [hmax] at h q1 q2
      have hfit : F.fits i m = true := by rw [hfr]; exact decide_eq_true h
      have e : F.resize (i : Int) (m : Int) = ((F.grow i m).ct i ((F.P i).c ++ List.replicate (m - (F.P i).c.length) 0), 0) := by
        unfold Fs.resize; rw [if_neg hf, if_neg h0, if_neg h96]
        exact (if_neg hge').trans (if_neg (by rw [show (m : Int).toNat = m from rfl, show (i : Int).toNat = i from rfl, hfit]; simp))
      refine ⟨0, rfl, hid ?_⟩
      rw [e]
      refine ⟨rfl, Into.to ⟨_, q1, ?_, fun x hx => foot_bl (S := S) (x := { S.P i with B := B', s := m }) rfl x hx, upd_p u⟩ hG⟩
      have hb96 := (HS.ok i hi).b
      have := R.grown hF i hi m (by omega) B' (S.P i).b ((F.P i).c ++ List.replicate (m - (F.P i).c.length) 0) ?_ (fun j hj => r.z j (by omega)) (by simp; omega) hfit q2 q3
      · exact this
      · rw [r.s] at hge
        refine ext_getD (by simp [hb96]; omega) (fun j hj => ?_)
        rw [List.length_take] at hj
        rw [getD_take _ _ _ (by omega), getD_app]
        by_cases h3 : j < (F.P i).c.length
        · rw [if_pos h3]
          exact take_getD r.b (by rw [hb96, r.s]; omega) j (by rw [r.s]; exact h3)
        · rw [if_neg h3]; exact r.z j (by rw [r.s]; omega)

end Go.Proofs.YtoknhcjneliboaaGreat

/- What Read does to any system. -/
namespace Go.Proofs.YtoknhcjneliboaaGreat
open Go.RowKit Go.ChangeMaps Go.MapKept
set_option linter.unusedVariables false
set_option maxRecDepth 20000

set_option maxHeartbeats 2000000 in
theorem read_err (p : Nat) (S : Sg) (F : Fs) (w : World) (H : Sy w p S) (R : Rel S F) (n off cnt : Int) (E : Int) (hE : ¬ E = 0) (he : F.file n = E) :
    Calls Tryz.prog 219 #[.pointer (some ⟨p, 0, none⟩), .int .i64 n, .int .i64 off, .int .i64 cnt] w fun e w' => e = .returned (.tuple #[.slice none 0 0, .int .i64 E]) ∧ w' = w := by
  have k0 := hid (file_no p S F w H R n (by rw [he]; exact hE))
  rw [he] at k0
  clear H R he
  go_enter Tryz.func219, Tryz.ntmps219
  go_wp2_with fail
  refine k0.out.mono ?_
  rintro e w1 ⟨rfl, rfl⟩
  clear k0
  go_wp2_with fail
  go_ret2
  exact ⟨rfl, rfl⟩
set_option maxHeartbeats 2000000 in
theorem read_neg (p : Nat) (S : Sg) (w : World) (H : Sy w p S) (i : Nat) (h1 : 1 ≤ i) (hi : i < 17) (hk : (S.P i).k = 1) (off cnt : Int) (hz : off < 0 ∨ cnt < 0) :
    Calls Tryz.prog 219 #[.pointer (some ⟨p, 0, none⟩), .int .i64 (i : Int), .int .i64 off, .int .i64 cnt] w fun e w' => e = .returned (.tuple #[.slice none 0 0, .int .i64 22]) ∧ w' = w := by
  have k1 := hid (file_yes p S w H i h1 hi hk)
  clear H
  by_cases h : off < 0
  · go_enter Tryz.func219, Tryz.ntmps219
    go_wp2_with fail
    refine k1.out.mono ?_
    rintro e w1 ⟨rfl, rfl⟩
    clear k1
    go_wp2_with fail
    go_ret2
    exact ⟨rfl, rfl⟩
  · have h2 : cnt < 0 := by omega
    go_enter Tryz.func219, Tryz.ntmps219
    go_wp2_with fail
    refine k1.out.mono ?_
    rintro e w1 ⟨rfl, rfl⟩
    clear k1
    go_wp2_with fail
    go_ret2
    exact ⟨rfl, rfl⟩

theorem pread (p : Nat) (F : Fs) (G : Nat → Prop) (w : World) (H : Pf w p F G) (hF : FOk F) (n off cnt : Int) (ho : off ≤ 9223372036854775807) (hc : cnt ≤ 9223372036854775807) :
    Calls Tryz.prog 219 #[.pointer (some ⟨p, 0, none⟩), .int .i64 n, .int .i64 off, .int .i64 cnt] w fun e w' => (∃ v, e = .returned (.tuple #[v, .int .i64 (F.read n off cnt).2]) ∧ w'.ownsRow w.heap.size 5 1 v (F.read n off cnt).1.length ((F.read n off cnt).1.map (Value.int .u8))) ∧ PfTo w p F G w' := by
  have HP := H
  obtain ⟨S, HS, R, hG⟩ := H
  by_cases hf : F.file n ≠ 0
  · have e : F.read n off cnt = ([], F.file n) := by unfold Fs.read; rw [if_pos hf]
    rw [e]
    refine (read_err p S F w HS R n off cnt _ hf rfl).mono ?_
    rintro e w' ⟨rfl, rfl⟩
    exact ⟨⟨_, rfl, World.ownsRow_nil _ _ _ _⟩, PfTo.same HP (Below.refl _ _)⟩
  have hf0 := Decidable.not_not.1 hf
  obtain ⟨fk, f1, f2⟩ := Fs.file_ok hF hf0
  obtain ⟨i, rfl⟩ : ∃ i : Nat, n = (i : Int) := ⟨n.toNat, by omega⟩
  have hi : i < 17 := by omega
  have fk : (F.P i).k = 1 := fk
  have r := R.P i hi
  have hk : (S.P i).k = 1 := r.k.trans fk
  by_cases h0 : off < 0 ∨ cnt < 0
  · have e : F.read (i : Int) off cnt = ([], 22) := by unfold Fs.read; rw [if_neg hf, if_pos h0]
    rw [e]
    refine (read_neg p S w HS i (by omega) hi hk off cnt h0).mono ?_
    rintro e w' ⟨rfl, rfl⟩
    exact ⟨⟨_, rfl, World.ownsRow_nil _ _ _ _⟩, PfTo.same HP (Below.refl _ _)⟩
  obtain ⟨o, rfl⟩ : ∃ o : Nat, off = (o : Int) := ⟨off.toNat, by omega⟩
  obtain ⟨m, rfl⟩ : ∃ m : Nat, cnt = (m : Int) := ⟨cnt.toNat, by omega⟩
  have e : F.read (i : Int) (o : Int) (m : Int) = (((F.P i).c.drop o).take m, 0) := by unfold Fs.read; rw [if_neg hf, if_neg h0]; rfl
  rw [e]
  have hcl := (hF.c i).1
  refine (read_ok p S w i (by omega) hi (S.P i) S.T (by rw [S.bl_self]; exact HS) hk (by rw [r.s]; exact hcl) o m (by omega) (by omega)).mono ?_
  rintro e w' ⟨⟨g, c, rfl, h⟩, hb⟩
  have er : rd (S.P i) o m = ((F.P i).c.drop o).take m := by unfold rd; rw [r.b]
  have el : min m ((S.P i).s - o) = (((F.P i).c.drop o).take m).length := by rw [List.length_take, List.length_drop, r.s]
  rw [er, el] at h
  rw [el]
  exact ⟨⟨_, rfl, h⟩, PfTo.same HP hb⟩

end Go.Proofs.YtoknhcjneliboaaGreat

/- The document's within. -/
namespace Go.Proofs.YtoknhcjneliboaaGreat
open Go.RowKit
set_option linter.unusedVariables false
set_option maxRecDepth 20000

theorem Rch.front {F : Fs} {a c : Nat} (r : Rch F a c) : c = a ∨ ∃ x ∈ (F.P a).Q, Rch F x.2 c := by
  induction r with
  | refl => exact .inl rfl
  | step x _ hx e ih =>
    rcases ih with rfl | ⟨y, hy, hr⟩
    · exact .inr ⟨x, hx, by rw [e]; exact .refl _⟩
    · exact .inr ⟨y, hy, .step x hr hx e⟩

/-- Whether a directory lies within another one. -/
noncomputable def inB (F : Fs) (dir top : Nat) : Bool := @decide (Rch F top dir) (Classical.propDecidable _)
theorem inB_yes {F : Fs} {dir top : Nat} (h : Rch F top dir) : inB F dir top = true := by unfold inB; exact @decide_eq_true _ (Classical.propDecidable _) h
theorem inB_no {F : Fs} {dir top : Nat} (h : ¬ Rch F top dir) : inB F dir top = false := by unfold inB; exact @decide_eq_false _ (Classical.propDecidable _) h
theorem inB_leaf {F : Fs} (hF : FOk F) {dir top : Nat} (hd : (F.P dir).k = 2) (ht : (F.P top).k ≠ 2) : inB F dir top = false := inB_no (fun r => by
  have := r.leaf (hF.file top ht)
  rw [this] at hd
  exact ht hd)


set_option maxHeartbeats 4000000 in
theorem rwithin_upto (x g u : Nat) (V : Nat → Value) (F : Fs) (hF : FOk F) (rk : Nat → Nat) (hrk : ∀ i y, y ∈ (F.P i).Q → rk y.2 < rk i) (dir : Nat) (hd17 : dir < 17) (hd : (F.P dir).k = 2) : ∀ r top, rk top < r → top < 17 → ∀ (w : World) (H : Rf w x g u V F),
    Calls Tryz.prog 115 #[.pointer (some ⟨x, 0, none⟩), .int .i64 (dir : Int), .int .i64 (top : Int)] w fun e w' => e = .returned (.bool (inB F dir top)) ∧ Below w.heap.size w w' := by
  intro r
  induction r with
  | zero => intro top h; omega
  | succ r IH =>
    intro top hr ht w H
    by_cases e : dir = top
    · have i1 : ((dir : Int) == (top : Int)) = true := by simp [e]
      have hR := inB_yes (F := F) (dir := dir) (top := top) (by rw [e]; exact .refl _)
      rw [hR]
      clear IH H hr hrk hF hd hR e
      go_enter Tryz.func115, Tryz.ntmps115
      go_wp2_with fail
      go_ret
      exact ⟨rfl, Below.refl _ _⟩
    · have i1 : ((dir : Int) == (top : Int)) = false := by simp; omega
      have c0 := H.c0
      have c1 := H.q top ht
      have n0 : (0 : Int) ≤ (top : Int) := by omega
      have n1 : (top : Int) < 17 := by omega
      obtain ⟨Q, gQ⟩ : ∃ Q, Q = (F.P top).Q := ⟨_, rfl⟩
      have hQ := H.rQ top ht
      have hl6 := hF.len top
      rw [← gQ] at hQ hl6
      obtain ⟨a, c, eV, hnc, hcm, hcell⟩ := own_shp hQ
      rw [eV] at c1
      obtain ⟨L, gL⟩ : ∃ L, L = Q.length := ⟨_, rfl⟩
      rw [← gL] at c1 hcell hnc hl6
      have GL := hid gL
      have HC := hid hcell
      have HR := hid H
      have HLT := hid H.lts
      have HIH : Hid (∀ k, ∀ h : k < Q.length, Q[k].2 < 17 ∧ (∀ (w : World), Rf w x g u V F → Calls Tryz.prog 115 #[.pointer (some ⟨x, 0, none⟩), .int .i64 (dir : Int), .int .i64 (Q[k].2 : Int)] w fun e w' => e = .returned (.bool (inB F dir Q[k].2)) ∧ Below w.heap.size w w')) := hid (fun k h => by
        have hm : Q[k] ∈ (F.P top).Q := by rw [← gQ]; exact List.getElem_mem h
        have h17 := (hF.nm top _ hm).2.1
        exact ⟨h17, fun w HW => IH _ (by have := hrk top _ hm; omega) h17 w HW⟩)
      obtain ⟨R, gR⟩ : ∃ R, R = inB F dir top := ⟨_, rfl⟩
      have HRy : Hid (∀ k, ∀ h : k < Q.length, inB F dir Q[k].2 = true → R = true) := hid (fun k h hh => by
        rw [gR]
        by_cases q : Rch F Q[k].2 dir
        · exact inB_yes (Rch.head Q[k] (by rw [← gQ]; exact List.getElem_mem h) rfl q)
        · rw [inB_no q] at hh; simp at hh)
      have HRn : Hid ((∀ k, ∀ h : k < Q.length, inB F dir Q[k].2 = false) → R = false) := hid (fun hh => by
        rw [gR]
        refine inB_no (fun q => ?_)
        rcases q.front with h | ⟨y, hy, hr⟩
        · exact e h
        · rw [← gQ] at hy
          obtain ⟨k, hk, rfl⟩ := List.mem_iff_getElem.1 hy
          have := hh k hk
          rw [inB_yes hr] at this; simp at this)
      have HK : Hid (∀ i, (F.P i).k ≠ 2 → inB F dir i = false) := hid (fun i hi => inB_leaf hF hd hi)
      rw [← gR]
      clear IH H gQ hQ hcell gL gR eV hr hrk hF hd e
      go_enter Tryz.func115, Tryz.ntmps115
      go_wp2_with fail
      go_loopw [21] (fun v21 wr => ∃ j : Nat, j ≤ L ∧ v21 = .int .i64 (j : Int) ∧ Hid (Below w.heap.size w wr) ∧ Hid (∀ k, ∀ h : k < Q.length, k < j → inB F dir Q[k].2 = false)) (fun v21 _ => L - (intOf v21).toNat)
      case atStart => exact ⟨0, Nat.zero_le _, rfl, hid (Below.refl _ _), hid (fun k h hk => by omega)⟩
      case round =>
        obtain ⟨j, hj, rfl, HB, HN⟩ := hrel
        by_cases e : j < L
        · have hj2 : (j : Int) < (L : Int) := by omega
          have hj0 : (0 : Int) ≤ (j : Int) := by omega
          have hjQ : j < Q.length := by rw [← GL.out]; exact e
          obtain ⟨q, rfl, _, hqs, hcc⟩ := HC.out (by omega)
          obtain ⟨y1, y2⟩ := nmC_at Q j hjQ
          have d1 := (HB.out.cell (p := ⟨q, j * 2, none⟩) hqs).trans (hcc _ _ y1)
          have d2 := (HB.out.cell (p := ⟨q, j * 2 + 1, none⟩) hqs).trans (hcc _ _ y2)
          obtain ⟨h17, hcall⟩ := HIH.out j hjQ
          have HRF := hid (HR.out.grow HB.out)
          have HBs := hid HB.out.size
          have HS : Hid (inB F dir Q[j].2 = false → ∀ k, ∀ h : k < Q.length, k < j + 1 → inB F dir Q[k].2 = false) := hid (fun h k hk hkj => by
            by_cases e : k = j
            · subst e; exact h
            · exact HN.out k hk (by omega))
          have HY := hid (HRy.out j hjQ)
          have HKj := hid (HK.out Q[j].2)
          generalize bs Q[j].1 = sj at d1
          obtain ⟨m, gm⟩ : ∃ m, m = Q[j].2 := ⟨_, rfl⟩
          rw [← gm] at d2 h17 hcall HS HY HKj
          have dk := HRF.out.k m h17
          have c0' := HRF.out.c0
          have m0 : (0 : Int) ≤ (m : Int) := by omega
          have m1 : (m : Int) < 17 := by omega
          have HCL := hid hcall
          have xl := HLT.out.1
          have gl := HLT.out.2.1
          have xs : x < wr.heap.size := Nat.lt_of_lt_of_le xl HBs.out
          have gs : g < wr.heap.size := Nat.lt_of_lt_of_le gl HBs.out
          have xs1 : x < wr.heap.size + 1 := by omega
          have gs1 : g < wr.heap.size + 1 := by omega
          clear gm hcc y1 y2 hcall c0 c1 xl gl
          by_cases hk : (F.P m).k = 2
          · have g1 : ((F.P m).k == 2) = true := by simp [hk]
            obtain ⟨b, gb⟩ : ∃ b, b = inB F dir m := ⟨_, rfl⟩
            rw [← gb] at HS HY
            have HC2 : Hid (∀ W, Rf W x g u V F → Calls Tryz.prog 115 #[.pointer (some ⟨x, 0, none⟩), .int .i64 (dir : Int), .int .i64 (m : Int)] W fun e w' => e = .returned (.bool b) ∧ Below W.heap.size W w') := hid (by rw [gb]; exact HCL.out)
            generalize (F.P m).k = km at dk g1 hk
            subst hk
            clear HKj HCL gb HK HIH HRy HRn g1
            have HX : Hid (Below wr.heap.size wr ((wr.alloc (.cells #[.string sj, .int .i64 (m : Int)] 151)))) := hid ((Below.refl _ _).alloc (Nat.le_refl _) _)
            cases b with
            | true =>
              have HY2 := hid (HY.out rfl)
              clear HY HS
              go_wp2_with fail
              go_region_held3 (fun W => W.cell? ⟨x, 0, none⟩ = some (.slice (some ⟨g, 0, none⟩) 17 17) ∧ W.cell? ⟨wr.heap.size, 1, none⟩ = some (.int .i64 (m : Int)) ∧ W.cell? ⟨g, m * 6, none⟩ = some (.int .i64 2)) (first | (refine ⟨?_, ?_, ?_⟩ <;> assumption) | go_keep) ((go_at_call 115; refine (HC2.out _ (HRF.out.grow (by first | exact HX.out | exact HX.out.drew))).mono ?_; rintro e w2 ⟨rfl, hb2⟩; have y : ∀ b o, b < wr.heap.size + 1 → w2.cell? ⟨b, o, none⟩ = (wr.alloc (.cells #[.string sj, .int .i64 (m : Int)] 151)).cell? ⟨b, o, none⟩ := fun b o hb => World.cell?_of_block (a := ⟨b, o, none⟩) (hb2.block b (by simpa using hb)); have HB2 : Hid (Below wr.heap.size wr w2) := hid (by first | exact HX.out.trans (hb2.mono (by simp)) | exact HX.out.drew.trans (hb2.mono (by simp)))))
              all_goals
                go_wp2_with fail
                go_ret
                rw [HY2.out]
                exact ⟨rfl, HB.out.trans (HB2.out.mono HBs.out)⟩
            | false =>
              have HS2 := hid (HS.out rfl)
              clear HY HS
              go_wp2_with fail
              go_region_held3 (fun W => W.cell? ⟨x, 0, none⟩ = some (.slice (some ⟨g, 0, none⟩) 17 17) ∧ W.cell? ⟨wr.heap.size, 1, none⟩ = some (.int .i64 (m : Int)) ∧ W.cell? ⟨g, m * 6, none⟩ = some (.int .i64 2)) (first | (refine ⟨?_, ?_, ?_⟩ <;> assumption) | go_keep) ((go_at_call 115; refine (HC2.out _ (HRF.out.grow (by first | exact HX.out | exact HX.out.drew))).mono ?_; rintro e w2 ⟨rfl, hb2⟩; have y : ∀ b o, b < wr.heap.size + 1 → w2.cell? ⟨b, o, none⟩ = (wr.alloc (.cells #[.string sj, .int .i64 (m : Int)] 151)).cell? ⟨b, o, none⟩ := fun b o hb => World.cell?_of_block (a := ⟨b, o, none⟩) (hb2.block b (by simpa using hb)); have HB2 : Hid (Below wr.heap.size wr w2) := hid (by first | exact HX.out.trans (hb2.mono (by simp)) | exact HX.out.drew.trans (hb2.mono (by simp)))))
              all_goals
                go_wp2_with fail
                go_roundw
                case rel => exact ⟨j + 1, by omega, by go_num, hid (HB.out.trans (HB2.out.mono HBs.out)), HS2⟩
                case measure => simp [intOf]; omega
          · have g1 : ((F.P m).k == 2) = false := by simpa using hk
            have HS2 := hid (HS.out (HKj.out hk))
            have HX : Hid (Below wr.heap.size wr ((wr.alloc (.cells #[.string sj, .int .i64 (m : Int)] 151)))) := hid ((Below.refl _ _).alloc (Nat.le_refl _) _)
            generalize (F.P m).k = km at dk g1 hk
            clear HKj HCL HK HIH HRy HRn HS HY
            go_wp2_with fail
            go_quiet (fail)
            go_wp2_with fail
            go_roundw
            case rel => exact ⟨j + 1, by omega, by go_num, hid (HB.out.trans ((below_drewN HX.out _).mono HBs.out)), HS2⟩
            case measure => simp [intOf]; omega
        · have hj2 : ¬ (j : Int) < (L : Int) := by omega
          have HR0 := hid (HRn.out (fun k h => HN.out k h (by have := GL.out; omega)))
          clear HIH HRy HRn HK
          go_wp2_with fail
          go_ret
          rw [HR0.out]
          exact ⟨rfl, HB.out⟩

end Go.Proofs.YtoknhcjneliboaaGreat

/- The document's Rename. (Written by gen_rf18.py.) -/
namespace Go.Proofs.YtoknhcjneliboaaGreat
open Go.RowKit
set_option linter.unusedVariables false
set_option maxRecDepth 20000

theorem rename_a {F : Fs} {l m : List UInt8} {e : Int} (hw : F.walk l = .error e) : F.rename l m = (F, e) := by unfold Fs.rename; rw [hw]
theorem rename_b {F : Fs} {l m : List UInt8} {y : List Nat} {s : List UInt8} {n : Nat} (hw : F.walk l = .ok (y, s, n)) (hn : n = 0) : F.rename l m = (F, 2) := by unfold Fs.rename; rw [hw]; exact if_pos hn
theorem rename_c {F : Fs} {l m : List UInt8} {y : List Nat} {s : List UInt8} {n : Nat} {e : Int} (hw : F.walk l = .ok (y, s, n)) (hn : n ≠ 0) (hw2 : F.walk m = .error e) : F.rename l m = (F, e) := by
  unfold Fs.rename; rw [hw]; dsimp only; rw [if_neg hn, hw2]
theorem rename_d {F : Fs} {l m : List UInt8} {y y2 : List Nat} {s s2 : List UInt8} {n n2 : Nat} (hw : F.walk l = .ok (y, s, n)) (hn : n ≠ 0) (hw2 : F.walk m = .ok (y2, s2, n2)) : F.rename l m =
    if n2 = n then (F, 0) else if n2 ≠ 0 ∧ F.over n n2 ≠ 0 then (F, F.over n n2) else if n ∈ y2 then (F, 22) else
      if n2 = 0 ∧ Fs.dirOf y2 ≠ Fs.dirOf y ∧ 6 ≤ (F.P (Fs.dirOf y2)).Q.length then (F, 28) else
      if n2 ≠ 0 ∧ dfc F.d 4 = false then ((((F.deln (Fs.dirOf y) s).deln (Fs.dirOf y2) s2).addn (Fs.dirOf y2) s2 n).less n2, 0)
      else (((F.deln (Fs.dirOf y) s).deln (Fs.dirOf y2) s2).addn (Fs.dirOf y2) s2 n, 0) := by
  unfold Fs.rename; rw [hw]; dsimp only; rw [if_neg hn, hw2]
theorem rwithin_any (x g u : Nat) (V : Nat → Value) (F : Fs) (w : World) (H : Rf w x g u V F) (hF : FOk F) (dir top : Nat) (hd17 : dir < 17) (ht : top < 17) (hd : (F.P dir).k = 2) :
    Calls Tryz.prog 115 #[.pointer (some ⟨x, 0, none⟩), .int .i64 (dir : Int), .int .i64 (top : Int)] w fun e w' => e = .returned (.bool (inB F dir top)) ∧ Below w.heap.size w w' := by
  obtain ⟨rk, hrk⟩ := hF.tree
  exact rwithin_upto x g u V F hF rk hrk dir hd17 hd (rk top + 1) top (by omega) ht w H
theorem inB_on {F : Fs} (hF : FOk F) {y2 : List Nat} {s2 : List UInt8} {n n2 : Nat} (W2 : Wlk F y2 s2 n2) (hk : (F.P n).k = 2) : inB F (Fs.dirOf y2) n = true ↔ n ∈ y2 := by
  rw [W2.on hF]
  by_cases h : Rch F n (Fs.dirOf y2)
  · rw [inB_yes h]; exact ⟨fun _ => ⟨hk, h⟩, fun _ => rfl⟩
  · rw [inB_no h]; exact ⟨fun q => by simp at q, fun q => absurd q.2 h⟩
theorem on_file {F : Fs} (hF : FOk F) {y2 : List Nat} {s2 : List UInt8} {n n2 : Nat} (W2 : Wlk F y2 s2 n2) (hk : (F.P n).k ≠ 2) : n ∉ y2 := fun h => hk ((W2.on hF n).1 h).1

theorem len2 {F : Fs} (hF : FOk F) (d d2 : Nat) (s s2 : List UInt8) : (((F.deln d s).deln d2 s2).P d2).Q.length ≤ 6 := by
  rw [deln_Q, if_pos rfl]
  refine Nat.le_trans (List.length_filter_le _ _) ?_
  rw [deln_Q]; split
  · exact Nat.le_trans (List.length_filter_le _ _) (hF.len d)
  · exact hF.len d2
theorem rmoved_P (F : Fs) (d d2 : Nat) (s s2 : List UInt8) (n i : Nat) : (((F.deln d s).deln d2 s2).addn d2 s2 n).P i = { F.P i with Q := ((((F.deln d s).deln d2 s2).addn d2 s2 n).P i).Q } := by
  rw [Fs.addn_P]; dsimp only; rw [Fs.deln_P]; dsimp only; rw [Fs.deln_P]

set_option maxHeartbeats 8000000 in
theorem rrename_any (x g u : Nat) (V : Nat → Value) (F : Fs) (w : World) (H : Rf w x g u V F) (hF : FOk F) (hl : ∀ i, (F.P i).l ≤ 1000000) (t t2 : ByteArray) (hs : t.size ≤ 1048576) (hs2 : t2.size ≤ 1048576) :
    Calls Tryz.prog 79 #[.pointer (some ⟨x, 0, none⟩), .string t, .string t2] w fun e w' => e = .returned (.int .i64 (F.rename (bl t) (bl t2)).2) ∧ RfTo w x g u V (F.rename (bl t) (bl t2)).1 w' := by
  obtain ⟨R, gR⟩ : ∃ R, R = F.rename (bl t) (bl t2) := ⟨_, rfl⟩
  rw [← gR]
  have GR := hid gR
  have k1 := hid (rend_any x g u V F w H hF t hs)
  have HH := hid H
  have HF := hid hF
  have HL := hid hl
  clear H hF hl gR
  go_enter Tryz.func79, Tryz.ntmps79
  go_wp2_with fail
  refine k1.out.mono ?_
  rintro e w1 ⟨⟨v, rfl, hE⟩, hB⟩
  have HB := hid hB
  have H1 := hid (HH.out.grow hB)
  clear k1 hB
  rcases hE with ⟨er, hw, rfl⟩ | ⟨y, s, n, hw, rfl⟩
  · have HR2 : Hid (R = (F, er)) := hid (by rw [GR.out]; exact rename_a hw)
    have he : er ≠ 0 := by have := Fs.walk_err hw; omega
    clear hw GR
    go_wp2_with fail
    go_ret
    rw [HR2.out]
    exact ⟨rfl, HH.out.same HB.out⟩
  have HW := hid (HF.out.walk_ok hw)
  have hto := hid HW.out.to
  have HEQ := hid hw
  obtain ⟨d, gd⟩ : ∃ d, d = Fs.dirOf y := ⟨_, rfl⟩
  have hd := HW.out.lt
  rw [← gd] at hd
  have k2 := hid (rlook_any x g u V F w1 H1.out d (by omega) (HF.out.len d) (bs s))
  rw [bl_bs, gd, ← HW.out.nn, ← gd] at k2
  rw [← gd]
  have GD := hid gd
  clear gd hw
  go_wp2_with fail
  refine k2.out.mono ?_
  rintro e w2 ⟨rfl, hb⟩
  have HB2 := hid (HB.out.trans (hb.mono HB.out.size))
  have H2 := hid (H1.out.grow hb)
  clear k2 hb HB H1
  by_cases hn : n = 0
  · have HR2 : Hid (R = (F, 2)) := hid (by rw [GR.out]; exact rename_b HEQ.out hn)
    subst hn
    clear GR
    go_wp2_with fail
    go_ret
    rw [HR2.out]
    exact ⟨rfl, HH.out.same HB2.out⟩
  obtain ⟨n2', n3, n4⟩ := hto.out hn
  have n0 : (0 : Int) ≤ (n : Int) := by omega
  have n1 : (n : Int) < 17 := by omega
  have nz : ¬ (n : Int) = 0 := by omega
  have HNK := hid n4
  have k3 := hid (rend_any x g u V F w2 H2.out HF.out t2 hs2)
  clear hto n4 n2'
  go_wp2_with fail
  refine k3.out.mono ?_
  rintro e w3 ⟨⟨v, rfl, hE⟩, hb⟩
  have HB3 := hid (HB2.out.trans (hb.mono HB2.out.size))
  have H3 := hid (H2.out.grow hb)
  clear k3 hb HB2 H2
  rcases hE with ⟨er, hw, rfl⟩ | ⟨y2, s2, m, hw, rfl⟩
  · have HR2 : Hid (R = (F, er)) := hid (by rw [GR.out]; exact rename_c HEQ.out hn hw)
    have he : er ≠ 0 := by have := Fs.walk_err hw; omega
    clear hw GR
    go_wp2_with fail
    go_ret
    rw [HR2.out]
    exact ⟨rfl, HH.out.same HB3.out⟩
  have HW2 := hid (HF.out.walk_ok hw)
  have HRD := hid (GR.out.trans (rename_d HEQ.out hn hw))
  obtain ⟨d2, gd2⟩ : ∃ d2, d2 = Fs.dirOf y2 := ⟨_, rfl⟩
  have hd2 := HW2.out.lt
  have hd2k := HW2.out.k
  have hto2 := HW2.out.to
  rw [← gd2] at hd2 hd2k
  have k4 := hid (rlook_any x g u V F w3 H3.out d2 (by omega) (HF.out.len d2) (bs s2))
  rw [bl_bs, gd2, ← HW2.out.nn, ← gd2] at k4
  rw [← gd2, ← GD.out] at HRD
  rw [← gd2]
  have HTO2 := hid hto2
  have HD2K := hid hd2k
  have HIN := hid (fun h : (F.P n).k = 2 => inB_on HF.out HW2.out h)
  rw [← gd2] at HIN
  have HON := hid (fun h : (F.P n).k ≠ 2 => on_file HF.out HW2.out h)
  clear gd2 hw hto2 hd2k GR HEQ HW HW2 GD
  go_wp2_with fail
  refine k4.out.mono ?_
  rintro e w4 ⟨rfl, hb⟩
  have HB4 := hid (HB3.out.trans (hb.mono HB3.out.size))
  have H4 := hid (H3.out.grow hb)
  clear k4 hb HB3 H3
  by_cases hmn : m = n
  · have HR2 : Hid (R = (F, 0)) := hid (by rw [HRD.out, if_pos hmn])
    have i1 : (m : Int) = (n : Int) := by omega
    clear HRD hmn HIN HON
    go_wp2_with fail
    go_ret
    rw [HR2.out]
    exact ⟨rfl, HH.out.same HB4.out⟩
  have i1 : ¬ (m : Int) = (n : Int) := by omega
  have HRE : Hid (R = if m ≠ 0 ∧ F.over n m ≠ 0 then (F, F.over n m) else if n ∈ y2 then (F, 22) else if m = 0 ∧ d2 ≠ d ∧ 6 ≤ (F.P d2).Q.length then (F, 28) else
      if m ≠ 0 ∧ dfc F.d 4 = false then ((((F.deln d s).deln d2 s2).addn d2 s2 n).less m, 0) else (((F.deln d s).deln d2 s2).addn d2 s2 n, 0)) := hid (by rw [HRD.out, if_neg hmn])
  have hd17 : d < 17 := hd.2
  have hd217 : d2 < 17 := hd2.2
  have j0 : (0 : Int) ≤ (d2 : Int) := by omega
  have j1 : (d2 : Int) < 17 := by omega
  have HD17 := hid hd17
  have HD217 := hid hd217
  have HN3 := hid n3
  clear HRD hmn hd hd2 hd17 hd217 n3 hn
  by_cases hm : m = 0
  · subst hm
    have HRF : Hid (R = if n ∈ y2 then (F, 22) else if d2 ≠ d ∧ 6 ≤ (F.P d2).Q.length then (F, 28) else (((F.deln d s).deln d2 s2).addn d2 s2 n, 0)) := hid (by
      rw [HRE.out, if_neg (fun q => q.1 rfl)]
      split
      · rfl
      · by_cases q : d2 ≠ d ∧ 6 ≤ (F.P d2).Q.length
        · rw [if_pos ⟨rfl, q⟩, if_pos q]
        · rw [if_neg (fun h => q h.2), if_neg q, if_neg (fun h => h.1 rfl)])
    clear HRE HTO2
    have c0 := H4.out.c0
    have c1 := H4.out.k n HN3.out
    by_cases hk : (F.P n).k = 2
    · have k5 := hid (rwithin_any x g u V F w4 H4.out HF.out d2 n HD217.out HN3.out HD2K.out)
      have HI := hid (HIN.out hk)
      obtain ⟨I, gI⟩ : ∃ I, I = inB F d2 n := ⟨_, rfl⟩
      rw [← gI] at k5 HI
      rw [hk] at c1
      clear HIN HON hk gI
      cases I with
      | true =>
        have HRG : Hid (R = (F, 22)) := hid (by rw [HRF.out, if_pos (HI.out.1 rfl)])
        clear HRF HI
        go_wp2_with fail
        refine k5.out.mono ?_
        rintro e w5 ⟨rfl, hb⟩
        have HB5 := hid (HB4.out.trans (hb.mono HB4.out.size))
        clear k5 hb
        go_wp2_with fail
        go_ret
        rw [HRG.out]
        exact ⟨rfl, HH.out.same HB5.out⟩
      | false =>
        have HRG : Hid (R = if d2 ≠ d ∧ 6 ≤ (F.P d2).Q.length then (F, 28) else (((F.deln d s).deln d2 s2).addn d2 s2 n, 0)) := hid (by rw [HRF.out, if_neg (fun q => by have := HI.out.2 q; simp at this)])
        clear HRF HI
        go_wp2_with fail
        refine k5.out.mono ?_
        rintro e w5 ⟨rfl, hb⟩
        have HB5 := hid (HB4.out.trans (hb.mono HB4.out.size))
        have H5 := hid (H4.out.grow hb)
        clear k5 hb H4 HB4 c0 c1
        have c0 := H5.out.c0
        obtain ⟨qa, qc, eQ, hqc, hqm, _⟩ := own_shp (H5.out.rQ d2 HD217.out)
        have c1 := H5.out.q d2 HD217.out
        rw [eQ] at c1
        obtain ⟨LQ, gLQ⟩ : ∃ LQ, LQ = (F.P d2).Q.length := ⟨_, rfl⟩
        rw [← gLQ] at c1 hqc HRG
        clear eQ gLQ
        by_cases hdd : d2 = d
        · have HRH : Hid (R = (((F.deln d s).deln d2 s2).addn d2 s2 n, 0)) := hid (by rw [HRG.out, if_neg (fun q => q.1 hdd)])
          have i2 : ((d2 : Int) != (d : Int)) = false := by simp [hdd]
          have HDD := hid hdd
          clear HRG hdd
          have k6 := hid (rdropn_any x g u V F w5 H5.out d HD17.out (HF.out.len d) (bs s))
          rw [bl_bs] at k6
          go_wp2_with fail
          refine k6.out.mono ?_
          rintro e w6 ⟨rfl, V1, hT⟩
          have HT6 := hid hT
          have H6 := hid hT.1
          clear k6 hT
          have k7 := hid (rdropn_any x g u V1 _ w6 H6.out d2 HD217.out ((by rw [deln_Q]; split <;> first | exact Nat.le_trans (List.length_filter_le _ _) (HF.out.len d) | exact HF.out.len d2)) (bs s2))
          rw [bl_bs] at k7
          go_wp2_with fail
          refine k7.out.mono ?_
          rintro e w7 ⟨rfl, V2, hT⟩
          have HT7 := hid hT
          have H7 := hid hT.1
          clear k7 hT
          have k8 := hid (radd_any x g u V2 _ w7 H7.out d2 HD217.out (len2 HF.out d d2 s s2) (bs s2) n)
          rw [bl_bs] at k8
          go_wp2_with fail
          refine k8.out.mono ?_
          rintro e w8 ⟨rfl, hT⟩
          have HT8 := hid hT
          clear k8 hT
          go_wp2_with fail
          go_ret
          rw [HRH.out]
          exact ⟨rfl, RfTo.below HB5.out (RfTo.next HT6.out (RfTo.next HT7.out HT8.out))⟩
        · have i2 : ((d2 : Int) != (d : Int)) = true := by simp; omega
          by_cases hq : 6 ≤ LQ
          · have hq2 : (6 : Int) ≤ (LQ : Int) := by omega
            have HRH : Hid (R = (F, 28)) := hid (by rw [HRG.out, if_pos ⟨hdd, hq⟩])
            clear HRG hdd
            go_wp2_with fail
            go_ret
            rw [HRH.out]
            exact ⟨rfl, HH.out.same HB5.out⟩
          · have hq2 : ¬ (6 : Int) ≤ (LQ : Int) := by omega
            have hq3 : decide ((6 : Int) ≤ (LQ : Int)) = false := by simp; omega
            have HRH : Hid (R = (((F.deln d s).deln d2 s2).addn d2 s2 n, 0)) := hid (by rw [HRG.out, if_neg (fun q => hq q.2)])
            clear HRG hdd
            have k6 := hid (rdropn_any x g u V F w5 H5.out d HD17.out (HF.out.len d) (bs s))
            rw [bl_bs] at k6
            go_wp2_with fail
            refine k6.out.mono ?_
            rintro e w6 ⟨rfl, V1, hT⟩
            have HT6 := hid hT
            have H6 := hid hT.1
            clear k6 hT
            have k7 := hid (rdropn_any x g u V1 _ w6 H6.out d2 HD217.out ((by rw [deln_Q]; split <;> first | exact Nat.le_trans (List.length_filter_le _ _) (HF.out.len d) | exact HF.out.len d2)) (bs s2))
            rw [bl_bs] at k7
            go_wp2_with fail
            refine k7.out.mono ?_
            rintro e w7 ⟨rfl, V2, hT⟩
            have HT7 := hid hT
            have H7 := hid hT.1
            clear k7 hT
            have k8 := hid (radd_any x g u V2 _ w7 H7.out d2 HD217.out (len2 HF.out d d2 s s2) (bs s2) n)
            rw [bl_bs] at k8
            go_wp2_with fail
            refine k8.out.mono ?_
            rintro e w8 ⟨rfl, hT⟩
            have HT8 := hid hT
            clear k8 hT
            go_wp2_with fail
            go_ret
            rw [HRH.out]
            exact ⟨rfl, RfTo.below HB5.out (RfTo.next HT6.out (RfTo.next HT7.out HT8.out))⟩
    · obtain ⟨k, gk⟩ : ∃ k, k = (F.P n).k := ⟨_, rfl⟩
      have HRG : Hid (R = if d2 ≠ d ∧ 6 ≤ (F.P d2).Q.length then (F, 28) else (((F.deln d s).deln d2 s2).addn d2 s2 n, 0)) := hid (by rw [HRF.out, if_neg (HON.out hk)])
      have hk2 : (k == 2) = false := by rw [gk]; simpa using hk
      rw [← gk] at c1 hk
      clear HIN HON HRF gk
      have c0 := H4.out.c0
      obtain ⟨qa, qc, eQ, hqc, hqm, _⟩ := own_shp (H4.out.rQ d2 HD217.out)
      have c1 := H4.out.q d2 HD217.out
      rw [eQ] at c1
      obtain ⟨LQ, gLQ⟩ : ∃ LQ, LQ = (F.P d2).Q.length := ⟨_, rfl⟩
      rw [← gLQ] at c1 hqc HRG
      clear eQ gLQ
      by_cases hdd : d2 = d
      · have HRH : Hid (R = (((F.deln d s).deln d2 s2).addn d2 s2 n, 0)) := hid (by rw [HRG.out, if_neg (fun q => q.1 hdd)])
        have i2 : ((d2 : Int) != (d : Int)) = false := by simp [hdd]
        have HDD := hid hdd
        clear HRG hdd
        have k6 := hid (rdropn_any x g u V F w4 H4.out d HD17.out (HF.out.len d) (bs s))
        rw [bl_bs] at k6
        go_wp2_with fail
        refine k6.out.mono ?_
        rintro e w6 ⟨rfl, V1, hT⟩
        have HT6 := hid hT
        have H6 := hid hT.1
        clear k6 hT
        have k7 := hid (rdropn_any x g u V1 _ w6 H6.out d2 HD217.out ((by rw [deln_Q]; split <;> first | exact Nat.le_trans (List.length_filter_le _ _) (HF.out.len d) | exact HF.out.len d2)) (bs s2))
        rw [bl_bs] at k7
        go_wp2_with fail
        refine k7.out.mono ?_
        rintro e w7 ⟨rfl, V2, hT⟩
        have HT7 := hid hT
        have H7 := hid hT.1
        clear k7 hT
        have k8 := hid (radd_any x g u V2 _ w7 H7.out d2 HD217.out (len2 HF.out d d2 s s2) (bs s2) n)
        rw [bl_bs] at k8
        go_wp2_with fail
        refine k8.out.mono ?_
        rintro e w8 ⟨rfl, hT⟩
        have HT8 := hid hT
        clear k8 hT
        go_wp2_with fail
        go_ret
        rw [HRH.out]
        exact ⟨rfl, RfTo.below HB4.out (RfTo.next HT6.out (RfTo.next HT7.out HT8.out))⟩
      · have i2 : ((d2 : Int) != (d : Int)) = true := by simp; omega
        by_cases hq : 6 ≤ LQ
        · have hq2 : (6 : Int) ≤ (LQ : Int) := by omega
          have HRH : Hid (R = (F, 28)) := hid (by rw [HRG.out, if_pos ⟨hdd, hq⟩])
          clear HRG hdd
          go_wp2_with fail
          go_ret
          rw [HRH.out]
          exact ⟨rfl, HH.out.same HB4.out⟩
        · have hq2 : ¬ (6 : Int) ≤ (LQ : Int) := by omega
          have hq3 : decide ((6 : Int) ≤ (LQ : Int)) = false := by simp; omega
          have HRH : Hid (R = (((F.deln d s).deln d2 s2).addn d2 s2 n, 0)) := hid (by rw [HRG.out, if_neg (fun q => hq q.2)])
          clear HRG hdd
          have k6 := hid (rdropn_any x g u V F w4 H4.out d HD17.out (HF.out.len d) (bs s))
          rw [bl_bs] at k6
          go_wp2_with fail
          refine k6.out.mono ?_
          rintro e w6 ⟨rfl, V1, hT⟩
          have HT6 := hid hT
          have H6 := hid hT.1
          clear k6 hT
          have k7 := hid (rdropn_any x g u V1 _ w6 H6.out d2 HD217.out ((by rw [deln_Q]; split <;> first | exact Nat.le_trans (List.length_filter_le _ _) (HF.out.len d) | exact HF.out.len d2)) (bs s2))
          rw [bl_bs] at k7
          go_wp2_with fail
          refine k7.out.mono ?_
          rintro e w7 ⟨rfl, V2, hT⟩
          have HT7 := hid hT
          have H7 := hid hT.1
          clear k7 hT
          have k8 := hid (radd_any x g u V2 _ w7 H7.out d2 HD217.out (len2 HF.out d d2 s s2) (bs s2) n)
          rw [bl_bs] at k8
          go_wp2_with fail
          refine k8.out.mono ?_
          rintro e w8 ⟨rfl, hT⟩
          have HT8 := hid hT
          clear k8 hT
          go_wp2_with fail
          go_ret
          rw [HRH.out]
          exact ⟨rfl, RfTo.below HB4.out (RfTo.next HT6.out (RfTo.next HT7.out HT8.out))⟩
  · have HRE2 : Hid (R = if F.over n m ≠ 0 then (F, F.over n m) else if n ∈ y2 then (F, 22) else if dfc F.d 4 = false then ((((F.deln d s).deln d2 s2).addn d2 s2 n).less m, 0) else (((F.deln d s).deln d2 s2).addn d2 s2 n, 0)) := hid (by
      rw [HRE.out]
      by_cases q : F.over n m ≠ 0
      · rw [if_pos ⟨hm, q⟩, if_pos q]
      · rw [if_neg (fun h => q h.2), if_neg q]
        split
        · rfl
        · rw [if_neg (fun h => hm h.1)]
          by_cases q2 : dfc F.d 4 = false
          · rw [if_pos ⟨hm, q2⟩, if_pos q2]
          · rw [if_neg (fun h => q2 h.2), if_neg q2])
    obtain ⟨m2, m3, m4⟩ := HTO2.out hm
    have mz : ¬ (m : Int) = 0 := by omega
    have mz2 : ((m : Int) != 0) = true := by simp; omega
    have mz3 : ((m : Int) == 0) = false := by simp; omega
    have m0 : (0 : Int) ≤ (m : Int) := by omega
    have m1 : (m : Int) < 17 := by omega
    have k45 : Hid (Calls Tryz.prog 114 #[.pointer (some ⟨x, 0, none⟩), .int .i64 (n : Int), .int .i64 (m : Int)] w4 fun e w' => e = .returned (.int .i64 (F.over n m)) ∧ Below w4.heap.size w4 w') := hid ((rover_any x g u V F w4 H4.out HF.out n m HN3.out m3 HNK.out).mono (by rintro e w' ⟨h1, rfl⟩; exact ⟨h1, (Below.refl _ _).drew⟩))
    obtain ⟨O, gO⟩ : ∃ O, O = F.over n m := ⟨_, rfl⟩
    rw [← gO] at k45 HRE2
    clear HRE HTO2 hm m4 gO
    go_wp2_with fail
    refine k45.out.mono ?_
    rintro e w45 ⟨rfl, hb⟩
    have HB45 := hid (HB4.out.trans (hb.mono HB4.out.size))
    have H45 := hid (H4.out.grow hb)
    clear k45 hb HB4 H4
    by_cases hO : O ≠ 0
    · have HRG : Hid (R = (F, O)) := hid (by rw [HRE2.out, if_pos hO])
      clear HRE2
      go_wp2_with fail
      go_ret
      rw [HRG.out]
      exact ⟨rfl, HH.out.same HB45.out⟩
    obtain rfl : O = 0 := Decidable.not_not.1 hO
    have HRF : Hid (R = if n ∈ y2 then (F, 22) else if dfc F.d 4 = false then ((((F.deln d s).deln d2 s2).addn d2 s2 n).less m, 0) else (((F.deln d s).deln d2 s2).addn d2 s2 n, 0)) := hid (by rw [HRE2.out, if_neg hO])
    clear HRE2 hO
    have c0 := H45.out.c0
    have c1 := H45.out.k n HN3.out
    by_cases hk : (F.P n).k = 2
    · have k5 := hid (rwithin_any x g u V F w45 H45.out HF.out d2 n HD217.out HN3.out HD2K.out)
      have HI := hid (HIN.out hk)
      obtain ⟨I, gI⟩ : ∃ I, I = inB F d2 n := ⟨_, rfl⟩
      rw [← gI] at k5 HI
      rw [hk] at c1
      clear HIN HON hk gI
      cases I with
      | true =>
        have HRG : Hid (R = (F, 22)) := hid (by rw [HRF.out, if_pos (HI.out.1 rfl)])
        clear HRF HI
        go_wp2_with fail
        refine k5.out.mono ?_
        rintro e w5 ⟨rfl, hb⟩
        have HB5 := hid (HB45.out.trans (hb.mono HB45.out.size))
        clear k5 hb
        go_wp2_with fail
        go_ret
        rw [HRG.out]
        exact ⟨rfl, HH.out.same HB5.out⟩
      | false =>
        have HRG : Hid (R = if dfc F.d 4 = false then ((((F.deln d s).deln d2 s2).addn d2 s2 n).less m, 0) else (((F.deln d s).deln d2 s2).addn d2 s2 n, 0)) := hid (by rw [HRF.out, if_neg (fun q => by have := HI.out.2 q; simp at this)])
        clear HRF HI
        go_wp2_with fail
        refine k5.out.mono ?_
        rintro e w5 ⟨rfl, hb⟩
        have HB5 := hid (HB45.out.trans (hb.mono HB45.out.size))
        have H5 := hid (H45.out.grow hb)
        clear k5 hb H45 HB45 c0 c1
        have k6 := hid (rdropn_any x g u V F w5 H5.out d HD17.out (HF.out.len d) (bs s))
        rw [bl_bs] at k6
        go_wp2_with fail
        refine k6.out.mono ?_
        rintro e w6 ⟨rfl, V1, hT⟩
        have HT6 := hid hT
        have H6 := hid hT.1
        clear k6 hT
        have k7 := hid (rdropn_any x g u V1 _ w6 H6.out d2 HD217.out ((by rw [deln_Q]; split <;> first | exact Nat.le_trans (List.length_filter_le _ _) (HF.out.len d) | exact HF.out.len d2)) (bs s2))
        rw [bl_bs] at k7
        go_wp2_with fail
        refine k7.out.mono ?_
        rintro e w7 ⟨rfl, V2, hT⟩
        have HT7 := hid hT
        have H7 := hid hT.1
        clear k7 hT
        have k8 := hid (radd_any x g u V2 _ w7 H7.out d2 HD217.out (len2 HF.out d d2 s s2) (bs s2) n)
        rw [bl_bs] at k8
        go_wp2_with fail
        refine k8.out.mono ?_
        rintro e w8 ⟨rfl, V3, hT⟩
        have HT8 := hid hT
        have H8 := hid hT.1
        clear k8 hT
        have k9 := hid (rhas_any x g u V3 _ w8 H8.out 4)
        rw [show (((F.deln d s).deln d2 s2).addn d2 s2 n).d = F.d from rfl] at k9
        have e3 := rmoved_P F d d2 s s2 n m
        have e1 : ((((F.deln d s).deln d2 s2).addn d2 s2 n).P m).l = (F.P m).l := by rw [e3]
        have e2 : ((((F.deln d s).deln d2 s2).addn d2 s2 n).P m).B = (F.P m).B := by rw [e3]
        have c0 := H8.out.c0
        have c2 := H8.out.l m m3
        rw [e1] at c2
        obtain ⟨l, gl⟩ : ∃ l, l = (F.P m).l := ⟨_, rfl⟩
        have hl0 := HF.out.l0 m
        have hl1 := HL.out m
        have c3 := H8.out.frz (m * 6 + 1)
        rw [← gl] at c2 hl0 hl1
        have hwr : IntKind.i64.wrap (l - 1) = l - 1 := by rw [IntKind.wrap_i64]; omega
        have H9 := hid (H8.out.lnk m m3 (l - 1))
        have HB5 := HF.out.B25 m
        have e5 : (((((F.deln d s).deln d2 s2).addn d2 s2 n).lnk m (l - 1)).P m).B = (F.P m).B := by rw [Fs.lnk_P]; exact e2
        have k10 := hid (rgone_any x g u V3 _ _ H9.out m m3 (fun e => absurd e (by omega)) (by rw [e5]; exact HB5.1) (by rw [e5]; exact HB5.2))
        have HY : Hid (dfc F.d 4 = false → R = (((((F.deln d s).deln d2 s2).addn d2 s2 n).lnk m (l - 1)).gone m, 0)) := hid (fun h => by
          rw [HRG.out, if_pos h]
          unfold Fs.less
          rw [e1, ← gl])
        have HZ : Hid (dfc F.d 4 = true → R = (((F.deln d s).deln d2 s2).addn d2 s2 n, 0)) := hid (fun h => by rw [HRG.out, if_neg (by rw [h]; simp)])
        obtain ⟨D, gD⟩ : ∃ D, D = dfc F.d 4 := ⟨_, rfl⟩
        rw [← gD] at k9 HY HZ
        clear e1 e2 e3 e5 HB5 gD gl HRG H8
        cases D with
        | true =>
          have HRH := hid (HZ.out rfl)
          clear HY HZ k10 H9
          go_wp2_with fail
          refine k9.out.mono ?_
          rintro e w9 ⟨rfl, rfl⟩
          clear k9
          go_wp2_with fail
          go_ret
          rw [HRH.out]
          exact ⟨rfl, RfTo.below HB5.out (RfTo.next HT6.out (RfTo.next HT7.out (RfTo.next HT8.out ⟨V3, HT8.out.1, Upd.refl _ _, fun b h => .inl h⟩)))⟩
        | false =>
          have HRH := hid (HY.out rfl)
          clear HY HZ
          go_wp2_with fail
          refine k9.out.mono ?_
          rintro e w9 ⟨rfl, rfl⟩
          clear k9
          go_wp2_with fail
          refine k10.out.mono ?_
          rintro e w10 ⟨rfl, hT⟩
          have HT10 := hid hT
          clear k10 hT
          go_wp2_with fail
          go_ret
          rw [HRH.out]
          exact ⟨rfl, RfTo.below HB5.out (RfTo.next HT6.out (RfTo.next HT7.out (RfTo.next HT8.out (RfTo.next H9.out.cell_to HT10.out))))⟩
    · obtain ⟨k, gk⟩ : ∃ k, k = (F.P n).k := ⟨_, rfl⟩
      have HRG : Hid (R = if dfc F.d 4 = false then ((((F.deln d s).deln d2 s2).addn d2 s2 n).less m, 0) else (((F.deln d s).deln d2 s2).addn d2 s2 n, 0)) := hid (by rw [HRF.out, if_neg (HON.out hk)])
      have hk2 : (k == 2) = false := by rw [gk]; simpa using hk
      rw [← gk] at c1 hk
      clear HIN HON HRF gk
      have k6 := hid (rdropn_any x g u V F w45 H45.out d HD17.out (HF.out.len d) (bs s))
      rw [bl_bs] at k6
      go_wp2_with fail
      refine k6.out.mono ?_
      rintro e w6 ⟨rfl, V1, hT⟩
      have HT6 := hid hT
      have H6 := hid hT.1
      clear k6 hT
      have k7 := hid (rdropn_any x g u V1 _ w6 H6.out d2 HD217.out ((by rw [deln_Q]; split <;> first | exact Nat.le_trans (List.length_filter_le _ _) (HF.out.len d) | exact HF.out.len d2)) (bs s2))
      rw [bl_bs] at k7
      go_wp2_with fail
      refine k7.out.mono ?_
      rintro e w7 ⟨rfl, V2, hT⟩
      have HT7 := hid hT
      have H7 := hid hT.1
      clear k7 hT
      have k8 := hid (radd_any x g u V2 _ w7 H7.out d2 HD217.out (len2 HF.out d d2 s s2) (bs s2) n)
      rw [bl_bs] at k8
      go_wp2_with fail
      refine k8.out.mono ?_
      rintro e w8 ⟨rfl, V3, hT⟩
      have HT8 := hid hT
      have H8 := hid hT.1
      clear k8 hT
      have k9 := hid (rhas_any x g u V3 _ w8 H8.out 4)
      rw [show (((F.deln d s).deln d2 s2).addn d2 s2 n).d = F.d from rfl] at k9
      have e3 := rmoved_P F d d2 s s2 n m
      have e1 : ((((F.deln d s).deln d2 s2).addn d2 s2 n).P m).l = (F.P m).l := by rw [e3]
      have e2 : ((((F.deln d s).deln d2 s2).addn d2 s2 n).P m).B = (F.P m).B := by rw [e3]
      have c0 := H8.out.c0
      have c2 := H8.out.l m m3
      rw [e1] at c2
      obtain ⟨l, gl⟩ : ∃ l, l = (F.P m).l := ⟨_, rfl⟩
      have hl0 := HF.out.l0 m
      have hl1 := HL.out m
      have c3 := H8.out.frz (m * 6 + 1)
      rw [← gl] at c2 hl0 hl1
      have hwr : IntKind.i64.wrap (l - 1) = l - 1 := by rw [IntKind.wrap_i64]; omega
      have H9 := hid (H8.out.lnk m m3 (l - 1))
      have HB5 := HF.out.B25 m
      have e5 : (((((F.deln d s).deln d2 s2).addn d2 s2 n).lnk m (l - 1)).P m).B = (F.P m).B := by rw [Fs.lnk_P]; exact e2
      have k10 := hid (rgone_any x g u V3 _ _ H9.out m m3 (fun e => absurd e (by omega)) (by rw [e5]; exact HB5.1) (by rw [e5]; exact HB5.2))
      have HY : Hid (dfc F.d 4 = false → R = (((((F.deln d s).deln d2 s2).addn d2 s2 n).lnk m (l - 1)).gone m, 0)) := hid (fun h => by
        rw [HRG.out, if_pos h]
        unfold Fs.less
        rw [e1, ← gl])
      have HZ : Hid (dfc F.d 4 = true → R = (((F.deln d s).deln d2 s2).addn d2 s2 n, 0)) := hid (fun h => by rw [HRG.out, if_neg (by rw [h]; simp)])
      obtain ⟨D, gD⟩ : ∃ D, D = dfc F.d 4 := ⟨_, rfl⟩
      rw [← gD] at k9 HY HZ
      clear e1 e2 e3 e5 HB5 gD gl HRG H8
      cases D with
      | true =>
        have HRH := hid (HZ.out rfl)
        clear HY HZ k10 H9
        go_wp2_with fail
        refine k9.out.mono ?_
        rintro e w9 ⟨rfl, rfl⟩
        clear k9
        go_wp2_with fail
        go_ret
        rw [HRH.out]
        exact ⟨rfl, RfTo.below HB45.out (RfTo.next HT6.out (RfTo.next HT7.out (RfTo.next HT8.out ⟨V3, HT8.out.1, Upd.refl _ _, fun b h => .inl h⟩)))⟩
      | false =>
        have HRH := hid (HY.out rfl)
        clear HY HZ
        go_wp2_with fail
        refine k9.out.mono ?_
        rintro e w9 ⟨rfl, rfl⟩
        clear k9
        go_wp2_with fail
        refine k10.out.mono ?_
        rintro e w10 ⟨rfl, hT⟩
        have HT10 := hid hT
        clear k10 hT
        go_wp2_with fail
        go_ret
        rw [HRH.out]
        exact ⟨rfl, RfTo.below HB45.out (RfTo.next HT6.out (RfTo.next HT7.out (RfTo.next HT8.out (RfTo.next H9.out.cell_to HT10.out))))⟩

end Go.Proofs.YtoknhcjneliboaaGreat

/- The document's Blocks. -/
namespace Go.Proofs.YtoknhcjneliboaaGreat
open Go.RowKit
set_option linter.unusedVariables false
set_option maxRecDepth 20000

theorem infoI3 : (Tryz.prog.info? 3).map (fun i => (i.zero, i.size, i.bytes)) = some (some (.int .i64 0), 1, 8) := by kernel_rfl
def natV (b : Nat) : Value := .int .i64 (b : Int)
theorem range_snoc_yes (p : Nat → Bool) (j : Nat) (h : p j = true) : (List.range (j + 1)).filter p = (List.range j).filter p ++ [j] := by rw [List.range_succ, List.filter_append, List.filter_cons_of_pos (by simpa using h)]; rfl
theorem range_snoc_no (p : Nat → Bool) (j : Nat) (h : p j = false) : (List.range (j + 1)).filter p = (List.range j).filter p := by rw [List.range_succ, List.filter_append, List.filter_cons_of_neg (by simp [h])]; simp

set_option maxHeartbeats 4000000 in
theorem rblocks_any (x g u : Nat) (V : Nat → Value) (F : Fs) (w : World) (H : Rf w x g u V F) :
    Calls Tryz.prog 45 #[.pointer (some ⟨x, 0, none⟩)] w fun e w' => (∃ v, e = .returned v ∧ w'.ownsRow w.heap.size 3 1 v ((List.range 25).filter F.T).length (((List.range 25).filter F.T).map natV)) ∧ Below w.heap.size w w' := by
  obtain ⟨i0, hi0, hz0, hz1, hz2⟩ := info_parts infoI3
  have c1 := H.c1
  have HR := hid H
  clear H
  go_enter Tryz.func45, Tryz.ntmps45
  go_wp2_with fail
  go_loopw [3, 4, 5, 11] (fun v3 v4 v5 v11 wr => ∃ (j k : Nat) (a' : Option Addr) (c' : Nat), j ≤ 25 ∧ k ≤ j ∧ v11 = .int .i64 (j : Int) ∧ v3 = .slice a' k c' ∧ Hid (((List.range j).filter F.T).length = k) ∧ Hid (wr.ownsRow w.heap.size 3 1 (.slice a' k c') k (((List.range j).filter F.T).map natV)) ∧ Hid (Below w.heap.size w wr)) (fun _ _ _ v11 _ => 25 - (intOf v11).toNat)
  case atStart => exact ⟨0, 0, none, 0, by omega, Nat.le_refl _, rfl, rfl, hid rfl, hid (World.ownsRow_nil _ _ _ _), hid (Below.refl _ _)⟩
  case round =>
    obtain ⟨j, k, a', c', hj, hk, rfl, rfl, HK, HO, HB⟩ := hrel
    have HBs := HB.out.size
    by_cases hlt : j < 25
    · have hj2 : (j : Int) < 25 := by omega
      have hj0 : (0 : Int) ≤ (j : Int) := by omega
      have hj3 : j + 1 ≤ 25 := hlt
      have d1 := (HR.out.grow HB.out).t j hlt
      have HY : Hid (F.T j = true → (List.range (j + 1)).filter F.T = (List.range j).filter F.T ++ [j]) := hid (range_snoc_yes F.T j)
      have HN : Hid (F.T j = false → (List.range (j + 1)).filter F.T = (List.range j).filter F.T) := hid (range_snoc_no F.T j)
      generalize F.T j = tj at d1 HY HN
      cases tj with
      | false =>
        have e := HN.out rfl
        rw [← e] at HK HO
        clear HY HN e
        go_wp2_with fail
        go_roundw
        case rel => exact ⟨j + 1, k, a', c', hj3, by omega, by go_num, rfl, HK, HO, HB⟩
        case measure => simp [intOf]; omega
      | true =>
        have HE := hid (HY.out rfl)
        clear HY HN
        generalize (List.range j).filter F.T = acc at HK HO HE
        go_wp2_with (at_builtin; go_must (refine wpList_append_own _ rfl (.tmp 17) (.tmp 19) 44 rfl w.heap.size 3 i0 _ 1 8 Tryz.underlying44 hi0 hz0 hz1 hz2 rfl (by decide) _ k (acc.map natV) rfl (HO.out.alloc _) ⟨_, 0, none⟩ 1 1 [natV j] rfl rfl (cell_one _ _ _) (by simp [Value.oneCell', natV]) (by unfold maxLen; omega) (by omega) (by simp; omega) ?_))
        intro v' w6 hO hG hN
        have hbel : Below w.heap.size w w6 := (HB.out.alloc HBs (.cells #[natV j] 3)).grown hG (by simp; omega) (fun x hx => (HO.out.lt x hx).1)
        obtain ⟨va, vc, rfl⟩ : ∃ va vc, v' = .slice va (k + 1) vc := by
          rcases hO.2 with ⟨h1, h2⟩ | ⟨g, c, cur, rfl, _⟩
          · omega
          · exact ⟨_, c, rfl⟩
        have HK2 : Hid (((List.range (j + 1)).filter F.T).length = k + 1) := hid (by rw [HE.out, List.length_append, HK.out]; rfl)
        have HO2 : Hid (w6.ownsRow w.heap.size 3 1 (.slice va (k + 1) vc) (k + 1) (((List.range (j + 1)).filter F.T).map natV)) := hid (by rw [HE.out, List.map_append]; exact hO)
        have HB2 := hid hbel
        clear hO hG hN hbel HO HB HK HE
        go_wp2_with fail
        go_roundw
        case rel => exact ⟨j + 1, k + 1, va, vc, hj3, by omega, by go_num, rfl, HK2, HO2, HB2⟩
        case measure => simp [intOf]; omega
    · obtain rfl : j = 25 := by omega
      go_wp2_with fail
      go_ret
      refine ⟨⟨_, rfl, ?_⟩, HB.out⟩
      rw [HK.out]
      exact HO.out

end Go.Proofs.YtoknhcjneliboaaGreat

/- What a look at open files tells. -/
namespace Go.Proofs.YtoknhcjneliboaaGreat
open Go.RowKit Go.ChangeMaps Go.MapKept
set_option linter.unusedVariables false
set_option maxRecDepth 20000

/-- What Look tells of an open file; of the first n. -/
def oiV (i : Nat) (x : Fl) : List Value := [.int .i64 (i : Int), .int .i64 x.k, .int .i64 x.of, .int .i64 x.off, .int .i64 x.fl, .int .i64 x.h]
def oiL (O : Nat → Fl) : Nat → List Value
  | 0 => []
  | n + 1 => if (O n).h = 0 then oiL O n else oiL O n ++ oiV n (O n)
def oiN (O : Nat → Fl) : Nat → Nat
  | 0 => 0
  | n + 1 => if (O n).h = 0 then oiN O n else oiN O n + 1
theorem oiN_le (O : Nat → Fl) : ∀ n, oiN O n ≤ n
  | 0 => Nat.le_refl _
  | n + 1 => by have := oiN_le O n; unfold oiN; split <;> omega
theorem oiL_congr {O O' : Nat → Fl} : ∀ n, (∀ i, i < n → (O i).h = (O' i).h ∧ ((O i).h ≠ 0 → O i = O' i)) → oiL O n = oiL O' n ∧ oiN O n = oiN O' n
  | 0, _ => ⟨rfl, rfl⟩
  | n + 1, h => by
    obtain ⟨a, b⟩ := oiL_congr n (fun i hi => h i (by omega))
    obtain ⟨c, d⟩ := h n (by omega)
    unfold oiL oiN
    rw [← c, a, b]
    by_cases e : (O n).h = 0
    · rw [if_pos e, if_pos e]; exact ⟨rfl, by rw [if_pos e]⟩
    · rw [if_neg e, if_neg e, d e]; exact ⟨rfl, by rw [← d e, if_neg e]⟩
theorem cells_new (w : World) (cs : List Value) (t : TypeId) (q : Nat) (hq : q = w.heap.size) : ∀ j u, cs[j]? = some u → (w.alloc (.cells (List.toArray cs) t)).cell? ((⟨q, 0, none⟩ : Addr).add j) = some u := by
  intro j u h
  subst hq
  rw [Addr.add_lit, Nat.zero_add, cell_of_row _ _ j _ t (0, 0) (heap_alloc_new _ _)]
  simpa using h
theorem infoOI : (Tryz.prog.info? 40).map (fun i => (i.zero, i.size, i.bytes)) = some (some (.agg #[.int .i64 0, .int .i64 0, .int .i64 0, .int .i64 0, .int .i64 0, .int .i64 0]), 6, 48) := by kernel_rfl


end Go.Proofs.YtoknhcjneliboaaGreat

/- A new node of either kind. -/
namespace Go.Proofs.YtoknhcjneliboaaGreat
open Go.RowKit Go.ChangeMaps Go.MapKept
set_option linter.unusedVariables false
set_option maxRecDepth 20000

/-- A new node at a number. -/
def Sg.new (S : Sg) (f : Nat) (k : Int) (mo : Option Nat) : Sg := { S with P := updN S.P f (newNd k mo), L := fun i => if i = f then 0 else S.L i, N := fun i => if i = f then (fun _ => 0) else S.N i }

theorem Sy.new {w : World} {p : Nat} {S : Sg} (h : Sy w p S) (f : Nat) (h1 : f < 17) (h2 : f ≠ 0) (h3 : (S.P f).k = 0) (k : Int) (mo : Option Nat) (hk : k = 2 → mo.isSome = true) (hm : ∀ b, mo = some b → w.heap[b]? = some (.map #[] 0) ∧ b ≠ p ∧ ∀ i, i < 17 → (S.P i).m ≠ some b) : Sy (w.setCells p (1 + f * 107) (nodeC k 1 (.map mo))) p (S.new f k mo) := by
  obtain ⟨C, hb, hc⟩ := h.blk
  have hf1 : f ≠ 1 := fun e => by rw [e, h.root] at h3; omega
  have hl := hc.len
  have hln := nodeC_len k 1 (.map mo)
  have hs : 1 + f * 107 + (nodeC k 1 (.map mo)).length ≤ C.length := by rw [hl, hln]; omega
  have u := upd_setCells p (nodeC k 1 (.map mo)) (1 + f * 107) w
  refine ⟨⟨_, heap_setCells p 103 (nodeC k 1 (.map mo)) _ w C hb hs, hc.put f h1 (newNd k mo) (newNd_ok _ _) (by rw [length_splice _ _ _ hs, hl]) (fun j hj => getElem?_splice_out _ _ _ _ hs (by rw [hln]; omega)) (fun j hj => by rw [ndC_new]; exact getElem?_splice_in C _ (1 + f * 107) j hs (by rw [hln]; exact hj))⟩, ?_, ?_, ?_, ?_, ?_, ?_, ?_, ?_⟩
  · intro i hi
    by_cases e : i = f
    · subst e
      show Nms _ (updN S.P i (newNd k mo) i).m (if i = i then 0 else S.L i) (if i = i then (fun _ => 0) else S.N i)
      rw [updN_same, if_pos rfl, if_pos rfl]
      show Nms _ mo 0 (fun _ => 0)
      cases mo with
      | none => exact ⟨rfl, fun _ => rfl⟩
      | some b =>
        obtain ⟨q1, q2, _⟩ := hm b rfl
        exact nms_empty (c := 0) ((u.block b (Array.getElem?_eq_some_iff.1 q1).1 q2).trans q1)
    · show Nms _ (updN S.P f (newNd k mo) i).m (if i = f then 0 else S.L i) (if i = f then (fun _ => 0) else S.N i)
      rw [updN_ne _ _ _ _ e, if_neg e, if_neg e]
      exact (h.nms i hi).block (fun c hc => u.block c (h.foot_lt c (.inr ⟨i, hi, hc⟩)) (fun q => h.np i hi (q ▸ hc)))
  · intro i s hi
    show (if i = f then (fun _ => 0) else S.N i) s < 17
    split
    · show 0 < 17
      omega
    · exact h.to i s hi
  · intro i hi
    show (if i = f then 0 else S.L i) ≤ 6
    split
    · omega
    · exact h.le i hi
  · intro i j b hi hj q1 q2
    change (updN S.P f (newNd k mo) i).m = some b at q1
    change (updN S.P f (newNd k mo) j).m = some b at q2
    by_cases e : i = f
    · subst e
      rw [updN_same] at q1
      by_cases e' : j = i
      · exact e'.symm
      · rw [updN_ne _ _ _ _ e'] at q2
        exact absurd q2 ((hm b q1).2.2 j hj)
    · by_cases e' : j = f
      · subst e'
        rw [updN_same] at q2
        rw [updN_ne _ _ _ _ e] at q1
        exact absurd q1 ((hm b q2).2.2 i hi)
      · rw [updN_ne _ _ _ _ e] at q1
        rw [updN_ne _ _ _ _ e'] at q2
        exact h.ap i j b hi hj q1 q2
  · intro i hi
    show (updN S.P f (newNd k mo) i).m ≠ some p
    by_cases e : i = f
    · subst e
      rw [updN_same]
      intro q
      exact (hm p q).2.1 rfl
    · rw [updN_ne _ _ _ _ e]; exact h.np i hi
  · intro i hi q
    change (updN S.P f (newNd k mo) i).k = 2 at q
    show (updN S.P f (newNd k mo) i).m.isSome = true
    by_cases e : i = f
    · subst e; rw [updN_same] at q ⊢; exact hk q
    · rw [updN_ne _ _ _ _ e] at q ⊢; exact h.dir i hi q
  · show (updN S.P f (newNd k mo) 1).k = 2
    rw [updN_ne _ _ _ _ (fun e => hf1 e.symm)]; exact h.root
  · show (updN S.P f (newNd k mo) 0).k = 0
    rw [updN_ne _ _ _ _ (fun e => h2 e.symm)]; exact h.zero


theorem Rel.new {S : Sg} {F : Fs} (R : Rel S F) (f : Nat) (k : Int) (mo : Option Nat) (h0 : (F.P f).Q = []) : Rel (S.new f k mo) (F.at_ f (Fn.nu k)) := by
  refine ⟨R.d, R.T, fun j hj => ?_, fun j hj => ?_, fun j hj s => ?_⟩
  · show NdR (updN S.P f (newNd k mo) j) _
    rw [Fs.at_P]
    by_cases e : j = f
    · subst e; rw [updN_same, if_pos rfl]; exact NdR.nu k mo
    · rw [updN_ne _ _ _ _ e, if_neg e]; exact R.P j hj
  · show (if j = f then 0 else S.L j) = _
    rw [Fs.at_P]
    split
    · rfl
    · exact R.L j hj
  · show (if j = f then (fun _ => 0) else S.N j) s = _
    rw [Fs.at_P]
    split
    · rfl
    · exact R.N j hj s

/-- What newNode makes of either kind. -/
theorem newany (kind : Int) (hk : kind = 1 ∨ kind = 2) (w : World) :
    Calls Tryz.prog 51 #[.int .i64 kind] w fun e w' => ∃ mo : Option Nat, e = .returned (.agg (nodeC kind 1 (.map mo)).toArray) ∧ (kind = 2 → mo.isSome = true) ∧ (∀ b, mo = some b → w'.heap[b]? = some (.map #[] 0) ∧ w.heap.size ≤ b) ∧ Below w.heap.size w w' := by
  rcases hk with rfl | rfl
  · refine (newfile w).mono ?_
    rintro e w' ⟨rfl, h⟩
    exact ⟨none, rfl, fun q => by omega, fun b q => by simp at q, h⟩
  · refine (newnode w).mono ?_
    rintro e w' ⟨rfl, h2, h3, h4⟩
    exact ⟨some (w.heap.size + 2), rfl, fun _ => rfl, fun b q => by injection q with q; subst q; exact ⟨h4, by omega⟩, h2⟩

theorem Rel.free {S : Sg} {F : Fs} (R : Rel S F) : Free S.P F.free := by
  unfold Fs.free
  cases q : (List.range' 1 16).find? (fun i => decide ((F.P i).k = 0)) with
  | none =>
    refine .inl ⟨rfl, fun i h1 h2 => ?_⟩
    have := List.find?_eq_none.1 q i (by rw [List.mem_range'_1]; omega)
    rw [(R.P i h2).k]
    simpa using this
  | some i =>
    have h1 := List.find?_some q
    have h2 := List.mem_of_find?_eq_some q
    simp at h1
    rw [List.mem_range'_1] at h2
    refine .inr ⟨by show 1 ≤ i; omega, by show i < 17; omega, by show (S.P i).k = 0; rw [(R.P i (by omega)).k]; exact h1, fun j j1 j2 => ?_⟩
    change j < i at j2
    rw [(R.P j (by omega)).k]
    obtain ⟨_, l1, l2, e, hn⟩ := List.find?_eq_some_iff_append.1 q
    have hj : j ∈ l1 := by
      have hm : j ∈ List.range' 1 16 := by rw [List.mem_range'_1]; omega
      rw [e] at hm
      rcases List.mem_append.1 hm with h | h
      · exact h
      · have hs : (List.range' 1 16).Pairwise (· < ·) := List.pairwise_lt_range'
        rw [e] at hs
        rcases List.mem_cons.1 h with h | h
        · omega
        · have := (List.pairwise_cons.1 (List.pairwise_append.1 hs).2.1).1 j h
          omega
    have := hn j hj
    simpa using this

end Go.Proofs.YtoknhcjneliboaaGreat

/- What Make does to any system. -/
namespace Go.Proofs.YtoknhcjneliboaaGreat
open Go.RowKit Go.ChangeMaps Go.MapKept
set_option linter.unusedVariables false
set_option maxRecDepth 20000

/-- What Make of a directory comes to. -/
def MadD (S : Sg) (p f : Nat) (w w' : World) (e : Ending) : Except Int (List Nat × List UInt8 × Nat) → Prop
  | .error er => e = .returned (.tuple #[.int .i64 0, .int .i64 er]) ∧ Sy w' p S ∧ Below w.heap.size w w'
  | .ok (y, s, _) => ∃ b, e = .returned (.tuple #[.int .i64 (f : Int), .int .i64 0]) ∧ w.heap.size ≤ b ∧ Sy w' p ((S.new f 2 (some b)).put (y.getLastD 0) s f) ∧ Upd (S.foot p) w w'

set_option maxHeartbeats 8000000 in
set_option maxRecDepth 20000 in
theorem make_dir (p : Nat) (S : Sg) (t : ByteArray) (w : World) (H : Sy w p S) (hT : Tree S) (hs : t.size ≤ 140737488355328) (f : Nat) (hf : Free S.P f) (hf0 : f ≠ 0) :
    Calls Tryz.prog 94 #[.pointer (some ⟨p, 0, none⟩), .string t, .int .i64 2] w fun e w' => MadD S p f w w' e (toNew S.L (wkS S t)) := by
  obtain ⟨R, gR⟩ : ∃ R, R = toNew S.L (wkS S t) := ⟨_, rfl⟩
  rw [← gR]
  have k0 := hid H.usable
  have k1 := hid (tonew_any p S t w H hT hs)
  rw [← gR] at k1
  have HS := hid H
  have hf17 : f < 17 ∧ (S.P f).k = 0 := by
    rcases hf with ⟨e, _⟩ | ⟨_, h2, h3, _⟩
    · exact absurd e hf0
    · exact ⟨h2, h3⟩
  have GR := hid gR
  have HF := hid hf
  clear H gR hf
  go_enter Tryz.func94, Tryz.ntmps94
  go_wp2_with fail
  refine k0.out.mono ?_
  rintro e w1 ⟨rfl, rfl⟩
  clear k0
  go_wp2_with fail
  refine k1.out.mono ?_
  rintro e w2 ⟨v, rfl, hb2, hv⟩
  have HB2 := hid hb2
  clear k1 hb2
  cases R with
  | error er =>
    obtain rfl : v = _ := hv
    have her : ¬ er = 0 := toNew_err GR.out.symm
    go_wp2_with fail
    go_ret2
    exact ⟨rfl, HS.out.grow (HB2.out.trans ((one_new w2 _).mono HB2.out.size)), HB2.out.trans ((one_new w2 _).mono HB2.out.size)⟩
  | ok q =>
    obtain ⟨y, s, n⟩ := q
    obtain ⟨hr, hn0, hL⟩ := toNew_ok GR.out.symm
    obtain ⟨u, rfl, yv, nm, rfl, hnm, hown⟩ := hv
    obtain ⟨d, hd, hd17, hdk, hnd, hsn, hsl⟩ := wkS_ok HS.out hr
    obtain ⟨gy, cy, rfl, hy0, hgy, hcy, hyc, hcm⟩ := last_own hown hd
    have hdL : y.getLastD 0 = d := by rw [List.getLastD_eq_getLast?, hd]; rfl
    rw [hdL] at hL
    subst hn0
    have HNM := hid hnm
    have HD := hid (And.intro hd17 (And.intro hdk (And.intro hnd.symm (And.intro hL (And.intro hdL (And.intro hsl hsn))))))
    have hgb := (hown.lt gy rfl).1
    obtain ⟨W3, g3⟩ : ∃ W3, W3 = w2.alloc (Obj.cells #[.slice (some ⟨gy, 0, none⟩) y.length cy, .string nm, .int .i64 0] 184) := ⟨_, rfl⟩
    have hP3 : W3.heap[w2.heap.size]? = some (.cells #[.slice (some ⟨gy, 0, none⟩) y.length cy, .string nm, .int .i64 0] 184 (0, 0)) := by rw [g3]; exact heap_alloc_new w2 _
    have hB3 : Below w1.heap.size w1 W3 := by rw [g3]; exact HB2.out.trans ((one_new w2 _).mono HB2.out.size)
    have hZ3 : w2.heap.size < W3.heap.size ∧ gy < W3.heap.size := by rw [g3]; simp; omega
    have hC3 : W3.cell? ⟨gy, y.length - 1, none⟩ = some (.int .i64 (d : Int)) := by rw [g3]; exact ((one_new w2 _).cell (p := ⟨gy, y.length - 1, none⟩) hgy).trans hcy
    have hS3 : Sy W3 p S := HS.out.grow hB3
    obtain ⟨bm, gbm⟩ : ∃ bm, bm = W3.heap.size + 2 := ⟨_, rfl⟩
    have GBM := hid gbm
    have HBM : Hid (w1.heap.size ≤ bm ∧ bm ≠ p ∧ ∀ j, j < 17 → (S.P j).m ≠ some bm) := hid ⟨by have := hB3.size; omega, by have := hS3.lt; omega, fun j hj e => by have := hS3.foot_lt _ (.inr ⟨j, hj, e⟩); omega⟩
    clear gbm
    clear hr hnd hsn hsl hd hdk hd17 hown hcy hnm hL hdL
    obtain ⟨a0, a1, a2, _, _, _⟩ := plc_cells hP3
    have hf1 : ¬ (f : Int) = 0 := by omega
    have k3 : Hid (Calls Tryz.prog 130 #[.pointer (some ⟨p, 0, none⟩)] W3 fun e w' => e = .returned (.int .i64 (f : Int)) ∧ w' = W3) := by
      refine hid ((freen_any p S W3 hS3).mono ?_)
      rintro e w' ⟨⟨n, rfl, h⟩, rfl⟩
      rw [h.uniq HF.out]
      exact ⟨rfl, rfl⟩
    obtain ⟨N1, gN⟩ : ∃ N1, N1 = nodeC 2 1 (.map (some bm)) := ⟨_, rfl⟩
    have l1 : Hid (N1.length = 107) := by rw [gN]; exact nodeC_len _ _ _
    have o1 : Hid (N1.toArray.all (·.oneCell') = true) := by rw [gN]; exact nodeC_one _ _ _
    have csz : Hid ((Tryz.prog.info? 99).map (·.size) = some N1.toArray.size) := by rw [csizeNode, List.size_toArray, l1.out]; exact hid rfl
    have kn : Hid (Calls Tryz.prog 51 #[.int .i64 2] W3.drew fun e w' => e = .returned (.agg N1.toArray) ∧ Hid (Below W3.heap.size W3 w') ∧ Hid (w'.heap[bm]? = some (.map #[] 0))) := by
      refine hid ((newnode W3.drew).mono ?_)
      rintro e w' ⟨rfl, h, _, h4⟩
      rw [show W3.drew.heap.size + 2 = bm from GBM.out.symm] at h4 ⊢
      rw [gN]
      exact ⟨rfl, hid ((Below.refl _ W3).drew.trans h), hid h4⟩
    have HP : Hid (∀ W, Hid (Below W3.heap.size W3 W) → W.there p (1 + f * 107) N1.length) := hid (fun W hW => by rw [l1.out]; exact (hS3.grow hW.out).th f hf17.1)
    have hf0' : (0 : Int) ≤ (f : Int) := by omega
    have hf2 : (f : Int) < 17 := by omega
    have HS3 := hid hS3
    have HP3 := hid hP3
    have HB3 := hid hB3
    have HZ3 := hid hZ3
    have HC3 := hid hC3
    have GN := hid gN
    clear hS3 hP3 hB3 hZ3 hC3 gN
    go_wp2_with fail
    rw [← g3]
    clear g3
    refine k3.out.mono ?_
    rintro e w4 ⟨rfl, rfl⟩
    clear k3
    go_wp2_with fail
    go_region_held3 (fun _ => True) (trivial) ((go_at_call 51; refine kn.out.mono ?_; rintro e w5 ⟨rfl, hb5, hm5⟩; have hst := run_cells_mid (P := Tryz.prog) w5 p (1 + f * 107) N1 (HP.out w5 hb5) o1.out))
    obtain ⟨W6, g6⟩ : ∃ W6, W6 = w5.setCells p (1 + f * 107) N1 := ⟨_, rfl⟩
    rw [← g6]
    have hS6 : Sy W6 p (S.new f 2 (some bm)) := by rw [g6, GN.out]; exact (HS3.out.grow hb5.out).new f hf17.1 hf0 hf17.2 2 (some bm) (fun _ => rfl) (fun b hb => by injection hb with hb; subst hb; exact ⟨hm5.out, HBM.out.2.1, HBM.out.2.2⟩)
    have u6 : Upd (· = p) w5 W6 := by rw [g6]; exact upd_setCells _ _ _ _
    have hpl := HS.out.lt
    have hb1s := HB2.out.size
    have hP6 : W6.heap[w2.heap.size]? = some (.cells #[.slice (some ⟨gy, 0, none⟩) y.length cy, .string nm, .int .i64 0] 184 (0, 0)) := u6.heap ((hb5.out.block _ HZ3.out.1).trans HP3.out) (by omega)
    have hC6 : W6.cell? ⟨gy, y.length - 1, none⟩ = some (.int .i64 (d : Int)) := (World.cell?_of_block (a := ⟨gy, y.length - 1, none⟩) (u6.block gy (Nat.lt_of_lt_of_le HZ3.out.2 hb5.out.size) (by omega))).trans ((hb5.out.cell (p := ⟨gy, y.length - 1, none⟩) HZ3.out.2).trans HC3.out)
    have hG6 : gy < W6.heap.size := Nat.lt_of_lt_of_le (Nat.lt_of_lt_of_le HZ3.out.2 hb5.out.size) u6.size
    obtain ⟨d17, dk, dn, dl, dL, dsl, dsn⟩ := HD.out
    have hdf : d ≠ f := fun e => by rw [e, hf17.2] at dk; omega
    have hnmz : nm.size ≤ 6 := by have := bl_len nm; rw [HNM.out] at this; omega
    have k6 := hid (give_any p (S.new f 2 (some bm)) W6 hS6 gy y.length cy d nm 0 f hy0 hC6 hG6 hyc hcm d17 (by show (updN S.P f _ d).k = 2; rw [updN_ne _ _ _ _ hdf]; exact dk) (by show (if d = f then (fun _ => 0) else S.N d) (bl nm) = 0; rw [if_neg hdf, HNM.out]; exact dn) (by show (if d = f then 0 else S.L d) < 6; rw [if_neg hdf]; exact dl) hf17.1 hf0 (by omega))
    have hU6 : Upd (S.foot p) w1 W6 := (Upd.of_below (HB3.out.trans (hb5.out.mono HB3.out.size))).trans u6 (fun x _ hx => .inl hx)
    have HU6 := hid hU6
    have HDF := hid hdf
    obtain ⟨b0, b1, b2, _, _, _⟩ := plc_cells hP6
    have HDL := hid dL
    clear hS6 u6 hP6 hC6 hG6 d17 dk dn dl dL dsl dsn hdf hnmz hU6 g6 a0 a1 a2 hst kn HP hb1s hpl hgb
    go_wp2_with fail
    refine k6.out.mono ?_
    rintro e w7 ⟨rfl, h7, u7⟩
    have H7 := hid h7
    have U7 := hid u7
    clear k6 h7 u7
    go_wp2_with fail
    go_ret2
    refine ⟨bm, rfl, HBM.out.1, ?_, HU6.out.trans U7.out (fun x _ hx => .inr ⟨d, (HD.out).1, ?_⟩)⟩
    · rw [HDL.out, ← HNM.out]; exact H7.out
    · have : ((S.new f 2 (some bm)).P d).m = (S.P d).m := by show (updN S.P f _ d).m = _; rw [updN_ne _ _ _ _ HDF.out]
      rw [← this]; exact hx


end Go.Proofs.YtoknhcjneliboaaGreat
