/- Texts of this seat, merged. -/
import Derived.Test.YtliekndkjjaldaaGreatNMg17
import Derived.Test.YtliekndkjjaldaaGreatNMg7
import Derived.Laws.AppendOwnNone

/- What Write does to any system, its errors too. -/
namespace Go.Proofs.YtliekndkjjaldaaGreat
open Go.RowKit Go.ChangeMaps Go.MapKept
set_option linter.unusedVariables false
set_option maxRecDepth 20000

set_option maxHeartbeats 2000000 in
theorem write_err (p : Nat) (S : Sg) (F : Fs) (w : World) (H : Sy w p S) (R : Rel S F) (n off : Int) (a : Option Addr) (len c : Nat) (E : Int) (hE : ¬ E = 0) (he : F.file n = E) :
    Calls Tryz.prog 35 #[.pointer (some ⟨p, 0, none⟩), .int .i64 n, .int .i64 off, .slice a len c] w fun e w' => e = .returned (.tuple #[.int .i64 0, .int .i64 E]) ∧ w' = w := by
  have k0 := hid (file_no p S F w H R n (by rw [he]; exact hE))
  rw [he] at k0
  clear H R he
  go_enter Tryz.func35, Tryz.ntmps35
  go_wp2_with fail
  refine k0.out.mono ?_
  rintro e w1 ⟨rfl, rfl⟩
  clear k0
  go_wp2_with fail
  go_ret2
  exact ⟨rfl, rfl⟩

set_option maxHeartbeats 4000000 in
theorem write_no (p : Nat) (S : Sg) (w : World) (H : Sy w p S) (hT0 : S.T 0 = false) (i : Nat) (h1 : 1 ≤ i) (hi : i < 17) (hk : (S.P i).k = 1) (off : Int) (a : Option Addr) (len c : Nat) (E : Int)
    (he : (off < 0 ∧ E = 22) ∨ (0 ≤ off ∧ len = 0 ∧ E = 0) ∨ (0 ≤ off ∧ 0 < len ∧ 96 < off + (len : Int) ∧ E = 27) ∨ (0 ≤ off ∧ 0 < len ∧ off + (len : Int) ≤ 96 ∧ ¬ need (max (S.P i).s (off.toNat + len)) - need (S.P i).s ≤ (frL S.T).length ∧ E = 28)) :
    Calls Tryz.prog 35 #[.pointer (some ⟨p, 0, none⟩), .int .i64 (i : Int), .int .i64 off, .slice a len c] w fun e w' => e = .returned (.tuple #[.int .i64 0, .int .i64 E]) ∧ Below w.heap.size w w' := by
  have k1 := hid (file_yes p S w H i h1 hi hk)
  rcases he with ⟨ho, rfl⟩ | ⟨ho, rfl, rfl⟩ | ⟨ho, hl, h96, rfl⟩ | ⟨ho, hl, h96, hf, rfl⟩
  · clear H
    go_enter Tryz.func35, Tryz.ntmps35
    go_wp2_with fail
    refine k1.out.mono ?_
    rintro e w1 ⟨rfl, rfl⟩
    clear k1
    go_wp2_with fail
    go_ret2
    exact ⟨rfl, Below.refl _ _⟩
  · have a1 : ¬ off < 0 := by omega
    clear H
    go_enter Tryz.func35, Tryz.ntmps35
    go_wp2_with fail
    refine k1.out.mono ?_
    rintro e w1 ⟨rfl, rfl⟩
    clear k1
    go_wp2_with fail
    go_ret2
    exact ⟨rfl, Below.refl _ _⟩
  · have a1 : ¬ off < 0 := by omega
    have a2 : ¬ (len : Int) = 0 := by omega
    clear H
    by_cases h2 : 96 < off
    · go_enter Tryz.func35, Tryz.ntmps35
      go_wp2_with fail
      refine k1.out.mono ?_
      rintro e w1 ⟨rfl, rfl⟩
      clear k1
      go_wp2_with fail
      go_ret2
      exact ⟨rfl, Below.refl _ _⟩
    · have a4 : (96 : Int) - off < (len : Int) := by omega
      have a6 : IntKind.i64.wrap ((96 : Int) - off) = (96 : Int) - off := by rw [IntKind.wrap_i64]; omega
      have a7 : off ≤ 96 := by omega
      go_enter Tryz.func35, Tryz.ntmps35
      go_wp2_with fail
      refine k1.out.mono ?_
      rintro e w1 ⟨rfl, rfl⟩
      clear k1
      go_wp2_with fail
      go_ret2
      exact ⟨rfl, Below.refl _ _⟩
  · obtain ⟨o, rfl⟩ : ∃ o : Nat, off = (o : Int) := ⟨off.toNat, by omega⟩
    have a1 : ¬ (o : Int) < 0 := by omega
    have a2 : ¬ (len : Int) = 0 := by omega
    have a3 : ¬ (96 : Int) < (o : Int) := by omega
    have a4 : ¬ (96 : Int) - (o : Int) < (len : Int) := by omega
    have a5 : IntKind.i64.wrap ((o : Int) + (len : Int)) = (o : Int) + (len : Int) := by rw [IntKind.wrap_i64]; omega
    have a6 : IntKind.i64.wrap ((96 : Int) - (o : Int)) = (96 : Int) - (o : Int) := by rw [IntKind.wrap_i64]; omega
    have a7 : (o : Int) ≤ 96 := by omega
    have a8 : (0 : Int) ≤ (o : Int) := by omega
    have k2 : Hid (Calls Tryz.prog 78 #[.pointer (some ⟨p, 0, none⟩), .pointer (some ⟨p, 1 + i * 107, none⟩), .int .i64 ((o : Int) + (len : Int))] w fun e w' => e = .returned (.int .i64 28) ∧ Below w.heap.size w w') := by
      have := grow_all p S w H hT0 i hi (o + len) (by omega)
      rw [show ((o + len : Nat) : Int) = (o : Int) + (len : Int) by omega] at this
      refine hid (this.mono ?_)
      rintro e w' (⟨_, rfl, h⟩ | ⟨h, _⟩)
      · exact ⟨rfl, h⟩
      · exact absurd h (by simpa using hf)
    clear H hf
    go_enter Tryz.func35, Tryz.ntmps35
    go_wp2_with fail
    refine k1.out.mono ?_
    rintro e w1 ⟨rfl, rfl⟩
    clear k1
    go_wp2_with fail
    refine k2.out.mono ?_
    rintro e w2 ⟨rfl, hb⟩
    have HB := hid hb
    clear k2 hb
    go_wp2_with fail
    go_ret2
    exact ⟨rfl, HB.out⟩

theorem fits_rel {S : Sg} {F : Fs} (R : Rel S F) (H : FOk F) (i : Nat) (hi : i < 17) (s : Nat) : F.fits i s = decide (need s - need (S.P i).s ≤ (frL S.T).length) := by
  unfold Fs.fits
  rw [H.B i, frees_frL, ← R.T, (R.P i hi).s]
  rfl

theorem foot_bl {S : Sg} {p i : Nat} {x : Nd} {T : Nat → Bool} (hm : x.m = (S.P i).m) (b : Nat) (h : (S.bl i x T).foot p b) : S.foot p b := by
  rcases h with h | ⟨j, hj, h⟩
  · exact .inl h
  · refine .inr ⟨j, hj, ?_⟩
    rw [← h]
    show _ = (updN S.P i x j).m
    by_cases e : j = i
    · subst e; rw [updN_same, hm]
    · rw [updN_ne _ _ _ _ e]

theorem pwrite (p : Nat) (F : Fs) (G : Nat → Prop) (w : World) (H : Pf w p F G) (hF : FOk F) (n off : Int) (a : Option Addr) (len c : Nat) (zs : List Int) (hsrc : Src w a len zs) (ha : ∀ b o, a = some ⟨b, o, none⟩ → ¬ G b) :
    Calls Tryz.prog 35 #[.pointer (some ⟨p, 0, none⟩), .int .i64 n, .int .i64 off, .slice a len c] w fun e w' => e = .returned (.tuple #[.int .i64 (F.write n off zs).2.1, .int .i64 (F.write n off zs).2.2]) ∧ PfTo w p (F.write n off zs).1 G w' := by
  have HP := H
  obtain ⟨S, HS, R, hG⟩ := H
  have hzl := hsrc.1
  by_cases hf : F.file n ≠ 0
  · have e : F.write n off zs = (F, 0, F.file n) := by unfold Fs.write; rw [if_pos hf]
    rw [e]
    refine (write_err p S F w HS R n off a len c _ hf rfl).mono ?_
    rintro e w' ⟨rfl, rfl⟩
    exact ⟨rfl, PfTo.same HP (Below.refl _ _)⟩
  have hf0 := Decidable.not_not.1 hf
  obtain ⟨fk, f1, f2⟩ := Fs.file_ok hF hf0
  obtain ⟨i, rfl⟩ : ∃ i : Nat, n = (i : Int) := ⟨n.toNat, by omega⟩
  have hi : i < 17 := by omega
  have fk : (F.P i).k = 1 := fk
  have r := R.P i hi
  have hk : (S.P i).k = 1 := r.k.trans fk
  have hT0 : S.T 0 = false := by rw [R.T]; exact hF.T0
  have hno := fun E h => write_no p S w HS hT0 i (by omega) hi hk off a len c E h
  by_cases ho : off < 0
  · have e : F.write (i : Int) off zs = (F, 0, 22) := by unfold Fs.write; rw [if_neg hf, if_pos ho]
    rw [e]
    refine (hno 22 (.inl ⟨ho, rfl⟩)).mono ?_
    rintro e w' ⟨rfl, h⟩
    exact ⟨rfl, PfTo.same HP h⟩
  by_cases hl : zs = []
  · have e : F.write (i : Int) off zs = (F, 0, 0) := by unfold Fs.write; rw [if_neg hf, if_neg ho, if_pos hl]
    rw [e]
    refine (hno 0 (.inr (.inl ⟨by omega, by rw [← hzl, hl]; rfl, rfl⟩))).mono ?_
    rintro e w' ⟨rfl, h⟩
    exact ⟨rfl, PfTo.same HP h⟩
  have hl0 : 0 < len := by
    rcases Nat.eq_zero_or_pos len with q | q
    · exact absurd (List.eq_nil_of_length_eq_zero (by omega)) hl
    · exact q
  by_cases h96 : 96 < off + (zs.length : Int)
  · have e : F.write (i : Int) off zs = (F, 0, 27) := by unfold Fs.write; rw [if_neg hf, if_neg ho, if_neg hl, if_pos h96]
    rw [e]
    refine (hno 27 (.inr (.inr (.inl ⟨by omega, hl0, by omega, rfl⟩)))).mono ?_
    rintro e w' ⟨rfl, h⟩
    exact ⟨rfl, PfTo.same HP h⟩
  have hfr := fits_rel R hF i hi (max (F.P i).c.length (off.toNat + zs.length))
  by_cases hfit : F.fits i (max (F.P i).c.length (off.toNat + zs.length)) = false
  · have e : F.write (i : Int) off zs = (F, 0, 28) := by
      unfold Fs.write; rw [if_neg hf, if_neg ho, if_neg hl, if_neg h96]; exact if_pos hfit
    rw [e]
    refine (hno 28 (.inr (.inr (.inr ⟨by omega, hl0, by omega, ?_, rfl⟩)))).mono ?_
    · rw [hfit] at hfr
      have := of_decide_eq_false hfr.symm
      rw [r.s, ← hzl]
      rw [r.s] at this
      exact this
    · rintro e w' ⟨rfl, h⟩
      exact ⟨rfl, PfTo.same HP h⟩
  · obtain ⟨o, rfl⟩ : ∃ o : Nat, off = (o : Int) := ⟨off.toNat, by omega⟩
    have e : F.write (i : Int) (o : Int) zs = ((F.grow i (max (F.P i).c.length (o + zs.length))).ct i (Fs.lay (F.P i).c o zs), (zs.length : Int), 0) := by
      unfold Fs.write; rw [if_neg hf, if_neg ho, if_neg hl, if_neg h96]; exact if_neg hfit
    rw [e]
    have hfit' : F.fits i (max (F.P i).c.length (o + zs.length)) = true := by simpa using hfit
    have hfr' := hfr
    rw [show (o : Int).toNat = o from rfl, hfit'] at hfr'
    have hle := of_decide_eq_true hfr'.symm
    have hc := hF.c i
    refine (write_gen p S w HS hT0 i (by omega) hi hk (by rw [r.s]; exact hc.1) o len c a zs hsrc (fun b q hq e => ha b q hq (by rw [e]; exact hG p (.inl rfl))) hl0 (by omega) (by rw [r.s, ← hzl]; rw [r.s] at hle; exact hle)).mono ?_
    rintro e w' ⟨rfl, B', q1, q2, q3, u⟩
    refine ⟨by rw [hzl], ?_⟩
    obtain ⟨y1, y2⟩ := lay_row (b := (S.P i).b) (c := (F.P i).c) (zs := zs) (off := o) (HS.ok i hi).b (by rw [← r.s]; exact r.b) (by rw [← r.s]; exact r.z) (by omega) hc.1
    have hM : max (S.P i).s (o + len) = max (F.P i).c.length (o + zs.length) := by rw [r.s, hzl]
    rw [hM] at q1 q2
    exact Into.to ⟨_, q1, R.grown hF i hi _ (by omega) B' _ _ y1 y2 (lay_len _ _ _) hfit' q2 q3, fun x hx => foot_bl (S := S) (x := { S.P i with B := B', s := max (F.P i).c.length (o + zs.length), b := splice (S.P i).b o zs }) rfl x hx, upd_p u⟩ hG

end Go.Proofs.YtliekndkjjaldaaGreat

/- What cut and Resize do to any system. -/
namespace Go.Proofs.YtliekndkjjaldaaGreat
open Go.RowKit Go.ChangeMaps Go.MapKept
set_option linter.unusedVariables false
set_option maxRecDepth 20000

set_option maxHeartbeats 4000000 in
theorem cut_gen (p : Nat) (S : Sg) (w : World) (H : Sy w p S) (i : Nat) (hi : i < 17) (hs : (S.P i).s ≤ 96) (size : Nat) (hz : size < (S.P i).s) (bs : List Nat) (hbl : bs.length = need (S.P i).s - need size)
    (hbb : ∀ j, j < need (S.P i).s - need size → (S.P i).B.getD (need size + j) 0 = ((bs.getD j 0 : Nat) : Int)) (hbt : ∀ b ∈ bs, b < 25) :
    Calls Tryz.prog 80 #[.pointer (some ⟨p, 0, none⟩), .pointer (some ⟨p, 1 + i * 107, none⟩), .int .i64 (size : Int)] w fun e w' => e = .returned (.tuple #[]) ∧ Sy w' p (S.bl i { S.P i with s := size, b := splice (S.P i).b size (List.replicate (96 - size) 0) } (relT S.d bs S.T)) ∧ Upd (· = p) w w' := by
  obtain ⟨x, gx⟩ : ∃ x, x = S.P i := ⟨_, rfl⟩
  obtain ⟨TR, gT⟩ : ∃ TR, TR = relT S.d bs S.T := ⟨_, rfl⟩
  have hrel := fun W (hW : Sy W p S) => release_gen p S W hW i hi (need size)
  rw [← gT, ← gx]
  have etk : S.tk TR = S.bl i x TR := by
    have := (S.tk TR).bl_self i
    rw [gx]
    exact this.symm
  rw [← gx] at hs hz hbl hbb
  have c3 := H.s i hi
  rw [← gx] at c3
  obtain ⟨q0, g0⟩ : ∃ q0, q0 = need size := ⟨_, rfl⟩
  obtain ⟨q1, g1⟩ : ∃ q1, q1 = need x.s := ⟨_, rfl⟩
  have h01 : q0 ≤ q1 := by rw [g0, g1]; exact need_mono (by omega)
  have h16 : q1 ≤ 6 := by rw [g1]; exact need_le hs
  rw [← g1] at hbl hbb
  rw [← g0] at hbl hbb hrel
  obtain ⟨s0, gs⟩ : ∃ s0, s0 = x.s := ⟨_, rfl⟩
  rw [← gs] at c3 hs hz
  have K0 : Hid (∀ W, Calls Tryz.prog 111 #[.int .i64 (size : Int)] W fun e w' => e = .returned (.int .i64 (q0 : Int)) ∧ w' = W) := by
    refine hid (fun W => ?_)
    have := needed_any size (by omega) W
    rw [show (size + 15) / 16 = q0 by rw [g0]; rfl] at this
    exact this
  have K1 : Hid (∀ W, Calls Tryz.prog 111 #[.int .i64 (s0 : Int)] W fun e w' => e = .returned (.int .i64 (q1 : Int)) ∧ w' = W) := by
    refine hid (fun W => ?_)
    have := needed_any s0 (by omega) W
    rw [show (s0 + 15) / 16 = q1 by rw [g1, gs]; rfl] at this
    exact this
  have K2 : Hid (Calls Tryz.prog 114 #[.pointer (some ⟨p, 0, none⟩), .slice (some (if 6 = q0 then ⟨p, 1 + i * 107 + 100, none⟩ else ⟨p, 1 + i * 107 + 100 + q0, none⟩)) (q1 - q0) (6 - q0)] w.drew fun e w' => e = .returned (.tuple #[]) ∧ Hid (Sy w' p (S.bl i x TR) ∧ Upd (· = p) w w')) := by
    obtain ⟨o, go⟩ : ∃ o, o = if 6 = q0 then 1 + i * 107 + 100 else 1 + i * 107 + 100 + q0 := ⟨_, rfl⟩
    have hA : (if 6 = q0 then (⟨p, 1 + i * 107 + 100, none⟩ : Addr) else ⟨p, 1 + i * 107 + 100 + q0, none⟩) = ⟨p, o, none⟩ := by
      rw [go]; split <;> rfl
    have ho : 0 < q1 - q0 → o = 1 + i * 107 + (100 + q0) := fun h => by
      rw [go, if_neg (by omega)]; omega
    rw [hA]
    have k := hrel w.drew (H.hp rfl) (q1 - q0) (6 - q0) o ho (by omega) (by omega) (by omega) bs hbl (by rw [← gx]; exact hbb) hbt
    rw [← gT, etk] at k
    refine hid (k.mono ?_)
    rintro e w' ⟨rfl, h1, u⟩
    exact ⟨rfl, hid ⟨h1, ((Upd.refl (· = p) w).drewN 1).trans u (fun _ _ h => h)⟩⟩
  have a2 : (0 : Int) ≤ (q0 : Int) := by omega
  have a3 : (q0 : Int) ≤ (q1 : Int) := by omega
  have a4 : (q1 : Int) ≤ 6 := by omega
  have a5 : (0 : Int) ≤ (size : Int) := by omega
  have a6 : (size : Int) ≤ 96 := by omega
  have GS := hid gs
  have HS0 := hid (And.intro hs hz)
  clear H g0 g1 gs hs hz hrel hbl hbb hbt etk gT
  have KC : Hid (∀ W, Sy W p (S.bl i x TR) → W.cell? ⟨p, 1 + i * 107 + 3, none⟩ = some (.int .i64 (s0 : Int))) := by
    refine hid (fun W h => ?_)
    have := h.s i hi
    rw [show (S.bl i x TR).P i = x from updN_same _ _ _] at this
    rw [GS.out]
    exact this
  by_cases e6 : 6 = q0
  · rw [if_pos e6] at K2
    subst e6
    obtain rfl : q1 = 6 := by omega
    have K0 : Hid (∀ W, Calls Tryz.prog 111 #[.int .i64 (size : Int)] W fun e w' => e = .returned (.int .i64 6) ∧ w' = W) := K0
    have K1 : Hid (∀ W, Calls Tryz.prog 111 #[.int .i64 (s0 : Int)] W fun e w' => e = .returned (.int .i64 6) ∧ w' = W) := K1
    rw [Nat.sub_self] at K2
    go_enter Tryz.func80, Tryz.ntmps80
    go_wp2_with fail
    go_region_held3 (fun W => W.cell? ⟨p, 1 + i * 107 + 3, none⟩ = some (.int .i64 (s0 : Int))) (go_keep) (first | (go_at_call 111; first | (refine (K0.out _).mono ?_; rintro e w' ⟨rfl, rfl⟩) | (refine (K1.out _).mono ?_; rintro e w' ⟨rfl, rfl⟩)) | (go_at_call 114; refine K2.out.mono ?_; rintro e w2 ⟨rfl, H2⟩; have c4 := KC.out w2 H2.out.1))
    obtain ⟨h1, u2⟩ := H2.out
    obtain ⟨C, hC, hSl⟩ := h1.blk
    have hP2 : (S.bl i x TR).P i = x := updN_same _ _ _
    have hcl : ∀ j, j < 96 - size → (w2.cell? ⟨p, 1 + i * 107 + 4 + size + j, none⟩).isSome = true := fun j hj => by
      have := h1.b i hi (size + j) (by omega)
      rw [show 1 + i * 107 + (4 + (size + j)) = 1 + i * 107 + 4 + size + j by omega] at this
      rw [this]
      rfl
    have hclr := fun ty => Lib.run_clear_slice (P := Tryz.prog) w2 30 5 ty (.int .u8 0) Tryz.underlying30 Tryz.zeroValue5 rfl rfl p (1 + i * 107 + 4 + size) (96 - size) (96 - size) (by have := HS0.out; omega) hcl (fun j _ => h1.fz _)
    obtain ⟨W3, g3⟩ : ∃ W3, W3 = w2.setCells p (1 + i * 107 + 4 + size) (List.replicate (96 - size) (.int .u8 0)) := ⟨_, rfl⟩
    rw [← g3] at hclr
    have u3 : Upd (· = p) w2 W3 := by rw [g3]; exact upd_setCells _ _ _ _
    have hS3 : Sy W3 p _ := h1.over i hi C hC hSl size (List.replicate (96 - size) 0) (by have := HS0.out; simp; omega) (by
      rw [g3, show 1 + i * 107 + (4 + size) = 1 + i * 107 + 4 + size by omega, List.map_replicate]
      exact heap_setCells p 58 _ _ w2 C hC (by rw [hSl.len]; have := HS0.out; simp; omega)) u3
    have e3 : (S.bl i x TR).at_ i (((S.bl i x TR).P i).over size (List.replicate (96 - size) 0)) = S.bl i { x with b := splice x.b size (List.replicate (96 - size) 0) } TR := by
      rw [hP2]
      unfold Sg.bl Sg.at_ Nd.over
      congr 1
      funext j
      by_cases e : j = i <;> simp [updN, e]
    rw [e3] at hS3
    have hS4 := hS3.sizeTo i hi size
    have e4 : (S.bl i { x with b := splice x.b size (List.replicate (96 - size) 0) } TR).at_ i (Nd.size ((S.bl i { x with b := splice x.b size (List.replicate (96 - size) 0) } TR).P i) size) = S.bl i { x with s := size, b := splice x.b size (List.replicate (96 - size) 0) } TR := by
      rw [show (S.bl i { x with b := splice x.b size (List.replicate (96 - size) 0) } TR).P i = { x with b := splice x.b size (List.replicate (96 - size) 0) } from updN_same _ _ _]
      unfold Sg.bl Sg.at_ Nd.size
      congr 1
      funext j
      by_cases e : j = i <;> simp [updN, e]
    rw [e4] at hS4
    have c5 := hS3.s i hi
    have f5 := hS3.fz (1 + i * 107 + 3)
    have HQ : Hid (Sy (W3.setCell ⟨p, 1 + i * 107 + 3, none⟩ (.int .i64 (size : Int))) p (S.bl i { x with s := size, b := splice x.b size (List.replicate (96 - size) 0) } TR) ∧ Upd (· = p) w (W3.setCell ⟨p, 1 + i * 107 + 3, none⟩ (.int .i64 (size : Int)))) :=
      hid ⟨hS4, (u2.trans u3 (fun _ _ h => h)).trans (Upd.setCell (F := (· = p)) W3 ⟨p, _, none⟩ _ rfl) (fun _ _ h => h)⟩
    have n96 : ¬ 96 = size := by have := HS0.out; omega
    have n0 : ¬ 96 - size = 0 := by have := HS0.out; omega
    clear h1 u2 hC hSl hP2 hcl u3 hS3 e3 hS4 e4 g3 H2 c4
    go_wp2_with fail
    go_end0
    exact ⟨rfl, HQ.out.1, HQ.out.2⟩
  · rw [if_neg e6] at K2
    go_enter Tryz.func80, Tryz.ntmps80
    go_wp2_with fail
    go_region_held3 (fun W => W.cell? ⟨p, 1 + i * 107 + 3, none⟩ = some (.int .i64 (s0 : Int))) (go_keep) (first | (go_at_call 111; first | (refine (K0.out _).mono ?_; rintro e w' ⟨rfl, rfl⟩) | (refine (K1.out _).mono ?_; rintro e w' ⟨rfl, rfl⟩)) | (go_at_call 114; refine K2.out.mono ?_; rintro e w2 ⟨rfl, H2⟩; have c4 := KC.out w2 H2.out.1))
    obtain ⟨h1, u2⟩ := H2.out
    obtain ⟨C, hC, hSl⟩ := h1.blk
    have hP2 : (S.bl i x TR).P i = x := updN_same _ _ _
    have hcl : ∀ j, j < 96 - size → (w2.cell? ⟨p, 1 + i * 107 + 4 + size + j, none⟩).isSome = true := fun j hj => by
      have := h1.b i hi (size + j) (by omega)
      rw [show 1 + i * 107 + (4 + (size + j)) = 1 + i * 107 + 4 + size + j by omega] at this
      rw [this]
      rfl
    have hclr := fun ty => Lib.run_clear_slice (P := Tryz.prog) w2 30 5 ty (.int .u8 0) Tryz.underlying30 Tryz.zeroValue5 rfl rfl p (1 + i * 107 + 4 + size) (96 - size) (96 - size) (by have := HS0.out; omega) hcl (fun j _ => h1.fz _)
    obtain ⟨W3, g3⟩ : ∃ W3, W3 = w2.setCells p (1 + i * 107 + 4 + size) (List.replicate (96 - size) (.int .u8 0)) := ⟨_, rfl⟩
    rw [← g3] at hclr
    have u3 : Upd (· = p) w2 W3 := by rw [g3]; exact upd_setCells _ _ _ _
    have hS3 : Sy W3 p _ := h1.over i hi C hC hSl size (List.replicate (96 - size) 0) (by have := HS0.out; simp; omega) (by
      rw [g3, show 1 + i * 107 + (4 + size) = 1 + i * 107 + 4 + size by omega, List.map_replicate]
      exact heap_setCells p 58 _ _ w2 C hC (by rw [hSl.len]; have := HS0.out; simp; omega)) u3
    have e3 : (S.bl i x TR).at_ i (((S.bl i x TR).P i).over size (List.replicate (96 - size) 0)) = S.bl i { x with b := splice x.b size (List.replicate (96 - size) 0) } TR := by
      rw [hP2]
      unfold Sg.bl Sg.at_ Nd.over
      congr 1
      funext j
      by_cases e : j = i <;> simp [updN, e]
    rw [e3] at hS3
    have hS4 := hS3.sizeTo i hi size
    have e4 : (S.bl i { x with b := splice x.b size (List.replicate (96 - size) 0) } TR).at_ i (Nd.size ((S.bl i { x with b := splice x.b size (List.replicate (96 - size) 0) } TR).P i) size) = S.bl i { x with s := size, b := splice x.b size (List.replicate (96 - size) 0) } TR := by
      rw [show (S.bl i { x with b := splice x.b size (List.replicate (96 - size) 0) } TR).P i = { x with b := splice x.b size (List.replicate (96 - size) 0) } from updN_same _ _ _]
      unfold Sg.bl Sg.at_ Nd.size
      congr 1
      funext j
      by_cases e : j = i <;> simp [updN, e]
    rw [e4] at hS4
    have c5 := hS3.s i hi
    have f5 := hS3.fz (1 + i * 107 + 3)
    have HQ : Hid (Sy (W3.setCell ⟨p, 1 + i * 107 + 3, none⟩ (.int .i64 (size : Int))) p (S.bl i { x with s := size, b := splice x.b size (List.replicate (96 - size) 0) } TR) ∧ Upd (· = p) w (W3.setCell ⟨p, 1 + i * 107 + 3, none⟩ (.int .i64 (size : Int)))) :=
      hid ⟨hS4, (u2.trans u3 (fun _ _ h => h)).trans (Upd.setCell (F := (· = p)) W3 ⟨p, _, none⟩ _ rfl) (fun _ _ h => h)⟩
    have n96 : ¬ 96 = size := by have := HS0.out; omega
    have n0 : ¬ 96 - size = 0 := by have := HS0.out; omega
    clear h1 u2 hC hSl hP2 hcl u3 hS3 e3 hS4 e4 g3 H2 c4
    go_wp2_with fail
    go_end0
    exact ⟨rfl, HQ.out.1, HQ.out.2⟩

end Go.Proofs.YtliekndkjjaldaaGreat

/- What Resize and Read do to any system. -/
namespace Go.Proofs.YtliekndkjjaldaaGreat
open Go.RowKit Go.ChangeMaps Go.MapKept
set_option linter.unusedVariables false
set_option maxRecDepth 20000

/-- A file that is cut. -/
theorem Rel.cut {S : Sg} {F : Fs} (R : Rel S F) (H : FOk F) (i : Nat) (hi : i < 17) (hb96 : (S.P i).b.length = 96) (z : Nat) (hz : z < (F.P i).c.length) :
    Rel (S.bl i { S.P i with s := z, b := splice (S.P i).b z (List.replicate (96 - z) 0) } (relT S.d ((F.P i).B.drop (Fs.need z)) S.T)) ((F.relB ((F.P i).B.drop (Fs.need z))).at_ i { F.P i with c := (F.P i).c.take z, B := (F.P i).B.take (Fs.need z) }) := by
  have r := R.P i hi
  have hc := (H.c i).1
  have hfit : z + (List.replicate (96 - z) (0 : Int)).length ≤ (S.P i).b.length := by simp [hb96]; omega
  have hsl : (splice (S.P i).b z (List.replicate (96 - z) 0)).length = 96 := by rw [length_splice _ _ _ hfit, hb96]
  have eP : ∀ j, ((F.relB ((F.P i).B.drop (Fs.need z))).at_ i { F.P i with c := (F.P i).c.take z, B := (F.P i).B.take (Fs.need z) }).P j = if j = i then { F.P i with c := (F.P i).c.take z, B := (F.P i).B.take (Fs.need z) } else F.P j := fun j => by rw [Fs.at_P, relB_P]
  have eQ : ∀ j, (((F.relB ((F.P i).B.drop (Fs.need z))).at_ i { F.P i with c := (F.P i).c.take z, B := (F.P i).B.take (Fs.need z) }).P j).Q = (F.P j).Q := fun j => by
    rw [eP]
    split
    · rename_i e; rw [e]
    · rfl
  refine ⟨by show S.d = (F.relB _).d; rw [relB_d]; exact R.d, ?_, fun j hj => ?_, fun j hj => by rw [eQ]; exact R.L j hj, fun j hj s => by rw [eQ]; exact R.N j hj s⟩
  · show relT S.d _ S.T = (F.relB _).T
    unfold relT Fs.relB
    rw [R.d, R.T]
    split <;> rfl
  · show NdR (updN S.P i _ j) _
    rw [eP]
    by_cases e : j = i
    · subst e
      rw [updN_same, if_pos rfl]
      refine ⟨r.k, r.l, r.h, ?_, ?_, fun k hk => ?_, fun k hk => ?_⟩
      · show z = ((F.P j).c.take z).length
        rw [List.length_take]; omega
      · show (splice (S.P j).b z (List.replicate (96 - z) 0)).take z = (F.P j).c.take z
        rw [← r.b]
        refine ext_getD (by rw [List.length_take, hsl, List.length_take, List.length_take, hb96, r.s]; omega) (fun k hk => ?_)
        have hk' : k < z := by rw [List.length_take] at hk; omega
        rw [getD_take _ _ _ hk', getD_take _ _ _ hk', getD_take _ _ _ (by rw [r.s]; omega), getD_splice_out _ _ _ _ hfit (by omega)]
      · change z ≤ k at hk
        show (splice (S.P j).b z (List.replicate (96 - z) 0)).getD k 0 = 0
        by_cases q : k < 96
        · obtain ⟨m, rfl⟩ : ∃ m, k = z + m := ⟨k - z, by omega⟩
          rw [getD_splice_in _ _ _ _ hfit (by simp; omega)]
          exact getD_zeros _ _
        · exact getD_over _ _ (by omega)
      · change k < ((F.P j).B.take (Fs.need z)).length at hk
        rw [List.length_take] at hk
        show (S.P j).B.getD k 0 = ((((F.P j).B.take (Fs.need z)).getD k 0 : Nat) : Int)
        rw [getD_take_nat _ _ _ (by omega)]
        exact r.B k (by omega)
    · rw [updN_ne _ _ _ _ e, if_neg e]
      exact R.P j hj

set_option maxHeartbeats 2000000 in
theorem resize_err (p : Nat) (S : Sg) (F : Fs) (w : World) (H : Sy w p S) (R : Rel S F) (n z : Int) (E : Int) (hE : ¬ E = 0) (he : F.file n = E) :
    Calls Tryz.prog 37 #[.pointer (some ⟨p, 0, none⟩), .int .i64 n, .int .i64 z] w fun e w' => e = .returned (.int .i64 E) ∧ w' = w := by
  have k0 := hid (file_no p S F w H R n (by rw [he]; exact hE))
  rw [he] at k0
  clear H R he
  go_enter Tryz.func37, Tryz.ntmps37
  go_wp2_with fail
  refine k0.out.mono ?_
  rintro e w1 ⟨rfl, rfl⟩
  clear k0
  go_wp2_with fail
  go_ret
  exact ⟨rfl, rfl⟩
set_option maxHeartbeats 2000000 in
theorem resize_out (p : Nat) (S : Sg) (w : World) (H : Sy w p S) (i : Nat) (h1 : 1 ≤ i) (hi : i < 17) (hk : (S.P i).k = 1) (z : Int) (hz : z < 0 ∨ 96 < z) :
    Calls Tryz.prog 37 #[.pointer (some ⟨p, 0, none⟩), .int .i64 (i : Int), .int .i64 z] w fun e w' => e = .returned (.int .i64 (if z < 0 then 22 else 27)) ∧ w' = w := by
  have k1 := hid (file_yes p S w H i h1 hi hk)
  clear H
  rcases hz with h | h
  · rw [if_pos h]
    go_enter Tryz.func37, Tryz.ntmps37
    go_wp2_with fail
    refine k1.out.mono ?_
    rintro e w1 ⟨rfl, rfl⟩
    go_wp2_with fail
    go_ret
    exact ⟨rfl, rfl⟩
  · have h0 : ¬ z < 0 := by omega
    rw [if_neg h0]
    go_enter Tryz.func37, Tryz.ntmps37
    go_wp2_with fail
    refine k1.out.mono ?_
    rintro e w1 ⟨rfl, rfl⟩
    go_wp2_with fail
    go_ret
    exact ⟨rfl, rfl⟩
set_option maxHeartbeats 2000000 in
theorem resize_in (p : Nat) (S : Sg) (w : World) (H : Sy w p S) (i : Nat) (h1 : 1 ≤ i) (hi : i < 17) (hk : (S.P i).k = 1) (z : Nat) (hz : z ≤ 96) (Q : Ending → World → Prop)
    (kc : z < (S.P i).s → Hid (Calls Tryz.prog 80 #[.pointer (some ⟨p, 0, none⟩), .pointer (some ⟨p, 1 + i * 107, none⟩), .int .i64 (z : Int)] w fun e w' => e = .returned (.tuple #[]) ∧ Hid (Q (.returned (.int .i64 0)) w')))
    (kg : ¬ z < (S.P i).s → Hid (Calls Tryz.prog 78 #[.pointer (some ⟨p, 0, none⟩), .pointer (some ⟨p, 1 + i * 107, none⟩), .int .i64 (z : Int)] w fun e w' => ∃ er : Int, e = .returned (.int .i64 er) ∧ Hid (Q (.returned (.int .i64 er)) w'))) :
    Calls Tryz.prog 37 #[.pointer (some ⟨p, 0, none⟩), .int .i64 (i : Int), .int .i64 (z : Int)] w Q := by
  have k1 := hid (file_yes p S w H i h1 hi hk)
  have c3 := H.s i hi
  have h0 : ¬ (z : Int) < 0 := by omega
  have h2 : ¬ (96 : Int) < (z : Int) := by omega
  obtain ⟨s, gs⟩ : ∃ s, s = (S.P i).s := ⟨_, rfl⟩
  rw [← gs] at c3 kc kg
  clear H gs hk
  by_cases h : z < s
  · have h3 : (z : Int) < (s : Int) := by omega
    have k2 := kc h
    clear kc kg
    go_enter Tryz.func37, Tryz.ntmps37
    go_wp2_with fail
    refine k1.out.mono ?_
    rintro e w1 ⟨rfl, rfl⟩
    clear k1
    go_wp2_with fail
    refine k2.out.mono ?_
    rintro e w2 ⟨rfl, HQ⟩
    clear k2
    go_wp2_with fail
    exact HQ.out
  · have h3 : ¬ (z : Int) < (s : Int) := by omega
    have k2 := kg h
    clear kc kg
    go_enter Tryz.func37, Tryz.ntmps37
    go_wp2_with fail
    refine k1.out.mono ?_
    rintro e w1 ⟨rfl, rfl⟩
    clear k1
    go_wp2_with fail
    refine k2.out.mono ?_
    rintro e w2 ⟨er, rfl, HQ⟩
    clear k2
    go_wp2_with fail
    exact HQ.out

theorem presize (p : Nat) (F : Fs) (G : Nat → Prop) (w : World) (H : Pf w p F G) (hF : FOk F) (n z : Int) :
    Calls Tryz.prog 37 #[.pointer (some ⟨p, 0, none⟩), .int .i64 n, .int .i64 z] w fun e w' => e = .returned (.int .i64 (F.resize n z).2) ∧ PfTo w p (F.resize n z).1 G w' := by
  have HP := H
  obtain ⟨S, HS, R, hG⟩ := H
  by_cases hf : F.file n ≠ 0
  · have e : F.resize n z = (F, F.file n) := by unfold Fs.resize; rw [if_pos hf]
    rw [e]
    refine (resize_err p S F w HS R n z _ hf rfl).mono ?_
    rintro e w' ⟨rfl, rfl⟩
    exact ⟨rfl, PfTo.same HP (Below.refl _ _)⟩
  have hf0 := Decidable.not_not.1 hf
  obtain ⟨fk, f1, f2⟩ := Fs.file_ok hF hf0
  obtain ⟨i, rfl⟩ : ∃ i : Nat, n = (i : Int) := ⟨n.toNat, by omega⟩
  have hi : i < 17 := by omega
  have fk : (F.P i).k = 1 := fk
  have r := R.P i hi
  have hk : (S.P i).k = 1 := r.k.trans fk
  have hT0 : S.T 0 = false := by rw [R.T]; exact hF.T0
  by_cases h0 : z < 0
  · have e : F.resize (i : Int) z = (F, 22) := by unfold Fs.resize; rw [if_neg hf, if_pos h0]
    rw [e]
    refine (resize_out p S w HS i (by omega) hi hk z (.inl h0)).mono ?_
    rintro e w' ⟨rfl, rfl⟩
    rw [if_pos h0]
    exact ⟨rfl, PfTo.same HP (Below.refl _ _)⟩
  by_cases h96 : 96 < z
  · have e : F.resize (i : Int) z = (F, 27) := by unfold Fs.resize; rw [if_neg hf, if_neg h0, if_pos h96]
    rw [e]
    refine (resize_out p S w HS i (by omega) hi hk z (.inr h96)).mono ?_
    rintro e w' ⟨rfl, rfl⟩
    rw [if_neg h0]
    exact ⟨rfl, PfTo.same HP (Below.refl _ _)⟩
  obtain ⟨m, rfl⟩ : ∃ m : Nat, z = (m : Int) := ⟨z.toNat, by omega⟩
  have hm : m ≤ 96 := by omega
  have hc := hF.c i
  have hB := hF.B i
  refine resize_in p S w HS i (by omega) hi hk m hm _ (fun hlt => ?_) (fun hge => ?_)
  · have hlt' : m < (F.P i).c.length := by rw [r.s] at hlt; exact hlt
    have e : F.resize (i : Int) (m : Int) = ((F.relB ((F.P i).B.drop (Fs.need m))).at_ i { F.P i with c := (F.P i).c.take m, B := (F.P i).B.take (Fs.need m) }, 0) := by
      unfold Fs.resize; rw [if_neg hf, if_neg h0, if_neg h96]; exact if_pos hlt'
    rw [e]
    have hn : (F.P i).B.length = need (S.P i).s := by rw [hB, r.s]; rfl
    refine hid ((cut_gen p S w HS i hi (by rw [r.s]; exact hc.1) m hlt ((F.P i).B.drop (Fs.need m)) (by rw [List.length_drop, hn]; rfl) (fun j hj => ?_) (fun b hb => (hF.T i b (List.mem_of_mem_drop hb)).2.1)).mono ?_)
    · have : ((F.P i).B.drop (Fs.need m)).getD j 0 = (F.P i).B.getD (need m + j) 0 := by
        rw [List.getD_eq_getElem?_getD, List.getElem?_drop, List.getD_eq_getElem?_getD]; rfl
      rw [this]
      exact r.B _ (by omega)
    · rintro e w' ⟨rfl, h, u⟩
      exact ⟨rfl, hid ⟨rfl, Into.to ⟨_, h, R.cut hF i hi (HS.ok i hi).b m hlt', fun x hx => foot_bl (S := S) (x := { S.P i with s := m, b := splice (S.P i).b m (List.replicate (96 - m) 0) }) rfl x hx, upd_p u⟩ hG⟩⟩
  · have hge' : ¬ m < (F.P i).c.length := by rw [r.s] at hge; exact hge
    have hfr := fits_rel R hF i hi m
    have hmax : max (S.P i).s m = m := Nat.max_eq_right (by omega)
    refine hid ((grow_all p S w HS hT0 i hi m hm).mono ?_)
    rintro e w' (⟨h, rfl, hb⟩ | ⟨h, rfl, B', q1, q2, q3, u⟩)
    · rw [hmax] at h
      have hfit : F.fits i m = false := by rw [hfr]; exact decide_eq_false h
      have e : F.resize (i : Int) (m : Int) = (F, 28) := by
        unfold Fs.resize; rw [if_neg hf, if_neg h0, if_neg h96]
        exact (if_neg hge').trans (if_pos hfit)
      exact ⟨28, rfl, hid (by rw [e]; exact ⟨rfl, PfTo.same HP hb⟩)⟩
    · rw [hmax] at h q1 q2
      have hfit : F.fits i m = true := by rw [hfr]; exact decide_eq_true h
      have e : F.resize (i : Int) (m : Int) = ((F.grow i m).ct i ((F.P i).c ++ List.replicate (m - (F.P i).c.length) 0), 0) := by
        unfold Fs.resize; rw [if_neg hf, if_neg h0, if_neg h96]
        exact (if_neg hge').trans (if_neg (by rw [show (m : Int).toNat = m from rfl, show (i : Int).toNat = i from rfl, hfit]; simp))
      refine ⟨0, rfl, hid ?_⟩
      rw [e]
      refine ⟨rfl, Into.to ⟨_, q1, ?_, fun x hx => foot_bl (S := S) (x := { S.P i with B := B', s := m }) rfl x hx, upd_p u⟩ hG⟩
      have hb96 := (HS.ok i hi).b
      have := R.grown hF i hi m (by omega) B' (S.P i).b ((F.P i).c ++ List.replicate (m - (F.P i).c.length) 0) ?_ (fun j hj => r.z j (by omega)) (by simp; omega) hfit q2 q3
      · exact this
      · rw [r.s] at hge
        refine ext_getD (by simp [hb96]; omega) (fun j hj => ?_)
        rw [List.length_take] at hj
        rw [getD_take _ _ _ (by omega), getD_app]
        by_cases h3 : j < (F.P i).c.length
        · rw [if_pos h3]
          exact take_getD r.b (by rw [hb96, r.s]; omega) j (by rw [r.s]; exact h3)
        · rw [if_neg h3]; exact r.z j (by rw [r.s]; omega)

end Go.Proofs.YtliekndkjjaldaaGreat

/- What Read does to any system. -/
namespace Go.Proofs.YtliekndkjjaldaaGreat
open Go.RowKit Go.ChangeMaps Go.MapKept
set_option linter.unusedVariables false
set_option maxRecDepth 20000

set_option maxHeartbeats 2000000 in
theorem read_err (p : Nat) (S : Sg) (F : Fs) (w : World) (H : Sy w p S) (R : Rel S F) (n off cnt : Int) (E : Int) (hE : ¬ E = 0) (he : F.file n = E) :
    Calls Tryz.prog 31 #[.pointer (some ⟨p, 0, none⟩), .int .i64 n, .int .i64 off, .int .i64 cnt] w fun e w' => e = .returned (.tuple #[.slice none 0 0, .int .i64 E]) ∧ w' = w := by
  have k0 := hid (file_no p S F w H R n (by rw [he]; exact hE))
  rw [he] at k0
  clear H R he
  go_enter Tryz.func31, Tryz.ntmps31
  go_wp2_with fail
  refine k0.out.mono ?_
  rintro e w1 ⟨rfl, rfl⟩
  clear k0
  go_wp2_with fail
  go_ret2
  exact ⟨rfl, rfl⟩
set_option maxHeartbeats 2000000 in
theorem read_neg (p : Nat) (S : Sg) (w : World) (H : Sy w p S) (i : Nat) (h1 : 1 ≤ i) (hi : i < 17) (hk : (S.P i).k = 1) (off cnt : Int) (hz : off < 0 ∨ cnt < 0) :
    Calls Tryz.prog 31 #[.pointer (some ⟨p, 0, none⟩), .int .i64 (i : Int), .int .i64 off, .int .i64 cnt] w fun e w' => e = .returned (.tuple #[.slice none 0 0, .int .i64 22]) ∧ w' = w := by
  have k1 := hid (file_yes p S w H i h1 hi hk)
  clear H
  by_cases h : off < 0
  · go_enter Tryz.func31, Tryz.ntmps31
    go_wp2_with fail
    refine k1.out.mono ?_
    rintro e w1 ⟨rfl, rfl⟩
    clear k1
    go_wp2_with fail
    go_ret2
    exact ⟨rfl, rfl⟩
  · have h2 : cnt < 0 := by omega
    go_enter Tryz.func31, Tryz.ntmps31
    go_wp2_with fail
    refine k1.out.mono ?_
    rintro e w1 ⟨rfl, rfl⟩
    clear k1
    go_wp2_with fail
    go_ret2
    exact ⟨rfl, rfl⟩

theorem pread (p : Nat) (F : Fs) (G : Nat → Prop) (w : World) (H : Pf w p F G) (hF : FOk F) (n off cnt : Int) (ho : off ≤ 9223372036854775807) (hc : cnt ≤ 9223372036854775807) :
    Calls Tryz.prog 31 #[.pointer (some ⟨p, 0, none⟩), .int .i64 n, .int .i64 off, .int .i64 cnt] w fun e w' => (∃ v, e = .returned (.tuple #[v, .int .i64 (F.read n off cnt).2]) ∧ w'.ownsRow w.heap.size 5 1 v (F.read n off cnt).1.length ((F.read n off cnt).1.map (Value.int .u8))) ∧ PfTo w p F G w' := by
  have HP := H
  obtain ⟨S, HS, R, hG⟩ := H
  by_cases hf : F.file n ≠ 0
  · have e : F.read n off cnt = ([], F.file n) := by unfold Fs.read; rw [if_pos hf]
    rw [e]
    refine (read_err p S F w HS R n off cnt _ hf rfl).mono ?_
    rintro e w' ⟨rfl, rfl⟩
    exact ⟨⟨_, rfl, World.ownsRow_nil _ _ _ _⟩, PfTo.same HP (Below.refl _ _)⟩
  have hf0 := Decidable.not_not.1 hf
  obtain ⟨fk, f1, f2⟩ := Fs.file_ok hF hf0
  obtain ⟨i, rfl⟩ : ∃ i : Nat, n = (i : Int) := ⟨n.toNat, by omega⟩
  have hi : i < 17 := by omega
  have fk : (F.P i).k = 1 := fk
  have r := R.P i hi
  have hk : (S.P i).k = 1 := r.k.trans fk
  by_cases h0 : off < 0 ∨ cnt < 0
  · have e : F.read (i : Int) off cnt = ([], 22) := by unfold Fs.read; rw [if_neg hf, if_pos h0]
    rw [e]
    refine (read_neg p S w HS i (by omega) hi hk off cnt h0).mono ?_
    rintro e w' ⟨rfl, rfl⟩
    exact ⟨⟨_, rfl, World.ownsRow_nil _ _ _ _⟩, PfTo.same HP (Below.refl _ _)⟩
  obtain ⟨o, rfl⟩ : ∃ o : Nat, off = (o : Int) := ⟨off.toNat, by omega⟩
  obtain ⟨m, rfl⟩ : ∃ m : Nat, cnt = (m : Int) := ⟨cnt.toNat, by omega⟩
  have e : F.read (i : Int) (o : Int) (m : Int) = (((F.P i).c.drop o).take m, 0) := by unfold Fs.read; rw [if_neg hf, if_neg h0]; rfl
  rw [e]
  have hcl := (hF.c i).1
  refine (read_ok p S w i (by omega) hi (S.P i) S.T (by rw [S.bl_self]; exact HS) hk (by rw [r.s]; exact hcl) o m (by omega) (by omega)).mono ?_
  rintro e w' ⟨⟨g, c, rfl, h⟩, hb⟩
  have er : rd (S.P i) o m = ((F.P i).c.drop o).take m := by unfold rd; rw [r.b]
  have el : min m ((S.P i).s - o) = (((F.P i).c.drop o).take m).length := by rw [List.length_take, List.length_drop, r.s]
  rw [er, el] at h
  rw [el]
  exact ⟨⟨_, rfl, h⟩, PfTo.same HP hb⟩

end Go.Proofs.YtliekndkjjaldaaGreat

/- 'append(own, b...)' of bytes as it runs (as in FAppR, FAt). -/
namespace Go.Proofs.YtliekndkjjaldaaGreat
open Go.RowKit Go.ChangeMaps Go.MapKept
set_option linter.unusedVariables false
set_option maxRecDepth 20000

/-- 'append(own, b...)' of bytes, either of which may be nil, as it runs. -/
theorem run_append_bytes {P : Program} (w : World) (base : Nat) (t ty : TypeId) (i : TypeInfo) (ht : P.underlying t = some (.slice 5)) (hi : P.info? 5 = some i) (hz : i.zero = some (.int .u8 0)) (hsize : i.size = 1) (hby : i.bytes = 1)
    (v : Value) (n : Nat) (xs : List Value) (hown : w.ownsRow base 5 1 v n xs) (a0 : Option Addr) (m c : Nat) (zs : List Int) (hsrc : Src w a0 m zs) (hnil : a0 = none → c = 0) (hb : n + m ≤ 140737488355328) (hbase : base ≤ w.heap.size) :
    ∃ v' w', (Builtin.append_ #[t, t] ty #[v, .slice a0 m c]).run P w = .ok v' w' ∧ w'.ownsRow base 5 1 v' (n + m) (xs ++ zs.map (Value.int .u8)) ∧ w.grownBy w' v.ownBlock := by
  cases a0 with
  | none =>
    obtain rfl := hnil rfl
    obtain rfl : m = 0 := by
      rcases Nat.eq_zero_or_pos m with h | h
      · exact h
      · obtain ⟨_, _, e, _⟩ := hsrc.2 h; cases e
    obtain rfl : zs = [] := List.eq_nil_of_length_eq_zero hsrc.1
    refine ⟨v, w, ?_, by simpa using hown, World.grownBy.refl _ _⟩
    rcases hown.2 with ⟨rfl, rfl⟩ | ⟨g, cap, cur, rfl, hb, hg, hnc, hcm, hcs, htake⟩
    · simp [Builtin.append_, run_underlying ht, Builtin.lenOf, Builtin.firstCells, sizeOf, typeInfo, hi]
    · simp [Builtin.append_, run_underlying ht, Builtin.lenOf, Builtin.firstCells, sizeOf, typeInfo, hi, loadCells, hnc, storeCells]
  | some ad =>
    have hsl := hsrc.1
    obtain ⟨v', w', h1, h2, h3, _⟩ := run_append_own (P := P) w base t ty 5 i (.int .u8 0) 1 1 ht hi hz hsize hby rfl (by decide) v n xs hown ad m c (zs.map (Value.int .u8)) (by simp [hsl]) (fun j u hj => by
      have hjl : j < zs.length := by have := (List.getElem?_eq_some_iff.1 hj).1; simpa using this
      obtain ⟨b, o', e, _, hc⟩ := hsrc.2 (by omega)
      obtain rfl := Option.some.inj e
      rw [Addr.add_lit, hc j (by omega), ← hj]
      simp [List.getD, List.getElem?_eq_getElem hjl]) (fun u hu => by obtain ⟨z, _, rfl⟩ := List.mem_map.1 hu; rfl) (by unfold maxLen; omega) (by omega) hbase
    exact ⟨v', w', h1, h2, h3⟩

/-- 'append' as it is known to run, also behind a guard that holds. -/
theorem wpList_append_is {P : Program} {w : World} {ops : Array Oper} {rest : List Oper} {o : Oper} {a : Act} {Q : Exit → Act → World → Prop} (hw : Region.wanted o (yielded ops a.tmps) = true) (s x : Operand) (t : TypeId)
    (ho : o.op = .call { callee := .builtin .append, args := #[s, x], argTypes := #[t, t] }) (vs vx v' : Value) (w' : World) (hs : a.eval s = vs) (hx : a.eval x = vx) (hrun : (Builtin.append_ #[t, t] o.type #[vs, vx]).run P w = .ok v' w')
    (h : wpList P ops Q rest (a.put o.dst v') w') : wpList P ops Q (o :: rest) a w := by
  refine wpList_step fun K hK => ?_
  rw [if_pos hw]
  unfold Oper.wp
  simp [execOp, ho, resolve, invoke, builtin, hs, hx, hrun, Result.andThen]
  exact hK _ _ h

end Go.Proofs.YtliekndkjjaldaaGreat
