/- What has, release and cut do to a file that is alone in its system. -/
import Derived.Test.YtdnblbahecpmkaaGreatNRead
import Derived.Lib.SliceRun
namespace Go.Proofs.YtdnblbahecpmkaaGreat
open Go.RowKit Go.ChangeMaps Go.MapKept
set_option linter.unusedVariables false
set_option maxRecDepth 20000

theorem has_none (p : Nat) (S : Sg) (w : World) (H : Sy w p S) (hd : S.d = 0) : Calls Tryz.prog 66 #[.pointer (some ⟨p, 0, none⟩), .int .i64 2] w fun e w' => e = .returned (.bool false) ∧ w' = w := by
  have c := H.df
  rw [hd] at c
  clear H hd
  go_enter Tryz.func66, Tryz.ntmps66
  go_wp2_with fail
  go_ret
  exact ⟨rfl, rfl⟩

/-- A file's blocks while some of them are let go. -/
structure Brl (x : Nd) (T : Nat → Bool) (q0 k q1 : Nat) : Prop where
  in_ : ∀ j, j < q1 → ∃ b : Nat, x.B.getD j 0 = (b : Int) ∧ 1 ≤ b ∧ b < 25 ∧ (j < q0 ∨ q0 + k ≤ j → T b = true)
  ne : ∀ i j, i < j → j < q1 → x.B.getD i 0 ≠ x.B.getD j 0
  n : cnt T 25 + k = q1

theorem Bok.brl {x : Nd} {T : Nat → Bool} {q1 : Nat} (h : Bok x T q1) (q0 : Nat) : Brl x T q0 0 q1 :=
  ⟨fun j hj => by obtain ⟨b, h1, h2, h3, h4⟩ := h.in_ j hj; exact ⟨b, h1, h2, h3, fun _ => h4⟩, h.ne, h.n⟩
theorem Brl.bok {x : Nd} {T : Nat → Bool} {q0 k q1 : Nat} (h : Brl x T q0 k q1) (e : q0 + k = q1) : Bok x T q0 :=
  ⟨fun j hj => by obtain ⟨b, h1, h2, h3, h4⟩ := h.in_ j (by omega); exact ⟨b, h1, h2, h3, h4 (.inl hj)⟩, fun i j h1 h2 => h.ne i j h1 (by omega), by have := h.n; omega⟩
theorem Brl.step {x : Nd} {T : Nat → Bool} {q0 k q1 : Nat} (h : Brl x T q0 k q1) (hk : q0 + k < q1) (b : Nat) (hb : x.B.getD (q0 + k) 0 = (b : Int)) : Brl x (updT T b false) q0 (k + 1) q1 := by
  obtain ⟨b', e1, e2, e3, e4⟩ := h.in_ (q0 + k) hk
  have : b' = b := by omega
  subst this
  refine ⟨fun j hj => ?_, h.ne, by have := cnt_clr T b' (e4 (.inr (Nat.le_refl _))) 25 e3; have := h.n; omega⟩
  obtain ⟨c, h1, h2, h3, h4⟩ := h.in_ j hj
  refine ⟨c, h1, h2, h3, fun hh => ?_⟩
  have hne : c ≠ b' := by
    intro e
    rcases Nat.lt_trichotomy j (q0 + k) with q | q | q
    · exact h.ne j (q0 + k) q hk (by rw [h1, hb, e])
    · omega
    · exact h.ne (q0 + k) j q hj (by rw [h1, hb, e])
  rw [updT_ne _ _ _ _ hne]
  exact h4 (by omega)

set_option maxHeartbeats 4000000 in
set_option maxRecDepth 20000 in
theorem release_any (p : Nat) (S : Sg) (w : World) (i : Nat) (hi : i < 17) (x : Nd) (T : Nat → Bool) (H : Sy w p (S.bl i x T)) (hd : S.d = 0) (q0 n c o : Nat) (ho : 0 < n → o = 1 + i * 107 + (100 + q0)) (hq : q0 + n ≤ 6) (hn : n ≤ c) (hc : c ≤ 6) (hB : Bok x T (q0 + n)) :
    Calls Tryz.prog 75 #[.pointer (some ⟨p, 0, none⟩), .slice (some ⟨p, o, none⟩) n c] w fun e w' => e = .returned (.tuple #[]) ∧ (∃ T', Sy w' p (S.bl i x T') ∧ Bok x T' q0) ∧ Upd (· = p) w w' := by
  have k0 := hid (has_none p (S.bl i x T) w H hd)
  have H0 : Hid (∃ T', Sy w p (S.bl i x T') ∧ Brl x T' q0 0 (q0 + n) ∧ Upd (· = p) w w) := hid ⟨T, H, hB.brl q0, Upd.refl _ _⟩
  have HOO := hid ho
  clear H hB ho
  go_enter Tryz.func75, Tryz.ntmps75
  go_wp2_with fail
  refine k0.out.mono ?_
  rintro e w1 ⟨rfl, rfl⟩
  clear k0
  go_wp2_with fail
  go_loopw [5, 10] (fun v5 v10 wr => ∃ k : Nat, k ≤ n ∧ v10 = .int .i64 (k : Int) ∧ Hid (∃ T', Sy wr p (S.bl i x T') ∧ Brl x T' q0 k (q0 + n) ∧ Upd (· = p) w1 wr)) (fun _ v10 _ => n - (intOf v10).toNat)
  case atStart => exact ⟨0, by omega, rfl, H0⟩
  case round =>
    clear H0
    obtain ⟨k, hkn, rfl, HQ⟩ := hrel
    by_cases e : k = n
    · subst e
      go_wp2_with fail
      go_end0
      obtain ⟨T', h1, h2, h3⟩ := HQ.out
      exact ⟨rfl, ⟨T', h1, h2.bok rfl⟩, h3⟩
    · have hk : k < n := by omega
      have hk2 : (k : Int) < (n : Int) := by omega
      have hk0 : (0 : Int) ≤ (k : Int) := by omega
      obtain ⟨T', h1, h2, h3⟩ := HQ.out
      have hP : (S.bl i x T').P i = x := updN_same _ _ _
      obtain ⟨b, e1, e2, e3, e4⟩ := h2.in_ (q0 + k) (by omega)
      have hcell := h1.B i hi (q0 + k) (by omega)
      rw [hP, e1, show 1 + i * 107 + (100 + (q0 + k)) = o + k by have := HOO.out (by omega); omega] at hcell
      have ht := h1.t b e3
      have hf := h1.fz (1820 + b)
      have b0 : (0 : Int) ≤ (b : Int) := by omega
      have b1 : (b : Int) < 25 := by omega
      have hm := h1.mark b e3 false
      have HQ4 : Hid (∃ T', Sy (wr.setCell ⟨p, 1820 + b, none⟩ (.bool false)) p (S.bl i x T') ∧ Brl x T' q0 (k + 1) (q0 + n) ∧ Upd (· = p) w1 (wr.setCell ⟨p, 1820 + b, none⟩ (.bool false))) :=
        hid ⟨updT T' b false, hm, h2.step (by omega) b e1, h3.trans (Upd.setCell (F := (· = p)) wr ⟨p, _, none⟩ _ rfl) (fun _ _ h => h)⟩
      clear h1 h2 h3 hP e1 e4 hm HQ e
      go_wp2_with fail
      go_roundw
      case rel => exact ⟨k + 1, by omega, by go_num, HQ4⟩
      case measure => simp [intOf]; omega

set_option maxHeartbeats 4000000 in
set_option maxRecDepth 20000 in
theorem cut_any (p : Nat) (S : Sg) (w : World) (i : Nat) (hi : i < 17) (x : Nd) (T : Nat → Bool) (H : Sy w p (S.bl i x T)) (hd : S.d = 0) (hs : x.s ≤ 96) (hB : Bok x T (need x.s)) (size : Nat) (hz : size < x.s) :
    Calls Tryz.prog 58 #[.pointer (some ⟨p, 0, none⟩), .pointer (some ⟨p, 1 + i * 107, none⟩), .int .i64 (size : Int)] w fun e w' => e = .returned (.tuple #[]) ∧ (∃ T', Sy w' p (S.bl i { x with s := size, b := splice x.b size (List.replicate (96 - size) 0) } T') ∧ Bok { x with s := size, b := splice x.b size (List.replicate (96 - size) 0) } T' (need size)) ∧ Upd (· = p) w w' := by
  have hP : (S.bl i x T).P i = x := updN_same _ _ _
  have c3 := H.s i hi
  rw [hP] at c3
  obtain ⟨q0, g0⟩ : ∃ q0, q0 = need size := ⟨_, rfl⟩
  obtain ⟨q1, g1⟩ : ∃ q1, q1 = need x.s := ⟨_, rfl⟩
  have h01 : q0 ≤ q1 := by rw [g0, g1]; exact need_mono (by omega)
  have h16 : q1 ≤ 6 := by rw [g1]; exact need_le hs
  rw [← g1] at hB
  rw [← g0]
  obtain ⟨s0, gs⟩ : ∃ s0, s0 = x.s := ⟨_, rfl⟩
  rw [← gs] at c3 hs hz
  have K0 : Hid (∀ W, Calls Tryz.prog 76 #[.int .i64 (size : Int)] W fun e w' => e = .returned (.int .i64 (q0 : Int)) ∧ w' = W) := by
    refine hid (fun W => ?_)
    have := needed_any size (by omega) W
    rw [show (size + 15) / 16 = q0 by rw [g0]; rfl] at this
    exact this
  have K1 : Hid (∀ W, Calls Tryz.prog 76 #[.int .i64 (s0 : Int)] W fun e w' => e = .returned (.int .i64 (q1 : Int)) ∧ w' = W) := by
    refine hid (fun W => ?_)
    have := needed_any s0 (by omega) W
    rw [show (s0 + 15) / 16 = q1 by rw [g1, gs]; rfl] at this
    exact this
  have K2 : Hid (Calls Tryz.prog 75 #[.pointer (some ⟨p, 0, none⟩), .slice (some (if 6 = q0 then ⟨p, 1 + i * 107 + 100, none⟩ else ⟨p, 1 + i * 107 + 100 + q0, none⟩)) (q1 - q0) (6 - q0)] w.drew fun e w' => e = .returned (.tuple #[]) ∧ Hid ((∃ T', Sy w' p (S.bl i x T') ∧ Bok x T' q0) ∧ Upd (· = p) w w')) := by
    obtain ⟨o, go⟩ : ∃ o, o = if 6 = q0 then 1 + i * 107 + 100 else 1 + i * 107 + 100 + q0 := ⟨_, rfl⟩
    have hA : (if 6 = q0 then (⟨p, 1 + i * 107 + 100, none⟩ : Addr) else ⟨p, 1 + i * 107 + 100 + q0, none⟩) = ⟨p, o, none⟩ := by
      rw [go]; split <;> rfl
    have ho : 0 < q1 - q0 → o = 1 + i * 107 + (100 + q0) := fun h => by
      rw [go, if_neg (by omega)]; omega
    rw [hA]
    refine hid ((release_any p S w.drew i hi x T (H.hp rfl) hd q0 (q1 - q0) (6 - q0) o ho (by omega) (by omega) (by omega) (by rw [show q0 + (q1 - q0) = q1 by omega]; exact hB)).mono ?_)
    rintro e w' ⟨rfl, h1, u⟩
    exact ⟨rfl, hid ⟨h1, ((Upd.refl (· = p) w).drewN 1).trans u (fun _ _ h => h)⟩⟩
  have a2 : (0 : Int) ≤ (q0 : Int) := by omega
  have a3 : (q0 : Int) ≤ (q1 : Int) := by omega
  have a4 : (q1 : Int) ≤ 6 := by omega
  have a5 : (0 : Int) ≤ (size : Int) := by omega
  have a6 : (size : Int) ≤ 96 := by omega
  have GS := hid gs
  have HS0 := hid (And.intro hs hz)
  clear H hB hP g0 g1 gs hs hz
  have KC : Hid (∀ W, (∃ T', Sy W p (S.bl i x T') ∧ Bok x T' q0) → W.cell? ⟨p, 1 + i * 107 + 3, none⟩ = some (.int .i64 (s0 : Int))) := by
    refine hid (fun W h => ?_)
    obtain ⟨T', h1, _⟩ := h
    have := h1.s i hi
    rw [show (S.bl i x T').P i = x from updN_same _ _ _] at this
    rw [GS.out]
    exact this
  by_cases e6 : 6 = q0
  · rw [if_pos e6] at K2
    subst e6
    obtain rfl : q1 = 6 := by omega
    have K0 : Hid (∀ W, Calls Tryz.prog 76 #[.int .i64 (size : Int)] W fun e w' => e = .returned (.int .i64 6) ∧ w' = W) := K0
    have K1 : Hid (∀ W, Calls Tryz.prog 76 #[.int .i64 (s0 : Int)] W fun e w' => e = .returned (.int .i64 6) ∧ w' = W) := K1
    rw [Nat.sub_self] at K2
    go_enter Tryz.func58, Tryz.ntmps58
    go_wp2_with fail
    go_region_held3 (fun W => W.cell? ⟨p, 1 + i * 107 + 3, none⟩ = some (.int .i64 (s0 : Int))) (go_keep) (first | (go_at_call 76; first | (refine (K0.out _).mono ?_; rintro e w' ⟨rfl, rfl⟩) | (refine (K1.out _).mono ?_; rintro e w' ⟨rfl, rfl⟩)) | (go_at_call 75; refine K2.out.mono ?_; rintro e w2 ⟨rfl, H2⟩; have c4 := KC.out w2 H2.out.1))
    obtain ⟨⟨T', h1, h2⟩, u2⟩ := H2.out
    obtain ⟨C, hC, hSl⟩ := h1.blk
    have hP2 : (S.bl i x T').P i = x := updN_same _ _ _
    have hcl : ∀ j, j < 96 - size → (w2.cell? ⟨p, 1 + i * 107 + 4 + size + j, none⟩).isSome = true := fun j hj => by
      have := h1.b i hi (size + j) (by omega)
      rw [show 1 + i * 107 + (4 + (size + j)) = 1 + i * 107 + 4 + size + j by omega] at this
      rw [this]
      rfl
    have hclr := fun ty => Lib.run_clear_slice (P := Tryz.prog) w2 22 5 ty (.int .u8 0) Tryz.underlying22 Tryz.zeroValue5 rfl rfl p (1 + i * 107 + 4 + size) (96 - size) (96 - size) (by have := HS0.out; omega) hcl (fun j _ => h1.fz _)
    obtain ⟨W3, g3⟩ : ∃ W3, W3 = w2.setCells p (1 + i * 107 + 4 + size) (List.replicate (96 - size) (.int .u8 0)) := ⟨_, rfl⟩
    rw [← g3] at hclr
    have u3 : Upd (· = p) w2 W3 := by rw [g3]; exact upd_setCells _ _ _ _
    have hS3 : Sy W3 p _ := h1.over i hi C hC hSl size (List.replicate (96 - size) 0) (by have := HS0.out; simp; omega) (by
      rw [g3, show 1 + i * 107 + (4 + size) = 1 + i * 107 + 4 + size by omega, List.map_replicate]
      exact heap_setCells p 94 _ _ w2 C hC (by rw [hSl.len]; have := HS0.out; simp; omega)) u3
    have e3 : (S.bl i x T').at_ i (((S.bl i x T').P i).over size (List.replicate (96 - size) 0)) = S.bl i { x with b := splice x.b size (List.replicate (96 - size) 0) } T' := by
      rw [hP2]
      unfold Sg.bl Sg.at_ Nd.over
      congr 1
      funext j
      by_cases e : j = i <;> simp [updN, e]
    rw [e3] at hS3
    have hS4 := hS3.sizeTo i hi size
    have e4 : (S.bl i { x with b := splice x.b size (List.replicate (96 - size) 0) } T').at_ i (Nd.size ((S.bl i { x with b := splice x.b size (List.replicate (96 - size) 0) } T').P i) size) = S.bl i { x with s := size, b := splice x.b size (List.replicate (96 - size) 0) } T' := by
      rw [show (S.bl i { x with b := splice x.b size (List.replicate (96 - size) 0) } T').P i = { x with b := splice x.b size (List.replicate (96 - size) 0) } from updN_same _ _ _]
      unfold Sg.bl Sg.at_ Nd.size
      congr 1
      funext j
      by_cases e : j = i <;> simp [updN, e]
    rw [e4] at hS4
    have c5 := hS3.s i hi
    have f5 := hS3.fz (1 + i * 107 + 3)
    have HQ : Hid ((∃ T', Sy (W3.setCell ⟨p, 1 + i * 107 + 3, none⟩ (.int .i64 (size : Int))) p (S.bl i { x with s := size, b := splice x.b size (List.replicate (96 - size) 0) } T') ∧ Bok { x with s := size, b := splice x.b size (List.replicate (96 - size) 0) } T' 6) ∧ Upd (· = p) w (W3.setCell ⟨p, 1 + i * 107 + 3, none⟩ (.int .i64 (size : Int)))) :=
      hid ⟨⟨T', hS4, ⟨h2.in_, h2.ne, h2.n⟩⟩, (u2.trans u3 (fun _ _ h => h)).trans (Upd.setCell (F := (· = p)) W3 ⟨p, _, none⟩ _ rfl) (fun _ _ h => h)⟩
    have n96 : ¬ 96 = size := by have := HS0.out; omega
    have n0 : ¬ 96 - size = 0 := by have := HS0.out; omega
    clear h1 h2 u2 hC hSl hP2 hcl u3 hS3 e3 hS4 e4 g3 H2 c4
    go_wp2_with fail
    go_end0
    exact ⟨rfl, HQ.out.1, HQ.out.2⟩
  · rw [if_neg e6] at K2
    go_enter Tryz.func58, Tryz.ntmps58
    go_wp2_with fail
    go_region_held3 (fun W => W.cell? ⟨p, 1 + i * 107 + 3, none⟩ = some (.int .i64 (s0 : Int))) (go_keep) (first | (go_at_call 76; first | (refine (K0.out _).mono ?_; rintro e w' ⟨rfl, rfl⟩) | (refine (K1.out _).mono ?_; rintro e w' ⟨rfl, rfl⟩)) | (go_at_call 75; refine K2.out.mono ?_; rintro e w2 ⟨rfl, H2⟩; have c4 := KC.out w2 H2.out.1))
    obtain ⟨⟨T', h1, h2⟩, u2⟩ := H2.out
    obtain ⟨C, hC, hSl⟩ := h1.blk
    have hP2 : (S.bl i x T').P i = x := updN_same _ _ _
    have hcl : ∀ j, j < 96 - size → (w2.cell? ⟨p, 1 + i * 107 + 4 + size + j, none⟩).isSome = true := fun j hj => by
      have := h1.b i hi (size + j) (by omega)
      rw [show 1 + i * 107 + (4 + (size + j)) = 1 + i * 107 + 4 + size + j by omega] at this
      rw [this]
      rfl
    have hclr := fun ty => Lib.run_clear_slice (P := Tryz.prog) w2 22 5 ty (.int .u8 0) Tryz.underlying22 Tryz.zeroValue5 rfl rfl p (1 + i * 107 + 4 + size) (96 - size) (96 - size) (by have := HS0.out; omega) hcl (fun j _ => h1.fz _)
    obtain ⟨W3, g3⟩ : ∃ W3, W3 = w2.setCells p (1 + i * 107 + 4 + size) (List.replicate (96 - size) (.int .u8 0)) := ⟨_, rfl⟩
    rw [← g3] at hclr
    have u3 : Upd (· = p) w2 W3 := by rw [g3]; exact upd_setCells _ _ _ _
    have hS3 : Sy W3 p _ := h1.over i hi C hC hSl size (List.replicate (96 - size) 0) (by have := HS0.out; simp; omega) (by
      rw [g3, show 1 + i * 107 + (4 + size) = 1 + i * 107 + 4 + size by omega, List.map_replicate]
      exact heap_setCells p 94 _ _ w2 C hC (by rw [hSl.len]; have := HS0.out; simp; omega)) u3
    have e3 : (S.bl i x T').at_ i (((S.bl i x T').P i).over size (List.replicate (96 - size) 0)) = S.bl i { x with b := splice x.b size (List.replicate (96 - size) 0) } T' := by
      rw [hP2]
      unfold Sg.bl Sg.at_ Nd.over
      congr 1
      funext j
      by_cases e : j = i <;> simp [updN, e]
    rw [e3] at hS3
    have hS4 := hS3.sizeTo i hi size
    have e4 : (S.bl i { x with b := splice x.b size (List.replicate (96 - size) 0) } T').at_ i (Nd.size ((S.bl i { x with b := splice x.b size (List.replicate (96 - size) 0) } T').P i) size) = S.bl i { x with s := size, b := splice x.b size (List.replicate (96 - size) 0) } T' := by
      rw [show (S.bl i { x with b := splice x.b size (List.replicate (96 - size) 0) } T').P i = { x with b := splice x.b size (List.replicate (96 - size) 0) } from updN_same _ _ _]
      unfold Sg.bl Sg.at_ Nd.size
      congr 1
      funext j
      by_cases e : j = i <;> simp [updN, e]
    rw [e4] at hS4
    have c5 := hS3.s i hi
    have f5 := hS3.fz (1 + i * 107 + 3)
    have HQ : Hid ((∃ T', Sy (W3.setCell ⟨p, 1 + i * 107 + 3, none⟩ (.int .i64 (size : Int))) p (S.bl i { x with s := size, b := splice x.b size (List.replicate (96 - size) 0) } T') ∧ Bok { x with s := size, b := splice x.b size (List.replicate (96 - size) 0) } T' q0) ∧ Upd (· = p) w (W3.setCell ⟨p, 1 + i * 107 + 3, none⟩ (.int .i64 (size : Int)))) :=
      hid ⟨⟨T', hS4, ⟨h2.in_, h2.ne, h2.n⟩⟩, (u2.trans u3 (fun _ _ h => h)).trans (Upd.setCell (F := (· = p)) W3 ⟨p, _, none⟩ _ rfl) (fun _ _ h => h)⟩
    have n96 : ¬ 96 = size := by have := HS0.out; omega
    have n0 : ¬ 96 - size = 0 := by have := HS0.out; omega
    clear h1 h2 u2 hC hSl hP2 hcl u3 hS3 e3 hS4 e4 g3 H2 c4
    go_wp2_with fail
    go_end0
    exact ⟨rfl, HQ.out.1, HQ.out.2⟩

end Go.Proofs.YtdnblbahecpmkaaGreat
