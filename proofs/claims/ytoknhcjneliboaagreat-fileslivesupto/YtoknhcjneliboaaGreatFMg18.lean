/- Texts of this seat, merged. -/
import Derived.Test.YtoknhcjneliboaaGreatFMg17
import Derived.Test.YtoknhcjneliboaaGreatFMg8
import Derived.Laws.AppendOwnNone
import Derived.Test.YtoknhcjneliboaaGreatFMg15
import Derived.BigQuiet

/- What cut and Resize do to any system. -/
namespace Go.Proofs.YtoknhcjneliboaaGreat
open Go.RowKit Go.ChangeMaps Go.MapKept
set_option linter.unusedVariables false
set_option maxRecDepth 20000

set_option maxHeartbeats 4000000 in
theorem cut_gen (p : Nat) (S : Sg) (w : World) (H : Sy w p S) (i : Nat) (hi : i < 17) (hs : (S.P i).s ≤ 96) (size : Nat) (hz : size < (S.P i).s) (bs : List Nat) (hbl : bs.length = need (S.P i).s - need size)
    (hbb : ∀ j, j < need (S.P i).s - need size → (S.P i).B.getD (need size + j) 0 = ((bs.getD j 0 : Nat) : Int)) (hbt : ∀ b ∈ bs, b < 25) :
    Calls Tryz.prog 117 #[.pointer (some ⟨p, 0, none⟩), .pointer (some ⟨p, 1 + i * 107, none⟩), .int .i64 (size : Int)] w fun e w' => e = .returned (.tuple #[]) ∧ Sy w' p (S.bl i { S.P i with s := size, b := splice (S.P i).b size (List.replicate (96 - size) 0) } (relT S.d bs S.T)) ∧ Upd (· = p) w w' := by
  obtain ⟨x, gx⟩ : ∃ x, x = S.P i := ⟨_, rfl⟩
  obtain ⟨TR, gT⟩ : ∃ TR, TR = relT S.d bs S.T := ⟨_, rfl⟩
  have hrel := fun W (hW : Sy W p S) => release_gen p S W hW i hi (need size)
  rw [← gT, ← gx]
  have etk : S.tk TR = S.bl i x TR := by
    have := (S.tk TR).bl_self i
    rw [gx]
    exact this.symm
  rw [← gx] at hs hz hbl hbb
  have c3 := H.s i hi
  rw [← gx] at c3
  obtain ⟨q0, g0⟩ : ∃ q0, q0 = need size := ⟨_, rfl⟩
  obtain ⟨q1, g1⟩ : ∃ q1, q1 = need x.s := ⟨_, rfl⟩
  have h01 : q0 ≤ q1 := by rw [g0, g1]; exact need_mono (by omega)
  have h16 : q1 ≤ 6 := by rw [g1]; exact need_le hs
  rw [← g1] at hbl hbb
  rw [← g0] at hbl hbb hrel
  obtain ⟨s0, gs⟩ : ∃ s0, s0 = x.s := ⟨_, rfl⟩
  rw [← gs] at c3 hs hz
  have K0 : Hid (∀ W, Calls Tryz.prog 140 #[.int .i64 (size : Int)] W fun e w' => e = .returned (.int .i64 (q0 : Int)) ∧ w' = W) := by
    refine hid (fun W => ?_)
    have := needed_any size (by omega) W
    rw [show (size + 15) / 16 = q0 by rw [g0]; rfl] at this
    exact this
  have K1 : Hid (∀ W, Calls Tryz.prog 140 #[.int .i64 (s0 : Int)] W fun e w' => e = .returned (.int .i64 (q1 : Int)) ∧ w' = W) := by
    refine hid (fun W => ?_)
    have := needed_any s0 (by omega) W
    rw [show (s0 + 15) / 16 = q1 by rw [g1, gs]; rfl] at this
    exact this
  have K2 : Hid (Calls Tryz.prog 139 #[.pointer (some ⟨p, 0, none⟩), .slice (some (if 6 = q0 then ⟨p, 1 + i * 107 + 100, none⟩ else ⟨p, 1 + i * 107 + 100 + q0, none⟩)) (q1 - q0) (6 - q0)] w.drew fun e w' => e = .returned (.tuple #[]) ∧ Hid (Sy w' p (S.bl i x TR) ∧ Upd (· = p) w w')) := by
    obtain ⟨o, go⟩ : ∃ o, o = if 6 = q0 then 1 + i * 107 + 100 else 1 + i * 107 + 100 + q0 := ⟨_, rfl⟩
    have hA : (if 6 = q0 then (⟨p, 1 + i * 107 + 100, none⟩ : Addr) else ⟨p, 1 + i * 107 + 100 + q0, none⟩) = ⟨p, o, none⟩ := by
      rw [go]; split <;> rfl
    have ho : 0 < q1 - q0 → o = 1 + i * 107 + (100 + q0) := fun h => by
      rw [go, if_neg (by omega)]; omega
    rw [hA]
    have k := hrel w.drew (H.hp rfl) (q1 - q0) (6 - q0) o ho (by omega) (by omega) (by omega) bs hbl (by rw [← gx]; exact hbb) hbt
    rw [← gT, etk] at k
    refine hid (k.mono ?_)
    rintro e w' ⟨rfl, h1, u⟩
    exact ⟨rfl, hid ⟨h1, ((Upd.refl (· = p) w).drewN 1).trans u (fun _ _ h => h)⟩⟩
  have a2 : (0 : Int) ≤ (q0 : Int) := by omega
  have a3 : (q0 : Int) ≤ (q1 : Int) := by omega
  have a4 : (q1 : Int) ≤ 6 := by omega
  have a5 : (0 : Int) ≤ (size : Int) := by omega
  have a6 : (size : Int) ≤ 96 := by omega
  have GS := hid gs
  have HS0 := hid (And.intro hs hz)
  clear H g0 g1 gs hs hz hrel hbl hbb hbt etk gT
  have KC : Hid (∀ W, Sy W p (S.bl i x TR) → W.cell? ⟨p, 1 + i * 107 + 3, none⟩ = some (.int .i64 (s0 : Int))) := by
    refine hid (fun W h => ?_)
    have := h.s i hi
    rw [show (S.bl i x TR).P i = x from updN_same _ _ _] at this
    rw [GS.out]
    exact this
  by_cases e6 : 6 = q0
  · rw [if_pos e6] at K2
    subst e6
    obtain rfl : q1 = 6 := by omega
    have K0 : Hid (∀ W, Calls Tryz.prog 140 #[.int .i64 (size : Int)] W fun e w' => e = .returned (.int .i64 6) ∧ w' = W) := K0
    have K1 : Hid (∀ W, Calls Tryz.prog 140 #[.int .i64 (s0 : Int)] W fun e w' => e = .returned (.int .i64 6) ∧ w' = W) := K1
    rw [Nat.sub_self] at K2
    go_enter Tryz.func117, Tryz.ntmps117
    go_wp2_with fail
    go_region_held3 (fun W => W.cell? ⟨p, 1 + i * 107 + 3, none⟩ = some (.int .i64 (s0 : Int))) (go_keep) (first | (go_at_call 140; first | (refine (K0.out _).mono ?_; rintro e w' ⟨rfl, rfl⟩) | (refine (K1.out _).mono ?_; rintro e w' ⟨rfl, rfl⟩)) | (go_at_call 139; refine K2.out.mono ?_; rintro e w2 ⟨rfl, H2⟩; have c4 := KC.out w2 H2.out.1))
    obtain ⟨h1, u2⟩ := H2.out
    obtain ⟨C, hC, hSl⟩ := h1.blk
    have hP2 : (S.bl i x TR).P i = x := updN_same _ _ _
    have hcl : ∀ j, j < 96 - size → (w2.cell? ⟨p, 1 + i * 107 + 4 + size + j, none⟩).isSome = true := fun j hj => by
      have := h1.b i hi (size + j) (by omega)
      rw [show 1 + i * 107 + (4 + (size + j)) = 1 + i * 107 + 4 + size + j by omega] at this
      rw [this]
      rfl
    have hclr := fun ty => Lib.run_clear_slice (P := Tryz.prog) w2 30 5 ty (.int .u8 0) Tryz.underlying30 Tryz.zeroValue5 rfl rfl p (1 + i * 107 + 4 + size) (96 - size) (96 - size) (by have := HS0.out; omega) hcl (fun j _ => h1.fz _)
    obtain ⟨W3, g3⟩ : ∃ W3, W3 = w2.setCells p (1 + i * 107 + 4 + size) (List.replicate (96 - size) (.int .u8 0)) := ⟨_, rfl⟩
    rw [← g3] at hclr
    have u3 : Upd (· = p) w2 W3 := by rw [g3]; exact upd_setCells _ _ _ _
    have hS3 : Sy W3 p _ := h1.over i hi C hC hSl size (List.replicate (96 - size) 0) (by have := HS0.out; simp; omega) (by
      rw [g3, show 1 + i * 107 + (4 + size) = 1 + i * 107 + 4 + size by omega, List.map_replicate]
      exact heap_setCells p 103 _ _ w2 C hC (by rw [hSl.len]; have := HS0.out; simp; omega)) u3
    have e3 : (S.bl i x TR).at_ i (((S.bl i x TR).P i).over size (List.replicate (96 - size) 0)) = S.bl i { x with b := splice x.b size (List.replicate (96 - size) 0) } TR := by
      rw [hP2]
      unfold Sg.bl Sg.at_ Nd.over
      congr 1
      funext j
      by_cases e : j = i <;> simp [updN, e]
    rw [e3] at hS3
    have hS4 := hS3.sizeTo i hi size
    have e4 : (S.bl i { x with b := splice x.b size (List.replicate (96 - size) 0) } TR).at_ i (Nd.size ((S.bl i { x with b := splice x.b size (List.replicate (96 - size) 0) } TR).P i) size) = S.bl i { x with s := size, b := splice x.b size (List.replicate (96 - size) 0) } TR := by
      rw [show (S.bl i { x with b := splice x.b size (List.replicate (96 - size) 0) } TR).P i = { x with b := splice x.b size (List.replicate (96 - size) 0) } from updN_same _ _ _]
      unfold Sg.bl Sg.at_ Nd.size
      congr 1
      funext j
      by_cases e : j = i <;> simp [updN, e]
    rw [e4] at hS4
    have c5 := hS3.s i hi
    have f5 := hS3.fz (1 + i * 107 + 3)
    have HQ : Hid (Sy (W3.setCell ⟨p, 1 + i * 107 + 3, none⟩ (.int .i64 (size : Int))) p (S.bl i { x with s := size, b := splice x.b size (List.replicate (96 - size) 0) } TR) ∧ Upd (· = p) w (W3.setCell ⟨p, 1 + i * 107 + 3, none⟩ (.int .i64 (size : Int)))) :=
      hid ⟨hS4, (u2.trans u3 (fun _ _ h => h)).trans (Upd.setCell (F := (· = p)) W3 ⟨p, _, none⟩ _ rfl) (fun _ _ h => h)⟩
    have n96 : ¬ 96 = size := by have := HS0.out; omega
    have n0 : ¬ 96 - size = 0 := by have := HS0.out; omega
    clear h1 u2 hC hSl hP2 hcl u3 hS3 e3 hS4 e4 g3 H2 c4
    go_wp2_with fail
    go_end0
    exact ⟨rfl, HQ.out.1, HQ.out.2⟩
  · rw [if_neg e6] at K2
    go_enter Tryz.func117, Tryz.ntmps117
    go_wp2_with fail
    go_region_held3 (fun W => W.cell? ⟨p, 1 + i * 107 + 3, none⟩ = some (.int .i64 (s0 : Int))) (go_keep) (first | (go_at_call 140; first | (refine (K0.out _).mono ?_; rintro e w' ⟨rfl, rfl⟩) | (refine (K1.out _).mono ?_; rintro e w' ⟨rfl, rfl⟩)) | (go_at_call 139; refine K2.out.mono ?_; rintro e w2 ⟨rfl, H2⟩; have c4 := KC.out w2 H2.out.1))
    obtain ⟨h1, u2⟩ := H2.out
    obtain ⟨C, hC, hSl⟩ := h1.blk
    have hP2 : (S.bl i x TR).P i = x := updN_same _ _ _
    have hcl : ∀ j, j < 96 - size → (w2.cell? ⟨p, 1 + i * 107 + 4 + size + j, none⟩).isSome = true := fun j hj => by
      have := h1.b i hi (size + j) (by omega)
      rw [show 1 + i * 107 + (4 + (size + j)) = 1 + i * 107 + 4 + size + j by omega] at this
      rw [this]
      rfl
    have hclr := fun ty => Lib.run_clear_slice (P := Tryz.prog) w2 30 5 ty (.int .u8 0) Tryz.underlying30 Tryz.zeroValue5 rfl rfl p (1 + i * 107 + 4 + size) (96 - size) (96 - size) (by have := HS0.out; omega) hcl (fun j _ => h1.fz _)
    obtain ⟨W3, g3⟩ : ∃ W3, W3 = w2.setCells p (1 + i * 107 + 4 + size) (List.replicate (96 - size) (.int .u8 0)) := ⟨_, rfl⟩
    rw [← g3] at hclr
    have u3 : Upd (· = p) w2 W3 := by rw [g3]; exact upd_setCells _ _ _ _
    have hS3 : Sy W3 p _ := h1.over i hi C hC hSl size (List.replicate (96 - size) 0) (by have := HS0.out; simp; omega) (by
      rw [g3, show 1 + i * 107 + (4 + size) = 1 + i * 107 + 4 + size by omega, List.map_replicate]
      exact heap_setCells p 103 _ _ w2 C hC (by rw [hSl.len]; have := HS0.out; simp; omega)) u3
    have e3 : (S.bl i x TR).at_ i (((S.bl i x TR).P i).over size (List.replicate (96 - size) 0)) = S.bl i { x with b := splice x.b size (List.replicate (96 - size) 0) } TR := by
      rw [hP2]
      unfold Sg.bl Sg.at_ Nd.over
      congr 1
      funext j
      by_cases e : j = i <;> simp [updN, e]
    rw [e3] at hS3
    have hS4 := hS3.sizeTo i hi size
    have e4 : (S.bl i { x with b := splice x.b size (List.replicate (96 - size) 0) } TR).at_ i (Nd.size ((S.bl i { x with b := splice x.b size (List.replicate (96 - size) 0) } TR).P i) size) = S.bl i { x with s := size, b := splice x.b size (List.replicate (96 - size) 0) } TR := by
      rw [show (S.bl i { x with b := splice x.b size (List.replicate (96 - size) 0) } TR).P i = { x with b := splice x.b size (List.replicate (96 - size) 0) } from updN_same _ _ _]
      unfold Sg.bl Sg.at_ Nd.size
      congr 1
      funext j
      by_cases e : j = i <;> simp [updN, e]
    rw [e4] at hS4
    have c5 := hS3.s i hi
    have f5 := hS3.fz (1 + i * 107 + 3)
    have HQ : Hid (Sy (W3.setCell ⟨p, 1 + i * 107 + 3, none⟩ (.int .i64 (size : Int))) p (S.bl i { x with s := size, b := splice x.b size (List.replicate (96 - size) 0) } TR) ∧ Upd (· = p) w (W3.setCell ⟨p, 1 + i * 107 + 3, none⟩ (.int .i64 (size : Int)))) :=
      hid ⟨hS4, (u2.trans u3 (fun _ _ h => h)).trans (Upd.setCell (F := (· = p)) W3 ⟨p, _, none⟩ _ rfl) (fun _ _ h => h)⟩
    have n96 : ¬ 96 = size := by have := HS0.out; omega
    have n0 : ¬ 96 - size = 0 := by have := HS0.out; omega
    clear h1 u2 hC hSl hP2 hcl u3 hS3 e3 hS4 e4 g3 H2 c4
    go_wp2_with fail
    go_end0
    exact ⟨rfl, HQ.out.1, HQ.out.2⟩

end Go.Proofs.YtoknhcjneliboaaGreat

/- What Resize and Read do to any system. -/
namespace Go.Proofs.YtoknhcjneliboaaGreat
open Go.RowKit Go.ChangeMaps Go.MapKept
set_option linter.unusedVariables false
set_option maxRecDepth 20000

/-- A file that is cut. -/
theorem Rel.cut {S : Sg} {F : Fs} (R : Rel S F) (H : FOk F) (i : Nat) (hi : i < 17) (hb96 : (S.P i).b.length = 96) (z : Nat) (hz : z < (F.P i).c.length) :
    Rel (S.bl i { S.P i with s := z, b := splice (S.P i).b z (List.replicate (96 - z) 0) } (relT S.d ((F.P i).B.drop (Fs.need z)) S.T)) ((F.relB ((F.P i).B.drop (Fs.need z))).at_ i { F.P i with c := (F.P i).c.take z, B := (F.P i).B.take (Fs.need z) }) := by
  have r := R.P i hi
  have hc := (H.c i).1
  have hfit : z + (List.replicate (96 - z) (0 : Int)).length ≤ (S.P i).b.length := by simp [hb96]; omega
  have hsl : (splice (S.P i).b z (List.replicate (96 - z) 0)).length = 96 := by rw [length_splice _ _ _ hfit, hb96]
  have eP : ∀ j, ((F.relB ((F.P i).B.drop (Fs.need z))).at_ i { F.P i with c := (F.P i).c.take z, B := (F.P i).B.take (Fs.need z) }).P j = if j = i then { F.P i with c := (F.P i).c.take z, B := (F.P i).B.take (Fs.need z) } else F.P j := fun j => by rw [Fs.at_P, relB_P]
  have eQ : ∀ j, (((F.relB ((F.P i).B.drop (Fs.need z))).at_ i { F.P i with c := (F.P i).c.take z, B := (F.P i).B.take (Fs.need z) }).P j).Q = (F.P j).Q := fun j => by
    rw [eP]
    split
    · rename_i e; rw [e]
    · rfl
  refine ⟨by show S.d = (F.relB _).d; rw [relB_d]; exact R.d, ?_, fun j hj => ?_, fun j hj => by rw [eQ]; exact R.L j hj, fun j hj s => by rw [eQ]; exact R.N j hj s⟩
  · show relT S.d _ S.T = (F.relB _).T
    unfold relT Fs.relB
    rw [R.d, R.T]
    split <;> rfl
  · show NdR (updN S.P i _ j) _
    rw [eP]
    by_cases e : j = i
    · subst e
      rw [updN_same, if_pos rfl]
      refine ⟨r.k, r.l, r.h, ?_, ?_, fun k hk => ?_, fun k hk => ?_⟩
      · show z = ((F.P j).c.take z).length
        rw [List.length_take]; omega
      · show (splice (S.P j).b z (List.replicate (96 - z) 0)).take z = (F.P j).c.take z
        rw [← r.b]
        refine ext_getD (by rw [List.length_take, hsl, List.length_take, List.length_take, hb96, r.s]; omega) (fun k hk => ?_)
        have hk' : k < z := by rw [List.length_take] at hk; omega
        rw [getD_take _ _ _ hk', getD_take _ _ _ hk', getD_take _ _ _ (by rw [r.s]; omega), getD_splice_out _ _ _ _ hfit (by omega)]
      · change z ≤ k at hk
        show (splice (S.P j).b z (List.replicate (96 - z) 0)).getD k 0 = 0
        by_cases q : k < 96
        · obtain ⟨m, rfl⟩ : ∃ m, k = z + m := ⟨k - z, by omega⟩
          rw [getD_splice_in _ _ _ _ hfit (by simp; omega)]
          exact getD_zeros _ _
        · exact getD_over _ _ (by omega)
      · change k < ((F.P j).B.take (Fs.need z)).length at hk
        rw [List.length_take] at hk
        show (S.P j).B.getD k 0 = ((((F.P j).B.take (Fs.need z)).getD k 0 : Nat) : Int)
        rw [getD_take_nat _ _ _ (by omega)]
        exact r.B k (by omega)
    · rw [updN_ne _ _ _ _ e, if_neg e]
      exact R.P j hj

set_option maxHeartbeats 2000000 in
theorem resize_err (p : Nat) (S : Sg) (F : Fs) (w : World) (H : Sy w p S) (R : Rel S F) (n z : Int) (E : Int) (hE : ¬ E = 0) (he : F.file n = E) :
    Calls Tryz.prog 81 #[.pointer (some ⟨p, 0, none⟩), .int .i64 n, .int .i64 z] w fun e w' => e = .returned (.int .i64 E) ∧ w' = w := by
  have k0 := hid (file_no p S F w H R n (by rw [he]; exact hE))
  rw [he] at k0
  clear H R he
  go_enter Tryz.func81, Tryz.ntmps81
  go_wp2_with fail
  refine k0.out.mono ?_
  rintro e w1 ⟨rfl, rfl⟩
  clear k0
  go_wp2_with fail
  go_ret
  exact ⟨rfl, rfl⟩
set_option maxHeartbeats 2000000 in
theorem resize_out (p : Nat) (S : Sg) (w : World) (H : Sy w p S) (i : Nat) (h1 : 1 ≤ i) (hi : i < 17) (hk : (S.P i).k = 1) (z : Int) (hz : z < 0 ∨ 96 < z) :
    Calls Tryz.prog 81 #[.pointer (some ⟨p, 0, none⟩), .int .i64 (i : Int), .int .i64 z] w fun e w' => e = .returned (.int .i64 (if z < 0 then 22 else 27)) ∧ w' = w := by
  have k1 := hid (file_yes p S w H i h1 hi hk)
  clear H
  rcases hz with h | h
  · rw [if_pos h]
    go_enter Tryz.func81, Tryz.ntmps81
    go_wp2_with fail
    refine k1.out.mono ?_
    rintro e w1 ⟨rfl, rfl⟩
    go_wp2_with fail
    go_ret
    exact ⟨rfl, rfl⟩
  · have h0 : ¬ z < 0 := by omega
    rw [if_neg h0]
    go_enter Tryz.func81, Tryz.ntmps81
    go_wp2_with fail
    refine k1.out.mono ?_
    rintro e w1 ⟨rfl, rfl⟩
    go_wp2_with fail
    go_ret
    exact ⟨rfl, rfl⟩
set_option maxHeartbeats 2000000 in
theorem resize_in (p : Nat) (S : Sg) (w : World) (H : Sy w p S) (i : Nat) (h1 : 1 ≤ i) (hi : i < 17) (hk : (S.P i).k = 1) (z : Nat) (hz : z ≤ 96) (Q : Ending → World → Prop)
    (kc : z < (S.P i).s → Hid (Calls Tryz.prog 117 #[.pointer (some ⟨p, 0, none⟩), .pointer (some ⟨p, 1 + i * 107, none⟩), .int .i64 (z : Int)] w fun e w' => e = .returned (.tuple #[]) ∧ Hid (Q (.returned (.int .i64 0)) w')))
    (kg : ¬ z < (S.P i).s → Hid (Calls Tryz.prog 118 #[.pointer (some ⟨p, 0, none⟩), .pointer (some ⟨p, 1 + i * 107, none⟩), .int .i64 (z : Int)] w fun e w' => ∃ er : Int, e = .returned (.int .i64 er) ∧ Hid (Q (.returned (.int .i64 er)) w'))) :
    Calls Tryz.prog 81 #[.pointer (some ⟨p, 0, none⟩), .int .i64 (i : Int), .int .i64 (z : Int)] w Q := by
  have k1 := hid (file_yes p S w H i h1 hi hk)
  have c3 := H.s i hi
  have h0 : ¬ (z : Int) < 0 := by omega
  have h2 : ¬ (96 : Int) < (z : Int) := by omega
  obtain ⟨s, gs⟩ : ∃ s, s = (S.P i).s := ⟨_, rfl⟩
  rw [← gs] at c3 kc kg
  clear H gs hk
  by_cases h : z < s
  · have h3 : (z : Int) < (s : Int) := by omega
    have k2 := kc h
    clear kc kg
    go_enter Tryz.func81, Tryz.ntmps81
    go_wp2_with fail
    refine k1.out.mono ?_
    rintro e w1 ⟨rfl, rfl⟩
    clear k1
    go_wp2_with fail
    refine k2.out.mono ?_
    rintro e w2 ⟨rfl, HQ⟩
    clear k2
    go_wp2_with fail
    exact HQ.out
  · have h3 : ¬ (z : Int) < (s : Int) := by omega
    have k2 := kg h
    clear kc kg
    go_enter Tryz.func81, Tryz.ntmps81
    go_wp2_with fail
    refine k1.out.mono ?_
    rintro e w1 ⟨rfl, rfl⟩
    clear k1
    go_wp2_with fail
    refine k2.out.mono ?_
    rintro e w2 ⟨er, rfl, HQ⟩
    clear k2
    go_wp2_with fail
    exact HQ.out

theorem presize (p : Nat) (F : Fs) (G : Nat → Prop) (w : World) (H : Pf w p F G) (hF : FOk F) (n z : Int) :
    Calls Tryz.prog 81 #[.pointer (some ⟨p, 0, none⟩), .int .i64 n, .int .i64 z] w fun e w' => e = .returned (.int .i64 (F.resize n z).2) ∧ PfTo w p (F.resize n z).1 G w' := by
  have HP := H
  obtain ⟨S, HS, R, hG⟩ := H
  by_cases hf : F.file n ≠ 0
  · have e : F.resize n z = (F, F.file n) := by unfold Fs.resize; rw [if_pos hf]
    rw [e]
    refine (resize_err p S F w HS R n z _ hf rfl).mono ?_
    rintro e w' ⟨rfl, rfl⟩
    exact ⟨rfl, PfTo.same HP (Below.refl _ _)⟩
  have hf0 := Decidable.not_not.1 hf
  obtain ⟨fk, f1, f2⟩ := Fs.file_ok hF hf0
  obtain ⟨i, rfl⟩ : ∃ i : Nat, n = (i : Int) := ⟨n.toNat, by omega⟩
  have hi : i < 17 := by omega
  have fk : (F.P i).k = 1 := fk
  have r := R.P i hi
  have hk : (S.P i).k = 1 := r.k.trans fk
  have hT0 : S.T 0 = false := by rw [R.T]; exact hF.T0
  by_cases h0 : z < 0
  · have e : F.resize (i : Int) z = (F, 22) := by unfold Fs.resize; rw [if_neg hf, if_pos h0]
    rw [e]
    refine (resize_out p S w HS i (by omega) hi hk z (.inl h0)).mono ?_
    rintro e w' ⟨rfl, rfl⟩
    rw [if_pos h0]
    exact ⟨rfl, PfTo.same HP (Below.refl _ _)⟩
  by_cases h96 : 96 < z
  · have e : F.resize (i : Int) z = (F, 27) := by unfold Fs.resize; rw [if_neg hf, if_neg h0, if_pos h96]
    rw [e]
    refine (resize_out p S w HS i (by omega) hi hk z (.inr h96)).mono ?_
    rintro e w' ⟨rfl, rfl⟩
    rw [if_neg h0]
    exact ⟨rfl, PfTo.same HP (Below.refl _ _)⟩
  obtain ⟨m, rfl⟩ : ∃ m : Nat, z = (m : Int) := ⟨z.toNat, by omega⟩
  have hm : m ≤ 96 := by omega
  have hc := hF.c i
  have hB := hF.B i
  refine resize_in p S w HS i (by omega) hi hk m hm _ (fun hlt => ?_) (fun hge => ?_)
  · have hlt' : m < (F.P i).c.length := by rw [r.s] at hlt; exact hlt
    have e : F.resize (i : Int) (m : Int) = ((F.relB ((F.P i).B.drop (Fs.need m))).at_ i { F.P i with c := (F.P i).c.take m, B := (F.P i).B.take (Fs.need m) }, 0) := by
      unfold Fs.resize; rw [if_neg hf, if_neg h0, if_neg h96]; exact if_pos hlt'
    rw [e]
    have hn : (F.P i).B.length = need (S.P i).s := by rw [hB, r.s]; rfl
    refine hid ((cut_gen p S w HS i hi (by rw [r.s]; exact hc.1) m hlt ((F.P i).B.drop (Fs.need m)) (by rw [List.length_drop, hn]; rfl) (fun j hj => ?_) (fun b hb => (hF.T i b (List.mem_of_mem_drop hb)).2.1)).mono ?_)
    · have : ((F.P i).B.drop (Fs.need m)).getD j 0 = (F.P i).B.getD (need m + j) 0 := by
        rw [List.getD_eq_getElem?_getD, List.getElem?_drop, List.getD_eq_getElem?_getD]; rfl
      rw [this]
      exact r.B _ (by omega)
    · rintro e w' ⟨rfl, h, u⟩
      exact ⟨rfl, hid ⟨rfl, Into.to ⟨_, h, R.cut hF i hi (HS.ok i hi).b m hlt', fun x hx => foot_bl (S := S) (x := { S.P i with s := m, b := splice (S.P i).b m (List.replicate (96 - m) 0) }) rfl x hx, upd_p u⟩ hG⟩⟩
  · have hge' : ¬ m < (F.P i).c.length := by rw [r.s] at hge; exact hge
    have hfr := fits_rel R hF i hi m
    have hmax : max (S.P i).s m = m := Nat.max_eq_right (by omega)
    refine hid ((grow_all p S w HS hT0 i hi m hm).mono ?_)
    rintro e w' (⟨h, rfl, hb⟩ | ⟨h, rfl, B', q1, q2, q3, u⟩)
    · rw [hmax] at h
      have hfit : F.fits i m = false := by rw [hfr]; exact decide_eq_false h
      have e : F.resize (i : Int) (m : Int) = (F, 28) := by
        unfold Fs.resize; rw [if_neg hf, if_neg h0, if_neg h96]
        exact (if_neg hge').trans (if_pos hfit)
      exact ⟨28, rfl, hid (by rw [e]; exact ⟨rfl, PfTo.same HP hb⟩)⟩
    · rw [hmax] at h q1 q2
      have hfit : F.fits i m = true := by rw [hfr]; exact decide_eq_true h
      have e : F.resize (i : Int) (m : Int) = ((F.grow i m).ct i ((F.P i).c ++ List.replicate (m - (F.P i).c.length) 0), 0) := by
        unfold Fs.resize; rw [if_neg hf, if_neg h0, if_neg h96]
        exact (if_neg hge').trans (if_neg (by rw [show (m : Int).toNat = m from rfl, show (i : Int).toNat = i from rfl, hfit]; simp))
      refine ⟨0, rfl, hid ?_⟩
      rw [e]
      refine ⟨rfl, Into.to ⟨_, q1, ?_, fun x hx => foot_bl (S := S) (x := { S.P i with B := B', s := m }) rfl x hx, upd_p u⟩ hG⟩
      have hb96 := (HS.ok i hi).b
      have := R.grown hF i hi m (by omega) B' (S.P i).b ((F.P i).c ++ List.replicate (m - (F.P i).c.length) 0) ?_ (fun j hj => r.z j (by omega)) (by simp; omega) hfit q2 q3
      · exact this
      · rw [r.s] at hge
        refine ext_getD (by simp [hb96]; omega) (fun j hj => ?_)
        rw [List.length_take] at hj
        rw [getD_take _ _ _ (by omega), getD_app]
        by_cases h3 : j < (F.P i).c.length
        · rw [if_pos h3]
          exact take_getD r.b (by rw [hb96, r.s]; omega) j (by rw [r.s]; exact h3)
        · rw [if_neg h3]; exact r.z j (by rw [r.s]; omega)

end Go.Proofs.YtoknhcjneliboaaGreat

/- What Read does to any system. -/
namespace Go.Proofs.YtoknhcjneliboaaGreat
open Go.RowKit Go.ChangeMaps Go.MapKept
set_option linter.unusedVariables false
set_option maxRecDepth 20000

set_option maxHeartbeats 2000000 in
theorem read_err (p : Nat) (S : Sg) (F : Fs) (w : World) (H : Sy w p S) (R : Rel S F) (n off cnt : Int) (E : Int) (hE : ¬ E = 0) (he : F.file n = E) :
    Calls Tryz.prog 219 #[.pointer (some ⟨p, 0, none⟩), .int .i64 n, .int .i64 off, .int .i64 cnt] w fun e w' => e = .returned (.tuple #[.slice none 0 0, .int .i64 E]) ∧ w' = w := by
  have k0 := hid (file_no p S F w H R n (by rw [he]; exact hE))
  rw [he] at k0
  clear H R he
  go_enter Tryz.func219, Tryz.ntmps219
  go_wp2_with fail
  refine k0.out.mono ?_
  rintro e w1 ⟨rfl, rfl⟩
  clear k0
  go_wp2_with fail
  go_ret2
  exact ⟨rfl, rfl⟩
set_option maxHeartbeats 2000000 in
theorem read_neg (p : Nat) (S : Sg) (w : World) (H : Sy w p S) (i : Nat) (h1 : 1 ≤ i) (hi : i < 17) (hk : (S.P i).k = 1) (off cnt : Int) (hz : off < 0 ∨ cnt < 0) :
    Calls Tryz.prog 219 #[.pointer (some ⟨p, 0, none⟩), .int .i64 (i : Int), .int .i64 off, .int .i64 cnt] w fun e w' => e = .returned (.tuple #[.slice none 0 0, .int .i64 22]) ∧ w' = w := by
  have k1 := hid (file_yes p S w H i h1 hi hk)
  clear H
  by_cases h : off < 0
  · go_enter Tryz.func219, Tryz.ntmps219
    go_wp2_with fail
    refine k1.out.mono ?_
    rintro e w1 ⟨rfl, rfl⟩
    clear k1
    go_wp2_with fail
    go_ret2
    exact ⟨rfl, rfl⟩
  · have h2 : cnt < 0 := by omega
    go_enter Tryz.func219, Tryz.ntmps219
    go_wp2_with fail
    refine k1.out.mono ?_
    rintro e w1 ⟨rfl, rfl⟩
    clear k1
    go_wp2_with fail
    go_ret2
    exact ⟨rfl, rfl⟩

theorem pread (p : Nat) (F : Fs) (G : Nat → Prop) (w : World) (H : Pf w p F G) (hF : FOk F) (n off cnt : Int) (ho : off ≤ 9223372036854775807) (hc : cnt ≤ 9223372036854775807) :
    Calls Tryz.prog 219 #[.pointer (some ⟨p, 0, none⟩), .int .i64 n, .int .i64 off, .int .i64 cnt] w fun e w' => (∃ v, e = .returned (.tuple #[v, .int .i64 (F.read n off cnt).2]) ∧ w'.ownsRow w.heap.size 5 1 v (F.read n off cnt).1.length ((F.read n off cnt).1.map (Value.int .u8))) ∧ PfTo w p F G w' := by
  have HP := H
  obtain ⟨S, HS, R, hG⟩ := H
  by_cases hf : F.file n ≠ 0
  · have e : F.read n off cnt = ([], F.file n) := by unfold Fs.read; rw [if_pos hf]
    rw [e]
    refine (read_err p S F w HS R n off cnt _ hf rfl).mono ?_
    rintro e w' ⟨rfl, rfl⟩
    exact ⟨⟨_, rfl, World.ownsRow_nil _ _ _ _⟩, PfTo.same HP (Below.refl _ _)⟩
  have hf0 := Decidable.not_not.1 hf
  obtain ⟨fk, f1, f2⟩ := Fs.file_ok hF hf0
  obtain ⟨i, rfl⟩ : ∃ i : Nat, n = (i : Int) := ⟨n.toNat, by omega⟩
  have hi : i < 17 := by omega
  have fk : (F.P i).k = 1 := fk
  have r := R.P i hi
  have hk : (S.P i).k = 1 := r.k.trans fk
  by_cases h0 : off < 0 ∨ cnt < 0
  · have e : F.read (i : Int) off cnt = ([], 22) := by unfold Fs.read; rw [if_neg hf, if_pos h0]
    rw [e]
    refine (read_neg p S w HS i (by omega) hi hk off cnt h0).mono ?_
    rintro e w' ⟨rfl, rfl⟩
    exact ⟨⟨_, rfl, World.ownsRow_nil _ _ _ _⟩, PfTo.same HP (Below.refl _ _)⟩
  obtain ⟨o, rfl⟩ : ∃ o : Nat, off = (o : Int) := ⟨off.toNat, by omega⟩
  obtain ⟨m, rfl⟩ : ∃ m : Nat, cnt = (m : Int) := ⟨cnt.toNat, by omega⟩
  have e : F.read (i : Int) (o : Int) (m : Int) = (((F.P i).c.drop o).take m, 0) := by unfold Fs.read; rw [if_neg hf, if_neg h0]; rfl
  rw [e]
  have hcl := (hF.c i).1
  refine (read_ok p S w i (by omega) hi (S.P i) S.T (by rw [S.bl_self]; exact HS) hk (by rw [r.s]; exact hcl) o m (by omega) (by omega)).mono ?_
  rintro e w' ⟨⟨g, c, rfl, h⟩, hb⟩
  have er : rd (S.P i) o m = ((F.P i).c.drop o).take m := by unfold rd; rw [r.b]
  have el : min m ((S.P i).s - o) = (((F.P i).c.drop o).take m).length := by rw [List.length_take, List.length_drop, r.s]
  rw [er, el] at h
  rw [el]
  exact ⟨⟨_, rfl, h⟩, PfTo.same HP hb⟩

end Go.Proofs.YtoknhcjneliboaaGreat

/- 'append(own, b...)' of bytes as it runs (as in FAppR, FAt). -/
namespace Go.Proofs.YtoknhcjneliboaaGreat
open Go.RowKit Go.ChangeMaps Go.MapKept
set_option linter.unusedVariables false
set_option maxRecDepth 20000

/-- 'append(own, b...)' of bytes, either of which may be nil, as it runs. -/
theorem run_append_bytes {P : Program} (w : World) (base : Nat) (t ty : TypeId) (i : TypeInfo) (ht : P.underlying t = some (.slice 5)) (hi : P.info? 5 = some i) (hz : i.zero = some (.int .u8 0)) (hsize : i.size = 1) (hby : i.bytes = 1)
    (v : Value) (n : Nat) (xs : List Value) (hown : w.ownsRow base 5 1 v n xs) (a0 : Option Addr) (m c : Nat) (zs : List Int) (hsrc : Src w a0 m zs) (hnil : a0 = none → c = 0) (hb : n + m ≤ 140737488355328) (hbase : base ≤ w.heap.size) :
    ∃ v' w', (Builtin.append_ #[t, t] ty #[v, .slice a0 m c]).run P w = .ok v' w' ∧ w'.ownsRow base 5 1 v' (n + m) (xs ++ zs.map (Value.int .u8)) ∧ w.grownBy w' v.ownBlock := by
  cases a0 with
  | none =>
    obtain rfl := hnil rfl
    obtain rfl : m = 0 := by
      rcases Nat.eq_zero_or_pos m with h | h
      · exact h
      · obtain ⟨_, _, e, _⟩ := hsrc.2 h; cases e
    obtain rfl : zs = [] := List.eq_nil_of_length_eq_zero hsrc.1
    refine ⟨v, w, ?_, by simpa using hown, World.grownBy.refl _ _⟩
    rcases hown.2 with ⟨rfl, rfl⟩ | ⟨g, cap, cur, rfl, hb, hg, hnc, hcm, hcs, htake⟩
    · simp [Builtin.append_, run_underlying ht, Builtin.lenOf, Builtin.firstCells, sizeOf, typeInfo, hi]
    · simp [Builtin.append_, run_underlying ht, Builtin.lenOf, Builtin.firstCells, sizeOf, typeInfo, hi, loadCells, hnc, storeCells]
  | some ad =>
    have hsl := hsrc.1
    obtain ⟨v', w', h1, h2, h3, _⟩ := run_append_own (P := P) w base t ty 5 i (.int .u8 0) 1 1 ht hi hz hsize hby rfl (by decide) v n xs hown ad m c (zs.map (Value.int .u8)) (by simp [hsl]) (fun j u hj => by
      have hjl : j < zs.length := by have := (List.getElem?_eq_some_iff.1 hj).1; simpa using this
      obtain ⟨b, o', e, _, hc⟩ := hsrc.2 (by omega)
      obtain rfl := Option.some.inj e
      rw [Addr.add_lit, hc j (by omega), ← hj]
      simp [List.getD, List.getElem?_eq_getElem hjl]) (fun u hu => by obtain ⟨z, _, rfl⟩ := List.mem_map.1 hu; rfl) (by unfold maxLen; omega) (by omega) hbase
    exact ⟨v', w', h1, h2, h3⟩

/-- 'append' as it is known to run, also behind a guard that holds. -/
theorem wpList_append_is {P : Program} {w : World} {ops : Array Oper} {rest : List Oper} {o : Oper} {a : Act} {Q : Exit → Act → World → Prop} (hw : Region.wanted o (yielded ops a.tmps) = true) (s x : Operand) (t : TypeId)
    (ho : o.op = .call { callee := .builtin .append, args := #[s, x], argTypes := #[t, t] }) (vs vx v' : Value) (w' : World) (hs : a.eval s = vs) (hx : a.eval x = vx) (hrun : (Builtin.append_ #[t, t] o.type #[vs, vx]).run P w = .ok v' w')
    (h : wpList P ops Q rest (a.put o.dst v') w') : wpList P ops Q (o :: rest) a w := by
  refine wpList_step fun K hK => ?_
  rw [if_pos hw]
  unfold Oper.wp
  simp [execOp, ho, resolve, invoke, builtin, hs, hx, hrun, Result.andThen]
  exact hK _ _ h

end Go.Proofs.YtoknhcjneliboaaGreat

/- The document's Read. -/
namespace Go.Proofs.YtoknhcjneliboaaGreat
open Go.RowKit
set_option linter.unusedVariables false
set_option maxRecDepth 20000

theorem file_is {F : Fs} (hF : FOk F) {n : Int} (h : F.file n = 0) : ∃ i : Nat, n = (i : Int) ∧ 1 ≤ i ∧ i < 17 ∧ (F.P i).k = 1 := by
  unfold Fs.file at h
  split at h
  · omega
  · rename_i ht
    obtain ⟨i, rfl, h1, h2, h3⟩ := there_is (by simpa using ht)
    split at h
    · omega
    · rename_i hk
      rcases hF.k i with q | q | q
      · exact absurd q h3
      · exact ⟨i, rfl, h1, h2, q⟩
      · exact absurd q hk

theorem own_empty (w : World) (ty : TypeId) : (w.alloc (Obj.cells #[] ty)).ownsRow w.heap.size ty 1 (.slice (some ⟨w.heap.size, 0, none⟩) 0 0) 0 [] :=
  ⟨rfl, .inr ⟨w.heap.size, 0, #[], rfl, Nat.le_refl _, heap_alloc_new _ _, Nat.le_refl _, by unfold maxLen; omega, rfl, rfl⟩⟩

/-- What append onto nothing leaves. -/
theorem app_new (w : World) (a0 : Option Addr) (m c : Nat) (zs : List Int) (hsrc : Src w a0 m zs) (hnil : a0 = none → c = 0) (hb : m ≤ 1000000) :
    ∃ va vc w', (Builtin.append_ #[30, 30] 30 #[.slice (some ⟨w.heap.size, 0, none⟩) 0 0, .slice a0 m c]).run Tryz.prog (w.alloc (Obj.cells #[] 5)) = .ok (.slice va m vc) w' ∧ Hid (w'.ownsRow w.heap.size 5 1 (.slice va m vc) m (zs.map (Value.int .u8)) ∧ Below w.heap.size w w') := by
  obtain ⟨i0, hi0, hz0, hz1, hz2⟩ := info_parts Tryz.cinfo5
  obtain ⟨v', w', h1, h2, h3⟩ := run_append_bytes (P := Tryz.prog) (w.alloc (Obj.cells #[] 5)) w.heap.size 30 30 i0 Tryz.underlying30 hi0 hz0 hz1 hz2 _ 0 [] (own_empty w 5) a0 m c zs (hsrc.below ((Below.refl _ w).alloc (Nat.le_refl _) _)) hnil (by omega) (by simp)
  have hO : w'.ownsRow w.heap.size 5 1 v' m (zs.map (Value.int .u8)) := by simpa using h2
  obtain ⟨va, vc, rfl, _⟩ := own_shp hO
  exact ⟨va, vc, w', h1, hid ⟨hO, ((Below.refl w.heap.size w).alloc (Nat.le_refl _) _).grown h3 (by simp) (fun x hx => by simp [Value.ownBlock] at hx; omega)⟩⟩

set_option maxHeartbeats 2000000 in
theorem rread_ok (x g u : Nat) (V : Nat → Value) (F : Fs) (w : World) (H : Rf w x g u V F) (hF : FOk F) (i : Nat) (i1 : 1 ≤ i) (i2 : i < 17) (hf : F.file (i : Int) = 0) (off cnt : Nat) (ho : off ≤ 9223372036854775807) (hc : cnt ≤ 9223372036854775807) :
    Calls Tryz.prog 67 #[.pointer (some ⟨x, 0, none⟩), .int .i64 (i : Int), .int .i64 (off : Int), .int .i64 (cnt : Int)] w fun e w' => (∃ v, e = .returned (.tuple #[v, .int .i64 0]) ∧ w'.ownsRow w.heap.size 5 1 v (((F.P i).c.drop off).take cnt).length ((((F.P i).c.drop off).take cnt).map (Value.int .u8))) ∧ Below w.heap.size w w' := by
  have k1 := hid (rfile_any x g u V F w H (i : Int))
  rw [hf] at k1
  have c0 := H.c0
  have c4 := H.b i i2
  have hrow := H.rb i i2
  have hL96 := (hF.c i).1
  obtain ⟨C, gC⟩ : ∃ C, C = (F.P i).c := ⟨_, rfl⟩
  rw [← gC] at hrow hL96 ⊢
  obtain ⟨L, gL⟩ : ∃ L, L = C.length := ⟨_, rfl⟩
  rw [← gL] at hrow hL96
  have a1 : ¬ (off : Int) < 0 := by omega
  have a2 : ¬ (cnt : Int) < 0 := by omega
  have n0 : (0 : Int) ≤ (i : Int) := by omega
  have n1 : (i : Int) < 17 := by omega
  obtain ⟨m, gm⟩ : ∃ m, m = min off L := ⟨_, rfl⟩
  have hmin : min (off : Int) (L : Int) = (m : Int) := by omega
  have b1 : (0 : Int) ≤ (m : Int) := by omega
  have b2 : (m : Int) ≤ (L : Int) := by omega
  have hms : m ≤ L := by omega
  obtain ⟨r, gr⟩ : ∃ r, r = min cnt (L - m) := ⟨_, rfl⟩
  have hmin2 : min (cnt : Int) ((L - m : Nat) : Int) = (r : Int) := by omega
  have b4 : (0 : Int) ≤ (r : Int) := by omega
  have b5 : r ≤ L - m := by omega
  obtain ⟨Z, gZ⟩ : ∃ Z, Z = (C.drop off).take cnt := ⟨_, rfl⟩
  have hZ : Z.length = r := by rw [gZ, List.length_take, List.length_drop]; omega
  rw [← gZ, hZ]
  have hZj : ∀ j, j < r → Z.getD j 0 = C.getD (m + j) 0 := fun j hj => by
    rw [gZ, List.getD_eq_getElem?_getD, List.getD_eq_getElem?_getD, List.getElem?_take_of_lt (by omega), List.getElem?_drop, show off + j = m + j by omega]
  rcases hrow.2 with ⟨e, hL0⟩ | ⟨q, c, cur, e, _, hq, hLc, hcm, _⟩
  · subst hL0
    have hr0 : r = 0 := by omega
    have hm0 : m = 0 := by omega
    obtain rfl : Z = [] := List.eq_nil_of_length_eq_zero (by rw [hZ, hr0])
    subst hr0 hm0
    rw [e] at c4
    have q1 : min (cnt : Int) 0 = 0 := by omega
    have q2 : min (off : Int) 0 = 0 := by omega
    clear H hF hf e gm gr hrow gC gL gZ hZ hZj hmin hmin2
    go_enter Tryz.func67, Tryz.ntmps67
    go_wp2_with fail
    refine k1.out.mono ?_
    rintro e w1 ⟨rfl, rfl⟩
    clear k1
    go_wp2_with fail
    go_ret2
    exact ⟨⟨_, rfl, own_empty w1 5⟩, (Below.refl _ w1).alloc (Nat.le_refl _) _⟩
  · rw [e] at c4 hrow
    have hsrc0 := Src.own hrow
    have b3 : (L : Int) ≤ (c : Int) := by omega
    have b6 : (r : Int) ≤ ((c - m : Nat) : Int) := by omega
    have hcm2 : c ≤ 9223372036854775807 := by simpa [maxLen] using hcm
    have HS : Hid (∀ o, (0 < r → o = m) → Src w (some ⟨q, o, none⟩) r Z) := hid (fun o ho => by
      refine ⟨hZ, fun h0 => ?_⟩
      obtain ⟨b, o', e', hb, hcc⟩ := hsrc0.2 (by omega)
      simp only [Option.some.injEq, Addr.mk.injEq] at e'
      obtain ⟨rfl, rfl, _⟩ := e'
      refine ⟨_, o, rfl, hb, fun j hj => ?_⟩
      rw [hZj j hj, ho h0]
      have := hcc (m + j) (by omega)
      rwa [Nat.zero_add] at this)
    by_cases hcm : c = m
    · have hr0 : r = 0 := by omega
      obtain rfl : Z = [] := List.eq_nil_of_length_eq_zero (by rw [hZ, hr0])
      subst hr0
      clear H hF hf e gm gr HS hrow hsrc0 gC gL gZ hZ hZj hq
      go_enter Tryz.func67, Tryz.ntmps67
      go_wp2_with fail
      refine k1.out.mono ?_
      rintro e w1 ⟨rfl, rfl⟩
      clear k1
      go_wp2_with fail
      go_ret2
      exact ⟨⟨_, rfl, own_empty w1 5⟩, (Below.refl _ w1).alloc (Nat.le_refl _) _⟩
    · obtain ⟨va, vc, w', hrun, HW⟩ := app_new w (some ⟨q, m, none⟩) r (c - m) Z (HS.out m (fun _ => rfl)) (fun h => by cases h) (by omega)
      have HRUN := hid hrun
      clear H hF hf e gm gr HS hrow hsrc0 gC gL gZ hZ hZj hq hrun
      go_enter Tryz.func67, Tryz.ntmps67
      go_wp2_with fail
      refine k1.out.mono ?_
      rintro e w1 ⟨rfl, rfl⟩
      clear k1
      go_wp2_with (at_builtin; refine wpList_append_is rfl (.tmp 38) (.tmp 44) 30 rfl _ _ _ _ rfl rfl HRUN.out ?_)
      go_ret2
      exact ⟨⟨_, rfl, HW.out.1⟩, HW.out.2⟩

set_option maxHeartbeats 2000000 in
theorem rread_any (x g u : Nat) (V : Nat → Value) (F : Fs) (w : World) (H : Rf w x g u V F) (hF : FOk F) (n off cnt : Int) (ho : off ≤ 9223372036854775807) (hc : cnt ≤ 9223372036854775807) :
    Calls Tryz.prog 67 #[.pointer (some ⟨x, 0, none⟩), .int .i64 n, .int .i64 off, .int .i64 cnt] w fun e w' => (∃ v, e = .returned (.tuple #[v, .int .i64 (F.read n off cnt).2]) ∧ w'.ownsRow w.heap.size 5 1 v (F.read n off cnt).1.length ((F.read n off cnt).1.map (Value.int .u8))) ∧ Below w.heap.size w w' := by
  have k1 := hid (rfile_any x g u V F w H n)
  by_cases hf : F.file n ≠ 0
  · rw [show F.read n off cnt = ([], F.file n) from if_pos hf]
    obtain ⟨E, gE⟩ : ∃ E, E = F.file n := ⟨_, rfl⟩
    rw [← gE] at k1 hf ⊢
    clear H hF gE
    go_enter Tryz.func67, Tryz.ntmps67
    go_wp2_with fail
    refine k1.out.mono ?_
    rintro e w1 ⟨rfl, rfl⟩
    clear k1
    go_wp2_with fail
    go_ret2
    exact ⟨⟨_, rfl, World.ownsRow_nil _ _ _ _⟩, Below.refl _ _⟩
  · have hf2 := Decidable.not_not.1 hf
    by_cases hz : off < 0 ∨ cnt < 0
    · rw [show F.read n off cnt = ([], 22) by unfold Fs.read; rw [if_neg hf, if_pos hz]]
      rw [hf2] at k1
      clear H hF
      by_cases h : off < 0
      · go_enter Tryz.func67, Tryz.ntmps67
        go_wp2_with fail
        refine k1.out.mono ?_
        rintro e w1 ⟨rfl, rfl⟩
        clear k1
        go_wp2_with fail
        go_ret2
        exact ⟨⟨_, rfl, World.ownsRow_nil _ _ _ _⟩, Below.refl _ _⟩
      · have h2 : cnt < 0 := by omega
        go_enter Tryz.func67, Tryz.ntmps67
        go_wp2_with fail
        refine k1.out.mono ?_
        rintro e w1 ⟨rfl, rfl⟩
        clear k1
        go_wp2_with fail
        go_ret2
        exact ⟨⟨_, rfl, World.ownsRow_nil _ _ _ _⟩, Below.refl _ _⟩
    · obtain ⟨i, rfl, i1, i2, i3⟩ := file_is hF hf2
      obtain ⟨o, rfl⟩ : ∃ o : Nat, off = (o : Int) := ⟨off.toNat, by omega⟩
      obtain ⟨c, rfl⟩ : ∃ c : Nat, cnt = (c : Int) := ⟨cnt.toNat, by omega⟩
      have e : F.read (i : Int) (o : Int) (c : Int) = (((F.P i).c.drop o).take c, 0) := by unfold Fs.read; rw [if_neg hf, if_neg hz]; rfl
      rw [e]
      exact rread_ok x g u V F w H hF i i1 i2 hf2 o c (by omega) (by omega)

end Go.Proofs.YtoknhcjneliboaaGreat

/- The document's within. -/
namespace Go.Proofs.YtoknhcjneliboaaGreat
open Go.RowKit
set_option linter.unusedVariables false
set_option maxRecDepth 20000

theorem Rch.front {F : Fs} {a c : Nat} (r : Rch F a c) : c = a ∨ ∃ x ∈ (F.P a).Q, Rch F x.2 c := by
  induction r with
  | refl => exact .inl rfl
  | step x _ hx e ih =>
    rcases ih with rfl | ⟨y, hy, hr⟩
    · exact .inr ⟨x, hx, by rw [e]; exact .refl _⟩
    · exact .inr ⟨y, hy, .step x hr hx e⟩

/-- Whether a directory lies within another one. -/
noncomputable def inB (F : Fs) (dir top : Nat) : Bool := @decide (Rch F top dir) (Classical.propDecidable _)
theorem inB_yes {F : Fs} {dir top : Nat} (h : Rch F top dir) : inB F dir top = true := by unfold inB; exact @decide_eq_true _ (Classical.propDecidable _) h
theorem inB_no {F : Fs} {dir top : Nat} (h : ¬ Rch F top dir) : inB F dir top = false := by unfold inB; exact @decide_eq_false _ (Classical.propDecidable _) h
theorem inB_leaf {F : Fs} (hF : FOk F) {dir top : Nat} (hd : (F.P dir).k = 2) (ht : (F.P top).k ≠ 2) : inB F dir top = false := inB_no (fun r => by
  have := r.leaf (hF.file top ht)
  rw [this] at hd
  exact ht hd)


set_option maxHeartbeats 4000000 in
theorem rwithin_upto (x g u : Nat) (V : Nat → Value) (F : Fs) (hF : FOk F) (rk : Nat → Nat) (hrk : ∀ i y, y ∈ (F.P i).Q → rk y.2 < rk i) (dir : Nat) (hd17 : dir < 17) (hd : (F.P dir).k = 2) : ∀ r top, rk top < r → top < 17 → ∀ (w : World) (H : Rf w x g u V F),
    Calls Tryz.prog 115 #[.pointer (some ⟨x, 0, none⟩), .int .i64 (dir : Int), .int .i64 (top : Int)] w fun e w' => e = .returned (.bool (inB F dir top)) ∧ Below w.heap.size w w' := by
  intro r
  induction r with
  | zero => intro top h; omega
  | succ r IH =>
    intro top hr ht w H
    by_cases e : dir = top
    · have i1 : ((dir : Int) == (top : Int)) = true := by simp [e]
      have hR := inB_yes (F := F) (dir := dir) (top := top) (by rw [e]; exact .refl _)
      rw [hR]
      clear IH H hr hrk hF hd hR e
      go_enter Tryz.func115, Tryz.ntmps115
      go_wp2_with fail
      go_ret
      exact ⟨rfl, Below.refl _ _⟩
    · have i1 : ((dir : Int) == (top : Int)) = false := by simp; omega
      have c0 := H.c0
      have c1 := H.q top ht
      have n0 : (0 : Int) ≤ (top : Int) := by omega
      have n1 : (top : Int) < 17 := by omega
      obtain ⟨Q, gQ⟩ : ∃ Q, Q = (F.P top).Q := ⟨_, rfl⟩
      have hQ := H.rQ top ht
      have hl6 := hF.len top
      rw [← gQ] at hQ hl6
      obtain ⟨a, c, eV, hnc, hcm, hcell⟩ := own_shp hQ
      rw [eV] at c1
      obtain ⟨L, gL⟩ : ∃ L, L = Q.length := ⟨_, rfl⟩
      rw [← gL] at c1 hcell hnc hl6
      have GL := hid gL
      have HC := hid hcell
      have HR := hid H
      have HLT := hid H.lts
      have HIH : Hid (∀ k, ∀ h : k < Q.length, Q[k].2 < 17 ∧ (∀ (w : World), Rf w x g u V F → Calls Tryz.prog 115 #[.pointer (some ⟨x, 0, none⟩), .int .i64 (dir : Int), .int .i64 (Q[k].2 : Int)] w fun e w' => e = .returned (.bool (inB F dir Q[k].2)) ∧ Below w.heap.size w w')) := hid (fun k h => by
        have hm : Q[k] ∈ (F.P top).Q := by rw [← gQ]; exact List.getElem_mem h
        have h17 := (hF.nm top _ hm).2.1
        exact ⟨h17, fun w HW => IH _ (by have := hrk top _ hm; omega) h17 w HW⟩)
      obtain ⟨R, gR⟩ : ∃ R, R = inB F dir top := ⟨_, rfl⟩
      have HRy : Hid (∀ k, ∀ h : k < Q.length, inB F dir Q[k].2 = true → R = true) := hid (fun k h hh => by
        rw [gR]
        by_cases q : Rch F Q[k].2 dir
        · exact inB_yes (Rch.head Q[k] (by rw [← gQ]; exact List.getElem_mem h) rfl q)
        · rw [inB_no q] at hh; simp at hh)
      have HRn : Hid ((∀ k, ∀ h : k < Q.length, inB F dir Q[k].2 = false) → R = false) := hid (fun hh => by
        rw [gR]
        refine inB_no (fun q => ?_)
        rcases q.front with h | ⟨y, hy, hr⟩
        · exact e h
        · rw [← gQ] at hy
          obtain ⟨k, hk, rfl⟩ := List.mem_iff_getElem.1 hy
          have := hh k hk
          rw [inB_yes hr] at this; simp at this)
      have HK : Hid (∀ i, (F.P i).k ≠ 2 → inB F dir i = false) := hid (fun i hi => inB_leaf hF hd hi)
      rw [← gR]
      clear IH H gQ hQ hcell gL gR eV hr hrk hF hd e
      go_enter Tryz.func115, Tryz.ntmps115
      go_wp2_with fail
      go_loopw [21] (fun v21 wr => ∃ j : Nat, j ≤ L ∧ v21 = .int .i64 (j : Int) ∧ Hid (Below w.heap.size w wr) ∧ Hid (∀ k, ∀ h : k < Q.length, k < j → inB F dir Q[k].2 = false)) (fun v21 _ => L - (intOf v21).toNat)
      case atStart => exact ⟨0, Nat.zero_le _, rfl, hid (Below.refl _ _), hid (fun k h hk => by omega)⟩
      case round =>
        obtain ⟨j, hj, rfl, HB, HN⟩ := hrel
        by_cases e : j < L
        · have hj2 : (j : Int) < (L : Int) := by omega
          have hj0 : (0 : Int) ≤ (j : Int) := by omega
          have hjQ : j < Q.length := by rw [← GL.out]; exact e
          obtain ⟨q, rfl, _, hqs, hcc⟩ := HC.out (by omega)
          obtain ⟨y1, y2⟩ := nmC_at Q j hjQ
          have d1 := (HB.out.cell (p := ⟨q, j * 2, none⟩) hqs).trans (hcc _ _ y1)
          have d2 := (HB.out.cell (p := ⟨q, j * 2 + 1, none⟩) hqs).trans (hcc _ _ y2)
          obtain ⟨h17, hcall⟩ := HIH.out j hjQ
          have HRF := hid (HR.out.grow HB.out)
          have HBs := hid HB.out.size
          have HS : Hid (inB F dir Q[j].2 = false → ∀ k, ∀ h : k < Q.length, k < j + 1 → inB F dir Q[k].2 = false) := hid (fun h k hk hkj => by
            by_cases e : k = j
            · subst e; exact h
            · exact HN.out k hk (by omega))
          have HY := hid (HRy.out j hjQ)
          have HKj := hid (HK.out Q[j].2)
          generalize bs Q[j].1 = sj at d1
          obtain ⟨m, gm⟩ : ∃ m, m = Q[j].2 := ⟨_, rfl⟩
          rw [← gm] at d2 h17 hcall HS HY HKj
          have dk := HRF.out.k m h17
          have c0' := HRF.out.c0
          have m0 : (0 : Int) ≤ (m : Int) := by omega
          have m1 : (m : Int) < 17 := by omega
          have HCL := hid hcall
          have xl := HLT.out.1
          have gl := HLT.out.2.1
          have xs : x < wr.heap.size := Nat.lt_of_lt_of_le xl HBs.out
          have gs : g < wr.heap.size := Nat.lt_of_lt_of_le gl HBs.out
          have xs1 : x < wr.heap.size + 1 := by omega
          have gs1 : g < wr.heap.size + 1 := by omega
          clear gm hcc y1 y2 hcall c0 c1 xl gl
          by_cases hk : (F.P m).k = 2
          · have g1 : ((F.P m).k == 2) = true := by simp [hk]
            obtain ⟨b, gb⟩ : ∃ b, b = inB F dir m := ⟨_, rfl⟩
            rw [← gb] at HS HY
            have HC2 : Hid (∀ W, Rf W x g u V F → Calls Tryz.prog 115 #[.pointer (some ⟨x, 0, none⟩), .int .i64 (dir : Int), .int .i64 (m : Int)] W fun e w' => e = .returned (.bool b) ∧ Below W.heap.size W w') := hid (by rw [gb]; exact HCL.out)
            generalize (F.P m).k = km at dk g1 hk
            subst hk
            clear HKj HCL gb HK HIH HRy HRn g1
            have HX : Hid (Below wr.heap.size wr ((wr.alloc (.cells #[.string sj, .int .i64 (m : Int)] 151)))) := hid ((Below.refl _ _).alloc (Nat.le_refl _) _)
            cases b with
            | true =>
              have HY2 := hid (HY.out rfl)
              clear HY HS
              go_wp2_with fail
              go_region_held3 (fun W => W.cell? ⟨x, 0, none⟩ = some (.slice (some ⟨g, 0, none⟩) 17 17) ∧ W.cell? ⟨wr.heap.size, 1, none⟩ = some (.int .i64 (m : Int)) ∧ W.cell? ⟨g, m * 6, none⟩ = some (.int .i64 2)) (first | (refine ⟨?_, ?_, ?_⟩ <;> assumption) | go_keep) ((go_at_call 115; refine (HC2.out _ (HRF.out.grow (by first | exact HX.out | exact HX.out.drew))).mono ?_; rintro e w2 ⟨rfl, hb2⟩; have y : ∀ b o, b < wr.heap.size + 1 → w2.cell? ⟨b, o, none⟩ = (wr.alloc (.cells #[.string sj, .int .i64 (m : Int)] 151)).cell? ⟨b, o, none⟩ := fun b o hb => World.cell?_of_block (a := ⟨b, o, none⟩) (hb2.block b (by simpa using hb)); have HB2 : Hid (Below wr.heap.size wr w2) := hid (by first | exact HX.out.trans (hb2.mono (by simp)) | exact HX.out.drew.trans (hb2.mono (by simp)))))
              all_goals
                go_wp2_with fail
                go_ret
                rw [HY2.out]
                exact ⟨rfl, HB.out.trans (HB2.out.mono HBs.out)⟩
            | false =>
              have HS2 := hid (HS.out rfl)
              clear HY HS
              go_wp2_with fail
              go_region_held3 (fun W => W.cell? ⟨x, 0, none⟩ = some (.slice (some ⟨g, 0, none⟩) 17 17) ∧ W.cell? ⟨wr.heap.size, 1, none⟩ = some (.int .i64 (m : Int)) ∧ W.cell? ⟨g, m * 6, none⟩ = some (.int .i64 2)) (first | (refine ⟨?_, ?_, ?_⟩ <;> assumption) | go_keep) ((go_at_call 115; refine (HC2.out _ (HRF.out.grow (by first | exact HX.out | exact HX.out.drew))).mono ?_; rintro e w2 ⟨rfl, hb2⟩; have y : ∀ b o, b < wr.heap.size + 1 → w2.cell? ⟨b, o, none⟩ = (wr.alloc (.cells #[.string sj, .int .i64 (m : Int)] 151)).cell? ⟨b, o, none⟩ := fun b o hb => World.cell?_of_block (a := ⟨b, o, none⟩) (hb2.block b (by simpa using hb)); have HB2 : Hid (Below wr.heap.size wr w2) := hid (by first | exact HX.out.trans (hb2.mono (by simp)) | exact HX.out.drew.trans (hb2.mono (by simp)))))
              all_goals
                go_wp2_with fail
                go_roundw
                case rel => exact ⟨j + 1, by omega, by go_num, hid (HB.out.trans (HB2.out.mono HBs.out)), HS2⟩
                case measure => simp [intOf]; omega
          · have g1 : ((F.P m).k == 2) = false := by simpa using hk
            have HS2 := hid (HS.out (HKj.out hk))
            have HX : Hid (Below wr.heap.size wr ((wr.alloc (.cells #[.string sj, .int .i64 (m : Int)] 151)))) := hid ((Below.refl _ _).alloc (Nat.le_refl _) _)
            generalize (F.P m).k = km at dk g1 hk
            clear HKj HCL HK HIH HRy HRn HS HY
            go_wp2_with fail
            go_quiet (fail)
            go_wp2_with fail
            go_roundw
            case rel => exact ⟨j + 1, by omega, by go_num, hid (HB.out.trans ((below_drewN HX.out _).mono HBs.out)), HS2⟩
            case measure => simp [intOf]; omega
        · have hj2 : ¬ (j : Int) < (L : Int) := by omega
          have HR0 := hid (HRn.out (fun k h => HN.out k h (by have := GL.out; omega)))
          clear HIH HRy HRn HK
          go_wp2_with fail
          go_ret
          rw [HR0.out]
          exact ⟨rfl, HB.out⟩

end Go.Proofs.YtoknhcjneliboaaGreat
