/- Texts of this seat, merged. -/
import Derived.Test.YtbglhmcahnkbfaaGreatHMg26
import Derived.Test.YtbglhmcahnkbfaaGreatHMg21
import Derived.Test.YtbglhmcahnkbfaaGreatHMg22

/- What Resize and Read do to any system. -/
namespace Go.Proofs.YtbglhmcahnkbfaaGreat
open Go.RowKit Go.ChangeMaps Go.MapKept
set_option linter.unusedVariables false
set_option maxRecDepth 20000

/-- A file that is cut. -/
theorem Rel.cut {S : Sg} {F : Fs} (R : Rel S F) (H : FOk F) (i : Nat) (hi : i < 17) (hb96 : (S.P i).b.length = 96) (z : Nat) (hz : z < (F.P i).c.length) :
    Rel (S.bl i { S.P i with s := z, b := splice (S.P i).b z (List.replicate (96 - z) 0) } (relT S.d ((F.P i).B.drop (Fs.need z)) S.T)) ((F.relB ((F.P i).B.drop (Fs.need z))).at_ i { F.P i with c := (F.P i).c.take z, B := (F.P i).B.take (Fs.need z) }) := by
  have r := R.P i hi
  have hc := (H.c i).1
  have hfit : z + (List.replicate (96 - z) (0 : Int)).length ≤ (S.P i).b.length := by simp [hb96]; omega
  have hsl : (splice (S.P i).b z (List.replicate (96 - z) 0)).length = 96 := by rw [length_splice _ _ _ hfit, hb96]
  have eP : ∀ j, ((F.relB ((F.P i).B.drop (Fs.need z))).at_ i { F.P i with c := (F.P i).c.take z, B := (F.P i).B.take (Fs.need z) }).P j = if j = i then { F.P i with c := (F.P i).c.take z, B := (F.P i).B.take (Fs.need z) } else F.P j := fun j => by rw [Fs.at_P, relB_P]
  have eQ : ∀ j, (((F.relB ((F.P i).B.drop (Fs.need z))).at_ i { F.P i with c := (F.P i).c.take z, B := (F.P i).B.take (Fs.need z) }).P j).Q = (F.P j).Q := fun j => by
    rw [eP]
    split
    · rename_i e; rw [e]
    · rfl
  refine ⟨by show S.d = (F.relB _).d; rw [relB_d]; exact R.d, ?_, fun j hj => ?_, fun j hj => by rw [eQ]; exact R.L j hj, fun j hj s => by rw [eQ]; exact R.N j hj s⟩
  · show relT S.d _ S.T = (F.relB _).T
    unfold relT Fs.relB
    rw [R.d, R.T]
    split <;> rfl
  · show NdR (updN S.P i _ j) _
    rw [eP]
    by_cases e : j = i
    · subst e
      rw [updN_same, if_pos rfl]
      refine ⟨r.k, r.l, r.h, ?_, ?_, fun k hk => ?_, fun k hk => ?_⟩
      · show z = ((F.P j).c.take z).length
        rw [List.length_take]; omega
      · show (splice (S.P j).b z (List.replicate (96 - z) 0)).take z = (F.P j).c.take z
        rw [← r.b]
        refine ext_getD (by rw [List.length_take, hsl, List.length_take, List.length_take, hb96, r.s]; omega) (fun k hk => ?_)
        have hk' : k < z := by rw [List.length_take] at hk; omega
        rw [getD_take _ _ _ hk', getD_take _ _ _ hk', getD_take _ _ _ (by rw [r.s]; omega), getD_splice_out _ _ _ _ hfit (by omega)]
      · change z ≤ k at hk
        show (splice (S.P j).b z (List.replicate (96 - z) 0)).getD k 0 = 0
        by_cases q : k < 96
        · obtain ⟨m, rfl⟩ : ∃ m, k = z + m := ⟨k - z, by omega⟩
          rw [getD_splice_in _ _ _ _ hfit (by simp; omega)]
          exact getD_zeros _ _
        · exact getD_over _ _ (by omega)
      · change k < ((F.P j).B.take (Fs.need z)).length at hk
        rw [List.length_take] at hk
        show (S.P j).B.getD k 0 = ((((F.P j).B.take (Fs.need z)).getD k 0 : Nat) : Int)
        rw [getD_take_nat _ _ _ (by omega)]
        exact r.B k (by omega)
    · rw [updN_ne _ _ _ _ e, if_neg e]
      exact R.P j hj

set_option maxHeartbeats 2000000 in
theorem resize_err (p : Nat) (S : Sg) (F : Fs) (w : World) (H : Sy w p S) (R : Rel S F) (n z : Int) (E : Int) (hE : ¬ E = 0) (he : F.file n = E) :
    Calls Tryz.prog 88 #[.pointer (some ⟨p, 0, none⟩), .int .i64 n, .int .i64 z] w fun e w' => e = .returned (.int .i64 E) ∧ w' = w := by
  have k0 := hid (file_no p S F w H R n (by rw [he]; exact hE))
  rw [he] at k0
  clear H R he
  go_enter Tryz.func88, Tryz.ntmps88
  go_wp2_with fail
  refine k0.out.mono ?_
  rintro e w1 ⟨rfl, rfl⟩
  clear k0
  go_wp2_with fail
  go_ret
  exact ⟨rfl, rfl⟩
set_option maxHeartbeats 2000000 in
theorem resize_out (p : Nat) (S : Sg) (w : World) (H : Sy w p S) (i : Nat) (h1 : 1 ≤ i) (hi : i < 17) (hk : (S.P i).k = 1) (z : Int) (hz : z < 0 ∨ 96 < z) :
    Calls Tryz.prog 88 #[.pointer (some ⟨p, 0, none⟩), .int .i64 (i : Int), .int .i64 z] w fun e w' => e = .returned (.int .i64 (if z < 0 then 22 else 27)) ∧ w' = w := by
  have k1 := hid (file_yes p S w H i h1 hi hk)
  clear H
  rcases hz with h | h
  · rw [if_pos h]
    go_enter Tryz.func88, Tryz.ntmps88
    go_wp2_with fail
    refine k1.out.mono ?_
    rintro e w1 ⟨rfl, rfl⟩
    go_wp2_with fail
    go_ret
    exact ⟨rfl, rfl⟩
  · have h0 : ¬ z < 0 := by omega
    rw [if_neg h0]
    go_enter Tryz.func88, Tryz.ntmps88
    go_wp2_with fail
    refine k1.out.mono ?_
    rintro e w1 ⟨rfl, rfl⟩
    go_wp2_with fail
    go_ret
    exact ⟨rfl, rfl⟩
set_option maxHeartbeats 2000000 in
theorem resize_in (p : Nat) (S : Sg) (w : World) (H : Sy w p S) (i : Nat) (h1 : 1 ≤ i) (hi : i < 17) (hk : (S.P i).k = 1) (z : Nat) (hz : z ≤ 96) (Q : Ending → World → Prop)
    (kc : z < (S.P i).s → Hid (Calls Tryz.prog 112 #[.pointer (some ⟨p, 0, none⟩), .pointer (some ⟨p, 1 + i * 107, none⟩), .int .i64 (z : Int)] w fun e w' => e = .returned (.tuple #[]) ∧ Hid (Q (.returned (.int .i64 0)) w')))
    (kg : ¬ z < (S.P i).s → Hid (Calls Tryz.prog 113 #[.pointer (some ⟨p, 0, none⟩), .pointer (some ⟨p, 1 + i * 107, none⟩), .int .i64 (z : Int)] w fun e w' => ∃ er : Int, e = .returned (.int .i64 er) ∧ Hid (Q (.returned (.int .i64 er)) w'))) :
    Calls Tryz.prog 88 #[.pointer (some ⟨p, 0, none⟩), .int .i64 (i : Int), .int .i64 (z : Int)] w Q := by
  have k1 := hid (file_yes p S w H i h1 hi hk)
  have c3 := H.s i hi
  have h0 : ¬ (z : Int) < 0 := by omega
  have h2 : ¬ (96 : Int) < (z : Int) := by omega
  obtain ⟨s, gs⟩ : ∃ s, s = (S.P i).s := ⟨_, rfl⟩
  rw [← gs] at c3 kc kg
  clear H gs hk
  by_cases h : z < s
  · have h3 : (z : Int) < (s : Int) := by omega
    have k2 := kc h
    clear kc kg
    go_enter Tryz.func88, Tryz.ntmps88
    go_wp2_with fail
    refine k1.out.mono ?_
    rintro e w1 ⟨rfl, rfl⟩
    clear k1
    go_wp2_with fail
    refine k2.out.mono ?_
    rintro e w2 ⟨rfl, HQ⟩
    clear k2
    go_wp2_with fail
    exact HQ.out
  · have h3 : ¬ (z : Int) < (s : Int) := by omega
    have k2 := kg h
    clear kc kg
    go_enter Tryz.func88, Tryz.ntmps88
    go_wp2_with fail
    refine k1.out.mono ?_
    rintro e w1 ⟨rfl, rfl⟩
    clear k1
    go_wp2_with fail
    refine k2.out.mono ?_
    rintro e w2 ⟨er, rfl, HQ⟩
    clear k2
    go_wp2_with fail
    exact HQ.out

theorem presize (p : Nat) (F : Fs) (G : Nat → Prop) (w : World) (H : Pf w p F G) (hF : FOk F) (n z : Int) :
    Calls Tryz.prog 88 #[.pointer (some ⟨p, 0, none⟩), .int .i64 n, .int .i64 z] w fun e w' => e = .returned (.int .i64 (F.resize n z).2) ∧ PfTo w p (F.resize n z).1 G w' := by
  have HP := H
  obtain ⟨S, HS, R, hG⟩ := H
  by_cases hf : F.file n ≠ 0
  · have e : F.resize n z = (F, F.file n) := by unfold Fs.resize; rw [if_pos hf]
    rw [e]
    refine (resize_err p S F w HS R n z _ hf rfl).mono ?_
    rintro e w' ⟨rfl, rfl⟩
    exact ⟨rfl, PfTo.same HP (Below.refl _ _)⟩
  have hf0 := Decidable.not_not.1 hf
  obtain ⟨fk, f1, f2⟩ := Fs.file_ok hF hf0
  obtain ⟨i, rfl⟩ : ∃ i : Nat, n = (i : Int) := ⟨n.toNat, by omega⟩
  have hi : i < 17 := by omega
  have fk : (F.P i).k = 1 := fk
  have r := R.P i hi
  have hk : (S.P i).k = 1 := r.k.trans fk
  have hT0 : S.T 0 = false := by rw [R.T]; exact hF.T0
  by_cases h0 : z < 0
  · have e : F.resize (i : Int) z = (F, 22) := by unfold Fs.resize; rw [if_neg hf, if_pos h0]
    rw [e]
    refine (resize_out p S w HS i (by omega) hi hk z (.inl h0)).mono ?_
    rintro e w' ⟨rfl, rfl⟩
    rw [if_pos h0]
    exact ⟨rfl, PfTo.same HP (Below.refl _ _)⟩
  by_cases h96 : 96 < z
  · have e : F.resize (i : Int) z = (F, 27) := by unfold Fs.resize; rw [if_neg hf, if_neg h0, if_pos h96]
    rw [e]
    refine (resize_out p S w HS i (by omega) hi hk z (.inr h96)).mono ?_
    rintro e w' ⟨rfl, rfl⟩
    rw [if_neg h0]
    exact ⟨rfl, PfTo.same HP (Below.refl _ _)⟩
  obtain ⟨m, rfl⟩ : ∃ m : Nat, z = (m : Int) := ⟨z.toNat, by omega⟩
  have hm : m ≤ 96 := by omega
  have hc := hF.c i
  have hB := hF.B i
  refine resize_in p S w HS i (by omega) hi hk m hm _ (fun hlt => ?_) (fun hge => ?_)
  · have hlt' : m < (F.P i).c.length := by rw [r.s] at hlt; exact hlt
    have e : F.resize (i : Int) (m : Int) = ((F.relB ((F.P i).B.drop (Fs.need m))).at_ i { F.P i with c := (F.P i).c.take m, B := (F.P i).B.take (Fs.need m) }, 0) := by
      unfold Fs.resize; rw [if_neg hf, if_neg h0, if_neg h96]; exact if_pos hlt'
    rw [e]
    have hn : (F.P i).B.length = need (S.P i).s := by rw [hB, r.s]; rfl
    refine hid ((cut_gen p S w HS i hi (by rw [r.s]; exact hc.1) m hlt ((F.P i).B.drop (Fs.need m)) (by rw [List.length_drop, hn]; rfl) (fun j hj => ?_) (fun b hb => (hF.T i b (List.mem_of_mem_drop hb)).2.1)).mono ?_)
    · have : ((F.P i).B.drop (Fs.need m)).getD j 0 = (F.P i).B.getD (need m + j) 0 := by
        rw [List.getD_eq_getElem?_getD, List.getElem?_drop, List.getD_eq_getElem?_getD]; rfl
      rw [this]
      exact r.B _ (by omega)
    · rintro e w' ⟨rfl, h, u⟩
      exact ⟨rfl, hid ⟨rfl, Into.to ⟨_, h, R.cut hF i hi (HS.ok i hi).b m hlt', fun x hx => foot_bl (S := S) (x := { S.P i with s := m, b := splice (S.P i).b m (List.replicate (96 - m) 0) }) rfl x hx, upd_p u⟩ hG⟩⟩
  · have hge' : ¬ m < (F.P i).c.length := by rw [r.s] at hge; exact hge
    have hfr := fits_rel R hF i hi m
    have hmax : max (S.P i).s m = m := Nat.max_eq_right (by omega)
    refine hid ((grow_all p S w HS hT0 i hi m hm).mono ?_)
    rintro e w' (⟨h, rfl, hb⟩ | ⟨h, rfl, B', q1, q2, q3, u⟩)
    · rw [hmax] at h
      have hfit : F.fits i m = false := by rw [hfr]; exact decide_eq_false h
      have e : F.resize (i : Int) (m : Int) = (F, 28) := by
        unfold Fs.resize; rw [if_neg hf, if_neg h0, if_neg h96]
        exact (if_neg hge').trans (if_pos hfit)
      exact ⟨28, rfl, hid (by rw [e]; exact ⟨rfl, PfTo.same HP hb⟩)⟩
    · rw [hmax] at h q1 q2
      have hfit : F.fits i m = true := by rw [hfr]; exact decide_eq_true h
      have e : F.resize (i : Int) (m : Int) = ((F.grow i m).ct i ((F.P i).c ++ List.replicate (m - (F.P i).c.length) 0), 0) := by
        unfold Fs.resize; rw [if_neg hf, if_neg h0, if_neg h96]
        exact (if_neg hge').trans (if_neg (by rw [show (m : Int).toNat = m from rfl, show (i : Int).toNat = i from rfl, hfit]; simp))
      refine ⟨0, rfl, hid ?_⟩
      rw [e]
      refine ⟨rfl, Into.to ⟨_, q1, ?_, fun x hx => foot_bl (S := S) (x := { S.P i with B := B', s := m }) rfl x hx, upd_p u⟩ hG⟩
      have hb96 := (HS.ok i hi).b
      have := R.grown hF i hi m (by omega) B' (S.P i).b ((F.P i).c ++ List.replicate (m - (F.P i).c.length) 0) ?_ (fun j hj => r.z j (by omega)) (by simp; omega) hfit q2 q3
      · exact this
      · rw [r.s] at hge
        refine ext_getD (by simp [hb96]; omega) (fun j hj => ?_)
        rw [List.length_take] at hj
        rw [getD_take _ _ _ (by omega), getD_app]
        by_cases h3 : j < (F.P i).c.length
        · rw [if_pos h3]
          exact take_getD r.b (by rw [hb96, r.s]; omega) j (by rw [r.s]; exact h3)
        · rw [if_neg h3]; exact r.z j (by rw [r.s]; omega)

end Go.Proofs.YtbglhmcahnkbfaaGreat

/- What Read does to any system. -/
namespace Go.Proofs.YtbglhmcahnkbfaaGreat
open Go.RowKit Go.ChangeMaps Go.MapKept
set_option linter.unusedVariables false
set_option maxRecDepth 20000

end Go.Proofs.YtbglhmcahnkbfaaGreat

/- What Find and Link do to any system. -/
namespace Go.Proofs.YtbglhmcahnkbfaaGreat
open Go.RowKit Go.ChangeMaps Go.MapKept
set_option linter.unusedVariables false
set_option maxRecDepth 20000

theorem findS_fs {S : Sg} {F : Fs} {w : World} {p : Nat} {t : ByteArray} (H : Sy w p S) (R : Rel S F) : findS S t = F.find (bl t) := by
  unfold findS Fs.find
  rw [R.walk H t]
  split
  · rfl
  · cases F.walk (bl t) with
    | error e => rfl
    | ok q =>
      obtain ⟨y, s, n⟩ := q
      simp only [toNode]
      split <;> rename_i h
      · split at h
        · simp at h; rw [← h]; rename_i h0; rw [if_pos h0]
        · simp at h
      · split at h
        · simp at h
        · simp at h; rename_i h0; rw [if_neg h0]; rw [h.2.2]
theorem pfind (p : Nat) (F : Fs) (G : Nat → Prop) (w : World) (H : Pf w p F G) (hF : FOk F) (t : ByteArray) (hs : t.size ≤ 140737488355328) :
    Calls Tryz.prog 85 #[.pointer (some ⟨p, 0, none⟩), .string t] w fun e w' => e = .returned (.tuple #[.int .i64 ((F.find (bl t)).1 : Int), .int .i64 (F.find (bl t)).2]) ∧ Below w.heap.size w w' := by
  obtain ⟨S, HS, R, hG⟩ := H
  have := find_any p S t w HS (R.tree hF) hs
  rw [findS_fs HS R] at this
  exact this

theorem toNew_fs {S : Sg} {F : Fs} {w : World} {p : Nat} {t : ByteArray} (H : Sy w p S) (R : Rel S F) (hF : FOk F) : toNew S.L (wkS S t) = toNew (fun i => (F.P i).Q.length) (F.walk (bl t)) := by
  rw [R.walk H t]
  cases hw : F.walk (bl t) with
  | error e => rfl
  | ok q =>
    obtain ⟨y, s, n⟩ := q
    have W := hF.walk_ok hw
    simp only [toNew]
    rw [show y.getLastD 0 = Fs.dirOf y from rfl, R.L _ W.lt.2]

end Go.Proofs.YtbglhmcahnkbfaaGreat

/- What Drop and Stat do to any system. -/
namespace Go.Proofs.YtbglhmcahnkbfaaGreat
open Go.RowKit Go.ChangeMaps Go.MapKept
set_option linter.unusedVariables false
set_option maxRecDepth 20000

set_option maxHeartbeats 2000000 in
theorem pdrop (p : Nat) (F : Fs) (G : Nat → Prop) (w : World) (H : Pf w p F G) (hF : FOk F) (n : Int) :
    Calls Tryz.prog 210 #[.pointer (some ⟨p, 0, none⟩), .int .i64 n] w fun e w' => e = .returned (.int .i64 (F.drop n).2) ∧ PfTo w p (F.drop n).1 G w' := by
  have HP := H
  obtain ⟨S, HS, R, hG⟩ := H
  by_cases ht : F.there n = false
  · have e : F.drop n = (F, 2) := by unfold Fs.drop; rw [if_pos ht]
    rw [e]
    have k0 := hid (node_no p S w HS n (there_no R ht))
    have HQ := hid (PfTo.same HP (Below.refl _ w))
    clear HS R hG HP e ht
    go_enter Tryz.func210, Tryz.ntmps210
    go_wp2_with fail
    refine k0.out.mono ?_
    rintro e w1 ⟨rfl, rfl⟩
    clear k0
    go_wp2_with fail
    go_ret
    exact ⟨rfl, HQ.out⟩
  obtain ⟨i, rfl, h1, h2, hk⟩ := there_yes (by simpa using ht : F.there n = true)
  have hh := hF.h i
  have eh := (R.P i h2).h
  have hkk : (S.P i).k ≠ 0 := by rw [(R.P i h2).k]; exact hk
  obtain ⟨m, hm⟩ : ∃ m : Nat, (F.P i).h = (m : Int) := ⟨(F.P i).h.toNat, by omega⟩
  have k0 := hid (node_yes p S w HS i h1 h2 hkk)
  have c := HS.h i h2
  rw [eh, hm] at c
  by_cases h3 : (F.P i).h = 0
  · have e : F.drop (i : Int) = (F, 22) := by unfold Fs.drop; rw [if_neg ht]; exact if_pos h3
    rw [e]
    obtain rfl : m = 0 := by omega
    change w.cell? ⟨p, 1 + i * 107 + 2, none⟩ = some (.int .i64 0) at c
    have HQ := hid (PfTo.same HP (Below.refl _ w))
    clear HS R hG HP e ht hk hh eh hkk hm h3
    go_enter Tryz.func210, Tryz.ntmps210
    go_wp2_with fail
    refine k0.out.mono ?_
    rintro e w1 ⟨rfl, rfl⟩
    clear k0
    go_wp2_with fail
    go_ret
    exact ⟨rfl, HQ.out⟩
  · have e : F.drop (i : Int) = ((F.hld i ((F.P i).h - 1)).gone i, 0) := by unfold Fs.drop; rw [if_neg ht]; exact if_neg h3
    rw [e]
    obtain ⟨q, rfl⟩ : ∃ q, m = q + 1 := ⟨m - 1, by omega⟩
    have ehq : (F.P i).h - 1 = (q : Int) := by omega
    rw [ehq]
    have f := HS.fz (1 + i * 107 + 2)
    have hS := HS.holdTo i h2 (q : Int)
    have hR := R.hold i h2 (q : Int)
    have eP : (F.hld i (q : Int)).P i = { F.P i with h := (q : Int) } := Fs.at_self _ _ _
    obtain ⟨W, gW⟩ : ∃ W, W = w.setCell ⟨p, 1 + i * 107 + 2, none⟩ (.int .i64 (q : Int)) := ⟨_, rfl⟩
    rw [← gW] at hS
    have k1 := hid (psettle p _ (F.hld i (q : Int)) W hS hR i h2 (by omega) (fun e => by rw [eP]; subst e; dsimp only; rw [(hF.dir 1 hF.root).2.2]; omega) (by rw [eP]; exact (hF.c i).1) (by rw [eP]; exact hF.B i) (by rw [eP]; exact fun b hb => (hF.T i b hb).2.1) (fun hq => by
      rw [eP] at hq ⊢
      dsimp only at hq ⊢
      refine hF.file i (fun e => hq (.inl ?_))
      rw [(hF.dir i e).2.2]; omega))
    have HU : Hid (Upd (S.foot p) w W) := by rw [gW]; exact hid (upd_p (Upd.setCell (F := (· = p)) w ⟨p, _, none⟩ _ rfl))
    have HG := hid hG
    have c1 : ¬ ((q + 1 : Nat) : Int) = 0 := by omega
    have c2 : ((q + 1 : Nat) : Int) - 1 = (q : Int) := by omega
    have c3 : wrap64 (q : Int) = (q : Int) := by unfold wrap64; omega
    clear HS R HP hG e ht hk hh eh hkk hm h3 ehq hS hR eP
    go_enter Tryz.func210, Tryz.ntmps210
    go_wp2_with fail
    refine k0.out.mono ?_
    rintro e w1 ⟨rfl, rfl⟩
    clear k0
    go_wp2_with fail
    rw [show w1.setCell ⟨p, 1 + i * 107 + 2, none⟩ (.int .i64 (q : Int)) = W from gW.symm]
    refine k1.out.mono ?_
    rintro e w2 ⟨rfl, h⟩
    have HH := hid h
    clear k1 h gW c f
    go_wp2_with fail
    go_ret
    exact ⟨rfl, Into.to (Into.trans (fun x hx => foot_at (S := S) (x := (S.P i).hold (q : Int)) rfl x hx) HU.out HH.out) HG.out⟩

set_option maxHeartbeats 4000000 in
set_option maxRecDepth 20000 in
theorem stat_any (p : Nat) (S : Sg) (w : World) (i : Nat) (h1 : 1 ≤ i) (hi : i < 17) (H : Sy w p S) (hk : (S.P i).k ≠ 0) (z : Nat) (hz : (z : Int) = if (S.P i).k = 2 then (S.L i : Int) else ((S.P i).s : Int)) :
    Calls Tryz.prog 87 #[.pointer (some ⟨p, 0, none⟩), .int .i64 (i : Int)] w fun e w' => e = .returned (.tuple #[.agg #[.int .i64 (S.P i).k, .int .i64 (S.P i).l, .int .i64 (z : Int)], .int .i64 0]) ∧ Below w.heap.size w w' := by
  obtain ⟨W, gW⟩ : ∃ W, W = w.alloc (Obj.cells #[.int .i64 0, .int .i64 0, .int .i64 0] 135) := ⟨_, rfl⟩
  have hB : Below w.heap.size w W := by rw [gW]; exact one_new _ _
  have hN : W.heap[w.heap.size]? = some (.cells #[.int .i64 0, .int .i64 0, .int .i64 0] 135 (0, 0)) := by rw [gW]; exact heap_alloc_new _ _
  have hS : Sy W p S := H.grow hB
  have k1 := hid (node_yes p S W hS i h1 hi hk)
  have c0 := hS.k i hi
  have c1 := hS.l i hi
  have c3 := hS.s i hi
  have c6 := hS.m i hi
  have hnm := hS.nms i hi
  have kl : Hid (∀ W', W' = W ∨ W' = W.drew → Calls Tryz.prog 110 #[.pointer (some ⟨p, 1 + i * 107, none⟩)] W' fun e w' => e = .returned (.int .i64 (z : Int)) ∧ w' = W') := by
    refine hid (fun W' hW' => ?_)
    have := fun W' (hw : W'.heap = W.heap) => length_any p (1 + i * 107) (S.P i).k (S.P i).s (S.P i).m _ _ W' ((World.cell?_of_block (a := ⟨p, 1 + i * 107, none⟩) (show W'.heap[p]? = W.heap[p]? by rw [hw])).trans c0) ((World.cell?_of_block (a := ⟨p, 1 + i * 107 + 3, none⟩) (show W'.heap[p]? = W.heap[p]? by rw [hw])).trans c3) ((World.cell?_of_block (a := ⟨p, 1 + i * 107 + 106, none⟩) (show W'.heap[p]? = W.heap[p]? by rw [hw])).trans c6) (hnm.block (fun b _ => by rw [hw]))
    rw [← hz] at this
    rcases hW' with rfl | rfl
    · exact this _ rfl
    · exact this _ rfl
  have r0 : W.cell? ⟨w.heap.size, 0, none⟩ = some (.int .i64 0) := by rw [cell_of_row W _ 0 _ _ _ hN]; rfl
  have r1 : W.cell? ⟨w.heap.size, 1, none⟩ = some (.int .i64 0) := by rw [cell_of_row W _ 1 _ _ _ hN]; rfl
  have r2 : W.cell? ⟨w.heap.size, 2, none⟩ = some (.int .i64 0) := by rw [cell_of_row W _ 2 _ _ _ hN]; rfl
  have f0 : ∀ j, W.frozen? ⟨w.heap.size, j, none⟩ = false := fun j => by simp [World.frozen?, hN]
  have f1 := f0 0
  have f2 := f0 1
  have f3 := f0 2
  obtain ⟨k, gk⟩ : ∃ k, k = (S.P i).k := ⟨_, rfl⟩
  obtain ⟨l, gl⟩ : ∃ l, l = (S.P i).l := ⟨_, rfl⟩
  obtain ⟨s, gs⟩ : ∃ s, s = z := ⟨_, rfl⟩
  rw [← gk] at c0 ⊢
  rw [← gl] at c1 ⊢
  rw [← gs] at kl ⊢
  have hpn : p ≠ w.heap.size := Nat.ne_of_lt H.lt
  have HN := hid hN
  have HB := hid hB
  clear H hS hnm c6 c3 hk hN hB gk gl gs hz f0
  go_enter Tryz.func87, Tryz.ntmps87
  go_wp2_with fail
  rw [← gW]
  clear gW
  refine k1.out.mono ?_
  rintro e w1 ⟨rfl, rfl⟩
  clear k1
  go_wp2_with fail
  go_region_held3 (fun W' => W'.cell? ⟨p, 1 + i * 107, none⟩ = some (.int .i64 k) ∧ W'.cell? ⟨p, 1 + i * 107 + 1, none⟩ = some (.int .i64 l)) (first | (refine ⟨?_, ?_⟩ <;> assumption) | (refine ⟨(cell_three _ _ _ _ _ ⟨p, _, none⟩ hpn).trans ?_, (cell_three _ _ _ _ _ ⟨p, _, none⟩ hpn).trans ?_⟩ <;> assumption) | go_keep) ((go_at_call 110; refine (kl.out _ (by first | exact .inl rfl | exact .inr rfl)).mono ?_; rintro e w' ⟨rfl, rfl⟩))
  go_wp2_with fail
  have q3 : ((((w1.setCell ⟨w.heap.size, 0, none⟩ (.int .i64 k)).setCell ⟨w.heap.size, 1, none⟩ (.int .i64 l)).setCell ⟨w.heap.size, 2, none⟩ (.int .i64 (s : Int))).drew).heap[w.heap.size]? = some (.cells (List.toArray [.int .i64 k, .int .i64 l, .int .i64 (s : Int)]) 135 (0, 0)) := by
    have g1 := heap_setCell_same w1 w.heap.size 0 _ _ (.int .i64 k) HN.out
    have g2 := heap_setCell_same _ w.heap.size 1 _ _ (.int .i64 l) g1
    have g3 := heap_setCell_same _ w.heap.size 2 _ _ (.int .i64 (s : Int)) g2
    exact g3
  have uu : Upd (· = w.heap.size) w1 ((((w1.setCell ⟨w.heap.size, 0, none⟩ (.int .i64 k)).setCell ⟨w.heap.size, 1, none⟩ (.int .i64 l)).setCell ⟨w.heap.size, 2, none⟩ (.int .i64 (s : Int))).drew) := by
    have u1 : Upd (· = w.heap.size) w1 (w1.setCell ⟨w.heap.size, 0, none⟩ (.int .i64 k)) := Upd.setCell (F := (· = w.heap.size)) w1 ⟨_, _, none⟩ _ rfl
    have u2 : Upd (· = w.heap.size) (w1.setCell ⟨w.heap.size, 0, none⟩ (.int .i64 k)) ((w1.setCell ⟨w.heap.size, 0, none⟩ (.int .i64 k)).setCell ⟨w.heap.size, 1, none⟩ (.int .i64 l)) := Upd.setCell (F := (· = w.heap.size)) _ ⟨_, _, none⟩ _ rfl
    have u3 : Upd (· = w.heap.size) ((w1.setCell ⟨w.heap.size, 0, none⟩ (.int .i64 k)).setCell ⟨w.heap.size, 1, none⟩ (.int .i64 l)) (((w1.setCell ⟨w.heap.size, 0, none⟩ (.int .i64 k)).setCell ⟨w.heap.size, 1, none⟩ (.int .i64 l)).setCell ⟨w.heap.size, 2, none⟩ (.int .i64 (s : Int))) := Upd.setCell (F := (· = w.heap.size)) _ ⟨_, _, none⟩ _ rfl
    exact ((u1.trans u2 (fun _ _ h => h)).trans u3 (fun _ _ h => h)).drewN 1
  refine bodyPost_ret (cell_result2 rfl _ _ w.heap.size 0 rfl [.int .i64 k, .int .i64 l, .int .i64 (s : Int)] _ (rangeAt_block q3) Tryz.underlying135 rfl csizeInfo) rfl ?_
  exact ⟨rfl, HB.out.trans (uu.below HB.out.size (fun x hx => by omega))⟩


end Go.Proofs.YtbglhmcahnkbfaaGreat

/- What Stat does to any system, the answer of a number without a node too. -/
namespace Go.Proofs.YtbglhmcahnkbfaaGreat
open Go.RowKit Go.ChangeMaps Go.MapKept
set_option linter.unusedVariables false
set_option maxRecDepth 20000

theorem builtInfo0 : Tryz.prog.built 135 [] = some #[.int .i64 0, .int .i64 0, .int .i64 0] := by kernel_rfl
set_option maxHeartbeats 1000000 in
theorem stat_no (p : Nat) (S : Sg) (w : World) (H : Sy w p S) (n : Int) (h : n < 1 ∨ 16 < n ∨ (1 ≤ n ∧ n ≤ 16 ∧ (S.P n.toNat).k = 0)) :
    Calls Tryz.prog 87 #[.pointer (some ⟨p, 0, none⟩), .int .i64 n] w fun e w' => e = .returned (.tuple #[.agg #[.int .i64 0, .int .i64 0, .int .i64 0], .int .i64 2]) ∧ Below w.heap.size w w' := by
  obtain ⟨W, gW⟩ : ∃ W, W = w.alloc (Obj.cells #[.int .i64 0, .int .i64 0, .int .i64 0] 135) := ⟨_, rfl⟩
  have hB : Below w.heap.size w W := by rw [gW]; exact one_new _ _
  have hN : W.heap[w.heap.size]? = some (.cells #[.int .i64 0, .int .i64 0, .int .i64 0] 135 (0, 0)) := by rw [gW]; exact heap_alloc_new _ _
  have k1 := hid (node_no p S W (H.grow hB) n h)
  have HB := hid hB
  have HN := hid hN
  clear H h hB hN
  go_enter Tryz.func87, Tryz.ntmps87
  go_wp2_with fail
  rw [← gW]
  refine k1.out.mono ?_
  rintro e w2 ⟨rfl, rfl⟩
  have h2 := HN.out
  have r0 : w2.cell? ⟨w.heap.size, 0, none⟩ = some (.int .i64 0) := by rw [cell_of_row w2 _ 0 _ _ _ h2]; rfl
  have r1 : w2.cell? ⟨w.heap.size, 1, none⟩ = some (.int .i64 0) := by rw [cell_of_row w2 _ 1 _ _ _ h2]; rfl
  have r2 : w2.cell? ⟨w.heap.size, 2, none⟩ = some (.int .i64 0) := by rw [cell_of_row w2 _ 2 _ _ _ h2]; rfl
  have f0 : ∀ j, w2.frozen? ⟨w.heap.size, j, none⟩ = false := fun j => by simp [World.frozen?, h2]
  have f1 := f0 0
  have f2 := f0 1
  have f3 := f0 2
  clear k1 h2 f0 gW
  go_wp2_with (refine wpList_build_is rfl 135 #[] rfl _ (by simpa [Act.eval] using builtInfo0) ?_)
  have q3 : (((w2.setCell ⟨w.heap.size, 0, none⟩ (.int .i64 0)).setCell ⟨w.heap.size, 1, none⟩ (.int .i64 0)).setCell ⟨w.heap.size, 2, none⟩ (.int .i64 0)).heap[w.heap.size]? = some (.cells (List.toArray [.int .i64 0, .int .i64 0, .int .i64 0]) 135 (0, 0)) := by
    have g1 := heap_setCell_same w2 w.heap.size 0 _ _ (.int .i64 0) HN.out
    have g2 := heap_setCell_same _ w.heap.size 1 _ _ (.int .i64 0) g1
    have g3 := heap_setCell_same _ w.heap.size 2 _ _ (.int .i64 0) g2
    exact g3
  refine bodyPost_ret (cell_result2 rfl _ _ w.heap.size 0 rfl [.int .i64 0, .int .i64 0, .int .i64 0] _ (rangeAt_block q3) Tryz.underlying135 rfl csizeInfo) rfl ?_
  exact ⟨rfl, ((HB.out.setCell (Nat.le_refl _) _).setCell (Nat.le_refl _) _).setCell (Nat.le_refl _) _⟩

end Go.Proofs.YtbglhmcahnkbfaaGreat

/- The document's add of a name. -/
namespace Go.Proofs.YtbglhmcahnkbfaaGreat
open Go.RowKit
set_option linter.unusedVariables false
set_option maxRecDepth 20000

end Go.Proofs.YtbglhmcahnkbfaaGreat

/- The document's free and gone. -/
namespace Go.Proofs.YtbglhmcahnkbfaaGreat
open Go.RowKit
set_option linter.unusedVariables false
set_option maxRecDepth 20000

theorem Rf.mark {w : World} {x g u : Nat} {V : Nat → Value} {F : Fs} (H : Rf w x g u V F) (b : Nat) (hb : b < 25) (v : Bool) : Rf (w.setCell ⟨u, b, none⟩ (.bool v)) x g u V { F with T := updT F.T b v } := by
  obtain ⟨C, h1, h2, h3⟩ := H.nds
  obtain ⟨D, h4, h5, h6⟩ := H.use
  have hs : Upd (· = u) w (w.setCell ⟨u, b, none⟩ (.bool v)) := Upd.setCell w ⟨u, b, none⟩ (.bool v) rfl
  have hu7 := heap_setCells u 4 [.bool v] b w D h4 (by simp; omega)
  refine ⟨hs.heap H.at0 H.ne.2.1, ⟨C, hs.heap h1 H.ne.2.2, h2, h3⟩, ⟨splice D b [.bool v], hu7, by rw [length_splice _ _ _ (by simp; omega)]; exact h5, ?_⟩, ?_, ?_, ?_, H.ap, H.ng, H.ne⟩
  · intro i hi
    by_cases e : i = b
    · subst e
      have := getElem?_splice_in D [.bool v] i 0 (by simp; omega) (by simp)
      rw [Nat.add_zero] at this
      rw [this]
      show some _ = some (Value.bool (updT F.T i v i))
      rw [updT_same]
    · rw [getElem?_splice_out D [.bool v] b i (by simp; omega) (by simp; omega), h6 i hi]
      show some _ = some (Value.bool (updT F.T b v i))
      rw [updT_ne _ _ _ _ e]
  · exact fun i hi => hs.own (H.rb i hi) (fun k hk => (H.ng _ k (by omega) hk).2.2)
  · exact fun i hi => hs.own (H.rB i hi) (fun k hk => (H.ng _ k (by omega) hk).2.2)
  · exact fun i hi => hs.own (H.rQ i hi) (fun k hk => (H.ng _ k (by omega) hk).2.2)

theorem relB_nil (F : Fs) : F.relB [] = F := by unfold Fs.relB; split <;> simp
theorem relB_yes (F : Fs) (B : List Nat) (h : dfc F.d 2 = true) : F.relB B = F := if_pos h
theorem relB_snoc (F : Fs) (B : List Nat) (b : Nat) (h : dfc F.d 2 = false) : { F.relB B with T := updT (F.relB B).T b false } = F.relB (B ++ [b]) := by
  unfold Fs.relB
  rw [if_neg (by simp [h]), if_neg (by simp [h])]
  suffices e : updT (fun b => if b ∈ B then false else F.T b) b false = fun b_1 => if b_1 ∈ B ++ [b] then false else F.T b_1 by
    show Fs.mk _ _ _ = Fs.mk _ _ _
    exact congrArg (Fs.mk F.d F.P) e
  funext i
  unfold updT
  by_cases e : i = b
  · subst e; simp
  · simp [e]

set_option maxHeartbeats 4000000 in
theorem rfree_any (x g u : Nat) (V : Nat → Value) (F : Fs) (w : World) (H : Rf w x g u V F) (a : Option Addr) (L c : Nat) (B : List Nat) (hL : B.length = L) (hL2 : L ≤ 1000) (hB : ∀ b ∈ B, b < 25)
    (hcell : ∀ j, ∀ h : j < B.length, ∃ q o, a = some ⟨q, o, none⟩ ∧ q < w.heap.size ∧ q ≠ u ∧ w.cell? ⟨q, o + j, none⟩ = some (.int .i64 (B[j] : Int))) :
    Calls Tryz.prog 120 #[.pointer (some ⟨x, 0, none⟩), .slice a L c] w fun e w' => e = .returned (.tuple #[]) ∧ Rf w' x g u V (F.relB B) ∧ Upd (· = u) w w' := by
  have HC := hid hcell
  have HB := hid hB
  have GL := hid hL
  have HI : Hid (Rf w x g u V (F.relB (B.take 0))) := hid (by rw [List.take_zero, relB_nil]; exact H)
  clear H hcell hB hL
  go_enter Tryz.func120, Tryz.ntmps120
  go_wp2_with fail
  go_loopw [5, 8] (fun v5 v8 wr => ∃ j : Nat, j ≤ L ∧ v8 = .int .i64 (j : Int) ∧ Hid (Rf wr x g u V (F.relB (B.take j))) ∧ Hid (Upd (· = u) w wr)) (fun _ v8 _ => L - (intOf v8).toNat)
  case atStart => exact ⟨0, Nat.zero_le _, rfl, HI, hid (Upd.refl _ _)⟩
  case round =>
    clear HI
    obtain ⟨j, hj, rfl, HR, HU⟩ := hrel
    by_cases hlt : j < L
    · have hj2 : (j : Int) < (L : Int) := by omega
      have hj0 : (0 : Int) ≤ (j : Int) := by omega
      have hj3 : j + 1 ≤ L := hlt
      have hjB : j < B.length := by rw [GL.out]; exact hlt
      obtain ⟨q, o, rfl, hq, hqu, hcj⟩ := HC.out j hjB
      have d1 := (World.cell?_of_block (a := ⟨q, o + j, none⟩) (HU.out.block q hq hqu)).trans hcj
      have hb := HB.out B[j] (List.getElem_mem hjB)
      have k1 := hid (rhas_any x g u V _ wr HR.out 2)
      rw [relB_d] at k1
      have ht : B.take (j + 1) = B.take j ++ [B[j]] := (List.take_append_getElem hjB).symm
      have c1 := HR.out.c1
      have hth : ∃ D : List Value, wr.heap[u]? = some (.cells D.toArray 4 (0, 0)) ∧ D.length = 25 := by
        obtain ⟨D, h1, h2, _⟩ := HR.out.use; exact ⟨D, h1, h2⟩
      have d2 := HR.out.t B[j] hb
      have d3 : wr.frozen? ⟨u, B[j], none⟩ = false := by
        obtain ⟨D, h1, _⟩ := hth; simp [World.frozen?, h1]
      have b0 : (0 : Int) ≤ (B[j] : Int) := by omega
      have b1 : (B[j] : Int) < 25 := by omega
      have HN1 : Hid (dfc F.d 2 = true → Rf wr x g u V (F.relB (B.take (j + 1)))) := hid (fun h => by
        have := HR.out
        rw [relB_yes _ _ h] at this ⊢
        exact this)
      have HN2 : Hid (dfc F.d 2 = false → Rf (wr.setCell ⟨u, B[j], none⟩ (.bool false)) x g u V (F.relB (B.take (j + 1)))) := hid (fun h => by
        rw [ht, ← relB_snoc _ _ _ h]
        exact HR.out.mark _ hb false)
      have HU2 : Hid (Upd (· = u) w (wr.setCell ⟨u, B[j], none⟩ (.bool false))) := hid (HU.out.trans (Upd.setCell (F := (· = u)) wr ⟨u, B[j], none⟩ (.bool false) rfl) (fun b _ h => h))
      obtain ⟨D, gD⟩ : ∃ D, D = dfc F.d 2 := ⟨_, rfl⟩
      rw [← gD] at k1 HN1 HN2
      clear hcj ht hth gD HR
      generalize B[j] = bj at hb d1 d2 d3 b0 b1 HN2 HU2
      cases D with
      | true =>
        have HN := hid (HN1.out rfl)
        clear HN1 HN2 HU2
        go_wp2_with fail
        refine k1.out.mono ?_
        rintro e w1 ⟨rfl, rfl⟩
        clear k1
        go_wp2_with fail
        go_roundw
        case rel => exact ⟨j + 1, hj3, by go_num, HN, HU⟩
        case measure => simp [intOf]; omega
      | false =>
        have HN := hid (HN2.out rfl)
        clear HN1 HN2 HU
        go_wp2_with fail
        refine k1.out.mono ?_
        rintro e w1 ⟨rfl, rfl⟩
        clear k1
        go_wp2_with fail
        go_roundw
        case rel => exact ⟨j + 1, hj3, by go_num, HN, HU2⟩
        case measure => simp [intOf]; omega
    · have hj2 : ¬ (j : Int) < (L : Int) := by omega
      have HE : Hid (Rf wr x g u V (F.relB B)) := hid (by
        have := HR.out
        rwa [List.take_of_length_le (by have := GL.out; omega)] at this)
      clear HR
      go_wp2_with fail
      go_end0
      exact ⟨rfl, HE.out, HU.out⟩

theorem builtR0 : Tryz.prog.built 122 [] = some #[.int .i64 0, .int .i64 0, .int .i64 0, .slice none 0 0, .slice none 0 0, .slice none 0 0] := by kernel_rfl

theorem Rf.blocks {w : World} {x g u : Nat} {V : Nat → Value} {F : Fs} (H : Rf w x g u V F) (n : Nat) (hn : n < 17) : ∃ a c, V (n * 3 + 1) = .slice a (F.P n).B.length c ∧ (F.P n).B.length ≤ c ∧ c ≤ 9223372036854775807 ∧
    ∀ j, ∀ h : j < (F.P n).B.length, ∃ q o, a = some ⟨q, o, none⟩ ∧ q < w.heap.size ∧ q ≠ u ∧ w.cell? ⟨q, o + j, none⟩ = some (.int .i64 ((F.P n).B[j] : Int)) := by
  obtain ⟨a, c, e, h1, h2, h3⟩ := own_shp (H.rB n hn)
  refine ⟨a, c, e, h1, h2, fun j h => ?_⟩
  obtain ⟨q, rfl, _, hq, hc⟩ := h3 (by omega)
  refine ⟨q, 0, rfl, hq, (H.ng (n * 3 + 1) q (by omega) (by rw [e]; rfl)).2.2, ?_⟩
  rw [Nat.zero_add]
  exact hc j _ (by simp [List.getElem?_eq_getElem h])

/-- A number without a node. -/
def noV (V : Nat → Value) (n : Nat) : Nat → Value := fun i => if i / 3 = n then .slice none 0 0 else V i
theorem noV_own {V : Nat → Value} {n i b : Nat} (h : (noV V n i).ownBlock = some b) : i / 3 ≠ n ∧ (V i).ownBlock = some b := by
  unfold noV at h
  split at h
  · simp [Value.ownBlock] at h
  · exact ⟨by assumption, h⟩
theorem Rf.node {w : World} {x g u : Nat} {V : Nat → Value} {F : Fs} (H : Rf w x g u V F) (n : Nat) (hn : n < 17) (y : Fn) (hc : y.c = []) (hb : y.B = []) (hq : y.Q = []) :
    Rf (w.setCells g (n * 6) [.int .i64 y.k, .int .i64 y.l, .int .i64 y.h, .slice none 0 0, .slice none 0 0, .slice none 0 0]) x g u (noV V n) (F.at_ n y) := by
  have e : ∀ k, k < 3 → noV V n (n * 3 + k) = .slice none 0 0 := fun k hk => if_pos (by omega)
  refine H.put (U := fun _ => False) n hn y (noV V n) (fun i hi => if_neg hi) (Upd.refl _ _) (fun _ _ h => h.elim) 0 [.int .i64 y.k, .int .i64 y.l, .int .i64 y.h, .slice none 0 0, .slice none 0 0, .slice none 0 0] (by simp) ?_ ?_ ?_ ?_ ?_ ?_
  · have e0 := e 0 (by omega)
    rw [Nat.add_zero] at e0
    rw [e0, e 1 (by omega), e 2 (by omega)]; rfl
  · have e0 := e 0 (by omega)
    rw [Nat.add_zero] at e0
    rw [e0, hc]; exact World.ownsRow_nil _ _ _ _
  · rw [e 1 (by omega), hb]; exact World.ownsRow_nil _ _ _ _
  · rw [e 2 (by omega), hq]; exact World.ownsRow_nil _ _ _ _
  · intro i b hi h
    exact absurd hi (noV_own h).1
  · intro i j b hi hj hb ei ej
    exact absurd hi (noV_own ei).1
theorem noV_foot {x g u n b : Nat} {V : Nat → Value} (h : RfFoot x g u (noV V n) b) : RfFoot x g u V b := by
  rcases h with h | h | h | ⟨i, hi, h⟩
  · exact .inl h
  · exact .inr (.inl h)
  · exact .inr (.inr (.inl h))
  · exact .inr (.inr (.inr ⟨i, hi, (noV_own h).2⟩))

set_option maxHeartbeats 4000000 in
theorem rgone_any (x g u : Nat) (V : Nat → Value) (F : Fs) (w : World) (H : Rf w x g u V F) (n : Nat) (hn : n < 17) (h1 : n = 1 → 0 < (F.P n).l) (hB : ∀ b ∈ (F.P n).B, b < 25) (hBl : (F.P n).B.length ≤ 1000) :
    Calls Tryz.prog 123 #[.pointer (some ⟨x, 0, none⟩), .int .i64 (n : Int)] w fun e w' => e = .returned (.tuple #[]) ∧ RfTo w x g u V (F.gone n) w' := by
  have c0 := H.c0
  have c1 := H.l n hn
  have c2 := H.h n hn
  have n0 : (0 : Int) ≤ (n : Int) := by omega
  have n1 : (n : Int) < 17 := by omega
  have HS : Hid (0 < (F.P n).l ∨ 0 < (F.P n).h → RfTo w x g u V (F.gone n) w) := hid (fun h => by
    unfold Fs.gone
    rw [if_pos h]
    exact H.same (Below.refl _ _))
  have HG : Hid (¬ (0 < (F.P n).l ∨ 0 < (F.P n).h) → F.gone n = (F.relB (F.P n).B).at_ n Fn.no) := hid (fun h => if_neg h)
  by_cases e1 : n = 1
  · have i1 : ((n : Int) == 1) = true := by simp [e1]
    have HS2 := hid (HS.out (.inl (h1 e1)))
    generalize (F.P n).l = l at c1
    generalize (F.P n).h = k at c2
    clear HS HG h1 H hB hBl e1
    go_enter Tryz.func123, Tryz.ntmps123
    go_wp2_with fail
    (try simp only [Exit.inBlock, Exit.then])
    refine bodyPost_ret (results_none rfl _ _ _) rfl ?_
    exact ⟨rfl, HS2.out⟩
  · have i1 : ((n : Int) == 1) = false := by simp; omega
    by_cases hl : 0 < (F.P n).l
    · have HS2 := hid (HS.out (.inl hl))
      generalize (F.P n).l = l at c1 hl
      generalize (F.P n).h = k at c2
      clear HS HG h1 H hB hBl e1
      go_enter Tryz.func123, Tryz.ntmps123
      go_wp2_with fail
      (try simp only [Exit.inBlock, Exit.then])
      refine bodyPost_ret (results_none rfl _ _ _) rfl ?_
      exact ⟨rfl, HS2.out⟩
    · by_cases hh : 0 < (F.P n).h
      · have HS2 := hid (HS.out (.inr hh))
        generalize (F.P n).l = l at c1 hl
        generalize (F.P n).h = k at c2 hh
        clear HS HG h1 H hB hBl e1
        go_enter Tryz.func123, Tryz.ntmps123
        go_wp2_with fail
        (try simp only [Exit.inBlock, Exit.then])
        refine bodyPost_ret (results_none rfl _ _ _) rfl ?_
        exact ⟨rfl, HS2.out⟩
      · obtain ⟨a, c, eV, hLc, hcm, hcell⟩ := H.blocks n hn
        have c3 := H.B n hn
        rw [eV] at c3
        have k1 := hid (rfree_any x g u V F w H a (F.P n).B.length c (F.P n).B rfl hBl hB hcell)
        have HE := hid (HG.out (fun h => h.elim hl hh))
        rw [HE.out]
        generalize (F.P n).l = l at c1 hl
        generalize (F.P n).h = k at c2 hh
        clear HS HG h1 H hB e1 hcell eV
        go_enter Tryz.func123, Tryz.ntmps123
        go_wp2_with fail
        refine k1.out.mono ?_
        rintro e w1 ⟨rfl, hR, hU⟩
        clear k1
        have c0' := hR.c0
        obtain ⟨N, gN⟩ : ∃ N : List Value, N = [.int .i64 0, .int .i64 0, .int .i64 0, .slice none 0 0, .slice none 0 0, .slice none 0 0] := ⟨_, rfl⟩
        have H1 : Hid (N.toArray.all (·.oneCell') = true) := by rw [gN]; exact hid (by simp [Value.oneCell'])
        have HSZ : Hid ((Tryz.prog.info? 122).map (·.size) = some N.toArray.size) := by rw [gN]; exact hid csizeR6
        have HBT : Hid (Tryz.prog.built 122 [] = some N.toArray) := by rw [gN]; exact hid builtR0
        have HTH : Hid (w1.there g (n * 6) N.toArray.size) := by
          obtain ⟨C, h1, h2, _⟩ := hR.nds
          rw [gN]
          exact hid (there_of_block h1 (n * 6) 6 (by omega))
        have HT : Hid (RfTo w x g u V ((F.relB (F.P n).B).at_ n Fn.no) (w1.setCells g (n * 6) N)) := hid (by
          rw [gN]
          have h := hR.node n hn Fn.no rfl rfl rfl
          refine ⟨_, h, (hU.mono (G := RfFoot x g u V) (fun b _ h => .inr (.inr (.inl h)))).trans (upd_setCells g _ (n * 6) w1) (fun b _ h => .inr (.inl h)), fun b hb => .inl (noV_foot hb)⟩)
        clear hR hU gN c0 c1 c2 c3
        go_wp2_with (first
          | (refine wpList_build_is rfl 122 #[] rfl N.toArray (by simpa [Act.eval] using HBT.out) ?_)
          | (refine wpList_store_mid rfl 122 (.tmp 44) (.tmp 43) rfl g (n * 6) N.toArray rfl rfl HTH.out HSZ.out H1.out ?_))
        go_end0
        exact ⟨rfl, HT.out⟩

end Go.Proofs.YtbglhmcahnkbfaaGreat

/- The document's Unlink and Rmdir. -/
namespace Go.Proofs.YtbglhmcahnkbfaaGreat
open Go.RowKit
set_option linter.unusedVariables false
set_option maxRecDepth 20000

theorem Rf.cell1 {w : World} {x g u : Nat} {V : Nat → Value} {F : Fs} (H : Rf w x g u V F) (n : Nat) (hn : n < 17) (y : Fn) (o : Nat) (v : Value) (ho : o < 3) (hy : splice (ndL (F.P n) (V (n * 3)) (V (n * 3 + 1)) (V (n * 3 + 2))) o [v] = ndL y (V (n * 3)) (V (n * 3 + 1)) (V (n * 3 + 2))) (hc : y.c = (F.P n).c) (hb : y.B = (F.P n).B) (hq : y.Q = (F.P n).Q) :
    Rf (w.setCell ⟨g, n * 6 + o, none⟩ v) x g u V (F.at_ n y) := by
  refine H.put (U := fun _ => False) n hn y V (fun _ _ => rfl) (Upd.refl _ _) (fun _ _ h => h.elim) o [v] (by simp; omega) hy ?_ ?_ ?_ (fun i b _ h => .inr h) (fun i j b hi hj hb ei ej => ?_)
  · rw [hc]; exact H.rb n hn
  · rw [hb]; exact H.rB n hn
  · rw [hq]; exact H.rQ n hn
  · exact absurd (H.foot_lt b (.inr (.inr (.inr ⟨i, by omega, ei⟩)))) (by omega)
theorem Rf.hld {w : World} {x g u : Nat} {V : Nat → Value} {F : Fs} (H : Rf w x g u V F) (n : Nat) (hn : n < 17) (l : Int) : Rf (w.setCell ⟨g, n * 6 + 2, none⟩ (.int .i64 l)) x g u V (F.hld n l) :=
  H.cell1 n hn { F.P n with h := l } 2 _ (by omega) rfl rfl rfl rfl
theorem Rf.cell_to {w : World} {x g u : Nat} {V : Nat → Value} {F' : Fs} {j : Nat} {v : Value} (h : Rf (w.setCell ⟨g, j, none⟩ v) x g u V F') : Rf (w.setCell ⟨g, j, none⟩ v) x g u V F' ∧ Upd (RfFoot x g u V) w (w.setCell ⟨g, j, none⟩ v) ∧ ∀ b, RfFoot x g u V b → RfFoot x g u V b ∨ w.heap.size ≤ b :=
  ⟨h, Upd.setCell (F := RfFoot x g u V) w ⟨g, j, none⟩ v (.inr (.inl rfl)), fun b h => .inl h⟩
theorem RfTo.next {w w1 w2 : World} {x g u : Nat} {V V1 : Nat → Value} {F1 F2 : Fs} (h : Rf w1 x g u V1 F1 ∧ Upd (RfFoot x g u V) w w1 ∧ ∀ b, RfFoot x g u V1 b → RfFoot x g u V b ∨ w.heap.size ≤ b) (k : RfTo w1 x g u V1 F2 w2) : RfTo w x g u V F2 w2 := RfTo.trans h.2.1 h.2.2 k
theorem FOk.B25 {F : Fs} (H : FOk F) (n : Nat) : (∀ b ∈ (F.P n).B, b < 25) ∧ (F.P n).B.length ≤ 1000 := by
  refine ⟨fun b hb => (H.T n b hb).2.1, ?_⟩
  rw [H.B n]
  have := (H.c n).1
  unfold Fs.need
  omega

end Go.Proofs.YtbglhmcahnkbfaaGreat

/- The document's Blocks. -/
namespace Go.Proofs.YtbglhmcahnkbfaaGreat
open Go.RowKit
set_option linter.unusedVariables false
set_option maxRecDepth 20000

def natV (b : Nat) : Value := .int .i64 (b : Int)
end Go.Proofs.YtbglhmcahnkbfaaGreat

/- The document's Stat. -/
namespace Go.Proofs.YtbglhmcahnkbfaaGreat
open Go.RowKit
set_option linter.unusedVariables false
set_option maxRecDepth 20000

end Go.Proofs.YtbglhmcahnkbfaaGreat

/- What a look at open files tells. -/
namespace Go.Proofs.YtbglhmcahnkbfaaGreat
open Go.RowKit Go.ChangeMaps Go.MapKept
set_option linter.unusedVariables false
set_option maxRecDepth 20000

/-- What Look tells of an open file; of the first n. -/
def oiV (i : Nat) (x : Fl) : List Value := [.int .i64 (i : Int), .int .i64 x.k, .int .i64 x.of, .int .i64 x.off, .int .i64 x.fl, .int .i64 x.h]
def oiL (O : Nat → Fl) : Nat → List Value
  | 0 => []
  | n + 1 => if (O n).h = 0 then oiL O n else oiL O n ++ oiV n (O n)
def oiN (O : Nat → Fl) : Nat → Nat
  | 0 => 0
  | n + 1 => if (O n).h = 0 then oiN O n else oiN O n + 1
theorem oiN_le (O : Nat → Fl) : ∀ n, oiN O n ≤ n
  | 0 => Nat.le_refl _
  | n + 1 => by have := oiN_le O n; unfold oiN; split <;> omega
theorem oiL_congr {O O' : Nat → Fl} : ∀ n, (∀ i, i < n → (O i).h = (O' i).h ∧ ((O i).h ≠ 0 → O i = O' i)) → oiL O n = oiL O' n ∧ oiN O n = oiN O' n
  | 0, _ => ⟨rfl, rfl⟩
  | n + 1, h => by
    obtain ⟨a, b⟩ := oiL_congr n (fun i hi => h i (by omega))
    obtain ⟨c, d⟩ := h n (by omega)
    unfold oiL oiN
    rw [← c, a, b]
    by_cases e : (O n).h = 0
    · rw [if_pos e, if_pos e]; exact ⟨rfl, by rw [if_pos e]⟩
    · rw [if_neg e, if_neg e, d e]; exact ⟨rfl, by rw [← d e, if_neg e]⟩
theorem cells_new (w : World) (cs : List Value) (t : TypeId) (q : Nat) (hq : q = w.heap.size) : ∀ j u, cs[j]? = some u → (w.alloc (.cells (List.toArray cs) t)).cell? ((⟨q, 0, none⟩ : Addr).add j) = some u := by
  intro j u h
  subst hq
  rw [Addr.add_lit, Nat.zero_add, cell_of_row _ _ j _ t (0, 0) (heap_alloc_new _ _)]
  simpa using h
theorem infoOI : (Tryz.prog.info? 46).map (fun i => (i.zero, i.size, i.bytes)) = some (some (.agg #[.int .i64 0, .int .i64 0, .int .i64 0, .int .i64 0, .int .i64 0, .int .i64 0]), 6, 48) := by kernel_rfl


end Go.Proofs.YtbglhmcahnkbfaaGreat
