/- Texts of this seat, merged. -/
import Derived.Test.YtoknhcjneliboaaGreatFMg33
import Derived.Test.YtoknhcjneliboaaGreatFMg25
import Derived.Test.YtoknhcjneliboaaGreatFMg34
import Derived.Test.YtoknhcjneliboaaGreatFMg37

/- What the calls of names do (program): ofOne, ofTwo, Name, find, Stat, Truncate. (Written by gen_tp11.py.) -/
namespace Go.Proofs.YtoknhcjneliboaaGreat
open Go.RowKit Go.ChangeMaps Go.MapKept
set_option linter.unusedVariables false
set_option maxRecDepth 20000

theorem ofone_7 (t p : Nat) (w : World) (c0 : w.cell? ⟨t, 0, none⟩ = some (.pointer (some ⟨p, 0, none⟩))) :
    Calls Tryz.prog 73 #[.pointer (some ⟨t, 0, none⟩), .int .i64 7] w fun e w' => e = .returned (.func (.func 103) #[.pointer (some ⟨p, 0, none⟩)] #[]) ∧ w' = w := by
  go_enter Tryz.func73, Tryz.ntmps73
  go_wp2_with fail
  go_ret
  exact ⟨rfl, rfl⟩
theorem ofone_8 (t p : Nat) (w : World) (c0 : w.cell? ⟨t, 0, none⟩ = some (.pointer (some ⟨p, 0, none⟩))) :
    Calls Tryz.prog 73 #[.pointer (some ⟨t, 0, none⟩), .int .i64 8] w fun e w' => e = .returned (.func (.func 104) #[.pointer (some ⟨t, 0, none⟩)] #[]) ∧ w' = w := by
  go_enter Tryz.func73, Tryz.ntmps73
  go_wp2_with fail
  go_ret
  exact ⟨rfl, rfl⟩
theorem ofone_9 (t p : Nat) (w : World) (c0 : w.cell? ⟨t, 0, none⟩ = some (.pointer (some ⟨p, 0, none⟩))) :
    Calls Tryz.prog 73 #[.pointer (some ⟨t, 0, none⟩), .int .i64 9] w fun e w' => e = .returned (.func (.func 105) #[.pointer (some ⟨p, 0, none⟩)] #[]) ∧ w' = w := by
  go_enter Tryz.func73, Tryz.ntmps73
  go_wp2_with fail
  go_ret
  exact ⟨rfl, rfl⟩
theorem oftwo_10 (t p : Nat) (w : World) (c0 : w.cell? ⟨t, 0, none⟩ = some (.pointer (some ⟨p, 0, none⟩))) :
    Calls Tryz.prog 74 #[.pointer (some ⟨t, 0, none⟩), .int .i64 10] w fun e w' => e = .returned (.func (.func 106) #[.pointer (some ⟨p, 0, none⟩)] #[]) ∧ w' = w := by
  go_enter Tryz.func74, Tryz.ntmps74
  go_wp2_with fail
  go_ret
  exact ⟨rfl, rfl⟩
theorem oftwo_11 (t p : Nat) (w : World) (c0 : w.cell? ⟨t, 0, none⟩ = some (.pointer (some ⟨p, 0, none⟩))) :
    Calls Tryz.prog 74 #[.pointer (some ⟨t, 0, none⟩), .int .i64 11] w fun e w' => e = .returned (.func (.func 107) #[.pointer (some ⟨p, 0, none⟩)] #[]) ∧ w' = w := by
  go_enter Tryz.func74, Tryz.ntmps74
  go_wp2_with fail
  go_ret
  exact ⟨rfl, rfl⟩
theorem ofone_no (t : Nat) (n : Int) (w : World) (h : ¬ (n = 7 ∨ n = 8 ∨ n = 9)) :
    Calls Tryz.prog 73 #[.pointer (some ⟨t, 0, none⟩), .int .i64 n] w fun e w' => e = .returned .nilFunc ∧ w' = w := by
  have h7 : ¬ n = 7 := by omega
  have h8 : ¬ n = 8 := by omega
  have h9 : ¬ n = 9 := by omega
  clear h
  go_enter Tryz.func73, Tryz.ntmps73
  go_wp2_with fail
  go_ret
  exact ⟨rfl, rfl⟩
theorem oftwo_no (t : Nat) (n : Int) (w : World) (h : ¬ (n = 10 ∨ n = 11)) :
    Calls Tryz.prog 74 #[.pointer (some ⟨t, 0, none⟩), .int .i64 n] w fun e w' => e = .returned .nilFunc ∧ w' = w := by
  have h7 : ¬ n = 10 := by omega
  have h8 : ¬ n = 11 := by omega
  clear h
  go_enter Tryz.func74, Tryz.ntmps74
  go_wp2_with fail
  go_ret
  exact ⟨rfl, rfl⟩

theorem fmkdir (w : World) (t p q : Nat) (O0 : Nat → Fl) (Gn : Nat → Prop) (T : Ft) (H : Ts w t p q O0 Gn T) (hT : TOk T) (l : ByteArray) (hs : l.size ≤ 140737488355328) :
    Calls Tryz.prog 104 #[.pointer (some ⟨t, 0, none⟩), .string l] w fun e w' => e = .returned (.int .i64 (T.F.make (bl l) 2).2.2) ∧ SysP w t p q O0 Gn { T with F := (T.F.make (bl l) 2).1 } w' := by
  have cs := H.tf.s
  have k1 : Hid (Calls Tryz.prog 94 #[.pointer (some ⟨p, 0, none⟩), .string l, .int .i64 2] w fun e w' => e = .returned (.tuple #[.int .i64 ((T.F.make (bl l) 2).2.1 : Int), .int .i64 (T.F.make (bl l) 2).2.2]) ∧ Hid (SysP w t p q O0 Gn { T with F := (T.F.make (bl l) 2).1 } w')) := by
    refine hid ((pmake p T.F Gn w H.pf hT.F l hs 2).mono ?_)
    rintro e w' ⟨rfl, hk⟩
    exact ⟨rfl, hid (SysP.of H (Below.refl _ _) hk (SH.make hT.F _ _).1)⟩
  clear H hT
  generalize T.F.make (bl l) 2 = r at k1 ⊢
  obtain ⟨F', m, E⟩ := r
  dsimp only at k1 ⊢
  go_enter Tryz.func104, Tryz.ntmps104
  go_wp2_with fail
  refine k1.out.mono ?_
  rintro e w1 ⟨rfl, HQ⟩
  clear k1
  go_wp2_with fail
  go_ret
  exact ⟨rfl, HQ.out⟩

set_option maxHeartbeats 2000000 in
theorem ffind_any (w : World) (t p q : Nat) (O0 : Nat → Fl) (Gn : Nat → Prop) (T : Ft) (H : Ts w t p q O0 Gn T) (hT : TOk T) (l : ByteArray) (hs : l.size ≤ 140737488355328) :
    Calls Tryz.prog 80 #[.pointer (some ⟨t, 0, none⟩), .string l] w fun e w' => e = .returned (.tuple #[.int .i64 ((T.F.find (bl l)).1 : Int), .int .i64 (T.F.find (bl l)).2]) ∧ Below w.heap.size w w' := by
  have cs := H.tf.s
  have k0 := hid (fusable_yes t p w H.tf.s)
  have k1 := hid (pfind p T.F Gn w H.pf hT.F l hs)
  clear H hT
  generalize T.F.find (bl l) = r at k1 ⊢
  obtain ⟨m, E⟩ := r
  dsimp only at k1 ⊢
  go_enter Tryz.func80, Tryz.ntmps80
  go_wp2_with fail
  refine k0.out.mono ?_
  rintro e w1 ⟨rfl, rfl⟩
  clear k0
  go_wp2_with fail
  refine k1.out.mono ?_
  rintro e w2 ⟨rfl, hb⟩
  have HQ := hid hb
  clear k1 hb
  go_wp2_with fail
  go_ret2
  exact ⟨rfl, HQ.out⟩

set_option maxHeartbeats 4000000 in
theorem tpname (w : World) (t : Nat) (T : Ft) (G : Nat → Prop) (HP : Tp w t T G) (hT : TOk T) (c : Int) (l l2 : ByteArray) (hs : l.size ≤ 140737488355328) (hs2 : l2.size ≤ 140737488355328) (hlm : ∀ i, (T.F.P i).l ≤ 1000000) :
    Calls Tryz.prog 33 #[.pointer (some ⟨t, 0, none⟩), .int .i64 c, .string l, .string l2] w fun e w' => e = .returned (.int .i64 (T.name c (bl l) (bl l2)).2) ∧ TpTo w t (T.name c (bl l) (bl l2)).1 G w' := by
  have HP0 := HP
  obtain ⟨p, q, O0, Gn, H, hG⟩ := HP
  have cs := H.tf.s
  have k0 := hid (fusable_yes t p w H.tf.s)
  unfold Ft.name Ft.nameF
  by_cases h7 : c = 7
  · subst h7
    have k1 : Hid (Calls Tryz.prog 103 #[.pointer (some ⟨p, 0, none⟩), .string l] w fun e w' => e = .returned (.int .i64 (T.F.unlink (bl l)).2) ∧ Hid (TpTo w t { T with F := (T.F.unlink (bl l)).1 } G w')) := by
      refine hid ((punlink p T.F Gn w H.pf hT.F l hs hlm).mono ?_)
      rintro e w' ⟨rfl, hk⟩
      exact ⟨rfl, hid ((SysP.of H (Below.refl _ _) hk (SH.unlink hT.F _).1).to hG)⟩
    rw [if_pos rfl]
    generalize T.F.unlink (bl l) = r at k1 ⊢
    obtain ⟨F', E⟩ := r
    dsimp only at k1 ⊢
    have ko := hid (ofone_7 t p w cs)
    have hne : ∀ W : World, (binOp BinOp.neq 142 (.func (.func 103) #[.pointer (some ⟨p, 0, none⟩)] #[]) .nilFunc).run Tryz.prog W = .ok (.bool true) W := fun W => by kernel_rfl
    clear H hT hG HP0 hlm
    go_enter Tryz.func33, Tryz.ntmps33
    go_wp2_with fail
    refine k0.out.mono ?_
    rintro e w1 ⟨rfl, rfl⟩
    clear k0
    go_wp2_with fail
    refine ko.out.mono ?_
    rintro e w1 ⟨rfl, rfl⟩
    clear ko
    go_wp2_with fail
    refine k1.out.mono ?_
    rintro e w2 ⟨rfl, HQ⟩
    clear k1 hne
    go_wp2_with fail
    go_ret
    exact ⟨rfl, HQ.out⟩
  by_cases h8 : c = 8
  · subst h8
    have k1 : Hid (Calls Tryz.prog 104 #[.pointer (some ⟨t, 0, none⟩), .string l] w fun e w' => e = .returned (.int .i64 (T.F.make (bl l) 2).2.2) ∧ Hid (TpTo w t { T with F := (T.F.make (bl l) 2).1 } G w')) := by
      refine hid ((fmkdir w t p q O0 Gn T H hT l hs).mono ?_)
      rintro e w' ⟨rfl, hk⟩
      exact ⟨rfl, hid (hk.to hG)⟩
    rw [if_neg (by decide), if_pos rfl]
    generalize T.F.make (bl l) 2 = r at k1 ⊢
    obtain ⟨F', m, E⟩ := r
    dsimp only at k1 ⊢
    have ko := hid (ofone_8 t p w cs)
    have hne : ∀ W : World, (binOp BinOp.neq 142 (.func (.func 104) #[.pointer (some ⟨t, 0, none⟩)] #[]) .nilFunc).run Tryz.prog W = .ok (.bool true) W := fun W => by kernel_rfl
    clear H hT hG HP0 hlm
    go_enter Tryz.func33, Tryz.ntmps33
    go_wp2_with fail
    refine k0.out.mono ?_
    rintro e w1 ⟨rfl, rfl⟩
    clear k0
    go_wp2_with fail
    refine ko.out.mono ?_
    rintro e w1 ⟨rfl, rfl⟩
    clear ko
    go_wp2_with fail
    refine k1.out.mono ?_
    rintro e w2 ⟨rfl, HQ⟩
    clear k1 hne
    go_wp2_with fail
    go_ret
    exact ⟨rfl, HQ.out⟩
  by_cases h9 : c = 9
  · subst h9
    have k1 : Hid (Calls Tryz.prog 105 #[.pointer (some ⟨p, 0, none⟩), .string l] w fun e w' => e = .returned (.int .i64 (T.F.rmdir (bl l)).2) ∧ Hid (TpTo w t { T with F := (T.F.rmdir (bl l)).1 } G w')) := by
      refine hid ((prmdir p T.F Gn w H.pf hT.F l hs).mono ?_)
      rintro e w' ⟨rfl, hk⟩
      exact ⟨rfl, hid ((SysP.of H (Below.refl _ _) hk (SH.rmdir hT.F _).1).to hG)⟩
    rw [if_neg (by decide), if_neg (by decide), if_pos rfl]
    generalize T.F.rmdir (bl l) = r at k1 ⊢
    obtain ⟨F', E⟩ := r
    dsimp only at k1 ⊢
    have ko := hid (ofone_9 t p w cs)
    have hne : ∀ W : World, (binOp BinOp.neq 142 (.func (.func 105) #[.pointer (some ⟨p, 0, none⟩)] #[]) .nilFunc).run Tryz.prog W = .ok (.bool true) W := fun W => by kernel_rfl
    clear H hT hG HP0 hlm
    go_enter Tryz.func33, Tryz.ntmps33
    go_wp2_with fail
    refine k0.out.mono ?_
    rintro e w1 ⟨rfl, rfl⟩
    clear k0
    go_wp2_with fail
    refine ko.out.mono ?_
    rintro e w1 ⟨rfl, rfl⟩
    clear ko
    go_wp2_with fail
    refine k1.out.mono ?_
    rintro e w2 ⟨rfl, HQ⟩
    clear k1 hne
    go_wp2_with fail
    go_ret
    exact ⟨rfl, HQ.out⟩
  by_cases h10 : c = 10
  · subst h10
    have k1 : Hid (Calls Tryz.prog 106 #[.pointer (some ⟨p, 0, none⟩), .string l, .string l2] w fun e w' => e = .returned (.int .i64 (T.F.link (bl l) (bl l2)).2) ∧ Hid (TpTo w t { T with F := (T.F.link (bl l) (bl l2)).1 } G w')) := by
      refine hid ((plink p T.F Gn w H.pf hT.F l l2 hs hs2 hlm).mono ?_)
      rintro e w' ⟨rfl, hk⟩
      exact ⟨rfl, hid ((SysP.of H (Below.refl _ _) hk (SH.link _ _).1).to hG)⟩
    rw [if_neg (by decide), if_neg (by decide), if_neg (by decide), if_pos rfl]
    generalize T.F.link (bl l) (bl l2) = r at k1 ⊢
    obtain ⟨F', E⟩ := r
    dsimp only at k1 ⊢
    have ko := hid (oftwo_10 t p w cs)
    have kn := hid (ofone_no t 10 w (by decide))
    have hne : ∀ W : World, (binOp BinOp.neq 144 (.func (.func 106) #[.pointer (some ⟨p, 0, none⟩)] #[]) .nilFunc).run Tryz.prog W = .ok (.bool true) W := fun W => by kernel_rfl
    have hnn : ∀ W : World, (binOp BinOp.neq 142 .nilFunc .nilFunc).run Tryz.prog W = .ok (.bool false) W := fun W => by kernel_rfl
    clear H hT hG HP0 hlm
    go_enter Tryz.func33, Tryz.ntmps33
    go_wp2_with fail
    refine k0.out.mono ?_
    rintro e w1 ⟨rfl, rfl⟩
    clear k0
    go_wp2_with fail
    refine kn.out.mono ?_
    rintro e w1 ⟨rfl, rfl⟩
    clear kn
    go_wp2_with fail
    refine ko.out.mono ?_
    rintro e w1 ⟨rfl, rfl⟩
    clear ko
    go_wp2_with fail
    refine k1.out.mono ?_
    rintro e w2 ⟨rfl, HQ⟩
    clear k1 hne
    go_wp2_with fail
    go_ret
    exact ⟨rfl, HQ.out⟩
  by_cases h11 : c = 11
  · subst h11
    have k1 : Hid (Calls Tryz.prog 107 #[.pointer (some ⟨p, 0, none⟩), .string l, .string l2] w fun e w' => e = .returned (.int .i64 (T.F.rename (bl l) (bl l2)).2) ∧ Hid (TpTo w t { T with F := (T.F.rename (bl l) (bl l2)).1 } G w')) := by
      refine hid ((prename p T.F Gn w H.pf hT.F l l2 hs hs2 hlm).mono ?_)
      rintro e w' ⟨rfl, hk⟩
      exact ⟨rfl, hid ((SysP.of H (Below.refl _ _) hk (SH.rename hT.F _ _).1).to hG)⟩
    rw [if_neg (by decide), if_neg (by decide), if_neg (by decide), if_neg (by decide), if_pos rfl]
    generalize T.F.rename (bl l) (bl l2) = r at k1 ⊢
    obtain ⟨F', E⟩ := r
    dsimp only at k1 ⊢
    have ko := hid (oftwo_11 t p w cs)
    have kn := hid (ofone_no t 11 w (by decide))
    have hne : ∀ W : World, (binOp BinOp.neq 144 (.func (.func 107) #[.pointer (some ⟨p, 0, none⟩)] #[]) .nilFunc).run Tryz.prog W = .ok (.bool true) W := fun W => by kernel_rfl
    have hnn : ∀ W : World, (binOp BinOp.neq 142 .nilFunc .nilFunc).run Tryz.prog W = .ok (.bool false) W := fun W => by kernel_rfl
    clear H hT hG HP0 hlm
    go_enter Tryz.func33, Tryz.ntmps33
    go_wp2_with fail
    refine k0.out.mono ?_
    rintro e w1 ⟨rfl, rfl⟩
    clear k0
    go_wp2_with fail
    refine kn.out.mono ?_
    rintro e w1 ⟨rfl, rfl⟩
    clear kn
    go_wp2_with fail
    refine ko.out.mono ?_
    rintro e w1 ⟨rfl, rfl⟩
    clear ko
    go_wp2_with fail
    refine k1.out.mono ?_
    rintro e w2 ⟨rfl, HQ⟩
    clear k1 hne
    go_wp2_with fail
    go_ret
    exact ⟨rfl, HQ.out⟩
  rw [if_neg h7, if_neg h8, if_neg h9, if_neg h10, if_neg h11]
  have HQ := hid (TpTo.same HP0 (Below.refl _ w))
  have kn := hid (ofone_no t c w (by omega))
  have ko := hid (oftwo_no t c w (by omega))
  have hnn : ∀ W : World, (binOp BinOp.neq 142 .nilFunc .nilFunc).run Tryz.prog W = .ok (.bool false) W := fun W => by kernel_rfl
  have hnm : ∀ W : World, (binOp BinOp.neq 144 .nilFunc .nilFunc).run Tryz.prog W = .ok (.bool false) W := fun W => by kernel_rfl
  clear H hT hG HP0 hlm
  dsimp only
  go_enter Tryz.func33, Tryz.ntmps33
  go_wp2_with fail
  refine k0.out.mono ?_
  rintro e w1 ⟨rfl, rfl⟩
  clear k0
  go_wp2_with fail
  refine kn.out.mono ?_
  rintro e w1 ⟨rfl, rfl⟩
  clear kn
  go_wp2_with fail
  refine ko.out.mono ?_
  rintro e w1 ⟨rfl, rfl⟩
  clear ko
  go_wp2_with fail
  go_ret
  exact ⟨rfl, HQ.out⟩

set_option maxHeartbeats 2000000 in
theorem tptrunc (w : World) (t : Nat) (T : Ft) (G : Nat → Prop) (HP : Tp w t T G) (hT : TOk T) (l : ByteArray) (hs : l.size ≤ 140737488355328) (z : Int) :
    Calls Tryz.prog 35 #[.pointer (some ⟨t, 0, none⟩), .string l, .int .i64 z] w fun e w' => e = .returned (.int .i64 (T.trunc (bl l) z).2) ∧ TpTo w t (T.trunc (bl l) z).1 G w' := by
  have HP0 := HP
  obtain ⟨p, q, O0, Gn, H, hG⟩ := HP
  have k1 := hid (ffind_any w t p q O0 Gn T H hT l hs)
  have HS := hid (fun X (hX : Below w.heap.size w X) => TpTo.same HP0 hX)
  have HC := hid (fun X (hX : Below w.heap.size w X) => (H.grow hX).tf.s)
  have k2 : Hid (∀ X m, Below w.heap.size w X → Calls Tryz.prog 81 #[.pointer (some ⟨p, 0, none⟩), .int .i64 m, .int .i64 z] X fun e w' => e = .returned (.int .i64 (T.F.resize m z).2) ∧ Hid (TpTo w t { T with F := (T.F.resize m z).1 } G w')) := by
    refine hid (fun X m hX => (presize p T.F Gn X (H.grow hX).pf hT.F m z).mono ?_)
    rintro e w' ⟨rfl, hk⟩
    exact ⟨rfl, hid ((SysP.of (H.grow hX) hX hk (SH.resize _ _ _).1).to hG)⟩
  unfold Ft.trunc
  clear H hT hG HP0
  generalize T.F.find (bl l) = r at k1 ⊢
  obtain ⟨m, E⟩ := r
  dsimp only at k1 ⊢
  by_cases hE : E = 0
  · subst hE
    rw [if_neg (by simp)]
    have k2 := hid (fun X hX => k2.out X (m : Int) hX)
    generalize T.F.resize m z = r at k2 ⊢
    obtain ⟨F', E⟩ := r
    dsimp only at k2 ⊢
    go_enter Tryz.func35, Tryz.ntmps35
    go_wp2_with fail
    refine k1.out.mono ?_
    rintro e w1 ⟨rfl, hb⟩
    have K2 := hid (k2.out w1 hb)
    have cs1 := HC.out w1 hb
    clear k1 k2 hb HS HC
    go_wp2_with fail
    refine K2.out.mono ?_
    rintro e w2 ⟨rfl, HQ⟩
    clear K2
    go_wp2_with fail
    go_ret
    exact ⟨rfl, HQ.out⟩
  · rw [if_pos hE]
    clear k2
    dsimp only
    go_enter Tryz.func35, Tryz.ntmps35
    go_wp2_with fail
    refine k1.out.mono ?_
    rintro e w1 ⟨rfl, hb⟩
    have HQ := hid (HS.out w1 hb)
    have hne : (E == 0) = false := by simpa using hE
    clear k1 hb HS HC
    go_wp2_with fail
    go_ret
    exact ⟨rfl, HQ.out⟩

end Go.Proofs.YtoknhcjneliboaaGreat
