/- Texts of this seat, merged. -/
import Derived.Test.YtoknhcjneliboaaGreatFMg26
import Derived.Test.YtoknhcjneliboaaGreatFMg16
import Derived.Test.YtoknhcjneliboaaGreatFMg29
import Derived.Test.YtoknhcjneliboaaGreatFMg30
import Derived.Shelf.SlIter.Nil
import Derived.Shelf.SortM.Plain
import Derived.Shelf.SortM.SortNone
import Derived.Ground.GgzProg
import Derived.Ground.SlgmProg
import Derived.Test.YtoknhcjneliboaaGreatChecked
import Derived.Test.YtoknhcjneliboaaGreatFMg9
import Derived.Test.YtoknhcjneliboaaGreatFMg22
import Derived.Sort.Walk0

/- What the calls of names do (program): ofOne, ofTwo, Name, find, Stat, Truncate. (Written by gen_tp11.py.) -/
namespace Go.Proofs.YtoknhcjneliboaaGreat
open Go.RowKit Go.ChangeMaps Go.MapKept
set_option linter.unusedVariables false
set_option maxRecDepth 20000

theorem ofone_7 (t p : Nat) (w : World) (c0 : w.cell? ⟨t, 0, none⟩ = some (.pointer (some ⟨p, 0, none⟩))) :
    Calls Tryz.prog 73 #[.pointer (some ⟨t, 0, none⟩), .int .i64 7] w fun e w' => e = .returned (.func (.func 103) #[.pointer (some ⟨p, 0, none⟩)] #[]) ∧ w' = w := by
  go_enter Tryz.func73, Tryz.ntmps73
  go_wp2_with fail
  go_ret
  exact ⟨rfl, rfl⟩
theorem ofone_8 (t p : Nat) (w : World) (c0 : w.cell? ⟨t, 0, none⟩ = some (.pointer (some ⟨p, 0, none⟩))) :
    Calls Tryz.prog 73 #[.pointer (some ⟨t, 0, none⟩), .int .i64 8] w fun e w' => e = .returned (.func (.func 104) #[.pointer (some ⟨t, 0, none⟩)] #[]) ∧ w' = w := by
  go_enter Tryz.func73, Tryz.ntmps73
  go_wp2_with fail
  go_ret
  exact ⟨rfl, rfl⟩
theorem ofone_9 (t p : Nat) (w : World) (c0 : w.cell? ⟨t, 0, none⟩ = some (.pointer (some ⟨p, 0, none⟩))) :
    Calls Tryz.prog 73 #[.pointer (some ⟨t, 0, none⟩), .int .i64 9] w fun e w' => e = .returned (.func (.func 105) #[.pointer (some ⟨p, 0, none⟩)] #[]) ∧ w' = w := by
  go_enter Tryz.func73, Tryz.ntmps73
  go_wp2_with fail
  go_ret
  exact ⟨rfl, rfl⟩
theorem oftwo_10 (t p : Nat) (w : World) (c0 : w.cell? ⟨t, 0, none⟩ = some (.pointer (some ⟨p, 0, none⟩))) :
    Calls Tryz.prog 74 #[.pointer (some ⟨t, 0, none⟩), .int .i64 10] w fun e w' => e = .returned (.func (.func 106) #[.pointer (some ⟨p, 0, none⟩)] #[]) ∧ w' = w := by
  go_enter Tryz.func74, Tryz.ntmps74
  go_wp2_with fail
  go_ret
  exact ⟨rfl, rfl⟩
theorem oftwo_11 (t p : Nat) (w : World) (c0 : w.cell? ⟨t, 0, none⟩ = some (.pointer (some ⟨p, 0, none⟩))) :
    Calls Tryz.prog 74 #[.pointer (some ⟨t, 0, none⟩), .int .i64 11] w fun e w' => e = .returned (.func (.func 107) #[.pointer (some ⟨p, 0, none⟩)] #[]) ∧ w' = w := by
  go_enter Tryz.func74, Tryz.ntmps74
  go_wp2_with fail
  go_ret
  exact ⟨rfl, rfl⟩
theorem ofone_no (t : Nat) (n : Int) (w : World) (h : ¬ (n = 7 ∨ n = 8 ∨ n = 9)) :
    Calls Tryz.prog 73 #[.pointer (some ⟨t, 0, none⟩), .int .i64 n] w fun e w' => e = .returned .nilFunc ∧ w' = w := by
  have h7 : ¬ n = 7 := by omega
  have h8 : ¬ n = 8 := by omega
  have h9 : ¬ n = 9 := by omega
  clear h
  go_enter Tryz.func73, Tryz.ntmps73
  go_wp2_with fail
  go_ret
  exact ⟨rfl, rfl⟩
theorem oftwo_no (t : Nat) (n : Int) (w : World) (h : ¬ (n = 10 ∨ n = 11)) :
    Calls Tryz.prog 74 #[.pointer (some ⟨t, 0, none⟩), .int .i64 n] w fun e w' => e = .returned .nilFunc ∧ w' = w := by
  have h7 : ¬ n = 10 := by omega
  have h8 : ¬ n = 11 := by omega
  clear h
  go_enter Tryz.func74, Tryz.ntmps74
  go_wp2_with fail
  go_ret
  exact ⟨rfl, rfl⟩

theorem fmkdir (w : World) (t p q : Nat) (O0 : Nat → Fl) (Gn : Nat → Prop) (T : Ft) (H : Ts w t p q O0 Gn T) (hT : TOk T) (l : ByteArray) (hs : l.size ≤ 140737488355328) :
    Calls Tryz.prog 104 #[.pointer (some ⟨t, 0, none⟩), .string l] w fun e w' => e = .returned (.int .i64 (T.F.make (bl l) 2).2.2) ∧ SysP w t p q O0 Gn { T with F := (T.F.make (bl l) 2).1 } w' := by
  have cs := H.tf.s
  have k1 : Hid (Calls Tryz.prog 94 #[.pointer (some ⟨p, 0, none⟩), .string l, .int .i64 2] w fun e w' => e = .returned (.tuple #[.int .i64 ((T.F.make (bl l) 2).2.1 : Int), .int .i64 (T.F.make (bl l) 2).2.2]) ∧ Hid (SysP w t p q O0 Gn { T with F := (T.F.make (bl l) 2).1 } w')) := by
    refine hid ((pmake p T.F Gn w H.pf hT.F l hs 2).mono ?_)
    rintro e w' ⟨rfl, hk⟩
    exact ⟨rfl, hid (SysP.of H (Below.refl _ _) hk (SH.make hT.F _ _).1)⟩
  clear H hT
  generalize T.F.make (bl l) 2 = r at k1 ⊢
  obtain ⟨F', m, E⟩ := r
  dsimp only at k1 ⊢
  go_enter Tryz.func104, Tryz.ntmps104
  go_wp2_with fail
  refine k1.out.mono ?_
  rintro e w1 ⟨rfl, HQ⟩
  clear k1
  go_wp2_with fail
  go_ret
  exact ⟨rfl, HQ.out⟩

set_option maxHeartbeats 2000000 in
theorem ffind_any (w : World) (t p q : Nat) (O0 : Nat → Fl) (Gn : Nat → Prop) (T : Ft) (H : Ts w t p q O0 Gn T) (hT : TOk T) (l : ByteArray) (hs : l.size ≤ 140737488355328) :
    Calls Tryz.prog 80 #[.pointer (some ⟨t, 0, none⟩), .string l] w fun e w' => e = .returned (.tuple #[.int .i64 ((T.F.find (bl l)).1 : Int), .int .i64 (T.F.find (bl l)).2]) ∧ Below w.heap.size w w' := by
  have cs := H.tf.s
  have k0 := hid (fusable_yes t p w H.tf.s)
  have k1 := hid (pfind p T.F Gn w H.pf hT.F l hs)
  clear H hT
  generalize T.F.find (bl l) = r at k1 ⊢
  obtain ⟨m, E⟩ := r
  dsimp only at k1 ⊢
  go_enter Tryz.func80, Tryz.ntmps80
  go_wp2_with fail
  refine k0.out.mono ?_
  rintro e w1 ⟨rfl, rfl⟩
  clear k0
  go_wp2_with fail
  refine k1.out.mono ?_
  rintro e w2 ⟨rfl, hb⟩
  have HQ := hid hb
  clear k1 hb
  go_wp2_with fail
  go_ret2
  exact ⟨rfl, HQ.out⟩

set_option maxHeartbeats 4000000 in
theorem tpname (w : World) (t : Nat) (T : Ft) (G : Nat → Prop) (HP : Tp w t T G) (hT : TOk T) (c : Int) (l l2 : ByteArray) (hs : l.size ≤ 140737488355328) (hs2 : l2.size ≤ 140737488355328) (hlm : ∀ i, (T.F.P i).l ≤ 1000000) :
    Calls Tryz.prog 33 #[.pointer (some ⟨t, 0, none⟩), .int .i64 c, .string l, .string l2] w fun e w' => e = .returned (.int .i64 (T.name c (bl l) (bl l2)).2) ∧ TpTo w t (T.name c (bl l) (bl l2)).1 G w' := by
  have HP0 := HP
  obtain ⟨p, q, O0, Gn, H, hG⟩ := HP
  have cs := H.tf.s
  have k0 := hid (fusable_yes t p w H.tf.s)
  unfold Ft.name Ft.nameF
  by_cases h7 : c = 7
  · subst h7
    have k1 : Hid (Calls Tryz.prog 103 #[.pointer (some ⟨p, 0, none⟩), .string l] w fun e w' => e = .returned (.int .i64 (T.F.unlink (bl l)).2) ∧ Hid (TpTo w t { T with F := (T.F.unlink (bl l)).1 } G w')) := by
      refine hid ((punlink p T.F Gn w H.pf hT.F l hs hlm).mono ?_)
      rintro e w' ⟨rfl, hk⟩
      exact ⟨rfl, hid ((SysP.of H (Below.refl _ _) hk (SH.unlink hT.F _).1).to hG)⟩
    rw [if_pos rfl]
    generalize T.F.unlink (bl l) = r at k1 ⊢
    obtain ⟨F', E⟩ := r
    dsimp only at k1 ⊢
    have ko := hid (ofone_7 t p w cs)
    have hne : ∀ W : World, (binOp BinOp.neq 142 (.func (.func 103) #[.pointer (some ⟨p, 0, none⟩)] #[]) .nilFunc).run Tryz.prog W = .ok (.bool true) W := fun W => by kernel_rfl
    clear H hT hG HP0 hlm
    go_enter Tryz.func33, Tryz.ntmps33
    go_wp2_with fail
    refine k0.out.mono ?_
    rintro e w1 ⟨rfl, rfl⟩
    clear k0
    go_wp2_with fail
    refine ko.out.mono ?_
    rintro e w1 ⟨rfl, rfl⟩
    clear ko
    go_wp2_with fail
    refine k1.out.mono ?_
    rintro e w2 ⟨rfl, HQ⟩
    clear k1 hne
    go_wp2_with fail
    go_ret
    exact ⟨rfl, HQ.out⟩
  by_cases h8 : c = 8
  · subst h8
    have k1 : Hid (Calls Tryz.prog 104 #[.pointer (some ⟨t, 0, none⟩), .string l] w fun e w' => e = .returned (.int .i64 (T.F.make (bl l) 2).2.2) ∧ Hid (TpTo w t { T with F := (T.F.make (bl l) 2).1 } G w')) := by
      refine hid ((fmkdir w t p q O0 Gn T H hT l hs).mono ?_)
      rintro e w' ⟨rfl, hk⟩
      exact ⟨rfl, hid (hk.to hG)⟩
    rw [if_neg (by decide), if_pos rfl]
    generalize T.F.make (bl l) 2 = r at k1 ⊢
    obtain ⟨F', m, E⟩ := r
    dsimp only at k1 ⊢
    have ko := hid (ofone_8 t p w cs)
    have hne : ∀ W : World, (binOp BinOp.neq 142 (.func (.func 104) #[.pointer (some ⟨t, 0, none⟩)] #[]) .nilFunc).run Tryz.prog W = .ok (.bool true) W := fun W => by kernel_rfl
    clear H hT hG HP0 hlm
    go_enter Tryz.func33, Tryz.ntmps33
    go_wp2_with fail
    refine k0.out.mono ?_
    rintro e w1 ⟨rfl, rfl⟩
    clear k0
    go_wp2_with fail
    refine ko.out.mono ?_
    rintro e w1 ⟨rfl, rfl⟩
    clear ko
    go_wp2_with fail
    refine k1.out.mono ?_
    rintro e w2 ⟨rfl, HQ⟩
    clear k1 hne
    go_wp2_with fail
    go_ret
    exact ⟨rfl, HQ.out⟩
  by_cases h9 : c = 9
  · subst h9
    have k1 : Hid (Calls Tryz.prog 105 #[.pointer (some ⟨p, 0, none⟩), .string l] w fun e w' => e = .returned (.int .i64 (T.F.rmdir (bl l)).2) ∧ Hid (TpTo w t { T with F := (T.F.rmdir (bl l)).1 } G w')) := by
      refine hid ((prmdir p T.F Gn w H.pf hT.F l hs).mono ?_)
      rintro e w' ⟨rfl, hk⟩
      exact ⟨rfl, hid ((SysP.of H (Below.refl _ _) hk (SH.rmdir hT.F _).1).to hG)⟩
    rw [if_neg (by decide), if_neg (by decide), if_pos rfl]
    generalize T.F.rmdir (bl l) = r at k1 ⊢
    obtain ⟨F', E⟩ := r
    dsimp only at k1 ⊢
    have ko := hid (ofone_9 t p w cs)
    have hne : ∀ W : World, (binOp BinOp.neq 142 (.func (.func 105) #[.pointer (some ⟨p, 0, none⟩)] #[]) .nilFunc).run Tryz.prog W = .ok (.bool true) W := fun W => by kernel_rfl
    clear H hT hG HP0 hlm
    go_enter Tryz.func33, Tryz.ntmps33
    go_wp2_with fail
    refine k0.out.mono ?_
    rintro e w1 ⟨rfl, rfl⟩
    clear k0
    go_wp2_with fail
    refine ko.out.mono ?_
    rintro e w1 ⟨rfl, rfl⟩
    clear ko
    go_wp2_with fail
    refine k1.out.mono ?_
    rintro e w2 ⟨rfl, HQ⟩
    clear k1 hne
    go_wp2_with fail
    go_ret
    exact ⟨rfl, HQ.out⟩
  by_cases h10 : c = 10
  · subst h10
    have k1 : Hid (Calls Tryz.prog 106 #[.pointer (some ⟨p, 0, none⟩), .string l, .string l2] w fun e w' => e = .returned (.int .i64 (T.F.link (bl l) (bl l2)).2) ∧ Hid (TpTo w t { T with F := (T.F.link (bl l) (bl l2)).1 } G w')) := by
      refine hid ((plink p T.F Gn w H.pf hT.F l l2 hs hs2 hlm).mono ?_)
      rintro e w' ⟨rfl, hk⟩
      exact ⟨rfl, hid ((SysP.of H (Below.refl _ _) hk (SH.link _ _).1).to hG)⟩
    rw [if_neg (by decide), if_neg (by decide), if_neg (by decide), if_pos rfl]
    generalize T.F.link (bl l) (bl l2) = r at k1 ⊢
    obtain ⟨F', E⟩ := r
    dsimp only at k1 ⊢
    have ko := hid (oftwo_10 t p w cs)
    have kn := hid (ofone_no t 10 w (by decide))
    have hne : ∀ W : World, (binOp BinOp.neq 144 (.func (.func 106) #[.pointer (some ⟨p, 0, none⟩)] #[]) .nilFunc).run Tryz.prog W = .ok (.bool true) W := fun W => by kernel_rfl
    have hnn : ∀ W : World, (binOp BinOp.neq 142 .nilFunc .nilFunc).run Tryz.prog W = .ok (.bool false) W := fun W => by kernel_rfl
    clear H hT hG HP0 hlm
    go_enter Tryz.func33, Tryz.ntmps33
    go_wp2_with fail
    refine k0.out.mono ?_
    rintro e w1 ⟨rfl, rfl⟩
    clear k0
    go_wp2_with fail
    refine kn.out.mono ?_
    rintro e w1 ⟨rfl, rfl⟩
    clear kn
    go_wp2_with fail
    refine ko.out.mono ?_
    rintro e w1 ⟨rfl, rfl⟩
    clear ko
    go_wp2_with fail
    refine k1.out.mono ?_
    rintro e w2 ⟨rfl, HQ⟩
    clear k1 hne
    go_wp2_with fail
    go_ret
    exact ⟨rfl, HQ.out⟩
  by_cases h11 : c = 11
  · subst h11
    have k1 : Hid (Calls Tryz.prog 107 #[.pointer (some ⟨p, 0, none⟩), .string l, .string l2] w fun e w' => e = .returned (.int .i64 (T.F.rename (bl l) (bl l2)).2) ∧ Hid (TpTo w t { T with F := (T.F.rename (bl l) (bl l2)).1 } G w')) := by
      refine hid ((prename p T.F Gn w H.pf hT.F l l2 hs hs2 hlm).mono ?_)
      rintro e w' ⟨rfl, hk⟩
      exact ⟨rfl, hid ((SysP.of H (Below.refl _ _) hk (SH.rename hT.F _ _).1).to hG)⟩
    rw [if_neg (by decide), if_neg (by decide), if_neg (by decide), if_neg (by decide), if_pos rfl]
    generalize T.F.rename (bl l) (bl l2) = r at k1 ⊢
    obtain ⟨F', E⟩ := r
    dsimp only at k1 ⊢
    have ko := hid (oftwo_11 t p w cs)
    have kn := hid (ofone_no t 11 w (by decide))
    have hne : ∀ W : World, (binOp BinOp.neq 144 (.func (.func 107) #[.pointer (some ⟨p, 0, none⟩)] #[]) .nilFunc).run Tryz.prog W = .ok (.bool true) W := fun W => by kernel_rfl
    have hnn : ∀ W : World, (binOp BinOp.neq 142 .nilFunc .nilFunc).run Tryz.prog W = .ok (.bool false) W := fun W => by kernel_rfl
    clear H hT hG HP0 hlm
    go_enter Tryz.func33, Tryz.ntmps33
    go_wp2_with fail
    refine k0.out.mono ?_
    rintro e w1 ⟨rfl, rfl⟩
    clear k0
    go_wp2_with fail
    refine kn.out.mono ?_
    rintro e w1 ⟨rfl, rfl⟩
    clear kn
    go_wp2_with fail
    refine ko.out.mono ?_
    rintro e w1 ⟨rfl, rfl⟩
    clear ko
    go_wp2_with fail
    refine k1.out.mono ?_
    rintro e w2 ⟨rfl, HQ⟩
    clear k1 hne
    go_wp2_with fail
    go_ret
    exact ⟨rfl, HQ.out⟩
  rw [if_neg h7, if_neg h8, if_neg h9, if_neg h10, if_neg h11]
  have HQ := hid (TpTo.same HP0 (Below.refl _ w))
  have kn := hid (ofone_no t c w (by omega))
  have ko := hid (oftwo_no t c w (by omega))
  have hnn : ∀ W : World, (binOp BinOp.neq 142 .nilFunc .nilFunc).run Tryz.prog W = .ok (.bool false) W := fun W => by kernel_rfl
  have hnm : ∀ W : World, (binOp BinOp.neq 144 .nilFunc .nilFunc).run Tryz.prog W = .ok (.bool false) W := fun W => by kernel_rfl
  clear H hT hG HP0 hlm
  dsimp only
  go_enter Tryz.func33, Tryz.ntmps33
  go_wp2_with fail
  refine k0.out.mono ?_
  rintro e w1 ⟨rfl, rfl⟩
  clear k0
  go_wp2_with fail
  refine kn.out.mono ?_
  rintro e w1 ⟨rfl, rfl⟩
  clear kn
  go_wp2_with fail
  refine ko.out.mono ?_
  rintro e w1 ⟨rfl, rfl⟩
  clear ko
  go_wp2_with fail
  go_ret
  exact ⟨rfl, HQ.out⟩

set_option maxHeartbeats 2000000 in
theorem tptrunc (w : World) (t : Nat) (T : Ft) (G : Nat → Prop) (HP : Tp w t T G) (hT : TOk T) (l : ByteArray) (hs : l.size ≤ 140737488355328) (z : Int) :
    Calls Tryz.prog 35 #[.pointer (some ⟨t, 0, none⟩), .string l, .int .i64 z] w fun e w' => e = .returned (.int .i64 (T.trunc (bl l) z).2) ∧ TpTo w t (T.trunc (bl l) z).1 G w' := by
  have HP0 := HP
  obtain ⟨p, q, O0, Gn, H, hG⟩ := HP
  have k1 := hid (ffind_any w t p q O0 Gn T H hT l hs)
  have HS := hid (fun X (hX : Below w.heap.size w X) => TpTo.same HP0 hX)
  have HC := hid (fun X (hX : Below w.heap.size w X) => (H.grow hX).tf.s)
  have k2 : Hid (∀ X m, Below w.heap.size w X → Calls Tryz.prog 81 #[.pointer (some ⟨p, 0, none⟩), .int .i64 m, .int .i64 z] X fun e w' => e = .returned (.int .i64 (T.F.resize m z).2) ∧ Hid (TpTo w t { T with F := (T.F.resize m z).1 } G w')) := by
    refine hid (fun X m hX => (presize p T.F Gn X (H.grow hX).pf hT.F m z).mono ?_)
    rintro e w' ⟨rfl, hk⟩
    exact ⟨rfl, hid ((SysP.of (H.grow hX) hX hk (SH.resize _ _ _).1).to hG)⟩
  unfold Ft.trunc
  clear H hT hG HP0
  generalize T.F.find (bl l) = r at k1 ⊢
  obtain ⟨m, E⟩ := r
  dsimp only at k1 ⊢
  by_cases hE : E = 0
  · subst hE
    rw [if_neg (by simp)]
    have k2 := hid (fun X hX => k2.out X (m : Int) hX)
    generalize T.F.resize m z = r at k2 ⊢
    obtain ⟨F', E⟩ := r
    dsimp only at k2 ⊢
    go_enter Tryz.func35, Tryz.ntmps35
    go_wp2_with fail
    refine k1.out.mono ?_
    rintro e w1 ⟨rfl, hb⟩
    have K2 := hid (k2.out w1 hb)
    have cs1 := HC.out w1 hb
    clear k1 k2 hb HS HC
    go_wp2_with fail
    refine K2.out.mono ?_
    rintro e w2 ⟨rfl, HQ⟩
    clear K2
    go_wp2_with fail
    go_ret
    exact ⟨rfl, HQ.out⟩
  · rw [if_pos hE]
    clear k2
    dsimp only
    go_enter Tryz.func35, Tryz.ntmps35
    go_wp2_with fail
    refine k1.out.mono ?_
    rintro e w1 ⟨rfl, hb⟩
    have HQ := hid (HS.out w1 hb)
    have hne : (E == 0) = false := by simpa using hE
    clear k1 hb HS HC
    go_wp2_with fail
    go_ret
    exact ⟨rfl, HQ.out⟩

end Go.Proofs.YtoknhcjneliboaaGreat

/- Contracts of the library, laid at this program by the shelf's own program: the keys of a map, sorted. (Numbers of one seat: layiter.py.) -/
namespace Go.Proofs
open Go.RowKit Go.Maps Go.Sort Go.Shelf
def Tryz.keys127_ren : Go.Shelf.Ren := ⟨fun | 7 => 127 | 10 => 145 | n => n, fun | 23 => 97 | 26 => 9 | 3 => 3 | 28 => 181 | 0 => 0 | 27 => 180 | 33 => 193 | 4 => 4 | n => n, fun | n => n⟩
theorem Tryz.keys127 : Go.Proofs.SlLaysZ.n7 Tryz.prog Tryz.keys127_ren := {
  mixed := by kernel_rfl
  f7 := ⟨Tryz.f127.name, by decide, Tryz.func127.trans (congrArg some (by kernel_rfl))⟩
  f10 := ⟨Tryz.f145.name, by decide, Tryz.func145.trans (congrArg some (by kernel_rfl))⟩
  t0 := Tryz.underlying0
  a0 := Tryz.isAgg0
  z0 := Tryz.sizeOf0
  v0 := Tryz.zeroValue0
  t4 := Tryz.underlying4
  a4 := Tryz.isAgg4
  z4 := Tryz.sizeOf4
  v4 := Tryz.zeroValue4
  t23 := Tryz.underlying97
  a23 := Tryz.isAgg97
  z23 := Tryz.sizeOf97
  v23 := Tryz.zeroValue97
  t26 := Tryz.underlying9
  a26 := Tryz.isAgg9
  z26 := Tryz.sizeOf9
  v26 := Tryz.zeroValue9
  t27 := Tryz.underlying180
  a27 := Tryz.isAgg180
  z27 := Tryz.sizeOf180
  v27 := Tryz.zeroValue180
  t28 := Tryz.underlying181
  a28 := Tryz.isAgg181
  z28 := Tryz.sizeOf181
  v28 := Tryz.zeroValue181
  t33 := Tryz.underlying193
  a33 := Tryz.isAgg193
  z33 := Tryz.sizeOf193
  v33 := Tryz.zeroValue193 }
def Tryz.sorted126_ren : Go.Shelf.Ren := ⟨fun | 6 => 126 | 8 => 143 | 9 => 144 | 11 => 154 | 13 => 156 | 12 => 155 | 23 => 170 | 24 => 171 | 14 => 161 | 15 => 162 | 16 => 163 | 17 => 164 | 18 => 165 | 19 => 166 | 20 => 167 | 21 => 168 | 22 => 169 | 25 => 173 | 26 => 174 | 27 => 175 | 28 => 176 | 29 => 177 | 30 => 178 | 31 => 183 | n => n, fun | 26 => 9 | 28 => 181 | 24 => 45 | 0 => 0 | 3 => 3 | 37 => 70 | 48 => 213 | 50 => 215 | 4 => 4 | 40 => 206 | 39 => 205 | 45 => 210 | 5 => 5 | 9 => 9 | 51 => 218 | 55 => 222 | 57 => 225 | 58 => 226 | 33 => 193 | n => n, fun | n => n⟩
theorem Tryz.sorted126 : Go.Proofs.SlLaysZ.n6 Tryz.prog Tryz.sorted126_ren := {
  mixed := by kernel_rfl
  f6 := ⟨Tryz.f126.name, by decide, Tryz.func126.trans (congrArg some (by kernel_rfl))⟩
  f8 := ⟨Tryz.f143.name, by decide, Tryz.func143.trans (congrArg some (by kernel_rfl))⟩
  f11 := ⟨Tryz.f154.name, by decide, Tryz.func154.trans (congrArg some (by kernel_rfl))⟩
  t0 := Tryz.underlying0
  a0 := Tryz.isAgg0
  z0 := Tryz.sizeOf0
  v0 := Tryz.zeroValue0
  t24 := Tryz.underlying45
  a24 := Tryz.isAgg45
  z24 := Tryz.sizeOf45
  v24 := Tryz.zeroValue45
  t26 := Tryz.underlying9
  a26 := Tryz.isAgg9
  z26 := Tryz.sizeOf9
  v26 := Tryz.zeroValue9
  t28 := Tryz.underlying181
  a28 := Tryz.isAgg181
  z28 := Tryz.sizeOf181
  v28 := Tryz.zeroValue181
  i26 := by kernel_rfl }
def Tryz.sort144_ren : Go.Shelf.Ren := ⟨fun | 6 => 144 | 8 => 156 | 9 => 155 | 19 => 170 | 20 => 171 | 21 => 161 | 22 => 162 | 23 => 163 | 24 => 164 | 25 => 165 | 26 => 166 | 27 => 167 | 28 => 168 | 29 => 169 | 36 => 173 | 31 => 174 | 32 => 175 | 37 => 176 | 38 => 177 | 39 => 178 | 41 => 183 | n => n, fun | 27 => 45 | 29 => 9 | 3 => 3 | 32 => 70 | 26 => 45 | 0 => 0 | 44 => 213 | 46 => 215 | 4 => 4 | 36 => 206 | 35 => 205 | 41 => 210 | 5 => 5 | 9 => 9 | 53 => 218 | 57 => 222 | 63 => 225 | 64 => 226 | n => n, fun | n => n⟩
theorem Tryz.sort144 : Go.Proofs.SlLaysM.n6 Tryz.prog Tryz.sort144_ren := {
  mixed := by kernel_rfl
  f6 := ⟨Tryz.f144.name, by decide, Tryz.func144.trans (congrArg some (by kernel_rfl))⟩
  f8 := Tryz.func156.trans (congrArg some (by kernel_rfl))
  f9 := ⟨Tryz.f155.name, by decide, Tryz.func155.trans (congrArg some (by kernel_rfl))⟩
  f19 := Tryz.func170.trans (congrArg some (by kernel_rfl))
  f20 := Tryz.func171.trans (congrArg some (by kernel_rfl))
  f21 := ⟨Tryz.f161.name, by decide, Tryz.func161.trans (congrArg some (by kernel_rfl))⟩
  f22 := ⟨Tryz.f162.name, by decide, Tryz.func162.trans (congrArg some (by kernel_rfl))⟩
  f23 := ⟨Tryz.f163.name, by decide, Tryz.func163.trans (congrArg some (by kernel_rfl))⟩
  f24 := ⟨Tryz.f164.name, by decide, Tryz.func164.trans (congrArg some (by kernel_rfl))⟩
  f25 := ⟨Tryz.f165.name, by decide, Tryz.func165.trans (congrArg some (by kernel_rfl))⟩
  f26 := ⟨Tryz.f166.name, by decide, Tryz.func166.trans (congrArg some (by kernel_rfl))⟩
  f27 := ⟨Tryz.f167.name, by decide, Tryz.func167.trans (congrArg some (by kernel_rfl))⟩
  f28 := ⟨Tryz.f168.name, by decide, Tryz.func168.trans (congrArg some (by kernel_rfl))⟩
  f29 := ⟨Tryz.f169.name, by decide, Tryz.func169.trans (congrArg some (by kernel_rfl))⟩
  f31 := Tryz.func174.trans (congrArg some (by kernel_rfl))
  f32 := Tryz.func175.trans (congrArg some (by kernel_rfl))
  f36 := ⟨Tryz.f173.name, by decide, Tryz.func173.trans (congrArg some (by kernel_rfl))⟩
  f37 := ⟨Tryz.f176.name, by decide, Tryz.func176.trans (congrArg some (by kernel_rfl))⟩
  f38 := ⟨Tryz.f177.name, by decide, Tryz.func177.trans (congrArg some (by kernel_rfl))⟩
  f39 := ⟨Tryz.f178.name, by decide, Tryz.func178.trans (congrArg some (by kernel_rfl))⟩
  f41 := ⟨Tryz.f183.name, by decide, Tryz.func183.trans (congrArg some (by kernel_rfl))⟩
  t0 := Tryz.underlying0
  a0 := Tryz.isAgg0
  z0 := Tryz.sizeOf0
  v0 := Tryz.zeroValue0
  t3 := Tryz.underlying3
  a3 := Tryz.isAgg3
  z3 := Tryz.sizeOf3
  v3 := Tryz.zeroValue3
  t4 := Tryz.underlying4
  a4 := Tryz.isAgg4
  z4 := Tryz.sizeOf4
  v4 := Tryz.zeroValue4
  t5 := Tryz.underlying5
  a5 := Tryz.isAgg5
  z5 := Tryz.sizeOf5
  v5 := Tryz.zeroValue5
  t9 := Tryz.underlying9
  a9 := Tryz.isAgg9
  z9 := Tryz.sizeOf9
  v9 := Tryz.zeroValue9
  t26 := Tryz.underlying45
  a26 := Tryz.isAgg45
  z26 := Tryz.sizeOf45
  v26 := Tryz.zeroValue45
  t27 := Tryz.underlying45
  a27 := Tryz.isAgg45
  z27 := Tryz.sizeOf45
  v27 := Tryz.zeroValue45
  t29 := Tryz.underlying9
  a29 := Tryz.isAgg9
  z29 := Tryz.sizeOf9
  v29 := Tryz.zeroValue9
  t32 := Tryz.underlying70
  a32 := Tryz.isAgg70
  z32 := Tryz.sizeOf70
  v32 := Tryz.zeroValue70
  t35 := Tryz.underlying205
  a35 := Tryz.isAgg205
  z35 := Tryz.sizeOf205
  v35 := Tryz.zeroValue205
  t36 := Tryz.underlying206
  a36 := Tryz.isAgg206
  z36 := Tryz.sizeOf206
  v36 := Tryz.zeroValue206
  t41 := Tryz.underlying210
  a41 := Tryz.isAgg210
  z41 := Tryz.sizeOf210
  v41 := Tryz.zeroValue210
  t44 := Tryz.underlying213
  a44 := Tryz.isAgg213
  z44 := Tryz.sizeOf213
  v44 := Tryz.zeroValue213
  t46 := Tryz.underlying215
  a46 := Tryz.isAgg215
  z46 := Tryz.sizeOf215
  v46 := Tryz.zeroValue215
  t53 := Tryz.underlying218
  a53 := Tryz.isAgg218
  z53 := Tryz.sizeOf218
  v53 := Tryz.zeroValue218
  t57 := Tryz.underlying222
  a57 := Tryz.isAgg222
  z57 := Tryz.sizeOf222
  v57 := Tryz.zeroValue222
  t63 := Tryz.underlying225
  a63 := Tryz.isAgg225
  z63 := Tryz.sizeOf225
  v63 := Tryz.zeroValue225
  t64 := Tryz.underlying226
  a64 := Tryz.isAgg226
  z64 := Tryz.sizeOf226
  v64 := Tryz.zeroValue226 }
theorem Tryz.sorts126 (m : Nat) : AnyZ.SortsIn Tryz.prog Tryz.sorted126_ren Fence.wide m :=
  ⟨fun blk off cap ss W hH hblk hsz => callsIn_wide.2 (AnyM.slices_Sort_string Tryz.sort144 blk off cap ss W hH hblk hsz),
   fun p cap W => callsIn_wide.2 (AnyM.slices_Sort_string_none Tryz.sort144 p cap W)⟩

theorem Tryz.maps_Keys_127 (mb : Option Nat) (W : World) : CallsIn Fence.wide 5 Tryz.prog 127 #[.map mb] W fun e w' => e = .returned (.func (.func 145) #[] #[.pointer (some ⟨W.heap.size, 0, none⟩)]) ∧ w' = W.alloc (.cells #[.map mb] 97) :=
  AnyZ.keys_in Tryz.keys127 Fence.wide 5 trivial rfl mb W

set_option maxHeartbeats 1000000 in
theorem Tryz.slices_Sorted_keys_126_127 {H : Type} (b nn : Nat) (D0 : DataW H) (R : Value → Option (DataW H × List MemPlace)) (w : World) (hown : w.ownsMap Tryz.prog 9 R b nn D0) (hmax : Maps.size D0 ≤ maxLen) (hbytes : Maps.size D0 * 16 ≤ 140737488355328) :
    CallsIn Fence.wide 5 Tryz.prog 126 #[.func (.func 145) #[] #[.pointer (some ⟨w.heap.size, 0, none⟩)]] (w.alloc (.cells #[.map (some b)] 97)) fun e w' => ∃ (v : Value) (ss : List (List UInt8)), e = .returned v ∧ ss.Perm (strKeys D0) ∧
      w'.ownsRow (w.alloc (.cells #[.map (some b)] 97)).heap.size 9 1 v ss.length ((ss.mergeSort (fun x y => decide (x ≤ y))).map encStr) ∧ (v = .slice none 0 0 ↔ ss = []) ∧ Below (w.alloc (.cells #[.map (some b)] 97)).heap.size (w.alloc (.cells #[.map (some b)] 97)) w' := by
  have hbl := hown.lt
  have hseq : SeqGives Fence.wide 2 Tryz.prog 145 #[.pointer (some ⟨w.heap.size, 0, none⟩)] encStr (fun ss => ss.Perm (strKeys D0)) (Maps.size D0) (w.alloc (.cells #[.map (some b)] 97)) :=
    AnyZ.keys_gives (ρ := Tryz.keys127_ren) { Tryz.keys127 with } Fence.wide _ trivial rfl (by omega) w.heap.size b nn D0 _ (by simp) (by simp) (by
      obtain ⟨es, clock, hb, Ft, hs, hD⟩ := hown
      exact ⟨es, clock, (Below.heap_alloc _ _ b hbl).trans hb, Ft, hs, hD⟩)
  exact AnyZ.sorted_in Tryz.sorted126 Fence.wide 5 trivial trivial trivial trivial rfl (by omega) (Tryz.sorts126 _) (enters_of Tryz.func144 (by kernel_rfl) rfl) 145 #[.pointer (some ⟨w.heap.size, 0, none⟩)] trivial (enters_of Tryz.func145 (by kernel_rfl) rfl) _ _ hmax hbytes _ hseq

set_option maxHeartbeats 1000000 in
theorem Tryz.slices_Sorted_keys_nil_126_127 (w : World) :
    CallsIn Fence.wide 5 Tryz.prog 126 #[.func (.func 145) #[] #[.pointer (some ⟨w.heap.size, 0, none⟩)]] (w.alloc (.cells #[.map none] 97)) fun e w' => ∃ (v : Value) (ss : List (List UInt8)), e = .returned v ∧ ss = [] ∧
      w'.ownsRow (w.alloc (.cells #[.map none] 97)).heap.size 9 1 v ss.length ((ss.mergeSort (fun x y => decide (x ≤ y))).map encStr) ∧ (v = .slice none 0 0 ↔ ss = []) ∧ Below (w.alloc (.cells #[.map none] 97)).heap.size (w.alloc (.cells #[.map none] 97)) w' := by
  have hseq : SeqGives Fence.wide 2 Tryz.prog 145 #[.pointer (some ⟨w.heap.size, 0, none⟩)] encStr (fun ss : List (List UInt8) => ss = []) 0 (w.alloc (.cells #[.map none] 97)) :=
    AnyZ.keys_gives_nil (ρ := Tryz.keys127_ren) { Tryz.keys127 with } Fence.wide _ trivial rfl w.heap.size _ (by simp) (by simp)
  exact AnyZ.sorted_in Tryz.sorted126 Fence.wide 5 trivial trivial trivial trivial rfl (by omega) (Tryz.sorts126 _) (enters_of Tryz.func144 (by kernel_rfl) rfl) 145 #[.pointer (some ⟨w.heap.size, 0, none⟩)] trivial (enters_of Tryz.func145 (by kernel_rfl) rfl) _ 0 (Nat.zero_le _) (by omega) _ hseq

-- THE CALLER's WALK over 'slices.Sorted(maps.Keys(m))' (inside '(callsIn_wide (n := 6)).1'; 'have hfK : Fence.wide.fn 127 := trivial', 'have hfS : Fence.wide.fn 126 := trivial' ahead): THE TWO ARMS TO PASTE:
--   gi_wp2_with (first
--     | (gi_at_call 127; refine (Tryz.maps_Keys_127 _ _).mono ?_; rintro e w' ⟨rfl, rfl⟩)
--     | (gi_at_call 126; refine (Tryz.slices_Sorted_keys_126_127 b nn D0 R w hown hmax hbytes).mono ?_; rintro e w' ⟨v, ss, rfl, hS, hrow, hnil, hb⟩))


end Go.Proofs

/- The names of a directory, sorted, as the program tells them. -/
namespace Go.Proofs.YtoknhcjneliboaaGreat
open Go.RowKit Go.ChangeMaps Go.MapKept Go.Maps Go.Sort
set_option linter.unusedVariables false
set_option maxRecDepth 20000

theorem kstr : Maps.Keyed Tryz.prog 9 := Maps.string_keyed Tryz.underlying9
section
variable {H : Type} {D : DataW H} {w : World} {b n : Nat} {R : Value → Option (DataW H × List MemPlace)}
theorem strKeys_nodup (h : w.ownsMap Tryz.prog 9 R b n D) : (strKeys D).Nodup := by
  obtain ⟨es, rfl, hk⟩ := h.keysOf
  obtain ⟨es', e, hp⟩ := h.tidy kstr
  injection e with e
  subst e
  show (es.map fun p => strOf p.1).Nodup
  refine List.pairwise_map.2 (hp.imp_of_mem fun {p q} hp' hq' hne e => hne ?_)
  obtain ⟨v, hv⟩ := hk p hp'
  obtain ⟨u, hu⟩ := hk q hq'
  obtain ⟨x, _, hx, _⟩ := Maps.keyOf_str Tryz.underlying9 hv
  obtain ⟨y, _, hy, _⟩ := Maps.keyOf_str Tryz.underlying9 hu
  rw [hx, hy] at e ⊢
  exact congrArg _ e
theorem mem_strKeys (h : w.ownsMap Tryz.prog 9 R b n D) (s : List UInt8) : s ∈ strKeys D ↔ Maps.has D (.string s) = true := by
  obtain ⟨es, rfl, hk⟩ := h.keysOf
  rw [Maps.has_eq, List.any_eq_true]
  show s ∈ es.map (fun p => strOf p.1) ↔ _
  rw [List.mem_map]
  constructor
  · rintro ⟨p, hp, rfl⟩
    obtain ⟨v, hv⟩ := hk p hp
    obtain ⟨x, _, hx, _⟩ := Maps.keyOf_str Tryz.underlying9 hv
    exact ⟨p, hp, by rw [hx]; simp [Lit.sameKey, strOf]⟩
  · rintro ⟨p, hp, hs⟩
    obtain ⟨v, hv⟩ := hk p hp
    obtain ⟨x, _, hx, _⟩ := Maps.keyOf_str Tryz.underlying9 hv
    rw [hx] at hs
    exact ⟨p, hp, by rw [hx]; simpa [Lit.sameKey, strOf] using hs⟩
end

theorem srt_nodup {Q : List (List UInt8 × Nat)} (h : Srt Q) : (Q.map (·.1)).Nodup :=
  List.pairwise_map.2 (h.imp fun {a b} hab e => by rw [e, bless_irr] at hab; simp at hab)
theorem srt_sorted {Q : List (List UInt8 × Nat)} (h : Srt Q) : (Q.map (·.1)).mergeSort leB = Q.map (·.1) := by
  refine List.mergeSort_of_pairwise (List.pairwise_map.2 (h.imp fun {a b} hab => ?_))
  rw [bytesLess_eq] at hab
  have : a.1 < b.1 := by simpa using hab
  simpa [leB] using List.le_of_lt this

set_option maxHeartbeats 1000000 in
theorem names_any (m : Nat) (w : World) (L : Nat) (N : List UInt8 → Nat) (Q : List (List UInt8 × Nat)) (hm : Nms w (some m) L N) (hN : ∀ s, N s = lk Q s) (hL : L = Q.length) (hQ6 : Q.length ≤ 6) (hS : Srt Q) (hv : ∀ x ∈ Q, x.2 ≠ 0) :
    Calls Tryz.prog 126 #[.func (.func 145) #[] #[.pointer (some ⟨w.heap.size, 0, none⟩)]] (w.alloc (.cells #[.map (some m)] 97)) fun e w' => (∃ v, e = .returned v ∧ w'.ownsRow (w.heap.size + 1) 9 1 v Q.length (Q.map nmV)) ∧ Below w.heap.size w w' := by
  obtain ⟨D, h1, h2, h3, h4⟩ := hm
  refine (callsIn_wide.1 (Tryz.slices_Sorted_keys_126_127 m L D _ w h1 (by rw [h2, hL]; unfold maxLen; omega) (by rw [h2, hL]; omega))).mono ?_
  rintro e w' ⟨v, ss, rfl, hp, hr, _, hb⟩
  have hq : ss.Perm (Q.map (·.1)) := hp.trans ((List.perm_ext_iff_of_nodup (strKeys_nodup h1) (srt_nodup hS)).2 fun s => by
    rw [mem_strKeys h1, h4 s, decide_eq_true_iff, hN s, List.mem_map]
    constructor
    · intro h
      exact ⟨_, lk_mem h, rfl⟩
    · rintro ⟨x, hx, rfl⟩
      rw [lk_of hS hx]
      exact hv x hx)
  have hsz : (w.alloc (.cells #[.map (some m)] 97)).heap.size = w.heap.size + 1 := by simp
  have hl : ss.length = Q.length := by rw [hq.length_eq, List.length_map]
  have hms : ss.mergeSort leB = Q.map (·.1) := (mergeSort_of_perm hq).trans (srt_sorted hS)
  have hr' : w'.ownsRow (w.heap.size + 1) 9 1 v Q.length (Q.map nmV) := by
    rw [hsz, hl] at hr
    have e : (ss.mergeSort fun x y => decide (x ≤ y)).map encStr = Q.map nmV := by
      rw [show (ss.mergeSort fun x y => decide (x ≤ y)) = Q.map (·.1) from hms, List.map_map]
      rfl
    rw [e] at hr
    exact hr
  refine ⟨⟨v, rfl, hr'⟩, ?_⟩
  rw [hsz] at hb
  have hb1 : Below w.heap.size w (w.alloc (.cells #[.map (some m)] 97)) := alloc1 _ _
  exact hb1.trans (hb.mono (by omega))

end Go.Proofs.YtoknhcjneliboaaGreat

/- What the program's New of nodes does, with any defects. (Written by gen_np22.py.) -/
namespace Go.Proofs.YtoknhcjneliboaaGreat
open Go.RowKit Go.ChangeMaps Go.MapKept
set_option linter.unusedVariables false
set_option maxRecDepth 20000

def sysZd (d : Int) : List Value := .int .i64 d :: ((List.replicate 17 (nodeC 0 0 (.map none))).flatten ++ List.replicate 25 (.bool false))
theorem sysZd_len (d : Int) : (sysZd d).length = 1845 := by
  simp [sysZd, nodeC_len]
theorem builtSysd (d : Int) : Tryz.prog.built 103 [(0, .int .i64 d)] = some (sysZd d).toArray := by kernel_rfl
theorem sysZd_up (d : Int) (j : Nat) : (sysZd d)[j + 1]? = sysZ[j + 1]? := by
  unfold sysZd sysZ
  rw [List.getElem?_cons_succ, List.getElem?_cons_succ]
def sysCd (d : Int) (m : Nat) : List Value := splice (sysZd d) 108 (nodeC 2 1 (.map (some m)))

set_option maxHeartbeats 2000000 in
set_option maxRecDepth 20000 in
theorem nnewd (w : World) (d : Int) :
    Calls Tryz.prog 12 #[.int .i64 d] w fun e w' => e = .returned (.pointer (some ⟨w.heap.size, 0, none⟩)) ∧ w'.heap[w.heap.size]? = some (.cells (sysCd d (w.heap.size + 3)).toArray 103 (0, 0)) ∧ w'.heap[w.heap.size + 3]? = some (.map #[] 0) ∧ Below w.heap.size w w' ∧ w'.heap.size = w.heap.size + 4 := by
  obtain ⟨Z, gZ⟩ : ∃ Z, Z = sysZd d := ⟨_, rfl⟩
  obtain ⟨N1, gN1⟩ : ∃ N1, N1 = nodeC 2 1 (.map (some (w.heap.size + 3))) := ⟨_, rfl⟩
  have HB : Hid (Tryz.prog.built 103 [(0, .int .i64 d)] = some Z.toArray) := by rw [gZ]; exact builtSysd d
  have lZ : Hid (Z.length = 1845) := by rw [gZ]; exact sysZd_len d
  have l1 : Hid (N1.length = 107) := by rw [gN1]; exact nodeC_len _ _ _
  have o1 : Hid (N1.toArray.all (·.oneCell') = true) := by rw [gN1]; exact nodeC_one _ _ _
  have S1 : Hid ((Tryz.prog.info? 99).map (·.size) = some N1.toArray.size) := by rw [csizeNode, List.size_toArray, l1.out]; exact hid rfl
  have hb1 : Below w.heap.size w (w.alloc (.cells Z.toArray 103)) := (Below.refl _ _).alloc (Nat.le_refl _) _
  have hs1 : (w.alloc (.cells Z.toArray 103)).heap.size = w.heap.size + 1 := by simp
  have hh1 : (w.alloc (.cells Z.toArray 103)).heap[w.heap.size]? = some (.cells Z.toArray 103 (0, 0)) := heap_alloc_new w _
  have k1 := newnode (w.alloc (.cells Z.toArray 103)).drew
  have kn : Hid (Calls Tryz.prog 51 #[.int .i64 2] (w.alloc (.cells Z.toArray 103)).drew fun e w' => e = .returned (.agg N1.toArray) ∧ Hid (w'.heap[w.heap.size]? = some (.cells Z.toArray 103 (0, 0))) ∧ Hid (Below w.heap.size w w') ∧ Hid (w'.heap.size = w.heap.size + 4) ∧ Hid (w'.heap[w.heap.size + 3]? = some (.map #[] 0))) := by
    refine hid (k1.mono ?_)
    rintro e w' ⟨rfl, h2, h3, h4⟩
    have hs2 : (w.alloc (.cells Z.toArray 103)).drew.heap.size = w.heap.size + 1 := by simp
    rw [hs2] at h2 h3 h4
    refine ⟨by rw [gN1, hs2], hid ((h2.block _ (by omega)).trans hh1), hid ?_, hid h3, hid h4⟩
    exact (hb1.drew).trans (h2.mono (by omega))
  have GZ := hid gZ
  have GN := hid gN1
  clear gZ gN1 k1 hb1 hh1
  go_enter Tryz.func12, Tryz.ntmps12
  go_wp2_with (refine wpList_build_is rfl 103 #[(0, .tmp 4)] rfl Z.toArray (by simpa [Act.eval] using HB.out) ?_)
  go_region_held3 (fun _ => True) (trivial) ((go_at_call 51; refine kn.out.mono ?_; rintro e w2 ⟨rfl, h2, h3, h4, h5⟩; have hst := run_cells_mid (P := Tryz.prog) w2 w.heap.size 108 N1 (there_of_block h2.out 108 _ (by rw [lZ.out, l1.out]; omega)) o1.out))
  go_wp2_with fail
  go_ret
  have u5 := upd_setCells w.heap.size N1 108 w2
  have h6 := heap_setCells w.heap.size 103 N1 108 w2 Z h2.out (by rw [lZ.out, l1.out]; omega)
  refine ⟨rfl, ?_, (u5.block _ (by have := h4.out; omega) (by omega)).trans h5.out, h3.out.trans (u5.below (by have := h4.out; omega) (fun x hx => by omega)), by rw [size_setCells]; exact h4.out⟩
  rw [sysCd, ← GZ.out, ← GN.out]
  exact h6


theorem Sy.freshd {w : World} {p m : Nat} {d : Int} (hb : w.heap[p]? = some (.cells (sysCd d m).toArray 103 (0, 0))) (hm : w.heap[m]? = some (.map #[] 0)) : Sy w p { rootG m with d := d } := by
  have hne : m ≠ p := by
    intro e; subst e; rw [hb] at hm; simp at hm
  have lz : 108 + (nodeC 2 1 (.map (some m))).length ≤ (sysZd d).length := by rw [sysZd_len, nodeC_len]; omega
  refine ⟨⟨_, hb, ⟨by unfold sysCd; rw [length_splice _ _ _ lz, sysZd_len], ?_, ?_, ?_, ?_⟩⟩, ?_, ?_, ?_, ?_, ?_, ?_, rfl, rfl⟩
  · unfold sysCd; rw [getElem?_splice_out _ _ _ _ lz (by omega)]; rfl
  · intro i hi j hj
    unfold sysCd
    by_cases e : i = 1
    · subst e
      rw [show 1 + 1 * 107 + j = 108 + j by omega, getElem?_splice_in _ _ _ _ lz (by rw [nodeC_len]; exact hj)]
      simp [rootG, ndC_new]
    · rw [getElem?_splice_out _ _ _ _ lz (by rw [nodeC_len]; omega), show 1 + i * 107 + j = (i * 107 + j) + 1 by omega, sysZd_up, show (i * 107 + j) + 1 = 1 + i * 107 + j by omega, sysZ_nd i hi j hj]
      simp [rootG, e, ndC_no]
  · intro b hb
    unfold sysCd
    rw [getElem?_splice_out _ _ _ _ lz (by rw [nodeC_len]; omega), show 1820 + b = (1819 + b) + 1 by omega, sysZd_up, show (1819 + b) + 1 = 1820 + b by omega, sysZ_mk b hb]
    rfl
  · intro i hi
    by_cases e : i = 1
    · simp [rootG, e, newNd_ok]
    · simp [rootG, e, noNd_ok]
  · intro i hi
    by_cases e : i = 1
    · subst e; exact nms_empty hm
    · simp only [rootG, if_neg e]; exact ⟨rfl, fun _ => rfl⟩
  · intro i s hi; simp [rootG]
  · intro i hi; simp [rootG]
  · intro i j b hi hj h1 h2
    by_cases e : i = 1 <;> by_cases e' : j = 1
    · omega
    · simp [rootG, e', noNd] at h2
    · simp [rootG, e, noNd] at h1
    · simp [rootG, e, noNd] at h1
  · intro i hi
    by_cases e : i = 1
    · simp [rootG, e, newNd]; exact hne
    · simp [rootG, e, noNd]
  · intro i hi h
    by_cases e : i = 1
    · simp [rootG, e, newNd]
    · simp [rootG, e, noNd] at h
theorem npnew_any (w : World) (d : Int) : Calls Tryz.prog 12 #[.int .i64 d] w fun e w' => ∃ p, e = .returned (.pointer (some ⟨p, 0, none⟩)) ∧ Pf w' p (rootF d) (fun x => w.heap.size ≤ x) ∧ Below w.heap.size w w' := by
  refine (nnewd w d).mono ?_
  rintro e w' ⟨rfl, h1, h2, h3, h4⟩
  refine ⟨_, rfl, ⟨_, Sy.freshd h1 h2, Rel.root _ d, fun x hx => ?_⟩, h3⟩
  rcases hx with rfl | ⟨i, hi, e⟩
  · exact Nat.le_refl _
  · have e' : (if i = 1 then newNd 2 (some (w.heap.size + 3)) else noNd).m = some x := e
    split at e'
    · simp only [newNd, Option.some.injEq] at e'
      omega
    · simp [noNd] at e'

end Go.Proofs.YtoknhcjneliboaaGreat
