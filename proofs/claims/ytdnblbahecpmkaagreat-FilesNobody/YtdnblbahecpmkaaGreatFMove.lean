/- What Read, Write and Seek of open files do. -/
import Derived.Test.YtdnblbahecpmkaaGreatFOps3
namespace Go.Proofs.YtdnblbahecpmkaaGreat
open Go.RowKit Go.ChangeMaps Go.MapKept
set_option linter.unusedVariables false
set_option maxRecDepth 20000

theorem meth_read : (fun (v : Value) (W : World) => (method 259 109 v "dredger/files.read").run Tryz.prog W) = (fun (v : Value) (W : World) => .ok (152, v) W) := by kernel_rfl
theorem meth_write : (fun (v : Value) (W : World) => (method 259 109 v "dredger/files.write").run Tryz.prog W) = (fun (v : Value) (W : World) => .ok (153, v) W) := by kernel_rfl
theorem meth_from : (fun (v : Value) (W : World) => (method 259 109 v "dredger/files.from").run Tryz.prog W) = (fun (v : Value) (W : World) => .ok (151, v) W) := by kernel_rfl

set_option maxHeartbeats 4000000 in
set_option maxRecDepth 20000 in
theorem fread_any (w : World) (t p q : Nat) (S : Sg) (i : Nat) (h1 : 1 ≤ i) (hi : i < 17) (x : Nd) (T : Nat → Bool) (F : Nat → Fl) (H : Fw w t p q S i x T F) (j : Nat) (hj1 : 1 ≤ j) (hj : j < 11) (hh : (F j).h ≠ 0) (hk : (F j).k = 1) (hof : (F j).of = (i : Int)) (hb : (bits BinOp.and IntKind.i64 (F j).fl 1 != 0) = true) (o count : Nat) (ho : (F j).off = (o : Int)) (hob : o ≤ 1048576) (hc : count ≤ 1048576) :
    Calls Tryz.prog 11 #[.pointer (some ⟨t, 0, none⟩), .int .i64 (j : Int), .int .i64 (count : Int)] w fun e w' => (∃ g c, e = .returned (.tuple #[.slice (some ⟨g, 0, none⟩) (min count (x.s - o)) c, .bool false, .int .i64 0]) ∧
      w'.ownsRow w.heap.size 5 1 (.slice (some ⟨g, 0, none⟩) (min count (x.s - o)) c) (min count (x.s - o)) ((rd x o count).map (Value.int .u8))) ∧ Fw w' t p q S i x T (updF F j { F j with off := ((o + min count (x.s - o) : Nat) : Int) }) ∧ Upd (· = t) w w' := by
  have k1 := hid (opened_yes w t p q F H.tf j hj1 hj hh 1 hb)
  have k2 := body_file w t p q F H.tf j hj hk
  rw [hof] at k2
  have K2 := hid k2
  have k3 : Hid (∀ n, Calls Tryz.prog 152 #[.agg #[.pointer (some ⟨p, 0, none⟩), .int .i64 (i : Int)], .pointer (some ⟨t, 2 + j * 5, none⟩), .int .i64 (count : Int)] (w.drewN n) fun e w' => ∃ g c, e = .returned (.tuple #[.slice (some ⟨g, 0, none⟩) (min count (x.s - o)) c, .bool false, .int .i64 0]) ∧ Hid (w'.ownsRow w.heap.size 5 1 (.slice (some ⟨g, 0, none⟩) (min count (x.s - o)) c) (min count (x.s - o)) ((rd x o count).map (Value.int .u8)) ∧ Fw w' t p q S i x T (updF F j { F j with off := ((o + min count (x.s - o) : Nat) : Int) }) ∧ Upd (· = t) w w')) := by
    refine hid (fun n => (fnread_any (w.drewN n) t p q S i h1 hi x T F (H.hp rfl) j hj o count ho hob hc).mono ?_)
    rintro e w' ⟨⟨g, c, rfl, h2⟩, h3, h4⟩
    exact ⟨g, c, rfl, hid ⟨h2, h3, ((Upd.refl (· = t) w).drewN n).trans h4 (fun _ _ h => h)⟩⟩
  obtain ⟨r, gr⟩ : ∃ r, r = min count (x.s - o) := ⟨_, rfl⟩
  rw [← gr] at k3 ⊢
  clear H hh hk hof hb ho k2 gr
  go_enter Tryz.func11, Tryz.ntmps11
  go_wp2_with fail
  refine k1.out.mono ?_
  rintro e w1 ⟨rfl, rfl⟩
  clear k1
  go_wp2_with fail
  refine K2.out.mono ?_
  rintro e w2 ⟨rfl, n, rfl⟩
  clear K2
  have hm := congrFun (congrFun meth_read (.agg #[.pointer (some ⟨p, 0, none⟩), .int .i64 (i : Int)])) (w1.drewN n)
  go_wp2_with fail
  refine (k3.out n).mono ?_
  rintro e w3 ⟨g, c, rfl, H3⟩
  clear k3 hm
  go_wp2_with fail
  go_ret3
  exact ⟨⟨g, c, rfl, H3.out.1⟩, H3.out.2.1, H3.out.2.2⟩

set_option maxHeartbeats 4000000 in
set_option maxRecDepth 20000 in
theorem fwrite_any (w : World) (t p q : Nat) (S : Sg) (i : Nat) (h1 : 1 ≤ i) (hi : i < 17) (x : Nd) (T : Nat → Bool) (F : Nat → Fl) (H : Fw w t p q S i x T F) (j : Nat) (hj1 : 1 ≤ j) (hj : j < 11) (hh : (F j).h ≠ 0) (hk : (F j).k = 1) (hof : (F j).of = (i : Int)) (hb : (bits BinOp.and IntKind.i64 (F j).fl 2 != 0) = true) (o : Nat) (ho : (F j).off = (o : Int)) (ap : Bool) (hap : (bits BinOp.and IntKind.i64 (F j).fl 4 != 0) = ap)
    (len c : Nat) (a : Option Addr) (zs : List Int) (hsrc : Src w a len zs) (ha : ∀ b o, a = some ⟨b, o, none⟩ → 0 < len → b ≠ p) (o' : Nat) (ho' : o' = if ap then x.s else o) (hz : o' + len ≤ 96) :
    Calls Tryz.prog 7 #[.pointer (some ⟨t, 0, none⟩), .int .i64 (j : Int), .slice a len c] w fun e w' => e = .returned (.tuple #[.int .i64 (len : Int), .bool false, .int .i64 0]) ∧
      (∃ B' T', Fw w' t p q S i (wrote x o' zs B') T' (updF F j { F j with off := ((o' + len : Nat) : Int) })) ∧ Upd (fun y => y = t ∨ y = p) w w' := by
  have k1 := hid (opened_yes w t p q F H.tf j hj1 hj hh 2 hb)
  have k2 := body_file w t p q F H.tf j hj hk
  rw [hof] at k2
  have K2 := hid k2
  have k3 : Hid (∀ n, Calls Tryz.prog 153 #[.agg #[.pointer (some ⟨p, 0, none⟩), .int .i64 (i : Int)], .pointer (some ⟨t, 2 + j * 5, none⟩), .slice a len c] (w.drewN n) fun e w' => e = .returned (.tuple #[.int .i64 (len : Int), .bool false, .int .i64 0]) ∧ Hid ((∃ B' T', Fw w' t p q S i (wrote x o' zs B') T' (updF F j { F j with off := ((o' + len : Nat) : Int) })) ∧ Upd (fun y => y = t ∨ y = p) w w')) := by
    refine hid (fun n => (fnwrite_any (w.drewN n) t p q S i h1 hi x T F (H.hp rfl) j hj o ho ap hap len c a zs ((Upd.refl (fun _ => False) w).drewN n |>.src hsrc (fun _ _ _ h => h)) ha o' ho' hz).mono ?_)
    rintro e w' ⟨rfl, h3, h4⟩
    exact ⟨rfl, hid ⟨h3, ((Upd.refl (fun y => y = t ∨ y = p) w).drewN n).trans h4 (fun _ _ h => h)⟩⟩
  clear H hh hk hof hb ho k2 hap hsrc ha ho'
  go_enter Tryz.func7, Tryz.ntmps7
  go_wp2_with fail
  refine k1.out.mono ?_
  rintro e w1 ⟨rfl, rfl⟩
  clear k1
  go_wp2_with fail
  refine K2.out.mono ?_
  rintro e w2 ⟨rfl, n, rfl⟩
  clear K2
  have hm := congrFun (congrFun meth_write (.agg #[.pointer (some ⟨p, 0, none⟩), .int .i64 (i : Int)])) (w1.drewN n)
  go_wp2_with fail
  refine (k3.out n).mono ?_
  rintro e w3 ⟨rfl, H3⟩
  clear k3 hm
  go_wp2_with fail
  go_ret3
  exact ⟨rfl, H3.out.1, H3.out.2⟩

set_option maxHeartbeats 4000000 in
set_option maxRecDepth 20000 in
theorem fseek_0 (w : World) (t p q : Nat) (S : Sg) (i : Nat) (x : Nd) (T : Nat → Bool) (F : Nat → Fl) (H : Fw w t p q S i x T F) (j : Nat) (hj1 : 1 ≤ j) (hj : j < 11) (hh : (F j).h ≠ 0) (hk : (F j).k = 1) (off : Nat) (ho : off ≤ 1048576) :
    Calls Tryz.prog 10 #[.pointer (some ⟨t, 0, none⟩), .int .i64 (j : Int), .int .i64 (off : Int), .int .i64 0] w fun e w' => e = .returned (.tuple #[.int .i64 (off : Int), .int .i64 0]) ∧ Fw w' t p q S i x T (updF F j { F j with off := (off : Int) }) ∧ Upd (· = t) w w' := by
  have k1 := hid (ffile_yes w t p q F H.tf j hj1 hj hh)
  have k2 := hid (body_file w t p q F H.tf j hj hk)
  obtain ⟨ov, gof⟩ : ∃ ov, ov = (F j).of := ⟨_, rfl⟩
  rw [← gof] at k2
  have a1 : ¬ (off : Int) < -1048576 := by omega
  have a2 : ¬ (1048576 : Int) < (off : Int) := by omega
  have a3 : ¬ (off : Int) < 0 := by omega
  have HH := hid H
  clear H hh hk gof
  go_enter Tryz.func10, Tryz.ntmps10
  go_wp2_with fail
  refine k1.out.mono ?_
  rintro e w1 ⟨rfl, rfl⟩
  clear k1
  go_wp2_with fail
  refine k2.out.mono ?_
  rintro e w2 ⟨rfl, n, rfl⟩
  clear k2
  have hm := congrFun (congrFun meth_from (.agg #[.pointer (some ⟨p, 0, none⟩), .int .i64 ov])) (w1.drewN n)
  have k3 := hid (fnfrom_0 (w1.drewN n) p ov (.pointer (some ⟨t, 2 + j * 5, none⟩)))
  go_wp2_with fail
  refine k3.out.mono ?_
  rintro e w3 ⟨rfl, hb3⟩
  have hF3 : Fw w3 t p q S i x T F := (HH.out.hp (w' := w1.drewN n) rfl).grow hb3
  have c2 := hF3.tf.c2 j hj
  have f2 := hF3.tf.fz (2 + j * 5 + 2)
  have H4 := hid (And.intro (hF3.off j hj (off : Int)) ((((Upd.refl (· = t) w1).drewN n).trans (Upd.of_below (F := (· = t)) hb3) (fun _ _ h => h)).trans (Upd.setCell (F := (· = t)) w3 ⟨t, 2 + j * 5 + 2, none⟩ (.int .i64 (off : Int)) rfl) (fun _ _ h => h)))
  clear k3 hm hb3 hF3 HH
  go_wp2_with fail
  go_ret2
  exact ⟨rfl, H4.out.1, H4.out.2⟩

end Go.Proofs.YtdnblbahecpmkaaGreat
