/- What opened, bodyOf and the node's own calls do. -/
import Derived.Test.YtdnblbahecpmkaaGreatFTab
import Derived.BigQuiet
namespace Go.Proofs.YtdnblbahecpmkaaGreat
open Go.RowKit Go.ChangeMaps Go.MapKept
set_option linter.unusedVariables false
set_option maxRecDepth 20000

set_option maxHeartbeats 1000000 in
theorem opened_yes (w : World) (t p q : Nat) (F : Nat → Fl) (H : Tf w t p q F) (i : Nat) (h1 : 1 ≤ i) (h2 : i < 11) (hh : (F i).h ≠ 0) (b : Int) (hb : (bits BinOp.and IntKind.i64 (F i).fl b != 0) = true) :
    Calls Tryz.prog 28 #[.pointer (some ⟨t, 0, none⟩), .int .i64 (i : Int), .int .i64 b] w fun e w' => e = .returned (.tuple #[.pointer (some ⟨t, 2 + i * 5, none⟩), .int .i64 0]) ∧ w' = w := by
  have k0 := hid (ffile_yes w t p q F H i h1 h2 hh)
  have k1 := hid (fhas_any w t (2 + i * 5) (F i).fl b true (H.c3 i h2) hb)
  clear H hh hb
  go_enter Tryz.func28, Tryz.ntmps28
  go_wp2_with fail
  refine k0.out.mono ?_
  rintro e w1 ⟨rfl, rfl⟩
  clear k0
  go_wp2_with fail
  refine k1.out.mono ?_
  rintro e w1 ⟨rfl, rfl⟩
  clear k1
  go_wp2_with fail
  go_ret2
  exact ⟨rfl, rfl⟩

set_option maxHeartbeats 2000000 in
theorem body_file (w : World) (t p q : Nat) (F : Nat → Fl) (H : Tf w t p q F) (i : Nat) (h2 : i < 11) (hk : (F i).k = 1) :
    Calls Tryz.prog 29 #[.pointer (some ⟨t, 0, none⟩), .pointer (some ⟨t, 2 + i * 5, none⟩)] w fun e w' => e = .returned (.iface 109 (.agg #[.pointer (some ⟨p, 0, none⟩), .int .i64 (F i).of])) ∧ ∃ n, w' = w.drewN n := by
  have c0 := H.c0 i h2
  have c1 := H.c1 i h2
  have cs := H.s
  rw [hk] at c0
  obtain ⟨of, go⟩ : ∃ of, of = (F i).of := ⟨_, rfl⟩
  rw [← go] at c1 ⊢
  clear H hk go
  go_enter Tryz.func29, Tryz.ntmps29
  go_wp2_with fail
  go_quiet (fail)
  go_wp2_with fail
  go_ret
  exact ⟨rfl, nq, rfl⟩

set_option maxHeartbeats 2000000 in
theorem fsize_any (p : Nat) (S : Sg) (w : World) (i : Nat) (h1 : 1 ≤ i) (hi : i < 17) (x : Nd) (T : Nat → Bool) (H : Sy w p (S.bl i x T)) (hk : x.k = 1) :
    Calls Tryz.prog 155 #[.agg #[.pointer (some ⟨p, 0, none⟩), .int .i64 (i : Int)]] w fun e w' => e = .returned (.tuple #[.int .i64 (x.s : Int), .int .i64 0]) ∧ Below w.heap.size w w' := by
  obtain ⟨W, gW⟩ : ∃ W, W = w.alloc (Obj.cells #[.pointer (some ⟨p, 0, none⟩), .int .i64 (i : Int)] 109) := ⟨_, rfl⟩
  have hB : Below w.heap.size w W := by rw [gW]; exact one_new _ _
  have k1 := hid (stat_file p S W i h1 hi x T (H.grow hB) hk)
  have HB := hid hB
  have a0 : W.cell? ⟨w.heap.size, 0, none⟩ = some (.pointer (some ⟨p, 0, none⟩)) := by rw [gW]; simp [go_sem]
  have a1 : W.cell? ⟨w.heap.size, 1, none⟩ = some (.int .i64 (i : Int)) := by rw [gW]; simp [go_sem]
  obtain ⟨s, gs⟩ : ∃ s, s = x.s := ⟨_, rfl⟩
  rw [← gs] at k1 ⊢
  obtain ⟨l, gl⟩ : ∃ l, l = x.l := ⟨_, rfl⟩
  rw [← gl] at k1
  clear H hk hB gs gl
  go_enter Tryz.func155, Tryz.ntmps155
  go_wp2_with fail
  rw [← gW]
  clear gW
  refine k1.out.mono ?_
  rintro e w2 ⟨rfl, hb2⟩
  have HB2 := hid (HB.out.trans (hb2.mono HB.out.size))
  clear k1 hb2
  go_wp2_with fail
  go_ret2
  exact ⟨rfl, HB2.out.trans ((one_new w2 _).mono HB2.out.size)⟩

set_option maxHeartbeats 1000000 in
theorem fnfrom_0 (w : World) (p : Nat) (i : Int) (a : Value) : Calls Tryz.prog 151 #[.agg #[.pointer (some ⟨p, 0, none⟩), .int .i64 i], a, .int .i64 0] w fun e w' => e = .returned (.tuple #[.int .i64 0, .int .i64 0]) ∧ Below w.heap.size w w' := by
  go_enter Tryz.func151, Tryz.ntmps151
  go_wp2_with fail
  go_ret2
  exact ⟨rfl, one_new _ _⟩

end Go.Proofs.YtdnblbahecpmkaaGreat
