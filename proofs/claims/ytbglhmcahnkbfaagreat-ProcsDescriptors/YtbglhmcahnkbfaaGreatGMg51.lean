/- Texts of this seat, merged. -/
import Derived.Test.YtbglhmcahnkbfaaGreatGMg50
import Derived.Test.YtbglhmcahnkbfaaGreatGMg52

/- The program's processes alone, in a pair. -/
namespace Go.Proofs.YtbglhmcahnkbfaaGreat
open Go.RowKit Go.ChangeMaps Go.MapKept
set_option linter.unusedVariables false
set_option maxRecDepth 20000

/-- The program's side of the pair has g behind w. -/
def Pg (w wr : World) (pp f t : Nat) (g : Gt) : Prop := (∃ G D x y L gD, P9 wr w.heap.size G D pp f x t y L g gD) ∧ Below w.heap.size w wr
section
variable {w wr w' : World} {pp f t : Nat} {g g' : Gt}
theorem Pg.grow (h : Pg w wr pp f t g) (q : Below wr.heap.size wr w') : Pg w w' pp f t g := by
  obtain ⟨⟨G, D, x, y, L, gD, h1⟩, hb⟩ := h
  exact ⟨⟨G, D, x, y, L, gD, h1.grow q⟩, hb.trans (q.mono hb.size)⟩
theorem Pg.c0 (h : Pg w wr pp f t g) : wr.cell? ⟨pp, 0, none⟩ = some (.pointer (some ⟨f, 0, none⟩)) := by
  obtain ⟨⟨G, D, x, y, L, gD, h1⟩, hb⟩ := h; exact h1.c0
theorem Pg.c2 (h : Pg w wr pp f t g) : wr.cell? ⟨pp, 2, none⟩ = some (.pointer (some ⟨t, 0, none⟩)) := by
  obtain ⟨⟨G, D, x, y, L, gD, h1⟩, hb⟩ := h; exact h1.c2
theorem Pg.tab (h : Pg w wr pp f t g) : Th wr t f g.T.F.d g.Q := by
  obtain ⟨⟨G, D, x, y, L, gD, h1⟩, hb⟩ := h; exact h1.tp.tab
theorem Pg.tp (h : Pg w wr pp f t g) : ∃ Gn, Tp wr f g.T Gn := by
  obtain ⟨⟨G, D, x, y, L, gD, h1⟩, hb⟩ := h
  obtain ⟨Gn, h2, _⟩ := h1.tp
  exact ⟨Gn, h2.tp⟩
theorem Pg.prog (h : Pg w wr pp f t g) {fn : Nat} {args : Array Value} {R : Ending → Prop} (k : ∀ G, ZpTo wr t f g G wr → Calls Tryz.prog fn args wr fun e w' => R e ∧ ZpTo wr t f g' G w') :
    Calls Tryz.prog fn args wr fun e w' => R e ∧ Pg w w' pp f t g' := by
  obtain ⟨⟨G, D, x, y, L, gD, h1⟩, hb⟩ := h
  refine (k G h1.tp.to).mono ?_
  rintro e w' ⟨he, hk⟩
  obtain ⟨a, b, _⟩ := h1.prog hk
  exact ⟨he, ⟨_, D, x, y, L, gD, a⟩, hb.trans b⟩
end
theorem fresh_pg (w : World) (d : Int) : Calls Tryz.prog 7 #[.int .i64 d] w fun e w' => ∃ pp f t, e = .returned (.pointer (some ⟨pp, 0, none⟩)) ∧ Pg w w' pp f t (newG d) := by
  refine (fresh9 w d).mono ?_
  rintro e w' ⟨pp, f, x, t, y, L, G, D, rfl, h, b⟩
  exact ⟨pp, f, t, rfl, ⟨G, D, x, y, L, _, h⟩, b⟩
/-- A pair, however the world behind is told. -/
theorem fresh_pg_in {w wr : World} {pp f t : Nat} {g : Gt} (h : Pg w wr pp f t g) (d : Int) : Calls Tryz.prog 7 #[.int .i64 d] wr fun e w' => ∃ p2 f2 t2, e = .returned (.pointer (some ⟨p2, 0, none⟩)) ∧ Pg wr w' p2 f2 t2 (newG d) ∧ Pg w w' pp f t g := by
  refine (fresh_pg wr d).mono ?_
  rintro e w' ⟨p2, f2, t2, rfl, h2⟩
  exact ⟨p2, f2, t2, rfl, h2, h.grow h2.2⟩

end Go.Proofs.YtbglhmcahnkbfaaGreat

/- The road of ProcsDescriptors. -/
namespace Go.Proofs.YtbglhmcahnkbfaaGreat
open Go.RowKit Go.ChangeMaps Go.MapKept
set_option linter.unusedVariables false
set_option maxRecDepth 20000

theorem dG1_ok : GOk dG1 := (GOk.new 0).tbl ((TOk.new 0).open_ _ _)
theorem dG2_ok : GOk dG2 := dG1_ok.install 1 1
theorem dG3_ok : GOk dG3 := dG2_ok.dup 1 0
theorem dG4_ok (t0 : Int) : GOk (dG4 t0) := dG3_ok.dup2 1 0 t0
theorem dG5_ok (t0 : Int) : GOk (dG5 t0) := (dG4_ok t0).close 1 0

set_option maxHeartbeats 8000000 in
theorem gdesc_road (a : Int) (w : World) :
    Calls Tryz.prog 6 #[.int .i64 a] w fun e w' => e = .returned (.bool true) ∧ Below w.heap.size w w' := by
  obtain ⟨s, hq, h6⟩ : ∃ s : Nat, wrap64 ((IntKind.u64.wrap a).tmod 6) = (s : Int) ∧ s < 6 := by
    have h0 : 0 ≤ IntKind.u64.wrap a ∧ IntKind.u64.wrap a < 18446744073709551616 := by rw [IntKind.wrap_u64]; omega
    rw [Int.tmod_eq_emod_of_nonneg h0.1]
    refine ⟨(IntKind.u64.wrap a % 6).toNat, ?_, by omega⟩
    unfold wrap64; omega
  obtain ⟨e2, e3, e4, e5⟩ := d_dup2 s h6
  have HQ := hid hq
  have k1 := hid (fresh_pg w 0)
  have K2 : Hid (∀ W pp f t, Pg w W pp f t (newG 0) → Calls Tryz.prog 16 #[.pointer (some ⟨f, 0, none⟩), .string ⟨#[47, 102]⟩, .int .i64 11] W fun e w' => e = .returned (.tuple #[.int .i64 1, .int .i64 0]) ∧ Pg w w' pp f t dG1) := hid (fun W pp f t h => h.prog (R := fun e => e = .returned (.tuple #[.int .i64 1, .int .i64 0])) (fun G hz => (hz.open_ (TOk.new 0) ⟨#[47, 102]⟩ (by decide) 11).mono (by
    rintro e w' ⟨he, k⟩
    refine ⟨he.trans ?_, k⟩
    show Ending.returned (.tuple #[.int .i64 ((((newT 0).open_ [47, 102] 11).2.1 : Nat) : Int), .int .i64 ((newT 0).open_ [47, 102] 11).2.2]) = _
    rw [d_open]
    rfl)))
  have K3 : Hid (∀ W pp f t, Pg w W pp f t dG1 → Calls Tryz.prog 17 #[.pointer (some ⟨t, 0, none⟩), .int .i64 1, .int .i64 1] W fun e w' => e = .returned (.tuple #[.int .i64 0, .int .i64 0]) ∧ Pg w w' pp f t dG2) := hid (fun W pp f t h => h.prog (R := fun e => e = .returned (.tuple #[.int .i64 0, .int .i64 0])) (fun G hz => (ginstall_any hz dG1_ok.T 1 1).mono (by
    rintro e w' ⟨he, k⟩
    exact ⟨by rw [he, d_inst], k⟩)))
  have K4 : Hid (∀ W pp f t, Pg w W pp f t dG2 → Calls Tryz.prog 18 #[.pointer (some ⟨t, 0, none⟩), .int .i64 1, .int .i64 0] W fun e w' => e = .returned (.tuple #[.int .i64 1, .int .i64 0]) ∧ Pg w w' pp f t dG3) := hid (fun W pp f t h => h.prog (R := fun e => e = .returned (.tuple #[.int .i64 1, .int .i64 0])) (fun G hz => (gdup_any hz dG2_ok 1 0).mono (by
    rintro e w' ⟨he, k⟩
    exact ⟨by rw [he, d_dup], k⟩)))
  have K5 : Hid (∀ W pp f t, Pg w W pp f t dG3 → Calls Tryz.prog 19 #[.pointer (some ⟨t, 0, none⟩), .int .i64 1, .int .i64 0, .int .i64 (s : Int)] W fun e w' => e = .returned (.tuple #[.int .i64 (s : Int), .int .i64 0]) ∧ Pg w w' pp f t (dG4 (s : Int))) := hid (fun W pp f t h => h.prog (R := fun e => e = .returned (.tuple #[.int .i64 (s : Int), .int .i64 0])) (fun G hz => (gdup2_any hz dG3_ok 1 0 (s : Int)).mono (by
    rintro e w' ⟨he, k⟩
    exact ⟨by rw [he, e2], k⟩)))
  have K6 : Hid (∀ W pp f t, Pg w W pp f t (dG4 (s : Int)) → Calls Tryz.prog 20 #[.pointer (some ⟨t, 0, none⟩), .int .i64 1, .int .i64 0] W fun e w' => e = .returned (.int .i64 0) ∧ Pg w w' pp f t (dG5 (s : Int))) := hid (fun W pp f t h => h.prog (R := fun e => e = .returned (.int .i64 0)) (fun G hz => (gclose_any hz (dG4_ok _) 1 0).mono (by
    rintro e w' ⟨he, k⟩
    exact ⟨by rw [he, e3], k⟩)))
  have KF : Hid (∀ W pp f t (fd v er : Int), (dG5 (s : Int)).file 1 fd = (v, er) → Pg w W pp f t (dG5 (s : Int)) → Calls Tryz.prog 21 #[.pointer (some ⟨t, 0, none⟩), .int .i64 1, .int .i64 fd] W fun e w' => e = .returned (.tuple #[.int .i64 v, .int .i64 er]) ∧ Pg w w' pp f t (dG5 (s : Int))) := hid (fun W pp f t fd v er hv h => (gfile_any t f _ 1 fd W h.tab).mono (by
    rintro e w' ⟨he, k⟩
    exact ⟨by rw [he, hv], h.grow k⟩))
  have KL : Hid (∀ W pp f t, Pg w W pp f t (dG5 (s : Int)) → oiN (dG5 (s : Int)).T.O 11 = 1 → Calls Tryz.prog 12 #[.pointer (some ⟨f, 0, none⟩)] W fun e w' => (∃ a c, e = .returned (.slice a 1 c)) ∧ Pg w w' pp f t (dG5 (s : Int))) := hid (fun W pp f t h hn => by
    obtain ⟨Gn, hg⟩ := h.tp
    refine (tplook W f _ Gn hg (dG5_ok _).T).mono ?_
    rintro e w' ⟨⟨v, rfl, h1⟩, h3⟩
    rw [hn] at h1
    obtain ⟨a, c, rfl, _⟩ := own_shp h1
    exact ⟨⟨a, c, rfl⟩, h.grow h3⟩)
  have E4 := hid e4
  have E5 := hid e5
  clear hq e2 e3 e4 e5
  go_enter Tryz.func6, Tryz.ntmps6
  go_wp2_with fail
  refine k1.out.mono ?_
  rintro e w1 ⟨pp, f, t, rfl, h1⟩
  have c0 := h1.c0
  have k2 := hid (K2.out _ _ _ _ h1)
  clear h1 k1 K2
  go_wp2_with fail
  refine k2.out.mono ?_
  rintro e w2 ⟨rfl, h2⟩
  have c0 := h2.c0
  have c2 := h2.c2
  have k3 := hid (K3.out _ _ _ _ h2)
  clear h2 k2 K3
  go_wp2_with fail
  refine k3.out.mono ?_
  rintro e w3 ⟨rfl, h3⟩
  have c2 := h3.c2
  have k4 := hid (K4.out _ _ _ _ h3)
  clear h3 k3 K4
  go_wp2_with fail
  refine k4.out.mono ?_
  rintro e w4 ⟨rfl, h4⟩
  have c2 := h4.c2
  have k5 := hid (K5.out _ _ _ _ h4)
  clear h4 k4 K5
  go_wp2_with fail
  rw [HQ.out]
  refine k5.out.mono ?_
  rintro e w5 ⟨rfl, h5⟩
  have c2 := h5.c2
  have k6 := hid (K6.out _ _ _ _ h5)
  clear h5 k5 K6
  go_wp2_with fail
  refine k6.out.mono ?_
  rintro e w6 ⟨rfl, h6⟩
  have c2 := h6.c2
  have k7 := hid (KF.out _ _ _ _ 1 1 0 E4.out h6)
  clear h6 k6 E4
  by_cases hs0 : s = 0
  · subst hs0
    go_wp2_with fail
    refine k7.out.mono ?_
    rintro e w7 ⟨rfl, h7⟩
    go_wp2_with fail
    go_ret
    exact ⟨rfl, h7.2⟩
  · obtain ⟨a1, a2, a3⟩ := E5.out hs0
    have hs1 : ¬ (s : Int) = 0 := by omega
    have A1 := hid a1
    have A2 := hid a2
    have A3 := hid a3
    clear a1 a2 a3 E5 hs0
    go_wp2_with fail
    refine k7.out.mono ?_
    rintro e w7 ⟨rfl, h7⟩
    have c2 := h7.c2
    have k8 := hid (KF.out _ _ _ _ (s : Int) 1 0 A1.out h7)
    clear h7 k7
    go_wp2_with fail
    refine k8.out.mono ?_
    rintro e w8 ⟨rfl, h8⟩
    have c2 := h8.c2
    have k9 := hid (KF.out _ _ _ _ 0 0 9 A2.out h8)
    clear h8 k8
    go_wp2_with fail
    refine k9.out.mono ?_
    rintro e w9 ⟨rfl, h9⟩
    have c0 := h9.c0
    have ka := hid (KL.out _ _ _ _ h9 A3.out)
    clear h9 k9
    go_wp2_with fail
    refine ka.out.mono ?_
    rintro e wa ⟨⟨aa, ca, rfl⟩, ha⟩
    go_wp2_with fail
    go_ret
    exact ⟨rfl, ha.2⟩

end Go.Proofs.YtbglhmcahnkbfaaGreat
