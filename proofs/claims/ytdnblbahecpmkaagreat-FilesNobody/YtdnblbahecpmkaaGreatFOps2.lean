/- What an open file's own calls do. -/
import Derived.Test.YtdnblbahecpmkaaGreatFOps
namespace Go.Proofs.YtdnblbahecpmkaaGreat
open Go.RowKit Go.ChangeMaps Go.MapKept
set_option linter.unusedVariables false
set_option maxRecDepth 20000

/-- Open files over a system with one file. -/
structure Fw (w : World) (t p q : Nat) (S : Sg) (i : Nat) (x : Nd) (T : Nat → Bool) (F : Nat → Fl) : Prop where
  sy : Sy w p (S.bl i x T)
  tf : Tf w t p q F
  tn : ¬ (S.bl i x T).foot p t
  k : x.k = 1
  s : x.s ≤ 96
  B : Bok x T (need x.s)

theorem Fw.tp {w : World} {t p q : Nat} {S : Sg} {i : Nat} {x : Nd} {T : Nat → Bool} {F : Nat → Fl} (h : Fw w t p q S i x T F) : t ≠ p := fun e => h.tn (.inl e)
theorem Fw.grow {w w' : World} {t p q : Nat} {S : Sg} {i : Nat} {x : Nd} {T : Nat → Bool} {F : Nat → Fl} (h : Fw w t p q S i x T F) (u : Below w.heap.size w w') : Fw w' t p q S i x T F := ⟨h.sy.grow u, h.tf.grow u, h.tn, h.k, h.s, h.B⟩
theorem Fw.hp {w w' : World} {t p q : Nat} {S : Sg} {i : Nat} {x : Nd} {T : Nat → Bool} {F : Nat → Fl} (h : Fw w t p q S i x T F) (e : w'.heap = w.heap) : Fw w' t p q S i x T F :=
  ⟨h.sy.hp e, (by obtain ⟨C, h1, h2⟩ := h.tf; exact ⟨C, by rw [e]; exact h1, h2⟩), h.tn, h.k, h.s, h.B⟩
theorem Fw.off {w : World} {t p q : Nat} {S : Sg} {i : Nat} {x : Nd} {T : Nat → Bool} {F : Nat → Fl} (h : Fw w t p q S i x T F) (j : Nat) (hj : j < 11) (v : Int) : Fw (w.setCell ⟨t, 2 + j * 5 + 2, none⟩ (.int .i64 v)) t p q S i x T (updF F j { F j with off := v }) :=
  ⟨h.sy.upd (Upd.setCell (F := (· = t)) w ⟨t, _, none⟩ _ rfl) (fun y hy e => h.tn (e ▸ hy)), h.tf.offTo j hj v, h.tn, h.k, h.s, h.B⟩
theorem foot_same (S : Sg) (i : Nat) (x x' : Nd) (T T' : Nat → Bool) (hm : x'.m = x.m) (p y : Nat) (h : (S.bl i x' T').foot p y) : (S.bl i x T).foot p y := by
  rcases h with h | ⟨j, hj, e⟩
  · exact .inl h
  · refine .inr ⟨j, hj, ?_⟩
    change (updN S.P i x' j).m = some y at e
    show (updN S.P i x j).m = some y
    by_cases q : j = i
    · subst q; rw [updN_same] at e ⊢; rw [← hm]; exact e
    · rw [updN_ne _ _ _ _ q] at e ⊢; exact e

set_option maxHeartbeats 4000000 in
set_option maxRecDepth 20000 in
theorem fnread_any (w : World) (t p q : Nat) (S : Sg) (i : Nat) (h1 : 1 ≤ i) (hi : i < 17) (x : Nd) (T : Nat → Bool) (F : Nat → Fl) (H : Fw w t p q S i x T F) (j : Nat) (hj : j < 11) (o count : Nat) (ho : (F j).off = (o : Int)) (hob : o ≤ 1048576) (hc : count ≤ 1048576) :
    Calls Tryz.prog 152 #[.agg #[.pointer (some ⟨p, 0, none⟩), .int .i64 (i : Int)], .pointer (some ⟨t, 2 + j * 5, none⟩), .int .i64 (count : Int)] w fun e w' => (∃ g c, e = .returned (.tuple #[.slice (some ⟨g, 0, none⟩) (min count (x.s - o)) c, .bool false, .int .i64 0]) ∧
      w'.ownsRow w.heap.size 5 1 (.slice (some ⟨g, 0, none⟩) (min count (x.s - o)) c) (min count (x.s - o)) ((rd x o count).map (Value.int .u8))) ∧ Fw w' t p q S i x T (updF F j { F j with off := ((o + min count (x.s - o) : Nat) : Int) }) ∧ Upd (· = t) w w' := by
  obtain ⟨W, gW⟩ : ∃ W, W = w.alloc (Obj.cells #[.pointer (some ⟨p, 0, none⟩), .int .i64 (i : Int)] 109) := ⟨_, rfl⟩
  have hB : Below w.heap.size w W := by rw [gW]; exact one_new _ _
  have hF : Fw W t p q S i x T F := H.grow hB
  have a0 : W.cell? ⟨w.heap.size, 0, none⟩ = some (.pointer (some ⟨p, 0, none⟩)) := by rw [gW]; simp [go_sem]
  have a1 : W.cell? ⟨w.heap.size, 1, none⟩ = some (.int .i64 (i : Int)) := by rw [gW]; simp [go_sem]
  have a2 := hF.tf.c2 j hj
  rw [ho] at a2
  have hZ : w.heap.size < W.heap.size := by rw [gW]; simp
  have hZt : t < W.heap.size := hF.tf.lt
  obtain ⟨r, gr⟩ : ∃ r, r = min count (x.s - o) := ⟨_, rfl⟩
  have hr96 : r ≤ 96 := by have := H.s; omega
  have k1 : Hid (Calls Tryz.prog 156 #[.pointer (some ⟨p, 0, none⟩), .int .i64 (i : Int), .int .i64 (o : Int), .int .i64 (count : Int)] W.drew fun e w' => ∃ g c, e = .returned (.tuple #[.slice (some ⟨g, 0, none⟩) r c, .int .i64 0]) ∧ Hid (w'.ownsRow W.heap.size 5 1 (.slice (some ⟨g, 0, none⟩) r c) r ((rd x o count).map (Value.int .u8)) ∧ Below W.heap.size W w')) := by
    rw [gr]
    refine hid ((read_ok p S W.drew i h1 hi x T (hF.sy.hp rfl) H.k H.s o count (by omega) (by omega)).mono ?_)
    rintro e w' ⟨⟨g, c, rfl, h2⟩, h3⟩
    exact ⟨g, c, rfl, hid ⟨h2, (Below.refl _ W).drew.trans h3⟩⟩
  rw [← gr]
  have HF := hid hF
  have HB := hid hB
  have HZ := hid (And.intro hZ hZt)
  have HO := hid ho
  clear H hB hF ho hZ hZt gr
  go_enter Tryz.func152, Tryz.ntmps152
  go_wp2_with fail
  rw [← gW]
  clear gW
  go_region_held3 (fun X => X.cell? ⟨w.heap.size, 0, none⟩ = some (.pointer (some ⟨p, 0, none⟩)) ∧ X.cell? ⟨w.heap.size, 1, none⟩ = some (.int .i64 (i : Int)) ∧ X.cell? ⟨t, 2 + j * 5 + 2, none⟩ = some (.int .i64 (o : Int))) (go_keep) ((go_at_call 156; refine k1.out.mono ?_; rintro e w3 ⟨g, c, rfl, H3⟩; have x0 := (H3.out.2.cell (p := ⟨w.heap.size, 0, none⟩) HZ.out.1).trans a0; have x1 := (H3.out.2.cell (p := ⟨w.heap.size, 1, none⟩) HZ.out.1).trans a1; have x2 := (H3.out.2.cell (p := ⟨t, 2 + j * 5 + 2, none⟩) HZ.out.2).trans a2))
  have f3 : w3.frozen? ⟨t, 2 + j * 5 + 2, none⟩ = false := (HF.out.grow H3.out.2).tf.fz _
  have hF4 := (HF.out.grow H3.out.2).off j hj ((o + r : Nat) : Int)
  have hU4 : Upd (· = t) w (w3.setCell ⟨t, 2 + j * 5 + 2, none⟩ (.int .i64 ((o + r : Nat) : Int))) := (Upd.of_below (HB.out.trans (H3.out.2.mono HB.out.size))).trans (Upd.setCell (F := (· = t)) w3 ⟨t, _, none⟩ _ rfl) (fun _ _ h => h)
  have hO4 : (w3.setCell ⟨t, 2 + j * 5 + 2, none⟩ (.int .i64 ((o + r : Nat) : Int))).ownsRow w.heap.size 5 1 (.slice (some ⟨g, 0, none⟩) r c) r ((rd x o count).map (Value.int .u8)) := by
    have u : Upd (· = t) w3 (w3.setCell ⟨t, 2 + j * 5 + 2, none⟩ (.int .i64 ((o + r : Nat) : Int))) := Upd.setCell (F := (· = t)) w3 ⟨t, _, none⟩ _ rfl
    refine own_mono (u.own H3.out.1 (fun k hk e => ?_)) HB.out.size
    have := (H3.out.1.lt k hk).1
    have := HZ.out.2
    omega
  have e4 : ((o + r : Nat) : Int) = (o : Int) + (r : Int) := by omega
  have w64 : IntKind.i64.wrap ((o : Int) + (r : Int)) = (o : Int) + (r : Int) := by rw [IntKind.wrap_i64]; omega
  rw [e4] at hF4 hU4 hO4
  have H4 := hid (And.intro hF4 (And.intro hU4 hO4))
  clear hF4 hU4 hO4 H3 k1 x0 x1 a0 a1 a2 e4
  go_wp2_with fail
  go_ret3
  exact ⟨⟨g, c, rfl, H4.out.2.2⟩, H4.out.1, H4.out.2.1⟩

end Go.Proofs.YtdnblbahecpmkaaGreat
