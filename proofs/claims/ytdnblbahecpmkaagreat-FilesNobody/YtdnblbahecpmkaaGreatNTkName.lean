/- What takeName does: a directory's name names nothing more. -/
import Derived.Test.YtdnblbahecpmkaaGreatNGive
namespace Go.Proofs.YtdnblbahecpmkaaGreat
open Go.RowKit Go.ChangeMaps Go.MapKept
set_option linter.unusedVariables false
set_option maxRecDepth 20000

/-- A name less. -/
def Sg.drop (S : Sg) (d : Nat) (s : List UInt8) : Sg := { S with L := fun i => if i = d then S.L d - 1 else S.L i, N := fun i => if i = d then (fun x => if x = s then 0 else S.N d x) else S.N i }

theorem owns_exact {w : World} {b n : Nat} {D : DataW Unit} (h : w.ownsMap Tryz.prog 9 (plainElem Tryz.prog 3) b n D) : w.ownsMap Tryz.prog 9 (plainElem Tryz.prog 3) b (Maps.size D) D := by
  obtain ⟨es, clock, hb, F, hn, rfl⟩ := h
  refine ⟨es, clock, hb, F, ?_, rfl⟩
  show es.size ≤ ((es.toList.map _).foldr DataW.insert []).length
  rw [length_read]
  exact Nat.le_refl _

theorem Sy.drop {w w' : World} {p : Nat} {S : Sg} (h : Sy w p S) (d : Nat) (hd : d < 17) (b : Nat) (hb : (S.P d).m = some b) (s : List UInt8) (hs : S.N d s ≠ 0) (D : DataW Unit)
    (h1 : w.ownsMap Tryz.prog 9 (plainElem Tryz.prog 3) b (S.L d) D) (h2 : Maps.size D = S.L d) (h3 : ∀ s, D.atKey (.string s) (.lit (.int .i64 0)) = .lit (.int .i64 (S.N d s : Int))) (h4 : ∀ s, Maps.has D (.string s) = decide (S.N d s ≠ 0))
    (h5 : w'.ownsMap Tryz.prog 9 (plainElem Tryz.prog 3) b (S.L d) (D.del (.string s))) (u : Upd (· = b) w w') : Sy w' p (S.drop d s) := by
  have hbp : b ≠ p := fun e => h.np d hd (e ▸ hb)
  have hT : Maps.Tidy D := h1.tidy (Go.Maps.string_keyed Tryz.underlying9)
  have hM : Maps.IsMap D := hT.isMap
  have hz : Maps.size (D.del (.string s)) = S.L d - 1 := by
    have := Maps.size_del (k := .string s) hT
    rw [h4, h2] at this
    simp [hs] at this
    omega
  obtain ⟨C, hC, hSl⟩ := h.blk
  refine ⟨⟨C, u.heap hC (fun e => hbp e.symm), hSl⟩, fun i hi => ?_, fun i x hi => ?_, fun i hi => ?_, h.ap, h.np, h.dir, h.root, h.zero⟩
  · by_cases e : i = d
    · subst e
      show Nms w' (S.P i).m _ _
      rw [hb]
      simp only [Sg.drop, if_true]
      refine ⟨_, hz ▸ owns_exact h5, hz, fun x => ?_, fun x => ?_⟩
      · by_cases ex : x = s
        · subst ex; rw [Maps.atKey_del_same]; simp
        · rw [Maps.atKey_del_other (by intro q; injection q with q; exact ex q), h3]; simp [ex]
      · by_cases ex : x = s
        · subst ex; rw [Maps.has_del_same]; simp
        · rw [Maps.has_del_other (by intro q; injection q with q; exact ex q), h4]; simp [ex]
    · show Nms w' (S.P i).m (if i = d then _ else S.L i) (if i = d then _ else S.N i)
      rw [if_neg e, if_neg e]
      refine (h.nms i hi).block (fun c hc => u.block c (h.foot_lt c (.inr ⟨i, hi, hc⟩)) (fun q => e ?_))
      exact h.ap i d c hi hd hc (q ▸ hb)
  · show (if i = d then (fun x => if x = s then 0 else S.N d x) else S.N i) x < 17
    split
    · dsimp only
      split
      · omega
      · exact h.to d x hd
    · exact h.to i x hi
  · show (if i = d then S.L d - 1 else S.L i) ≤ 6
    split
    · have := h.le d hd; omega
    · exact h.le i hi

theorem upd_turned {w w' : World} {b : Nat} (h : w.mapTurned w' b) : Upd (· = b) w w' := by
  obtain ⟨es, clock, es', clock', hb, rfl⟩ := h
  refine ⟨rfl, rfl, rfl, by simp [setBlock], fun k hk hn => ?_⟩
  simp only [setBlock]
  rw [Array.getElem?_setIfInBounds_ne (fun e => hn e.symm)]

set_option maxHeartbeats 4000000 in
theorem tkname_any (p : Nat) (S : Sg) (w : World) (H : Sy w p S) (gy ny cy d : Nat) (nm : ByteArray) (m : Int) (hny : 0 < ny) (hcy : w.cell? ⟨gy, ny - 1, none⟩ = some (.int .i64 (d : Int))) (hgy : gy < w.heap.size) (hyc : ny ≤ cy) (hcm : cy ≤ 9223372036854775807)
    (hd : d < 17) (hk : (S.P d).k = 2) (hs : S.N d (bl nm) ≠ 0) (hsz : nm.size ≤ 140737488355328) :
    Calls Tryz.prog 65 #[.pointer (some ⟨p, 0, none⟩), .agg #[.slice (some ⟨gy, 0, none⟩) ny cy, .string nm, .int .i64 m]] w fun e w' => e = .returned (.tuple #[]) ∧ Sy w' p (S.drop d (bl nm)) ∧ Upd (fun x => (S.P d).m = some x) w w' := by
  obtain ⟨b, hb⟩ := Option.isSome_iff_exists.1 (H.dir d hd hk)
  obtain ⟨W1, g1⟩ : ∃ W1, W1 = w.alloc (Obj.cells #[.slice (some ⟨gy, 0, none⟩) ny cy, .string nm, .int .i64 m] 121) := ⟨_, rfl⟩
  have hB1 : Below w.heap.size w W1 := by rw [g1]; exact one_new _ _
  have hZ1 : w.heap.size < W1.heap.size := by rw [g1]; simp
  have hS1 : Sy W1 p S := H.grow hB1
  have hP1 : W1.heap[w.heap.size]? = some (.cells #[.slice (some ⟨gy, 0, none⟩) ny cy, .string nm, .int .i64 m] 121 (0, 0)) := by rw [g1]; exact heap_alloc_new _ _
  obtain ⟨a0, a1, a2, _, _, _⟩ := plc_cells hP1
  have kd : Hid (Calls Tryz.prog 79 #[.agg #[.slice (some ⟨gy, 0, none⟩) ny cy, .string nm, .int .i64 m]] W1.drew fun e w' => e = .returned (.int .i64 (d : Int)) ∧ Hid (Below W1.heap.size W1 w')) := by
    refine hid ((dir_any W1.drew gy ny cy d nm m hny ((hB1.cell (p := ⟨gy, ny - 1, none⟩) hgy).trans hcy) (Nat.lt_of_lt_of_le hgy hB1.size) hyc hcm).mono ?_)
    rintro e w' ⟨rfl, h⟩
    exact ⟨rfl, hid ((Below.refl _ W1).drew.trans h)⟩
  have ku : Hid (∀ W ty, Hid (Below W1.heap.size W1 W) → ∃ W', (Builtin.delete_ #[88, 9] ty #[.map (some b), .string nm]).run Tryz.prog W = .ok (.tuple #[]) W' ∧ Hid (Sy W' p (S.drop d (bl nm)) ∧ Upd (fun x => (S.P d).m = some x) w W' ∧ (∀ a : Addr, a.block < W.heap.size → a.block ≠ b → W'.cell? a = W.cell? a))) := by
    refine hid (fun W ty hW => ?_)
    have hS := hS1.grow hW.out
    have hnm := hS.nms d hd
    rw [hb] at hnm
    obtain ⟨D, h1, h2, h3, h4⟩ := hnm
    have hkey : keyOf Tryz.prog 9 (.string nm) = some (.string nm.data.toList) := Go.WideMaps.keyOf_string_mk Tryz.underlying9 (by simp only [maxLen]; omega)
    obtain ⟨W', hr, h5, h6⟩ := h1.drop (t := 88) (Go.Maps.string_keyed Tryz.underlying9) Tryz.underlying88 hkey ty
    have u : Upd (· = b) W W' := upd_turned h6
    refine ⟨W', hr, hid ⟨hS.drop d hd b hb (bl nm) hs D h1 h2 h3 h4 h5 u, ?_, fun a ha hab => World.cell?_of_block (u.block a.block ha hab)⟩⟩
    have ub : Upd (fun x => (S.P d).m = some x) w W := Upd.of_below (hB1.trans (hW.out.mono hB1.size))
    exact ub.trans u (fun x _ hx => by subst hx; exact hb)
  have hm : ∀ W, Hid (Below W1.heap.size W1 W) → W.cell? ⟨p, 1 + d * 107 + 106, none⟩ = some (.map (some b)) := fun W hW => by
    rw [← hb]; exact (hS1.grow hW.out).m d hd
  have hd0 : (0 : Int) ≤ (d : Int) := by omega
  have hd1 : (d : Int) < 17 := by omega
  have HM := hid hm
  have HX : Hid ((∀ W, Hid (Below W1.heap.size W1 W) → w.heap.size < W.heap.size ∧ p < W.heap.size) ∧ w.heap.size ≠ b ∧ p ≠ b) := by
    refine hid ⟨fun W hW => ⟨Nat.lt_of_lt_of_le hZ1 hW.out.size, (hS1.grow hW.out).lt⟩, fun e => ?_, fun e => H.np d hd (e ▸ hb)⟩
    have := H.foot_lt b (.inr ⟨d, hd, hb⟩)
    omega
  have HZ1 := hid hZ1
  have hm0 := hm W1 (hid (Below.refl _ _))
  clear H hb hS1 hP1 hcy hgy hs hB1 hk hm
  go_enter Tryz.func65, Tryz.ntmps65
  go_wp2_with fail
  rw [← g1]
  clear g1
  go_region_held3 (fun W => W.cell? ⟨w.heap.size, 0, none⟩ = some (.slice (some ⟨gy, 0, none⟩) ny cy) ∧ W.cell? ⟨w.heap.size, 1, none⟩ = some (.string nm) ∧ W.cell? ⟨w.heap.size, 2, none⟩ = some (.int .i64 m) ∧ W.cell? ⟨p, 1 + d * 107 + 106, none⟩ = some (.map (some b))) (go_keep) ((go_at_call 79; refine kd.out.mono ?_; rintro e w4 ⟨rfl, hb4⟩; have x0 := (hb4.out.cell (p := ⟨w.heap.size, 0, none⟩) HZ1.out).trans a0; have x1 := (hb4.out.cell (p := ⟨w.heap.size, 1, none⟩) HZ1.out).trans a1; have x2 := (hb4.out.cell (p := ⟨w.heap.size, 2, none⟩) HZ1.out).trans a2; have x3 := HM.out w4 hb4; obtain ⟨w6, hup, H6⟩ := ku.out w4 0 hb4; have z0 := (H6.out.2.2 ⟨w.heap.size, 0, none⟩ (HX.out.1 w4 hb4).1 HX.out.2.1).trans x0; have z1 := (H6.out.2.2 ⟨w.heap.size, 1, none⟩ (HX.out.1 w4 hb4).1 HX.out.2.1).trans x1; have z2 := (H6.out.2.2 ⟨w.heap.size, 2, none⟩ (HX.out.1 w4 hb4).1 HX.out.2.1).trans x2; have z3 := (H6.out.2.2 ⟨p, 1 + d * 107 + 106, none⟩ (HX.out.1 w4 hb4).2 HX.out.2.2).trans x3))
  go_wp2_with fail
  go_end0
  exact ⟨rfl, H6.out.1, H6.out.2.1⟩

end Go.Proofs.YtdnblbahecpmkaaGreat
