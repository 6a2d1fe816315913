/- What give does: a directory's name names a node. -/
import Derived.Test.YtdnblbahecpmkaaGreatNMake
namespace Go.Proofs.YtdnblbahecpmkaaGreat
open Go.RowKit Go.ChangeMaps Go.MapKept
set_option linter.unusedVariables false
set_option maxRecDepth 20000

theorem wf17 (n : Nat) (h : n < 17) : (Lit.int .i64 (n : Int)).wf = true := by
  have : ∀ m : Fin 17, (Lit.int .i64 ((m.val : Nat) : Int)).wf = true := by decide
  exact this ⟨n, h⟩

/-- A name more. -/
def Sg.put (S : Sg) (d : Nat) (s : List UInt8) (n : Nat) : Sg := { S with L := fun i => if i = d then S.L d + 1 else S.L i, N := fun i => if i = d then (fun x => if x = s then n else S.N d x) else S.N i }

theorem Sy.give {w w' : World} {p : Nat} {S : Sg} (h : Sy w p S) (d : Nat) (hd : d < 17) (b : Nat) (hb : (S.P d).m = some b) (s : List UInt8) (n : Nat) (hs : S.N d s = 0) (hl : S.L d < 6) (hn : n < 17) (hn0 : n ≠ 0) (D : DataW Unit)
    (h1 : w.ownsMap Tryz.prog 9 (plainElem Tryz.prog 3) b (S.L d) D) (h2 : Maps.size D = S.L d) (h3 : ∀ s, D.atKey (.string s) (.lit (.int .i64 0)) = .lit (.int .i64 (S.N d s : Int))) (h4 : ∀ s, Maps.has D (.string s) = decide (S.N d s ≠ 0))
    (h5 : w'.ownsMap Tryz.prog 9 (plainElem Tryz.prog 3) b (S.L d + 1) (D.put (.string s) (.lit (.int .i64 (n : Int))))) (u : Upd (· = b) w w') : Sy w' p (S.put d s n) := by
  have hbp : b ≠ p := fun e => h.np d hd (e ▸ hb)
  have hT : Maps.Tidy D := h1.tidy (Go.Maps.string_keyed Tryz.underlying9)
  have hM : Maps.IsMap D := hT.isMap
  have hk : WideAt.IsKeyLit (.string s) := by trivial
  obtain ⟨C, hC, hSl⟩ := h.blk
  refine ⟨⟨C, u.heap hC (fun e => hbp e.symm), hSl⟩, fun i hi => ?_, fun i x hi => ?_, fun i hi => ?_, h.ap, h.np, h.dir, h.root, h.zero⟩
  · by_cases e : i = d
    · subst e
      show Nms w' (S.P i).m _ _
      rw [hb]
      simp only [Sg.put, if_true]
      refine ⟨_, h5, ?_, fun x => ?_, fun x => ?_⟩
      · rw [Maps.size_put hT, h4, h2]; simp [hs]
      · by_cases ex : x = s
        · subst ex; rw [Maps.atKey_put_same hM hk]; simp
        · rw [Maps.atKey_put_other (by intro q; injection q with q; exact ex q), h3]; simp [ex]
      · by_cases ex : x = s
        · subst ex; rw [Maps.has_put_same hM hk]; simp [hn0]
        · rw [Maps.has_put_other (by intro q; injection q with q; exact ex q), h4]; simp [ex]
    · show Nms w' (S.P i).m (if i = d then _ else S.L i) (if i = d then _ else S.N i)
      rw [if_neg e, if_neg e]
      refine (h.nms i hi).block (fun c hc => u.block c (h.foot_lt c (.inr ⟨i, hi, hc⟩)) (fun q => e ?_))
      exact h.ap i d c hi hd hc (q ▸ hb)
  · show (if i = d then (fun x => if x = s then n else S.N d x) else S.N i) x < 17
    split
    · dsimp only
      split
      · exact hn
      · exact h.to d x hd
    · exact h.to i x hi
  · show (if i = d then S.L d + 1 else S.L i) ≤ 6
    split
    · omega
    · exact h.le i hi

set_option maxHeartbeats 1000000 in
theorem sclone_any (s : ByteArray) (w : World) (hlim : s.size ≤ 281474976710656) : Calls Tryz.prog 81 #[.string s] w fun e w' => e = .returned (.string s) ∧ Below w.heap.size w w' := by
  have k1 := hid (Tryz.stringslite_Clone s w hlim)
  go_enter Tryz.func81, Tryz.ntmps81
  go_wp2_with fail
  refine k1.out.mono ?_
  rintro e w1 ⟨rfl, hb⟩
  have HB := hid hb
  clear hb k1
  go_wp2_with fail
  go_ret
  exact ⟨rfl, HB.out⟩

set_option maxHeartbeats 4000000 in
set_option maxRecDepth 20000 in
theorem give_any (p : Nat) (S : Sg) (w : World) (H : Sy w p S) (gy ny cy d : Nat) (nm : ByteArray) (m : Int) (n : Nat) (hny : 0 < ny) (hcy : w.cell? ⟨gy, ny - 1, none⟩ = some (.int .i64 (d : Int))) (hgy : gy < w.heap.size) (hyc : ny ≤ cy) (hcm : cy ≤ 9223372036854775807)
    (hd : d < 17) (hk : (S.P d).k = 2) (hs : S.N d (bl nm) = 0) (hl : S.L d < 6) (hn : n < 17) (hn0 : n ≠ 0) (hsz : nm.size ≤ 140737488355328) :
    Calls Tryz.prog 63 #[.pointer (some ⟨p, 0, none⟩), .agg #[.slice (some ⟨gy, 0, none⟩) ny cy, .string nm, .int .i64 m], .int .i64 (n : Int)] w fun e w' => e = .returned (.tuple #[]) ∧ Sy w' p (S.put d (bl nm) n) ∧ Upd (fun x => (S.P d).m = some x) w w' := by
  obtain ⟨b, hb⟩ := Option.isSome_iff_exists.1 (H.dir d hd hk)
  obtain ⟨W1, g1⟩ : ∃ W1, W1 = w.alloc (Obj.cells #[.slice (some ⟨gy, 0, none⟩) ny cy, .string nm, .int .i64 m] 121) := ⟨_, rfl⟩
  have hB1 : Below w.heap.size w W1 := by rw [g1]; exact one_new _ _
  have hZ1 : w.heap.size < W1.heap.size := by rw [g1]; simp
  have hS1 : Sy W1 p S := H.grow hB1
  have hP1 : W1.heap[w.heap.size]? = some (.cells #[.slice (some ⟨gy, 0, none⟩) ny cy, .string nm, .int .i64 m] 121 (0, 0)) := by rw [g1]; exact heap_alloc_new _ _
  obtain ⟨a0, a1, a2, _, _, _⟩ := plc_cells hP1
  have kd : Hid (Calls Tryz.prog 79 #[.agg #[.slice (some ⟨gy, 0, none⟩) ny cy, .string nm, .int .i64 m]] W1.drew fun e w' => e = .returned (.int .i64 (d : Int)) ∧ Hid (Below W1.heap.size W1 w')) := by
    refine hid ((dir_any W1.drew gy ny cy d nm m hny ((hB1.cell (p := ⟨gy, ny - 1, none⟩) hgy).trans hcy) (Nat.lt_of_lt_of_le hgy hB1.size) hyc hcm).mono ?_)
    rintro e w' ⟨rfl, h⟩
    exact ⟨rfl, hid ((Below.refl _ W1).drew.trans h)⟩
  have kc : Hid (∀ W, Hid (Below W1.heap.size W1 W) → Calls Tryz.prog 81 #[.string nm] W fun e w' => e = .returned (.string nm) ∧ Hid (Below W1.heap.size W1 w')) := by
    refine hid (fun W hW => (sclone_any nm W (by omega)).mono ?_)
    rintro e w' ⟨rfl, h⟩
    exact ⟨rfl, hid (hW.out.trans (h.mono hW.out.size))⟩
  have ku : Hid (∀ W, Hid (Below W1.heap.size W1 W) → ∃ W', (Instr.mapUpdate 88 (.map (some b)) (.string nm) (.int .i64 (n : Int))).run Tryz.prog W = .ok () W' ∧ Hid (Sy W' p (S.put d (bl nm) n) ∧ Upd (fun x => (S.P d).m = some x) w W' ∧ (∀ a : Addr, a.block < W.heap.size → a.block ≠ b → W'.cell? a = W.cell? a))) := by
    refine hid (fun W hW => ?_)
    have hS := hS1.grow hW.out
    have hnm := hS.nms d hd
    rw [hb] at hnm
    obtain ⟨D, h1, h2, h3, h4⟩ := hnm
    have hkey : keyOf Tryz.prog 9 (.string nm) = some (.string nm.data.toList) := Go.WideMaps.keyOf_string_mk Tryz.underlying9 (by simp only [maxLen]; omega)
    obtain ⟨W', hr, h5, h6⟩ := h1.store (t := 88) (Go.Maps.string_keyed Tryz.underlying9) Tryz.underlying88 (by simp only [maxLen]; omega) hkey (plainElem_int (H := Unit) Tryz.underlying3 (a := (n : Int)) (wf17 n hn))
    have u : Upd (· = b) W W' := (Upd.of_grown h6.grown).mono (fun x _ hx => by simpa using hx)
    refine ⟨W', hr, hid ⟨hS.give d hd b hb (bl nm) n hs hl hn hn0 D h1 h2 h3 h4 h5 u, ?_, fun a ha hab => World.cell?_of_block (u.block a.block ha hab)⟩⟩
    have ub : Upd (fun x => (S.P d).m = some x) w W := Upd.of_below (hB1.trans (hW.out.mono hB1.size))
    exact ub.trans u (fun x _ hx => by subst hx; exact hb)
  have hm : ∀ W, Hid (Below W1.heap.size W1 W) → W.cell? ⟨p, 1 + d * 107 + 106, none⟩ = some (.map (some b)) := fun W hW => by
    rw [← hb]; exact (hS1.grow hW.out).m d hd
  have hd0 : (0 : Int) ≤ (d : Int) := by omega
  have hd1 : (d : Int) < 17 := by omega
  have HM := hid hm
  have HX : Hid ((∀ W, Hid (Below W1.heap.size W1 W) → w.heap.size < W.heap.size ∧ p < W.heap.size) ∧ w.heap.size ≠ b ∧ p ≠ b) := by
    refine hid ⟨fun W hW => ⟨Nat.lt_of_lt_of_le hZ1 hW.out.size, (hS1.grow hW.out).lt⟩, fun e => ?_, fun e => H.np d hd (e ▸ hb)⟩
    have := H.foot_lt b (.inr ⟨d, hd, hb⟩)
    omega
  have HZ1 := hid hZ1
  have hm0 := hm W1 (hid (Below.refl _ _))
  clear H hb hS1 hP1 hcy hgy hs hl hB1 hk hm hn0
  go_enter Tryz.func63, Tryz.ntmps63
  go_wp2_with fail
  rw [← g1]
  clear g1
  go_region_held3 (fun W => W.cell? ⟨w.heap.size, 0, none⟩ = some (.slice (some ⟨gy, 0, none⟩) ny cy) ∧ W.cell? ⟨w.heap.size, 1, none⟩ = some (.string nm) ∧ W.cell? ⟨w.heap.size, 2, none⟩ = some (.int .i64 m) ∧ W.cell? ⟨p, 1 + d * 107 + 106, none⟩ = some (.map (some b))) (go_keep) (first | (go_at_call 79; refine kd.out.mono ?_; rintro e w4 ⟨rfl, hb4⟩; have x0 := (hb4.out.cell (p := ⟨w.heap.size, 0, none⟩) HZ1.out).trans a0; have x1 := (hb4.out.cell (p := ⟨w.heap.size, 1, none⟩) HZ1.out).trans a1; have x2 := (hb4.out.cell (p := ⟨w.heap.size, 2, none⟩) HZ1.out).trans a2; have x3 := HM.out w4 hb4) | (go_at_call 81; refine (kc.out _ hb4).mono ?_; rintro e w5 ⟨rfl, hb5⟩; have y0 := (hb5.out.cell (p := ⟨w.heap.size, 0, none⟩) HZ1.out).trans a0; have y1 := (hb5.out.cell (p := ⟨w.heap.size, 1, none⟩) HZ1.out).trans a1; have y2 := (hb5.out.cell (p := ⟨w.heap.size, 2, none⟩) HZ1.out).trans a2; have y3 := HM.out w5 hb5; obtain ⟨w6, hup, H6⟩ := ku.out w5 hb5; have z0 := (H6.out.2.2 ⟨w.heap.size, 0, none⟩ (HX.out.1 w5 hb5).1 HX.out.2.1).trans y0; have z1 := (H6.out.2.2 ⟨w.heap.size, 1, none⟩ (HX.out.1 w5 hb5).1 HX.out.2.1).trans y1; have z2 := (H6.out.2.2 ⟨w.heap.size, 2, none⟩ (HX.out.1 w5 hb5).1 HX.out.2.1).trans y2; have z3 := (H6.out.2.2 ⟨p, 1 + d * 107 + 106, none⟩ (HX.out.1 w5 hb5).2 HX.out.2.2).trans y3))
  go_wp2_with fail
  go_end0
  exact ⟨rfl, H6.out.1, H6.out.2.1⟩

end Go.Proofs.YtdnblbahecpmkaaGreat
