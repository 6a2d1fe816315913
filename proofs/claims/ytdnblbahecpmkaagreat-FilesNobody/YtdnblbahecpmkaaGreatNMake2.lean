/- What Make of a file does. -/
import Derived.Test.YtdnblbahecpmkaaGreatNGive
namespace Go.Proofs.YtdnblbahecpmkaaGreat
open Go.RowKit Go.ChangeMaps Go.MapKept
set_option linter.unusedVariables false
set_option maxRecDepth 20000

theorem Free.uniq {P : Nat → Nd} {a b : Nat} (h : Free P a) (k : Free P b) : a = b := by
  rcases h with ⟨rfl, h⟩ | ⟨h1, h2, h3, h4⟩ <;> rcases k with ⟨rfl, k⟩ | ⟨k1, k2, k3, k4⟩
  · rfl
  · exact absurd k3 (h b k1 k2)
  · exact absurd h3 (k a h1 h2)
  · rcases Nat.lt_trichotomy a b with q | q | q
    · exact absurd h3 (k4 a h1 q)
    · exact q
    · exact absurd k3 (h4 b k1 q)

/-- A new file at a number. -/
def Sg.file (S : Sg) (f : Nat) : Sg := { S with P := updN S.P f (newNd 1 none), L := fun i => if i = f then 0 else S.L i, N := fun i => if i = f then (fun _ => 0) else S.N i }

theorem Sy.file {w : World} {p : Nat} {S : Sg} (h : Sy w p S) (f : Nat) (h1 : f < 17) (h2 : f ≠ 0) (h3 : (S.P f).k = 0) : Sy (w.setCells p (1 + f * 107) (nodeC 1 1 (.map none))) p (S.file f) := by
  obtain ⟨C, hb, hc⟩ := h.blk
  have hf1 : f ≠ 1 := fun e => by rw [e, h.root] at h3; omega
  have hl := hc.len
  have hln := nodeC_len 1 1 (.map none)
  have hs : 1 + f * 107 + (nodeC 1 1 (.map none)).length ≤ C.length := by rw [hl, hln]; omega
  have u := upd_setCells p (nodeC 1 1 (.map none)) (1 + f * 107) w
  refine ⟨⟨_, heap_setCells p 94 (nodeC 1 1 (.map none)) _ w C hb hs, hc.put f h1 (newNd 1 none) (newNd_ok _ _) (by rw [length_splice _ _ _ hs, hl]) (fun j hj => getElem?_splice_out _ _ _ _ hs (by rw [hln]; omega)) (fun j hj => by rw [ndC_new]; exact getElem?_splice_in C _ (1 + f * 107) j hs (by rw [hln]; exact hj))⟩, ?_, ?_, ?_, ?_, ?_, ?_, ?_, ?_⟩
  · intro i hi
    by_cases e : i = f
    · subst e
      show Nms _ (updN S.P i (newNd 1 none) i).m (if i = i then 0 else S.L i) (if i = i then (fun _ => 0) else S.N i)
      rw [updN_same, if_pos rfl, if_pos rfl]
      exact ⟨rfl, fun _ => rfl⟩
    · show Nms _ (updN S.P f (newNd 1 none) i).m (if i = f then 0 else S.L i) (if i = f then (fun _ => 0) else S.N i)
      rw [updN_ne _ _ _ _ e, if_neg e, if_neg e]
      exact (h.nms i hi).block (fun c hc => u.block c (h.foot_lt c (.inr ⟨i, hi, hc⟩)) (fun q => h.np i hi (q ▸ hc)))
  · intro i s hi
    show (if i = f then (fun _ => 0) else S.N i) s < 17
    split
    · show 0 < 17
      omega
    · exact h.to i s hi
  · intro i hi
    show (if i = f then 0 else S.L i) ≤ 6
    split
    · omega
    · exact h.le i hi
  · intro i j b hi hj q1 q2
    change (updN S.P f (newNd 1 none) i).m = some b at q1
    change (updN S.P f (newNd 1 none) j).m = some b at q2
    by_cases e : i = f
    · subst e; rw [updN_same] at q1; simp [newNd] at q1
    · by_cases e' : j = f
      · subst e'; rw [updN_same] at q2; simp [newNd] at q2
      · rw [updN_ne _ _ _ _ e] at q1
        rw [updN_ne _ _ _ _ e'] at q2
        exact h.ap i j b hi hj q1 q2
  · intro i hi
    show (updN S.P f (newNd 1 none) i).m ≠ some p
    by_cases e : i = f
    · subst e; rw [updN_same]; simp [newNd]
    · rw [updN_ne _ _ _ _ e]; exact h.np i hi
  · intro i hi q
    change (updN S.P f (newNd 1 none) i).k = 2 at q
    show (updN S.P f (newNd 1 none) i).m.isSome = true
    by_cases e : i = f
    · subst e; rw [updN_same] at q; simp [newNd] at q
    · rw [updN_ne _ _ _ _ e] at q ⊢; exact h.dir i hi q
  · show (updN S.P f (newNd 1 none) 1).k = 2
    rw [updN_ne _ _ _ _ (fun e => hf1 e.symm)]; exact h.root
  · show (updN S.P f (newNd 1 none) 0).k = 0
    rw [updN_ne _ _ _ _ (fun e => h2 e.symm)]; exact h.zero

theorem toNew_ok {L : Nat → Nat} {r : Except Int (List Nat × List UInt8 × Nat)} {y : List Nat} {s : List UInt8} {n : Nat} (h : toNew L r = .ok (y, s, n)) : r = .ok (y, s, n) ∧ n = 0 ∧ L (y.getLastD 0) < 6 := by
  cases r with
  | error e => simp [toNew] at h
  | ok q =>
    obtain ⟨a, b, c⟩ := q
    simp only [toNew] at h
    split at h
    · simp at h
    · split at h
      · simp at h
      · rename_i h1 h2
        simp only [Except.ok.injEq, Prod.mk.injEq] at h
        obtain ⟨rfl, rfl, rfl⟩ := h
        exact ⟨rfl, by omega, by omega⟩

theorem toNew_err {S : Sg} {t : ByteArray} {e : Int} (h : toNew S.L (wkS S t) = .error e) : e ≠ 0 := by
  cases hr : wkS S t with
  | error a =>
    rw [hr] at h
    simp only [toNew, Except.error.injEq] at h
    have := wkS_err hr
    omega
  | ok q =>
    obtain ⟨a, b, c⟩ := q
    rw [hr] at h
    simp only [toNew] at h
    split at h
    · simp at h; omega
    · split at h <;> simp at h
      omega

/-- What Make comes to. -/
def Made (S : Sg) (p f : Nat) (w w' : World) (e : Ending) : Except Int (List Nat × List UInt8 × Nat) → Prop
  | .error er => e = .returned (.tuple #[.int .i64 0, .int .i64 er]) ∧ Sy w' p S ∧ Below w.heap.size w w'
  | .ok (y, s, _) => e = .returned (.tuple #[.int .i64 (f : Int), .int .i64 0]) ∧ Sy w' p ((S.file f).put (y.getLastD 0) s f) ∧ Upd (S.foot p) w w'

set_option maxHeartbeats 8000000 in
set_option maxRecDepth 20000 in
theorem make_file (p : Nat) (S : Sg) (t : ByteArray) (w : World) (H : Sy w p S) (hT : Tree S) (hs : t.size ≤ 140737488355328) (f : Nat) (hf : Free S.P f) (hf0 : f ≠ 0) :
    Calls Tryz.prog 42 #[.pointer (some ⟨p, 0, none⟩), .string t, .int .i64 1] w fun e w' => Made S p f w w' e (toNew S.L (wkS S t)) := by
  obtain ⟨R, gR⟩ : ∃ R, R = toNew S.L (wkS S t) := ⟨_, rfl⟩
  rw [← gR]
  have k0 := hid H.usable
  have k1 := hid (tonew_any p S t w H hT hs)
  rw [← gR] at k1
  have HS := hid H
  have hf17 : f < 17 ∧ (S.P f).k = 0 := by
    rcases hf with ⟨e, _⟩ | ⟨_, h2, h3, _⟩
    · exact absurd e hf0
    · exact ⟨h2, h3⟩
  have GR := hid gR
  have HF := hid hf
  clear H gR hf
  go_enter Tryz.func42, Tryz.ntmps42
  go_wp2_with fail
  refine k0.out.mono ?_
  rintro e w1 ⟨rfl, rfl⟩
  clear k0
  go_wp2_with fail
  refine k1.out.mono ?_
  rintro e w2 ⟨v, rfl, hb2, hv⟩
  have HB2 := hid hb2
  clear k1 hb2
  cases R with
  | error er =>
    obtain rfl : v = _ := hv
    have her : ¬ er = 0 := toNew_err GR.out.symm
    go_wp2_with fail
    go_ret2
    exact ⟨rfl, HS.out.grow (HB2.out.trans ((one_new w2 _).mono HB2.out.size)), HB2.out.trans ((one_new w2 _).mono HB2.out.size)⟩
  | ok q =>
    obtain ⟨y, s, n⟩ := q
    obtain ⟨hr, hn0, hL⟩ := toNew_ok GR.out.symm
    obtain ⟨u, rfl, yv, nm, rfl, hnm, hown⟩ := hv
    obtain ⟨d, hd, hd17, hdk, hnd, hsn, hsl⟩ := wkS_ok HS.out hr
    obtain ⟨gy, cy, rfl, hy0, hgy, hcy, hyc, hcm⟩ := last_own hown hd
    have hdL : y.getLastD 0 = d := by rw [List.getLastD_eq_getLast?, hd]; rfl
    rw [hdL] at hL
    subst hn0
    have HNM := hid hnm
    have HD := hid (And.intro hd17 (And.intro hdk (And.intro hnd.symm (And.intro hL (And.intro hdL (And.intro hsl hsn))))))
    have hgb := (hown.lt gy rfl).1
    obtain ⟨W3, g3⟩ : ∃ W3, W3 = w2.alloc (Obj.cells #[.slice (some ⟨gy, 0, none⟩) y.length cy, .string nm, .int .i64 0] 121) := ⟨_, rfl⟩
    have hP3 : W3.heap[w2.heap.size]? = some (.cells #[.slice (some ⟨gy, 0, none⟩) y.length cy, .string nm, .int .i64 0] 121 (0, 0)) := by rw [g3]; exact heap_alloc_new w2 _
    have hB3 : Below w1.heap.size w1 W3 := by rw [g3]; exact HB2.out.trans ((one_new w2 _).mono HB2.out.size)
    have hZ3 : w2.heap.size < W3.heap.size ∧ gy < W3.heap.size := by rw [g3]; simp; omega
    have hC3 : W3.cell? ⟨gy, y.length - 1, none⟩ = some (.int .i64 (d : Int)) := by rw [g3]; exact ((one_new w2 _).cell (p := ⟨gy, y.length - 1, none⟩) hgy).trans hcy
    have hS3 : Sy W3 p S := HS.out.grow hB3
    clear hr hnd hsn hsl hd hdk hd17 hown hcy hnm hL hdL
    obtain ⟨a0, a1, a2, _, _, _⟩ := plc_cells hP3
    have hf1 : ¬ (f : Int) = 0 := by omega
    have k3 : Hid (Calls Tryz.prog 62 #[.pointer (some ⟨p, 0, none⟩)] W3 fun e w' => e = .returned (.int .i64 (f : Int)) ∧ w' = W3) := by
      refine hid ((freen_any p S W3 hS3).mono ?_)
      rintro e w' ⟨⟨n, rfl, h⟩, rfl⟩
      rw [h.uniq HF.out]
      exact ⟨rfl, rfl⟩
    obtain ⟨N1, gN⟩ : ∃ N1, N1 = nodeC 1 1 (.map none) := ⟨_, rfl⟩
    have l1 : Hid (N1.length = 107) := by rw [gN]; exact nodeC_len _ _ _
    have o1 : Hid (N1.toArray.all (·.oneCell') = true) := by rw [gN]; exact nodeC_one _ _ _
    have csz : Hid ((Tryz.prog.info? 90).map (·.size) = some N1.toArray.size) := by rw [csizeNode, List.size_toArray, l1.out]; exact hid rfl
    have kn : Hid (Calls Tryz.prog 40 #[.int .i64 1] W3.drew fun e w' => e = .returned (.agg N1.toArray) ∧ Hid (Below W3.heap.size W3 w')) := by
      refine hid ((newfile W3.drew).mono ?_)
      rintro e w' ⟨rfl, h⟩
      rw [gN]
      exact ⟨rfl, hid ((Below.refl _ W3).drew.trans h)⟩
    have HP : Hid (∀ W, Hid (Below W3.heap.size W3 W) → W.there p (1 + f * 107) N1.length) := hid (fun W hW => by rw [l1.out]; exact (hS3.grow hW.out).th f hf17.1)
    have hf0' : (0 : Int) ≤ (f : Int) := by omega
    have hf2 : (f : Int) < 17 := by omega
    have HS3 := hid hS3
    have HP3 := hid hP3
    have HB3 := hid hB3
    have HZ3 := hid hZ3
    have HC3 := hid hC3
    have GN := hid gN
    clear hS3 hP3 hB3 hZ3 hC3 gN
    go_wp2_with fail
    rw [← g3]
    clear g3
    refine k3.out.mono ?_
    rintro e w4 ⟨rfl, rfl⟩
    clear k3
    go_wp2_with fail
    go_region_held3 (fun _ => True) (trivial) ((go_at_call 40; refine kn.out.mono ?_; rintro e w5 ⟨rfl, hb5⟩; have hst := run_cells_mid (P := Tryz.prog) w5 p (1 + f * 107) N1 (HP.out w5 hb5) o1.out))
    obtain ⟨W6, g6⟩ : ∃ W6, W6 = w5.setCells p (1 + f * 107) N1 := ⟨_, rfl⟩
    rw [← g6]
    have hS6 : Sy W6 p (S.file f) := by rw [g6, GN.out]; exact (HS3.out.grow hb5.out).file f hf17.1 hf0 hf17.2
    have u6 : Upd (· = p) w5 W6 := by rw [g6]; exact upd_setCells _ _ _ _
    have hpl := HS.out.lt
    have hb1s := HB2.out.size
    have hP6 : W6.heap[w2.heap.size]? = some (.cells #[.slice (some ⟨gy, 0, none⟩) y.length cy, .string nm, .int .i64 0] 121 (0, 0)) := u6.heap ((hb5.out.block _ HZ3.out.1).trans HP3.out) (by omega)
    have hC6 : W6.cell? ⟨gy, y.length - 1, none⟩ = some (.int .i64 (d : Int)) := (World.cell?_of_block (a := ⟨gy, y.length - 1, none⟩) (u6.block gy (Nat.lt_of_lt_of_le HZ3.out.2 hb5.out.size) (by omega))).trans ((hb5.out.cell (p := ⟨gy, y.length - 1, none⟩) HZ3.out.2).trans HC3.out)
    have hG6 : gy < W6.heap.size := Nat.lt_of_lt_of_le (Nat.lt_of_lt_of_le HZ3.out.2 hb5.out.size) u6.size
    obtain ⟨d17, dk, dn, dl, dL, dsl, dsn⟩ := HD.out
    have hdf : d ≠ f := fun e => by rw [e, hf17.2] at dk; omega
    have hnmz : nm.size ≤ 6 := by have := bl_len nm; rw [HNM.out] at this; omega
    have k6 := hid (give_any p (S.file f) W6 hS6 gy y.length cy d nm 0 f hy0 hC6 hG6 hyc hcm d17 (by show (updN S.P f _ d).k = 2; rw [updN_ne _ _ _ _ hdf]; exact dk) (by show (if d = f then (fun _ => 0) else S.N d) (bl nm) = 0; rw [if_neg hdf, HNM.out]; exact dn) (by show (if d = f then 0 else S.L d) < 6; rw [if_neg hdf]; exact dl) hf17.1 hf0 (by omega))
    have hU6 : Upd (S.foot p) w1 W6 := (Upd.of_below (HB3.out.trans (hb5.out.mono HB3.out.size))).trans u6 (fun x _ hx => .inl hx)
    have HU6 := hid hU6
    have HDF := hid hdf
    obtain ⟨b0, b1, b2, _, _, _⟩ := plc_cells hP6
    have HDL := hid dL
    clear hS6 u6 hP6 hC6 hG6 d17 dk dn dl dL dsl dsn hdf hnmz hU6 g6 a0 a1 a2 hst kn HP hb1s hpl hgb
    go_wp2_with fail
    refine k6.out.mono ?_
    rintro e w7 ⟨rfl, h7, u7⟩
    have H7 := hid h7
    have U7 := hid u7
    clear k6 h7 u7
    go_wp2_with fail
    go_ret2
    refine ⟨rfl, ?_, HU6.out.trans U7.out (fun x _ hx => .inr ⟨d, (HD.out).1, ?_⟩)⟩
    · rw [HDL.out, ← HNM.out]; exact H7.out
    · have : ((S.file f).P d).m = (S.P d).m := by show (updN S.P f _ d).m = _; rw [updN_ne _ _ _ _ HDF.out]
      rw [← this]; exact hx

end Go.Proofs.YtdnblbahecpmkaaGreat
