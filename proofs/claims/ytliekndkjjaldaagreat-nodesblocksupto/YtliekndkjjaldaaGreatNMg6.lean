/- Texts of this seat, merged. -/
import Derived.Test.YtliekndkjjaldaaGreatNMg5
import Derived.BigQuiet

/- What Make of a file does. -/
namespace Go.Proofs.YtliekndkjjaldaaGreat
open Go.RowKit Go.ChangeMaps Go.MapKept
set_option linter.unusedVariables false
set_option maxRecDepth 20000

theorem Free.uniq {P : Nat → Nd} {a b : Nat} (h : Free P a) (k : Free P b) : a = b := by
  rcases h with ⟨rfl, h⟩ | ⟨h1, h2, h3, h4⟩ <;> rcases k with ⟨rfl, k⟩ | ⟨k1, k2, k3, k4⟩
  · rfl
  · exact absurd k3 (h b k1 k2)
  · exact absurd h3 (k a h1 h2)
  · rcases Nat.lt_trichotomy a b with q | q | q
    · exact absurd h3 (k4 a h1 q)
    · exact q
    · exact absurd k3 (h4 b k1 q)

/-- A new file at a number. -/
def Sg.file (S : Sg) (f : Nat) : Sg := { S with P := updN S.P f (newNd 1 none), L := fun i => if i = f then 0 else S.L i, N := fun i => if i = f then (fun _ => 0) else S.N i }

theorem Sy.file {w : World} {p : Nat} {S : Sg} (h : Sy w p S) (f : Nat) (h1 : f < 17) (h2 : f ≠ 0) (h3 : (S.P f).k = 0) : Sy (w.setCells p (1 + f * 107) (nodeC 1 1 (.map none))) p (S.file f) := by
  obtain ⟨C, hb, hc⟩ := h.blk
  have hf1 : f ≠ 1 := fun e => by rw [e, h.root] at h3; omega
  have hl := hc.len
  have hln := nodeC_len 1 1 (.map none)
  have hs : 1 + f * 107 + (nodeC 1 1 (.map none)).length ≤ C.length := by rw [hl, hln]; omega
  have u := upd_setCells p (nodeC 1 1 (.map none)) (1 + f * 107) w
  refine ⟨⟨_, heap_setCells p 58 (nodeC 1 1 (.map none)) _ w C hb hs, hc.put f h1 (newNd 1 none) (newNd_ok _ _) (by rw [length_splice _ _ _ hs, hl]) (fun j hj => getElem?_splice_out _ _ _ _ hs (by rw [hln]; omega)) (fun j hj => by rw [ndC_new]; exact getElem?_splice_in C _ (1 + f * 107) j hs (by rw [hln]; exact hj))⟩, ?_, ?_, ?_, ?_, ?_, ?_, ?_, ?_⟩
  · intro i hi
    by_cases e : i = f
    · subst e
      show Nms _ (updN S.P i (newNd 1 none) i).m (if i = i then 0 else S.L i) (if i = i then (fun _ => 0) else S.N i)
      rw [updN_same, if_pos rfl, if_pos rfl]
      exact ⟨rfl, fun _ => rfl⟩
    · show Nms _ (updN S.P f (newNd 1 none) i).m (if i = f then 0 else S.L i) (if i = f then (fun _ => 0) else S.N i)
      rw [updN_ne _ _ _ _ e, if_neg e, if_neg e]
      exact (h.nms i hi).block (fun c hc => u.block c (h.foot_lt c (.inr ⟨i, hi, hc⟩)) (fun q => h.np i hi (q ▸ hc)))
  · intro i s hi
    show (if i = f then (fun _ => 0) else S.N i) s < 17
    split
    · show 0 < 17
      omega
    · exact h.to i s hi
  · intro i hi
    show (if i = f then 0 else S.L i) ≤ 6
    split
    · omega
    · exact h.le i hi
  · intro i j b hi hj q1 q2
    change (updN S.P f (newNd 1 none) i).m = some b at q1
    change (updN S.P f (newNd 1 none) j).m = some b at q2
    by_cases e : i = f
    · subst e; rw [updN_same] at q1; simp [newNd] at q1
    · by_cases e' : j = f
      · subst e'; rw [updN_same] at q2; simp [newNd] at q2
      · rw [updN_ne _ _ _ _ e] at q1
        rw [updN_ne _ _ _ _ e'] at q2
        exact h.ap i j b hi hj q1 q2
  · intro i hi
    show (updN S.P f (newNd 1 none) i).m ≠ some p
    by_cases e : i = f
    · subst e; rw [updN_same]; simp [newNd]
    · rw [updN_ne _ _ _ _ e]; exact h.np i hi
  · intro i hi q
    change (updN S.P f (newNd 1 none) i).k = 2 at q
    show (updN S.P f (newNd 1 none) i).m.isSome = true
    by_cases e : i = f
    · subst e; rw [updN_same] at q; simp [newNd] at q
    · rw [updN_ne _ _ _ _ e] at q ⊢; exact h.dir i hi q
  · show (updN S.P f (newNd 1 none) 1).k = 2
    rw [updN_ne _ _ _ _ (fun e => hf1 e.symm)]; exact h.root
  · show (updN S.P f (newNd 1 none) 0).k = 0
    rw [updN_ne _ _ _ _ (fun e => h2 e.symm)]; exact h.zero

theorem toNew_ok {L : Nat → Nat} {r : Except Int (List Nat × List UInt8 × Nat)} {y : List Nat} {s : List UInt8} {n : Nat} (h : toNew L r = .ok (y, s, n)) : r = .ok (y, s, n) ∧ n = 0 ∧ L (y.getLastD 0) < 6 := by
  cases r with
  | error e => simp [toNew] at h
  | ok q =>
    obtain ⟨a, b, c⟩ := q
    simp only [toNew] at h
    split at h
    · simp at h
    · split at h
      · simp at h
      · rename_i h1 h2
        simp only [Except.ok.injEq, Prod.mk.injEq] at h
        obtain ⟨rfl, rfl, rfl⟩ := h
        exact ⟨rfl, by omega, by omega⟩

theorem toNew_err {S : Sg} {t : ByteArray} {e : Int} (h : toNew S.L (wkS S t) = .error e) : e ≠ 0 := by
  cases hr : wkS S t with
  | error a =>
    rw [hr] at h
    simp only [toNew, Except.error.injEq] at h
    have := wkS_err hr
    omega
  | ok q =>
    obtain ⟨a, b, c⟩ := q
    rw [hr] at h
    simp only [toNew] at h
    split at h
    · simp at h; omega
    · split at h <;> simp at h
      omega

/-- What Make comes to. -/
def Made (S : Sg) (p f : Nat) (w w' : World) (e : Ending) : Except Int (List Nat × List UInt8 × Nat) → Prop
  | .error er => e = .returned (.tuple #[.int .i64 0, .int .i64 er]) ∧ Sy w' p S ∧ Below w.heap.size w w'
  | .ok (y, s, _) => e = .returned (.tuple #[.int .i64 (f : Int), .int .i64 0]) ∧ Sy w' p ((S.file f).put (y.getLastD 0) s f) ∧ Upd (S.foot p) w w'

set_option maxHeartbeats 8000000 in
set_option maxRecDepth 20000 in
theorem make_file (p : Nat) (S : Sg) (t : ByteArray) (w : World) (H : Sy w p S) (hT : Tree S) (hs : t.size ≤ 140737488355328) (f : Nat) (hf : Free S.P f) (hf0 : f ≠ 0) :
    Calls Tryz.prog 21 #[.pointer (some ⟨p, 0, none⟩), .string t, .int .i64 1] w fun e w' => Made S p f w w' e (toNew S.L (wkS S t)) := by
  obtain ⟨R, gR⟩ : ∃ R, R = toNew S.L (wkS S t) := ⟨_, rfl⟩
  rw [← gR]
  have k0 := hid H.usable
  have k1 := hid (tonew_any p S t w H hT hs)
  rw [← gR] at k1
  have HS := hid H
  have hf17 : f < 17 ∧ (S.P f).k = 0 := by
    rcases hf with ⟨e, _⟩ | ⟨_, h2, h3, _⟩
    · exact absurd e hf0
    · exact ⟨h2, h3⟩
  have GR := hid gR
  have HF := hid hf
  clear H gR hf
  go_enter Tryz.func21, Tryz.ntmps21
  go_wp2_with fail
  refine k0.out.mono ?_
  rintro e w1 ⟨rfl, rfl⟩
  clear k0
  go_wp2_with fail
  refine k1.out.mono ?_
  rintro e w2 ⟨v, rfl, hb2, hv⟩
  have HB2 := hid hb2
  clear k1 hb2
  cases R with
  | error er =>
    obtain rfl : v = _ := hv
    have her : ¬ er = 0 := toNew_err GR.out.symm
    go_wp2_with fail
    go_ret2
    exact ⟨rfl, HS.out.grow (HB2.out.trans ((one_new w2 _).mono HB2.out.size)), HB2.out.trans ((one_new w2 _).mono HB2.out.size)⟩
  | ok q =>
    obtain ⟨y, s, n⟩ := q
    obtain ⟨hr, hn0, hL⟩ := toNew_ok GR.out.symm
    obtain ⟨u, rfl, yv, nm, rfl, hnm, hown⟩ := hv
    obtain ⟨d, hd, hd17, hdk, hnd, hsn, hsl⟩ := wkS_ok HS.out hr
    obtain ⟨gy, cy, rfl, hy0, hgy, hcy, hyc, hcm⟩ := last_own hown hd
    have hdL : y.getLastD 0 = d := by rw [List.getLastD_eq_getLast?, hd]; rfl
    rw [hdL] at hL
    subst hn0
    have HNM := hid hnm
    have HD := hid (And.intro hd17 (And.intro hdk (And.intro hnd.symm (And.intro hL (And.intro hdL (And.intro hsl hsn))))))
    have hgb := (hown.lt gy rfl).1
    obtain ⟨W3, g3⟩ : ∃ W3, W3 = w2.alloc (Obj.cells #[.slice (some ⟨gy, 0, none⟩) y.length cy, .string nm, .int .i64 0] 91) := ⟨_, rfl⟩
    have hP3 : W3.heap[w2.heap.size]? = some (.cells #[.slice (some ⟨gy, 0, none⟩) y.length cy, .string nm, .int .i64 0] 91 (0, 0)) := by rw [g3]; exact heap_alloc_new w2 _
    have hB3 : Below w1.heap.size w1 W3 := by rw [g3]; exact HB2.out.trans ((one_new w2 _).mono HB2.out.size)
    have hZ3 : w2.heap.size < W3.heap.size ∧ gy < W3.heap.size := by rw [g3]; simp; omega
    have hC3 : W3.cell? ⟨gy, y.length - 1, none⟩ = some (.int .i64 (d : Int)) := by rw [g3]; exact ((one_new w2 _).cell (p := ⟨gy, y.length - 1, none⟩) hgy).trans hcy
    have hS3 : Sy W3 p S := HS.out.grow hB3
    clear hr hnd hsn hsl hd hdk hd17 hown hcy hnm hL hdL
    obtain ⟨a0, a1, a2, _, _, _⟩ := plc_cells hP3
    have hf1 : ¬ (f : Int) = 0 := by omega
    have k3 : Hid (Calls Tryz.prog 58 #[.pointer (some ⟨p, 0, none⟩)] W3 fun e w' => e = .returned (.int .i64 (f : Int)) ∧ w' = W3) := by
      refine hid ((freen_any p S W3 hS3).mono ?_)
      rintro e w' ⟨⟨n, rfl, h⟩, rfl⟩
      rw [h.uniq HF.out]
      exact ⟨rfl, rfl⟩
    obtain ⟨N1, gN⟩ : ∃ N1, N1 = nodeC 1 1 (.map none) := ⟨_, rfl⟩
    have l1 : Hid (N1.length = 107) := by rw [gN]; exact nodeC_len _ _ _
    have o1 : Hid (N1.toArray.all (·.oneCell') = true) := by rw [gN]; exact nodeC_one _ _ _
    have csz : Hid ((Tryz.prog.info? 54).map (·.size) = some N1.toArray.size) := by rw [csizeNode, List.size_toArray, l1.out]; exact hid rfl
    have kn : Hid (Calls Tryz.prog 17 #[.int .i64 1] W3.drew fun e w' => e = .returned (.agg N1.toArray) ∧ Hid (Below W3.heap.size W3 w')) := by
      refine hid ((newfile W3.drew).mono ?_)
      rintro e w' ⟨rfl, h⟩
      rw [gN]
      exact ⟨rfl, hid ((Below.refl _ W3).drew.trans h)⟩
    have HP : Hid (∀ W, Hid (Below W3.heap.size W3 W) → W.there p (1 + f * 107) N1.length) := hid (fun W hW => by rw [l1.out]; exact (hS3.grow hW.out).th f hf17.1)
    have hf0' : (0 : Int) ≤ (f : Int) := by omega
    have hf2 : (f : Int) < 17 := by omega
    have HS3 := hid hS3
    have HP3 := hid hP3
    have HB3 := hid hB3
    have HZ3 := hid hZ3
    have HC3 := hid hC3
    have GN := hid gN
    clear hS3 hP3 hB3 hZ3 hC3 gN
    go_wp2_with fail
    rw [← g3]
    clear g3
    refine k3.out.mono ?_
    rintro e w4 ⟨rfl, rfl⟩
    clear k3
    go_wp2_with fail
    go_region_held3 (fun _ => True) (trivial) ((go_at_call 17; refine kn.out.mono ?_; rintro e w5 ⟨rfl, hb5⟩; have hst := run_cells_mid (P := Tryz.prog) w5 p (1 + f * 107) N1 (HP.out w5 hb5) o1.out))
    obtain ⟨W6, g6⟩ : ∃ W6, W6 = w5.setCells p (1 + f * 107) N1 := ⟨_, rfl⟩
    rw [← g6]
    have hS6 : Sy W6 p (S.file f) := by rw [g6, GN.out]; exact (HS3.out.grow hb5.out).file f hf17.1 hf0 hf17.2
    have u6 : Upd (· = p) w5 W6 := by rw [g6]; exact upd_setCells _ _ _ _
    have hpl := HS.out.lt
    have hb1s := HB2.out.size
    have hP6 : W6.heap[w2.heap.size]? = some (.cells #[.slice (some ⟨gy, 0, none⟩) y.length cy, .string nm, .int .i64 0] 91 (0, 0)) := u6.heap ((hb5.out.block _ HZ3.out.1).trans HP3.out) (by omega)
    have hC6 : W6.cell? ⟨gy, y.length - 1, none⟩ = some (.int .i64 (d : Int)) := (World.cell?_of_block (a := ⟨gy, y.length - 1, none⟩) (u6.block gy (Nat.lt_of_lt_of_le HZ3.out.2 hb5.out.size) (by omega))).trans ((hb5.out.cell (p := ⟨gy, y.length - 1, none⟩) HZ3.out.2).trans HC3.out)
    have hG6 : gy < W6.heap.size := Nat.lt_of_lt_of_le (Nat.lt_of_lt_of_le HZ3.out.2 hb5.out.size) u6.size
    obtain ⟨d17, dk, dn, dl, dL, dsl, dsn⟩ := HD.out
    have hdf : d ≠ f := fun e => by rw [e, hf17.2] at dk; omega
    have hnmz : nm.size ≤ 6 := by have := bl_len nm; rw [HNM.out] at this; omega
    have k6 := hid (give_any p (S.file f) W6 hS6 gy y.length cy d nm 0 f hy0 hC6 hG6 hyc hcm d17 (by show (updN S.P f _ d).k = 2; rw [updN_ne _ _ _ _ hdf]; exact dk) (by show (if d = f then (fun _ => 0) else S.N d) (bl nm) = 0; rw [if_neg hdf, HNM.out]; exact dn) (by show (if d = f then 0 else S.L d) < 6; rw [if_neg hdf]; exact dl) hf17.1 hf0 (by omega))
    have hU6 : Upd (S.foot p) w1 W6 := (Upd.of_below (HB3.out.trans (hb5.out.mono HB3.out.size))).trans u6 (fun x _ hx => .inl hx)
    have HU6 := hid hU6
    have HDF := hid hdf
    obtain ⟨b0, b1, b2, _, _, _⟩ := plc_cells hP6
    have HDL := hid dL
    clear hS6 u6 hP6 hC6 hG6 d17 dk dn dl dL dsl dsn hdf hnmz hU6 g6 a0 a1 a2 hst kn HP hb1s hpl hgb
    go_wp2_with fail
    refine k6.out.mono ?_
    rintro e w7 ⟨rfl, h7, u7⟩
    have H7 := hid h7
    have U7 := hid u7
    clear k6 h7 u7
    go_wp2_with fail
    go_ret2
    refine ⟨rfl, ?_, HU6.out.trans U7.out (fun x _ hx => .inr ⟨d, (HD.out).1, ?_⟩)⟩
    · rw [HDL.out, ← HNM.out]; exact H7.out
    · have : ((S.file f).P d).m = (S.P d).m := by show (updN S.P f _ d).m = _; rw [updN_ne _ _ _ _ HDF.out]
      rw [← this]; exact hx

end Go.Proofs.YtliekndkjjaldaaGreat

/- What node, file, Hold, Stat and needed do at a node that is there. -/
namespace Go.Proofs.YtliekndkjjaldaaGreat
open Go.RowKit Go.ChangeMaps Go.MapKept
set_option linter.unusedVariables false
set_option maxRecDepth 20000

set_option maxHeartbeats 1000000 in
theorem node_yes (p : Nat) (S : Sg) (w : World) (H : Sy w p S) (i : Nat) (h1 : 1 ≤ i) (h2 : i < 17) (hk : (S.P i).k ≠ 0) :
    Calls Tryz.prog 82 #[.pointer (some ⟨p, 0, none⟩), .int .i64 (i : Int)] w fun e w' => e = .returned (.tuple #[.pointer (some ⟨p, 1 + i * 107, none⟩), .int .i64 0]) ∧ w' = w := by
  have k0 := hid H.usable
  have k1 := hid (isthere_any p (1 + i * 107) _ w (H.k i h2))
  rw [show decide ((S.P i).k ≠ 0) = true by simp [hk]] at k1
  have c1 : ¬ (i : Int) < 1 := by omega
  have c2 : ¬ (16 : Int) < (i : Int) := by omega
  have c3 : (0 : Int) ≤ (i : Int) := by omega
  have c4 : (i : Int) < 17 := by omega
  clear H hk
  go_enter Tryz.func82, Tryz.ntmps82
  go_wp2_with fail
  refine k0.out.mono ?_
  rintro e w1 ⟨rfl, rfl⟩
  clear k0
  go_wp2_with fail
  refine k1.out.mono ?_
  rintro e w1 ⟨rfl, rfl⟩
  clear k1
  go_wp2_with fail
  go_ret2
  exact ⟨rfl, rfl⟩

set_option maxHeartbeats 1000000 in
theorem file_yes (p : Nat) (S : Sg) (w : World) (H : Sy w p S) (i : Nat) (h1 : 1 ≤ i) (h2 : i < 17) (hk : (S.P i).k = 1) :
    Calls Tryz.prog 76 #[.pointer (some ⟨p, 0, none⟩), .int .i64 (i : Int)] w fun e w' => e = .returned (.tuple #[.pointer (some ⟨p, 1 + i * 107, none⟩), .int .i64 0]) ∧ w' = w := by
  have k0 := hid (node_yes p S w H i h1 h2 (by omega))
  have k1 := hid (isdir_any p (1 + i * 107) _ w (H.k i h2))
  rw [show decide ((S.P i).k = 2) = false by simp [hk]] at k1
  clear H hk
  go_enter Tryz.func76, Tryz.ntmps76
  go_wp2_with fail
  refine k0.out.mono ?_
  rintro e w1 ⟨rfl, rfl⟩
  clear k0
  go_wp2_with fail
  refine k1.out.mono ?_
  rintro e w1 ⟨rfl, rfl⟩
  clear k1
  go_wp2_with fail
  go_ret2
  exact ⟨rfl, rfl⟩

/-- A node that differs in one of its first cells. -/
theorem ndC_set0 (x : Nd) (k : Nat) (h : k < 4) (v : Value) (y : Nd) (hy : ndC y = (ndC x).set k v) (j : Nat) (hj : j ≠ k) : (ndC y)[j]? = (ndC x)[j]? := by
  rw [hy, List.getElem?_set_ne (fun e => hj e.symm)]

def Nd.size (x : Nd) (s : Nat) : Nd := { x with s := s }
def Nd.hold (x : Nd) (h : Int) : Nd := { x with h := h }
theorem ndC_size (x : Nd) (s : Nat) : ndC (x.size s) = (ndC x).set 3 (.int .i64 (s : Int)) := by simp [ndC, Nd.size]
theorem ndC_hold (x : Nd) (h : Int) : ndC (x.hold h) = (ndC x).set 2 (.int .i64 h) := by simp [ndC, Nd.hold]

/-- A node with another one in its place. -/
def Sg.at_ (S : Sg) (i : Nat) (x : Nd) : Sg := { S with P := updN S.P i x }
theorem Sg.at_same (S : Sg) (i : Nat) (x : Nd) : (S.at_ i x).P i = x := updN_same _ _ _
theorem Sg.at_at (S : Sg) (i : Nat) (x y : Nd) : (S.at_ i x).at_ i y = S.at_ i y := by
  unfold Sg.at_ updN
  congr 1
  funext j
  by_cases e : j = i <;> simp [e]
theorem Sg.at_self (S : Sg) (i : Nat) : S.at_ i (S.P i) = S := by
  unfold Sg.at_ updN
  have : (fun j => if j = i then S.P i else S.P j) = S.P := by
    funext j
    by_cases e : j = i <;> simp [e]
  rw [this]

theorem Sy.sizeTo {w : World} {p : Nat} {S : Sg} (h : Sy w p S) (i : Nat) (hi : i < 17) (s : Nat) : Sy (w.setCell ⟨p, 1 + i * 107 + 3, none⟩ (.int .i64 (s : Int))) p (S.at_ i ((S.P i).size s)) :=
  h.set i hi ((S.P i).size s) ⟨(h.ok i hi).b, (h.ok i hi).B⟩ rfl rfl 3 (by omega) _ rfl (fun j hj e => ndC_set0 _ 3 (by omega) _ _ (ndC_size _ _) j e)
theorem Sy.holdTo {w : World} {p : Nat} {S : Sg} (h : Sy w p S) (i : Nat) (hi : i < 17) (s : Int) : Sy (w.setCell ⟨p, 1 + i * 107 + 2, none⟩ (.int .i64 s)) p (S.at_ i ((S.P i).hold s)) :=
  h.set i hi ((S.P i).hold s) ⟨(h.ok i hi).b, (h.ok i hi).B⟩ rfl rfl 2 (by omega) _ rfl (fun j hj e => ndC_set0 _ 2 (by omega) _ _ (ndC_hold _ _) j e)

set_option maxHeartbeats 1000000 in
theorem hold_yes (p : Nat) (S : Sg) (w : World) (H : Sy w p S) (i : Nat) (h1 : 1 ≤ i) (h2 : i < 17) (hk : (S.P i).k ≠ 0) (n : Nat) (hh : (S.P i).h = (n : Int)) (hn : n < 1000) :
    Calls Tryz.prog 39 #[.pointer (some ⟨p, 0, none⟩), .int .i64 (i : Int)] w fun e w' => e = .returned (.int .i64 0) ∧ Sy w' p (S.at_ i ((S.P i).hold ((n + 1 : Nat) : Int))) ∧ Upd (· = p) w w' := by
  have k0 := hid (node_yes p S w H i h1 h2 hk)
  have c := H.h i h2
  rw [hh] at c
  have f := H.fz (1 + i * 107 + 2)
  have c1 : ¬ (n : Int) = 1000 := by omega
  have HS := hid (H.holdTo i h2 ((n + 1 : Nat) : Int))
  have c5 : wrap64 ((n : Int) + 1) = (n : Int) + 1 := by unfold wrap64; omega
  clear H hk hh
  go_enter Tryz.func39, Tryz.ntmps39
  go_wp2_with fail
  refine k0.out.mono ?_
  rintro e w1 ⟨rfl, rfl⟩
  clear k0
  go_wp2_with fail
  go_ret
  exact ⟨rfl, HS.out, Upd.setCell (F := (· = p)) _ ⟨p, _, none⟩ _ rfl⟩

theorem needed_any (s : Nat) (hs : s ≤ 4000) (w : World) : Calls Tryz.prog 111 #[.int .i64 (s : Int)] w fun e w' => e = .returned (.int .i64 (((s + 15) / 16 : Nat) : Int)) ∧ w' = w := by
  have c1 : IntKind.i64.wrap ((s : Int) + 16) = (s : Int) + 16 := by rw [IntKind.wrap_i64]; omega
  have c2 : IntKind.i64.wrap ((s : Int) + 16 - 1) = (s : Int) + 15 := by rw [IntKind.wrap_i64]; omega
  go_enter Tryz.func111, Tryz.ntmps111
  go_wp2_with fail
  go_ret
  refine ⟨?_, rfl⟩
  show Ending.returned (Value.int .i64 (((s : Int) + 15) / 16)) = _
  congr 2

end Go.Proofs.YtliekndkjjaldaaGreat

/- What allocated and free tell; what take does. -/
namespace Go.Proofs.YtliekndkjjaldaaGreat
open Go.RowKit Go.ChangeMaps Go.MapKept
set_option linter.unusedVariables false
set_option maxRecDepth 20000

/-- The marks as they are read. -/
def mkL (T : Nat → Bool) : List Value := (List.range 25).map fun b => .bool (T b)
theorem mkL_len (T : Nat → Bool) : (mkL T).length = 25 := by simp [mkL]
theorem csizeB : (Tryz.prog.info? 4).map (·.size) = some 1 := by kernel_rfl
theorem ix_mark (T : Nat → Bool) (j : Nat) (hj : j < 25) (w : World) : (Instr.index 56 (.agg (mkL T).toArray) (.int .i64 (j : Int))).run Tryz.prog w = .ok (.bool (T j)) w := by
  have hn : (0 : Int) ≤ (j : Int) ∧ (j : Int) < 25 := by omega
  obtain ⟨i0, hi0⟩ : ∃ i, Tryz.prog.info? 4 = some i := by
    cases e : Tryz.prog.info? 4 with
    | none => have := csizeB; simp [e] at this
    | some i => exact ⟨i, rfl⟩
  have hs0 : i0.size = 1 := by have := csizeB; simpa [hi0] using this
  have he : (mkL T)[j]? = some (.bool (T j)) := by simp [mkL, hj]
  simp [Instr.index, run_underlying Tryz.underlying56, asIntOf, hn, go_sem, sizeOf, typeInfo, hi0, hs0]
  rw [if_pos hj, he]
  rfl

theorem Sy.marks {w : World} {p : Nat} {S : Sg} (h : Sy w p S) : w.rangeAt p 1820 (mkL S.T) := fun j v hv => by
  have hj : j < 25 := by
    rcases Nat.lt_or_ge j 25 with q | q
    · exact q
    · rw [List.getElem?_eq_none (by rw [mkL_len]; exact q)] at hv; simp at hv
  have e : (mkL S.T)[j]? = some (.bool (S.T j)) := by simp [mkL, hj]
  rw [e] at hv
  injection hv with hv
  rw [← hv]
  exact h.t j hj

theorem csizeM : (Tryz.prog.info? 56).map (·.size) = some 25 := by kernel_rfl

set_option maxHeartbeats 2000000 in
set_option maxRecDepth 20000 in
theorem alloc_any (p : Nat) (S : Sg) (w : World) (H : Sy w p S) : Calls Tryz.prog 53 #[.pointer (some ⟨p, 0, none⟩)] w fun e w' => (∃ a c, e = .returned (.slice a (cnt S.T 25) c)) ∧ Below w.heap.size w w' := by
  obtain ⟨i0, hi0, hz0, hz1, hz2⟩ := info_parts infoI
  have HR := hid H.marks
  obtain ⟨T, gT⟩ : ∃ T, T = S.T := ⟨_, rfl⟩
  rw [← gT] at HR ⊢
  obtain ⟨M, gM⟩ : ∃ M, M = mkL T := ⟨_, rfl⟩
  have HX : Hid (∀ (j : Nat) (W : World), j < 25 → (Instr.index 56 (.agg M.toArray) (.int .i64 (j : Int))).run Tryz.prog W = .ok (.bool (T j)) W) := hid (fun j W hj => by rw [gM]; exact ix_mark T j hj W)
  have HL : Hid ((Tryz.prog.info? 56).map (·.size) = some M.length) := by rw [gM, mkL_len]; exact hid csizeM
  rw [← gM] at HR
  clear gM gT H
  go_enter Tryz.func53, Tryz.ntmps53
  go_wp2_with (refine wpList_load_mid rfl 56 (.tmp 8) rfl p 1820 rfl M _ HR.out Tryz.underlying56 rfl HL.out ?_)
  go_loopw [3, 10] (fun v k wr => ∃ j : Nat, j ≤ 25 ∧ k = .int .i64 (j : Int) ∧ (∃ a c, v = .slice a (cnt T j) c) ∧ Hid (∃ xs, wr.ownsRow w.heap.size 3 1 v (cnt T j) xs ∧ Below w.heap.size w wr)) (fun _ k _ => 25 - (intOf k).toNat)
  case atStart => exact ⟨0, by omega, rfl, ⟨none, 0, rfl⟩, hid ⟨[], World.ownsRow_nil _ _ _ _, Below.refl _ _⟩⟩
  case round =>
    obtain ⟨j, hj25, rfl, ⟨a, c, rfl⟩, HQ⟩ := hrel
    by_cases e : j = 25
    · subst e
      go_wp2_with fail
      go_ret
      exact ⟨⟨_, _, rfl⟩, by obtain ⟨_, _, h⟩ := HQ.out; exact h⟩
    · have hj : j < 25 := by omega
      have hj2 : (j : Int) < 25 := by omega
      have hx := HX.out j wr hj
      have hcl := cnt_le T j
      clear e
      cases ht : T j with
      | false =>
        rw [ht] at hx
        have HC : Hid (cnt T (j + 1) = cnt T j) := hid (by simp [cnt, ht])
        clear ht
        go_wp2_with fail
        go_roundw
        case rel => exact ⟨j + 1, by omega, by go_num, ⟨a, c, by rw [HC.out]⟩, by rw [HC.out]; exact HQ⟩
        case measure => simp [intOf]; omega
      | true =>
        rw [ht] at hx
        have HC : Hid (cnt T (j + 1) = cnt T j + 1) := hid (by simp [cnt, ht])
        clear ht
        obtain ⟨xs, hO, hB⟩ := HQ.out
        have hsz := hB.size
        have HO := hid hO
        have HB := hid hB
        clear HQ hO hB
        go_wp2_with (at_builtin; go_must (refine wpList_append_own _ rfl (.tmp 15) (.tmp 17) 41 rfl w.heap.size 3 i0 _ 1 8 Tryz.underlying41 hi0 hz0 hz1 hz2 rfl (by decide) _ (cnt T j) xs rfl (HO.out.alloc _) ⟨_, 0, none⟩ 1 1 [.int .i64 (j : Int)] rfl rfl (cell_one_new _ _ _) (by simp [Value.oneCell']) (by unfold maxLen; omega) (by omega) (by simp; omega) ?_))
        intro v' w6 hO6 hG6 hN6
        obtain ⟨va, vc, rfl⟩ : ∃ va vc, v' = .slice va (cnt T j + 1) vc := by
          rcases hO6.2 with ⟨h1, h2⟩ | ⟨g, c, cur, rfl, _⟩
          · omega
          · exact ⟨_, c, rfl⟩
        have hb6 : Below w.heap.size w w6 := by
          have u : Upd _ _ w6 := Upd.of_grown hG6
          refine (HB.out.trans ((one_new wr _).mono hsz)).trans (u.below (by simp; omega) (fun k hk => ?_))
          exact (HO.out.lt k hk.symm).1
        have HQ6 : Hid (∃ ys, w6.ownsRow w.heap.size 3 1 (.slice va (cnt T j + 1) vc) (cnt T (j + 1)) ys ∧ Below w.heap.size w w6) := by rw [HC.out]; exact hid ⟨_, hO6, hb6⟩
        clear hO6 hG6 hN6 hb6
        go_wp2_with fail
        go_roundw
        case rel => exact ⟨j + 1, by omega, by go_num, ⟨va, vc, by rw [HC.out]⟩, HQ6⟩
        case measure => simp [intOf]; omega

theorem free_any (p : Nat) (S : Sg) (w : World) (H : Sy w p S) (hc : cnt S.T 25 ≤ 24) : Calls Tryz.prog 112 #[.pointer (some ⟨p, 0, none⟩)] w fun e w' => e = .returned (.int .i64 ((24 - cnt S.T 25 : Nat) : Int)) ∧ Below w.heap.size w w' := by
  have k1 := hid (alloc_any p S w H)
  obtain ⟨n, gn⟩ : ∃ n, n = cnt S.T 25 := ⟨_, rfl⟩
  rw [← gn] at hc k1 ⊢
  have c1 : IntKind.i64.wrap (24 - (n : Int)) = ((24 - n : Nat) : Int) := by rw [IntKind.wrap_i64]; omega
  clear gn H
  go_enter Tryz.func112, Tryz.ntmps112
  go_wp2_with fail
  refine k1.out.mono ?_
  rintro e w1 ⟨⟨a, c, rfl⟩, hb⟩
  have HB := hid hb
  clear hb k1
  go_wp2_with fail
  go_ret
  refine ⟨?_, HB.out⟩
  first
  | rfl
  | (show Ending.returned (Value.int .i64 (24 - (n : Int))) = _
     congr 2
     omega)

end Go.Proofs.YtliekndkjjaldaaGreat

/- What take does: blocks for a file, the lowest free ones first. -/
namespace Go.Proofs.YtliekndkjjaldaaGreat
open Go.RowKit Go.ChangeMaps Go.MapKept
set_option linter.unusedVariables false
set_option maxRecDepth 20000

/-- Cells of a node, one by one: two nodes agree where their parts do. -/
theorem ndC_agree {x y : Nd} (hx : x.ok) (hy : y.ok) (j : Nat) (hj : j < 107) (h0 : j < 4 → (ndC y)[j]? = (ndC x)[j]?) (hb : ∀ i, j = 4 + i → i < 96 → y.b.getD i 0 = x.b.getD i 0) (hB : ∀ i, j = 100 + i → i < 6 → y.B.getD i 0 = x.B.getD i 0) (hm : j = 106 → y.m = x.m) : (ndC y)[j]? = (ndC x)[j]? := by
  rcases (show j < 4 ∨ (4 ≤ j ∧ j < 100) ∨ (100 ≤ j ∧ j < 106) ∨ j = 106 by omega) with h | h | h | h
  · exact h0 h
  · obtain ⟨i, rfl⟩ : ∃ i, j = 4 + i := ⟨j - 4, by omega⟩
    rw [ndC_b hy i (by omega), ndC_b hx i (by omega), hb i rfl (by omega)]
  · obtain ⟨i, rfl⟩ : ∃ i, j = 100 + i := ⟨j - 100, by omega⟩
    rw [ndC_B hy i (by omega), ndC_B hx i (by omega), hB i rfl (by omega)]
  · subst h
    rw [ndC_m hy, ndC_m hx, hm rfl]

def Nd.blk (x : Nd) (j : Nat) (v : Int) : Nd := { x with B := x.B.set j v }
theorem Nd.blk_ok {x : Nd} (h : x.ok) (j : Nat) (v : Int) : (x.blk j v).ok := ⟨h.b, by simp [Nd.blk, h.B]⟩
theorem getD_set_same (l : List Int) (j : Nat) (v : Int) (h : j < l.length) : (l.set j v).getD j 0 = v := by
  rw [List.getD_eq_getElem?_getD, List.getElem?_set_self h]; rfl
theorem getD_set_ne (l : List Int) (i j : Nat) (v : Int) (h : j ≠ i) : (l.set j v).getD i 0 = l.getD i 0 := by
  rw [List.getD_eq_getElem?_getD, List.getElem?_set_ne h, List.getD_eq_getElem?_getD]

theorem Sy.blkTo {w : World} {p : Nat} {S : Sg} (h : Sy w p S) (i : Nat) (hi : i < 17) (j : Nat) (hj : j < 6) (v : Int) : Sy (w.setCell ⟨p, 1 + i * 107 + (100 + j), none⟩ (.int .i64 v)) p (S.at_ i ((S.P i).blk j v)) := by
  have hx := h.ok i hi
  have hy := Nd.blk_ok hx j v
  have hl := hx.B
  refine h.set i hi ((S.P i).blk j v) hy rfl rfl (100 + j) (by omega) _ ?_ (fun k hk e => ndC_agree hx hy k hk (fun q => ?_) (fun _ _ _ => rfl) (fun a ha hb => ?_) (fun _ => rfl))
  · rw [ndC_B hy j hj]
    simp only [Nd.blk]
    rw [getD_set_same _ _ _ (by omega)]
  · unfold ndC Nd.blk
    rw [List.append_assoc, List.append_assoc, List.getElem?_append_left (by simp; omega), List.append_assoc, List.append_assoc, List.getElem?_append_left (by simp; omega)]
  · simp only [Nd.blk]
    exact getD_set_ne _ _ _ _ (by omega)

/-- A file's blocks: so many are its own, all are marked, and no others are. -/
structure Bok (x : Nd) (T : Nat → Bool) (q : Nat) : Prop where
  in_ : ∀ j, j < q → ∃ b : Nat, x.B.getD j 0 = (b : Int) ∧ 1 ≤ b ∧ b < 25 ∧ T b = true
  ne : ∀ i j, i < j → j < q → x.B.getD i 0 ≠ x.B.getD j 0
  n : cnt T 25 = q

theorem Bok.take {x : Nd} {T : Nat → Bool} {q b : Nat} (h : Bok x T q) (hx : x.ok) (hq : q < 6) (h1 : 1 ≤ b) (h2 : b < 25) (hb : T b = false) : Bok (x.blk q (b : Int)) (updT T b true) (q + 1) := by
  have hl := hx.B
  have hold : ∀ j, j < q → (x.blk q (b : Int)).B.getD j 0 = x.B.getD j 0 := fun j hj => getD_set_ne _ _ _ _ (by omega)
  have hnew : (x.blk q (b : Int)).B.getD q 0 = (b : Int) := getD_set_same _ _ _ (by omega)
  refine ⟨fun j hj => ?_, fun i j hij hj => ?_, by rw [cnt_set T b hb 25 h2, h.n]⟩
  · by_cases e : j = q
    · subst e; exact ⟨b, hnew, h1, h2, updT_same _ _ _⟩
    · obtain ⟨c, q1, q2, q3, q4⟩ := h.in_ j (by omega)
      refine ⟨c, by rw [hold j (by omega)]; exact q1, q2, q3, ?_⟩
      by_cases ec : c = b
      · subst ec; exact updT_same _ _ _
      · rw [updT_ne _ _ _ _ ec]; exact q4
  · by_cases e : j = q
    · subst e
      rw [hnew, hold i (by omega)]
      obtain ⟨c, q1, q2, q3, q4⟩ := h.in_ i (by omega)
      rw [q1]
      intro ec
      have : c = b := by omega
      subst this
      rw [hb] at q4
      simp at q4
    · rw [hold i (by omega), hold j (by omega)]
      exact h.ne i j hij (by omega)

/-- A system whose node at i, and whose marks, are others. -/
def Sg.bl (S : Sg) (i : Nat) (x : Nd) (T : Nat → Bool) : Sg := { S with P := updN S.P i x, T := T }

set_option maxHeartbeats 4000000 in
set_option maxRecDepth 20000 in
theorem take_any (p : Nat) (S : Sg) (w : World) (i : Nat) (hi : i < 17) (x : Nd) (T : Nat → Bool) (H : Sy w p (S.bl i x T)) (q n c o : Nat) (ho : 0 < n → o = 1 + i * 107 + (100 + q)) (hq : q + n ≤ 6) (hn : n ≤ c) (hc : c ≤ 6) (hB : Bok x T q) :
    Calls Tryz.prog 113 #[.pointer (some ⟨p, 0, none⟩), .slice (some ⟨p, o, none⟩) n c] w fun e w' => e = .returned (.tuple #[]) ∧ (∃ B' T', Sy w' p (S.bl i { x with B := B' } T') ∧ Bok { x with B := B' } T' (q + n) ∧ (∀ j, j < q → B'.getD j 0 = x.B.getD j 0)) ∧ Upd (· = p) w w' := by
  have hB0 : x.B = x.B := rfl
  have H0 : Hid (∃ B' T', Sy w p (S.bl i { x with B := B' } T') ∧ Bok { x with B := B' } T' (q + 0) ∧ (∀ j, j < q → B'.getD j 0 = x.B.getD j 0) ∧ Upd (· = p) w w ∧ (∀ cc, 1 ≤ cc → cc < 1 → T' cc = true)) := hid ⟨x.B, T, H, hB, fun _ _ => rfl, Upd.refl _ _, fun cc h1 h2 => by omega⟩
  have HOO := hid ho
  clear H hB hB0 ho
  go_enter Tryz.func113, Tryz.ntmps113
  go_wp2_with fail
  go_loopw [4, 8] (fun v4 v8 wr => ∃ b k : Nat, 1 ≤ b ∧ b < 25 ∧ k ≤ n ∧ v4 = .int .i64 (b : Int) ∧ v8 = .int .i64 (k : Int) ∧ Hid (∃ B' T', Sy wr p (S.bl i { x with B := B' } T') ∧ Bok { x with B := B' } T' (q + k) ∧ (∀ j, j < q → B'.getD j 0 = x.B.getD j 0) ∧ Upd (· = p) w wr ∧ (∀ cc, 1 ≤ cc → cc < b → T' cc = true))) (fun _ v8 _ => n - (intOf v8).toNat)
  case atStart => exact ⟨1, 0, by omega, by omega, by omega, rfl, rfl, H0⟩
  case round =>
    clear H0
    obtain ⟨b, k, hb1, hb2, hkn, rfl, rfl, HQ⟩ := hrel
    by_cases e : k = n
    · subst e
      go_wp2_with fail
      go_end0
      obtain ⟨B', T', h1, h2, h3, h4, _⟩ := HQ.out
      exact ⟨rfl, ⟨B', T', h1, h2, h3⟩, h4⟩
    · have hk : k < n := by omega
      have hk2 : (k : Int) < (n : Int) := by omega
      obtain ⟨B', T', h1, h2, h3, h4, h5⟩ := HQ.out
      have HS := hid h1
      have HB := hid h2
      have HK := hid (And.intro h3 h4)
      have HF := hid h5
      clear HQ h1 h2 h3 h4 h5 e
      go_wp2_with fail
      rename World => wo
      go_loopw [4] (fun v4 wr => ∃ b : Nat, 1 ≤ b ∧ b < 25 ∧ v4 = .int .i64 (b : Int) ∧ wr = wo ∧ Hid (∀ cc, 1 ≤ cc → cc < b → T' cc = true)) (fun v4 _ => 25 - (intOf v4).toNat)
      case atStart => exact ⟨b, hb1, hb2, rfl, rfl, HF⟩
      case round =>
        clear HF hb1 hb2
        obtain ⟨b, hb1, hb2, rfl, rfl, HF⟩ := hrel
        have c0 : (0 : Int) ≤ (b : Int) := by omega
        have c1 : (b : Int) < 25 := by omega
        have hl := HS.out.t b hb2
        change wr.cell? ⟨p, 1820 + b, none⟩ = some (.bool (T' b)) at hl
        cases ht : T' b with
        | true =>
          rw [ht] at hl
          have hb3 : b + 1 < 25 := by
            rcases Nat.lt_or_ge (b + 1) 25 with h | h
            · exact h
            · have h1 := cnt_full T' 25 (fun cc q1 q2 => by
                by_cases e : cc = b
                · subst e; exact ht
                · exact HF.out cc q1 (by omega))
              have h2 := HB.out.n
              omega
          have HF2 : Hid (∀ cc, 1 ≤ cc → cc < b + 1 → T' cc = true) := hid (fun cc q1 q2 => by
            by_cases e : cc = b
            · subst e; exact ht
            · exact HF.out cc q1 (by omega))
          clear ht HF
          go_wp2_with fail
          go_roundw
          case rel => exact ⟨b + 1, by omega, hb3, by go_num, by first | rfl | trivial, HF2⟩
          case measure => simp [intOf]; omega
        | false =>
          rw [ht] at hl
          have f1 := HS.out.fz (1820 + b)
          have hadr : 1 + i * 107 + (100 + (q + k)) = o + k := by have := HOO.out (by omega); omega
          have hS3 := HS.out.mark b hb2 true
          have hb4 := hS3.B i hi (q + k) (by omega)
          rw [hadr] at hb4
          have f2 := hS3.fz (o + k)
          have hS4 := hS3.blkTo i hi (q + k) (by omega) (b : Int)
          rw [hadr] at hS4
          have hP : ((S.bl i { x with B := B' } T').P i) = { x with B := B' } := updN_same _ _ _
          have hok : ({ x with B := B' } : Nd).ok := by rw [← hP]; exact HS.out.ok i hi
          have HB4 := hid (HB.out.take hok (by omega) hb1 hb2 ht)
          have HU4 : Hid (Upd (· = p) w ((wr.setCell ⟨p, 1820 + b, none⟩ (.bool true)).setCell ⟨p, o + k, none⟩ (.int .i64 (b : Int)))) := by
            have u1 : Upd (· = p) wr (wr.setCell ⟨p, 1820 + b, none⟩ (.bool true)) := Upd.setCell (F := (· = p)) wr ⟨p, _, none⟩ _ rfl
            have u2 : Upd (· = p) (wr.setCell ⟨p, 1820 + b, none⟩ (.bool true)) ((wr.setCell ⟨p, 1820 + b, none⟩ (.bool true)).setCell ⟨p, o + k, none⟩ (.int .i64 (b : Int))) := Upd.setCell (F := (· = p)) _ ⟨p, _, none⟩ _ rfl
            exact hid ((HK.out.2.trans u1 (fun _ _ h => h)).trans u2 (fun _ _ h => h))
          have HQ4 : Hid (∃ B' T', Sy ((wr.setCell ⟨p, 1820 + b, none⟩ (.bool true)).setCell ⟨p, o + k, none⟩ (.int .i64 (b : Int))) p (S.bl i { x with B := B' } T') ∧ Bok { x with B := B' } T' (q + (k + 1)) ∧ (∀ j, j < q → B'.getD j 0 = x.B.getD j 0) ∧ Upd (· = p) w ((wr.setCell ⟨p, 1820 + b, none⟩ (.bool true)).setCell ⟨p, o + k, none⟩ (.int .i64 (b : Int))) ∧ (∀ cc, 1 ≤ cc → cc < b → T' cc = true)) := by
            refine hid ⟨B'.set (q + k) (b : Int), updT T' b true, ?_, HB4.out, fun j hj => ?_, HU4.out, fun cc q1 q2 => ?_⟩
            · have e1 : (({ (S.bl i { x with B := B' } T') with T := updT T' b true } : Sg).at_ i ((({ (S.bl i { x with B := B' } T') with T := updT T' b true } : Sg).P i).blk (q + k) (b : Int))) = S.bl i { x with B := B'.set (q + k) (b : Int) } (updT T' b true) := by
                show ({ S with P := updN (updN S.P i { x with B := B' }) i (Nd.blk (updN S.P i { x with B := B' } i) (q + k) (b : Int)), T := updT T' b true } : Sg) = _
                rw [updN_same]
                unfold Sg.bl Nd.blk
                congr 1
                funext j
                by_cases e : j = i <;> simp [updN, e]
              rw [← e1]
              exact hS4
            · rw [getD_set_ne _ _ _ _ (by omega)]; exact HK.out.1 j hj
            · rw [updT_ne _ _ _ _ (by omega)]; exact HF.out cc q1 q2
          have ck : (0 : Int) ≤ (k : Int) := by omega
          have h7 := HS.out.B i hi (q + k) (by omega)
          rw [hadr] at h7
          have f7 := HS.out.fz (o + k)
          have n1 : ¬ 1820 + b = o + k := by have := HOO.out (by omega); omega
          have n2 : ¬ o + k = 1820 + b := by have := HOO.out (by omega); omega
          clear ht HF hS3 hS4 hP hok HB4 HU4 hadr HB HK HS
          go_wp2_with fail
          go_roundw
          case rel => exact ⟨b, k + 1, hb1, hb2, by omega, rfl, by go_num, HQ4⟩
          case measure => simp [intOf]; omega

end Go.Proofs.YtliekndkjjaldaaGreat

/- What grow does to a file that is alone in its system. -/
namespace Go.Proofs.YtliekndkjjaldaaGreat
open Go.RowKit Go.ChangeMaps Go.MapKept
set_option linter.unusedVariables false
set_option maxRecDepth 20000

/-- How many blocks so many bytes need. -/
def need (s : Nat) : Nat := (s + 15) / 16

theorem need_le {s : Nat} (h : s ≤ 96) : need s ≤ 6 := by unfold need; omega
theorem need_mono {s t : Nat} (h : s ≤ t) : need s ≤ need t := by unfold need; omega

theorem Sg.bl_self (S : Sg) (i : Nat) : S.bl i (S.P i) S.T = S := by
  have := S.at_self i
  unfold Sg.at_ at this
  unfold Sg.bl
  exact this

set_option maxHeartbeats 4000000 in
set_option maxRecDepth 20000 in
theorem grow_more (p : Nat) (S : Sg) (w : World) (i : Nat) (hi : i < 17) (x : Nd) (T : Nat → Bool) (H : Sy w p (S.bl i x T)) (hB : Bok x T (need x.s)) (size : Nat) (hs : x.s < size) (hz : size ≤ 96) :
    Calls Tryz.prog 78 #[.pointer (some ⟨p, 0, none⟩), .pointer (some ⟨p, 1 + i * 107, none⟩), .int .i64 (size : Int)] w fun e w' => e = .returned (.int .i64 0) ∧ (∃ B' T', Sy w' p (S.bl i { x with B := B', s := size } T') ∧ Bok { x with B := B', s := size } T' (need size)) ∧ Upd (· = p) w w' := by
  have hP : (S.bl i x T).P i = x := updN_same _ _ _
  have c3 := H.s i hi
  rw [hP] at c3
  obtain ⟨q0, g0⟩ : ∃ q0, q0 = need x.s := ⟨_, rfl⟩
  obtain ⟨q1, g1⟩ : ∃ q1, q1 = need size := ⟨_, rfl⟩
  have h01 : q0 ≤ q1 := by rw [g0, g1]; exact need_mono (by omega)
  have h16 : q1 ≤ 6 := by rw [g1]; exact need_le hz
  rw [← g0] at hB
  rw [← g1]
  obtain ⟨s0, gs⟩ : ∃ s0, s0 = x.s := ⟨_, rfl⟩
  rw [← gs] at c3 hs
  have K0 : Hid (∀ W, Calls Tryz.prog 111 #[.int .i64 (s0 : Int)] W fun e w' => e = .returned (.int .i64 (q0 : Int)) ∧ w' = W) := by
    refine hid (fun W => ?_)
    have := needed_any s0 (by omega) W
    rw [show (s0 + 15) / 16 = q0 by rw [g0, gs]; rfl] at this
    exact this
  have K1 : Hid (∀ W, Calls Tryz.prog 111 #[.int .i64 (size : Int)] W fun e w' => e = .returned (.int .i64 (q1 : Int)) ∧ w' = W) := by
    refine hid (fun W => ?_)
    have := needed_any size (by omega) W
    rw [show (size + 15) / 16 = q1 by rw [g1]; rfl] at this
    exact this
  have a1 : ¬ (size : Int) ≤ (s0 : Int) := by omega
  have a2 : (0 : Int) ≤ (q0 : Int) := by omega
  have a3 : (q0 : Int) ≤ (q1 : Int) := by omega
  have a4 : (q1 : Int) ≤ 6 := by omega
  have HH := hid H
  have HB := hid hB
  clear H hB hP g0 g1 gs
  go_enter Tryz.func78, Tryz.ntmps78
  go_wp2_with fail
  go_quiet ((go_at_call 111; first | refine Calls.quiet_of_same (K0.out _) | refine Calls.quiet_of_same (K1.out _)))
  obtain ⟨o, go⟩ : ∃ o, o = if 6 = q0 then 1 + i * 107 + 100 else 1 + i * 107 + 100 + q0 := ⟨_, rfl⟩
  have hA : (if 6 = q0 then (⟨p, 1 + i * 107 + 100, none⟩ : Addr) else ⟨p, 1 + i * 107 + 100 + q0, none⟩) = ⟨p, o, none⟩ := by
    rw [go]; split <;> rfl
  have ho : 0 < q1 - q0 → o = 1 + i * 107 + (100 + q0) := fun h => by
    rw [go, if_neg (by omega)]; omega
  rw [hA]
  have HO := hid ho
  clear hA go ho K0 K1
  obtain ⟨W1, g1⟩ : ∃ W1, W1 = w.drewN nq := ⟨_, rfl⟩
  rw [← g1]
  have hS1 : Sy W1 p (S.bl i x T) := HH.out.hp (by rw [g1]; rfl)
  have hU1 : Upd (· = p) w W1 := by rw [g1]; exact (Upd.refl _ _).drewN _
  have hcnt : cnt T 25 = q0 := HB.out.n
  have k1 := hid (free_any p (S.bl i x T) W1 hS1 (by show cnt T 25 ≤ 24; omega))
  rw [show cnt (S.bl i x T).T 25 = q0 from hcnt] at k1
  have k2 : Hid (∀ W, Below W1.heap.size W1 W → Calls Tryz.prog 113 #[.pointer (some ⟨p, 0, none⟩), .slice (some ⟨p, o, none⟩) (q1 - q0) (6 - q0)] W fun e w' => e = .returned (.tuple #[]) ∧ Hid ((∃ B' T', Sy w' p (S.bl i { x with B := B' } T') ∧ Bok { x with B := B' } T' q1) ∧ Upd (· = p) w w')) := by
    refine hid (fun W hW => ?_)
    refine (take_any p S W i hi x T (hS1.grow hW) q0 (q1 - q0) (6 - q0) o HO.out (by omega) (by omega) (by omega) HB.out).mono ?_
    rintro e w' ⟨rfl, ⟨B', T', h1, h2, _⟩, u⟩
    rw [show q0 + (q1 - q0) = q1 by omega] at h2
    exact ⟨rfl, hid ⟨⟨B', T', h1, h2⟩, (hU1.trans (Upd.of_below (F := (· = p)) hW) (fun _ _ h => h)).trans u (fun _ _ h => h)⟩⟩
  have a5 : ¬ ((24 - q0 : Nat) : Int) < ((q1 - q0 : Nat) : Int) := by omega
  clear hS1 hU1 hcnt g1 HH HB
  go_wp2_with fail
  refine k1.out.mono ?_
  rintro e w2 ⟨rfl, hb2⟩
  have k3 := hid (k2.out w2 hb2)
  clear k1 k2 hb2
  go_wp2_with fail
  refine k3.out.mono ?_
  rintro e w3 ⟨rfl, H3⟩
  clear k3
  obtain ⟨⟨B', T', h1, h2⟩, u⟩ := H3.out
  have c4 := h1.s i hi
  have f4 := h1.fz (1 + i * 107 + 3)
  have hP3 : (S.bl i { x with B := B' } T').P i = { x with B := B' } := updN_same _ _ _
  rw [hP3] at c4
  have h5 := h1.sizeTo i hi size
  rw [hP3] at h5
  have e5 : (S.bl i { x with B := B' } T').at_ i (Nd.size { x with B := B' } size) = S.bl i { x with B := B', s := size } T' := by
    unfold Sg.bl Sg.at_ Nd.size
    congr 1
    funext j
    by_cases e : j = i <;> simp [updN, e]
  rw [e5] at h5
  have H5 : Hid ((∃ B' T', Sy (w3.setCell ⟨p, 1 + i * 107 + 3, none⟩ (.int .i64 (size : Int))) p (S.bl i { x with B := B', s := size } T') ∧ Bok { x with B := B', s := size } T' q1) ∧ Upd (· = p) w (w3.setCell ⟨p, 1 + i * 107 + 3, none⟩ (.int .i64 (size : Int)))) :=
    hid ⟨⟨B', T', h5, ⟨h2.in_, h2.ne, h2.n⟩⟩, u.trans (Upd.setCell (F := (· = p)) w3 ⟨p, _, none⟩ _ rfl) (fun _ _ h => h)⟩
  clear h1 h2 u h5 e5 hP3 H3
  go_wp2_with fail
  go_ret
  exact ⟨rfl, H5.out.1, H5.out.2⟩

set_option maxHeartbeats 1000000 in
theorem grow_same (p : Nat) (S : Sg) (w : World) (i : Nat) (hi : i < 17) (x : Nd) (T : Nat → Bool) (H : Sy w p (S.bl i x T)) (size : Nat) (hs : size ≤ x.s) :
    Calls Tryz.prog 78 #[.pointer (some ⟨p, 0, none⟩), .pointer (some ⟨p, 1 + i * 107, none⟩), .int .i64 (size : Int)] w fun e w' => e = .returned (.int .i64 0) ∧ w' = w := by
  have hP : (S.bl i x T).P i = x := updN_same _ _ _
  have c3 := H.s i hi
  rw [hP] at c3
  have a1 : (size : Int) ≤ (x.s : Int) := by omega
  clear H hP
  go_enter Tryz.func78, Tryz.ntmps78
  go_wp2_with fail
  go_ret
  exact ⟨rfl, rfl⟩

/-- A file gets at least a size. -/
theorem grow_any (p : Nat) (S : Sg) (w : World) (i : Nat) (hi : i < 17) (x : Nd) (T : Nat → Bool) (H : Sy w p (S.bl i x T)) (hB : Bok x T (need x.s)) (size : Nat) (hz : size ≤ 96) :
    Calls Tryz.prog 78 #[.pointer (some ⟨p, 0, none⟩), .pointer (some ⟨p, 1 + i * 107, none⟩), .int .i64 (size : Int)] w fun e w' => e = .returned (.int .i64 0) ∧ (∃ B' T', Sy w' p (S.bl i { x with B := B', s := max x.s size } T') ∧ Bok { x with B := B', s := max x.s size } T' (need (max x.s size))) ∧ Upd (· = p) w w' := by
  by_cases h : x.s < size
  · rw [Nat.max_eq_right (Nat.le_of_lt h)]
    exact grow_more p S w i hi x T H hB size h hz
  · rw [Nat.max_eq_left (by omega)]
    refine (grow_same p S w i hi x T H size (by omega)).mono ?_
    rintro e w' ⟨rfl, rfl⟩
    exact ⟨rfl, ⟨x.B, T, H, hB⟩, Upd.refl _ _⟩

end Go.Proofs.YtliekndkjjaldaaGreat
