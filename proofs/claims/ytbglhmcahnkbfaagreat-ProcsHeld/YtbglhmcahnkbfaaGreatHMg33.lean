/- Texts of this seat, merged. -/
import Derived.Test.YtbglhmcahnkbfaaGreatHMg27
import Derived.Test.YtbglhmcahnkbfaaGreatHMg26
import Derived.Test.YtbglhmcahnkbfaaGreatHMg21
import Derived.Test.YtbglhmcahnkbfaaGreatHMg22
import Derived.BigQuiet

/- A new node of either kind. -/
namespace Go.Proofs.YtbglhmcahnkbfaaGreat
open Go.RowKit Go.ChangeMaps Go.MapKept
set_option linter.unusedVariables false
set_option maxRecDepth 20000

/-- A new node at a number. -/
def Sg.new (S : Sg) (f : Nat) (k : Int) (mo : Option Nat) : Sg := { S with P := updN S.P f (newNd k mo), L := fun i => if i = f then 0 else S.L i, N := fun i => if i = f then (fun _ => 0) else S.N i }

theorem Sy.new {w : World} {p : Nat} {S : Sg} (h : Sy w p S) (f : Nat) (h1 : f < 17) (h2 : f ≠ 0) (h3 : (S.P f).k = 0) (k : Int) (mo : Option Nat) (hk : k = 2 → mo.isSome = true) (hm : ∀ b, mo = some b → w.heap[b]? = some (.map #[] 0) ∧ b ≠ p ∧ ∀ i, i < 17 → (S.P i).m ≠ some b) : Sy (w.setCells p (1 + f * 107) (nodeC k 1 (.map mo))) p (S.new f k mo) := by
  obtain ⟨C, hb, hc⟩ := h.blk
  have hf1 : f ≠ 1 := fun e => by rw [e, h.root] at h3; omega
  have hl := hc.len
  have hln := nodeC_len k 1 (.map mo)
  have hs : 1 + f * 107 + (nodeC k 1 (.map mo)).length ≤ C.length := by rw [hl, hln]; omega
  have u := upd_setCells p (nodeC k 1 (.map mo)) (1 + f * 107) w
  refine ⟨⟨_, heap_setCells p 150 (nodeC k 1 (.map mo)) _ w C hb hs, hc.put f h1 (newNd k mo) (newNd_ok _ _) (by rw [length_splice _ _ _ hs, hl]) (fun j hj => getElem?_splice_out _ _ _ _ hs (by rw [hln]; omega)) (fun j hj => by rw [ndC_new]; exact getElem?_splice_in C _ (1 + f * 107) j hs (by rw [hln]; exact hj))⟩, ?_, ?_, ?_, ?_, ?_, ?_, ?_, ?_⟩
  · intro i hi
    by_cases e : i = f
    · subst e
      show Nms _ (updN S.P i (newNd k mo) i).m (if i = i then 0 else S.L i) (if i = i then (fun _ => 0) else S.N i)
      rw [updN_same, if_pos rfl, if_pos rfl]
      show Nms _ mo 0 (fun _ => 0)
      cases mo with
      | none => exact ⟨rfl, fun _ => rfl⟩
      | some b =>
        obtain ⟨q1, q2, _⟩ := hm b rfl
        exact nms_empty (c := 0) ((u.block b (Array.getElem?_eq_some_iff.1 q1).1 q2).trans q1)
    · show Nms _ (updN S.P f (newNd k mo) i).m (if i = f then 0 else S.L i) (if i = f then (fun _ => 0) else S.N i)
      rw [updN_ne _ _ _ _ e, if_neg e, if_neg e]
      exact (h.nms i hi).block (fun c hc => u.block c (h.foot_lt c (.inr ⟨i, hi, hc⟩)) (fun q => h.np i hi (q ▸ hc)))
  · intro i s hi
    show (if i = f then (fun _ => 0) else S.N i) s < 17
    split
    · show 0 < 17
      omega
    · exact h.to i s hi
  · intro i hi
    show (if i = f then 0 else S.L i) ≤ 6
    split
    · omega
    · exact h.le i hi
  · intro i j b hi hj q1 q2
    change (updN S.P f (newNd k mo) i).m = some b at q1
    change (updN S.P f (newNd k mo) j).m = some b at q2
    by_cases e : i = f
    · subst e
      rw [updN_same] at q1
      by_cases e' : j = i
      · exact e'.symm
      · rw [updN_ne _ _ _ _ e'] at q2
        exact absurd q2 ((hm b q1).2.2 j hj)
    · by_cases e' : j = f
      · subst e'
        rw [updN_same] at q2
        rw [updN_ne _ _ _ _ e] at q1
        exact absurd q1 ((hm b q2).2.2 i hi)
      · rw [updN_ne _ _ _ _ e] at q1
        rw [updN_ne _ _ _ _ e'] at q2
        exact h.ap i j b hi hj q1 q2
  · intro i hi
    show (updN S.P f (newNd k mo) i).m ≠ some p
    by_cases e : i = f
    · subst e
      rw [updN_same]
      intro q
      exact (hm p q).2.1 rfl
    · rw [updN_ne _ _ _ _ e]; exact h.np i hi
  · intro i hi q
    change (updN S.P f (newNd k mo) i).k = 2 at q
    show (updN S.P f (newNd k mo) i).m.isSome = true
    by_cases e : i = f
    · subst e; rw [updN_same] at q ⊢; exact hk q
    · rw [updN_ne _ _ _ _ e] at q ⊢; exact h.dir i hi q
  · show (updN S.P f (newNd k mo) 1).k = 2
    rw [updN_ne _ _ _ _ (fun e => hf1 e.symm)]; exact h.root
  · show (updN S.P f (newNd k mo) 0).k = 0
    rw [updN_ne _ _ _ _ (fun e => h2 e.symm)]; exact h.zero


theorem Rel.new {S : Sg} {F : Fs} (R : Rel S F) (f : Nat) (k : Int) (mo : Option Nat) (h0 : (F.P f).Q = []) : Rel (S.new f k mo) (F.at_ f (Fn.nu k)) := by
  refine ⟨R.d, R.T, fun j hj => ?_, fun j hj => ?_, fun j hj s => ?_⟩
  · show NdR (updN S.P f (newNd k mo) j) _
    rw [Fs.at_P]
    by_cases e : j = f
    · subst e; rw [updN_same, if_pos rfl]; exact NdR.nu k mo
    · rw [updN_ne _ _ _ _ e, if_neg e]; exact R.P j hj
  · show (if j = f then 0 else S.L j) = _
    rw [Fs.at_P]
    split
    · rfl
    · exact R.L j hj
  · show (if j = f then (fun _ => 0) else S.N j) s = _
    rw [Fs.at_P]
    split
    · rfl
    · exact R.N j hj s

theorem Rel.free {S : Sg} {F : Fs} (R : Rel S F) : Free S.P F.free := by
  unfold Fs.free
  cases q : (List.range' 1 16).find? (fun i => decide ((F.P i).k = 0)) with
  | none =>
    refine .inl ⟨rfl, fun i h1 h2 => ?_⟩
    have := List.find?_eq_none.1 q i (by rw [List.mem_range'_1]; omega)
    rw [(R.P i h2).k]
    simpa using this
  | some i =>
    have h1 := List.find?_some q
    have h2 := List.mem_of_find?_eq_some q
    simp at h1
    rw [List.mem_range'_1] at h2
    refine .inr ⟨by show 1 ≤ i; omega, by show i < 17; omega, by show (S.P i).k = 0; rw [(R.P i (by omega)).k]; exact h1, fun j j1 j2 => ?_⟩
    change j < i at j2
    rw [(R.P j (by omega)).k]
    obtain ⟨_, l1, l2, e, hn⟩ := List.find?_eq_some_iff_append.1 q
    have hj : j ∈ l1 := by
      have hm : j ∈ List.range' 1 16 := by rw [List.mem_range'_1]; omega
      rw [e] at hm
      rcases List.mem_append.1 hm with h | h
      · exact h
      · have hs : (List.range' 1 16).Pairwise (· < ·) := List.pairwise_lt_range'
        rw [e] at hs
        rcases List.mem_cons.1 h with h | h
        · omega
        · have := (List.pairwise_cons.1 (List.pairwise_append.1 hs).2.1).1 j h
          omega
    have := hn j hj
    simpa using this

end Go.Proofs.YtbglhmcahnkbfaaGreat

/- What Make does to any system. -/
namespace Go.Proofs.YtbglhmcahnkbfaaGreat
open Go.RowKit Go.ChangeMaps Go.MapKept
set_option linter.unusedVariables false
set_option maxRecDepth 20000

/-- What Make of a directory comes to. -/
def MadD (S : Sg) (p f : Nat) (w w' : World) (e : Ending) : Except Int (List Nat × List UInt8 × Nat) → Prop
  | .error er => e = .returned (.tuple #[.int .i64 0, .int .i64 er]) ∧ Sy w' p S ∧ Below w.heap.size w w'
  | .ok (y, s, _) => ∃ b, e = .returned (.tuple #[.int .i64 (f : Int), .int .i64 0]) ∧ w.heap.size ≤ b ∧ Sy w' p ((S.new f 2 (some b)).put (y.getLastD 0) s f) ∧ Upd (S.foot p) w w'

set_option maxHeartbeats 8000000 in
set_option maxRecDepth 20000 in
theorem make_dir (p : Nat) (S : Sg) (t : ByteArray) (w : World) (H : Sy w p S) (hT : Tree S) (hs : t.size ≤ 140737488355328) (f : Nat) (hf : Free S.P f) (hf0 : f ≠ 0) :
    Calls Tryz.prog 86 #[.pointer (some ⟨p, 0, none⟩), .string t, .int .i64 2] w fun e w' => MadD S p f w w' e (toNew S.L (wkS S t)) := by
  obtain ⟨R, gR⟩ : ∃ R, R = toNew S.L (wkS S t) := ⟨_, rfl⟩
  rw [← gR]
  have k0 := hid H.usable
  have k1 := hid (tonew_any p S t w H hT hs)
  rw [← gR] at k1
  have HS := hid H
  have hf17 : f < 17 ∧ (S.P f).k = 0 := by
    rcases hf with ⟨e, _⟩ | ⟨_, h2, h3, _⟩
    · exact absurd e hf0
    · exact ⟨h2, h3⟩
  have GR := hid gR
  have HF := hid hf
  clear H gR hf
  go_enter Tryz.func86, Tryz.ntmps86
  go_wp2_with fail
  refine k0.out.mono ?_
  rintro e w1 ⟨rfl, rfl⟩
  clear k0
  go_wp2_with fail
  refine k1.out.mono ?_
  rintro e w2 ⟨v, rfl, hb2, hv⟩
  have HB2 := hid hb2
  clear k1 hb2
  cases R with
  | error er =>
    obtain rfl : v = _ := hv
    have her : ¬ er = 0 := toNew_err GR.out.symm
    go_wp2_with fail
    go_ret2
    exact ⟨rfl, HS.out.grow (HB2.out.trans ((one_new w2 _).mono HB2.out.size)), HB2.out.trans ((one_new w2 _).mono HB2.out.size)⟩
  | ok q =>
    obtain ⟨y, s, n⟩ := q
    obtain ⟨hr, hn0, hL⟩ := toNew_ok GR.out.symm
    obtain ⟨u, rfl, yv, nm, rfl, hnm, hown⟩ := hv
    obtain ⟨d, hd, hd17, hdk, hnd, hsn, hsl⟩ := wkS_ok HS.out hr
    obtain ⟨gy, cy, rfl, hy0, hgy, hcy, hyc, hcm⟩ := last_own hown hd
    have hdL : y.getLastD 0 = d := by rw [List.getLastD_eq_getLast?, hd]; rfl
    rw [hdL] at hL
    subst hn0
    have HNM := hid hnm
    have HD := hid (And.intro hd17 (And.intro hdk (And.intro hnd.symm (And.intro hL (And.intro hdL (And.intro hsl hsn))))))
    have hgb := (hown.lt gy rfl).1
    obtain ⟨W3, g3⟩ : ∃ W3, W3 = w2.alloc (Obj.cells #[.slice (some ⟨gy, 0, none⟩) y.length cy, .string nm, .int .i64 0] 169) := ⟨_, rfl⟩
    have hP3 : W3.heap[w2.heap.size]? = some (.cells #[.slice (some ⟨gy, 0, none⟩) y.length cy, .string nm, .int .i64 0] 169 (0, 0)) := by rw [g3]; exact heap_alloc_new w2 _
    have hB3 : Below w1.heap.size w1 W3 := by rw [g3]; exact HB2.out.trans ((one_new w2 _).mono HB2.out.size)
    have hZ3 : w2.heap.size < W3.heap.size ∧ gy < W3.heap.size := by rw [g3]; simp; omega
    have hC3 : W3.cell? ⟨gy, y.length - 1, none⟩ = some (.int .i64 (d : Int)) := by rw [g3]; exact ((one_new w2 _).cell (p := ⟨gy, y.length - 1, none⟩) hgy).trans hcy
    have hS3 : Sy W3 p S := HS.out.grow hB3
    obtain ⟨bm, gbm⟩ : ∃ bm, bm = W3.heap.size + 2 := ⟨_, rfl⟩
    have GBM := hid gbm
    have HBM : Hid (w1.heap.size ≤ bm ∧ bm ≠ p ∧ ∀ j, j < 17 → (S.P j).m ≠ some bm) := hid ⟨by have := hB3.size; omega, by have := hS3.lt; omega, fun j hj e => by have := hS3.foot_lt _ (.inr ⟨j, hj, e⟩); omega⟩
    clear gbm
    clear hr hnd hsn hsl hd hdk hd17 hown hcy hnm hL hdL
    obtain ⟨a0, a1, a2, _, _, _⟩ := plc_cells hP3
    have hf1 : ¬ (f : Int) = 0 := by omega
    have k3 : Hid (Calls Tryz.prog 108 #[.pointer (some ⟨p, 0, none⟩)] W3 fun e w' => e = .returned (.int .i64 (f : Int)) ∧ w' = W3) := by
      refine hid ((freen_any p S W3 hS3).mono ?_)
      rintro e w' ⟨⟨n, rfl, h⟩, rfl⟩
      rw [h.uniq HF.out]
      exact ⟨rfl, rfl⟩
    obtain ⟨N1, gN⟩ : ∃ N1, N1 = nodeC 2 1 (.map (some bm)) := ⟨_, rfl⟩
    have l1 : Hid (N1.length = 107) := by rw [gN]; exact nodeC_len _ _ _
    have o1 : Hid (N1.toArray.all (·.oneCell') = true) := by rw [gN]; exact nodeC_one _ _ _
    have csz : Hid ((Tryz.prog.info? 144).map (·.size) = some N1.toArray.size) := by rw [csizeNode, List.size_toArray, l1.out]; exact hid rfl
    have kn : Hid (Calls Tryz.prog 92 #[.int .i64 2] W3.drew fun e w' => e = .returned (.agg N1.toArray) ∧ Hid (Below W3.heap.size W3 w') ∧ Hid (w'.heap[bm]? = some (.map #[] 0))) := by
      refine hid ((newnode W3.drew).mono ?_)
      rintro e w' ⟨rfl, h, _, h4⟩
      rw [show W3.drew.heap.size + 2 = bm from GBM.out.symm] at h4 ⊢
      rw [gN]
      exact ⟨rfl, hid ((Below.refl _ W3).drew.trans h), hid h4⟩
    have HP : Hid (∀ W, Hid (Below W3.heap.size W3 W) → W.there p (1 + f * 107) N1.length) := hid (fun W hW => by rw [l1.out]; exact (hS3.grow hW.out).th f hf17.1)
    have hf0' : (0 : Int) ≤ (f : Int) := by omega
    have hf2 : (f : Int) < 17 := by omega
    have HS3 := hid hS3
    have HP3 := hid hP3
    have HB3 := hid hB3
    have HZ3 := hid hZ3
    have HC3 := hid hC3
    have GN := hid gN
    clear hS3 hP3 hB3 hZ3 hC3 gN
    go_wp2_with fail
    rw [← g3]
    clear g3
    refine k3.out.mono ?_
    rintro e w4 ⟨rfl, rfl⟩
    clear k3
    go_wp2_with fail
    go_region_held3 (fun _ => True) (trivial) ((go_at_call 92; refine kn.out.mono ?_; rintro e w5 ⟨rfl, hb5, hm5⟩; have hst := run_cells_mid (P := Tryz.prog) w5 p (1 + f * 107) N1 (HP.out w5 hb5) o1.out))
    obtain ⟨W6, g6⟩ : ∃ W6, W6 = w5.setCells p (1 + f * 107) N1 := ⟨_, rfl⟩
    rw [← g6]
    have hS6 : Sy W6 p (S.new f 2 (some bm)) := by rw [g6, GN.out]; exact (HS3.out.grow hb5.out).new f hf17.1 hf0 hf17.2 2 (some bm) (fun _ => rfl) (fun b hb => by injection hb with hb; subst hb; exact ⟨hm5.out, HBM.out.2.1, HBM.out.2.2⟩)
    have u6 : Upd (· = p) w5 W6 := by rw [g6]; exact upd_setCells _ _ _ _
    have hpl := HS.out.lt
    have hb1s := HB2.out.size
    have hP6 : W6.heap[w2.heap.size]? = some (.cells #[.slice (some ⟨gy, 0, none⟩) y.length cy, .string nm, .int .i64 0] 169 (0, 0)) := u6.heap ((hb5.out.block _ HZ3.out.1).trans HP3.out) (by omega)
    have hC6 : W6.cell? ⟨gy, y.length - 1, none⟩ = some (.int .i64 (d : Int)) := (World.cell?_of_block (a := ⟨gy, y.length - 1, none⟩) (u6.block gy (Nat.lt_of_lt_of_le HZ3.out.2 hb5.out.size) (by omega))).trans ((hb5.out.cell (p := ⟨gy, y.length - 1, none⟩) HZ3.out.2).trans HC3.out)
    have hG6 : gy < W6.heap.size := Nat.lt_of_lt_of_le (Nat.lt_of_lt_of_le HZ3.out.2 hb5.out.size) u6.size
    obtain ⟨d17, dk, dn, dl, dL, dsl, dsn⟩ := HD.out
    have hdf : d ≠ f := fun e => by rw [e, hf17.2] at dk; omega
    have hnmz : nm.size ≤ 6 := by have := bl_len nm; rw [HNM.out] at this; omega
    have k6 := hid (give_any p (S.new f 2 (some bm)) W6 hS6 gy y.length cy d nm 0 f hy0 hC6 hG6 hyc hcm d17 (by show (updN S.P f _ d).k = 2; rw [updN_ne _ _ _ _ hdf]; exact dk) (by show (if d = f then (fun _ => 0) else S.N d) (bl nm) = 0; rw [if_neg hdf, HNM.out]; exact dn) (by show (if d = f then 0 else S.L d) < 6; rw [if_neg hdf]; exact dl) hf17.1 hf0 (by omega))
    have hU6 : Upd (S.foot p) w1 W6 := (Upd.of_below (HB3.out.trans (hb5.out.mono HB3.out.size))).trans u6 (fun x _ hx => .inl hx)
    have HU6 := hid hU6
    have HDF := hid hdf
    obtain ⟨b0, b1, b2, _, _, _⟩ := plc_cells hP6
    have HDL := hid dL
    clear hS6 u6 hP6 hC6 hG6 d17 dk dn dl dL dsl dsn hdf hnmz hU6 g6 a0 a1 a2 hst kn HP hb1s hpl hgb
    go_wp2_with fail
    refine k6.out.mono ?_
    rintro e w7 ⟨rfl, h7, u7⟩
    have H7 := hid h7
    have U7 := hid u7
    clear k6 h7 u7
    go_wp2_with fail
    go_ret2
    refine ⟨bm, rfl, HBM.out.1, ?_, HU6.out.trans U7.out (fun x _ hx => .inr ⟨d, (HD.out).1, ?_⟩)⟩
    · rw [HDL.out, ← HNM.out]; exact H7.out
    · have : ((S.new f 2 (some bm)).P d).m = (S.P d).m := by show (updN S.P f _ d).m = _; rw [updN_ne _ _ _ _ HDF.out]
      rw [← this]; exact hx


end Go.Proofs.YtbglhmcahnkbfaaGreat

/- What Make does to any system, of any kind. -/
namespace Go.Proofs.YtbglhmcahnkbfaaGreat
open Go.RowKit Go.ChangeMaps Go.MapKept
set_option linter.unusedVariables false
set_option maxRecDepth 20000

set_option maxHeartbeats 1000000 in
theorem make_bad (p : Nat) (S : Sg) (t : ByteArray) (w : World) (H : Sy w p S) (kind : Int) (h1 : kind ≠ 1) (h2 : kind ≠ 2) :
    Calls Tryz.prog 86 #[.pointer (some ⟨p, 0, none⟩), .string t, .int .i64 kind] w fun e w' => e = .returned (.tuple #[.int .i64 0, .int .i64 22]) ∧ w' = w := by
  have k0 := hid H.usable
  have h3 : (kind == 1) = false := by simpa using h1
  have h4 : (kind == 2) = false := by simpa using h2
  have h5 : (kind != 1) = true := by simpa using h1
  have h6 : (kind != 2) = true := by simpa using h2
  clear H
  go_enter Tryz.func86, Tryz.ntmps86
  go_wp2_with fail
  refine k0.out.mono ?_
  rintro e w1 ⟨rfl, rfl⟩
  clear k0
  go_wp2_with fail
  go_ret2
  exact ⟨rfl, rfl⟩

set_option maxHeartbeats 1000000 in
theorem make_err (p : Nat) (S : Sg) (t : ByteArray) (w : World) (H : Sy w p S) (hT : Tree S) (hs : t.size ≤ 140737488355328) (kind : Int) (hk : kind = 1 ∨ kind = 2) (er : Int) (hr : toNew S.L (wkS S t) = .error er) :
    Calls Tryz.prog 86 #[.pointer (some ⟨p, 0, none⟩), .string t, .int .i64 kind] w fun e w' => e = .returned (.tuple #[.int .i64 0, .int .i64 er]) ∧ Below w.heap.size w w' := by
  have k0 := hid H.usable
  have k1 := hid (tonew_any p S t w H hT hs)
  rw [hr] at k1
  have her : ¬ er = 0 := toNew_err hr
  clear H hr
  rcases hk with rfl | rfl
  all_goals
    go_enter Tryz.func86, Tryz.ntmps86
    go_wp2_with fail
    refine k0.out.mono ?_
    rintro e w1 ⟨rfl, rfl⟩
    clear k0
    go_wp2_with fail
    refine k1.out.mono ?_
    rintro e w2 ⟨v, rfl, hb2, hv⟩
    have HB2 := hid hb2
    clear k1 hb2
    obtain rfl : v = _ := hv
    go_wp2_with fail
    go_ret2
    exact ⟨rfl, HB2.out.trans ((one_new w2 _).mono HB2.out.size)⟩

set_option maxHeartbeats 2000000 in
theorem make_full1 (p : Nat) (S : Sg) (t : ByteArray) (w : World) (H : Sy w p S) (hT : Tree S) (hs : t.size ≤ 140737488355328) (hf : Free S.P 0) (y : List Nat) (s : List UInt8) (n : Nat) (hr : toNew S.L (wkS S t) = .ok (y, s, n)) (kind : Int) (hk : kind = 1 ∨ kind = 2) :
    Calls Tryz.prog 86 #[.pointer (some ⟨p, 0, none⟩), .string t, .int .i64 kind] w fun e w' => e = .returned (.tuple #[.int .i64 0, .int .i64 28]) ∧ Below w.heap.size w w' := by
  have k0 := hid H.usable
  have k1 := hid (tonew_any p S t w H hT hs)
  rw [hr] at k1
  have HS := hid H
  have HF := hid hf
  obtain ⟨d, HD⟩ : ∃ d, Hid (y.getLast? = some d) := by obtain ⟨d, hd, _⟩ := wkS_ok H (toNew_ok hr).1; exact ⟨d, hid hd⟩
  clear H hf hr
  rcases hk with rfl | rfl
  all_goals
    go_enter Tryz.func86, Tryz.ntmps86
    go_wp2_with fail
    refine k0.out.mono ?_
    rintro e w1 ⟨rfl, rfl⟩
    clear k0
    go_wp2_with fail
    refine k1.out.mono ?_
    rintro e w2 ⟨v, rfl, hb2, hv⟩
    have HB2 := hid hb2
    clear k1 hb2
    obtain ⟨u, rfl, yv, nm, rfl, hnm, hown⟩ := hv
    obtain ⟨gy, cy, rfl, _⟩ := last_own hown HD.out
    obtain ⟨W3, g3⟩ : ∃ W3, W3 = w2.alloc (Obj.cells #[.slice (some ⟨gy, 0, none⟩) y.length cy, .string nm, .int .i64 (n : Int)] 169) := ⟨_, rfl⟩
    have hB3 : Below w1.heap.size w1 W3 := by rw [g3]; exact HB2.out.trans ((one_new w2 _).mono HB2.out.size)
    have k3 : Hid (Calls Tryz.prog 108 #[.pointer (some ⟨p, 0, none⟩)] W3 fun e w' => e = .returned (.int .i64 0) ∧ w' = W3) := by
      refine hid ((freen_any p S W3 (HS.out.grow hB3)).mono ?_)
      rintro e w' ⟨⟨n, rfl, h⟩, rfl⟩
      rw [h.uniq HF.out]
      exact ⟨rfl, rfl⟩
    have HB3 := hid hB3
    clear hB3 hown hnm
    go_wp2_with fail
    rw [← g3]
    clear g3
    refine k3.out.mono ?_
    rintro e w4 ⟨rfl, rfl⟩
    clear k3
    go_wp2_with fail
    go_ret2
    exact ⟨rfl, HB3.out⟩

theorem foot_new {S : Sg} {p f : Nat} {k : Int} {mo : Option Nat} (b : Nat) (h : (S.new f k mo).foot p b) : S.foot p b ∨ mo = some b := by
  rcases h with h | ⟨j, hj, h⟩
  · exact .inl (.inl h)
  · change (updN S.P f (newNd k mo) j).m = some b at h
    by_cases e : j = f
    · subst e; rw [updN_same] at h; exact .inr h
    · rw [updN_ne _ _ _ _ e] at h; exact .inl (.inr ⟨j, hj, h⟩)
theorem pmake (p : Nat) (F : Fs) (G : Nat → Prop) (w : World) (H : Pf w p F G) (hF : FOk F) (t : ByteArray) (hs : t.size ≤ 140737488355328) (kind : Int) :
    Calls Tryz.prog 86 #[.pointer (some ⟨p, 0, none⟩), .string t, .int .i64 kind] w fun e w' => e = .returned (.tuple #[.int .i64 ((F.make (bl t) kind).2.1 : Int), .int .i64 (F.make (bl t) kind).2.2]) ∧ PfTo w p (F.make (bl t) kind).1 G w' := by
  have HP := H
  obtain ⟨S, HS, R, hG⟩ := H
  by_cases hb : kind ≠ 1 ∧ kind ≠ 2
  · have e : F.make (bl t) kind = (F, 0, 22) := by unfold Fs.make; rw [if_pos hb]
    rw [e]
    refine (make_bad p S t w HS kind hb.1 hb.2).mono ?_
    rintro e w' ⟨rfl, rfl⟩
    exact ⟨rfl, PfTo.same HP (Below.refl _ _)⟩
  have hk : kind = 1 ∨ kind = 2 := by omega
  have hT := R.tree hF
  have hN := toNew_fs (t := t) HS R hF
  have hfree := R.free
  cases hr : toNew S.L (wkS S t) with
  | error er =>
    have e : F.make (bl t) kind = (F, 0, er) := by
      rw [hN] at hr
      unfold Fs.make
      rw [if_neg hb]
      cases hw : F.walk (bl t) with
      | error a => rw [hw] at hr; simp only [toNew, Except.error.injEq] at hr; rw [hr]
      | ok q =>
        obtain ⟨y, s, n⟩ := q
        rw [hw] at hr
        simp only [toNew] at hr
        dsimp only
        by_cases h0 : n ≠ 0
        · rw [if_pos h0] at hr ⊢; simp only [Except.error.injEq] at hr; rw [hr]
        · rw [if_neg h0] at hr ⊢
          by_cases h6 : 6 ≤ (F.P (Fs.dirOf y)).Q.length
          · rw [if_pos h6]; rw [if_pos (show 6 ≤ (F.P (y.getLastD 0)).Q.length from h6)] at hr; simp only [Except.error.injEq] at hr; rw [hr]
          · rw [if_neg (show ¬ 6 ≤ (F.P (y.getLastD 0)).Q.length from h6)] at hr; simp at hr
    rw [e]
    refine (make_err p S t w HS hT hs kind hk er hr).mono ?_
    rintro e w' ⟨rfl, h⟩
    exact ⟨rfl, PfTo.same HP h⟩
  | ok q =>
    obtain ⟨y, s, n⟩ := q
    have hr2 := hr
    rw [hN] at hr2
    obtain ⟨hw, hn0, hL⟩ := toNew_ok hr2
    have W := hF.walk_ok hw
    have h6 : ¬ 6 ≤ (F.P (Fs.dirOf y)).Q.length := by have : (F.P (Fs.dirOf y)).Q.length < 6 := hL; omega
    by_cases hf0 : F.free = 0
    · have e : F.make (bl t) kind = (F, 0, 28) := by
        unfold Fs.make
        rw [if_neg hb, hw]
        dsimp only
        rw [if_neg (fun q => q hn0), if_neg h6, if_pos hf0]
      rw [e]
      rw [hf0] at hfree
      refine (make_full1 p S t w HS hT hs hfree y s n hr kind hk).mono ?_
      rintro e w' ⟨rfl, h⟩
      exact ⟨rfl, PfTo.same HP h⟩
    · have e : F.make (bl t) kind = ((F.at_ F.free (Fn.nu kind)).addn (Fs.dirOf y) s F.free, F.free, 0) := by
        unfold Fs.make
        rw [if_neg hb, hw]
        dsimp only
        rw [if_neg (fun q => q hn0), if_neg h6, if_neg hf0]
      rw [e]
      obtain ⟨f1, f2, f3⟩ := Fs.free_lt hf0
      have h0 := hF.none _ f3
      have hdf : Fs.dirOf y ≠ F.free := fun e => by have := W.k; rw [e] at this; omega
      have hFn := hF.new F.free kind f1 f2 f3 hk
      have hs0 : lk (((F.at_ F.free (Fn.nu kind))).P (Fs.dirOf y)).Q s = 0 := by rw [Fs.at_ne _ _ _ _ hdf, ← W.nn]; exact hn0
      rcases hk with rfl | rfl
      · refine (make_file p S t w HS hT hs F.free hfree hf0).mono ?_
        rintro e w' h
        rw [hr] at h
        obtain ⟨rfl, h1, u⟩ := h
        refine ⟨rfl, PfTo.of hG h1 ?_ (fun x hx => ?_) u⟩
        · exact (R.new F.free 1 none (by rw [h0]; rfl)).put hFn _ s F.free hs0
        · rcases foot_new (S := S) (p := p) (f := F.free) (k := 1) (mo := none) x hx with q | q
          · exact .inl q
          · simp at q
      · refine (make_dir p S t w HS hT hs F.free hfree hf0).mono ?_
        rintro e w' h
        rw [hr] at h
        obtain ⟨b, rfl, hbw, h1, u⟩ := h
        refine ⟨rfl, PfTo.of hG h1 ?_ (fun x hx => ?_) u⟩
        · exact (R.new F.free 2 (some b) (by rw [h0]; rfl)).put hFn _ s F.free hs0
        · rcases foot_new (S := S) (p := p) (f := F.free) (k := 2) (mo := some b) x hx with q | q
          · exact .inl q
          · injection q with q; subst q; exact .inr hbw

end Go.Proofs.YtbglhmcahnkbfaaGreat

/- What Rmdir does to any system. -/
namespace Go.Proofs.YtbglhmcahnkbfaaGreat
open Go.RowKit Go.ChangeMaps Go.MapKept
set_option linter.unusedVariables false
set_option maxRecDepth 20000

end Go.Proofs.YtbglhmcahnkbfaaGreat

/- What mayReplace and mayRename tell. -/
namespace Go.Proofs.YtbglhmcahnkbfaaGreat
open Go.RowKit Go.ChangeMaps Go.MapKept
set_option linter.unusedVariables false
set_option maxRecDepth 20000

end Go.Proofs.YtbglhmcahnkbfaaGreat

/- What the program's New of nodes does, with any defects. (Written by gen_np22.py.) -/
namespace Go.Proofs.YtbglhmcahnkbfaaGreat
open Go.RowKit Go.ChangeMaps Go.MapKept
set_option linter.unusedVariables false
set_option maxRecDepth 20000

def sysZd (d : Int) : List Value := .int .i64 d :: ((List.replicate 17 (nodeC 0 0 (.map none))).flatten ++ List.replicate 25 (.bool false))
theorem sysZd_len (d : Int) : (sysZd d).length = 1845 := by
  simp [sysZd, nodeC_len]
theorem builtSysd (d : Int) : Tryz.prog.built 150 [(0, .int .i64 d)] = some (sysZd d).toArray := by kernel_rfl
theorem sysZd_up (d : Int) (j : Nat) : (sysZd d)[j + 1]? = sysZ[j + 1]? := by
  unfold sysZd sysZ
  rw [List.getElem?_cons_succ, List.getElem?_cons_succ]
def sysCd (d : Int) (m : Nat) : List Value := splice (sysZd d) 108 (nodeC 2 1 (.map (some m)))

set_option maxHeartbeats 2000000 in
set_option maxRecDepth 20000 in
theorem nnewd (w : World) (d : Int) :
    Calls Tryz.prog 65 #[.int .i64 d] w fun e w' => e = .returned (.pointer (some ⟨w.heap.size, 0, none⟩)) ∧ w'.heap[w.heap.size]? = some (.cells (sysCd d (w.heap.size + 3)).toArray 150 (0, 0)) ∧ w'.heap[w.heap.size + 3]? = some (.map #[] 0) ∧ Below w.heap.size w w' ∧ w'.heap.size = w.heap.size + 4 := by
  obtain ⟨Z, gZ⟩ : ∃ Z, Z = sysZd d := ⟨_, rfl⟩
  obtain ⟨N1, gN1⟩ : ∃ N1, N1 = nodeC 2 1 (.map (some (w.heap.size + 3))) := ⟨_, rfl⟩
  have HB : Hid (Tryz.prog.built 150 [(0, .int .i64 d)] = some Z.toArray) := by rw [gZ]; exact builtSysd d
  have lZ : Hid (Z.length = 1845) := by rw [gZ]; exact sysZd_len d
  have l1 : Hid (N1.length = 107) := by rw [gN1]; exact nodeC_len _ _ _
  have o1 : Hid (N1.toArray.all (·.oneCell') = true) := by rw [gN1]; exact nodeC_one _ _ _
  have S1 : Hid ((Tryz.prog.info? 144).map (·.size) = some N1.toArray.size) := by rw [csizeNode, List.size_toArray, l1.out]; exact hid rfl
  have hb1 : Below w.heap.size w (w.alloc (.cells Z.toArray 150)) := (Below.refl _ _).alloc (Nat.le_refl _) _
  have hs1 : (w.alloc (.cells Z.toArray 150)).heap.size = w.heap.size + 1 := by simp
  have hh1 : (w.alloc (.cells Z.toArray 150)).heap[w.heap.size]? = some (.cells Z.toArray 150 (0, 0)) := heap_alloc_new w _
  have k1 := newnode (w.alloc (.cells Z.toArray 150)).drew
  have kn : Hid (Calls Tryz.prog 92 #[.int .i64 2] (w.alloc (.cells Z.toArray 150)).drew fun e w' => e = .returned (.agg N1.toArray) ∧ Hid (w'.heap[w.heap.size]? = some (.cells Z.toArray 150 (0, 0))) ∧ Hid (Below w.heap.size w w') ∧ Hid (w'.heap.size = w.heap.size + 4) ∧ Hid (w'.heap[w.heap.size + 3]? = some (.map #[] 0))) := by
    refine hid (k1.mono ?_)
    rintro e w' ⟨rfl, h2, h3, h4⟩
    have hs2 : (w.alloc (.cells Z.toArray 150)).drew.heap.size = w.heap.size + 1 := by simp
    rw [hs2] at h2 h3 h4
    refine ⟨by rw [gN1, hs2], hid ((h2.block _ (by omega)).trans hh1), hid ?_, hid h3, hid h4⟩
    exact (hb1.drew).trans (h2.mono (by omega))
  have GZ := hid gZ
  have GN := hid gN1
  clear gZ gN1 k1 hb1 hh1
  go_enter Tryz.func65, Tryz.ntmps65
  go_wp2_with (refine wpList_build_is rfl 150 #[(0, .tmp 4)] rfl Z.toArray (by simpa [Act.eval] using HB.out) ?_)
  go_region_held3 (fun _ => True) (trivial) ((go_at_call 92; refine kn.out.mono ?_; rintro e w2 ⟨rfl, h2, h3, h4, h5⟩; have hst := run_cells_mid (P := Tryz.prog) w2 w.heap.size 108 N1 (there_of_block h2.out 108 _ (by rw [lZ.out, l1.out]; omega)) o1.out))
  go_wp2_with fail
  go_ret
  have u5 := upd_setCells w.heap.size N1 108 w2
  have h6 := heap_setCells w.heap.size 150 N1 108 w2 Z h2.out (by rw [lZ.out, l1.out]; omega)
  refine ⟨rfl, ?_, (u5.block _ (by have := h4.out; omega) (by omega)).trans h5.out, h3.out.trans (u5.below (by have := h4.out; omega) (fun x hx => by omega)), by rw [size_setCells]; exact h4.out⟩
  rw [sysCd, ← GZ.out, ← GN.out]
  exact h6


theorem Sy.freshd {w : World} {p m : Nat} {d : Int} (hb : w.heap[p]? = some (.cells (sysCd d m).toArray 150 (0, 0))) (hm : w.heap[m]? = some (.map #[] 0)) : Sy w p { rootG m with d := d } := by
  have hne : m ≠ p := by
    intro e; subst e; rw [hb] at hm; simp at hm
  have lz : 108 + (nodeC 2 1 (.map (some m))).length ≤ (sysZd d).length := by rw [sysZd_len, nodeC_len]; omega
  refine ⟨⟨_, hb, ⟨by unfold sysCd; rw [length_splice _ _ _ lz, sysZd_len], ?_, ?_, ?_, ?_⟩⟩, ?_, ?_, ?_, ?_, ?_, ?_, rfl, rfl⟩
  · unfold sysCd; rw [getElem?_splice_out _ _ _ _ lz (by omega)]; rfl
  · intro i hi j hj
    unfold sysCd
    by_cases e : i = 1
    · subst e
      rw [show 1 + 1 * 107 + j = 108 + j by omega, getElem?_splice_in _ _ _ _ lz (by rw [nodeC_len]; exact hj)]
      simp [rootG, ndC_new]
    · rw [getElem?_splice_out _ _ _ _ lz (by rw [nodeC_len]; omega), show 1 + i * 107 + j = (i * 107 + j) + 1 by omega, sysZd_up, show (i * 107 + j) + 1 = 1 + i * 107 + j by omega, sysZ_nd i hi j hj]
      simp [rootG, e, ndC_no]
  · intro b hb
    unfold sysCd
    rw [getElem?_splice_out _ _ _ _ lz (by rw [nodeC_len]; omega), show 1820 + b = (1819 + b) + 1 by omega, sysZd_up, show (1819 + b) + 1 = 1820 + b by omega, sysZ_mk b hb]
    rfl
  · intro i hi
    by_cases e : i = 1
    · simp [rootG, e, newNd_ok]
    · simp [rootG, e, noNd_ok]
  · intro i hi
    by_cases e : i = 1
    · subst e; exact nms_empty hm
    · simp only [rootG, if_neg e]; exact ⟨rfl, fun _ => rfl⟩
  · intro i s hi; simp [rootG]
  · intro i hi; simp [rootG]
  · intro i j b hi hj h1 h2
    by_cases e : i = 1 <;> by_cases e' : j = 1
    · omega
    · simp [rootG, e', noNd] at h2
    · simp [rootG, e, noNd] at h1
    · simp [rootG, e, noNd] at h1
  · intro i hi
    by_cases e : i = 1
    · simp [rootG, e, newNd]; exact hne
    · simp [rootG, e, noNd]
  · intro i hi h
    by_cases e : i = 1
    · simp [rootG, e, newNd]
    · simp [rootG, e, noNd] at h
theorem npnew_any (w : World) (d : Int) : Calls Tryz.prog 65 #[.int .i64 d] w fun e w' => ∃ p, e = .returned (.pointer (some ⟨p, 0, none⟩)) ∧ Pf w' p (rootF d) (fun x => w.heap.size ≤ x) ∧ Below w.heap.size w w' := by
  refine (nnewd w d).mono ?_
  rintro e w' ⟨rfl, h1, h2, h3, h4⟩
  refine ⟨_, rfl, ⟨_, Sy.freshd h1 h2, Rel.root _ d, fun x hx => ?_⟩, h3⟩
  rcases hx with rfl | ⟨i, hi, e⟩
  · exact Nat.le_refl _
  · have e' : (if i = 1 then newNd 2 (some (w.heap.size + 3)) else noNd).m = some x := e
    split at e'
    · simp only [newNd, Option.some.injEq] at e'
      omega
    · simp [noNd] at e'

end Go.Proofs.YtbglhmcahnkbfaaGreat

/- The document's Make. -/
namespace Go.Proofs.YtbglhmcahnkbfaaGreat
open Go.RowKit
set_option linter.unusedVariables false
set_option maxRecDepth 20000

end Go.Proofs.YtbglhmcahnkbfaaGreat

/- The document's Hold, Drop and Link. -/
namespace Go.Proofs.YtbglhmcahnkbfaaGreat
open Go.RowKit
set_option linter.unusedVariables false
set_option maxRecDepth 20000

theorem FOk.l1 {F : Fs} (H : FOk F) (n : Nat) (e : n = 1) : 0 < (F.P n).l := by subst e; rw [(H.dir 1 H.root).2.2]; omega

set_option maxHeartbeats 4000000 in
theorem rhold_any (x g u : Nat) (V : Nat → Value) (F : Fs) (w : World) (H : Rf w x g u V F) (hF : FOk F) (n : Int) :
    Calls Tryz.prog 98 #[.pointer (some ⟨x, 0, none⟩), .int .i64 n] w fun e w' => e = .returned (.int .i64 (F.hold n).2) ∧ RfTo w x g u V (F.hold n).1 w' := by
  have k1 := hid (rthere_any x g u V F w H n)
  obtain ⟨R, gR⟩ : ∃ R, R = F.hold n := ⟨_, rfl⟩
  rw [← gR]
  have HH := hid H
  have HF := hid hF
  by_cases ht : F.there n = false
  · have HR : Hid (R = (F, 2)) := hid (by rw [gR]; unfold Fs.hold; rw [if_pos ht])
    rw [ht] at k1
    clear H hF gR ht
    go_enter Tryz.func98, Tryz.ntmps98
    go_wp2_with fail
    refine k1.out.mono ?_
    rintro e w1 ⟨rfl, rfl⟩
    clear k1
    go_wp2_with fail
    go_ret
    rw [HR.out]
    exact ⟨rfl, HH.out.same (Below.refl _ _)⟩
  · have ht2 : F.there n = true := by simpa using ht
    obtain ⟨i, rfl, i1, i2, i3⟩ := there_is ht2
    rw [ht2] at k1
    have HR : Hid (R = if 1000 ≤ (F.P i).h then (F, 11) else (F.hld i ((F.P i).h + 1), 0)) := hid (by rw [gR]; unfold Fs.hold; rw [if_neg ht]; rfl)
    have c0 := H.c0
    have c1 := H.h i i2
    have c2 := H.frz (i * 6 + 2)
    obtain ⟨h0, h1⟩ := hF.h i
    have H2 := hid (H.hld i i2 ((F.P i).h + 1))
    obtain ⟨h, gh⟩ : ∃ h, h = (F.P i).h := ⟨_, rfl⟩
    rw [← gh] at HR c1 h0 h1 H2
    have n0 : (0 : Int) ≤ (i : Int) := by omega
    have n1 : (i : Int) < 17 := by omega
    have hwr : IntKind.i64.wrap (h + 1) = h + 1 := by rw [IntKind.wrap_i64]; omega
    clear H hF gR ht ht2 gh
    by_cases hh : 1000 ≤ h
    · have HR2 : Hid (R = (F, 11)) := hid (by rw [HR.out, if_pos hh])
      clear HR H2
      go_enter Tryz.func98, Tryz.ntmps98
      go_wp2_with fail
      refine k1.out.mono ?_
      rintro e w1 ⟨rfl, rfl⟩
      clear k1
      go_wp2_with fail
      go_ret
      rw [HR2.out]
      exact ⟨rfl, HH.out.same (Below.refl _ _)⟩
    · have HR2 : Hid (R = (F.hld i (h + 1), 0)) := hid (by rw [HR.out, if_neg hh])
      clear HR
      go_enter Tryz.func98, Tryz.ntmps98
      go_wp2_with fail
      refine k1.out.mono ?_
      rintro e w1 ⟨rfl, rfl⟩
      clear k1
      go_wp2_with fail
      go_ret
      rw [HR2.out]
      exact ⟨rfl, V, H2.out.cell_to⟩

set_option maxHeartbeats 4000000 in
theorem rdrop_any (x g u : Nat) (V : Nat → Value) (F : Fs) (w : World) (H : Rf w x g u V F) (hF : FOk F) (n : Int) :
    Calls Tryz.prog 101 #[.pointer (some ⟨x, 0, none⟩), .int .i64 n] w fun e w' => e = .returned (.int .i64 (F.drop n).2) ∧ RfTo w x g u V (F.drop n).1 w' := by
  have k1 := hid (rthere_any x g u V F w H n)
  obtain ⟨R, gR⟩ : ∃ R, R = F.drop n := ⟨_, rfl⟩
  rw [← gR]
  have HH := hid H
  have HF := hid hF
  by_cases ht : F.there n = false
  · have HR : Hid (R = (F, 2)) := hid (by rw [gR]; unfold Fs.drop; rw [if_pos ht])
    rw [ht] at k1
    clear H hF gR ht
    go_enter Tryz.func101, Tryz.ntmps101
    go_wp2_with fail
    refine k1.out.mono ?_
    rintro e w1 ⟨rfl, rfl⟩
    clear k1
    go_wp2_with fail
    go_ret
    rw [HR.out]
    exact ⟨rfl, HH.out.same (Below.refl _ _)⟩
  · have ht2 : F.there n = true := by simpa using ht
    obtain ⟨i, rfl, i1, i2, i3⟩ := there_is ht2
    rw [ht2] at k1
    have HR : Hid (R = if (F.P i).h = 0 then (F, 22) else ((F.hld i ((F.P i).h - 1)).gone i, 0)) := hid (by rw [gR]; unfold Fs.drop; rw [if_neg ht]; rfl)
    have c0 := H.c0
    have c1 := H.h i i2
    have c2 := H.frz (i * 6 + 2)
    obtain ⟨h0, h1⟩ := hF.h i
    have H2 := hid (H.hld i i2 ((F.P i).h - 1))
    have HB5 := hF.B25 i
    have k2 := hid (rgone_any x g u V _ _ H2.out i i2 (fun e => by rw [Fs.hld_P]; exact hF.l1 i e) (by rw [Fs.hld_P]; exact HB5.1) (by rw [Fs.hld_P]; exact HB5.2))
    obtain ⟨h, gh⟩ : ∃ h, h = (F.P i).h := ⟨_, rfl⟩
    rw [← gh] at HR c1 h0 h1 H2 k2
    have n0 : (0 : Int) ≤ (i : Int) := by omega
    have n1 : (i : Int) < 17 := by omega
    have hwr : IntKind.i64.wrap (h - 1) = h - 1 := by rw [IntKind.wrap_i64]; omega
    clear H hF gR ht ht2 gh HB5
    by_cases hh : h = 0
    · have HR2 : Hid (R = (F, 22)) := hid (by rw [HR.out, if_pos hh])
      clear HR H2 k2
      subst hh
      go_enter Tryz.func101, Tryz.ntmps101
      go_wp2_with fail
      refine k1.out.mono ?_
      rintro e w1 ⟨rfl, rfl⟩
      clear k1
      go_wp2_with fail
      go_ret
      rw [HR2.out]
      exact ⟨rfl, HH.out.same (Below.refl _ _)⟩
    · have HR2 : Hid (R = ((F.hld i (h - 1)).gone i, 0)) := hid (by rw [HR.out, if_neg hh])
      clear HR
      go_enter Tryz.func101, Tryz.ntmps101
      go_wp2_with fail
      refine k1.out.mono ?_
      rintro e w1 ⟨rfl, rfl⟩
      clear k1
      go_wp2_with fail
      refine k2.out.mono ?_
      rintro e w2 ⟨rfl, hT⟩
      have HT := hid hT
      clear k2 hT
      go_wp2_with fail
      go_ret
      rw [HR2.out]
      exact ⟨rfl, RfTo.next H2.out.cell_to HT.out⟩

end Go.Proofs.YtbglhmcahnkbfaaGreat

/- The document's within. -/
namespace Go.Proofs.YtbglhmcahnkbfaaGreat
open Go.RowKit
set_option linter.unusedVariables false
set_option maxRecDepth 20000

end Go.Proofs.YtbglhmcahnkbfaaGreat

/- The document's Rename. (Written by gen_rf18.py.) -/
namespace Go.Proofs.YtbglhmcahnkbfaaGreat
open Go.RowKit
set_option linter.unusedVariables false
set_option maxRecDepth 20000

end Go.Proofs.YtbglhmcahnkbfaaGreat

/- The document's New with any defects. -/
namespace Go.Proofs.YtbglhmcahnkbfaaGreat
open Go.RowKit
set_option linter.unusedVariables false
set_option maxRecDepth 20000

def noU6 : List Value := (madeCells (Value.bool false).cells (25 * 1)).toList
theorem noU6_len : noU6.length = 25 := by simp [noU6, size_madeCells]
theorem noU6_at (b : Nat) (hb : b < 25) : noU6[b]? = some (.bool false) := by
  rcases (show b = 0 ∨ b = 1 ∨ b = 2 ∨ b = 3 ∨ b = 4 ∨ b = 5 ∨ b = 6 ∨ b = 7 ∨ b = 8 ∨ b = 9 ∨ b = 10 ∨ b = 11 ∨ b = 12 ∨ b = 13 ∨ b = 14 ∨ b = 15 ∨ b = 16 ∨ b = 17 ∨ b = 18 ∨ b = 19 ∨ b = 20 ∨ b = 21 ∨ b = 22 ∨ b = 23 ∨ b = 24 by omega) with rfl | rfl | rfl | rfl | rfl | rfl | rfl | rfl | rfl | rfl | rfl | rfl | rfl | rfl | rfl | rfl | rfl | rfl | rfl | rfl | rfl | rfl | rfl | rfl | rfl <;> kernel_rfl
theorem noR6_at (i : Nat) (hi : i < 17) : noR6[i * 6]? = some (.int .i64 0) ∧ noR6[i * 6 + 1]? = some (.int .i64 0) ∧ noR6[i * 6 + 2]? = some (.int .i64 0) ∧ noR6[i * 6 + 3]? = some (.slice none 0 0) ∧ noR6[i * 6 + 4]? = some (.slice none 0 0) ∧ noR6[i * 6 + 5]? = some (.slice none 0 0) := by
  rcases (show i = 0 ∨ i = 1 ∨ i = 2 ∨ i = 3 ∨ i = 4 ∨ i = 5 ∨ i = 6 ∨ i = 7 ∨ i = 8 ∨ i = 9 ∨ i = 10 ∨ i = 11 ∨ i = 12 ∨ i = 13 ∨ i = 14 ∨ i = 15 ∨ i = 16 by omega) with rfl | rfl | rfl | rfl | rfl | rfl | rfl | rfl | rfl | rfl | rfl | rfl | rfl | rfl | rfl | rfl | rfl <;> exact ⟨by kernel_rfl, by kernel_rfl, by kernel_rfl, by kernel_rfl, by kernel_rfl, by kernel_rfl⟩

/-- The root is laid. -/
theorem Rf.made {w : World} {x g u : Nat} {d : Int} (h1 : w.heap[x]? = some (.cells #[.slice (some ⟨g, 0, none⟩) 17 17, .slice (some ⟨u, 0, none⟩) 25 25, .int .i64 d] 119 (0, 0))) (h2 : w.heap[g]? = some (.cells noR6.toArray 122 (0, 0))) (h3 : w.heap[u]? = some (.cells noU6.toArray 4 (0, 0))) (hn : x ≠ g ∧ x ≠ u ∧ g ≠ u)
    {N : List Value} (hN : N = [.int .i64 2, .int .i64 1, .int .i64 0, .slice none 0 0, .slice none 0 0, .slice none 0 0]) : Rf (w.setCells g 6 N) x g u (noV (fun _ => .slice none 0 0) 1) (rootF d) := by
  have H : Rf w x g u (fun _ => .slice none 0 0) ⟨d, fun _ => Fn.no, fun _ => false⟩ :=
    ⟨h1, ⟨noR6, h2, noR6_len, fun i hi => noR6_at i hi⟩, ⟨noU6, h3, noU6_len, fun b hb => noU6_at b hb⟩, fun i hi => World.ownsRow_nil _ _ _ _, fun i hi => World.ownsRow_nil _ _ _ _, fun i hi => World.ownsRow_nil _ _ _ _,
      fun i j b _ _ h => by simp [Value.ownBlock] at h, fun i b _ h => by simp [Value.ownBlock] at h, hn⟩
  rw [hN]
  exact H.node 1 (by omega) (Fn.nu 2) rfl rfl rfl
theorem root_foot {x g u b : Nat} (h : RfFoot x g u (noV (fun _ => Value.slice none 0 0) 1) b) : b = x ∨ b = g ∨ b = u := by
  rcases h with h | h | h | ⟨i, _, h⟩
  · exact .inl h
  · exact .inr (.inl h)
  · exact .inr (.inr h)
  · exact absurd (noV_own h).2 (by simp [Value.ownBlock])

set_option maxHeartbeats 2000000 in
set_option maxRecDepth 20000 in
theorem rnew_any (w : World) (d : Int) :
    Calls Tryz.prog 67 #[.int .i64 d] w fun e w' => ∃ x g u V, e = .returned (.pointer (some ⟨x, 0, none⟩)) ∧ Rf w' x g u V (rootF d) ∧ Below w.heap.size w w' ∧ ∀ b, RfFoot x g u V b → w.heap.size ≤ b := by
  obtain ⟨C, gC⟩ : ∃ C, C = noR6 := ⟨_, rfl⟩
  have hm' : ∀ W : World, (Instr.makeSlice 116 (.int .i64 17) (.int .i64 17)).run Tryz.prog W = .ok (.slice (some ⟨W.heap.size, 0, none⟩) 17 17) (W.alloc (.cells C.toArray 122)) := by
    rw [gC]
    exact made_zs (P := Tryz.prog) 116 122 17 _ _ _ Tryz.underlying116 infoR6 (by omega) (by omega)
  obtain ⟨D, gD⟩ : ∃ D, D = noU6.toArray := ⟨_, rfl⟩
  have hk' : ∀ W : World, (Instr.makeSlice 117 (.int .i64 25) (.int .i64 25)).run Tryz.prog W = .ok (.slice (some ⟨W.heap.size, 0, none⟩) 25 25) (W.alloc (.cells D 4)) := by
    rw [gD, show noU6.toArray = madeCells (Value.bool false).cells (25 * 1) by simp [noU6]]
    exact made_zs (P := Tryz.prog) 117 4 25 _ _ _ Tryz.underlying117 infoR6b (by omega) (by omega)
  have HL : Hid (C.length = 102) := by rw [gC]; exact hid noR6_len
  obtain ⟨N, gN⟩ : ∃ N : List Value, N = [.int .i64 2, .int .i64 1, .int .i64 0, .slice none 0 0, .slice none 0 0, .slice none 0 0] := ⟨_, rfl⟩
  have H1 : Hid (N.toArray.all (·.oneCell') = true) := by rw [gN]; exact hid (by simp [Value.oneCell'])
  have HSZ : Hid ((Tryz.prog.info? 122).map (·.size) = some N.toArray.size) := by rw [gN]; exact hid csizeR6
  have HB : Hid (Tryz.prog.built 122 [(0, .int .i64 2), (1, .int .i64 1)] = some N.toArray) := by rw [gN]; exact hid builtR6
  have HT : Hid (6 = N.toArray.size) := by rw [gN]; exact hid rfl
  have HN := hid gN
  have HC := hid gC
  have HD := hid gD
  clear gN gD gC
  go_enter Tryz.func67, Tryz.ntmps67
  go_wp2_with fail
  go_region_held3 (fun _ => True) (trivial) (fail)
  all_goals go_wp2_with (first
    | (refine wpList_build_is rfl 122 #[(0, .const (.int .i64 2)), (1, .const (.int .i64 1))] rfl N.toArray (by simpa [Act.eval] using HB.out) ?_)
    | (refine wpList_store_mid rfl 122 (.tmp 14) (.tmp 13) rfl w.heap.size 6 N.toArray rfl rfl (by rw [← HT.out]; exact there_of_block (C := C) (t := 122) (by exact first_block w C 122 _ _) 6 6 (by rw [HL.out]; omega)) HSZ.out H1.out ?_)
    | (refine wpList_store_mid rfl 122 (.tmp 14) (.tmp 13) rfl (w.heap.size + 1) 6 N.toArray rfl rfl (by rw [← HT.out]; exact there_of_block (C := C) (t := 122) (by exact second_block w C 122 _ _) 6 6 (by rw [HL.out]; omega)) HSZ.out H1.out ?_))
  all_goals go_ret
  · obtain ⟨W, gW⟩ : ∃ W, W = (((w.alloc (.cells C.toArray 122)).alloc (.cells D 4)).alloc (.cells #[.slice (some ⟨w.heap.size, 0, none⟩) 17 17, .slice (some ⟨w.heap.size + 1, 0, none⟩) 25 25, .int .i64 d] 119)).drew := ⟨_, rfl⟩
    have hb : Below w.heap.size w W := by rw [gW]; exact (three_allocs w _ _ _).drew
    have hp : W.heap[w.heap.size + 2]? = some (.cells #[.slice (some ⟨w.heap.size, 0, none⟩) 17 17, .slice (some ⟨w.heap.size + 1, 0, none⟩) 25 25, .int .i64 d] 119 (0, 0)) := by
      rw [gW]
      have k := heap_alloc_new ((w.alloc (.cells C.toArray 122)).alloc (.cells D 4)) (.cells #[.slice (some ⟨w.heap.size, 0, none⟩) 17 17, .slice (some ⟨w.heap.size + 1, 0, none⟩) 25 25, .int .i64 d] 119)
      rw [show ((w.alloc (.cells C.toArray 122)).alloc (.cells D 4)).heap.size = w.heap.size + 2 by simp] at k
      exact k
    have hq : W.heap[w.heap.size]? = some (.cells noR6.toArray 122 (0, 0)) := by rw [gW, ← HC.out]; exact first_block w C 122 _ _
    have hu : W.heap[w.heap.size + 1]? = some (.cells noU6.toArray 4 (0, 0)) := by rw [gW, HD.out]; exact second_block w noU6 4 _ _
    rw [← gW]
    exact ⟨_, _, _, _, rfl, Rf.made hp hq hu ⟨by omega, by omega, by omega⟩ HN.out, hb.trans ((upd_setCells w.heap.size _ _ _).below hb.size (fun x hx => by omega)), fun b h => by rcases root_foot h with h | h | h <;> omega⟩
  · obtain ⟨W, gW⟩ : ∃ W, W = (((w.alloc (.cells D 4)).alloc (.cells C.toArray 122)).alloc (.cells #[.slice (some ⟨w.heap.size + 1, 0, none⟩) 17 17, .slice (some ⟨w.heap.size, 0, none⟩) 25 25, .int .i64 d] 119)).drew := ⟨_, rfl⟩
    have hb : Below w.heap.size w W := by rw [gW]; exact (three_allocs w _ _ _).drew
    have hp : W.heap[w.heap.size + 2]? = some (.cells #[.slice (some ⟨w.heap.size + 1, 0, none⟩) 17 17, .slice (some ⟨w.heap.size, 0, none⟩) 25 25, .int .i64 d] 119 (0, 0)) := by
      rw [gW]
      have k := heap_alloc_new ((w.alloc (.cells D 4)).alloc (.cells C.toArray 122)) (.cells #[.slice (some ⟨w.heap.size + 1, 0, none⟩) 17 17, .slice (some ⟨w.heap.size, 0, none⟩) 25 25, .int .i64 d] 119)
      rw [show ((w.alloc (.cells D 4)).alloc (.cells C.toArray 122)).heap.size = w.heap.size + 2 by simp] at k
      exact k
    have hq : W.heap[w.heap.size + 1]? = some (.cells noR6.toArray 122 (0, 0)) := by rw [gW, ← HC.out]; exact second_block w C 122 _ _
    have hu : W.heap[w.heap.size]? = some (.cells noU6.toArray 4 (0, 0)) := by rw [gW, HD.out]; exact first_block w noU6 4 _ _
    rw [← gW]
    exact ⟨_, _, _, _, rfl, Rf.made hp hq hu ⟨by omega, by omega, by omega⟩ HN.out, hb.trans ((upd_setCells (w.heap.size + 1) _ _ _).below hb.size (fun x hx => by omega)), fun b h => by rcases root_foot h with h | h | h <;> omega⟩

end Go.Proofs.YtbglhmcahnkbfaaGreat
