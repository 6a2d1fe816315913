/- Texts of this seat, merged. -/
import Derived.Test.YtliekndkjjaldaaGreatNMg4

/- What walkToNode, walkToNew and Find do. -/
namespace Go.Proofs.YtliekndkjjaldaaGreat
open Go.RowKit
set_option linter.unusedVariables false
set_option maxRecDepth 20000

/-- A place that is stored whole into a place of the call's own. -/
theorem plc_fin {w : World} {R : Nat} {z0 z1 z2 : Value} (h : w.heap[R]? = some (.cells #[z0, z1, z2] 91 (0, 0))) (v0 v1 v2 : Value) :
    (((w.setCell ⟨R, 0, none⟩ v0).setCell ⟨R, 1, none⟩ v1).setCell ⟨R, 2, none⟩ v2).heap[R]? = some (.cells #[v0, v1, v2] 91 (0, 0)) ∧
    Upd (· = R) w (((w.setCell ⟨R, 0, none⟩ v0).setCell ⟨R, 1, none⟩ v1).setCell ⟨R, 2, none⟩ v2) := by
  have u1 : Upd (· = R) w (w.setCell ⟨R, 0, none⟩ v0) := Upd.setCell (F := (· = R)) w ⟨_, _, none⟩ _ rfl
  have u2 : Upd (· = R) (w.setCell ⟨R, 0, none⟩ v0) ((w.setCell ⟨R, 0, none⟩ v0).setCell ⟨R, 1, none⟩ v1) := Upd.setCell (F := (· = R)) _ ⟨_, _, none⟩ _ rfl
  have u3 : Upd (· = R) ((w.setCell ⟨R, 0, none⟩ v0).setCell ⟨R, 1, none⟩ v1) (((w.setCell ⟨R, 0, none⟩ v0).setCell ⟨R, 1, none⟩ v1).setCell ⟨R, 2, none⟩ v2) := Upd.setCell (F := (· = R)) _ ⟨_, _, none⟩ _ rfl
  have g1 := heap_setCell_same w R 0 _ _ v0 h
  have g2 := heap_setCell_same _ R 1 _ _ v1 g1
  have g3 := heap_setCell_same _ R 2 _ _ v2 g2
  exact ⟨by rw [g3]; rfl, (u1.trans u2 (fun _ _ h => h)).trans u3 (fun _ _ h => h)⟩
theorem plc_cells {w : World} {R : Nat} {z0 z1 z2 : Value} (h : w.heap[R]? = some (.cells #[z0, z1, z2] 91 (0, 0))) :
    w.cell? ⟨R, 0, none⟩ = some z0 ∧ w.cell? ⟨R, 1, none⟩ = some z1 ∧ w.cell? ⟨R, 2, none⟩ = some z2 ∧ w.frozen? ⟨R, 0, none⟩ = false ∧ w.frozen? ⟨R, 1, none⟩ = false ∧ w.frozen? ⟨R, 2, none⟩ = false := by
  refine ⟨?_, ?_, ?_, ?_, ?_, ?_⟩
  · rw [cell_of_row w _ 0 _ _ _ h]; rfl
  · rw [cell_of_row w _ 1 _ _ _ h]; rfl
  · rw [cell_of_row w _ 2 _ _ _ h]; rfl
  all_goals simp [World.frozen?, h]
theorem own_mono {w : World} {B B' e size n : Nat} {v : Value} {xs : List Value} (h : w.ownsRow B e size v n xs) (hB : B' ≤ B) : w.ownsRow B' e size v n xs := by
  refine ⟨h.1, ?_⟩
  rcases h.2 with hn | ⟨g, cap, cur, rfl, hb, rest⟩
  · exact .inl hn
  · exact .inr ⟨g, cap, cur, rfl, by omega, rest⟩

theorem wk_err (K : Nat → Int) (N : Nat → List UInt8 → Nat) : ∀ (l : List (List UInt8)) (n : Nat) (y0 : List Nat) (e : Int), l ≠ [] → wk K N n y0 l = .error e → e = 2 ∨ e = 20 ∨ e = 22 ∨ e = 36
  | [], _, _, _, hl, _ => absurd rfl hl
  | q :: r, n, y0, e, _, h => by
    by_cases a0 : K n = 0
    · rw [wk_there _ _ _ _ _ _ a0] at h; simp at h; omega
    by_cases a2 : K n = 2
    case neg => rw [wk_dir _ _ _ _ _ _ a0 a2] at h; simp at h; omega
    by_cases a3 : q = []
    · subst a3; rw [wk_none _ _ _ _ _ a2] at h; simp at h; omega
    by_cases a4 : 6 < q.length
    · rw [wk_long _ _ _ _ _ _ a2 a3 a4] at h; simp at h; omega
    cases r with
    | nil => rw [wk_last _ _ _ _ _ a2 a3 a4] at h; simp at h
    | cons z t =>
      rw [wk_on _ _ _ _ _ _ (by simp) a2 a3 a4] at h
      exact wk_err K N (z :: t) _ _ e (by simp) h
theorem wkS_err {S : Sg} {t : ByteArray} {e : Int} (h : wkS S t = .error e) : e = 2 ∨ e = 20 ∨ e = 22 ∨ e = 36 := by
  unfold wkS at h
  split at h
  · exact wk_err _ _ _ _ _ _ (spl_ne _) h
  · simp at h; omega

theorem plc_behind {w2 : World} {R : Nat} {z0 z1 z2 : Value} (h : w2.heap[R]? = some (.cells #[z0, z1, z2] 91 (0, 0))) (x : Obj) : (w2.alloc x).heap[R]? = some (.cells #[z0, z1, z2] 91 (0, 0)) :=
  (((Below.refl _ w2).alloc (Nat.le_refl _) x).block R (Array.getElem?_eq_some_iff.1 h).1).trans h

theorem one_new (w : World) (a : Obj) : Below w.heap.size w (w.alloc a) := (Below.refl _ _).alloc (Nat.le_refl _) _

/-- Systems whose names lead nowhere back. -/
def Tree (S : Sg) : Prop := ∃ rk : Nat → Nat, rk 1 ≤ 16 ∧ ∀ i s, i < 17 → S.N i s ≠ 0 → rk (S.N i s) < rk i

abbrev zPlc : Obj := Obj.cells #[.slice none 0 0, .string ⟨#[]⟩, .int .i64 0] 91

/-- What stands behind the walk's call in all three: the answer's block, the place's block. -/
theorem walk_in (p : Nat) (S : Sg) (t : ByteArray) (w : World) (H : Sy w p S) (hT : Tree S) (hs : t.size ≤ 140737488355328) (x : Obj) :
    Calls Tryz.prog 72 #[.pointer (some ⟨p, 0, none⟩), .string t] (w.alloc x) fun e w' => ∃ v, e = .returned v ∧ Below (w.heap.size + 1) (w.alloc x) w' ∧ Walked w' (w.heap.size + 1) (wkS S t) v := by
  obtain ⟨rk, h1, h2⟩ := hT
  have := walk_any p S t (w.alloc x) (H.grow ((Below.refl _ _).alloc (Nat.le_refl _) _)) rk h1 h2 hs
  rw [show (w.alloc x).heap.size = w.heap.size + 1 by simp] at this
  exact this

set_option maxHeartbeats 4000000 in
set_option maxRecDepth 20000 in
theorem tonode_any (p : Nat) (S : Sg) (t : ByteArray) (w : World) (H : Sy w p S) (hT : Tree S) (hs : t.size ≤ 140737488355328) :
    Calls Tryz.prog 54 #[.pointer (some ⟨p, 0, none⟩), .string t] w fun e w' => ∃ v, e = .returned v ∧ Below w.heap.size w w' ∧ Walked w' w.heap.size (toNode (wkS S t)) v := by
  have k1 := hid (walk_in p S t w H hT hs zPlc)
  have HO := hid (fun y s m => @wkS_ok w p S H t y s m)
  have hn := heap_alloc_new w zPlc
  have hB : Below w.heap.size w (w.alloc zPlc) := (Below.refl _ _).alloc (Nat.le_refl _) _
  have HN := hid hn
  have HBB := hid hB
  clear H hn hB
  go_enter Tryz.func54, Tryz.ntmps54
  go_wp2_with fail
  refine k1.out.mono ?_
  rintro e w2 ⟨v, rfl, hb2, hv⟩
  have hN2 : w2.heap[w.heap.size]? = some (.cells #[.slice none 0 0, .string ⟨#[]⟩, .int .i64 0] 91 (0, 0)) := (hb2.block _ (by omega)).trans HN.out
  have HB2 : Hid (Below w.heap.size w w2) := hid (HBB.out.trans (hb2.mono (by omega)))
  have hs2 : w.heap.size + 1 ≤ w2.heap.size := by have := hb2.size; simpa using this
  clear k1 hb2
  cases hr : wkS S t with
  | error er =>
    rw [hr] at hv
    obtain rfl : v = _ := hv
    have her : ¬ er = 0 := by have := wkS_err hr; omega
    have hN3 := plc_behind hN2 (Obj.cells #[.slice none 0 0, .string ⟨#[]⟩, .int .i64 0] 91)
    obtain ⟨r0, r1, r2, f0, f1, f2⟩ := plc_cells hN3
    have HN3 := hid hN3
    clear hN3 hN2 HO
    go_wp2_with (refine wpList_build_is rfl 91 #[] rfl _ (by simpa [Act.eval] using builtPlc) ?_)
    obtain ⟨q1, q2⟩ := plc_fin HN3.out (.slice none 0 0) (.string ⟨#[]⟩) (.int .i64 0)
    refine bodyPost_ret (cell_result2 rfl _ _ w.heap.size 0 rfl [.slice none 0 0, .string ⟨#[]⟩, .int .i64 0] _ (rangeAt_block q1) Tryz.underlying91 rfl csizePlc) rfl ?_
    refine ⟨_, rfl, HB2.out.trans ((((Below.refl _ w2).alloc (Nat.le_refl _) _).mono HB2.out.size).trans (q2.below (by simp; omega) (fun x hx => by omega))), ?_⟩
    rw [hr]
    rfl
  | ok q =>
    obtain ⟨y, s, n⟩ := q
    rw [hr] at hv
    obtain ⟨u, rfl, yv, nm, rfl, hnm, hown⟩ := hv
    obtain ⟨d, hd, hd17, hdk, hnd, hsn, hsl⟩ := HO.out y s n hr
    obtain ⟨gy, cy, rfl, hy0, hgy, hcy, hyc, hcm⟩ := last_own hown hd
    have HOW := hid hown
    have HNM := hid hnm
    clear HO hnd hsn hsl hd hdk hd17 hown hcy hnm
    by_cases hn0 : n = 0
    · subst hn0
      have hN3 := plc_behind hN2 (Obj.cells #[.slice (some ⟨gy, 0, none⟩) y.length cy, .string nm, .int .i64 0] 91)
      obtain ⟨r0, r1, r2, f0, f1, f2⟩ := plc_cells hN3
      have HN3 := hid hN3
      clear hN3 hN2
      go_wp2_with (refine wpList_build_is rfl 91 #[] rfl _ (by simpa [Act.eval] using builtPlc) ?_)
      obtain ⟨q1, q2⟩ := plc_fin HN3.out (.slice none 0 0) (.string ⟨#[]⟩) (.int .i64 0)
      refine bodyPost_ret (cell_result2 rfl _ _ w.heap.size 0 rfl [.slice none 0 0, .string ⟨#[]⟩, .int .i64 0] _ (rangeAt_block q1) Tryz.underlying91 rfl csizePlc) rfl ?_
      refine ⟨_, rfl, HB2.out.trans ((((Below.refl _ w2).alloc (Nat.le_refl _) _).mono HB2.out.size).trans (q2.below (by simp; omega) (fun x hx => by omega))), ?_⟩
      rw [hr]
      rfl
    · have hn1 : ¬ (n : Int) = 0 := by omega
      have hN3 := plc_behind hN2 (Obj.cells #[.slice (some ⟨gy, 0, none⟩) y.length cy, .string nm, .int .i64 (n : Int)] 91)
      obtain ⟨r0, r1, r2, f0, f1, f2⟩ := plc_cells hN3
      have HN3 := hid hN3
      clear hN3 hN2
      go_wp2_with fail
      obtain ⟨q1, q2⟩ := plc_fin HN3.out (.slice (some ⟨gy, 0, none⟩) y.length cy) (.string nm) (.int .i64 (n : Int))
      refine bodyPost_ret (cell_result2 rfl _ _ w.heap.size 0 rfl [.slice (some ⟨gy, 0, none⟩) y.length cy, .string nm, .int .i64 (n : Int)] _ (rangeAt_block q1) Tryz.underlying91 rfl csizePlc) rfl ?_
      refine ⟨_, rfl, HB2.out.trans ((((Below.refl _ w2).alloc (Nat.le_refl _) _).mono HB2.out.size).trans (q2.below (by simp; omega) (fun x hx => by omega))), ?_⟩
      rw [hr, toNode, if_neg hn0]
      refine ⟨_, rfl, _, _, rfl, HNM.out, own_mono (q2.own (HOW.out.alloc _) (fun k hk e => ?_)) (Nat.le_succ _)⟩
      have := (HOW.out.lt k hk).1
      omega

end Go.Proofs.YtliekndkjjaldaaGreat

/- What walkToNew and Find do. -/
namespace Go.Proofs.YtliekndkjjaldaaGreat
open Go.RowKit
set_option linter.unusedVariables false
set_option maxRecDepth 20000

theorem toNode_ok {r : Except Int (List Nat × List UInt8 × Nat)} {y : List Nat} {s : List UInt8} {n : Nat} (h : toNode r = .ok (y, s, n)) : r = .ok (y, s, n) ∧ n ≠ 0 := by
  cases r with
  | error e => simp [toNode] at h
  | ok q =>
    obtain ⟨a, b, c⟩ := q
    simp only [toNode] at h
    split at h
    · simp at h
    · simp only [Except.ok.injEq, Prod.mk.injEq] at h
      obtain ⟨rfl, rfl, rfl⟩ := h
      exact ⟨rfl, by assumption⟩

set_option maxHeartbeats 4000000 in
set_option maxRecDepth 20000 in
theorem find_any (p : Nat) (S : Sg) (t : ByteArray) (w : World) (H : Sy w p S) (hT : Tree S) (hs : t.size ≤ 140737488355328) :
    Calls Tryz.prog 19 #[.pointer (some ⟨p, 0, none⟩), .string t] w fun e w' => e = .returned (.tuple #[.int .i64 ((findS S t).1 : Int), .int .i64 (findS S t).2]) ∧ Below w.heap.size w w' := by
  have k0 := hid H.usable
  have k1 := hid (tonode_any p S t w H hT hs)
  have HO := hid (fun y s m => @wkS_ok w p S H t y s m)
  obtain ⟨R1, R2, gR⟩ : ∃ R1 R2, findS S t = (R1, R2) := ⟨_, _, rfl⟩
  rw [gR]
  show Calls _ _ _ _ fun e w' => e = .returned (.tuple #[.int .i64 (R1 : Int), .int .i64 R2]) ∧ Below w.heap.size w w'
  unfold findS at gR
  clear H
  by_cases h0 : bl t = [47]
  · rw [if_pos h0] at gR
    obtain ⟨rfl, rfl⟩ := Prod.mk.inj gR
    clear gR
    have h3 : (t.toList == [47]) = true := by
      rw [Lib.toList_data]
      simpa [bl] using h0
    clear h0 k1 HO
    go_enter Tryz.func19, Tryz.ntmps19
    go_wp2_with fail
    refine k0.out.mono ?_
    rintro e w1 ⟨rfl, rfl⟩
    clear k0
    go_wp2_with fail
    go_ret2
    exact ⟨rfl, Below.refl _ _⟩
  · rw [if_neg h0] at gR
    have GR := hid gR
    clear gR
    have h3 : (t.toList == [47]) = false := by
      rw [Lib.toList_data]
      simpa [bl] using h0
    clear h0
    go_enter Tryz.func19, Tryz.ntmps19
    go_wp2_with fail
    refine k0.out.mono ?_
    rintro e w1 ⟨rfl, rfl⟩
    clear k0
    go_wp2_with fail
    refine k1.out.mono ?_
    rintro e w2 ⟨v, rfl, hb2, hv⟩
    have HB2 := hid hb2
    clear k1 hb2
    cases hr : toNode (wkS S t) with
    | error er =>
      rw [hr] at hv
      obtain rfl : v = _ := hv
      have HR : Hid (R1 = 0 ∧ R2 = er) := by
        have := GR.out
        rw [hr] at this
        obtain ⟨h1, h2⟩ := Prod.mk.inj this
        exact hid ⟨h1.symm, h2.symm⟩
      clear hr HO GR
      go_wp2_with fail
      go_ret2
      refine ⟨by rw [HR.out.1, HR.out.2]; rfl, ?_⟩
      exact HB2.out.trans ((one_new w2 _).mono HB2.out.size)
    | ok q =>
      obtain ⟨y, s, n⟩ := q
      rw [hr] at hv
      obtain ⟨hr', hn0⟩ := toNode_ok hr
      obtain ⟨u, rfl, yv, nm, rfl, hnm, hown⟩ := hv
      obtain ⟨d, hd, hrest⟩ := HO.out y s n hr'
      have HR : Hid (R1 = n ∧ R2 = 0) := by
        have := GR.out
        rw [hr] at this
        obtain ⟨h1, h2⟩ := Prod.mk.inj this
        exact hid ⟨h1.symm, h2.symm⟩
      clear hrest GR
      obtain ⟨gy, cy, rfl, hy0, hgy, hcy, hyc, hcm⟩ := last_own hown hd
      clear hr HO hr' hnm hown hd hcy
      go_wp2_with fail
      go_ret2
      refine ⟨by rw [HR.out.1, HR.out.2]; rfl, ?_⟩
      exact HB2.out.trans ((one_new w2 _).mono HB2.out.size)

end Go.Proofs.YtliekndkjjaldaaGreat

/- What walkToNew does. -/
namespace Go.Proofs.YtliekndkjjaldaaGreat
open Go.RowKit
set_option linter.unusedVariables false
set_option maxRecDepth 20000

set_option maxHeartbeats 4000000 in
set_option maxRecDepth 20000 in
theorem tonew_any (p : Nat) (S : Sg) (t : ByteArray) (w : World) (H : Sy w p S) (hT : Tree S) (hs : t.size ≤ 140737488355328) :
    Calls Tryz.prog 57 #[.pointer (some ⟨p, 0, none⟩), .string t] w fun e w' => ∃ v, e = .returned v ∧ Below w.heap.size w w' ∧ Walked w' w.heap.size (toNew S.L (wkS S t)) v := by
  have k1 := hid (walk_in p S t w H hT hs zPlc)
  have HO := hid (fun y s m => @wkS_ok w p S H t y s m)
  have HS := hid H
  have hn := heap_alloc_new w zPlc
  have hB : Below w.heap.size w (w.alloc zPlc) := (Below.refl _ _).alloc (Nat.le_refl _) _
  have HN := hid hn
  have HBB := hid hB
  clear H hn hB
  go_enter Tryz.func57, Tryz.ntmps57
  go_wp2_with fail
  refine k1.out.mono ?_
  rintro e w2 ⟨v, rfl, hb2, hv⟩
  have hN2 : w2.heap[w.heap.size]? = some (.cells #[.slice none 0 0, .string ⟨#[]⟩, .int .i64 0] 91 (0, 0)) := (hb2.block _ (by omega)).trans HN.out
  have HB2 : Hid (Below w.heap.size w w2) := hid (HBB.out.trans (hb2.mono (by omega)))
  have hs2 : w.heap.size + 1 ≤ w2.heap.size := by have := hb2.size; simpa using this
  clear k1 hb2
  cases hr : wkS S t with
  | error er =>
    rw [hr] at hv
    obtain rfl : v = _ := hv
    have her : ¬ er = 0 := by have := wkS_err hr; omega
    have hN3 := plc_behind hN2 (Obj.cells #[.slice none 0 0, .string ⟨#[]⟩, .int .i64 0] 91)
    obtain ⟨r0, r1, r2, f0, f1, f2⟩ := plc_cells hN3
    have HN3 := hid hN3
    clear hN3 hN2 HO
    go_wp2_with (refine wpList_build_is rfl 91 #[] rfl _ (by simpa [Act.eval] using builtPlc) ?_)
    obtain ⟨q1, q2⟩ := plc_fin HN3.out (.slice none 0 0) (.string ⟨#[]⟩) (.int .i64 0)
    refine bodyPost_ret (cell_result2 rfl _ _ w.heap.size 0 rfl [.slice none 0 0, .string ⟨#[]⟩, .int .i64 0] _ (rangeAt_block q1) Tryz.underlying91 rfl csizePlc) rfl ?_
    refine ⟨_, rfl, HB2.out.trans ((((Below.refl _ w2).alloc (Nat.le_refl _) _).mono HB2.out.size).trans (q2.below (by simp; omega) (fun x hx => by omega))), ?_⟩
    rw [hr]
    rfl
  | ok q =>
    obtain ⟨y, s, n⟩ := q
    rw [hr] at hv
    obtain ⟨u, rfl, yv, nm, rfl, hnm, hown⟩ := hv
    obtain ⟨d, hd, hd17, hdk, hnd, hsn, hsl⟩ := HO.out y s n hr
    obtain ⟨gy, cy, rfl, hy0, hgy, hcy, hyc, hcm⟩ := last_own hown hd
    have HOW := hid hown
    have HNM := hid hnm
    have HD := hid (And.intro hd (And.intro hd17 hdk))
    have HC := hid hcy
    clear HO hnd hsn hsl hd hdk hd17 hown hcy hnm
    by_cases hn0 : n = 0
    case neg =>
      have hn1 : ¬ (n : Int) = 0 := by omega
      have hN3 := plc_behind hN2 (Obj.cells #[.slice (some ⟨gy, 0, none⟩) y.length cy, .string nm, .int .i64 (n : Int)] 91)
      obtain ⟨r0, r1, r2, f0, f1, f2⟩ := plc_cells hN3
      have HN3 := hid hN3
      clear hN3 hN2
      go_wp2_with (refine wpList_build_is rfl 91 #[] rfl _ (by simpa [Act.eval] using builtPlc) ?_)
      obtain ⟨q1, q2⟩ := plc_fin HN3.out (.slice none 0 0) (.string ⟨#[]⟩) (.int .i64 0)
      refine bodyPost_ret (cell_result2 rfl _ _ w.heap.size 0 rfl [.slice none 0 0, .string ⟨#[]⟩, .int .i64 0] _ (rangeAt_block q1) Tryz.underlying91 rfl csizePlc) rfl ?_
      refine ⟨_, rfl, HB2.out.trans ((((Below.refl _ w2).alloc (Nat.le_refl _) _).mono HB2.out.size).trans (q2.below (by simp; omega) (fun x hx => by omega))), ?_⟩
      rw [hr, toNew, if_pos hn0]
      rfl
    subst hn0
    have hdL : y.getLastD 0 = d := by
      have := HD.out.1
      rw [List.getLastD_eq_getLast?, this]
      rfl
    have hr2 : toNew S.L (wkS S t) = if 6 ≤ S.L d then .error 28 else .ok (y, s, 0) := by
      rw [hr, toNew, if_neg (by simp), hdL]
    have HR2 := hid hr2
    obtain ⟨W3, g3⟩ : ∃ W3, W3 = w2.alloc (Obj.cells #[.slice (some ⟨gy, 0, none⟩) y.length cy, .string nm, .int .i64 0] 91) := ⟨_, rfl⟩
    have hN3 := plc_behind hN2 (Obj.cells #[.slice (some ⟨gy, 0, none⟩) y.length cy, .string nm, .int .i64 0] 91)
    have hP3 := heap_alloc_new w2 (Obj.cells #[.slice (some ⟨gy, 0, none⟩) y.length cy, .string nm, .int .i64 0] 91)
    have hO3 := HOW.out.alloc (Obj.cells #[.slice (some ⟨gy, 0, none⟩) y.length cy, .string nm, .int .i64 0] 91)
    have hB3 : Below w.heap.size w W3 := by rw [g3]; exact HB2.out.trans ((one_new w2 _).mono HB2.out.size)
    have hZ3 : w2.heap.size < W3.heap.size := by rw [g3]; simp
    rw [← g3] at hN3 hP3 hO3
    have hS3 : Sy W3 p S := HS.out.grow hB3
    obtain ⟨a0, a1, a2, b0, b1, b2⟩ := plc_cells hP3
    have hcy3 : W3.cell? ⟨gy, y.length - 1, none⟩ = some (.int .i64 (d : Int)) ∧ gy < W3.heap.size := by
      rw [g3]
      exact ⟨((one_new w2 _).cell (p := ⟨gy, y.length - 1, none⟩) hgy).trans HC.out, Nat.lt_of_lt_of_le hgy (one_new w2 _).size⟩
    have kd : Hid (Calls Tryz.prog 104 #[.agg #[.slice (some ⟨gy, 0, none⟩) y.length cy, .string nm, .int .i64 0]] W3.drew fun e w' => e = .returned (.int .i64 (d : Int)) ∧ Hid (Below W3.heap.size W3 w')) := by
      refine hid ((dir_any W3.drew gy y.length cy d nm 0 hy0 hcy3.1 hcy3.2 hyc hcm).mono ?_)
      rintro e w' ⟨rfl, h⟩
      exact ⟨rfl, hid ((Below.refl _ W3).drew.trans h)⟩
    have hd17 := HD.out.2.1
    have kf : Hid (∀ W, Hid (Below W3.heap.size W3 W) → Calls Tryz.prog 105 #[.pointer (some ⟨p, 1 + d * 107, none⟩)] W fun e w' => e = .returned (.bool (decide (6 ≤ S.L d))) ∧ w' = W) := by
      refine hid (fun W hW => ?_)
      have hS := hS3.grow hW.out
      exact isfull_any p (1 + d * 107) _ _ _ W (hS.m d hd17) (hS.nms d hd17)
    have hd0 : (0 : Int) ≤ (d : Int) := by omega
    have hd1 : (d : Int) < 17 := by omega
    have HN3 := hid hN3
    have HP3 := hid hP3
    have HO3 := hid hO3
    have HB3 := hid hB3
    have HZ3 := hid hZ3
    clear hr hr2 hN2 hdL hS3 hcy3 hN3 hP3 hO3 hB3 hZ3 b0 b1 b2
    go_wp2_with fail
    rw [← g3]
    clear g3
    by_cases h6 : 6 ≤ S.L d
    · rw [if_pos h6] at HR2
      rw [show decide (6 ≤ S.L d) = true by simp [h6]] at kf
      clear h6
      go_region_held3 (fun W => W.cell? ⟨w2.heap.size, 0, none⟩ = some (.slice (some ⟨gy, 0, none⟩) y.length cy) ∧ W.cell? ⟨w2.heap.size, 1, none⟩ = some (.string nm) ∧ W.cell? ⟨w2.heap.size, 2, none⟩ = some (.int .i64 0)) (go_keep) (first | (go_at_call 104; refine kd.out.mono ?_; rintro e w4 ⟨rfl, hb4⟩; have x0 := (hb4.out.cell (p := ⟨w2.heap.size, 0, none⟩) HZ3.out).trans a0; have x1 := (hb4.out.cell (p := ⟨w2.heap.size, 1, none⟩) HZ3.out).trans a1; have x2 := (hb4.out.cell (p := ⟨w2.heap.size, 2, none⟩) HZ3.out).trans a2) | (go_at_call 105; refine (kf.out _ hb4).mono ?_; rintro e w5 ⟨rfl, rfl⟩))
      have hN5 : w5.heap[w.heap.size]? = some (.cells #[.slice none 0 0, .string ⟨#[]⟩, .int .i64 0] 91 (0, 0)) := (hb4.out.block _ (by have := HZ3.out; omega)).trans HN3.out
      obtain ⟨r0, r1, r2, f0, f1, f2⟩ := plc_cells hN5
      have HN5 := hid hN5
      clear hN5 a0 a1 a2 kd kf
      go_wp2_with (refine wpList_build_is rfl 91 #[] rfl _ (by simpa [Act.eval] using builtPlc) ?_)
      obtain ⟨q1, q2⟩ := plc_fin HN5.out (.slice none 0 0) (.string ⟨#[]⟩) (.int .i64 0)
      refine bodyPost_ret (cell_result2 rfl _ _ w.heap.size 0 rfl [.slice none 0 0, .string ⟨#[]⟩, .int .i64 0] _ (rangeAt_block q1) Tryz.underlying91 rfl csizePlc) rfl ?_
      refine ⟨_, rfl, (HB3.out.trans (hb4.out.mono HB3.out.size)).trans (q2.below (by have := hb4.out.size; have := HB3.out.size; omega) (fun x hx => by omega)), ?_⟩
      rw [HR2.out]
      rfl
    · rw [if_neg h6] at HR2
      rw [show decide (6 ≤ S.L d) = false by simp [h6]] at kf
      clear h6
      go_region_held3 (fun W => W.cell? ⟨w2.heap.size, 0, none⟩ = some (.slice (some ⟨gy, 0, none⟩) y.length cy) ∧ W.cell? ⟨w2.heap.size, 1, none⟩ = some (.string nm) ∧ W.cell? ⟨w2.heap.size, 2, none⟩ = some (.int .i64 0)) (go_keep) (first | (go_at_call 104; refine kd.out.mono ?_; rintro e w4 ⟨rfl, hb4⟩; have x0 := (hb4.out.cell (p := ⟨w2.heap.size, 0, none⟩) HZ3.out).trans a0; have x1 := (hb4.out.cell (p := ⟨w2.heap.size, 1, none⟩) HZ3.out).trans a1; have x2 := (hb4.out.cell (p := ⟨w2.heap.size, 2, none⟩) HZ3.out).trans a2) | (go_at_call 105; refine (kf.out _ hb4).mono ?_; rintro e w5 ⟨rfl, rfl⟩))
      have hN5 : w5.heap[w.heap.size]? = some (.cells #[.slice none 0 0, .string ⟨#[]⟩, .int .i64 0] 91 (0, 0)) := (hb4.out.block _ (by have := HZ3.out; omega)).trans HN3.out
      obtain ⟨r0, r1, r2, f0, f1, f2⟩ := plc_cells hN5
      have HN5 := hid hN5
      clear hN5 a0 a1 a2 kd kf
      go_wp2_with (refine wpList_build_is rfl 91 #[] rfl _ (by simpa [Act.eval] using builtPlc) ?_)
      obtain ⟨q1, q2⟩ := plc_fin HN5.out (.slice (some ⟨gy, 0, none⟩) y.length cy) (.string nm) (.int .i64 0)
      refine bodyPost_ret (cell_result2 rfl _ _ w.heap.size 0 rfl [.slice (some ⟨gy, 0, none⟩) y.length cy, .string nm, .int .i64 0] _ (rangeAt_block q1) Tryz.underlying91 rfl csizePlc) rfl ?_
      refine ⟨_, rfl, (HB3.out.trans (hb4.out.mono HB3.out.size)).trans (q2.below (by have := hb4.out.size; have := HB3.out.size; omega) (fun x hx => by omega)), ?_⟩
      rw [HR2.out]
      refine ⟨_, rfl, _, _, rfl, HNM.out, own_mono (q2.own ((Upd.of_below (F := fun _ => False) hb4.out).own HO3.out (fun _ _ h => h)) (fun k hk e => ?_)) (Nat.le_succ _)⟩
      have := (HO3.out.lt k hk).1
      omega

end Go.Proofs.YtliekndkjjaldaaGreat

/- What freeNumber, newNode of a file and give do. -/
namespace Go.Proofs.YtliekndkjjaldaaGreat
open Go.RowKit Go.ChangeMaps Go.MapKept
set_option linter.unusedVariables false
set_option maxRecDepth 20000

/-- The lowest number of 1 to 16 that no node has; 0: there is none. -/
def Free (P : Nat → Nd) (n : Nat) : Prop := (n = 0 ∧ ∀ i, 1 ≤ i → i < 17 → (P i).k ≠ 0) ∨ (1 ≤ n ∧ n < 17 ∧ (P n).k = 0 ∧ ∀ i, 1 ≤ i → i < n → (P i).k ≠ 0)

set_option maxHeartbeats 1000000 in
theorem freen_any (p : Nat) (S : Sg) (w : World) (H : Sy w p S) : Calls Tryz.prog 58 #[.pointer (some ⟨p, 0, none⟩)] w fun e w' => (∃ n : Nat, e = .returned (.int .i64 (n : Int)) ∧ Free S.P n) ∧ w' = w := by
  have HH := hid H
  clear H
  go_enter Tryz.func58, Tryz.ntmps58
  go_wp2_with fail
  go_loopw [3] (fun k wr => ∃ j : Nat, 1 ≤ j ∧ j ≤ 17 ∧ k = .int .i64 (j : Int) ∧ wr = w ∧ Hid (∀ i, 1 ≤ i → i < j → (S.P i).k ≠ 0)) (fun k _ => 17 - (intOf k).toNat)
  case atStart => exact ⟨1, by omega, by omega, rfl, rfl, hid (fun i h1 h2 => by omega)⟩
  case round =>
    obtain ⟨j, hj1, hj17, rfl, rfl, HQ⟩ := hrel
    by_cases e : j = 17
    · subst e
      go_wp2_with fail
      go_ret
      exact ⟨⟨0, rfl, .inl ⟨rfl, fun i h1 h2 => HQ.out i h1 (by omega)⟩⟩, rfl⟩
    · have hj : j < 17 := by omega
      have hj2 : (j : Int) ≤ 16 := by omega
      have hj3 : (j : Int) < 17 := by omega
      have hj0 : (0 : Int) ≤ (j : Int) := by omega
      have k1 := hid (isthere_any p (1 + j * 107) _ wr (HH.out.k j hj))
      by_cases h0 : (S.P j).k = 0
      · rw [show decide ((S.P j).k ≠ 0) = false by simp [h0]] at k1
        have H0 := hid h0
        clear h0 e
        go_wp2_with fail
        refine k1.out.mono ?_
        rintro e w1 ⟨rfl, rfl⟩
        go_wp2_with fail
        go_ret
        exact ⟨⟨j, rfl, .inr ⟨hj1, hj, H0.out, fun i h1 h2 => HQ.out i h1 h2⟩⟩, rfl⟩
      · rw [show decide ((S.P j).k ≠ 0) = true by simp [h0]] at k1
        have H0 := hid h0
        clear h0 e
        go_wp2_with fail
        refine k1.out.mono ?_
        rintro e w1 ⟨rfl, rfl⟩
        go_wp2_with fail
        go_roundw
        case rel => exact ⟨j + 1, by omega, by omega, by go_num, by first | rfl | trivial, hid (fun i h1 h2 => by
          by_cases q : i = j
          · subst q; exact H0.out
          · exact HQ.out i h1 (by omega))⟩
        case measure => simp [intOf]; omega

theorem builtNode1 : Tryz.prog.built 54 [(0, .int .i64 1), (1, .int .i64 1)] = some (nodeC 1 1 (.map none)).toArray := by kernel_rfl

set_option maxHeartbeats 2000000 in
set_option maxRecDepth 20000 in
theorem newfile (w : World) :
    Calls Tryz.prog 17 #[.int .i64 1] w fun e w' => e = .returned (.agg (nodeC 1 1 (.map none)).toArray) ∧ Below w.heap.size w w' := by
  obtain ⟨Z, gZ⟩ : ∃ Z, Z = nodeC 0 0 (.map none) := ⟨_, rfl⟩
  obtain ⟨N0, gN0⟩ : ∃ N0, N0 = nodeC 1 1 (.map none) := ⟨_, rfl⟩
  have HB : Hid (Tryz.prog.built 54 [(0, .int .i64 1), (1, .int .i64 1)] = some N0.toArray) := by rw [gN0]; exact builtNode1
  have HZ : Hid (Tryz.zeroCells54 = Z.toArray) := by rw [gZ]; exact nodeZ
  have lZ : Hid (Z.length = 107) := by rw [gZ]; exact nodeC_len _ _ _
  have l0 : Hid (N0.length = 107) := by rw [gN0]; exact nodeC_len _ _ _
  have o0 : Hid (N0.toArray.all (·.oneCell') = true) := by rw [gN0]; exact nodeC_one _ _ _
  rw [← gN0]
  have S0 : Hid ((Tryz.prog.info? 54).map (·.size) = some N0.toArray.size) := by rw [csizeNode, List.size_toArray, l0.out]; exact hid rfl
  have S0' : Hid ((Tryz.prog.info? 54).map (·.size) = some N0.length) := by rw [csizeNode, l0.out]; exact hid rfl
  clear gZ gN0
  have hW2 : Hid (((w.alloc (.cells Tryz.zeroCells54 54)).alloc (.cells Tryz.zeroCells54 54)).heap[w.heap.size + 1]? = some (.cells Z.toArray 54 (0, 0)) ∧ ((w.alloc (.cells Tryz.zeroCells54 54)).alloc (.cells Tryz.zeroCells54 54)).heap[w.heap.size]? = some (.cells Z.toArray 54 (0, 0)) ∧ ((w.alloc (.cells Tryz.zeroCells54 54)).alloc (.cells Tryz.zeroCells54 54)).heap.size = w.heap.size + 2 ∧ Below w.heap.size w ((w.alloc (.cells Tryz.zeroCells54 54)).alloc (.cells Tryz.zeroCells54 54))) := by
    rw [HZ.out]
    have b1 : Below w.heap.size w (w.alloc (.cells Z.toArray 54)) := (Below.refl _ _).alloc (Nat.le_refl _) _
    have s1 : (w.alloc (.cells Z.toArray 54)).heap.size = w.heap.size + 1 := by simp
    have b2 : Below (w.heap.size + 1) (w.alloc (.cells Z.toArray 54)) ((w.alloc (.cells Z.toArray 54)).alloc (.cells Z.toArray 54)) := by
      have := (Below.refl _ (w.alloc (.cells Z.toArray 54))).alloc (Nat.le_refl _) (.cells Z.toArray 54)
      rwa [s1] at this
    refine ⟨?_, ?_, by simp, b1.trans (b2.mono (by omega))⟩
    · have := heap_alloc_new (w.alloc (.cells Z.toArray 54)) (.cells Z.toArray 54)
      rwa [s1] at this
    · rw [b2.block _ (by omega)]; exact heap_alloc_new w _
  go_enter Tryz.func17, Tryz.ntmps17
  go_wp2_with (first
    | (refine wpList_build_is rfl 54 #[(0, .tmp 4), (1, .const (.int .i64 1))] rfl N0.toArray (by simpa [Act.eval] using HB.out) ?_)
    | (refine wpList_store_mid rfl 54 (.tmp 3) (.tmp 5) rfl (w.heap.size + 1) 0 N0.toArray rfl rfl (there_of_block hW2.out.1 0 _ (by rw [List.size_toArray, lZ.out, l0.out]; omega)) S0.out o0.out ?_
       obtain ⟨W3, g3⟩ : ∃ W3, W3 = ((w.alloc (.cells Tryz.zeroCells54 54)).alloc (.cells Tryz.zeroCells54 54)).setCells (w.heap.size + 1) 0 N0.toArray.toList := ⟨_, rfl⟩
       rw [← g3]
       have H3 : Hid (W3.heap[w.heap.size + 1]? = some (.cells N0.toArray 54 (0, 0)) ∧ W3.heap[w.heap.size]? = some (.cells Z.toArray 54 (0, 0)) ∧ W3.heap.size = w.heap.size + 2 ∧ Below w.heap.size w W3) := by
         have hU3 : Upd (· = w.heap.size + 1) ((w.alloc (.cells Tryz.zeroCells54 54)).alloc (.cells Tryz.zeroCells54 54)) W3 := by rw [g3]; exact upd_setCells _ _ _ _
         refine hid ⟨?_, hU3.heap hW2.out.2.1 (by omega), by rw [g3, size_setCells]; exact hW2.out.2.2.1, hW2.out.2.2.2.trans (hU3.below (by have := hW2.out.2.2.1; omega) (fun x hx => by omega))⟩
         rw [g3, heap_setCells _ 54 _ 0 _ Z hW2.out.1 (by simp [lZ.out, l0.out]), splice_all _ _ (by simp [lZ.out, l0.out])]
       clear g3)
    | (refine wpList_load_mid rfl 54 (.tmp 3) rfl (w.heap.size + 1) 0 rfl N0 _ (rangeAt_block H3.out.1) Tryz.underlying54 rfl S0'.out ?_)
    | (refine wpList_store_mid rfl 54 (.tmp 2) (.tmp 10) rfl w.heap.size 0 N0.toArray rfl rfl (there_of_block H3.out.2.1 0 _ (by rw [List.size_toArray, lZ.out, l0.out]; omega)) S0.out o0.out ?_))
  have h5 := heap_setCells w.heap.size 54 N0 0 _ Z H3.out.2.1 (by rw [lZ.out, l0.out]; omega)
  rw [splice_all _ _ (by rw [lZ.out, l0.out])] at h5
  (try simp only [Exit.inBlock, Exit.then])
  refine bodyPost_ret (cell_result rfl _ _ w.heap.size 0 rfl N0 _ (rangeAt_block h5) Tryz.underlying54 rfl S0'.out) rfl ?_
  have u5 := upd_setCells w.heap.size N0 0 W3
  exact ⟨rfl, H3.out.2.2.2.trans (u5.below (by have := H3.out.2.2.1; omega) (fun x hx => by omega))⟩

end Go.Proofs.YtliekndkjjaldaaGreat

/- What give does: a directory's name names a node. -/
namespace Go.Proofs.YtliekndkjjaldaaGreat
open Go.RowKit Go.ChangeMaps Go.MapKept
set_option linter.unusedVariables false
set_option maxRecDepth 20000

theorem wf17 (n : Nat) (h : n < 17) : (Lit.int .i64 (n : Int)).wf = true := by
  have : ∀ m : Fin 17, (Lit.int .i64 ((m.val : Nat) : Int)).wf = true := by decide
  exact this ⟨n, h⟩

/-- A name more. -/
def Sg.put (S : Sg) (d : Nat) (s : List UInt8) (n : Nat) : Sg := { S with L := fun i => if i = d then S.L d + 1 else S.L i, N := fun i => if i = d then (fun x => if x = s then n else S.N d x) else S.N i }

theorem Sy.give {w w' : World} {p : Nat} {S : Sg} (h : Sy w p S) (d : Nat) (hd : d < 17) (b : Nat) (hb : (S.P d).m = some b) (s : List UInt8) (n : Nat) (hs : S.N d s = 0) (hl : S.L d < 6) (hn : n < 17) (hn0 : n ≠ 0) (D : DataW Unit)
    (h1 : w.ownsMap Tryz.prog 9 (plainElem Tryz.prog 3) b (S.L d) D) (h2 : Maps.size D = S.L d) (h3 : ∀ s, D.atKey (.string s) (.lit (.int .i64 0)) = .lit (.int .i64 (S.N d s : Int))) (h4 : ∀ s, Maps.has D (.string s) = decide (S.N d s ≠ 0))
    (h5 : w'.ownsMap Tryz.prog 9 (plainElem Tryz.prog 3) b (S.L d + 1) (D.put (.string s) (.lit (.int .i64 (n : Int))))) (u : Upd (· = b) w w') : Sy w' p (S.put d s n) := by
  have hbp : b ≠ p := fun e => h.np d hd (e ▸ hb)
  have hT : Maps.Tidy D := h1.tidy (Go.Maps.string_keyed Tryz.underlying9)
  have hM : Maps.IsMap D := hT.isMap
  have hk : WideAt.IsKeyLit (.string s) := by trivial
  obtain ⟨C, hC, hSl⟩ := h.blk
  refine ⟨⟨C, u.heap hC (fun e => hbp e.symm), hSl⟩, fun i hi => ?_, fun i x hi => ?_, fun i hi => ?_, h.ap, h.np, h.dir, h.root, h.zero⟩
  · by_cases e : i = d
    · subst e
      show Nms w' (S.P i).m _ _
      rw [hb]
      simp only [Sg.put, if_true]
      refine ⟨_, h5, ?_, fun x => ?_, fun x => ?_⟩
      · rw [Maps.size_put hT, h4, h2]; simp [hs]
      · by_cases ex : x = s
        · subst ex; rw [Maps.atKey_put_same hM hk]; simp
        · rw [Maps.atKey_put_other (by intro q; injection q with q; exact ex q), h3]; simp [ex]
      · by_cases ex : x = s
        · subst ex; rw [Maps.has_put_same hM hk]; simp [hn0]
        · rw [Maps.has_put_other (by intro q; injection q with q; exact ex q), h4]; simp [ex]
    · show Nms w' (S.P i).m (if i = d then _ else S.L i) (if i = d then _ else S.N i)
      rw [if_neg e, if_neg e]
      refine (h.nms i hi).block (fun c hc => u.block c (h.foot_lt c (.inr ⟨i, hi, hc⟩)) (fun q => e ?_))
      exact h.ap i d c hi hd hc (q ▸ hb)
  · show (if i = d then (fun x => if x = s then n else S.N d x) else S.N i) x < 17
    split
    · dsimp only
      split
      · exact hn
      · exact h.to d x hd
    · exact h.to i x hi
  · show (if i = d then S.L d + 1 else S.L i) ≤ 6
    split
    · omega
    · exact h.le i hi

set_option maxHeartbeats 1000000 in
theorem sclone_any (s : ByteArray) (w : World) (hlim : s.size ≤ 281474976710656) : Calls Tryz.prog 106 #[.string s] w fun e w' => e = .returned (.string s) ∧ Below w.heap.size w w' := by
  have k1 := hid (Tryz.stringslite_Clone s w hlim)
  go_enter Tryz.func106, Tryz.ntmps106
  go_wp2_with fail
  refine k1.out.mono ?_
  rintro e w1 ⟨rfl, hb⟩
  have HB := hid hb
  clear hb k1
  go_wp2_with fail
  go_ret
  exact ⟨rfl, HB.out⟩

set_option maxHeartbeats 4000000 in
set_option maxRecDepth 20000 in
theorem give_any (p : Nat) (S : Sg) (w : World) (H : Sy w p S) (gy ny cy d : Nat) (nm : ByteArray) (m : Int) (n : Nat) (hny : 0 < ny) (hcy : w.cell? ⟨gy, ny - 1, none⟩ = some (.int .i64 (d : Int))) (hgy : gy < w.heap.size) (hyc : ny ≤ cy) (hcm : cy ≤ 9223372036854775807)
    (hd : d < 17) (hk : (S.P d).k = 2) (hs : S.N d (bl nm) = 0) (hl : S.L d < 6) (hn : n < 17) (hn0 : n ≠ 0) (hsz : nm.size ≤ 140737488355328) :
    Calls Tryz.prog 59 #[.pointer (some ⟨p, 0, none⟩), .agg #[.slice (some ⟨gy, 0, none⟩) ny cy, .string nm, .int .i64 m], .int .i64 (n : Int)] w fun e w' => e = .returned (.tuple #[]) ∧ Sy w' p (S.put d (bl nm) n) ∧ Upd (fun x => (S.P d).m = some x) w w' := by
  obtain ⟨b, hb⟩ := Option.isSome_iff_exists.1 (H.dir d hd hk)
  obtain ⟨W1, g1⟩ : ∃ W1, W1 = w.alloc (Obj.cells #[.slice (some ⟨gy, 0, none⟩) ny cy, .string nm, .int .i64 m] 91) := ⟨_, rfl⟩
  have hB1 : Below w.heap.size w W1 := by rw [g1]; exact one_new _ _
  have hZ1 : w.heap.size < W1.heap.size := by rw [g1]; simp
  have hS1 : Sy W1 p S := H.grow hB1
  have hP1 : W1.heap[w.heap.size]? = some (.cells #[.slice (some ⟨gy, 0, none⟩) ny cy, .string nm, .int .i64 m] 91 (0, 0)) := by rw [g1]; exact heap_alloc_new _ _
  obtain ⟨a0, a1, a2, _, _, _⟩ := plc_cells hP1
  have kd : Hid (Calls Tryz.prog 104 #[.agg #[.slice (some ⟨gy, 0, none⟩) ny cy, .string nm, .int .i64 m]] W1.drew fun e w' => e = .returned (.int .i64 (d : Int)) ∧ Hid (Below W1.heap.size W1 w')) := by
    refine hid ((dir_any W1.drew gy ny cy d nm m hny ((hB1.cell (p := ⟨gy, ny - 1, none⟩) hgy).trans hcy) (Nat.lt_of_lt_of_le hgy hB1.size) hyc hcm).mono ?_)
    rintro e w' ⟨rfl, h⟩
    exact ⟨rfl, hid ((Below.refl _ W1).drew.trans h)⟩
  have kc : Hid (∀ W, Hid (Below W1.heap.size W1 W) → Calls Tryz.prog 106 #[.string nm] W fun e w' => e = .returned (.string nm) ∧ Hid (Below W1.heap.size W1 w')) := by
    refine hid (fun W hW => (sclone_any nm W (by omega)).mono ?_)
    rintro e w' ⟨rfl, h⟩
    exact ⟨rfl, hid (hW.out.trans (h.mono hW.out.size))⟩
  have ku : Hid (∀ W, Hid (Below W1.heap.size W1 W) → ∃ W', (Instr.mapUpdate 52 (.map (some b)) (.string nm) (.int .i64 (n : Int))).run Tryz.prog W = .ok () W' ∧ Hid (Sy W' p (S.put d (bl nm) n) ∧ Upd (fun x => (S.P d).m = some x) w W' ∧ (∀ a : Addr, a.block < W.heap.size → a.block ≠ b → W'.cell? a = W.cell? a))) := by
    refine hid (fun W hW => ?_)
    have hS := hS1.grow hW.out
    have hnm := hS.nms d hd
    rw [hb] at hnm
    obtain ⟨D, h1, h2, h3, h4⟩ := hnm
    have hkey : keyOf Tryz.prog 9 (.string nm) = some (.string nm.data.toList) := Go.WideMaps.keyOf_string_mk Tryz.underlying9 (by simp only [maxLen]; omega)
    obtain ⟨W', hr, h5, h6⟩ := h1.store (t := 52) (Go.Maps.string_keyed Tryz.underlying9) Tryz.underlying52 (by simp only [maxLen]; omega) hkey (plainElem_int (H := Unit) Tryz.underlying3 (a := (n : Int)) (wf17 n hn))
    have u : Upd (· = b) W W' := (Upd.of_grown h6.grown).mono (fun x _ hx => by simpa using hx)
    refine ⟨W', hr, hid ⟨hS.give d hd b hb (bl nm) n hs hl hn hn0 D h1 h2 h3 h4 h5 u, ?_, fun a ha hab => World.cell?_of_block (u.block a.block ha hab)⟩⟩
    have ub : Upd (fun x => (S.P d).m = some x) w W := Upd.of_below (hB1.trans (hW.out.mono hB1.size))
    exact ub.trans u (fun x _ hx => by subst hx; exact hb)
  have hm : ∀ W, Hid (Below W1.heap.size W1 W) → W.cell? ⟨p, 1 + d * 107 + 106, none⟩ = some (.map (some b)) := fun W hW => by
    rw [← hb]; exact (hS1.grow hW.out).m d hd
  have hd0 : (0 : Int) ≤ (d : Int) := by omega
  have hd1 : (d : Int) < 17 := by omega
  have HM := hid hm
  have HX : Hid ((∀ W, Hid (Below W1.heap.size W1 W) → w.heap.size < W.heap.size ∧ p < W.heap.size) ∧ w.heap.size ≠ b ∧ p ≠ b) := by
    refine hid ⟨fun W hW => ⟨Nat.lt_of_lt_of_le hZ1 hW.out.size, (hS1.grow hW.out).lt⟩, fun e => ?_, fun e => H.np d hd (e ▸ hb)⟩
    have := H.foot_lt b (.inr ⟨d, hd, hb⟩)
    omega
  have HZ1 := hid hZ1
  have hm0 := hm W1 (hid (Below.refl _ _))
  clear H hb hS1 hP1 hcy hgy hs hl hB1 hk hm hn0
  go_enter Tryz.func59, Tryz.ntmps59
  go_wp2_with fail
  rw [← g1]
  clear g1
  go_region_held3 (fun W => W.cell? ⟨w.heap.size, 0, none⟩ = some (.slice (some ⟨gy, 0, none⟩) ny cy) ∧ W.cell? ⟨w.heap.size, 1, none⟩ = some (.string nm) ∧ W.cell? ⟨w.heap.size, 2, none⟩ = some (.int .i64 m) ∧ W.cell? ⟨p, 1 + d * 107 + 106, none⟩ = some (.map (some b))) (go_keep) (first | (go_at_call 104; refine kd.out.mono ?_; rintro e w4 ⟨rfl, hb4⟩; have x0 := (hb4.out.cell (p := ⟨w.heap.size, 0, none⟩) HZ1.out).trans a0; have x1 := (hb4.out.cell (p := ⟨w.heap.size, 1, none⟩) HZ1.out).trans a1; have x2 := (hb4.out.cell (p := ⟨w.heap.size, 2, none⟩) HZ1.out).trans a2; have x3 := HM.out w4 hb4) | (go_at_call 106; refine (kc.out _ hb4).mono ?_; rintro e w5 ⟨rfl, hb5⟩; have y0 := (hb5.out.cell (p := ⟨w.heap.size, 0, none⟩) HZ1.out).trans a0; have y1 := (hb5.out.cell (p := ⟨w.heap.size, 1, none⟩) HZ1.out).trans a1; have y2 := (hb5.out.cell (p := ⟨w.heap.size, 2, none⟩) HZ1.out).trans a2; have y3 := HM.out w5 hb5; obtain ⟨w6, hup, H6⟩ := ku.out w5 hb5; have z0 := (H6.out.2.2 ⟨w.heap.size, 0, none⟩ (HX.out.1 w5 hb5).1 HX.out.2.1).trans y0; have z1 := (H6.out.2.2 ⟨w.heap.size, 1, none⟩ (HX.out.1 w5 hb5).1 HX.out.2.1).trans y1; have z2 := (H6.out.2.2 ⟨w.heap.size, 2, none⟩ (HX.out.1 w5 hb5).1 HX.out.2.1).trans y2; have z3 := (H6.out.2.2 ⟨p, 1 + d * 107 + 106, none⟩ (HX.out.1 w5 hb5).2 HX.out.2.2).trans y3))
  go_wp2_with fail
  go_end0
  exact ⟨rfl, H6.out.1, H6.out.2.1⟩

end Go.Proofs.YtliekndkjjaldaaGreat
