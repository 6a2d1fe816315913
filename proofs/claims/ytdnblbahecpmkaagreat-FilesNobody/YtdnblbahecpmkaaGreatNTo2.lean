/- What walkToNode, walkToNew and Find do. -/
import Derived.Test.YtdnblbahecpmkaaGreatNTo
namespace Go.Proofs.YtdnblbahecpmkaaGreat
open Go.RowKit
set_option linter.unusedVariables false
set_option maxRecDepth 20000

/-- A place that is stored whole into a place of the call's own. -/
theorem plc_fin {w : World} {R : Nat} {z0 z1 z2 : Value} (h : w.heap[R]? = some (.cells #[z0, z1, z2] 121 (0, 0))) (v0 v1 v2 : Value) :
    (((w.setCell ⟨R, 0, none⟩ v0).setCell ⟨R, 1, none⟩ v1).setCell ⟨R, 2, none⟩ v2).heap[R]? = some (.cells #[v0, v1, v2] 121 (0, 0)) ∧
    Upd (· = R) w (((w.setCell ⟨R, 0, none⟩ v0).setCell ⟨R, 1, none⟩ v1).setCell ⟨R, 2, none⟩ v2) := by
  have u1 : Upd (· = R) w (w.setCell ⟨R, 0, none⟩ v0) := Upd.setCell (F := (· = R)) w ⟨_, _, none⟩ _ rfl
  have u2 : Upd (· = R) (w.setCell ⟨R, 0, none⟩ v0) ((w.setCell ⟨R, 0, none⟩ v0).setCell ⟨R, 1, none⟩ v1) := Upd.setCell (F := (· = R)) _ ⟨_, _, none⟩ _ rfl
  have u3 : Upd (· = R) ((w.setCell ⟨R, 0, none⟩ v0).setCell ⟨R, 1, none⟩ v1) (((w.setCell ⟨R, 0, none⟩ v0).setCell ⟨R, 1, none⟩ v1).setCell ⟨R, 2, none⟩ v2) := Upd.setCell (F := (· = R)) _ ⟨_, _, none⟩ _ rfl
  have g1 := heap_setCell_same w R 0 _ _ v0 h
  have g2 := heap_setCell_same _ R 1 _ _ v1 g1
  have g3 := heap_setCell_same _ R 2 _ _ v2 g2
  exact ⟨by rw [g3]; rfl, (u1.trans u2 (fun _ _ h => h)).trans u3 (fun _ _ h => h)⟩
theorem plc_cells {w : World} {R : Nat} {z0 z1 z2 : Value} (h : w.heap[R]? = some (.cells #[z0, z1, z2] 121 (0, 0))) :
    w.cell? ⟨R, 0, none⟩ = some z0 ∧ w.cell? ⟨R, 1, none⟩ = some z1 ∧ w.cell? ⟨R, 2, none⟩ = some z2 ∧ w.frozen? ⟨R, 0, none⟩ = false ∧ w.frozen? ⟨R, 1, none⟩ = false ∧ w.frozen? ⟨R, 2, none⟩ = false := by
  refine ⟨?_, ?_, ?_, ?_, ?_, ?_⟩
  · rw [cell_of_row w _ 0 _ _ _ h]; rfl
  · rw [cell_of_row w _ 1 _ _ _ h]; rfl
  · rw [cell_of_row w _ 2 _ _ _ h]; rfl
  all_goals simp [World.frozen?, h]
theorem own_mono {w : World} {B B' e size n : Nat} {v : Value} {xs : List Value} (h : w.ownsRow B e size v n xs) (hB : B' ≤ B) : w.ownsRow B' e size v n xs := by
  refine ⟨h.1, ?_⟩
  rcases h.2 with hn | ⟨g, cap, cur, rfl, hb, rest⟩
  · exact .inl hn
  · exact .inr ⟨g, cap, cur, rfl, by omega, rest⟩

theorem wk_err (K : Nat → Int) (N : Nat → List UInt8 → Nat) : ∀ (l : List (List UInt8)) (n : Nat) (y0 : List Nat) (e : Int), l ≠ [] → wk K N n y0 l = .error e → e = 2 ∨ e = 20 ∨ e = 22 ∨ e = 36
  | [], _, _, _, hl, _ => absurd rfl hl
  | q :: r, n, y0, e, _, h => by
    by_cases a0 : K n = 0
    · rw [wk_there _ _ _ _ _ _ a0] at h; simp at h; omega
    by_cases a2 : K n = 2
    case neg => rw [wk_dir _ _ _ _ _ _ a0 a2] at h; simp at h; omega
    by_cases a3 : q = []
    · subst a3; rw [wk_none _ _ _ _ _ a2] at h; simp at h; omega
    by_cases a4 : 6 < q.length
    · rw [wk_long _ _ _ _ _ _ a2 a3 a4] at h; simp at h; omega
    cases r with
    | nil => rw [wk_last _ _ _ _ _ a2 a3 a4] at h; simp at h
    | cons z t =>
      rw [wk_on _ _ _ _ _ _ (by simp) a2 a3 a4] at h
      exact wk_err K N (z :: t) _ _ e (by simp) h
theorem wkS_err {S : Sg} {t : ByteArray} {e : Int} (h : wkS S t = .error e) : e = 2 ∨ e = 20 ∨ e = 22 ∨ e = 36 := by
  unfold wkS at h
  split at h
  · exact wk_err _ _ _ _ _ _ (spl_ne _) h
  · simp at h; omega

theorem plc_behind {w2 : World} {R : Nat} {z0 z1 z2 : Value} (h : w2.heap[R]? = some (.cells #[z0, z1, z2] 121 (0, 0))) (x : Obj) : (w2.alloc x).heap[R]? = some (.cells #[z0, z1, z2] 121 (0, 0)) :=
  (((Below.refl _ w2).alloc (Nat.le_refl _) x).block R (Array.getElem?_eq_some_iff.1 h).1).trans h

theorem one_new (w : World) (a : Obj) : Below w.heap.size w (w.alloc a) := (Below.refl _ _).alloc (Nat.le_refl _) _

/-- Systems whose names lead nowhere back. -/
def Tree (S : Sg) : Prop := ∃ rk : Nat → Nat, rk 1 ≤ 16 ∧ ∀ i s, i < 17 → S.N i s ≠ 0 → rk (S.N i s) < rk i

abbrev zPlc : Obj := Obj.cells #[.slice none 0 0, .string ⟨#[]⟩, .int .i64 0] 121

/-- What stands behind the walk's call in all three: the answer's block, the place's block. -/
theorem walk_in (p : Nat) (S : Sg) (t : ByteArray) (w : World) (H : Sy w p S) (hT : Tree S) (hs : t.size ≤ 140737488355328) (x : Obj) :
    Calls Tryz.prog 69 #[.pointer (some ⟨p, 0, none⟩), .string t] (w.alloc x) fun e w' => ∃ v, e = .returned v ∧ Below (w.heap.size + 1) (w.alloc x) w' ∧ Walked w' (w.heap.size + 1) (wkS S t) v := by
  obtain ⟨rk, h1, h2⟩ := hT
  have := walk_any p S t (w.alloc x) (H.grow ((Below.refl _ _).alloc (Nat.le_refl _) _)) rk h1 h2 hs
  rw [show (w.alloc x).heap.size = w.heap.size + 1 by simp] at this
  exact this

set_option maxHeartbeats 4000000 in
set_option maxRecDepth 20000 in
theorem tonode_any (p : Nat) (S : Sg) (t : ByteArray) (w : World) (H : Sy w p S) (hT : Tree S) (hs : t.size ≤ 140737488355328) :
    Calls Tryz.prog 60 #[.pointer (some ⟨p, 0, none⟩), .string t] w fun e w' => ∃ v, e = .returned v ∧ Below w.heap.size w w' ∧ Walked w' w.heap.size (toNode (wkS S t)) v := by
  have k1 := hid (walk_in p S t w H hT hs zPlc)
  have HO := hid (fun y s m => @wkS_ok w p S H t y s m)
  have hn := heap_alloc_new w zPlc
  have hB : Below w.heap.size w (w.alloc zPlc) := (Below.refl _ _).alloc (Nat.le_refl _) _
  have HN := hid hn
  have HBB := hid hB
  clear H hn hB
  go_enter Tryz.func60, Tryz.ntmps60
  go_wp2_with fail
  refine k1.out.mono ?_
  rintro e w2 ⟨v, rfl, hb2, hv⟩
  have hN2 : w2.heap[w.heap.size]? = some (.cells #[.slice none 0 0, .string ⟨#[]⟩, .int .i64 0] 121 (0, 0)) := (hb2.block _ (by omega)).trans HN.out
  have HB2 : Hid (Below w.heap.size w w2) := hid (HBB.out.trans (hb2.mono (by omega)))
  have hs2 : w.heap.size + 1 ≤ w2.heap.size := by have := hb2.size; simpa using this
  clear k1 hb2
  cases hr : wkS S t with
  | error er =>
    rw [hr] at hv
    obtain rfl : v = _ := hv
    have her : ¬ er = 0 := by have := wkS_err hr; omega
    have hN3 := plc_behind hN2 (Obj.cells #[.slice none 0 0, .string ⟨#[]⟩, .int .i64 0] 121)
    obtain ⟨r0, r1, r2, f0, f1, f2⟩ := plc_cells hN3
    have HN3 := hid hN3
    clear hN3 hN2 HO
    go_wp2_with (refine wpList_build_is rfl 121 #[] rfl _ (by simpa [Act.eval] using builtPlc) ?_)
    obtain ⟨q1, q2⟩ := plc_fin HN3.out (.slice none 0 0) (.string ⟨#[]⟩) (.int .i64 0)
    refine bodyPost_ret (cell_result2 rfl _ _ w.heap.size 0 rfl [.slice none 0 0, .string ⟨#[]⟩, .int .i64 0] _ (rangeAt_block q1) Tryz.underlying121 rfl csizePlc) rfl ?_
    refine ⟨_, rfl, HB2.out.trans ((((Below.refl _ w2).alloc (Nat.le_refl _) _).mono HB2.out.size).trans (q2.below (by simp; omega) (fun x hx => by omega))), ?_⟩
    rw [hr]
    rfl
  | ok q =>
    obtain ⟨y, s, n⟩ := q
    rw [hr] at hv
    obtain ⟨u, rfl, yv, nm, rfl, hnm, hown⟩ := hv
    obtain ⟨d, hd, hd17, hdk, hnd, hsn, hsl⟩ := HO.out y s n hr
    obtain ⟨gy, cy, rfl, hy0, hgy, hcy, hyc, hcm⟩ := last_own hown hd
    have HOW := hid hown
    have HNM := hid hnm
    clear HO hnd hsn hsl hd hdk hd17 hown hcy hnm
    by_cases hn0 : n = 0
    · subst hn0
      have hN3 := plc_behind hN2 (Obj.cells #[.slice (some ⟨gy, 0, none⟩) y.length cy, .string nm, .int .i64 0] 121)
      obtain ⟨r0, r1, r2, f0, f1, f2⟩ := plc_cells hN3
      have HN3 := hid hN3
      clear hN3 hN2
      go_wp2_with (refine wpList_build_is rfl 121 #[] rfl _ (by simpa [Act.eval] using builtPlc) ?_)
      obtain ⟨q1, q2⟩ := plc_fin HN3.out (.slice none 0 0) (.string ⟨#[]⟩) (.int .i64 0)
      refine bodyPost_ret (cell_result2 rfl _ _ w.heap.size 0 rfl [.slice none 0 0, .string ⟨#[]⟩, .int .i64 0] _ (rangeAt_block q1) Tryz.underlying121 rfl csizePlc) rfl ?_
      refine ⟨_, rfl, HB2.out.trans ((((Below.refl _ w2).alloc (Nat.le_refl _) _).mono HB2.out.size).trans (q2.below (by simp; omega) (fun x hx => by omega))), ?_⟩
      rw [hr]
      rfl
    · have hn1 : ¬ (n : Int) = 0 := by omega
      have hN3 := plc_behind hN2 (Obj.cells #[.slice (some ⟨gy, 0, none⟩) y.length cy, .string nm, .int .i64 (n : Int)] 121)
      obtain ⟨r0, r1, r2, f0, f1, f2⟩ := plc_cells hN3
      have HN3 := hid hN3
      clear hN3 hN2
      go_wp2_with fail
      obtain ⟨q1, q2⟩ := plc_fin HN3.out (.slice (some ⟨gy, 0, none⟩) y.length cy) (.string nm) (.int .i64 (n : Int))
      refine bodyPost_ret (cell_result2 rfl _ _ w.heap.size 0 rfl [.slice (some ⟨gy, 0, none⟩) y.length cy, .string nm, .int .i64 (n : Int)] _ (rangeAt_block q1) Tryz.underlying121 rfl csizePlc) rfl ?_
      refine ⟨_, rfl, HB2.out.trans ((((Below.refl _ w2).alloc (Nat.le_refl _) _).mono HB2.out.size).trans (q2.below (by simp; omega) (fun x hx => by omega))), ?_⟩
      rw [hr, toNode, if_neg hn0]
      refine ⟨_, rfl, _, _, rfl, HNM.out, own_mono (q2.own (HOW.out.alloc _) (fun k hk e => ?_)) (Nat.le_succ _)⟩
      have := (HOW.out.lt k hk).1
      omega

end Go.Proofs.YtdnblbahecpmkaaGreat
