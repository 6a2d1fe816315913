/- A system with one file under the root; what findOrMake does there. -/
import Derived.Test.YtdnblbahecpmkaaGreatFOpen2
namespace Go.Proofs.YtdnblbahecpmkaaGreat
open Go.RowKit Go.ChangeMaps Go.MapKept
set_option linter.unusedVariables false
set_option maxRecDepth 20000

/-- The root with one file of a name. -/
def oneG (m : Nat) (s : List UInt8) : Sg := ((rootG m).file 2).put 1 s 2

theorem rootG_tree (m : Nat) : Tree (rootG m) := ⟨fun _ => 0, Nat.zero_le _, fun i s _ h => absurd rfl h⟩
theorem rootG_free (m : Nat) : Free (rootG m).P 2 := .inr ⟨by omega, by omega, rfl, fun i h1 h2 => by
  have : i = 1 := by omega
  subst this
  simp [rootG, newNd]⟩

/-- A path of one name. -/
def good (s : List UInt8) : Prop := s ≠ [] ∧ s.length ≤ 6 ∧ (47 : UInt8) ∉ s
theorem upto_none : ∀ s : List UInt8, (47 : UInt8) ∉ s → upto s = s.length
  | [], _ => rfl
  | c :: r, h => by
    simp only [List.mem_cons, not_or] at h
    unfold upto
    rw [if_neg (fun e => h.1 e.symm), upto_none r h.2]
    rfl
theorem spl_good {s : List UInt8} (h : (47 : UInt8) ∉ s) : spl s = [s] := spl_no s (upto_none s h)

theorem wkS_one (S : Sg) (t : ByteArray) (s : List UInt8) (ht : bl t = 47 :: s) (hs : good s) (h1 : (S.P 1).k = 2) : wkS S t = .ok ([1], s, S.N 1 s) := by
  unfold wkS
  rw [if_pos ⟨by rw [ht]; rfl, by rw [ht]; intro e; simp at e; exact hs.1 e⟩, ht]
  show wk _ _ 1 [] (spl s) = _
  rw [spl_good hs.2.2, wk_last _ _ _ _ _ h1 hs.1 (by have := hs.2.1; omega)]
  rfl

theorem oneG_bl (m : Nat) (s : List UInt8) : (oneG m s).bl 2 (newNd 1 none) (fun _ => false) = oneG m s := by
  have : (oneG m s).P 2 = newNd 1 none := rfl
  rw [← this]
  exact Sg.bl_self (oneG m s) 2
theorem oneG_tree (m : Nat) (s : List UInt8) (x : Nd) (T : Nat → Bool) : Tree ((oneG m s).bl 2 x T) := by
  refine ⟨fun i => if i = 1 then 1 else 0, by simp, fun i y hi h => ?_⟩
  have e : (oneG m s).N i y = if i = 1 then (if y = s then 2 else 0) else 0 := by
    show (if i = 1 then (fun y => if y = s then 2 else ((rootG m).file 2).N 1 y) else ((rootG m).file 2).N i) y = _
    by_cases e : i = 1
    · rw [if_pos e, if_pos e]
      rfl
    · rw [if_neg e, if_neg e]
      show (if i = 2 then (fun _ => 0) else (rootG m).N i) y = 0
      split <;> rfl
  change (oneG m s).N i y ≠ 0 at h
  show (if (oneG m s).N i y = 1 then 1 else 0) < if i = 1 then 1 else 0
  rw [e] at h ⊢
  by_cases e1 : i = 1
  · rw [if_pos e1] at h ⊢
    by_cases e2 : y = s
    · simp [e1, e2]
    · simp [e2] at h
  · simp [e1] at h
theorem oneG_root (m : Nat) (s : List UInt8) (x : Nd) (T : Nat → Bool) : (((oneG m s).bl 2 x T).P 1).k = 2 := rfl
theorem oneG_name (m : Nat) (s : List UInt8) (x : Nd) (T : Nat → Bool) : ((oneG m s).bl 2 x T).N 1 s = 2 := by
  show (if 1 = 1 then (fun y => if y = s then 2 else ((rootG m).file 2).N 1 y) else ((rootG m).file 2).N 1) s = 2
  simp

theorem bok_new : Bok (newNd 1 none) (fun _ => false) (need (newNd 1 none).s) := ⟨fun j hj => by simp [need, newNd] at hj, fun i j _ hj => by simp [need, newNd] at hj, by simp [need, newNd, cnt]⟩

theorem foot_root (m p y : Nat) (h : (rootG m).foot p y) : y = p ∨ y = m := by
  rcases h with h | ⟨i, hi, e⟩
  · exact .inl h
  · by_cases q : i = 1
    · subst q; simp [rootG, newNd] at e; exact .inr e.symm
    · simp [rootG, q, noNd] at e
theorem foot_one (m p y : Nat) (s : List UInt8) (h : ((oneG m s).bl 2 (newNd 1 none) (fun _ => false)).foot p y) : y = p ∨ y = m := by
  rw [oneG_bl] at h
  rcases h with h | ⟨i, hi, e⟩
  · exact .inl h
  · change (updN (rootG m).P 2 (newNd 1 none) i).m = some y at e
    by_cases q : i = 2
    · subst q; rw [updN_same] at e; simp [newNd] at e
    · rw [updN_ne _ _ _ _ q] at e
      exact foot_root m p y (.inr ⟨i, hi, e⟩)

set_option maxHeartbeats 2000000 in
set_option maxRecDepth 20000 in
theorem findm_new (w : World) (t p q m : Nat) (H : Fnew w t p q m) (path : ByteArray) (s : List UInt8) (hp : bl path = 47 :: s) (hs : good s) (fl : Int) (hfl : (bits BinOp.and IntKind.i64 fl 8 == 0) = false) :
    Calls Tryz.prog 25 #[.pointer (some ⟨t, 0, none⟩), .string path, .int .i64 fl] w fun e w' => e = .returned (.tuple #[.int .i64 2, .int .i64 0]) ∧ Fw w' t p q (oneG m s) 2 (newNd 1 none) (fun _ => false) (fun _ => noFl) ∧ Upd ((rootG m).foot p) w w' := by
  have hsz : path.size ≤ 140737488355328 := by
    have := bl_len path
    rw [hp] at this
    have := hs.2.1
    simp at *
    omega
  have hw := wkS_one (rootG m) path s hp hs rfl
  have hbn : bl path ≠ [47] := by rw [hp]; intro e; simp at e; exact hs.1 e
  have k1 := find_any p (rootG m) path w H.sy (rootG_tree m) hsz
  rw [show findS (rootG m) path = (0, 2) by unfold findS; rw [if_neg hbn, hw]; rfl] at k1
  have K1 := hid k1
  have cs := H.tf.s
  have HH := hid H
  have K2 : Hid (∀ W, Hid (Below w.heap.size w W) → Calls Tryz.prog 42 #[.pointer (some ⟨p, 0, none⟩), .string path, .int .i64 1] W fun e w' => e = .returned (.tuple #[.int .i64 2, .int .i64 0]) ∧ Hid (Fw w' t p q (oneG m s) 2 (newNd 1 none) (fun _ => false) (fun _ => noFl) ∧ Upd ((rootG m).foot p) w w')) := by
    refine hid (fun W hW => ?_)
    have hr : toNew (rootG m).L (wkS (rootG m) path) = .ok ([1], s, 0) := by rw [hw]; rfl
    have := make_file p (rootG m) path W (H.sy.grow hW.out) (rootG_tree m) hsz 2 (rootG_free m) (by omega)
    rw [hr] at this
    refine this.mono ?_
    rintro e w' ⟨rfl, h1, u⟩
    refine ⟨rfl, hid ⟨⟨by rw [oneG_bl]; exact h1, (H.tf.grow hW.out).upd u (fun h => ?_), fun h => ?_, rfl, by simp [newNd], bok_new⟩, (Upd.of_below (F := (rootG m).foot p) hW.out).trans u (fun _ _ h => h)⟩⟩
    · rcases foot_root m p t h with h | h
      · exact H.tp h
      · exact H.tm h
    · rcases foot_one m p t s h with h | h
      · exact H.tp h
      · exact H.tm h
  clear H k1 hw hbn hp
  go_enter Tryz.func25, Tryz.ntmps25
  go_wp2_with fail
  refine K1.out.mono ?_
  rintro e w2 ⟨rfl, hb2⟩
  have cs2 := (HH.out.tf.grow hb2).s
  have k3 := hid (K2.out w2 (hid hb2))
  clear K1 K2 hb2 cs
  go_wp2_with fail
  refine k3.out.mono ?_
  rintro e w3 ⟨rfl, H3⟩
  clear k3 cs2
  go_wp2_with fail
  go_ret2
  exact ⟨rfl, H3.out.1, H3.out.2⟩

set_option maxHeartbeats 2000000 in
set_option maxRecDepth 20000 in
theorem findm_there (w : World) (t p q m : Nat) (s : List UInt8) (x : Nd) (T : Nat → Bool) (F : Nat → Fl) (H : Fw w t p q (oneG m s) 2 x T F) (path : ByteArray) (hp : bl path = 47 :: s) (hs : good s) (fl : Int) (hfl : (bits BinOp.and IntKind.i64 fl 8 == 0) = true) :
    Calls Tryz.prog 25 #[.pointer (some ⟨t, 0, none⟩), .string path, .int .i64 fl] w fun e w' => e = .returned (.tuple #[.int .i64 2, .int .i64 0]) ∧ Below w.heap.size w w' := by
  have hsz : path.size ≤ 140737488355328 := by
    have := bl_len path
    rw [hp] at this
    have := hs.2.1
    simp at *
    omega
  have hw := wkS_one ((oneG m s).bl 2 x T) path s hp hs (oneG_root m s x T)
  rw [oneG_name] at hw
  have hbn : bl path ≠ [47] := by rw [hp]; intro e; simp at e; exact hs.1 e
  have k1 := find_any p ((oneG m s).bl 2 x T) path w H.sy (oneG_tree m s x T) hsz
  rw [show findS ((oneG m s).bl 2 x T) path = (2, 0) by unfold findS; rw [if_neg hbn, hw]; rfl] at k1
  have K1 := hid k1
  have cs := H.tf.s
  clear H k1 hw hbn hp
  go_enter Tryz.func25, Tryz.ntmps25
  go_wp2_with fail
  refine K1.out.mono ?_
  rintro e w2 ⟨rfl, hb2⟩
  have HB := hid hb2
  clear K1 hb2
  go_wp2_with fail
  go_ret2
  exact ⟨rfl, HB.out⟩

end Go.Proofs.YtdnblbahecpmkaaGreat
