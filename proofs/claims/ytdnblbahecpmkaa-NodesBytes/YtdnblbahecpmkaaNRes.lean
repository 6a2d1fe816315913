/- What Resize does to a file that is alone in its system; what a file holds. -/
import Derived.Test.YtdnblbahecpmkaaNCut
import Derived.Test.YtdnblbahecpmkaaFOps3
namespace Go.Proofs.Ytdnblbahecpmkaa
open Go.RowKit Go.ChangeMaps Go.MapKept
set_option linter.unusedVariables false

/-- What a file holds; behind its size there are noughts. -/
def ct (x : Nd) : List Int := x.b.take x.s
def Zok (x : Nd) : Prop := ∀ j, x.s ≤ j → x.b.getD j 0 = 0

theorem ext_getD {l m : List Int} (hl : l.length = m.length) (h : ∀ j, j < l.length → l.getD j 0 = m.getD j 0) : l = m := by
  apply List.ext_getElem hl
  intro j h1 h2
  have := h j h1
  rw [List.getD_eq_getElem?_getD, List.getD_eq_getElem?_getD, List.getElem?_eq_getElem h1, List.getElem?_eq_getElem h2] at this
  exact this
theorem getD_take (l : List Int) (n j : Nat) (h : j < n) : (l.take n).getD j 0 = l.getD j 0 := by
  rw [List.getD_eq_getElem?_getD, List.getElem?_take_of_lt h, List.getD_eq_getElem?_getD]
theorem getD_zeros (n j : Nat) : (List.replicate n (0 : Int)).getD j 0 = 0 := by
  rw [List.getD_eq_getElem?_getD, List.getElem?_replicate]
  split <;> rfl
theorem getD_app (l : List Int) (n j : Nat) : (l ++ List.replicate n (0 : Int)).getD j 0 = if j < l.length then l.getD j 0 else 0 := by
  rw [List.getD_eq_getElem?_getD]
  split
  · rename_i h
    rw [List.getElem?_append_left h, List.getD_eq_getElem?_getD]
  · rename_i h
    rw [List.getElem?_append_right (by omega), ← List.getD_eq_getElem?_getD]
    exact getD_zeros _ _
theorem getD_over (l : List Int) (j : Nat) (h : l.length ≤ j) : l.getD j 0 = 0 := by
  rw [List.getD_eq_getElem?_getD, List.getElem?_eq_none h]; rfl
theorem ct_len {x : Nd} (hb : x.b.length = 96) (hs : x.s ≤ 96) : (ct x).length = x.s := by simp [ct, hb]; omega

/-- A file of another size. -/
theorem ct_grow {x x' : Nd} (hb : x.b.length = 96) (hs : x.s ≤ 96) (hz : Zok x) (z : Nat) (h1 : x.s ≤ z) (h2 : z ≤ 96) (e1 : x'.s = z) (e2 : x'.b = x.b) : ct x' = (ct x ++ List.replicate (z - x.s) 0).take z ∧ Zok x' := by
  have hl := ct_len hb hs
  refine ⟨ext_getD ?_ (fun j hj => ?_), fun j hj => by rw [e2]; exact hz j (by omega)⟩
  · simp [ct, e1, e2, hb] ; omega
  · have hj' : j < z := by simp [ct, e1, e2, hb] at hj; omega
    unfold ct at hl ⊢
    rw [e1, e2, getD_take _ _ _ hj', getD_take _ _ _ hj', getD_app, hl]
    by_cases q : j < x.s
    · rw [if_pos q, getD_take _ _ _ q]
    · rw [if_neg q]; exact hz j (by omega)
theorem ct_cut {x x' : Nd} (hb : x.b.length = 96) (hs : x.s ≤ 96) (z : Nat) (h1 : z < x.s) (e1 : x'.s = z) (e2 : x'.b = splice x.b z (List.replicate (96 - z) 0)) : ct x' = (ct x ++ List.replicate (z - x.s) 0).take z ∧ Zok x' := by
  have hl := ct_len hb hs
  have hfit : z + (List.replicate (96 - z) (0 : Int)).length ≤ x.b.length := by simp [hb]; omega
  have hsl : (splice x.b z (List.replicate (96 - z) 0)).length = 96 := by rw [length_splice _ _ _ hfit, hb]
  refine ⟨ext_getD ?_ (fun j hj => ?_), fun j hj => ?_⟩
  · unfold ct at hl ⊢
    rw [e1, e2, List.length_take, hsl, List.length_take, List.length_append, hl]
    simp
    omega
  · have hj' : j < z := by unfold ct at hj; rw [e1, List.length_take] at hj; omega
    unfold ct at hl ⊢
    rw [e1, e2, getD_take _ _ _ hj', getD_take _ _ _ hj', getD_app, hl, if_pos (by omega), getD_take _ _ _ (by omega), getD_splice_out _ _ _ _ hfit (by omega)]
  · rw [e1] at hj
    rw [e2]
    by_cases q : j < 96
    · obtain ⟨k, rfl⟩ : ∃ k, j = z + k := ⟨j - z, by omega⟩
      rw [getD_splice_in _ _ _ _ hfit (by simp; omega)]
      exact getD_zeros _ _
    · exact getD_over _ _ (by omega)
theorem ct_wrote {x : Nd} (hb : x.b.length = 96) (hs : x.s ≤ 96) (hz : Zok x) (off : Nat) (zs B : List Int) (h0 : 0 < zs.length) (h1 : off + zs.length ≤ 96) :
    ct (wrote x off zs B) = splice (ct x ++ List.replicate (off + zs.length - x.s) 0) off zs ∧ Zok (wrote x off zs B) ∧ (wrote x off zs B).s = max x.s (off + zs.length) := by
  have hl := ct_len hb hs
  have es : (wrote x off zs B).s = max x.s (off + zs.length) := by show (if zs.length = 0 then x.s else _) = _; rw [if_neg (by omega)]
  have eb : (wrote x off zs B).b = splice x.b off zs := rfl
  have hfit : off + zs.length ≤ x.b.length := by rw [hb]; exact h1
  have hfit2 : off + zs.length ≤ (ct x ++ List.replicate (off + zs.length - x.s) (0 : Int)).length := by simp [hl]; omega
  refine ⟨ext_getD ?_ (fun j hj => ?_), fun j hj => ?_, es⟩
  · rw [length_splice _ _ _ hfit2]
    show ((wrote x off zs B).b.take (wrote x off zs B).s).length = _
    rw [es, eb, List.length_take, length_splice _ _ _ hfit, hb]
    simp [hl]
    omega
  · have hj' : j < max x.s (off + zs.length) := by
      have : (ct (wrote x off zs B)).length ≤ (wrote x off zs B).s := by simp [ct]; omega
      omega
    show ((wrote x off zs B).b.take (wrote x off zs B).s).getD j 0 = _
    rw [es, eb, getD_take _ _ _ hj']
    by_cases q : off ≤ j ∧ j < off + zs.length
    · obtain ⟨k, rfl⟩ : ∃ k, j = off + k := ⟨j - off, by omega⟩
      rw [getD_splice_in _ _ _ _ hfit (by omega), getD_splice_in _ _ _ _ hfit2 (by omega)]
    · rw [getD_splice_out _ _ _ _ hfit (by omega), getD_splice_out _ _ _ _ hfit2 (by omega), getD_app, hl]
      by_cases r : j < x.s
      · rw [if_pos r]; exact (getD_take _ _ _ r).symm
      · rw [if_neg r]; exact hz j (by omega)
  · rw [es] at hj
    rw [eb, getD_splice_out _ _ _ _ hfit (by omega)]
    exact hz j (by omega)

/-- A file alone in its system, with what it holds. -/
structure Fil (w : World) (p : Nat) (S : Sg) (x : Nd) (T : Nat → Bool) : Prop where
  sy : Sy w p (S.bl 2 x T)
  k : x.k = 1
  l : x.l = 1
  s : x.s ≤ 96
  B : Bok x T (need x.s)
  z : Zok x
  m : x.m = none
theorem Fil.b {w : World} {p : Nat} {S : Sg} {x : Nd} {T : Nat → Bool} (h : Fil w p S x T) : x.b.length = 96 := by
  have := (h.sy.ok 2 (by omega)).b
  rw [show (S.bl 2 x T).P 2 = x from rfl] at this
  exact this

set_option maxHeartbeats 2000000 in
theorem resize_bad (p : Nat) (S : Sg) (w : World) (x : Nd) (T : Nat → Bool) (H : Fil w p S x T) (z : Int) (hz : z < 0 ∨ 96 < z) :
    Calls Try.prog 9 #[.pointer (some ⟨p, 0, none⟩), .int .i64 2, .int .i64 z] w fun e w' => (∃ er : Int, e = .returned (.int .i64 er) ∧ er ≠ 0) ∧ w' = w := by
  have k1 := hid (file_yes p (S.bl 2 x T) w H.sy 2 (by omega) (by omega) (by rw [show (S.bl 2 x T).P 2 = x from rfl]; exact H.k))
  clear H
  rcases hz with h | h
  · go_enter Try.func9, Try.ntmps9
    go_wp2_with fail
    refine k1.out.mono ?_
    rintro e w1 ⟨rfl, rfl⟩
    go_wp2_with fail
    go_ret
    exact ⟨⟨22, rfl, by omega⟩, rfl⟩
  · have h0 : ¬ z < 0 := by omega
    go_enter Try.func9, Try.ntmps9
    go_wp2_with fail
    refine k1.out.mono ?_
    rintro e w1 ⟨rfl, rfl⟩
    go_wp2_with fail
    go_ret
    exact ⟨⟨27, rfl, by omega⟩, rfl⟩

set_option maxHeartbeats 4000000 in
set_option maxRecDepth 20000 in
theorem resize_ok (p : Nat) (S : Sg) (w : World) (x : Nd) (T : Nat → Bool) (H : Fil w p S x T) (hd : S.d = 0) (z : Nat) (hz : z ≤ 96) :
    Calls Try.prog 9 #[.pointer (some ⟨p, 0, none⟩), .int .i64 2, .int .i64 (z : Int)] w fun e w' => e = .returned (.int .i64 0) ∧ (∃ x' T', Fil w' p S x' T' ∧ x'.s = z ∧ ct x' = (ct x ++ List.replicate (z - x.s) 0).take z) ∧ Upd (· = p) w w' := by
  have hP : (S.bl 2 x T).P 2 = x := rfl
  have k1 := hid (file_yes p (S.bl 2 x T) w H.sy 2 (by omega) (by omega) (by rw [hP]; exact H.k))
  have c3 := H.sy.s 2 (by omega)
  rw [hP] at c3
  have a1 : ¬ (z : Int) < 0 := by omega
  have a2 : ¬ (96 : Int) < (z : Int) := by omega
  have hb := H.b
  by_cases h : z < x.s
  · have a3 : (z : Int) < (x.s : Int) := by omega
    have k2 : Hid (Calls Try.prog 29 #[.pointer (some ⟨p, 0, none⟩), .pointer (some ⟨p, 1 + 2 * 107, none⟩), .int .i64 (z : Int)] w fun e w' => e = .returned (.tuple #[]) ∧ Hid ((∃ x' T', Fil w' p S x' T' ∧ x'.s = z ∧ ct x' = (ct x ++ List.replicate (z - x.s) 0).take z) ∧ Upd (· = p) w w')) := by
      refine hid ((cut_any p S w 2 (by omega) x T H.sy hd H.s H.B z h).mono ?_)
      rintro e w' ⟨rfl, ⟨T', h1, h2⟩, u⟩
      obtain ⟨e1, e2⟩ := ct_cut (x' := { x with s := z, b := splice x.b z (List.replicate (96 - z) 0) }) hb H.s z h rfl rfl
      exact ⟨rfl, hid ⟨⟨_, T', ⟨h1, H.k, H.l, hz, h2, e2, H.m⟩, rfl, e1⟩, u⟩⟩
    obtain ⟨s0, gs⟩ : ∃ s0, s0 = x.s := ⟨_, rfl⟩
    rw [← gs] at c3 a3
    clear H hP hb h gs
    go_enter Try.func9, Try.ntmps9
    go_wp2_with fail
    refine k1.out.mono ?_
    rintro e w1 ⟨rfl, rfl⟩
    go_wp2_with fail
    refine k2.out.mono ?_
    rintro e w2 ⟨rfl, H2⟩
    go_wp2_with fail
    go_ret
    exact ⟨rfl, H2.out.1, H2.out.2⟩
  · have a3 : ¬ (z : Int) < (x.s : Int) := by omega
    have k2 : Hid (Calls Try.prog 30 #[.pointer (some ⟨p, 0, none⟩), .pointer (some ⟨p, 1 + 2 * 107, none⟩), .int .i64 (z : Int)] w fun e w' => e = .returned (.int .i64 0) ∧ Hid ((∃ x' T', Fil w' p S x' T' ∧ x'.s = z ∧ ct x' = (ct x ++ List.replicate (z - x.s) 0).take z) ∧ Upd (· = p) w w')) := by
      refine hid ((grow_any p S w 2 (by omega) x T H.sy H.B z hz).mono ?_)
      rintro e w' ⟨rfl, ⟨B', T', h1, h2⟩, u⟩
      have em : max x.s z = z := by omega
      rw [em] at h1 h2
      obtain ⟨e1, e2⟩ := ct_grow (x' := { x with B := B', s := z }) hb H.s H.z z (by omega) hz rfl rfl
      exact ⟨rfl, hid ⟨⟨_, T', ⟨h1, H.k, H.l, hz, h2, e2, H.m⟩, rfl, e1⟩, u⟩⟩
    obtain ⟨s0, gs⟩ : ∃ s0, s0 = x.s := ⟨_, rfl⟩
    rw [← gs] at c3 a3
    clear H hP hb h gs
    go_enter Try.func9, Try.ntmps9
    go_wp2_with fail
    refine k1.out.mono ?_
    rintro e w1 ⟨rfl, rfl⟩
    go_wp2_with fail
    refine k2.out.mono ?_
    rintro e w2 ⟨rfl, H2⟩
    go_wp2_with fail
    go_ret
    exact ⟨rfl, H2.out.1, H2.out.2⟩

end Go.Proofs.Ytdnblbahecpmkaa
