/- What an open file's write does. -/
import Derived.Test.YtdnblbahecpmkaaGreatFOps2
namespace Go.Proofs.YtdnblbahecpmkaaGreat
open Go.RowKit Go.ChangeMaps Go.MapKept
set_option linter.unusedVariables false
set_option maxRecDepth 20000

/-- A file behind a write. -/
def wrote (x : Nd) (off : Nat) (zs : List Int) (B : List Int) : Nd := { x with B := B, s := if zs.length = 0 then x.s else max x.s (off + zs.length), b := splice x.b off zs }

set_option maxHeartbeats 1000000 in
theorem write_nil (p : Nat) (S : Sg) (w : World) (i : Nat) (h1 : 1 ≤ i) (hi : i < 17) (x : Nd) (T : Nat → Bool) (H : Sy w p (S.bl i x T)) (hk : x.k = 1) (off c : Nat) (a : Option Addr) :
    Calls Tryz.prog 157 #[.pointer (some ⟨p, 0, none⟩), .int .i64 (i : Int), .int .i64 (off : Int), .slice a 0 c] w fun e w' => e = .returned (.tuple #[.int .i64 0, .int .i64 0]) ∧ w' = w := by
  have k1 := hid (file_yes p (S.bl i x T) w H i h1 hi (by rw [show (S.bl i x T).P i = x from updN_same _ _ _]; exact hk))
  have a1 : ¬ (off : Int) < 0 := by omega
  clear H hk
  go_enter Tryz.func157, Tryz.ntmps157
  go_wp2_with fail
  refine k1.out.mono ?_
  rintro e w1 ⟨rfl, rfl⟩
  clear k1
  go_wp2_with fail
  go_ret2
  exact ⟨rfl, rfl⟩

theorem splice_nil {α : Type} (l : List α) (o : Nat) : splice l o [] = l := by simp [splice]

theorem write_any (p : Nat) (S : Sg) (w : World) (i : Nat) (h1 : 1 ≤ i) (hi : i < 17) (x : Nd) (T : Nat → Bool) (H : Sy w p (S.bl i x T)) (hk : x.k = 1) (hs : x.s ≤ 96) (hB : Bok x T (need x.s)) (off len c : Nat) (a : Option Addr) (zs : List Int) (hsrc : Src w a len zs) (ha : ∀ b o, a = some ⟨b, o, none⟩ → 0 < len → b ≠ p) (hz : off + len ≤ 96) :
    Calls Tryz.prog 157 #[.pointer (some ⟨p, 0, none⟩), .int .i64 (i : Int), .int .i64 (off : Int), .slice a len c] w fun e w' => e = .returned (.tuple #[.int .i64 (len : Int), .int .i64 0]) ∧
      (∃ B' T', Sy w' p (S.bl i (wrote x off zs B') T') ∧ Bok (wrote x off zs B') T' (need (wrote x off zs B').s)) ∧ Upd (· = p) w w' := by
  have hl := hsrc.1
  by_cases h0 : len = 0
  · subst h0
    obtain rfl : zs = [] := List.eq_nil_of_length_eq_zero hl
    refine (write_nil p S w i h1 hi x T H hk off c a).mono ?_
    rintro e w' ⟨rfl, rfl⟩
    have e1 : wrote x off [] x.B = x := by simp [wrote, splice_nil]
    exact ⟨rfl, ⟨x.B, T, by rw [e1]; exact H, by rw [e1]; exact hB⟩, Upd.refl _ _⟩
  · refine (write_ok p S w i h1 hi x T H hk hB off len c a zs hsrc (fun b o e => ha b o e (by omega)) (by omega) hz).mono ?_
    rintro e w' ⟨rfl, ⟨B', T', q1, q2⟩, u⟩
    have e1 : wrote x off zs B' = { x with B := B', s := max x.s (off + len), b := splice x.b off zs } := by
      unfold wrote
      rw [if_neg (by omega), hl]
    exact ⟨rfl, ⟨B', T', by rw [e1]; exact q1, by rw [e1]; exact q2⟩, u⟩

set_option maxHeartbeats 4000000 in
set_option maxRecDepth 20000 in
theorem fnwrite_any (w : World) (t p q : Nat) (S : Sg) (i : Nat) (h1 : 1 ≤ i) (hi : i < 17) (x : Nd) (T : Nat → Bool) (F : Nat → Fl) (H : Fw w t p q S i x T F) (j : Nat) (hj : j < 11) (o : Nat) (ho : (F j).off = (o : Int)) (ap : Bool) (hap : (bits BinOp.and IntKind.i64 (F j).fl 4 != 0) = ap)
    (len c : Nat) (a : Option Addr) (zs : List Int) (hsrc : Src w a len zs) (ha : ∀ b o, a = some ⟨b, o, none⟩ → 0 < len → b ≠ p) (o' : Nat) (ho' : o' = if ap then x.s else o) (hz : o' + len ≤ 96) :
    Calls Tryz.prog 153 #[.agg #[.pointer (some ⟨p, 0, none⟩), .int .i64 (i : Int)], .pointer (some ⟨t, 2 + j * 5, none⟩), .slice a len c] w fun e w' => e = .returned (.tuple #[.int .i64 (len : Int), .bool false, .int .i64 0]) ∧
      (∃ B' T', Fw w' t p q S i (wrote x o' zs B') T' (updF F j { F j with off := ((o' + len : Nat) : Int) })) ∧ Upd (fun y => y = t ∨ y = p) w w' := by
  obtain ⟨W, gW⟩ : ∃ W, W = w.alloc (Obj.cells #[.pointer (some ⟨p, 0, none⟩), .int .i64 (i : Int)] 109) := ⟨_, rfl⟩
  have hB : Below w.heap.size w W := by rw [gW]; exact one_new _ _
  have hF : Fw W t p q S i x T F := H.grow hB
  have a0 : W.cell? ⟨w.heap.size, 0, none⟩ = some (.pointer (some ⟨p, 0, none⟩)) := by rw [gW]; simp [go_sem]
  have a1 : W.cell? ⟨w.heap.size, 1, none⟩ = some (.int .i64 (i : Int)) := by rw [gW]; simp [go_sem]
  have a2 := hF.tf.c2 j hj
  rw [ho] at a2
  have hZ : w.heap.size < W.heap.size := by rw [gW]; simp
  have k1 := hid (fhas_any W t (2 + j * 5) (F j).fl 4 ap (hF.tf.c3 j hj) hap)
  have hzl := hsrc.1
  have kw : Hid (∀ X, Hid (Below W.heap.size W X) → Calls Tryz.prog 157 #[.pointer (some ⟨p, 0, none⟩), .int .i64 (i : Int), .int .i64 (o' : Int), .slice a len c] X fun e w' => e = .returned (.tuple #[.int .i64 (len : Int), .int .i64 0]) ∧ Hid ((∃ B' T', Fw w' t p q S i (wrote x o' zs B') T' F) ∧ Upd (· = p) X w')) := by
    refine hid (fun X hX => ?_)
    have hFX := hF.grow hX.out
    refine (write_any p S X i h1 hi x T hFX.sy H.k H.s H.B o' len c a zs ((hsrc.below hB).below hX.out) ha hz).mono ?_
    rintro e w' ⟨rfl, ⟨B', T', q1, q2⟩, u⟩
    refine ⟨rfl, hid ⟨⟨B', T', q1, hFX.tf.upd u hFX.tp, fun h => H.tn (foot_same S i x (wrote x o' zs B') T T' rfl p t h), H.k, ?_, q2⟩, u⟩⟩
    show (if zs.length = 0 then x.s else max x.s (o' + zs.length)) ≤ 96
    have := H.s
    split <;> omega
  have ks : Hid (Calls Tryz.prog 155 #[.agg #[.pointer (some ⟨p, 0, none⟩), .int .i64 (i : Int)]] W fun e w' => e = .returned (.tuple #[.int .i64 (x.s : Int), .int .i64 0]) ∧ Hid (Below W.heap.size W w')) := by
    refine hid ((fsize_any p S W i h1 hi x T hF.sy H.k).mono ?_)
    rintro e w' ⟨rfl, h⟩
    exact ⟨rfl, hid h⟩
  have HF := hid hF
  have HB := hid hB
  have HZ := hid hZ
  have HJ : Hid (∀ X w4, Hid (Below W.heap.size W X) → ((∃ B' T', Fw w4 t p q S i (wrote x o' zs B') T' F) ∧ Upd (· = p) X w4) → w4.cell? ⟨t, 2 + j * 5 + 2, none⟩ = some (.int .i64 (o : Int)) ∧ w4.frozen? ⟨t, 2 + j * 5 + 2, none⟩ = false ∧ Hid ((∃ B' T', Fw (w4.setCell ⟨t, 2 + j * 5 + 2, none⟩ (.int .i64 ((o' : Int) + (len : Int)))) t p q S i (wrote x o' zs B') T' (updF F j { F j with off := ((o' + len : Nat) : Int) })) ∧ Upd (fun y => y = t ∨ y = p) w (w4.setCell ⟨t, 2 + j * 5 + 2, none⟩ (.int .i64 ((o' : Int) + (len : Int)))))) := by
    refine hid (fun X w4 hX h => ?_)
    obtain ⟨⟨B', T', hf⟩, u⟩ := h
    refine ⟨by rw [← ho]; exact hf.tf.c2 j hj, hf.tf.fz _, hid ⟨⟨B', T', ?_⟩, ?_⟩⟩
    · have := hf.off j hj ((o' + len : Nat) : Int)
      rw [show ((o' + len : Nat) : Int) = (o' : Int) + (len : Int) by omega] at this ⊢
      exact this
    · have u1 : Upd (fun y => y = t ∨ y = p) w X := Upd.of_below (hB.trans (hX.out.mono hB.size))
      exact (u1.trans u (fun y _ hy => .inr hy)).trans (Upd.setCell (F := (· = t)) w4 ⟨t, _, none⟩ _ rfl) (fun y _ hy => .inl hy)
  have w64 : IntKind.i64.wrap ((o' : Int) + (len : Int)) = (o' : Int) + (len : Int) := by rw [IntKind.wrap_i64]; omega
  have a3 := a2
  rw [gW] at a3
  clear H hB hF hZ ho hap hsrc ha
  go_enter Tryz.func153, Tryz.ntmps153
  go_wp2_with fail
  rw [← gW]
  clear gW a3
  refine k1.out.mono ?_
  rintro e w1 ⟨rfl, rfl⟩
  clear k1
  cases ap with
  | true =>
    obtain rfl : o' = x.s := ho'
    go_wp2_with fail
    refine ks.out.mono ?_
    rintro e w2 ⟨rfl, hb2⟩
    have k3 := hid (kw.out w2 hb2)
    have x0 := (hb2.out.cell (p := ⟨w.heap.size, 0, none⟩) HZ.out).trans a0
    have x1 := (hb2.out.cell (p := ⟨w.heap.size, 1, none⟩) HZ.out).trans a1
    clear ks a0 a1 a2
    go_wp2_with fail
    refine k3.out.mono ?_
    rintro e w3 ⟨rfl, H3⟩
    obtain ⟨c3, f3, H4⟩ := HJ.out w2 w3 hb2 H3.out
    clear k3 H3 x0 x1
    go_wp2_with fail
    go_ret3
    exact ⟨rfl, H4.out.1, H4.out.2⟩
  | false =>
    obtain rfl : o' = o := ho'
    have k3 := hid (kw.out w1 (hid (Below.refl _ _)))
    clear ks
    go_wp2_with fail
    refine k3.out.mono ?_
    rintro e w3 ⟨rfl, H3⟩
    obtain ⟨c3, f3, H4⟩ := HJ.out w1 w3 (hid (Below.refl _ _)) H3.out
    clear k3 H3 a0 a1 a2
    go_wp2_with fail
    go_ret3
    exact ⟨rfl, H4.out.1, H4.out.2⟩

end Go.Proofs.YtdnblbahecpmkaaGreat
