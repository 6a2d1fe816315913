/- The road of WireReturns: it returns true for every two ints, every text and every slice of bytes of up to 2^40 bytes each, and leaves what was there. -/
import Derived.Test.YtmnhehicgheheaaRead
import Derived.Test.YtmnhehicgheheaaBack
import Derived.Laws.AppendOwnNone
namespace Go.Proofs.Ytmnhehicgheheaa
open Go.RowKit Num

theorem str_drop {xs ys : List Int} {k : Nat} (h : xs.length = k) : (xs ++ ys).drop k = ys := by
  subst h; exact List.drop_left

theorem txt_str (S : ByteArray) (hS : S.size < 9223372036854775808) (r : List Int) : txt (enc S.size ++ (str S ++ r)) (S.size : Int) = (str S, (enc S.size).length + S.size, 0) := by
  unfold txt
  rw [dec_enc S.size hS]
  simp only
  rw [if_neg (by simp), if_neg (by omega), if_neg (by simp [str_len]), List.drop_left, List.take_left' (str_len S)]

/-- What the call of append in the law leaves: a new row, or the old one, with the bytes behind. -/
theorem clip_half (m : Int) (h0 : -9223372036854775808 ≤ m) (h1 : m ≤ 9223372036854775807) : clip (m / 2) = m / 2 := by unfold clip; omega

theorem left_at (B p g len at_ L : Nat) (zs : List Int) (w : World) (h : Rdr w B p g len at_ zs) (hL : L = len - at_) :
    Calls Try.prog 17 #[.pointer (some ⟨p, 0, none⟩)] w fun e w' => e = .returned (.int .i64 (L : Int)) ∧ ∃ n, w' = w.drewN n := by
  subst hL
  exact left_any B p g len at_ zs w h

set_option maxHeartbeats 2000000 in
theorem returns_core (n m : Int) (N : Nat) (S : ByteArray) (a0 : Option Addr) (len cap : Nat) (zs : List Int) (w : World) (hs : Src w a0 len zs) (hz : Bytes zs) (hnil : a0 = none → len = 0 ∧ cap = 0)
    (hcase : (n < 0 ∧ N = 0) ∨ n = (N : Int)) (hn : n ≤ 9223372036854775807) (hm0 : -9223372036854775808 ≤ m) (hm : m ≤ 9223372036854775807) (hS : S.size ≤ 1099511627776) (hl : len ≤ 1099511627776) :
    Calls Try.prog 4 #[.int .i64 n, .int .i64 m, .string S, .slice a0 len cap] w fun e w' => e = .returned (.bool true) ∧ Below w.heap.size w w' := by
  obtain ⟨i0, hi, hz0, hz1, hz2⟩ := info_parts Try.info5
  have hNn : n.toNat = N := by omega
  obtain ⟨E1, g1⟩ : ∃ E1, E1 = enc N := ⟨_, rfl⟩
  obtain ⟨E2, g2⟩ : ∃ E2, E2 = enc S.size := ⟨_, rfl⟩
  obtain ⟨E3, g3⟩ : ∃ E3, E3 = enc (fld (m / 2)).toNat := ⟨_, rfl⟩
  have f0 : 0 ≤ fld (m / 2) ∧ fld (m / 2) ≤ 9223372036854775807 := by unfold fld; split <;> omega
  have l1 : E1.length ≤ 9 := by rw [g1, length_enc]; have := cnt_8 N (by omega); omega
  have l2 : E2.length ≤ 9 := by rw [g2, length_enc]; have := cnt_8 S.size (by omega); omega
  have l3 : E3.length ≤ 9 := by rw [g3, length_enc]; have := cnt_8 (fld (m / 2)).toNat (by omega); omega
  have by1 : Bytes E1 := by rw [g1]; exact enc_bytes _
  have by2 : Bytes E2 := by rw [g2]; exact enc_bytes _
  have by3 : Bytes E3 := by rw [g3]; exact enc_bytes _
  have d1 : ∀ r, dec (E1 ++ r) = (N, E1.length, 0) := fun r => by rw [g1]; exact dec_enc N (by omega) r
  have d2 : ∀ r, txt (E2 ++ (str S ++ r)) (S.size : Int) = (str S, E2.length + S.size, 0) := fun r => by rw [g2]; exact txt_str S (by omega) r
  have d3 : ∀ r, dec (E3 ++ r) = ((fld (m / 2)).toNat, E3.length, 0) := fun r => by rw [g3]; exact dec_enc _ (by omega) r
  have k1 : Hid (∀ wx : World, Calls Try.prog 21 #[.slice none 0 0, .int .i64 n] wx fun e w' => e = .returned (.slice (some ⟨wx.heap.size, 0, none⟩) E1.length 9) ∧ Src w' (some ⟨wx.heap.size, 0, none⟩) E1.length E1 ∧ Below wx.heap.size wx w') := by
    intro wx
    have h := put_any none 0 0 n [] wx (Src.nil _ _) (by omega) (by omega)
    simp only [Nat.zero_add, List.nil_append, hNn, ← g1] at h
    exact h.mono fun e w' ⟨a, b, c⟩ => ⟨a, Src.own b, c⟩
  have k2 := hid (fun (g : Nat) (wx : World) (hx : Src wx (some ⟨g, 0, none⟩) E1.length E1) => text_any (some ⟨g, 0, none⟩) E1.length 9 S E1 wx hx (by omega))
  have sl := str_len S
  obtain ⟨X2, gx2⟩ : ∃ X2, X2 = E1 ++ E2 ++ str S := ⟨_, rfl⟩
  have k3 := hid (fun (g c : Nat) (wx : World) (hx : Src wx (some ⟨g, 0, none⟩) (E1.length + E2.length + S.size) X2) => signed_any (some ⟨g, 0, none⟩) (E1.length + E2.length + S.size) c (m / 2) X2 wx hx (by omega))
  rw [← g2, ← gx2] at k2
  rw [clip_half m hm0 hm, ← g3] at k3
  -- what is read
  obtain ⟨Y, gY⟩ : ∃ Y, Y = E1 ++ (E2 ++ (str S ++ (E3 ++ zs))) := ⟨_, rfl⟩
  have hYX : X2 ++ E3 ++ zs = Y := by rw [gY, gx2]; simp
  have bY : Bytes Y := by rw [gY]; exact by1.append (by2.append ((str_bytes S).append (by3.append hz)))
  have lY : Y.length = E1.length + E2.length + S.size + E3.length + zs.length := by rw [gY]; simp [sl]; omega
  have dr1 : Y.drop 0 = E1 ++ (E2 ++ (str S ++ (E3 ++ zs))) := gY
  have dr2 : Y.drop E1.length = E2 ++ (str S ++ (E3 ++ zs)) := by rw [gY]; exact List.drop_left
  have dr3 : Y.drop (E1.length + (E2.length + S.size)) = E3 ++ zs := by
    rw [← List.drop_drop, dr2, ← List.drop_drop, List.drop_left]; exact str_drop sl
  obtain ⟨L, gL⟩ : ∃ L, L = E1.length + E2.length + S.size + E3.length + len := ⟨_, rfl⟩
  have ku : Hid (∀ (B p g : Nat) (wx : World), Rdr wx B p g L 0 Y → Calls Try.prog 9 #[.pointer (some ⟨p, 0, none⟩)] wx fun e w' => e = .returned (.tuple #[.int .i64 (N : Int), .int .i64 0]) ∧ Rdr w' B p g L E1.length Y ∧ Only p wx w') := by
    intro B p g wx hx
    have h := uint_any B p g L 0 Y wx hx bY
    rw [dr1, d1] at h
    simpa using h
  have kt : Hid (∀ (B p g : Nat) (wx : World), Rdr wx B p g L E1.length Y → Calls Try.prog 15 #[.pointer (some ⟨p, 0, none⟩), .int .i64 (S.size : Int)] wx fun e w' => e = .returned (.tuple #[.string S, .int .i64 0]) ∧ Rdr w' B p g L (E1.length + (E2.length + S.size)) Y ∧ Only p wx w') := by
    intro B p g wx hx
    have h := rtext_any B p g L E1.length Y (S.size : Int) wx hx bY
    rw [dr2, d2] at h
    simp only [str_back] at h
    simpa using h
  have ks : Hid (∀ (B p g : Nat) (wx : World), Rdr wx B p g L (E1.length + (E2.length + S.size)) Y → Calls Try.prog 11 #[.pointer (some ⟨p, 0, none⟩)] wx fun e w' => e = .returned (.tuple #[.int .i64 (m / 2), .int .i64 0]) ∧ Rdr w' B p g L (E1.length + (E2.length + S.size) + E3.length) Y ∧ Only p wx w') := by
    intro B p g wx hx
    have h := rsigned_any B p g L (E1.length + (E2.length + S.size)) Y wx hx bY
    rw [dr3, d3] at h
    simp only [unf_fld] at h
    simpa using h
  have hLb : L ≤ 281474976710656 := by omega
  have HLN : Hid (len = L - (E1.length + (E2.length + S.size) + E3.length)) := by show len = _; omega
  have HL := hid gL
  have HYX := hid hYX
  have HS := hid hs
  clear g1 g2 g3 d1 d2 d3 by1 by2 by3 gx2 hs hz f0 gY hYX bY lY dr1 dr2 dr3 gL hNn
  rcases hcase with ⟨hneg, rfl⟩ | rfl
  all_goals
    go_enter Try.func4, Try.ntmps4
    go_wp2_with fail
    refine (k1.out _).mono ?_
    rintro e w1 ⟨rfl, s1, hb1⟩
    have H1 := hid s1
    clear s1
    go_wp2_with fail
    refine (k2.out _ _ H1.out).mono ?_
    rintro e w2 ⟨c2, rfl, o2, hb2⟩
    have H2 := hid (Src.own o2)
    clear o2
    go_wp2_with fail
    refine (k3.out _ _ _ H2.out).mono ?_
    rintro e w3 ⟨rfl, o3, hb3⟩
    have H3 := hid o3
    have hb : Below w.heap.size w w3 := hb1.trans ((hb2.mono hb1.size).trans (hb3.mono (by have := hb2.size; have := hb1.size; omega)))
    have hlt := o3.lt w2.heap.size rfl
    have hb12 : w.heap.size ≤ w2.heap.size := by have := hb2.size; have := hb1.size; omega
    clear o3
    have HW := hid (HS.out.below hb)
    cases a0 with
    | none =>
      obtain ⟨rfl, rfl⟩ := hnil rfl
      have hz0' : zs = [] := List.eq_nil_of_length_eq_zero HS.out.1
      have T4 : Src w3 (some ⟨w2.heap.size, 0, none⟩) (E1.length + E2.length + S.size + E3.length) Y := by
        rw [← HYX.out, hz0', List.append_nil]; exact Src.own H3.out
      rw [show E1.length + E2.length + S.size + E3.length = L by have := HL.out; omega] at T4
      have HQ : Hid (E1.length + E2.length + S.size + E3.length = L) := by show _ = L; have := HL.out; omega
      have hb4 := hb
      clear hz0'
      go_wp2_with (at_builtin; go_must (refine wpList_append_own_none rfl (.tmp 23) (.tmp 24) 22 rfl w2.heap.size 5 i0 1 Try.underlying22 hi _ _ _ rfl H3.out rfl ?_))
      rw [HQ.out]
      have Y4 := hid T4
      clear T4
      refine (over_any _ L _ Y _ Y4.out (by omega)).mono ?_
      rintro e w5 ⟨p, rfl, r5, _, hb5⟩
      have hbw5 : Below w.heap.size w w5 := hb4.trans (hb5.mono hb4.size)
      have R5 := hid r5
      have hm5 : w.heap.size ≤ p := Nat.le_trans hb4.size r5.mid
      clear r5 hb5
      go_wp2_with fail
      refine (ku.out _ _ _ _ R5.out).mono ?_
      rintro e w6 ⟨rfl, r6, o6⟩
      have R6 := hid r6
      clear r6
      go_wp2_with fail
      refine (kt.out _ _ _ _ R6.out).mono ?_
      rintro e w7 ⟨rfl, r7, o7⟩
      have R7 := hid r7
      clear r7
      go_wp2_with fail
      refine (ks.out _ _ _ _ R7.out).mono ?_
      rintro e w8 ⟨rfl, r8, o8⟩
      have R8 := hid r8
      clear r8
      go_wp2_with (go_at_call 17; refine (left_at _ _ _ _ _ 0 _ _ R8.out HLN.out).mono ?_; rintro e w9 ⟨rfl, q, rfl⟩)
      go_ret
      exact ⟨rfl, below_drewN (hbw5.trans ((o6.trans (o7.trans o8)).below hm5)) q⟩
    | some ad =>
      have hnews : ∀ (j : Nat) (u : Value), (List.map (Value.int IntKind.u8) zs)[j]? = some u → w3.cell? (ad.add j) = some u := by
        intro j u hj
        have hjl : j < zs.length := by have := (List.getElem?_eq_some_iff.1 hj).1; simpa using this
        have hsl := HW.out.1
        obtain ⟨b, o, e, _, hc⟩ := HW.out.2 (by omega)
        obtain rfl := Option.some.inj e
        rw [Addr.add_lit, hc j (by omega), ← hj]
        simp [List.getD, List.getElem?_eq_getElem hjl]
      have HNW := hid hnews
      have HSL : Hid ((zs.map (Value.int .u8)).length = len * 1) := by show _ = _; simp [HS.out.1]
      clear hnews
      go_wp2_with (at_builtin; go_must (refine wpList_append_own _ rfl (.tmp 23) (.tmp 24) 22 rfl w2.heap.size 5 i0 (.int .u8 0) 1 1 Try.underlying22 hi hz0 hz1 hz2 rfl (by decide) _ _ _ rfl H3.out ad len cap (zs.map (Value.int .u8)) rfl HSL.out HNW.out (ints_oneCell _ _) (by unfold maxLen; omega) (by omega) (by omega) ?_))
      intro v4 w4 o4 hg4 hn4
      have hb4 : Below w.heap.size w w4 := hb.grown hg4 (by omega) (by intro q hq; simp [Value.ownBlock] at hq; omega)
      obtain ⟨g, c, rfl⟩ : ∃ g c, v4 = .slice (some ⟨g, 0, none⟩) (E1.length + E2.length + S.size + E3.length + len) c := by
        rcases o4.2 with ⟨h, _⟩ | ⟨g, c, _, h, _⟩
        · exact absurd h (by simpa using hn4)
        · exact ⟨g, c, h⟩
      have T4 : Src w4 (some ⟨g, 0, none⟩) (E1.length + E2.length + S.size + E3.length + len) Y := by
        rw [← HYX.out]
        refine Src.own (B := w2.heap.size) (e := 5) (cap := c) ?_
        simpa using o4
      rw [← HL.out] at T4 ⊢
      clear o4 hg4 hn4
      have Y4 := hid T4
      clear T4
      go_wp2_with fail
      refine (over_any _ L _ Y _ Y4.out (by omega)).mono ?_
      rintro e w5 ⟨p, rfl, r5, _, hb5⟩
      have hbw5 : Below w.heap.size w w5 := hb4.trans (hb5.mono hb4.size)
      have R5 := hid r5
      have hm5 : w.heap.size ≤ p := Nat.le_trans hb4.size r5.mid
      clear r5 hb5
      go_wp2_with fail
      refine (ku.out _ _ _ _ R5.out).mono ?_
      rintro e w6 ⟨rfl, r6, o6⟩
      have R6 := hid r6
      clear r6
      go_wp2_with fail
      refine (kt.out _ _ _ _ R6.out).mono ?_
      rintro e w7 ⟨rfl, r7, o7⟩
      have R7 := hid r7
      clear r7
      go_wp2_with fail
      refine (ks.out _ _ _ _ R7.out).mono ?_
      rintro e w8 ⟨rfl, r8, o8⟩
      have R8 := hid r8
      clear r8
      go_wp2_with (go_at_call 17; refine (left_at _ _ _ _ _ len _ _ R8.out HLN.out).mono ?_; rintro e w9 ⟨rfl, q, rfl⟩)
      go_ret
      exact ⟨rfl, below_drewN (hbw5.trans ((o6.trans (o7.trans o8)).below hm5)) q⟩

end Go.Proofs.Ytmnhehicgheheaa
