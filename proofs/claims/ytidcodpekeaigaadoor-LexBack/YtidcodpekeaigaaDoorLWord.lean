/- The scanner passes a name or a number; a step of the scanner. -/
import Derived.Test.YtidcodpekeaigaaDoorLNumber
import Derived.Test.YtidcodpekeaigaaDoorLQuoted2
namespace Go.Proofs.YtidcodpekeaigaaDoor
open Go.RowKit
set_option linter.unusedVariables false

theorem Sk.move {w : World} {p i : Nat} {s : ByteArray} {l : List Tok} (h : Sk w p s i l) (j : Nat) : Sk (w.setCell ⟨p, 1, none⟩ (.int .i64 j)) p s j l ∧ Below p w (w.setCell ⟨p, 1, none⟩ (.int .i64 j)) := by
  obtain ⟨v, hc, ho⟩ := h
  have u : Upd (fun k => k = p) w (w.setCell ⟨p, 1, none⟩ (.int .i64 j)) := Upd.setCell (F := fun k => k = p) w ⟨p, 1, none⟩ _ rfl
  exact ⟨⟨v, hc.setAt j, u.own ho (fun k hk e => by have := (ho.lt k hk).1; omega)⟩, u.below (Nat.le_of_lt hc.lt) (fun x hx => by omega)⟩

set_option maxHeartbeats 4000000 in
theorem word_any (p i : Nat) (s : ByteArray) (l : List Tok) (w : World) (h : Sk w p s i l) (hi : i < s.size) (hs : s.size ≤ 4000) (hn : l.length ≤ 4000) :
    Calls Tryd.prog 26 #[.pointer (some ⟨p, 0, none⟩), .int .u8 (bt s i)] w (Ends w p s l (wordP s i)) := by
  have h0 := h
  obtain ⟨v, hc, ho⟩ := h
  have q1 := hc.pl
  have kd := hid (isdigit_any (bt s i) w)
  by_cases e0 : isDig (bt s i) = true
  · have k1 := hid (number_any p i i s l w h0 hi (Nat.le_of_lt hi) (Nat.le_refl i) hs hn)
    rw [show wordP s i = numP s i i by unfold wordP; rw [if_pos e0]]
    rw [e0] at kd
    obtain ⟨b, gb⟩ : ∃ b, b = bt s i := ⟨_, rfl⟩
    rw [← gb] at kd ⊢
    obtain ⟨R, gR⟩ : ∃ R, R = numP s i i := ⟨_, rfl⟩
    rw [← gR] at k1 ⊢
    have GR := hid gR
    clear gb gR e0 hc ho h0
    go_enter Tryd.func26, Tryd.ntmps26
    go_wp2_with fail
    refine kd.out.mono ?_
    rintro e w1 ⟨rfl, rfl⟩
    go_wp2_with fail
    refine k1.out.mono ?_
    intro e w2 h2
    rcases R with k | ⟨t, k⟩ | ⟨j, why⟩
    · exact absurd GR.out.symm numP_not
    · obtain ⟨rfl, h3, h4⟩ := h2
      have H3 := hid h3
      have H4 := hid h4
      clear h3 h4
      go_wp2_with fail
      go_end0
      exact ⟨rfl, H3.out, H4.out⟩
    · obtain ⟨rfl, h4⟩ := h2
      have H4 := hid h4
      clear h4
      go_wp2_with fail
      exact ⟨rfl, rfl, H4.out⟩
  · have e0' : isDig (bt s i) = false := by simpa using e0
    rw [e0'] at kd
    have kl := hid (isletter_any (bt s i) w)
    by_cases e1 : isLet (bt s i) = true
    · rw [show wordP s i = .tok ⟨1, i, s.extract i (pass inNm s i), 0⟩ (pass inNm s i) by unfold wordP; rw [if_neg e0, if_pos e1]]
      rw [e1] at kl
      have k1 := hid (passw_any p i i 40 inNm tells_name s v w hc (Nat.le_of_lt hi) hs)
      have k2 := hid (take_any p i (pass inNm s i) 1 s l w h0 (pass_ge _ _ _) (pass_le (Nat.le_of_lt hi)) hs hn)
      obtain ⟨E, gE⟩ : ∃ E, E = pass inNm s i := ⟨_, rfl⟩
      rw [← gE] at k1 k2 ⊢
      obtain ⟨b, gb⟩ : ∃ b, b = bt s i := ⟨_, rfl⟩
      rw [← gb] at kd kl ⊢
      clear gb gE e0 e0' e1 hc ho h0
      go_enter Tryd.func26, Tryd.ntmps26
      go_wp2_with fail
      refine kd.out.mono ?_
      rintro e w1 ⟨rfl, rfl⟩
      go_wp2_with fail
      refine kl.out.mono ?_
      rintro e w1 ⟨rfl, rfl⟩
      go_wp2_with fail
      refine k1.out.mono ?_
      rintro e w1 ⟨rfl, rfl⟩
      go_wp2_with fail
      refine k2.out.mono ?_
      rintro e w2 ⟨rfl, h3, h4⟩
      have H3 := hid h3
      have H4 := hid h4
      clear h3 h4
      go_wp2_with fail
      go_end0
      exact ⟨rfl, H3.out, H4.out⟩
    · have e1' : isLet (bt s i) = false := by simpa using e1
      rw [e1'] at kl
      rw [show wordP s i = .bad i 120 by unfold wordP; rw [if_neg e0, if_neg e1]]
      have k1 := hid (giveup_any i 120 w)
      obtain ⟨b, gb⟩ : ∃ b, b = bt s i := ⟨_, rfl⟩
      rw [← gb] at kd kl ⊢
      clear gb e0 e0' e1 e1' hc ho h0
      go_enter Tryd.func26, Tryd.ntmps26
      go_wp2_with fail
      refine kd.out.mono ?_
      rintro e w1 ⟨rfl, rfl⟩
      go_wp2_with fail
      refine kl.out.mono ?_
      rintro e w1 ⟨rfl, rfl⟩
      go_wp2_with fail
      refine k1.out.mono ?_
      rintro e w1 ⟨rfl, rfl⟩
      go_wp2_with fail
      exact ⟨rfl, rfl, Below.refl _ _⟩

end Go.Proofs.YtidcodpekeaigaaDoor
