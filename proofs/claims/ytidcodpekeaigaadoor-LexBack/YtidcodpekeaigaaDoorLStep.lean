/- A step of the scanner. -/
import Derived.Test.YtidcodpekeaigaaDoorLWord
namespace Go.Proofs.YtidcodpekeaigaaDoor
open Go.RowKit
set_option linter.unusedVariables false

theorem index_is {s : ByteArray} {i : Nat} {b : Int} (h : i < s.size) (hb : bt s i = b) (w : World) : (Instr.index 9 (.string s) (.int .i64 i)).run Tryd.prog w = .ok (.int .u8 b) w := by
  rw [← hb]; exact index_bt s i h w

theorem below_drew {B : Nat} {w : World} {w' : World} (h : Below B w.drew w') : Below B w w' := ⟨h.os, h.tape, h.output, h.size, h.block⟩

/-- A blank: one place further. -/
theorem step_blank (p i : Nat) (s : ByteArray) (l : List Tok) (w : World) (h : Sk w p s i l) (hi : i < s.size) (hs : s.size ≤ 4000) (b : Int) (hb : bt s i = b) (hx : b = 32 ∨ b = 9 ∨ b = 13) :
    Calls Tryd.prog 14 #[.pointer (some ⟨p, 0, none⟩)] w (Ends w p s l (.skip (i + 1))) := by
  have hm := h.hp.move (i + 1)
  rw [show (((i + 1 : Nat)) : Int) = (i : Int) + 1 by omega] at hm
  have HM := hid hm
  have HX := index_is hi hb
  obtain ⟨v, hc, ho⟩ := h
  have q0 := hc.tx
  have q1 := hc.pl
  have f1 := hc.fz 1
  have c5 : IntKind.i64.wrap ((i : Int) + 1) = (i : Int) + 1 := by rw [IntKind.wrap_i64]; omega
  clear hc ho hb hm
  go_enter Tryd.func14, Tryd.ntmps14
  go_wp2_with fail
  go_region
  rcases hx with rfl | rfl | rfl
  all_goals
    go_wp2_with fail
    go_end0
    exact ⟨rfl, HM.out.1, below_drew HM.out.2⟩

/-- A comment. -/
theorem step_note (p i : Nat) (s : ByteArray) (l : List Tok) (w : World) (h : Sk w p s i l) (hi : i < s.size) (hs : s.size ≤ 4000) (hb : bt s i = 35) :
    Calls Tryd.prog 14 #[.pointer (some ⟨p, 0, none⟩)] w (Ends w p s l (.skip (pass inLn s i))) := by
  have HM := hid (h.hp.move (pass inLn s i))
  have HX := index_is hi hb
  have h1 := h.hp
  obtain ⟨v1, hc1, ho1⟩ := h1
  have k1 := hid (passw_any p i i 22 inLn tells_line s v1 w.drew hc1 (Nat.le_of_lt hi) hs)
  obtain ⟨E, gE⟩ : ∃ E, E = pass inLn s i := ⟨_, rfl⟩
  rw [← gE] at k1 HM ⊢
  obtain ⟨v, hc, ho⟩ := h
  have q0 := hc.tx
  have q1 := hc.pl
  have f1 := hc.fz 1
  clear hc ho hb hc1 ho1 gE
  go_enter Tryd.func14, Tryd.ntmps14
  go_wp2_with fail
  go_region
  go_wp2_with fail
  refine k1.out.mono ?_
  rintro e w1 ⟨rfl, rfl⟩
  go_wp2_with fail
  go_end0
  exact ⟨rfl, HM.out.1, below_drew HM.out.2⟩

/-- A mark. -/
theorem step_mark (p i : Nat) (s : ByteArray) (l : List Tok) (w : World) (h : Sk w p s i l) (hi : i < s.size) (hs : s.size ≤ 4000) (hn : l.length ≤ 4000) (b : Int) (hb : bt s i = b)
    (hx : b = 40 ∨ b = 41 ∨ b = 91 ∨ b = 93 ∨ b = 123 ∨ b = 125 ∨ b = 44 ∨ b = 58 ∨ b = 61) :
    Calls Tryd.prog 14 #[.pointer (some ⟨p, 0, none⟩)] w (Ends w p s l (.tok ⟨4, i, s.extract i (i + 1), 0⟩ (i + 1))) := by
  have HX := index_is hi hb
  have k1 := take_any p i (i + 1) 4 s l w.drew h.hp (by omega) hi hs hn
  rw [show (((i + 1 : Nat)) : Int) = (i : Int) + 1 by omega] at k1
  have K1 := hid k1
  obtain ⟨v, hc, ho⟩ := h
  have q0 := hc.tx
  have q1 := hc.pl
  have c5 : IntKind.i64.wrap ((i : Int) + 1) = (i : Int) + 1 := by rw [IntKind.wrap_i64]; omega
  clear hc ho hb k1
  go_enter Tryd.func14, Tryd.ntmps14
  go_wp2_with fail
  go_region
  rcases hx with rfl | rfl | rfl | rfl | rfl | rfl | rfl | rfl | rfl
  all_goals
    go_wp2_with fail
    refine K1.out.mono ?_
    rintro e w2 ⟨rfl, h3, h4⟩
    have H3 := hid h3
    have H4 := hid h4
    clear h3 h4
    go_wp2_with fail
    go_end0
    exact ⟨rfl, H3.out, below_drew H4.out⟩

/-- A line's end. -/
theorem step_line (p i : Nat) (s : ByteArray) (l : List Tok) (w : World) (h : Sk w p s i l) (hi : i < s.size) (hs : s.size ≤ 4000) (hn : l.length ≤ 4000) (hb : bt s i = 10) :
    Calls Tryd.prog 14 #[.pointer (some ⟨p, 0, none⟩)] w (Ends w p s l (.tok ⟨5, i, s.extract i (i + 1), 0⟩ (i + 1))) := by
  have HX := index_is hi hb
  have k1 := take_any p i (i + 1) 5 s l w.drew h.hp (by omega) hi hs hn
  rw [show (((i + 1 : Nat)) : Int) = (i : Int) + 1 by omega] at k1
  have K1 := hid k1
  obtain ⟨v, hc, ho⟩ := h
  have q0 := hc.tx
  have q1 := hc.pl
  have c5 : IntKind.i64.wrap ((i : Int) + 1) = (i : Int) + 1 := by rw [IntKind.wrap_i64]; omega
  clear hc ho hb k1
  go_enter Tryd.func14, Tryd.ntmps14
  go_wp2_with fail
  go_region
  go_wp2_with fail
  refine K1.out.mono ?_
  rintro e w2 ⟨rfl, h3, h4⟩
  have H3 := hid h3
  have H4 := hid h4
  clear h3 h4
  go_wp2_with fail
  go_end0
  exact ⟨rfl, H3.out, below_drew H4.out⟩

/-- A step that ends as the call that it makes at last. -/
theorem step_text (p i : Nat) (s : ByteArray) (l : List Tok) (w : World) (h : Sk w p s i l) (hi : i < s.size) (hs : s.size ≤ 4000) (hn : l.length ≤ 4000) (hb : bt s i = 34) :
    Calls Tryd.prog 14 #[.pointer (some ⟨p, 0, none⟩)] w (Ends w p s l (txtP s i)) := by
  have HX := index_is hi hb
  have K1 := hid (quoted_any p i s l w.drew h.hp hi hs hn)
  obtain ⟨R, gR⟩ : ∃ R, R = txtP s i := ⟨_, rfl⟩
  rw [← gR] at K1 ⊢
  obtain ⟨v, hc, ho⟩ := h
  have q0 := hc.tx
  have q1 := hc.pl
  clear hc ho hb gR
  go_enter Tryd.func14, Tryd.ntmps14
  go_wp2_with fail
  go_region
  go_wp2_with fail
  refine K1.out.mono ?_
  intro e w2 h2
  rcases R with k | ⟨t, k⟩ | ⟨j, why⟩
  · obtain ⟨rfl, h3, h4⟩ := h2
    have H3 := hid h3
    have H4 := hid h4
    clear h3 h4
    go_wp2_with fail
    go_end0
    exact ⟨rfl, H3.out, below_drew H4.out⟩
  · obtain ⟨rfl, h3, h4⟩ := h2
    have H3 := hid h3
    have H4 := hid h4
    clear h3 h4
    go_wp2_with fail
    go_end0
    exact ⟨rfl, H3.out, below_drew H4.out⟩
  · obtain ⟨rfl, h4⟩ := h2
    have H4 := hid h4
    clear h4
    go_wp2_with fail
    exact ⟨rfl, rfl, below_drew H4.out⟩

theorem step_minus (p i : Nat) (s : ByteArray) (l : List Tok) (w : World) (h : Sk w p s i l) (hi : i < s.size) (hs : s.size ≤ 4000) (hn : l.length ≤ 4000) (hb : bt s i = 45) :
    Calls Tryd.prog 14 #[.pointer (some ⟨p, 0, none⟩)] w (Ends w p s l (numP s i (i + 1))) := by
  have HX := index_is hi hb
  have k1 := number_any p i (i + 1) s l w.drew h.hp hi hi (by omega) hs hn
  rw [show (((i + 1 : Nat)) : Int) = (i : Int) + 1 by omega] at k1
  have K1 := hid k1
  have c5 : IntKind.i64.wrap ((i : Int) + 1) = (i : Int) + 1 := by rw [IntKind.wrap_i64]; omega
  obtain ⟨R, gR⟩ : ∃ R, R = numP s i (i + 1) := ⟨_, rfl⟩
  rw [← gR] at K1 ⊢
  obtain ⟨v, hc, ho⟩ := h
  have q0 := hc.tx
  have q1 := hc.pl
  clear hc ho hb gR k1
  go_enter Tryd.func14, Tryd.ntmps14
  go_wp2_with fail
  go_region
  go_wp2_with fail
  refine K1.out.mono ?_
  intro e w2 h2
  rcases R with k | ⟨t, k⟩ | ⟨j, why⟩
  · obtain ⟨rfl, h3, h4⟩ := h2
    have H3 := hid h3
    have H4 := hid h4
    clear h3 h4
    go_wp2_with fail
    go_end0
    exact ⟨rfl, H3.out, below_drew H4.out⟩
  · obtain ⟨rfl, h3, h4⟩ := h2
    have H3 := hid h3
    have H4 := hid h4
    clear h3 h4
    go_wp2_with fail
    go_end0
    exact ⟨rfl, H3.out, below_drew H4.out⟩
  · obtain ⟨rfl, h4⟩ := h2
    have H4 := hid h4
    clear h4
    go_wp2_with fail
    exact ⟨rfl, rfl, below_drew H4.out⟩

theorem step_else (p i : Nat) (s : ByteArray) (l : List Tok) (w : World) (h : Sk w p s i l) (hi : i < s.size) (hs : s.size ≤ 4000) (hn : l.length ≤ 4000)
    (h1 : isBlank (bt s i) = false) (h2 : ¬ bt s i = 35) (h3 : isMark (bt s i) = false) (h4 : ¬ bt s i = 10) (h5 : ¬ bt s i = 34) (h6 : ¬ bt s i = 45) :
    Calls Tryd.prog 14 #[.pointer (some ⟨p, 0, none⟩)] w (Ends w p s l (wordP s i)) := by
  have HX := index_is hi rfl
  have K1 := hid (word_any p i s l w.drew h.hp hi hs hn)
  obtain ⟨R, gR⟩ : ∃ R, R = wordP s i := ⟨_, rfl⟩
  rw [← gR] at K1 ⊢
  simp only [isBlank, isMark, Bool.or_eq_false_iff, decide_eq_false_iff_not] at h1 h3
  obtain ⟨⟨n1, n2⟩, n3⟩ := h1
  obtain ⟨⟨⟨⟨⟨⟨⟨⟨n4, n5⟩, n6⟩, n7⟩, n8⟩, n9⟩, n10⟩, n11⟩, n12⟩ := h3
  obtain ⟨b, gb⟩ : ∃ b, b = bt s i := ⟨_, rfl⟩
  rw [← gb] at *
  obtain ⟨v, hc, ho⟩ := h
  have q0 := hc.tx
  have q1 := hc.pl
  clear hc ho gb gR
  go_enter Tryd.func14, Tryd.ntmps14
  go_wp2_with fail
  go_region
  go_wp2_with fail
  refine K1.out.mono ?_
  intro e w2 h2
  rcases R with k | ⟨t, k⟩ | ⟨j, why⟩
  · obtain ⟨rfl, h3, h4⟩ := h2
    have H3 := hid h3
    have H4 := hid h4
    clear h3 h4
    go_wp2_with fail
    go_end0
    exact ⟨rfl, H3.out, below_drew H4.out⟩
  · obtain ⟨rfl, h3, h4⟩ := h2
    have H3 := hid h3
    have H4 := hid h4
    clear h3 h4
    go_wp2_with fail
    go_end0
    exact ⟨rfl, H3.out, below_drew H4.out⟩
  · obtain ⟨rfl, h4⟩ := h2
    have H4 := hid h4
    clear h4
    go_wp2_with fail
    exact ⟨rfl, rfl, below_drew H4.out⟩

theorem step_any (p i : Nat) (s : ByteArray) (l : List Tok) (w : World) (h : Sk w p s i l) (hi : i < s.size) (hs : s.size ≤ 4000) (hn : l.length ≤ 4000) :
    Calls Tryd.prog 14 #[.pointer (some ⟨p, 0, none⟩)] w (Ends w p s l (stepP s i)) := by
  unfold stepP
  split
  · rename_i h1
    exact step_blank p i s l w h hi hs _ rfl (by simpa [isBlank, or_assoc] using h1)
  rename_i h1
  split
  · rename_i h2
    exact step_note p i s l w h hi hs h2
  rename_i h2
  split
  · rename_i h3
    exact step_mark p i s l w h hi hs hn _ rfl (by simpa [isMark, or_assoc] using h3)
  rename_i h3
  split
  · rename_i h4
    exact step_line p i s l w h hi hs hn h4
  rename_i h4
  split
  · rename_i h5
    exact step_text p i s l w h hi hs hn h5
  rename_i h5
  split
  · rename_i h6
    exact step_minus p i s l w h hi hs hn h6
  rename_i h6
  exact step_else p i s l w h hi hs hn (by simpa using h1) h2 (by simpa using h3) h4 h5 h6

end Go.Proofs.YtidcodpekeaigaaDoor
