/- The scanner takes a number, or gives up: the walk. -/
import Derived.Test.YtidcodpekeaigaaDoorLTake2
import Derived.Test.YtidcodpekeaigaaDoorLQuoted
import Derived.Deep.Cut
import Derived.Deep.CutRange
import Derived.Laws.OwnMore
namespace Go.Proofs.YtidcodpekeaigaaDoor
open Go.RowKit
set_option linter.unusedVariables false

theorem set_last {α : Type} (A : List α) (b c d x y : α) : (A ++ [b, c, d, x]).set (A.length + 3) y = A ++ [b, c, d, y] := by
  rw [List.set_append_right _ _ (by omega), show A.length + 3 - A.length = 3 by omega]; rfl

theorem Sk.hp {w : World} {p i : Nat} {s : ByteArray} {l : List Tok} (h : Sk w p s i l) : Sk w.drew p s i l := by
  obtain ⟨v, hc, ho⟩ := h
  exact ⟨v, hc.hp rfl, ho.drew⟩
theorem below_drew' {B : Nat} {w : World} {w' : World} (h : Below B w.drew w') : Below B w w' := ⟨h.os, h.tape, h.output, h.size, h.block⟩

def BaseOk (b : Int) : Prop := b = 10 ∨ b = 16

/-- The number of the token that was taken last. -/
theorem Sk.num {w : World} {p k : Nat} {s : ByteArray} {l : List Tok} {t : Tok} (h : Sk w p s k (l ++ [t])) :
    ∃ g c, Sc w p s k (.slice (some ⟨g, 0, none⟩) (l.length + 1) c) ∧ w.cell? ⟨g, l.length * 4 + 3, none⟩ = some (.int .i64 t.num) ∧ w.frozen? ⟨g, l.length * 4 + 3, none⟩ = false ∧ p + 1 ≤ g ∧
      ∀ n, Sk (w.setCell ⟨g, l.length * 4 + 3, none⟩ (.int .i64 n)) p s k (l ++ [{ t with num := n }]) := by
  obtain ⟨v, hc, ho⟩ := h
  obtain ⟨a, c, rfl, _, _⟩ := own_shape ho
  rw [List.length_append] at ho hc
  have ho' : w.ownsRow (p + 1) 33 4 (.slice a (l.length + 1) c) (l.length + 1) (toks (l ++ [t])) := ho
  obtain ⟨g, rfl⟩ : ∃ g, a = some ⟨g, 0, none⟩ := by
    rcases ho'.2 with ⟨h, _⟩ | ⟨g, cap, cur, h, _⟩
    · simp at h
    · simp only [Value.slice.injEq] at h
      exact ⟨g, h.1⟩
  have hl := toks_length l
  refine ⟨g, c, hc, ?_, ho'.frozenAt _, (ho'.lt g rfl).1, fun n => ⟨_, hc.upd (Upd.setCell (F := fun k => k = g) w ⟨g, _, none⟩ _ rfl) (fun e => ?_), ?_⟩⟩
  · rw [ho'.cellAt _ (by omega), toks_snoc, ← hl, List.getElem?_append_right (by omega), show (toks l).length + 3 - (toks l).length = 3 by omega]
    rfl
  · have := (ho'.lt g rfl).1
    omega
  · have h3 := (ho'.stored (l.length * 4 + 3) (.int .i64 n)).1
    rw [List.length_append, toks_snoc]
    rw [toks_snoc, ← hl] at h3
    have h4 : (toks l ++ tokc t).set ((toks l).length + 3) (.int .i64 n) = toks l ++ tokc { t with num := n } := set_last (toks l) _ _ _ _ _
    rw [h4, hl] at h3
    exact h3

set_option maxRecDepth 100000 in
set_option maxHeartbeats 8000000 in
theorem number_any (p i d : Nat) (s : ByteArray) (l : List Tok) (w : World) (h : Sk w p s i l) (hi : i < s.size) (hd : d ≤ s.size) (hid' : i ≤ d) (hs : s.size ≤ 4000) (hn : l.length ≤ 4000) :
    Calls Tryd.prog 25 #[.pointer (some ⟨p, 0, none⟩), .int .i64 d] w (Ends w p s l (numP s i d)) := by
  have hsk := hid h
  obtain ⟨v, hc, ho⟩ := h
  have k0 := hid (byteat_any p i d s v w hc (by omega))
  have k1 := hid (byteat_any p i (d + 1) s v w hc (by omega))
  have k2 := hid (byteat_any p i (d + 2) s v w hc (by omega))
  have k3 := hid (value_any (bt s (d + 2)) (bt_range s (d + 2)) w)
  have HC := hid hc
  have c5 : IntKind.i64.wrap ((d : Int) + 1) = (d : Int) + 1 := by rw [IntKind.wrap_i64]; omega
  have c6 : IntKind.i64.wrap ((d : Int) + 2) = (d : Int) + 2 := by rw [IntKind.wrap_i64]; omega
  obtain ⟨R, gR⟩ : ∃ R, R = numP s i d := ⟨_, rfl⟩
  rw [← gR]
  have GR := hid gR
  clear gR ho
  have q0 := hc.tx
  have q1 := hc.pl
  clear hc
  go_enter Tryd.func25, Tryd.ntmps25
  go_upto_region 1 with fail
  go_cut [25] from 5 (fun s25 wx => ∃ B : Bool, s25 = .bool B ∧ wx = w ∧ Hid (B = true ↔ (bt s d = 48 ∧ bt s (d + 1) = 120 ∧ val (bt s (d + 2)) < 16)))
  case first =>
    by_cases e0 : bt s d = 48
    · by_cases e1 : bt s (d + 1) = 120
      · rw [e0] at k0
        rw [e1] at k1
        obtain ⟨b, gb⟩ : ∃ b, b = bt s (d + 2) := ⟨_, rfl⟩
        rw [← gb] at k2 k3
        obtain ⟨x, gx⟩ : ∃ x, x = val b := ⟨_, rfl⟩
        rw [← gx] at k3
        have HB : Hid (decide (x < 16) = true ↔ (bt s d = 48 ∧ bt s (d + 1) = 120 ∧ val (bt s (d + 2)) < 16)) := hid (by rw [gx, gb]; simp [e0, e1])
        clear gb gx e0 e1
        go_wp2_with fail
        refine k0.out.mono ?_
        rintro e w1 ⟨rfl, rfl⟩
        go_wp2_with fail
        refine k1.out.mono ?_
        rintro e w1 ⟨rfl, rfl⟩
        go_wp2_with fail
        refine k2.out.mono ?_
        rintro e w1 ⟨rfl, rfl⟩
        go_wp2_with fail
        refine k3.out.mono ?_
        rintro e w1 ⟨rfl, rfl⟩
        go_wp2_with fail
        go_meet
        case rel => exact ⟨decide (x < 16), rfl, rfl, HB⟩
      · have HB : Hid (false = true ↔ (bt s d = 48 ∧ bt s (d + 1) = 120 ∧ val (bt s (d + 2)) < 16)) := hid (by simp [e1])
        rw [e0] at k0
        obtain ⟨b, gb⟩ : ∃ b, b = bt s (d + 1) := ⟨_, rfl⟩
        rw [← gb] at k1 e1
        clear e0 gb
        go_wp2_with fail
        refine k0.out.mono ?_
        rintro e w1 ⟨rfl, rfl⟩
        go_wp2_with fail
        refine k1.out.mono ?_
        rintro e w1 ⟨rfl, rfl⟩
        go_wp2_with fail
        go_meet
        case rel => exact ⟨false, rfl, rfl, HB⟩
    · have HB : Hid (false = true ↔ (bt s d = 48 ∧ bt s (d + 1) = 120 ∧ val (bt s (d + 2)) < 16)) := hid (by simp [e0])
      obtain ⟨b, gb⟩ : ∃ b, b = bt s d := ⟨_, rfl⟩
      rw [← gb] at k0 e0
      clear gb
      go_wp2_with fail
      refine k0.out.mono ?_
      rintro e w1 ⟨rfl, rfl⟩
      go_wp2_with fail
      go_meet
      case rel => exact ⟨false, rfl, rfl, HB⟩
  case rest =>
    obtain ⟨B, rfl, rfl, HB⟩ := hcut
    clear k0 k1 k2 k3
    go_upto_if 25 with fail
    go_cut [1, 4] from 5 (fun s1 s4 wx => ∃ (D : Nat) (base : Int), s1 = .int .i64 D ∧ s4 = .int .i64 base ∧ wx = wc ∧ Hid (R = numD s i base D ∧ D ≤ s.size ∧ i ≤ D ∧ BaseOk base))
    case first =>
      cases B
      · have HR : Hid (R = numD s i 10 d ∧ d ≤ s.size ∧ i ≤ d ∧ BaseOk 10) := hid ⟨by rw [GR.out]; unfold numP; rw [if_neg (fun h => absurd (HB.out.2 h) (by decide))], hd, hid', .inl rfl⟩
        go_wp2_with fail
        go_meet
        case rel => exact ⟨d, 10, rfl, rfl, rfl, HR⟩
      · have hb := HB.out.1 rfl
        have HR : Hid (R = numD s i 16 (d + 2) ∧ d + 2 ≤ s.size ∧ i ≤ d + 2 ∧ BaseOk 16) := hid ⟨by rw [GR.out]; unfold numP; rw [if_pos hb], Nat.le_of_lt (digit_lt (by omega) hb.2.2), by omega, .inr rfl⟩
        clear hb
        go_wp2_with fail
        go_meet
        case rel => exact ⟨d + 2, 16, by go_num, rfl, rfl, HR⟩
    case rest =>
      obtain ⟨D, base, rfl, rfl, rfl, HR⟩ := hcut
      clear c5 c6 HB hd hid' GR
      obtain ⟨hR, hD, hiD, hB⟩ := HR.out
      have hbb : 2 ≤ base ∧ base ≤ 16 := by rcases hB with h | h <;> omega
      have ka := hid (amount_any p i D base hbb s v wc HC.out hD hs)
      have ab := amt_bound (s := s) (base := base) (top := 2147483649) (n := 0) (i := D) hbb.2 (by omega) ⟨by omega, by omega⟩
      have al := amt_le (s := s) (base := base) (top := 2147483649) (n := 0) (i := D) hbb.2 hD
      have ag := amt_ge (s := s) (base := base) (top := 2147483649) (n := 0) (i := D) hbb.2
      unfold numD at hR
      obtain ⟨a, ga⟩ : ∃ a, a = (amt s base 2147483649 0 D).1 := ⟨_, rfl⟩
      obtain ⟨E, gE⟩ : ∃ E, E = (amt s base 2147483649 0 D).2 := ⟨_, rfl⟩
      rw [← ga, ← gE] at ka hR
      rw [← ga] at ab
      rw [← gE] at al ag
      clear ga gE hB hbb HR
      have kb := hid (byteat_any p i E s v wc HC.out (by omega))
      have kn := hid (inname_any (bt s E) wc)
      by_cases e1 : E = D
      · have HQ : Hid (R = .bad i 120) := hid (by rw [hR]; unfold numE; rw [if_pos e1])
        have kg := hid (giveup_any i 120 wc)
        subst e1
        clear hR
        go_wp2_with fail
        refine ka.out.mono ?_
        rintro e w1 ⟨rfl, rfl⟩
        go_wp2_with fail
        refine kg.out.mono ?_
        rintro e w1 ⟨rfl, rfl⟩
        go_wp2_with fail
        rw [HQ.out]
        exact ⟨rfl, rfl, Below.refl _ _⟩
      · have c1 : ¬ (E : Int) = (D : Int) := by omega
        by_cases e2 : 2147483648 < a
        · have HQ : Hid (R = .bad i 122) := hid (by rw [hR]; unfold numE; rw [if_neg e1, if_pos e2])
          have kg := hid (giveup_any i 122 wc)
          clear hR
          go_wp2_with fail
          refine ka.out.mono ?_
          rintro e w1 ⟨rfl, rfl⟩
          go_wp2_with fail
          refine kg.out.mono ?_
          rintro e w1 ⟨rfl, rfl⟩
          go_wp2_with fail
          rw [HQ.out]
          exact ⟨rfl, rfl, Below.refl _ _⟩
        · by_cases e3 : inNm (bt s E) = true
          · have HQ : Hid (R = .bad E 120) := hid (by rw [hR]; unfold numE; rw [if_neg e1, if_neg e2, if_pos e3])
            have kg := hid (giveup_any E 120 wc)
            rw [e3] at kn
            obtain ⟨b, gb⟩ : ∃ b, b = bt s E := ⟨_, rfl⟩
            rw [← gb] at kb kn
            clear hR gb e3
            go_wp2_with fail
            refine ka.out.mono ?_
            rintro e w1 ⟨rfl, rfl⟩
            go_wp2_with fail
            refine kb.out.mono ?_
            rintro e w1 ⟨rfl, rfl⟩
            go_wp2_with fail
            refine kn.out.mono ?_
            rintro e w1 ⟨rfl, rfl⟩
            go_wp2_with fail
            refine kg.out.mono ?_
            rintro e w1 ⟨rfl, rfl⟩
            go_wp2_with fail
            rw [HQ.out]
            exact ⟨rfl, rfl, Below.refl _ _⟩
          · have e3' : inNm (bt s E) = false := by simpa using e3
            have HQ : Hid (R = .tok ⟨2, i, s.extract i E, sgn s i a⟩ E) := hid (by rw [hR]; unfold numE; rw [if_neg e1, if_neg e2, if_neg e3])
            rw [e3'] at kn
            have kt := hid (take_any p i E 2 s l wc.drew (by obtain ⟨v', h1, h2⟩ := hsk.out; exact ⟨v', h1.hp rfl, h2.drew⟩) (by omega) al hs hn)
            have HX := index_bt s i hi
            obtain ⟨b, gb⟩ : ∃ b, b = bt s E := ⟨_, rfl⟩
            rw [← gb] at kb kn
            obtain ⟨x, gx⟩ : ∃ x, x = bt s i := ⟨_, rfl⟩
            rw [← gx] at HX
            obtain ⟨y, gy⟩ : ∃ y, y = sgn s i a := ⟨_, rfl⟩
            rw [← gy] at HQ
            unfold sgn at gy
            rw [← gx] at gy
            have GY := hid gy
            clear hR gb e3 e3' gx gy
            go_wp2_with fail
            refine ka.out.mono ?_
            rintro e w1 ⟨rfl, rfl⟩
            go_wp2_with fail
            refine kb.out.mono ?_
            rintro e w1 ⟨rfl, rfl⟩
            go_wp2_with fail
            refine kn.out.mono ?_
            rintro e w1 ⟨rfl, rfl⟩
            go_wp2_with fail
            go_region
            go_upto_if 68 with fail
            go_cut [5] from 7 (fun s5 wx => s5 = .int .i64 y ∧ wx = w1.drew)
            case first =>
              by_cases ex : x = 45
              · have gy' : y = - a := by rw [GY.out, if_pos ex]
                subst ex
                subst gy'
                have cn : IntKind.i64.wrap (- a) = - a := by rw [IntKind.wrap_i64]; omega
                clear GY
                go_wp2_with fail
                go_meet
                case rel => exact ⟨rfl, rfl⟩
              · have gy' : y = a := by rw [GY.out, if_neg ex]
                subst gy'
                clear GY
                go_wp2_with fail
                go_meet
                case rel => exact ⟨rfl, rfl⟩
            case rest =>
              obtain ⟨rfl, rfl⟩ := hcut
              go_wp2_with fail
              refine kt.out.mono ?_
              rintro e w2 ⟨rfl, h3, h4⟩
              obtain ⟨g, c, n0, n1, n2, n3, n4⟩ := h3.num
              have m0 := n0.tk
              have HN := hid (n4 y)
              have HB4 := hid h4
              have n3' := hid n3
              have j1 : (0 : Int) ≤ ((l.length + 1 : Nat) : Int) - 1 := by omega
              have j2 : ((l.length + 1 : Nat) : Int) - 1 < ((l.length + 1 : Nat) : Int) := by omega
              have j3 : IntKind.i64.wrap (((l.length + 1 : Nat) : Int) - 1) = ((l.length + 1 : Nat) : Int) - 1 := by rw [IntKind.wrap_i64]; omega
              clear h3 h4 n0 n3 n4
              clear GY
              go_wp2_with fail
              go_region
              go_end0
              rw [HQ.out]
              refine ⟨rfl, HN.out.hp, below_drew' (HB4.out.trans ?_)⟩
              exact ((Upd.setCell (F := fun k => k = g) w2 ⟨g, l.length * 4 + 3, none⟩ (.int .i64 y) rfl).below (Nat.le_trans (Nat.le_of_lt HC.out.lt) HB4.out.size) (fun x hx => by have := n3'.out; omega)).drew

end Go.Proofs.YtidcodpekeaigaaDoor
