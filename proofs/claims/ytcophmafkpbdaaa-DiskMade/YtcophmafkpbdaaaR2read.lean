/- What the document's place and Read do. -/
import Derived.Test.YtcophmafkpbdaaaR2same
import Derived.Test.YtcophmafkpbdaaaR2own
namespace Go.Proofs.Ytcophmafkpbdaaa
open Go.RowKit
set_option linter.unusedVariables false

/-- Where a sector stands in an epoch. -/
def placeOf (es : List (Nat × List Int)) (k : Int) (r : Int) : Prop := (r = -1 ∧ ∀ s ∈ es, (s.1 : Int) ≠ k) ∨ ∃ j : Nat, r = (j : Int) ∧ ∃ h : j < es.length, (es[j].1 : Int) = k

set_option maxHeartbeats 1000000 in
set_option maxRecDepth 20000 in
theorem rplace (es : List (Nat × List Int)) (n : Nat) (a : Option Addr) (c : Nat) (k : Int) (w : World) (hn : es.length = n) (h1 : Wrs w a es) (hc : n ≤ c) (hc2 : c ≤ 9223372036854775807) :
    Calls Try.prog 52 #[.slice a n c, .int .i64 k] w fun e w' => ∃ r, e = .returned (.int .i64 r) ∧ placeOf es k r ∧ Below w.heap.size w w' := by
  have H1 := hid h1
  have HN := hid hn
  clear h1 hn
  go_enter Try.func52, Try.ntmps52
  go_wp2_with fail
  go_loopw [9] (fun t wr => ∃ i : Nat, t = .int .i64 i ∧ i ≤ n ∧ Hid (∀ s ∈ es.take i, (s.1 : Int) ≠ k) ∧ Hid (Below w.heap.size w wr)) (fun t _ => n - (intOf t).toNat)
  case atStart => exact ⟨0, rfl, Nat.zero_le _, hid (fun s hs => by simp at hs), hid (Below.refl _ _)⟩
  case round =>
    obtain ⟨i, rfl, hi, HS, HB⟩ := hrel
    by_cases hlt : i < n
    · have hil : i < es.length := by rw [HN.out]; exact hlt
      obtain ⟨b, o, e1, hl1, hc1⟩ := H1.out (Nat.lt_of_le_of_lt (Nat.zero_le _) hil)
      subst e1
      obtain ⟨x0, aa, ca, x1, x2⟩ := hc1 i hil
      have q0 := (HB.out.cell (p := ⟨b, o + i * 2, none⟩) hl1).trans x0
      have q1 := (HB.out.cell (p := ⟨b, o + i * 2 + 1, none⟩) hl1).trans x1
      have z1 := HB.out.size
      have hbB : Below w.heap.size w (wr.alloc (.cells #[.int .i64 (es[i].1 : Int), .slice (some aa) 128 ca] 57)) := HB.out.alloc z1 _
      have HBB := hid hbB
      by_cases hk : (es[i].1 : Int) = k
      · have hpl : placeOf es k (i : Int) := .inr ⟨i, rfl, hil, hk⟩
        have HPL := hid hpl
        rw [hk] at q0 HBB
        clear hc1 x0 x1 x2 hbB hpl hk
        go_wp2_with fail
        go_ret
        exact ⟨_, rfl, HPL.out, HBB.out⟩
      · have hnx : ∀ s ∈ es.take (i + 1), (s.1 : Int) ≠ k := by
          intro s hs
          rw [List.take_add_one, List.getElem?_eq_getElem hil] at hs
          rcases List.mem_append.1 hs with h | h
          · exact HS.out s h
          · simp at h; subst h; exact hk
        have HNX := hid hnx
        obtain ⟨S, gS⟩ : ∃ S : Int, S = (es[i].1 : Int) := ⟨_, rfl⟩
        rw [← gS] at q0 HBB hk
        clear hc1 x0 x1 x2 hbB hnx gS
        go_wp2_with fail
        go_roundw
        case rel => exact ⟨i + 1, by go_num, by omega, HNX, HBB⟩
        case measure => simp [intOf]; omega
    · obtain rfl : i = n := by omega
      have hpl : placeOf es k (-1) := .inl ⟨rfl, fun s hs => HS.out s (by rw [List.take_of_length_le (by rw [HN.out]; exact Nat.le_refl _)]; exact hs)⟩
      have HPL := hid hpl
      clear hpl
      go_wp2_with fail
      go_ret
      exact ⟨_, rfl, HPL.out, HB.out⟩

theorem overE_snoc (g : Nat → List Int) (es : List (Nat × List Int)) (y i : Nat) (h : y < es.length) : overE g (es.take (y + 1)) i = if i = es[y].1 then es[y].2 ++ (overE g (es.take y) i).drop es[y].2.length else overE g (es.take y) i := by
  rw [List.take_add_one, List.getElem?_eq_getElem h]
  unfold overE
  rw [List.foldl_append]
  rfl

theorem over_snoc (f : Nat → List Int) (E : List (List (Nat × List Int))) (x : Nat) (h : x < E.length) : over f (E.take (x + 1)) = overE (over f (E.take x)) E[x] := by
  rw [List.take_add_one, List.getElem?_eq_getElem h]
  unfold over
  rw [List.foldl_append]
  rfl

theorem own_lower {w : World} {B B' e size n : Nat} {v : Value} {xs : List Value} (h : w.ownsRow B e size v n xs) (hB : B' ≤ B) : w.ownsRow B' e size v n xs := by
  refine ⟨h.1, ?_⟩
  rcases h.2 with hn | ⟨g, cap, cur, rfl, hb, rest⟩
  · exact .inl hn
  · exact .inr ⟨g, cap, cur, rfl, Nat.le_trans hB hb, rest⟩

set_option maxHeartbeats 2000000 in
set_option maxRecDepth 20000 in
theorem rread (q n i m cE : Nat) (vB : Value) (f : Nat → List Int) (M : List Nat) (aE : Option Addr) (E : List (List (Nat × List Int))) (w : World) (hB : w.cell? ⟨q, 0, none⟩ = some vB) (hE : w.cell? ⟨q, 1, none⟩ = some (.slice aE m cE)) (hm : E.length = m) (hp : Pic w M vB n f) (he : Epsl w aE E) (hi : i < n) (hc : m ≤ cE) (hc2 : cE ≤ 9223372036854775807) :
    Calls Try.prog 36 #[.pointer (some ⟨q, 0, none⟩), .int .i64 i] w fun e w' => ∃ g c, e = .returned (.tuple #[.slice (some ⟨g, 0, none⟩) 128 c, .int .i64 0]) ∧
      w'.ownsRow w.heap.size 5 1 (.slice (some ⟨g, 0, none⟩) 128 c) 128 ((over f E i).map (Value.int .u8)) ∧ Below w.heap.size w w' := by
  obtain ⟨vs, hrow, hent⟩ := hp
  obtain ⟨u, hu, a0, c0, rfl, hs0, _⟩ := hent i hi
  obtain ⟨aB, cB, rfl, hcB, hcB2⟩ := own_shape hrow
  obtain ⟨gB, rfl⟩ : ∃ g, aB = some ⟨g, 0, none⟩ := by
    rcases hrow.2 with ⟨_, h⟩ | ⟨g, c, cur, h, _⟩
    · omega
    · injection h with h1 h2 h3; exact ⟨g, h1⟩
  have k1 := hid (rthere q n (some ⟨gB, 0, none⟩) cB i w hB)
  rw [show decide ((0 : Int) ≤ (i : Int) ∧ (i : Int) < (n : Int)) = true from decide_eq_true ⟨by omega, by omega⟩] at k1
  have b0 : w.cell? ⟨gB, i, none⟩ = some (.slice (some a0) 128 c0) := by rw [hrow.cellAt _ (by omega)]; exact hu
  have HE := hid he
  have HM := hid hm
  have HS0 := hid hs0
  have i0 : (0 : Int) ≤ (i : Int) := by omega
  have i1 : (i : Int) < (n : Int) := by omega
  clear he hm hs0 hrow hent hu hi
  go_enter Try.func36, Try.ntmps36
  go_wp2_with fail
  refine k1.out.mono ?_
  rintro r w1 ⟨rfl, rfl⟩
  go_wp2_with fail
  go_loopw [6, 27] (fun v t wr => ∃ x : Nat, t = .int .i64 x ∧ x ≤ m ∧ ∃ a c, v = .slice (some a) 128 c ∧ Hid (Src w1 (some a) 128 (over f (E.take x) i)) ∧ Hid (Below w1.heap.size w1 wr)) (fun _ t _ => m - (intOf t).toNat)
  case atStart => exact ⟨0, rfl, Nat.zero_le _, a0, c0, rfl, hid (by simpa [over] using HS0.out), hid (Below.refl _ _)⟩
  case round =>
    obtain ⟨x, rfl, hx, a, c, rfl, HS, HB⟩ := hrel
    by_cases hlt : x < m
    · have hxl : x < E.length := by rw [HM.out]; exact hlt
      obtain ⟨b, o, e1, hl1, hc1⟩ := HE.out (Nat.lt_of_le_of_lt (Nat.zero_le _) hxl)
      subst e1
      obtain ⟨aa, ca, x0, x1, x2, x3⟩ := hc1 x hxl
      have q0 := (HB.out.cell (p := ⟨b, o + x, none⟩) hl1).trans x0
      have hov := over_snoc f E x hxl
      obtain ⟨es, ges⟩ : ∃ es, es = E[x] := ⟨_, rfl⟩
      rw [← ges] at q0 x1 x3 hov
      obtain ⟨k, gk⟩ : ∃ k, k = es.length := ⟨_, rfl⟩
      rw [← gk] at q0 x1
      have HX3 := hid x3
      have HOV := hid hov
      have GK := hid gk
      clear hc1 x0 x3 hov ges gk
      go_wp2_with fail
      go_loopw [6, 33] (fun v t wr => ∃ y : Nat, t = .int .i64 y ∧ y ≤ k ∧ ∃ a c, v = .slice (some a) 128 c ∧ Hid (Src w1 (some a) 128 (overE (over f (E.take x)) (es.take y) i)) ∧ Hid (Below w1.heap.size w1 wr)) (fun _ t _ => k - (intOf t).toNat)
      case atStart => exact ⟨0, rfl, Nat.zero_le _, a, c, rfl, hid (by simpa [overE] using HS.out), HB⟩
      case round =>
        obtain ⟨y, rfl, hy, a', c', rfl, HS2, HB2⟩ := hrel
        by_cases hyl : y < k
        · have hye : y < es.length := by rw [← GK.out]; exact hyl
          obtain ⟨b2, o2, e2, hl2, hc2'⟩ := HX3.out (Nat.lt_of_le_of_lt (Nat.zero_le _) hye)
          subst e2
          obtain ⟨y0, ab, cb, y1, y2⟩ := hc2' y hye
          have r0 := (HB2.out.cell (p := ⟨b2, o2 + y * 2, none⟩) hl2).trans y0
          have r1 := (HB2.out.cell (p := ⟨b2, o2 + y * 2 + 1, none⟩) hl2).trans y1
          have z1 := HB2.out.size
          have hbB : Below w1.heap.size w1 (wr.alloc (.cells #[.int .i64 (es[y].1 : Int), .slice (some ab) 128 cb] 57)) := HB2.out.alloc z1 _
          have hsn := overE_snoc (over f (E.take x)) es y i hye
          have hl128 : (overE (over f (E.take x)) (es.take y) i).length = 128 := HS2.out.1
          have hb128 : es[y].2.length = 128 := y2.1
          by_cases hk : (es[y].1 : Int) = (i : Int)
          · have hki : i = es[y].1 := by omega
            rw [if_pos hki, hb128, List.drop_of_length_le (by omega), List.append_nil] at hsn
            have HNX : Hid (Src w1 (some ab) 128 (overE (over f (E.take x)) (es.take (y + 1)) i)) := by rw [hsn]; exact hid y2
            have HBB := hid hbB
            rw [hk] at r0 HBB
            clear hc2' y0 y1 y2 hbB hsn hl128 hb128 hk hki
            go_wp2_with fail
            go_roundw
            case rel => exact ⟨y + 1, by go_num, by omega, ab, cb, rfl, HNX, HBB⟩
            case measure => simp [intOf]; omega
          · have hki : ¬ i = es[y].1 := by omega
            rw [if_neg hki] at hsn
            have HNX : Hid (Src w1 (some a') 128 (overE (over f (E.take x)) (es.take (y + 1)) i)) := by rw [hsn]; exact HS2
            have HBB := hid hbB
            obtain ⟨S, gS⟩ : ∃ S : Int, S = (es[y].1 : Int) := ⟨_, rfl⟩
            rw [← gS] at r0 HBB hk
            clear hc2' y0 y1 y2 hbB hsn hl128 hb128 hki gS
            go_wp2_with fail
            go_roundw
            case rel => exact ⟨y + 1, by go_num, by omega, a', c', rfl, HNX, HBB⟩
            case measure => simp [intOf]; omega
        · obtain rfl : y = k := by omega
          have HNX : Hid (Src w1 (some a') 128 (over f (E.take (x + 1)) i)) := by
            rw [HOV.out]
            have h := HS2.out
            rw [List.take_of_length_le (l := es) (by rw [GK.out]; exact Nat.le_refl _)] at h
            exact hid h
          go_wp2_with fail
          go_roundw
          case rel => exact ⟨x + 1, by go_num, by omega, a', c', rfl, HNX, HB2⟩
          case measure => simp [intOf]; omega
    · obtain rfl : x = m := by omega
      have hS := HS.out
      rw [List.take_of_length_le (by rw [HM.out]; exact Nat.le_refl _)] at hS
      have ko := hid (own_any a 128 c _ wr (hS.below HB.out) (by omega))
      have z1 := HB.out.size
      clear hS HS
      go_wp2_with fail
      refine ko.out.mono ?_
      rintro r w2 ⟨g, c2', rfl, hown, hb2⟩
      have HO := hid hown
      have HB2 := hid (HB.out.trans (hb2.mono z1))
      clear hown hb2
      go_wp2_with fail
      go_ret2
      exact ⟨g, c2', rfl, own_lower HO.out z1, HB2.out⟩

theorem rread_no (q n cB : Nat) (aB : Option Addr) (i : Int) (w : World) (hB : w.cell? ⟨q, 0, none⟩ = some (.slice aB n cB)) (hi : ¬ (0 ≤ i ∧ i < n)) :
    Calls Try.prog 36 #[.pointer (some ⟨q, 0, none⟩), .int .i64 i] w fun e w' => e = .returned (.tuple #[.slice none 0 0, .int .i64 1]) ∧ w' = w := by
  have k1 := hid (rthere q n aB cB i w hB)
  rw [show decide ((0 : Int) ≤ i ∧ i < (n : Int)) = false from decide_eq_false hi] at k1
  clear hi
  go_enter Try.func36, Try.ntmps36
  go_wp2_with fail
  refine k1.out.mono ?_
  rintro r w1 ⟨rfl, rfl⟩
  go_wp2_with fail
  go_ret2
  exact ⟨rfl, rfl⟩

end Go.Proofs.Ytcophmafkpbdaaa
