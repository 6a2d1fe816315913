/- Lists of writes as they are read; and what SameSent, and EqualFunc of epochs, do with two that are the same. -/
import Derived.Test.YtcophmafkpbdaaaQPic2
import Derived.Test.YtcophmafkpbdaaaEqual
namespace Go.Proofs.Ytcophmafkpbdaaa
open Go.RowKit
set_option linter.unusedVariables false

/-- A list of writes lies from an address on. -/
def Wrs (w : World) (a : Option Addr) (es : List (Nat × List Int)) : Prop :=
  0 < es.length → ∃ b o, a = some ⟨b, o, none⟩ ∧ b < w.heap.size ∧ ∀ j, ∀ h : j < es.length, w.cell? ⟨b, o + j * 2, none⟩ = some (.int .i64 ((es[j].1 : Nat) : Int)) ∧ ∃ a' c', w.cell? ⟨b, o + j * 2 + 1, none⟩ = some (.slice (some a') 128 c') ∧ Src w (some a') 128 es[j].2

/-- Epochs lie from an address on. -/
def Epsl (w : World) (a : Option Addr) (E : List (List (Nat × List Int))) : Prop :=
  0 < E.length → ∃ b o, a = some ⟨b, o, none⟩ ∧ b < w.heap.size ∧ ∀ j, ∀ h : j < E.length, ∃ a' c', w.cell? ⟨b, o + j, none⟩ = some (.slice a' E[j].length c') ∧ E[j].length ≤ c' ∧ c' ≤ 9223372036854775807 ∧ Wrs w a' E[j]

theorem Wrs.below {w w' : World} {a : Option Addr} {es : List (Nat × List Int)} (h : Wrs w a es) (hb : Below w.heap.size w w') : Wrs w' a es := by
  intro hp
  obtain ⟨b, o, e, hlt, hc⟩ := h hp
  refine ⟨b, o, e, Nat.lt_of_lt_of_le hlt hb.size, fun j hj => ?_⟩
  obtain ⟨h1, a', c', h2, h3⟩ := hc j hj
  exact ⟨(hb.cell (p := ⟨b, _, none⟩) hlt).trans h1, a', c', (hb.cell (p := ⟨b, _, none⟩) hlt).trans h2, h3.below hb⟩

theorem Epsl.below {w w' : World} {a : Option Addr} {E : List (List (Nat × List Int))} (h : Epsl w a E) (hb : Below w.heap.size w w') : Epsl w' a E := by
  intro hp
  obtain ⟨b, o, e, hlt, hc⟩ := h hp
  refine ⟨b, o, e, Nat.lt_of_lt_of_le hlt hb.size, fun j hj => ?_⟩
  obtain ⟨a', c', h1, h2, h3, h4⟩ := hc j hj
  exact ⟨a', c', (hb.cell (p := ⟨b, _, none⟩) hlt).trans h1, h2, h3, h4.below hb⟩

set_option maxHeartbeats 1000000 in
theorem sent_eq (s : Nat) (a a2 : Addr) (c c2 : Nat) (zs : List Int) (w : World) (h1 : Src w (some a) 128 zs) (h2 : Src w (some a2) 128 zs) :
    Calls Try.prog 54 #[.agg #[.int .i64 (s : Int), .slice (some a) 128 c], .agg #[.int .i64 (s : Int), .slice (some a2) 128 c2]] w fun e w' => e = .returned (.bool true) ∧ Below w.heap.size w w' := by
  have ke := hid (fun wx (hb : Below w.heap.size w wx) => equal_yes (some a) (some a2) 128 c 128 c2 zs wx (h1.below hb) (h2.below hb))
  clear h1 h2
  go_enter Try.func54, Try.ntmps54
  go_wp2_with fail
  have hb2 : Below w.heap.size w ((w.alloc (.cells #[.int .i64 (s : Int), .slice (some a) 128 c] 57)).alloc (.cells #[.int .i64 (s : Int), .slice (some a2) 128 c2] 57)) := ((Below.refl _ _).alloc (Nat.le_refl _) _).alloc (by simp) _
  refine (ke.out _ hb2).mono ?_
  rintro r w2 ⟨rfl, h⟩
  subst w2
  go_wp2_with fail
  go_ret
  exact ⟨rfl, hb2⟩

set_option maxHeartbeats 1000000 in
set_option maxRecDepth 20000 in
theorem eqsent_yes (es : List (Nat × List Int)) (n : Nat) (a a2 : Option Addr) (c c2 : Nat) (w : World) (hn : es.length = n) (h1 : Wrs w a es) (h2 : Wrs w a2 es) (hc : n ≤ c) (hc2 : c ≤ 9223372036854775807) (hd : n ≤ c2) (hd2 : c2 ≤ 9223372036854775807) :
    Calls Try.prog 53 #[.slice a n c, .slice a2 n c2, .func (.func 54) #[] #[]] w fun e w' => e = .returned (.bool true) ∧ Below w.heap.size w w' := by
  have H1 := hid h1
  have H2 := hid h2
  have HN := hid hn
  clear h1 h2 hn
  go_enter Try.func53, Try.ntmps53
  go_wp2_with fail
  go_loopw [17] (fun k wr => ∃ i : Nat, k = .int .i64 i ∧ i ≤ n ∧ Hid (Below w.heap.size w wr)) (fun k _ => n - (intOf k).toNat)
  case atStart => exact ⟨0, rfl, Nat.zero_le _, hid (Below.refl _ _)⟩
  case round =>
    obtain ⟨i, rfl, hi, HB⟩ := hrel
    by_cases hlt : i < n
    · have hil : i < es.length := by rw [HN.out]; exact hlt
      obtain ⟨b, o, e1, hl1, hc1⟩ := H1.out (Nat.lt_of_le_of_lt (Nat.zero_le _) hil)
      obtain ⟨b2, o2, e2, hl2, hc2'⟩ := H2.out (Nat.lt_of_le_of_lt (Nat.zero_le _) hil)
      subst e1
      subst e2
      obtain ⟨x0, aa, ca, x1, x2⟩ := hc1 i hil
      obtain ⟨y0, ab, cb, y1, y2⟩ := hc2' i hil
      have q0 := (HB.out.cell (p := ⟨b, o + i * 2, none⟩) hl1).trans x0
      have q1 := (HB.out.cell (p := ⟨b, o + i * 2 + 1, none⟩) hl1).trans x1
      have z1 := HB.out.size
      have hbB : Below w.heap.size w (wr.alloc (.cells #[.int .i64 (es[i].1 : Int), .slice (some aa) 128 ca] 57)) := HB.out.alloc z1 _
      have r0 := (hbB.cell (p := ⟨b2, o2 + i * 2, none⟩) hl2).trans y0
      have r1 := (hbB.cell (p := ⟨b2, o2 + i * 2 + 1, none⟩) hl2).trans y1
      have hbA : Below w.heap.size w ((wr.alloc (.cells #[.int .i64 (es[i].1 : Int), .slice (some aa) 128 ca] 57)).alloc (.cells #[.int .i64 (es[i].1 : Int), .slice (some ab) 128 cb] 57)) := (HB.out.alloc z1 _).alloc (by simp; omega) _
      have ke := hid (sent_eq es[i].1 aa ab ca cb es[i].2 _ (x2.below hbA) (y2.below hbA))
      have HBA := hid hbA
      obtain ⟨S, gS⟩ : ∃ S, S = es[i].1 := ⟨_, rfl⟩
      rw [← gS] at q0 r0 r1 ke HBA
      clear hc1 hc2' x0 x1 x2 y0 y1 y2 hbA gS hbB
      go_wp2_with fail
      refine ke.out.mono ?_
      rintro r w2 ⟨rfl, hb2⟩
      have HB2 := hid (HBA.out.trans (hb2.mono HBA.out.size))
      clear hb2
      go_wp2_with fail
      go_roundw
      case rel => exact ⟨i + 1, by go_num, by omega, HB2⟩
      case measure => simp [intOf]; omega
    · obtain rfl : i = n := by omega
      go_wp2_with fail
      go_ret
      exact ⟨rfl, HB.out⟩

theorem samesent_yes (es : List (Nat × List Int)) (n : Nat) (a a2 : Option Addr) (c c2 : Nat) (w : World) (hn : es.length = n) (h1 : Wrs w a es) (h2 : Wrs w a2 es) (hc : n ≤ c) (hc2 : c ≤ 9223372036854775807) (hd : n ≤ c2) (hd2 : c2 ≤ 9223372036854775807) :
    Calls Try.prog 39 #[.slice a n c, .slice a2 n c2] w fun e w' => e = .returned (.bool true) ∧ Below w.heap.size w w' := by
  have k := hid (eqsent_yes es n a a2 c c2 w hn h1 h2 hc hc2 hd hd2)
  clear h1 h2 hn
  go_enter Try.func39, Try.ntmps39
  go_wp2_with fail
  refine k.out.mono ?_
  rintro r w2 ⟨rfl, hb⟩
  go_wp2_with fail
  go_ret
  exact ⟨rfl, hb⟩

set_option maxHeartbeats 1000000 in
set_option maxRecDepth 20000 in
theorem sameeps_yes (E : List (List (Nat × List Int))) (n : Nat) (a a2 : Option Addr) (c c2 : Nat) (w : World) (hn : E.length = n) (h1 : Epsl w a E) (h2 : Epsl w a2 E) (hc : n ≤ c) (hc2 : c ≤ 9223372036854775807) (hd : n ≤ c2) (hd2 : c2 ≤ 9223372036854775807) :
    Calls Try.prog 38 #[.slice a n c, .slice a2 n c2, .func (.func 39) #[] #[]] w fun e w' => e = .returned (.bool true) ∧ Below w.heap.size w w' := by
  have H1 := hid h1
  have H2 := hid h2
  have HN := hid hn
  clear h1 h2 hn
  go_enter Try.func38, Try.ntmps38
  go_wp2_with fail
  go_loopw [17] (fun k wr => ∃ i : Nat, k = .int .i64 i ∧ i ≤ n ∧ Hid (Below w.heap.size w wr)) (fun k _ => n - (intOf k).toNat)
  case atStart => exact ⟨0, rfl, Nat.zero_le _, hid (Below.refl _ _)⟩
  case round =>
    obtain ⟨i, rfl, hi, HB⟩ := hrel
    by_cases hlt : i < n
    · have hil : i < E.length := by rw [HN.out]; exact hlt
      obtain ⟨b, o, e1, hl1, hc1⟩ := H1.out (Nat.lt_of_le_of_lt (Nat.zero_le _) hil)
      obtain ⟨b2, o2, e2, hl2, hc2'⟩ := H2.out (Nat.lt_of_le_of_lt (Nat.zero_le _) hil)
      subst e1
      subst e2
      obtain ⟨aa, ca, x0, x1, x2, x3⟩ := hc1 i hil
      obtain ⟨ab, cb, y0, y1, y2, y3⟩ := hc2' i hil
      have q0 := (HB.out.cell (p := ⟨b, o + i, none⟩) hl1).trans x0
      have r0 := (HB.out.cell (p := ⟨b2, o2 + i, none⟩) hl2).trans y0
      have z1 := HB.out.size
      have ke := hid (samesent_yes E[i] E[i].length aa ab ca cb wr rfl (x3.below HB.out) (y3.below HB.out) x1 x2 y1 y2)
      obtain ⟨m, gm⟩ : ∃ m, m = E[i].length := ⟨_, rfl⟩
      rw [← gm] at q0 r0 ke
      clear hc1 hc2' x0 x1 x2 x3 y0 y1 y2 y3 gm
      go_wp2_with fail
      refine ke.out.mono ?_
      rintro r w2 ⟨rfl, hb2⟩
      have HB2 := hid (HB.out.trans (hb2.mono z1))
      clear hb2
      go_wp2_with fail
      go_roundw
      case rel => exact ⟨i + 1, by go_num, by omega, HB2⟩
      case measure => simp [intOf]; omega
    · obtain rfl : i = n := by omega
      go_wp2_with fail
      go_ret
      exact ⟨rfl, HB.out⟩

end Go.Proofs.Ytcophmafkpbdaaa
