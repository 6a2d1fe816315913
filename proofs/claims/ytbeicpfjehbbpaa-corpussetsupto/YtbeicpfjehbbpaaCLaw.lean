/- The road of CorpusSets. -/
import Derived.Test.YtbeicpfjehbbpaaCWith
namespace Go.Proofs.Ytbeicpfjehbbpaa
open Go.RowKit
set_option linter.unusedVariables false

theorem mem_lacks (l k : List Int) (x : Int) : x ∈ lacks l k ↔ x ∈ l ∧ x ∉ k := by
  unfold lacks
  rw [List.mem_filter]
  simp

set_option maxHeartbeats 4000000 in
theorem csets (a : Option Addr) (n c : Nat) (l : List Int) (b : Option Addr) (m d : Nat) (k : List Int) (w : World) (h : Ilst w a n c l) (q : Ilst w b m d k) (hn : (n + m) * 8 ≤ 140737488355328) :
    Calls Try.prog 3 #[.slice a n c, .slice b m d] w fun e w' => e = .returned (.bool true) ∧ Below w.heap.size w w' := by
  have k1 := hid (clone_lst a n c l w h (by omega))
  have HA := hid h
  have HK := hid q
  have hl := h.size
  have hk := q.size
  clear h q
  go_enter Try.func3, Try.ntmps3
  go_wp2_with fail
  refine k1.out.mono ?_
  rintro e w1 ⟨a1, c1, rfl, hW1, hb1⟩
  have A1 := hid (HA.out.below hb1)
  have K1 := hid (HK.out.below hb1)
  have X1 := hid hW1.ilst
  have HB1 := hid hb1
  have k2 := hid (clone_lst b m d k w1 K1.out (by omega))
  clear k1 HA HK hW1 hb1
  go_wp2_with fail
  refine k2.out.mono ?_
  rintro e w2 ⟨a2, c2, rfl, hW2, hb2⟩
  have A2 := hid (A1.out.below hb2)
  have K2 := hid (K1.out.below hb2)
  have X2 := hid (X1.out.below hb2)
  have Y2 := hid hW2.ilst
  have HB2 := hid (HB1.out.trans (hb2.mono HB1.out.size))
  have k3 := hid (pmerge a1 n c1 l a2 m c2 k w2 X2.out Y2.out hn)
  clear k2 A1 K1 X1 hW2 hb2 HB1
  go_wp2_with fail
  refine k3.out.mono ?_
  rintro e w3 ⟨a3, n3, c3, r3, rfl, hI3, hR3, hb3⟩
  have A3 := hid (A2.out.below hb3)
  have K3 := hid (K2.out.below hb3)
  have X3 := hid (X2.out.below hb3)
  have Y3 := hid (Y2.out.below hb3)
  have M3 := hid hI3
  have R3 := hid hR3
  have HB3 := hid (HB2.out.trans (hb3.mono HB2.out.size))
  have k4 := hid (pwithout a1 n c1 l a2 m c2 k w3 X3.out Y3.out (by omega) (by omega))
  clear k3 A2 K2 X2 Y2 hI3 hR3 hb3 HB2
  go_wp2_with fail
  refine k4.out.mono ?_
  rintro e w4 ⟨a4, n4, c4, r4, rfl, hI4, hR4, hl4, hb4⟩
  have A4 := hid (A3.out.below hb4)
  have K4 := hid (K3.out.below hb4)
  have X4 := hid (X3.out.below hb4)
  have Y4 := hid (Y3.out.below hb4)
  have M4 := hid (M3.out.below hb4)
  have O4 := hid hI4
  have R4 := hid hR4
  have L4 : Hid (n4 ≤ n) := hid (by have := hI4.size; omega)
  have HB4 := hid (HB3.out.trans (hb4.mono HB3.out.size))
  have k5 := hid (eq_lst a1 a n c1 n c l w4 X4.out A4.out (by omega))
  clear k4 A3 K3 X3 Y3 M3 hI4 hR4 hl4 hb4 HB3
  go_wp2_with fail
  refine k5.out.mono ?_
  rintro e w5 ⟨rfl, hb5⟩
  have A5 := hid (A4.out.below hb5)
  have K5 := hid (K4.out.below hb5)
  have Y5 := hid (Y4.out.below hb5)
  have M5 := hid (M4.out.below hb5)
  have O5 := hid (O4.out.below hb5)
  have HB5 := hid (HB4.out.trans (hb5.mono HB4.out.size))
  have k6 := hid (eq_lst a2 b m c2 m d k w5 Y5.out K5.out (by omega))
  clear k5 A4 K4 X4 Y4 M4 O4 hb5 HB4
  go_wp2_with fail
  refine k6.out.mono ?_
  rintro e w6 ⟨rfl, hb6⟩
  have A6 := hid (A5.out.below hb6)
  have K6 := hid (K5.out.below hb6)
  have M6 := hid (M5.out.below hb6)
  have O6 := hid (O5.out.below hb6)
  have HB6 := hid (HB5.out.trans (hb6.mono HB5.out.size))
  have k7 := hid (rmerge a n c l b m d k w6 A6.out K6.out hn)
  clear k6 A5 K5 Y5 M5 O5 hb6 HB5
  go_wp2_with fail
  refine k7.out.mono ?_
  rintro e w7 ⟨a7, n7, c7, r7, rfl, hI7, hR7, hS7, hb7⟩
  have A7 := hid (A6.out.below hb7)
  have K7 := hid (K6.out.below hb7)
  have M7 := hid (M6.out.below hb7)
  have O7 := hid (O6.out.below hb7)
  have HB7 := hid (HB6.out.trans (hb7.mono HB6.out.size))
  obtain rfl : r3 = r7 := R3.out.unique hR7 (fun x => Iff.rfl)
  have L7 : Hid (n3 ≤ 9223372036854775807) := hid (by
    have h1 := M7.out.size
    have h2 := hS7
    omega)
  have k8 := hid (eq_lst a3 a7 n3 c3 n7 c7 r3 w7 M7.out hI7 L7.out)
  clear k7 A6 K6 M6 O6 hI7 hR7 hb7 HB6 hS7
  go_wp2_with fail
  refine k8.out.mono ?_
  rintro e w8 ⟨rfl, hb8⟩
  have A8 := hid (A7.out.below hb8)
  have K8 := hid (K7.out.below hb8)
  have O8 := hid (O7.out.below hb8)
  have HB8 := hid (HB7.out.trans (hb8.mono HB7.out.size))
  have k9 := hid (rwithout a n c l b m d k w8 A8.out K8.out (by omega) (by omega))
  clear k8 A7 K7 M7 O7 hb8 HB7
  go_wp2_with fail
  refine k9.out.mono ?_
  rintro e w9 ⟨a9, n9, c9, r9, rfl, hI9, hR9, hb9⟩
  have A9 := hid (A8.out.below hb9)
  have K9 := hid (K8.out.below hb9)
  have O9 := hid (O8.out.below hb9)
  have HB9 := hid (HB8.out.trans (hb9.mono HB8.out.size))
  obtain rfl : r4 = r9 := R4.out.unique hR9 (fun x => Iff.rfl)
  have k10 := hid (eq_lst a4 a9 n4 c4 n9 c9 r4 w9 O9.out hI9 (by have := L4.out; omega))
  clear k9 A8 K8 O8 hI9 hR9 hb9 HB8
  go_wp2_with fail
  refine k10.out.mono ?_
  rintro e w10 ⟨rfl, hb10⟩
  have A10 := hid (A9.out.below hb10)
  have K10 := hid (K9.out.below hb10)
  have O10 := hid (O9.out.below hb10)
  have HB10 := hid (HB9.out.trans (hb10.mono HB9.out.size))
  have k11 := hid (pmerge a4 n4 c4 r4 b m d k w10 O10.out K10.out (by have := L4.out; omega))
  clear k10 A9 K9 O9 hb10 HB9
  go_wp2_with fail
  refine k11.out.mono ?_
  rintro e w11 ⟨a11, n11, c11, r11, rfl, hI11, hR11, hb11⟩
  have A11 := hid (A10.out.below hb11)
  have K11 := hid (K10.out.below hb11)
  have M11 := hid hI11
  have R11 := hid hR11
  have HB11 := hid (HB10.out.trans (hb11.mono HB10.out.size))
  have k12 := hid (rmerge a n c l b m d k w11 A11.out K11.out hn)
  clear k11 A10 K10 O10 hI11 hR11 hb11 HB10
  go_wp2_with fail
  refine k12.out.mono ?_
  rintro e w12 ⟨a12, n12, c12, r12, rfl, hI12, hR12, hS12, hb12⟩
  have M12 := hid (M11.out.below hb12)
  have HB12 := hid (HB11.out.trans (hb12.mono HB11.out.size))
  obtain rfl : r11 = r12 := R11.out.unique hR12 (fun x => by
    have h1 := R4.out.2 x
    rw [mem_lacks] at h1
    rw [List.mem_append, List.mem_append, h1]
    by_cases e : x ∈ k
    · simp [e]
    · simp [e])
  have k13 := hid (eq_lst a11 a12 n11 c11 n12 c12 r11 w12 M12.out hI12 (by
    have h1 := M12.out.size
    have h2 := hS12
    omega))
  clear k12 A11 K11 M11 hI12 hR12 hb12 HB11 hS12
  go_wp2_with fail
  refine k13.out.mono ?_
  rintro e w13 ⟨rfl, hb13⟩
  have HB13 := hid (HB12.out.trans (hb13.mono HB12.out.size))
  clear k13 hb13
  go_wp2_with fail
  go_ret
  exact ⟨rfl, HB13.out⟩

end Go.Proofs.Ytbeicpfjehbbpaa
