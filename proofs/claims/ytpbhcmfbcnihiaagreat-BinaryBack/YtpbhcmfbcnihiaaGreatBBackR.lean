/- The road of BinaryBack. -/
import Derived.Test.YtpbhcmfbcnihiaaGreatBTornR
import Derived.Test.YtpbhcmfbcnihiaaGreatBSame
namespace Go.Proofs.YtpbhcmfbcnihiaaGreat
open Go.RowKit Num
set_option linter.unusedVariables false
set_option maxRecDepth 20000

/-- The second half: bytes that came in. -/
theorem DecPost.some {w w' : World} {l : List Ex} {e : Ending} (h : DecPost w (some l) e w') : Below w.heap.size w w' ∧ ∃ a n c, e = .returned (.tuple #[.slice a n c, .int .i64 0]) ∧ l.length = n ∧ n ≤ c ∧ c ≤ 9223372036854775807 ∧ Lies 3 ExAt (fun k => w.heap.size ≤ k) w' a l := h
theorem DecPost.none {w w' : World} {e : Ending} (h : DecPost w none e w') : Below w.heap.size w w' ∧ e = .returned (.tuple #[.slice none 0 0, .int .i64 180]) := h

set_option maxHeartbeats 8000000 in
theorem back_road (a : Option Addr) (n c : Nat) (l : List Ex) (N : Nat → Prop) (b0 : Option Addr) (bn bc : Nat) (zs : List Int) (w : World) (h : Lies 3 ExAt N w a l) (hn : l.length = n) (hc : n ≤ c) (hm : c ≤ 9223372036854775807) (hb : ByP l) (hs : Src w b0 bn zs) (hz : Bytes zs) (hr : bn ≤ 281474976710656) :
    Calls Tryz.prog 5 #[.slice a n c, .slice b0 bn bc] w fun e w' => e = .returned (.bool true) ∧ Below w.heap.size w w' := by
  have HK := hid (fun (w' : World) (hb' : Below w.heap.size w w') => h.keep (N' := N) (W' := w') (fun _ _ _ h => ExAt.keep (Keep.below hb') h) (Keep.below hb'))
  have HSK := hid (fun (w' : World) (hb' : Below w.heap.size w w') => hs.below hb')
  have k1 := hid (encode_any a n c l N w h hn hc hm hb)
  have k2 := hid (fun w' hb' => rcan_any a n c l N w' (HK.out w' hb') hn (by omega))
  have k4 := hid (fun w' hb' => decode_any b0 bn bc zs w' (HSK.out w' hb') hz hr)
  have hBy := eP_bytes hb
  have hTh := fun e => dcd_there (l := l) e
  have hLe := fun e => pB_len (l := l) e
  have k3 := hid (fun (w' : World) (x : Option Addr) (cc : Nat) (hP : pB l = true) (hx : Src w' x (eP l).length (eP l)) => decode_any x (eP l).length cc (eP l) w' hx hBy (by have := hLe hP; omega))
  obtain ⟨D, gD⟩ : ∃ D, dcd zs = D := ⟨_, rfl⟩
  simp only [gD] at k4
  have GD := hid gD
  have HZ := hid hz
  have HN := hid hn
  obtain ⟨P, gP⟩ : ∃ P, pB l = P := ⟨_, rfl⟩
  have GP := hid gP
  rw [gP] at k1
  simp only [gP] at k2
  have HTh := hid hTh
  clear h hn hb hs hz gD gP hBy hTh hLe
  cases P
  · simp only [Bool.false_eq_true, if_false] at k1
    go_enter Tryz.func5, Tryz.ntmps5
    go_wp2_with fail
    refine k1.out.mono ?_
    rintro e w1 ⟨v1, rfl, hO1, b1⟩
    have B1 := hid b1
    clear b1 hO1 k1
    go_wp2_with fail
    refine (k2.out _ B1.out).mono ?_
    rintro e w2 ⟨rfl, b2⟩
    have B2 := hid (B1.out.trans (b2.mono B1.out.size))
    clear b2 k2
    cases D with
    | none =>
      go_wp2_with fail
      refine (k4.out _ B2.out).mono ?_
      intro e w3 hd
      obtain ⟨b3, rfl⟩ := hd.none
      have B3 := hid (B2.out.trans (b3.mono B2.out.size))
      clear b3 hd k4
      go_wp2_with fail
      go_ret
      exact ⟨rfl, B3.out⟩
    | some l2 =>
      obtain ⟨hzl, hp2⟩ := dcd_back HZ.out GD.out
      have hby2 : ByP l2 := by_of hp2 (by rw [← hzl]; exact HZ.out)
      have HE := hid (fun (w' : World) (x : Option Addr) (m cc : Nat) (N' : Nat → Prop) (q1 : Lies 3 ExAt N' w' x l2) (q2 : l2.length = m) (q3 : m ≤ cc) (q4 : cc ≤ 9223372036854775807) => encode_any x m cc l2 N' w' q1 q2 q3 q4 hby2)
      simp only [hp2, if_true] at HE
      have HZL := hid hzl
      clear hzl hp2 hby2
      go_wp2_with fail
      refine (k4.out _ B2.out).mono ?_
      intro e w3 hd
      obtain ⟨b3, a3, n3, c3, rfl, e1, e2, e3, L3⟩ := hd.some
      have B3 := hid (B2.out.trans (b3.mono B2.out.size))
      have k5 := hid (HE.out w3 a3 n3 c3 _ L3 e1 e2 e3)
      clear b3 hd k4 L3 e1
      go_wp2_with fail
      refine k5.out.mono ?_
      rintro e w4 ⟨v4, rfl, hO4, b4⟩
      obtain ⟨a4, c4, rfl, S4, _⟩ := hO4.src
      have B4 := hid (B3.out.trans (b4.mono B3.out.size))
      have S0 := HSK.out w4 B4.out
      rw [HZL.out] at S0
      have ke := hid (equal_yes b0 a4 bn bc (eP l2).length c4 (eP l2) w4 S0 S4)
      clear hO4 b4 S4 S0 k5
      go_wp2_with fail
      refine ke.out.mono ?_
      rintro e w5 ⟨rfl, rfl⟩
      go_wp2_with fail
      go_ret
      exact ⟨rfl, B4.out⟩
  · simp only [if_true] at k1
    have hD1 := HTh.out GP.out
    simp only [hD1] at k3
    go_enter Tryz.func5, Tryz.ntmps5
    go_wp2_with fail
    refine k1.out.mono ?_
    rintro e w1 ⟨v1, rfl, hO1, b1⟩
    obtain ⟨a1, c1, rfl, S1, _⟩ := hO1.src
    have B1 := hid b1
    have k3' := hid (k3.out w1 a1 c1 GP.out S1)
    clear b1 hO1 k1 S1 k3
    go_wp2_with fail
    refine k3'.out.mono ?_
    intro e w2 hd
    obtain ⟨b2, a2, n2, c2, rfl, e1, e2, e3, L2⟩ := hd.some
    have B2 := hid (B1.out.trans (b2.mono B1.out.size))
    have hnn : n2 = n := by have := HN.out; omega
    subst hnn
    have ks := hid (samex_yes a n2 c a2 c2 l N _ w2 (HK.out w2 B2.out) L2 e1 (by omega))
    clear b2 hd L2 e1 k3'
    go_wp2_with fail
    refine ks.out.mono ?_
    rintro e w2' ⟨rfl, b2'⟩
    have B2' := hid (B2.out.trans (b2'.mono B2.out.size))
    clear b2' ks
    cases D with
    | none =>
      go_wp2_with fail
      refine (k4.out _ B2'.out).mono ?_
      intro e w3 hd
      obtain ⟨b3, rfl⟩ := hd.none
      have B3 := hid (B2'.out.trans (b3.mono B2'.out.size))
      clear b3 hd k4
      go_wp2_with fail
      go_ret
      exact ⟨rfl, B3.out⟩
    | some l2 =>
      obtain ⟨hzl, hp2⟩ := dcd_back HZ.out GD.out
      have hby2 : ByP l2 := by_of hp2 (by rw [← hzl]; exact HZ.out)
      have HE := hid (fun (w' : World) (x : Option Addr) (m cc : Nat) (N' : Nat → Prop) (q1 : Lies 3 ExAt N' w' x l2) (q2 : l2.length = m) (q3 : m ≤ cc) (q4 : cc ≤ 9223372036854775807) => encode_any x m cc l2 N' w' q1 q2 q3 q4 hby2)
      simp only [hp2, if_true] at HE
      have HZL := hid hzl
      clear hzl hp2 hby2
      go_wp2_with fail
      refine (k4.out _ B2'.out).mono ?_
      intro e w3 hd
      obtain ⟨b3, a3, n3, c3, rfl, e1, e2, e3, L3⟩ := hd.some
      have B3 := hid (B2'.out.trans (b3.mono B2'.out.size))
      have k5 := hid (HE.out w3 a3 n3 c3 _ L3 e1 e2 e3)
      clear b3 hd k4 L3 e1
      go_wp2_with fail
      refine k5.out.mono ?_
      rintro e w4 ⟨v4, rfl, hO4, b4⟩
      obtain ⟨a4, c4, rfl, S4, _⟩ := hO4.src
      have B4 := hid (B3.out.trans (b4.mono B3.out.size))
      have S0 := HSK.out w4 B4.out
      rw [HZL.out] at S0
      have ke := hid (equal_yes b0 a4 bn bc (eP l2).length c4 (eP l2) w4 S0 S4)
      clear hO4 b4 S4 S0 k5
      go_wp2_with fail
      refine ke.out.mono ?_
      rintro e w5 ⟨rfl, rfl⟩
      go_wp2_with fail
      go_ret
      exact ⟨rfl, B4.out⟩

end Go.Proofs.YtpbhcmfbcnihiaaGreat
