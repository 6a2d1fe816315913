/- The road of BinaryWrites. -/
import Derived.Test.YtpbhcmfbcnihiaaGreatBREnc
namespace Go.Proofs.YtpbhcmfbcnihiaaGreat
open Go.RowKit Num
set_option linter.unusedVariables false
set_option maxRecDepth 20000

theorem Ob.src {W : World} {v : Value} {xs : List Int} (h : Ob W v xs) : ∃ a c, v = .slice a xs.length c ∧ Src W a xs.length xs ∧ (a = none → c = 0) := by
  unfold Ob at h
  have h0 := h
  rcases h.2 with ⟨rfl, hn⟩ | ⟨g, c, cur, rfl, _, _, h1, h2, _⟩
  · have hx : xs = [] := List.eq_nil_of_length_eq_zero hn
    subst hx
    exact ⟨none, 0, rfl, Src.nil _ _, fun _ => rfl⟩
  · exact ⟨_, c, rfl, Src.own h0, fun h => by cases h⟩

set_option maxHeartbeats 4000000 in
theorem writes_road (a : Option Addr) (n c : Nat) (l : List Ex) (N : Nat → Prop) (w : World) (h : Lies 3 ExAt N w a l) (hn : l.length = n) (hc : n ≤ c) (hm : c ≤ 9223372036854775807) (hb : ByP l) :
    Calls Tryz.prog 3 #[.slice a n c] w fun e w' => e = .returned (.bool true) ∧ Below w.heap.size w w' := by
  have HK := hid (fun (w' : World) (hb' : Below w.heap.size w w') => h.keep (N' := N) (W' := w') (fun _ _ _ h => ExAt.keep (Keep.below hb') h) (Keep.below hb'))
  have k1 := hid (encode_any a n c l N w h hn hc hm hb)
  have k2 := hid (fun w' hb' => rencode_any a n c l N w' (HK.out w' hb') hn hc hm hb)
  have k3 := hid (fun w' hb' => can_any a n c l N w' (HK.out w' hb') hn (by omega))
  have k4 := hid (fun w' hb' => rcan_any a n c l N w' (HK.out w' hb') hn (by omega))
  generalize pB l = P at k1 k2 k3 k4
  generalize (if P = true then eP l else []) = E at k1 k2
  obtain ⟨R, gR⟩ : ∃ R : Int, R = if P = true then 0 else 1 := ⟨_, rfl⟩
  rw [← gR] at k1
  simp only [← gR] at k2
  clear gR h hn hb
  go_enter Tryz.func3, Tryz.ntmps3
  go_wp2_with fail
  refine k1.out.mono ?_
  rintro e w1 ⟨v1, rfl, hO1, b1⟩
  obtain ⟨a1, c1, rfl, S1, _⟩ := hO1.src
  have HS1 := hid S1
  have B1 := hid b1
  clear b1 S1 hO1 k1
  go_wp2_with fail
  refine (k2.out _ B1.out).mono ?_
  rintro e w2 ⟨v2, rfl, hO2, b2⟩
  obtain ⟨a2, c2, rfl, S2, _⟩ := hO2
  have HS2 := hid S2
  have HS1' := hid (HS1.out.below b2)
  have B2 := hid (B1.out.trans (b2.mono B1.out.size))
  clear b2 S2 k2
  go_wp2_with fail
  refine (k3.out _ B2.out).mono ?_
  rintro e w3 ⟨rfl, b3⟩
  have B3 := hid (B2.out.trans (b3.mono B2.out.size))
  have HS1'' := hid (HS1'.out.below b3)
  have HS2' := hid (HS2.out.below b3)
  clear b3 k3
  go_wp2_with fail
  refine (k4.out _ B3.out).mono ?_
  rintro e w4 ⟨rfl, b4⟩
  have B4 := hid (B3.out.trans (b4.mono B3.out.size))
  have ke := hid (equal_yes a1 a2 E.length c1 E.length c2 E w4 (HS1''.out.below b4) (HS2'.out.below b4))
  clear b4 k4
  cases P
  all_goals
    go_wp2_with fail
    refine ke.out.mono ?_
    rintro e w5 ⟨rfl, rfl⟩
    go_wp2_with fail
    go_ret
    exact ⟨rfl, B4.out⟩

end Go.Proofs.YtpbhcmfbcnihiaaGreat
