/- The road of BinaryTorn. -/
import Derived.Test.YtpbhcmfbcnihiaaGreatBWrR
import Derived.Test.YtpbhcmfbcnihiaaGreatBRound
import Derived.Test.YtpbhcmfbcnihiaaGreatClone
namespace Go.Proofs.YtpbhcmfbcnihiaaGreat
open Go.RowKit Num
set_option linter.unusedVariables false
set_option maxRecDepth 20000

theorem Ob.srcc {W : World} {v : Value} {xs : List Int} (h : Ob W v xs) (h0 : 0 < xs.length) : ∃ g c, v = .slice (some ⟨g, 0, none⟩) xs.length c ∧ Src W (some ⟨g, 0, none⟩) xs.length xs ∧ xs.length ≤ c ∧ c ≤ 9223372036854775807 := by
  unfold Ob at h
  have h1 := h
  rcases h.2 with ⟨rfl, hn⟩ | ⟨g, c, cur, rfl, _, _, h2, h3, _⟩
  · omega
  · exact ⟨g, c, rfl, Src.own h1, h2, by unfold maxLen at h3; omega⟩
theorem eP_pos (l : List Ex) : 0 < (eP l).length := by
  unfold eP eL
  rw [List.length_append, length_enc]
  omega

set_option maxHeartbeats 8000000 in
theorem torn_road (a : Option Addr) (n c : Nat) (l : List Ex) (N : Nat → Prop) (cut more : Int) (w : World) (h : Lies 3 ExAt N w a l) (hn : l.length = n) (hc : n ≤ c) (hm : c ≤ 9223372036854775807) (hb : ByP l) (hmo : 0 ≤ more ∧ more ≤ 255) :
    Calls Tryz.prog 6 #[.slice a n c, .int .i64 cut, .int .u8 more] w fun e w' => e = .returned (.bool true) ∧ Below w.heap.size w w' := by
  obtain ⟨i0, hi, hz0, hz1, hz2⟩ := info_parts Tryz.info5
  have HK := hid (fun (w' : World) (hb' : Below w.heap.size w w') => h.keep (N' := N) (W' := w') (fun _ _ _ h => ExAt.keep (Keep.below hb') h) (Keep.below hb'))
  have k1 := hid (encode_any a n c l N w h hn hc hm hb)
  have k2 := hid (fun w' hb' => rcan_any a n c l N w' (HK.out w' hb') hn (by omega))
  have HT := hid (fun e => dcd_torn (l := l) e (eP_bytes hb))
  have HMo := hid (fun e => dcd_more (l := l) e [more] (by simp))
  have HLE := hid (pB_len (l := l))
  have HBy := hid (eP_bytes hb)
  have hpos := eP_pos l
  generalize pB l = P at k1 k2 HT HMo HLE
  clear h hn hb
  cases P
  · simp only [Bool.false_eq_true, if_false] at k1
    go_enter Tryz.func6, Tryz.ntmps6
    go_wp2_with fail
    refine k1.out.mono ?_
    rintro e w1 ⟨v1, rfl, hO1, b1⟩
    obtain ⟨a1, c1, rfl, S1, _⟩ := hO1.src
    have B1 := hid b1
    clear b1 S1 hO1 k1
    go_wp2_with fail
    refine (k2.out _ B1.out).mono ?_
    rintro e w2 ⟨rfl, b2⟩
    have B2 := hid (B1.out.trans (b2.mono B1.out.size))
    clear b2
    go_wp2_with fail
    go_ret
    exact ⟨rfl, B2.out⟩
  · simp only [if_true] at k1
    have hle := HLE.out (by first | rfl | trivial)
    obtain ⟨L, gL⟩ : ∃ L, (eP l).length = L := ⟨_, rfl⟩
    rw [gL] at hpos hle
    obtain ⟨u, hu1, hu2⟩ : ∃ u : Nat, cut % 18446744073709551616 = (u : Int) ∧ u < 18446744073709551616 := ⟨(cut % 18446744073709551616).toNat, by omega, by omega⟩
    obtain ⟨k, hk⟩ : ∃ k, k = u % L := ⟨_, rfl⟩
    have hkl : k < L := by rw [hk]; exact Nat.mod_lt _ hpos
    have hTk := hid (HT.out (by first | rfl | trivial) k (by rw [gL]; exact hkl))
    have hMk := hid (HMo.out (by first | rfl | trivial))
    have k3 := hid (fun (wx : World) (g : Nat) (cc : Nat) (hs : Src wx (some ⟨g, 0, none⟩) L (eP l)) => decode_any (some ⟨g, 0, none⟩) k cc ((eP l).take k) wx (Src.take (w := wx) hs k (by omega)) (HBy.out.take k) (by omega))
    simp only [hTk.out] at k3
    have k4 := hid (fun (wx : World) (g : Nat) (cc : Nat) (hs : Src wx (some ⟨g, 0, none⟩) L (eP l)) => clone_any ⟨g, 0, none⟩ L cc (eP l) wx hs (by omega))
    have k5 := hid (fun (wx : World) (g : Nat) (cc : Nat) (hs : Src wx (some ⟨g, 0, none⟩) (L + 1) (eP l ++ [more])) => decode_any (some ⟨g, 0, none⟩) (L + 1) cc (eP l ++ [more]) wx hs (HBy.out.append (fun z hz => by rcases List.mem_singleton.1 hz with rfl; exact hmo)) (by omega))
    simp only [hMk.out] at k5
    have GL := hid gL
    have GK := hid hk
    have hcv : IntKind.u64.wrap cut = (u : Int) := by show cut % 18446744073709551616 = _; exact hu1
    clear gL hk hTk hMk HT HMo HLE hu1
    have hrem : (u : Int) % (L : Int) = (k : Int) := by rw [GK.out]; omega
    go_enter Tryz.func6, Tryz.ntmps6
    go_wp2_with fail
    refine k1.out.mono ?_
    rintro e w1 ⟨v1, rfl, hO1, b1⟩
    obtain ⟨g, c1, rfl, S1, hc1, hc2⟩ := hO1.srcc (by rw [GL.out]; exact hpos)
    rw [GL.out] at S1 hc1 ⊢
    have HS1 := hid S1
    have B1 := hid b1
    clear b1 S1 hO1 k1
    go_wp2_with fail
    refine (k2.out _ B1.out).mono ?_
    rintro e w2 ⟨rfl, b2⟩
    have B2 := hid (B1.out.trans (b2.mono B1.out.size))
    have HS2 := hid (HS1.out.below b2)
    clear b2
    go_wp2_with fail
    refine (k3.out _ _ _ HS2.out).mono ?_
    rintro e w3 ⟨b3, rfl⟩
    have B3 := hid (B2.out.trans (b3.mono B2.out.size))
    have HS3 := hid (HS2.out.below b3)
    clear b3
    go_wp2_with fail
    refine (k4.out _ _ _ HS3.out).mono ?_
    rintro e w4 ⟨g4, c4, rfl, hO4, b4⟩
    have B4 := hid (B3.out.trans (b4.mono B3.out.size))
    have HO4 := hid hO4
    have hsz4 := b4.size
    clear b4 hO4
    go_wp2_with (at_builtin; go_must (refine wpList_append_own _ rfl (.tmp 44) (.tmp 46) 23 rfl w3.heap.size 5 i0 (.int .u8 0) 1 1 Tryz.underlying23 hi hz0 hz1 hz2 rfl (by decide) (.slice (some ⟨g4, 0, none⟩) L c4) L ((eP l).map (Value.int .u8)) rfl (HO4.out.alloc _) ⟨w4.heap.size, 0, none⟩ 1 1 [.int .u8 more] rfl rfl (cell_one_new _ _ _) (by simp [Value.oneCell']) (by unfold maxLen; omega) (by omega) (by simp; omega) ?_))
    intro v5 w5 hO5 hG5 hN5
    obtain ⟨g5, c5, rfl⟩ : ∃ g5 c5, v5 = .slice (some ⟨g5, 0, none⟩) (L + 1) c5 := by
      rcases hO5.2 with ⟨_, h⟩ | ⟨g5, c5, _, h, _⟩
      · omega
      · exact ⟨g5, c5, h⟩
    have S5 : Src w5 (some ⟨g5, 0, none⟩) (L + 1) (eP l ++ [more]) := Src.own (B := w3.heap.size) (e := 5) (g := g5) (n := L + 1) (cap := c5) (zs := eP l ++ [more]) (by simpa using hO5)
    have HS5 := hid S5
    have B5 := hid ((B4.out.alloc B4.out.size _).grown hG5 (by have := B4.out.size; simp; omega) (fun k hk => by have := (HO4.out.lt k hk).1; have := B3.out.size; omega))
    clear hO5 hG5 hN5 S5
    go_wp2_with fail
    refine (k5.out _ _ _ HS5.out).mono ?_
    rintro e w6 ⟨b6, rfl⟩
    have B6 := hid (B5.out.trans (b6.mono B5.out.size))
    clear b6
    go_wp2_with fail
    go_ret
    exact ⟨rfl, B6.out⟩

end Go.Proofs.YtpbhcmfbcnihiaaGreat
