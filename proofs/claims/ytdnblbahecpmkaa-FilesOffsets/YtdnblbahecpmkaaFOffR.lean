/- The road of FilesOffsets. -/
import Derived.Test.YtdnblbahecpmkaaFAppR
namespace Go.Proofs.Ytdnblbahecpmkaa
open Go.RowKit Go.ChangeMaps Go.MapKept
set_option linter.unusedVariables false

set_option maxHeartbeats 4000000 in
theorem open_there (w : World) (t p q m B : Nat) (x : Nd) (T : Nat → Bool) (F : Nat → Fl) (H : Fw w t p q (oneG m [102]) 2 x T F) (n : Nat) (hn : x.h = (n : Int)) (hn1 : n < 1000) (fl : Int) (hBw : B ≤ w.heap.size) (hBt : B ≤ t) (hBp : B ≤ p) (h8 : (bits BinOp.and IntKind.i64 fl 8 == 0) = true)
    (ha : (bits BinOp.andNot IntKind.i64 fl 63 != 0) = false) (hrw : (bits BinOp.and IntKind.i64 fl 3 == 0) = false) (hw : (bits BinOp.and IntKind.i64 fl 2 == 0) = false) (hc : (bits BinOp.and IntKind.i64 fl 32 == 0) = true) (f : Nat) (hf1 : 1 ≤ f) (hf : f < 11) (hfh : (F f).h = 0) (hfj : ∀ j, 1 ≤ j → j < f → (F j).h ≠ 0) :
    Calls Try.prog 18 #[.pointer (some ⟨t, 0, none⟩), .string pathF, .int .i64 fl] w fun e w' => e = .returned (.tuple #[.int .i64 (f : Int), .int .i64 0]) ∧ Fw w' t p q (oneG m [102]) 2 (x.hold ((n + 1 : Nat) : Int)) T (updF F f ⟨1, 2, 0, fl, 1⟩) ∧ Below B w w' :=
  open_any w t p q B (oneG m [102]) 2 (by omega) (by omega) x T F pathF fl H.tf (fun W hW => by
    refine (findm_there W t p q m [102] x T F (H.grow hW) pathF pathF_bl pathF_good fl h8).mono ?_
    rintro e w' ⟨rfl, hb⟩
    exact ⟨rfl, (H.grow hW).grow hb, Upd.of_below hb⟩) H.sy.lt hBw hBt hBp ha hrw hw hc n hn hn1 f hf1 hf hfh hfj

set_option maxHeartbeats 8000000 in
set_option maxRecDepth 20000 in
theorem offsets_road (a0 b0 : Option Addr) (la ca lb cb : Nat) (xs ys : List Int) (av : Int) (w : World) (hsa : Src w a0 la xs) (hsb : Src w b0 lb ys) (hla : la ≤ ca) (hca : ca ≤ 9223372036854775807) (hlb : lb ≤ cb) (hcb : cb ≤ 9223372036854775807) (hna : a0 = none → ca = 0) (hnb : b0 = none → cb = 0) :
    Calls Try.prog 5 #[.slice a0 la ca, .slice b0 lb cb, .int .i64 av] w fun e w' => e = .returned (.bool true) ∧ Below w.heap.size w w' := by
  obtain ⟨na, ga⟩ : ∃ na, na = min la 40 := ⟨_, rfl⟩
  obtain ⟨nb, gb⟩ : ∃ nb, nb = min lb 40 := ⟨_, rfl⟩
  have ma : min (la : Int) 40 = (na : Int) := by omega
  have mb : min (lb : Int) 40 = (nb : Int) := by omega
  have i1 : (0 : Int) ≤ (na : Int) := by omega
  have i2 : (na : Int) ≤ (ca : Int) := by omega
  have i3 : (0 : Int) ≤ (nb : Int) := by omega
  have i4 : (nb : Int) ≤ (cb : Int) := by omega
  have HA := hid (hsa.to na (by omega))
  have HB := hid (hsb.to nb (by omega))
  have hna40 : na ≤ 40 := by omega
  have hnb40 : nb ≤ 40 := by omega
  clear hsa hsb ga gb
  go_enter Try.func5, Try.ntmps5
  go_wp2_with fail
  go_region
  obtain ⟨za, gza⟩ : ∃ za, za = xs.take na := ⟨_, rfl⟩
  obtain ⟨zb, gzb⟩ : ∃ zb, zb = ys.take nb := ⟨_, rfl⟩
  rw [← gza] at HA
  rw [← gzb] at HB
  have HLA := hid HA.out.1
  have HLB := hid HB.out.1
  clear gza gzb ma mb i1 i2 i3 i4 hla hlb
  have k0 : Hid (Calls Try.prog 17 #[.int .i64 0] w.drew fun e w' => ∃ t p q m, e = .returned (.pointer (some ⟨t, 0, none⟩)) ∧ Hid (Fnew w' t p q m ∧ w.heap.size ≤ t ∧ w.heap.size ≤ p ∧ w.heap.size ≤ m ∧ Below w.heap.size w w')) := by
    refine hid ((fnew_any w.drew).mono ?_)
    rintro e w' ⟨t, p, q, m, rfl, h1, h2, h3, h4, h5⟩
    exact ⟨t, p, q, m, rfl, hid ⟨h1, h2, h3, h4, (Below.refl _ w).drew.trans h5⟩⟩
  go_wp2_with fail
  refine k0.out.mono ?_
  rintro e w1 ⟨t, p, q, m, rfl, H1⟩
  clear k0
  have k1 := open_new w1 t p q m w.heap.size H1.out.1 10 H1.out.2.2.2.2.size H1.out.2.1 H1.out.2.2.1 H1.out.2.2.2.1 (by decide) (by decide) (by decide) (by decide) (by decide)
  have K1 := hid k1
  clear k1
  go_wp2_with fail
  refine K1.out.mono ?_
  rintro e w2 ⟨rfl, hF2, hb2⟩
  have HB2 := hid (H1.out.2.2.2.2.trans hb2)
  have HP := hid (And.intro H1.out.2.1 (H1.out.2.2.1))
  have K2 := hid (open_there w2 t p q m w.heap.size _ _ _ hF2 1 rfl (by omega) 3 HB2.out.size H1.out.2.1 H1.out.2.2.1 (by decide) (by decide) (by decide) (by decide) (by decide) 2 (by omega) (by omega) rfl (fun j h1 h2 => by
    obtain rfl : j = 1 := by omega
    show (1 : Int) ≠ 0
    omega))
  clear K1 hF2 hb2 H1
  go_wp2_with fail
  refine K2.out.mono ?_
  rintro e w3 ⟨rfl, hF3, hb3⟩
  have HB3 := hid (HB2.out.trans hb3)
  obtain ⟨x0, gx0⟩ : ∃ x0, x0 = ((newNd 1 none).hold 1).hold ((1 + 1 : Nat) : Int) := ⟨_, rfl⟩
  rw [← gx0] at hF3
  have X0 : Hid (x0.s = 0 ∧ x0.b.length = 96) := by rw [gx0]; exact hid ⟨rfl, by simp [newNd, Nd.hold]⟩
  obtain ⟨F0, gF0⟩ : ∃ F0, F0 = updF (updF (fun _ => noFl) 1 ⟨1, 2, 0, 10, 1⟩) 2 ⟨1, 2, 0, 3, 1⟩ := ⟨_, rfl⟩
  rw [← gF0] at hF3
  have F0e : Hid (F0 1 = ⟨1, 2, ((0 : Nat) : Int), 10, 1⟩ ∧ F0 2 = ⟨1, 2, ((0 : Nat) : Int), 3, 1⟩) := by rw [gF0]; exact hid ⟨rfl, rfl⟩
  have HF3 := hid hF3
  clear gx0 gF0 hF3 hb3 K2 HB2
  have hap : ∀ b o, a0 = some ⟨b, o, none⟩ → 0 < na → b ≠ p := fun b o e h0 => by
    obtain ⟨b', o', e', hlt, _⟩ := HA.out.2 h0
    rw [e] at e'
    injection e' with e'
    injection e' with e1 _
    have := HP.out.2
    omega
  have hbp : ∀ b o, b0 = some ⟨b, o, none⟩ → 0 < nb → b ≠ p := fun b o e h0 => by
    obtain ⟨b', o', e', hlt, _⟩ := HB.out.2 h0
    rw [e] at e'
    injection e' with e'
    injection e' with e1 _
    have := HP.out.2
    omega
  have HAP := hid (And.intro hap hbp)
  have k4 : Hid (Calls Try.prog 19 #[.pointer (some ⟨t, 0, none⟩), .int .i64 1, .slice a0 na ca] w3 fun e w' => e = .returned (.tuple #[.int .i64 (na : Int), .bool false, .int .i64 0]) ∧ Hid (∃ B' T', Fw w' t p q (oneG m [102]) 2 (wrote x0 x0.s za B') T' (updF F0 1 ⟨1, 2, ((x0.s + na : Nat) : Int), 10, 1⟩)) ∧ Hid (Below w.heap.size w w')) := by
    refine hid ((wr_at w3 t p q _ x0 _ F0 HF3.out 1 (by omega) (by omega) 0 10 F0e.out.1 (by decide) false (by decide) na ca a0 za (HA.out.below HB3.out) hap X0.out.1.symm (by have := X0.out.1; omega)).mono ?_)
    rintro e w' ⟨rfl, h1, u⟩
    refine ⟨rfl, hid h1, hid (HB3.out.trans (u.bel HB3.out.size (fun y _ hy => ?_)))⟩
    have := HP.out
    omega
  clear hap hbp
  go_wp2_with fail
  refine k4.out.mono ?_
  rintro e w4 ⟨rfl, H4, HB4⟩
  obtain ⟨B1, T1, hF4⟩ := H4.out
  obtain ⟨x1, gx1⟩ : ∃ x1, x1 = wrote x0 x0.s za B1 := ⟨_, rfl⟩
  rw [← gx1] at hF4
  have X1 : Hid (x1.s = na ∧ x1.b.length = 96 ∧ x1.b.take x1.s = za) := by
    rw [gx1]
    refine hid ⟨?_, ?_, ?_⟩
    · rw [wrote_s, X0.out.1, HLA.out]; omega
    · show (splice x0.b x0.s za).length = 96
      rw [length_splice _ _ _ (by rw [X0.out.1, X0.out.2, HLA.out]; omega)]; exact X0.out.2
    · rw [rd_end x0 X0.out.2 za B1 (by rw [X0.out.1, HLA.out]; omega), X0.out.1]; rfl
  obtain ⟨F1, gF1⟩ : ∃ F1, F1 = updF F0 1 ⟨1, 2, ((x0.s + na : Nat) : Int), 10, 1⟩ := ⟨_, rfl⟩
  rw [← gF1] at hF4
  have F1e : Hid (F1 1 = ⟨1, 2, (na : Int), 10, 1⟩ ∧ F1 2 = ⟨1, 2, ((0 : Nat) : Int), 3, 1⟩) := by
    rw [gF1, X0.out.1, Nat.zero_add]
    exact hid ⟨updF_same _ _ _, (updF_ne _ _ _ _ (by omega)).trans F0e.out.2⟩
  have HF4 := hid hF4
  clear gF1 gx1 hF4 H4 HF3 k4 HB3
  have k5 : Hid (Calls Try.prog 19 #[.pointer (some ⟨t, 0, none⟩), .int .i64 1, .slice b0 nb cb] w4 fun e w' => e = .returned (.tuple #[.int .i64 (nb : Int), .bool false, .int .i64 0]) ∧ Hid (∃ B' T', Fw w' t p q (oneG m [102]) 2 (wrote x1 x1.s zb B') T' (updF F1 1 ⟨1, 2, ((x1.s + nb : Nat) : Int), 10, 1⟩)) ∧ Hid (Below w.heap.size w w')) := by
    refine hid ((wr_at w4 t p q _ x1 _ F1 HF4.out 1 (by omega) (by omega) na 10 F1e.out.1 (by decide) false (by decide) nb cb b0 zb (HB.out.below HB4.out) HAP.out.2 X1.out.1.symm (by have := X1.out.1; omega)).mono ?_)
    rintro e w' ⟨rfl, h1, u⟩
    refine ⟨rfl, hid h1, hid (HB4.out.trans (u.bel HB4.out.size (fun y _ hy => ?_)))⟩
    have := HP.out
    omega
  go_wp2_with fail
  refine k5.out.mono ?_
  rintro e w5 ⟨rfl, H5, HB5⟩
  obtain ⟨B2, T2, hF5⟩ := H5.out
  obtain ⟨x2, gx2⟩ : ∃ x2, x2 = wrote x1 x1.s zb B2 := ⟨_, rfl⟩
  rw [← gx2] at hF5
  obtain ⟨r, gr⟩ : ∃ r, r = na + nb := ⟨_, rfl⟩
  obtain ⟨zs, gz⟩ : ∃ zs, zs = za ++ zb := ⟨_, rfl⟩
  have X2 : Hid (x2.s = r ∧ x2.b.take x2.s = zs) := by
    rw [gx2, gr, gz]
    refine hid ⟨?_, ?_⟩
    · rw [wrote_s, X1.out.1, HLB.out]
    · rw [rd_end x1 X1.out.2.1 zb B2 (by rw [X1.out.1, HLB.out]; omega), X1.out.2.2]
  obtain ⟨F2, gF2⟩ : ∃ F2, F2 = updF F1 1 ⟨1, 2, ((x1.s + nb : Nat) : Int), 10, 1⟩ := ⟨_, rfl⟩
  rw [← gF2] at hF5
  have F2e : Hid (F2 2 = ⟨1, 2, ((0 : Nat) : Int), 3, 1⟩) := by
    rw [gF2]
    exact hid ((updF_ne _ _ _ _ (by omega)).trans F1e.out.2)
  have HF5 := hid hF5
  clear gF2 gx2 hF5 H5 HF4 k5 HB4
  have kc : Hid (Calls Try.prog 20 #[.slice a0 na ca] w5 fun e w' => ∃ ac cc, e = .returned (.slice ac na cc) ∧ Hid (w'.ownsRow w5.heap.size 5 1 (.slice ac na cc) na (za.map (Value.int .u8)) ∧ Below w5.heap.size w5 w')) := by
    cases a0 with
    | none =>
      obtain rfl : na = 0 := by
        rcases Nat.eq_zero_or_pos na with h | h
        · exact h
        · obtain ⟨_, _, e, _⟩ := HA.out.2 h; cases e
      obtain rfl : za = [] := List.eq_nil_of_length_eq_zero HLA.out
      refine hid ((clone_nil 0 ca w5).mono ?_)
      rintro e w' ⟨rfl, rfl⟩
      exact ⟨none, 0, rfl, hid ⟨World.ownsRow_nil _ _ _ _, Below.refl _ _⟩⟩
    | some ad =>
      refine hid ((clone_any ad na ca za w5 (HA.out.below HB5.out) (by omega)).mono ?_)
      rintro e w' ⟨g, c, rfl, h1, h2⟩
      exact ⟨_, c, rfl, hid ⟨h1, h2⟩⟩
  go_wp2_with fail
  refine kc.out.mono ?_
  rintro e w6 ⟨ac, cc, rfl, H6⟩
  clear kc
  obtain ⟨i0, hi0, hz0, hz1, hz2⟩ := info_parts Try.cinfo5
  have hbw6 : Below w.heap.size w w6 := HB5.out.trans (H6.out.2.mono HB5.out.size)
  obtain ⟨v9, w7, hrun, hO7, hG7⟩ := run_append_bytes (P := Try.prog) w6 w5.heap.size 28 28 i0 Try.underlying28 hi0 hz0 hz1 hz2 _ na _ H6.out.1 b0 nb cb zb (HB.out.below hbw6) hnb (by omega) H6.out.2.size
  rw [← List.map_append, ← gr, ← gz] at hO7
  have u7 : Upd (fun k => some k = (Value.slice ac na cc).ownBlock) w6 w7 := Upd.of_grown hG7
  have hn7 : ∀ k, some k = (Value.slice ac na cc).ownBlock → w5.heap.size ≤ k := fun k hk => (H6.out.1.lt k hk.symm).1
  have hF7 : Fw w7 t p q (oneG m [102]) 2 x2 T2 F2 := by
    have hF6 := HF5.out.grow H6.out.2
    refine ⟨hF6.sy.upd u7 (fun y hy e => ?_), hF6.tf.upd u7 (fun e => ?_), hF6.tn, hF6.k, hF6.s, hF6.B⟩
    · have := HF5.out.sy.foot_lt y hy
      have := hn7 y e
      omega
    · have := HF5.out.tf.lt
      have := hn7 t e
      omega
  have HB7 : Hid (Below w.heap.size w w7) := by
    refine hid (hbw6.trans (u7.bel hbw6.size (fun y _ hy => ?_)))
    have := hn7 y hy
    have := HB5.out.size
    omega
  have HF7 := hid hF7
  have HO7 : Hid (w7.ownsRow w5.heap.size 5 1 v9 r (zs.map (Value.int .u8)) ∧ w5.heap.size ≤ w7.heap.size) := hid ⟨hO7, Nat.le_trans H6.out.2.size u7.size⟩
  have HRUN := hid hrun
  have htl : t < w5.heap.size := HF5.out.tf.lt
  clear hrun hO7 hG7 u7 hn7 hF7 hbw6 H6 HF5 HB5
  obtain ⟨a9, c9, rfl, H9⟩ : ∃ a9 c9, v9 = .slice a9 r c9 ∧ Hid ((a9 = none ∧ r = 0 ∧ c9 = 0) ∨ ∃ g9, a9 = some ⟨g9, 0, none⟩ ∧ w5.heap.size ≤ g9 ∧ g9 < w7.heap.size ∧ r ≤ c9 ∧ c9 ≤ 9223372036854775807) := by
    rcases HO7.out.1.2 with ⟨h1, h2⟩ | ⟨g, c, cur, rfl, hb, hg, hnc, hcm, _⟩
    · exact ⟨none, 0, by rw [h1, h2], hid (.inl ⟨rfl, h2, rfl⟩)⟩
    · exact ⟨_, c, rfl, hid (.inr ⟨g, rfl, hb, (Array.getElem?_eq_some_iff.1 hg).1, hnc, by simpa [maxLen] using hcm⟩)⟩
  have hr80 : r ≤ 80 := by omega
  have k8 : Hid (Calls Try.prog 21 #[.pointer (some ⟨t, 0, none⟩), .int .i64 2, .int .i64 200] w7 fun e w' => ∃ g c, e = .returned (.tuple #[.slice (some ⟨g, 0, none⟩) r c, .bool false, .int .i64 0]) ∧ Hid (w'.ownsRow w7.heap.size 5 1 (.slice (some ⟨g, 0, none⟩) r c) r (zs.map (Value.int .u8)) ∧ Fw w' t p q (oneG m [102]) 2 x2 T2 (updF F2 2 ⟨1, 2, (r : Int), 3, 1⟩) ∧ Upd (· = t) w7 w')) := by
    have := rd_at w7 t p q _ x2 T2 F2 HF7.out 2 (by omega) (by omega) 0 3 F2e.out (by decide) (by omega)
    rw [X2.out.2, Nat.sub_zero, List.drop_zero, X2.out.1] at this
    refine hid (this.mono ?_)
    rintro e w' ⟨⟨g, c, rfl, h1⟩, h2, u⟩
    exact ⟨g, c, rfl, hid ⟨h1, h2, u⟩⟩
  have GR := hid gr
  have HLZ : Hid (zs.length = r) := by rw [gz, gr]; exact hid (by simp [HLA.out, HLB.out])
  clear gr gz
  go_wp2_with (at_builtin; refine wpList_append_is rfl (.tmp 87) (.tmp 88) 28 rfl _ _ _ _ rfl rfl HRUN.out ?_)
  refine k8.out.mono ?_
  rintro e w8 ⟨g1, c1, rfl, H8⟩
  have own8 : ∀ X, Upd (· = t) w7 X → X.ownsRow w5.heap.size 5 1 (.slice a9 r c9) r (zs.map (Value.int .u8)) := fun X u => u.own HO7.out.1 (fun k hk e => by have := (HO7.out.1.lt k hk).1; omega)
  have src8 : ∀ X, Upd (· = t) w7 X → Src X a9 r zs := fun X u => by
    have h := own8 X u
    rcases H9.out with ⟨rfl, e2, _⟩ | ⟨g9, rfl, _⟩
    · exact ⟨HLZ.out, fun h => by omega⟩
    · exact Src.own h
  have HS8 := hid src8
  have ke := hid (equal_yes (some ⟨g1, 0, none⟩) a9 r c1 r c9 zs w8 (Src.own H8.out.1) (src8 w8 H8.out.2.2))
  clear k8 own8 src8
  go_wp2_with fail
  refine ke.out.mono ?_
  rintro e w8' ⟨rfl, rfl⟩
  clear ke
  obtain ⟨k, hkr, hk⟩ := mod_at av (r + 1) (by omega) (by omega)
  have e1 : ((r + 1 : Nat) : Int) = (r : Int) + 1 := by omega
  rw [e1] at hk
  have i2 : IntKind.u64.wrap ((r : Int) + 1) = (r : Int) + 1 := by rw [IntKind.wrap_u64]; omega
  have i3 : IntKind.i64.wrap ((r : Int) + 1) = (r : Int) + 1 := by rw [IntKind.wrap_i64]; omega
  have HK := hid hk
  clear hk e1
  go_wp2_with fail
  rw [HK.out]
  clear HK i2 i3
  obtain ⟨F3, gF3⟩ : ∃ F3, F3 = updF F2 2 ⟨1, 2, (r : Int), 3, 1⟩ := ⟨_, rfl⟩
  have hF8 := H8.out.2.1
  rw [← gF3] at hF8
  refine (sk_at w8' t p q _ x2 T2 F3 hF8 2 (by omega) (by omega) r 3 (by rw [gF3]; exact updF_same _ _ _) k (by omega)).mono ?_
  rintro e w9 ⟨rfl, hF9, u9⟩
  have HU9 : Hid (Upd (· = t) w7 w9) := hid (H8.out.2.2.trans u9 (fun _ _ h => h))
  obtain ⟨F4, gF4⟩ : ∃ F4, F4 = updF F3 2 ⟨1, 2, (k : Int), 3, 1⟩ := ⟨_, rfl⟩
  rw [← gF4] at hF9
  have F4e : Hid (F4 2 = ⟨1, 2, (k : Int), 3, 1⟩) := by rw [gF4]; exact hid (updF_same _ _ _)
  have HF9 := hid hF9
  clear gF3 gF4 hF8 hF9 u9 H8
  have k10 : Hid (Calls Try.prog 21 #[.pointer (some ⟨t, 0, none⟩), .int .i64 2, .int .i64 200] w9 fun e w' => ∃ g c, e = .returned (.tuple #[.slice (some ⟨g, 0, none⟩) (r - k) c, .bool false, .int .i64 0]) ∧ Hid (w'.ownsRow w9.heap.size 5 1 (.slice (some ⟨g, 0, none⟩) (r - k) c) (r - k) ((zs.drop k).map (Value.int .u8)) ∧ Upd (· = t) w7 w')) := by
    have := rd_at w9 t p q _ x2 T2 F4 HF9.out 2 (by omega) (by omega) k 3 F4e.out (by decide) (by have := X2.out.1; omega)
    rw [X2.out.2, X2.out.1] at this
    refine hid (this.mono ?_)
    rintro e w' ⟨⟨g, c, rfl, h1⟩, _, u⟩
    exact ⟨g, c, rfl, hid ⟨h1, HU9.out.trans u (fun _ _ h => h)⟩⟩
  clear HF9
  go_wp2_with fail
  refine k10.out.mono ?_
  rintro e w10 ⟨g2, c2, rfl, H10⟩
  clear k10
  have hbel : Below w.heap.size w w10 := HB7.out.trans (H10.out.2.bel HB7.out.size (fun y _ hy => by have := HP.out.1; omega))
  have HBL := hid hbel
  have hs2 := Src.own H10.out.1
  have hs9 := HS8.out w10 H10.out.2
  clear hbel
  rcases H9.out with ⟨rfl, hr0, hc0⟩ | ⟨g9, rfl, hg9, hg9l, hrc, hcm⟩
  · subst hr0
    subst hc0
    obtain rfl : k = 0 := by omega
    obtain rfl : zs = [] := List.eq_nil_of_length_eq_zero HLZ.out
    have ke := hid (equal_yes (some ⟨g2, 0, none⟩) none 0 c2 0 0 [] w10 hs2 hs9)
    clear hs2 hs9
    go_wp2_with fail
    refine ke.out.mono ?_
    rintro e w11 ⟨rfl, rfl⟩
    go_wp2_with fail
    go_ret
    exact ⟨rfl, HBL.out⟩
  · have ke : Hid (∀ o c, (0 < r - k → o = k) → Calls Try.prog 13 #[.slice (some ⟨g2, 0, none⟩) (r - k) c2, .slice (some ⟨g9, o, none⟩) (r - k) c] w10 fun e w' => e = .returned (.bool true) ∧ w' = w10) := by
      refine hid (fun o c ho => equal_yes _ _ _ _ _ _ (zs.drop k) w10 hs2 ⟨by simp [HLZ.out], fun h0 => ?_⟩)
      obtain ⟨b, o', e, hlt, hcell⟩ := hs9.2 (by omega)
      injection e with e
      injection e with e1 e2
      subst e1
      subst e2
      refine ⟨g9, o, rfl, hlt, fun j hj => ?_⟩
      have := hcell (k + j) (by omega)
      rw [ho h0, List.getD_eq_getElem?_getD, List.getElem?_drop, ← List.getD_eq_getElem?_getD]
      rw [Nat.zero_add] at this
      exact this
    have i5 : (0 : Int) ≤ (k : Int) := by omega
    have i6 : (k : Int) ≤ (r : Int) := by omega
    have i7 : (r : Int) ≤ (c9 : Int) := by omega
    clear hs2 hs9
    go_wp2_with fail
    all_goals
      refine (ke.out _ _ (fun h => by omega)).mono ?_
      rintro e w11 ⟨rfl, rfl⟩
      go_wp2_with fail
      go_ret
      exact ⟨rfl, HBL.out⟩

end Go.Proofs.Ytdnblbahecpmkaa
