/- The road of BinaryReads. -/
import Derived.Test.YtpbhcmfbcnihiaaGreatBRMain
import Derived.Test.YtpbhcmfbcnihiaaGreatBSame
import Derived.Test.YtpbhcmfbcnihiaaGreatBSpoil
namespace Go.Proofs.YtpbhcmfbcnihiaaGreat
open Go.RowKit Num
set_option linter.unusedVariables false
set_option maxRecDepth 20000

theorem DecPost.some' {w w' : World} {l : List Ex} {e : Ending} (h : DecPost w (some l) e w') : Below w.heap.size w w' ∧ ∃ a n c, e = .returned (.tuple #[.slice a n c, .int .i64 0]) ∧ l.length = n ∧ n ≤ c ∧ c ≤ 9223372036854775807 ∧ Lies 3 ExAt (fun k => w.heap.size ≤ k) w' a l := h
theorem DecPost.none' {w w' : World} {e : Ending} (h : DecPost w none e w') : Below w.heap.size w w' ∧ e = .returned (.tuple #[.slice none 0 0, .int .i64 180]) := h
theorem own_src {w : World} {B n : Nat} {v : Value} {zs : List Int} (h : w.ownsRow B 5 1 v n (zs.map (Value.int .u8))) : ∃ av cv, v = .slice av n cv ∧ Src w av n zs := by
  have h' := h
  rcases h.2 with ⟨rfl, hn⟩ | ⟨g, cap, cur, rfl, _⟩
  · subst hn
    have : zs.length = 0 := by have := h.1; simpa using this
    obtain rfl := List.eq_nil_of_length_eq_zero this
    exact ⟨none, 0, rfl, Src.nil _ _⟩
  · exact ⟨_, cap, rfl, Src.own (B := B) (e := 5) (g := g) (n := n) (cap := cap) (zs := zs) h'⟩

set_option maxHeartbeats 8000000 in
theorem reads_road (a : Option Addr) (n c : Nat) (zs : List Int) (w : World) (hs : Src w a n zs) (hz : Bytes zs) (hnc : n ≤ c) (hc : c ≤ 140737488351232) (hnil : a = none → c = 0) :
    Calls Tryz.prog 4 #[.slice a n c] w fun e w' => e = .returned (.bool true) ∧ Below w.heap.size w w' := by
  have k1 := hid (clone_both a n c zs w hs (by omega) (fun h => by have := hnil h; omega))
  have k2 := hid (fun (wx : World) (av : Option Addr) (cv : Nat) (h : Src wx av n zs) => decode_any av n cv zs wx h hz (by omega))
  have k3 := hid (fun (wx : World) (hb : Below w.heap.size w wx) => rdecode_any a n c zs wx (hs.below hb) hz hnc (by omega) hnil)
  generalize dcd zs = R at k2 k3
  have HN := hid hnil
  clear hs hz hnil
  cases R with
  | none =>
    have k5 := hid (fun (wx : World) => samex_yes none 0 0 none 0 [] (fun _ => True) (fun _ => True) wx (fun h0 => absurd h0 (Nat.lt_irrefl _)) (fun h0 => absurd h0 (Nat.lt_irrefl _)) rfl (by omega))
    go_enter Tryz.func4, Tryz.ntmps4
    go_wp2_with fail
    refine k1.out.mono ?_
    rintro e w1 ⟨v, rfl, ho, b1⟩
    obtain ⟨av, cv, rfl, S1⟩ := own_src ho
    have HO := hid ho
    have HS1 := hid S1
    have B1 := hid b1
    clear ho b1 S1 k1
    go_wp2_with fail
    refine (k2.out _ _ _ HS1.out).mono ?_
    intro e w2 hq2
    obtain ⟨b2, rfl⟩ := hq2.none'
    have B2 := hid (B1.out.trans (b2.mono B1.out.size))
    have HO2 := hid ((Upd.of_below (F := fun _ => False) b2).own HO.out (fun _ _ h => h))
    clear b2 hq2
    go_wp2_with fail
    refine (k3.out _ B2.out).mono ?_
    intro e w3 hq3
    obtain ⟨b3, rfl⟩ := hq3.none'
    have B3 := hid (B2.out.trans (b3.mono B2.out.size))
    have HO3 := hid ((Upd.of_below (F := fun _ => False) b3).own HO2.out (fun _ _ h => h))
    clear b3 hq3
    have k4 := hid (spoil_any _ n cv av zs w3 w.heap.size rfl HO3.out (by omega))
    go_wp2_with fail
    refine k4.out.mono ?_
    rintro e w4 ⟨rfl, u4⟩
    have B4 := hid (B3.out.trans (u4.below B3.out.size (fun x hx => (HO3.out.lt x hx).1)))
    clear u4 k4
    go_wp2_with fail
    refine (k5.out w4).mono ?_
    rintro e w5 ⟨rfl, b5⟩
    have B5 := hid (B4.out.trans (b5.mono B4.out.size))
    clear b5
    go_wp2_with fail
    go_ret
    exact ⟨rfl, B5.out⟩
  | some l =>
    go_enter Tryz.func4, Tryz.ntmps4
    go_wp2_with fail
    refine k1.out.mono ?_
    rintro e w1 ⟨v, rfl, ho, b1⟩
    obtain ⟨av, cv, rfl, S1⟩ := own_src ho
    have HO := hid ho
    have HS1 := hid S1
    have B1 := hid b1
    clear ho b1 S1 k1
    go_wp2_with fail
    refine (k2.out _ _ _ HS1.out).mono ?_
    intro e w2 hq2
    obtain ⟨b2, a2, n2, c2, rfl, e2, f2, m2, L2⟩ := hq2.some'
    have B2 := hid (B1.out.trans (b2.mono B1.out.size))
    have HO2 := hid ((Upd.of_below (F := fun _ => False) b2).own HO.out (fun _ _ h => h))
    have HL2 := hid L2
    have hw12 := b2.size
    clear b2 hq2 L2
    go_wp2_with fail
    refine (k3.out _ B2.out).mono ?_
    intro e w3 hq3
    obtain ⟨b3, a3, n3, c3, rfl, e3, f3, m3, L3⟩ := hq3.some'
    have B3 := hid (B2.out.trans (b3.mono B2.out.size))
    have HO3 := hid ((Upd.of_below (F := fun _ => False) b3).own HO2.out (fun _ _ h => h))
    have HL3 := hid L3
    have HL23 := hid (HL2.out.keep (N' := fun k => w1.heap.size ≤ k) (W' := w3) (fun _ _ _ h => ExAt.keep (Keep.below b3) h) (Keep.below b3))
    obtain rfl : n3 = n2 := by omega
    have HX := hid (show ∀ x, (Value.slice av n cv).ownBlock = some x → w.heap.size ≤ x ∧ x < w1.heap.size from fun x hx => HO.out.lt x hx)
    clear b3 hq3 L3
    have k4 := hid (spoil_any _ n cv av zs w3 w.heap.size rfl HO3.out (by omega))
    go_wp2_with fail
    refine k4.out.mono ?_
    rintro e w4 ⟨rfl, u4⟩
    have B4 := hid (B3.out.trans (u4.below B3.out.size (fun x hx => (HX.out x hx).1)))
    have K1 : Keep (fun k => w1.heap.size ≤ k) (fun k => w1.heap.size ≤ k) w3 w4 := Keep.upd u4 (fun b hb _ => ⟨hb, fun e => by have := (HX.out b e).2; omega⟩)
    have K2 : Keep (fun k => w2.heap.size ≤ k) (fun k => w2.heap.size ≤ k) w3 w4 := Keep.upd u4 (fun b hb _ => ⟨hb, fun e => by have := (HX.out b e).2; omega⟩)
    have k5 := hid (samex_yes a2 n3 c2 a3 c3 l _ _ w4 (HL23.out.keep (N' := fun k => w1.heap.size ≤ k) (W' := w4) (fun _ _ _ h => ExAt.keep K1 h) K1) (HL3.out.keep (N' := fun k => w2.heap.size ≤ k) (W' := w4) (fun _ _ _ h => ExAt.keep K2 h) K2) e2 (by omega))
    clear u4 k4 K1 K2
    go_wp2_with fail
    refine k5.out.mono ?_
    rintro e w5 ⟨rfl, b5⟩
    have B5 := hid (B4.out.trans (b5.mono B4.out.size))
    clear b5
    go_wp2_with fail
    go_ret
    exact ⟨rfl, B5.out⟩

end Go.Proofs.YtpbhcmfbcnihiaaGreat
