/- The road of WireOnce: it returns true for every slice of bytes within reach, and leaves what was there. -/
import Derived.Test.YtmnhehicgheheaaPut
import Derived.Test.YtmnhehicgheheaaRUint
import Derived.Test.YtmnhehicgheheaaReader
import Derived.Test.YtmnhehicgheheaaEqual
import Derived.Deep.RegionHeld3
namespace Go.Proofs.Ytmnhehicgheheaa
open Go.RowKit Num

theorem left_at (B p g len at_ L : Nat) (zs : List Int) (w : World) (h : Rdr w B p g len at_ zs) (hL : L = len - at_) :
    Calls Try.prog 17 #[.pointer (some ⟨p, 0, none⟩)] w fun e w' => e = .returned (.int .i64 (L : Int)) ∧ ∃ n, w' = w.drewN n := by
  subst hL
  exact left_any B p g len at_ zs w h

set_option maxHeartbeats 1000000 in
theorem once_road (a0 : Option Addr) (len cap : Nat) (zs : List Int) (w : World) (hs : Src w a0 len zs) (hz : Bytes zs) (hm : len ≤ cap) (hcap : cap ≤ 140737488355328) :
    Calls Try.prog 5 #[.slice a0 len cap] w fun e w' => e = .returned (.bool true) ∧ Below w.heap.size w w' := by
  have hd := dec_got zs hz
  rw [hs.1] at hd
  have k1 := hid (over_any a0 len cap zs w hs (by omega))
  have k2 := hid (fun wx (p : Nat) (h : Rdr wx w.heap.size p w.heap.size len 0 zs) => uint_any w.heap.size p w.heap.size len 0 zs wx h hz)
  have k3 := hid (fun wx (h : Src wx a0 len zs) => ruint_any a0 len cap zs wx h hz hm (by unfold maxLen; omega))
  simp only [List.drop_zero, Nat.zero_add] at k2
  obtain ⟨D, gD⟩ : ∃ D, D = dec zs := ⟨_, rfl⟩
  rw [← gD] at k2 k3 hd
  have HS := hid hs
  clear gD hs
  obtain ⟨n, k, e⟩ := D
  simp only at k2 k3 hd
  obtain ⟨L, gL⟩ : ∃ L, L = len - k := ⟨_, rfl⟩
  have HL := hid gL
  rcases hd with ⟨rfl, hn, hk1, hk9, hkl, he⟩ | ⟨he, rfl, rfl⟩
  · have hw : IntKind.i64.wrap ((len : Int) - (k : Int)) = (L : Int) := by rw [IntKind.wrap_i64]; omega
    have k4 : Hid (∀ wx : World, Calls Try.prog 21 #[.slice none 0 0, .int .i64 (n : Int)] wx fun e w' => e = .returned (.slice (some ⟨wx.heap.size, 0, none⟩) k 9) ∧ Src w' (some ⟨wx.heap.size, 0, none⟩) k (zs.take k) ∧ Below wx.heap.size wx w') := by
      intro wx
      have h := put_any none 0 0 (n : Int) [] wx (Src.nil _ _) (by omega) (by omega)
      simp only [Nat.zero_add, List.nil_append, Int.toNat_natCast] at h
      have hl : (enc n).length = k := by rw [he, List.length_take, HS.out.1]; omega
      rw [hl, he] at h
      exact h.mono fun e w' ⟨a, b, c⟩ => ⟨a, Src.own b, c⟩
    obtain ⟨b, o, rfl, hblt, _⟩ := HS.out.2 (by omega)
    have i1 : (0 : Int) ≤ (k : Int) := by omega
    have i2 : (k : Int) ≤ (cap : Int) := by omega
    have i3 : (k : Int) ≤ (len : Int) := by omega
    clear gL he
    go_enter Try.func5, Try.ntmps5
    go_wp2_with fail
    refine k1.out.mono ?_
    rintro e w1 ⟨p, rfl, hr, hp, hb1⟩
    have HR := hid hr
    clear hr
    go_wp2_with fail
    refine (k2.out _ _ HR.out).mono ?_
    rintro e w2 ⟨rfl, hr2, ho2⟩
    have HR2 := hid hr2
    have hb2 : Below w.heap.size w w2 := hb1.trans (ho2.below HR.out.mid)
    have HS2 := hid (HS.out.below hb2)
    clear hr2
    go_wp2_with fail
    refine (k3.out _ HS2.out).mono ?_
    rintro e w3 ⟨rfl, rfl⟩
    go_wp2_with fail
    go_region_held3 (fun _ => True) (trivial) (first | (go_at_call 17; refine (left_at w.heap.size p w.heap.size len k L zs _ ?_ HL.out).mono ?_; exact HR2.out.heap rfl; rintro e w4 ⟨rfl, q, rfl⟩) | (go_at_call 21; refine (k4.out _).mono ?_; rintro e w5 ⟨rfl, hs5, hb5⟩; have S5 := hid hs5; clear hs5; have T5 := hid (((HS2.out.heap (by rfl)).take k hkl).below hb5)) | (go_at_call 23; refine (equal_yes _ _ _ _ _ _ (zs.take k) _ ?_ ?_).mono ?_; exact S5.out; exact T5.out; rintro e w6 ⟨rfl, rfl⟩))
    go_wp2_with fail
    go_ret
    exact ⟨rfl, (below_drewN hb2 _).trans (hb5.mono hb2.size)⟩
  · have hw : IntKind.i64.wrap (len : Int) = (L : Int) := by rw [IntKind.wrap_i64]; omega
    clear gL
    go_enter Try.func5, Try.ntmps5
    go_wp2_with fail
    refine k1.out.mono ?_
    rintro e w1 ⟨p, rfl, hr, hp, hb1⟩
    have HR := hid hr
    clear hr
    go_wp2_with fail
    refine (k2.out _ _ HR.out).mono ?_
    rintro e w2 ⟨rfl, hr2, ho2⟩
    have HR2 := hid hr2
    have hb2 : Below w.heap.size w w2 := hb1.trans (ho2.below HR.out.mid)
    have HS2 := hid (HS.out.below hb2)
    clear hr2
    go_wp2_with fail
    refine (k3.out _ HS2.out).mono ?_
    rintro e w3 ⟨rfl, rfl⟩
    go_wp2_with fail
    have hne : ((e : Int) != 0) = true := by simp; omega
    go_quiet ((go_at_call 17; refine Calls.quiet_of (left_at _ _ _ _ _ L _ _ (HR2.out.drewN _) HL.out)))
    go_wp2_with fail
    go_ret
    exact ⟨rfl, hb2.trans ((Only.drewN (p := p) _).below HR.out.mid)⟩

end Go.Proofs.Ytmnhehicgheheaa
