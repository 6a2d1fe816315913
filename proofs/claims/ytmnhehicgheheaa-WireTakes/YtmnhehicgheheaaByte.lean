/- What wire's reader does when it reads a byte, or is asked whether all was read. -/
import Derived.Test.YtmnhehicgheheaaRRead
namespace Go.Proofs.Ytmnhehicgheheaa
open Go.RowKit Num

set_option maxHeartbeats 400000 in
theorem rdbyte_any (B p g len at_ : Nat) (zs : List Int) (w : World) (h : Rdr w B p g len at_ zs) :
    Calls Try.prog 13 #[.pointer (some ⟨p, 0, none⟩)] w fun e w' => e = .returned (.tuple #[.int .u8 (byt (zs.drop at_)).1, .int .i64 ((byt (zs.drop at_)).2.2 : Nat)]) ∧
      Rdr w' B p g len (at_ + (byt (zs.drop at_)).2.1) zs ∧ Only p w w' := by
  have k1 := hid (usable_any p w h.c2)
  have hlen := h.len
  have hfit := h.fit
  have hcap := h.cap
  unfold byt
  rw [List.length_drop, hlen]
  by_cases h0 : len - at_ = 0
  · rw [if_pos h0]
    have k2 := hid (rest_any B p g len at_ zs w h)
    rw [h0] at k2
    have HR := hid h
    clear h hlen
    go_enter Try.func13, Try.ntmps13
    go_wp2_with fail
    refine k1.out.mono ?_
    rintro e w1 ⟨rfl, rfl⟩
    go_wp2_with fail
    refine k2.out.mono ?_
    rintro e w2 ⟨a0, rfl, _, _, m, rfl⟩
    go_wp2_with fail
    go_ret2
    exact ⟨rfl, HR.out.drewN m, Only.drewN m⟩
  · rw [if_neg h0]
    have k2 := hid (rest_at B p g len at_ zs w h (by omega))
    have hp := (h.piece at_ (len - at_) (by omega)).2 (by omega)
    obtain ⟨b, o, e, _, hc⟩ := hp
    simp only [Option.some.injEq, Addr.mk.injEq] at e
    obtain ⟨rfl, rfl, _⟩ := e
    have hc0 := hc 0 (by omega)
    rw [Nat.add_zero] at hc0
    obtain ⟨v, gv⟩ : ∃ v, v = (zs.drop at_).getD 0 0 := ⟨_, rfl⟩
    have ev : ((List.drop at_ zs).take (len - at_)).getD 0 0 = v := by
      rw [gv]; simp [List.getD, show 0 < len - at_ by omega]
    rw [ev] at hc0
    rw [← gv]
    have HR := hid h
    have hne : ((len : Int) - (at_ : Int) == 0) = false := by simp; omega
    have hn0 : (((len - at_ : Nat) : Int) == 0) = false := by simp; omega
    have i1 : (0 : Int) < ((len - at_ : Nat) : Int) := by omega
    have hgp := h.ne
    clear h hlen hc gv ev
    go_enter Try.func13, Try.ntmps13
    go_wp2_with fail
    refine k1.out.mono ?_
    rintro e w1 ⟨rfl, rfl⟩
    go_wp2_with fail
    refine k2.out.mono ?_
    rintro e w2 ⟨rfl, m, rfl⟩
    go_wp2_with fail
    refine (pass_int p at_ 1 _ _ (HR.out.drewN m).c1 (HR.out.drewN m).f1 (by omega) (by omega)).mono ?_
    rintro e w4 ⟨rfl, hw4⟩
    have R4 := hid (hw4 ▸ (HR.out.drewN m).pass 1 (by omega))
    have O4 := hid (hw4 ▸ (Only.drewN (p := p) m).trans (Only.setCell 1 _))
    have hc4 := (World.cell?_of_block (w := w1) (O4.out.block g hgp)).trans hc0
    clear hw4
    go_wp2_with fail
    go_ret2
    exact ⟨rfl, R4.out, O4.out⟩

theorem rdend_any (B p g len at_ : Nat) (zs : List Int) (w : World) (h : Rdr w B p g len at_ zs) :
    Calls Try.prog 18 #[.pointer (some ⟨p, 0, none⟩)] w fun e w' => e = .returned (.int .i64 (if at_ < len then 13 else 0)) ∧ ∃ n, w' = w.drewN n := by
  have k1 := hid (usable_any p w h.c2)
  have k2 := hid (left_any B p g len at_ zs w h)
  clear h
  by_cases hlt : at_ < len
  · rw [if_pos hlt]
    have i1 : (0 : Int) < ((len - at_ : Nat) : Int) := by omega
    go_enter Try.func18, Try.ntmps18
    go_wp2_with fail
    refine k1.out.mono ?_
    rintro e w1 ⟨rfl, rfl⟩
    go_wp2_with fail
    refine k2.out.mono ?_
    rintro e w2 ⟨rfl, m, rfl⟩
    go_wp2_with fail
    go_ret
    exact ⟨rfl, m, rfl⟩
  · rw [if_neg hlt]
    rw [show len - at_ = 0 by omega] at k2
    go_enter Try.func18, Try.ntmps18
    go_wp2_with fail
    refine k1.out.mono ?_
    rintro e w1 ⟨rfl, rfl⟩
    go_wp2_with fail
    refine k2.out.mono ?_
    rintro e w2 ⟨rfl, m, rfl⟩
    go_wp2_with fail
    go_ret
    exact ⟨rfl, m, rfl⟩

end Go.Proofs.Ytmnhehicgheheaa
