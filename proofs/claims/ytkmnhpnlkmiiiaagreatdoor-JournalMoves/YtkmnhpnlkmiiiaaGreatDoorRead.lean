/- What wire's reader does when it reads a whole number or a text: it tells what stands there, or the error, and then stays where it was. -/
import Derived.Test.YtkmnhpnlkmiiiaaGreatDoorReader
import Derived.Test.YtkmnhpnlkmiiiaaGreatDoorWritten
import Derived.Test.YtkmnhpnlkmiiiaaGreatDoorEqual
namespace Go.Proofs.YtkmnhpnlkmiiiaaGreatDoor
open Go.RowKit Num
set_option maxRecDepth 20000

/-- The whole number that a number stands for. -/
def unf (n : Nat) : Int := if n % 2 = 1 then -1 - ((n / 2 : Nat) : Int) else ((n / 2 : Nat) : Int)
theorem unf_fld (n : Int) : unf (fld n).toNat = n := by
  unfold unf fld
  split <;> split <;> omega

theorem rest_at (B p g len at_ : Nat) (zs : List Int) (w : World) (h : Rdr w B p g len at_ zs) (hlt : at_ < len) :
    Calls Tryz.prog 101 #[.pointer (some ⟨p, 0, none⟩)] w fun e w' => e = .returned (.slice (some ⟨g, at_, none⟩) (len - at_) (len - at_)) ∧ ∃ n, w' = w.drewN n := by
  have c0 := h.c0
  have c1 := h.c1
  have hf := h.fit
  have hcp := h.cap
  clear h
  have hne : ¬ len = at_ := by omega
  go_enter Tryz.func101, Tryz.ntmps101
  go_wp2
  go_quiet (fail)
  go_wp2
  go_ret
  exact ⟨rfl, _, rfl⟩

theorem pass_int (p at_ R : Nat) (r : Int) (w : World) (h1 : w.cell? ⟨p, 1, none⟩ = some (.int .i64 at_)) (hf : w.frozen? ⟨p, 1, none⟩ = false) (hR : r = (R : Int)) (hb : at_ + R ≤ 9223372036854775807) :
    Calls Tryz.prog 103 #[.pointer (some ⟨p, 0, none⟩), .int .i64 r] w fun e w' => e = .returned (.tuple #[]) ∧ w' = w.setCell ⟨p, 1, none⟩ (.int .i64 ((at_ + R : Nat) : Int)) := by
  subst hR
  exact pass_any p at_ R w h1 hf hb

/-- A piece of a reader's bytes. -/
theorem Rdr.piece {w : World} {B p g len at_ : Nat} {zs : List Int} (h : Rdr w B p g len at_ zs) (q n : Nat) (hq : q + n ≤ len) : Src w (some ⟨g, q, none⟩) n ((zs.drop q).take n) := by
  have hl := h.len
  refine ⟨by simp; omega, fun hn => ?_⟩
  obtain ⟨b, o, e, hlt, hc⟩ := h.src.2 (by omega)
  simp only [Option.some.injEq, Addr.mk.injEq] at e
  obtain ⟨rfl, rfl, _⟩ := e
  refine ⟨g, q, rfl, hlt, fun j hj => ?_⟩
  rw [← Nat.zero_add (q + j), hc (q + j) (by omega)]
  simp [List.getD, List.getElem?_drop, hj]

/-- What is read of a text of at most so many bytes: the bytes, how many were passed, the error. -/
def txt (zs : List Int) (most : Int) : List Int × Nat × Nat :=
  if (dec zs).2.2 ≠ 0 then ([], 0, (dec zs).2.2) else if max most 0 < ((dec zs).1 : Int) then ([], 0, 12) else if zs.length - (dec zs).2.1 < (dec zs).1 then ([], 0, 10)
  else ((zs.drop (dec zs).2.1).take (dec zs).1, (dec zs).2.1 + (dec zs).1, 0)

set_option maxHeartbeats 1000000 in
theorem rtext_any (B p g len at_ : Nat) (zs : List Int) (most : Int) (w : World) (h : Rdr w B p g len at_ zs) (hz : Bytes zs) :
    Calls Tryz.prog 98 #[.pointer (some ⟨p, 0, none⟩), .int .i64 most] w fun e w' => e = .returned (.tuple #[.string (strOfNums (txt (zs.drop at_) most).1), .int .i64 ((txt (zs.drop at_) most).2.2 : Nat)]) ∧
      Rdr w' B p g len (at_ + (txt (zs.drop at_) most).2.1) zs ∧ Only p w w' := by
  have k1 := hid (usable_any p w h.c2)
  have k2 := hid (fun wx (hx : Rdr wx B p g len at_ zs) => rest_any B p g len at_ zs wx hx)
  have hd := dec_got (zs.drop at_) (hz.drop at_)
  have hlen := h.len
  have hfit := h.fit
  have hcap := h.cap
  have k3 := hid (fun (wx : World) (a0 : Option Addr) (hs : Src wx a0 (len - at_) (zs.drop at_)) (hn : a0 ≠ none) => number_any a0 (len - at_) (len - at_) (zs.drop at_) wx hs (hz.drop at_) (Nat.le_refl _) (by unfold maxLen; omega) (fun e => absurd e hn))
  have hT : txt (zs.drop at_) most = if (dec (zs.drop at_)).2.2 ≠ 0 then ([], 0, (dec (zs.drop at_)).2.2) else if max most 0 < ((dec (zs.drop at_)).1 : Int) then ([], 0, 12) else if (len - at_) - (dec (zs.drop at_)).2.1 < (dec (zs.drop at_)).1 then ([], 0, 10)
      else (((zs.drop at_).drop (dec (zs.drop at_)).2.1).take (dec (zs.drop at_)).1, (dec (zs.drop at_)).2.1 + (dec (zs.drop at_)).1, 0) := by
    unfold txt; rw [List.length_drop, hlen]
  rw [List.length_drop, hlen] at hd
  obtain ⟨D, gD⟩ : ∃ D, D = dec (zs.drop at_) := ⟨_, rfl⟩
  rw [← gD] at k3 hd hT
  have HR := hid h
  clear gD h hlen hz
  obtain ⟨n, k, e⟩ := D
  simp only at k3 hd hT
  rw [hT]
  clear hT
  by_cases he : e = 0
  · subst he
    obtain ⟨hn, hk1, hk9, hkl, _⟩ : n < 9223372036854775808 ∧ 1 ≤ k ∧ k ≤ 9 ∧ k ≤ len - at_ ∧ True := by
      rcases hd with hd | hd
      · exact ⟨hd.2.1, hd.2.2.1, hd.2.2.2.1, hd.2.2.2.2.1, trivial⟩
      · exact absurd rfl hd.1
    clear hd
    rw [if_neg (by simp)]
    by_cases hlong : max most 0 < (n : Int)
    · rw [if_pos hlong]
      rcases Int.lt_or_le most 0 with hs | hs
      all_goals
        have hl2 : (n : Int) > 0 := by omega
        have hl3 : most < (n : Int) := by omega
        go_enter Tryz.func98, Tryz.ntmps98
        go_wp2_with fail
        refine k1.out.mono ?_
        rintro e w1 ⟨rfl, rfl⟩
        go_wp2_with fail
        refine (k2.out _ HR.out).mono ?_
        rintro e w2 ⟨a0, rfl, hs0, hn0, m, rfl⟩
        have HS := hid hs0
        have HN := hid hn0
        clear hs0 hn0
        go_wp2_with fail
        refine (k3.out _ _ (by exact HS.out.heap rfl) HN.out).mono ?_
        rintro e w3 ⟨rfl, rfl⟩
        go_wp2_with fail
        go_ret2
        exact ⟨rfl, HR.out.drewN m, Only.drewN m⟩
    · rw [if_neg hlong]
      have hm : (most < 0 ∧ (n : Int) ≤ 0) ∨ (0 ≤ most ∧ (n : Int) ≤ most) := by omega
      clear hlong
      by_cases hshort : len - at_ - k < n
      · rw [if_pos hshort]
        rcases hm with ⟨hm1, hm2⟩ | ⟨hm1, hm2⟩
        · exfalso; omega
        rcases Nat.eq_or_lt_of_le hkl with hkk | hkk
        all_goals
          have hq : (len : Int) - at_ - k < n := by omega
          go_enter Tryz.func98, Tryz.ntmps98
          go_wp2_with fail
          refine k1.out.mono ?_
          rintro e w1 ⟨rfl, rfl⟩
          go_wp2_with fail
          refine (k2.out _ HR.out).mono ?_
          rintro e w2 ⟨a0, rfl, hs0, hn0, m, rfl⟩
          have HS := hid hs0
          have HN := hid hn0
          clear hs0 hn0
          go_wp2_with fail
          refine (k3.out _ _ (by exact HS.out.heap rfl) HN.out).mono ?_
          rintro e w3 ⟨rfl, rfl⟩
          go_wp2_with fail
          refine (k2.out _ (HR.out.drewN m)).mono ?_
          rintro e w2 ⟨a1, rfl, hs1, hn1, m1, rfl⟩
          obtain ⟨b, o, rfl, _, _⟩ := hs1.2 (by omega)
          clear hs1 hn1
          go_wp2_with fail
          go_ret2
          exact ⟨rfl, HR.out.drewN _, Only.drewN _⟩
      · rw [if_neg hshort]
        have hkn : at_ + (k + n) ≤ len := by omega
        rcases Nat.eq_or_lt_of_le hkl with hkk | hkk
        · obtain rfl : n = 0 := by omega
          rcases hm with ⟨hm1, hm2⟩ | ⟨hm1, hm2⟩
          all_goals
            go_enter Tryz.func98, Tryz.ntmps98
            go_wp2_with fail
            refine k1.out.mono ?_
            rintro e w1 ⟨rfl, rfl⟩
            go_wp2_with fail
            refine (k2.out _ HR.out).mono ?_
            rintro e w2 ⟨a0, rfl, hs0, hn0, m, rfl⟩
            have HS := hid hs0
            have HN := hid hn0
            clear hs0 hn0
            go_wp2_with fail
            refine (k3.out _ _ (by exact HS.out.heap rfl) HN.out).mono ?_
            rintro e w3 ⟨rfl, rfl⟩
            go_wp2_with fail
            refine (rest_at B p g len at_ zs _ (HR.out.drewN m) (by omega)).mono ?_
            rintro e w2 ⟨rfl, m1, rfl⟩
            go_wp2_with fail
            refine (pass_int p at_ (k + 0) _ _ (HR.out.drewN (m + m1)).c1 (HR.out.drewN (m + m1)).f1 (by omega) (by omega)).mono ?_
            rintro e w4 ⟨rfl, hw4⟩
            have R4 := hid (hw4 ▸ (HR.out.drewN (m + m1)).pass (k + 0) hkn)
            have O4 := hid (hw4 ▸ (Only.drewN (p := p) (m + m1)).trans (Only.setCell 1 _))
            have hcv := (Src.nil w4 (some ⟨g, at_, none⟩)).convert (P := Tryz.prog) 0 29 5 9 Tryz.underlying29 Tryz.underlying5 Tryz.underlying9
            clear hw4
            go_wp2_with fail
            go_ret2
            exact ⟨rfl, R4.out, O4.out⟩
        · rcases hm with ⟨hm1, hm2⟩ | ⟨hm1, hm2⟩
          all_goals
            go_enter Tryz.func98, Tryz.ntmps98
            go_wp2_with fail
            refine k1.out.mono ?_
            rintro e w1 ⟨rfl, rfl⟩
            go_wp2_with fail
            refine (k2.out _ HR.out).mono ?_
            rintro e w2 ⟨a0, rfl, hs0, hn0, m, rfl⟩
            have HS := hid hs0
            have HN := hid hn0
            clear hs0 hn0
            go_wp2_with fail
            refine (k3.out _ _ (by exact HS.out.heap rfl) HN.out).mono ?_
            rintro e w3 ⟨rfl, rfl⟩
            go_wp2_with fail
            refine (rest_at B p g len at_ zs _ (HR.out.drewN m) (by omega)).mono ?_
            rintro e w2 ⟨rfl, m1, rfl⟩
            go_wp2_with fail
            refine (pass_int p at_ (k + n) _ _ (HR.out.drewN (m + m1)).c1 (HR.out.drewN (m + m1)).f1 (by omega) (by omega)).mono ?_
            rintro e w4 ⟨rfl, hw4⟩
            have R4 := hid (hw4 ▸ (HR.out.drewN (m + m1)).pass (k + n) hkn)
            have O4 := hid (hw4 ▸ (Only.drewN (p := p) (m + m1)).trans (Only.setCell 1 _))
            have hcv := (R4.out.piece (at_ + k) n (by omega)).convert (P := Tryz.prog) (len - at_ - k) 29 5 9 Tryz.underlying29 Tryz.underlying5 Tryz.underlying9
            rw [← List.drop_drop] at hcv
            obtain ⟨X, gX⟩ : ∃ X, X = strOfNums (List.take n (List.drop k (List.drop at_ zs))) := ⟨_, rfl⟩
            rw [← gX] at hcv
            have GX := hid gX
            clear hw4 gX
            go_wp2_with fail
            go_ret2
            rw [← GX.out]
            exact ⟨rfl, R4.out, O4.out⟩
  · have hne : ((e : Int) != 0) = true := by simp; omega
    rw [if_pos he]
    go_enter Tryz.func98, Tryz.ntmps98
    go_wp2_with fail
    refine k1.out.mono ?_
    rintro e w1 ⟨rfl, rfl⟩
    go_wp2_with fail
    refine (k2.out _ HR.out).mono ?_
    rintro e w2 ⟨a0, rfl, hs0, hn0, m, rfl⟩
    have HS := hid hs0
    have HN := hid hn0
    clear hs0 hn0
    go_wp2_with fail
    refine (k3.out _ _ (by exact HS.out.heap rfl) HN.out).mono ?_
    rintro e w3 ⟨rfl, rfl⟩
    go_wp2_with fail
    go_ret2
    exact ⟨rfl, HR.out.drewN m, Only.drewN m⟩

end Go.Proofs.YtkmnhpnlkmiiiaaGreatDoor
