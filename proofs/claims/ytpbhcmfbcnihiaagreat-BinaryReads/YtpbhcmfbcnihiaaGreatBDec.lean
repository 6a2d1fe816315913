/- What Decode answers. -/
import Derived.Test.YtpbhcmfbcnihiaaGreatBCall
import Derived.Test.YtpbhcmfbcnihiaaGreatBCan2
namespace Go.Proofs.YtpbhcmfbcnihiaaGreat
open Go.RowKit Num
set_option linter.unusedVariables false
set_option maxRecDepth 20000

/-- The program of bytes. -/
def dcd (zs : List Int) : Option (List Ex) := match rPg [] zs with
  | none => none
  | some (l, _) => if pB l = true then some l else none
def DecPost (w : World) (R : Option (List Ex)) : Ending → World → Prop := fun e w' => Below w.heap.size w w' ∧ match R with
  | none => e = .returned (.tuple #[.slice none 0 0, .int .i64 180])
  | some l => ∃ a n c, e = .returned (.tuple #[.slice a n c, .int .i64 0]) ∧ l.length = n ∧ n ≤ c ∧ c ≤ 9223372036854775807 ∧ Lies 3 ExAt (fun k => w.heap.size ≤ k) w' a l

set_option maxHeartbeats 8000000 in
theorem decode_any (a : Option Addr) (n c : Nat) (zs : List Int) (w : World) (hs : Src w a n zs) (hz : Bytes zs) (hr : n ≤ 281474976710656) :
    Calls Tryz.prog 13 #[.slice a n c] w (DecPost w (dcd zs)) := by
  have k1 := hid program_mk
  have k2 := hid (fun (wx : World) (hb : Below w.heap.size w wx) => over_any a n c zs wx (hs.below hb) hr)
  obtain ⟨R, gR⟩ : ∃ R, rPg [] zs = R := ⟨_, rfl⟩
  obtain ⟨D, gD⟩ : ∃ D, dcd zs = D := ⟨_, rfl⟩
  rw [gD]
  unfold dcd at gD
  rw [gR] at gD
  have HD := hid gD
  have HZ := hid hz
  have GR := hid gR
  clear gD gR hs hz
  go_enter Tryz.func13, Tryz.ntmps13
  go_wp2_with fail
  refine (k1.out _).mono ?_
  rintro e w2 ⟨q, rfl, _, hRd, b2⟩
  obtain ⟨B2, R2, s2⟩ := box_in b2
  have H2 := hid B2
  have HR2 := hid R2
  have HRd := hid hRd
  have hfl := congrFun (fld41_1 44 45 #[pt q] #[pt q]) w2
  have hgo := hRd.1
  clear b2 B2 R2 hRd k1
  go_wp2_with fail
  refine (k2.out _ H2.out).mono ?_
  rintro e w3 ⟨p, rfl, hRr, hpl, b3⟩
  have hs3 := b3.size
  have hmid := hRr.mid
  have hcell := (b3.block w.heap.size s2).trans HR2.out
  have B3 := hid (H2.out.trans (b3.mono H2.out.size))
  have kr := hid (HRd.out.2 w3 (fun k => w3.heap.size ≤ k) p w2.heap.size n 0 zs w.heap.size 0 [.slice none 0 0] 22 [] (Upd.of_below b3) hRr HZ.out (.inl (by simp)) (by omega) (by omega) hcell (by simp) ⟨none, 0, 0, rfl, rfl, Nat.le_refl _, by omega, fun h => absurd h (Nat.lt_irrefl 0)⟩ (fun k hk => hk) (by omega) (by omega))
  simp only [List.drop_zero, GR.out] at kr
  clear hRr b3 hcell k2
  cases R with
  | none =>
    obtain rfl : none = D := HD.out
    go_wp2_with fail
    refine kr.out.mono ?_
    rintro e w4 ⟨hU4, t', u', rfl⟩
    have B4 := hid (B3.out.trans (hU4.below B3.out.size (fun x hx => by omega)))
    clear hU4 kr hgo
    go_wp2_with fail
    go_ret2
    exact ⟨B4.out, rfl⟩
  | some y =>
    obtain ⟨l, m⟩ := y
    go_wp2_with fail
    refine kr.out.mono ?_
    rintro e w4 ⟨hU4, rfl, _, cs, hcl, hC4, hI4⟩
    obtain ⟨a', n', c', rfl, e1, e2, e3, e4⟩ := hI4
    have B4 := hid (B3.out.trans (hU4.below B3.out.size (fun x hx => by omega)))
    have hc4 : w4.cell? ⟨w.heap.size, 0, none⟩ = some (.slice a' n' c') := at_block hC4 _ (by simp [splice])
    have kc := hid (can_any a' n' c' l _ w4 e4 e1 (by omega))
    have HL := hid e4
    have HE1 := hid e1
    have hs4 := hU4.size
    clear hU4 kr hgo hC4 hcl e4 e1
    obtain ⟨P, gP⟩ : ∃ P, pB l = P := ⟨_, rfl⟩
    rw [gP] at kc HD
    clear gP
    have hwl : w.heap.size < w4.heap.size := by omega
    cases P
    · obtain rfl : none = D := HD.out
      go_wp2_with fail
      refine kc.out.mono ?_
      rintro e w5 ⟨rfl, b5⟩
      have B5 := hid (B4.out.trans (b5.mono B4.out.size))
      clear b5
      go_wp2_with fail
      go_ret2
      exact ⟨B5.out, rfl⟩
    · obtain rfl : some l = D := HD.out
      go_wp2_with fail
      refine kc.out.mono ?_
      rintro e w5 ⟨rfl, b5⟩
      have B5 := hid (B4.out.trans (b5.mono B4.out.size))
      have hc5 := (b5.cell (p := ⟨w.heap.size, 0, none⟩) hwl).trans hc4
      have HL5 := hid (HL.out.keep (fun _ _ _ h => ExAt.keep (Keep.below b5) h) (Keep.below b5))
      clear b5
      go_wp2_with fail
      go_ret2
      exact ⟨B5.out, a', n', c', rfl, HE1.out, e2, e3, HL5.out.keep (fun _ _ _ h => ExAt.keep (Keep.same (fun b hb _ => by omega)) h) (Keep.same (fun b hb _ => by omega))⟩

end Go.Proofs.YtpbhcmfbcnihiaaGreat
