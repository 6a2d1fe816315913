/- What walkToNew and Find do. -/
import Derived.Test.YtdnblbahecpmkaaGreatNTo2
namespace Go.Proofs.YtdnblbahecpmkaaGreat
open Go.RowKit
set_option linter.unusedVariables false
set_option maxRecDepth 20000

theorem toNode_ok {r : Except Int (List Nat × List UInt8 × Nat)} {y : List Nat} {s : List UInt8} {n : Nat} (h : toNode r = .ok (y, s, n)) : r = .ok (y, s, n) ∧ n ≠ 0 := by
  cases r with
  | error e => simp [toNode] at h
  | ok q =>
    obtain ⟨a, b, c⟩ := q
    simp only [toNode] at h
    split at h
    · simp at h
    · simp only [Except.ok.injEq, Prod.mk.injEq] at h
      obtain ⟨rfl, rfl, rfl⟩ := h
      exact ⟨rfl, by assumption⟩

set_option maxHeartbeats 4000000 in
set_option maxRecDepth 20000 in
theorem find_any (p : Nat) (S : Sg) (t : ByteArray) (w : World) (H : Sy w p S) (hT : Tree S) (hs : t.size ≤ 140737488355328) :
    Calls Tryz.prog 41 #[.pointer (some ⟨p, 0, none⟩), .string t] w fun e w' => e = .returned (.tuple #[.int .i64 ((findS S t).1 : Int), .int .i64 (findS S t).2]) ∧ Below w.heap.size w w' := by
  have k0 := hid H.usable
  have k1 := hid (tonode_any p S t w H hT hs)
  have HO := hid (fun y s m => @wkS_ok w p S H t y s m)
  obtain ⟨R1, R2, gR⟩ : ∃ R1 R2, findS S t = (R1, R2) := ⟨_, _, rfl⟩
  rw [gR]
  show Calls _ _ _ _ fun e w' => e = .returned (.tuple #[.int .i64 (R1 : Int), .int .i64 R2]) ∧ Below w.heap.size w w'
  unfold findS at gR
  clear H
  by_cases h0 : bl t = [47]
  · rw [if_pos h0] at gR
    obtain ⟨rfl, rfl⟩ := Prod.mk.inj gR
    clear gR
    have h3 : (t.toList == [47]) = true := by
      rw [Lib.toList_data]
      simpa [bl] using h0
    clear h0 k1 HO
    go_enter Tryz.func41, Tryz.ntmps41
    go_wp2_with fail
    refine k0.out.mono ?_
    rintro e w1 ⟨rfl, rfl⟩
    clear k0
    go_wp2_with fail
    go_ret2
    exact ⟨rfl, Below.refl _ _⟩
  · rw [if_neg h0] at gR
    have GR := hid gR
    clear gR
    have h3 : (t.toList == [47]) = false := by
      rw [Lib.toList_data]
      simpa [bl] using h0
    clear h0
    go_enter Tryz.func41, Tryz.ntmps41
    go_wp2_with fail
    refine k0.out.mono ?_
    rintro e w1 ⟨rfl, rfl⟩
    clear k0
    go_wp2_with fail
    refine k1.out.mono ?_
    rintro e w2 ⟨v, rfl, hb2, hv⟩
    have HB2 := hid hb2
    clear k1 hb2
    cases hr : toNode (wkS S t) with
    | error er =>
      rw [hr] at hv
      obtain rfl : v = _ := hv
      have HR : Hid (R1 = 0 ∧ R2 = er) := by
        have := GR.out
        rw [hr] at this
        obtain ⟨h1, h2⟩ := Prod.mk.inj this
        exact hid ⟨h1.symm, h2.symm⟩
      clear hr HO GR
      go_wp2_with fail
      go_ret2
      refine ⟨by rw [HR.out.1, HR.out.2]; rfl, ?_⟩
      exact HB2.out.trans ((one_new w2 _).mono HB2.out.size)
    | ok q =>
      obtain ⟨y, s, n⟩ := q
      rw [hr] at hv
      obtain ⟨hr', hn0⟩ := toNode_ok hr
      obtain ⟨u, rfl, yv, nm, rfl, hnm, hown⟩ := hv
      obtain ⟨d, hd, hrest⟩ := HO.out y s n hr'
      have HR : Hid (R1 = n ∧ R2 = 0) := by
        have := GR.out
        rw [hr] at this
        obtain ⟨h1, h2⟩ := Prod.mk.inj this
        exact hid ⟨h1.symm, h2.symm⟩
      clear hrest GR
      obtain ⟨gy, cy, rfl, hy0, hgy, hcy, hyc, hcm⟩ := last_own hown hd
      clear hr HO hr' hnm hown hd hcy
      go_wp2_with fail
      go_ret2
      refine ⟨by rw [HR.out.1, HR.out.2]; rfl, ?_⟩
      exact HB2.out.trans ((one_new w2 _).mono HB2.out.size)

end Go.Proofs.YtdnblbahecpmkaaGreat
