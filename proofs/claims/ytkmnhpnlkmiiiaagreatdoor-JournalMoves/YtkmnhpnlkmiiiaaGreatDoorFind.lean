/- What disk.find does, for every row of writes whose sectors rise: where a sector stands, or would stand; nothing old turns. -/
import Derived.Test.YtkmnhpnlkmiiiaaGreatDoorChecked
import Derived.Test.YtkmnhpnlkmiiiaaGreatDoorLaw
namespace Go.Proofs.YtkmnhpnlkmiiiaaGreatDoor
open Go.RowKit

/-- How two numbers stand. -/
def cmpI (x y : Int) : Int := if x < y then -1 else if y < x then 1 else 0

theorem nan_any (x : Int) (w : World) : Calls Tryz.prog 94 #[.int .i64 x] w fun e w' => e = .returned (.bool false) ∧ w' = w := by
  go_enter Tryz.func94, Tryz.ntmps94
  go_wp2
  go_ret
  exact ⟨rfl, rfl⟩

theorem compare_any (x y : Int) (w : World) : Calls Tryz.prog 81 #[.int .i64 x, .int .i64 y] w fun e w' => e = .returned (.int .i64 (cmpI x y)) ∧ w' = w := by
  have k1 := hid (nan_any x w)
  have k2 := hid (nan_any y w)
  unfold cmpI
  rcases Int.lt_trichotomy x y with h | h | h
  · rw [if_pos h]
    go_enter Tryz.func81, Tryz.ntmps81
    go_wp2_with fail
    refine k1.out.mono ?_
    rintro e w1 ⟨rfl, rfl⟩
    go_wp2_with fail
    refine k2.out.mono ?_
    rintro e w1 ⟨rfl, rfl⟩
    go_wp2_with fail
    go_ret
    exact ⟨rfl, rfl⟩
  · subst h
    rw [if_neg (by omega), if_neg (by omega)]
    go_enter Tryz.func81, Tryz.ntmps81
    go_wp2_with fail
    refine k1.out.mono ?_
    rintro e w1 ⟨rfl, rfl⟩
    go_wp2_with fail
    refine k2.out.mono ?_
    rintro e w1 ⟨rfl, rfl⟩
    go_wp2_with fail
    go_ret
    exact ⟨rfl, rfl⟩
  · rw [if_neg (by omega), if_pos h]
    go_enter Tryz.func81, Tryz.ntmps81
    go_wp2_with fail
    refine k1.out.mono ?_
    rintro e w1 ⟨rfl, rfl⟩
    go_wp2_with fail
    refine k2.out.mono ?_
    rintro e w1 ⟨rfl, rfl⟩
    go_wp2_with fail
    go_ret
    exact ⟨rfl, rfl⟩

theorem order_any (s i : Int) (v : Value) (w : World) : Calls Tryz.prog 80 #[.agg #[.int .i64 s, v], .int .i64 i] w fun e w' => e = .returned (.int .i64 (cmpI s i)) ∧ Below w.heap.size w w' := by
  have k := hid (fun wx => compare_any s i wx)
  go_enter Tryz.func80, Tryz.ntmps80
  go_wp2_with fail
  refine (k.out _).mono ?_
  rintro e w1 ⟨rfl, rfl⟩
  go_wp2_with fail
  go_ret
  exact ⟨rfl, (Below.refl _ _).alloc (Nat.le_refl _) _⟩

/-- A row of writes, as it lies: sector and bytes of each. -/
def Sents (w : World) (ae : Option Addr) (n : Nat) (sec : Nat → Int) (bv : Nat → Value) : Prop :=
  0 < n → ∃ b o, ae = some ⟨b, o, none⟩ ∧ b < w.heap.size ∧ ∀ i, i < n → w.cell? ⟨b, o + i * 2, none⟩ = some (.int .i64 (sec i)) ∧ w.cell? ⟨b, o + i * 2 + 1, none⟩ = some (bv i)
theorem Sents.below {w w' : World} {ae : Option Addr} {n : Nat} {sec : Nat → Int} {bv : Nat → Value} (h : Sents w ae n sec bv) (hb : Below w.heap.size w w') : Sents w' ae n sec bv := fun hn => by
  obtain ⟨b, o, e, hlt, hc⟩ := h hn
  exact ⟨b, o, e, Nat.lt_of_lt_of_le hlt hb.size, fun i hi => ⟨(hb.cell (p := ⟨b, o + i * 2, none⟩) hlt).trans (hc i hi).1, (hb.cell (p := ⟨b, o + i * 2 + 1, none⟩) hlt).trans (hc i hi).2⟩⟩

end Go.Proofs.YtkmnhpnlkmiiiaaGreatDoor
