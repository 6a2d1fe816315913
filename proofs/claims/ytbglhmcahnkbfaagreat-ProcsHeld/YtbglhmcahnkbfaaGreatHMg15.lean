/- Texts of this seat, merged. -/
import Derived.Test.YtbglhmcahnkbfaaGreatHMg14
import Derived.OwnWalk

/- What the small questions about a system and its nodes answer. -/
namespace Go.Proofs.YtbglhmcahnkbfaaGreat
open Go.RowKit
set_option linter.unusedVariables false

theorem isdir_any (p o : Nat) (k : Int) (w : World) (h : w.cell? ⟨p, o, none⟩ = some (.int .i64 k)) : Calls Tryz.prog 125 #[.pointer (some ⟨p, o, none⟩)] w fun e w' => e = .returned (.bool (decide (k = 2))) ∧ w' = w := by
  go_enter Tryz.func125, Tryz.ntmps125
  go_wp2_with fail
  go_ret
  refine ⟨?_, rfl⟩
  congr 2

theorem isthere_any (p o : Nat) (k : Int) (w : World) (h : w.cell? ⟨p, o, none⟩ = some (.int .i64 k)) : Calls Tryz.prog 104 #[.pointer (some ⟨p, o, none⟩)] w fun e w' => e = .returned (.bool (decide (k ≠ 0))) ∧ w' = w := by
  go_enter Tryz.func104, Tryz.ntmps104
  go_wp2_with fail
  go_ret
  refine ⟨?_, rfl⟩
  congr 2
  by_cases e : k = 0 <;> simp [e]

theorem usable_at (p : Nat) (k : Int) (w : World) (h : w.cell? ⟨p, 108, none⟩ = some (.int .i64 k)) : Calls Tryz.prog 103 #[.pointer (some ⟨p, 0, none⟩)] w fun e w' => e = .returned (.bool (decide (k = 2))) ∧ w' = w := by
  have k1 := hid (isdir_any p 108 k w h)
  clear h
  go_enter Tryz.func103, Tryz.ntmps103
  go_wp2_with fail
  refine k1.out.mono ?_
  rintro e w1 ⟨rfl, rfl⟩
  go_wp2_with fail
  go_ret
  exact ⟨rfl, rfl⟩
theorem Sy.usable {w : World} {p : Nat} {S : Sg} (h : Sy w p S) : Calls Tryz.prog 103 #[.pointer (some ⟨p, 0, none⟩)] w fun e w' => e = .returned (.bool true) ∧ w' = w := by
  refine (usable_at p 2 w ?_).mono ?_
  · have := h.k 1 (by omega)
    rw [h.root] at this
    exact this
  · rintro e w' ⟨rfl, rfl⟩
    exact ⟨rfl, rfl⟩

/-- How many names a map has. -/
theorem Nms.len {w : World} {m : Option Nat} {L : Nat} {N : List UInt8 → Nat} (h : Nms w m L N) (ty : TypeId) : (Builtin.len_ #[142] ty #[.map m]).run Tryz.prog w = .ok (.int .i64 L) w := by
  cases m with
  | none =>
    obtain ⟨rfl, _⟩ := h
    exact Go.Maps.len_nil (t := 142) Tryz.underlying142 ty
  | some b =>
    obtain ⟨D, h1, h2, _⟩ := h
    have := h1.len (t := 142) Tryz.underlying142 ty
    rw [h2] at this
    exact this

theorem isfull_any (p o : Nat) (m : Option Nat) (L : Nat) (N : List UInt8 → Nat) (w : World) (h6 : w.cell? ⟨p, o + 106, none⟩ = some (.map m)) (hm : Nms w m L N) :
    Calls Tryz.prog 132 #[.pointer (some ⟨p, o, none⟩)] w fun e w' => e = .returned (.bool (decide (6 ≤ L))) ∧ w' = w := by
  have hl := fun ty => hm.len ty
  clear hm
  go_enter Tryz.func132, Tryz.ntmps132
  go_wp2_with fail
  go_ret
  refine ⟨?_, rfl⟩
  congr 2
  simp
  omega

theorem length_any (p o : Nat) (k : Int) (s : Nat) (m : Option Nat) (L : Nat) (N : List UInt8 → Nat) (w : World) (h0 : w.cell? ⟨p, o, none⟩ = some (.int .i64 k)) (h3 : w.cell? ⟨p, o + 3, none⟩ = some (.int .i64 (s : Int))) (h6 : w.cell? ⟨p, o + 106, none⟩ = some (.map m)) (hm : Nms w m L N) :
    Calls Tryz.prog 110 #[.pointer (some ⟨p, o, none⟩)] w fun e w' => e = .returned (.int .i64 (if k = 2 then (L : Int) else (s : Int))) ∧ w' = w := by
  have k1 := hid (isdir_any p o k w h0)
  have hl := fun ty => hm.len ty
  clear h0 hm
  by_cases e : k = 2
  · subst e
    go_enter Tryz.func110, Tryz.ntmps110
    go_wp2_with fail
    refine k1.out.mono ?_
    rintro e w1 ⟨rfl, rfl⟩
    clear k1
    go_wp2_with fail
    go_ret
    exact ⟨rfl, rfl⟩
  · rw [if_neg e]
    rw [show decide (k = 2) = false by simp [e]] at k1
    go_enter Tryz.func110, Tryz.ntmps110
    go_wp2_with fail
    refine k1.out.mono ?_
    rintro e w1 ⟨rfl, rfl⟩
    clear k1
    go_wp2_with fail
    go_ret
    exact ⟨rfl, rfl⟩

end Go.Proofs.YtbglhmcahnkbfaaGreat
