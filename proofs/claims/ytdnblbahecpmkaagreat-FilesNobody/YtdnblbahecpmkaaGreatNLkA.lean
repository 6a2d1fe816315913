/- A file system with the root alone, as Look reads it. -/
import Derived.Test.YtdnblbahecpmkaaGreatNMake2
import Derived.Test.YtdnblbahecpmkaaGreatNRead
import Derived.Test.YtdnblbahecpmkaaGreatNShelfZ
import Derived.Maps.OwnSet
namespace Go.Proofs.YtdnblbahecpmkaaGreat
open Go.RowKit Go.ChangeMaps Go.MapKept
set_option linter.unusedVariables false
set_option maxRecDepth 20000

/-- The root alone. -/
def Root (w : World) (p m : Nat) : Prop := ∃ S : Sg, Sy w p S ∧ ((S.P 1).k = 2 ∧ (S.P 1).l = 1 ∧ (S.P 1).h = 0 ∧ (S.P 1).m = some m ∧ S.L 1 = 0) ∧ ∀ i, i < 17 → i ≠ 1 → (S.P i).k = 0

theorem Root.below {w w' : World} {p m : Nat} (h : Root w p m) (u : Below w.heap.size w w') (hp : p < w.heap.size) (hm : m < w.heap.size) : Root w' p m := by
  obtain ⟨S, h1, h2⟩ := h
  exact ⟨S, h1.grow u, h2⟩
theorem Root.usable {w : World} {p m : Nat} (h : Root w p m) : Calls Tryz.prog 51 #[.pointer (some ⟨p, 0, none⟩)] w fun e w' => e = .returned (.bool true) ∧ w' = w := by
  obtain ⟨S, h1, h2⟩ := h
  exact h1.usable
theorem Root.k {w : World} {p m : Nat} (h : Root w p m) : w.cell? ⟨p, 108, none⟩ = some (.int .i64 2) := by
  obtain ⟨S, h1, ⟨h2, _⟩, _⟩ := h
  have := h1.k 1 (by omega)
  rw [h2] at this; exact this
theorem Root.l {w : World} {p m : Nat} (h : Root w p m) : w.cell? ⟨p, 109, none⟩ = some (.int .i64 1) := by
  obtain ⟨S, h1, ⟨_, h2, _⟩, _⟩ := h
  have := h1.l 1 (by omega)
  rw [h2] at this; exact this
theorem Root.h {w : World} {p m : Nat} (h : Root w p m) : w.cell? ⟨p, 110, none⟩ = some (.int .i64 0) := by
  obtain ⟨S, h1, ⟨_, _, h2, _⟩, _⟩ := h
  have := h1.h 1 (by omega)
  rw [h2] at this; exact this
theorem Root.n {w : World} {p m : Nat} (h : Root w p m) : w.cell? ⟨p, 214, none⟩ = some (.map (some m)) := by
  obtain ⟨S, h1, ⟨_, _, _, h2, _⟩, _⟩ := h
  have := h1.m 1 (by omega)
  rw [h2] at this; exact this
theorem Root.m {w : World} {p m : Nat} (h : Root w p m) : w.ownsMap Tryz.prog 9 (plainElem (H := Unit) Tryz.prog 3) m 0 (.map []) := by
  obtain ⟨S, h1, ⟨_, _, _, h2, h3⟩, _⟩ := h
  have := h1.nms 1 (by omega)
  rw [h2, h3] at this
  obtain ⟨D, q1, q2, _⟩ := this
  have e : D = .map [] := by
    obtain ⟨es, clock, hb, F, hn, rfl⟩ := q1
    congr 1
    exact List.eq_nil_of_length_eq_zero q2
  rw [← e]
  exact q1
set_option maxHeartbeats 1000000 in
theorem Root.len {w : World} {p m : Nat} (h : Root w p m) : Calls Tryz.prog 50 #[.pointer (some ⟨p, 108, none⟩)] w fun e w' => e = .returned (.int .i64 0) ∧ w' = w := by
  have k1 := hid (isdir_any p 108 2 w h.k)
  have h6 := h.n
  have hl := h.m.len (t := 88) Tryz.underlying88
  clear h
  go_enter Tryz.func50, Tryz.ntmps50
  go_wp2_with fail
  refine k1.out.mono ?_
  rintro e w1 ⟨rfl, rfl⟩
  clear k1
  go_wp2_with fail
  go_ret
  exact ⟨rfl, rfl⟩

theorem Root.none {w : World} {p m : Nat} (h : Root w p m) (i : Nat) (hi : i < 17) (h1 : i ≠ 1) : w.cell? ⟨p, 1 + i * 107, none⟩ = some (.int .i64 0) := by
  obtain ⟨S, q1, _, q2⟩ := h
  have := q1.k i hi
  rw [q2 i hi h1] at this
  exact this

theorem keys_any (m : Nat) (w : World) : Calls Tryz.prog 74 #[.map (some m)] w fun e w' => e = .returned (.func (.func 89) #[] #[.pointer (some ⟨w.heap.size, 0, none⟩)]) ∧ w' = w.alloc (.cells #[.map (some m)] 88) :=
  callsIn_wide.1 (Tryz.maps_Keys_74 (some m) w)
theorem sorted_none (m : Nat) (w : World) (hm : w.ownsMap Tryz.prog 9 (plainElem (H := Unit) Tryz.prog 3) m 0 (.map [])) : Calls Tryz.prog 73 #[.func (.func 89) #[] #[.pointer (some ⟨w.heap.size, 0, none⟩)]] (w.alloc (.cells #[.map (some m)] 88)) fun e w' => e = .returned (.slice none 0 0) ∧ Below w.heap.size w w' := by
  refine (callsIn_wide.1 (Tryz.slices_Sorted_keys_73_74 m 0 (.map []) _ w hm (by decide) (by decide))).mono ?_
  rintro e w' ⟨v, ss, rfl, hp, hr, hv, hb⟩
  have e0 : ss = [] := by
    have h1 : strKeys (H := Unit) (.map []) = [] := rfl
    rw [h1] at hp
    exact hp.eq_nil
  refine ⟨by rw [hv.2 e0], ?_⟩
  have hb1 : Below w.heap.size w (w.alloc (.cells #[.map (some m)] 88)) := (Below.refl _ _).alloc (Nat.le_refl _) _
  exact hb1.trans (hb.mono hb1.size)

end Go.Proofs.YtdnblbahecpmkaaGreat
