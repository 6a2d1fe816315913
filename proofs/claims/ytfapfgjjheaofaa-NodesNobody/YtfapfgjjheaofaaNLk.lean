/- What Look tells of a file system with the root alone. -/
import Derived.Test.YtfapfgjjheaofaaNNob
import Derived.Maps.OwnSet
import Derived.Test.YtfapfgjjheaofaaNShelf
namespace Go.Proofs.Ytfapfgjjheaofaa
open Go.RowKit Go.ChangeMaps Go.MapKept
set_option linter.unusedVariables false

/-- A map without entries. -/
theorem empty_owns (w : World) (m c : Nat) (h : w.heap[m]? = some (.map #[] c)) : w.ownsMap Try.prog 9 (plainElem (H := Unit) Try.prog 3) m 0 (.map []) :=
  ⟨#[], c, h, ⟨by simp, stamped_empty c, by simp⟩, Nat.le_refl _, rfl⟩

theorem len_root (p o m c : Nat) (w : World) (h0 : w.cell? ⟨p, o, none⟩ = some (.int .i64 2)) (h6 : w.cell? ⟨p, o + 106, none⟩ = some (.map (some m))) (hm : w.heap[m]? = some (.map #[] c)) :
    Calls Try.prog 38 #[.pointer (some ⟨p, o, none⟩)] w fun e w' => e = .returned (.int .i64 0) ∧ w' = w := by
  have k1 := hid (isdir_any p o 2 w h0)
  have hl := (empty_owns w m c hm).len (t := 25) Try.underlying25
  clear h0 hm
  go_enter Try.func38, Try.ntmps38
  go_wp2_with fail
  refine k1.out.mono ?_
  rintro e w1 ⟨rfl, rfl⟩
  clear k1
  go_wp2_with fail
  go_ret
  exact ⟨rfl, rfl⟩

/-- The root alone, as it lies. -/
structure Root (w : World) (p m : Nat) : Prop where
  b : w.heap[p]? = some (.cells (sysC m).toArray 31 (0, 0))
  m : w.heap[m]? = some (.map #[] 0)
theorem Root.below {B : Nat} {w w' : World} {p m : Nat} (h : Root w p m) (u : Below B w w') (hp : p < B) (hm : m < B) : Root w' p m := ⟨(u.block p hp).trans h.b, (u.block m hm).trans h.m⟩
theorem sysC_at (m j : Nat) (v : Value) (h : (nodeC 2 1 (.map (some m)))[j]? = some v) (hj : j < 107) : (sysC m)[108 + j]? = some v := by
  unfold sysC
  rw [getElem?_splice_in _ _ _ _ (by rw [sysZ_len, nodeC_len]; omega) (by rw [nodeC_len]; exact hj)]
  exact h
theorem Root.k {w : World} {p m : Nat} (h : Root w p m) : w.cell? ⟨p, 108, none⟩ = some (.int .i64 2) := cell_list h.b (sysC_at m 0 _ rfl (by omega))
theorem Root.l {w : World} {p m : Nat} (h : Root w p m) : w.cell? ⟨p, 109, none⟩ = some (.int .i64 1) := cell_list h.b (sysC_at m 1 _ rfl (by omega))
theorem Root.h {w : World} {p m : Nat} (h : Root w p m) : w.cell? ⟨p, 110, none⟩ = some (.int .i64 0) := cell_list h.b (sysC_at m 2 _ rfl (by omega))
theorem Root.n {w : World} {p m : Nat} (h : Root w p m) : w.cell? ⟨p, 214, none⟩ = some (.map (some m)) := cell_list h.b (sysC_at m 106 _ rfl (by omega))
theorem Root.len {w : World} {p m : Nat} (h : Root w p m) : Calls Try.prog 38 #[.pointer (some ⟨p, 108, none⟩)] w fun e w' => e = .returned (.int .i64 0) ∧ w' = w := len_root p 108 m 0 w h.k h.n h.m

theorem keys_any (m : Nat) (w : World) : Calls Try.prog 73 #[.map (some m)] w fun e w' => e = .returned (.func (.func 81) #[] #[.pointer (some ⟨w.heap.size, 0, none⟩)]) ∧ w' = w.alloc (.cells #[.map (some m)] 25) :=
  callsIn_wide.1 (Try.maps_Keys_73 (some m) w)
theorem sorted_none (m : Nat) (w : World) (hm : w.heap[m]? = some (.map #[] 0)) : Calls Try.prog 72 #[.func (.func 81) #[] #[.pointer (some ⟨w.heap.size, 0, none⟩)]] (w.alloc (.cells #[.map (some m)] 25)) fun e w' => e = .returned (.slice none 0 0) ∧ Below w.heap.size w w' := by
  refine (callsIn_wide.1 (Try.slices_Sorted_keys_72_73 m 0 (.map []) _ w (empty_owns w m 0 hm) (by decide) (by decide))).mono ?_
  rintro e w' ⟨v, ss, rfl, hp, hr, hv, hb⟩
  have e0 : ss = [] := by
    have h1 : strKeys (H := Unit) (.map []) = [] := rfl
    rw [h1] at hp
    exact hp.eq_nil
  refine ⟨by rw [hv.2 e0], ?_⟩
  have hb1 : Below w.heap.size w (w.alloc (.cells #[.map (some m)] 25)) := (Below.refl _ _).alloc (Nat.le_refl _) _
  exact hb1.trans (hb.mono hb1.size)

end Go.Proofs.Ytfapfgjjheaofaa
