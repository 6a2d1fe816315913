/- A list of numbers that came in, opened, where what came in is not too great. -/
import Derived.Test.YtmieoihjgckfhaaWOpenB
import Derived.Test.YtmieoihjgckfhaaWInt
namespace Go.Proofs.Ytmieoihjgckfhaa
open Go.ChangeShapes Go.WideShapes Go.ChangeAt Go.RowKit
set_option linter.unusedVariables false

theorem open_ilstB {H : Type} {enc : TypeId × Value → H} {W : World} {a0 : Option Addr} {len cap : Nat} {d : DataW H} {p : List MemPlace}
    (h : DataW.Trod enc Try.prog W 0 (fun _ => true) true 22 (.slice a0 len cap) d p) :
    ∃ zs : List Int, Ilst W a0 len cap zs ∧ (∀ z ∈ zs, z ≤ 9223372036854775807) ∧ len ≤ Rows.uptoBulk d := by
  have lt : ∀ x ∈ p, x.block < W.heap.size := by obtain ⟨m, hm⟩ := h; exact DataW.trod_lt m _ _ _ hm
  obtain ⟨fuel, hf⟩ := h
  rcases open_ints Try.underlying22 Try.underlying3 (by kernel_rfl) hf with ⟨hcs, _⟩ | ⟨x, l, c, zs, hcs, _, hl, hm, hz, hx, hcell, hwz⟩
  · simp [Value.cells] at hcs
    obtain ⟨rfl, rfl, rfl⟩ := hcs
    exact ⟨[], ⟨rfl, fun h => absurd h (Nat.lt_irrefl 0), fun _ => rfl⟩, fun z hz => (by cases hz), Nat.zero_le _⟩
  · simp [Value.cells] at hcs
    obtain ⟨rfl, rfl, rfl⟩ := hcs
    simp only [Prod.mk.injEq] at hx
    obtain ⟨rfl, rfl⟩ := hx
    simp only [if_true] at hz
    refine ⟨zs.take len, ⟨by simp; omega, fun h0 => ?_, fun h => (by cases h)⟩, fun z hz' => ?_, ?_⟩
    · obtain ⟨b, off, spot⟩ := x
      have hspot : spot = none := by simpa [Addr.add] using World.cell?_spot (hcell 0 (by omega))
      subst hspot
      refine ⟨b, off, rfl, lt (.cell b off) (MemPlace.mem_row.2 ⟨0, by omega, by simp⟩), fun j hj => ?_⟩
      rw [← add_plain, hcell j (by omega)]
      simp [List.getD, hj]
    · have := bounds_i64 (hwz z (List.mem_of_mem_take hz'))
      omega
    · refine Nat.le_trans ?_ (slice_le _ _)
      simp [lits]
      omega

end Go.Proofs.Ytmieoihjgckfhaa
