/- Texts of this seat, merged. -/
import Derived.Test.YtbglhmcahnkbfaaGreatRows
import Derived.Test.YtbglhmcahnkbfaaGreatGMg1
import Derived.Test.YtbglhmcahnkbfaaGreatGMg2
import Derived.ProofKit
import Derived.OpenShut
import Derived.ShutString
import Derived.ChangeOld
import Derived.SizedLaws

/- An argument of type []byte, opened: the numbers that it holds, how they lie, and how many there can be. -/
namespace Go.Proofs.YtbglhmcahnkbfaaGreat
open Go.ChangeShapes Go.WideShapes Go.ChangeAt Go.RowKit Lend

theorem own : ownKnob Tryz.prog.godebug = none := by kernel_rfl
theorem laidOut : laidOutB Tryz.prog = true := by kernel_rfl
theorem bytes5 : Tryz.prog.bytesOf 5 = 1 := by kernel_rfl

theorem open_bytes {H : Type} {enc : TypeId × Value → H} {W : World} {a0 : Option Addr} {len cap : Nat} {d : DataW H} {p : List MemPlace}
    (h : DataW.Trod enc Tryz.prog W 0 (fun _ => true) true 104 (.slice a0 len cap) d p) :
    ∃ zs : List Int, Src W a0 len zs ∧ Bytes zs ∧ len ≤ cap ∧ (a0 = none → cap = 0) ∧ ((cap = 0) ∨ ∃ elems spare, d = .slice elems spare ∧ elems.length + spare.length = cap) := by
  have lt : ∀ x ∈ p, x.block < W.heap.size := by obtain ⟨m, hm⟩ := h; exact DataW.trod_lt m _ _ _ hm
  obtain ⟨fuel, hf⟩ := h
  rcases open_ints Tryz.underlying104 Tryz.underlying5 (by kernel_rfl) hf with ⟨hcs, _⟩ | ⟨x, l, c, zs, hcs, _, hl, hm, hz, hx, hcell, hwz⟩
  · simp [Value.cells] at hcs
    obtain ⟨rfl, rfl, rfl⟩ := hcs
    exact ⟨[], Src.nil _ _, Bytes.nil, Nat.le_refl _, fun _ => rfl, .inl rfl⟩
  · simp [Value.cells] at hcs
    obtain ⟨rfl, rfl, rfl⟩ := hcs
    simp only [Prod.mk.injEq] at hx
    obtain ⟨rfl, rfl⟩ := hx
    simp only [if_true] at hz
    refine ⟨zs.take len, ⟨by simp; omega, fun h0 => ?_⟩, fun z hz' => ?_, hl, fun h => (by cases h), .inr ⟨_, _, rfl, by simp [lits]; omega⟩⟩
    · obtain ⟨b, off, spot⟩ := x
      have hspot : spot = none := by simpa [Addr.add] using World.cell?_spot (hcell 0 (by omega))
      subst hspot
      refine ⟨b, off, rfl, lt (.cell b off) (MemPlace.mem_row.2 ⟨0, by omega, by simp⟩), fun j hj => ?_⟩
      rw [← add_plain, hcell j (by omega)]
      simp [List.getD, hj]
    · have := bounds_u8 (hwz z (List.mem_of_mem_take hz'))
      omega

theorem reach_bytes {H : Type} {ts : List TypeId} {ds : List (DataW H)} {cap : Nat} {d : DataW H} (hsz : (DataW.weightsEach Tryz.prog ts ds).all (· ≤ reachBytes) = true) (j : Nat) (ht : ts[j]? = some 104) (hd : ds[j]? = some d)
    (h : (cap = 0) ∨ ∃ elems spare, d = .slice elems spare ∧ elems.length + spare.length = cap) : cap ≤ 140737488351232 := by
  rcases h with rfl | ⟨elems, spare, rfl, h⟩
  · omega
  · have := sized_slice hsz (j := j) (t := 104) (e := 5) ht hd Tryz.underlying104
    rw [bytes5] at this
    simp only [reachBytes] at this
    omega

end Go.Proofs.YtbglhmcahnkbfaaGreat
