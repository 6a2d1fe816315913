/- Texts of this seat, merged. -/
import Derived.Test.YtbglhmcahnkbfaaGreatHMg28
import Derived.Test.YtbglhmcahnkbfaaGreatHMg29
import Derived.Test.YtbglhmcahnkbfaaGreatHMg30
import Derived.Laws.AppendOwnNone
import Derived.BigQuiet

/- append of bytes, and of noughts, as steps of a region that draws its order; copy into an owned row; other bytes of a file of the document's. -/
namespace Go.Proofs.YtbglhmcahnkbfaaGreat
open Go.RowKit
set_option linter.unusedVariables false
set_option maxRecDepth 20000

end Go.Proofs.YtbglhmcahnkbfaaGreat

/- append of numbers that lie somewhere onto an empty slice, as a step of a region that draws its order. -/
namespace Go.Proofs.YtbglhmcahnkbfaaGreat
open Go.RowKit
set_option linter.unusedVariables false
set_option maxRecDepth 20000

end Go.Proofs.YtbglhmcahnkbfaaGreat

/- What a look of a file system tells, as it lies; a node of it under way. -/
namespace Go.Proofs.YtbglhmcahnkbfaaGreat
open Go.RowKit
set_option linter.unusedVariables false
set_option maxRecDepth 20000

section
variable {w W w' : World} {B p i a b : Nat} {y : Fn} {vB vN vM v' : Value}
end

end Go.Proofs.YtbglhmcahnkbfaaGreat

/- The document's Write. -/
namespace Go.Proofs.YtbglhmcahnkbfaaGreat
open Go.RowKit
set_option linter.unusedVariables false
set_option maxRecDepth 20000

end Go.Proofs.YtbglhmcahnkbfaaGreat

/- Two looks of the same file system compare as such. -/
namespace Go.Proofs.YtbglhmcahnkbfaaGreat
open Go.RowKit
set_option linter.unusedVariables false
set_option maxRecDepth 20000

/-- So many values that are read. -/
def Rdv (w : World) (a : Option Addr) (n : Nat) (xs : List Value) : Prop := xs.length = n ∧ (0 < n → ∃ q o, a = some ⟨q, o, none⟩ ∧ q < w.heap.size ∧ ∀ j, ∀ h : j < xs.length, w.cell? ⟨q, o + j, none⟩ = some xs[j])
theorem Rdv.below {w w' : World} {a : Option Addr} {n : Nat} {xs : List Value} (h : Rdv w a n xs) (hb : Below w.heap.size w w') : Rdv w' a n xs :=
  ⟨h.1, fun hn => by
    obtain ⟨q, o, e, hq, hc⟩ := h.2 hn
    exact ⟨q, o, e, Nat.lt_of_lt_of_le hq hb.size, fun j hj => (hb.cell (p := ⟨q, o + j, none⟩) hq).trans (hc j hj)⟩⟩
theorem Rdv.of {w : World} {B e n c : Nat} {a : Option Addr} {xs : List Value} (h : w.ownsRow B e 1 (.slice a n c) n xs) : Rdv w a n xs := by
  refine ⟨by have := h.1; omega, fun hn => ?_⟩
  obtain ⟨a', c', e', _, _, hc⟩ := own_shp h
  injection e' with e1 _ _
  subst e1
  obtain ⟨q, rfl, _, hq, hcc⟩ := hc hn
  exact ⟨q, 0, rfl, hq, fun j hj => by rw [Nat.zero_add]; exact hcc j _ (List.getElem?_eq_getElem hj)⟩

set_option maxHeartbeats 1000000 in
theorem ieq_yes (a b : Option Addr) (n ca cb : Nat) (hn : n ≤ 1000000) (zs : List Int) (w : World) (ha : Rdv w a n (zs.map (Value.int .i64))) (hb : Rdv w b n (zs.map (Value.int .i64))) :
    Calls Tryz.prog 13 #[.slice a n ca, .slice b n cb] w fun e w' => e = .returned (.bool true) ∧ Below w.heap.size w w' := by
  have HA := hid ha
  have HB := hid hb
  clear ha hb
  go_enter Tryz.func13, Tryz.ntmps13
  go_wp2_with fail
  go_loopw [13] (fun v13 wr => ∃ j : Nat, j ≤ n ∧ v13 = .int .i64 (j : Int) ∧ Hid (Below w.heap.size w wr)) (fun v13 _ => n - (intOf v13).toNat)
  case atStart => exact ⟨0, Nat.zero_le _, rfl, hid (Below.refl _ _)⟩
  case round =>
    obtain ⟨j, hj, rfl, HW⟩ := hrel
    by_cases hlt : j < n
    · have hj2 : (j : Int) < (n : Int) := by omega
      have hj0 : (0 : Int) ≤ (j : Int) := by omega
      have hj3 : j + 1 ≤ n := hlt
      have hA := HA.out.below HW.out
      have hB := HB.out.below HW.out
      obtain ⟨q, o, rfl, hq, hcq⟩ := hA.2 (by omega)
      obtain ⟨r, t, rfl, hr, hcr⟩ := hB.2 (by omega)
      have hz : j < (zs.map (Value.int .i64)).length := by rw [hA.1]; exact hlt
      have d1 := hcq j hz
      have d2 := hcr j hz
      rw [List.getElem_map] at d1 d2
      generalize zs[j]'(by rw [List.length_map] at hz; exact hz) = z at d1 d2
      clear hA hB hcq hcr hz hlt
      go_wp2_with fail
      go_quiet (fail)
      go_wp2_with fail
      go_roundw
      case rel => exact ⟨j + 1, hj3, by go_num, hid (below_drewN HW.out _)⟩
      case measure => simp [intOf]; omega
    · have hj2 : ¬ (j : Int) < (n : Int) := by omega
      go_wp2_with fail
      go_ret
      exact ⟨rfl, HW.out⟩

end Go.Proofs.YtbglhmcahnkbfaaGreat
