/- Texts of this seat, merged. -/
import Derived.Test.YtbglhmcahnkbfaaGreatGMg28
import Derived.Deep.RegionLaw
import Derived.Test.YtbglhmcahnkbfaaGreatGMg26
import Derived.Test.YtbglhmcahnkbfaaGreatGMg20

/- What mayRename tells. -/
namespace Go.Proofs.YtbglhmcahnkbfaaGreat
open Go.RowKit Go.ChangeMaps Go.MapKept
set_option linter.unusedVariables false
set_option maxRecDepth 20000

end Go.Proofs.YtbglhmcahnkbfaaGreat

/- What Rename does to any system. -/
namespace Go.Proofs.YtbglhmcahnkbfaaGreat
open Go.RowKit Go.ChangeMaps Go.MapKept
set_option linter.unusedVariables false
set_option maxRecDepth 20000

theorem Wy.of {w : World} {B n c g : Nat} {y : List Nat} (h : w.ownsRow B 3 1 (.slice (some ⟨g, 0, none⟩) n c) n (y.map fun (i : Nat) => Value.int .i64 (i : Int))) (hl : y.length = n) (hp : 0 < n) : Wy w g n c y := by
  obtain ⟨h1, h2⟩ := h
  rcases h2 with ⟨_, h2⟩ | ⟨g', c', cur, e, hb, hg, hnc, hcm, hcs, htake⟩
  · omega
  · injection e with e1 e2 e3
    injection e1 with e1
    injection e1 with e1 _
    subst e1
    subst e3
    refine ⟨fun j hj => ?_, hl, hp, (Array.getElem?_eq_some_iff.1 hg).1, hnc, by simpa [maxLen] using hcm⟩
    have hh : w.ownsRow B 3 1 (.slice (some ⟨g, 0, none⟩) n c) n (y.map fun (i : Nat) => Value.int .i64 (i : Int)) := ⟨h1, .inr ⟨g, c, cur, rfl, hb, hg, hnc, hcm, hcs, htake⟩⟩
    rw [hh.cellAt j (by omega), List.getElem?_map, List.getElem?_eq_getElem (by omega), List.getD_eq_getElem?_getD, List.getElem?_eq_getElem (by omega)]
    rfl

end Go.Proofs.YtbglhmcahnkbfaaGreat

/- What Rename does to any system. -/
namespace Go.Proofs.YtbglhmcahnkbfaaGreat
open Go.RowKit Go.ChangeMaps Go.MapKept
set_option linter.unusedVariables false
set_option maxRecDepth 20000

end Go.Proofs.YtbglhmcahnkbfaaGreat

/- What Rename does to any system. -/
namespace Go.Proofs.YtbglhmcahnkbfaaGreat
open Go.RowKit Go.ChangeMaps Go.MapKept
set_option linter.unusedVariables false
set_option maxRecDepth 20000


end Go.Proofs.YtbglhmcahnkbfaaGreat

/- What Rename does to any system. -/
namespace Go.Proofs.YtbglhmcahnkbfaaGreat
open Go.RowKit Go.ChangeMaps Go.MapKept
set_option linter.unusedVariables false
set_option maxRecDepth 20000


end Go.Proofs.YtbglhmcahnkbfaaGreat

/- What Rename does to any system. -/
namespace Go.Proofs.YtbglhmcahnkbfaaGreat
open Go.RowKit Go.ChangeMaps Go.MapKept
set_option linter.unusedVariables false
set_option maxRecDepth 20000


end Go.Proofs.YtbglhmcahnkbfaaGreat
