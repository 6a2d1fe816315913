/- Texts of this seat, merged. -/
import Derived.Test.YtbglhmcahnkbfaaGreatHMg15
import Derived.Test.YtbglhmcahnkbfaaGreatHMg16
import Derived.Test.YtbglhmcahnkbfaaGreatHMg17
import Derived.BigQuiet

/- What a walk along a path comes to. -/
namespace Go.Proofs.YtbglhmcahnkbfaaGreat
open Go.RowKit Go.ChangeMaps Go.MapKept
set_option linter.unusedVariables false
set_option maxRecDepth 20000

/-- A place as it is told: the way's numbers in a row of the call's own, the name, the node. -/
def Plc (w : World) (B : Nat) (v : Value) (y : List Nat) (s : List UInt8) (n : Nat) : Prop :=
  ∃ yv nm, v = .agg #[yv, .string nm, .int .i64 (n : Int)] ∧ bl nm = s ∧ w.ownsRow B 3 1 yv y.length (y.map fun (i : Nat) => Value.int .i64 (i : Int))

/-- What a walk answers. -/
def Walked (w : World) (B : Nat) (r : Except Int (List Nat × List UInt8 × Nat)) (v : Value) : Prop :=
  match r with
  | .error e => v = .tuple #[.agg #[.slice none 0 0, .string ⟨#[]⟩, .int .i64 0], .int .i64 e]
  | .ok (y, s, n) => ∃ u, v = .tuple #[u, .int .i64 0] ∧ Plc w B u y s n

/-- A map's answer at a name. -/
theorem Nms.look {w : World} {m : Option Nat} {L : Nat} {N : List UInt8 → Nat} (h : Nms w m L N) (s : ByteArray) (hs : s.size ≤ 9223372036854775807) (W : World) (hW : ∀ b, m = some b → W.heap[b]? = w.heap[b]?) :
    (Instr.lookup 142 (.map m) (.string s) false).run Tryz.prog W = .ok (.int .i64 (N (bl s) : Int)) W := by
  have h' := h.block hW
  have hkey : keyOf Tryz.prog 9 (.string s) = some (.string s.data.toList) := Go.WideMaps.keyOf_string_mk Tryz.underlying9 (by simpa [maxLen] using hs)
  have hz := Tryz.zeroValue3 W
  cases m with
  | none =>
    obtain ⟨_, h0⟩ := h'
    have := Go.Maps.look_nil (t := 142) (w := W) false (Go.Maps.string_keyed Tryz.underlying9) Tryz.underlying142 hz hkey
    rw [h0]
    simpa using this
  | some b =>
    obtain ⟨D, h1, h2, h3, h4⟩ := h'
    obtain ⟨c, hr, hc, _⟩ := h1.lookup_int (t := 142) (Go.Maps.string_keyed Tryz.underlying9) Tryz.underlying142 Tryz.underlying3 hz hkey
    have e := (h3 (bl s)).symm.trans hc
    simp only [DataW.lit.injEq, Lit.int.injEq, true_and] at e
    rw [hr, e]

theorem hasp_slash (s : ByteArray) (w : World) : Calls Tryz.prog 147 #[.string s, .string ⟨#[47]⟩] w fun e w' => e = .returned (.bool (decide ((bl s).head? = some 47))) ∧ w' = w := by
  refine (Tryz.strings_HasPrefix s ⟨#[47]⟩ w).mono ?_
  rintro e w' ⟨rfl, rfl⟩
  refine ⟨?_, rfl⟩
  congr 2
  show Lib.hasPrefix (bl s) [47] = _
  cases bl s with
  | nil => simp [Lib.hasPrefix]
  | cons c r =>
    have e : (47 == c) = decide (c = 47) := by
      by_cases h : c = 47
      · subst h; rfl
      · have h2 : ¬ 47 = c := fun q => h q.symm
        simp [h, h2]
    simp [Lib.hasPrefix, List.isPrefixOf, e]

end Go.Proofs.YtbglhmcahnkbfaaGreat
