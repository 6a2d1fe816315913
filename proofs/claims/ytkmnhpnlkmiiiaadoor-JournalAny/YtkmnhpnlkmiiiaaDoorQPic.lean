/- Images: rows of sectors, as they lie; and what disk.Image, dredgerplain.Image and SameImage do with them. -/
import Derived.Test.YtkmnhpnlkmiiiaaDoorDSec
import Derived.Test.YtkmnhpnlkmiiiaaDoorEqual
import Derived.Test.YtkmnhpnlkmiiiaaDoorClone
namespace Go.Proofs.YtkmnhpnlkmiiiaaDoor
open Go.RowKit
set_option linter.unusedVariables false

/-- Bytes of a sector, in a block that is none of M. -/
def Byt (w : World) (M : List Nat) (u : Value) (bs : List Int) : Prop := ∃ a c, u = .slice (some a) 128 c ∧ Src w (some a) 128 bs ∧ a.block ∉ M ∧ 128 ≤ c ∧ c ≤ 9223372036854775807

/-- A row of sectors. -/
def Pic (w : World) (M : List Nat) (v : Value) (n : Nat) (f : Nat → List Int) : Prop := ∃ vs, w.ownsRow 0 34 1 v n vs ∧ ∀ j, j < n → ∃ u, vs[j]? = some u ∧ Byt w M u (f j)

def Grew' (w : World) (F F' : List Nat) : Prop := ∀ x ∈ F', x ∈ F ∨ w.heap.size ≤ x

theorem src_lt {w : World} {a : Addr} {n : Nat} {zs : List Int} (h : Src w (some a) n zs) (hn : 0 < n) : a.block < w.heap.size := by
  obtain ⟨b, o, e0, hlt, _⟩ := h.2 hn
  rw [Option.some.inj e0]; exact hlt

theorem own_cap {w : World} {B e size n c : Nat} {a : Option Addr} {xs : List Value} (h : w.ownsRow B e size (.slice a n c) n xs) : n ≤ c ∧ c ≤ 9223372036854775807 := by
  obtain ⟨ae, c', e, h1, h2⟩ := own_shape h
  injection e with _ _ e3
  subst e3
  exact ⟨h1, h2⟩

theorem Byt.weaken {w : World} {M M' : List Nat} {u : Value} {bs : List Int} (h : Byt w M u bs) (hs : ∀ x ∈ M', x ∈ M) : Byt w M' u bs := by
  obtain ⟨a, c, h1, h2, h3, h4⟩ := h
  exact ⟨a, c, h1, h2, fun hx => h3 (hs _ hx), h4⟩

theorem Byt.upd {w w' : World} {M M' : List Nat} {u : Value} {bs : List Int} (h : Byt w M u bs) (hu : Upd (· ∈ M) w w') (hg : Grew' w M M') : Byt w' M' u bs := by
  obtain ⟨a, c, rfl, hs, hm, hc⟩ := h
  refine ⟨a, c, rfl, hu.src hs (fun b o e => ?_), fun hx => ?_, hc⟩
  · have := Option.some.inj e
    subst this
    exact hm
  · rcases hg _ hx with h | h
    · exact hm h
    · have := src_lt hs (by omega); omega

theorem Pic.weaken {w : World} {M M' : List Nat} {v : Value} {n : Nat} {f : Nat → List Int} (h : Pic w M v n f) (hs : ∀ x ∈ M', x ∈ M) : Pic w M' v n f := by
  obtain ⟨vs, hr, hj⟩ := h
  refine ⟨vs, hr, fun j hl => ?_⟩
  obtain ⟨u, h1, h2⟩ := hj j hl
  exact ⟨u, h1, h2.weaken hs⟩

theorem Pic.upd {w w' : World} {M M' : List Nat} {v : Value} {n : Nat} {f : Nat → List Int} (h : Pic w M v n f) (hu : Upd (· ∈ M) w w') (hg : Grew' w M M') (hv : ∀ k, v.ownBlock = some k → k ∉ M) : Pic w' M' v n f := by
  obtain ⟨vs, hr, hj⟩ := h
  refine ⟨vs, hu.own hr hv, fun j hl => ?_⟩
  obtain ⟨u, h1, h2⟩ := hj j hl
  exact ⟨u, h1, h2.upd hu hg⟩

theorem Tryd.infoTB : (Tryd.prog.info? 34).map (fun i => (i.zero, i.size, i.bytes)) = some (some (.slice none 0 0), 1, 24) := by kernel_rfl

/-- What a sector of a row of bytes is. -/
theorem src_sec {w : World} {g len c n i : Nat} {zs : List Int} (h : w.ownsRow 0 5 1 (.slice (some ⟨g, 0, none⟩) len c) len (zs.map (Value.int .u8))) (hl : len = n * 128) (hi : i < n) : Src w (some ⟨g, i * 128, none⟩) 128 (sec zs i) := by
  have hz : zs.length = len := by have := h.1; simpa using this
  have hin : (i + 1) * 128 ≤ n * 128 := Nat.mul_le_mul_right _ hi
  refine ⟨length_sec zs n i (by omega) hi, fun _ => ⟨g, i * 128, rfl, (h.lt g rfl).2, fun j hj => ?_⟩⟩
  rw [h.cellAt _ (by omega)]
  have := getElem?_sec zs i j hj
  rw [List.getElem?_map, ← this]
  simp [List.getD, List.getElem?_eq_getElem (show j < (sec zs i).length by rw [length_sec zs n i (by omega) hi]; exact hj)]

def vsAt (gb i n : Nat) : List Value := (List.range n).map fun j => if j < i then .slice (some ⟨gb, j * 128, none⟩) 128 128 else .slice none 0 0

theorem vsAt_zero (gb n : Nat) : vsAt gb 0 n = List.replicate n (.slice none 0 0) := by
  apply List.ext_getElem?
  intro j
  simp only [vsAt, List.getElem?_map, List.getElem?_replicate]
  by_cases h : j < n <;> simp [h]

theorem vsAt_set (gb i n : Nat) (h : i < n) : (vsAt gb i n).set i (.slice (some ⟨gb, i * 128, none⟩) 128 128) = vsAt gb (i + 1) n := by
  apply List.ext_getElem?
  intro j
  simp only [vsAt, List.getElem?_set, List.length_map, List.length_range, List.getElem?_map]
  by_cases hj : i = j
  · subst hj; simp [h]
  · rw [if_neg hj]
    by_cases hn : j < n
    · simp [hn]
      by_cases h1 : j < i
      · rw [if_pos h1, if_pos (by omega)]
      · rw [if_neg h1, if_neg (by omega)]
    · simp [hn]

end Go.Proofs.YtkmnhpnlkmiiiaaDoor
