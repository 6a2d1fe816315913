/- Texts of this seat, merged. -/
import Derived.Test.YtbglhmcahnkbfaaGreatGMg1
import Derived.Lib.AppendZeros
import Derived.Lib.AppendZerosOnto

/- 'append(b, make([]byte, k)...)' to bytes that are owned: noughts behind them. -/
namespace Go.Proofs.YtbglhmcahnkbfaaGreat
open Go.RowKit
set_option linter.unusedVariables false

theorem zeroCells_list (k : Nat) : (Builtin.zeroCells (Value.int .u8 0).cells k).toList = List.replicate k (Value.int .u8 0) := by
  apply List.ext_getElem?
  intro j
  by_cases h : j < k <;> simp [Builtin.zeroCells, Value.cells, h, Nat.mod_one]

theorem run_append_zeros {P : Program} (w : World) (t tn ty : TypeId) (kn : IntKind) (i : TypeInfo) (ht : P.underlying t = some (.slice 5)) (htn : P.underlying tn = some (.int kn)) (hi : P.info? 5 = some i) (hz : i.zero = some (.int .u8 0)) (hs : i.size = 1) (hby : i.bytes = 1)
    (B : Nat) (v : Value) (n : Nat) (xs : List Value) (hown : w.ownsRow B 5 1 v n xs) (hB : B ≤ w.heap.size) (k : Nat) (hnk : n + k ≤ 4096) (K : Int) (hK : K = (k : Int)) :
    ∃ v' w', (Builtin.append_ #[t, tn] ty #[v, .int .i64 K]).run P w = .ok v' w' ∧ w'.ownsRow B 5 1 v' (n + k) (xs ++ List.replicate k (Value.int .u8 0)) ∧ Below B w w' := by
  subst hK
  have hxl := hown.1
  have hw : IntKind.i64.wrap (k : Int) = k := by rw [IntKind.wrap_i64]; omega
  have hneg : ¬ ((k : Int) < 0) := by omega
  have h48 : ¬ (281474976710656 < (k : Int)) := by omega
  rcases hown.2 with ⟨rfl, rfl⟩ | ⟨g, cap, cur, rfl, hbg, hg, hnc, hcm, hcs, htake⟩
  · have hx : xs = [] := List.eq_nil_of_length_eq_zero (by simpa using hxl)
    subst hx
    by_cases hk : k = 0
    · subst hk
      refine ⟨.slice none 0 0, w, ?_, World.ownsRow_nil _ _ _ _, Below.refl _ _⟩
      simp [Builtin.append_, run_underlying ht, run_underlying htn, sizeOf, typeInfo, zeroValue, hi, hz, hby, asInt, asIntOf, IntKind.wrap_i64]
    · have hr := Lib.run_append_nil_zeros w t tn ty 5 i (.int .u8 0) .i64 kn ht htn hi hz k (by omega) (by omega) (by omega) (by rw [hby]; omega)
      have hge := grownCap_ge w k 0 5
      have hgm := grownCap_le_maxLen w k 0 5 (by unfold maxLen; omega)
      refine ⟨_, _, hr, ⟨by simp, .inr ⟨w.heap.size, _, _, by rw [Nat.zero_add], hB, heap_alloc_new w.drew _, by omega, hgm, ?_, ?_⟩⟩, (Below.refl B w).drew.alloc hB _⟩
      · simp [size_zeroCells, Value.cells]; omega
      · rw [Array.toList_append, zeroCells_list, zeroCells_list, Nat.zero_add, Nat.mul_one, List.take_append_of_le_length (by simp), List.take_of_length_le (by simp)]
        rfl
  · by_cases hroom : n + k ≤ cap
    · have hst := run_storeCells_at P g n 5 (List.replicate k (Value.int .u8 0)) 0 cur w hg (by simp; omega) (fun u hu => by rw [List.eq_of_mem_replicate hu]; rfl)
      refine ⟨.slice (some ⟨g, 0, none⟩) (n + k) cap, w.setRow g (cur.toList.take n ++ List.replicate k (Value.int .u8 0) ++ cur.toList.drop (n + k)).toArray, ?_, ⟨by simp [hxl], .inr ⟨g, cap, _, rfl, hbg, setRow_heap w g cur _ 5 _ hg, hroom, hcm, ?_, ?_⟩⟩, ⟨rfl, rfl, rfl, by simp, fun x hx => setRow_other w g x _ (by omega)⟩⟩
      · have hz' : (if k = 0 then (#[] : Array Value) else Builtin.zeroCells (Value.int .u8 0).cells k) = (List.replicate k (Value.int .u8 0)).toArray := by
          by_cases hk : k = 0
          · subst hk; rfl
          · rw [if_neg hk, ← zeroCells_list]
        have hadd : (⟨g, 0, none⟩ : Addr).add n = ⟨g, n, none⟩ := by rw [Addr.add_lit, Nat.zero_add]
        simp only [Nat.add_zero, List.length_replicate] at hst
        by_cases hk : k = 0
        · subst hk
          simp [Builtin.append_, run_underlying ht, run_underlying htn, sizeOf, typeInfo, zeroValue, hi, hz, hby, asInt, asIntOf, IntKind.wrap_i64, hnc, storeCells]
          rw [setRow_self w g cur 5 (0, 0) hg]
        · have hzc : (Builtin.zeroCells (Value.int .u8 0).cells k).toList = List.replicate k (Value.int .u8 0) := zeroCells_list k
          simp [Builtin.append_, run_underlying ht, run_underlying htn, sizeOf, typeInfo, zeroValue, hi, hz, hs, hby, asInt, asIntOf, hw, hneg, h48, hroom, hk, hzc, hadd, hst]
      · simp; omega
      · simp only [Nat.mul_one] at htake ⊢
        rw [List.take_append_of_le_length (by simp; omega), htake, List.take_of_length_le (by simp [hxl])]
    · have hold : (Builtin.firstCells i.size n (.slice (some ⟨g, 0, none⟩) n cap)).run P w.drew = .ok xs.toArray w.drew := by
        rw [hs]
        exact run_firstCells_some w.drew 1 n ⟨g, 0, none⟩ n cap xs (by omega) (fun j u hj => hown.cells (g := g) rfl j u hj)
      have hr := Lib.run_append_grow_zeros w t tn ty 5 i (.int .u8 0) .i64 kn ht htn hi hz (some ⟨g, 0, none⟩) n cap xs hold k (by omega) (by omega) (by omega) (by omega) (by rw [hby]; omega) (by rw [hby]; exact growslice_fits (by omega) (by omega))
      have hge := grownCap_ge w (n + k) cap 5
      have hgm := grownCap_le_maxLen w (n + k) cap 5 (by unfold maxLen; omega)
      refine ⟨_, _, hr, ⟨by simp [hxl], .inr ⟨w.heap.size, _, _, rfl, hB, heap_alloc_new w.drew _, hge, hgm, ?_, ?_⟩⟩, (Below.refl B w).drew.alloc hB _⟩
      · simp [size_zeroCells, Value.cells, hxl]; omega
      · rw [Array.toList_append, Array.toList_append, zeroCells_list, zeroCells_list, Nat.mul_one, List.toList_toArray, List.take_append_of_le_length (by simp [hxl]), List.take_of_length_le (by simp [hxl])]

end Go.Proofs.YtbglhmcahnkbfaaGreat
