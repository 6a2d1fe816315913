/- Texts of this seat, merged. -/
import Derived.Test.YtbglhmcahnkbfaaGreatGMg26
import Derived.Laws.AppendOwnNone
import Derived.Test.YtbglhmcahnkbfaaGreatGMg28

/- 'append(own, b...)' of bytes as it runs (as in FAppR, FAt). -/
namespace Go.Proofs.YtbglhmcahnkbfaaGreat
open Go.RowKit Go.ChangeMaps Go.MapKept
set_option linter.unusedVariables false
set_option maxRecDepth 20000

/-- 'append(own, b...)' of bytes, either of which may be nil, as it runs. -/
theorem run_append_bytes {P : Program} (w : World) (base : Nat) (t ty : TypeId) (i : TypeInfo) (ht : P.underlying t = some (.slice 5)) (hi : P.info? 5 = some i) (hz : i.zero = some (.int .u8 0)) (hsize : i.size = 1) (hby : i.bytes = 1)
    (v : Value) (n : Nat) (xs : List Value) (hown : w.ownsRow base 5 1 v n xs) (a0 : Option Addr) (m c : Nat) (zs : List Int) (hsrc : Src w a0 m zs) (hnil : a0 = none → c = 0) (hb : n + m ≤ 140737488355328) (hbase : base ≤ w.heap.size) :
    ∃ v' w', (Builtin.append_ #[t, t] ty #[v, .slice a0 m c]).run P w = .ok v' w' ∧ w'.ownsRow base 5 1 v' (n + m) (xs ++ zs.map (Value.int .u8)) ∧ w.grownBy w' v.ownBlock := by
  cases a0 with
  | none =>
    obtain rfl := hnil rfl
    obtain rfl : m = 0 := by
      rcases Nat.eq_zero_or_pos m with h | h
      · exact h
      · obtain ⟨_, _, e, _⟩ := hsrc.2 h; cases e
    obtain rfl : zs = [] := List.eq_nil_of_length_eq_zero hsrc.1
    refine ⟨v, w, ?_, by simpa using hown, World.grownBy.refl _ _⟩
    rcases hown.2 with ⟨rfl, rfl⟩ | ⟨g, cap, cur, rfl, hb, hg, hnc, hcm, hcs, htake⟩
    · simp [Builtin.append_, run_underlying ht, Builtin.lenOf, Builtin.firstCells, sizeOf, typeInfo, hi]
    · simp [Builtin.append_, run_underlying ht, Builtin.lenOf, Builtin.firstCells, sizeOf, typeInfo, hi, loadCells, hnc, storeCells]
  | some ad =>
    have hsl := hsrc.1
    obtain ⟨v', w', h1, h2, h3, _⟩ := run_append_own (P := P) w base t ty 5 i (.int .u8 0) 1 1 ht hi hz hsize hby rfl (by decide) v n xs hown ad m c (zs.map (Value.int .u8)) (by simp [hsl]) (fun j u hj => by
      have hjl : j < zs.length := by have := (List.getElem?_eq_some_iff.1 hj).1; simpa using this
      obtain ⟨b, o', e, _, hc⟩ := hsrc.2 (by omega)
      obtain rfl := Option.some.inj e
      rw [Addr.add_lit, hc j (by omega), ← hj]
      simp [List.getD, List.getElem?_eq_getElem hjl]) (fun u hu => by obtain ⟨z, _, rfl⟩ := List.mem_map.1 hu; rfl) (by unfold maxLen; omega) (by omega) hbase
    exact ⟨v', w', h1, h2, h3⟩

end Go.Proofs.YtbglhmcahnkbfaaGreat

/- The document's Read. -/
namespace Go.Proofs.YtbglhmcahnkbfaaGreat
open Go.RowKit
set_option linter.unusedVariables false
set_option maxRecDepth 20000

theorem file_is {F : Fs} (hF : FOk F) {n : Int} (h : F.file n = 0) : ∃ i : Nat, n = (i : Int) ∧ 1 ≤ i ∧ i < 17 ∧ (F.P i).k = 1 := by
  unfold Fs.file at h
  split at h
  · omega
  · rename_i ht
    obtain ⟨i, rfl, h1, h2, h3⟩ := there_is (by simpa using ht)
    split at h
    · omega
    · rename_i hk
      rcases hF.k i with q | q | q
      · exact absurd q h3
      · exact ⟨i, rfl, h1, h2, q⟩
      · exact absurd q hk

theorem own_empty (w : World) (ty : TypeId) : (w.alloc (Obj.cells #[] ty)).ownsRow w.heap.size ty 1 (.slice (some ⟨w.heap.size, 0, none⟩) 0 0) 0 [] :=
  ⟨rfl, .inr ⟨w.heap.size, 0, #[], rfl, Nat.le_refl _, heap_alloc_new _ _, Nat.le_refl _, by unfold maxLen; omega, rfl, rfl⟩⟩

end Go.Proofs.YtbglhmcahnkbfaaGreat
