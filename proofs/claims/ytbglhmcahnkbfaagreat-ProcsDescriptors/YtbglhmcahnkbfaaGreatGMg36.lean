/- Texts of this seat, merged. -/
import Derived.Test.YtbglhmcahnkbfaaGreatGMg21
import Derived.Test.YtbglhmcahnkbfaaGreatGMg35
import Derived.Test.YtbglhmcahnkbfaaGreatGMg31
import Derived.Sort.Walk0

/- The names of a directory, sorted, as the program tells them. -/
namespace Go.Proofs.YtbglhmcahnkbfaaGreat
open Go.RowKit Go.ChangeMaps Go.MapKept Go.Maps Go.Sort
set_option linter.unusedVariables false
set_option maxRecDepth 20000

theorem kstr : Maps.Keyed Tryz.prog 9 := Maps.string_keyed Tryz.underlying9
section
variable {H : Type} {D : DataW H} {w : World} {b n : Nat} {R : Value → Option (DataW H × List MemPlace)}
theorem strKeys_nodup (h : w.ownsMap Tryz.prog 9 R b n D) : (strKeys D).Nodup := by
  obtain ⟨es, rfl, hk⟩ := h.keysOf
  obtain ⟨es', e, hp⟩ := h.tidy kstr
  injection e with e
  subst e
  show (es.map fun p => strOf p.1).Nodup
  refine List.pairwise_map.2 (hp.imp_of_mem fun {p q} hp' hq' hne e => hne ?_)
  obtain ⟨v, hv⟩ := hk p hp'
  obtain ⟨u, hu⟩ := hk q hq'
  obtain ⟨x, _, hx, _⟩ := Maps.keyOf_str Tryz.underlying9 hv
  obtain ⟨y, _, hy, _⟩ := Maps.keyOf_str Tryz.underlying9 hu
  rw [hx, hy] at e ⊢
  exact congrArg _ e
theorem mem_strKeys (h : w.ownsMap Tryz.prog 9 R b n D) (s : List UInt8) : s ∈ strKeys D ↔ Maps.has D (.string s) = true := by
  obtain ⟨es, rfl, hk⟩ := h.keysOf
  rw [Maps.has_eq, List.any_eq_true]
  show s ∈ es.map (fun p => strOf p.1) ↔ _
  rw [List.mem_map]
  constructor
  · rintro ⟨p, hp, rfl⟩
    obtain ⟨v, hv⟩ := hk p hp
    obtain ⟨x, _, hx, _⟩ := Maps.keyOf_str Tryz.underlying9 hv
    exact ⟨p, hp, by rw [hx]; simp [Lit.sameKey, strOf]⟩
  · rintro ⟨p, hp, hs⟩
    obtain ⟨v, hv⟩ := hk p hp
    obtain ⟨x, _, hx, _⟩ := Maps.keyOf_str Tryz.underlying9 hv
    rw [hx] at hs
    exact ⟨p, hp, by rw [hx]; simpa [Lit.sameKey, strOf] using hs⟩
end

theorem srt_nodup {Q : List (List UInt8 × Nat)} (h : Srt Q) : (Q.map (·.1)).Nodup :=
  List.pairwise_map.2 (h.imp fun {a b} hab e => by rw [e, bless_irr] at hab; simp at hab)
theorem srt_sorted {Q : List (List UInt8 × Nat)} (h : Srt Q) : (Q.map (·.1)).mergeSort leB = Q.map (·.1) := by
  refine List.mergeSort_of_pairwise (List.pairwise_map.2 (h.imp fun {a b} hab => ?_))
  rw [bytesLess_eq] at hab
  have : a.1 < b.1 := by simpa using hab
  simpa [leB] using List.le_of_lt this

set_option maxHeartbeats 1000000 in
theorem names_any (m : Nat) (w : World) (L : Nat) (N : List UInt8 → Nat) (Q : List (List UInt8 × Nat)) (hm : Nms w (some m) L N) (hN : ∀ s, N s = lk Q s) (hL : L = Q.length) (hQ6 : Q.length ≤ 6) (hS : Srt Q) (hv : ∀ x ∈ Q, x.2 ≠ 0) :
    Calls Tryz.prog 128 #[.func (.func 146) #[] #[.pointer (some ⟨w.heap.size, 0, none⟩)]] (w.alloc (.cells #[.map (some m)] 142)) fun e w' => (∃ v, e = .returned v ∧ w'.ownsRow (w.heap.size + 1) 9 1 v Q.length (Q.map nmV)) ∧ Below w.heap.size w w' := by
  obtain ⟨D, h1, h2, h3, h4⟩ := hm
  refine (callsIn_wide.1 (Tryz.slices_Sorted_keys_128_129 m L D _ w h1 (by rw [h2, hL]; unfold maxLen; omega) (by rw [h2, hL]; omega))).mono ?_
  rintro e w' ⟨v, ss, rfl, hp, hr, _, hb⟩
  have hq : ss.Perm (Q.map (·.1)) := hp.trans ((List.perm_ext_iff_of_nodup (strKeys_nodup h1) (srt_nodup hS)).2 fun s => by
    rw [mem_strKeys h1, h4 s, decide_eq_true_iff, hN s, List.mem_map]
    constructor
    · intro h
      exact ⟨_, lk_mem h, rfl⟩
    · rintro ⟨x, hx, rfl⟩
      rw [lk_of hS hx]
      exact hv x hx)
  have hsz : (w.alloc (.cells #[.map (some m)] 142)).heap.size = w.heap.size + 1 := by simp
  have hl : ss.length = Q.length := by rw [hq.length_eq, List.length_map]
  have hms : ss.mergeSort leB = Q.map (·.1) := (mergeSort_of_perm hq).trans (srt_sorted hS)
  have hr' : w'.ownsRow (w.heap.size + 1) 9 1 v Q.length (Q.map nmV) := by
    rw [hsz, hl] at hr
    have e : (ss.mergeSort fun x y => decide (x ≤ y)).map encStr = Q.map nmV := by
      rw [show (ss.mergeSort fun x y => decide (x ≤ y)) = Q.map (·.1) from hms, List.map_map]
      rfl
    rw [e] at hr
    exact hr
  refine ⟨⟨v, rfl, hr'⟩, ?_⟩
  rw [hsz] at hb
  have hb1 : Below w.heap.size w (w.alloc (.cells #[.map (some m)] 142)) := alloc1 _ _
  exact hb1.trans (hb.mono (by omega))

end Go.Proofs.YtbglhmcahnkbfaaGreat
