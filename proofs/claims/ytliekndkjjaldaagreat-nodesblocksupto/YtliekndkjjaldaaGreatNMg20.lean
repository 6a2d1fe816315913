/- Texts of this seat, merged. -/
import Derived.Test.YtliekndkjjaldaaGreatNMg10
import Derived.Test.YtliekndkjjaldaaGreatNMg11
import Derived.Test.YtliekndkjjaldaaGreatNMg19
import Derived.Sort.Walk0

/- The names of a directory, sorted, as the program tells them. -/
namespace Go.Proofs.YtliekndkjjaldaaGreat
open Go.RowKit Go.ChangeMaps Go.MapKept Go.Maps Go.Sort
set_option linter.unusedVariables false
set_option maxRecDepth 20000

theorem kstr : Maps.Keyed Tryz.prog 9 := Maps.string_keyed Tryz.underlying9
section
variable {H : Type} {D : DataW H} {w : World} {b n : Nat} {R : Value → Option (DataW H × List MemPlace)}
theorem strKeys_nodup (h : w.ownsMap Tryz.prog 9 R b n D) : (strKeys D).Nodup := by
  obtain ⟨es, rfl, hk⟩ := h.keysOf
  obtain ⟨es', e, hp⟩ := h.tidy kstr
  injection e with e
  subst e
  show (es.map fun p => strOf p.1).Nodup
  refine List.pairwise_map.2 (hp.imp_of_mem fun {p q} hp' hq' hne e => hne ?_)
  obtain ⟨v, hv⟩ := hk p hp'
  obtain ⟨u, hu⟩ := hk q hq'
  obtain ⟨x, _, hx, _⟩ := Maps.keyOf_str Tryz.underlying9 hv
  obtain ⟨y, _, hy, _⟩ := Maps.keyOf_str Tryz.underlying9 hu
  rw [hx, hy] at e ⊢
  exact congrArg _ e
theorem mem_strKeys (h : w.ownsMap Tryz.prog 9 R b n D) (s : List UInt8) : s ∈ strKeys D ↔ Maps.has D (.string s) = true := by
  obtain ⟨es, rfl, hk⟩ := h.keysOf
  rw [Maps.has_eq, List.any_eq_true]
  show s ∈ es.map (fun p => strOf p.1) ↔ _
  rw [List.mem_map]
  constructor
  · rintro ⟨p, hp, rfl⟩
    obtain ⟨v, hv⟩ := hk p hp
    obtain ⟨x, _, hx, _⟩ := Maps.keyOf_str Tryz.underlying9 hv
    exact ⟨p, hp, by rw [hx]; simp [Lit.sameKey, strOf]⟩
  · rintro ⟨p, hp, hs⟩
    obtain ⟨v, hv⟩ := hk p hp
    obtain ⟨x, _, hx, _⟩ := Maps.keyOf_str Tryz.underlying9 hv
    rw [hx] at hs
    exact ⟨p, hp, by rw [hx]; simpa [Lit.sameKey, strOf] using hs⟩
end

theorem srt_nodup {Q : List (List UInt8 × Nat)} (h : Srt Q) : (Q.map (·.1)).Nodup :=
  List.pairwise_map.2 (h.imp fun {a b} hab e => by rw [e, bless_irr] at hab; simp at hab)
theorem srt_sorted {Q : List (List UInt8 × Nat)} (h : Srt Q) : (Q.map (·.1)).mergeSort leB = Q.map (·.1) := by
  refine List.mergeSort_of_pairwise (List.pairwise_map.2 (h.imp fun {a b} hab => ?_))
  rw [bytesLess_eq] at hab
  have : a.1 < b.1 := by simpa using hab
  simpa [leB] using List.le_of_lt this

set_option maxHeartbeats 1000000 in
theorem names_any (m : Nat) (w : World) (L : Nat) (N : List UInt8 → Nat) (Q : List (List UInt8 × Nat)) (hm : Nms w (some m) L N) (hN : ∀ s, N s = lk Q s) (hL : L = Q.length) (hQ6 : Q.length ≤ 6) (hS : Srt Q) (hv : ∀ x ∈ Q, x.2 ≠ 0) :
    Calls Tryz.prog 90 #[.func (.func 117) #[] #[.pointer (some ⟨w.heap.size, 0, none⟩)]] (w.alloc (.cells #[.map (some m)] 52)) fun e w' => (∃ v, e = .returned v ∧ w'.ownsRow (w.heap.size + 1) 9 1 v Q.length (Q.map nmV)) ∧ Below w.heap.size w w' := by
  obtain ⟨D, h1, h2, h3, h4⟩ := hm
  refine (callsIn_wide.1 (Tryz.slices_Sorted_keys_90_91 m L D _ w h1 (by rw [h2, hL]; unfold maxLen; omega) (by rw [h2, hL]; omega))).mono ?_
  rintro e w' ⟨v, ss, rfl, hp, hr, _, hb⟩
  have hq : ss.Perm (Q.map (·.1)) := hp.trans ((List.perm_ext_iff_of_nodup (strKeys_nodup h1) (srt_nodup hS)).2 fun s => by
    rw [mem_strKeys h1, h4 s, decide_eq_true_iff, hN s, List.mem_map]
    constructor
    · intro h
      exact ⟨_, lk_mem h, rfl⟩
    · rintro ⟨x, hx, rfl⟩
      rw [lk_of hS hx]
      exact hv x hx)
  have hsz : (w.alloc (.cells #[.map (some m)] 52)).heap.size = w.heap.size + 1 := by simp
  have hl : ss.length = Q.length := by rw [hq.length_eq, List.length_map]
  have hms : ss.mergeSort leB = Q.map (·.1) := (mergeSort_of_perm hq).trans (srt_sorted hS)
  have hr' : w'.ownsRow (w.heap.size + 1) 9 1 v Q.length (Q.map nmV) := by
    rw [hsz, hl] at hr
    have e : (ss.mergeSort fun x y => decide (x ≤ y)).map encStr = Q.map nmV := by
      rw [show (ss.mergeSort fun x y => decide (x ≤ y)) = Q.map (·.1) from hms, List.map_map]
      rfl
    rw [e] at hr
    exact hr
  refine ⟨⟨v, rfl, hr'⟩, ?_⟩
  rw [hsz] at hb
  have hb1 : Below w.heap.size w (w.alloc (.cells #[.map (some m)] 52)) := alloc1 _ _
  exact hb1.trans (hb.mono (by omega))

end Go.Proofs.YtliekndkjjaldaaGreat

/- What the program's New of nodes does, with any defects. (Written by gen_np22.py.) -/
namespace Go.Proofs.YtliekndkjjaldaaGreat
open Go.RowKit Go.ChangeMaps Go.MapKept
set_option linter.unusedVariables false
set_option maxRecDepth 20000

def sysZd (d : Int) : List Value := .int .i64 d :: ((List.replicate 17 (nodeC 0 0 (.map none))).flatten ++ List.replicate 25 (.bool false))
theorem sysZd_len (d : Int) : (sysZd d).length = 1845 := by
  simp [sysZd, nodeC_len]
theorem builtSysd (d : Int) : Tryz.prog.built 58 [(0, .int .i64 d)] = some (sysZd d).toArray := by kernel_rfl
theorem sysZd_up (d : Int) (j : Nat) : (sysZd d)[j + 1]? = sysZ[j + 1]? := by
  unfold sysZd sysZ
  rw [List.getElem?_cons_succ, List.getElem?_cons_succ]
def sysCd (d : Int) (m : Nat) : List Value := splice (sysZd d) 108 (nodeC 2 1 (.map (some m)))

set_option maxHeartbeats 2000000 in
set_option maxRecDepth 20000 in
theorem nnewd (w : World) (d : Int) :
    Calls Tryz.prog 6 #[.int .i64 d] w fun e w' => e = .returned (.pointer (some ⟨w.heap.size, 0, none⟩)) ∧ w'.heap[w.heap.size]? = some (.cells (sysCd d (w.heap.size + 3)).toArray 58 (0, 0)) ∧ w'.heap[w.heap.size + 3]? = some (.map #[] 0) ∧ Below w.heap.size w w' ∧ w'.heap.size = w.heap.size + 4 := by
  obtain ⟨Z, gZ⟩ : ∃ Z, Z = sysZd d := ⟨_, rfl⟩
  obtain ⟨N1, gN1⟩ : ∃ N1, N1 = nodeC 2 1 (.map (some (w.heap.size + 3))) := ⟨_, rfl⟩
  have HB : Hid (Tryz.prog.built 58 [(0, .int .i64 d)] = some Z.toArray) := by rw [gZ]; exact builtSysd d
  have lZ : Hid (Z.length = 1845) := by rw [gZ]; exact sysZd_len d
  have l1 : Hid (N1.length = 107) := by rw [gN1]; exact nodeC_len _ _ _
  have o1 : Hid (N1.toArray.all (·.oneCell') = true) := by rw [gN1]; exact nodeC_one _ _ _
  have S1 : Hid ((Tryz.prog.info? 54).map (·.size) = some N1.toArray.size) := by rw [csizeNode, List.size_toArray, l1.out]; exact hid rfl
  have hb1 : Below w.heap.size w (w.alloc (.cells Z.toArray 58)) := (Below.refl _ _).alloc (Nat.le_refl _) _
  have hs1 : (w.alloc (.cells Z.toArray 58)).heap.size = w.heap.size + 1 := by simp
  have hh1 : (w.alloc (.cells Z.toArray 58)).heap[w.heap.size]? = some (.cells Z.toArray 58 (0, 0)) := heap_alloc_new w _
  have k1 := newnode (w.alloc (.cells Z.toArray 58)).drew
  have kn : Hid (Calls Tryz.prog 17 #[.int .i64 2] (w.alloc (.cells Z.toArray 58)).drew fun e w' => e = .returned (.agg N1.toArray) ∧ Hid (w'.heap[w.heap.size]? = some (.cells Z.toArray 58 (0, 0))) ∧ Hid (Below w.heap.size w w') ∧ Hid (w'.heap.size = w.heap.size + 4) ∧ Hid (w'.heap[w.heap.size + 3]? = some (.map #[] 0))) := by
    refine hid (k1.mono ?_)
    rintro e w' ⟨rfl, h2, h3, h4⟩
    have hs2 : (w.alloc (.cells Z.toArray 58)).drew.heap.size = w.heap.size + 1 := by simp
    rw [hs2] at h2 h3 h4
    refine ⟨by rw [gN1, hs2], hid ((h2.block _ (by omega)).trans hh1), hid ?_, hid h3, hid h4⟩
    exact (hb1.drew).trans (h2.mono (by omega))
  have GZ := hid gZ
  have GN := hid gN1
  clear gZ gN1 k1 hb1 hh1
  go_enter Tryz.func6, Tryz.ntmps6
  go_wp2_with (refine wpList_build_is rfl 58 #[(0, .tmp 4)] rfl Z.toArray (by simpa [Act.eval] using HB.out) ?_)
  go_region_held3 (fun _ => True) (trivial) ((go_at_call 17; refine kn.out.mono ?_; rintro e w2 ⟨rfl, h2, h3, h4, h5⟩; have hst := run_cells_mid (P := Tryz.prog) w2 w.heap.size 108 N1 (there_of_block h2.out 108 _ (by rw [lZ.out, l1.out]; omega)) o1.out))
  go_wp2_with fail
  go_ret
  have u5 := upd_setCells w.heap.size N1 108 w2
  have h6 := heap_setCells w.heap.size 58 N1 108 w2 Z h2.out (by rw [lZ.out, l1.out]; omega)
  refine ⟨rfl, ?_, (u5.block _ (by have := h4.out; omega) (by omega)).trans h5.out, h3.out.trans (u5.below (by have := h4.out; omega) (fun x hx => by omega)), by rw [size_setCells]; exact h4.out⟩
  rw [sysCd, ← GZ.out, ← GN.out]
  exact h6


theorem Sy.freshd {w : World} {p m : Nat} {d : Int} (hb : w.heap[p]? = some (.cells (sysCd d m).toArray 58 (0, 0))) (hm : w.heap[m]? = some (.map #[] 0)) : Sy w p { rootG m with d := d } := by
  have hne : m ≠ p := by
    intro e; subst e; rw [hb] at hm; simp at hm
  have lz : 108 + (nodeC 2 1 (.map (some m))).length ≤ (sysZd d).length := by rw [sysZd_len, nodeC_len]; omega
  refine ⟨⟨_, hb, ⟨by unfold sysCd; rw [length_splice _ _ _ lz, sysZd_len], ?_, ?_, ?_, ?_⟩⟩, ?_, ?_, ?_, ?_, ?_, ?_, rfl, rfl⟩
  · unfold sysCd; rw [getElem?_splice_out _ _ _ _ lz (by omega)]; rfl
  · intro i hi j hj
    unfold sysCd
    by_cases e : i = 1
    · subst e
      rw [show 1 + 1 * 107 + j = 108 + j by omega, getElem?_splice_in _ _ _ _ lz (by rw [nodeC_len]; exact hj)]
      simp [rootG, ndC_new]
    · rw [getElem?_splice_out _ _ _ _ lz (by rw [nodeC_len]; omega), show 1 + i * 107 + j = (i * 107 + j) + 1 by omega, sysZd_up, show (i * 107 + j) + 1 = 1 + i * 107 + j by omega, sysZ_nd i hi j hj]
      simp [rootG, e, ndC_no]
  · intro b hb
    unfold sysCd
    rw [getElem?_splice_out _ _ _ _ lz (by rw [nodeC_len]; omega), show 1820 + b = (1819 + b) + 1 by omega, sysZd_up, show (1819 + b) + 1 = 1820 + b by omega, sysZ_mk b hb]
    rfl
  · intro i hi
    by_cases e : i = 1
    · simp [rootG, e, newNd_ok]
    · simp [rootG, e, noNd_ok]
  · intro i hi
    by_cases e : i = 1
    · subst e; exact nms_empty hm
    · simp only [rootG, if_neg e]; exact ⟨rfl, fun _ => rfl⟩
  · intro i s hi; simp [rootG]
  · intro i hi; simp [rootG]
  · intro i j b hi hj h1 h2
    by_cases e : i = 1 <;> by_cases e' : j = 1
    · omega
    · simp [rootG, e', noNd] at h2
    · simp [rootG, e, noNd] at h1
    · simp [rootG, e, noNd] at h1
  · intro i hi
    by_cases e : i = 1
    · simp [rootG, e, newNd]; exact hne
    · simp [rootG, e, noNd]
  · intro i hi h
    by_cases e : i = 1
    · simp [rootG, e, newNd]
    · simp [rootG, e, noNd] at h
theorem npnew_any (w : World) (d : Int) : Calls Tryz.prog 6 #[.int .i64 d] w fun e w' => ∃ p, e = .returned (.pointer (some ⟨p, 0, none⟩)) ∧ Pf w' p (rootF d) (fun x => w.heap.size ≤ x) ∧ Below w.heap.size w w' := by
  refine (nnewd w d).mono ?_
  rintro e w' ⟨rfl, h1, h2, h3, h4⟩
  refine ⟨_, rfl, ⟨_, Sy.freshd h1 h2, Rel.root _ d, fun x hx => ?_⟩, h3⟩
  rcases hx with rfl | ⟨i, hi, e⟩
  · exact Nat.le_refl _
  · have e' : (if i = 1 then newNd 2 (some (w.heap.size + 3)) else noNd).m = some x := e
    split at e'
    · simp only [newNd, Option.some.injEq] at e'
      omega
    · simp [noNd] at e'

end Go.Proofs.YtliekndkjjaldaaGreat
