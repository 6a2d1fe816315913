/- Texts of this seat, merged. -/
import Derived.Test.YtliekndkjjaldaaGreatNMg38
import Derived.Test.YtliekndkjjaldaaGreatNMg1
import Derived.Lib.SlicesCompact
import Derived.Lib.RowBridge
import Derived.Shelf.Sort.Plain
import Derived.Shelf.Slices.Equal
import Derived.Ground.Names2Prog
import Derived.Shelf.Slices.Clone
import Derived.Shelf.Slices.CompactI
import Derived.Shelf.Slices.In.SortNone
import Derived.Shelf.Slices.Empties2
import Derived.Test.YtliekndkjjaldaaGreatChecked

/- The road of NodesLinks. -/
namespace Go.Proofs.YtliekndkjjaldaaGreat
open Go.RowKit Go.ChangeMaps Go.MapKept
set_option linter.unusedVariables false
set_option maxRecDepth 20000

/-- What the names of a node name. -/
def tq (y : Fn) : List Int := y.Q.map fun x => (x.2 : Int)
def tgt (F : Fs) (is : List Nat) : List Int := is.flatMap fun i => tq (F.P i)
/-- How often a number stands in a list. -/
def cn (L : List Int) : Int → Nat := fun k => L.count k
theorem cn_snoc (L : List Int) (x : Int) : cn (L ++ [x]) = inc (cn L) x := by
  funext k
  by_cases h : k = x
  · subst h; simp [cn, inc]
  · simp [cn, inc, h, List.count_append, Ne.symm h]
theorem cn_app (L M : List Int) (k : Int) : cn (L ++ M) k = cn L k + cn M k := List.count_append
theorem take_snoc {α : Type} (l : List α) (i : Nat) (h : i < l.length) : l.take (i + 1) = l.take i ++ [l[i]] := by
  rw [List.take_add_one]
  simp [h]
theorem cn_tq (y : Fn) (i : Nat) : cn (tq y) (i : Int) = cq y.Q i := by
  unfold tq
  induction y.Q with
  | nil => rfl
  | cons x r ih =>
    have e : cn (List.map (fun x => (x.2 : Int)) (x :: r)) (i : Int) = cn (List.map (fun x => (x.2 : Int)) r) (i : Int) + (if x.2 = i then 1 else 0) := by
      unfold cn
      rw [List.map_cons, List.count_cons]
      by_cases q : x.2 = i
      · subst q; simp
      · have : ¬ (x.2 : Int) = (i : Int) := by omega
        simp [q, this]
    rw [e, ih]
    by_cases q : x.2 = i <;> simp [cq, q]
theorem cn_tgt {F : Fs} (H : FOk F) (i : Nat) : ∀ m, cn (tgt F (thr F m)) (i : Int) = nmc F.P i m
  | 0 => rfl
  | m + 1 => by
    unfold nmc
    by_cases h : (F.P m).k = 0
    · rw [thr_no h, cn_tgt H i m, H.none m h]
      rfl
    · rw [thr_yes h]
      unfold tgt
      rw [List.flatMap_append, cn_app]
      have := cn_tgt H i m
      unfold tgt at this
      rw [this]
      congr 1
      simp only [List.flatMap_cons, List.flatMap_nil, List.append_nil]
      exact cn_tq _ _
theorem mem_thr {F : Fs} {m i : Nat} : i ∈ thr F m ↔ i < m ∧ (F.P i).k ≠ 0 := by
  unfold thr
  rw [List.mem_filter, List.mem_range]
  simp
theorem mem_tgt {F : Fs} (H : FOk F) {x : Int} (h : x ∈ tgt F (thr F 17)) : ∃ i : Nat, x = (i : Int) ∧ 1 < i ∧ i ∈ thr F 17 := by
  obtain ⟨j, hj, hx⟩ := List.mem_flatMap.1 h
  obtain ⟨y, hy, rfl⟩ := List.mem_map.1 hx
  obtain ⟨h1, h2, h3, _⟩ := H.nm j y hy
  exact ⟨y.2, rfl, h1, mem_thr.2 ⟨h2, h3⟩⟩

/-- What a node tells of its links. -/
theorem links_ok {F : Fs} (H : FOk F) (S : FSh F) {i : Nat} (hi : i ∈ thr F 17) : (i = 1 → (F.P i).l = 1) ∧ (i ≠ 1 → (F.P i).l = (cn (tgt F (thr F 17)) (i : Int) : Int)) ∧ ((F.P i).l = 0 → (F.P i).h ≠ 0) := by
  refine ⟨?_, fun h => ?_, fun h => ?_⟩
  · rintro rfl
    exact (H.dir 1 H.root).2.2
  · rw [cn_tgt H i 17]
    exact S.l i h
  · have := H.lh i (mem_thr.1 hi).2
    omega

theorem tgt_len {F : Fs} (H : FOk F) : ∀ is : List Nat, (tgt F is).length ≤ 6 * is.length
  | [] => Nat.le_refl _
  | i :: r => by
    have h1 := H.len i
    have h2 := tgt_len H r
    unfold tgt at h2 ⊢
    rw [List.flatMap_cons, List.length_append, List.length_cons]
    have : (tq (F.P i)).length = (F.P i).Q.length := by unfold tq; rw [List.length_map]
    omega
theorem W64.nat {i : Nat} (h : i < 1000000) : W64 (i : Int) := ⟨by omega, by omega⟩

set_option maxHeartbeats 8000000 in
theorem links_road (al : Option Addr) (ll cl : Nat) (w : World) (hd : DosS w al ll) (hll : ll ≤ cl) (hcl : cl ≤ 9223372036854775807) :
    Calls Tryz.prog 4 #[.slice al ll cl] w fun e w' => e = .returned (.bool true) ∧ Below w.heap.size w w' := by
  have kP := hid (played_any al ll cl w hd hll hcl)
  clear hd
  go_enter Tryz.func4, Tryz.ntmps4
  go_wp2_with fail
  refine kP.out.mono ?_
  rintro e w1 ⟨⟨p, G, F, rfl, h1, h2, h3, h4⟩, hb1⟩
  have HF := hid h2
  have HS := hid h3
  have kL := hid (look_read p F G w1 h1 h2)
  have HB1 := hid hb1
  clear h1 h2 h3 h4 hb1 kP
  go_wp2_with fail
  refine kL.out.mono ?_
  rintro e w2 ⟨⟨a, c, rfl, hN⟩, hb2⟩
  obtain ⟨n, gn⟩ : ∃ n, n = (thr F 17).length := ⟨_, rfl⟩
  have hn17 : n ≤ 17 := by rw [gn]; exact thr_len F 17
  have HN := hid hN
  have HB2 : Hid (Below w.heap.size w w2) := hid (HB1.out.trans (hb2.mono HB1.out.size))
  rw [← gn]
  have GN := hid gn
  clear hN hb2 kL gn HB1
  have hmm := @run_makeMap Tryz.prog
  go_wp2_with fail
  clear hmm
  have HI : Hid (Oc ((w2.alloc (.map #[] 0)).alloc (.map #[] 0)) w2.heap.size 0 0 (fun _ => 0) ∧ Ob ((w2.alloc (.map #[] 0)).alloc (.map #[] 0)) (w2.heap.size + 1) 0 [] ∧ Below w2.heap.size w2 ((w2.alloc (.map #[] 0)).alloc (.map #[] 0))) := by
    have e1 := (Oc.none w2).upd (Upd.alloc (F := fun _ => False) (w2.alloc (.map #[] 0)) (.map #[] 0)) (fun h => h)
    have e2 := Ob.none (w2.alloc (.map #[] 0))
    rw [show (w2.alloc (.map #[] 0)).heap.size = w2.heap.size + 1 by simp] at e2
    exact hid ⟨e1, e2, ((Below.refl _ _).alloc (Nat.le_refl _) _).trans ((Below.refl _ _).alloc (by simp) _)⟩
  generalize (w2.alloc (.map #[] 0)).alloc (.map #[] 0) = w3 at HI ⊢
  go_loopw [21] (fun v21 wr => ∃ t : Nat, t ≤ n ∧ v21 = .int .i64 (t : Int) ∧ Hid (∃ N, Oc wr w2.heap.size (6 * t) N (cn (tgt F ((thr F 17).take t)))) ∧ Hid (Ob wr (w2.heap.size + 1) t (((thr F 17).take t).map fun i : Nat => (i : Int))) ∧ Hid (Below w2.heap.size w2 wr)) (fun v21 _ => n - (intOf v21).toNat)
  case atStart => exact ⟨0, by omega, rfl, hid ⟨0, HI.out.1⟩, hid HI.out.2.1, hid HI.out.2.2⟩
  case round =>
    clear HI
    obtain ⟨t, htn, rfl, HC, HT, HW⟩ := hrel
    rename World => wr
    by_cases hlt : t < n
    · have htl : t < (thr F 17).length := by rw [← GN.out]; exact hlt
      obtain ⟨q, o, rfl, hq, hh⟩ := HN.out (by omega)
      obtain ⟨ba, bc, na, nc, ma, mc, D0⟩ := hh t htl
      have hmem : (thr F 17)[t] ∈ thr F 17 := List.getElem_mem htl
      have HTK : Hid ((thr F 17).take (t + 1) = (thr F 17).take t ++ [(thr F 17)[t]]) := hid (take_snoc _ _ htl)
      generalize (thr F 17)[t] = i at D0 hmem HTK
      have hi17 := (mem_thr.1 hmem).1
      obtain ⟨y, gy⟩ : ∃ y, y = F.P i := ⟨_, rfl⟩
      have hq6 : y.Q.length ≤ 6 := by rw [gy]; exact HF.out.len i
      have HNM : Hid (∀ x ∈ y.Q, x.2 < 17) := by rw [gy]; exact hid (fun x hx => (HF.out.nm i x hx).2.1)
      have HTG : Hid (tgt F ((thr F 17).take (t + 1)) = tgt F ((thr F 17).take t) ++ tq y) := by
        rw [HTK.out, gy]
        exact hid (by unfold tgt; rw [List.flatMap_append]; simp)
      have HTL : Hid ((tgt F ((thr F 17).take t)).length ≤ 6 * t) := hid (by have := tgt_len HF.out ((thr F 17).take t); rw [List.length_take] at this; omega)
      rw [← gy] at D0
      have HRM := hid D0.rM
      have D := D0.below HW.out hq
      have c0 := D.c0
      have c1 := D.c1
      have c2 := D.c2
      have c3 := D.c3
      have c4 := D.c4
      have c5 := D.c5
      have c6 := D.c6
      have c7 := D.c7
      clear gy hmem D D0 hh
      obtain ⟨lq, glq⟩ : ∃ lq, lq = y.Q.length := ⟨_, rfl⟩
      have GLQ := hid glq
      rw [← glq] at c6 c7 HRM hq6
      obtain ⟨sz, gsz⟩ : ∃ sz, sz = (y.c.length : Int) + (y.Q.length : Int) := ⟨_, rfl⟩
      rw [← gsz] at c3
      clear gsz glq
      generalize y.k = yk at c1
      generalize y.l = yl at c2
      generalize y.h = yh at c4
      generalize y.B.length = lb at c5
      have hX : Upd (fun _ => False) wr (wr.alloc (.cells #[.int .i64 (i : Int), .int .i64 yk, .int .i64 yl, .int .i64 sz, .int .i64 yh, .slice ba lb bc, .slice na lq nc, .slice ma lq mc] 44)) := Upd.alloc _ _ _
      have hrow := heap_alloc_new wr (.cells #[.int .i64 (i : Int), .int .i64 yk, .int .i64 yl, .int .i64 sz, .int .i64 yh, .slice ba lb bc, .slice na lq nc, .slice ma lq mc] 44)
      have hbX : Below wr.heap.size wr (wr.alloc (.cells #[.int .i64 (i : Int), .int .i64 yk, .int .i64 yl, .int .i64 sz, .int .i64 yh, .slice ba lb bc, .slice na lq nc, .slice ma lq mc] 44)) := (Below.refl _ _).alloc (Nat.le_refl _) _
      have hms := HT.out.lt
      have hlt0 : wr.heap.size < (wr.alloc (.cells #[.int .i64 (i : Int), .int .i64 yk, .int .i64 yl, .int .i64 sz, .int .i64 yh, .slice ba lb bc, .slice na lq nc, .slice ma lq mc] 44)).heap.size := by simp
      have hws := HW.out.size
      obtain ⟨w4, hup, hO4, hU4⟩ := ob_put (HT.out.upd hX (fun h => h)) (W64.nat (i := i) (by omega)) (by show t < maxLen; unfold maxLen; omega)
      have HO4 : Hid (Ob w4 (w2.heap.size + 1) (t + 1) (((thr F 17).take (t + 1)).map fun i : Nat => (i : Int))) := hid (by rw [HTK.out, List.map_append]; exact hO4)
      have HC4 : Hid (∃ N, Oc w4 w2.heap.size (6 * t + 0) N (cn (tgt F ((thr F 17).take t) ++ (tq y).take 0))) := by
        obtain ⟨N, hN⟩ := HC.out
        exact hid ⟨N, by rw [List.take_zero, List.append_nil]; exact (hN.upd hX (fun h => h)).upd hU4 (by omega)⟩
      have HW4 : Hid (Below w2.heap.size w2 w4) := hid (HW.out.trans ((hbX.mono HW.out.size).trans (hU4.below (by omega) (fun b hb => by omega))))
      have d7 : w4.cell? ⟨wr.heap.size, 7, none⟩ = some (.slice ma lq mc) := by
        rw [World.cell?_of_block (a := ⟨wr.heap.size, 7, none⟩) (hU4.block wr.heap.size hlt0 (by omega)), cell_of_row _ _ 7 _ _ _ hrow]; rfl
      clear hX hrow hbX hO4 hU4 hlt0 HT HC
      go_wp2_with fail
      clear hup c0 c1 c2 c3 c4 c5 c6 c7 d7
      go_loopw [31] (fun v31 wx => ∃ j : Nat, j ≤ lq ∧ v31 = .int .i64 (j : Int) ∧ Hid (∃ N, Oc wx w2.heap.size (6 * t + j) N (cn (tgt F ((thr F 17).take t) ++ (tq y).take j))) ∧ Hid (Ob wx (w2.heap.size + 1) (t + 1) (((thr F 17).take (t + 1)).map fun i : Nat => (i : Int))) ∧ Hid (Below w2.heap.size w2 wx)) (fun v31 _ => lq - (intOf v31).toNat)
      case atStart => exact ⟨0, by omega, rfl, HC4, HO4, HW4⟩
      case round =>
        clear HC4 HO4 HW4
        obtain ⟨j, hj, rfl, HC5, HO5, HW5⟩ := hrel
        rename World => wx
        by_cases hjl : j < lq
        · have R5 := HRM.out.below HW5.out
          obtain ⟨mq, mo, rfl, hmq, hmc⟩ := R5.2 (by omega)
          have hz : j < (y.Q.map ndV).length := by rw [R5.1]; exact hjl
          have hzq : j < y.Q.length := by rw [← GLQ.out]; exact hjl
          have e1 := hmc j hz
          rw [List.getElem_map] at e1
          have hxj := HNM.out _ (List.getElem_mem hzq)
          have HTQ : Hid ((tq y).take (j + 1) = (tq y).take j ++ [((y.Q[j]).2 : Int)]) := hid (by
            have hl : j < (tq y).length := by unfold tq; rw [List.length_map]; exact hzq
            have h9 : (tq y)[j] = ((y.Q[j]).2 : Int) := by simp [tq]
            rw [take_snoc _ _ hl, h9])
          have e2 : wx.cell? ⟨mq, mo + j, none⟩ = some (.int .i64 ((y.Q[j]).2 : Int)) := e1
          generalize (y.Q[j]).2 = xj at e2 hxj HTQ
          clear e1 hmc hz R5
          obtain ⟨N, hO⟩ := HC5.out
          have hlk := oc_look hO (W64.nat (i := xj) (by omega))
          have hlen : (tgt F ((thr F 17).take t) ++ (tq y).take j).length ≤ 6 * t + j := by
            have := HTL.out
            rw [List.length_append, List.length_take]; omega
          have hcl : cn (tgt F ((thr F 17).take t) ++ (tq y).take j) (xj : Int) ≤ 1000 := by
            have : cn (tgt F ((thr F 17).take t) ++ (tq y).take j) (xj : Int) ≤ (tgt F ((thr F 17).take t) ++ (tq y).take j).length := List.count_le_length
            omega
          obtain ⟨w6, hup, hO6, hU6⟩ := oc_inc hO (W64.nat (i := xj) (by omega)) (by show 6 * t + j < maxLen; unfold maxLen; omega) (by omega)
          have hm1 := hO.lt
          have HC6 : Hid (∃ N, Oc w6 w2.heap.size (6 * t + (j + 1)) N (cn (tgt F ((thr F 17).take t) ++ (tq y).take (j + 1)))) := hid ⟨_, by rw [HTQ.out, ← List.append_assoc, cn_snoc]; exact hO6⟩
          have HO6 : Hid (Ob w6 (w2.heap.size + 1) (t + 1) (((thr F 17).take (t + 1)).map fun i : Nat => (i : Int))) := hid (HO5.out.upd hU6 (by omega))
          have HW6 : Hid (Below w2.heap.size w2 w6) := hid (HW5.out.trans (hU6.below HW5.out.size (fun b hb => by omega)))
          have hwr : IntKind.i64.wrap ((cn (tgt F ((thr F 17).take t) ++ (tq y).take j) (xj : Int) : Int) + 1) = (cn (tgt F ((thr F 17).take t) ++ (tq y).take j) (xj : Int) : Int) + 1 := by rw [IntKind.wrap_i64]; omega
          generalize (cn (tgt F ((thr F 17).take t) ++ (tq y).take j) (xj : Int) : Int) = fi at hlk hup hwr
          clear hO hO6 hU6 hlen hcl hm1 HC5 HO5 HW5 hzq
          go_wp2_with fail
          go_roundw
          case rel => exact ⟨j + 1, by omega, by go_num, HC6, HO6, HW6⟩
          case measure => simp [intOf]; omega
        · obtain rfl : j = lq := by omega
          have HC6 : Hid (∃ N, Oc wx w2.heap.size (6 * (t + 1)) N (cn (tgt F ((thr F 17).take (t + 1))))) := by
            obtain ⟨N, hN⟩ := HC5.out
            refine hid ⟨N, ?_⟩
            rw [List.take_of_length_le (l := tq y) (by unfold tq; rw [List.length_map, GLQ.out]; exact Nat.le_refl _), ← HTG.out] at hN
            exact hN.mono (by omega)
          clear HC5
          go_wp2_with fail
          go_roundw
          case rel => exact ⟨t + 1, by omega, by go_num, HC6, HO5, HW5⟩
          case measure => simp [intOf]; omega
    · obtain rfl : t = n := by omega
      have HCn : Hid (∃ N, Oc wr w2.heap.size (6 * t) N (cn (tgt F (thr F 17)))) := by
        have := HC.out
        rw [List.take_of_length_le (by rw [GN.out]; exact Nat.le_refl _)] at this
        exact hid this
      have HTn : Hid (Ob wr (w2.heap.size + 1) t ((thr F 17).map fun i : Nat => (i : Int))) := by
        have := HT.out
        rw [List.take_of_length_le (by rw [GN.out]; exact Nat.le_refl _)] at this
        exact hid this
      clear HC HT hlt htn
      go_wp2_with fail
      go_loopw [43] (fun v43 wx => ∃ j : Nat, j ≤ t ∧ v43 = .int .i64 (j : Int) ∧ Hid (Below wr.heap.size wr wx)) (fun v43 _ => t - (intOf v43).toNat)
      case atStart => exact ⟨0, by omega, rfl, hid (Below.refl _ _)⟩
      case round =>
        obtain ⟨j, hj, rfl, HX⟩ := hrel
        rename World => wx
        by_cases hjl : j < t
        · have htl : j < (thr F 17).length := by rw [← GN.out]; exact hjl
          obtain ⟨q, o, rfl, hq, hh⟩ := HN.out (by omega)
          obtain ⟨ba, bc, na, nc, ma, mc, D0⟩ := hh j htl
          have hmem : (thr F 17)[j] ∈ thr F 17 := List.getElem_mem htl
          generalize (thr F 17)[j] = i at D0 hmem
          have hi17 := (mem_thr.1 hmem).1
          have hlk0 := links_ok HF.out HS.out hmem
          generalize F.P i = y at D0 hlk0
          have D := D0.below (HW.out.trans (HX.out.mono HW.out.size)) hq
          have c0 := D.c0
          have c1 := D.c1
          have c2 := D.c2
          have c3 := D.c3
          have c4 := D.c4
          have c5 := D.c5
          have c6 := D.c6
          have c7 := D.c7
          clear hmem D D0 hh htl
          generalize y.Q.length = lq at c6 c7 c3
          generalize (y.c.length : Int) + (lq : Int) = sz at c3
          generalize y.k = yk at c1
          generalize y.l = yl at c2 hlk0
          generalize y.h = yh at c4 hlk0
          generalize y.B.length = lb at c5
          have hX1 : Below wx.heap.size wx (wx.alloc (.cells #[.int .i64 (i : Int), .int .i64 yk, .int .i64 yl, .int .i64 sz, .int .i64 yh, .slice ba lb bc, .slice na lq nc, .slice ma lq mc] 44)) := (Below.refl _ _).alloc (Nat.le_refl _) _
          have HX1 : Hid (Below wr.heap.size wr (wx.alloc (.cells #[.int .i64 (i : Int), .int .i64 yk, .int .i64 yl, .int .i64 sz, .int .i64 yh, .slice ba lb bc, .slice na lq nc, .slice ma lq mc] 44))) := hid (HX.out.trans (hX1.mono HX.out.size))
          obtain ⟨N, hO⟩ := HCn.out
          have hlk := oc_look (hO.upd (Upd.of_below (F := fun _ => False) HX1.out) (fun h => h)) (W64.nat (i := i) (by omega))
          clear hX1 hO
          by_cases hi1 : i = 1
          · have hyl := hlk0.1 hi1
            subst hyl
            subst hi1
            rw [show ((1 : Nat) : Int) = 1 from rfl] at hlk
            generalize (cn (tgt F (thr F 17)) 1 : Int) = fi at hlk
            clear hlk0
            go_wp2_with fail
            go_roundw
            case rel => exact ⟨j + 1, by omega, by go_num, HX1⟩
            case measure => simp [intOf]; omega
          · have hyl := hlk0.2.1 hi1
            have hy0 := hlk0.2.2
            rw [← hyl] at hlk
            have hx1 : ((i : Int) == 1) = false := by simp; omega
            clear hlk0 hyl
            by_cases h0 : yl = 0
            · have hy1 : (yh == 0) = false := by simpa using hy0 h0
              subst h0
              clear hy0
              go_wp2_with fail
              go_roundw
              case rel => exact ⟨j + 1, by omega, by go_num, HX1⟩
              case measure => simp [intOf]; omega
            · have hy1 : (yl == 0) = false := by simpa using h0
              clear hy0 h0
              go_wp2_with fail
              go_roundw
              case rel => exact ⟨j + 1, by omega, by go_num, HX1⟩
              case measure => simp [intOf]; omega
        · obtain rfl : j = t := by omega
          obtain ⟨N, hO⟩ := HCn.out
          obtain ⟨D, hown, hD⟩ := hO.upd (Upd.of_below (F := fun _ => False) HX.out) (fun h => h)
          have HD := hid hD
          have HTx : Hid (Ob wx (w2.heap.size + 1) j ((thr F 17).map fun i : Nat => (i : Int))) := hid (HTn.out.upd (Upd.of_below (F := fun _ => False) HX.out) (fun h => h))
          have HBx : Hid (Below w.heap.size w wx) := hid (HB2.out.trans ((HW.out.mono HB2.out.size).trans (HX.out.mono (Nat.le_trans HB2.out.size HW.out.size))))
          clear hO hD HTn HCn hjl hj HX
          go_wp2_with (first
            | (at_range; refine wpList_range_own _ rfl _ 39 rfl 3 3 kint Tryz.underlying39 _ w2.heap.size (6 * j) D rfl hown ?_; intro w0 hrg0 hg0 hs0)
            | go_in)
          go_frame
          have HU0 : Hid (Upd (fun _ => False) wx w0) := hid ((Upd.of_grown hg0).mono (fun x _ h => by cases h))
          go_loopw [80] (fun _ wy => ∃ (left : Lit → Bool) (cnt : Nat), wy.ranges Tryz.prog 3 (plainElem Tryz.prog 3) w2.heap.size wx.heap.size (6 * j) D left cnt ∧ Hid (Upd (fun _ => False) wx wy))
            (fun _ wy => wy.rangeLeft w2.heap.size wx.heap.size)
          case atStart => exact ⟨_, _, hrg0, HU0⟩
          case round =>
            obtain ⟨left, cnt, hrg, HU⟩ := hrel
            rename World => wy
            clear hrg0 hg0 hs0 HU0
            go_wp2_with (first
              | (at_next; refine wpList_next_ranges_ii _ rfl _ rfl 3 3 .i64 .i64 kint Tryz.underlying3 Tryz.underlying3 w2.heap.size wx.heap.size (6 * j) _ _ _ rfl hrg ?_ ?_)
              | go_in)
            · intro hc0 hl0
              have hl1 := ob_look (HTx.out.upd HU.out (fun h => h)) (k := 1) ⟨by omega, by omega⟩
              rw [decide_eq_true (by
                refine List.mem_map.2 ⟨1, mem_thr.2 ⟨by omega, ?_⟩, rfl⟩
                rw [HF.out.root]; decide)] at hl1
              clear hl0
              go_wp2_with fail
              go_ret
              exact ⟨rfl, HBx.out.trans (HU.out.below HBx.out.size (fun _ h => h.elim))⟩
            · intro x cx w7 cnt1 hwx hwc hlx hat hrg1 hlt hg1 hs1 hen
              have hx := W64.of hwx
              have hFx : x ∈ tgt F (thr F 17) := by
                have h1 := Maps.has_true_of_atKey hat
                rw [(HD.out.2 x hx).1] at h1
                have h2 : cn (tgt F (thr F 17)) x ≠ 0 := by simpa using h1
                exact List.count_pos_iff.1 (Nat.pos_of_ne_zero h2)
              have HU1 : Hid (Upd (fun _ => False) wx w7) := hid (HU.out.trans (Upd.of_grown hg1) (fun y hy h => by injection h with h; omega))
              have hl1 := ob_look (HTx.out.upd HU1.out (fun h => h)) hx
              obtain ⟨i, rfl, hi1, hi2⟩ := mem_tgt HF.out hFx
              rw [decide_eq_true (List.mem_map.2 ⟨i, hi2, rfl⟩)] at hl1
              have hx1 : ((i : Int) == 1) = false := by simp; omega
              clear hat hwx hwc hlx hg1 hs1 hFx hi1 hi2 hx
              go_wp2_with fail
              go_roundw
              case rel => exact ⟨_, cnt1, hrg1, HU1⟩
              case measure => rw [hrg1.left_eq, hrg.left_eq]; exact hlt

end Go.Proofs.YtliekndkjjaldaaGreat

/- Rising lists without memory: what a list's numbers are, each once, in their order. -/
namespace Go.Proofs.YtliekndkjjaldaaGreat
set_option linter.unusedVariables false

/-- r is the numbers of l, rising, each once. -/
def Rises (l r : List Int) : Prop := r.Pairwise (· < ·) ∧ ∀ x, x ∈ r ↔ x ∈ l

theorem rising_unique : ∀ (r s : List Int), r.Pairwise (· < ·) → s.Pairwise (· < ·) → (∀ x, x ∈ r ↔ x ∈ s) → r = s
  | [], [], _, _, _ => rfl
  | [], b :: s, _, _, e => absurd ((e b).2 List.mem_cons_self) List.not_mem_nil
  | a :: r, [], _, _, e => absurd ((e a).1 List.mem_cons_self) List.not_mem_nil
  | a :: r, b :: s, h, k, e => by
    obtain ⟨h1, h2⟩ := List.pairwise_cons.1 h
    obtain ⟨k1, k2⟩ := List.pairwise_cons.1 k
    have hab : a = b := by
      rcases List.mem_cons.1 ((e a).1 List.mem_cons_self) with x | x
      · exact x
      · rcases List.mem_cons.1 ((e b).2 List.mem_cons_self) with y | y
        · exact y.symm
        · have := h1 b y; have := k1 a x; omega
    subst hab
    congr 1
    refine rising_unique r s h2 k2 (fun x => ⟨fun hx => ?_, fun hx => ?_⟩)
    · rcases List.mem_cons.1 ((e x).1 (List.mem_cons_of_mem _ hx)) with y | y
      · have := h1 x hx; omega
      · exact y
    · rcases List.mem_cons.1 ((e x).2 (List.mem_cons_of_mem _ hx)) with y | y
      · have := k1 x hx; omega
      · exact y

theorem Rises.unique {l k r s : List Int} (h : Rises l r) (q : Rises k s) (e : ∀ x, x ∈ l ↔ x ∈ k) : r = s :=
  rising_unique r s h.1 q.1 (fun x => by rw [h.2, q.2, e])

def lows (n : Int) (l : List Int) : List Int := l.filter (fun m => decide (m < n))
def highs (n : Int) (l : List Int) : List Int := l.filter (fun m => decide (n < m))
def isPut (n : Int) (l : List Int) : Bool := l.any (fun m => decide (n ≤ m))
/-- What the document's rising has laid behind the first numbers of what it had. -/
def nextL (n : Int) (l : List Int) : List Int := lows n l ++ (if isPut n l then [n] else []) ++ highs n l

theorem noPut {n : Int} {l : List Int} (h : isPut n l = false) : ∀ x ∈ l, x < n := fun x hx => by
  have := List.any_eq_false.1 h x hx
  simp at this; omega
theorem highs_none {n : Int} {l : List Int} (h : isPut n l = false) : highs n l = [] := by
  unfold highs
  rw [List.filter_eq_nil_iff]
  intro x hx
  have := noPut h x hx
  simp; omega
theorem isPut_snoc (n m : Int) (l : List Int) : isPut n (l ++ [m]) = (isPut n l || decide (n ≤ m)) := by simp [isPut]

theorem next_lt {n m : Int} {l : List Int} (h : isPut n l = false) (hm : m < n) : nextL n (l ++ [m]) = nextL n l ++ [m] := by
  have h2 : isPut n (l ++ [m]) = false := by rw [isPut_snoc, h]; simp; omega
  unfold nextL
  rw [h, h2, highs_none h, highs_none h2]
  simp [lows, hm]
theorem next_eq {n : Int} {l : List Int} (h : isPut n l = false) : nextL n (l ++ [n]) = nextL n l ++ [n] := by
  have h2 : isPut n (l ++ [n]) = true := by rw [isPut_snoc]; simp
  unfold nextL
  rw [h, h2, highs_none h]
  have h3 : highs n (l ++ [n]) = [] := by have := highs_none h; simp [highs] at this ⊢; exact this
  rw [h3]
  simp [lows]
theorem next_gt {n m : Int} {l : List Int} (h : isPut n l = false) (hm : n < m) : nextL n (l ++ [m]) = nextL n l ++ [n] ++ [m] := by
  have h2 : isPut n (l ++ [m]) = true := by rw [isPut_snoc]; simp; omega
  unfold nextL
  rw [h, h2, highs_none h]
  have h3 : highs n (l ++ [m]) = [m] := by have := highs_none h; simp only [highs, List.filter_append] at this ⊢; rw [this]; simp [hm]
  rw [h3]
  have : ¬ m < n := by omega
  simp [lows, this]
theorem put_gt {n m : Int} {l : List Int} (h : isPut n l = true) (hp : (l ++ [m]).Pairwise (· < ·)) : n < m := by
  obtain ⟨x, hx, hn⟩ := List.any_eq_true.1 h
  have := (List.pairwise_append.1 hp).2.2 x hx m (by simp)
  simp at hn; omega
theorem next_more {n m : Int} {l : List Int} (h : isPut n l = true) (hm : n < m) : nextL n (l ++ [m]) = nextL n l ++ [m] := by
  have h2 : isPut n (l ++ [m]) = true := by rw [isPut_snoc, h]; simp
  unfold nextL
  rw [h, h2]
  have : ¬ m < n := by omega
  simp [lows, highs, hm, this]

/-- What stands behind the whole round. -/
def putIn (n : Int) (l : List Int) : List Int := lows n l ++ [n] ++ highs n l
theorem putIn_yes {n : Int} {l : List Int} (h : isPut n l = true) : nextL n l = putIn n l := by simp [nextL, putIn, h]
theorem putIn_no {n : Int} {l : List Int} (h : isPut n l = false) : nextL n l ++ [n] = putIn n l := by simp [nextL, putIn, h, highs_none h]

theorem Rises.putIn {l r : List Int} (h : Rises l r) (n : Int) : Rises (l ++ [n]) (putIn n r) := by
  refine ⟨?_, fun x => ?_⟩
  · unfold Go.Proofs.YtliekndkjjaldaaGreat.putIn lows highs
    rw [List.append_assoc, List.pairwise_append]
    refine ⟨h.1.filter _, ?_, fun a ha b hb => ?_⟩
    · simp only [List.singleton_append, List.pairwise_cons]
      refine ⟨fun b hb => ?_, h.1.filter _⟩
      simpa using (List.mem_filter.1 hb).2
    · have h1 : a < n := by simpa using (List.mem_filter.1 ha).2
      simp only [List.singleton_append, List.mem_cons] at hb
      rcases hb with rfl | hb
      · exact h1
      · have : n < b := by simpa using (List.mem_filter.1 hb).2
        omega
  · have := h.2 x
    simp only [Go.Proofs.YtliekndkjjaldaaGreat.putIn, lows, highs, List.mem_append, List.mem_filter, List.mem_singleton, decide_eq_true_eq, ← this]
    by_cases e : x = n
    · simp [e]
    · constructor
      · rintro ((h | h) | h)
        · exact .inl h.1
        · exact .inr h
        · exact .inl h.1
      · rintro (h | h)
        · rcases (show x < n ∨ n < x by omega) with q | q
          · exact .inl (.inl ⟨h, q⟩)
          · exact .inr ⟨h, q⟩
        · exact absurd h e

theorem next_length (n : Int) (l : List Int) : (nextL n l).length ≤ l.length + 1 := by
  have key : (lows n l).length + (highs n l).length ≤ l.length := by
    induction l with
    | nil => simp [lows, highs]
    | cons a l ih =>
      simp only [lows, highs, List.filter_cons] at ih ⊢
      by_cases h1 : a < n
      · have : ¬ n < a := by omega
        simp [h1, this]; omega
      · by_cases h2 : n < a
        · simp [h1, h2]; omega
        · simp [h1, h2]; omega
  unfold nextL
  split <;> simp <;> omega
theorem next_length_no {n : Int} {l : List Int} (h : isPut n l = false) : (nextL n l).length ≤ l.length := by
  unfold nextL
  rw [h, highs_none h]
  simpa [lows] using List.length_filter_le (fun m => decide (m < n)) l
theorem putIn_length (n : Int) (l : List Int) : (putIn n l).length ≤ l.length + 1 := by
  have := next_length n l
  cases h : isPut n l with
  | true => rw [← putIn_yes h]; exact this
  | false =>
    have h2 : lows n l = l := List.filter_eq_self.2 (fun x hx => by simpa using noPut h x hx)
    simp [putIn, highs_none h, h2]

end Go.Proofs.YtliekndkjjaldaaGreat

/- A sorted list, compacted, is its numbers, rising, each once. -/
namespace Go.Proofs.YtliekndkjjaldaaGreat
open Go.Lib
set_option linter.unusedVariables false

theorem compact_upto (d : Array Int) (hs : ∀ i j, i ≤ j → j < d.size → d[i]! ≤ d[j]!) : ∀ m, m ≤ d.size → (compactUpTo d m).Pairwise (· < ·) ∧ ∀ x, x ∈ compactUpTo d m ↔ ∃ j, j < m ∧ d[j]! = x
  | 0, _ => ⟨by simp [compactUpTo], fun x => by simp [compactUpTo]⟩
  | m + 1, h => by
    obtain ⟨h1, h2⟩ := compact_upto d hs m (by omega)
    rw [compactUpTo_succ]
    by_cases hk : keeps d m = true
    · rw [if_pos hk]
      refine ⟨List.pairwise_append.2 ⟨h1, by simp, fun a ha b hb => ?_⟩, fun x => ?_⟩
      · obtain rfl : b = d[m]! := by simpa using hb
        obtain ⟨j, hj, rfl⟩ := (h2 a).1 ha
        have hm : m ≠ 0 := by omega
        have hne : d[m]! ≠ d[m - 1]! := by
          intro e
          rw [keeps_neg (by omega) e] at hk
          cases hk
        have a1 := hs j (m - 1) (by omega) (by omega)
        have a2 := hs (m - 1) m (by omega) (by omega)
        omega
      · rw [List.mem_append, h2, List.mem_singleton]
        constructor
        · rintro (⟨j, hj, e⟩ | e)
          · exact ⟨j, by omega, e⟩
          · exact ⟨m, by omega, e.symm⟩
        · rintro ⟨j, hj, e⟩
          rcases (show j < m ∨ j = m by omega) with q | rfl
          · exact .inl ⟨j, q, e⟩
          · exact .inr e.symm
    · rw [if_neg hk, List.append_nil]
      refine ⟨h1, fun x => ?_⟩
      rw [h2]
      have hm0 : m ≠ 0 := by rintro rfl; exact hk (keeps_lt_one d 0 (by omega))
      have e : d[m]! = d[m - 1]! := Classical.byContradiction (fun q => hk (keeps_pos q))
      constructor
      · rintro ⟨j, hj, q⟩; exact ⟨j, by omega, q⟩
      · rintro ⟨j, hj, q⟩
        rcases (show j < m ∨ j = m by omega) with p | rfl
        · exact ⟨j, p, q⟩
        · exact ⟨j - 1, by omega, by rw [← e]; exact q⟩

theorem getI (l : List Int) (j : Nat) (h : j < l.length) : l.toArray[j]! = l[j] := by
  rw [getElem!_pos l.toArray j (by simpa using h)]; simp

theorem compact_rises (l : List Int) (hs : l.Pairwise (· ≤ ·)) : Rises l (compact l) := by
  have hs' : ∀ i j, i ≤ j → j < l.toArray.size → l.toArray[i]! ≤ l.toArray[j]! := by
    intro i j hij hj
    have hj' : j < l.length := by simpa using hj
    rw [getI l i (by omega), getI l j hj']
    rcases (show i < j ∨ i = j by omega) with q | rfl
    · exact List.pairwise_iff_getElem.1 hs i j (by omega) hj' q
    · exact Int.le_refl _
  obtain ⟨h1, h2⟩ := compact_upto l.toArray hs' l.length (by simp)
  refine ⟨h1, fun x => ?_⟩
  show x ∈ compactUpTo l.toArray l.length ↔ _
  rw [h2, List.mem_iff_getElem]
  constructor
  · rintro ⟨j, hj, e⟩; exact ⟨j, hj, by rw [← getI l j hj]; exact e⟩
  · rintro ⟨j, hj, e⟩; exact ⟨j, hj, by rw [getI l j hj]; exact e⟩

/-- The program's rising: sorted, then compacted. -/
def riseP (l : List Int) : List Int := compact (l.mergeSort fun x y => decide (x ≤ y))
theorem sorted_int (l : List Int) : (l.mergeSort fun x y => decide (x ≤ y)).Pairwise (· ≤ ·) := by
  have := List.pairwise_mergeSort (le := fun x y : Int => decide (x ≤ y)) (fun a b c h k => by simp at h k ⊢; omega) (fun a b => by simp; omega) l
  exact this.imp (fun h => by simpa using h)
theorem riseP_rises (l : List Int) : Rises l (riseP l) := by
  have h := compact_rises _ (sorted_int l)
  exact ⟨h.1, fun x => (h.2 x).trans (List.mergeSort_perm l _).mem_iff⟩
theorem riseP_length (l : List Int) : (riseP l).length ≤ l.length := by
  have := compact_length_le (l.mergeSort fun x y => decide (x ≤ y))
  rw [List.length_mergeSort] at this
  exact this

end Go.Proofs.YtliekndkjjaldaaGreat

/- Contracts of the library on lists of numbers, laid at this program by the shelf's own program. (Numbers of one seat: lay-shelf.mjs, lay-plain.mjs.) -/
namespace Go.Proofs
open Go.Shelf
def Tryz.lays189_ren : Go.Shelf.Ren := ⟨fun | 189 => 12 | 125 => 52 | 257 => 51 | 128 => 101 | 129 => 102 | 294 => 92 | 295 => 93 | 296 => 94 | 297 => 95 | 298 => 96 | 299 => 97 | 216 => 98 | 300 => 99 | 301 => 100 | 328 => 118 | 329 => 119 | 330 => 120 | 331 => 121 | 332 => 122 | 215 => 123 | 343 => 130 | n => n, fun | 28 => 41 | 3 => 3 | 46 => 68 | 0 => 0 | 51 => 133 | 53 => 135 | 4 => 4 | 183 => 126 | 182 => 125 | 131 => 130 | 5 => 5 | 9 => 9 | 218 => 146 | 222 => 150 | 228 => 155 | 229 => 156 | n => n, fun | n => n⟩
theorem Tryz.lays189 : Go.Proofs.Lays.n189 Tryz.prog Tryz.lays189_ren := {
  mixed := by kernel_rfl
  f125 := Tryz.func52.trans (congrArg some (by kernel_rfl))
  f128 := Tryz.func101.trans (congrArg some (by kernel_rfl))
  f129 := Tryz.func102.trans (congrArg some (by kernel_rfl))
  f189 := Tryz.func12.trans (congrArg some (by kernel_rfl))
  f215 := Tryz.func123.trans (congrArg some (by kernel_rfl))
  f216 := Tryz.func98.trans (congrArg some (by kernel_rfl))
  f257 := Tryz.func51.trans (congrArg some (by kernel_rfl))
  f294 := Tryz.func92.trans (congrArg some (by kernel_rfl))
  f295 := Tryz.func93.trans (congrArg some (by kernel_rfl))
  f296 := Tryz.func94.trans (congrArg some (by kernel_rfl))
  f297 := Tryz.func95.trans (congrArg some (by kernel_rfl))
  f298 := Tryz.func96.trans (congrArg some (by kernel_rfl))
  f299 := Tryz.func97.trans (congrArg some (by kernel_rfl))
  f300 := Tryz.func99.trans (congrArg some (by kernel_rfl))
  f301 := Tryz.func100.trans (congrArg some (by kernel_rfl))
  f328 := Tryz.func118.trans (congrArg some (by kernel_rfl))
  f329 := Tryz.func119.trans (congrArg some (by kernel_rfl))
  f330 := Tryz.func120.trans (congrArg some (by kernel_rfl))
  f331 := Tryz.func121.trans (congrArg some (by kernel_rfl))
  f332 := Tryz.func122.trans (congrArg some (by kernel_rfl))
  f343 := Tryz.func130.trans (congrArg some (by kernel_rfl))
  t0 := Tryz.underlying0
  a0 := Tryz.isAgg0
  z0 := Tryz.sizeOf0
  v0 := Tryz.zeroValue0
  t3 := Tryz.underlying3
  a3 := Tryz.isAgg3
  z3 := Tryz.sizeOf3
  v3 := Tryz.zeroValue3
  t4 := Tryz.underlying4
  a4 := Tryz.isAgg4
  z4 := Tryz.sizeOf4
  v4 := Tryz.zeroValue4
  t5 := Tryz.underlying5
  a5 := Tryz.isAgg5
  z5 := Tryz.sizeOf5
  v5 := Tryz.zeroValue5
  t9 := Tryz.underlying9
  a9 := Tryz.isAgg9
  z9 := Tryz.sizeOf9
  v9 := Tryz.zeroValue9
  t28 := Tryz.underlying41
  a28 := Tryz.isAgg41
  z28 := Tryz.sizeOf41
  v28 := Tryz.zeroValue41
  t46 := Tryz.underlying68
  a46 := Tryz.isAgg68
  z46 := Tryz.sizeOf68
  v46 := Tryz.zeroValue68
  t51 := Tryz.underlying133
  a51 := Tryz.isAgg133
  z51 := Tryz.sizeOf133
  v51 := Tryz.zeroValue133
  t53 := Tryz.underlying135
  a53 := Tryz.isAgg135
  z53 := Tryz.sizeOf135
  v53 := Tryz.zeroValue135
  t131 := Tryz.underlying130
  a131 := Tryz.isAgg130
  z131 := Tryz.sizeOf130
  v131 := Tryz.zeroValue130
  t182 := Tryz.underlying125
  a182 := Tryz.isAgg125
  z182 := Tryz.sizeOf125
  v182 := Tryz.zeroValue125
  t183 := Tryz.underlying126
  a183 := Tryz.isAgg126
  z183 := Tryz.sizeOf126
  v183 := Tryz.zeroValue126
  t218 := Tryz.underlying146
  a218 := Tryz.isAgg146
  z218 := Tryz.sizeOf146
  v218 := Tryz.zeroValue146
  t222 := Tryz.underlying150
  a222 := Tryz.isAgg150
  z222 := Tryz.sizeOf150
  v222 := Tryz.zeroValue150
  t228 := Tryz.underlying155
  a228 := Tryz.isAgg155
  z228 := Tryz.sizeOf155
  v228 := Tryz.zeroValue155
  t229 := Tryz.underlying156
  a229 := Tryz.isAgg156
  z229 := Tryz.sizeOf156
  v229 := Tryz.zeroValue156 }
open Go.Sort Go.RowKit in
theorem Tryz.slices_Sort_int (blk off cap : Nat) (zs : List Int) (w : World) (hH : Holds (Value.int .i64) w blk off zs.toArray) (hblk : blk < w.heap.size) (hsz : zs.length < 4611686018427387904) :
    Calls Tryz.prog 12 #[.slice (some ⟨blk, off, none⟩) zs.length cap] w fun e w' =>
      e = .returned (.tuple #[]) ∧ ∃ n os, w' = grow (putRow (Value.int .i64) (Sort.ahead w n) blk off (zs.mergeSort fun x y => decide (x ≤ y)).toArray) os := Any.slices_Sort_int Tryz.lays189 blk off cap zs w hH hblk hsz
def Tryz.lays111_ren : Go.Shelf.Ren := ⟨fun | 111 => 13 | n => n, fun | 28 => 41 | 3 => 3 | 4 => 4 | 0 => 0 | n => n, fun | n => n⟩
theorem Tryz.lays111 : Go.Proofs.Lays.n111 Tryz.prog Tryz.lays111_ren := {
  mixed := by kernel_rfl
  f111 := Tryz.func13.trans (congrArg some (by kernel_rfl))
  t0 := Tryz.underlying0
  a0 := Tryz.isAgg0
  z0 := Tryz.sizeOf0
  v0 := Tryz.zeroValue0
  t3 := Tryz.underlying3
  a3 := Tryz.isAgg3
  z3 := Tryz.sizeOf3
  v3 := Tryz.zeroValue3
  t4 := Tryz.underlying4
  a4 := Tryz.isAgg4
  z4 := Tryz.sizeOf4
  v4 := Tryz.zeroValue4
  t28 := Tryz.underlying41
  a28 := Tryz.isAgg41
  z28 := Tryz.sizeOf41
  v28 := Tryz.zeroValue41 }
open Go.RowKit Go.Lib in
theorem Tryz.slices_Equal_int (b1 o1 n c b2 o2 m d : Nat) (xs ys : List Int) (w : World) (hx : n ≤ xs.length) (hy : m ≤ ys.length) (hbig : n ≤ 9223372036854775807) (hbig2 : m ≤ 9223372036854775807) (hc1 : ∀ j, j < xs.length → w.cell? ⟨b1, o1 + j, none⟩ = some (.int .i64 (xs.getD j 0))) (hc2 : ∀ j, j < ys.length → w.cell? ⟨b2, o2 + j, none⟩ = some (.int .i64 (ys.getD j 0))) :
    Calls Tryz.prog 13 #[.slice (some ⟨b1, o1, none⟩) n c, .slice (some ⟨b2, o2, none⟩) m d] w fun e w' => e = .returned (.bool (xs.take n == ys.take m)) ∧ ∃ q, w' = w.drewN q := Any.slices_Equal_int Tryz.lays111 b1 o1 n c b2 o2 m d xs ys w hx hy hbig hbig2 hc1 hc2
open Go.RowKit Go.Lib in
theorem Tryz.slices_Equal_int_empty (a1 a2 : Option Addr) (c m d : Nat) (w : World) (hbig2 : m ≤ 9223372036854775807) :
    Calls Tryz.prog 13 #[.slice a1 0 c, .slice a2 m d] w fun e w' => e = .returned (.bool (decide (m = 0))) ∧ w' = w := Any.slices_Equal_int_empty Tryz.lays111 a1 a2 c m d w hbig2
def Tryz.laysNm215_ren : Go.Shelf.Ren := ⟨fun | 15 => 16 | n => n, fun | 22 => 41 | 3 => 3 | 4 => 4 | n => n, fun | n => n⟩
theorem Tryz.laysNm215 : Go.Proofs.Lays2.n15 Tryz.prog Tryz.laysNm215_ren := {
  mixed := by kernel_rfl
  f15 := Tryz.func16.trans (congrArg some (by kernel_rfl))
  t3 := Tryz.underlying3
  a3 := Tryz.isAgg3
  z3 := Tryz.sizeOf3
  v3 := Tryz.zeroValue3
  t4 := Tryz.underlying4
  a4 := Tryz.isAgg4
  z4 := Tryz.sizeOf4
  v4 := Tryz.zeroValue4
  t22 := Tryz.underlying41
  a22 := Tryz.isAgg41
  z22 := Tryz.sizeOf41
  v22 := Tryz.zeroValue41
  i3 := by kernel_rfl }
open Go.RowKit Go.Lib in
theorem Tryz.slices_Clone_int (b off n c : Nat) (zs : List Int) (w : World) (hz : n ≤ zs.length) (hbig : n * 8 ≤ 140737488355328) (hc : ∀ j, j < zs.length → w.cell? ⟨b, off + j, none⟩ = some (.int .i64 (zs.getD j 0))) :
    Calls Tryz.prog 16 #[.slice (some ⟨b, off, none⟩) n c] w fun e w' => ∃ v', e = .returned v' ∧ w'.ownsRow w.heap.size 3 1 v' n ((zs.take n).map (Value.int .i64)) ∧ v' ≠ .slice none 0 0 ∧ Below w.heap.size w w' := Any.slices_Clone_int Tryz.laysNm215 b off n c zs w hz hbig hc
open Go.RowKit Go.Lib in
theorem Tryz.slices_Clone_int_nil (n c : Nat) (w : World) :
    Calls Tryz.prog 16 #[.slice none n c] w fun e w' => e = .returned (.slice none 0 0) ∧ w' = w := Any.slices_Clone_int_nil Tryz.laysNm215 n c w
open Go.RowKit Go.Lib in
theorem Tryz.slices_Clone_int_zero (a : Addr) (c : Nat) (w : World) :
    Calls Tryz.prog 16 #[.slice (some a) 0 c] w fun e w' => ∃ v', e = .returned v' ∧ w'.ownsRow w.heap.size 3 1 v' 0 [] ∧ v' ≠ .slice none 0 0 ∧ Below w.heap.size w w' := Any.slices_Clone_int_zero Tryz.laysNm215 a c w
def Tryz.laysNm220_ren : Go.Shelf.Ren := ⟨fun | 20 => 15 | n => n, fun | 22 => 41 | 3 => 3 | 4 => 4 | 0 => 0 | n => n, fun | n => n⟩
theorem Tryz.laysNm220 : Go.Proofs.Lays2.n20 Tryz.prog Tryz.laysNm220_ren := {
  mixed := by kernel_rfl
  f20 := Tryz.func15.trans (congrArg some (by kernel_rfl))
  t0 := Tryz.underlying0
  a0 := Tryz.isAgg0
  z0 := Tryz.sizeOf0
  v0 := Tryz.zeroValue0
  t3 := Tryz.underlying3
  a3 := Tryz.isAgg3
  z3 := Tryz.sizeOf3
  v3 := Tryz.zeroValue3
  t4 := Tryz.underlying4
  a4 := Tryz.isAgg4
  z4 := Tryz.sizeOf4
  v4 := Tryz.zeroValue4
  t22 := Tryz.underlying41
  a22 := Tryz.isAgg41
  z22 := Tryz.sizeOf41
  v22 := Tryz.zeroValue41
  i3 := by kernel_rfl }
open Go.RowKit Go.Lib Go.Sort in
theorem Tryz.slices_Compact_int_arr (blk off cap : Nat) (d : Array Int) (w : World) (hH : Holds encI w blk off d) (hsz : d.size ≤ 9223372036854775807) (hcap : d.size ≤ cap) :
    Calls Tryz.prog 15 #[.slice (some ⟨blk, off, none⟩) d.size cap] w fun e w' => e = .returned (.slice (some ⟨blk, off, none⟩) (compactUpTo d d.size).length cap) ∧ ∃ q, w' = putRow encI (Sort.ahead w q) blk off (compactUpTo d d.size ++ List.replicate (d.size - (compactUpTo d d.size).length) 0).toArray := Any.slices_Compact_int_arr Tryz.laysNm220 blk off cap d w hH hsz hcap
open Go.RowKit Go.Lib Go.Sort in
theorem Tryz.slices_Compact_int (blk off cap : Nat) (zs : List Int) (w : World) (hH : Holds (Value.int .i64) w blk off zs.toArray) (hsz : zs.length ≤ 9223372036854775807) (hcap : zs.length ≤ cap) :
    Calls Tryz.prog 15 #[.slice (some ⟨blk, off, none⟩) zs.length cap] w fun e w' => e = .returned (.slice (some ⟨blk, off, none⟩) (Lib.compact zs).length cap) ∧ ∃ q, w' = putRow (Value.int .i64) (Sort.ahead w q) blk off (Lib.compact zs ++ List.replicate (zs.length - (Lib.compact zs).length) 0).toArray := Any.slices_Compact_int Tryz.laysNm220 blk off cap zs w hH hsz hcap
open Go.RowKit Go.Lib Go.Sort in
theorem Tryz.slices_Compact_int_empty (a : Option Addr) (cap : Nat) (w : World) :
    Calls Tryz.prog 15 #[.slice a 0 cap] w fun e w' => e = .returned (.slice a 0 cap) ∧ w' = w := Any.slices_Compact_int_empty Tryz.laysNm220 a cap w
open Go.RowKit Go.Sort in
theorem Tryz.slices_Sort_int_none (p : Option Addr) (cap : Nat) (w : World) :
    Calls Tryz.prog 12 #[.slice p 0 cap] w fun e w' => e = .returned (.tuple #[]) ∧ w' = w := Any.slices_Sort_int_none Tryz.lays189 p cap w
end Go.Proofs
