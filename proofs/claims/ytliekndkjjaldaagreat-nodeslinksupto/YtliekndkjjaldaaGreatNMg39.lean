/- Texts of this seat, merged. -/
import Derived.Test.YtliekndkjjaldaaGreatNMg38

/- The road of NodesLinks. -/
namespace Go.Proofs.YtliekndkjjaldaaGreat
open Go.RowKit Go.ChangeMaps Go.MapKept
set_option linter.unusedVariables false
set_option maxRecDepth 20000

/-- What the names of a node name. -/
def tq (y : Fn) : List Int := y.Q.map fun x => (x.2 : Int)
def tgt (F : Fs) (is : List Nat) : List Int := is.flatMap fun i => tq (F.P i)
/-- How often a number stands in a list. -/
def cn (L : List Int) : Int → Nat := fun k => L.count k
theorem cn_snoc (L : List Int) (x : Int) : cn (L ++ [x]) = inc (cn L) x := by
  funext k
  by_cases h : k = x
  · subst h; simp [cn, inc]
  · simp [cn, inc, h, List.count_append, Ne.symm h]
theorem cn_app (L M : List Int) (k : Int) : cn (L ++ M) k = cn L k + cn M k := List.count_append
theorem take_snoc {α : Type} (l : List α) (i : Nat) (h : i < l.length) : l.take (i + 1) = l.take i ++ [l[i]] := by
  rw [List.take_add_one]
  simp [h]
theorem cn_tq (y : Fn) (i : Nat) : cn (tq y) (i : Int) = cq y.Q i := by
  unfold tq
  induction y.Q with
  | nil => rfl
  | cons x r ih =>
    have e : cn (List.map (fun x => (x.2 : Int)) (x :: r)) (i : Int) = cn (List.map (fun x => (x.2 : Int)) r) (i : Int) + (if x.2 = i then 1 else 0) := by
      unfold cn
      rw [List.map_cons, List.count_cons]
      by_cases q : x.2 = i
      · subst q; simp
      · have : ¬ (x.2 : Int) = (i : Int) := by omega
        simp [q, this]
    rw [e, ih]
    by_cases q : x.2 = i <;> simp [cq, q]
theorem cn_tgt {F : Fs} (H : FOk F) (i : Nat) : ∀ m, cn (tgt F (thr F m)) (i : Int) = nmc F.P i m
  | 0 => rfl
  | m + 1 => by
    unfold nmc
    by_cases h : (F.P m).k = 0
    · rw [thr_no h, cn_tgt H i m, H.none m h]
      rfl
    · rw [thr_yes h]
      unfold tgt
      rw [List.flatMap_append, cn_app]
      have := cn_tgt H i m
      unfold tgt at this
      rw [this]
      congr 1
      simp only [List.flatMap_cons, List.flatMap_nil, List.append_nil]
      exact cn_tq _ _
theorem mem_thr {F : Fs} {m i : Nat} : i ∈ thr F m ↔ i < m ∧ (F.P i).k ≠ 0 := by
  unfold thr
  rw [List.mem_filter, List.mem_range]
  simp
theorem mem_tgt {F : Fs} (H : FOk F) {x : Int} (h : x ∈ tgt F (thr F 17)) : ∃ i : Nat, x = (i : Int) ∧ 1 < i ∧ i ∈ thr F 17 := by
  obtain ⟨j, hj, hx⟩ := List.mem_flatMap.1 h
  obtain ⟨y, hy, rfl⟩ := List.mem_map.1 hx
  obtain ⟨h1, h2, h3, _⟩ := H.nm j y hy
  exact ⟨y.2, rfl, h1, mem_thr.2 ⟨h2, h3⟩⟩

/-- What a node tells of its links. -/
theorem links_ok {F : Fs} (H : FOk F) (S : FSh F) {i : Nat} (hi : i ∈ thr F 17) : (i = 1 → (F.P i).l = 1) ∧ (i ≠ 1 → (F.P i).l = (cn (tgt F (thr F 17)) (i : Int) : Int)) ∧ ((F.P i).l = 0 → (F.P i).h ≠ 0) := by
  refine ⟨?_, fun h => ?_, fun h => ?_⟩
  · rintro rfl
    exact (H.dir 1 H.root).2.2
  · rw [cn_tgt H i 17]
    exact S.l i h
  · have := H.lh i (mem_thr.1 hi).2
    omega

theorem tgt_len {F : Fs} (H : FOk F) : ∀ is : List Nat, (tgt F is).length ≤ 6 * is.length
  | [] => Nat.le_refl _
  | i :: r => by
    have h1 := H.len i
    have h2 := tgt_len H r
    unfold tgt at h2 ⊢
    rw [List.flatMap_cons, List.length_append, List.length_cons]
    have : (tq (F.P i)).length = (F.P i).Q.length := by unfold tq; rw [List.length_map]
    omega
theorem W64.nat {i : Nat} (h : i < 1000000) : W64 (i : Int) := ⟨by omega, by omega⟩

set_option maxHeartbeats 8000000 in
theorem links_road (al : Option Addr) (ll cl : Nat) (w : World) (hd : DosS w al ll) (hll : ll ≤ cl) (hcl : cl ≤ 9223372036854775807) :
    Calls Tryz.prog 4 #[.slice al ll cl] w fun e w' => e = .returned (.bool true) ∧ Below w.heap.size w w' := by
  have kP := hid (played_any al ll cl w hd hll hcl)
  clear hd
  go_enter Tryz.func4, Tryz.ntmps4
  go_wp2_with fail
  refine kP.out.mono ?_
  rintro e w1 ⟨⟨p, G, F, rfl, h1, h2, h3, h4⟩, hb1⟩
  have HF := hid h2
  have HS := hid h3
  have kL := hid (look_read p F G w1 h1 h2)
  have HB1 := hid hb1
  clear h1 h2 h3 h4 hb1 kP
  go_wp2_with fail
  refine kL.out.mono ?_
  rintro e w2 ⟨⟨a, c, rfl, hN⟩, hb2⟩
  obtain ⟨n, gn⟩ : ∃ n, n = (thr F 17).length := ⟨_, rfl⟩
  have hn17 : n ≤ 17 := by rw [gn]; exact thr_len F 17
  have HN := hid hN
  have HB2 : Hid (Below w.heap.size w w2) := hid (HB1.out.trans (hb2.mono HB1.out.size))
  rw [← gn]
  have GN := hid gn
  clear hN hb2 kL gn HB1
  have hmm := @run_makeMap Tryz.prog
  go_wp2_with fail
  clear hmm
  have HI : Hid (Oc ((w2.alloc (.map #[] 0)).alloc (.map #[] 0)) w2.heap.size 0 0 (fun _ => 0) ∧ Ob ((w2.alloc (.map #[] 0)).alloc (.map #[] 0)) (w2.heap.size + 1) 0 [] ∧ Below w2.heap.size w2 ((w2.alloc (.map #[] 0)).alloc (.map #[] 0))) := by
    have e1 := (Oc.none w2).upd (Upd.alloc (F := fun _ => False) (w2.alloc (.map #[] 0)) (.map #[] 0)) (fun h => h)
    have e2 := Ob.none (w2.alloc (.map #[] 0))
    rw [show (w2.alloc (.map #[] 0)).heap.size = w2.heap.size + 1 by simp] at e2
    exact hid ⟨e1, e2, ((Below.refl _ _).alloc (Nat.le_refl _) _).trans ((Below.refl _ _).alloc (by simp) _)⟩
  generalize (w2.alloc (.map #[] 0)).alloc (.map #[] 0) = w3 at HI ⊢
  go_loopw [21] (fun v21 wr => ∃ t : Nat, t ≤ n ∧ v21 = .int .i64 (t : Int) ∧ Hid (∃ N, Oc wr w2.heap.size (6 * t) N (cn (tgt F ((thr F 17).take t)))) ∧ Hid (Ob wr (w2.heap.size + 1) t (((thr F 17).take t).map fun i : Nat => (i : Int))) ∧ Hid (Below w2.heap.size w2 wr)) (fun v21 _ => n - (intOf v21).toNat)
  case atStart => exact ⟨0, by omega, rfl, hid ⟨0, HI.out.1⟩, hid HI.out.2.1, hid HI.out.2.2⟩
  case round =>
    clear HI
    obtain ⟨t, htn, rfl, HC, HT, HW⟩ := hrel
    rename World => wr
    by_cases hlt : t < n
    · have htl : t < (thr F 17).length := by rw [← GN.out]; exact hlt
      obtain ⟨q, o, rfl, hq, hh⟩ := HN.out (by omega)
      obtain ⟨ba, bc, na, nc, ma, mc, D0⟩ := hh t htl
      have hmem : (thr F 17)[t] ∈ thr F 17 := List.getElem_mem htl
      have HTK : Hid ((thr F 17).take (t + 1) = (thr F 17).take t ++ [(thr F 17)[t]]) := hid (take_snoc _ _ htl)
      generalize (thr F 17)[t] = i at D0 hmem HTK
      have hi17 := (mem_thr.1 hmem).1
      obtain ⟨y, gy⟩ : ∃ y, y = F.P i := ⟨_, rfl⟩
      have hq6 : y.Q.length ≤ 6 := by rw [gy]; exact HF.out.len i
      have HNM : Hid (∀ x ∈ y.Q, x.2 < 17) := by rw [gy]; exact hid (fun x hx => (HF.out.nm i x hx).2.1)
      have HTG : Hid (tgt F ((thr F 17).take (t + 1)) = tgt F ((thr F 17).take t) ++ tq y) := by
        rw [HTK.out, gy]
        exact hid (by unfold tgt; rw [List.flatMap_append]; simp)
      have HTL : Hid ((tgt F ((thr F 17).take t)).length ≤ 6 * t) := hid (by have := tgt_len HF.out ((thr F 17).take t); rw [List.length_take] at this; omega)
      rw [← gy] at D0
      have HRM := hid D0.rM
      have D := D0.below HW.out hq
      have c0 := D.c0
      have c1 := D.c1
      have c2 := D.c2
      have c3 := D.c3
      have c4 := D.c4
      have c5 := D.c5
      have c6 := D.c6
      have c7 := D.c7
      clear gy hmem D D0 hh
      obtain ⟨lq, glq⟩ : ∃ lq, lq = y.Q.length := ⟨_, rfl⟩
      have GLQ := hid glq
      rw [← glq] at c6 c7 HRM hq6
      obtain ⟨sz, gsz⟩ : ∃ sz, sz = (y.c.length : Int) + (y.Q.length : Int) := ⟨_, rfl⟩
      rw [← gsz] at c3
      clear gsz glq
      generalize y.k = yk at c1
      generalize y.l = yl at c2
      generalize y.h = yh at c4
      generalize y.B.length = lb at c5
      have hX : Upd (fun _ => False) wr (wr.alloc (.cells #[.int .i64 (i : Int), .int .i64 yk, .int .i64 yl, .int .i64 sz, .int .i64 yh, .slice ba lb bc, .slice na lq nc, .slice ma lq mc] 44)) := Upd.alloc _ _ _
      have hrow := heap_alloc_new wr (.cells #[.int .i64 (i : Int), .int .i64 yk, .int .i64 yl, .int .i64 sz, .int .i64 yh, .slice ba lb bc, .slice na lq nc, .slice ma lq mc] 44)
      have hbX : Below wr.heap.size wr (wr.alloc (.cells #[.int .i64 (i : Int), .int .i64 yk, .int .i64 yl, .int .i64 sz, .int .i64 yh, .slice ba lb bc, .slice na lq nc, .slice ma lq mc] 44)) := (Below.refl _ _).alloc (Nat.le_refl _) _
      have hms := HT.out.lt
      have hlt0 : wr.heap.size < (wr.alloc (.cells #[.int .i64 (i : Int), .int .i64 yk, .int .i64 yl, .int .i64 sz, .int .i64 yh, .slice ba lb bc, .slice na lq nc, .slice ma lq mc] 44)).heap.size := by simp
      have hws := HW.out.size
      obtain ⟨w4, hup, hO4, hU4⟩ := ob_put (HT.out.upd hX (fun h => h)) (W64.nat (i := i) (by omega)) (by show t < maxLen; unfold maxLen; omega)
      have HO4 : Hid (Ob w4 (w2.heap.size + 1) (t + 1) (((thr F 17).take (t + 1)).map fun i : Nat => (i : Int))) := hid (by rw [HTK.out, List.map_append]; exact hO4)
      have HC4 : Hid (∃ N, Oc w4 w2.heap.size (6 * t + 0) N (cn (tgt F ((thr F 17).take t) ++ (tq y).take 0))) := by
        obtain ⟨N, hN⟩ := HC.out
        exact hid ⟨N, by rw [List.take_zero, List.append_nil]; exact (hN.upd hX (fun h => h)).upd hU4 (by omega)⟩
      have HW4 : Hid (Below w2.heap.size w2 w4) := hid (HW.out.trans ((hbX.mono HW.out.size).trans (hU4.below (by omega) (fun b hb => by omega))))
      have d7 : w4.cell? ⟨wr.heap.size, 7, none⟩ = some (.slice ma lq mc) := by
        rw [World.cell?_of_block (a := ⟨wr.heap.size, 7, none⟩) (hU4.block wr.heap.size hlt0 (by omega)), cell_of_row _ _ 7 _ _ _ hrow]; rfl
      clear hX hrow hbX hO4 hU4 hlt0 HT HC
      go_wp2_with fail
      clear hup c0 c1 c2 c3 c4 c5 c6 c7 d7
      go_loopw [31] (fun v31 wx => ∃ j : Nat, j ≤ lq ∧ v31 = .int .i64 (j : Int) ∧ Hid (∃ N, Oc wx w2.heap.size (6 * t + j) N (cn (tgt F ((thr F 17).take t) ++ (tq y).take j))) ∧ Hid (Ob wx (w2.heap.size + 1) (t + 1) (((thr F 17).take (t + 1)).map fun i : Nat => (i : Int))) ∧ Hid (Below w2.heap.size w2 wx)) (fun v31 _ => lq - (intOf v31).toNat)
      case atStart => exact ⟨0, by omega, rfl, HC4, HO4, HW4⟩
      case round =>
        clear HC4 HO4 HW4
        obtain ⟨j, hj, rfl, HC5, HO5, HW5⟩ := hrel
        rename World => wx
        by_cases hjl : j < lq
        · have R5 := HRM.out.below HW5.out
          obtain ⟨mq, mo, rfl, hmq, hmc⟩ := R5.2 (by omega)
          have hz : j < (y.Q.map ndV).length := by rw [R5.1]; exact hjl
          have hzq : j < y.Q.length := by rw [← GLQ.out]; exact hjl
          have e1 := hmc j hz
          rw [List.getElem_map] at e1
          have hxj := HNM.out _ (List.getElem_mem hzq)
          have HTQ : Hid ((tq y).take (j + 1) = (tq y).take j ++ [((y.Q[j]).2 : Int)]) := hid (by
            have hl : j < (tq y).length := by unfold tq; rw [List.length_map]; exact hzq
            have h9 : (tq y)[j] = ((y.Q[j]).2 : Int) := by simp [tq]
            rw [take_snoc _ _ hl, h9])
          have e2 : wx.cell? ⟨mq, mo + j, none⟩ = some (.int .i64 ((y.Q[j]).2 : Int)) := e1
          generalize (y.Q[j]).2 = xj at e2 hxj HTQ
          clear e1 hmc hz R5
          obtain ⟨N, hO⟩ := HC5.out
          have hlk := oc_look hO (W64.nat (i := xj) (by omega))
          have hlen : (tgt F ((thr F 17).take t) ++ (tq y).take j).length ≤ 6 * t + j := by
            have := HTL.out
            rw [List.length_append, List.length_take]; omega
          have hcl : cn (tgt F ((thr F 17).take t) ++ (tq y).take j) (xj : Int) ≤ 1000 := by
            have : cn (tgt F ((thr F 17).take t) ++ (tq y).take j) (xj : Int) ≤ (tgt F ((thr F 17).take t) ++ (tq y).take j).length := List.count_le_length
            omega
          obtain ⟨w6, hup, hO6, hU6⟩ := oc_inc hO (W64.nat (i := xj) (by omega)) (by show 6 * t + j < maxLen; unfold maxLen; omega) (by omega)
          have hm1 := hO.lt
          have HC6 : Hid (∃ N, Oc w6 w2.heap.size (6 * t + (j + 1)) N (cn (tgt F ((thr F 17).take t) ++ (tq y).take (j + 1)))) := hid ⟨_, by rw [HTQ.out, ← List.append_assoc, cn_snoc]; exact hO6⟩
          have HO6 : Hid (Ob w6 (w2.heap.size + 1) (t + 1) (((thr F 17).take (t + 1)).map fun i : Nat => (i : Int))) := hid (HO5.out.upd hU6 (by omega))
          have HW6 : Hid (Below w2.heap.size w2 w6) := hid (HW5.out.trans (hU6.below HW5.out.size (fun b hb => by omega)))
          have hwr : IntKind.i64.wrap ((cn (tgt F ((thr F 17).take t) ++ (tq y).take j) (xj : Int) : Int) + 1) = (cn (tgt F ((thr F 17).take t) ++ (tq y).take j) (xj : Int) : Int) + 1 := by rw [IntKind.wrap_i64]; omega
          generalize (cn (tgt F ((thr F 17).take t) ++ (tq y).take j) (xj : Int) : Int) = fi at hlk hup hwr
          clear hO hO6 hU6 hlen hcl hm1 HC5 HO5 HW5 hzq
          go_wp2_with fail
          go_roundw
          case rel => exact ⟨j + 1, by omega, by go_num, HC6, HO6, HW6⟩
          case measure => simp [intOf]; omega
        · obtain rfl : j = lq := by omega
          have HC6 : Hid (∃ N, Oc wx w2.heap.size (6 * (t + 1)) N (cn (tgt F ((thr F 17).take (t + 1))))) := by
            obtain ⟨N, hN⟩ := HC5.out
            refine hid ⟨N, ?_⟩
            rw [List.take_of_length_le (l := tq y) (by unfold tq; rw [List.length_map, GLQ.out]; exact Nat.le_refl _), ← HTG.out] at hN
            exact hN.mono (by omega)
          clear HC5
          go_wp2_with fail
          go_roundw
          case rel => exact ⟨t + 1, by omega, by go_num, HC6, HO5, HW5⟩
          case measure => simp [intOf]; omega
    · obtain rfl : t = n := by omega
      have HCn : Hid (∃ N, Oc wr w2.heap.size (6 * t) N (cn (tgt F (thr F 17)))) := by
        have := HC.out
        rw [List.take_of_length_le (by rw [GN.out]; exact Nat.le_refl _)] at this
        exact hid this
      have HTn : Hid (Ob wr (w2.heap.size + 1) t ((thr F 17).map fun i : Nat => (i : Int))) := by
        have := HT.out
        rw [List.take_of_length_le (by rw [GN.out]; exact Nat.le_refl _)] at this
        exact hid this
      clear HC HT hlt htn
      go_wp2_with fail
      go_loopw [43] (fun v43 wx => ∃ j : Nat, j ≤ t ∧ v43 = .int .i64 (j : Int) ∧ Hid (Below wr.heap.size wr wx)) (fun v43 _ => t - (intOf v43).toNat)
      case atStart => exact ⟨0, by omega, rfl, hid (Below.refl _ _)⟩
      case round =>
        obtain ⟨j, hj, rfl, HX⟩ := hrel
        rename World => wx
        by_cases hjl : j < t
        · have htl : j < (thr F 17).length := by rw [← GN.out]; exact hjl
          obtain ⟨q, o, rfl, hq, hh⟩ := HN.out (by omega)
          obtain ⟨ba, bc, na, nc, ma, mc, D0⟩ := hh j htl
          have hmem : (thr F 17)[j] ∈ thr F 17 := List.getElem_mem htl
          generalize (thr F 17)[j] = i at D0 hmem
          have hi17 := (mem_thr.1 hmem).1
          have hlk0 := links_ok HF.out HS.out hmem
          generalize F.P i = y at D0 hlk0
          have D := D0.below (HW.out.trans (HX.out.mono HW.out.size)) hq
          have c0 := D.c0
          have c1 := D.c1
          have c2 := D.c2
          have c3 := D.c3
          have c4 := D.c4
          have c5 := D.c5
          have c6 := D.c6
          have c7 := D.c7
          clear hmem D D0 hh htl
          generalize y.Q.length = lq at c6 c7 c3
          generalize (y.c.length : Int) + (lq : Int) = sz at c3
          generalize y.k = yk at c1
          generalize y.l = yl at c2 hlk0
          generalize y.h = yh at c4 hlk0
          generalize y.B.length = lb at c5
          have hX1 : Below wx.heap.size wx (wx.alloc (.cells #[.int .i64 (i : Int), .int .i64 yk, .int .i64 yl, .int .i64 sz, .int .i64 yh, .slice ba lb bc, .slice na lq nc, .slice ma lq mc] 44)) := (Below.refl _ _).alloc (Nat.le_refl _) _
          have HX1 : Hid (Below wr.heap.size wr (wx.alloc (.cells #[.int .i64 (i : Int), .int .i64 yk, .int .i64 yl, .int .i64 sz, .int .i64 yh, .slice ba lb bc, .slice na lq nc, .slice ma lq mc] 44))) := hid (HX.out.trans (hX1.mono HX.out.size))
          obtain ⟨N, hO⟩ := HCn.out
          have hlk := oc_look (hO.upd (Upd.of_below (F := fun _ => False) HX1.out) (fun h => h)) (W64.nat (i := i) (by omega))
          clear hX1 hO
          by_cases hi1 : i = 1
          · have hyl := hlk0.1 hi1
            subst hyl
            subst hi1
            rw [show ((1 : Nat) : Int) = 1 from rfl] at hlk
            generalize (cn (tgt F (thr F 17)) 1 : Int) = fi at hlk
            clear hlk0
            go_wp2_with fail
            go_roundw
            case rel => exact ⟨j + 1, by omega, by go_num, HX1⟩
            case measure => simp [intOf]; omega
          · have hyl := hlk0.2.1 hi1
            have hy0 := hlk0.2.2
            rw [← hyl] at hlk
            have hx1 : ((i : Int) == 1) = false := by simp; omega
            clear hlk0 hyl
            by_cases h0 : yl = 0
            · have hy1 : (yh == 0) = false := by simpa using hy0 h0
              subst h0
              clear hy0
              go_wp2_with fail
              go_roundw
              case rel => exact ⟨j + 1, by omega, by go_num, HX1⟩
              case measure => simp [intOf]; omega
            · have hy1 : (yl == 0) = false := by simpa using h0
              clear hy0 h0
              go_wp2_with fail
              go_roundw
              case rel => exact ⟨j + 1, by omega, by go_num, HX1⟩
              case measure => simp [intOf]; omega
        · obtain rfl : j = t := by omega
          obtain ⟨N, hO⟩ := HCn.out
          obtain ⟨D, hown, hD⟩ := hO.upd (Upd.of_below (F := fun _ => False) HX.out) (fun h => h)
          have HD := hid hD
          have HTx : Hid (Ob wx (w2.heap.size + 1) j ((thr F 17).map fun i : Nat => (i : Int))) := hid (HTn.out.upd (Upd.of_below (F := fun _ => False) HX.out) (fun h => h))
          have HBx : Hid (Below w.heap.size w wx) := hid (HB2.out.trans ((HW.out.mono HB2.out.size).trans (HX.out.mono (Nat.le_trans HB2.out.size HW.out.size))))
          clear hO hD HTn HCn hjl hj HX
          go_wp2_with (first
            | (at_range; refine wpList_range_own _ rfl _ 39 rfl 3 3 kint Tryz.underlying39 _ w2.heap.size (6 * j) D rfl hown ?_; intro w0 hrg0 hg0 hs0)
            | go_in)
          go_frame
          have HU0 : Hid (Upd (fun _ => False) wx w0) := hid ((Upd.of_grown hg0).mono (fun x _ h => by cases h))
          go_loopw [80] (fun _ wy => ∃ (left : Lit → Bool) (cnt : Nat), wy.ranges Tryz.prog 3 (plainElem Tryz.prog 3) w2.heap.size wx.heap.size (6 * j) D left cnt ∧ Hid (Upd (fun _ => False) wx wy))
            (fun _ wy => wy.rangeLeft w2.heap.size wx.heap.size)
          case atStart => exact ⟨_, _, hrg0, HU0⟩
          case round =>
            obtain ⟨left, cnt, hrg, HU⟩ := hrel
            rename World => wy
            clear hrg0 hg0 hs0 HU0
            go_wp2_with (first
              | (at_next; refine wpList_next_ranges_ii _ rfl _ rfl 3 3 .i64 .i64 kint Tryz.underlying3 Tryz.underlying3 w2.heap.size wx.heap.size (6 * j) _ _ _ rfl hrg ?_ ?_)
              | go_in)
            · intro hc0 hl0
              have hl1 := ob_look (HTx.out.upd HU.out (fun h => h)) (k := 1) ⟨by omega, by omega⟩
              rw [decide_eq_true (by
                refine List.mem_map.2 ⟨1, mem_thr.2 ⟨by omega, ?_⟩, rfl⟩
                rw [HF.out.root]; decide)] at hl1
              clear hl0
              go_wp2_with fail
              go_ret
              exact ⟨rfl, HBx.out.trans (HU.out.below HBx.out.size (fun _ h => h.elim))⟩
            · intro x cx w7 cnt1 hwx hwc hlx hat hrg1 hlt hg1 hs1 hen
              have hx := W64.of hwx
              have hFx : x ∈ tgt F (thr F 17) := by
                have h1 := Maps.has_true_of_atKey hat
                rw [(HD.out.2 x hx).1] at h1
                have h2 : cn (tgt F (thr F 17)) x ≠ 0 := by simpa using h1
                exact List.count_pos_iff.1 (Nat.pos_of_ne_zero h2)
              have HU1 : Hid (Upd (fun _ => False) wx w7) := hid (HU.out.trans (Upd.of_grown hg1) (fun y hy h => by injection h with h; omega))
              have hl1 := ob_look (HTx.out.upd HU1.out (fun h => h)) hx
              obtain ⟨i, rfl, hi1, hi2⟩ := mem_tgt HF.out hFx
              rw [decide_eq_true (List.mem_map.2 ⟨i, hi2, rfl⟩)] at hl1
              have hx1 : ((i : Int) == 1) = false := by simp; omega
              clear hat hwx hwc hlx hg1 hs1 hFx hi1 hi2 hx
              go_wp2_with fail
              go_roundw
              case rel => exact ⟨_, cnt1, hrg1, HU1⟩
              case measure => rw [hrg1.left_eq, hrg.left_eq]; exact hlt

end Go.Proofs.YtliekndkjjaldaaGreat
