/- How many bytes an argument has: the program's Size. -/
import Derived.Test.YtkgejeamcgodhaaGSz2
import Derived.Test.YtkgejeamcgodhaaGCan5
namespace Go.Proofs.Ytkgejeamcgodhaa
open Go.RowKit
set_option linter.unusedVariables false
set_option maxRecDepth 20000

set_option maxHeartbeats 8000000 in
theorem one_any (n : Int) (h : Hd) (w : World) : Calls Try.prog 31 #[.int .i64 n, .agg #[.int .i64 h.k, .int .i64 h.v, .slice h.ka h.kn h.kc, .slice h.ba h.bn h.bc]] w fun e w' => ∃ g g', e = .returned (.agg #[.slice (some ⟨g, 0, none⟩) 1 1, .slice (some ⟨g', 0, none⟩) 1 1, .slice none 0 0]) ∧ HdAt w' g 0 h ∧ g < w'.heap.size ∧ Ints w' (some ⟨g', 0, none⟩) [n] ∧ g' < w'.heap.size ∧ Below w.heap.size w w' := by
  obtain ⟨ak, av, ka, kn, kc, ba, bn, bc, bs⟩ := h
  dsimp only at *
  go_enter Try.func31, Try.ntmps31
  go_wp2_with fail
  refine bodyPost_ret (cell_result rfl _ _ (w.heap.size + 1) 0 rfl [.slice (some ⟨w.heap.size + 1 + 1, 0, none⟩) 1 1, .slice (some ⟨w.heap.size + 1 + 1 + 1, 0, none⟩) 1 1, .slice none 0 0] _ (rangeAt_block (t := 58) (heap4 w _ _ _ _).2.1) Try.underlying58 rfl csizeR) rfl ?_
  refine ⟨w.heap.size + 1 + 1, w.heap.size + 1 + 1 + 1, rfl, ⟨cell_of_row _ _ 0 _ _ _ (heap4 w _ _ _ _).2.2.1, cell_of_row _ _ (0 + 1) _ _ _ (heap4 w _ _ _ _).2.2.1, cell_of_row _ _ (0 + 2) _ _ _ (heap4 w _ _ _ _).2.2.1, cell_of_row _ _ (0 + 3) _ _ _ (heap4 w _ _ _ _).2.2.1⟩, by simp, fun _ => ⟨w.heap.size + 1 + 1 + 1, 0, rfl, by simp, fun j hj => ?_⟩, by simp, alloc4 w _ _ _ _⟩
  obtain rfl : j = 0 := by simpa using hj
  exact cell_of_row _ _ (0 + 0) _ _ _ (heap4 w _ _ _ _).2.2.2

set_option maxHeartbeats 4000000 in
theorem hasty_any (a : Option Addr) (m c : Nat) (a2 : Option Addr) (m2 c2 : Nat) (l : List Ty) (q : List Cl) (n : Int) (w : World) (h : Tys w a l) (hm : l.length = m) (h2 : Cls w a2 q) (hm2 : q.length = m2) (hc : m ≤ 9223372036854775807) (hc2 : m2 ≤ 9223372036854775807) :
    Calls Try.prog 30 #[.agg #[.slice a m c, .slice a2 m2 c2], .int .i64 n] w fun e w' => e = .returned (.bool (canB l q && decide (0 ≤ n ∧ n < (m : Int)))) ∧ Below w.heap.size w w' := by
  have k1 := hid (fun o => pcan_any a m c a2 m2 c2 l q (w.alloc o) (h.below (below_box w o)) hm (h2.below (below_box w o)) hm2 hc hc2)
  clear h hm h2 hm2
  obtain ⟨D, gD⟩ : ∃ D, D = decide (0 ≤ n ∧ n < (m : Int)) := ⟨_, rfl⟩
  rw [← gD]
  have HD := hid gD
  clear gD
  generalize canB l q = B at *
  go_enter Try.func30, Try.ntmps30
  go_wp2_with fail
  refine (k1.out _).mono ?_
  rintro e w1 ⟨rfl, hb1⟩
  obtain ⟨hc1, hf1⟩ := bcell hb1
  have u1 : Hid (Below w.heap.size w w1) := hid ((below_box w _).trans (hb1.mono (below_box w _).size))
  clear hb1
  cases B
  · go_wp2_with fail
    go_ret
    exact ⟨rfl, u1.out⟩
  · go_wp2_with fail
    all_goals
      go_ret
      refine ⟨ret_bool ?_, u1.out⟩
      rw [HD.out, Bool.eq_iff_iff]
      first | (simp [*]; done) | (simp [*]; omega)

/-- What Size answers. -/
def sizeR (l : List Ty) (q : List Cl) (d : Nat) (n : Int) (A : Ar) : Int × Int :=
  if canB l q = true ∧ 0 ≤ n ∧ n < (l.length : Int) then (if chk l d n A = 0 then (wrap64 (szA l d n A), 0) else (0, chk l d n A)) else (0, 1)

theorem can_good {l : List Ty} {q : List Cl} (h : canB l q = true) : Good l := by
  unfold canB at h
  simp only [Bool.and_eq_true] at h
  exact good_of h.1.2

theorem chkL_one (l : List Ty) (d : Nat) (n : Int) (A : Ar) : chkL (chk l d) [n] [A] = chk l d n A := by
  simp only [chkL]
  split <;> simp_all
theorem szL_one (l : List Ty) (d : Nat) (n : Int) (A : Ar) : szL (szA l d) [n] [A] = szA l d n A := by simp [szL]

set_option maxHeartbeats 8000000 in
theorem psize_any (a : Option Addr) (m c : Nat) (a2 : Option Addr) (m2 c2 : Nat) (l : List Ty) (q : List Cl) (d : Nat) (n : Int) (A : Ar) (w : World) (h : Tys w a l) (hm : l.length = m) (h2 : Cls w a2 q) (hm2 : q.length = m2) (hc : m ≤ 9223372036854775807) (hc2 : m2 ≤ 9223372036854775807) (hA : Okd d w A) :
    Calls Try.prog 10 #[.agg #[.slice a m c, .slice a2 m2 c2], .int .i64 n, .agg #[.int .i64 A.h.k, .int .i64 A.h.v, .slice A.h.ka A.h.kn A.h.kc, .slice A.h.ba A.h.bn A.h.bc]] w fun e w' => e = .returned (.tuple #[.int .i64 (sizeR l q d n A).1, .int .i64 (sizeR l q d n A).2]) ∧ Below w.heap.size w w' := by
  have k1 := hid (fun o o' => hasty_any a m c a2 m2 c2 l q n ((w.alloc o).alloc o') (h.below (below_box2 w o o')) hm (h2.below (below_box2 w o o')) hm2 hc hc2)
  have k2 := hid (fun wx => one_any n A.h wx)
  by_cases hok : canB l q = true ∧ 0 ≤ n ∧ n < (m : Int)
  · have hD : decide (0 ≤ n ∧ n < (m : Int)) = true := decide_eq_true hok.2
    rw [hok.1, hD] at k1
    have hG := can_good hok.1
    have HSR : Hid (sizeR l q d n A = if chk l d n A = 0 then (wrap64 (szA l d n A), 0) else (0, chk l d n A)) := hid (by
      unfold sizeR
      rw [if_pos (by rw [hm]; exact hok)])
    generalize sizeR l q d n A = SR at *
    obtain ⟨R1, R2⟩ := SR
    dsimp only
    have hah : ahead m [n] = true := by unfold ahead; simp; exact hok.2
    have k3 := hid (fun wx g g' (hb : Below w.heap.size w wx) (e1 : HdAt wx g 0 A.h) (e2 : g < wx.heap.size) (e3 : Ints wx (some ⟨g', 0, none⟩) [n]) (e4 : g' < wx.heap.size) =>
      first_any a m c a2 m2 c2 l d (some ⟨g, 0, none⟩) 1 1 (some ⟨g', 0, none⟩) 1 1 none 0 0 [A] [n] wx (h.below hb) hm hc hG ⟨fun _ => ⟨g, 0, rfl, e2, fun j hj => by
        obtain rfl : j = 0 := by simpa using hj
        exact ⟨e1, Okd.below hb d A hA⟩⟩, rfl, Nat.le_refl _, by omega, e3, rfl, rfl, hah, fun b o e => by cases e; exact e4⟩)
    have k4 := hid (fun (h0 : chk l d n A = 0) wx g g' (hb : Below w.heap.size w wx) (e1 : HdAt wx g 0 A.h) (e2 : g < wx.heap.size) (e3 : Ints wx (some ⟨g', 0, none⟩) [n]) (e4 : g' < wx.heap.size) =>
      size_any a m c a2 m2 c2 l d (some ⟨g, 0, none⟩) 1 1 (some ⟨g', 0, none⟩) 1 1 none 0 0 [A] [n] wx (h.below hb) hm hc hG ⟨fun _ => ⟨g, 0, rfl, e2, fun j hj => by
        obtain rfl : j = 0 := by simpa using hj
        exact ⟨e1, Okd.below hb d A hA⟩⟩, rfl, Nat.le_refl _, by omega, e3, rfl, rfl, hah, fun b o e => by cases e; exact e4⟩ (by rw [chkL_one]; exact h0))
    rw [chkL_one] at k3
    rw [szL_one] at k4
    generalize chk l d n A = CH at *
    generalize wrap64 (szA l d n A) = SZ at *
    have hkm := hA.hd.km
    clear h hm h2 hm2 hA hok hG hah hD
    generalize A.h = hh at *
    go_enter Try.func10, Try.ntmps10
    go_wp2_with fail
    refine (k1.out _ _).mono ?_
    rintro e w1 ⟨rfl, hb1⟩
    have u1 : Hid (Below w.heap.size w w1) := hid ((below_box2 w _ _).trans (hb1.mono (below_box2 w _ _).size))
    have hs1 : w.heap.size + 1 < w1.heap.size := by have := hb1.size; simp at this; omega
    have c0 : w1.heap[w.heap.size]? = some (.cells #[.slice a m c, .slice a2 m2 c2] 25 (0, 0)) := by
      rw [hb1.block _ (by simp; omega), (below_box _ _).block _ (by simp)]; exact heap_alloc_new _ _
    have c1 : w1.heap[w.heap.size + 1]? = some (.cells #[.int .i64 hh.k, .int .i64 hh.v, .slice hh.ka hh.kn hh.kc, .slice hh.ba hh.bn hh.bc] 30 (0, 0)) := by
      rw [hb1.block _ (by simp)]
      have := heap_alloc_new (w.alloc (.cells #[.slice a m c, .slice a2 m2 c2] 25)) (.cells #[.int .i64 hh.k, .int .i64 hh.v, .slice hh.ka hh.kn hh.kc, .slice hh.ba hh.bn hh.bc] 30)
      simpa using this
    have d0 : w1.cell? ⟨w.heap.size + 1, 0, none⟩ = some (.int .i64 hh.k) := cell_of_row _ _ 0 _ _ _ c1
    have d1 : w1.cell? ⟨w.heap.size + 1, 1, none⟩ = some (.int .i64 hh.v) := cell_of_row _ _ 1 _ _ _ c1
    have d2 : w1.cell? ⟨w.heap.size + 1, 2, none⟩ = some (.slice hh.ka hh.kn hh.kc) := cell_of_row _ _ 2 _ _ _ c1
    have d3 : w1.cell? ⟨w.heap.size + 1, 3, none⟩ = some (.slice hh.ba hh.bn hh.bc) := cell_of_row _ _ 3 _ _ _ c1
    have C0 := hid c0
    clear c0 c1 hb1
    go_wp2_with fail
    refine (k2.out _).mono ?_
    rintro e w2 ⟨g, g', rfl, e1, e2, e3, e4, hb2⟩
    have u2 : Hid (∀ o, Below w1.heap.size w1 (w2.alloc o)) := hid (fun o => hb2.trans ((below_box w2 o).mono hb2.size))
    have hs2 : w1.heap.size ≤ w2.heap.size := hb2.size
    have k3' := hid (fun o => k3.out (w2.alloc o) g g' (u1.out.trans ((u2.out o).mono u1.out.size)) (e1.blk ((below_box w2 o).block g e2)) (Nat.lt_of_lt_of_le e2 (below_box w2 o).size) (e3.below (below_box w2 o)) (Nat.lt_of_lt_of_le e4 (below_box w2 o).size))
    have k4' := hid (fun (h0 : CH = 0) wx (hb : Below w2.heap.size w2 wx) => k4.out h0 wx g g' (u1.out.trans ((hb2.trans (hb.mono hb2.size)).mono u1.out.size)) (e1.blk (hb.block g e2)) (Nat.lt_of_lt_of_le e2 hb.size) (e3.below hb) (Nat.lt_of_lt_of_le e4 hb.size))
    have C2 : Hid (w2.heap[w.heap.size]? = some (.cells #[.slice a m c, .slice a2 m2 c2] 25 (0, 0))) := hid ((hb2.block _ (by omega)).trans C0.out)
    have f0 : w2.cell? ⟨w.heap.size, 0, none⟩ = some (.slice a m c) := cell_of_row _ _ 0 _ _ _ C2.out
    have f1 : w2.cell? ⟨w.heap.size, 1, none⟩ = some (.slice a2 m2 c2) := cell_of_row _ _ 1 _ _ _ C2.out
    have hws : w.heap.size < w2.heap.size := by omega
    have B2 := hid hb2
    clear k1 k2 k3 k4 e1 e2 e3 e4 d0 d1 d2 d3 hb2
    go_wp2_with fail
    refine (k3'.out _).mono ?_
    rintro e w3 ⟨rfl, hb3⟩
    have hq3 := (hb3.block w2.heap.size (by simp)).trans (heap_alloc_new w2 _)
    have ht3 : w3.heap[w.heap.size]? = some (.cells #[.slice a m c, .slice a2 m2 c2] 25 (0, 0)) := (hb3.block _ (by simp; omega)).trans (((below_box w2 _).block _ hws).trans C2.out)
    have U3 : Hid (Below w2.heap.size w2 w3) := hid ((below_box w2 _).trans (hb3.mono (below_box w2 _).size))
    have g0 : w3.cell? ⟨w.heap.size, 0, none⟩ = some (.slice a m c) := cell_of_row _ _ 0 _ _ _ ht3
    have g1 : w3.cell? ⟨w.heap.size, 1, none⟩ = some (.slice a2 m2 c2) := cell_of_row _ _ 1 _ _ _ ht3
    have g2 : w3.cell? ⟨w2.heap.size, 0, none⟩ = some (.slice (some ⟨g, 0, none⟩) 1 1) := cell_of_row _ _ 0 _ _ _ hq3
    have g3 : w3.cell? ⟨w2.heap.size, 1, none⟩ = some (.slice (some ⟨g', 0, none⟩) 1 1) := cell_of_row _ _ 1 _ _ _ hq3
    have g4 : w3.cell? ⟨w2.heap.size, 2, none⟩ = some (.slice none 0 0) := cell_of_row _ _ 2 _ _ _ hq3
    have U03 : Hid (Below w.heap.size w w3) := hid (u1.out.trans ((B2.out.trans (U3.out.mono B2.out.size)).mono u1.out.size))
    clear hb3 hq3 ht3 f0 f1 k3'
    by_cases h0 : CH = 0
    · subst h0
      have k5 := hid (k4'.out rfl w3 U3.out)
      clear k4'
      go_wp2_with fail
      refine k5.out.mono ?_
      rintro e w4 ⟨rfl, hb4⟩
      have hr : (R1, R2) = (SZ, (0 : Int)) := by simpa using HSR.out
      injection hr with hr1 hr2
      have HR1 := hid hr1
      have HR2 := hid hr2
      clear hr1 hr2 HSR
      go_wp2_with fail
      go_ret2
      exact ⟨by rw [HR1.out, HR2.out]; rfl, U03.out.trans (hb4.mono U03.out.size)⟩
    · have h1 : (CH != 0) = true := by simpa using h0
      have hr := HSR.out
      rw [if_neg h0] at hr
      injection hr with hr1 hr2
      have HR1 := hid hr1
      have HR2 := hid hr2
      clear hr1 hr2 HSR k4'
      go_wp2_with fail
      go_ret2
      exact ⟨by rw [HR1.out, HR2.out]; rfl, U03.out⟩
  · have hD : (canB l q && decide (0 ≤ n ∧ n < (m : Int))) = false := by
      cases hcb : canB l q with
      | false => rfl
      | true =>
        rw [Bool.true_and]
        exact decide_eq_false (fun hh => hok ⟨hcb, hh⟩)
    rw [hD] at k1
    have HSR : Hid (sizeR l q d n A = (0, 1)) := hid (by
      unfold sizeR
      rw [if_neg (by rw [hm]; exact hok)])
    generalize sizeR l q d n A = SR at *
    obtain ⟨R1, R2⟩ := SR
    dsimp only
    have hr := HSR.out
    injection hr with hr1 hr2
    have HR1 := hid hr1
    have HR2 := hid hr2
    clear hr1 hr2 HSR h hm h2 hm2 hA hok hD
    generalize A.h = hh at *
    go_enter Try.func10, Try.ntmps10
    go_wp2_with fail
    refine (k1.out _ _).mono ?_
    rintro e w1 ⟨rfl, hb1⟩
    have u1 : Hid (Below w.heap.size w w1) := hid ((below_box2 w _ _).trans (hb1.mono (below_box2 w _ _).size))
    clear hb1
    go_wp2_with fail
    go_ret2
    exact ⟨by rw [HR1.out, HR2.out]; rfl, u1.out⟩

end Go.Proofs.Ytkgejeamcgodhaa
