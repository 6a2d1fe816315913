/- The road of ProgLeast: whatever table and number came in, it returns true, and what was there stays. -/
import Derived.Test.YtkgejeamcgodhaaGRLeastA
import Derived.Test.YtkgejeamcgodhaaGSame
import Derived.Test.YtkgejeamcgodhaaGGreat
namespace Go.Proofs.Ytkgejeamcgodhaa
open Go.RowKit
set_option linter.unusedVariables false
set_option maxRecDepth 20000

theorem parts_few {l : List Ty} {q : List Cl} (he : ∀ T ∈ l, T.es.length = T.en ∧ T.en ≤ 17592186044416) (h : canB l q = true) : ∀ n, ∀ h : n < l.length, l[n].k = 8 → l[n].en ≤ 1048576 := by
  intro n hn hk
  unfold canB at h
  simp only [Bool.and_eq_true] at h
  have := few_parts l [] (fun x hx => by cases hx) h.1.2 he l[n] (List.getElem_mem hn) hk
  omega

theorem def_same {l : List Ty} {ok : Bool} {n : Int} {A B : Ar} (hA : DefA l ok n A) (hB : DefA l ok n B) : SameA (n.toNat + 1) A B := by
  cases ok with
  | true => exact lst_same l _ _ _ _ (hA.1 rfl) (hB.1 rfl)
  | false =>
    rw [hA.2 rfl, hB.2 rfl]
    exact ⟨rfl, rfl, rfl, trivial⟩

theorem krow_one {w : World} {b d : Nat} {A : Ar} {t : TypeId} (h : w.heap[b]? = some (.cells (arC A.h).toArray t (0, 0))) (hA : Okd d w A) : Krow d w (some ⟨b, 0, none⟩) [A] := fun _ =>
  ⟨b, 0, rfl, (Array.getElem?_eq_some_iff.1 h).1, fun j hj => by
    obtain rfl : j = 0 := by simpa using hj
    refine ⟨⟨?_, ?_, ?_, ?_⟩, hA⟩
    · exact cell_of_row _ _ 0 _ _ _ h
    · exact cell_of_row _ _ 1 _ _ _ h
    · exact cell_of_row _ _ 2 _ _ _ h
    · exact cell_of_row _ _ 3 _ _ _ h⟩

set_option maxHeartbeats 8000000 in
theorem least_road (a : Option Addr) (m c : Nat) (a2 : Option Addr) (m2 c2 : Nat) (l : List Ty) (q : List Cl) (n : Int) (w : World) (h : Tys w a l) (hm : l.length = m) (h2 : Cls w a2 q) (hm2 : q.length = m2) (hc : m ≤ 9223372036854775807) (hc2 : m2 ≤ 9223372036854775807) (he : ∀ T ∈ l, T.en ≤ 17592186044416) :
    Calls Try.prog 5 #[.agg #[.slice a m c, .slice a2 m2 c2], .int .i64 n] w fun e w' => e = .returned (.bool true) ∧ Below w.heap.size w w' := by
  have hEs : ∀ k (hk : k < l.length), l[k].es.length = l[k].en ∧ l[k].vs.length = l[k].vn ∧ l[k].ts.length = l[k].tn := fun k hk => by
    obtain ⟨b, o, _, _, hts⟩ := h (by omega)
    exact ⟨(hts k hk).2.el, (hts k hk).2.vl, (hts k hk).2.tl⟩
  have hE : canB l q = true → ∀ n, ∀ h : n < l.length, l[n].k = 8 → l[n].en ≤ 1048576 := parts_few fun T hT => by
    obtain ⟨k, hk, rfl⟩ := List.mem_iff_getElem.1 hT
    exact ⟨(hEs k hk).1, he _ (List.getElem_mem hk)⟩
  obtain ⟨ok, hok⟩ : ∃ ok, ok = (canB l q && decide (0 ≤ n ∧ n < (m : Int))) := ⟨_, rfl⟩
  have k1 := hid (fun wx (hb : Below w.heap.size w wx) => pdef_any a m c a2 m2 c2 l q n wx (h.below hb) hm (h2.below hb) hm2 hc hc2 hE ok hok)
  have k2 := hid (fun wx (hb : Below w.heap.size w wx) => rdef_any a m c a2 m2 c2 l q n wx (h.below hb) hm (h2.below hb) hm2 hc hc2 hE ok hok)
  have k4 := hid (fun A wx (hb : Below w.heap.size w wx) (hA : Okd (n.toNat + 1) wx A) => psize_any a m c a2 m2 c2 l q (n.toNat + 1) n A wx (h.below hb) hm (h2.below hb) hm2 hc hc2 hA)
  have kz : Hid (∀ A wx, Okd (n.toNat + 1) wx A → DefA l ok n A → ok = true → (sizeR l q (n.toNat + 1) n A).2 = 0) := hid (fun A wx hA hD ht => by
    have hD1 := hD.1 ht
    rw [hok] at ht
    simp only [Bool.and_eq_true, decide_eq_true_eq] at ht
    obtain ⟨t, rfl⟩ : ∃ t : Nat, n = (t : Int) := ⟨n.toNat, by omega⟩
    have := lst_chk l (can_good ht.1) hEs wx _ _ t A (by omega) hD1 hA
    unfold sizeR
    rw [if_pos ⟨ht.1, by omega, by omega⟩, if_pos this])
  clear hE hok h hm h2 hm2 hEs he
  obtain ⟨E, gE⟩ : ∃ E : Int, E = if ok = true then 0 else 1 := ⟨_, rfl⟩
  rw [← gE] at k1 k2
  obtain ⟨X0, gX0⟩ : ∃ X0, w.alloc (.cells #[.slice a m c, .slice a2 m2 c2] 25) = X0 := ⟨_, rfl⟩
  have hB0 : Below w.heap.size w X0 := by rw [← gX0]; exact below_box w _
  have x0 : X0.heap[w.heap.size]? = some (.cells #[.slice a m c, .slice a2 m2 c2] 25 (0, 0)) := by rw [← gX0]; exact heap_alloc_new _ _
  have k1' := hid (k1.out X0 hB0)
  have HB0 := hid hB0
  have HX0 := hid x0
  have GX0 := hid gX0
  have GE := hid gE
  clear k1 hB0 x0 gX0 gE
  go_enter Try.func5, Try.ntmps5
  go_wp2_with fail
  rw [GX0.out]
  refine k1'.out.mono ?_
  rintro e w1 ⟨A, rfl, hA, hDA, hb1⟩
  have hA' := Okb.okd _ _ hA
  obtain ⟨ha, gha⟩ : ∃ ha, A.h = ha := ⟨_, rfl⟩
  rw [gha]
  obtain ⟨X1, gX1⟩ : ∃ X1, w1.alloc (.cells #[.int .i64 ha.k, .int .i64 ha.v, .slice ha.ka ha.kn ha.kc, .slice ha.ba ha.bn ha.bc] 30) = X1 := ⟨_, rfl⟩
  have hB1 : Below w.heap.size w w1 := HB0.out.trans (hb1.mono HB0.out.size)
  have hbx1 : Below w1.heap.size w1 X1 := by rw [← gX1]; exact below_box w1 _
  have hBX1 : Below w.heap.size w X1 := hB1.trans (hbx1.mono hB1.size)
  have h0 : w.heap.size < X0.heap.size := (Array.getElem?_eq_some_iff.1 HX0.out).1
  have hw1 : w.heap.size < w1.heap.size := Nat.lt_of_lt_of_le h0 hb1.size
  have x1 : X1.heap[w.heap.size]? = some (.cells #[.slice a m c, .slice a2 m2 c2] 25 (0, 0)) := by
    rw [hbx1.block _ hw1, hb1.block _ h0]; exact HX0.out
  have a1 : X1.heap[w1.heap.size]? = some (.cells (arC ha).toArray 30 (0, 0)) := by rw [← gX1]; exact heap_alloc_new _ _
  have y0 : X1.cell? ⟨w.heap.size, 0, none⟩ = some (.slice a m c) := cell_of_row _ _ 0 _ _ _ x1
  have y1 : X1.cell? ⟨w.heap.size, 1, none⟩ = some (.slice a2 m2 c2) := cell_of_row _ _ 1 _ _ _ x1
  rw [← gX1] at y0 y1
  have k2' := hid (k2.out X1 hBX1)
  have HA1 := hid (Okd.below hbx1 _ _ hA')
  have HDA := hid hDA
  have HBX1 := hid hBX1
  have HX1 := hid x1
  have HAA := hid a1
  have GX1 := hid gX1
  have GHA := hid gha
  have hsX1 : X1.heap.size = w1.heap.size + 1 := by rw [← gX1]; simp
  have HSX1 := hid hsX1
  clear k1' k2 hA hA' hDA hb1 hB1 hbx1 hBX1 x1 a1 gX1 gha hsX1
  go_wp2_with fail
  rw [GX1.out]
  refine k2'.out.mono ?_
  rintro e w2 ⟨B, rfl, hB, hDB, hb2⟩
  have hB' := Oka.okd _ _ hB
  obtain ⟨hbb, ghb⟩ : ∃ hbb, B.h = hbb := ⟨_, rfl⟩
  rw [ghb]
  obtain ⟨X2, gX2⟩ : ∃ X2, w2.alloc (.cells #[.int .i64 hbb.k, .int .i64 hbb.v, .slice hbb.ka hbb.kn hbb.kc, .slice hbb.ba hbb.bn hbb.bc] 30) = X2 := ⟨_, rfl⟩
  have hbx2 : Below w2.heap.size w2 X2 := by rw [← gX2]; exact below_box w2 _
  have hb12 : Below X1.heap.size X1 X2 := hb2.trans (hbx2.mono hb2.size)
  have hBX2 : Below w.heap.size w X2 := HBX1.out.trans (hb12.mono HBX1.out.size)
  have hwX : w.heap.size < X1.heap.size := (Array.getElem?_eq_some_iff.1 HX1.out).1
  have haX : w1.heap.size < X1.heap.size := (Array.getElem?_eq_some_iff.1 HAA.out).1
  have x2 : X2.heap[w.heap.size]? = some (.cells #[.slice a m c, .slice a2 m2 c2] 25 (0, 0)) := (hb12.block _ hwX).trans HX1.out
  have a2' : X2.heap[w1.heap.size]? = some (.cells (arC ha).toArray 30 (0, 0)) := (hb12.block _ haX).trans HAA.out
  have b2 : X2.heap[w2.heap.size]? = some (.cells (arC hbb).toArray 30 (0, 0)) := by rw [← gX2]; exact heap_alloc_new _ _
  have hsX2 : X2.heap.size = w2.heap.size + 1 := by rw [← gX2]; simp
  -- the two lists
  obtain ⟨X4, gX4⟩ : ∃ X4, (X2.alloc (.cells (arC ha).toArray 30)).alloc (.cells (arC hbb).toArray 30) = X4 := ⟨_, rfl⟩
  have hbx4 : Below X2.heap.size X2 X4 := by rw [← gX4]; exact below_box2 X2 _ _
  have r1 : X4.heap[X2.heap.size]? = some (.cells (arC ha).toArray 30 (0, 0)) := by
    rw [← gX4, (below_box (X2.alloc _) _).block _ (by simp)]; exact heap_alloc_new _ _
  have r2 : X4.heap[X2.heap.size + 1]? = some (.cells (arC hbb).toArray 30 (0, 0)) := by
    have := heap_alloc_new (X2.alloc (.cells (arC ha).toArray 30)) (.cells (arC hbb).toArray 30)
    rw [← gX4]; simpa using this
  rw [hsX2] at r1 r2
  have hA4 : Okd (n.toNat + 1) X4 A := Okd.below (hb12.trans (hbx4.mono hb12.size)) _ _ HA1.out
  have hB4 : Okd (n.toNat + 1) X4 B := Okd.below (hbx2.trans (hbx4.mono hbx2.size)) _ _ hB'
  have k3 := hid (says_same (n.toNat + 1) (n.toNat + 1) (n.toNat + 1) (some ⟨w2.heap.size + 1, 0, none⟩) 1 1 (some ⟨w2.heap.size + 1 + 1, 0, none⟩) 1 1 [A] [B] X4 (krow_one (GHA.out ▸ r1) hA4) rfl (Nat.le_refl _) (by omega) (krow_one (ghb ▸ r2) hB4) rfl (Nat.le_refl _) (by omega) ⟨def_same HDA.out hDB, trivial⟩)
  have x4 : X4.heap[w.heap.size]? = some (.cells #[.slice a m c, .slice a2 m2 c2] 25 (0, 0)) := (hbx4.block _ (Array.getElem?_eq_some_iff.1 x2).1).trans x2
  have a4 : X4.heap[w1.heap.size]? = some (.cells (arC ha).toArray 30 (0, 0)) := (hbx4.block _ (Array.getElem?_eq_some_iff.1 a2').1).trans a2'
  have d0 : X2.cell? ⟨w1.heap.size, 0, none⟩ = some (.int .i64 ha.k) := cell_of_row _ _ 0 _ _ _ a2'
  have d1 : X2.cell? ⟨w1.heap.size, 1, none⟩ = some (.int .i64 ha.v) := cell_of_row _ _ 1 _ _ _ a2'
  have d2 : X2.cell? ⟨w1.heap.size, 2, none⟩ = some (.slice ha.ka ha.kn ha.kc) := cell_of_row _ _ 2 _ _ _ a2'
  have d3 : X2.cell? ⟨w1.heap.size, 3, none⟩ = some (.slice ha.ba ha.bn ha.bc) := cell_of_row _ _ 3 _ _ _ a2'
  have l1 : w1.heap.size < w2.heap.size := Nat.lt_of_lt_of_le haX hb2.size
  rw [← gX2] at d0 d1 d2 d3
  have HBX4 := hid (hBX2.trans (hbx4.mono hBX2.size))
  have HA4 := hid hA4
  have HX4 := hid x4
  have HA4c := hid a4
  have GX2 := hid gX2
  have GX4 : Hid (((w2.alloc (.cells #[.int .i64 hbb.k, .int .i64 hbb.v, .slice hbb.ka hbb.kn hbb.kc, .slice hbb.ba hbb.bn hbb.bc] 30)).alloc (.cells #[.int .i64 ha.k, .int .i64 ha.v, .slice ha.ka ha.kn ha.kc, .slice ha.ba ha.bn ha.bc] 30)).alloc (.cells #[.int .i64 hbb.k, .int .i64 hbb.v, .slice hbb.ka hbb.kn hbb.kc, .slice hbb.ba hbb.bn hbb.bc] 30) = X4) := hid (by rw [gX2]; exact gX4)
  clear k2' hB hB' hDB hb2 ghb hbx2 hb12 hBX2 hbx4 r1 r2 hA4 hB4 x2 a2' b2 x4 a4 gX2 gX4 hsX2 y0 y1 GX2
  go_wp2_with fail
  rw [GX4.out]
  refine k3.out.mono ?_
  rintro e w5 ⟨rfl, hb5⟩
  have hB5 : Below w.heap.size w w5 := HBX4.out.trans (hb5.mono HBX4.out.size)
  have x5 : w5.heap[w.heap.size]? = some (.cells #[.slice a m c, .slice a2 m2 c2] 25 (0, 0)) := (hb5.block _ (Array.getElem?_eq_some_iff.1 HX4.out).1).trans HX4.out
  have a5 : w5.heap[w1.heap.size]? = some (.cells (arC ha).toArray 30 (0, 0)) := (hb5.block _ (Array.getElem?_eq_some_iff.1 HA4c.out).1).trans HA4c.out
  have y0 : w5.cell? ⟨w.heap.size, 0, none⟩ = some (.slice a m c) := cell_of_row _ _ 0 _ _ _ x5
  have y1 : w5.cell? ⟨w.heap.size, 1, none⟩ = some (.slice a2 m2 c2) := cell_of_row _ _ 1 _ _ _ x5
  have d0 : w5.cell? ⟨w1.heap.size, 0, none⟩ = some (.int .i64 ha.k) := cell_of_row _ _ 0 _ _ _ a5
  have d1 : w5.cell? ⟨w1.heap.size, 1, none⟩ = some (.int .i64 ha.v) := cell_of_row _ _ 1 _ _ _ a5
  have d2 : w5.cell? ⟨w1.heap.size, 2, none⟩ = some (.slice ha.ka ha.kn ha.kc) := cell_of_row _ _ 2 _ _ _ a5
  have d3 : w5.cell? ⟨w1.heap.size, 3, none⟩ = some (.slice ha.ba ha.bn ha.bc) := cell_of_row _ _ 3 _ _ _ a5
  have k5 := k4.out A w5 hB5 (Okd.below hb5 _ _ HA4.out)
  have hz := kz.out A X4 HA4.out HDA.out
  rw [GHA.out] at k5
  have K5 := hid k5
  have HB5 := hid hB5
  have HZ := hid hz
  clear k3 hb5 hB5 x5 a5 k5 hz kz k4
  go_wp2_with fail
  refine K5.out.mono ?_
  rintro e w6 ⟨rfl, hb6⟩
  have HE := hid (HB5.out.trans (hb6.mono HB5.out.size))
  clear K5 hb6
  cases ok with
  | true =>
    have hz := HZ.out rfl
    obtain rfl : E = 0 := by rw [GE.out]; rfl
    generalize sizeR l q (n.toNat + 1) n A = SR at *
    obtain ⟨R1, R2⟩ := SR
    obtain rfl : R2 = 0 := hz
    dsimp only
    go_wp2_with fail
    go_ret
    exact ⟨rfl, HE.out⟩
  | false =>
    obtain rfl : E = 1 := by rw [GE.out]; rfl
    go_wp2_with fail
    go_ret
    exact ⟨rfl, HE.out⟩

end Go.Proofs.Ytkgejeamcgodhaa
