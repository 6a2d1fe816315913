/- The corpus and what it stands on, merged. -/
import Derived.Test.YtbgommpdmnbplaaGreatDoorCoA11

/- What journal's area.next and joined do. -/
namespace Go.Proofs.YtbgommpdmnbplaaGreatDoor
open Go.RowKit Num Jr
set_option linter.unusedVariables false
set_option maxRecDepth 20000

theorem firstOf_two (g n : Nat) : firstOf g (2 + 2 * szOf n) = firstOf g n ∧ (2 + 2 * szOf n - 2) / 2 = szOf n := by
  have e : (2 + 2 * szOf n - 2) / 2 = szOf n := by omega
  refine ⟨?_, e⟩
  unfold firstOf
  rw [e]
  rfl

set_option maxHeartbeats 1000000 in
theorem next_any (gen n : Nat) (w : World) (hg : gen ≤ 2147483648) (hn : n ≤ 2048) :
    Calls Tryz.prog 206 #[.agg #[.int .i64 gen, .int .i64 (firstOf gen n : Nat), .int .i64 (szOf n : Nat)]] w fun e w' => e = .returned (.agg #[.int .i64 ((gen + 1 : Nat) : Int), .int .i64 (firstOf (gen + 1) n : Nat), .int .i64 (szOf n : Nat)]) ∧ Below w.heap.size w w' := by
  have hsz : szOf n ≤ 1024 := by unfold szOf; omega
  have hsz2 : 2 + 2 * szOf n ≤ 2048 := by unfold szOf; omega
  have ka := hid (fun wx => areaof_any (gen + 1) (2 + 2 * szOf n) wx (by omega) (by omega) hsz2)
  rw [(firstOf_two (gen + 1) n).1, (firstOf_two (gen + 1) n).2] at ka
  obtain ⟨first, gfirst⟩ : ∃ first, first = firstOf gen n := ⟨_, rfl⟩
  obtain ⟨first2, gfirst2⟩ : ∃ first2, first2 = firstOf (gen + 1) n := ⟨_, rfl⟩
  obtain ⟨size, gsize⟩ : ∃ size, size = szOf n := ⟨_, rfl⟩
  rw [← gfirst2] at ka
  rw [← gfirst, ← gfirst2, ← gsize]
  rw [← gsize] at ka hsz
  have eg : ((gen + 1 : Nat) : Int) = (gen : Int) + 1 := by omega
  have es : ((2 + 2 * size : Nat) : Int) = 2 + 2 * (size : Int) := by omega
  rw [eg, es] at ka
  have HEG := hid eg
  clear gfirst gfirst2 gsize eg es hsz2
  obtain ⟨W0, g0⟩ : ∃ W0, W0 = (w.alloc (.cells #[.int .i64 gen, .int .i64 first, .int .i64 size] 136)).alloc (.cells #[.int .i64 0, .int .i64 0, .int .i64 0] 136) := ⟨_, rfl⟩
  have hb0 : Below w.heap.size w W0 := by rw [g0]; exact ((Below.refl _ _).alloc (Nat.le_refl _) _).alloc (by simp) _
  obtain ⟨q, gq⟩ : ∃ q, q = w.heap.size := ⟨_, rfl⟩
  have x0 : W0.heap[q]? = some (.cells #[.int .i64 gen, .int .i64 first, .int .i64 size] 136 (0, 0)) := by
    rw [g0, gq, Below.heap_alloc _ _ _ (by simp)]; exact heap_alloc_new _ _
  have x1 : W0.heap[q + 1]? = some (.cells #[.int .i64 0, .int .i64 0, .int .i64 0] 136 (0, 0)) := by
    have := heap_alloc_new (w.alloc (.cells #[.int .i64 gen, .int .i64 first, .int .i64 size] 136)) (.cells #[.int .i64 0, .int .i64 0, .int .i64 0] 136)
    rw [g0, gq]; simpa using this
  have y0 : W0.cell? ⟨q, 0, none⟩ = some (.int .i64 gen) := heap_cells x0 0 _ rfl
  have y2 : W0.cell? ⟨q, 2, none⟩ = some (.int .i64 size) := heap_cells x0 2 _ rfl
  have HX1 := hid x1
  have hq1 : q + 1 < W0.heap.size := (Array.getElem?_eq_some_iff.1 x1).1
  have G0 := hid g0
  have GQ := hid gq
  have HB0 := hid hb0
  clear x0 x1 g0 gq hb0
  go_enter Tryz.func206, Tryz.ntmps206
  go_upto_region 1 with fail
  rw [← G0.out, ← GQ.out]
  go_wp2_with (first | (go_at_call 136; refine (ka.out _).mono ?_; rintro r w2 ⟨rfl, hb2⟩; have hx2 : w2.heap[q + 1]? = some (.cells ([.int .i64 0, .int .i64 0, .int .i64 0] : List Value).toArray 136 (0, 0)) := (hb2.block (q + 1) hq1).trans HX1.out; have HTH := hid (there_of_block hx2 0 3 (by simp)); obtain ⟨W3, g3⟩ : ∃ W3, w2.setCells (q + 1) 0 [.int .i64 ((gen : Int) + 1), .int .i64 first2, .int .i64 size] = W3 := ⟨_, rfl⟩; have HX3 : Hid (W3.heap[q + 1]? = some (.cells ([.int .i64 ((gen : Int) + 1), .int .i64 first2, .int .i64 size] : List Value).toArray 136 (0, 0))) := hid (by rw [← g3, heap_setCells (q + 1) 136 _ 0 w2 _ hx2 (by simp)]; simp [splice]); have HB3 : Hid (Below w.heap.size w W3) := hid (by rw [← g3]; have h1 := HB0.out.size; have h2 := hb2.size; exact (HB0.out.trans (hb2.mono h1)).trans ((upd_setCells (q + 1) _ 0 w2).below (by omega) (by intro x hx; have := GQ.out; omega))); have G3 := hid g3; clear hx2 g3 hb2) | (refine jstore_as rfl 136 (.tmp 2) (.tmp 10) rfl (q + 1) 0 #[.int .i64 ((gen : Int) + 1), .int .i64 first2, .int .i64 size] rfl rfl HTH.out asize (by simp [Value.oneCell']) W3 G3.out ?_))
  refine bodyPost_ret (cell_result rfl _ _ (q + 1) 0 rfl [.int .i64 ((gen : Int) + 1), .int .i64 first2, .int .i64 size] _ (rangeAt_block (t := 136) HX3.out) Tryz.underlying136 rfl asize) rfl ?_
  rw [HEG.out]
  exact ⟨rfl, HB3.out⟩

/-- What joined answers. -/
def JoinP (L : List (List Int)) (most : Nat) (w : World) (e : Ending) (w' : World) : Prop :=
  ((loadOf L).length ≤ most ∧ ∃ v, e = .returned (.tuple #[v, .bool true]) ∧ w'.ownsRow w.heap.size 5 1 v (loadOf L).length ((loadOf L).map (Value.int .u8)) ∧ Below w.heap.size w w') ∨
  (most < (loadOf L).length ∧ e = .returned (.tuple #[.slice none 0 0, .bool false]) ∧ Below w.heap.size w w')

theorem loadOf_take_le (L : List (List Int)) (i : Nat) : (loadOf (L.take i)).length ≤ (loadOf L).length := by
  have : loadOf L = loadOf (L.take i) ++ loadOf (L.drop i) := by rw [← loadOf_append, List.take_append_drop]
  rw [this, List.length_append]
  omega

set_option maxHeartbeats 2000000 in
theorem joined_any (al : Option Addr) (n cl most : Nat) (L : List (List Int)) (w : World) (hi : Img w al L) (hn : L.length = n) (hc : n ≤ cl) (hc2 : cl ≤ 9223372036854775807) (hL : ∀ l ∈ L, RecOk l) (hm : most ≤ 1000000) :
    Calls Tryz.prog 205 #[.slice al n cl, .int .i64 most] w (JoinP L most w) := by
  obtain ⟨i0, hi0, hz0, hz1, hz2⟩ := info_parts Tryz.jinfo5
  have HI := hid hi
  have HN := hid hn
  have HL := hid hL
  clear hi hn hL
  go_enter Tryz.func205, Tryz.ntmps205
  go_wp2_with fail
  go_loopw [6, 11] (fun v k wr => ∃ i : Nat, k = .int .i64 i ∧ i ≤ n ∧ Hid (wr.ownsRow w.heap.size 5 1 v (loadOf (L.take i)).length ((loadOf (L.take i)).map (Value.int .u8))) ∧ (loadOf (L.take i)).length ≤ most ∧ Hid (Below w.heap.size w wr)) (fun _ k _ => n - (intOf k).toNat)
  case atStart => exact ⟨0, rfl, Nat.zero_le _, hid (by simpa [loadOf] using World.ownsRow_nil _ _ _ _), by simp [loadOf], hid (Below.refl _ _)⟩
  case round =>
    obtain ⟨i, rfl, hin, HO, hlm, HB⟩ := hrel
    obtain ⟨v, gv⟩ : ∃ v, v = u6 := ⟨_, rfl⟩
    rw [← gv] at HO ⊢
    clear gv
    by_cases hlt : i < n
    · have hil : i < L.length := by rw [HN.out]; exact hlt
      obtain ⟨b, o, e, hbl, hcc⟩ := HI.out (by omega)
      subst e
      obtain ⟨u, hu, a, c, eu, hs, _⟩ := hcc i hil
      subst eu
      have hu' := (HB.out.cell (p := ⟨b, o + i, none⟩) hbl).trans hu
      have hok := HL.out L[i] (List.getElem_mem hil)
      have htk : L.take (i + 1) = L.take i ++ [L[i]] := by rw [List.take_add_one, List.getElem?_eq_getElem hil]; rfl
      have kT := hid (astext_any a L[i].length c L[i] wr (hs.below HB.out) hok.2.2 hok.2.1)
      have hll := loadOf_take_le L (i + 1)
      have hl1 : loadOf (L.take (i + 1)) = loadOf (L.take i) ++ txtB L[i] := by rw [htk, loadOf_append]; simp [loadOf]
      have htl : (txtB L[i]).length ≤ 2009 := by
        have h2 := hok.2.1
        rw [txtB, List.length_append, length_enc]
        have := cnt_8 L[i].length (by omega)
        omega
      obtain ⟨r, gr⟩ : ∃ r, r = L[i].length := ⟨_, rfl⟩
      rw [← gr] at hu' kT
      obtain ⟨X, gX⟩ : ∃ X, X = txtB L[i] := ⟨_, rfl⟩
      rw [← gX] at kT hl1 htl
      obtain ⟨tl, gtl⟩ : ∃ tl, tl = X.length := ⟨_, rfl⟩
      rw [← gtl] at kT htl
      obtain ⟨m, gm⟩ : ∃ m, m = (loadOf (L.take i)).length := ⟨_, rfl⟩
      rw [← gm] at HO hlm
      have hl2 : (loadOf (L.take (i + 1))).length = m + tl := by rw [hl1, List.length_append, ← gm, ← gtl]
      have HL1 := hid hl1
      have HL2 := hid hl2
      have HLL := hid hll
      have GTL := hid gtl
      obtain ⟨av, cv, ev, hv1, hv2⟩ := own_shape HO.out
      subst ev
      have hwl : w.heap.size ≤ wr.heap.size := HB.out.size
      clear hcc hu hs hok htk hll hl1 hl2 gr gX gtl gm
      go_upto_region 6 with (first | (go_at_call 202; refine kT.out.mono ?_; rintro r2 w2 ⟨tc, rfl, ho2, hb2⟩; have HO2 := hid ho2; have HB2 := hid hb2; have hw2 : wr.heap.size ≤ w2.heap.size := hb2.size; clear ho2 hb2) | (at_builtin; go_must (refine wpList_append_own _ rfl _ _ 81 rfl w.heap.size 5 i0 (.int .u8 0) 1 1 Tryz.underlying81 hi0 hz0 hz1 hz2 rfl (by decide) (.slice av m cv) m _ rfl (own_below HO.out HB2.out) ⟨wr.heap.size, 0, none⟩ tl tc (X.map (Value.int .u8)) rfl (by rw [List.length_map, Nat.mul_one, GTL.out]) (src_cells (Src.own HO2.out)) (u8_one _) (by unfold maxLen; omega) (by omega) (by omega) ?_; intro v' w4 hO4 hG4 hN4)))
      have hB4 : Below w.heap.size w w4 := (HB.out.trans (HB2.out.mono hwl)).trans ((Upd.of_grown hG4).below (by omega) (fun x hx => (HO.out.lt x hx.symm).1))
      rw [← List.map_append, ← HL1.out, ← HL2.out] at hO4
      obtain ⟨av4, cv4, ev4, _, _⟩ := own_shape hO4
      have HO4 := hid hO4
      have HB4 := hid hB4
      subst ev4
      obtain ⟨K, gK⟩ : ∃ K, K = (loadOf (L.take (i + 1))).length := ⟨_, rfl⟩
      rw [← gK] at HO4 HL2 HLL
      rw [← gK]
      have GK := hid gK
      clear hO4 hG4 hN4 hB4 gK
      by_cases hbig : most < K
      · have hbv : (most : Int) < (K : Int) := by omega
        go_wp2_with fail
        go_ret2
        exact .inr ⟨by have := HLL.out; omega, rfl, HB4.out⟩
      · have hbv : ¬ (most : Int) < (K : Int) := by omega
        go_wp2_with fail
        go_roundw
        case rel => exact ⟨i + 1, by go_num, by omega, by rw [← GK.out]; exact HO4, by rw [← GK.out]; omega, HB4⟩
        case measure => simp [intOf]; omega
    · obtain rfl : i = n := by omega
      have htk : L.take i = L := List.take_of_length_le (by rw [HN.out]; exact Nat.le_refl _)
      rw [htk] at HO hlm
      go_wp2_with fail
      go_ret2
      exact .inl ⟨hlm, v, rfl, HO.out, HB.out⟩

end Go.Proofs.YtbgommpdmnbplaaGreatDoor

/- What journal's begin does. -/
namespace Go.Proofs.YtbgommpdmnbplaaGreatDoor
open Go.RowKit Num Jr
set_option linter.unusedVariables false
set_option maxRecDepth 20000

/-- The journal's blocks and the disk's, through a step of the disk alone. -/
theorem Jstep.jc {d d1 : Dk} {w w1 : World} {jp p n gen first size groups used cnt : Nat} {wv : Value} {S1 : Nat → List Int} (h : Jstep d w d1 w1 p n S1) (hj : Jc w jp p gen first size groups used wv cnt) (hf : jp ∉ d.foot p) : Jc w1 jp p gen first size groups used wv cnt :=
  (h.heap (Array.getElem?_eq_some_iff.1 hj).1 hf).trans hj

/-- What begin leaves. -/
def BegP (d : Dk) (w : World) (mj p n G first size NN : Nat) (X : Nat → List Int) (load : List Int) (e : Ending) (w' : World) : Prop :=
  e = .returned .nilIface ∧ ∃ d', Jmove d w d' w' mj p n X ∧ Jc w' mj p G first size (if load = [] then 0 else 1) NN (.slice none 0 0) 0

set_option maxHeartbeats 4000000 in
theorem begin_any (d : Dk) (mj p n gen ln : Nat) (S : Nat → List Int) (v : Value) (load : List Int) (w : World) (hj : Jc w mj p (gen + 1) (firstOf (gen + 1) n) (szOf n) 0 0 (.slice none 0 0) 0) (J : Jd d w p n S) (hr : d.rest) (hmf : mj ∉ d.foot p) (hT : Tab w) (hTm : 1 ≠ mj) (hTd : 1 ∉ d.foot p)
    (hv : w.ownsRow 0 5 1 v ln (load.map (Value.int .u8))) (hvf : ∀ k, v.ownBlock = some k → k ∉ d.foot p ∧ k ≠ mj) (hz : Bytes load) (hln : needN ln ≤ szOf n) (hg : gen < 2147483648) (hn4 : 4 ≤ n) :
    Calls Tryz.prog 207 #[.pointer (some ⟨mj, 0, none⟩), v] w (BegP d w mj p n (gen + 1) (firstOf (gen + 1) n) (szOf n) (needN ln) (upS (beginS n gen S (needN ln) load) ((gen + 1) % 2) (headB (gen + 1))) load) := by
  have hn2 : n ≤ 2048 := by rw [← J.dn]; exact J.ok.n2
  have hsz : szOf n ≤ 1024 := by unfold szOf; omega
  have hll : load.length = ln := by have := hv.1; simpa using this
  have hff : firstOf (gen + 1) n + szOf n ≤ n := by
    unfold firstOf szOf
    have : (gen + 1) % 2 * ((n - 2) / 2) ≤ 1 * ((n - 2) / 2) := Nat.mul_le_mul_right _ (by omega)
    omega
  have hml : mj < w.heap.size := (Array.getElem?_eq_some_iff.1 hj).1
  have hlb : ln ≤ 102400 := by unfold needN at hln; omega
  have hln0 : ln = 0 → needN ln = 0 := fun h => by rw [h]; rfl
  have kn := hid (fun wx => need_any ln wx (by omega))
  have en : (ln + 99) / 100 = needN ln := rfl
  rw [en] at kn
  have kg0 := hid (fun (d7 : Dk) (w7 : World) (g cv first G : Nat) (S1 : Nat → List Int) (J7 : Jd d7 w7 p n S1) (hs : Src w7 (some ⟨g, 0, none⟩) ln load) (h1 : ln ≤ cv) (h2 : cv ≤ 9223372036854775807) (h3 : Tab w7) (h4 : 1 ∉ d7.foot p) (h5 : g ∉ d7.foot p) (h6 : first + 0 + needN ln ≤ n) (h7 : G ≤ 4294967296) => wgroup_any d7 p n G first (szOf n) 0 1 g 0 ln cv S1 load w7 J7 hs hz h1 h2 h3 h4 h5 h6 h7 (by omega))
  obtain ⟨NN, gNN⟩ : ∃ NN, NN = needN ln := ⟨_, rfl⟩
  rw [← gNN] at kn hln hln0 kg0
  rw [← gNN]
  clear en gNN
  obtain ⟨G, gG⟩ : ∃ G, G = gen + 1 := ⟨_, rfl⟩
  rw [← gG] at hj hff
  rw [← gG]
  have hG : G ≤ 2147483648 := by omega
  obtain ⟨first, gfirst⟩ : ∃ first, first = firstOf G n := ⟨_, rfl⟩
  obtain ⟨size, gsize⟩ : ∃ size, size = szOf n := ⟨_, rfl⟩
  rw [← gfirst, ← gsize] at hj hff
  rw [← gsize] at hsz hln kg0
  rw [← gfirst, ← gsize]
  have hbg : beginS n gen S NN load = writeGo first G 1 NN (wipeS S (List.range' first size)) 0 load := by rw [gfirst, gsize, gG]; rfl
  rw [hbg]
  have c0 : w.cell? ⟨mj, 0, none⟩ = some (.pointer (some ⟨p, 0, none⟩)) := heap_cells hj 0 _ rfl
  have c1 : w.cell? ⟨mj, 1, none⟩ = some (.int .i64 G) := heap_cells hj 1 _ rfl
  have c2 : w.cell? ⟨mj, 2, none⟩ = some (.int .i64 first) := heap_cells hj 2 _ rfl
  have c3 : w.cell? ⟨mj, 3, none⟩ = some (.int .i64 size) := heap_cells hj 3 _ rfl
  have hTl : 1 < w.heap.size := World.block_lt_of_cell? _ _ (hT 0 (by omega))
  have kb : Hid (∀ wx, Calls Tryz.prog 186 #[.agg #[.int .i64 G, .int .i64 first, .int .i64 size], .int .i64 0] wx fun e w' => ∃ v, e = .returned v ∧ w'.ownsRow wx.heap.size 3 1 v size (nums (List.range' first size)) ∧ Below wx.heap.size wx w') := hid (fun wx => behind_any G first size 0 wx (by omega) (by omega) (by omega))
  have kw : Hid (∀ (wx : World) (v6 : Value), Below w.heap.size w wx → wx.ownsRow w.heap.size 3 1 v6 size (nums (List.range' first size)) → Calls Tryz.prog 138 #[.agg #[.pointer (some ⟨p, 0, none⟩)], v6] wx fun e w' => e = .returned .nilIface ∧ ∃ d', Jstep d wx d' w' p n (wipeS S (List.range' first size)) ∧ d'.rest) := hid (fun wx v6 hb ho => wipe_any d p n S v6 (List.range' first size) wx (J.below hb) hr (own_base (by rw [List.length_range']; exact ho) (Nat.zero_le _)) (fun k hk hx => by have h1 := (ho.lt k hk).1; have h2 := J.ok.lt k hx; omega) (fun i hi => by
    rw [List.mem_range'_1] at hi
    omega))
  have HJ := hid J
  have HJC := hid hj
  have HMF := hid hmf
  have HT := hid hT
  have HTM := hid hTm
  have HTD := hid hTd
  have HV := hid hv
  have HVF := hid hvf
  have HZ := hid hz
  have HLL := hid hll
  have HD0 : Hid (Below w.heap.size w w.drew) := hid (below_drewN (Below.refl _ _) 1)
  obtain ⟨S1, gS1⟩ : ∃ S1, S1 = wipeS S (List.range' first size) := ⟨_, rfl⟩
  rw [← gS1] at kw
  rw [← gS1]
  obtain ⟨av, cv, gv, hv1, hv2⟩ := own_shape hv
  subst gv
  clear J hr hj hmf hT hTm hTd hv hvf hz hll gfirst gsize hbg gG gS1
  go_enter Tryz.func207, Tryz.ntmps207
  go_upto_region 1 with fail
  go_region_held3 (fun wx => wx.cell? ⟨mj, 0, none⟩ = some (.pointer (some ⟨p, 0, none⟩)) ∧ wx.cell? ⟨mj, 1, none⟩ = some (.int .i64 G) ∧ wx.cell? ⟨mj, 2, none⟩ = some (.int .i64 first) ∧ wx.cell? ⟨mj, 3, none⟩ = some (.int .i64 size)) (go_keep) (first | (go_at_call 186; refine (kb.out _).mono ?_; rintro r w6 ⟨v6, rfl, ho6, hb6⟩; have HB6 : Hid (Below w.heap.size w w6) := hid (HD0.out.trans hb6); have HO6 : Hid (w6.ownsRow w.heap.size 3 1 v6 size (nums (List.range' first size))) := hid ho6; have z : ∀ o, w6.cell? ⟨mj, o, none⟩ = w.cell? ⟨mj, o, none⟩ := (fun o => HB6.out.cell (p := ⟨mj, o, none⟩) hml); have z0 := (z 0).trans c0; have z1 := (z 1).trans c1; have z2 := (z 2).trans c2; have z3 := (z 3).trans c3; clear ho6 hb6 z) | (go_at_call 138; refine (kw.out _ _ HB6.out HO6.out).mono ?_; rintro r w7 ⟨rfl, d7, hs7, hr7⟩; have HS7 : Hid (Jstep d w d7 w7 p n S1) := hid (Jstep.front HB6.out hs7); have HR7 := hid hr7; have z : ∀ o, w7.cell? ⟨mj, o, none⟩ = w.cell? ⟨mj, o, none⟩ := (fun o => World.cell?_of_block (a := ⟨mj, o, none⟩) (HS7.out.heap hml HMF.out)); have t0 := (z 0).trans c0; have t1 := (z 1).trans c1; have t2 := (z 2).trans c2; have t3 := (z 3).trans c3; clear hs7 hr7 z))
  have hmf7 : mj ∉ d7.foot p := HS7.out.out hml HMF.out
  have hTd7 : 1 ∉ d7.foot p := HS7.out.out hTl HTD.out
  have hT7 : Tab w7 := HT.out.upd HS7.out.upd HTD.out
  have hj7 : Jc w7 mj p G first size 0 0 (.slice none 0 0) 0 := HS7.out.jc HJC.out HMF.out
  by_cases hl0 : ln = 0
  · have hld : load = [] := List.eq_nil_of_length_eq_zero (by rw [HLL.out]; exact hl0)
    have hNN := hln0 hl0
    subst hl0
    subst hld
    subst hNN
    have kh := hid (whead_any d7 p n G S1 w7.drew (HS7.out.jd.below (below_drewN (Below.refl _ _) 1)) (by omega) (by omega) hT7)
    have HJ7 := hid hj7
    have HMF7 := hid hmf7
    have hml7 : mj < w7.heap.size := (Array.getElem?_eq_some_iff.1 hj7).1
    clear hT7 hj7 hmf7 hTd7 kb kw kg0
    go_upto_region 9 with fail
    go_region_held3 (fun wx => wx.cell? ⟨mj, 0, none⟩ = some (.pointer (some ⟨p, 0, none⟩)) ∧ wx.cell? ⟨mj, 1, none⟩ = some (.int .i64 G)) (go_keep) (first | (go_at_call 187; refine kh.out.mono ?_; rintro r w9 ⟨rfl, d9, hs9, hr9⟩; have HS9 : Hid (Jstep d7 w7 d9 w9 p n (upS S1 (G % 2) (headB G))) := hid (Jstep.front (below_drewN (Below.refl w7.heap.size w7) 1) hs9); have HR9 := hid hr9; have z : ∀ o, w9.cell? ⟨mj, o, none⟩ = w7.cell? ⟨mj, o, none⟩ := (fun o => World.cell?_of_block (a := ⟨mj, o, none⟩) (HS9.out.heap hml7 HMF7.out)); have r0 := (z 0).trans t0; have r1 := (z 1).trans t1; clear hs9 hr9 z))
    go_wp2_with fail
    go_ret
    have hs := HS7.out.trans HS9.out
    exact ⟨rfl, d9, ⟨hs.jd, HR9.out, hs.upd.mono (fun _ _ h => .inr h), hs.grew⟩, HS9.out.jc HJ7.out HMF7.out⟩
  · have hl1 : 1 ≤ ln := by omega
    have hlv : (0 : Int) < (ln : Int) := by omega
    have hld : ¬ load = [] := fun e => hl0 (by rw [← HLL.out, e]; rfl)
    obtain ⟨g, rfl⟩ : ∃ g, av = some ⟨g, 0, none⟩ := by
      rcases HV.out.2 with ⟨_, h⟩ | ⟨g, c, cur, h, _⟩
      · omega
      · injection h with h1 h2 h3; exact ⟨g, h1⟩
    have hgf := HVF.out g rfl
    have hgl := (HV.out.lt g rfl).2
    have hv7 := HS7.out.own HV.out (fun k hk => (HVF.out k hk).1)
    have kg := hid (kg0.out d7 w7.drew g cv first G S1 (HS7.out.jd.below (below_drewN (Below.refl _ _) 1)) (Src.own hv7) hv1 hv2 hT7 hTd7 (HS7.out.out hgl hgf.1) (by omega) (by omega))
    have HJ7 := hid hj7
    have HMF7 := hid hmf7
    have HT7 := hid hT7
    have HTD7 := hid hTd7
    have hml7 : mj < w7.heap.size := (Array.getElem?_eq_some_iff.1 hj7).1
    have hTl7 : 1 < w7.heap.size := World.block_lt_of_cell? _ _ (hT7 0 (by omega))
    have HLD := hid hld
    clear hT7 hj7 hmf7 hTd7 kb kw hgf hv7 hld kg0
    go_upto_region 5 with fail
    go_region_held3 (fun wx => wx.cell? ⟨mj, 0, none⟩ = some (.pointer (some ⟨p, 0, none⟩)) ∧ wx.cell? ⟨mj, 1, none⟩ = some (.int .i64 G) ∧ wx.cell? ⟨mj, 2, none⟩ = some (.int .i64 first) ∧ wx.cell? ⟨mj, 3, none⟩ = some (.int .i64 size)) (go_keep) (first | (go_at_call 204; refine kg.out.mono ?_; rintro r w8 ⟨rfl, d8, hs8, hr8⟩; have HS8 : Hid (Jstep d7 w7 d8 w8 p n (writeGo first G 1 NN S1 0 load)) := hid (Jstep.front (below_drewN (Below.refl w7.heap.size w7) 1) hs8); have z : ∀ o, w8.cell? ⟨mj, o, none⟩ = w7.cell? ⟨mj, o, none⟩ := (fun o => World.cell?_of_block (a := ⟨mj, o, none⟩) (HS8.out.heap hml7 HMF7.out)); have q0 := (z 0).trans t0; have q1 := (z 1).trans t1; have q2 := (z 2).trans t2; have q3 := (z 3).trans t3; clear hs8 hr8 z))
    have hj8 : Jc w8 mj p G first size 0 0 (.slice none 0 0) 0 := HS8.out.jc HJ7.out HMF7.out
    have q4 : w8.cell? ⟨mj, 4, none⟩ = some (.int .i64 0) := heap_cells hj8 4 _ rfl
    have q5 : w8.cell? ⟨mj, 5, none⟩ = some (.int .i64 0) := heap_cells hj8 5 _ rfl
    have f4 : w8.frozen? ⟨mj, 4, none⟩ = false := frozen_of_row w8 mj 4 _ _ hj8
    have f5 : w8.frozen? ⟨mj, 5, none⟩ = false := frozen_of_row w8 mj 5 _ _ hj8
    have hmf8 : mj ∉ d8.foot p := HS8.out.out hml7 HMF7.out
    obtain ⟨W9, gW9⟩ : ∃ W9, W9 = (w8.setCell ⟨mj, 4, none⟩ (.int .i64 1)).setCell ⟨mj, 5, none⟩ (.int .i64 NN) := ⟨_, rfl⟩
    have hU9 : Upd (· = mj) w8 W9 := by rw [gW9]; exact (Upd.setCell (F := (· = mj)) w8 ⟨mj, 4, none⟩ _ rfl).trans (Upd.setCell (F := (· = mj)) _ ⟨mj, 5, none⟩ _ rfl) (fun _ _ h => h)
    have hj9 : Jc W9 mj p G first size 1 NN (.slice none 0 0) 0 := by rw [gW9]; exact hj8.turn 1 NN
    have hd9 : Jd d8 W9 p n (writeGo first G 1 NN S1 0 load) := HS8.out.jd.upd hU9 (fun k hk e => hmf8 (e ▸ hk))
    have hT9 : Tab W9 := (HT7.out.upd HS8.out.upd HTD7.out).upd hU9 HTM.out
    have p0 : W9.cell? ⟨mj, 0, none⟩ = some (.pointer (some ⟨p, 0, none⟩)) := heap_cells hj9 0 _ rfl
    have p1 : W9.cell? ⟨mj, 1, none⟩ = some (.int .i64 G) := heap_cells hj9 1 _ rfl
    have kh := hid (whead_any d8 p n G _ W9.drew (hd9.below (below_drewN (Below.refl _ _) 1)) (by omega) (by omega) hT9)
    have hml9 : mj < W9.heap.size := (Array.getElem?_eq_some_iff.1 hj9).1
    have HJ9 := hid hj9
    have HMF8 := hid hmf8
    have HU9 := hid hU9
    have G9 := hid gW9
    clear hj8 hmf8 hU9 hj9 hd9 hT9 gW9 kg
    go_upto_region 9 with (first | (go_at_call 190; refine (kn.out _).mono ?_; rintro r wn ⟨rfl, h⟩; subst wn))
    rw [← G9.out]
    go_region_held3 (fun wx => wx.cell? ⟨mj, 0, none⟩ = some (.pointer (some ⟨p, 0, none⟩)) ∧ wx.cell? ⟨mj, 1, none⟩ = some (.int .i64 G)) (go_keep) (first | (go_at_call 187; refine kh.out.mono ?_; rintro r w10 ⟨rfl, d10, hs10, hr10⟩; have HS10 : Hid (Jstep d8 W9 d10 w10 p n (upS (writeGo first G 1 NN S1 0 load) (G % 2) (headB G))) := hid (Jstep.front (below_drewN (Below.refl W9.heap.size W9) 1) hs10); have HR10 := hid hr10; have z : ∀ o, w10.cell? ⟨mj, o, none⟩ = W9.cell? ⟨mj, o, none⟩ := (fun o => World.cell?_of_block (a := ⟨mj, o, none⟩) (HS10.out.heap hml9 HMF8.out)); have r0 := (z 0).trans p0; have r1 := (z 1).trans p1; clear hs10 hr10 z))
    go_wp2_with fail
    go_ret
    have hs := HS7.out.trans HS8.out
    refine ⟨rfl, d10, ⟨HS10.out.jd, HR10.out, ?_, ?_⟩, by rw [if_neg HLD.out]; exact HS10.out.jc HJ9.out HMF8.out⟩
    · refine ((hs.upd.mono (fun _ _ h => .inr h)).trans HU9.out (fun x _ h => .inl h)).trans HS10.out.upd (fun x hx h => ?_)
      rcases hs.grew x h with h' | h'
      · exact .inr h'
      · omega
    · intro x hx
      rcases HS10.out.grew x hx with h | h
      · exact hs.grew x h
      · exact .inr (by have := hs.upd.size; have := HU9.out.size; omega)

end Go.Proofs.YtbgommpdmnbplaaGreatDoor
