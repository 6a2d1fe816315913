/- What the document's Write does. -/
import Derived.Test.YtemdckmnedlfcaaPRef3
namespace Go.Proofs.Ytemdckmnedlfcaa
open Go.RowKit Lend
set_option linter.unusedVariables false

/-- 'append' of nothing that is nil, as a run. -/
theorem run_append_nil {w : World} {ty : TypeId} {base : Nat} {v : Value} {n : Nat} {xs : List Value} (hown : w.ownsRow base 5 1 v n xs) :
    (Builtin.append_ #[27, 27] ty #[v, .slice none 0 0]).run Try.prog w = .ok v w := by
  obtain ⟨i0, hi0, hz0, hz1, hz2⟩ := info_parts Try.info5
  rcases hown.2 with ⟨rfl, rfl⟩ | ⟨g, cap, cur, rfl, _, _, h1, h2, _⟩
  · simp [Builtin.append_, run_underlying Try.underlying27, sizeOf, typeInfo, hi0, Builtin.lenOf, Builtin.firstCells]
  · simp [Builtin.append_, run_underlying Try.underlying27, sizeOf, typeInfo, hi0, h1, storeCells, Builtin.lenOf, Builtin.firstCells, loadCells]

/-- 'append' of bytes that lie somewhere, nil or not, onto a row of the call's own that is not nil. -/
theorem run_append_both {w : World} {ty : TypeId} {base gg n cap : Nat} {xs : List Value} (hown : w.ownsRow base 5 1 (.slice (some ⟨gg, 0, none⟩) n cap) n xs) (a : Option Addr) (m c : Nat) (zs : List Int) (hsrc : Src w a m zs) (hnil : a = none → c = 0) (hb : n + m ≤ 140737488355328) (hbase : base ≤ w.heap.size) :
    ∃ g' c' w', (Builtin.append_ #[27, 27] ty #[.slice (some ⟨gg, 0, none⟩) n cap, .slice a m c]).run Try.prog w = .ok (.slice (some ⟨g', 0, none⟩) (n + m) c') w' ∧ w'.ownsRow base 5 1 (.slice (some ⟨g', 0, none⟩) (n + m) c') (n + m) (xs ++ zs.map (Value.int .u8)) ∧ Upd (· = gg) w w' := by
  cases a with
  | none =>
    obtain rfl := hnil rfl
    obtain rfl : m = 0 := by
      rcases Nat.eq_zero_or_pos m with h | h
      · exact h
      · obtain ⟨_, _, e, _⟩ := hsrc.2 h; cases e
    obtain rfl : zs = [] := List.eq_nil_of_length_eq_zero hsrc.1
    exact ⟨gg, cap, w, run_append_nil hown, by simpa using hown, Upd.refl _ _⟩
  | some ad =>
    obtain ⟨v', w', h1, h2, h3, h4⟩ := run_append_src (ty := ty) hown ad m c zs hsrc hb hbase
    rcases h2.2 with ⟨h, _⟩ | ⟨g', c', cur, rfl, _⟩
    · have := h4.1 h; simp at this
    · exact ⟨g', c', w', h1, h2, (Upd.of_grown h3).mono (fun x _ hx => by injection hx)⟩

set_option maxHeartbeats 2000000 in
set_option maxRecDepth 20000 in
theorem rwrite_any (B q g len cap : Nat) (n d : Int) (ab : Option Addr) (zs : List Int) (A : Nat → Option Addr × Nat) (R : Nat → Pp) (w : World) (h : Rt B w q g d A R) (hB : B ≤ w.heap.size) (hq8 : ∀ i, i < 5 → (R i).q.length ≤ 8)
    (hs : Src w ab len zs) (hlc : len ≤ cap) (hl : len ≤ 140737488355328) :
    Calls Try.prog 18 #[.pointer (some ⟨q, 0, none⟩), .int .i64 n, .slice ab len cap] w fun e w' => e = .returned (.tuple #[.int .i64 (writeN R n len), .bool (writeW R n len), .int .i64 (writeE R n)]) ∧ Left B w w' q g d A R (writeP R n zs) := by
  have k1 := hid (rthere_any B q g n d A R w h)
  have H := hid h
  have e1 := h.cellL
  cases hn : has R n
  · have hE : writeE R n = 9 := by simp [writeE, hn]
    have hN : writeN R n len = 0 := by simp [writeN, hn]
    have hW : writeW R n len = false := by simp [writeW, hn]
    have hP : writeP R n zs = R := by simp [writeP, hn]
    rw [hE, hN, hW, hP]
    rw [hn] at k1
    clear hE hP hn h hN hW hs
    go_enter Try.func18, Try.ntmps18
    go_wp2_with fail
    refine k1.out.mono ?_
    rintro e w1 ⟨rfl, rfl⟩
    go_wp2_with fail
    go_ret3
    exact ⟨rfl, Left.same H.out (Below.refl _ _)⟩
  · rw [hn] at k1
    obtain ⟨i, rfl, h1, h4, hi⟩ := has_some hn
    have hl8 := hq8 i (by omega)
    have e2 := h.cell0 i (by omega)
    have e3 := h.cell1 i (by omega)
    have e4 := h.cell2 i (by omega)
    have e5 := h.cell3 i (by omega)
    have hown := h.own i (by omega)
    rw [hi] at e2
    have c3 : (0 : Int) ≤ i := by omega
    have c5 : (i : Int) < 5 := by omega
    obtain ⟨r, gr⟩ : ∃ r, r = (R i).r := ⟨_, rfl⟩
    obtain ⟨u, gu⟩ : ∃ u, u = (R i).w := ⟨_, rfl⟩
    obtain ⟨ln, gl⟩ : ∃ ln, ln = (R i).q.length := ⟨_, rfl⟩
    obtain ⟨aa, ga⟩ : ∃ aa, aa = (A i).1 := ⟨_, rfl⟩
    obtain ⟨cc, gc⟩ : ∃ cc, cc = (A i).2 := ⟨_, rfl⟩
    simp only [rsl] at e5 hown
    rw [← gr] at e3
    rw [← gu] at e4
    rw [← gl, ← ga, ← gc] at e5 hown
    rw [← gl] at hl8
    have hlt := h.qlt
    have hgt := h.glt
    obtain ⟨wA, gA⟩ : ∃ wA, wA = w.alloc (.cells #[.bool true, .int .i64 r, .int .i64 u, .slice aa ln cc] 67) := ⟨_, rfl⟩
    have hbA : Below w.heap.size w wA := by rw [gA]; exact (Below.refl _ _).alloc (Nat.le_refl _) _
    have hA : wA.heap[w.heap.size]? = some (.cells #[.bool true, .int .i64 r, .int .i64 u, .slice aa ln cc] 67 (0, 0)) := by rw [gA]; exact heap_alloc_new w _
    have hzA : wA.heap.size = w.heap.size + 1 := by rw [gA]; simp
    have f1 := cell_of_row wA w.heap.size 1 _ 67 (0, 0) hA
    have f3 := cell_of_row wA w.heap.size 3 _ 67 (0, 0) hA
    simp at f1 f3
    have f0 := (hbA.cell (p := ⟨q, 0, none⟩) hlt).trans e1
    have HA := hid hbA
    have GA := hid gA
    by_cases cr : r = 0
    · have cr' : (R i).r = 0 := by omega
      have hE : writeE R (i : Int) = 32 := by simp [writeE, hn, cr']
      have hN : writeN R (i : Int) len = 0 := by simp [writeN, hn, cr']
      have hW : writeW R (i : Int) len = false := by simp [writeW, hn, cr']
      have hP : writeP R (i : Int) zs = R := by simp [writeP, hn, cr']
      rw [hE, hN, hW, hP]
      subst cr
      simp only [Int.natCast_zero] at GA e3 f1
      clear hE hP hn h hN hW hs gr gu gl ga gc gA hbA hA cr' hzA
      go_enter Try.func18, Try.ntmps18
      go_wp2_with fail
      refine k1.out.mono ?_
      rintro e w1 ⟨rfl, rfl⟩
      go_wp2_with fail
      rw [← GA.out]
      go_wp2_with fail
      go_ret3
      exact ⟨rfl, Left.same H.out HA.out⟩
    · have cr' : ¬ (R i).r = 0 := by omega
      have cr2 : ¬ (r : Int) = 0 := by omega
      have hE : writeE R (i : Int) = 0 := by simp [writeE, hn, cr']
      have stay : min zs.length (8 - (R i).q.length) = 0 → updP R i { R i with q := (R i).q ++ zs.take (min zs.length (8 - (R i).q.length)) } = R := by
        intro hz; rw [hz]; simp only [List.take_zero, List.append_nil]; exact updP_self R i
      have hP : writeP R (i : Int) zs = updP R i { R i with q := (R i).q ++ zs.take (min zs.length (8 - (R i).q.length)) } := by simp [writeP, hn, cr']
      rcases Nat.eq_zero_or_pos len with l0 | l0
      · have hN : writeN R (i : Int) len = 0 := by simp [writeN, hn, cr', l0]
        have hW : writeW R (i : Int) len = false := by simp [writeW, hn, cr', l0]
        rw [stay (by rw [hs.1]; omega)] at hP
        rw [hE, hN, hW, hP]
        subst l0
        clear hE hP hn h hN hW hs gr gu gl ga gc gA hbA hA cr' hzA stay cr
        go_enter Try.func18, Try.ntmps18
        go_wp2_with fail
        refine k1.out.mono ?_
        rintro e w1 ⟨rfl, rfl⟩
        go_wp2_with fail
        rw [← GA.out]
        go_wp2_with fail
        go_ret3
        exact ⟨rfl, Left.same H.out HA.out⟩
      · have l0' : ¬ (len : Int) = 0 := by omega
        obtain ⟨m, gm⟩ : ∃ m, m = min len (8 - ln) := ⟨_, rfl⟩
        have hmin : (if (8 : Int) - (ln : Int) < (len : Int) then (8 : Int) - (ln : Int) else (len : Int)) = (m : Int) := by split <;> omega
        have hN : writeN R (i : Int) len = m := by simp [writeN, hn, cr', gm, gl]
        have hW : writeW R (i : Int) len = decide (m = 0) := by simp [writeW, hn, cr', gm, gl, l0]
        rw [hE, hN, hW, hP]
        by_cases m0 : m = 0
        · rw [stay (by rw [hs.1, ← gl]; omega)]
          subst m0
          simp only [decide_true]
          clear hE hP hn h hN hW hs gr gu gl ga gc gA hbA hA cr' hzA stay cr gm
          go_enter Try.func18, Try.ntmps18
          go_wp2_with fail
          refine k1.out.mono ?_
          rintro e w1 ⟨rfl, rfl⟩
          go_wp2_with fail
          rw [← GA.out]
          go_wp2_with fail
          go_ret3
          exact ⟨rfl, Left.same H.out HA.out⟩
        · have hm1 : 1 ≤ m := by omega
          have hml : m ≤ len := by omega
          have hzm : min zs.length (8 - (R i).q.length) = m := by rw [hs.1, ← gl]; exact gm.symm
          rw [hzm]
          have hm0 : decide (m = 0) = false := by simp [m0]
          rw [hm0]
          have hnilc : aa = none → cc = 0 := by
            intro e
            rcases hown.2 with ⟨x, _⟩ | ⟨g', cap', cur, x, _⟩
            · injection x
            · injection x with x; rw [e] at x; cases x
          have hsrc : Src w aa ln (R i).q := by
            obtain ⟨a', c', x, _, _, y, _⟩ := own_slice hown
            injection x with x1 x2 x3; subst x1; exact y
          have hb0 := (Below.refl wA.heap.size wA.drew).alloc (Nat.le_refl _) (.cells #[] 5)
          have hb0' : Below wA.heap.size wA (wA.drew.alloc (.cells #[] 5)) := ⟨hb0.os, hb0.tape, hb0.output, hb0.size, hb0.block⟩
          have hbW : Below w.heap.size w (wA.drew.alloc (.cells #[] 5)) := hbA.trans (hb0'.mono hbA.size)
          obtain ⟨g1, c1, w1, hr1, ho1, hu1⟩ := run_append_both (ty := 27) (own_empty wA.drew) aa ln cc (R i).q (hsrc.below hbW) hnilc (by omega) hb0.size
          rw [Nat.zero_add, List.nil_append] at ho1
          rw [Nat.zero_add] at hr1
          have hb1 : Below wA.heap.size wA w1 := hb0'.trans (hu1.below hb0'.size (fun x hx => by subst hx; exact Nat.le_refl _))
          have hbw1 : Below w.heap.size w w1 := hbA.trans (hb1.mono hbA.size)
          obtain ⟨g2, c2, w2, hr2, ho2, hu2⟩ := run_append_both (ty := 27) ho1 ab m cap (zs.take m) ((hs.below hbw1).takes hml) (fun e => by
            obtain ⟨b, o, e', _⟩ := hs.2 l0; rw [e] at e'; cases e') (by omega) hb1.size
          have hb2 : Below wA.heap.size wA w2 := hb1.trans (hu2.below hb1.size (fun x hx => by rw [hx]; exact (ho1.lt g1 rfl).1))
          have hbw2 : Below w.heap.size w w2 := hbA.trans (hb2.mono hbA.size)
          have hkk : w.heap.size < wA.heap.size := by omega
          have y0 := (hbw1.cell (p := ⟨q, 0, none⟩) hlt).trans e1
          have y3 := (hb1.cell (p := ⟨w.heap.size, 3, none⟩) hkk).trans f3
          have x0 := (hbw2.cell (p := ⟨q, 0, none⟩) hlt).trans e1
          have x3 := (hb2.cell (p := ⟨w.heap.size, 3, none⟩) hkk).trans f3
          have yc := (h.below hbw2).cell3 i (by omega)
          have yf := (h.below hbw2).frozen (i * 4 + 3)
          have z3 : ∀ v, (w2.setCell ⟨g, i * 4 + 3, none⟩ v).cell? ⟨w.heap.size, 3, none⟩ = some (.slice aa ln cc) := fun v => by
            rw [← x3]; exact World.cell?_of_block (a := ⟨w.heap.size, 3, none⟩) (heap_setCell_other w2 ⟨g, i * 4 + 3, none⟩ w.heap.size v (by show w.heap.size ≠ g; omega))
          have z0 : ∀ v, (w2.setCell ⟨g, i * 4 + 3, none⟩ v).cell? ⟨q, 0, none⟩ = some (.slice (some ⟨g, 0, none⟩) 5 5) := fun v => by
            rw [← x0]; exact World.cell?_of_block (a := ⟨q, 0, none⟩) (heap_setCell_other w2 ⟨g, i * 4 + 3, none⟩ q v h.neg)
          obtain ⟨vo, gvo⟩ : ∃ vo, vo = rsl A R i := ⟨_, rfl⟩
          rw [← gvo] at yc
          have HL : Hid (Left B w (w2.setCell ⟨g, i * 4 + 3, none⟩ (.slice (some ⟨g2, 0, none⟩) (ln + m) c2)) q g d A R (updP R i { R i with q := (R i).q ++ zs.take m })) := by
            have hlen : ((R i).q ++ zs.take m).length = ln + m := by rw [List.length_append, gl, List.length_take, hs.1]; omega
            have := Left.put (i := i) (n := 0) h (by omega) hi hbw2 (a := some ⟨g2, 0, none⟩) (c := c2) (zs := (R i).q ++ zs.take m) (by rw [hlen, List.map_append]; exact own_base ho2 hbA.size) hB
            rw [hlen] at this; exact hid this
          have d1 : (m : Int) ≤ len := by omega
          have d2 : (0 : Int) ≤ m := by omega
          have d3 : (m : Int) ≤ cap := by omega
          have d4 : ¬ (m : Int) = 0 := by omega
          clear hE hP hn h hN hW hs gr gu gl ga gc gA hbA hA cr' hzA stay cr gm m0 hzm hm0 hnilc hsrc hb0 hb0' hbW ho1 hu1 hb1 hbw1 ho2 hu2 hb2 hbw2 hkk gvo hown hi hq8
          go_enter Try.func18, Try.ntmps18
          go_wp2_with fail
          refine k1.out.mono ?_
          rintro e w0 ⟨rfl, rfl⟩
          go_wp2_with fail
          rw [← GA.out]
          go_wp2_with fail
          go_region_held3 (fun wx => wx.cell? ⟨q, 0, none⟩ = some (.slice (some ⟨g, 0, none⟩) 5 5) ∧ wx.cell? ⟨w0.heap.size, 3, none⟩ = some (.slice aa ln cc)) (go_keep) (first | (refine step_append_is rfl _ _ 27 27 rfl _ _ (by simp [Act.eval]) (by simp [Act.eval]) hr1 ?_) | (refine step_append_is rfl _ _ 27 27 rfl _ _ (by simp [Act.eval]) (by simp [Act.eval]) hr2 ?_))
          go_wp2_with fail
          go_ret3
          exact ⟨rfl, HL.out⟩

end Go.Proofs.Ytemdckmnedlfcaa
