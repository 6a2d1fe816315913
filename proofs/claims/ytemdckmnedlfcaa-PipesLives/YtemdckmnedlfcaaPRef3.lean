/- What the document's Read does. -/
import Derived.Test.YtemdckmnedlfcaaPRef2
namespace Go.Proofs.Ytemdckmnedlfcaa
open Go.RowKit Lend
set_option linter.unusedVariables false

/-- 'append' of bytes that lie somewhere onto a row of the call's own that is not nil, as a run. -/
theorem run_append_src {w : World} {ty : TypeId} {base : Nat} {v : Value} {n : Nat} {xs : List Value} (hown : w.ownsRow base 5 1 v n xs) (ad : Addr) (m c : Nat) (zs : List Int) (hsrc : Src w (some ad) m zs) (hb : n + m ≤ 140737488355328) (hbase : base ≤ w.heap.size) :
    ∃ v' w', (Builtin.append_ #[27, 27] ty #[v, .slice (some ad) m c]).run Try.prog w = .ok v' w' ∧ w'.ownsRow base 5 1 v' (n + m) (xs ++ zs.map (Value.int .u8)) ∧ w.grownBy w' v.ownBlock ∧ (v' = .slice none 0 0 ↔ v = .slice none 0 0 ∧ m = 0) := by
  obtain ⟨i0, hi0, hz0, hz1, hz2⟩ := info_parts Try.info5
  exact run_append_own (P := Try.prog) w base 27 ty 5 i0 (.int .u8 0) 1 1 Try.underlying27 hi0 hz0 hz1 hz2 rfl (by decide) v n xs hown ad m c (zs.map (Value.int .u8)) (by simp [hsrc.1]) (by
    intro j u hj
    have hjl : j < zs.length := by have := (List.getElem?_eq_some_iff.1 hj).1; simpa using this
    have hsl := hsrc.1
    obtain ⟨b, o', e, _, hc⟩ := hsrc.2 (by omega)
    obtain rfl := Option.some.inj e
    rw [Addr.add_lit, hc j (by omega), ← hj]
    simp [List.getD, List.getElem?_eq_getElem hjl]) (ints_oneCell _ _) (by unfold maxLen; omega) (by omega) hbase

theorem Src.takes {w : World} {a : Option Addr} {n m : Nat} {zs : List Int} (h : Src w a n zs) (hm : m ≤ n) : Src w a m (zs.take m) := by
  refine ⟨by have := h.1; simp; omega, fun hl => ?_⟩
  obtain ⟨b, o, e, hlt, hc⟩ := h.2 (by omega)
  exact ⟨b, o, e, hlt, fun j hj => by rw [hc j (by omega)]; simp [List.getD, hj]⟩

/-- An empty row of the call's own. -/
theorem own_empty (w : World) : (w.alloc (.cells #[] 5)).ownsRow w.heap.size 5 1 (.slice (some ⟨w.heap.size, 0, none⟩) 0 0) 0 [] :=
  ⟨rfl, .inr ⟨w.heap.size, 0, #[], rfl, Nat.le_refl _, heap_alloc_new w _, Nat.le_refl _, by unfold maxLen; omega, rfl, rfl⟩⟩

/-- What the document's Read and Write leave behind. -/
structure Left (B : Nat) (w w' : World) (q g : Nat) (d : Int) (A : Nat → Option Addr × Nat) (R R' : Nat → Pp) : Prop where
  rt : ∃ A', Rt B w' q g d A' R' ∧ ∀ j, j < 5 → ∀ b, (rsl A' R' j).ownBlock = some b → (rsl A R j).ownBlock = some b ∨ w.heap.size ≤ b
  upd : Upd (· = g) w w'

theorem Left.same {B : Nat} {w w' : World} {q g : Nat} {d : Int} {A : Nat → Option Addr × Nat} {R : Nat → Pp} (h : Rt B w q g d A R) (u : Below w.heap.size w w') : Left B w w' q g d A R R :=
  ⟨⟨A, h.below u, fun j hj b hb => .inl hb⟩, Upd.of_below u⟩

theorem Left.below {B : Nat} {w w' w'' : World} {q g : Nat} {d : Int} {A : Nat → Option Addr × Nat} {R R' : Nat → Pp} (h : Left B w w' q g d A R R') (u : Below w'.heap.size w' w'') : Left B w w'' q g d A R R' := by
  obtain ⟨A', h1, h2⟩ := h.rt
  exact ⟨⟨A', h1.below u, h2⟩, h.upd.trans (Upd.of_below (F := (· = g)) u) (fun _ _ h => h)⟩

/-- How a row of bytes lies. -/
theorem own_slice {w : World} {B n : Nat} {v : Value} {xs : List Int} (h : w.ownsRow B 5 1 v n (xs.map (Value.int .u8))) : ∃ a c, v = .slice a n c ∧ n ≤ c ∧ c ≤ 9223372036854775807 ∧ Src w a n xs ∧ (a = none → c = 0) := by
  rcases h.2 with ⟨rfl, rfl⟩ | ⟨g, cap, cur, rfl, _, _, h1, h2, _⟩
  · have hx : xs = [] := List.eq_nil_of_length_eq_zero (by simpa using h.1)
    subst hx
    exact ⟨none, 0, rfl, Nat.le_refl _, by omega, Src.nil _ _, fun _ => rfl⟩
  · unfold maxLen at h2
    exact ⟨_, cap, rfl, h1, by omega, Src.own h, fun e => by cases e⟩

/-- The bytes of one are stored anew. -/
theorem Left.put {B : Nat} {w w1 : World} {q g i n c : Nat} {d : Int} {A : Nat → Option Addr × Nat} {R : Nat → Pp} {a : Option Addr} {zs : List Int} (h : Rt B w q g d A R) (hi : i < 5) (hth : (R i).there = true) (u : Below w.heap.size w w1)
    (ho : w1.ownsRow w.heap.size 5 1 (.slice a zs.length c) zs.length (zs.map (Value.int .u8))) (hB : B ≤ w.heap.size) :
    Left B w (w1.setCell ⟨g, i * 4 + 3, none⟩ (.slice a zs.length c)) q g d A R (updP R i { R i with q := zs }) := by
  have h1 := h.below u
  have h2 := h1.put1 i hi { R i with q := zs } (a, c) (clr_yes (there_put hth)) 3 (.slice a zs.length c) (own_base ho hB) (by omega) rfl (by simp) (by simp) (by simp) (by omega)
  refine ⟨⟨_, h2, fun j hj b hb => ?_⟩, (Upd.of_below u).trans (Upd.setCell (F := (· = g)) w1 ⟨g, i * 4 + 3, none⟩ _ rfl) (fun _ _ h => h)⟩
  by_cases e : j = i
  · subst e
    have e2 : rsl (updA A j (a, c)) (updP R j { R j with q := zs }) j = .slice a zs.length c := by simp [rsl, updA, updP]
    rw [e2] at hb
    exact .inr (ho.lt b hb).1
  · have e2 : rsl (updA A i (a, c)) (updP R i { R i with q := zs }) j = rsl A R j := by simp [rsl, updA, updP, e]
    rw [e2] at hb
    exact .inl hb

set_option maxHeartbeats 2000000 in
set_option maxRecDepth 20000 in
theorem rread_any (B q g : Nat) (n count d : Int) (A : Nat → Option Addr × Nat) (R : Nat → Pp) (w : World) (h : Rt B w q g d A R) (hB : B ≤ w.heap.size) (hq8 : ∀ i, i < 5 → (R i).q.length ≤ 8) :
    Calls Try.prog 14 #[.pointer (some ⟨q, 0, none⟩), .int .i64 n, .int .i64 count] w fun e w' => ∃ a c, e = .returned (.tuple #[.slice a (readL R n count).length c, .bool (readW R n count), .int .i64 (readE R n count)]) ∧ Src w' a (readL R n count).length (readL R n count) ∧ Left B w w' q g d A R (readP R n count) := by
  have k1 := hid (rthere_any B q g n d A R w h)
  have H := hid h
  have e1 := h.cellL
  cases hn : has R n
  · have hE : readE R n count = 9 := by simp [readE, hn]
    have hL : readL R n count = [] := by simp [readL, hn]
    have hW : readW R n count = false := by simp [readW, hn]
    have hP : readP R n count = R := by simp [readP, hn]
    rw [hE, hL, hW, hP]
    rw [hn] at k1
    clear hE hP hn h hL hW
    go_enter Try.func14, Try.ntmps14
    go_wp2_with fail
    refine k1.out.mono ?_
    rintro e w1 ⟨rfl, rfl⟩
    go_wp2_with fail
    go_ret3
    exact ⟨none, 0, rfl, Src.nil _ _, Left.same H.out (Below.refl _ _)⟩
  · rw [hn] at k1
    obtain ⟨i, rfl, h1, h4, hi⟩ := has_some hn
    have hl8 := hq8 i (by omega)
    have e2 := h.cell0 i (by omega)
    have e3 := h.cell1 i (by omega)
    have e4 := h.cell2 i (by omega)
    have e5 := h.cell3 i (by omega)
    have hown := h.own i (by omega)
    rw [hi] at e2
    have c3 : (0 : Int) ≤ i := by omega
    have c5 : (i : Int) < 5 := by omega
    obtain ⟨r, gr⟩ : ∃ r, r = (R i).r := ⟨_, rfl⟩
    obtain ⟨u, gu⟩ : ∃ u, u = (R i).w := ⟨_, rfl⟩
    obtain ⟨ln, gl⟩ : ∃ ln, ln = (R i).q.length := ⟨_, rfl⟩
    obtain ⟨aa, ga⟩ : ∃ aa, aa = (A i).1 := ⟨_, rfl⟩
    obtain ⟨cc, gc⟩ : ∃ cc, cc = (A i).2 := ⟨_, rfl⟩
    simp only [rsl] at e5 hown
    rw [← gr] at e3
    rw [← gu] at e4
    rw [← gl, ← ga, ← gc] at e5 hown
    have hlt := h.qlt
    have hgt := h.glt
    obtain ⟨wA, gA⟩ : ∃ wA, wA = w.alloc (.cells #[.bool true, .int .i64 r, .int .i64 u, .slice aa ln cc] 67) := ⟨_, rfl⟩
    have hbA : Below w.heap.size w wA := by rw [gA]; exact (Below.refl _ _).alloc (Nat.le_refl _) _
    have hA : wA.heap[w.heap.size]? = some (.cells #[.bool true, .int .i64 r, .int .i64 u, .slice aa ln cc] 67 (0, 0)) := by rw [gA]; exact heap_alloc_new w _
    have hzA : wA.heap.size = w.heap.size + 1 := by rw [gA]; simp
    have f2 := cell_of_row wA w.heap.size 2 _ 67 (0, 0) hA
    have f3 := cell_of_row wA w.heap.size 3 _ 67 (0, 0) hA
    simp at f2 f3
    have f0 := (hbA.cell (p := ⟨q, 0, none⟩) hlt).trans e1
    have HA := hid hbA
    have GA := hid gA
    rcases Int.lt_trichotomy count 0 with c | c | c
    · have c' : ¬ 0 < count := by omega
      have hE : readE R (i : Int) count = 22 := by simp [readE, hn, c]
      have hL : readL R (i : Int) count = [] := by simp [readL, hn, c']
      have hW : readW R (i : Int) count = false := by simp [readW, hn, c']
      have hP : readP R (i : Int) count = R := by simp [readP, hn, c']
      rw [hE, hL, hW, hP]
      clear hE hP hn h hL hW gr gu gl ga gc gA hbA hA c'
      go_enter Try.func14, Try.ntmps14
      go_wp2_with fail
      refine k1.out.mono ?_
      rintro e w1 ⟨rfl, rfl⟩
      go_wp2_with fail
      rw [← GA.out]
      go_ret3
      exact ⟨none, 0, rfl, Src.nil _ _, Left.same H.out HA.out⟩
    · subst c
      have hE : readE R (i : Int) 0 = 0 := by simp [readE, hn]
      have hL : readL R (i : Int) 0 = [] := by simp [readL, hn]
      have hW : readW R (i : Int) 0 = false := by simp [readW, hn]
      have hP : readP R (i : Int) 0 = R := by simp [readP, hn]
      rw [hE, hL, hW, hP]
      clear hE hP hn h hL hW gr gu gl ga gc gA hbA hA
      go_enter Try.func14, Try.ntmps14
      go_wp2_with fail
      refine k1.out.mono ?_
      rintro e w1 ⟨rfl, rfl⟩
      go_wp2_with fail
      rw [← GA.out]
      go_ret3
      exact ⟨none, 0, rfl, Src.nil _ _, Left.same H.out HA.out⟩
    · have c' : ¬ count < 0 := by omega
      have c'' : ¬ count = 0 := by omega
      have hE : readE R (i : Int) count = 0 := by simp [readE, hn, c']
      rcases Nat.eq_zero_or_pos ln with l0 | l0
      · have hq : (R i).q = [] := List.eq_nil_of_length_eq_zero (by omega)
        have hL : readL R (i : Int) count = [] := by simp [readL, hn, c, hq]
        have hW : readW R (i : Int) count = decide (0 < u) := by simp [readW, hn, c, hq, gu]
        have hP : readP R (i : Int) count = R := by
          simp only [readP, hn, if_true, if_pos c, Int.toNat_natCast]
          rw [show ({ R i with q := (R i).q.drop count.toNat } : Pp) = R i by
            have h7 := hq
            cases h8 : R i with
            | mk r w q => rw [h8] at h7; simp only at h7; subst h7; simp, updP_self]
        rw [hE, hL, hW, hP]
        subst l0
        clear hE hP hn h hL hW gr gu gl ga gc gA hbA hA hq
        go_enter Try.func14, Try.ntmps14
        go_wp2_with fail
        refine k1.out.mono ?_
        rintro e w1 ⟨rfl, rfl⟩
        go_wp2_with fail
        rw [← GA.out]
        go_region_held3 (fun wx => wx.cell? ⟨w1.heap.size, 2, none⟩ = some (.int .i64 u)) (go_keep) (fail)
        go_wp2_with fail
        go_ret3
        refine ⟨none, 0, ?_, Src.nil _ _, Left.same H.out ⟨HA.out.os, HA.out.tape, HA.out.output, HA.out.size, HA.out.block⟩⟩
        simp
      · obtain ⟨m, gm⟩ : ∃ m : Nat, (m : Int) = if (ln : Int) < count then (ln : Int) else count := by
          by_cases hc : (ln : Int) < count
          · exact ⟨ln, by rw [if_pos hc]⟩
          · exact ⟨count.toNat, by rw [if_neg hc]; omega⟩
        have hm1 : 1 ≤ m := by split at gm <;> omega
        have hml : m ≤ ln := by split at gm <;> omega
        have t1 : (R i).q.take count.toNat = (R i).q.take m := by
          split at gm
          · rw [List.take_of_length_le (by omega), List.take_of_length_le (by omega)]
          · congr 1; omega
        have t2 : (R i).q.drop count.toNat = (R i).q.drop m := by
          split at gm
          · rw [List.drop_of_length_le (by omega), List.drop_of_length_le (by omega)]
          · congr 1; omega
        have hqn : ¬ (R i).q = [] := fun e => by rw [e] at gl; simp at gl; omega
        have hL : readL R (i : Int) count = (R i).q.take m := by simp [readL, hn, c, t1]
        have hW : readW R (i : Int) count = false := by simp [readW, hn, c, hqn]
        have hP : readP R (i : Int) count = updP R i { R i with q := (R i).q.drop m } := by simp [readP, hn, c, t2]
        have hLl : ((R i).q.take m).length = m := by simp; omega
        have hDl : ((R i).q.drop m).length = ln - m := by rw [gl]; simp
        rw [hE, hL, hW, hP, hLl]
        have hmin := gm.symm
        obtain ⟨gb, hgb⟩ : ∃ gb, aa = some ⟨gb, 0, none⟩ := by
          rcases hown.2 with ⟨h, h'⟩ | ⟨g', cap, cur, h, _⟩
          · omega
          · injection h with h _ _; exact ⟨g', h⟩
        subst hgb
        have hcap : ln ≤ cc ∧ cc ≤ 9223372036854775807 := by
          rcases hown.2 with ⟨h, h'⟩ | ⟨g', cap, cur, h, _, _, x1, x2, _⟩
          · omega
          · injection h with _ _ h; subst h; unfold maxLen at x2; omega
        have hsrc := Src.own hown
        have hbW : Below w.heap.size w (wA.drew.alloc (.cells #[] 5)) := by
          have := ((Below.refl wA.heap.size wA.drew).alloc (Nat.le_refl _) (.cells #[] 5)).mono hbA.size
          exact hbA.trans ⟨this.os, this.tape, this.output, this.size, this.block⟩
        have hemp : (wA.drew.alloc (.cells #[] 5)).ownsRow w.heap.size 5 1 (.slice (some ⟨wA.heap.size, 0, none⟩) 0 0) 0 [] := own_base (own_empty wA.drew) hbA.size
        have hsD : ∀ ad, (m < cc → ad = ⟨gb, m, none⟩) → Src (wA.drew.alloc (.cells #[] 5)) (some ad) (ln - m) ((R i).q.drop m) := by
          intro ad had
          refine ⟨hDl, fun hl => ?_⟩
          obtain ⟨b, o, e, hlt, hc⟩ := (hsrc.below hbW).2 (by omega)
          injection e with e; injection e with e1 e2; subst e1; subst e2
          refine ⟨gb, m, by rw [had (by omega)], hlt, fun j hj => ?_⟩
          have := hc (m + j) (by omega)
          rw [Nat.zero_add] at this
          rw [this]; simp [List.getD, List.getElem?_drop]
        have hr : ∀ ad, (m < cc → ad = ⟨gb, m, none⟩) → ∃ a1 c1 w1, (Builtin.append_ #[27, 27] 27 #[.slice (some ⟨wA.heap.size, 0, none⟩) 0 0, .slice (some ad) (ln - m) (cc - m)]).run Try.prog (wA.drew.alloc (.cells #[] 5)) = .ok (.slice a1 (ln - m) c1) w1 ∧
            w1.ownsRow w.heap.size 5 1 (.slice a1 (ln - m) c1) (ln - m) (((R i).q.drop m).map (Value.int .u8)) ∧ Below wA.heap.size wA w1 := by
          intro ad had
          obtain ⟨v1, w1, x1, x2, x3, x4⟩ := run_append_src (ty := 27) hemp ad (ln - m) (cc - m) _ (hsD ad had) (by omega) (by have := hbW.size; omega)
          rw [Nat.zero_add, List.nil_append] at x2
          have hb0 := (Below.refl wA.heap.size wA.drew).alloc (Nat.le_refl _) (.cells #[] 5)
          have hb0' : Below wA.heap.size wA (wA.drew.alloc (.cells #[] 5)) := ⟨hb0.os, hb0.tape, hb0.output, hb0.size, hb0.block⟩
          have hb1 : Below wA.heap.size wA w1 := hb0'.trans ((Upd.of_grown x3).below hb0'.size (fun x hx => by
            simp [Value.ownBlock] at hx; omega))
          rcases x2.2 with ⟨h, h'⟩ | ⟨g', cap, cur, h, _⟩
          · have := x4.1 h; simp at this
          · subst h; exact ⟨_, _, w1, x1, x2, hb1⟩
        have HLT := hid hlt
        have HSRC := hid hsrc
        have HHI := hid hi
        have HZA := hid hzA
        have HDL := hid hDl
        have HLL := hid hLl
        have fq : ∀ (w1 : World), Below w.heap.size w w1 → w1.cell? ⟨q, 0, none⟩ = some (.slice (some ⟨g, 0, none⟩) 5 5) := fun w1 hb => (hb.cell (p := ⟨q, 0, none⟩) hlt).trans e1
        have hln8 : ln ≤ 8 := by omega
        have d1 : (m : Int) ≤ ln := by omega
        have d2 : (0 : Int) ≤ m := by omega
        have d3 : (m : Int) ≤ cc := by omega
        have d4 : ¬ (ln : Int) = 0 := by omega
        have HTAIL : Hid (∀ a1 c1 w1, w1.ownsRow w.heap.size 5 1 (.slice a1 (ln - m) c1) (ln - m) (((R i).q.drop m).map (Value.int .u8)) → Below w.heap.size w w1 → Left B w (w1.setCell ⟨g, i * 4 + 3, none⟩ (.slice a1 (ln - m) c1)) q g d A R (updP R i { R i with q := (R i).q.drop m })) := by
          refine hid (fun a1 c1 w1 ho hb => ?_)
          have := Left.put (i := i) (n := 0) h (by omega) hi hb (a := a1) (c := c1) (zs := (R i).q.drop m) (by rw [hDl]; exact ho) hB
          rw [hDl] at this; exact this
        by_cases hmc : m = cc
        · have hlnm : ln = m := by omega
          obtain ⟨a1, c1, w1, hrun, ho1, hb1⟩ := hr ⟨gb, 0, none⟩ (fun hl => absurd hl (by omega))
          have hbw1 : Below w.heap.size w w1 := hbA.trans (hb1.mono hbA.size)
          have y0 := fq w1 hbw1
          have y3 := (hb1.cell (p := ⟨w.heap.size, 3, none⟩) (by rw [hzA]; exact Nat.lt_succ_self _)).trans f3
          have yc := (h.below hbw1).cell3 i (by omega)
          have yf := (h.below hbw1).frozen (i * 4 + 3)
          have HL := hid (HTAIL.out a1 c1 w1 ho1 hbw1)
          have z3 : ∀ v, (w1.setCell ⟨g, i * 4 + 3, none⟩ v).cell? ⟨w.heap.size, 3, none⟩ = some (.slice (some ⟨gb, 0, none⟩) ln cc) := fun v => by
            rw [← y3]; exact World.cell?_of_block (a := ⟨w.heap.size, 3, none⟩) (heap_setCell_other w1 ⟨g, i * 4 + 3, none⟩ w.heap.size v (by show w.heap.size ≠ g; omega))
          have HK2 : Hid (w.heap.size < w1.heap.size) := hid (by have := hb1.size; omega)
          have z0 : ∀ v, (w1.setCell ⟨g, i * 4 + 3, none⟩ v).cell? ⟨q, 0, none⟩ = some (.slice (some ⟨g, 0, none⟩) 5 5) := fun v => by
            rw [← y0]; exact World.cell?_of_block (a := ⟨q, 0, none⟩) (heap_setCell_other w1 ⟨g, i * 4 + 3, none⟩ q v h.neg)
          obtain ⟨vo, gvo⟩ : ∃ vo, vo = rsl A R i := ⟨_, rfl⟩
          rw [← gvo] at yc
          have HS2 : Hid (∀ v, Src (w1.setCell ⟨g, i * 4 + 3, none⟩ v) (some ⟨gb, 0, none⟩) m ((R i).q.take m)) := hid (fun v => by
            refine ((Upd.setCell (F := (· = g)) w1 ⟨g, i * 4 + 3, none⟩ v rfl).src (HSRC.out.below hbw1) (fun b o e => ?_)).takes hml
            injection e with e; injection e with e1 e2; subst e1
            obtain ⟨C, hb, _⟩ := h.row
            exact ne_of_type hb (by decide) (h.own i (by omega)) gb (by rw [rsl, ← ga, ← gl, ← gc]; rfl))
          obtain ⟨i5, hi5, hw0, hw1, hw2⟩ := info_parts Try.info5
          clear hE hP hn h hL hW gr gu gl ga gc gA hbA hA hq8 hr fq hsD hemp hbW hsrc hown gvo t1 t2 hqn gm ho1 hb1 hbw1 hLl hDl hzA hcap hi
          obtain rfl : ln = cc := by omega
          obtain rfl : ln = m := by omega
          simp only [Nat.sub_self] at hrun HL
          clear hmc hlnm
          go_enter Try.func14, Try.ntmps14
          go_wp2_with fail
          refine k1.out.mono ?_
          rintro e w0 ⟨rfl, rfl⟩
          go_wp2_with fail
          rw [← GA.out]
          go_wp2_with fail
          go_region_held3 (fun wx => wx.cell? ⟨q, 0, none⟩ = some (.slice (some ⟨g, 0, none⟩) 5 5) ∧ wx.cell? ⟨w0.heap.size, 3, none⟩ = some (.slice (some ⟨gb, 0, none⟩) ln ln)) (go_keep) (refine step_append_is rfl _ _ 27 27 rfl _ _ (by simp [Act.eval]) (by simp [Act.eval]) hrun ?_)
          obtain ⟨w2, gw2⟩ : ∃ w2, w2 = w1.setCell ⟨g, i * 4 + 3, none⟩ (.slice a1 0 c1) := ⟨_, rfl⟩
          have v3 := z3 (.slice a1 0 c1)
          have HS3 := hid (HS2.out (.slice a1 0 c1))
          have hz2 : w2.heap.size = w1.heap.size := by rw [gw2]; simp
          rw [← gw2] at v3 HS3 HL
          rw [← gw2]
          clear z3 HS2 gw2 z0 y0 y3 yc yf hrun
          have HSA := hid (HS3.out.below ((Below.refl _ _).alloc (Nat.le_refl _) (.cells #[] 5)))
          have HEM := hid (own_empty w2)
          have v4 := (((Below.refl w2.heap.size w2).alloc (Nat.le_refl _) (.cells #[] 5)).cell (p := ⟨w0.heap.size, 3, none⟩) (by have := HK2.out; show w0.heap.size < w2.heap.size; omega)).trans v3
          clear hz2
          go_wp2_with (at_builtin; go_must (refine wpList_append_any _ rfl (.tmp 51) (.tmp 55) 27 rfl w2.heap.size i5 Try.underlying27 hi5 hw0 hw1 hw2 _ 0 [] rfl HEM.out (some ⟨gb, 0, none⟩) ln ln _ rfl HSA.out (fun e => by cases e) (by omega) (by simp) ?_; intro v4 w4 ho4 hg4 hw4))
          go_ret3
          rw [Nat.zero_add, List.nil_append] at ho4
          have hb5 : Below w2.heap.size (w2.alloc (.cells #[] 5)) w4 := (Upd.of_grown hg4).below (by simp) (fun x hx => by
            have hx' : x = w2.heap.size := by injection hx
            omega)
          have hb4 : Below w2.heap.size w2 w4 := ((Below.refl _ _).alloc (Nat.le_refl _) (.cells #[] 5)).trans hb5
          obtain ⟨a4, c4, rfl, _, _, hs4, _⟩ := own_slice ho4
          exact ⟨a4, c4, rfl, hs4, HL.out.below hb4⟩
        · have d5 : (m : Int) < cc := by omega
          have d6 : ¬ cc = m := by omega
          obtain ⟨a1, c1, w1, hrun, ho1, hb1⟩ := hr ⟨gb, m, none⟩ (fun _ => rfl)
          have hbw1 : Below w.heap.size w w1 := hbA.trans (hb1.mono hbA.size)
          have y0 := fq w1 hbw1
          have y3 := (hb1.cell (p := ⟨w.heap.size, 3, none⟩) (by rw [hzA]; exact Nat.lt_succ_self _)).trans f3
          have yc := (h.below hbw1).cell3 i (by omega)
          have yf := (h.below hbw1).frozen (i * 4 + 3)
          have HL := hid (HTAIL.out a1 c1 w1 ho1 hbw1)
          have z3 : ∀ v, (w1.setCell ⟨g, i * 4 + 3, none⟩ v).cell? ⟨w.heap.size, 3, none⟩ = some (.slice (some ⟨gb, 0, none⟩) ln cc) := fun v => by
            rw [← y3]; exact World.cell?_of_block (a := ⟨w.heap.size, 3, none⟩) (heap_setCell_other w1 ⟨g, i * 4 + 3, none⟩ w.heap.size v (by show w.heap.size ≠ g; omega))
          have HK2 : Hid (w.heap.size < w1.heap.size) := hid (by have := hb1.size; omega)
          have z0 : ∀ v, (w1.setCell ⟨g, i * 4 + 3, none⟩ v).cell? ⟨q, 0, none⟩ = some (.slice (some ⟨g, 0, none⟩) 5 5) := fun v => by
            rw [← y0]; exact World.cell?_of_block (a := ⟨q, 0, none⟩) (heap_setCell_other w1 ⟨g, i * 4 + 3, none⟩ q v h.neg)
          obtain ⟨vo, gvo⟩ : ∃ vo, vo = rsl A R i := ⟨_, rfl⟩
          rw [← gvo] at yc
          have HS2 : Hid (∀ v, Src (w1.setCell ⟨g, i * 4 + 3, none⟩ v) (some ⟨gb, 0, none⟩) m ((R i).q.take m)) := hid (fun v => by
            refine ((Upd.setCell (F := (· = g)) w1 ⟨g, i * 4 + 3, none⟩ v rfl).src (HSRC.out.below hbw1) (fun b o e => ?_)).takes hml
            injection e with e; injection e with e1 e2; subst e1
            obtain ⟨C, hb, _⟩ := h.row
            exact ne_of_type hb (by decide) (h.own i (by omega)) gb (by rw [rsl, ← ga, ← gl, ← gc]; rfl))
          obtain ⟨i5, hi5, hw0, hw1, hw2⟩ := info_parts Try.info5
          clear hE hP hn h hL hW gr gu gl ga gc gA hbA hA hq8 hr fq hsD hemp hbW hsrc hown gvo t1 t2 hqn gm ho1 hb1 hbw1 hLl hDl hzA hcap hi
          go_enter Try.func14, Try.ntmps14
          go_wp2_with fail
          refine k1.out.mono ?_
          rintro e w0 ⟨rfl, rfl⟩
          go_wp2_with fail
          rw [← GA.out]
          go_wp2_with fail
          go_region_held3 (fun wx => wx.cell? ⟨q, 0, none⟩ = some (.slice (some ⟨g, 0, none⟩) 5 5) ∧ wx.cell? ⟨w0.heap.size, 3, none⟩ = some (.slice (some ⟨gb, 0, none⟩) ln cc)) (go_keep) (refine step_append_is rfl _ _ 27 27 rfl _ _ (by simp [Act.eval]) (by simp [Act.eval]) hrun ?_)
          obtain ⟨w2, gw2⟩ : ∃ w2, w2 = w1.setCell ⟨g, i * 4 + 3, none⟩ (.slice a1 (ln - m) c1) := ⟨_, rfl⟩
          have v3 := z3 (.slice a1 (ln - m) c1)
          have HS3 := hid (HS2.out (.slice a1 (ln - m) c1))
          have hz2 : w2.heap.size = w1.heap.size := by rw [gw2]; simp
          rw [← gw2] at v3 HS3 HL
          rw [← gw2]
          clear z3 HS2 gw2 z0 y0 y3 yc yf hrun
          have HSA := hid (HS3.out.below ((Below.refl _ _).alloc (Nat.le_refl _) (.cells #[] 5)))
          have HEM := hid (own_empty w2)
          have v4 := (((Below.refl w2.heap.size w2).alloc (Nat.le_refl _) (.cells #[] 5)).cell (p := ⟨w0.heap.size, 3, none⟩) (by have := HK2.out; show w0.heap.size < w2.heap.size; omega)).trans v3
          clear hz2
          go_wp2_with (at_builtin; go_must (refine wpList_append_any _ rfl (.tmp 51) (.tmp 55) 27 rfl w2.heap.size i5 Try.underlying27 hi5 hw0 hw1 hw2 _ 0 [] rfl HEM.out (some ⟨gb, 0, none⟩) m cc _ rfl HSA.out (fun e => by cases e) (by omega) (by simp) ?_; intro v4 w4 ho4 hg4 hw4))
          go_ret3
          rw [Nat.zero_add, List.nil_append] at ho4
          have hb5 : Below w2.heap.size (w2.alloc (.cells #[] 5)) w4 := (Upd.of_grown hg4).below (by simp) (fun x hx => by
            have hx' : x = w2.heap.size := by injection hx
            omega)
          have hb4 : Below w2.heap.size w2 w4 := ((Below.refl _ _).alloc (Nat.le_refl _) (.cells #[] 5)).trans hb5
          obtain ⟨a4, c4, rfl, _, _, hs4, _⟩ := own_slice ho4
          exact ⟨a4, c4, rfl, hs4, HL.out.below hb4⟩

end Go.Proofs.Ytemdckmnedlfcaa
