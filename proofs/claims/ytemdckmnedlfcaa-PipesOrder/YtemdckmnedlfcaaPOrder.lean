/- The road of PipesOrder. -/
import Derived.Test.YtemdckmnedlfcaaPDo
namespace Go.Proofs.Ytemdckmnedlfcaa
open Go.RowKit Lend
set_option linter.unusedVariables false

/-- What PipesOrder keeps: the pipe, all that was written, all that was read. -/
structure Orr (w0 w : World) (p : Nat) (vi vo : Value) (I O q : List Int) : Prop where
  tf : Tf w0 w p (one ⟨1, 1, q⟩)
  ri : w.ownsRow w0.heap.size 5 1 vi I.length (I.map (Value.int .u8))
  ro : w.ownsRow w0.heap.size 5 1 vo O.length (O.map (Value.int .u8))
  ne : ∀ g, vi.ownBlock = some g → vo.ownBlock ≠ some g
  eq : I = O ++ q

theorem Tb.ne_row {w : World} {p : Nat} {k : Bool} {P : Nat → Pp} {B n : Nat} {v : Value} {xs : List Value} (h : Tb w p k P) (r : w.ownsRow B 5 1 v n xs) : ∀ g, v.ownBlock = some g → g ≠ p := by
  intro g hg e
  subst e
  obtain ⟨C, hb, _⟩ := h
  rcases r.2 with ⟨rfl, _⟩ | ⟨g', cap, cur, rfl, _, hh, _⟩
  · cases hg
  · simp [Value.ownBlock] at hg
    subst hg
    rw [hb] at hh
    cases hh

theorem Orr.below {w0 w w' : World} {p : Nat} {vi vo : Value} {I O q : List Int} (h : Orr w0 w p vi vo I O q) (u : Below w.heap.size w w') : Orr w0 w' p vi vo I O q :=
  ⟨h.tf.below u, own_below h.ri u, own_below h.ro u, h.ne, h.eq⟩

/-- Behind a Write, with the bytes that went in. -/
theorem Orr.wrote {w0 w w1 w2 : World} {p : Nat} {vi vo v' : Value} {I O q zs : List Int} (h : Orr w0 w p vi vo I O q) (ht : Tf w0 w1 p (one ⟨1, 1, q ++ zs⟩)) (u : Upd (· = p) w w1)
    (ho : w2.ownsRow w0.heap.size 5 1 v' (I.length + zs.length) (I.map (Value.int .u8) ++ zs.map (Value.int .u8))) (hg : w1.grownBy w2 vi.ownBlock) (hw : v'.ownBlock = vi.ownBlock ∨ ∀ x, v'.ownBlock = some x → w1.heap.size ≤ x) : Orr w0 w2 p v' vo (I ++ zs) O (q ++ zs) := by
  have hri : w1.ownsRow w0.heap.size 5 1 vi I.length (I.map (Value.int .u8)) := u.own h.ri (fun k hk => h.tf.tb.ne_row h.ri k hk)
  have hro : w1.ownsRow w0.heap.size 5 1 vo O.length (O.map (Value.int .u8)) := u.own h.ro (fun k hk => h.tf.tb.ne_row h.ro k hk)
  have u2 := Upd.of_grown hg
  refine ⟨⟨ht.tb.upd u2 (fun e => ht.tb.ne_row hri p e.symm rfl), ht.ge, ht.bel.trans (u2.below ht.bel.size (fun x hx => (hri.lt x hx.symm).1))⟩, by simpa using ho, u2.own hro (fun k hk e => h.ne k e.symm hk), ?_, by rw [h.eq, List.append_assoc]⟩
  intro g hgv hgo
  rcases hw with hw | hw
  · exact h.ne g (hw ▸ hgv) hgo
  · have := hw g hgv
    have := (hro.lt g hgo).2
    omega

/-- Behind a Read, with the bytes that came out. -/
theorem Orr.read {w0 w w1 w2 : World} {p m : Nat} {vi vo v' : Value} {I O q : List Int} (h : Orr w0 w p vi vo I O q) (ht : Tf w0 w1 p (one ⟨1, 1, q.drop m⟩)) (u : Upd (· = p) w w1)
    (ho : w2.ownsRow w0.heap.size 5 1 v' (O.length + (q.take m).length) (O.map (Value.int .u8) ++ (q.take m).map (Value.int .u8))) (hg : w1.grownBy w2 vo.ownBlock) (hw : v'.ownBlock = vo.ownBlock ∨ ∀ x, v'.ownBlock = some x → w1.heap.size ≤ x) : Orr w0 w2 p vi v' I (O ++ q.take m) (q.drop m) := by
  have hri : w1.ownsRow w0.heap.size 5 1 vi I.length (I.map (Value.int .u8)) := u.own h.ri (fun k hk => h.tf.tb.ne_row h.ri k hk)
  have hro : w1.ownsRow w0.heap.size 5 1 vo O.length (O.map (Value.int .u8)) := u.own h.ro (fun k hk => h.tf.tb.ne_row h.ro k hk)
  have u2 := Upd.of_grown hg
  refine ⟨⟨ht.tb.upd u2 (fun e => ht.tb.ne_row hro p e.symm rfl), ht.ge, ht.bel.trans (u2.below ht.bel.size (fun x hx => (hro.lt x hx.symm).1))⟩, u2.own hri (fun k hk e => h.ne k hk e.symm), by simpa using ho, ?_, by rw [h.eq, List.append_assoc, List.take_append_drop]⟩
  intro g hgv hgo
  rcases hw with hw | hw
  · exact h.ne g hgv (hw ▸ hgo)
  · have := hw g hgo
    have := (hri.lt g hgv).2
    omega

/-- How a row of bytes lies. -/
theorem own_slice {w : World} {B n : Nat} {v : Value} {xs : List Int} (h : w.ownsRow B 5 1 v n (xs.map (Value.int .u8))) : ∃ a c, v = .slice a n c ∧ n ≤ c ∧ c ≤ 9223372036854775807 ∧ Src w a n xs ∧ (a = none → c = 0) := by
  rcases h.2 with ⟨rfl, rfl⟩ | ⟨g, cap, cur, rfl, _, _, h1, h2, _⟩
  · have hx : xs = [] := List.eq_nil_of_length_eq_zero (by simpa using h.1)
    subst hx
    exact ⟨none, 0, rfl, Nat.le_refl _, by omega, Src.nil _ _, fun _ => rfl⟩
  · unfold maxLen at h2
    exact ⟨_, cap, rfl, h1, by omega, Src.own h, fun e => by cases e⟩

/-- What a Write does to the one pipe, with any bytes. -/
theorem write_one {w0 w : World} {p lb cb m : Nat} {q zs : List Int} {ab : Option Addr} (h : Tf w0 w p (one ⟨1, 1, q⟩)) (hs : Src w ab lb zs) (hm : m = min lb (8 - q.length)) :
    Calls Try.prog 17 #[.pointer (some ⟨p, 0, none⟩), .int .i64 1, .slice ab lb cb] w fun e w' => e = .returned (.tuple #[.int .i64 m, .bool (decide (m = 0) && decide (0 < lb)), .int .i64 0]) ∧ Tf w0 w' p (one ⟨1, 1, q ++ zs.take m⟩) ∧ Upd (· = p) w w' := by
  have hq := h.tb.le 1 (by omega)
  rw [one_at] at hq
  simp only at hq
  rcases Nat.eq_zero_or_pos lb with h0 | h0
  · subst h0
    obtain rfl : m = 0 := by omega
    refine (write_nil p 1 cb ab false _ w h.tb (by omega) (by omega) (by simp [one])).mono ?_
    rintro e w' ⟨rfl, rfl⟩
    exact ⟨rfl, by simpa using h, Upd.refl _ _⟩
  · by_cases h8 : q.length = 8
    · obtain rfl : m = 0 := by omega
      refine (write_full p 1 lb cb ab false _ w h.tb (by omega) (by omega) (by simp [one]) h0 h8).mono ?_
      rintro e w' ⟨rfl, rfl⟩
      exact ⟨by simp [h0], by simpa using h, Upd.refl _ _⟩
    · obtain ⟨b, o, rfl, _⟩ := hs.2 h0
      refine (write_some p 1 m lb cb ⟨b, o, none⟩ false _ zs w h.tb (by omega) (by omega) (by simp [one]) h0 (by show q.length < 8; omega) hs hm).mono ?_
      rintro e w' ⟨rfl, ht, hu, _⟩
      rw [upd_one] at ht
      exact ⟨by simp [show m ≠ 0 by omega], h.upd ht hu, hu⟩

/-- What a Read does to the one pipe. -/
theorem read_one {w0 w : World} {p m : Nat} {q : List Int} {count : Int} (h : Tf w0 w p (one ⟨1, 1, q⟩)) (hc : 0 ≤ count) (hm : (m : Int) = if (q.length : Int) < count then (q.length : Int) else count) :
    Calls Try.prog 13 #[.pointer (some ⟨p, 0, none⟩), .int .i64 1, .int .i64 count] w fun e w' => ∃ a c, e = .returned (.tuple #[.slice a m c, .bool (decide (m = 0) && decide (0 < count)), .int .i64 0]) ∧ Src w' a m (q.take m) ∧ (a = none → c = 0) ∧ Tf w0 w' p (one ⟨1, 1, q.drop m⟩) ∧ Upd (· = p) w w' := by
  by_cases c0 : count = 0
  · subst c0
    obtain rfl : m = 0 := by split at hm <;> omega
    refine (read_zero p 1 false _ w h.tb (by omega) (by omega) rfl).mono ?_
    rintro e w' ⟨rfl, rfl⟩
    exact ⟨none, 0, rfl, Src.nil _ _, fun _ => rfl, h, Upd.refl _ _⟩
  · rcases Nat.eq_zero_or_pos q.length with h0 | h0
    · obtain rfl : q = [] := List.eq_nil_of_length_eq_zero h0
      obtain rfl : m = 0 := by simp at hm; split at hm <;> omega
      refine (read_empty p 1 count false _ w h.tb (by omega) (by omega) rfl (by omega) rfl).mono ?_
      rintro e w' ⟨rfl, hh, hu⟩
      have hu' := hu.mono (G := (· = p)) (fun _ _ h => h.elim)
      exact ⟨none, 0, by simp [one, show 0 < count by omega], Src.nil _ _, fun _ => rfl, h.upd (h.tb.hp hh) hu', hu'⟩
    · refine (read_some p 1 m count false _ w h.tb (by omega) (by omega) rfl (by omega) h0 hm).mono ?_
      rintro e w' ⟨g, c, rfl, ho, ht, hu⟩
      rw [upd_one] at ht
      have hm1 : m ≠ 0 := by split at hm <;> omega
      exact ⟨_, c, by simp [hm1], Src.own ho, (fun e => by cases e), h.upd ht hu, hu⟩

theorem Src.take {w : World} {a : Option Addr} {n m : Nat} {zs : List Int} (h : Src w a n zs) (hm : m ≤ n) : Src w a m (zs.take m) := by
  refine ⟨by have := h.1; simp; omega, fun hl => ?_⟩
  obtain ⟨b, o, e, hlt, hc⟩ := h.2 (by omega)
  exact ⟨b, o, e, hlt, fun j hj => by rw [hc j (by omega)]; simp [List.getD, hj]⟩

/-- What Look tells of the one pipe. -/
theorem look_one {w0 w : World} {p : Nat} {q : List Int} (h : Tf w0 w p (one ⟨1, 1, q⟩)) :
    Calls Try.prog 24 #[.pointer (some ⟨p, 0, none⟩)] w fun e w' => ∃ g c, e = .returned (.slice (some ⟨g, 0, none⟩) 1 c) ∧ w'.cell? ⟨g, 3, none⟩ = some (.int .i64 q.length) ∧ Below w.heap.size w w' := by
  refine (look_any p false _ w h.tb).mono ?_
  rintro e w' ⟨v, rfl, ho, hb⟩
  rcases ho.2 with ⟨_, h1⟩ | ⟨g, c, cur, rfl, _⟩
  · cases h1
  · exact ⟨g, c, rfl, ho.cellAt 3 (by show 3 < 1 * 4; omega), hb⟩

set_option maxHeartbeats 4000000 in
set_option maxRecDepth 20000 in
theorem order_road (al : Option Addr) (ll cl : Nat) (w : World) (hd : Dos w al ll) (hl : ll ≤ cl) (hcl : cl ≤ 9223372036854775807) :
    Calls Try.prog 4 #[.slice al ll cl] w fun e w' => e = .returned (.bool true) ∧ Below w.heap.size w w' := by
  obtain ⟨i0, hi0, hz0, hz1, hz2⟩ := info_parts Try.info5
  have k0 := hid (pnew_any 0 w)
  have HD := hid hd
  clear hd
  go_enter Try.func4, Try.ntmps4
  go_wp2_with fail
  refine k0.out.mono ?_
  rintro e w1 ⟨rfl, ht, hb, hz⟩
  have HT : Hid (Tf w w1 w.heap.size noPipes) := hid ⟨ht, Nat.le_refl _, hb⟩
  obtain ⟨p, gp⟩ : ∃ p, p = w.heap.size := ⟨_, rfl⟩
  rw [← gp] at HT ⊢
  have GP := hid gp
  clear k0 ht hb hz gp
  have k1 := hid (make_yes p 1 false noPipes w1 HT.out.tb (by omega) (by omega) (fun j h1 h2 => by omega) rfl)
  go_wp2_with fail
  refine k1.out.mono ?_
  rintro e w2 ⟨rfl, ht, hu, hz⟩
  rw [upd_none] at ht
  have HO : Hid (Orr w w2 p (.slice none 0 0) (.slice none 0 0) [] [] []) := hid ⟨HT.out.upd ht hu, World.ownsRow_nil _ _ _ _, World.ownsRow_nil _ _ _ _, (fun g h => by cases h), rfl⟩
  clear k1 ht hu hz HT
  go_wp2_with fail
  go_loopw [6, 7, 27] (fun vi vo s wr => ∃ (i : Nat) (I O q : List Int), i ≤ ll ∧ s = .int .i64 i ∧ I.length ≤ i * 8 ∧ Hid (Orr w wr p vi vo I O q)) (fun _ _ s _ => ll - (intOf s).toNat)
  case atStart => exact ⟨0, [], [], [], by omega, rfl, by simp, HO⟩
  case round =>
    obtain ⟨i, I, O, q, hil, rfl, hI8, HR⟩ := hrel
    clear HO
    by_cases h : i < ll
    · obtain ⟨b, o, rfl, hh⟩ := HD.out (by omega)
      obtain ⟨x0, x1, x2, x3, ab, lb, cb, bs, hdo⟩ := hh i h
      have HS0 := hid hdo.src
      have hdo := hdo.below HR.out.tf.bel
      have c0 := hdo.c0
      have c1 := hdo.c1
      have c2 := hdo.c2
      have c3 := hdo.c3
      have c4 := hdo.c4
      have hle := hdo.le
      have hnil := hdo.nil
      have hrch := hdo.reach
      obtain ⟨wA, gA⟩ : ∃ wA, wA = wr.alloc (.cells #[.int .i64 x0, .int .i64 x1, .int .i64 x2, .bool x3, .slice ab lb cb] 29) := ⟨_, rfl⟩
      have hbA : Below wr.heap.size wr wA := by rw [gA]; exact (Below.refl _ _).alloc (Nat.le_refl _) _
      have HRA := hid (HR.out.below hbA)
      have HSA := hid (hdo.src.below hbA)
      have hA : wA.heap[wr.heap.size]? = some (.cells #[.int .i64 x0, .int .i64 x1, .int .i64 x2, .bool x3, .slice ab lb cb] 29 (0, 0)) := by rw [gA]; exact heap_alloc_new wr _
      have hlt := HR.out.tf.tb.lt
      have hq8 := HR.out.tf.tb.le 1 (by omega)
      rw [one_at] at hq8
      simp only at hq8
      have GA := hid gA
      have HBA := hid hbA
      have e0 := cell_of_row wA wr.heap.size 0 _ 29 (0, 0) hA
      have e2 := cell_of_row wA wr.heap.size 2 _ 29 (0, 0) hA
      have e4 := cell_of_row wA wr.heap.size 4 _ 29 (0, 0) hA
      simp at e0 e2 e4
      have HKL : Hid (wr.heap.size < wA.heap.size) := hid (Array.getElem?_eq_some_iff.1 hA).1
      clear hh gA hbA hdo hA
      by_cases h100 : 100 < i
      · have i100 : (100 : Int) < (i : Int) := by omega
        go_wp2_with fail
        rw [← GA.out]
        go_ret
        exact ⟨rfl, HRA.out.tf.bel⟩
      · have i100 : ¬ (100 : Int) < (i : Int) := by omega
        by_cases ce : x0.tmod 2 = 0
        · obtain ⟨m, gm⟩ : ∃ m, m = min lb (8 - q.length) := ⟨_, rfl⟩
          have kW := hid (write_one (cb := cb) HRA.out.tf HSA.out gm)
          have hml : m ≤ lb := by omega
          have hm8 : m + q.length ≤ 8 := by omega
          clear gm
          by_cases hm0 : m = 0
          · subst hm0
            have z1 : ¬ (lb : Int) < 0 := by omega
            have z2 : (0 : Int) ≤ cb := by omega
            go_wp2_with fail
            rw [← GA.out]
            go_wp2_with fail
            refine kW.out.mono ?_
            rintro e w3 ⟨rfl, ht3, hu3⟩
            have f4 : w3.cell? ⟨wr.heap.size, 4, none⟩ = some (.slice ab lb cb) := (World.cell?_of_block (a := ⟨wr.heap.size, 4, none⟩) (hu3.block wr.heap.size HKL.out (by omega))).trans e4
            have HT3 := hid ht3
            have HU3 := hid hu3
            have HS3 := hid ((HS0.out.below ht3.bel).take hml)
            have HRI : Hid (w3.ownsRow w.heap.size 5 1 _ I.length (I.map (Value.int .u8))) := hid (hu3.own HRA.out.ri (fun k hk => HRA.out.tf.tb.ne_row HRA.out.ri k hk))
            have hbl : (bs.take 0).length = 0 := HS3.out.1
            have HBL := hid hbl
            have hbs := ht3.bel.size
            clear ht3 hu3 hbl kW
            go_wp2_with (at_builtin; go_must (refine wpList_append_any _ rfl (.tmp 68) (.tmp 72) 27 rfl w.heap.size i0 Try.underlying27 hi0 hz0 hz1 hz2 _ I.length (I.map (Value.int .u8)) rfl HRI.out ab 0 cb (bs.take 0) rfl HS3.out (fun e => (hnil e).2) (by omega) hbs ?_; intro v4 w4 ho4 hg4 hw4))
            have HR4 := hid (HRA.out.wrote HT3.out HU3.out (by rw [HBL.out]; exact ho4) hg4 hw4)
            clear ho4 hg4 hw4 HRI HT3 HU3
            obtain ⟨ai, ci, hvi, hic, hci, hsi, _⟩ := own_slice HR4.out.ri
            obtain ⟨ao, co, hvo, hoc, hco, hso, _⟩ := own_slice HR4.out.ro
            have hlen : (I ++ bs.take 0).length = (O).length + (q ++ bs.take 0).length := (congrArg List.length HR4.out.eq).trans List.length_append
            have hpre : (I ++ bs.take 0).take (O).length = O := (congrArg (List.take _) HR4.out.eq).trans List.take_left
            have hqq := HR4.out.tf.tb.le 1 (by omega)
            rw [one_at] at hqq
            simp only at hqq
            have kL := hid (look_one HR4.out.tf)
            have kP := hid (fun w5 (hb5 : Below w4.heap.size w4 w5) => hasprefix_yes ai ao _ ci _ co _ _ w5 (hsi.below hb5) (hso.below hb5) (by rw [hlen]; omega) hic hci hpre)
            have HIL : Hid ((I ++ bs.take 0).length ≤ (i + 1) * 8) := hid (by rw [List.length_append, HBL.out]; omega)
            obtain ⟨nO, gO⟩ : ∃ nO, nO = (O).length := ⟨_, rfl⟩
            obtain ⟨nq, gq⟩ : ∃ nq, nq = (q ++ bs.take 0).length := ⟨_, rfl⟩
            obtain ⟨nI, gI⟩ : ∃ nI, nI = (I ++ bs.take 0).length := ⟨_, rfl⟩
            rw [← gO] at hvo kP hlen hoc
            rw [← gq] at kL hqq hlen
            rw [← gI] at hvi kP hic hlen
            have hsub : (nI : Int) - (nO : Int) = (nq : Int) := by omega
            have HVI := hid hvi
            have HVO := hid hvo
            have d8 : ¬ (8 : Int) < (nq : Int) := by omega
            have hI9 : nI ≤ 1000 := by have := HIL.out; omega
            clear hvi hvo hsi hso hlen hpre gO gq gI hic hoc hci hco
            go_wp2_with fail
            refine kL.out.mono ?_
            rintro e w5 ⟨g5, c5, rfl, hc5, hb5⟩
            have HB5 := hid hb5
            clear hb5
            rw [HVI.out, HVO.out]
            go_wp2_with fail
            refine (kP.out w5 HB5.out).mono ?_
            rintro e w6 ⟨rfl, rfl⟩
            go_wp2_with fail
            go_roundw
            case rel => exact ⟨i + 1, _, _, _, by omega, by go_num, HIL.out, hid (by rw [← HVI.out, ← HVO.out]; exact HR4.out.below HB5.out)⟩
            case measure => simp [intOf]; omega
          · have z1 : ¬ (lb : Int) < (m : Int) := by omega
            have z2 : (m : Int) ≤ cb := by omega
            have z3 : (0 : Int) ≤ m := by omega
            have z4 : ¬ (m : Int) = 0 := by omega
            go_wp2_with fail
            rw [← GA.out]
            go_wp2_with fail
            refine kW.out.mono ?_
            rintro e w3 ⟨rfl, ht3, hu3⟩
            have f4 : w3.cell? ⟨wr.heap.size, 4, none⟩ = some (.slice ab lb cb) := (World.cell?_of_block (a := ⟨wr.heap.size, 4, none⟩) (hu3.block wr.heap.size HKL.out (by omega))).trans e4
            have HT3 := hid ht3
            have HU3 := hid hu3
            have HS3 := hid ((HS0.out.below ht3.bel).take hml)
            have HRI : Hid (w3.ownsRow w.heap.size 5 1 _ I.length (I.map (Value.int .u8))) := hid (hu3.own HRA.out.ri (fun k hk => HRA.out.tf.tb.ne_row HRA.out.ri k hk))
            have hbl : (bs.take m).length = m := HS3.out.1
            have HBL := hid hbl
            have hbs := ht3.bel.size
            clear ht3 hu3 hbl kW
            go_wp2_with (at_builtin; go_must (refine wpList_append_any _ rfl (.tmp 68) (.tmp 72) 27 rfl w.heap.size i0 Try.underlying27 hi0 hz0 hz1 hz2 _ I.length (I.map (Value.int .u8)) rfl HRI.out ab m cb (bs.take m) rfl HS3.out (fun e => (hnil e).2) (by omega) hbs ?_; intro v4 w4 ho4 hg4 hw4))
            have HR4 := hid (HRA.out.wrote HT3.out HU3.out (by rw [HBL.out]; exact ho4) hg4 hw4)
            clear ho4 hg4 hw4 HRI HT3 HU3
            obtain ⟨ai, ci, hvi, hic, hci, hsi, _⟩ := own_slice HR4.out.ri
            obtain ⟨ao, co, hvo, hoc, hco, hso, _⟩ := own_slice HR4.out.ro
            have hlen : (I ++ bs.take m).length = (O).length + (q ++ bs.take m).length := (congrArg List.length HR4.out.eq).trans List.length_append
            have hpre : (I ++ bs.take m).take (O).length = O := (congrArg (List.take _) HR4.out.eq).trans List.take_left
            have hqq := HR4.out.tf.tb.le 1 (by omega)
            rw [one_at] at hqq
            simp only at hqq
            have kL := hid (look_one HR4.out.tf)
            have kP := hid (fun w5 (hb5 : Below w4.heap.size w4 w5) => hasprefix_yes ai ao _ ci _ co _ _ w5 (hsi.below hb5) (hso.below hb5) (by rw [hlen]; omega) hic hci hpre)
            have HIL : Hid ((I ++ bs.take m).length ≤ (i + 1) * 8) := hid (by rw [List.length_append, HBL.out]; omega)
            obtain ⟨nO, gO⟩ : ∃ nO, nO = (O).length := ⟨_, rfl⟩
            obtain ⟨nq, gq⟩ : ∃ nq, nq = (q ++ bs.take m).length := ⟨_, rfl⟩
            obtain ⟨nI, gI⟩ : ∃ nI, nI = (I ++ bs.take m).length := ⟨_, rfl⟩
            rw [← gO] at hvo kP hlen hoc
            rw [← gq] at kL hqq hlen
            rw [← gI] at hvi kP hic hlen
            have hsub : (nI : Int) - (nO : Int) = (nq : Int) := by omega
            have HVI := hid hvi
            have HVO := hid hvo
            have d8 : ¬ (8 : Int) < (nq : Int) := by omega
            have hI9 : nI ≤ 1000 := by have := HIL.out; omega
            clear hvi hvo hsi hso hlen hpre gO gq gI hic hoc hci hco
            go_wp2_with fail
            refine kL.out.mono ?_
            rintro e w5 ⟨g5, c5, rfl, hc5, hb5⟩
            have HB5 := hid hb5
            clear hb5
            rw [HVI.out, HVO.out]
            go_wp2_with fail
            refine (kP.out w5 HB5.out).mono ?_
            rintro e w6 ⟨rfl, rfl⟩
            go_wp2_with fail
            go_roundw
            case rel => exact ⟨i + 1, _, _, _, by omega, by go_num, HIL.out, hid (by rw [← HVI.out, ← HVO.out]; exact HR4.out.below HB5.out)⟩
            case measure => simp [intOf]; omega
        · by_cases hcn : x2 < 0
          · have kR := hid (read_neg p 1 x2 false _ wA HRA.out.tf.tb (by omega) (by omega) rfl hcn)
            go_wp2_with fail
            rw [← GA.out]
            go_wp2_with fail
            refine kR.out.mono ?_
            rintro e w3 ⟨rfl, rfl⟩
            go_wp2_with fail
            go_roundw
            case rel => exact ⟨i + 1, I, O, q, by omega, by go_num, by omega, HRA⟩
            case measure => simp [intOf]; omega
          · obtain ⟨m, gm⟩ : ∃ m : Nat, (m : Int) = if (q.length : Int) < x2 then (q.length : Int) else x2 := by
              by_cases hc : (q.length : Int) < x2
              · exact ⟨q.length, by rw [if_pos hc]⟩
              · exact ⟨x2.toNat, by rw [if_neg hc]; omega⟩
            have kR := hid (read_one HRA.out.tf (by omega) gm)
            have hmx : (m : Int) ≤ x2 := by split at gm <;> omega
            have hm8 : m ≤ 8 := by split at gm <;> omega
            clear gm
            have z1 : ¬ x2 < (m : Int) := by omega
            by_cases hm0 : m = 0
            · subst hm0
              go_wp2_with fail
              rw [← GA.out]
              go_wp2_with fail
              refine kR.out.mono ?_
              rintro e w3 ⟨ar, cr, rfl, hsr, hnr, ht3, hu3⟩
              have f2 : w3.cell? ⟨wr.heap.size, 2, none⟩ = some (.int .i64 x2) := (World.cell?_of_block (a := ⟨wr.heap.size, 2, none⟩) (hu3.block wr.heap.size HKL.out (by omega))).trans e2
              have HT3 := hid ht3
              have HU3 := hid hu3
              have HS3 := hid hsr
              have HRO : Hid (w3.ownsRow w.heap.size 5 1 _ O.length (O.map (Value.int .u8))) := hid (hu3.own HRA.out.ro (fun k hk => HRA.out.tf.tb.ne_row HRA.out.ro k hk))
              have hbl : (q.take 0).length = 0 := HS3.out.1
              have HBL := hid hbl
              have hbs := ht3.bel.size
              have hOI : O.length ≤ I.length := by rw [HRA.out.eq]; simp
              clear ht3 hu3 hbl kR hsr
              go_wp2_with (at_builtin; go_must (refine wpList_append_any _ rfl (.tmp 109) (.tmp 110) 27 rfl w.heap.size i0 Try.underlying27 hi0 hz0 hz1 hz2 _ O.length (O.map (Value.int .u8)) rfl HRO.out ar 0 cr (q.take 0) rfl HS3.out hnr (by omega) hbs ?_; intro v4 w4 ho4 hg4 hw4))
              have HR4 := hid (HRA.out.read (m := 0) HT3.out HU3.out (by rw [HBL.out]; exact ho4) hg4 hw4)
              clear ho4 hg4 hw4 HRO HT3 HU3
              obtain ⟨ai, ci, hvi, hic, hci, hsi, _⟩ := own_slice HR4.out.ri
              obtain ⟨ao, co, hvo, hoc, hco, hso, _⟩ := own_slice HR4.out.ro
              have hlen : (I).length = (O ++ q.take 0).length + (q.drop 0).length := (congrArg List.length HR4.out.eq).trans List.length_append
              have hpre : (I).take (O ++ q.take 0).length = O ++ q.take 0 := (congrArg (List.take _) HR4.out.eq).trans List.take_left
              have hqq := HR4.out.tf.tb.le 1 (by omega)
              rw [one_at] at hqq
              simp only at hqq
              have kL := hid (look_one HR4.out.tf)
              have kP := hid (fun w5 (hb5 : Below w4.heap.size w4 w5) => hasprefix_yes ai ao _ ci _ co _ _ w5 (hsi.below hb5) (hso.below hb5) (by rw [hlen]; omega) hic hci hpre)
              have HIL : Hid ((I).length ≤ (i + 1) * 8) := hid (by omega)
              obtain ⟨nO, gO⟩ : ∃ nO, nO = (O ++ q.take 0).length := ⟨_, rfl⟩
              obtain ⟨nq, gq⟩ : ∃ nq, nq = (q.drop 0).length := ⟨_, rfl⟩
              obtain ⟨nI, gI⟩ : ∃ nI, nI = (I).length := ⟨_, rfl⟩
              rw [← gO] at hvo kP hlen hoc
              rw [← gq] at kL hqq hlen
              rw [← gI] at hvi kP hic hlen
              have hsub : (nI : Int) - (nO : Int) = (nq : Int) := by omega
              have HVI := hid hvi
              have HVO := hid hvo
              have d8 : ¬ (8 : Int) < (nq : Int) := by omega
              have hI9 : nI ≤ 1000 := by have := HIL.out; omega
              clear hvi hvo hsi hso hlen hpre gO gq gI hic hoc hci hco
              go_wp2_with fail
              refine kL.out.mono ?_
              rintro e w5 ⟨g5, c5, rfl, hc5, hb5⟩
              have HB5 := hid hb5
              clear hb5
              rw [HVI.out, HVO.out]
              go_wp2_with fail
              refine (kP.out w5 HB5.out).mono ?_
              rintro e w6 ⟨rfl, rfl⟩
              go_wp2_with fail
              go_roundw
              case rel => exact ⟨i + 1, _, _, _, by omega, by go_num, HIL.out, hid (by rw [← HVI.out, ← HVO.out]; exact HR4.out.below HB5.out)⟩
              case measure => simp [intOf]; omega
            · have z4 : ¬ (m : Int) = 0 := by omega
              go_wp2_with fail
              rw [← GA.out]
              go_wp2_with fail
              refine kR.out.mono ?_
              rintro e w3 ⟨ar, cr, rfl, hsr, hnr, ht3, hu3⟩
              have f2 : w3.cell? ⟨wr.heap.size, 2, none⟩ = some (.int .i64 x2) := (World.cell?_of_block (a := ⟨wr.heap.size, 2, none⟩) (hu3.block wr.heap.size HKL.out (by omega))).trans e2
              have HT3 := hid ht3
              have HU3 := hid hu3
              have HS3 := hid hsr
              have HRO : Hid (w3.ownsRow w.heap.size 5 1 _ O.length (O.map (Value.int .u8))) := hid (hu3.own HRA.out.ro (fun k hk => HRA.out.tf.tb.ne_row HRA.out.ro k hk))
              have hbl : (q.take m).length = m := HS3.out.1
              have HBL := hid hbl
              have hbs := ht3.bel.size
              have hOI : O.length ≤ I.length := by rw [HRA.out.eq]; simp
              clear ht3 hu3 hbl kR hsr
              go_wp2_with (at_builtin; go_must (refine wpList_append_any _ rfl (.tmp 109) (.tmp 110) 27 rfl w.heap.size i0 Try.underlying27 hi0 hz0 hz1 hz2 _ O.length (O.map (Value.int .u8)) rfl HRO.out ar m cr (q.take m) rfl HS3.out hnr (by omega) hbs ?_; intro v4 w4 ho4 hg4 hw4))
              have HR4 := hid (HRA.out.read (m := m) HT3.out HU3.out (by rw [HBL.out]; exact ho4) hg4 hw4)
              clear ho4 hg4 hw4 HRO HT3 HU3
              obtain ⟨ai, ci, hvi, hic, hci, hsi, _⟩ := own_slice HR4.out.ri
              obtain ⟨ao, co, hvo, hoc, hco, hso, _⟩ := own_slice HR4.out.ro
              have hlen : (I).length = (O ++ q.take m).length + (q.drop m).length := (congrArg List.length HR4.out.eq).trans List.length_append
              have hpre : (I).take (O ++ q.take m).length = O ++ q.take m := (congrArg (List.take _) HR4.out.eq).trans List.take_left
              have hqq := HR4.out.tf.tb.le 1 (by omega)
              rw [one_at] at hqq
              simp only at hqq
              have kL := hid (look_one HR4.out.tf)
              have kP := hid (fun w5 (hb5 : Below w4.heap.size w4 w5) => hasprefix_yes ai ao _ ci _ co _ _ w5 (hsi.below hb5) (hso.below hb5) (by rw [hlen]; omega) hic hci hpre)
              have HIL : Hid ((I).length ≤ (i + 1) * 8) := hid (by omega)
              obtain ⟨nO, gO⟩ : ∃ nO, nO = (O ++ q.take m).length := ⟨_, rfl⟩
              obtain ⟨nq, gq⟩ : ∃ nq, nq = (q.drop m).length := ⟨_, rfl⟩
              obtain ⟨nI, gI⟩ : ∃ nI, nI = (I).length := ⟨_, rfl⟩
              rw [← gO] at hvo kP hlen hoc
              rw [← gq] at kL hqq hlen
              rw [← gI] at hvi kP hic hlen
              have hsub : (nI : Int) - (nO : Int) = (nq : Int) := by omega
              have HVI := hid hvi
              have HVO := hid hvo
              have d8 : ¬ (8 : Int) < (nq : Int) := by omega
              have hI9 : nI ≤ 1000 := by have := HIL.out; omega
              clear hvi hvo hsi hso hlen hpre gO gq gI hic hoc hci hco
              go_wp2_with fail
              refine kL.out.mono ?_
              rintro e w5 ⟨g5, c5, rfl, hc5, hb5⟩
              have HB5 := hid hb5
              clear hb5
              rw [HVI.out, HVO.out]
              go_wp2_with fail
              refine (kP.out w5 HB5.out).mono ?_
              rintro e w6 ⟨rfl, rfl⟩
              go_wp2_with fail
              go_roundw
              case rel => exact ⟨i + 1, _, _, _, by omega, by go_num, HIL.out, hid (by rw [← HVI.out, ← HVO.out]; exact HR4.out.below HB5.out)⟩
              case measure => simp [intOf]; omega
    · obtain rfl : i = ll := by omega
      go_wp2_with fail
      go_ret
      exact ⟨rfl, HR.out.tf.bel⟩

end Go.Proofs.Ytemdckmnedlfcaa
