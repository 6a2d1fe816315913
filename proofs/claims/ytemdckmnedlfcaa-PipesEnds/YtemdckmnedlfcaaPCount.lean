/- What PipesCount does with any list of numbers. -/
import Derived.Test.YtemdckmnedlfcaaPDrop
namespace Go.Proofs.Ytemdckmnedlfcaa
open Go.RowKit Lend
set_option linter.unusedVariables false

/-- Ints that lie somewhere in memory. -/
structure Isrc (w : World) (a0 : Option Addr) (len : Nat) (xs : List Int) : Prop where
  size : xs.length = len
  cells : 0 < len → ∃ b o, a0 = some ⟨b, o, none⟩ ∧ b < w.heap.size ∧ ∀ j, j < len → w.cell? ⟨b, o + j, none⟩ = some (.int .i64 (xs.getD j 0))
  range : ∀ j, -9223372036854775808 ≤ xs.getD j 0 ∧ xs.getD j 0 ≤ 9223372036854775807

theorem Isrc.below {w w' : World} {a0 : Option Addr} {len : Nat} {xs : List Int} (h : Isrc w a0 len xs) (hb : Below w.heap.size w w') : Isrc w' a0 len xs :=
  ⟨h.size, fun hl => by
    obtain ⟨b, o, e, hlt, hc⟩ := h.cells hl
    exact ⟨b, o, e, Nat.lt_of_lt_of_le hlt hb.size, fun j hj => (hb.cell (p := ⟨b, o + j, none⟩) hlt).trans (hc j hj)⟩, h.range⟩

/-- What PipesCount keeps beside the table. -/
structure Ct (w0 w : World) (p g : Nat) (B : List Bool) (P : Nat → Pp) : Prop where
  tb : Tb w p false P
  row : w.ownsRow 0 4 1 (.slice (some ⟨g, 0, none⟩) 5 5) 5 (B.map Value.bool)
  ne : g ≠ p
  each : ∀ i, 1 ≤ i → i ≤ 4 → P i = if B.getD i false then ⟨1, 1, []⟩ else ⟨0, 0, []⟩
  gep : w0.heap.size ≤ p
  geg : w0.heap.size ≤ g
  bel : Below w0.heap.size w0 w

theorem Ct.len {w0 w : World} {p g : Nat} {B : List Bool} {P : Nat → Pp} (h : Ct w0 w p g B P) : B.length = 5 := by have := h.row.1; simpa using this
theorem Ct.cell {w0 w : World} {p g : Nat} {B : List Bool} {P : Nat → Pp} (h : Ct w0 w p g B P) (i : Nat) (hi : i < 5) : w.cell? ⟨g, i, none⟩ = some (.bool (B.getD i false)) := by
  rw [h.row.cellAt i (by omega), List.getElem?_map, List.getD_eq_getElem?_getD, List.getElem?_eq_getElem (by rw [h.len]; exact hi)]; rfl
theorem Ct.there {w0 w : World} {p g : Nat} {B : List Bool} {P : Nat → Pp} (h : Ct w0 w p g B P) (i : Nat) (h1 : 1 ≤ i) (h4 : i ≤ 4) : (P i).there = B.getD i false := by
  rw [h.each i h1 h4]; cases B.getD i false <;> rfl
theorem getD_set_same (B : List Bool) (i : Nat) (b : Bool) (h : i < B.length) : (B.set i b).getD i false = b := by simp [List.getD, h]
theorem getD_set_ne (B : List Bool) (i j : Nat) (b : Bool) (h : j ≠ i) : (B.set i b).getD j false = B.getD j false := by simp [List.getD, List.getElem?_set_ne (Ne.symm h)]

/-- Behind Make that made one. -/
theorem Ct.made {w0 w w1 : World} {p g : Nat} {B : List Bool} {P : Nat → Pp} (h : Ct w0 w p g B P) (i : Nat) (h1 : 1 ≤ i) (h4 : i ≤ 4) (ht : Tb w1 p false (updP P i ⟨1, 1, []⟩)) (u : Upd (· = p) w w1) :
    w1.cell? ⟨g, i, none⟩ = some (.bool (B.getD i false)) ∧ w1.frozen? ⟨g, i, none⟩ = false ∧ Ct w0 (w1.setCell ⟨g, i, none⟩ (.bool true)) p g (B.set i true) (updP P i ⟨1, 1, []⟩) := by
  have hr : w1.ownsRow 0 4 1 (.slice (some ⟨g, 0, none⟩) 5 5) 5 (B.map Value.bool) := u.own h.row (fun k hk => by simp [Value.ownBlock] at hk; subst hk; exact h.ne)
  have hst := hr.stored i (.bool true)
  refine ⟨?_, hr.frozenAt i, ht.upd (F := (· = g)) (Upd.setCell w1 ⟨g, i, none⟩ _ rfl) (fun e => h.ne e.symm), by rw [List.map_set]; exact hst.1, h.ne, ?_, h.gep, h.geg, ?_⟩
  · rw [hr.cellAt i (by omega), List.getElem?_map, List.getD_eq_getElem?_getD, List.getElem?_eq_getElem (by rw [h.len]; omega)]; rfl
  · intro j hj1 hj4
    by_cases e : j = i
    · subst e; rw [updP_same, getD_set_same _ _ _ (by rw [h.len]; omega)]; rfl
    · rw [updP_ne _ _ _ _ e, getD_set_ne _ _ _ _ e]; exact h.each j hj1 hj4
  · exact (h.bel.trans (u.below h.bel.size (fun x f => by have := h.gep; omega))).trans ((Upd.setCell (F := (· = g)) w1 ⟨g, i, none⟩ (.bool true) rfl).below (Nat.le_trans h.bel.size u.size) (fun x f => by have := h.geg; omega))

/-- Behind Make that was refused. -/
theorem Ct.full {w0 w : World} {p g : Nat} {B : List Bool} {P : Nat → Pp} (h : Ct w0 w p g B P) : Ct w0 (w.setCell ⟨g, 0, none⟩ (.bool true)) p g (B.set 0 true) P := by
  have hst := h.row.stored 0 (.bool true)
  refine ⟨h.tb.upd (F := (· = g)) (Upd.setCell w ⟨g, 0, none⟩ _ rfl) (fun e => h.ne e.symm), by rw [List.map_set]; exact hst.1, h.ne, ?_, h.gep, h.geg, ?_⟩
  · intro j hj1 hj4
    rw [getD_set_ne _ _ _ _ (by omega)]; exact h.each j hj1 hj4
  · exact h.bel.trans ((Upd.setCell (F := (· = g)) w ⟨g, 0, none⟩ (.bool true) rfl).below h.bel.size (fun x f => by have := h.geg; omega))

/-- Behind both Drops. -/
theorem Ct.dropped {w0 w w1 : World} {p g : Nat} {B : List Bool} {P P' : Nat → Pp} (h : Ct w0 w p g B P) (i : Nat) (h1 : 1 ≤ i) (h4 : i ≤ 4) (ht : Tb w1 p false P') (hi : P' i = ⟨0, 0, []⟩) (ho : ∀ j, j ≠ i → P' j = P j) (u : Upd (· = p) w w1) :
    w1.cell? ⟨g, i, none⟩ = some (.bool (B.getD i false)) ∧ w1.frozen? ⟨g, i, none⟩ = false ∧ Ct w0 (w1.setCell ⟨g, i, none⟩ (.bool false)) p g (B.set i false) P' := by
  have hr : w1.ownsRow 0 4 1 (.slice (some ⟨g, 0, none⟩) 5 5) 5 (B.map Value.bool) := u.own h.row (fun k hk => by simp [Value.ownBlock] at hk; subst hk; exact h.ne)
  have hst := hr.stored i (.bool false)
  refine ⟨?_, hr.frozenAt i, ht.upd (F := (· = g)) (Upd.setCell w1 ⟨g, i, none⟩ _ rfl) (fun e => h.ne e.symm), by rw [List.map_set]; exact hst.1, h.ne, ?_, h.gep, h.geg, ?_⟩
  · rw [hr.cellAt i (by omega), List.getElem?_map, List.getD_eq_getElem?_getD, List.getElem?_eq_getElem (by rw [h.len]; omega)]; rfl
  · intro j hj1 hj4
    by_cases e : j = i
    · subst e; rw [hi, getD_set_same _ _ _ (by rw [h.len]; omega)]; rfl
    · rw [ho j e, getD_set_ne _ _ _ _ e]; exact h.each j hj1 hj4
  · exact (h.bel.trans (u.below h.bel.size (fun x f => by have := h.gep; omega))).trans ((Upd.setCell (F := (· = g)) w1 ⟨g, i, none⟩ (.bool false) rfl).below (Nat.le_trans h.bel.size u.size) (fun x f => by have := h.geg; omega))

/-- The lowest free number above n, or none. -/
def Wnt (B : List Bool) (v n : Nat) : Prop := (v = 0 ∧ ∀ j, n < j → j ≤ 4 → B.getD j false = true) ∨ (n < v ∧ v ≤ 4 ∧ B.getD v false = false ∧ ∀ j, n < j → j < v → B.getD j false = true)
theorem Wnt.yes {B : List Bool} {v n : Nat} (h : Wnt B v n) (h1 : 1 ≤ n) (hb : B.getD n false = true) : Wnt B v (n - 1) := by
  rcases h with ⟨rfl, h⟩ | ⟨a, b, c, d⟩
  · refine .inl ⟨rfl, fun j hj hj4 => ?_⟩
    by_cases e : j = n
    · subst e; exact hb
    · exact h j (by omega) hj4
  · refine .inr ⟨by omega, b, c, fun j hj hjv => ?_⟩
    by_cases e : j = n
    · subst e; exact hb
    · exact d j (by omega) hjv
theorem Wnt.no {B : List Bool} {v n : Nat} (h1 : 1 ≤ n) (h4 : n ≤ 4) (hb : B.getD n false = false) : Wnt B n (n - 1) := .inr ⟨by omega, h4, hb, fun j hj hjv => by omega⟩

theorem wrap_u64_eq (x : Int) : IntKind.u64.wrap x = x % 18446744073709551616 := by simp [IntKind.wrap, IntKind.signed, IntKind.bits]

theorem Try.info4 : (Try.prog.info? 4).map (fun i => (i.zero, i.size, i.bytes)) = some (some (.bool false), 1, 1) := by kernel_rfl

/-- Behind make. -/
theorem Ct.start {w w1 : World} (ht : Tb w1 w.heap.size false noPipes) (hb : Below w.heap.size w w1) (hz : w1.heap.size = w.heap.size + 1) :
    Ct w (w1.alloc (.cells (madeCells #[Value.bool false] 5) 4)) w.heap.size w1.heap.size [false, false, false, false, false] noPipes := by
  refine ⟨ht.below ((Below.refl _ _).alloc (Nat.le_refl _) _) ht.lt, ?_, by omega, fun i h1 h4 => ?_, Nat.le_refl _, by omega, hb.trans (((Below.refl _ _).alloc (Nat.le_refl _) _).mono hb.size)⟩
  · refine ⟨by simp, .inr ⟨w1.heap.size, 5, _, rfl, Nat.zero_le _, heap_alloc_new w1 _, by omega, by unfold maxLen; omega, by simp [size_madeCells], ?_⟩⟩
    rw [toList_madeCells_one]
    rfl
  · obtain rfl | rfl | rfl | rfl : i = 1 ∨ i = 2 ∨ i = 3 ∨ i = 4 := by omega
    all_goals rfl

/-- Of a pipe that is there with one of each: both Drops. -/
theorem drops_yes {w0 w : World} {p g : Nat} {B : List Bool} {P : Nat → Pp} (h : Ct w0 w p g B P) (i : Nat) (h1 : 1 ≤ i) (h4 : i ≤ 4) (hB : B.getD i false = true) :
    Calls Try.prog 21 #[.pointer (some ⟨p, 0, none⟩), .int .i64 i, .bool true] w fun e w' => e = .returned (.int .i64 0) ∧ Tb w' p false (updP P i ⟨1, 0, []⟩) ∧ Upd (· = p) w w' ∧
      Calls Try.prog 21 #[.pointer (some ⟨p, 0, none⟩), .int .i64 i, .bool false] w' fun e w'' => e = .returned (.int .i64 0) ∧ Tb w'' p false (updP (updP P i ⟨1, 0, []⟩) i ⟨0, 0, []⟩) ∧ Upd (· = p) w' w'' := by
  have e : P i = ⟨1, 1, []⟩ := by rw [h.each i h1 h4, hB]; rfl
  have k := drop_yes p i false true P w h.tb h1 h4 (by rw [e]; rfl) (by rw [e]; simp [Pp.ends]) (by rw [e]; simp [Pp.ends]) (fun _ => rfl)
  refine k.mono ?_
  rintro r w1 ⟨rfl, ht, hu, _⟩
  rw [e] at ht
  have ht' : Tb w1 p false (updP P i ⟨1, 0, []⟩) := ht
  refine ⟨rfl, ht', hu, ?_⟩
  have e2 : updP P i ⟨1, 0, []⟩ i = ⟨1, 0, []⟩ := updP_same _ _ _
  have k2 := drop_yes p i false false _ w1 ht' h1 h4 (by rw [e2]; rfl) (by rw [e2]; simp [Pp.ends]) (by rw [e2]; simp [Pp.ends]) (fun h => by cases h)
  refine k2.mono ?_
  rintro r w2 ⟨rfl, ht2, hu2, _⟩
  rw [e2] at ht2
  exact ⟨rfl, ht2, hu2⟩

set_option maxHeartbeats 4000000 in
set_option maxRecDepth 20000 in
theorem count_any (a0 : Option Addr) (len c : Nat) (xs : List Int) (w : World) (hs : Isrc w a0 len xs) (hn : len ≤ 9223372036854775807) :
    Calls Try.prog 6 #[.slice a0 len c] w fun e w' => e = .returned (.bool true) ∧ Below w.heap.size w w' := by
  obtain ⟨i0, hi0, hz0, hz1, hz2⟩ := info_parts Try.info4
  have k0 := hid (pnew_any 0 w)
  have HS := hid hs
  clear hs
  go_enter Try.func6, Try.ntmps6
  go_wp2_with fail
  refine k0.out.mono ?_
  rintro e w1 ⟨rfl, ht, hb, hz⟩
  have HC := hid (Ct.start ht hb hz)
  obtain ⟨p, gp⟩ : ∃ p, p = w.heap.size := ⟨_, rfl⟩
  rw [← gp] at HC
  rw [← gp]
  have GP := hid gp
  clear ht hb hz gp k0
  go_wp2_with (at_make; go_must (refine wpList_make_lc _ rfl _ _ 51 rfl 4 i0 (.bool false) 1 Try.underlying51 hi0 hz0 hz1 .i64 .i64 5 5 5 5 rfl rfl rfl rfl (Nat.le_refl _) (by rw [hz2]; decide) (by unfold maxLen; decide) ?_))
  obtain ⟨g, gg⟩ : ∃ g, g = w1.heap.size := ⟨_, rfl⟩
  obtain ⟨wa, ga⟩ : ∃ wa, wa = w1.alloc (.cells (madeCells #[Value.bool false] 5) 4) := ⟨_, rfl⟩
  rw [← gg, ← ga] at HC
  rw [← gg, ← ga]
  clear gg ga hi0 hz0 hz1 hz2
  go_loopw [18] (fun s wr => ∃ (i : Nat) (B : List Bool) (P : Nat → Pp), s = .int .i64 i ∧ i ≤ len ∧ Hid (Ct w wr p g B P)) (fun s _ => len - (intOf s).toNat)
  case atStart => exact ⟨0, _, _, rfl, Nat.zero_le _, HC⟩
  case round =>
    obtain ⟨i, B, P, rfl, hi, HC2⟩ := hrel
    clear HC
    by_cases hlt : i < len
    · obtain ⟨b, o, rfl, hbl, hcell⟩ := (HS.out.below HC2.out.bel).cells (by omega)
      have hc := hcell i hlt
      have hr := HS.out.range i
      obtain ⟨x, gx⟩ : ∃ x, x = xs.getD i 0 := ⟨_, rfl⟩
      rw [← gx] at hc hr
      clear hcell gx hbl
      by_cases c40 : 40 < i
      · go_wp2_with fail
        go_ret
        exact ⟨rfl, HC2.out.bel⟩
      · have c40' : ¬ (40 : Int) < (i : Int) := by omega
        by_cases ce : x.tmod 2 = 0
        · go_wp2_with fail
          go_loop [7, 8] (fun s7 s8 => ∃ v n : Nat, s7 = .int .i64 v ∧ s8 = .int .i64 n ∧ n ≤ 4 ∧ Hid (Wnt B v n)) (fun _ s8 => (intOf s8).toNat)
          case atStart => exact ⟨0, 4, rfl, rfl, Nat.le_refl _, hid (.inl ⟨rfl, fun j h h' => by omega⟩)⟩
          case round =>
            obtain ⟨v, n, rfl, rfl, hn4, HW⟩ := hrel
            by_cases h1 : 1 ≤ n
            · have hcn := HC2.out.cell n (by omega)
              have d1 : (1 : Int) ≤ n := by omega
              have d2 : (0 : Int) ≤ n := by omega
              have d3 : (n : Int) < 5 := by omega
              cases hbn : B.getD n false
              · rw [hbn] at hcn
                have HBN := hid hbn
                clear hbn
                go_wp2_with fail
                go_round
                case rel => exact ⟨n, n - 1, rfl, by go_num, by omega, hid (Wnt.no (v := v) h1 hn4 HBN.out)⟩
                case measure => simp [intOf]; omega
              · rw [hbn] at hcn
                have HBN := hid hbn
                clear hbn
                go_wp2_with fail
                go_round
                case rel => exact ⟨v, n - 1, rfl, by go_num, by omega, hid (HW.out.yes h1 HBN.out)⟩
                case measure => simp [intOf]; omega
            · obtain rfl : n = 0 := by omega
              rcases HW.out with ⟨hv0, hall⟩ | ⟨hv1, hv4, hvb, hlow⟩
              · subst hv0
                have km := hid (make_full p false P _ HC2.out.tb (fun j h1 h4 => by rw [HC2.out.there j h1 h4]; exact hall j (by omega) h4))
                have hcg := HC2.out.cell 0 (by omega)
                have hfg := HC2.out.row.frozenAt 0
                have HN := hid HC2.out.full
                obtain ⟨b0, gb0⟩ : ∃ b0, b0 = B.getD 0 false := ⟨_, rfl⟩
                rw [← gb0] at hcg
                clear hall gb0
                go_wp2_with fail
                refine km.out.mono ?_
                rintro e2 w2 ⟨rfl, rfl⟩
                go_wp2_with fail
                go_roundw
                case rel => exact ⟨i + 1, _, _, by go_num, by omega, HN⟩
                case measure => simp [intOf]; omega
              · have hvb' := hid hvb
                have km := hid (make_yes p v false P _ HC2.out.tb hv1 hv4 (fun j h1 h4 => by rw [HC2.out.there j h1 (by omega)]; exact hlow j (by omega) h4) (by rw [HC2.out.there v hv1 hv4]; exact hvb))
                have d1 : ¬ (v : Int) = 0 := by omega
                have d2 : (0 : Int) ≤ v := by omega
                have d3 : (v : Int) < 5 := by omega
                have d4 : (0 : Int) < v := by omega
                clear hlow hvb
                go_wp2_with fail
                refine km.out.mono ?_
                rintro e2 w2 ⟨rfl, ht2, hu2, hz2⟩
                obtain ⟨hcg, hfg, hN⟩ := HC2.out.made v hv1 hv4 ht2 hu2
                have HN := hid hN
                obtain ⟨b0, gb0⟩ : ∃ b0, b0 = B.getD v false := ⟨_, rfl⟩
                rw [← gb0] at hcg
                clear ht2 hu2 hz2 hN gb0
                go_wp2_with fail
                go_roundw
                case rel => exact ⟨i + 1, _, _, by go_num, by omega, HN⟩
                case measure => simp [intOf]; omega
        · obtain ⟨m, hm, hm1, hm4⟩ : ∃ m : Nat, wrap64 (1 + wrap64 ((IntKind.u64.wrap x).tmod 4)) = (m : Int) ∧ 1 ≤ m ∧ m ≤ 4 := by
            have h0 : 0 ≤ IntKind.u64.wrap x ∧ IntKind.u64.wrap x < 18446744073709551616 := by rw [wrap_u64_eq]; omega
            rw [Int.tmod_eq_emod_of_nonneg h0.1]
            refine ⟨(1 + IntKind.u64.wrap x % 4).toNat, ?_, by omega, by omega⟩
            unfold wrap64; omega
          have HM := hid hm
          have d2 : (0 : Int) ≤ m := by omega
          have d3 : (m : Int) < 5 := by omega
          clear hm
          cases hbn : B.getD m false
          · have kd := fun b => hid (drop_err (some ⟨p, 0, none⟩) m 9 b _ (pipe_no p m false P _ HC2.out.tb (by
              simp [has, show (1 : Int) ≤ m by omega, show (m : Int) ≤ 4 by omega, HC2.out.there m hm1 hm4]; simpa using hbn)) (by omega))
            have hP : P m = ⟨0, 0, []⟩ := by rw [HC2.out.each m hm1 hm4, hbn]; rfl
            obtain ⟨hcg, hfg, hN⟩ := HC2.out.dropped m hm1 hm4 HC2.out.tb hP (fun _ _ => rfl) (Upd.refl _ _)
            rw [hbn] at hcg
            have HN := hid hN
            clear hN hP hbn
            go_wp2_with fail
            rw [HM.out]
            refine (kd true).out.mono ?_
            rintro e2 w2 ⟨rfl, rfl⟩
            go_wp2_with fail
            refine (kd false).out.mono ?_
            rintro e2 w2 ⟨rfl, rfl⟩
            go_wp2_with fail
            go_roundw
            case rel => exact ⟨i + 1, _, _, by go_num, by omega, HN⟩
            case measure => simp [intOf]; omega
          · have kd := hid (drops_yes HC2.out m hm1 hm4 hbn)
            have HBN := hid hbn
            clear hbn
            go_wp2_with fail
            rw [HM.out]
            refine kd.out.mono ?_
            rintro e2 w2 ⟨rfl, ht2, hu2, kd2⟩
            have KD2 := hid kd2
            have HU2 := hid hu2
            clear ht2 hu2 kd2
            go_wp2_with fail
            refine KD2.out.mono ?_
            rintro e3 w3 ⟨rfl, ht3, hu3⟩
            obtain ⟨hcg, hfg, hN⟩ := HC2.out.dropped m hm1 hm4 ht3 (updP_same _ _ _) (fun j hj => by rw [updP_ne _ _ _ _ hj, updP_ne _ _ _ _ hj]) (HU2.out.trans hu3 (fun _ _ h => h))
            rw [HBN.out] at hcg
            have HN := hid hN
            clear hN ht3 hu3
            go_wp2_with fail
            go_roundw
            case rel => exact ⟨i + 1, _, _, by go_num, by omega, HN⟩
            case measure => simp [intOf]; omega
    · obtain rfl : i = len := by omega
      go_wp2_with fail
      go_ret
      exact ⟨rfl, by rw [GP.out] at *; exact HC2.out.bel⟩

end Go.Proofs.Ytemdckmnedlfcaa
