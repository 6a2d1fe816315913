/- Texts of this seat, merged. -/
import Derived.Test.YtoknhcjneliboaaGreatFMg8
import Derived.OwnWalk

/- What the program's Read and Write do. -/
namespace Go.Proofs.YtoknhcjneliboaaGreat.Pi
open Go.RowKit Lend
set_option linter.unusedVariables false
set_option maxRecDepth 20000

set_option maxHeartbeats 1000000 in
theorem read_err (x : Option Addr) (n c count : Int) (w : World) (h : Calls Tryz.prog 209 #[.pointer x, .int .i64 n] w fun e w' => e = .returned (.tuple #[.pointer none, .int .i64 c]) ∧ w' = w) (hc : ¬ c = 0) :
    Calls Tryz.prog 207 #[.pointer x, .int .i64 n, .int .i64 count] w fun e w' => e = .returned (.tuple #[.slice none 0 0, .bool false, .int .i64 c]) ∧ w' = w := by
  have k1 := hid h
  clear h
  go_enter Tryz.func207, Tryz.ntmps207
  go_wp2_with fail
  refine k1.out.mono ?_
  rintro e w1 ⟨rfl, rfl⟩
  go_wp2_with fail
  go_ret3
  exact ⟨rfl, rfl⟩

set_option maxHeartbeats 1000000 in
theorem write_err (x a : Option Addr) (len cap : Nat) (n c : Int) (w : World) (h : Calls Tryz.prog 209 #[.pointer x, .int .i64 n] w fun e w' => e = .returned (.tuple #[.pointer none, .int .i64 c]) ∧ w' = w) (hc : ¬ c = 0) :
    Calls Tryz.prog 208 #[.pointer x, .int .i64 n, .slice a len cap] w fun e w' => e = .returned (.tuple #[.int .i64 0, .bool false, .int .i64 c]) ∧ w' = w := by
  have k1 := hid h
  clear h
  go_enter Tryz.func208, Tryz.ntmps208
  go_wp2_with fail
  refine k1.out.mono ?_
  rintro e w1 ⟨rfl, rfl⟩
  go_wp2_with fail
  go_ret3
  exact ⟨rfl, rfl⟩

set_option maxHeartbeats 1000000 in
theorem read_neg (p i : Nat) (count : Int) (k : Bool) (P : Nat → Pp) (w : World) (h : Tb w p k P) (h1 : 1 ≤ i) (h4 : i ≤ 4) (ht : (P i).there = true) (hc : count < 0) :
    Calls Tryz.prog 207 #[.pointer (some ⟨p, 0, none⟩), .int .i64 i, .int .i64 count] w fun e w' => e = .returned (.tuple #[.slice none 0 0, .bool false, .int .i64 22]) ∧ w' = w := by
  have k1 := hid (pipe_yes p i k P w h h1 h4 ht)
  clear h ht
  go_enter Tryz.func207, Tryz.ntmps207
  go_wp2_with fail
  refine k1.out.mono ?_
  rintro e w1 ⟨rfl, rfl⟩
  go_wp2_with fail
  go_ret3
  exact ⟨rfl, rfl⟩

set_option maxHeartbeats 1000000 in
theorem read_zero (p i : Nat) (k : Bool) (P : Nat → Pp) (w : World) (h : Tb w p k P) (h1 : 1 ≤ i) (h4 : i ≤ 4) (ht : (P i).there = true) :
    Calls Tryz.prog 207 #[.pointer (some ⟨p, 0, none⟩), .int .i64 i, .int .i64 0] w fun e w' => e = .returned (.tuple #[.slice none 0 0, .bool false, .int .i64 0]) ∧ w' = w := by
  have k1 := hid (pipe_yes p i k P w h h1 h4 ht)
  clear h ht
  go_enter Tryz.func207, Tryz.ntmps207
  go_wp2_with fail
  refine k1.out.mono ?_
  rintro e w1 ⟨rfl, rfl⟩
  go_wp2_with fail
  go_ret3
  exact ⟨rfl, rfl⟩

set_option maxHeartbeats 1000000 in
theorem read_empty (p i : Nat) (count : Int) (k : Bool) (P : Nat → Pp) (w : World) (h : Tb w p k P) (h1 : 1 ≤ i) (h4 : i ≤ 4) (ht : (P i).there = true) (hc : 0 < count) (hq : (P i).q = []) :
    Calls Tryz.prog 207 #[.pointer (some ⟨p, 0, none⟩), .int .i64 i, .int .i64 count] w fun e w' => e = .returned (.tuple #[.slice none 0 0, .bool (decide (0 < (P i).w)), .int .i64 0]) ∧ w'.heap = w.heap ∧ Upd (fun _ => False) w w' := by
  have k1 := hid (pipe_yes p i k P w h h1 h4 ht)
  have hn := h.n i (by omega)
  have hw := h.w i (by omega)
  rw [hq, List.length_nil] at hn
  obtain ⟨o, go⟩ : ∃ o, o = 2 + i * 11 := ⟨_, rfl⟩
  obtain ⟨v, gv⟩ : ∃ v, v = (P i).w := ⟨_, rfl⟩
  rw [← go] at hn hw k1
  rw [← gv] at hw ⊢
  have c1 : ¬ count < 0 := by omega
  have c2 : ¬ count = 0 := by omega
  clear h ht hq go gv
  go_enter Tryz.func207, Tryz.ntmps207
  go_wp2_with fail
  refine k1.out.mono ?_
  rintro e w1 ⟨rfl, rfl⟩
  go_wp2_with fail
  go_region_held3 (fun wx => wx.cell? ⟨p, o + 1, none⟩ = some (.int .i64 v)) (go_keep) (fail)
  go_wp2_with fail
  go_ret3
  refine ⟨?_, rfl, (Upd.refl _ _).drewN 1⟩
  simp

set_option maxHeartbeats 1000000 in
theorem read_some (p i m : Nat) (count : Int) (k : Bool) (P : Nat → Pp) (w : World) (h : Tb w p k P) (h1 : 1 ≤ i) (h4 : i ≤ 4) (ht : (P i).there = true) (hc : 0 < count) (hq : 0 < (P i).q.length) (hm : (m : Int) = if ((P i).q.length : Int) < count then ((P i).q.length : Int) else count) :
    Calls Tryz.prog 207 #[.pointer (some ⟨p, 0, none⟩), .int .i64 i, .int .i64 count] w fun e w' => ∃ g c, e = .returned (.tuple #[.slice (some ⟨g, 0, none⟩) m c, .bool false, .int .i64 0]) ∧
      w'.ownsRow w.heap.size 5 1 (.slice (some ⟨g, 0, none⟩) m c) m (((P i).q.take m).map (Value.int .u8)) ∧ Tb w' p k (updP P i { P i with q := (P i).q.drop m }) ∧ Upd (· = p) w w' := by
  have k1 := hid (pipe_yes p i k P w h h1 h4 ht)
  have k2 := hid (take_any p i m count k P w h (by omega) hq hc hm)
  have hn := h.n i (by omega)
  obtain ⟨o, go⟩ : ∃ o, o = 2 + i * 11 := ⟨_, rfl⟩
  obtain ⟨n, gn⟩ : ∃ n, n = (P i).q.length := ⟨_, rfl⟩
  rw [← go] at hn k1 k2
  rw [← gn] at hn hq
  have c1 : ¬ count < 0 := by omega
  have c2 : ¬ count = 0 := by omega
  have c3 : ¬ (n : Int) = 0 := by omega
  clear h ht hm go gn
  go_enter Tryz.func207, Tryz.ntmps207
  go_wp2_with fail
  refine k1.out.mono ?_
  rintro e w1 ⟨rfl, rfl⟩
  go_wp2_with fail
  refine k2.out.mono ?_
  rintro e w2 ⟨g, c, rfl, ho, ht, hu⟩
  have HO := hid ho
  have HT := hid ht
  have HU := hid hu
  clear ho ht hu
  go_wp2_with fail
  go_ret3
  exact ⟨g, c, rfl, HO.out, HT.out, HU.out⟩

set_option maxHeartbeats 1000000 in
theorem write_broken (p i len cap : Nat) (a : Option Addr) (k : Bool) (P : Nat → Pp) (w : World) (h : Tb w p k P) (h1 : 1 ≤ i) (h4 : i ≤ 4) (ht : (P i).there = true) (hr : (P i).r = 0) :
    Calls Tryz.prog 208 #[.pointer (some ⟨p, 0, none⟩), .int .i64 i, .slice a len cap] w fun e w' => e = .returned (.tuple #[.int .i64 0, .bool false, .int .i64 32]) ∧ w' = w := by
  have k1 := hid (pipe_yes p i k P w h h1 h4 ht)
  have hn := h.r i (by omega)
  rw [hr] at hn
  clear h ht hr
  go_enter Tryz.func208, Tryz.ntmps208
  go_wp2_with fail
  refine k1.out.mono ?_
  rintro e w1 ⟨rfl, rfl⟩
  go_wp2_with fail
  go_ret3
  exact ⟨rfl, rfl⟩

set_option maxHeartbeats 1000000 in
theorem write_nil (p i cap : Nat) (a : Option Addr) (k : Bool) (P : Nat → Pp) (w : World) (h : Tb w p k P) (h1 : 1 ≤ i) (h4 : i ≤ 4) (hr : 0 < (P i).r) :
    Calls Tryz.prog 208 #[.pointer (some ⟨p, 0, none⟩), .int .i64 i, .slice a 0 cap] w fun e w' => e = .returned (.tuple #[.int .i64 0, .bool false, .int .i64 0]) ∧ w' = w := by
  have k1 := hid (pipe_yes p i k P w h h1 h4 (by simp [Pp.there, hr]))
  have hn := h.r i (by omega)
  obtain ⟨r, gr⟩ : ∃ r, r = (P i).r := ⟨_, rfl⟩
  rw [← gr] at hn hr
  have c1 : ¬ (r : Int) = 0 := by omega
  clear h gr
  go_enter Tryz.func208, Tryz.ntmps208
  go_wp2_with fail
  refine k1.out.mono ?_
  rintro e w1 ⟨rfl, rfl⟩
  go_wp2_with fail
  go_ret3
  exact ⟨rfl, rfl⟩

set_option maxHeartbeats 1000000 in
theorem write_full (p i len cap : Nat) (a : Option Addr) (k : Bool) (P : Nat → Pp) (w : World) (h : Tb w p k P) (h1 : 1 ≤ i) (h4 : i ≤ 4) (hr : 0 < (P i).r) (hl : 0 < len) (hq : (P i).q.length = 8) :
    Calls Tryz.prog 208 #[.pointer (some ⟨p, 0, none⟩), .int .i64 i, .slice a len cap] w fun e w' => e = .returned (.tuple #[.int .i64 0, .bool true, .int .i64 0]) ∧ w' = w := by
  have k1 := hid (pipe_yes p i k P w h h1 h4 (by simp [Pp.there, hr]))
  have k2 := hid (isfull_any p (2 + i * 11) _ true w (h.n i (by omega)) (by rw [hq]; rfl))
  have hn := h.r i (by omega)
  obtain ⟨r, gr⟩ : ∃ r, r = (P i).r := ⟨_, rfl⟩
  rw [← gr] at hn hr
  have c1 : ¬ (r : Int) = 0 := by omega
  have c2 : ¬ (len : Int) = 0 := by omega
  clear h gr hq
  go_enter Tryz.func208, Tryz.ntmps208
  go_wp2_with fail
  refine k1.out.mono ?_
  rintro e w1 ⟨rfl, rfl⟩
  go_wp2_with fail
  refine k2.out.mono ?_
  rintro e w1 ⟨rfl, rfl⟩
  go_wp2_with fail
  go_ret3
  exact ⟨rfl, rfl⟩

set_option maxHeartbeats 1000000 in
theorem write_some (p i m len cap : Nat) (ad : Addr) (k : Bool) (P : Nat → Pp) (zs : List Int) (w : World) (h : Tb w p k P) (h1 : 1 ≤ i) (h4 : i ≤ 4) (hr : 0 < (P i).r) (hl : 0 < len) (hq : (P i).q.length < 8) (hs : Src w (some ad) len zs) (hm : m = min len (8 - (P i).q.length)) :
    Calls Tryz.prog 208 #[.pointer (some ⟨p, 0, none⟩), .int .i64 i, .slice (some ad) len cap] w fun e w' => e = .returned (.tuple #[.int .i64 m, .bool false, .int .i64 0]) ∧ Tb w' p k (updP P i { P i with q := (P i).q ++ zs.take m }) ∧ Upd (· = p) w w' ∧ w'.heap.size = w.heap.size := by
  have k1 := hid (pipe_yes p i k P w h h1 h4 (by simp [Pp.there, hr]))
  have k2 := hid (isfull_any p (2 + i * 11) _ false w (h.n i (by omega)) (by symm; simp; omega))
  have k3 := hid (put_any p i m len cap ad k P zs w h (by omega) hq hs hl hm)
  have hn := h.r i (by omega)
  obtain ⟨r, gr⟩ : ∃ r, r = (P i).r := ⟨_, rfl⟩
  rw [← gr] at hn hr
  have c1 : ¬ (r : Int) = 0 := by omega
  have c2 : ¬ (len : Int) = 0 := by omega
  clear h gr hq hs hm
  go_enter Tryz.func208, Tryz.ntmps208
  go_wp2_with fail
  refine k1.out.mono ?_
  rintro e w1 ⟨rfl, rfl⟩
  go_wp2_with fail
  refine k2.out.mono ?_
  rintro e w1 ⟨rfl, rfl⟩
  go_wp2_with fail
  refine k3.out.mono ?_
  rintro e w2 ⟨rfl, ht, hu, hz⟩
  have HT := hid ht
  have HU := hid hu
  have HZ := hid hz
  clear ht hu hz
  go_wp2_with fail
  go_ret3
  exact ⟨rfl, HT.out, HU.out, HZ.out⟩

end Go.Proofs.YtoknhcjneliboaaGreat.Pi

/- What the program's Look does: the pipes that are there, by their numbers. -/
namespace Go.Proofs.YtoknhcjneliboaaGreat.Pi
open Go.RowKit Lend
set_option linter.unusedVariables false
set_option maxRecDepth 20000

/-- What Look tells of one. -/
def infoCells (i : Nat) (x : Pp) : List Value := [.int .i64 i, .int .i64 x.r, .int .i64 x.w, .int .i64 x.q.length]
/-- How many of the first n are there. -/
def countP (P : Nat → Pp) : Nat → Nat
  | 0 => 0
  | n + 1 => if (P n).there then countP P n + 1 else countP P n
/-- What Look tells of the first n. -/
def looks (P : Nat → Pp) : Nat → List Value
  | 0 => []
  | n + 1 => if (P n).there then looks P n ++ infoCells n (P n) else looks P n
theorem countP_le (P : Nat → Pp) : ∀ n, countP P n ≤ n
  | 0 => Nat.le_refl _
  | n + 1 => by have := countP_le P n; unfold countP; split <;> omega

/-- 'append' whose run is known, within a region that draws. -/
theorem step_append_is {P : Program} {ops : Array Oper} {o : Oper} {a : Act} {w : World} {K : Act → World → Prop} {Q : Exit → Act → World → Prop} {E : Prop}
    (hg : o.guard = none) (d x : Operand) (dT sT : TypeId) (hop : o.op = Op.call { callee := Callee.builtin Builtin.append, args := #[d, x], argTypes := #[dT, sT] })
    (v u : Value) (hd : a.eval d = v) (hx : a.eval x = u) {v' : Value} {w' : World} (hr : (Builtin.append_ #[dT, sT] o.type #[v, u]).run P w = .ok v' w') (hK : K (a.put o.dst v') w') :
    if Region.wanted o (yielded ops a.tmps) = true then Oper.wp P o a w K Q else E := by
  have hw : Region.wanted o (yielded ops a.tmps) = true := by simp [Region.wanted, hg]
  rw [if_pos hw]
  unfold Oper.wp execOp
  simp only [hop, resolve, invoke, builtin, Sem.run_bind, Sem.run_pure, Result.andThen_ok, List.map_toArray, List.map_cons, List.map_nil, hd, hx, hr]
  exact hK

theorem Tryz.info51 : (Tryz.prog.info? 51).map (fun i => (i.zero, i.size, i.bytes)) = some (some (.agg #[.int .i64 0, .int .i64 0, .int .i64 0, .int .i64 0]), 4, 32) := by kernel_rfl

set_option maxHeartbeats 2000000 in
theorem look_any (p : Nat) (k : Bool) (P : Nat → Pp) (w : World) (h : Tb w p k P) :
    Calls Tryz.prog 50 #[.pointer (some ⟨p, 0, none⟩)] w fun e w' => ∃ v, e = .returned v ∧ w'.ownsRow w.heap.size 51 4 v (countP P 5) (looks P 5) ∧ Below w.heap.size w w' := by
  obtain ⟨i0, hi0, hz0, hz1, hz2⟩ := info_parts Tryz.info51
  have k1 := hid (usable_yes p w h.made)
  have H := hid h
  clear h
  go_enter Tryz.func50, Tryz.ntmps50
  go_wp2_with fail
  refine k1.out.mono ?_
  rintro e w1 ⟨rfl, rfl⟩
  go_wp2_with fail
  rename World => w
  go_loopw [3, 9] (fun v s wr => ∃ j : Nat, j ≤ 5 ∧ s = .int .i64 j ∧ Hid (wr.ownsRow w.heap.size 51 4 v (countP P j) (looks P j)) ∧ Hid (Below w.heap.size w wr)) (fun _ s _ => 5 - (intOf s).toNat)
  case atStart => exact ⟨0, by omega, rfl, hid (World.ownsRow_nil _ _ _ _), hid (Below.refl _ _)⟩
  case round =>
    obtain ⟨j, hj5, rfl, HR, HB⟩ := hrel
    by_cases h5 : j < 5
    · have c3 : (0 : Int) ≤ j := by omega
      have c4 : (j : Int) < 5 := by omega
      have hT : Tb wr p k P := H.out.below HB.out H.out.lt
      have hr := hT.r j h5
      have hw := hT.w j h5
      have hn := hT.n j h5
      cases ht : (P j).there
      · have k2 := hid (isthere_any p (2 + j * 11) _ _ false wr hr hw (by rw [← ht]; rfl))
        have HT := hid ht
        clear hT hr hw hn ht
        go_wp2_with fail
        refine k2.out.mono ?_
        rintro e2 w2 ⟨rfl, rfl⟩
        go_wp2_with fail
        go_roundw
        case rel => exact ⟨j + 1, by omega, by go_num, by simpa [countP, looks, HT.out] using HR, HB⟩
        case measure => simp [intOf]; omega
      · have k2 := hid (isthere_any p (2 + j * 11) _ _ true wr hr hw (by rw [← ht]; rfl))
        have HT := hid ht
        clear hT ht
        go_wp2_with fail
        refine k2.out.mono ?_
        rintro e2 w2 ⟨rfl, rfl⟩
        have hlt := H.out.lt
        obtain ⟨r, gr⟩ : ∃ r, r = (P j).r := ⟨_, rfl⟩
        obtain ⟨u, gu⟩ : ∃ u, u = (P j).w := ⟨_, rfl⟩
        obtain ⟨n, gn⟩ : ∃ n, n = (P j).q.length := ⟨_, rfl⟩
        rw [← gr] at hr
        rw [← gu] at hw
        rw [← gn] at hn
        have hrow := (own_below HR.out ((Below.refl _ _).alloc (Nat.le_refl _) (.cells #[.int .i64 j, .int .i64 r, .int .i64 u, .int .i64 n] 51)))
        have hcl := countP_le P j
        obtain ⟨v', wz, hrz, hoz, hgz, _⟩ := run_append_own (P := Tryz.prog) (w2.drew.alloc (.cells #[.int .i64 j, .int .i64 r, .int .i64 u, .int .i64 n] 51)) w.heap.size 48 48 51 i0 _ 4 32 Tryz.underlying48 hi0 hz0 hz1 hz2 rfl (by decide) _ (countP P j) (looks P j) (by exact hrow)
          ⟨w2.heap.size, 0, none⟩ 1 1 [.int .i64 j, .int .i64 r, .int .i64 u, .int .i64 n] rfl (by
            intro a x hx
            rw [Addr.add_lit, Nat.zero_add, cell_of_row _ w2.heap.size a _ 51 (0, 0) (by exact heap_alloc_new w2.drew _)]
            simpa using hx) (by simp [Value.oneCell']) (by unfold maxLen; omega) (by omega) (by have := HB.out.size; simp; omega)
        have hBZ : Below w.heap.size w wz := by
          refine HB.out.trans ?_
          have h1 : Below w.heap.size w2 (w2.drew.alloc (.cells #[.int .i64 j, .int .i64 r, .int .i64 u, .int .i64 n] 51)) := by
            have := ((Below.refl w.heap.size w2.drew).alloc (by exact HB.out.size) (.cells #[.int .i64 j, .int .i64 r, .int .i64 u, .int .i64 n] 51))
            exact ⟨this.os, this.tape, this.output, this.size, this.block⟩
          refine h1.trans ((Upd.of_grown hgz).below (Nat.le_trans HB.out.size h1.size) (fun x hx => ?_))
          exact (hrow.lt x hx.symm).1
        have HRZ : Hid (wz.ownsRow w.heap.size 51 4 v' (countP P (j + 1)) (looks P (j + 1))) := by
          simp only [countP, looks, HT.out, if_true, infoCells]
          rw [← gr, ← gu, ← gn]; exact hid hoz
        have z1 := (hBZ.cell (p := ⟨p, 2 + j * 11, none⟩) hlt).trans ((HB.out.cell (p := ⟨p, 2 + j * 11, none⟩) hlt).symm.trans hr)
        have z2 := (hBZ.cell (p := ⟨p, 2 + j * 11 + 1, none⟩) hlt).trans ((HB.out.cell (p := ⟨p, 2 + j * 11 + 1, none⟩) hlt).symm.trans hw)
        have z3 := (hBZ.cell (p := ⟨p, 2 + j * 11 + 2, none⟩) hlt).trans ((HB.out.cell (p := ⟨p, 2 + j * 11 + 2, none⟩) hlt).symm.trans hn)
        have HBZ := hid hBZ
        clear hrow hoz hgz hBZ gr gu gn hlt k2
        go_wp2_with fail
        go_region_held3 (fun wx => wx.cell? ⟨p, 2 + j * 11, none⟩ = some (.int .i64 r) ∧ wx.cell? ⟨p, 2 + j * 11 + 1, none⟩ = some (.int .i64 u) ∧ wx.cell? ⟨p, 2 + j * 11 + 2, none⟩ = some (.int .i64 n)) (go_keep) (refine step_append_is rfl _ _ 48 48 rfl _ _ (by simp [Act.eval]) (by simp [Act.eval]) hrz ?_)
        go_wp2_with fail
        go_roundw
        case rel => exact ⟨j + 1, by omega, by go_num, HRZ, HBZ⟩
        case measure => simp [intOf]; omega
    · obtain rfl : j = 5 := by omega
      go_wp2_with fail
      go_ret
      exact ⟨_, rfl, HR.out, HB.out⟩

end Go.Proofs.YtoknhcjneliboaaGreat.Pi
