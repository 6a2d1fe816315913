/- Texts of this seat, merged. -/
import Derived.Test.YtbglhmcahnkbfaaGreatHMg18
import Derived.WalkMore

/- What a walk along a path comes to. -/
namespace Go.Proofs.YtbglhmcahnkbfaaGreat
open Go.RowKit Go.ChangeMaps Go.MapKept
set_option linter.unusedVariables false
set_option maxRecDepth 20000

theorem cell_result2 {P : Program} {fn : Func} {t u : Tmp} {ty : TypeId} (h : fn.results = #[.cell t ty, .tmp u]) (tmps : Array Value) (w : World) (b o : Nat) (ht : tmps.getD t undef = .pointer (some ⟨b, o, none⟩)) (cs : List Value) (d : TypeDesc) (hc : w.rangeAt b o cs)
    (hu : P.underlying ty = some d) (hd : d.isRow = true) (hi : (P.info? ty).map (·.size) = some cs.length) :
    (results fn tmps).run P w = .ok (.tuple #[.agg cs.toArray, tmps.getD u undef]) w := by
  have hl := run_loadVar_mid (P := P) w b o ty cs d hc hu hd hi
  rw [Array.getD_eq_getD_getElem?] at ht
  simp [results, h, ht, asAddr, hl]

theorem builtPlc : Tryz.prog.built 169 [] = some #[.slice none 0 0, .string ⟨#[]⟩, .int .i64 0] := by kernel_rfl
theorem builtPlc1 : Tryz.prog.built 169 [(2, .int .i64 1)] = some #[.slice none 0 0, .string ⟨#[]⟩, .int .i64 1] := by kernel_rfl
theorem csizePlc : (Tryz.prog.info? 169).map (·.size) = some 3 := by kernel_rfl

/-- A walk along a path. -/
def wkS (S : Sg) (t : ByteArray) : Except Int (List Nat × List UInt8 × Nat) := if (bl t).head? = some 47 ∧ bl t ≠ [47] then wk (fun i => (S.P i).k) S.N 1 [] (spl ((bl t).drop 1)) else .error 22

theorem infoI : (Tryz.prog.info? 3).map (fun i => (i.zero, i.size, i.bytes)) = some (some (.int .i64 0), 1, 8) := by kernel_rfl

/-- The walk's two places in memory: what it will answer, and where it stands. -/
structure Wst (w0 w : World) (yv : Value) (nm : ByteArray) (n : Nat) (y : List Nat) : Prop where
  bel : Below w0.heap.size w0 w
  res : w.heap[w0.heap.size]? = some (.cells #[.slice none 0 0, .string ⟨#[]⟩, .int .i64 0] 169 (0, 0))
  at_ : w.heap[w0.heap.size + 1]? = some (.cells #[yv, .string nm, .int .i64 (n : Int)] 169 (0, 0))
  own : w.ownsRow (w0.heap.size + 2) 3 1 yv y.length (y.map fun (i : Nat) => Value.int .i64 (i : Int))
  sz : w0.heap.size + 2 ≤ w.heap.size

set_option maxHeartbeats 4000000 in
set_option maxRecDepth 20000 in
theorem walk_bad (p : Nat) (t : ByteArray) (w : World) (hb : ¬ ((bl t).head? = some 47 ∧ bl t ≠ [47])) :
    Calls Tryz.prog 130 #[.pointer (some ⟨p, 0, none⟩), .string t] w fun e w' => ∃ v, e = .returned v ∧ Below w.heap.size w w' ∧ Walked w' w.heap.size (.error 22) v := by
  have k1 := hid (fun W => hasp_slash t W)
  have hn := heap_alloc_new w (Obj.cells #[.slice none 0 0, .string ⟨#[]⟩, .int .i64 0] 169)
  have hB : Below w.heap.size w (w.alloc (Obj.cells #[.slice none 0 0, .string ⟨#[]⟩, .int .i64 0] 169)) := (Below.refl _ _).alloc (Nat.le_refl _) _
  have HN := hid hn
  have HBB := hid hB
  clear hn hB
  by_cases h1 : (bl t).head? = some 47
  · rw [show decide ((bl t).head? = some 47) = true by simp [h1]] at k1
    have h2 : bl t = [47] := by
      by_cases h2 : bl t = [47]
      · exact h2
      · exact absurd ⟨h1, h2⟩ hb
    have h3 : (t.toList == [47]) = true := by
      rw [Lib.toList_data]
      simpa [bl] using h2
    clear hb h1 h2
    go_enter Tryz.func130, Tryz.ntmps130
    go_wp2_with fail
    go_step3
    go_wp2_with fail
    refine (k1.out _).mono ?_
    rintro e w' ⟨rfl, rfl⟩
    go_wp2_with (refine wpList_build_is rfl 169 #[] rfl _ (by simpa [Act.eval] using builtPlc) ?_)
    rw [Exit.noGoto_ret]
    refine bodyPost_ret (cell_result2 rfl _ _ w.heap.size 0 rfl [.slice none 0 0, .string ⟨#[]⟩, .int .i64 0] _ (rangeAt_block HN.out) Tryz.underlying169 rfl csizePlc) rfl ?_
    exact ⟨_, rfl, HBB.out, rfl⟩
  · rw [show decide ((bl t).head? = some 47) = false by simp [h1]] at k1
    clear hb h1
    go_enter Tryz.func130, Tryz.ntmps130
    go_wp2_with fail
    go_step3
    go_wp2_with fail
    refine (k1.out _).mono ?_
    rintro e w' ⟨rfl, rfl⟩
    go_wp2_with (refine wpList_build_is rfl 169 #[] rfl _ (by simpa [Act.eval] using builtPlc) ?_)
    rw [Exit.noGoto_ret]
    refine bodyPost_ret (cell_result2 rfl _ _ w.heap.size 0 rfl [.slice none 0 0, .string ⟨#[]⟩, .int .i64 0] _ (rangeAt_block HN.out) Tryz.underlying169 rfl csizePlc) rfl ?_
    exact ⟨_, rfl, HBB.out, rfl⟩

theorem bl_tail {t : ByteArray} (h : 1 ≤ t.size) : bl (t.extract 1 t.size) = (bl t).drop 1 := bl_drop t 1

theorem Wst.start (w : World) : Wst w ((w.alloc (Obj.cells #[.slice none 0 0, .string ⟨#[]⟩, .int .i64 0] 169)).alloc (Obj.cells #[.slice none 0 0, .string ⟨#[]⟩, .int .i64 1] 169)) (.slice none 0 0) ⟨#[]⟩ 1 [] := by
  have b1 : Below w.heap.size w (w.alloc (Obj.cells #[.slice none 0 0, .string ⟨#[]⟩, .int .i64 0] 169)) := (Below.refl _ _).alloc (Nat.le_refl _) _
  have b2 := (Below.refl _ (w.alloc (Obj.cells #[.slice none 0 0, .string ⟨#[]⟩, .int .i64 0] 169))).alloc (Nat.le_refl _) (Obj.cells #[.slice none 0 0, .string ⟨#[]⟩, .int .i64 1] 169)
  refine ⟨b1.trans (b2.mono (by simp)), (b2.block _ (by simp)).trans (heap_alloc_new w _), ?_, World.ownsRow_nil _ _ _ _, by simp⟩
  have := heap_alloc_new (w.alloc (Obj.cells #[.slice none 0 0, .string ⟨#[]⟩, .int .i64 0] 169)) (Obj.cells #[.slice none 0 0, .string ⟨#[]⟩, .int .i64 1] 169)
  simpa using this

theorem cut_parts (r : ByteArray) : ∃ a b m, cutV r = .tuple #[.string a, .string b, .bool m] ∧ a.size ≤ r.size ∧ b.size ≤ r.size ∧ ((m = true ∧ b.size < r.size ∧ spl (bl r) = bl a :: spl (bl b)) ∨ (m = false ∧ spl (bl r) = [bl a])) := by
  have hl := bl_len r
  unfold cutV
  by_cases h : upto (bl r) < r.size
  · rw [if_pos h]
    refine ⟨_, _, _, rfl, by simp; omega, by simp, .inl ⟨rfl, by simp; omega, ?_⟩⟩
    rw [spl_yes (bl r) (by omega), bl_take, bl_drop]
  · rw [if_neg h]
    have := upto_le (bl r)
    exact ⟨_, _, _, rfl, Nat.le_refl _, Nat.zero_le _, .inr ⟨rfl, spl_no _ (by omega)⟩⟩

theorem wk_there (K : Nat → Int) (N : Nat → List UInt8 → Nat) (n : Nat) (y : List Nat) (s : List UInt8) (r : List (List UInt8)) (h : K n = 0) : wk K N n y (s :: r) = .error 2 := by cases r <;> simp [wk, h]
theorem wk_dir (K : Nat → Int) (N : Nat → List UInt8 → Nat) (n : Nat) (y : List Nat) (s : List UInt8) (r : List (List UInt8)) (h : K n ≠ 0) (h2 : K n ≠ 2) : wk K N n y (s :: r) = .error 20 := by cases r <;> simp [wk, h, h2]
theorem wk_none (K : Nat → Int) (N : Nat → List UInt8 → Nat) (n : Nat) (y : List Nat) (r : List (List UInt8)) (h2 : K n = 2) : wk K N n y ([] :: r) = .error 22 := by cases r <;> simp [wk, h2]
theorem wk_long (K : Nat → Int) (N : Nat → List UInt8 → Nat) (n : Nat) (y : List Nat) (s : List UInt8) (r : List (List UInt8)) (h2 : K n = 2) (h : s ≠ []) (hl : 6 < s.length) : wk K N n y (s :: r) = .error 36 := by cases r <;> simp [wk, h2, h, hl]
theorem wk_last (K : Nat → Int) (N : Nat → List UInt8 → Nat) (n : Nat) (y : List Nat) (s : List UInt8) (h2 : K n = 2) (h : s ≠ []) (hl : ¬ 6 < s.length) : wk K N n y [s] = .ok (y ++ [n], s, N n s) := by simp [wk, h2, h, hl]
theorem wk_on (K : Nat → Int) (N : Nat → List UInt8 → Nat) (n : Nat) (y : List Nat) (s : List UInt8) (r : List (List UInt8)) (hr : r ≠ []) (h2 : K n = 2) (h : s ≠ []) (hl : ¬ 6 < s.length) : wk K N n y (s :: r) = wk K N (N n s) (y ++ [n]) r := by
  cases r with
  | nil => exact absurd rfl hr
  | cons q t => simp [wk, h2, h, hl]

theorem Wst.slc {w0 w : World} {yv : Value} {nm : ByteArray} {n : Nat} {y : List Nat} (h : Wst w0 w yv nm n y) : ∃ a c, yv = .slice a y.length c := by
  rcases h.own.2 with ⟨h1, h2⟩ | ⟨g, c, cur, rfl, _⟩
  · exact ⟨none, 0, by rw [h1, h2]⟩
  · exact ⟨_, c, rfl⟩

theorem Wst.way0 {w0 w w1 : World} {yv : Value} {nm : ByteArray} {n : Nat} {y : List Nat} (h : Wst w0 w yv nm n y) (x : Obj) (hg : (w.alloc x).grownBy w1 yv.ownBlock) : w1.cell? ⟨w0.heap.size + 1, 0, none⟩ = some yv ∧ w1.frozen? ⟨w0.heap.size + 1, 0, none⟩ = false := by
  have ua : Upd (fun k => some k = yv.ownBlock) (w.alloc x) w1 := Upd.of_grown hg
  have ub : Upd (fun k => some k = yv.ownBlock) w w1 := (Upd.alloc _ w x).trans ua (fun k _ hk => hk)
  have hat : w1.heap[w0.heap.size + 1]? = some (.cells #[yv, .string nm, .int .i64 (n : Int)] 169 (0, 0)) := ub.heap h.at_ (fun e => by have := (h.own.lt _ e.symm).1; omega)
  exact ⟨by rw [cell_of_row w1 _ 0 _ _ _ hat]; rfl, by simp [World.frozen?, hat]⟩
/-- What is answered is stored. -/
theorem Wst.fin {w0 w : World} {yv : Value} {nm : ByteArray} {n : Nat} {y : List Nat} (h : Wst w0 w yv nm n y) (v0 v1 v2 : Value) :
    (((w.setCell ⟨w0.heap.size, 0, none⟩ v0).setCell ⟨w0.heap.size, 1, none⟩ v1).setCell ⟨w0.heap.size, 2, none⟩ v2).heap[w0.heap.size]? = some (.cells #[v0, v1, v2] 169 (0, 0)) ∧
    Below w0.heap.size w0 (((w.setCell ⟨w0.heap.size, 0, none⟩ v0).setCell ⟨w0.heap.size, 1, none⟩ v1).setCell ⟨w0.heap.size, 2, none⟩ v2) ∧
    (((w.setCell ⟨w0.heap.size, 0, none⟩ v0).setCell ⟨w0.heap.size, 1, none⟩ v1).setCell ⟨w0.heap.size, 2, none⟩ v2).ownsRow w0.heap.size 3 1 yv y.length (y.map fun (i : Nat) => Value.int .i64 (i : Int)) := by
  have u1 : Upd (· = w0.heap.size) w (w.setCell ⟨w0.heap.size, 0, none⟩ v0) := Upd.setCell (F := (· = w0.heap.size)) w ⟨_, _, none⟩ _ rfl
  have u2 : Upd (· = w0.heap.size) (w.setCell ⟨w0.heap.size, 0, none⟩ v0) ((w.setCell ⟨w0.heap.size, 0, none⟩ v0).setCell ⟨w0.heap.size, 1, none⟩ v1) := Upd.setCell (F := (· = w0.heap.size)) _ ⟨_, _, none⟩ _ rfl
  have u3 : Upd (· = w0.heap.size) ((w.setCell ⟨w0.heap.size, 0, none⟩ v0).setCell ⟨w0.heap.size, 1, none⟩ v1) (((w.setCell ⟨w0.heap.size, 0, none⟩ v0).setCell ⟨w0.heap.size, 1, none⟩ v1).setCell ⟨w0.heap.size, 2, none⟩ v2) := Upd.setCell (F := (· = w0.heap.size)) _ ⟨_, _, none⟩ _ rfl
  have u : Upd (· = w0.heap.size) w (((w.setCell ⟨w0.heap.size, 0, none⟩ v0).setCell ⟨w0.heap.size, 1, none⟩ v1).setCell ⟨w0.heap.size, 2, none⟩ v2) := (u1.trans u2 (fun _ _ h => h)).trans u3 (fun _ _ h => h)
  have g1 := heap_setCell_same w w0.heap.size 0 _ _ v0 h.res
  have g2 := heap_setCell_same _ w0.heap.size 1 _ _ v1 g1
  have g3 := heap_setCell_same _ w0.heap.size 2 _ _ v2 g2
  refine ⟨by rw [g3]; rfl, h.bel.trans (u.below h.bel.size (fun x hx => by omega)), ?_⟩
  have ho := u.own h.own (fun k hk e => by have := (h.own.lt k hk).1; omega)
  refine ⟨ho.1, ?_⟩
  rcases ho.2 with hn | ⟨g, cap, cur, rfl, hb, rest⟩
  · exact .inl hn
  · exact .inr ⟨g, cap, cur, rfl, by omega, rest⟩
theorem Wst.r {w0 w : World} {yv : Value} {nm : ByteArray} {n : Nat} {y : List Nat} (h : Wst w0 w yv nm n y) : w.cell? ⟨w0.heap.size, 0, none⟩ = some (.slice none 0 0) ∧ w.cell? ⟨w0.heap.size, 1, none⟩ = some (.string ⟨#[]⟩) ∧ w.cell? ⟨w0.heap.size, 2, none⟩ = some (.int .i64 0) ∧ w.frozen? ⟨w0.heap.size, 0, none⟩ = false ∧ w.frozen? ⟨w0.heap.size, 1, none⟩ = false ∧ w.frozen? ⟨w0.heap.size, 2, none⟩ = false := by
  refine ⟨?_, ?_, ?_, ?_, ?_, ?_⟩
  · rw [cell_of_row w _ 0 _ _ _ h.res]; rfl
  · rw [cell_of_row w _ 1 _ _ _ h.res]; rfl
  · rw [cell_of_row w _ 2 _ _ _ h.res]; rfl
  all_goals simp [World.frozen?, h.res]

def mnum : Value → Value → Nat
  | .string s, .bool true => s.size + 1
  | _, _ => 0

theorem Wst.c0 {w0 w : World} {yv : Value} {nm : ByteArray} {n : Nat} {y : List Nat} (h : Wst w0 w yv nm n y) : w.cell? ⟨w0.heap.size + 1, 0, none⟩ = some yv := by rw [cell_of_row w _ 0 _ _ _ h.at_]; rfl
theorem Wst.c1 {w0 w : World} {yv : Value} {nm : ByteArray} {n : Nat} {y : List Nat} (h : Wst w0 w yv nm n y) : w.cell? ⟨w0.heap.size + 1, 1, none⟩ = some (.string nm) := by rw [cell_of_row w _ 1 _ _ _ h.at_]; rfl
theorem Wst.c2 {w0 w : World} {yv : Value} {nm : ByteArray} {n : Nat} {y : List Nat} (h : Wst w0 w yv nm n y) : w.cell? ⟨w0.heap.size + 1, 2, none⟩ = some (.int .i64 (n : Int)) := by rw [cell_of_row w _ 2 _ _ _ h.at_]; rfl
theorem Wst.f {w0 w : World} {yv : Value} {nm : ByteArray} {n : Nat} {y : List Nat} (h : Wst w0 w yv nm n y) (j : Nat) : w.frozen? ⟨w0.heap.size + 1, j, none⟩ = false := by simp [World.frozen?, h.at_]
theorem Wst.hp {w0 w w' : World} {yv : Value} {nm : ByteArray} {n : Nat} {y : List Nat} (h : Wst w0 w yv nm n y) (e : ∃ k, w' = w.drewN k) : Wst w0 w' yv nm n y := by
  obtain ⟨k, rfl⟩ := e
  exact ⟨below_drewN h.bel k, h.res, h.at_, h.own, h.sz⟩
/-- Another name, another node, where it stands. -/
theorem Wst.name {w0 w : World} {yv : Value} {nm : ByteArray} {n : Nat} {y : List Nat} (h : Wst w0 w yv nm n y) (s : ByteArray) : Wst w0 (w.setCell ⟨w0.heap.size + 1, 1, none⟩ (.string s)) yv s n y := by
  have u : Upd (· = w0.heap.size + 1) w (w.setCell ⟨w0.heap.size + 1, 1, none⟩ (.string s)) := Upd.setCell (F := (· = w0.heap.size + 1)) w ⟨_, _, none⟩ _ rfl
  refine ⟨h.bel.trans (u.below h.bel.size (fun x hx => by omega)), u.heap h.res (by omega), ?_, u.own h.own (fun k hk e => by have := (h.own.lt k hk).1; omega), Nat.le_trans h.sz u.size⟩
  rw [heap_setCell_same w _ 1 _ _ _ h.at_]; rfl
theorem Wst.node {w0 w : World} {yv : Value} {nm : ByteArray} {n : Nat} {y : List Nat} (h : Wst w0 w yv nm n y) (m : Nat) : Wst w0 (w.setCell ⟨w0.heap.size + 1, 2, none⟩ (.int .i64 (m : Int))) yv nm m y := by
  have u : Upd (· = w0.heap.size + 1) w (w.setCell ⟨w0.heap.size + 1, 2, none⟩ (.int .i64 (m : Int))) := Upd.setCell (F := (· = w0.heap.size + 1)) w ⟨_, _, none⟩ _ rfl
  refine ⟨h.bel.trans (u.below h.bel.size (fun x hx => by omega)), u.heap h.res (by omega), ?_, u.own h.own (fun k hk e => by have := (h.own.lt k hk).1; omega), Nat.le_trans h.sz u.size⟩
  rw [heap_setCell_same w _ 2 _ _ _ h.at_]; rfl
/-- The way is a node longer. -/
theorem Wst.way {w0 w w1 : World} {yv v' : Value} {nm : ByteArray} {n : Nat} {y : List Nat} (h : Wst w0 w yv nm n y) (x : Obj) (m : Nat) (hg : (w.alloc x).grownBy w1 yv.ownBlock) (ho : w1.ownsRow (w0.heap.size + 2) 3 1 v' (y.length + 1) ((y.map fun (i : Nat) => Value.int .i64 (i : Int)) ++ [.int .i64 (m : Int)])) :
    Wst w0 (w1.setCell ⟨w0.heap.size + 1, 0, none⟩ v') v' nm n (y ++ [m]) := by
  have ua : Upd (fun k => some k = yv.ownBlock) (w.alloc x) w1 := Upd.of_grown hg
  have ub : Upd (fun k => some k = yv.ownBlock) w w1 := (Upd.alloc _ w x).trans ua (fun k _ hk => hk)
  have hno : ∀ k, some k = yv.ownBlock → w0.heap.size + 2 ≤ k := fun k hk => (h.own.lt k hk.symm).1
  have hat : w1.heap[w0.heap.size + 1]? = some (.cells #[yv, .string nm, .int .i64 (n : Int)] 169 (0, 0)) := ub.heap h.at_ (fun e => by have := hno _ e; omega)
  have u : Upd (· = w0.heap.size + 1) w1 (w1.setCell ⟨w0.heap.size + 1, 0, none⟩ v') := Upd.setCell (F := (· = w0.heap.size + 1)) w1 ⟨_, _, none⟩ _ rfl
  have hb1 : Below w0.heap.size w0 w1 := h.bel.trans (ub.below h.bel.size (fun k hk => by have := hno k hk; omega))
  refine ⟨hb1.trans (u.below hb1.size (fun x hx => by omega)), u.heap (ub.heap h.res (fun e => by have := hno _ e; omega)) (by omega), ?_, ?_, Nat.le_trans (Nat.le_trans h.sz ub.size) u.size⟩
  · rw [heap_setCell_same w1 _ 0 _ _ _ hat]; rfl
  · have := u.own ho (fun k hk e => by have := (ho.lt k hk).1; omega)
    simpa using this

set_option maxHeartbeats 8000000 in
set_option maxRecDepth 20000 in
theorem walk_good (p : Nat) (S : Sg) (t : ByteArray) (w : World) (H : Sy w p S) (rk : Nat → Nat) (hr1 : rk 1 ≤ 16) (hrk : ∀ i s, i < 17 → S.N i s ≠ 0 → rk (S.N i s) < rk i) (hs : t.size ≤ 140737488355328) (hb : (bl t).head? = some 47 ∧ bl t ≠ [47]) :
    Calls Tryz.prog 130 #[.pointer (some ⟨p, 0, none⟩), .string t] w fun e w' => ∃ v, e = .returned v ∧ Below w.heap.size w w' ∧ Walked w' w.heap.size (wk (fun i => (S.P i).k) S.N 1 [] (spl ((bl t).drop 1))) v := by
  obtain ⟨i0, hi0, hz0, hz1, hz2⟩ := info_parts infoI
  have k1 := hid (fun W => hasp_slash t W)
  rw [show decide ((bl t).head? = some 47) = true by simp [hb.1]] at k1
  have h3 : (t.toList == [47]) = false := by
    rw [Lib.toList_data]
    simpa [bl] using hb.2
  have h1 : 1 ≤ t.size := by
    have := bl_len t
    cases e : bl t with
    | nil => rw [e] at hb; simp at hb
    | cons c r => rw [e] at this; simp at this; omega
  have h1' : (1 : Int) ≤ (t.size : Int) := by omega
  have HR : Hid (wk (fun i => (S.P i).k) S.N 1 [] (spl ((bl t).drop 1)) = wk (fun i => (S.P i).k) S.N 1 [] (spl (bl (t.extract 1 t.size)))) := by rw [bl_tail h1]; exact hid rfl
  obtain ⟨Z, gZ⟩ : ∃ Z, Z = wk (fun i => (S.P i).k) S.N 1 [] (spl ((bl t).drop 1)) := ⟨_, rfl⟩
  rw [← gZ] at HR ⊢
  have HH : Hid (Sy w p S ∧ rk 1 ≤ 16 ∧ (∀ i s, i < 17 → S.N i s ≠ 0 → rk (S.N i s) < rk i)) := hid ⟨H, hr1, hrk⟩
  clear gZ hb H hr1 hrk
  go_enter Tryz.func130, Tryz.ntmps130
  go_wp2_with fail
  go_step3
  go_wp2_with fail
  refine (k1.out _).mono ?_
  rintro e w' ⟨rfl, rfl⟩
  clear k1
  go_wp2_with (first
    | (refine wpList_build_is rfl 169 #[] rfl _ (by simpa [Act.eval] using builtPlc) ?_)
    | (refine wpList_build_is rfl 169 #[(2, .const (.int .i64 1))] rfl _ (by simpa [Act.eval] using builtPlc1) ?_))
  go_step3
  have HW := hid (Wst.start w)
  obtain ⟨W, gW⟩ : ∃ W, W = ((w.alloc (Obj.cells #[.slice none 0 0, .string ⟨#[]⟩, .int .i64 0] 169)).alloc (Obj.cells #[.slice none 0 0, .string ⟨#[]⟩, .int .i64 1] 169)) := ⟨_, rfl⟩
  rw [← gW] at HW ⊢
  clear gW h3
  go_wp2_with fail
  have HI : Hid (((∃ yv nm n y, Wst w W yv nm n y ∧ n < 17 ∧ (true = true → Z = wk (fun i => (S.P i).k) S.N n y (spl (bl (t.extract 1 t.size))) ∧ (n = 0 ∨ y.length + rk n ≤ rk 1)) ∧ (true = false → Z = .ok (y, bl nm, n))))) := hid ⟨_, _, _, _, HW.out, by omega, fun _ => ⟨HR.out, .inr (by simp)⟩, fun h => by simp at h⟩
  clear HR HW
  go_loopw [7, 8, 9] (fun v7 v8 v9 wr => ∃ (r : ByteArray) (mo : Bool), v7 = .int .i64 0 ∧ v8 = .string r ∧ v9 = .bool mo ∧ r.size ≤ t.size ∧ Hid (∃ yv nm n y, Wst w wr yv nm n y ∧ n < 17 ∧ (mo = true → Z = wk (fun i => (S.P i).k) S.N n y (spl (bl r)) ∧ (n = 0 ∨ y.length + rk n ≤ rk 1)) ∧ (mo = false → Z = .ok (y, bl nm, n)))) (fun _ v8 v9 _ => mnum v8 v9)
  case atStart => exact ⟨_, true, rfl, rfl, rfl, by simp, HI⟩
  case round =>
    clear HI
    obtain ⟨r, mo, rfl, rfl, rfl, hrs, HQ⟩ := hrel
    obtain ⟨yv, nm, n, y, hW, hn, hT, hF⟩ := HQ.out
    obtain ⟨ya, yc, rfl⟩ := hW.slc
    clear HQ
    cases mo with
    | false =>
      have HE := hid (hF rfl)
      have HW := hid hW
      have c0 := hW.c0
      have c1 := hW.c1
      have c2 := hW.c2
      obtain ⟨r0, r1, r2, f0, f1, f2⟩ := hW.r
      clear hT hF hW
      go_wp2_with fail
      rw [Exit.noGoto_ret]
      obtain ⟨q1, q2, q3⟩ := HW.out.fin (.slice ya y.length yc) (.string nm) (.int .i64 (n : Int))
      refine bodyPost_ret (cell_result2 rfl _ _ w.heap.size 0 rfl [.slice ya y.length yc, .string nm, .int .i64 (n : Int)] _ (rangeAt_block q1) Tryz.underlying169 rfl csizePlc) rfl ?_
      refine ⟨_, rfl, q2, ?_⟩
      rw [HE.out]
      exact ⟨_, rfl, _, _, rfl, rfl, q3⟩
    | true =>
      obtain ⟨HZ, hrk⟩ := hT rfl
      obtain ⟨ca, cb, cm, hcv, hca, hcb, hsp⟩ := cut_parts r
      have k2 := hid (scut_any r wr (by omega))
      rw [hcv] at k2
      have HZ' : Hid ((cm = true ∧ cb.size < r.size ∧ Z = wk (fun i => (S.P i).k) S.N n y (bl ca :: spl (bl cb))) ∨ (cm = false ∧ Z = wk (fun i => (S.P i).k) S.N n y [bl ca])) := by
        rcases hsp with ⟨h1, h2, h3⟩ | ⟨h1, h3⟩
        · exact hid (.inl ⟨h1, h2, by rw [HZ, h3]⟩)
        · exact hid (.inr ⟨h1, by rw [HZ, h3]⟩)
      have HW := hid hW
      have HK := hid hrk
      have HC := hid (And.intro hca hcb)
      clear hcv hsp HZ hT hF hrk hca hcb hW
      go_wp2_with fail
      refine k2.out.mono ?_
      rintro e w2 ⟨rfl, hw2⟩
      have hW2 := HW.out.hp hw2
      have c1 := hW2.c1
      have f1 := hW2.f 1
      have HW2 := hid hW2
      clear k2 hw2 hW2 HW
      go_wp2_with fail
      obtain ⟨W3, g3⟩ : ∃ W3, W3 = w2.setCell ⟨w.heap.size + 1, 1, none⟩ (.string ca) := ⟨_, rfl⟩
      have hW3 : Wst w W3 (.slice ya y.length yc) ca n y := by rw [g3]; exact HW2.out.name ca
      rw [← g3]
      have d2 := hW3.c2
      have hn0 : (0 : Int) ≤ (n : Int) := by omega
      have hn1 : (n : Int) < 17 := by omega
      have HW3 := hid hW3
      clear g3 c1 f1 hW3 HW2
      go_quiet (fail)
      obtain ⟨W4, g4⟩ : ∃ W4, W4 = W3.drewN nq := ⟨_, rfl⟩
      have hW4 : Wst w W4 (.slice ya y.length yc) ca n y := HW3.out.hp ⟨nq, g4⟩
      rw [← g4]
      have d0 := hW4.c0
      have d1 := hW4.c1
      have d2 := hW4.c2
      have e0 := hW4.f 0
      have e2 := hW4.f 2
      obtain ⟨r0, r1, r2, f0, f1, f2⟩ := hW4.r
      have HW4 := hid hW4
      have hS4 : Sy W4 p S := HH.out.1.grow hW4.bel
      have hk := hS4.k n hn
      have hm := hS4.m n hn
      have HS4 := hid hS4
      have k3 := hid (isthere_any p (1 + n * 107) _ W4 hk)
      have k4 := hid (isdir_any p (1 + n * 107) _ W4 hk)
      clear g4 hW4 hS4 HW3 hk
      by_cases a0 : (S.P n).k = 0
      · rw [show decide ((S.P n).k ≠ 0) = false by simp [a0]] at k3
        have A0 := hid a0
        clear a0 k4 hm
        go_wp2_with fail
        refine k3.out.mono ?_
        rintro e w5 ⟨rfl, rfl⟩
        go_wp2_with (refine wpList_build_is rfl 169 #[] rfl _ (by simpa [Act.eval] using builtPlc) ?_)
        rw [Exit.noGoto_ret]
        obtain ⟨q1, q2, q3⟩ := HW4.out.fin (.slice none 0 0) (.string ⟨#[]⟩) (.int .i64 0)
        refine bodyPost_ret (cell_result2 rfl _ _ w.heap.size 0 rfl [.slice none 0 0, .string ⟨#[]⟩, .int .i64 0] _ (rangeAt_block q1) Tryz.underlying169 rfl csizePlc) rfl ?_
        refine ⟨_, rfl, q2, ?_⟩
        have hz : Z = .error 2 := by
          rcases HZ'.out with ⟨_, _, h3⟩ | ⟨_, h3⟩
          · rw [h3]; exact wk_there _ _ _ _ _ _ A0.out
          · rw [h3]; exact wk_there _ _ _ _ _ _ A0.out
        rw [hz]
        rfl
      rw [show decide ((S.P n).k ≠ 0) = true by simp [a0]] at k3
      by_cases a2 : (S.P n).k = 2
      case neg =>
        rw [show decide ((S.P n).k = 2) = false by simp [a2]] at k4
        have A0 := hid (And.intro a0 a2)
        clear a0 a2 hm
        go_wp2_with fail
        refine k3.out.mono ?_
        rintro e w5 ⟨rfl, rfl⟩
        go_wp2_with fail
        refine k4.out.mono ?_
        rintro e w5 ⟨rfl, rfl⟩
        go_wp2_with (refine wpList_build_is rfl 169 #[] rfl _ (by simpa [Act.eval] using builtPlc) ?_)
        rw [Exit.noGoto_ret]
        obtain ⟨q1, q2, q3⟩ := HW4.out.fin (.slice none 0 0) (.string ⟨#[]⟩) (.int .i64 0)
        refine bodyPost_ret (cell_result2 rfl _ _ w.heap.size 0 rfl [.slice none 0 0, .string ⟨#[]⟩, .int .i64 0] _ (rangeAt_block q1) Tryz.underlying169 rfl csizePlc) rfl ?_
        refine ⟨_, rfl, q2, ?_⟩
        have hz : Z = .error 20 := by
          rcases HZ'.out with ⟨_, _, h3⟩ | ⟨_, h3⟩
          · rw [h3]; exact wk_dir _ _ _ _ _ _ A0.out.1 A0.out.2
          · rw [h3]; exact wk_dir _ _ _ _ _ _ A0.out.1 A0.out.2
        rw [hz]
        rfl
      rw [show decide ((S.P n).k = 2) = true by simp [a2]] at k4
      have A2 := hid a2
      clear a0 a2
      by_cases a3 : bl ca = []
      · have b3 : (ca.toList == []) = true := by rw [Lib.toList_data]; simpa [bl] using a3
        have A3 := hid a3
        clear a3 hm
        go_wp2_with fail
        refine k3.out.mono ?_
        rintro e w5 ⟨rfl, rfl⟩
        go_wp2_with fail
        refine k4.out.mono ?_
        rintro e w5 ⟨rfl, rfl⟩
        go_wp2_with (refine wpList_build_is rfl 169 #[] rfl _ (by simpa [Act.eval] using builtPlc) ?_)
        rw [Exit.noGoto_ret]
        obtain ⟨q1, q2, q3⟩ := HW4.out.fin (.slice none 0 0) (.string ⟨#[]⟩) (.int .i64 0)
        refine bodyPost_ret (cell_result2 rfl _ _ w.heap.size 0 rfl [.slice none 0 0, .string ⟨#[]⟩, .int .i64 0] _ (rangeAt_block q1) Tryz.underlying169 rfl csizePlc) rfl ?_
        refine ⟨_, rfl, q2, ?_⟩
        have hz : Z = .error 22 := by
          rcases HZ'.out with ⟨_, _, h3⟩ | ⟨_, h3⟩
          · rw [h3]; exact by rw [A3.out]; exact wk_none _ _ _ _ _ A2.out
          · rw [h3]; exact by rw [A3.out]; exact wk_none _ _ _ _ _ A2.out
        rw [hz]
        rfl
      have b3 : (ca.toList == []) = false := by rw [Lib.toList_data]; simpa [bl] using a3
      have hcl := bl_len ca
      by_cases a4 : 6 < (bl ca).length
      · have b4 : (6 : Int) < (ca.size : Int) := by omega
        have A4 := hid (And.intro a3 a4)
        clear a3 a4 hm hcl
        go_wp2_with fail
        refine k3.out.mono ?_
        rintro e w5 ⟨rfl, rfl⟩
        go_wp2_with fail
        refine k4.out.mono ?_
        rintro e w5 ⟨rfl, rfl⟩
        go_wp2_with (refine wpList_build_is rfl 169 #[] rfl _ (by simpa [Act.eval] using builtPlc) ?_)
        rw [Exit.noGoto_ret]
        obtain ⟨q1, q2, q3⟩ := HW4.out.fin (.slice none 0 0) (.string ⟨#[]⟩) (.int .i64 0)
        refine bodyPost_ret (cell_result2 rfl _ _ w.heap.size 0 rfl [.slice none 0 0, .string ⟨#[]⟩, .int .i64 0] _ (rangeAt_block q1) Tryz.underlying169 rfl csizePlc) rfl ?_
        refine ⟨_, rfl, q2, ?_⟩
        have hz : Z = .error 36 := by
          rcases HZ'.out with ⟨_, _, h3⟩ | ⟨_, h3⟩
          · rw [h3]; exact wk_long _ _ _ _ _ _ A2.out A4.out.1 A4.out.2
          · rw [h3]; exact wk_long _ _ _ _ _ _ A2.out A4.out.1 A4.out.2
        rw [hz]
        rfl
      have b4 : ¬ (6 : Int) < (ca.size : Int) := by omega
      have A4 := hid (And.intro a3 a4)
      have hyl : y.length ≤ 16 := by
        rcases HK.out with e | e
        · have := HS4.out.zero
          have a2 := A2.out
          rw [e] at a2
          omega
        · have := HH.out.2.1
          omega
      have hsz : w.heap.size + 2 ≤ W4.heap.size := HW4.out.sz
      clear a3 a4 hcl
      go_wp2_with fail
      refine k3.out.mono ?_
      rintro e w5 ⟨rfl, rfl⟩
      go_wp2_with fail
      refine k4.out.mono ?_
      rintro e w5 ⟨rfl, rfl⟩
      clear k3 k4
      go_wp2_with (at_builtin; go_must (refine wpList_append_own _ rfl (.tmp 54) (.tmp 57) 48 rfl (w.heap.size + 2) 3 i0 _ 1 8 Tryz.underlying48 hi0 hz0 hz1 hz2 rfl (by decide) _ y.length (y.map fun (i : Nat) => Value.int .i64 (i : Int)) rfl (HW4.out.own.alloc _) ⟨_, 0, none⟩ 1 1 [.int .i64 (n : Int)] rfl rfl (cell_one_new _ _ _) (by simp [Value.oneCell']) (by unfold maxLen; omega) (by omega) (by simp; omega) ?_))
      intro v' w6 hO hG hN
      obtain ⟨va, vc, rfl⟩ : ∃ va vc, v' = .slice va (y.length + 1) vc := by
        rcases hO.2 with ⟨h1, h2⟩ | ⟨g, c, cur, rfl, _⟩
        · omega
        · exact ⟨_, c, rfl⟩
      obtain ⟨s0, s1⟩ := HW4.out.way0 _ hG
      have HW7 := hid (HW4.out.way _ n hG hO)
      clear hO hG hN d0 d1 d2 e0 e2 r0 r1 r2 f0 f1 f2 hm
      go_wp2_with fail
      obtain ⟨w7, g7⟩ : ∃ w7, w7 = w6.setCell ⟨w.heap.size + 1, 0, none⟩ (.slice va (y.length + 1) vc) := ⟨_, rfl⟩
      rw [← g7] at HW7 ⊢
      have d1 := HW7.out.c1
      have d2 := HW7.out.c2
      have e2 := HW7.out.f 2
      have hS7 : Sy w7 p S := HH.out.1.grow HW7.out.bel
      have hm := hS7.m n hn
      have hl1 := (hS7.nms n hn).look ca (by have := HC.out; omega) w7 (fun _ _ => rfl)
      have hl2 := (hS7.nms n hn).look ca (by have := HC.out; omega) w7.drew (fun _ _ => rfl)
      have HS7 := hid hS7
      clear g7 s0 s1 hS7 HS4 HW4
      go_region
      have hW8 : Wst w (w7.setCell ⟨w.heap.size + 1, 2, none⟩ (.int .i64 (S.N n (bl ca) : Int))).drew (.slice va (y.length + 1) vc) ca (S.N n (bl ca)) (y ++ [n]) := (HW7.out.node (S.N n (bl ca))).hp ⟨1, rfl⟩
      have hn8 : S.N n (bl ca) < 17 := HS7.out.to n (bl ca) hn
      have hr8 : S.N n (bl ca) = 0 ∨ (y ++ [n]).length + rk (S.N n (bl ca)) ≤ rk 1 := by
        by_cases h0 : S.N n (bl ca) = 0
        · exact .inl h0
        · refine .inr ?_
          have q1 := HH.out.2.2 n (bl ca) hn h0
          simp only [List.length_append, List.length_singleton]
          rcases HK.out with e | e
          · have q2 := HS7.out.zero
            have a2 := A2.out
            rw [e] at a2
            omega
          · omega
      have HQ8 : Hid (∃ yv nm n' y', Wst w (w7.setCell ⟨w.heap.size + 1, 2, none⟩ (.int .i64 (S.N n (bl ca) : Int))).drew yv nm n' y' ∧ n' < 17 ∧ (cm = true → Z = wk (fun i => (S.P i).k) S.N n' y' (spl (bl cb)) ∧ (n' = 0 ∨ y'.length + rk n' ≤ rk 1)) ∧ (cm = false → Z = .ok (y', bl nm, n'))) := by
        refine hid ⟨_, _, _, _, hW8, hn8, fun hc => ?_, fun hc => ?_⟩
        · rcases HZ'.out with ⟨_, _, h3⟩ | ⟨h1, _⟩
          · refine ⟨?_, hr8⟩
            rw [h3]
            exact wk_on _ _ _ _ _ _ (spl_ne _) A2.out A4.out.1 A4.out.2
          · rw [h1] at hc; simp at hc
        · rcases HZ'.out with ⟨h1, _⟩ | ⟨_, h3⟩
          · rw [h1] at hc; simp at hc
          · rw [h3]
            exact wk_last _ _ _ _ _ A2.out A4.out.1 A4.out.2
      have HM : Hid (mnum (.string cb) (.bool cm) < mnum (.string r) (.bool true)) := by
        rcases HZ'.out with ⟨h1, h2, _⟩ | ⟨h1, _⟩
        · subst h1; exact hid (by simp [mnum]; exact h2)
        · subst h1; exact hid (by simp [mnum])
      clear hW8 hn8 hr8 d1 d2 e2 hm hl1 hl2
      go_wp2_with fail
      go_roundw
      case rel => exact ⟨cb, cm, rfl, rfl, rfl, Nat.le_trans HC.out.2 hrs, HQ8⟩
      case measure => exact HM.out

theorem walk_any (p : Nat) (S : Sg) (t : ByteArray) (w : World) (H : Sy w p S) (rk : Nat → Nat) (hr1 : rk 1 ≤ 16) (hrk : ∀ i s, i < 17 → S.N i s ≠ 0 → rk (S.N i s) < rk i) (hs : t.size ≤ 140737488355328) :
    Calls Tryz.prog 130 #[.pointer (some ⟨p, 0, none⟩), .string t] w fun e w' => ∃ v, e = .returned v ∧ Below w.heap.size w w' ∧ Walked w' w.heap.size (wkS S t) v := by
  unfold wkS
  by_cases hb : (bl t).head? = some 47 ∧ bl t ≠ [47]
  · rw [if_pos hb]; exact walk_good p S t w H rk hr1 hrk hs hb
  · rw [if_neg hb]; exact walk_bad p t w hb

end Go.Proofs.YtbglhmcahnkbfaaGreat

/- What walkToNode, walkToNew and Find do. -/
namespace Go.Proofs.YtbglhmcahnkbfaaGreat
open Go.RowKit
set_option linter.unusedVariables false
set_option maxRecDepth 20000

theorem wk_ok (K : Nat → Int) (N : Nat → List UInt8 → Nat) (hN : ∀ i s, i < 17 → N i s < 17) : ∀ (l : List (List UInt8)) (n : Nat) (y0 y : List Nat) (s : List UInt8) (m : Nat), n < 17 → wk K N n y0 l = .ok (y, s, m) →
    ∃ d, y.getLast? = some d ∧ d < 17 ∧ K d = 2 ∧ m = N d s ∧ s ≠ [] ∧ s.length ≤ 6 ∧ s ∈ l
  | [], n, y0, y, s, m, hn, h => by simp [wk] at h
  | q :: r, n, y0, y, s, m, hn, h => by
    by_cases a0 : K n = 0
    · rw [wk_there _ _ _ _ _ _ a0] at h; simp at h
    by_cases a2 : K n = 2
    case neg => rw [wk_dir _ _ _ _ _ _ a0 a2] at h; simp at h
    by_cases a3 : q = []
    · subst a3; rw [wk_none _ _ _ _ _ a2] at h; simp at h
    by_cases a4 : 6 < q.length
    · rw [wk_long _ _ _ _ _ _ a2 a3 a4] at h; simp at h
    cases r with
    | nil =>
      rw [wk_last _ _ _ _ _ a2 a3 a4] at h
      simp only [Except.ok.injEq, Prod.mk.injEq] at h
      obtain ⟨rfl, rfl, rfl⟩ := h
      exact ⟨n, by simp, hn, a2, rfl, a3, by omega, by simp⟩
    | cons z t =>
      rw [wk_on _ _ _ _ _ _ (by simp) a2 a3 a4] at h
      obtain ⟨d, h1, h2, h3, h4, h5, h6, h7⟩ := wk_ok K N hN (z :: t) _ _ _ _ _ (hN n q hn) h
      exact ⟨d, h1, h2, h3, h4, h5, h6, by simp [h7]⟩

theorem wkS_ok {w : World} {p : Nat} {S : Sg} (H : Sy w p S) {t : ByteArray} {y : List Nat} {s : List UInt8} {m : Nat} (h : wkS S t = .ok (y, s, m)) : ∃ d, y.getLast? = some d ∧ d < 17 ∧ (S.P d).k = 2 ∧ m = S.N d s ∧ s ≠ [] ∧ s.length ≤ 6 := by
  unfold wkS at h
  split at h
  · obtain ⟨d, h1, h2, h3, h4, h5, h6, _⟩ := wk_ok _ _ H.to _ _ _ _ _ _ (by omega) h
    exact ⟨d, h1, h2, h3, h4, h5, h6⟩
  · simp at h

/-- What a walk to a node, and to a new name, come to. -/
def toNode : Except Int (List Nat × List UInt8 × Nat) → Except Int (List Nat × List UInt8 × Nat)
  | .error e => .error e
  | .ok (y, s, n) => if n = 0 then .error 2 else .ok (y, s, n)
def toNew (L : Nat → Nat) : Except Int (List Nat × List UInt8 × Nat) → Except Int (List Nat × List UInt8 × Nat)
  | .error e => .error e
  | .ok (y, s, n) => if n ≠ 0 then .error 17 else if 6 ≤ L (y.getLastD 0) then .error 28 else .ok (y, s, n)
def findS (S : Sg) (t : ByteArray) : Nat × Int := if bl t = [47] then (1, 0) else match toNode (wkS S t) with
  | .error e => (0, e)
  | .ok (_, _, n) => (n, 0)

theorem last_own {w : World} {B : Nat} {yv : Value} {y : List Nat} {d : Nat} (h : w.ownsRow B 3 1 yv y.length (y.map fun (i : Nat) => Value.int .i64 (i : Int))) (hd : y.getLast? = some d) :
    ∃ g c, yv = .slice (some ⟨g, 0, none⟩) y.length c ∧ 0 < y.length ∧ g < w.heap.size ∧ w.cell? ⟨g, y.length - 1, none⟩ = some (.int .i64 (d : Int)) ∧ y.length ≤ c ∧ c ≤ 9223372036854775807 := by
  have hl : 0 < y.length := by
    cases y with
    | nil => simp at hd
    | cons a b => simp
  obtain ⟨h1, h2⟩ := h
  rcases h2 with ⟨_, h2⟩ | ⟨g, c, cur, rfl, hb, hg, hnc, hcm, hcs, htake⟩
  · omega
  · refine ⟨g, c, rfl, hl, (Array.getElem?_eq_some_iff.1 hg).1, ?_, hnc, by simpa [maxLen] using hcm⟩
    have hh : w.ownsRow B 3 1 (.slice (some ⟨g, 0, none⟩) y.length c) y.length (y.map fun (i : Nat) => Value.int .i64 (i : Int)) := ⟨h1, .inr ⟨g, c, cur, rfl, hb, hg, hnc, hcm, hcs, htake⟩⟩
    rw [hh.cellAt (y.length - 1) (by omega), List.getElem?_map]
    rw [List.getLast?_eq_getElem?] at hd
    rw [hd]
    rfl

set_option maxHeartbeats 1000000 in
theorem dir_any (w : World) (g n c d : Nat) (nm : ByteArray) (m : Int) (hn : 0 < n) (hc : w.cell? ⟨g, n - 1, none⟩ = some (.int .i64 (d : Int))) (hg : g < w.heap.size) (hl : n ≤ c) (hm : c ≤ 9223372036854775807) :
    Calls Tryz.prog 131 #[.agg #[.slice (some ⟨g, 0, none⟩) n c, .string nm, .int .i64 m]] w fun e w' => e = .returned (.int .i64 (d : Int)) ∧ Below w.heap.size w w' := by
  obtain ⟨k, rfl⟩ : ∃ k, n = k + 1 := ⟨n - 1, by omega⟩
  rw [show k + 1 - 1 = k by omega] at hc
  have c1 : (w.alloc (Obj.cells #[.slice (some ⟨g, 0, none⟩) (k + 1) c, .string nm, .int .i64 m] 169)).cell? ⟨g, k, none⟩ = some (.int .i64 (d : Int)) := by
    rw [← hc]; exact ((Below.refl _ w).alloc (Nat.le_refl _) _).cell (p := ⟨g, k, none⟩) hg
  have hB : Below w.heap.size w (w.alloc (Obj.cells #[.slice (some ⟨g, 0, none⟩) (k + 1) c, .string nm, .int .i64 m] 169)) := (Below.refl _ w).alloc (Nat.le_refl _) _
  have HB := hid hB
  have w1 : IntKind.i64.wrap ((k : Int) + 1 - 1) = (k : Int) := by rw [IntKind.wrap_i64]; omega
  clear hB hc
  go_enter Tryz.func131, Tryz.ntmps131
  go_wp2_with fail
  go_ret
  exact ⟨rfl, HB.out⟩

end Go.Proofs.YtbglhmcahnkbfaaGreat

/- What walkToNode, walkToNew and Find do. -/
namespace Go.Proofs.YtbglhmcahnkbfaaGreat
open Go.RowKit
set_option linter.unusedVariables false
set_option maxRecDepth 20000

/-- A place that is stored whole into a place of the call's own. -/
theorem plc_fin {w : World} {R : Nat} {z0 z1 z2 : Value} (h : w.heap[R]? = some (.cells #[z0, z1, z2] 169 (0, 0))) (v0 v1 v2 : Value) :
    (((w.setCell ⟨R, 0, none⟩ v0).setCell ⟨R, 1, none⟩ v1).setCell ⟨R, 2, none⟩ v2).heap[R]? = some (.cells #[v0, v1, v2] 169 (0, 0)) ∧
    Upd (· = R) w (((w.setCell ⟨R, 0, none⟩ v0).setCell ⟨R, 1, none⟩ v1).setCell ⟨R, 2, none⟩ v2) := by
  have u1 : Upd (· = R) w (w.setCell ⟨R, 0, none⟩ v0) := Upd.setCell (F := (· = R)) w ⟨_, _, none⟩ _ rfl
  have u2 : Upd (· = R) (w.setCell ⟨R, 0, none⟩ v0) ((w.setCell ⟨R, 0, none⟩ v0).setCell ⟨R, 1, none⟩ v1) := Upd.setCell (F := (· = R)) _ ⟨_, _, none⟩ _ rfl
  have u3 : Upd (· = R) ((w.setCell ⟨R, 0, none⟩ v0).setCell ⟨R, 1, none⟩ v1) (((w.setCell ⟨R, 0, none⟩ v0).setCell ⟨R, 1, none⟩ v1).setCell ⟨R, 2, none⟩ v2) := Upd.setCell (F := (· = R)) _ ⟨_, _, none⟩ _ rfl
  have g1 := heap_setCell_same w R 0 _ _ v0 h
  have g2 := heap_setCell_same _ R 1 _ _ v1 g1
  have g3 := heap_setCell_same _ R 2 _ _ v2 g2
  exact ⟨by rw [g3]; rfl, (u1.trans u2 (fun _ _ h => h)).trans u3 (fun _ _ h => h)⟩
theorem plc_cells {w : World} {R : Nat} {z0 z1 z2 : Value} (h : w.heap[R]? = some (.cells #[z0, z1, z2] 169 (0, 0))) :
    w.cell? ⟨R, 0, none⟩ = some z0 ∧ w.cell? ⟨R, 1, none⟩ = some z1 ∧ w.cell? ⟨R, 2, none⟩ = some z2 ∧ w.frozen? ⟨R, 0, none⟩ = false ∧ w.frozen? ⟨R, 1, none⟩ = false ∧ w.frozen? ⟨R, 2, none⟩ = false := by
  refine ⟨?_, ?_, ?_, ?_, ?_, ?_⟩
  · rw [cell_of_row w _ 0 _ _ _ h]; rfl
  · rw [cell_of_row w _ 1 _ _ _ h]; rfl
  · rw [cell_of_row w _ 2 _ _ _ h]; rfl
  all_goals simp [World.frozen?, h]
theorem own_mono {w : World} {B B' e size n : Nat} {v : Value} {xs : List Value} (h : w.ownsRow B e size v n xs) (hB : B' ≤ B) : w.ownsRow B' e size v n xs := by
  refine ⟨h.1, ?_⟩
  rcases h.2 with hn | ⟨g, cap, cur, rfl, hb, rest⟩
  · exact .inl hn
  · exact .inr ⟨g, cap, cur, rfl, by omega, rest⟩

theorem wk_err (K : Nat → Int) (N : Nat → List UInt8 → Nat) : ∀ (l : List (List UInt8)) (n : Nat) (y0 : List Nat) (e : Int), l ≠ [] → wk K N n y0 l = .error e → e = 2 ∨ e = 20 ∨ e = 22 ∨ e = 36
  | [], _, _, _, hl, _ => absurd rfl hl
  | q :: r, n, y0, e, _, h => by
    by_cases a0 : K n = 0
    · rw [wk_there _ _ _ _ _ _ a0] at h; simp at h; omega
    by_cases a2 : K n = 2
    case neg => rw [wk_dir _ _ _ _ _ _ a0 a2] at h; simp at h; omega
    by_cases a3 : q = []
    · subst a3; rw [wk_none _ _ _ _ _ a2] at h; simp at h; omega
    by_cases a4 : 6 < q.length
    · rw [wk_long _ _ _ _ _ _ a2 a3 a4] at h; simp at h; omega
    cases r with
    | nil => rw [wk_last _ _ _ _ _ a2 a3 a4] at h; simp at h
    | cons z t =>
      rw [wk_on _ _ _ _ _ _ (by simp) a2 a3 a4] at h
      exact wk_err K N (z :: t) _ _ e (by simp) h
theorem wkS_err {S : Sg} {t : ByteArray} {e : Int} (h : wkS S t = .error e) : e = 2 ∨ e = 20 ∨ e = 22 ∨ e = 36 := by
  unfold wkS at h
  split at h
  · exact wk_err _ _ _ _ _ _ (spl_ne _) h
  · simp at h; omega

theorem plc_behind {w2 : World} {R : Nat} {z0 z1 z2 : Value} (h : w2.heap[R]? = some (.cells #[z0, z1, z2] 169 (0, 0))) (x : Obj) : (w2.alloc x).heap[R]? = some (.cells #[z0, z1, z2] 169 (0, 0)) :=
  (((Below.refl _ w2).alloc (Nat.le_refl _) x).block R (Array.getElem?_eq_some_iff.1 h).1).trans h

theorem one_new (w : World) (a : Obj) : Below w.heap.size w (w.alloc a) := (Below.refl _ _).alloc (Nat.le_refl _) _

/-- Systems whose names lead nowhere back. -/
def Tree (S : Sg) : Prop := ∃ rk : Nat → Nat, rk 1 ≤ 16 ∧ ∀ i s, i < 17 → S.N i s ≠ 0 → rk (S.N i s) < rk i

abbrev zPlc : Obj := Obj.cells #[.slice none 0 0, .string ⟨#[]⟩, .int .i64 0] 169

/-- What stands behind the walk's call in all three: the answer's block, the place's block. -/
theorem walk_in (p : Nat) (S : Sg) (t : ByteArray) (w : World) (H : Sy w p S) (hT : Tree S) (hs : t.size ≤ 140737488355328) (x : Obj) :
    Calls Tryz.prog 130 #[.pointer (some ⟨p, 0, none⟩), .string t] (w.alloc x) fun e w' => ∃ v, e = .returned v ∧ Below (w.heap.size + 1) (w.alloc x) w' ∧ Walked w' (w.heap.size + 1) (wkS S t) v := by
  obtain ⟨rk, h1, h2⟩ := hT
  have := walk_any p S t (w.alloc x) (H.grow ((Below.refl _ _).alloc (Nat.le_refl _) _)) rk h1 h2 hs
  rw [show (w.alloc x).heap.size = w.heap.size + 1 by simp] at this
  exact this

set_option maxHeartbeats 4000000 in
set_option maxRecDepth 20000 in
theorem tonode_any (p : Nat) (S : Sg) (t : ByteArray) (w : World) (H : Sy w p S) (hT : Tree S) (hs : t.size ≤ 140737488355328) :
    Calls Tryz.prog 106 #[.pointer (some ⟨p, 0, none⟩), .string t] w fun e w' => ∃ v, e = .returned v ∧ Below w.heap.size w w' ∧ Walked w' w.heap.size (toNode (wkS S t)) v := by
  have k1 := hid (walk_in p S t w H hT hs zPlc)
  have HO := hid (fun y s m => @wkS_ok w p S H t y s m)
  have hn := heap_alloc_new w zPlc
  have hB : Below w.heap.size w (w.alloc zPlc) := (Below.refl _ _).alloc (Nat.le_refl _) _
  have HN := hid hn
  have HBB := hid hB
  clear H hn hB
  go_enter Tryz.func106, Tryz.ntmps106
  go_wp2_with fail
  refine k1.out.mono ?_
  rintro e w2 ⟨v, rfl, hb2, hv⟩
  have hN2 : w2.heap[w.heap.size]? = some (.cells #[.slice none 0 0, .string ⟨#[]⟩, .int .i64 0] 169 (0, 0)) := (hb2.block _ (by omega)).trans HN.out
  have HB2 : Hid (Below w.heap.size w w2) := hid (HBB.out.trans (hb2.mono (by omega)))
  have hs2 : w.heap.size + 1 ≤ w2.heap.size := by have := hb2.size; simpa using this
  clear k1 hb2
  cases hr : wkS S t with
  | error er =>
    rw [hr] at hv
    obtain rfl : v = _ := hv
    have her : ¬ er = 0 := by have := wkS_err hr; omega
    have hN3 := plc_behind hN2 (Obj.cells #[.slice none 0 0, .string ⟨#[]⟩, .int .i64 0] 169)
    obtain ⟨r0, r1, r2, f0, f1, f2⟩ := plc_cells hN3
    have HN3 := hid hN3
    clear hN3 hN2 HO
    go_wp2_with (refine wpList_build_is rfl 169 #[] rfl _ (by simpa [Act.eval] using builtPlc) ?_)
    obtain ⟨q1, q2⟩ := plc_fin HN3.out (.slice none 0 0) (.string ⟨#[]⟩) (.int .i64 0)
    refine bodyPost_ret (cell_result2 rfl _ _ w.heap.size 0 rfl [.slice none 0 0, .string ⟨#[]⟩, .int .i64 0] _ (rangeAt_block q1) Tryz.underlying169 rfl csizePlc) rfl ?_
    refine ⟨_, rfl, HB2.out.trans ((((Below.refl _ w2).alloc (Nat.le_refl _) _).mono HB2.out.size).trans (q2.below (by simp; omega) (fun x hx => by omega))), ?_⟩
    rw [hr]
    rfl
  | ok q =>
    obtain ⟨y, s, n⟩ := q
    rw [hr] at hv
    obtain ⟨u, rfl, yv, nm, rfl, hnm, hown⟩ := hv
    obtain ⟨d, hd, hd17, hdk, hnd, hsn, hsl⟩ := HO.out y s n hr
    obtain ⟨gy, cy, rfl, hy0, hgy, hcy, hyc, hcm⟩ := last_own hown hd
    have HOW := hid hown
    have HNM := hid hnm
    clear HO hnd hsn hsl hd hdk hd17 hown hcy hnm
    by_cases hn0 : n = 0
    · subst hn0
      have hN3 := plc_behind hN2 (Obj.cells #[.slice (some ⟨gy, 0, none⟩) y.length cy, .string nm, .int .i64 0] 169)
      obtain ⟨r0, r1, r2, f0, f1, f2⟩ := plc_cells hN3
      have HN3 := hid hN3
      clear hN3 hN2
      go_wp2_with (refine wpList_build_is rfl 169 #[] rfl _ (by simpa [Act.eval] using builtPlc) ?_)
      obtain ⟨q1, q2⟩ := plc_fin HN3.out (.slice none 0 0) (.string ⟨#[]⟩) (.int .i64 0)
      refine bodyPost_ret (cell_result2 rfl _ _ w.heap.size 0 rfl [.slice none 0 0, .string ⟨#[]⟩, .int .i64 0] _ (rangeAt_block q1) Tryz.underlying169 rfl csizePlc) rfl ?_
      refine ⟨_, rfl, HB2.out.trans ((((Below.refl _ w2).alloc (Nat.le_refl _) _).mono HB2.out.size).trans (q2.below (by simp; omega) (fun x hx => by omega))), ?_⟩
      rw [hr]
      rfl
    · have hn1 : ¬ (n : Int) = 0 := by omega
      have hN3 := plc_behind hN2 (Obj.cells #[.slice (some ⟨gy, 0, none⟩) y.length cy, .string nm, .int .i64 (n : Int)] 169)
      obtain ⟨r0, r1, r2, f0, f1, f2⟩ := plc_cells hN3
      have HN3 := hid hN3
      clear hN3 hN2
      go_wp2_with fail
      obtain ⟨q1, q2⟩ := plc_fin HN3.out (.slice (some ⟨gy, 0, none⟩) y.length cy) (.string nm) (.int .i64 (n : Int))
      refine bodyPost_ret (cell_result2 rfl _ _ w.heap.size 0 rfl [.slice (some ⟨gy, 0, none⟩) y.length cy, .string nm, .int .i64 (n : Int)] _ (rangeAt_block q1) Tryz.underlying169 rfl csizePlc) rfl ?_
      refine ⟨_, rfl, HB2.out.trans ((((Below.refl _ w2).alloc (Nat.le_refl _) _).mono HB2.out.size).trans (q2.below (by simp; omega) (fun x hx => by omega))), ?_⟩
      rw [hr, toNode, if_neg hn0]
      refine ⟨_, rfl, _, _, rfl, HNM.out, own_mono (q2.own (HOW.out.alloc _) (fun k hk e => ?_)) (Nat.le_succ _)⟩
      have := (HOW.out.lt k hk).1
      omega

end Go.Proofs.YtbglhmcahnkbfaaGreat

/- What walkToNew and Find do. -/
namespace Go.Proofs.YtbglhmcahnkbfaaGreat
open Go.RowKit
set_option linter.unusedVariables false
set_option maxRecDepth 20000

theorem toNode_ok {r : Except Int (List Nat × List UInt8 × Nat)} {y : List Nat} {s : List UInt8} {n : Nat} (h : toNode r = .ok (y, s, n)) : r = .ok (y, s, n) ∧ n ≠ 0 := by
  cases r with
  | error e => simp [toNode] at h
  | ok q =>
    obtain ⟨a, b, c⟩ := q
    simp only [toNode] at h
    split at h
    · simp at h
    · simp only [Except.ok.injEq, Prod.mk.injEq] at h
      obtain ⟨rfl, rfl, rfl⟩ := h
      exact ⟨rfl, by assumption⟩

set_option maxHeartbeats 4000000 in
set_option maxRecDepth 20000 in
theorem find_any (p : Nat) (S : Sg) (t : ByteArray) (w : World) (H : Sy w p S) (hT : Tree S) (hs : t.size ≤ 140737488355328) :
    Calls Tryz.prog 85 #[.pointer (some ⟨p, 0, none⟩), .string t] w fun e w' => e = .returned (.tuple #[.int .i64 ((findS S t).1 : Int), .int .i64 (findS S t).2]) ∧ Below w.heap.size w w' := by
  have k0 := hid H.usable
  have k1 := hid (tonode_any p S t w H hT hs)
  have HO := hid (fun y s m => @wkS_ok w p S H t y s m)
  obtain ⟨R1, R2, gR⟩ : ∃ R1 R2, findS S t = (R1, R2) := ⟨_, _, rfl⟩
  rw [gR]
  show Calls _ _ _ _ fun e w' => e = .returned (.tuple #[.int .i64 (R1 : Int), .int .i64 R2]) ∧ Below w.heap.size w w'
  unfold findS at gR
  clear H
  by_cases h0 : bl t = [47]
  · rw [if_pos h0] at gR
    obtain ⟨rfl, rfl⟩ := Prod.mk.inj gR
    clear gR
    have h3 : (t.toList == [47]) = true := by
      rw [Lib.toList_data]
      simpa [bl] using h0
    clear h0 k1 HO
    go_enter Tryz.func85, Tryz.ntmps85
    go_wp2_with fail
    refine k0.out.mono ?_
    rintro e w1 ⟨rfl, rfl⟩
    clear k0
    go_wp2_with fail
    go_ret2
    exact ⟨rfl, Below.refl _ _⟩
  · rw [if_neg h0] at gR
    have GR := hid gR
    clear gR
    have h3 : (t.toList == [47]) = false := by
      rw [Lib.toList_data]
      simpa [bl] using h0
    clear h0
    go_enter Tryz.func85, Tryz.ntmps85
    go_wp2_with fail
    refine k0.out.mono ?_
    rintro e w1 ⟨rfl, rfl⟩
    clear k0
    go_wp2_with fail
    refine k1.out.mono ?_
    rintro e w2 ⟨v, rfl, hb2, hv⟩
    have HB2 := hid hb2
    clear k1 hb2
    cases hr : toNode (wkS S t) with
    | error er =>
      rw [hr] at hv
      obtain rfl : v = _ := hv
      have HR : Hid (R1 = 0 ∧ R2 = er) := by
        have := GR.out
        rw [hr] at this
        obtain ⟨h1, h2⟩ := Prod.mk.inj this
        exact hid ⟨h1.symm, h2.symm⟩
      clear hr HO GR
      go_wp2_with fail
      go_ret2
      refine ⟨by rw [HR.out.1, HR.out.2]; rfl, ?_⟩
      exact HB2.out.trans ((one_new w2 _).mono HB2.out.size)
    | ok q =>
      obtain ⟨y, s, n⟩ := q
      rw [hr] at hv
      obtain ⟨hr', hn0⟩ := toNode_ok hr
      obtain ⟨u, rfl, yv, nm, rfl, hnm, hown⟩ := hv
      obtain ⟨d, hd, hrest⟩ := HO.out y s n hr'
      have HR : Hid (R1 = n ∧ R2 = 0) := by
        have := GR.out
        rw [hr] at this
        obtain ⟨h1, h2⟩ := Prod.mk.inj this
        exact hid ⟨h1.symm, h2.symm⟩
      clear hrest GR
      obtain ⟨gy, cy, rfl, hy0, hgy, hcy, hyc, hcm⟩ := last_own hown hd
      clear hr HO hr' hnm hown hd hcy
      go_wp2_with fail
      go_ret2
      refine ⟨by rw [HR.out.1, HR.out.2]; rfl, ?_⟩
      exact HB2.out.trans ((one_new w2 _).mono HB2.out.size)

end Go.Proofs.YtbglhmcahnkbfaaGreat
