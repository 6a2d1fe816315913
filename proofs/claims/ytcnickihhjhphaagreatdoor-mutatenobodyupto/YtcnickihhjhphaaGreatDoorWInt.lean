/- Numbers that lie somewhere in memory, and what slices.Clone of them does: a row of the call's own with the same numbers; nothing old turns. -/
import Derived.Test.YtcnickihhjhphaaGreatDoorChecked
import Derived.Test.YtcnickihhjhphaaGreatDoorUpd
import Derived.Lib.Bytes
import Derived.Laws.AppendOwnNone
namespace Go.Proofs.YtcnickihhjhphaaGreatDoor
open Go.RowKit
set_option maxRecDepth 20000
set_option linter.unusedVariables false

/-- Numbers that lie somewhere in memory. -/
structure Ilst (w : World) (a : Option Addr) (n c : Nat) (xs : List Int) : Prop where
  size : xs.length = n
  cells : 0 < n → ∃ b o, a = some ⟨b, o, none⟩ ∧ b < w.heap.size ∧ ∀ j, j < n → w.cell? ⟨b, o + j, none⟩ = some (.int .i64 (xs.getD j 0))
  nil : a = none → c = 0

theorem Ilst.below {w w' : World} {a : Option Addr} {n c : Nat} {xs : List Int} (h : Ilst w a n c xs) (u : Below w.heap.size w w') : Ilst w' a n c xs :=
  ⟨h.size, fun hl => by
    obtain ⟨b, o, e, hlt, hc⟩ := h.cells hl
    exact ⟨b, o, e, Nat.lt_of_lt_of_le hlt u.size, fun j hj => (u.cell (p := ⟨b, o + j, none⟩) hlt).trans (hc j hj)⟩, h.nil⟩

/-- Numbers in a block of their own, from B on and below H. -/
def Il (w : World) (B H : Nat) (a : Option Addr) (l : List Int) : Prop :=
  0 < l.length → ∃ b, a = some ⟨b, 0, none⟩ ∧ B ≤ b ∧ b < H ∧ b < w.heap.size ∧ ∀ j, j < l.length → w.cell? ⟨b, j, none⟩ = some (.int .i64 (l.getD j 0))

theorem Il.ilst {w : World} {B H c : Nat} {a : Option Addr} {l : List Int} (h : Il w B H a l) (hn : a = none → c = 0) : Ilst w a l.length c l :=
  ⟨rfl, fun hl => by
    obtain ⟨b, e, _, _, hb, hc⟩ := h hl
    exact ⟨b, 0, e, hb, fun j hj => by rw [Nat.zero_add]; exact hc j hj⟩, hn⟩
theorem Il.upd {F : Nat → Prop} {w w' : World} {B H : Nat} {a : Option Addr} {l : List Int} (h : Il w B H a l) (u : Upd F w w') (hF : ∀ k, B ≤ k → k < H → ¬ F k) : Il w' B H a l := fun hl => by
  obtain ⟨b, e, h1, h2, hb, hc⟩ := h hl
  exact ⟨b, e, h1, h2, Nat.lt_of_lt_of_le hb u.size, fun j hj => by rw [← hc j hj]; exact World.cell?_of_block (a := ⟨b, j, none⟩) (u.block b hb (hF b h1 h2))⟩

theorem own_il {w : World} {B : Nat} {v : Value} {l : List Int} (h : w.ownsRow B 3 1 v l.length (l.map (Value.int .i64))) : ∃ a c, v = .slice a l.length c ∧ l.length ≤ c ∧ (a = none → c = 0) ∧ Il w B w.heap.size a l := by
  have h0 := h
  rcases h.2 with ⟨rfl, hn⟩ | ⟨g, c, cur, rfl, hB, _, h1, h2, _⟩
  · rw [hn]
    exact ⟨none, 0, rfl, Nat.le_refl _, fun _ => rfl, fun h => by omega⟩
  · refine ⟨_, c, rfl, h1, (fun h => by cases h), fun hl => ⟨g, rfl, hB, (h0.lt g rfl).2, (h0.lt g rfl).2, fun j hj => ?_⟩⟩
    rw [h0.cellAt j (by simpa using hj), List.getElem?_map, List.getElem?_eq_getElem hj, List.getD_eq_getElem?_getD, List.getElem?_eq_getElem hj]
    rfl

theorem infoInt : (Tryz.prog.info? 3).map (fun i => (i.zero, i.size, i.bytes)) = some (some (.int .i64 0), 1, 8) := by kernel_rfl

theorem ints_one (zs : List Int) : ∀ u ∈ zs.map (Value.int .i64), u.oneCell' = true := fun u hu => by
  obtain ⟨z, _, rfl⟩ := List.mem_map.1 hu; rfl

theorem iclone_nil (len cap : Nat) (w : World) :
    Calls Tryz.prog 18 #[.slice none len cap] w fun e w' => e = .returned (.slice none 0 0) ∧ w' = w := by
  have hq := Lib.run_eql_slice_nil (P := Tryz.prog) w 29 3 none len cap 0 0 Tryz.underlying29
  simp only [Option.isNone_none] at hq
  go_enter Tryz.func18, Tryz.ntmps18
  go_wp2
  go_ret
  exact ⟨rfl, rfl⟩

set_option maxHeartbeats 400000 in
theorem iclone_some (a : Addr) (len cap : Nat) (zs : List Int) (w : World) (hs : Ilst w (some a) len cap zs) (hr : len ≤ 17592186044416) :
    Calls Tryz.prog 18 #[.slice (some a) len cap] w fun e w' => ∃ v, e = .returned v ∧ w'.ownsRow w.heap.size 3 1 v len (zs.map (Value.int .i64)) ∧ Below w.heap.size w w' := by
  obtain ⟨i0, hi, hz0, hz1, hz2⟩ := info_parts infoInt
  have hb0 : Below w.heap.size w (w.alloc (.cells #[] 3)) := (Below.refl _ _).alloc (Nat.le_refl _) _
  obtain ⟨cs, hcs⟩ : ∃ cs, cs = zs.map (Value.int .i64) := ⟨_, rfl⟩
  have HL : Hid (cs.length = len * 1) := by show _ = _; rw [hcs]; simp [hs.size]
  have H1 : Hid (∀ u ∈ cs, u.oneCell' = true) := by rw [hcs]; exact ints_one _
  have HN : Hid (∀ j u, cs[j]? = some u → (w.alloc (.cells #[] 3)).cell? (a.add j) = some u) := by
    intro j u hj
    have hjl : j < cs.length := (List.getElem?_eq_some_iff.1 hj).1
    have hl : cs.length = len := by rw [hcs]; simp [hs.size]
    obtain ⟨b, o, e, hlt, hc⟩ := hs.cells (by omega)
    obtain rfl := Option.some.inj e
    rw [Addr.add_lit, hb0.cell (p := ⟨b, o + j, none⟩) hlt, hc j (by omega), ← hj, hcs]
    simp [List.getD, List.getElem?_eq_getElem (show j < zs.length by have := hs.size; omega)]
  have HO : Hid ((w.alloc (.cells #[] 3)).ownsRow w.heap.size 3 1 (.slice (some ⟨w.heap.size, 0, none⟩) 0 0) 0 []) := World.ownsRow_made w #[] 0 (Nat.le_refl _) (by unfold maxLen; omega) rfl
  have HC := hid hcs
  have HB := hid hb0
  clear hcs hb0 hs
  have hq := Lib.run_eql_slice_nil (P := Tryz.prog) w 29 3 (some a) len cap 0 0 Tryz.underlying29
  simp only [Option.isNone_some] at hq
  go_enter Tryz.func18, Tryz.ntmps18
  go_wp2_with (at_builtin; go_must (refine wpList_append_own _ rfl (.tmp 5) (.tmp 6) 29 rfl w.heap.size 3 i0 (.int .i64 0) 1 8 Tryz.underlying29 hi hz0 hz1 hz2 rfl (by decide) (.slice (some ⟨w.heap.size, 0, none⟩) 0 0) 0 [] rfl HO.out a len cap cs rfl HL.out HN.out H1.out (by unfold maxLen; omega) (by omega) (by simp) ?_))
  intro v' w1 hown hgrow hnil
  rw [HC.out] at hown
  have hb1 := HB.out.grown hgrow (by simp) (by intro q hq; simp [Value.ownBlock] at hq; omega)
  have H1 := hid hown
  clear hown hgrow hnil
  go_wp2_with fail
  go_ret
  exact ⟨v', rfl, by simpa using H1.out, hb1⟩

theorem iclone (a : Option Addr) (n c : Nat) (l : List Int) (w : World) (h : Ilst w a n c l) (hn : n ≤ 17592186044416) :
    Calls Tryz.prog 18 #[.slice a n c] w fun e w' => ∃ v, e = .returned v ∧ w'.ownsRow w.heap.size 3 1 v n (l.map (Value.int .i64)) ∧ Below w.heap.size w w' := by
  cases a with
  | none =>
    have h0 : n = 0 := by
      rcases Nat.eq_zero_or_pos n with q | q
      · exact q
      · obtain ⟨_, _, e, _⟩ := h.cells q; cases e
    have h1 : l = [] := List.eq_nil_of_length_eq_zero (by rw [h.size, h0])
    subst h0 h1
    refine (iclone_nil 0 c w).mono ?_
    rintro e w' ⟨rfl, rfl⟩
    exact ⟨_, rfl, World.ownsRow_nil _ _ _ _, Below.refl _ _⟩
  | some ad => exact iclone_some ad n c l w h hn

/-- 'append(own, l...)' of numbers that lie somewhere, nil or not. -/
theorem wpList_append_lst {P : Program} (w : World) {ops : Array Oper} {rest : List Oper} {o : Oper} {a : Act} {Q : Exit → Act → World → Prop}
    (hgd : o.guard = none) (s x : Operand) (t : TypeId) (ho : o.op = .call { callee := .builtin .append, args := #[s, x], argTypes := #[t, t] })
    (base : Nat) (i : TypeInfo) (ht : P.underlying t = some (.slice 3)) (hi : P.info? 3 = some i) (hz : i.zero = some (.int .i64 0)) (hsize : i.size = 1) (hby : i.bytes = 8)
    (v : Value) (n : Nat) (xs : List Value) (hs : a.eval s = v) (hown : w.ownsRow base 3 1 v n xs)
    (a0 : Option Addr) (m c : Nat) (zs : List Int) (hx : a.eval x = .slice a0 m c) (hsrc : Ilst w a0 m c zs) (hb : (n + m) * 8 ≤ 140737488355328) (hbase : base ≤ w.heap.size)
    (hK : ∀ v' w', w'.ownsRow base 3 1 v' (n + m) (xs ++ zs.map (Value.int .i64)) → w.grownBy w' v.ownBlock → wpList P ops Q rest (a.put o.dst v') w') :
    wpList P ops Q (o :: rest) a w := by
  cases a0 with
  | none =>
    obtain rfl := hsrc.nil rfl
    obtain rfl : m = 0 := by
      rcases Nat.eq_zero_or_pos m with h | h
      · exact h
      · obtain ⟨_, _, e, _⟩ := hsrc.cells h; cases e
    obtain rfl : zs = [] := List.eq_nil_of_length_eq_zero hsrc.size
    refine wpList_append_own_none hgd s x t ho base 3 i 1 ht hi _ n xs hs hown hx ?_
    exact hK v w (by simpa using hown) (World.grownBy.refl _ _)
  | some ad =>
    refine wpList_append_own _ hgd s x t ho base 3 i (.int .i64 0) 1 8 ht hi hz hsize hby rfl (by decide) _ n xs hs hown ad m c (zs.map (Value.int .i64)) hx (by simp [hsrc.size]) ?_ (fun u hu => by obtain ⟨z, _, rfl⟩ := List.mem_map.1 hu; rfl) (by unfold maxLen; omega) (by omega) hbase ?_
    · intro j u hj
      have hjl : j < zs.length := by have := (List.getElem?_eq_some_iff.1 hj).1; simpa using this
      have hsl := hsrc.size
      obtain ⟨b, o', e, _, hc⟩ := hsrc.cells (by omega)
      obtain rfl := Option.some.inj e
      rw [Addr.add_lit, hc j (by omega), ← hj]
      simp [List.getD, List.getElem?_eq_getElem hjl]
    · intro v' w' h1 h2 _
      exact hK v' w' h1 h2

end Go.Proofs.YtcnickihhjhphaaGreatDoor
