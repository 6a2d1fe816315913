/- A list of calls of pipes as it lies; bytes behind a row of the call's own. -/
import Derived.Test.YtemdckmnedlfcaaPEnds
import Derived.Laws.AppendOwnNone
namespace Go.Proofs.Ytemdckmnedlfcaa
open Go.RowKit Lend
set_option linter.unusedVariables false

/-- A call of the list: its cells, and the bytes that it names. -/
structure Doat (w : World) (b o i : Nat) (x0 x1 x2 : Int) (x3 : Bool) (ab : Option Addr) (lb cb : Nat) (zs : List Int) : Prop where
  c0 : w.cell? ⟨b, o + i * 5, none⟩ = some (.int .i64 x0)
  c1 : w.cell? ⟨b, o + i * 5 + 1, none⟩ = some (.int .i64 x1)
  c2 : w.cell? ⟨b, o + i * 5 + 2, none⟩ = some (.int .i64 x2)
  c3 : w.cell? ⟨b, o + i * 5 + 3, none⟩ = some (.bool x3)
  c4 : w.cell? ⟨b, o + i * 5 + 4, none⟩ = some (.slice ab lb cb)
  b0 : -9223372036854775808 ≤ x0 ∧ x0 ≤ 9223372036854775807
  b1 : -9223372036854775808 ≤ x1 ∧ x1 ≤ 9223372036854775807
  b2 : -9223372036854775808 ≤ x2 ∧ x2 ≤ 9223372036854775807
  src : Src w ab lb zs
  bytes : Bytes zs
  le : lb ≤ cb
  lt : b < w.heap.size
  reach : lb ≤ 140737488355328
  nil : ab = none → lb = 0 ∧ cb = 0

/-- A list of calls, somewhere in memory. -/
def Dos (w : World) (al : Option Addr) (ll : Nat) : Prop :=
  0 < ll → ∃ b o, al = some ⟨b, o, none⟩ ∧ ∀ i, i < ll → ∃ x0 x1 x2 x3 ab lb cb zs, Doat w b o i x0 x1 x2 x3 ab lb cb zs

theorem Doat.below {w w' : World} {b o i : Nat} {x0 x1 x2 : Int} {x3 : Bool} {ab : Option Addr} {lb cb : Nat} {zs : List Int} (h : Doat w b o i x0 x1 x2 x3 ab lb cb zs) (u : Below w.heap.size w w') : Doat w' b o i x0 x1 x2 x3 ab lb cb zs :=
  ⟨(u.cell (p := ⟨b, _, none⟩) h.lt).trans h.c0, (u.cell (p := ⟨b, _, none⟩) h.lt).trans h.c1, (u.cell (p := ⟨b, _, none⟩) h.lt).trans h.c2, (u.cell (p := ⟨b, _, none⟩) h.lt).trans h.c3, (u.cell (p := ⟨b, _, none⟩) h.lt).trans h.c4, h.b0, h.b1, h.b2, h.src.below u, h.bytes, h.le, Nat.lt_of_lt_of_le h.lt u.size, h.reach, h.nil⟩

/-- 'append(own, b...)' of bytes that lie somewhere, nil or not, onto a row of the call's own, nil or not. -/
theorem wpList_append_any {P : Program} (w : World) {ops : Array Oper} {rest : List Oper} {o : Oper} {a : Act} {Q : Exit → Act → World → Prop}
    (hgd : o.guard = none) (s x : Operand) (t : TypeId) (ho : o.op = .call { callee := .builtin .append, args := #[s, x], argTypes := #[t, t] })
    (base : Nat) (i : TypeInfo) (ht : P.underlying t = some (.slice 5)) (hi : P.info? 5 = some i) (hz : i.zero = some (.int .u8 0)) (hsize : i.size = 1) (hby : i.bytes = 1)
    (v : Value) (n : Nat) (xs : List Value) (hs : a.eval s = v) (hown : w.ownsRow base 5 1 v n xs)
    (a0 : Option Addr) (m c : Nat) (zs : List Int) (hx : a.eval x = .slice a0 m c) (hsrc : Src w a0 m zs) (hnil : a0 = none → c = 0) (hb : n + m ≤ 140737488355328) (hbase : base ≤ w.heap.size)
    (hK : ∀ v' w', w'.ownsRow base 5 1 v' (n + m) (xs ++ zs.map (Value.int .u8)) → w.grownBy w' v.ownBlock → (v'.ownBlock = v.ownBlock ∨ ∀ x, v'.ownBlock = some x → w.heap.size ≤ x) → wpList P ops Q rest (a.put o.dst v') w') :
    wpList P ops Q (o :: rest) a w := by
  cases a0 with
  | none =>
    obtain rfl := hnil rfl
    obtain rfl : m = 0 := by
      rcases Nat.eq_zero_or_pos m with h | h
      · exact h
      · obtain ⟨_, _, e, _⟩ := hsrc.2 h; cases e
    obtain rfl : zs = [] := List.eq_nil_of_length_eq_zero hsrc.1
    refine wpList_append_own_none hgd s x t ho base 5 i 1 ht hi v n xs hs hown hx ?_
    exact hK v w (by simpa using hown) (World.grownBy.refl _ _) (.inl rfl)
  | some ad =>
    have hcells : ∀ j u, (zs.map (Value.int .u8))[j]? = some u → w.cell? (ad.add j) = some u := by
      intro j u hj
      have hjl : j < zs.length := by have := (List.getElem?_eq_some_iff.1 hj).1; simpa using this
      have hsl := hsrc.1
      obtain ⟨b, o', e, _, hc⟩ := hsrc.2 (by omega)
      obtain rfl := Option.some.inj e
      rw [Addr.add_lit, hc j (by omega), ← hj]
      simp [List.getD, List.getElem?_eq_getElem hjl]
    obtain ⟨v', w', hr, _, _, _, h5⟩ := run_append_where (P := P) w t o.type 5 i (.int .u8 0) 1 1 ht hi hz hsize hby rfl (by decide) v n xs (own_base hown (Nat.zero_le _)) ad m c (zs.map (Value.int .u8)) (by simp [hsrc.1]) hcells (ints_oneCell _ _) (by unfold maxLen; omega) (by omega)
    obtain ⟨v2, w2, hr2, h2, h3, h4⟩ := run_append_own (P := P) w base t o.type 5 i (.int .u8 0) 1 1 ht hi hz hsize hby rfl (by decide) v n xs hown ad m c (zs.map (Value.int .u8)) (by simp [hsrc.1]) hcells (ints_oneCell _ _) (by unfold maxLen; omega) (by omega) hbase
    rw [hr] at hr2
    injection hr2 with e1 e2
    subst e1; subst e2
    refine wpList_plain hgd fun K hK' => ?_
    unfold Oper.wp
    simp [execOp, ho, resolve, invoke, builtin, hs, hx, hr, Result.andThen]
    exact hK' _ _ (hK v' w' h2 h3 h5)

theorem Try.info5 : (Try.prog.info? 5).map (fun i => (i.zero, i.size, i.bytes)) = some (some (.int .u8 0), 1, 1) := by kernel_rfl

set_option maxHeartbeats 1000000 in
theorem hasprefix_yes (a0 a1 : Option Addr) (n c m d : Nat) (xs ys : List Int) (w : World) (h0 : Src w a0 n xs) (h1 : Src w a1 m ys) (hm : m ≤ n) (hnc : n ≤ c) (hc : c ≤ 9223372036854775807) (hp : xs.take m = ys) :
    Calls Try.prog 26 #[.slice a0 n c, .slice a1 m d] w fun e w' => e = .returned (.bool true) ∧ w' = w := by
  have hs : Src w a0 m ys := by
    refine ⟨h1.1, fun hl => ?_⟩
    obtain ⟨b, o, e, hlt, hcell⟩ := h0.2 (by omega)
    exact ⟨b, o, e, hlt, fun j hj => by rw [hcell j (by omega), ← hp]; simp [List.getD, hj]⟩
  have k := hid (fun c => equal_yes a0 a1 m c m d ys w hs h1)
  have c1 : (m : Int) ≤ n := by omega
  have c2 : (m : Int) ≤ c := by omega
  have c3 : (0 : Int) ≤ m := by omega
  clear hs h0 h1 hp
  go_enter Try.func26, Try.ntmps26
  go_wp2_with fail
  refine (k.out c).mono ?_
  rintro e w1 ⟨rfl, rfl⟩
  go_wp2_with fail
  go_ret
  exact ⟨rfl, rfl⟩

end Go.Proofs.Ytemdckmnedlfcaa
