/- Open, Write, Seek and Read of the path '/f'. -/
import Derived.Test.YtdnblbahecpmkaaGreatFOne
import Derived.Test.YtdnblbahecpmkaaGreatEqual
import Derived.Laws.AppendOwnNone
namespace Go.Proofs.YtdnblbahecpmkaaGreat
open Go.RowKit Go.ChangeMaps Go.MapKept
set_option linter.unusedVariables false
set_option maxRecDepth 20000

/-- A beginning of bytes that lie somewhere. -/
theorem Src.to {w : World} {a : Option Addr} {n : Nat} {zs : List Int} (h : Src w a n zs) (m : Nat) (hm : m ≤ n) : Src w a m (zs.take m) := by
  refine ⟨by rw [List.length_take, h.1]; omega, fun h0 => ?_⟩
  obtain ⟨b, o, e, hlt, hc⟩ := h.2 (by omega)
  refine ⟨b, o, e, hlt, fun j hj => ?_⟩
  rw [hc j (by omega), List.getD_eq_getElem?_getD, List.getD_eq_getElem?_getD, List.getElem?_take_of_lt hj]

theorem wrote_s (x : Nd) (zs B : List Int) : (wrote x x.s zs B).s = x.s + zs.length := by
  show (if zs.length = 0 then x.s else max x.s (x.s + zs.length)) = _
  split <;> omega

theorem mod_at (a : Int) (m : Nat) (h0 : 0 < m) (h1 : m ≤ 1000000) : ∃ k : Nat, k < m ∧ wrap64 ((IntKind.u64.wrap a).tmod (m : Int)) = (k : Int) := by
  obtain ⟨U, hU⟩ : ∃ U : Nat, IntKind.u64.wrap a = (U : Int) := ⟨(IntKind.u64.wrap a).toNat, by rw [IntKind.wrap_u64]; omega⟩
  refine ⟨U % m, Nat.mod_lt _ h0, ?_⟩
  rw [hU, show ((U : Int).tmod (m : Int)) = ((U % m : Nat) : Int) from rfl]
  have := Nat.mod_lt U h0
  unfold wrap64
  omega

/-- 'append(own, b...)' of bytes, either of which may be nil, as it runs. -/
theorem run_append_bytes {P : Program} (w : World) (base : Nat) (t ty : TypeId) (i : TypeInfo) (ht : P.underlying t = some (.slice 5)) (hi : P.info? 5 = some i) (hz : i.zero = some (.int .u8 0)) (hsize : i.size = 1) (hby : i.bytes = 1)
    (v : Value) (n : Nat) (xs : List Value) (hown : w.ownsRow base 5 1 v n xs) (a0 : Option Addr) (m c : Nat) (zs : List Int) (hsrc : Src w a0 m zs) (hnil : a0 = none → c = 0) (hb : n + m ≤ 140737488355328) (hbase : base ≤ w.heap.size) :
    ∃ v' w', (Builtin.append_ #[t, t] ty #[v, .slice a0 m c]).run P w = .ok v' w' ∧ w'.ownsRow base 5 1 v' (n + m) (xs ++ zs.map (Value.int .u8)) ∧ w.grownBy w' v.ownBlock := by
  cases a0 with
  | none =>
    obtain rfl := hnil rfl
    obtain rfl : m = 0 := by
      rcases Nat.eq_zero_or_pos m with h | h
      · exact h
      · obtain ⟨_, _, e, _⟩ := hsrc.2 h; cases e
    obtain rfl : zs = [] := List.eq_nil_of_length_eq_zero hsrc.1
    refine ⟨v, w, ?_, by simpa using hown, World.grownBy.refl _ _⟩
    rcases hown.2 with ⟨rfl, rfl⟩ | ⟨g, cap, cur, rfl, hb, hg, hnc, hcm, hcs, htake⟩
    · simp [Builtin.append_, run_underlying ht, Builtin.lenOf, Builtin.firstCells, sizeOf, typeInfo, hi]
    · simp [Builtin.append_, run_underlying ht, Builtin.lenOf, Builtin.firstCells, sizeOf, typeInfo, hi, loadCells, hnc, storeCells]
  | some ad =>
    have hsl := hsrc.1
    obtain ⟨v', w', h1, h2, h3, _⟩ := run_append_own (P := P) w base t ty 5 i (.int .u8 0) 1 1 ht hi hz hsize hby rfl (by decide) v n xs hown ad m c (zs.map (Value.int .u8)) (by simp [hsl]) (fun j u hj => by
      have hjl : j < zs.length := by have := (List.getElem?_eq_some_iff.1 hj).1; simpa using this
      obtain ⟨b, o', e, _, hc⟩ := hsrc.2 (by omega)
      obtain rfl := Option.some.inj e
      rw [Addr.add_lit, hc j (by omega), ← hj]
      simp [List.getD, List.getElem?_eq_getElem hjl]) (fun u hu => by obtain ⟨z, _, rfl⟩ := List.mem_map.1 hu; rfl) (by unfold maxLen; omega) (by omega) hbase
    exact ⟨v', w', h1, h2, h3⟩

/-- 'append' as it is known to run, also behind a guard that holds. -/
theorem wpList_append_is {P : Program} {w : World} {ops : Array Oper} {rest : List Oper} {o : Oper} {a : Act} {Q : Exit → Act → World → Prop} (hw : Region.wanted o (yielded ops a.tmps) = true) (s x : Operand) (t : TypeId)
    (ho : o.op = .call { callee := .builtin .append, args := #[s, x], argTypes := #[t, t] }) (vs vx v' : Value) (w' : World) (hs : a.eval s = vs) (hx : a.eval x = vx) (hrun : (Builtin.append_ #[t, t] o.type #[vs, vx]).run P w = .ok v' w')
    (h : wpList P ops Q rest (a.put o.dst v') w') : wpList P ops Q (o :: rest) a w := by
  refine wpList_step fun K hK => ?_
  rw [if_pos hw]
  unfold Oper.wp
  simp [execOp, ho, resolve, invoke, builtin, hs, hx, hrun, Result.andThen]
  exact hK _ _ h

/-- The path of the laws. -/
def pathF : ByteArray := ⟨#[47, 102]⟩
theorem pathF_bl : bl pathF = 47 :: [102] := rfl
theorem pathF_good : good [102] := ⟨by simp, by simp, by decide⟩

theorem take_splice_end (l : List Int) (o : Nat) (zs : List Int) (h : o + zs.length ≤ l.length) : (splice l o zs).take (o + zs.length) = l.take o ++ zs := by
  have e : splice l o zs = (l.take o ++ zs) ++ l.drop (o + zs.length) := by unfold splice; rw [List.append_assoc]
  rw [e, List.take_left' (by simp; omega)]

/-- A file that is written at its end. -/
theorem rd_end (x : Nd) (hb : x.b.length = 96) (zs B : List Int) (h : x.s + zs.length ≤ 96) : (wrote x x.s zs B).b.take (wrote x x.s zs B).s = x.b.take x.s ++ zs := by
  rw [wrote_s]
  exact take_splice_end x.b x.s zs (by rw [hb]; exact h)

set_option maxHeartbeats 4000000 in
theorem open_new (w : World) (t p q m B : Nat) (H : Fnew w t p q m) (fl : Int) (hBw : B ≤ w.heap.size) (hBt : B ≤ t) (hBp : B ≤ p) (hBm : B ≤ m) (h8 : (bits BinOp.and IntKind.i64 fl 8 == 0) = false)
    (ha : (bits BinOp.andNot IntKind.i64 fl 63 != 0) = false) (hrw : (bits BinOp.and IntKind.i64 fl 3 == 0) = false) (hw : (bits BinOp.and IntKind.i64 fl 2 == 0) = false) (hc : (bits BinOp.and IntKind.i64 fl 32 == 0) = true) :
    Calls Tryz.prog 6 #[.pointer (some ⟨t, 0, none⟩), .string pathF, .int .i64 fl] w fun e w' => e = .returned (.tuple #[.int .i64 1, .int .i64 0]) ∧ Fw w' t p q (oneG m [102]) 2 ((newNd 1 none).hold 1) (fun _ => false) (updF (fun _ => noFl) 1 ⟨1, 2, 0, fl, 1⟩) ∧ Below B w w' := by
  have hml : m < w.heap.size := H.sy.foot_lt m (.inr ⟨1, by omega, rfl⟩)
  have := open_any w t p q B (oneG m [102]) 2 (by omega) (by omega) (newNd 1 none) (fun _ => false) (fun _ => noFl) pathF fl H.tf (fun W hW => by
    refine (findm_new W t p q m ⟨H.tf.grow hW, H.sy.grow hW, H.tp, H.tm⟩ pathF [102] pathF_bl pathF_good fl h8).mono ?_
    rintro e w' ⟨rfl, h1, u⟩
    refine ⟨rfl, h1, u.mono (fun y _ hy => ?_)⟩
    rcases foot_root m p y hy with rfl | rfl
    · exact ⟨hBp, H.sy.lt⟩
    · exact ⟨hBm, hml⟩) H.sy.lt hBw hBt hBp ha hrw hw hc 0 rfl (by omega) 1 (by omega) (by omega) rfl (fun j h1 h2 => by omega)
  exact this

theorem wr_at (w : World) (t p q : Nat) (S : Sg) (x : Nd) (T : Nat → Bool) (F : Nat → Fl) (H : Fw w t p q S 2 x T F) (j : Nat) (hj1 : 1 ≤ j) (hj : j < 11) (o : Nat) (fl : Int) (hF : F j = ⟨1, 2, (o : Int), fl, 1⟩) (hb : (bits BinOp.and IntKind.i64 fl 2 != 0) = true) (ap : Bool) (hap : (bits BinOp.and IntKind.i64 fl 4 != 0) = ap)
    (len c : Nat) (a : Option Addr) (zs : List Int) (hsrc : Src w a len zs) (ha : ∀ b o, a = some ⟨b, o, none⟩ → 0 < len → b ≠ p) (ho : (if ap then x.s else o) = x.s) (hz : x.s + len ≤ 96) :
    Calls Tryz.prog 7 #[.pointer (some ⟨t, 0, none⟩), .int .i64 (j : Int), .slice a len c] w fun e w' => e = .returned (.tuple #[.int .i64 (len : Int), .bool false, .int .i64 0]) ∧
      (∃ B' T', Fw w' t p q S 2 (wrote x x.s zs B') T' (updF F j ⟨1, 2, ((x.s + len : Nat) : Int), fl, 1⟩)) ∧ Upd (fun y => y = t ∨ y = p) w w' := by
  have := fwrite_any w t p q S 2 (by omega) (by omega) x T F H j hj1 hj (by rw [hF]; simp) (by rw [hF]) (by rw [hF]; rfl) (by rw [hF]; exact hb) o (by rw [hF]) ap (by rw [hF]; exact hap) len c a zs hsrc ha x.s ho.symm hz
  rw [hF] at this
  exact this
theorem sk_at (w : World) (t p q : Nat) (S : Sg) (x : Nd) (T : Nat → Bool) (F : Nat → Fl) (H : Fw w t p q S 2 x T F) (j : Nat) (hj1 : 1 ≤ j) (hj : j < 11) (o : Nat) (fl : Int) (hF : F j = ⟨1, 2, (o : Int), fl, 1⟩) (off : Nat) (ho : off ≤ 1048576) :
    Calls Tryz.prog 10 #[.pointer (some ⟨t, 0, none⟩), .int .i64 (j : Int), .int .i64 (off : Int), .int .i64 0] w fun e w' => e = .returned (.tuple #[.int .i64 (off : Int), .int .i64 0]) ∧ Fw w' t p q S 2 x T (updF F j ⟨1, 2, (off : Int), fl, 1⟩) ∧ Upd (· = t) w w' := by
  have := fseek_0 w t p q S 2 x T F H j hj1 hj (by rw [hF]; simp) (by rw [hF]) off ho
  rw [hF] at this
  exact this
theorem rd_at (w : World) (t p q : Nat) (S : Sg) (x : Nd) (T : Nat → Bool) (F : Nat → Fl) (H : Fw w t p q S 2 x T F) (j : Nat) (hj1 : 1 ≤ j) (hj : j < 11) (o : Nat) (fl : Int) (hF : F j = ⟨1, 2, (o : Int), fl, 1⟩) (hb : (bits BinOp.and IntKind.i64 fl 1 != 0) = true) (hob : o ≤ x.s) :
    Calls Tryz.prog 11 #[.pointer (some ⟨t, 0, none⟩), .int .i64 (j : Int), .int .i64 200] w fun e w' => (∃ g c, e = .returned (.tuple #[.slice (some ⟨g, 0, none⟩) (x.s - o) c, .bool false, .int .i64 0]) ∧
      w'.ownsRow w.heap.size 5 1 (.slice (some ⟨g, 0, none⟩) (x.s - o) c) (x.s - o) (((x.b.take x.s).drop o).map (Value.int .u8))) ∧ Fw w' t p q S 2 x T (updF F j ⟨1, 2, (x.s : Int), fl, 1⟩) ∧ Upd (· = t) w w' := by
  have hs := H.s
  have := fread_any w t p q S 2 (by omega) (by omega) x T F H j hj1 hj (by rw [hF]; simp) (by rw [hF]) (by rw [hF]; rfl) (by rw [hF]; exact hb) o 200 (by rw [hF]) (by omega) (by omega)
  rw [hF, show min 200 (x.s - o) = x.s - o by omega, show o + (x.s - o) = x.s by omega, show rd x o 200 = (x.b.take x.s).drop o by unfold rd; exact List.take_of_length_le (by simp; omega)] at this
  exact this

end Go.Proofs.YtdnblbahecpmkaaGreat
