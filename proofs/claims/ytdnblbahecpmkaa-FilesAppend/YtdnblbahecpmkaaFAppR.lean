/- The road of FilesAppend. -/
import Derived.Test.YtdnblbahecpmkaaFOne
import Derived.Test.YtdnblbahecpmkaaEqual
import Derived.Laws.AppendOwnNone
namespace Go.Proofs.Ytdnblbahecpmkaa
open Go.RowKit Go.ChangeMaps Go.MapKept
set_option linter.unusedVariables false

/-- A beginning of bytes that lie somewhere. -/
theorem Src.to {w : World} {a : Option Addr} {n : Nat} {zs : List Int} (h : Src w a n zs) (m : Nat) (hm : m ≤ n) : Src w a m (zs.take m) := by
  refine ⟨by rw [List.length_take, h.1]; omega, fun h0 => ?_⟩
  obtain ⟨b, o, e, hlt, hc⟩ := h.2 (by omega)
  refine ⟨b, o, e, hlt, fun j hj => ?_⟩
  rw [hc j (by omega), List.getD_eq_getElem?_getD, List.getD_eq_getElem?_getD, List.getElem?_take_of_lt hj]

theorem wrote_s (x : Nd) (zs B : List Int) : (wrote x x.s zs B).s = x.s + zs.length := by
  show (if zs.length = 0 then x.s else max x.s (x.s + zs.length)) = _
  split <;> omega

theorem mod_at (a : Int) (m : Nat) (h0 : 0 < m) (h1 : m ≤ 1000000) : ∃ k : Nat, k < m ∧ wrap64 ((IntKind.u64.wrap a).tmod (m : Int)) = (k : Int) := by
  obtain ⟨U, hU⟩ : ∃ U : Nat, IntKind.u64.wrap a = (U : Int) := ⟨(IntKind.u64.wrap a).toNat, by rw [IntKind.wrap_u64]; omega⟩
  refine ⟨U % m, Nat.mod_lt _ h0, ?_⟩
  rw [hU, show ((U : Int).tmod (m : Int)) = ((U % m : Nat) : Int) from rfl]
  have := Nat.mod_lt U h0
  unfold wrap64
  omega

/-- 'append(own, b...)' of bytes, either of which may be nil, as it runs. -/
theorem run_append_bytes {P : Program} (w : World) (base : Nat) (t ty : TypeId) (i : TypeInfo) (ht : P.underlying t = some (.slice 5)) (hi : P.info? 5 = some i) (hz : i.zero = some (.int .u8 0)) (hsize : i.size = 1) (hby : i.bytes = 1)
    (v : Value) (n : Nat) (xs : List Value) (hown : w.ownsRow base 5 1 v n xs) (a0 : Option Addr) (m c : Nat) (zs : List Int) (hsrc : Src w a0 m zs) (hnil : a0 = none → c = 0) (hb : n + m ≤ 140737488355328) (hbase : base ≤ w.heap.size) :
    ∃ v' w', (Builtin.append_ #[t, t] ty #[v, .slice a0 m c]).run P w = .ok v' w' ∧ w'.ownsRow base 5 1 v' (n + m) (xs ++ zs.map (Value.int .u8)) ∧ w.grownBy w' v.ownBlock := by
  cases a0 with
  | none =>
    obtain rfl := hnil rfl
    obtain rfl : m = 0 := by
      rcases Nat.eq_zero_or_pos m with h | h
      · exact h
      · obtain ⟨_, _, e, _⟩ := hsrc.2 h; cases e
    obtain rfl : zs = [] := List.eq_nil_of_length_eq_zero hsrc.1
    refine ⟨v, w, ?_, by simpa using hown, World.grownBy.refl _ _⟩
    rcases hown.2 with ⟨rfl, rfl⟩ | ⟨g, cap, cur, rfl, hb, hg, hnc, hcm, hcs, htake⟩
    · simp [Builtin.append_, run_underlying ht, Builtin.lenOf, Builtin.firstCells, sizeOf, typeInfo, hi]
    · simp [Builtin.append_, run_underlying ht, Builtin.lenOf, Builtin.firstCells, sizeOf, typeInfo, hi, loadCells, hnc, storeCells]
  | some ad =>
    have hsl := hsrc.1
    obtain ⟨v', w', h1, h2, h3, _⟩ := run_append_own (P := P) w base t ty 5 i (.int .u8 0) 1 1 ht hi hz hsize hby rfl (by decide) v n xs hown ad m c (zs.map (Value.int .u8)) (by simp [hsl]) (fun j u hj => by
      have hjl : j < zs.length := by have := (List.getElem?_eq_some_iff.1 hj).1; simpa using this
      obtain ⟨b, o', e, _, hc⟩ := hsrc.2 (by omega)
      obtain rfl := Option.some.inj e
      rw [Addr.add_lit, hc j (by omega), ← hj]
      simp [List.getD, List.getElem?_eq_getElem hjl]) (fun u hu => by obtain ⟨z, _, rfl⟩ := List.mem_map.1 hu; rfl) (by unfold maxLen; omega) (by omega) hbase
    exact ⟨v', w', h1, h2, h3⟩

/-- 'append' as it is known to run, also behind a guard that holds. -/
theorem wpList_append_is {P : Program} {w : World} {ops : Array Oper} {rest : List Oper} {o : Oper} {a : Act} {Q : Exit → Act → World → Prop} (hw : Region.wanted o (yielded ops a.tmps) = true) (s x : Operand) (t : TypeId)
    (ho : o.op = .call { callee := .builtin .append, args := #[s, x], argTypes := #[t, t] }) (vs vx v' : Value) (w' : World) (hs : a.eval s = vs) (hx : a.eval x = vx) (hrun : (Builtin.append_ #[t, t] o.type #[vs, vx]).run P w = .ok v' w')
    (h : wpList P ops Q rest (a.put o.dst v') w') : wpList P ops Q (o :: rest) a w := by
  refine wpList_step fun K hK => ?_
  rw [if_pos hw]
  unfold Oper.wp
  simp [execOp, ho, resolve, invoke, builtin, hs, hx, hrun, Result.andThen]
  exact hK _ _ h

/-- The path of the laws. -/
def pathF : ByteArray := ⟨#[47, 102]⟩
theorem pathF_bl : bl pathF = 47 :: [102] := rfl
theorem pathF_good : good [102] := ⟨by simp, by simp, by decide⟩

theorem take_splice_end (l : List Int) (o : Nat) (zs : List Int) (h : o + zs.length ≤ l.length) : (splice l o zs).take (o + zs.length) = l.take o ++ zs := by
  have e : splice l o zs = (l.take o ++ zs) ++ l.drop (o + zs.length) := by unfold splice; rw [List.append_assoc]
  rw [e, List.take_left' (by simp; omega)]

/-- A file that is written at its end. -/
theorem rd_end (x : Nd) (hb : x.b.length = 96) (zs B : List Int) (h : x.s + zs.length ≤ 96) : (wrote x x.s zs B).b.take (wrote x x.s zs B).s = x.b.take x.s ++ zs := by
  rw [wrote_s]
  exact take_splice_end x.b x.s zs (by rw [hb]; exact h)

set_option maxHeartbeats 4000000 in
theorem open_new (w : World) (t p q m B : Nat) (H : Fnew w t p q m) (fl : Int) (hBw : B ≤ w.heap.size) (hBt : B ≤ t) (hBp : B ≤ p) (hBm : B ≤ m) (h8 : (bits BinOp.and IntKind.i64 fl 8 == 0) = false)
    (ha : (bits BinOp.andNot IntKind.i64 fl 63 != 0) = false) (hrw : (bits BinOp.and IntKind.i64 fl 3 == 0) = false) (hw : (bits BinOp.and IntKind.i64 fl 2 == 0) = false) (hc : (bits BinOp.and IntKind.i64 fl 32 == 0) = true) :
    Calls Try.prog 18 #[.pointer (some ⟨t, 0, none⟩), .string pathF, .int .i64 fl] w fun e w' => e = .returned (.tuple #[.int .i64 1, .int .i64 0]) ∧ Fw w' t p q (oneG m [102]) 2 ((newNd 1 none).hold 1) (fun _ => false) (updF (fun _ => noFl) 1 ⟨1, 2, 0, fl, 1⟩) ∧ Below B w w' := by
  have hml : m < w.heap.size := H.sy.foot_lt m (.inr ⟨1, by omega, rfl⟩)
  have := open_any w t p q B (oneG m [102]) 2 (by omega) (by omega) (newNd 1 none) (fun _ => false) (fun _ => noFl) pathF fl H.tf (fun W hW => by
    refine (findm_new W t p q m ⟨H.tf.grow hW, H.sy.grow hW, H.tp, H.tm⟩ pathF [102] pathF_bl pathF_good fl h8).mono ?_
    rintro e w' ⟨rfl, h1, u⟩
    refine ⟨rfl, h1, u.mono (fun y _ hy => ?_)⟩
    rcases foot_root m p y hy with rfl | rfl
    · exact ⟨hBp, H.sy.lt⟩
    · exact ⟨hBm, hml⟩) H.sy.lt hBw hBt hBp ha hrw hw hc 0 rfl (by omega) 1 (by omega) (by omega) rfl (fun j h1 h2 => by omega)
  exact this

theorem wr_at (w : World) (t p q : Nat) (S : Sg) (x : Nd) (T : Nat → Bool) (F : Nat → Fl) (H : Fw w t p q S 2 x T F) (j : Nat) (hj1 : 1 ≤ j) (hj : j < 11) (o : Nat) (fl : Int) (hF : F j = ⟨1, 2, (o : Int), fl, 1⟩) (hb : (bits BinOp.and IntKind.i64 fl 2 != 0) = true) (ap : Bool) (hap : (bits BinOp.and IntKind.i64 fl 4 != 0) = ap)
    (len c : Nat) (a : Option Addr) (zs : List Int) (hsrc : Src w a len zs) (ha : ∀ b o, a = some ⟨b, o, none⟩ → 0 < len → b ≠ p) (ho : (if ap then x.s else o) = x.s) (hz : x.s + len ≤ 96) :
    Calls Try.prog 19 #[.pointer (some ⟨t, 0, none⟩), .int .i64 (j : Int), .slice a len c] w fun e w' => e = .returned (.tuple #[.int .i64 (len : Int), .bool false, .int .i64 0]) ∧
      (∃ B' T', Fw w' t p q S 2 (wrote x x.s zs B') T' (updF F j ⟨1, 2, ((x.s + len : Nat) : Int), fl, 1⟩)) ∧ Upd (fun y => y = t ∨ y = p) w w' := by
  have := fwrite_any w t p q S 2 (by omega) (by omega) x T F H j hj1 hj (by rw [hF]; simp) (by rw [hF]) (by rw [hF]; rfl) (by rw [hF]; exact hb) o (by rw [hF]) ap (by rw [hF]; exact hap) len c a zs hsrc ha x.s ho.symm hz
  rw [hF] at this
  exact this
theorem sk_at (w : World) (t p q : Nat) (S : Sg) (x : Nd) (T : Nat → Bool) (F : Nat → Fl) (H : Fw w t p q S 2 x T F) (j : Nat) (hj1 : 1 ≤ j) (hj : j < 11) (o : Nat) (fl : Int) (hF : F j = ⟨1, 2, (o : Int), fl, 1⟩) (off : Nat) (ho : off ≤ 1048576) :
    Calls Try.prog 22 #[.pointer (some ⟨t, 0, none⟩), .int .i64 (j : Int), .int .i64 (off : Int), .int .i64 0] w fun e w' => e = .returned (.tuple #[.int .i64 (off : Int), .int .i64 0]) ∧ Fw w' t p q S 2 x T (updF F j ⟨1, 2, (off : Int), fl, 1⟩) ∧ Upd (· = t) w w' := by
  have := fseek_0 w t p q S 2 x T F H j hj1 hj (by rw [hF]; simp) (by rw [hF]) off ho
  rw [hF] at this
  exact this
theorem rd_at (w : World) (t p q : Nat) (S : Sg) (x : Nd) (T : Nat → Bool) (F : Nat → Fl) (H : Fw w t p q S 2 x T F) (j : Nat) (hj1 : 1 ≤ j) (hj : j < 11) (o : Nat) (fl : Int) (hF : F j = ⟨1, 2, (o : Int), fl, 1⟩) (hb : (bits BinOp.and IntKind.i64 fl 1 != 0) = true) (hob : o ≤ x.s) :
    Calls Try.prog 21 #[.pointer (some ⟨t, 0, none⟩), .int .i64 (j : Int), .int .i64 200] w fun e w' => (∃ g c, e = .returned (.tuple #[.slice (some ⟨g, 0, none⟩) (x.s - o) c, .bool false, .int .i64 0]) ∧
      w'.ownsRow w.heap.size 5 1 (.slice (some ⟨g, 0, none⟩) (x.s - o) c) (x.s - o) (((x.b.take x.s).drop o).map (Value.int .u8))) ∧ Fw w' t p q S 2 x T (updF F j ⟨1, 2, (x.s : Int), fl, 1⟩) ∧ Upd (· = t) w w' := by
  have hs := H.s
  have := fread_any w t p q S 2 (by omega) (by omega) x T F H j hj1 hj (by rw [hF]; simp) (by rw [hF]) (by rw [hF]; rfl) (by rw [hF]; exact hb) o 200 (by rw [hF]) (by omega) (by omega)
  rw [hF, show min 200 (x.s - o) = x.s - o by omega, show o + (x.s - o) = x.s by omega, show rd x o 200 = (x.b.take x.s).drop o by unfold rd; exact List.take_of_length_le (by simp; omega)] at this
  exact this

set_option maxHeartbeats 8000000 in
set_option maxRecDepth 20000 in
theorem append_road (a0 b0 : Option Addr) (la ca lb cb : Nat) (xs ys : List Int) (av : Int) (w : World) (hsa : Src w a0 la xs) (hsb : Src w b0 lb ys) (hla : la ≤ ca) (hca : ca ≤ 9223372036854775807) (hlb : lb ≤ cb) (hcb : cb ≤ 9223372036854775807) (hna : a0 = none → ca = 0) (hnb : b0 = none → cb = 0) :
    Calls Try.prog 6 #[.slice a0 la ca, .slice b0 lb cb, .int .i64 av] w fun e w' => e = .returned (.bool true) ∧ Below w.heap.size w w' := by
  obtain ⟨na, ga⟩ : ∃ na, na = min la 40 := ⟨_, rfl⟩
  obtain ⟨nb, gb⟩ : ∃ nb, nb = min lb 40 := ⟨_, rfl⟩
  have ma : min (la : Int) 40 = (na : Int) := by omega
  have mb : min (lb : Int) 40 = (nb : Int) := by omega
  have i1 : (0 : Int) ≤ (na : Int) := by omega
  have i2 : (na : Int) ≤ (ca : Int) := by omega
  have i3 : (0 : Int) ≤ (nb : Int) := by omega
  have i4 : (nb : Int) ≤ (cb : Int) := by omega
  have HA := hid (hsa.to na (by omega))
  have HB := hid (hsb.to nb (by omega))
  have hna40 : na ≤ 40 := by omega
  have hnb40 : nb ≤ 40 := by omega
  clear hsa hsb ga gb
  go_enter Try.func6, Try.ntmps6
  go_wp2_with fail
  go_region
  obtain ⟨za, gza⟩ : ∃ za, za = xs.take na := ⟨_, rfl⟩
  obtain ⟨zb, gzb⟩ : ∃ zb, zb = ys.take nb := ⟨_, rfl⟩
  rw [← gza] at HA
  rw [← gzb] at HB
  have HLA := hid HA.out.1
  have HLB := hid HB.out.1
  clear gza gzb ma mb i1 i2 i3 i4 hla hlb
  have k0 : Hid (Calls Try.prog 17 #[.int .i64 0] w.drew fun e w' => ∃ t p q m, e = .returned (.pointer (some ⟨t, 0, none⟩)) ∧ Hid (Fnew w' t p q m ∧ w.heap.size ≤ t ∧ w.heap.size ≤ p ∧ w.heap.size ≤ m ∧ Below w.heap.size w w')) := by
    refine hid ((fnew_any w.drew).mono ?_)
    rintro e w' ⟨t, p, q, m, rfl, h1, h2, h3, h4, h5⟩
    exact ⟨t, p, q, m, rfl, hid ⟨h1, h2, h3, h4, (Below.refl _ w).drew.trans h5⟩⟩
  go_wp2_with fail
  refine k0.out.mono ?_
  rintro e w1 ⟨t, p, q, m, rfl, H1⟩
  clear k0
  have k1 := open_new w1 t p q m w.heap.size H1.out.1 15 H1.out.2.2.2.2.size H1.out.2.1 H1.out.2.2.1 H1.out.2.2.2.1 (by decide) (by decide) (by decide) (by decide) (by decide)
  have K1 := hid k1
  clear k1
  go_wp2_with fail
  refine K1.out.mono ?_
  rintro e w2 ⟨rfl, hF2, hb2⟩
  have HF2 := hid hF2
  have HB2 := hid (H1.out.2.2.2.2.trans hb2)
  have HP := hid (And.intro H1.out.2.1 (H1.out.2.2.1))
  clear K1 hF2 hb2 H1
  obtain ⟨x0, gx0⟩ : ∃ x0, x0 = (newNd 1 none).hold 1 := ⟨_, rfl⟩
  rw [← gx0] at HF2
  have X0 : Hid (x0.s = 0 ∧ x0.b.length = 96) := by rw [gx0]; exact hid ⟨rfl, by simp [newNd, Nd.hold]⟩
  clear gx0
  have hap : ∀ b o, a0 = some ⟨b, o, none⟩ → 0 < na → b ≠ p := fun b o e h0 => by
    obtain ⟨b', o', e', hlt, _⟩ := HA.out.2 h0
    rw [e] at e'
    injection e' with e'
    injection e' with e1 _
    have := HP.out.2
    omega
  have hbp : ∀ b o, b0 = some ⟨b, o, none⟩ → 0 < nb → b ≠ p := fun b o e h0 => by
    obtain ⟨b', o', e', hlt, _⟩ := HB.out.2 h0
    rw [e] at e'
    injection e' with e'
    injection e' with e1 _
    have := HP.out.2
    omega
  have HAP := hid (And.intro hap hbp)
  obtain ⟨F0, gF0⟩ : ∃ F0, F0 = updF (fun _ => noFl) 1 ⟨1, 2, 0, 15, 1⟩ := ⟨_, rfl⟩
  rw [← gF0] at HF2
  have k2 : Hid (Calls Try.prog 19 #[.pointer (some ⟨t, 0, none⟩), .int .i64 1, .slice a0 na ca] w2 fun e w' => e = .returned (.tuple #[.int .i64 (na : Int), .bool false, .int .i64 0]) ∧ Hid (∃ B' T', Fw w' t p q (oneG m [102]) 2 (wrote x0 x0.s za B') T' (updF F0 1 ⟨1, 2, ((x0.s + na : Nat) : Int), 15, 1⟩)) ∧ Hid (Below w.heap.size w w')) := by
    have hF0 : F0 1 = ⟨1, 2, ((0 : Nat) : Int), 15, 1⟩ := by rw [gF0]; rfl
    refine hid ((wr_at w2 t p q _ x0 _ F0 HF2.out 1 (by omega) (by omega) 0 15 hF0 (by decide) true (by decide) na ca a0 za (HA.out.below HB2.out) hap rfl (by have := X0.out.1; omega)).mono ?_)
    rintro e w' ⟨rfl, h1, u⟩
    refine ⟨rfl, hid h1, hid (HB2.out.trans (u.bel HB2.out.size (fun y _ hy => ?_)))⟩
    have := HP.out
    omega
  clear gF0 hap hbp
  go_wp2_with fail
  refine k2.out.mono ?_
  rintro e w3 ⟨rfl, H3, HB3⟩
  obtain ⟨B1, T1, hF3⟩ := H3.out
  obtain ⟨x1, gx1⟩ : ∃ x1, x1 = wrote x0 x0.s za B1 := ⟨_, rfl⟩
  rw [← gx1] at hF3
  have X1 : Hid (x1.s = na ∧ x1.b.length = 96 ∧ x1.b.take x1.s = za) := by
    rw [gx1]
    refine hid ⟨?_, ?_, ?_⟩
    · rw [wrote_s, X0.out.1, HLA.out]; omega
    · show (splice x0.b x0.s za).length = 96
      rw [length_splice _ _ _ (by rw [X0.out.1, X0.out.2, HLA.out]; omega)]; exact X0.out.2
    · rw [rd_end x0 X0.out.2 za B1 (by rw [X0.out.1, HLA.out]; omega), X0.out.1]; rfl
  have HF3 := hid hF3
  obtain ⟨F1, gF1⟩ : ∃ F1, F1 = updF F0 1 ⟨1, 2, ((x0.s + na : Nat) : Int), 15, 1⟩ := ⟨_, rfl⟩
  rw [← gF1] at HF3
  have F1e : Hid (F1 1 = ⟨1, 2, ((x0.s + na : Nat) : Int), 15, 1⟩) := by rw [gF1]; exact hid (updF_same _ _ _)
  clear gF1 gx1 hF3 H3 HF2 k2 HB2
  obtain ⟨k, hk100, hk⟩ : ∃ k : Nat, k < 100 ∧ wrap64 ((IntKind.u64.wrap av).tmod 100) = (k : Int) := mod_at av 100 (by omega) (by omega)
  have HK := hid hk
  clear hk
  go_wp2_with fail
  rw [HK.out]
  clear HK
  refine (sk_at w3 t p q _ x1 T1 F1 HF3.out 1 (by omega) (by omega) _ 15 F1e.out k (by omega)).mono ?_
  rintro e w4 ⟨rfl, hF4, u4⟩
  have HB4 : Hid (Below w.heap.size w w4) := hid (HB3.out.trans (u4.bel HB3.out.size (fun y _ hy => by have := HP.out.1; omega)))
  obtain ⟨F2, gF2⟩ : ∃ F2, F2 = updF F1 1 ⟨1, 2, (k : Int), 15, 1⟩ := ⟨_, rfl⟩
  rw [← gF2] at hF4
  have F2e : Hid (F2 1 = ⟨1, 2, (k : Int), 15, 1⟩) := by rw [gF2]; exact hid (updF_same _ _ _)
  have HF4 := hid hF4
  clear gF2 hF4 u4 HF3 HB3
  have k5 : Hid (Calls Try.prog 19 #[.pointer (some ⟨t, 0, none⟩), .int .i64 1, .slice b0 nb cb] w4 fun e w' => e = .returned (.tuple #[.int .i64 (nb : Int), .bool false, .int .i64 0]) ∧ Hid (∃ B' T', Fw w' t p q (oneG m [102]) 2 (wrote x1 x1.s zb B') T' (updF F2 1 ⟨1, 2, ((x1.s + nb : Nat) : Int), 15, 1⟩)) ∧ Hid (Below w.heap.size w w')) := by
    refine hid ((wr_at w4 t p q _ x1 _ F2 HF4.out 1 (by omega) (by omega) k 15 F2e.out (by decide) true (by decide) nb cb b0 zb (HB.out.below HB4.out) HAP.out.2 rfl (by have := X1.out.1; omega)).mono ?_)
    rintro e w' ⟨rfl, h1, u⟩
    refine ⟨rfl, hid h1, hid (HB4.out.trans (u.bel HB4.out.size (fun y _ hy => ?_)))⟩
    have := HP.out
    omega
  go_wp2_with fail
  refine k5.out.mono ?_
  rintro e w5 ⟨rfl, H5, HB5⟩
  obtain ⟨B2, T2, hF5⟩ := H5.out
  obtain ⟨x2, gx2⟩ : ∃ x2, x2 = wrote x1 x1.s zb B2 := ⟨_, rfl⟩
  rw [← gx2] at hF5
  have X2 : Hid (x2.s = na + nb ∧ x2.b.take x2.s = za ++ zb) := by
    rw [gx2]
    refine hid ⟨?_, ?_⟩
    · rw [wrote_s, X1.out.1, HLB.out]
    · rw [rd_end x1 X1.out.2.1 zb B2 (by rw [X1.out.1, HLB.out]; omega), X1.out.2.2]
  obtain ⟨F3, gF3⟩ : ∃ F3, F3 = updF F2 1 ⟨1, 2, ((x1.s + nb : Nat) : Int), 15, 1⟩ := ⟨_, rfl⟩
  rw [← gF3] at hF5
  have F3e : Hid (F3 1 = ⟨1, 2, ((x1.s + nb : Nat) : Int), 15, 1⟩) := by rw [gF3]; exact hid (updF_same _ _ _)
  have HF5 := hid hF5
  clear gF3 gx2 hF5 H5 HF4 k5 HB4
  go_wp2_with fail
  refine (sk_at w5 t p q _ x2 T2 F3 HF5.out 1 (by omega) (by omega) _ 15 F3e.out 0 (by omega)).mono ?_
  rintro e w6 ⟨rfl, hF6, u6⟩
  have HB6 : Hid (Below w.heap.size w w6) := hid (HB5.out.trans (u6.bel HB5.out.size (fun y _ hy => by have := HP.out.1; omega)))
  obtain ⟨F4, gF4⟩ : ∃ F4, F4 = updF F3 1 ⟨1, 2, ((0 : Nat) : Int), 15, 1⟩ := ⟨_, rfl⟩
  rw [← gF4] at hF6
  have F4e : Hid (F4 1 = ⟨1, 2, ((0 : Nat) : Int), 15, 1⟩) := by rw [gF4]; exact hid (updF_same _ _ _)
  have HF6 := hid hF6
  clear gF4 hF6 u6 HF5 HB5
  obtain ⟨r, gr⟩ : ∃ r, r = na + nb := ⟨_, rfl⟩
  have k7 : Hid (Calls Try.prog 21 #[.pointer (some ⟨t, 0, none⟩), .int .i64 1, .int .i64 200] w6 fun e w' => ∃ g c, e = .returned (.tuple #[.slice (some ⟨g, 0, none⟩) r c, .bool false, .int .i64 0]) ∧ Hid (w'.ownsRow w6.heap.size 5 1 (.slice (some ⟨g, 0, none⟩) r c) r ((za ++ zb).map (Value.int .u8)) ∧ Below w.heap.size w w')) := by
    have := rd_at w6 t p q _ x2 T2 F4 HF6.out 1 (by omega) (by omega) 0 15 F4e.out (by decide) (by omega)
    rw [X2.out.2, Nat.sub_zero, List.drop_zero, X2.out.1, ← gr] at this
    refine hid (this.mono ?_)
    rintro e w' ⟨⟨g, c, rfl, h1⟩, _, u⟩
    exact ⟨g, c, rfl, hid ⟨h1, HB6.out.trans (u.bel HB6.out.size (fun y _ hy => by have := HP.out.1; omega))⟩⟩
  clear HF6
  go_wp2_with fail
  refine k7.out.mono ?_
  rintro e w7 ⟨g, c, rfl, H7⟩
  clear k7
  have kc : Hid (Calls Try.prog 20 #[.slice a0 na ca] w7 fun e w' => ∃ ac cc, e = .returned (.slice ac na cc) ∧ Hid (w'.ownsRow w7.heap.size 5 1 (.slice ac na cc) na (za.map (Value.int .u8)) ∧ Below w7.heap.size w7 w')) := by
    cases a0 with
    | none =>
      obtain rfl : na = 0 := by
        rcases Nat.eq_zero_or_pos na with h | h
        · exact h
        · obtain ⟨_, _, e, _⟩ := HA.out.2 h; cases e
      obtain rfl : za = [] := List.eq_nil_of_length_eq_zero HLA.out
      refine hid ((clone_nil 0 ca w7).mono ?_)
      rintro e w' ⟨rfl, rfl⟩
      exact ⟨none, 0, rfl, hid ⟨World.ownsRow_nil _ _ _ _, Below.refl _ _⟩⟩
    | some ad =>
      refine hid ((clone_any ad na ca za w7 (HA.out.below H7.out.2) (by omega)).mono ?_)
      rintro e w' ⟨g, c, rfl, h1, h2⟩
      exact ⟨_, c, rfl, hid ⟨h1, h2⟩⟩
  go_wp2_with fail
  refine kc.out.mono ?_
  rintro e w8 ⟨ac, cc, rfl, H8⟩
  clear kc
  obtain ⟨i0, hi0, hz0, hz1, hz2⟩ := info_parts Try.cinfo5
  have hbw8 : Below w.heap.size w w8 := H7.out.2.trans (H8.out.2.mono H7.out.2.size)
  obtain ⟨v9, w9, hrun, hO9, hG9⟩ := run_append_bytes (P := Try.prog) w8 w7.heap.size 28 28 i0 Try.underlying28 hi0 hz0 hz1 hz2 _ na _ H8.out.1 b0 nb cb zb (HB.out.below hbw8) hnb (by omega) H8.out.2.size
  obtain ⟨a9, c9, rfl⟩ : ∃ a9 c9, v9 = .slice a9 (na + nb) c9 := by
    rcases hO9.2 with ⟨h1, h2⟩ | ⟨g, c, cur, rfl, _⟩
    · exact ⟨none, 0, by rw [h1, h2]⟩
    · exact ⟨_, c, rfl⟩
  have u9 : Upd (fun k => some k = (Value.slice ac na cc).ownBlock) w8 w9 := Upd.of_grown hG9
  have hs9 : Src w9 a9 (na + nb) (za ++ zb) := by
    rw [← List.map_append] at hO9
    rcases hO9.2 with ⟨h1, h2⟩ | ⟨g, c, cur, h1, _⟩
    · refine ⟨by simp [HLA.out, HLB.out], fun h => by omega⟩
    · injection h1 with h1 _ h3
      subst h1
      subst h3
      exact Src.own hO9
  have hs7 : Src w9 (some ⟨g, 0, none⟩) (na + nb) (za ++ zb) := by
    have hO7 := H7.out.1
    rw [gr] at hO7
    refine Src.own (u9.own (own_below hO7 H8.out.2) (fun k hk e => ?_))
    have h1 := (H8.out.1.lt k e.symm).1
    have h2 := (hO7.lt k hk).2
    omega
  have HB9 : Hid (Below w.heap.size w w9) := by
    refine hid (hbw8.trans (u9.bel hbw8.size (fun y _ hy => ?_)))
    have h1 := (H8.out.1.lt y hy.symm).1
    have := H7.out.2.size
    omega
  have ke := hid (equal_yes (some ⟨g, 0, none⟩) a9 (na + nb) c (na + nb) c9 (za ++ zb) w9 hs7 hs9)
  have HRUN := hid hrun
  clear hO9 hG9 u9 hs9 hs7 hbw8 H8 H7 hrun
  go_wp2_with (at_builtin; refine wpList_append_is rfl (.tmp 104) (.tmp 105) 28 rfl _ _ _ _ rfl rfl HRUN.out ?_)
  refine ke.out.mono ?_
  rintro e w10 ⟨rfl, rfl⟩
  go_wp2_with fail
  go_ret
  exact ⟨rfl, HB9.out⟩

end Go.Proofs.Ytdnblbahecpmkaa
