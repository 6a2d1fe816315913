/- What the document's answers (dredgerref01.Put, Signed, Text) do, for every slice of bytes within reach: the same bytes as wire's, in a new row; nothing old turns. -/
import Derived.Test.YtpbhcmfbcnihiaaGreatWritten
import Derived.Test.YtpbhcmfbcnihiaaGreatStrGrow
import Derived.Laws.AppendOwnNone
namespace Go.Proofs.YtpbhcmfbcnihiaaGreat
open Go.RowKit Num
set_option maxRecDepth 20000

/-- 'append(own, b...)' of bytes that lie somewhere, nil or not, onto a row of the call's own that is not nil. -/
theorem wpList_append_src {P : Program} (w : World) {ops : Array Oper} {rest : List Oper} {o : Oper} {a : Act} {Q : Exit → Act → World → Prop}
    (hgd : o.guard = none) (s x : Operand) (t : TypeId) (ho : o.op = .call { callee := .builtin .append, args := #[s, x], argTypes := #[t, t] })
    (base : Nat) (i : TypeInfo) (ht : P.underlying t = some (.slice 5)) (hi : P.info? 5 = some i) (hz : i.zero = some (.int .u8 0)) (hsize : i.size = 1) (hby : i.bytes = 1)
    (g n cap : Nat) (xs : List Value) (hs : a.eval s = .slice (some ⟨g, 0, none⟩) n cap) (hown : w.ownsRow base 5 1 (.slice (some ⟨g, 0, none⟩) n cap) n xs)
    (a0 : Option Addr) (m c : Nat) (zs : List Int) (hx : a.eval x = .slice a0 m c) (hsrc : Src w a0 m zs) (hnil : a0 = none → c = 0) (hb : n + m ≤ 140737488355328) (hbase : base ≤ w.heap.size)
    (hK : ∀ g' c' w', w'.ownsRow base 5 1 (.slice (some ⟨g', 0, none⟩) (n + m) c') (n + m) (xs ++ zs.map (Value.int .u8)) → w.grownBy w' (some g) → wpList P ops Q rest (a.put o.dst (.slice (some ⟨g', 0, none⟩) (n + m) c')) w') :
    wpList P ops Q (o :: rest) a w := by
  cases a0 with
  | none =>
    obtain rfl := hnil rfl
    obtain rfl : m = 0 := by
      rcases Nat.eq_zero_or_pos m with h | h
      · exact h
      · obtain ⟨_, _, e, _⟩ := hsrc.2 h; cases e
    obtain rfl : zs = [] := List.eq_nil_of_length_eq_zero hsrc.1
    refine wpList_append_own_none hgd s x t ho base 5 i 1 ht hi _ n xs hs hown hx ?_
    exact hK g cap w (by simpa using hown) (World.grownBy.refl _ _)
  | some ad =>
    refine wpList_append_own _ hgd s x t ho base 5 i (.int .u8 0) 1 1 ht hi hz hsize hby rfl (by decide) _ n xs hs hown ad m c (zs.map (Value.int .u8)) hx (by simp [hsrc.1]) ?_ (ints_oneCell _ _) (by unfold maxLen; omega) (by omega) hbase ?_
    · intro j u hj
      have hjl : j < zs.length := by have := (List.getElem?_eq_some_iff.1 hj).1; simpa using this
      have hsl := hsrc.1
      obtain ⟨b, o', e, _, hc⟩ := hsrc.2 (by omega)
      obtain rfl := Option.some.inj e
      rw [Addr.add_lit, hc j (by omega), ← hj]
      simp [List.getD, List.getElem?_eq_getElem hjl]
    · intro v' w' o' hg' hn'
      obtain ⟨g', c', rfl⟩ : ∃ g' c', v' = .slice (some ⟨g', 0, none⟩) (n + m) c' := by
        rcases o'.2 with ⟨h, _⟩ | ⟨g', c', _, h, _⟩
        · have := hn'.1 h; simp at this
        · exact ⟨g', c', h⟩
      exact hK g' c' w' o' hg'

theorem ret_u8 (x : Nat) : IntKind.u8.wrap ((x : Int) % 128) = ((x % 128 : Nat) : Int) := by rw [IntKind.wrap_u8']; omega

set_option maxHeartbeats 1000000 in
theorem rput_any (a0 : Option Addr) (len cap : Nat) (n : Int) (N : Nat) (zs : List Int) (w : World) (hs : Src w a0 len zs) (hnil : a0 = none → cap = 0) (hcase : (n < 0 ∧ N = 0) ∨ n = (N : Int)) (hr : len ≤ 140737488351232) (hn : n ≤ 9223372036854775807) :
    Calls Tryz.prog 18 #[.slice a0 len cap, .int .i64 n] w fun e w' => ∃ g c, e = .returned (.slice (some ⟨g, 0, none⟩) (len + (enc N).length) c) ∧
      w'.ownsRow w.heap.size 5 1 (.slice (some ⟨g, 0, none⟩) (len + (enc N).length) c) (len + (enc N).length) ((zs ++ enc N).map (Value.int .u8)) ∧ Below w.heap.size w w' := by
  obtain ⟨i0, hi, hz0, hz1, hz2⟩ := info_parts Tryz.info5
  have hN : N < 9223372036854775808 := by omega
  have HS := hid hs
  clear hs
  have hNb : (N : Int) ≤ 9223372036854775807 := by omega
  obtain ⟨N0, gN⟩ : ∃ N0, N0 = N := ⟨_, rfl⟩
  have HN : N0 < 9223372036854775808 := by omega
  rw [← gN]
  have GN := hid gN
  clear gN
  rcases hcase with ⟨hneg, h0⟩ | h0
  all_goals
    subst h0
    go_enter Tryz.func18, Tryz.ntmps18
    go_wp2_with fail
    go_loopw [1, 5] (fun v gr wr => ∃ (i g c k q : Nat), i ≤ cnt 9 N0 ∧ v = .int .i64 (q : Int) ∧ Hid (q = N0 / 128 ^ (i + 1)) ∧ k ≤ 9 ∧ gr = .slice (some ⟨g, 0, none⟩) k c ∧ Hid (k = i + 1) ∧ Hid (wr.ownsRow w.heap.size 5 1 (.slice (some ⟨g, 0, none⟩) k c) k ((Num.hi N0 i ++ [((N0 % 128 : Nat) : Int)]).map (Value.int .u8))) ∧ Below w.heap.size w wr) (fun v _ _ => (intOf v).toNat)
    case atStart =>
      refine ⟨0, w.heap.size, 1, 1, N0 / 128, Nat.zero_le _, by have := GN.out; first | rfl | (rw [this]; first | rfl | go_num), hid (by simp), by omega, rfl, rfl, ?_, (Below.refl _ _).alloc (Nat.le_refl _) _⟩
      have := World.ownsRow_lit (base := w.heap.size) (e := 5) (size := 1) w #[Value.int .u8 (N0 % 128 : Nat)] 1 (Nat.le_refl _) (by unfold maxLen; omega) rfl
      rw [GN.out] at this ⊢
      simpa [Num.hi, Hid] using this
    case round =>
      obtain ⟨i, g, c, k, q, hic, rfl, Hq, hk9, rfl, Hk, HW, hb⟩ := hrel
      have hc8 := cnt_8 N0 HN
      have hsz := hb.size
      have hg := HW.out.lt g rfl
      have hqb : q ≤ 9223372036854775807 := by rw [Hq.out]; exact Nat.le_trans (Nat.div_le_self _ _) (by omega)
      by_cases hq : 0 < q
      · have hlt : i < cnt 9 N0 := by
          apply cnt_of_gt N0 i HN
          have h1 := Hq.out
          rw [Nat.pow_succ, ← Nat.div_div_eq_div_mul] at h1
          omega
        have hk8 : k ≤ 8 := by have := Hk.out; omega
        obtain ⟨x, gx⟩ : ∃ x : Nat, x = q % 128 + 128 := ⟨_, rfl⟩
        have ex : (q : Int) % 128 + 128 = (x : Int) := by omega
        have hx : x < 256 := by omega
        have hbA : Below wr.heap.size wr (wr.alloc (.cells #[Value.int .u8 (x : Int)] 5)) := (Below.refl _ _).alloc (Nat.le_refl _) _
        have HA := hid (World.ownsRow_lit (base := wr.heap.size) (e := 5) (size := 1) wr #[Value.int .u8 (x : Int)] 1 (Nat.le_refl _) (by unfold maxLen; omega) rfl)
        have HSr := hid ((Src.own HW.out).below hbA)
        have GX := hid gx
        clear gx
        go_wp2_with (at_builtin; go_must (refine wpList_append_src _ rfl (.tmp 22) (.tmp 23) 23 rfl wr.heap.size i0 Tryz.underlying23 hi hz0 hz1 hz2 wr.heap.size 1 1 [Value.int .u8 (x : Int)] rfl HA.out (some ⟨g, 0, none⟩) k c (Num.hi N0 i ++ [((N0 % 128 : Nat) : Int)]) rfl HSr.out (fun h => by cases h) (by omega) (by simp) ?_))
        intro g' c' w' o' hg'
        have hb' : Below w.heap.size w w' := (hb.alloc hsz (.cells #[Value.int .u8 (x : Int)] 5)).grown hg' (by simp; omega) (by intro z hz; simp at hz; omega)
        have HO' : Hid (w'.ownsRow w.heap.size 5 1 (.slice (some ⟨g', 0, none⟩) (1 + k) c') (1 + k) ((Num.hi N0 (i + 1) ++ [((N0 % 128 : Nat) : Int)]).map (Value.int .u8))) := by
          refine own_base ?_ hsz
          rw [Num.hi, ← Hq.out, ← GX.out]
          simpa using o'
        clear o' hg'
        go_wp2_with fail
        go_roundw
        case rel =>
          refine ⟨i + 1, g', c', 1 + k, q / 128, by omega, by first | rfl | go_num, hid ?_, by omega, rfl, hid (by have := Hk.out; omega), HO', hb'⟩
          rw [Nat.pow_succ, ← Nat.div_div_eq_div_mul, ← Hq.out]
        case measure => simp [intOf]; omega
      · obtain rfl : q = 0 := by omega
        have hci : i = cnt 9 N0 := by
          have h1 := Hq.out
          rw [Nat.pow_succ, ← Nat.div_div_eq_div_mul] at h1
          have := cnt_of_le N0 i (by omega)
          omega
        have henc : Num.hi N0 i ++ [((N0 % 128 : Nat) : Int)] = enc N0 := by rw [enc, ← hci]
        have hkl : k = (enc N0).length := by rw [length_enc, ← hci]; exact Hk.out
        have HENC := hid henc
        have HKL := hid hkl
        have hbA : Below wr.heap.size wr (wr.alloc (.cells #[] 5)) := (Below.refl _ _).alloc (Nat.le_refl _) _
        have HA : Hid ((wr.alloc (.cells #[] 5)).ownsRow wr.heap.size 5 1 (.slice (some ⟨wr.heap.size, 0, none⟩) 0 0) 0 []) := World.ownsRow_made wr #[] 0 (Nat.le_refl _) (by unfold maxLen; omega) rfl
        have HSb := hid ((HS.out.below hb).below hbA)
        have HSg := hid ((Src.own HW.out).below hbA)
        clear hci henc hkl
        go_wp2_with (at_builtin; go_must (refine wpList_append_src _ rfl (.tmp 25) (.tmp 26) 23 rfl wr.heap.size i0 Tryz.underlying23 hi hz0 hz1 hz2 wr.heap.size 0 0 [] rfl HA.out a0 len cap zs rfl HSb.out hnil (by omega) (by simp) ?_))
        intro g1 c1 w1 o1 hg1
        have hg1' := hg1
        have hsrc1 : Src w1 (some ⟨g, 0, none⟩) k (Num.hi N0 i ++ [((N0 % 128 : Nat) : Int)]) := by
          refine ⟨HSg.out.1, fun hl => ?_⟩
          obtain ⟨b, o, e, hlt, hc⟩ := HSg.out.2 hl
          simp only [Option.some.injEq, Addr.mk.injEq] at e
          obtain ⟨rfl, rfl, _⟩ := e
          exact ⟨g, 0, rfl, by have := hg1.size; simp at this; omega, fun j hj => hg1.cell (hc j hj) (by simp; omega)⟩
        have HS1 := hid hsrc1
        have hb1 : Below w.heap.size w w1 := (hb.alloc hsz (.cells #[] 5)).grown hg1 (by simp; omega) (by intro z hz; simp at hz; omega)
        have HO1 : Hid (w1.ownsRow wr.heap.size 5 1 (.slice (some ⟨g1, 0, none⟩) len c1) len (zs.map (Value.int .u8))) := by
          show World.ownsRow _ _ _ _ _ _ _
          simpa using o1
        have hlt1 := o1.lt g1 rfl
        clear o1 hg1 hg1' hsrc1
        go_wp2_with (at_builtin; go_must (refine wpList_append_src _ rfl (.tmp 27) (.tmp 28) 23 rfl wr.heap.size i0 Tryz.underlying23 hi hz0 hz1 hz2 g1 len c1 (zs.map (Value.int .u8)) rfl HO1.out (some ⟨g, 0, none⟩) k c (Num.hi N0 i ++ [((N0 % 128 : Nat) : Int)]) rfl HS1.out (fun h => by cases h) (by omega) (by omega) ?_))
        intro g2 c2 w2 o2 hg2
        have hb2 : Below w.heap.size w w2 := hb1.grown hg2 (by have := hb1.size; omega) (by intro z hz; simp at hz; omega)
        have HO2 : Hid (w2.ownsRow w.heap.size 5 1 (.slice (some ⟨g2, 0, none⟩) (len + k) c2) (len + k) ((zs ++ enc N0).map (Value.int .u8))) := by
          refine own_base ?_ hsz
          rw [← HENC.out]
          simpa using o2
        clear o2 hg2
        go_wp2_with fail
        go_ret
        rw [← HKL.out]
        exact ⟨g2, c2, rfl, HO2.out, hb2⟩

end Go.Proofs.YtpbhcmfbcnihiaaGreat
