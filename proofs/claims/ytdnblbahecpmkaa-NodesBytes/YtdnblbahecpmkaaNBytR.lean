/- The road of NodesBytes. -/
import Derived.Test.YtdnblbahecpmkaaNRes
import Derived.Test.YtdnblbahecpmkaaFOne
import Derived.Test.YtdnblbahecpmkaaEqual
import Derived.Test.YtdnblbahecpmkaaZeros2
import Derived.Deep.RegionLaw
import Derived.Test.YtdnblbahecpmkaaNDo
namespace Go.Proofs.Ytdnblbahecpmkaa
open Go.RowKit Go.ChangeMaps Go.MapKept
set_option linter.unusedVariables false

theorem own_take {w : World} {B e n c : Nat} {a : Option Addr} {xs : List Value} (h : w.ownsRow B e 1 (.slice a n c) n xs) (m : Nat) (hm : m ≤ n) : w.ownsRow B e 1 (.slice a m c) m (xs.take m) := by
  obtain ⟨h1, h2⟩ := h
  refine ⟨by simp at h1 ⊢; omega, ?_⟩
  rcases h2 with ⟨q1, q2⟩ | ⟨g, cap, cur, q1, hb, hg, hnc, hcm, hcs, htake⟩
  · injection q1 with r1 r2 r3
    subst r1
    subst r3
    obtain rfl : m = 0 := by omega
    exact .inl ⟨rfl, rfl⟩
  · injection q1 with r1 r2 r3
    subst r1
    subst r3
    refine .inr ⟨g, c, cur, rfl, hb, hg, by omega, hcm, hcs, ?_⟩
    rw [← htake, List.take_take]
    congr 1
    omega

theorem own_slc {w : World} {B e n : Nat} {v : Value} {xs : List Value} (h : w.ownsRow B e 1 v n xs) : ∃ a c, v = .slice a n c ∧ n ≤ c ∧ c ≤ 9223372036854775807 := by
  rcases h.2 with ⟨h1, h2⟩ | ⟨g, c, cur, rfl, _, _, hnc, hcm, _⟩
  · exact ⟨none, 0, by rw [h1, h2], by omega, by omega⟩
  · exact ⟨_, c, rfl, hnc, by simpa [maxLen] using hcm⟩

theorem src_own {w : World} {B n c : Nat} {a : Option Addr} {zs : List Int} (h : w.ownsRow B 5 1 (.slice a n c) n (zs.map (Value.int .u8))) : Src w a n zs := by
  rcases h.2 with ⟨q1, q2⟩ | ⟨g, cap, cur, q1, _⟩
  · have hl := h.1
    simp at hl
    exact ⟨by omega, fun h => by omega⟩
  · injection q1 with r1 r2 r3
    subst r1
    subst r3
    exact Src.own h

theorem splice_take {α : Type} (l ys : List α) (o n : Nat) (h : o + ys.length ≤ n) (hn : n ≤ l.length) : (splice l o ys).take n = splice (l.take n) o ys := by
  have hl : o + ys.length ≤ (l.take n).length := by simp; omega
  apply List.ext_getElem?
  intro j
  rcases Nat.lt_or_ge j n with q | q
  · rw [List.getElem?_take_of_lt q]
    by_cases r : o ≤ j ∧ j < o + ys.length
    · obtain ⟨k, rfl⟩ : ∃ k, j = o + k := ⟨j - o, by omega⟩
      rw [getElem?_splice_in _ _ _ _ (by omega) (by omega), getElem?_splice_in _ _ _ _ hl (by omega)]
    · rw [getElem?_splice_out _ _ _ _ (by omega) (by omega), getElem?_splice_out _ _ _ _ hl (by omega), List.getElem?_take_of_lt q]
  · rw [List.getElem?_eq_none (by simp; omega), List.getElem?_eq_none (by rw [length_splice _ _ _ hl]; simp; omega)]

/-- Bytes of one's own are copied over. -/
theorem own_over {w' : World} {B g n c : Nat} {xs : List Value} (cur : Array Value) (hb : B ≤ g) (hnc : n ≤ c) (hcm : c ≤ maxLen) (hcs : cur.size = c * 1) (htake : cur.toList.take (n * 1) = xs) (o : Nat) (cs : List Value) (h : o + cs.length ≤ n) (hg : w'.heap[g]? = some (.cells (splice cur.toList o cs).toArray 5 (0, 0))) :
    w'.ownsRow B 5 1 (.slice (some ⟨g, 0, none⟩) n c) n (splice xs o cs) := by
  have hcl : cur.toList.length = c := by simp [hcs]
  have hxl : xs.length = n := by rw [← htake]; simp [hcs]; omega
  refine ⟨by rw [length_splice _ _ _ (by omega)]; simp [hxl], .inr ⟨g, c, (splice cur.toList o cs).toArray, rfl, hb, hg, hnc, hcm, ?_, ?_⟩⟩
  · rw [List.size_toArray, length_splice _ _ _ (by omega), hcl]; omega
  · rw [List.toList_toArray, ← htake, Nat.mul_one, splice_take _ _ _ _ h (by omega)]

theorem step_append_is {P : Program} {ops : Array Oper} {o : Oper} {a : Act} {w : World} {K : Act → World → Prop} {Q : Exit → Act → World → Prop} {E : Prop}
    (hg : o.guard = none) (d x : Operand) (dT sT : TypeId) (hop : o.op = Op.call { callee := Callee.builtin Builtin.append, args := #[d, x], argTypes := #[dT, sT] })
    (v u : Value) (hd : a.eval d = v) (hx : a.eval x = u) {v' : Value} {w' : World} (hr : (Builtin.append_ #[dT, sT] o.type #[v, u]).run P w = .ok v' w') (hK : K (a.put o.dst v') w') :
    if Region.wanted o (yielded ops a.tmps) = true then Oper.wp P o a w K Q else E := by
  have hw : Region.wanted o (yielded ops a.tmps) = true := by simp [Region.wanted, hg]
  rw [if_pos hw]
  unfold Oper.wp execOp
  simp only [hop, resolve, invoke, builtin, Sem.run_bind, Sem.run_pure, Result.andThen_ok, List.map_toArray, List.map_cons, List.map_nil, hd, hx, hr]
  exact hK

set_option maxHeartbeats 1000000 in
theorem write_bad (p : Nat) (S : Sg) (w : World) (x : Nd) (T : Nat → Bool) (H : Fil w p S x T) (off : Int) (a : Option Addr) (len c : Nat) (h : off < 0 ∨ (0 ≤ off ∧ 0 < len ∧ (96 < off ∨ 96 - off < (len : Int)))) (hu : off ≤ 9223372036854775807) (hl : -9223372036854775808 ≤ off) :
    Calls Try.prog 10 #[.pointer (some ⟨p, 0, none⟩), .int .i64 2, .int .i64 off, .slice a len c] w fun e w' => (∃ er : Int, e = .returned (.tuple #[.int .i64 0, .int .i64 er]) ∧ er ≠ 0) ∧ w' = w := by
  have k1 := hid (file_yes p (S.bl 2 x T) w H.sy 2 (by omega) (by omega) H.k)
  clear H
  by_cases h0 : off < 0
  · go_enter Try.func10, Try.ntmps10
    go_wp2_with fail
    refine k1.out.mono ?_
    rintro e w1 ⟨rfl, rfl⟩
    go_wp2_with fail
    go_ret2
    exact ⟨⟨22, rfl, by omega⟩, rfl⟩
  · have hln : ¬ (len : Int) = 0 := by omega
    have a6 : IntKind.i64.wrap ((96 : Int) - off) = (96 : Int) - off := by rw [IntKind.wrap_i64]; omega
    by_cases h1 : 96 < off
    · clear h
      go_enter Try.func10, Try.ntmps10
      go_wp2_with fail
      refine k1.out.mono ?_
      rintro e w1 ⟨rfl, rfl⟩
      go_wp2_with fail
      go_ret2
      exact ⟨⟨27, rfl, by omega⟩, rfl⟩
    · have h2 : (96 : Int) - off < (len : Int) := by omega
      clear h
      go_enter Try.func10, Try.ntmps10
      go_wp2_with fail
      refine k1.out.mono ?_
      rintro e w1 ⟨rfl, rfl⟩
      go_wp2_with fail
      go_ret2
      exact ⟨⟨27, rfl, by omega⟩, rfl⟩

/-- What the law goes on: the file, and what it should hold. -/
def Wnt (w0 wr : World) (p B : Nat) (S : Sg) (v : Value) : Prop := ∃ x T, Fil wr p S x T ∧ wr.ownsRow B 5 1 v x.s ((ct x).map (Value.int .u8)) ∧ B ≤ wr.heap.size ∧ Below w0.heap.size w0 wr

theorem Fil.grow {w w' : World} {p : Nat} {S : Sg} {x : Nd} {T : Nat → Bool} (h : Fil w p S x T) (u : Below w.heap.size w w') : Fil w' p S x T := ⟨h.sy.grow u, h.k, h.l, h.s, h.B, h.z, h.m⟩
theorem foot_fil {S : Sg} {x : Nd} {T : Nat → Bool} {p y : Nat} (hm : x.m = none) (h : (S.bl 2 x T).foot p y) : S.foot p y := by
  rcases h with h | ⟨i, hi, e⟩
  · exact .inl h
  · change (updN S.P 2 x i).m = some y at e
    by_cases q : i = 2
    · subst q; rw [updN_same, hm] at e; cases e
    · rw [updN_ne _ _ _ _ q] at e
      exact .inr ⟨i, hi, e⟩

set_option maxHeartbeats 8000000 in
set_option maxRecDepth 20000 in
theorem bytes_road (al : Option Addr) (ll cl : Nat) (w : World) (hd : Dos w al ll) (hll : ll ≤ cl) (hcl : cl ≤ 9223372036854775807) :
    Calls Try.prog 3 #[.slice al ll cl] w fun e w' => e = .returned (.bool true) ∧ Below w.heap.size w w' := by
  have k1 := hid (nnew w)
  have HD := hid hd
  clear hd
  go_enter Try.func3, Try.ntmps3
  go_wp2_with fail
  refine k1.out.mono ?_
  rintro e w1 ⟨rfl, a1, a2, h1, h2⟩
  obtain ⟨p, gp⟩ : ∃ p, p = w.heap.size := ⟨_, rfl⟩
  obtain ⟨m, gm⟩ : ∃ m, m = w.heap.size + 3 := ⟨_, rfl⟩
  rw [← gm, ← gp] at a1
  rw [← gm] at a2
  have hS1 : Sy w1 p (rootG m) := Sy.fresh a1 a2
  have k2 : Hid (Calls Try.prog 8 #[.pointer (some ⟨p, 0, none⟩), .string ⟨#[47, 97]⟩, .int .i64 1] w1 fun e w' => e = .returned (.tuple #[.int .i64 2, .int .i64 0]) ∧ Hid (Fil w' p (oneG m [97]) (newNd 1 none) (fun _ => false) ∧ Below w.heap.size w w')) := by
    have hw := wkS_one (rootG m) ⟨#[47, 97]⟩ [97] rfl ⟨by simp, by simp, by decide⟩ rfl
    have hr : toNew (rootG m).L (wkS (rootG m) ⟨#[47, 97]⟩) = .ok ([1], [97], 0) := by rw [hw]; rfl
    have := make_file p (rootG m) ⟨#[47, 97]⟩ w1 hS1 (rootG_tree m) (by decide) 2 (rootG_free m) (by omega)
    rw [hr] at this
    refine hid (this.mono ?_)
    rintro e w' ⟨rfl, q1, u⟩
    refine ⟨rfl, hid ⟨⟨by rw [oneG_bl]; exact q1, rfl, rfl, by simp [newNd], bok_new, fun j _ => getD_zeros _ _, rfl⟩, h1.trans (u.bel h1.size (fun y _ hy => ?_))⟩⟩
    rcases foot_root m p y hy with h | h <;> omega
  rw [← gp]
  have HG := hid (And.intro gp gm)
  clear k1 a1 a2 h1 h2 hS1 gp gm
  go_wp2_with fail
  refine k2.out.mono ?_
  rintro e w2 ⟨rfl, H2⟩
  clear k2
  obtain ⟨S, gS⟩ : ∃ S, S = oneG m [97] := ⟨_, rfl⟩
  rw [← gS] at H2
  have HSd : Hid (S.d = 0) := by rw [gS]; exact hid rfl
  obtain ⟨B, gB⟩ : ∃ B, B = w2.heap.size := ⟨_, rfl⟩
  have HB : Hid (p < B ∧ w.heap.size ≤ B ∧ ∀ y, S.foot p y → y < B) := by
    refine hid ⟨by rw [gB]; exact H2.out.1.sy.lt, by rw [gB]; exact H2.out.2.size, fun y hy => ?_⟩
    rw [gB]
    refine H2.out.1.sy.foot_lt y ?_
    rw [gS, oneG_bl]
    rw [gS] at hy
    exact hy
  have HI : Hid (Wnt w w2 p B S (.slice none 0 0)) := hid ⟨newNd 1 none, fun _ => false, H2.out.1, World.ownsRow_nil _ _ _ _, by omega, H2.out.2⟩
  clear gS gB H2
  go_wp2_with fail
  go_loopw [6, 25] (fun v6 v25 wr => ∃ j : Nat, j ≤ ll ∧ v25 = .int .i64 (j : Int) ∧ Hid (Wnt w wr p B S v6)) (fun _ v25 _ => ll - (intOf v25).toNat)
  case atStart => exact ⟨0, by omega, rfl, HI⟩
  case round =>
    clear HI
    obtain ⟨j, hjl, rfl, HQ⟩ := hrel
    by_cases ej : j = ll
    · subst ej
      obtain ⟨x, T, hF, hO, hB, hb⟩ := HQ.out
      obtain ⟨a6, c6, hv6, hc1, hc2⟩ := own_slc hO
      obtain ⟨s0, gs⟩ : ∃ s0, s0 = x.s := ⟨_, rfl⟩
      have hl := ct_len hF.b hF.s
      have k3 : Hid (Calls Try.prog 11 #[.pointer (some ⟨p, 0, none⟩), .int .i64 2, .int .i64 0, .int .i64 1000] wr fun e w' => ∃ g c, e = .returned (.tuple #[.slice (some ⟨g, 0, none⟩) s0 c, .int .i64 0]) ∧ Hid (w'.ownsRow wr.heap.size 5 1 (.slice (some ⟨g, 0, none⟩) s0 c) s0 ((ct x).map (Value.int .u8)) ∧ Below wr.heap.size wr w')) := by
        have h96 := hF.s
        have := read_ok p S wr 2 (by omega) (by omega) x T hF.sy hF.k hF.s 0 1000 (by omega) (by omega)
        rw [show min 1000 (x.s - 0) = x.s by omega, show rd x 0 1000 = ct x by unfold rd; rw [List.drop_zero]; exact List.take_of_length_le (by rw [show (x.b.take x.s).length = x.s from hl]; omega)] at this
        rw [gs]
        refine hid (this.mono ?_)
        rintro e w' ⟨⟨g, c, rfl, q1⟩, q2⟩
        exact ⟨g, c, rfl, hid ⟨q1, q2⟩⟩
      have k4 : Hid (∀ W, Hid (Below wr.heap.size wr W) → Calls Try.prog 12 #[.pointer (some ⟨p, 0, none⟩), .int .i64 2] W fun e w' => e = .returned (.tuple #[.agg #[.int .i64 1, .int .i64 1, .int .i64 (s0 : Int)], .int .i64 0]) ∧ Hid (Below W.heap.size W w')) := by
        refine hid (fun W hW => ?_)
        have := stat_file p S W 2 (by omega) (by omega) x T (hF.sy.grow hW.out) hF.k
        rw [hF.l, ← gs] at this
        refine this.mono ?_
        rintro e w' ⟨rfl, q⟩
        exact ⟨rfl, hid q⟩
      rw [← gs] at hO hv6 hl
      rw [hv6] at hO
      have HO := hid hO
      have HBB := hid hb
      have HL := hid hl
      rw [hv6]
      clear hF hO hB hb hl hv6 gs HQ
      go_wp2_with fail
      refine k3.out.mono ?_
      rintro e w3 ⟨g, c, rfl, H3⟩
      have k5 := hid (k4.out w3 (hid H3.out.2))
      clear k3 k4
      go_wp2_with fail
      refine k5.out.mono ?_
      rintro e w4 ⟨rfl, HB4⟩
      clear k5
      have hB5 : Below w3.heap.size w3 (w4.alloc (Obj.cells #[.int .i64 1, .int .i64 1, .int .i64 (s0 : Int)] 36)) := HB4.out.trans ((one_new w4 _).mono HB4.out.size)
      have ke := hid (equal_yes (some ⟨g, 0, none⟩) a6 s0 c s0 c6 (ct x) _ (src_own (own_below H3.out.1 hB5)) (src_own (own_below (own_below HO.out H3.out.2) hB5)))
      have HBF : Hid (Below w.heap.size w (w4.alloc (Obj.cells #[.int .i64 1, .int .i64 1, .int .i64 (s0 : Int)] 36))) := hid ((HBB.out.trans (H3.out.2.mono HBB.out.size)).trans (hB5.mono (Nat.le_trans HBB.out.size H3.out.2.size)))
      clear hB5
      go_wp2_with fail
      refine ke.out.mono ?_
      rintro e w5 ⟨rfl, rfl⟩
      clear ke
      go_wp2_with fail
      go_ret
      exact ⟨rfl, HBF.out⟩
    · have hj : j < ll := by omega
      have hj2 : (j : Int) < (ll : Int) := by omega
      have hj0 : (0 : Int) ≤ (j : Int) := by omega
      obtain ⟨x, T, hF, hO, hB, hb⟩ := HQ.out
      obtain ⟨a6, c6, hv6, hc1, hc2⟩ := own_slc hO
      obtain ⟨s0, gs⟩ : ∃ s0, s0 = x.s := ⟨_, rfl⟩
      rw [hv6, ← gs] at hO
      rw [hv6, ← gs]
      obtain ⟨bb, oo, rfl, hat⟩ := HD.out (by omega)
      obtain ⟨x0, x1, x2, x3, t4, t5, ab, lb, cb, zs, D0⟩ := hat j hj
      have D := D0.below hb
      have c0 := D.c0
      have c1 := D.c1
      have c2 := D.c2
      have c3 := D.c3
      have c4 := D.c4
      have c5 := D.c5
      have c6' := D.c6
      obtain ⟨W1, g1⟩ : ∃ W1, W1 = wr.alloc (Obj.cells #[.int .i64 x0, .int .i64 x1, .int .i64 x2, .int .i64 x3, .string t4, .string t5, .slice ab lb cb] 30) := ⟨_, rfl⟩
      have b1 : Below wr.heap.size wr W1 := by rw [g1]; exact one_new _ _
      have s1 : W1.heap.size = wr.heap.size + 1 := by rw [g1]; simp
      have r1 : W1.heap[wr.heap.size]? = some (.cells #[.int .i64 x0, .int .i64 x1, .int .i64 x2, .int .i64 x3, .string t4, .string t5, .slice ab lb cb] 30 (0, 0)) := by rw [g1]; exact heap_alloc_new _ _
      have d2 : W1.cell? ⟨wr.heap.size, 2, none⟩ = some (.int .i64 x2) := by rw [cell_of_row W1 _ 2 _ _ _ r1]; rfl
      have d3 : W1.cell? ⟨wr.heap.size, 3, none⟩ = some (.int .i64 x3) := by rw [cell_of_row W1 _ 3 _ _ _ r1]; rfl
      have d6 : W1.cell? ⟨wr.heap.size, 6, none⟩ = some (.slice ab lb cb) := by rw [cell_of_row W1 _ 6 _ _ _ r1]; rfl
      have hF1 : Fil W1 p S x T := hF.grow b1
      have hO1 := own_below hO b1
      have hB1 : Below w.heap.size w W1 := hb.trans (b1.mono hb.size)
      have hsrc1 := D.src.below b1
      have GS := hid gs
      have HW1 : Hid (Fil W1 p S x T ∧ W1.ownsRow B 5 1 (.slice a6 s0 c6) s0 ((ct x).map (Value.int .u8)) ∧ Below w.heap.size w W1 ∧ Src W1 ab lb zs ∧ B ≤ wr.heap.size ∧ W1.heap.size = wr.heap.size + 1 ∧ (∀ k, some k = (Value.slice a6 s0 c6).ownBlock → B ≤ k ∧ k < wr.heap.size) ∧ W1.heap[wr.heap.size]? = some (.cells #[.int .i64 x0, .int .i64 x1, .int .i64 x2, .int .i64 x3, .string t4, .string t5, .slice ab lb cb] 30 (0, 0))) := hid ⟨hF1, hO1, hB1, hsrc1, hB, s1, fun k hk => hO.lt k hk.symm, r1⟩
      have HD0 := hid D0
      obtain ⟨i0, hi0, hz0, hz1, hz2⟩ := info_parts Try.cinfo5
      clear HQ hF hO hB hb hat D b1 s1 r1 hF1 hO1 hB1 hsrc1 hv6 gs
      by_cases hm : (x0.tmod 4 == 0) = true
      · by_cases hz : x3 < 0 ∨ 96 < x3
        · have k3 := hid (resize_bad p S W1 x T HW1.out.1 x3 hz)
          clear hz
          go_wp2_with fail
          rw [← g1]
          refine k3.out.mono ?_
          rintro e w3 ⟨⟨er, rfl, her⟩, rfl⟩
          have her' : ¬ er = 0 := her
          have HQ3 : Hid (Wnt w w3 p B S (.slice a6 s0 c6)) := hid ⟨x, T, HW1.out.1, by rw [← GS.out]; exact HW1.out.2.1, by have := HW1.out.2.2.2.2; omega, HW1.out.2.2.1⟩
          clear k3 her g1 d2 d3 d6 c0 c1 c2 c3 c4 c5 c6'
          go_wp2_with fail
          go_roundw
          case rel => exact ⟨j + 1, by omega, by go_num, HQ3⟩
          case measure => simp [intOf]; omega
        · obtain ⟨z, rfl⟩ : ∃ z : Nat, x3 = (z : Int) := ⟨x3.toNat, by omega⟩
          have hz96 : z ≤ 96 := by omega
          have k3 := hid (resize_ok p S W1 x T HW1.out.1 HSd.out z hz96)
          clear hz
          go_wp2_with fail
          rw [← g1]
          refine k3.out.mono ?_
          rintro e w3 ⟨rfl, ⟨x', T', hF3, hs3, hct⟩, u3⟩
          clear k3 g1 d2 d6 c0 c1 c2 c3 c4 c5 c6'
          have hpB := HB.out.1
          obtain ⟨_, hO1, hB1, _, hBr, hs1, hnb, hr1⟩ := HW1.out
          have hO3 : w3.ownsRow B 5 1 (.slice a6 s0 c6) s0 ((ct x).map (Value.int .u8)) := u3.own hO1 (fun k hk e => by have := (hO1.lt k hk).1; omega)
          have d4 : w3.cell? ⟨wr.heap.size, 3, none⟩ = some (.int .i64 (z : Int)) := (World.cell?_of_block (a := ⟨wr.heap.size, 3, none⟩) (u3.block wr.heap.size (by omega) (by omega))).trans d3
          have hs0 : s0 ≤ 96 := by rw [GS.out]; exact HW1.out.1.s
          have hmx : max (0 : Int) ((z : Int) - (s0 : Int)) = ((z - s0 : Nat) : Int) := by omega
          have hwr : IntKind.i64.wrap ((z : Int) - (s0 : Int)) = (z : Int) - (s0 : Int) := by rw [IntKind.wrap_i64]; omega
          obtain ⟨vz, wz, hrz, hoz, huz⟩ := run_append_zeros2 w3.drew 28 3 28 .i64 i0 Try.underlying28 Try.underlying3 hi0 hz0 hz1 hz2 B _ s0 _ (show w3.drew.ownsRow B 5 1 _ s0 _ from hO3) (by show B ≤ w3.heap.size; have := u3.size; omega) (z - s0) (by omega) _ rfl
          obtain ⟨az, cz, rfl, hcz1, hcz2⟩ := own_slc hoz
          have d5 : wz.cell? ⟨wr.heap.size, 3, none⟩ = some (.int .i64 (z : Int)) := (World.cell?_of_block (a := ⟨wr.heap.size, 3, none⟩) (huz.block wr.heap.size (by show wr.heap.size < w3.heap.size; have := u3.size; omega) (fun e => by have := (hnb _ e).2; omega))).trans d4
          have i1 : (0 : Int) ≤ (z : Int) := by omega
          have i2 : (z : Int) ≤ (cz : Int) := by omega
          have i3 : ¬ (z : Int) < 0 := by omega
          have i4 : ¬ (1048576 : Int) < (z : Int) := by omega
          have HQz : Hid (Wnt w wz p B S (.slice az z cz)) := by
            have hs3z := u3.size
            refine hid ⟨x', T', ⟨(hF3.sy.hp (w' := w3.drew) rfl).upd huz (fun y hy e => ?_), hF3.k, hF3.l, hF3.s, hF3.B, hF3.z, hF3.m⟩, ?_, ?_, ?_⟩
            · have h1 := (hnb y e).1
              have h2 := HB.out.2.2 y (foot_fil hF3.m hy)
              omega
            · have h5 := own_take hoz z (by omega)
              rw [hs3, hct, ← GS.out]
              rw [← List.map_replicate (f := Value.int .u8) (a := (0 : Int)), ← List.map_append, ← List.map_take] at h5
              exact h5
            · have := huz.size
              have h6 : w3.drew.heap.size = w3.heap.size := rfl
              omega
            · have hbw := hB1.size
              have hb3 : Below w.heap.size w w3 := hB1.trans (u3.bel hbw (fun y _ hy => by have := HG.out.1; omega))
              refine hb3.drew.trans (huz.bel (by show w.heap.size ≤ w3.heap.size; exact hb3.size) (fun y _ hy => ?_))
              have h1 := (hnb y hy).1
              have := HB.out.2.1
              omega
          clear hF3 hs3 hct u3 hO1 hB1 hBr hs1 hnb hr1 hO3 hoz huz HW1 HD0 hpB
          go_wp2_with fail
          go_region_law (refine step_append_is (by rfl) _ _ 28 3 (by rfl) _ _ (by simp [Act.eval]) (by simp [Act.eval]) hrz ?_)
          all_goals go_wp2_with fail
          all_goals
            go_roundw
            case rel => exact ⟨j + 1, by omega, by go_num, HQz⟩
            case measure => simp [intOf]; omega
      · have hm' : (x0.tmod 4 == 0) = false := by simpa using hm
        clear hm
        by_cases hbad : x2 < 0 ∨ (0 ≤ x2 ∧ 0 < lb ∧ (96 < x2 ∨ 96 - x2 < (lb : Int)))
        · have k3 := hid (write_bad p S W1 x T HW1.out.1 x2 ab lb cb hbad HD0.out.b2.2 HD0.out.b2.1)
          clear hbad
          go_wp2_with fail
          rw [← g1]
          refine k3.out.mono ?_
          rintro e w3 ⟨⟨er, rfl, her⟩, rfl⟩
          have her' : ¬ er = 0 := her
          have HQ3 : Hid (Wnt w w3 p B S (.slice a6 s0 c6)) := hid ⟨x, T, HW1.out.1, by rw [← GS.out]; exact HW1.out.2.1, by have := HW1.out.2.2.2.2; omega, HW1.out.2.2.1⟩
          clear k3 her g1 d2 d3 d6 c0 c1 c2 c3 c4 c5 c6'
          go_wp2_with fail
          go_roundw
          case rel => exact ⟨j + 1, by omega, by go_num, HQ3⟩
          case measure => simp [intOf]; omega
        obtain ⟨off, rfl⟩ : ∃ off : Nat, x2 = (off : Int) := ⟨x2.toNat, by omega⟩
        by_cases hl0 : lb = 0
        · subst hl0
          have k3 := hid (write_nil p S W1 2 (by omega) (by omega) x T HW1.out.1.sy HW1.out.1.k off cb ab)
          clear hbad
          go_wp2_with fail
          rw [← g1]
          refine k3.out.mono ?_
          rintro e w3 ⟨rfl, rfl⟩
          have HQ3 : Hid (Wnt w w3 p B S (.slice a6 s0 c6)) := hid ⟨x, T, HW1.out.1, by rw [← GS.out]; exact HW1.out.2.1, by have := HW1.out.2.2.2.2; omega, HW1.out.2.2.1⟩
          clear k3 g1 d2 d3 d6 c0 c1 c2 c3 c4 c5 c6'
          go_wp2_with fail
          go_roundw
          case rel => exact ⟨j + 1, by omega, by go_num, HQ3⟩
          case measure => simp [intOf]; omega
        · have hz96 : off + lb ≤ 96 := by omega
          have h0 : 0 < lb := by omega
          clear hbad
          have hsz := HD0.out.src.1
          obtain ⟨sb, so, rfl, hsb, hsc⟩ := HD0.out.src.2 h0
          have k3 := hid (write_any p S W1 2 (by omega) (by omega) x T HW1.out.1.sy HW1.out.1.k HW1.out.1.s HW1.out.1.B off lb cb (some ⟨sb, so, none⟩) zs HW1.out.2.2.2.1 (fun b o e _ => by
            injection e with e
            injection e with e1 _
            have := HG.out.1
            omega) hz96)
          have i0' : ¬ (lb : Int) = 0 := by omega
          have i1 : (0 : Int) < (lb : Int) := by omega
          have i3 : ¬ (off : Int) < 0 := by omega
          have i4 : ¬ (1048576 : Int) < (off : Int) := by omega
          have i5 : ¬ (1048576 : Int) < (lb : Int) := by omega
          go_wp2_with fail
          rw [← g1]
          refine k3.out.mono ?_
          rintro e w3 ⟨rfl, ⟨B', T', hS3, hK3⟩, u3⟩
          clear k3 g1 d3 d6 c0 c1 c2 c3 c4 c5 c6'
          have hpB := HB.out.1
          obtain ⟨hF1, hO1, hB1, _, hBr, hs1, hnb, hr1⟩ := HW1.out
          obtain ⟨e1, e2, e3⟩ := ct_wrote hF1.b hF1.s hF1.z off zs B' (by omega) (by omega)
          rw [hsz] at e1 e3
          have hO3 : w3.ownsRow B 5 1 (.slice a6 s0 c6) s0 ((ct x).map (Value.int .u8)) := u3.own hO1 (fun k hk e => by have := (hO1.lt k hk).1; omega)
          have d4 : w3.cell? ⟨wr.heap.size, 2, none⟩ = some (.int .i64 (off : Int)) := (World.cell?_of_block (a := ⟨wr.heap.size, 2, none⟩) (u3.block wr.heap.size (by omega) (by omega))).trans d2
          have hs0 : s0 ≤ 96 := by rw [GS.out]; exact hF1.s
          obtain ⟨K, gK⟩ : ∃ K, K = off + lb - s0 := ⟨_, rfl⟩
          have w1 : IntKind.i64.wrap ((off : Int) + (lb : Int)) = (off : Int) + (lb : Int) := by rw [IntKind.wrap_i64]; omega
          have w2' : IntKind.i64.wrap ((off : Int) + (lb : Int) - (s0 : Int)) = (off : Int) + (lb : Int) - (s0 : Int) := by rw [IntKind.wrap_i64]; omega
          have hmx : max (0 : Int) ((off : Int) + (lb : Int) - (s0 : Int)) = (K : Int) := by omega
          obtain ⟨vz, wz, hrz, hoz, huz⟩ := run_append_zeros2 w3 28 3 28 .i64 i0 Try.underlying28 Try.underlying3 hi0 hz0 hz1 hz2 B _ s0 _ hO3 (by have := u3.size; omega) K (by omega) _ rfl
          obtain ⟨n2, gn2⟩ : ∃ n2, n2 = s0 + K := ⟨_, rfl⟩
          rw [← gn2] at hoz
          have hn2 : n2 = max s0 (off + lb) := by omega
          obtain ⟨g, cz, cur, rfl, hgB, hg, hcz1, hcz2, hcs, htk⟩ : ∃ g cz cur, vz = .slice (some ⟨g, 0, none⟩) n2 cz ∧ B ≤ g ∧ wz.heap[g]? = some (.cells cur 5 (0, 0)) ∧ n2 ≤ cz ∧ cz ≤ maxLen ∧ cur.size = cz * 1 ∧ cur.toList.take (n2 * 1) = ((ct x).map (Value.int .u8)) ++ List.replicate K (Value.int .u8 0) := by
            rcases hoz.2 with ⟨_, h⟩ | ⟨g, c, cur, q1, q2, q3, q4, q5, q6, q7⟩
            · omega
            · exact ⟨g, c, cur, q1, q2, q3, q4, q5, q6, q7⟩
          have d5 : wz.cell? ⟨wr.heap.size, 2, none⟩ = some (.int .i64 (off : Int)) := (World.cell?_of_block (a := ⟨wr.heap.size, 2, none⟩) (huz.block wr.heap.size (by have := u3.size; omega) (fun e => by have := (hnb _ e).2; omega))).trans d4
          have hbw := hB1.size
          have hb3 : Below w.heap.size w w3 := hB1.trans (u3.bel hbw (fun y _ hy => by have := HG.out.1; omega))
          have hbz : Below w.heap.size w wz := hb3.trans (huz.bel hb3.size (fun y _ hy => by have := (hnb y hy).1; have := HB.out.2.1; omega))
          have HSC : Hid (∀ j v, (zs.map (Value.int .u8))[j]? = some v → wz.cell? ((⟨sb, so, none⟩ : Addr).add j) = some v) := by
            refine hid (fun j v hv => ?_)
            have hj : j < lb := by
              rcases Nat.lt_or_ge j lb with h | h
              · exact h
              · rw [List.getElem?_eq_none (by simp; omega)] at hv; simp at hv
            rw [List.getElem?_map, List.getElem?_eq_getElem (by omega)] at hv
            simp only [Option.map_some, Option.some.injEq] at hv
            have := (hbz.cell (p := ⟨sb, so + j, none⟩) hsb).trans (hsc j hj)
            rw [List.getD_eq_getElem?_getD, List.getElem?_eq_getElem (by omega)] at this
            rw [← hv, Addr.add_lit]
            exact this
          have HQ5 : Hid (∀ w5, w5.heap[g]? = some (.cells (splice cur.toList off (zs.map (Value.int .u8))).toArray 5 (0, 0)) → Upd (· = g) wz w5 → Wnt w w5 p B S (.slice (some ⟨g, 0, none⟩) n2 cz)) := by
            refine hid (fun w5 hh u5 => ⟨wrote x off zs B', T', ⟨(hS3.upd huz (fun y hy e => ?_)).upd u5 (fun y hy e => ?_), hF1.k, hF1.l, ?_, hK3, e2, hF1.m⟩, ?_, ?_, ?_⟩)
            · have h1 := (hnb y e).1
              have h2 := HB.out.2.2 y (foot_fil (x := wrote x off zs B') hF1.m hy)
              omega
            · have h2 := HB.out.2.2 y (foot_fil (x := wrote x off zs B') hF1.m hy)
              omega
            · rw [e3, ← GS.out]; omega
            · have h5 := own_over (w' := w5) cur hgB hcz1 hcz2 hcs htk off (zs.map (Value.int .u8)) (by simp; omega) hh
              rw [e3, ← GS.out, ← hn2]
              have e5 : (ct (wrote x off zs B')).map (Value.int .u8) = splice ((ct x).map (Value.int .u8) ++ List.replicate K (Value.int .u8 0)) off (zs.map (Value.int .u8)) := by
                rw [e1, ← GS.out, ← gK]
                simp [splice, List.map_append, List.map_take, List.map_drop]
              rw [e5]
              exact h5
            · have := u5.size
              have := huz.size
              have := u3.size
              omega
            · exact hbz.trans (u5.bel hbz.size (fun y _ hy => by have := HB.out.2.1; omega))
          have i7 : (0 : Int) ≤ (off : Int) := by omega
          have i8 : (off : Int) ≤ (n2 : Int) := by omega
          have i9 : (n2 : Int) ≤ (cz : Int) := by omega
          have i10 : ¬ cz = off := by omega
          have HG5 : Hid (wz.heap[g]? = some (.cells cur.toList.toArray 5 (0, 0)) ∧ off + lb ≤ cur.toList.length ∧ lb ≤ n2 - off) := hid ⟨by simpa using hg, by simp [hcs]; omega, by omega⟩
          have HRZ := hid hrz
          have HLZ := hid hsz
          clear hS3 hK3 u3 hF1 hO1 hB1 hBr hs1 hnb hr1 e1 e2 e3 hO3 hoz huz hrz hg hcs htk hbw hb3 hbz HW1 HD0 hsc gK gn2 hn2 hsz
          go_wp2_with (first
            | (at_builtin; refine Lib.wpList_append_run _ rfl (.tmp 89) (.tmp 98) 28 3 rfl _ _ rfl rfl _ _ HRZ.out ?_)
            | (refine wpList_copy2 rfl (.tmp 103) (.tmp 104) 28 28 rfl 5 1 Try.underlying28 csize5 _ _ _ ⟨sb, so, none⟩ lb cb rfl rfl lb g off ?_ ?_ cur.toList 5 HG5.out.1 (zs.map (Value.int .u8)) (by simp [HLZ.out]) HSC.out (by have := HG5.out.2.1; simp [HLZ.out]; omega) (fun v hv => by obtain ⟨z, _, rfl⟩ := List.mem_map.1 hv; rfl) ?_))
          case refine_1 => exact (Nat.min_eq_left HG5.out.2.2).symm
          case refine_2 => rfl
          intro w5 hh u5
          have HQ6 := hid (HQ5.out w5 hh.out u5)
          clear HQ5 HSC HG5 HRZ HLZ hh u5
          go_wp2_with fail
          go_roundw
          case rel => exact ⟨j + 1, by omega, by go_num, HQ6⟩
          case measure => simp [intOf]; omega

end Go.Proofs.Ytdnblbahecpmkaa
