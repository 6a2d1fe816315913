/- Texts of this seat, merged. -/
import Derived.Test.YtliekndkjjaldaaGreatNMg13

/- The document's drop of a name. -/
namespace Go.Proofs.YtliekndkjjaldaaGreat
open Go.RowKit
set_option linter.unusedVariables false
set_option maxRecDepth 20000

/-- The document's system afterwards: what it owns is what it owned, or new. -/
def RfTo (w : World) (x g u : Nat) (V : Nat → Value) (F' : Fs) (w' : World) : Prop := ∃ V', Rf w' x g u V' F' ∧ Upd (RfFoot x g u V) w w' ∧ ∀ b, RfFoot x g u V' b → RfFoot x g u V b ∨ w.heap.size ≤ b
theorem Rf.same {w w' : World} {x g u : Nat} {V : Nat → Value} {F : Fs} (H : Rf w x g u V F) (hb : Below w.heap.size w w') : RfTo w x g u V F w' := ⟨V, H.grow hb, Upd.of_below hb, fun b h => .inl h⟩
theorem RfTo.trans {w w1 w2 : World} {x g u : Nat} {V V1 : Nat → Value} {F2 : Fs} (hU : Upd (RfFoot x g u V) w w1) (hV : ∀ b, RfFoot x g u V1 b → RfFoot x g u V b ∨ w.heap.size ≤ b) (h : RfTo w1 x g u V1 F2 w2) : RfTo w x g u V F2 w2 := by
  obtain ⟨V2, h1, h2, h3⟩ := h
  refine ⟨V2, h1, hU.trans h2 (fun b hb h => ?_), fun b h => ?_⟩
  · rcases hV b h with q | q
    · exact q
    · omega
  · rcases h3 b h with q | q
    · exact hV b q
    · exact .inr (Nat.le_trans hU.size q)

theorem Rf.frz {w : World} {x g u : Nat} {V : Nat → Value} {F : Fs} (H : Rf w x g u V F) (j : Nat) : w.frozen? ⟨g, j, none⟩ = false := by
  obtain ⟨C, h1, _⟩ := H.nds
  simp [World.frozen?, h1]
theorem Rf.lts {w : World} {x g u : Nat} {V : Nat → Value} {F : Fs} (H : Rf w x g u V F) : x < w.heap.size ∧ g < w.heap.size ∧ u < w.heap.size := ⟨H.foot_lt x (.inl rfl), H.foot_lt g (.inr (.inl rfl)), H.foot_lt u (.inr (.inr (.inl rfl)))⟩

theorem Rf.names_to {w w6 : World} {x g u : Nat} {V : Nat → Value} {F : Fs} (H : Rf w x g u V F) (n : Nat) (hn : n < 17) (Q : List (List UInt8 × Nat)) (v : Value) (hB : Below w.heap.size w w6) (hO : w6.ownsRow w.heap.size 119 2 v Q.length (nmC Q)) :
    RfTo w x g u V (F.nq n Q) (w6.setCell ⟨g, n * 6 + 5, none⟩ v) := by
  refine ⟨_, H.names n hn Q v hB hO, (Upd.of_below hB).trans (Upd.setCell (F := RfFoot x g u V) w6 ⟨g, n * 6 + 5, none⟩ v (.inr (.inl rfl))) (fun b _ h => h), fun b hb => ?_⟩
  rcases hb with h | h | h | ⟨i, hi, h⟩
  · exact .inl (.inl h)
  · exact .inl (.inr (.inl h))
  · exact .inl (.inr (.inr (.inl h)))
  · by_cases e : i = n * 3 + 2
    · subst e
      rw [setV_same] at h
      exact .inr (own_ge hO b h)
    · rw [setV_ne _ _ _ _ e] at h
      exact .inl (.inr (.inr (.inr ⟨i, hi, h⟩)))

theorem nmC_app : ∀ (a b : List (List UInt8 × Nat)), nmC (a ++ b) = nmC a ++ nmC b
  | [], b => rfl
  | x :: r, b => by simp [nmC, nmC_app r b]

theorem cell_two2 (w : World) (o : Obj) (u v : Value) (ty : TypeId) : ∀ j x, ([u, v] : List Value)[j]? = some x → ((w.alloc o).alloc (.cells #[u, v] ty)).cell? ((⟨w.heap.size + 1, 0, none⟩ : Addr).add j) = some x := by
  have h := cell_two (w.alloc o) u v ty
  rwa [show (w.alloc o).heap.size = w.heap.size + 1 by simp] at h

set_option maxHeartbeats 4000000 in
theorem rdropn_any (x g u : Nat) (V : Nat → Value) (F : Fs) (w : World) (H : Rf w x g u V F) (n : Nat) (hn : n < 17) (hq6 : (F.P n).Q.length ≤ 6) (t : ByteArray) :
    Calls Tryz.prog 67 #[.pointer (some ⟨x, 0, none⟩), .int .i64 (n : Int), .string t] w fun e w' => e = .returned (.tuple #[]) ∧ RfTo w x g u V (F.deln n (bl t)) w' := by
  obtain ⟨i0, hi0, hz0, hz1, hz2⟩ := info_parts infoNm
  have c0 := H.c0
  have c1 := H.q n hn
  have HLT := hid H.lts
  have n0 : (0 : Int) ≤ (n : Int) := by omega
  have n1 : (n : Int) < 17 := by omega
  obtain ⟨Q, gQ⟩ : ∃ Q, Q = (F.P n).Q := ⟨_, rfl⟩
  have hQ := H.rQ n hn
  rw [← gQ] at hQ hq6
  have HD : Hid (F.deln n (bl t) = F.nq n (del (bl t) Q)) := hid (by rw [gQ]; rfl)
  rw [HD.out]
  obtain ⟨a, c, eV, hnc, hcm, hcell⟩ := own_shp hQ
  rw [eV] at c1
  obtain ⟨L, gL⟩ : ∃ L, L = Q.length := ⟨_, rfl⟩
  rw [← gL] at c1 hcell hnc hq6
  have GL := hid gL
  have HC := hid hcell
  have HR := hid H
  clear H gQ hQ hcell gL eV
  go_enter Tryz.func67, Tryz.ntmps67
  go_wp2_with fail
  go_loopw [6, 18] (fun v6 v18 wr => ∃ (j k : Nat) (a' : Option Addr) (c' : Nat) (acc : List (List UInt8 × Nat)), j ≤ L ∧ k ≤ j ∧ v18 = .int .i64 (j : Int) ∧ v6 = .slice a' k c' ∧ Hid (acc.length = k) ∧ Hid (wr.ownsRow w.heap.size 119 2 (.slice a' k c') k (nmC acc)) ∧ Hid (Below w.heap.size w wr) ∧ Hid (del (bl t) Q = acc ++ del (bl t) (Q.drop j))) (fun _ v18 _ => L - (intOf v18).toNat)
  case atStart => exact ⟨0, 0, none, 0, [], Nat.zero_le _, Nat.le_refl _, rfl, rfl, hid rfl, hid (World.ownsRow_nil _ _ _ _), hid (Below.refl _ _), hid rfl⟩
  case round =>
    obtain ⟨j, k, a', c', acc, hj, hk, rfl, rfl, HK, HO, HB, HN⟩ := hrel
    have HBs := HB.out.size
    by_cases hlt : j < L
    · have hj2 : (j : Int) < (L : Int) := by omega
      have hj0 : (0 : Int) ≤ (j : Int) := by omega
      have hj3 : j + 1 ≤ L := hlt
      have hjQ : j < Q.length := by rw [← GL.out]; exact hlt
      obtain ⟨q, rfl, _, hqs, hcc⟩ := HC.out (by omega)
      obtain ⟨y1, y2⟩ := nmC_at Q j hjQ
      have d1 := (HB.out.cell (p := ⟨q, j * 2, none⟩) hqs).trans (hcc _ _ y1)
      have d2 := (HB.out.cell (p := ⟨q, j * 2 + 1, none⟩) hqs).trans (hcc _ _ y2)
      have hs := bs_eq Q[j].1 t
      have hdr : Q.drop j = Q[j] :: Q.drop (j + 1) := List.drop_eq_getElem_cons hjQ
      have HY : Hid (Q[j].1 = bl t → del (bl t) Q = acc ++ del (bl t) (Q.drop (j + 1))) := hid (fun h => by
        rw [HN.out, hdr]; unfold del; rw [List.filter_cons_of_neg (by simp [h])])
      have HZ : Hid (Q[j].1 ≠ bl t → del (bl t) Q = (acc ++ [Q[j]]) ++ del (bl t) (Q.drop (j + 1))) := hid (fun h => by
        rw [HN.out, hdr]; unfold del; rw [List.filter_cons_of_pos (by simp [h])]; simp)
      have HC2 : Hid (nmC (acc ++ [Q[j]]) = nmC acc ++ [.string (bs Q[j].1), .int .i64 (Q[j].2 : Int)]) := hid (by rw [nmC_app]; rfl)
      have HC3 : Hid ((acc ++ [Q[j]]).length = k + 1) := hid (by simp [HK.out])
      have HZ2 : Hid (∃ yj, yj = Q[j]) := hid ⟨_, rfl⟩
      generalize bs Q[j].1 = sj at d1 hs HC2
      generalize Q[j].2 = mj at d2 HC2
      by_cases hh : Q[j].1 = bl t
      · rw [show decide (Q[j].1 = bl t) = true by simp [hh]] at hs
        have hs2 : (!(sj.toList == t.toList)) = false := by rw [hs]; rfl
        have HR2 := hid (HY.out hh)
        clear hcc y1 y2 hh HY HZ hs hdr HC2 HC3 HZ2
        go_wp2_with fail
        go_roundw
        case rel => exact ⟨j + 1, k, a', c', acc, hj3, by omega, by go_num, rfl, HK, hid (HO.out.alloc _), hid (HB.out.alloc HBs _), HR2⟩
        case measure => simp [intOf]; omega
      · rw [show decide (Q[j].1 = bl t) = false by simp [hh]] at hs
        have hs2 : (!(sj.toList == t.toList)) = true := by rw [hs]; rfl
        have HR2 := hid (HZ.out hh)
        generalize acc ++ [Q[j]] = acc2 at HR2 HC2 HC3
        clear hcc y1 y2 hh HY HZ hs hdr HZ2
        go_wp2_with (at_builtin; go_must (refine wpList_append_own _ rfl (.tmp 26) (.tmp 28) 64 rfl w.heap.size 119 i0 _ 2 24 Tryz.underlying64 hi0 hz0 hz1 hz2 rfl (by decide) _ k (nmC acc) rfl ((HO.out.alloc _).alloc _) ⟨_, 0, none⟩ 1 1 [.string sj, .int .i64 mj] rfl rfl (cell_two2 _ _ _ _ _) (by simp [Value.oneCell']) (by unfold maxLen; omega) (by omega) (by simp; omega) ?_))
        intro v' w6 hO hG hN
        have hbel : Below w.heap.size w w6 := ((HB.out.alloc HBs _).alloc (by simp; omega) (.cells #[.string sj, .int .i64 mj] 119)).grown hG (by simp; omega) (fun x hx => (HO.out.lt x hx).1)
        obtain ⟨va, vc, rfl⟩ : ∃ va vc, v' = .slice va (k + 1) vc := by
          rcases hO.2 with ⟨h1, h2⟩ | ⟨g, c, cur, rfl, _⟩
          · omega
          · exact ⟨_, c, rfl⟩
        rw [← HC2.out] at hO
        have HO2 := hid hO
        have HB2 := hid hbel
        clear hO hG hN hbel HO HB
        go_wp2_with fail
        go_roundw
        case rel => exact ⟨j + 1, k + 1, va, vc, acc2, hj3, by omega, by go_num, rfl, HC3, HO2, HB2, HR2⟩
        case measure => simp [intOf]; omega
    · have hj2 : ¬ (j : Int) < (L : Int) := by omega
      have e : del (bl t) Q = acc := by
        have h := HN.out
        rw [List.drop_of_length_le (by have := GL.out; omega)] at h
        simpa [del] using h
      have d0 := (HB.out.cell (p := ⟨x, 0, none⟩) HLT.out.1).trans c0
      have d1 := (HB.out.cell (p := ⟨g, n * 6 + 5, none⟩) HLT.out.2.1).trans c1
      have d2 := (HR.out.grow HB.out).frz (n * 6 + 5)
      have HT : Hid (RfTo w x g u V (F.nq n (del (bl t) Q)) (wr.setCell ⟨g, n * 6 + 5, none⟩ (.slice a' k c'))) := hid (by
        rw [e]
        have h := HO.out
        rw [← HK.out] at h ⊢
        exact HR.out.names_to n hn acc _ HB.out h)
      clear e HN HO HB HR c0 c1
      go_wp2_with fail
      go_end0
      exact ⟨rfl, HT.out⟩
end Go.Proofs.YtliekndkjjaldaaGreat

/- The document's add of a name. -/
namespace Go.Proofs.YtliekndkjjaldaaGreat
open Go.RowKit
set_option linter.unusedVariables false
set_option maxRecDepth 20000

theorem gt_bs (l : List UInt8) (t : ByteArray) : (!(Op.bytesLess (bs l).toList t.toList || (bs l).toList == t.toList)) = gtB l (bl t) := by
  unfold gtB
  rw [ByteArray.toList_eq, ByteArray.toList_eq]
  rfl
theorem ins_cons (s : List UInt8) (m : Nat) (x : List UInt8 × Nat) (r : List (List UInt8 × Nat)) : ins s m (x :: r) = if gtB x.1 s = true then (s, m) :: x :: r else x :: ins s m r := rfl

/-- How far add is. -/
def AddI (s : List UInt8) (m : Nat) (Q acc : List (List UInt8 × Nat)) (j : Nat) (put : Bool) : Prop := ins s m Q = acc ++ (if put = true then Q.drop j else ins s m (Q.drop j))

set_option maxHeartbeats 8000000 in
theorem radd_any (x g u : Nat) (V : Nat → Value) (F : Fs) (w : World) (H : Rf w x g u V F) (n : Nat) (hn : n < 17) (hq6 : (F.P n).Q.length ≤ 6) (t : ByteArray) (m : Nat) :
    Calls Tryz.prog 62 #[.pointer (some ⟨x, 0, none⟩), .int .i64 (n : Int), .string t, .int .i64 (m : Int)] w fun e w' => e = .returned (.tuple #[]) ∧ RfTo w x g u V (F.addn n (bl t) m) w' := by
  obtain ⟨i0, hi0, hz0, hz1, hz2⟩ := info_parts infoNm
  have c0 := H.c0
  have c1 := H.q n hn
  have HLT := hid H.lts
  have n0 : (0 : Int) ≤ (n : Int) := by omega
  have n1 : (n : Int) < 17 := by omega
  obtain ⟨Q, gQ⟩ : ∃ Q, Q = (F.P n).Q := ⟨_, rfl⟩
  have hQ := H.rQ n hn
  rw [← gQ] at hQ hq6
  have HD : Hid (F.addn n (bl t) m = F.nq n (ins (bl t) m Q)) := hid (by rw [gQ]; rfl)
  rw [HD.out]
  obtain ⟨a, c, eV, hnc, hcm, hcell⟩ := own_shp hQ
  rw [eV] at c1
  obtain ⟨L, gL⟩ : ∃ L, L = Q.length := ⟨_, rfl⟩
  rw [← gL] at c1 hcell hnc hq6
  have GL := hid gL
  have HC := hid hcell
  have HR := hid H
  clear H gQ hQ hcell gL eV
  go_enter Tryz.func62, Tryz.ntmps62
  go_wp2_with fail
  go_loopw [8, 9, 21] (fun v8 v9 v21 wr => ∃ (j k : Nat) (put : Bool) (a' : Option Addr) (c' : Nat) (acc : List (List UInt8 × Nat)), j ≤ L ∧ k ≤ 2 * j + 1 ∧ v21 = .int .i64 (j : Int) ∧ v9 = .bool put ∧ v8 = .slice a' k c' ∧ Hid (acc.length = k) ∧ Hid (wr.ownsRow w.heap.size 119 2 (.slice a' k c') k (nmC acc)) ∧ Hid (Below w.heap.size w wr) ∧ Hid (AddI (bl t) m Q acc j put)) (fun _ _ v21 _ => L - (intOf v21).toNat)
  case atStart => exact ⟨0, 0, false, none, 0, [], Nat.zero_le _, by omega, rfl, rfl, rfl, hid rfl, hid (World.ownsRow_nil _ _ _ _), hid (Below.refl _ _), hid rfl⟩
  case round =>
    obtain ⟨j, k, put, a', c', acc, hj, hk, rfl, rfl, rfl, HK, HO, HB, HN⟩ := hrel
    have HBs := HB.out.size
    by_cases hlt : j < L
    · have hj2 : (j : Int) < (L : Int) := by omega
      have hj0 : (0 : Int) ≤ (j : Int) := by omega
      have hj3 : j + 1 ≤ L := hlt
      have hjQ : j < Q.length := by rw [← GL.out]; exact hlt
      obtain ⟨q, rfl, _, hqs, hcc⟩ := HC.out (by omega)
      obtain ⟨y1, y2⟩ := nmC_at Q j hjQ
      have d1 := (HB.out.cell (p := ⟨q, j * 2, none⟩) hqs).trans (hcc _ _ y1)
      have d2 := (HB.out.cell (p := ⟨q, j * 2 + 1, none⟩) hqs).trans (hcc _ _ y2)
      have hs := gt_bs Q[j].1 t
      have hdr : Q.drop j = Q[j] :: Q.drop (j + 1) := List.drop_eq_getElem_cons hjQ
      have HA1 : Hid (put = true → AddI (bl t) m Q (acc ++ [Q[j]]) (j + 1) true) := hid (fun h => by
        subst h; have := HN.out; unfold AddI at this ⊢; rw [this, hdr]; simp)
      have HA2 : Hid (put = false → gtB Q[j].1 (bl t) = true → AddI (bl t) m Q (acc ++ [(bl t, m)] ++ [Q[j]]) (j + 1) true) := hid (fun h h2 => by
        subst h; have := HN.out; unfold AddI at this ⊢; rw [this, hdr, ins_cons, if_pos h2]; simp)
      have HA3 : Hid (put = false → gtB Q[j].1 (bl t) = false → AddI (bl t) m Q (acc ++ [Q[j]]) (j + 1) false) := hid (fun h h2 => by
        subst h; have := HN.out; unfold AddI at this ⊢; rw [this, if_neg (show ¬ (false = true) by simp), if_neg (show ¬ (false = true) by simp), hdr, ins_cons, if_neg (by rw [h2]; simp)]; simp)
      have HC2 : Hid (∀ l : List (List UInt8 × Nat), nmC (l ++ [Q[j]]) = nmC l ++ [.string (bs Q[j].1), .int .i64 (Q[j].2 : Int)]) := hid (fun l => by rw [nmC_app]; rfl)
      have HC3 : Hid (∀ l : List (List UInt8 × Nat), (l ++ [Q[j]]).length = l.length + 1) := hid (by simp)
      have HC4 : Hid (nmC (acc ++ [(bl t, m)]) = nmC acc ++ [.string t, .int .i64 (m : Int)]) := hid (by rw [nmC_app]; show nmC acc ++ [.string (bs (bl t)), _] = _; rw [bs_bl])
      obtain ⟨G, gG⟩ : ∃ G, G = gtB Q[j].1 (bl t) := ⟨_, rfl⟩
      rw [← gG] at hs HA2 HA3
      generalize hyj : Q[j] = yj at HA1 HA2 HA3 HC2 HC3 hs d1 d2
      generalize bs yj.1 = sj at d1 hs HC2
      generalize yj.2 = mj at d2 HC2
      clear hyj gG hdr y1 y2 hcc HN
      cases put with
      | true =>
        have HR2 := hid (HA1.out rfl)
        clear HA1 HA2 HA3 hs HC4
        go_wp2_with (at_builtin; go_must (refine wpList_append_own _ rfl (.tmp 39) (.tmp 41) 64 rfl w.heap.size 119 i0 _ 2 24 Tryz.underlying64 hi0 hz0 hz1 hz2 rfl (by decide) _ k (nmC acc) rfl ((HO.out.alloc _).alloc _) ⟨_, 0, none⟩ 1 1 [.string sj, .int .i64 mj] rfl rfl (cell_two2 _ _ _ _ _) (by simp [Value.oneCell']) (by unfold maxLen; omega) (by omega) (by simp; omega) ?_))
        intro v' w6 hO hG hN
        have hbel : Below w.heap.size w w6 := ((HB.out.alloc HBs _).alloc (by simp; omega) (.cells #[.string sj, .int .i64 mj] 119)).grown hG (by simp; omega) (fun x hx => (HO.out.lt x hx).1)
        obtain ⟨va, vc, rfl⟩ : ∃ va vc, v' = .slice va (k + 1) vc := by
          rcases hO.2 with ⟨h1, h2⟩ | ⟨g, c, cur, rfl, _⟩
          · omega
          · exact ⟨_, c, rfl⟩
        rw [← HC2.out] at hO
        have HO2 := hid hO
        have HB2 := hid hbel
        clear hO hG hN hbel HO HB
        go_wp2_with fail
        go_roundw
        case rel => exact ⟨j + 1, k + 1, true, va, vc, acc ++ [yj], hj3, by omega, by go_num, rfl, rfl, hid (by rw [HC3.out, HK.out]), HO2, HB2, HR2⟩
        case measure => simp [intOf]; omega
      | false =>
        cases G with
        | false =>
          have HR2 := hid (HA3.out rfl rfl)
          clear HA1 HA2 HA3 HC4
          go_wp2_with (at_builtin; go_must (refine wpList_append_own _ rfl (.tmp 39) (.tmp 41) 64 rfl w.heap.size 119 i0 _ 2 24 Tryz.underlying64 hi0 hz0 hz1 hz2 rfl (by decide) _ k (nmC acc) rfl ((HO.out.alloc _).alloc _) ⟨_, 0, none⟩ 1 1 [.string sj, .int .i64 mj] rfl rfl (cell_two2 _ _ _ _ _) (by simp [Value.oneCell']) (by unfold maxLen; omega) (by omega) (by simp; omega) ?_))
          intro v' w6 hO hG hN
          have hbel : Below w.heap.size w w6 := ((HB.out.alloc HBs _).alloc (by simp; omega) (.cells #[.string sj, .int .i64 mj] 119)).grown hG (by simp; omega) (fun x hx => (HO.out.lt x hx).1)
          obtain ⟨va, vc, rfl⟩ : ∃ va vc, v' = .slice va (k + 1) vc := by
            rcases hO.2 with ⟨h1, h2⟩ | ⟨g, c, cur, rfl, _⟩
            · omega
            · exact ⟨_, c, rfl⟩
          rw [← HC2.out] at hO
          have HO2 := hid hO
          have HB2 := hid hbel
          clear hO hG hN hbel HO HB
          go_wp2_with fail
          go_roundw
          case rel => exact ⟨j + 1, k + 1, false, va, vc, acc ++ [yj], hj3, by omega, by go_num, rfl, rfl, hid (by rw [HC3.out, HK.out]), HO2, HB2, HR2⟩
          case measure => simp [intOf]; omega
        | true =>
          have HR2 := hid (HA2.out rfl rfl)
          clear HA1 HA2 HA3
          go_wp2_with (at_builtin; go_must (refine wpList_append_own _ rfl (.tmp 33) (.tmp 37) 64 rfl w.heap.size 119 i0 _ 2 24 Tryz.underlying64 hi0 hz0 hz1 hz2 rfl (by decide) _ k (nmC acc) rfl ((HO.out.alloc _).alloc _) ⟨_, 0, none⟩ 1 1 [.string t, .int .i64 (m : Int)] rfl rfl (cell_two2 _ _ _ _ _) (by simp [Value.oneCell']) (by unfold maxLen; omega) (by omega) (by simp; omega) ?_))
          intro v' w6 hO hG hN
          have hbel : Below w.heap.size w w6 := ((HB.out.alloc HBs _).alloc (by simp; omega) (.cells #[.string t, .int .i64 (m : Int)] 119)).grown hG (by simp; omega) (fun x hx => (HO.out.lt x hx).1)
          obtain ⟨va, vc, rfl⟩ : ∃ va vc, v' = .slice va (k + 1) vc := by
            rcases hO.2 with ⟨h1, h2⟩ | ⟨g, c, cur, rfl, _⟩
            · omega
            · exact ⟨_, c, rfl⟩
          rw [← HC4.out] at hO
          have HO2 := hid hO
          have HB2 := hid hbel
          have hw6 := hG.size
          have b1 : w6.cell? ⟨wr.heap.size, 0, none⟩ = some (.string sj) := (World.cell?_of_block (a := ⟨wr.heap.size, 0, none⟩) (hG.block wr.heap.size (by simp; omega) (fun e => by have := (HO.out.lt _ e.symm).2; omega))).trans (by go_simp)
          have b2 : w6.cell? ⟨wr.heap.size, 1, none⟩ = some (.int .i64 (mj : Int)) := (World.cell?_of_block (a := ⟨wr.heap.size, 1, none⟩) (hG.block wr.heap.size (by simp; omega) (fun e => by have := (HO.out.lt _ e.symm).2; omega))).trans (by go_simp)
          have hwb : w.heap.size ≤ w6.heap.size := hbel.size
          clear hO hG hN hbel HO HB d1 d2
          go_wp2_with (at_builtin; go_must (refine wpList_append_own _ rfl (.tmp 39) (.tmp 41) 64 rfl w.heap.size 119 i0 _ 2 24 Tryz.underlying64 hi0 hz0 hz1 hz2 rfl (by decide) _ (k + 1) (nmC (acc ++ [(bl t, m)])) rfl (HO2.out.alloc _) ⟨_, 0, none⟩ 1 1 [.string sj, .int .i64 mj] rfl rfl (cell_two _ _ _ _) (by simp [Value.oneCell']) (by unfold maxLen; omega) (by omega) (by simp; omega) ?_))
          intro v' w8 hO hG hN
          have hbel : Below w.heap.size w w8 := (HB2.out.alloc hwb (.cells #[.string sj, .int .i64 mj] 119)).grown hG (by simp; omega) (fun x hx => (HO2.out.lt x hx).1)
          obtain ⟨wa, wc, rfl⟩ : ∃ wa wc, v' = .slice wa (k + 1 + 1) wc := by
            rcases hO.2 with ⟨h1, h2⟩ | ⟨g, c, cur, rfl, _⟩
            · omega
            · exact ⟨_, c, rfl⟩
          rw [← HC2.out] at hO
          have HO3 := hid hO
          have HB3 := hid hbel
          clear hO hG hN hbel HO2 HB2
          go_wp2_with fail
          go_roundw
          case rel => exact ⟨j + 1, k + 1 + 1, true, wa, wc, acc ++ [(bl t, m)] ++ [yj], hj3, by omega, by go_num, rfl, rfl, hid (by rw [HC3.out]; simp [HK.out]), HO3, HB3, HR2⟩
          case measure => simp [intOf]; omega
    · have hj2 : ¬ (j : Int) < (L : Int) := by omega
      have d0 := (HB.out.cell (p := ⟨x, 0, none⟩) HLT.out.1).trans c0
      have d1 := (HB.out.cell (p := ⟨g, n * 6 + 5, none⟩) HLT.out.2.1).trans c1
      have d2 := (HR.out.grow HB.out).frz (n * 6 + 5)
      have hdn : Q.drop j = [] := List.drop_of_length_le (by have := GL.out; omega)
      cases put with
      | true =>
        have e : ins (bl t) m Q = acc := by
          have h := HN.out
          unfold AddI at h
          rw [hdn] at h
          simpa using h
        have HT : Hid (RfTo w x g u V (F.nq n (ins (bl t) m Q)) (wr.setCell ⟨g, n * 6 + 5, none⟩ (.slice a' k c'))) := hid (by
          rw [e]
          have h := HO.out
          rw [← HK.out] at h ⊢
          exact HR.out.names_to n hn acc _ HB.out h)
        clear e HN HO HB HR c0 c1
        go_wp2_with fail
        go_end0
        exact ⟨rfl, HT.out⟩
      | false =>
        have HE : Hid (ins (bl t) m Q = acc ++ [(bl t, m)]) := hid (by
          have h := HN.out
          unfold AddI at h
          rw [hdn] at h
          simpa [ins] using h)
        have HC4 : Hid (nmC (acc ++ [(bl t, m)]) = nmC acc ++ [.string t, .int .i64 (m : Int)]) := hid (by rw [nmC_app]; show nmC acc ++ [.string (bs (bl t)), _] = _; rw [bs_bl])
        clear hdn HN d0 d1 d2
        go_wp2_with (at_builtin; go_must (refine wpList_append_own _ rfl (.tmp 46) (.tmp 50) 64 rfl w.heap.size 119 i0 _ 2 24 Tryz.underlying64 hi0 hz0 hz1 hz2 rfl (by decide) _ k (nmC acc) rfl (HO.out.alloc _) ⟨_, 0, none⟩ 1 1 [.string t, .int .i64 (m : Int)] rfl rfl (cell_two _ _ _ _) (by simp [Value.oneCell']) (by unfold maxLen; omega) (by omega) (by simp; omega) ?_))
        intro v' w6 hO hG hN
        have hbel : Below w.heap.size w w6 := (HB.out.alloc HBs (.cells #[.string t, .int .i64 (m : Int)] 119)).grown hG (by simp; omega) (fun x hx => (HO.out.lt x hx).1)
        obtain ⟨va, vc, rfl⟩ : ∃ va vc, v' = .slice va (k + 1) vc := by
          rcases hO.2 with ⟨h1, h2⟩ | ⟨g, c, cur, rfl, _⟩
          · omega
          · exact ⟨_, c, rfl⟩
        rw [← HC4.out] at hO
        have d0 := (hbel.cell (p := ⟨x, 0, none⟩) HLT.out.1).trans c0
        have d1 := (hbel.cell (p := ⟨g, n * 6 + 5, none⟩) HLT.out.2.1).trans c1
        have d2 := (HR.out.grow hbel).frz (n * 6 + 5)
        have HT : Hid (RfTo w x g u V (F.nq n (ins (bl t) m Q)) (w6.setCell ⟨g, n * 6 + 5, none⟩ (.slice va (k + 1) vc))) := hid (by
          rw [HE.out]
          have e : (acc ++ [(bl t, m)]).length = k + 1 := by simp [HK.out]
          have h := hO
          rw [← e] at h ⊢
          exact HR.out.names_to n hn _ _ hbel h)
        clear hO hG hN hbel HO HB HR HE c0 c1
        go_wp2_with fail
        go_end0
        exact ⟨rfl, HT.out⟩

end Go.Proofs.YtliekndkjjaldaaGreat

/- The document's free and gone. -/
namespace Go.Proofs.YtliekndkjjaldaaGreat
open Go.RowKit
set_option linter.unusedVariables false
set_option maxRecDepth 20000

theorem Rf.mark {w : World} {x g u : Nat} {V : Nat → Value} {F : Fs} (H : Rf w x g u V F) (b : Nat) (hb : b < 25) (v : Bool) : Rf (w.setCell ⟨u, b, none⟩ (.bool v)) x g u V { F with T := updT F.T b v } := by
  obtain ⟨C, h1, h2, h3⟩ := H.nds
  obtain ⟨D, h4, h5, h6⟩ := H.use
  have hs : Upd (· = u) w (w.setCell ⟨u, b, none⟩ (.bool v)) := Upd.setCell w ⟨u, b, none⟩ (.bool v) rfl
  have hu7 := heap_setCells u 4 [.bool v] b w D h4 (by simp; omega)
  refine ⟨hs.heap H.at0 H.ne.2.1, ⟨C, hs.heap h1 H.ne.2.2, h2, h3⟩, ⟨splice D b [.bool v], hu7, by rw [length_splice _ _ _ (by simp; omega)]; exact h5, ?_⟩, ?_, ?_, ?_, H.ap, H.ng, H.ne⟩
  · intro i hi
    by_cases e : i = b
    · subst e
      have := getElem?_splice_in D [.bool v] i 0 (by simp; omega) (by simp)
      rw [Nat.add_zero] at this
      rw [this]
      show some _ = some (Value.bool (updT F.T i v i))
      rw [updT_same]
    · rw [getElem?_splice_out D [.bool v] b i (by simp; omega) (by simp; omega), h6 i hi]
      show some _ = some (Value.bool (updT F.T b v i))
      rw [updT_ne _ _ _ _ e]
  · exact fun i hi => hs.own (H.rb i hi) (fun k hk => (H.ng _ k (by omega) hk).2.2)
  · exact fun i hi => hs.own (H.rB i hi) (fun k hk => (H.ng _ k (by omega) hk).2.2)
  · exact fun i hi => hs.own (H.rQ i hi) (fun k hk => (H.ng _ k (by omega) hk).2.2)

theorem relB_nil (F : Fs) : F.relB [] = F := by unfold Fs.relB; split <;> simp
theorem relB_yes (F : Fs) (B : List Nat) (h : dfc F.d 2 = true) : F.relB B = F := if_pos h
theorem relB_snoc (F : Fs) (B : List Nat) (b : Nat) (h : dfc F.d 2 = false) : { F.relB B with T := updT (F.relB B).T b false } = F.relB (B ++ [b]) := by
  unfold Fs.relB
  rw [if_neg (by simp [h]), if_neg (by simp [h])]
  suffices e : updT (fun b => if b ∈ B then false else F.T b) b false = fun b_1 => if b_1 ∈ B ++ [b] then false else F.T b_1 by
    show Fs.mk _ _ _ = Fs.mk _ _ _
    exact congrArg (Fs.mk F.d F.P) e
  funext i
  unfold updT
  by_cases e : i = b
  · subst e; simp
  · simp [e]

set_option maxHeartbeats 4000000 in
theorem rfree_any (x g u : Nat) (V : Nat → Value) (F : Fs) (w : World) (H : Rf w x g u V F) (a : Option Addr) (L c : Nat) (B : List Nat) (hL : B.length = L) (hL2 : L ≤ 1000) (hB : ∀ b ∈ B, b < 25)
    (hcell : ∀ j, ∀ h : j < B.length, ∃ q o, a = some ⟨q, o, none⟩ ∧ q < w.heap.size ∧ q ≠ u ∧ w.cell? ⟨q, o + j, none⟩ = some (.int .i64 (B[j] : Int))) :
    Calls Tryz.prog 81 #[.pointer (some ⟨x, 0, none⟩), .slice a L c] w fun e w' => e = .returned (.tuple #[]) ∧ Rf w' x g u V (F.relB B) ∧ Upd (· = u) w w' := by
  have HC := hid hcell
  have HB := hid hB
  have GL := hid hL
  have HI : Hid (Rf w x g u V (F.relB (B.take 0))) := hid (by rw [List.take_zero, relB_nil]; exact H)
  clear H hcell hB hL
  go_enter Tryz.func81, Tryz.ntmps81
  go_wp2_with fail
  go_loopw [5, 8] (fun v5 v8 wr => ∃ j : Nat, j ≤ L ∧ v8 = .int .i64 (j : Int) ∧ Hid (Rf wr x g u V (F.relB (B.take j))) ∧ Hid (Upd (· = u) w wr)) (fun _ v8 _ => L - (intOf v8).toNat)
  case atStart => exact ⟨0, Nat.zero_le _, rfl, HI, hid (Upd.refl _ _)⟩
  case round =>
    clear HI
    obtain ⟨j, hj, rfl, HR, HU⟩ := hrel
    by_cases hlt : j < L
    · have hj2 : (j : Int) < (L : Int) := by omega
      have hj0 : (0 : Int) ≤ (j : Int) := by omega
      have hj3 : j + 1 ≤ L := hlt
      have hjB : j < B.length := by rw [GL.out]; exact hlt
      obtain ⟨q, o, rfl, hq, hqu, hcj⟩ := HC.out j hjB
      have d1 := (World.cell?_of_block (a := ⟨q, o + j, none⟩) (HU.out.block q hq hqu)).trans hcj
      have hb := HB.out B[j] (List.getElem_mem hjB)
      have k1 := hid (rhas_any x g u V _ wr HR.out 2)
      rw [relB_d] at k1
      have ht : B.take (j + 1) = B.take j ++ [B[j]] := (List.take_append_getElem hjB).symm
      have c1 := HR.out.c1
      have hth : ∃ D : List Value, wr.heap[u]? = some (.cells D.toArray 4 (0, 0)) ∧ D.length = 25 := by
        obtain ⟨D, h1, h2, _⟩ := HR.out.use; exact ⟨D, h1, h2⟩
      have d2 := HR.out.t B[j] hb
      have d3 : wr.frozen? ⟨u, B[j], none⟩ = false := by
        obtain ⟨D, h1, _⟩ := hth; simp [World.frozen?, h1]
      have b0 : (0 : Int) ≤ (B[j] : Int) := by omega
      have b1 : (B[j] : Int) < 25 := by omega
      have HN1 : Hid (dfc F.d 2 = true → Rf wr x g u V (F.relB (B.take (j + 1)))) := hid (fun h => by
        have := HR.out
        rw [relB_yes _ _ h] at this ⊢
        exact this)
      have HN2 : Hid (dfc F.d 2 = false → Rf (wr.setCell ⟨u, B[j], none⟩ (.bool false)) x g u V (F.relB (B.take (j + 1)))) := hid (fun h => by
        rw [ht, ← relB_snoc _ _ _ h]
        exact HR.out.mark _ hb false)
      have HU2 : Hid (Upd (· = u) w (wr.setCell ⟨u, B[j], none⟩ (.bool false))) := hid (HU.out.trans (Upd.setCell (F := (· = u)) wr ⟨u, B[j], none⟩ (.bool false) rfl) (fun b _ h => h))
      obtain ⟨D, gD⟩ : ∃ D, D = dfc F.d 2 := ⟨_, rfl⟩
      rw [← gD] at k1 HN1 HN2
      clear hcj ht hth gD HR
      generalize B[j] = bj at hb d1 d2 d3 b0 b1 HN2 HU2
      cases D with
      | true =>
        have HN := hid (HN1.out rfl)
        clear HN1 HN2 HU2
        go_wp2_with fail
        refine k1.out.mono ?_
        rintro e w1 ⟨rfl, rfl⟩
        clear k1
        go_wp2_with fail
        go_roundw
        case rel => exact ⟨j + 1, hj3, by go_num, HN, HU⟩
        case measure => simp [intOf]; omega
      | false =>
        have HN := hid (HN2.out rfl)
        clear HN1 HN2 HU
        go_wp2_with fail
        refine k1.out.mono ?_
        rintro e w1 ⟨rfl, rfl⟩
        clear k1
        go_wp2_with fail
        go_roundw
        case rel => exact ⟨j + 1, hj3, by go_num, HN, HU2⟩
        case measure => simp [intOf]; omega
    · have hj2 : ¬ (j : Int) < (L : Int) := by omega
      have HE : Hid (Rf wr x g u V (F.relB B)) := hid (by
        have := HR.out
        rwa [List.take_of_length_le (by have := GL.out; omega)] at this)
      clear HR
      go_wp2_with fail
      go_end0
      exact ⟨rfl, HE.out, HU.out⟩

theorem builtR0 : Tryz.prog.built 66 [] = some #[.int .i64 0, .int .i64 0, .int .i64 0, .slice none 0 0, .slice none 0 0, .slice none 0 0] := by kernel_rfl

theorem Rf.blocks {w : World} {x g u : Nat} {V : Nat → Value} {F : Fs} (H : Rf w x g u V F) (n : Nat) (hn : n < 17) : ∃ a c, V (n * 3 + 1) = .slice a (F.P n).B.length c ∧ (F.P n).B.length ≤ c ∧ c ≤ 9223372036854775807 ∧
    ∀ j, ∀ h : j < (F.P n).B.length, ∃ q o, a = some ⟨q, o, none⟩ ∧ q < w.heap.size ∧ q ≠ u ∧ w.cell? ⟨q, o + j, none⟩ = some (.int .i64 ((F.P n).B[j] : Int)) := by
  obtain ⟨a, c, e, h1, h2, h3⟩ := own_shp (H.rB n hn)
  refine ⟨a, c, e, h1, h2, fun j h => ?_⟩
  obtain ⟨q, rfl, _, hq, hc⟩ := h3 (by omega)
  refine ⟨q, 0, rfl, hq, (H.ng (n * 3 + 1) q (by omega) (by rw [e]; rfl)).2.2, ?_⟩
  rw [Nat.zero_add]
  exact hc j _ (by simp [List.getElem?_eq_getElem h])

/-- A number without a node. -/
def noV (V : Nat → Value) (n : Nat) : Nat → Value := fun i => if i / 3 = n then .slice none 0 0 else V i
theorem noV_own {V : Nat → Value} {n i b : Nat} (h : (noV V n i).ownBlock = some b) : i / 3 ≠ n ∧ (V i).ownBlock = some b := by
  unfold noV at h
  split at h
  · simp [Value.ownBlock] at h
  · exact ⟨by assumption, h⟩
theorem Rf.node {w : World} {x g u : Nat} {V : Nat → Value} {F : Fs} (H : Rf w x g u V F) (n : Nat) (hn : n < 17) (y : Fn) (hc : y.c = []) (hb : y.B = []) (hq : y.Q = []) :
    Rf (w.setCells g (n * 6) [.int .i64 y.k, .int .i64 y.l, .int .i64 y.h, .slice none 0 0, .slice none 0 0, .slice none 0 0]) x g u (noV V n) (F.at_ n y) := by
  have e : ∀ k, k < 3 → noV V n (n * 3 + k) = .slice none 0 0 := fun k hk => if_pos (by omega)
  refine H.put (U := fun _ => False) n hn y (noV V n) (fun i hi => if_neg hi) (Upd.refl _ _) (fun _ _ h => h.elim) 0 [.int .i64 y.k, .int .i64 y.l, .int .i64 y.h, .slice none 0 0, .slice none 0 0, .slice none 0 0] (by simp) ?_ ?_ ?_ ?_ ?_ ?_
  · have e0 := e 0 (by omega)
    rw [Nat.add_zero] at e0
    rw [e0, e 1 (by omega), e 2 (by omega)]; rfl
  · have e0 := e 0 (by omega)
    rw [Nat.add_zero] at e0
    rw [e0, hc]; exact World.ownsRow_nil _ _ _ _
  · rw [e 1 (by omega), hb]; exact World.ownsRow_nil _ _ _ _
  · rw [e 2 (by omega), hq]; exact World.ownsRow_nil _ _ _ _
  · intro i b hi h
    exact absurd hi (noV_own h).1
  · intro i j b hi hj hb ei ej
    exact absurd hi (noV_own ei).1
theorem noV_foot {x g u n b : Nat} {V : Nat → Value} (h : RfFoot x g u (noV V n) b) : RfFoot x g u V b := by
  rcases h with h | h | h | ⟨i, hi, h⟩
  · exact .inl h
  · exact .inr (.inl h)
  · exact .inr (.inr (.inl h))
  · exact .inr (.inr (.inr ⟨i, hi, (noV_own h).2⟩))

set_option maxHeartbeats 4000000 in
theorem rgone_any (x g u : Nat) (V : Nat → Value) (F : Fs) (w : World) (H : Rf w x g u V F) (n : Nat) (hn : n < 17) (h1 : n = 1 → 0 < (F.P n).l) (hB : ∀ b ∈ (F.P n).B, b < 25) (hBl : (F.P n).B.length ≤ 1000) :
    Calls Tryz.prog 69 #[.pointer (some ⟨x, 0, none⟩), .int .i64 (n : Int)] w fun e w' => e = .returned (.tuple #[]) ∧ RfTo w x g u V (F.gone n) w' := by
  have c0 := H.c0
  have c1 := H.l n hn
  have c2 := H.h n hn
  have n0 : (0 : Int) ≤ (n : Int) := by omega
  have n1 : (n : Int) < 17 := by omega
  have HS : Hid (0 < (F.P n).l ∨ 0 < (F.P n).h → RfTo w x g u V (F.gone n) w) := hid (fun h => by
    unfold Fs.gone
    rw [if_pos h]
    exact H.same (Below.refl _ _))
  have HG : Hid (¬ (0 < (F.P n).l ∨ 0 < (F.P n).h) → F.gone n = (F.relB (F.P n).B).at_ n Fn.no) := hid (fun h => if_neg h)
  by_cases e1 : n = 1
  · have i1 : ((n : Int) == 1) = true := by simp [e1]
    have HS2 := hid (HS.out (.inl (h1 e1)))
    generalize (F.P n).l = l at c1
    generalize (F.P n).h = k at c2
    clear HS HG h1 H hB hBl e1
    go_enter Tryz.func69, Tryz.ntmps69
    go_wp2_with fail
    (try simp only [Exit.inBlock, Exit.then])
    refine bodyPost_ret (results_none rfl _ _ _) rfl ?_
    exact ⟨rfl, HS2.out⟩
  · have i1 : ((n : Int) == 1) = false := by simp; omega
    by_cases hl : 0 < (F.P n).l
    · have HS2 := hid (HS.out (.inl hl))
      generalize (F.P n).l = l at c1 hl
      generalize (F.P n).h = k at c2
      clear HS HG h1 H hB hBl e1
      go_enter Tryz.func69, Tryz.ntmps69
      go_wp2_with fail
      (try simp only [Exit.inBlock, Exit.then])
      refine bodyPost_ret (results_none rfl _ _ _) rfl ?_
      exact ⟨rfl, HS2.out⟩
    · by_cases hh : 0 < (F.P n).h
      · have HS2 := hid (HS.out (.inr hh))
        generalize (F.P n).l = l at c1 hl
        generalize (F.P n).h = k at c2 hh
        clear HS HG h1 H hB hBl e1
        go_enter Tryz.func69, Tryz.ntmps69
        go_wp2_with fail
        (try simp only [Exit.inBlock, Exit.then])
        refine bodyPost_ret (results_none rfl _ _ _) rfl ?_
        exact ⟨rfl, HS2.out⟩
      · obtain ⟨a, c, eV, hLc, hcm, hcell⟩ := H.blocks n hn
        have c3 := H.B n hn
        rw [eV] at c3
        have k1 := hid (rfree_any x g u V F w H a (F.P n).B.length c (F.P n).B rfl hBl hB hcell)
        have HE := hid (HG.out (fun h => h.elim hl hh))
        rw [HE.out]
        generalize (F.P n).l = l at c1 hl
        generalize (F.P n).h = k at c2 hh
        clear HS HG h1 H hB e1 hcell eV
        go_enter Tryz.func69, Tryz.ntmps69
        go_wp2_with fail
        refine k1.out.mono ?_
        rintro e w1 ⟨rfl, hR, hU⟩
        clear k1
        have c0' := hR.c0
        obtain ⟨N, gN⟩ : ∃ N : List Value, N = [.int .i64 0, .int .i64 0, .int .i64 0, .slice none 0 0, .slice none 0 0, .slice none 0 0] := ⟨_, rfl⟩
        have H1 : Hid (N.toArray.all (·.oneCell') = true) := by rw [gN]; exact hid (by simp [Value.oneCell'])
        have HSZ : Hid ((Tryz.prog.info? 66).map (·.size) = some N.toArray.size) := by rw [gN]; exact hid csizeR6
        have HBT : Hid (Tryz.prog.built 66 [] = some N.toArray) := by rw [gN]; exact hid builtR0
        have HTH : Hid (w1.there g (n * 6) N.toArray.size) := by
          obtain ⟨C, h1, h2, _⟩ := hR.nds
          rw [gN]
          exact hid (there_of_block h1 (n * 6) 6 (by omega))
        have HT : Hid (RfTo w x g u V ((F.relB (F.P n).B).at_ n Fn.no) (w1.setCells g (n * 6) N)) := hid (by
          rw [gN]
          have h := hR.node n hn Fn.no rfl rfl rfl
          refine ⟨_, h, (hU.mono (G := RfFoot x g u V) (fun b _ h => .inr (.inr (.inl h)))).trans (upd_setCells g _ (n * 6) w1) (fun b _ h => .inr (.inl h)), fun b hb => .inl (noV_foot hb)⟩)
        clear hR hU gN c0 c1 c2 c3
        go_wp2_with (first
          | (refine wpList_build_is rfl 66 #[] rfl N.toArray (by simpa [Act.eval] using HBT.out) ?_)
          | (refine wpList_store_mid rfl 66 (.tmp 44) (.tmp 43) rfl g (n * 6) N.toArray rfl rfl HTH.out HSZ.out H1.out ?_))
        go_end0
        exact ⟨rfl, HT.out⟩

end Go.Proofs.YtliekndkjjaldaaGreat
