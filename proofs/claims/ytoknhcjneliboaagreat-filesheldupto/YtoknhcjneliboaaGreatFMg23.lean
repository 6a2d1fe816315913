/- Texts of this seat, merged. -/
import Derived.Test.YtoknhcjneliboaaGreatFMg21
import Derived.Test.YtoknhcjneliboaaGreatFMg20
import Derived.Test.YtoknhcjneliboaaGreatFMg19

/- The document's system with another node; its drop and add of a name. -/
namespace Go.Proofs.YtoknhcjneliboaaGreat
open Go.RowKit
set_option linter.unusedVariables false
set_option maxRecDepth 20000

/-- A node's cells. -/
def ndL (y : Fn) (a b c : Value) : List Value := [.int .i64 y.k, .int .i64 y.l, .int .i64 y.h, a, b, c]

/-- Another node at a number: its cells from o on are stored anew, of its rows each is what it was or new. -/
theorem Rf.put {U : Nat → Prop} {w w6 : World} {x g u : Nat} {V : Nat → Value} {F : Fs} (H : Rf w x g u V F) (n : Nat) (hn : n < 17) (y : Fn) (V' : Nat → Value) (hV : ∀ i, i / 3 ≠ n → V' i = V i)
    (hU : Upd U w w6) (hUx : ∀ b, RfFoot x g u V b → U b → ∃ i, i / 3 = n ∧ (V i).ownBlock = some b)
    (o : Nat) (vs : List Value) (ho : o + vs.length ≤ 6) (hvs : splice (ndL (F.P n) (V (n * 3)) (V (n * 3 + 1)) (V (n * 3 + 2))) o vs = ndL y (V' (n * 3)) (V' (n * 3 + 1)) (V' (n * 3 + 2)))
    (r0 : w6.ownsRow 0 5 1 (V' (n * 3)) y.c.length (y.c.map (Value.int .u8))) (r1 : w6.ownsRow 0 3 1 (V' (n * 3 + 1)) y.B.length (y.B.map fun (b : Nat) => Value.int .i64 (b : Int))) (r2 : w6.ownsRow 0 151 2 (V' (n * 3 + 2)) y.Q.length (nmC y.Q))
    (own : ∀ i b, i / 3 = n → (V' i).ownBlock = some b → w.heap.size ≤ b ∨ (V i).ownBlock = some b)
    (apart : ∀ i j b, i / 3 = n → j / 3 = n → w.heap.size ≤ b → (V' i).ownBlock = some b → (V' j).ownBlock = some b → i = j) :
    Rf (w6.setCells g (n * 6 + o) vs) x g u V' (F.at_ n y) := by
  obtain ⟨C, h1, h2, h3⟩ := H.nds
  obtain ⟨D, h4, h5, h6⟩ := H.use
  have hUn : ∀ b, RfFoot x g u V b → (∀ i, i / 3 = n → (V i).ownBlock ≠ some b) → ¬ U b := fun b hb h hu => by
    obtain ⟨i, hi, e⟩ := hUx b hb hu
    exact h i hi e
  have ng3 : ∀ i b, i / 3 = n → (V i).ownBlock = some b → b ≠ x ∧ b ≠ g ∧ b ≠ u := fun i b hi e => H.ng i b (by omega) e
  have hx6 := hU.heap H.at0 (hUn x (.inl rfl) (fun i hi e => (ng3 i x hi e).1 rfl))
  have hg6 := hU.heap h1 (hUn g (.inr (.inl rfl)) (fun i hi e => (ng3 i g hi e).2.1 rfl))
  have hu6 := hU.heap h4 (hUn u (.inr (.inr (.inl rfl))) (fun i hi e => (ng3 i u hi e).2.2 rfl))
  have hs := upd_setCells g vs (n * 6 + o) w6
  have hg7 := heap_setCells g 117 vs (n * 6 + o) w6 C hg6 (by omega)
  have hgl : g < w.heap.size := (Array.getElem?_eq_some_iff.1 h1).1
  have hxl : x < w.heap.size := (Array.getElem?_eq_some_iff.1 H.at0).1
  have hul : u < w.heap.size := (Array.getElem?_eq_some_iff.1 h4).1
  have old : ∀ i b, i < 51 → (V i).ownBlock = some b → b < w.heap.size := fun i b hi e => H.foot_lt b (.inr (.inr (.inr ⟨i, hi, e⟩)))
  have ng' : ∀ i b, i < 51 → (V' i).ownBlock = some b → b ≠ x ∧ b ≠ g ∧ b ≠ u := fun i b hi e => by
    by_cases hin : i / 3 = n
    · rcases own i b hin e with q | q
      · exact ⟨by omega, by omega, by omega⟩
      · exact H.ng i b hi q
    · rw [hV i hin] at e
      exact H.ng i b hi e
  have other : ∀ i, i < 51 → i / 3 ≠ n → ∀ b, (V i).ownBlock = some b → ¬ U b := fun i hi hin b e => hUn b (.inr (.inr (.inr ⟨i, hi, e⟩))) (fun j hj ej => hin (by rw [H.ap i j b hi (by omega) e ej]; exact hj))
  have e0 : ∀ i, i ≠ n → (F.at_ n y).P i = F.P i := fun i hi => if_neg hi
  have e1 : (F.at_ n y).P n = y := if_pos rfl
  refine ⟨hs.heap hx6 (fun e => H.ne.1 e), ⟨_, hg7, by rw [length_splice _ _ _ (by omega)]; exact h2, ?_⟩, ⟨D, hs.heap hu6 (fun e => H.ne.2.2 e.symm), h5, h6⟩, ?_, ?_, ?_, ?_, ng', H.ne⟩
  · intro i hi
    by_cases hin : i = n
    · subst hin
      rw [e1]
      have key : ∀ k, k < 6 → (splice C (i * 6 + o) vs)[i * 6 + k]? = (ndL y (V' (i * 3)) (V' (i * 3 + 1)) (V' (i * 3 + 2)))[k]? := by
        intro k hk
        rw [← hvs]
        by_cases hk2 : o ≤ k ∧ k < o + vs.length
        · rw [show i * 6 + k = i * 6 + o + (k - o) by omega, getElem?_splice_in _ _ _ _ (by omega) (by omega)]
          have := getElem?_splice_in (ndL (F.P i) (V (i * 3)) (V (i * 3 + 1)) (V (i * 3 + 2))) vs o (k - o) (by simpa [ndL] using ho) (by omega)
          rw [show o + (k - o) = k by omega] at this
          exact this.symm
        · rw [getElem?_splice_out _ _ _ _ (by omega) (by omega), getElem?_splice_out _ _ _ _ (by simpa [ndL] using ho) (by omega)]
          obtain ⟨q0, q1, q2, q3, q4, q5⟩ := h3 i hi
          rcases (show k = 0 ∨ k = 1 ∨ k = 2 ∨ k = 3 ∨ k = 4 ∨ k = 5 by omega) with rfl | rfl | rfl | rfl | rfl | rfl
          · exact q0
          · exact q1
          · exact q2
          · exact q3
          · exact q4
          · exact q5
      exact ⟨key 0 (by omega), key 1 (by omega), key 2 (by omega), key 3 (by omega), key 4 (by omega), key 5 (by omega)⟩
    · rw [e0 i hin, hV (i * 3) (by omega), hV (i * 3 + 1) (by omega), hV (i * 3 + 2) (by omega)]
      have key : ∀ k, k < 6 → (splice C (n * 6 + o) vs)[i * 6 + k]? = C[i * 6 + k]? := fun k hk => getElem?_splice_out _ _ _ _ (by omega) (by omega)
      have k0 := key 0 (by omega)
      rw [Nat.add_zero] at k0
      rw [k0, key 1 (by omega), key 2 (by omega), key 3 (by omega), key 4 (by omega), key 5 (by omega)]
      exact h3 i hi
  · intro i hi
    have hg' : ∀ b, (V' (i * 3)).ownBlock = some b → ¬ b = g := fun b e => (ng' _ b (by omega) e).2.1
    by_cases hin : i = n
    · subst hin; rw [e1]; exact hs.own r0 hg'
    · rw [e0 i hin]
      rw [hV _ (by omega)] at hg' ⊢
      exact hs.own (hU.own (H.rb i hi) (other _ (by omega) (by omega))) hg'
  · intro i hi
    have hg' : ∀ b, (V' (i * 3 + 1)).ownBlock = some b → ¬ b = g := fun b e => (ng' _ b (by omega) e).2.1
    by_cases hin : i = n
    · subst hin; rw [e1]; exact hs.own r1 hg'
    · rw [e0 i hin]
      rw [hV _ (by omega)] at hg' ⊢
      exact hs.own (hU.own (H.rB i hi) (other _ (by omega) (by omega))) hg'
  · intro i hi
    have hg' : ∀ b, (V' (i * 3 + 2)).ownBlock = some b → ¬ b = g := fun b e => (ng' _ b (by omega) e).2.1
    by_cases hin : i = n
    · subst hin; rw [e1]; exact hs.own r2 hg'
    · rw [e0 i hin]
      rw [hV _ (by omega)] at hg' ⊢
      exact hs.own (hU.own (H.rQ i hi) (other _ (by omega) (by omega))) hg'
  · intro i j b hi hj ei ej
    by_cases hin : i / 3 = n
    · by_cases hjn : j / 3 = n
      · rcases own i b hin ei with q | q
        · exact apart i j b hin hjn q ei ej
        · rcases own j b hjn ej with q' | q'
          · exact absurd (old i b hi q) (by omega)
          · exact H.ap i j b hi hj q q'
      · rw [hV j hjn] at ej
        rcases own i b hin ei with q | q
        · exact absurd (old j b hj ej) (by omega)
        · exact H.ap i j b hi hj q ej
    · rw [hV i hin] at ei
      by_cases hjn : j / 3 = n
      · rcases own j b hjn ej with q | q
        · exact absurd (old i b hi ei) (by omega)
        · exact H.ap i j b hi hj ei q
      · rw [hV j hjn] at ej
        exact H.ap i j b hi hj ei ej

/-- Another row at a place. -/
def setV (V : Nat → Value) (i : Nat) (v : Value) : Nat → Value := fun j => if j = i then v else V j
theorem setV_same (V : Nat → Value) (i : Nat) (v : Value) : setV V i v i = v := if_pos rfl
theorem setV_ne (V : Nat → Value) (i j : Nat) (v : Value) (h : j ≠ i) : setV V i v j = V j := if_neg h
theorem own_ge {w : World} {B e size n : Nat} {v : Value} {xs : List Value} (h : w.ownsRow B e size v n xs) : ∀ b, v.ownBlock = some b → B ≤ b := fun b hb => (h.lt b hb).1

/-- Other names at a number. -/
theorem Rf.names {w w6 : World} {x g u : Nat} {V : Nat → Value} {F : Fs} (H : Rf w x g u V F) (n : Nat) (hn : n < 17) (Q : List (List UInt8 × Nat)) (v : Value) (hB : Below w.heap.size w w6) (hO : w6.ownsRow w.heap.size 151 2 v Q.length (nmC Q)) :
    Rf (w6.setCell ⟨g, n * 6 + 5, none⟩ v) x g u (setV V (n * 3 + 2) v) (F.nq n Q) := by
  refine H.put (U := fun _ => False) n hn { F.P n with Q := Q } _ (fun i hi => setV_ne _ _ _ _ (fun e => hi (by omega))) (Upd.of_below hB) (fun _ _ h => h.elim) 5 [v] (by simp) ?_ ?_ ?_ ?_ ?_ ?_
  · rw [setV_same, setV_ne _ _ _ _ (by omega), setV_ne _ _ _ _ (by omega)]; rfl
  · rw [setV_ne _ _ _ _ (by omega)]; exact (H.grow hB).rb n hn
  · rw [setV_ne _ _ _ _ (by omega)]; exact (H.grow hB).rB n hn
  · rw [setV_same]; exact own_mono hO (Nat.zero_le _)
  · intro i b hi e
    by_cases h : i = n * 3 + 2
    · subst h
      rw [setV_same] at e
      exact .inl (own_ge hO b e)
    · rw [setV_ne _ _ _ _ h] at e
      exact .inr e
  · intro i j b hi hj hb ei ej
    by_cases h : i = n * 3 + 2
    · by_cases h' : j = n * 3 + 2
      · omega
      · rw [setV_ne _ _ _ _ h'] at ej
        exact absurd (H.foot_lt b (.inr (.inr (.inr ⟨j, by omega, ej⟩)))) (by omega)
    · rw [setV_ne _ _ _ _ h] at ei
      exact absurd (H.foot_lt b (.inr (.inr (.inr ⟨i, by omega, ei⟩)))) (by omega)

end Go.Proofs.YtoknhcjneliboaaGreat

/- The document's drop of a name. -/
namespace Go.Proofs.YtoknhcjneliboaaGreat
open Go.RowKit
set_option linter.unusedVariables false
set_option maxRecDepth 20000

/-- The document's system afterwards: what it owns is what it owned, or new. -/
def RfTo (w : World) (x g u : Nat) (V : Nat → Value) (F' : Fs) (w' : World) : Prop := ∃ V', Rf w' x g u V' F' ∧ Upd (RfFoot x g u V) w w' ∧ ∀ b, RfFoot x g u V' b → RfFoot x g u V b ∨ w.heap.size ≤ b
theorem Rf.same {w w' : World} {x g u : Nat} {V : Nat → Value} {F : Fs} (H : Rf w x g u V F) (hb : Below w.heap.size w w') : RfTo w x g u V F w' := ⟨V, H.grow hb, Upd.of_below hb, fun b h => .inl h⟩
theorem RfTo.trans {w w1 w2 : World} {x g u : Nat} {V V1 : Nat → Value} {F2 : Fs} (hU : Upd (RfFoot x g u V) w w1) (hV : ∀ b, RfFoot x g u V1 b → RfFoot x g u V b ∨ w.heap.size ≤ b) (h : RfTo w1 x g u V1 F2 w2) : RfTo w x g u V F2 w2 := by
  obtain ⟨V2, h1, h2, h3⟩ := h
  refine ⟨V2, h1, hU.trans h2 (fun b hb h => ?_), fun b h => ?_⟩
  · rcases hV b h with q | q
    · exact q
    · omega
  · rcases h3 b h with q | q
    · exact hV b q
    · exact .inr (Nat.le_trans hU.size q)

theorem Rf.frz {w : World} {x g u : Nat} {V : Nat → Value} {F : Fs} (H : Rf w x g u V F) (j : Nat) : w.frozen? ⟨g, j, none⟩ = false := by
  obtain ⟨C, h1, _⟩ := H.nds
  simp [World.frozen?, h1]
theorem Rf.lts {w : World} {x g u : Nat} {V : Nat → Value} {F : Fs} (H : Rf w x g u V F) : x < w.heap.size ∧ g < w.heap.size ∧ u < w.heap.size := ⟨H.foot_lt x (.inl rfl), H.foot_lt g (.inr (.inl rfl)), H.foot_lt u (.inr (.inr (.inl rfl)))⟩

theorem Rf.names_to {w w6 : World} {x g u : Nat} {V : Nat → Value} {F : Fs} (H : Rf w x g u V F) (n : Nat) (hn : n < 17) (Q : List (List UInt8 × Nat)) (v : Value) (hB : Below w.heap.size w w6) (hO : w6.ownsRow w.heap.size 151 2 v Q.length (nmC Q)) :
    RfTo w x g u V (F.nq n Q) (w6.setCell ⟨g, n * 6 + 5, none⟩ v) := by
  refine ⟨_, H.names n hn Q v hB hO, (Upd.of_below hB).trans (Upd.setCell (F := RfFoot x g u V) w6 ⟨g, n * 6 + 5, none⟩ v (.inr (.inl rfl))) (fun b _ h => h), fun b hb => ?_⟩
  rcases hb with h | h | h | ⟨i, hi, h⟩
  · exact .inl (.inl h)
  · exact .inl (.inr (.inl h))
  · exact .inl (.inr (.inr (.inl h)))
  · by_cases e : i = n * 3 + 2
    · subst e
      rw [setV_same] at h
      exact .inr (own_ge hO b h)
    · rw [setV_ne _ _ _ _ e] at h
      exact .inl (.inr (.inr (.inr ⟨i, hi, h⟩)))

theorem nmC_app : ∀ (a b : List (List UInt8 × Nat)), nmC (a ++ b) = nmC a ++ nmC b
  | [], b => rfl
  | x :: r, b => by simp [nmC, nmC_app r b]

theorem cell_two2 (w : World) (o : Obj) (u v : Value) (ty : TypeId) : ∀ j x, ([u, v] : List Value)[j]? = some x → ((w.alloc o).alloc (.cells #[u, v] ty)).cell? ((⟨w.heap.size + 1, 0, none⟩ : Addr).add j) = some x := by
  have h := cell_two (w.alloc o) u v ty
  rwa [show (w.alloc o).heap.size = w.heap.size + 1 by simp] at h

set_option maxHeartbeats 4000000 in
theorem rdropn_any (x g u : Nat) (V : Nat → Value) (F : Fs) (w : World) (H : Rf w x g u V F) (n : Nat) (hn : n < 17) (hq6 : (F.P n).Q.length ≤ 6) (t : ByteArray) :
    Calls Tryz.prog 110 #[.pointer (some ⟨x, 0, none⟩), .int .i64 (n : Int), .string t] w fun e w' => e = .returned (.tuple #[]) ∧ RfTo w x g u V (F.deln n (bl t)) w' := by
  obtain ⟨i0, hi0, hz0, hz1, hz2⟩ := info_parts infoNm
  have c0 := H.c0
  have c1 := H.q n hn
  have HLT := hid H.lts
  have n0 : (0 : Int) ≤ (n : Int) := by omega
  have n1 : (n : Int) < 17 := by omega
  obtain ⟨Q, gQ⟩ : ∃ Q, Q = (F.P n).Q := ⟨_, rfl⟩
  have hQ := H.rQ n hn
  rw [← gQ] at hQ hq6
  have HD : Hid (F.deln n (bl t) = F.nq n (del (bl t) Q)) := hid (by rw [gQ]; rfl)
  rw [HD.out]
  obtain ⟨a, c, eV, hnc, hcm, hcell⟩ := own_shp hQ
  rw [eV] at c1
  obtain ⟨L, gL⟩ : ∃ L, L = Q.length := ⟨_, rfl⟩
  rw [← gL] at c1 hcell hnc hq6
  have GL := hid gL
  have HC := hid hcell
  have HR := hid H
  clear H gQ hQ hcell gL eV
  go_enter Tryz.func110, Tryz.ntmps110
  go_wp2_with fail
  go_loopw [6, 18] (fun v6 v18 wr => ∃ (j k : Nat) (a' : Option Addr) (c' : Nat) (acc : List (List UInt8 × Nat)), j ≤ L ∧ k ≤ j ∧ v18 = .int .i64 (j : Int) ∧ v6 = .slice a' k c' ∧ Hid (acc.length = k) ∧ Hid (wr.ownsRow w.heap.size 151 2 (.slice a' k c') k (nmC acc)) ∧ Hid (Below w.heap.size w wr) ∧ Hid (del (bl t) Q = acc ++ del (bl t) (Q.drop j))) (fun _ v18 _ => L - (intOf v18).toNat)
  case atStart => exact ⟨0, 0, none, 0, [], Nat.zero_le _, Nat.le_refl _, rfl, rfl, hid rfl, hid (World.ownsRow_nil _ _ _ _), hid (Below.refl _ _), hid rfl⟩
  case round =>
    obtain ⟨j, k, a', c', acc, hj, hk, rfl, rfl, HK, HO, HB, HN⟩ := hrel
    have HBs := HB.out.size
    by_cases hlt : j < L
    · have hj2 : (j : Int) < (L : Int) := by omega
      have hj0 : (0 : Int) ≤ (j : Int) := by omega
      have hj3 : j + 1 ≤ L := hlt
      have hjQ : j < Q.length := by rw [← GL.out]; exact hlt
      obtain ⟨q, rfl, _, hqs, hcc⟩ := HC.out (by omega)
      obtain ⟨y1, y2⟩ := nmC_at Q j hjQ
      have d1 := (HB.out.cell (p := ⟨q, j * 2, none⟩) hqs).trans (hcc _ _ y1)
      have d2 := (HB.out.cell (p := ⟨q, j * 2 + 1, none⟩) hqs).trans (hcc _ _ y2)
      have hs := bs_eq Q[j].1 t
      have hdr : Q.drop j = Q[j] :: Q.drop (j + 1) := List.drop_eq_getElem_cons hjQ
      have HY : Hid (Q[j].1 = bl t → del (bl t) Q = acc ++ del (bl t) (Q.drop (j + 1))) := hid (fun h => by
        rw [HN.out, hdr]; unfold del; rw [List.filter_cons_of_neg (by simp [h])])
      have HZ : Hid (Q[j].1 ≠ bl t → del (bl t) Q = (acc ++ [Q[j]]) ++ del (bl t) (Q.drop (j + 1))) := hid (fun h => by
        rw [HN.out, hdr]; unfold del; rw [List.filter_cons_of_pos (by simp [h])]; simp)
      have HC2 : Hid (nmC (acc ++ [Q[j]]) = nmC acc ++ [.string (bs Q[j].1), .int .i64 (Q[j].2 : Int)]) := hid (by rw [nmC_app]; rfl)
      have HC3 : Hid ((acc ++ [Q[j]]).length = k + 1) := hid (by simp [HK.out])
      have HZ2 : Hid (∃ yj, yj = Q[j]) := hid ⟨_, rfl⟩
      generalize bs Q[j].1 = sj at d1 hs HC2
      generalize Q[j].2 = mj at d2 HC2
      by_cases hh : Q[j].1 = bl t
      · rw [show decide (Q[j].1 = bl t) = true by simp [hh]] at hs
        have hs2 : (!(sj.toList == t.toList)) = false := by rw [hs]; rfl
        have HR2 := hid (HY.out hh)
        clear hcc y1 y2 hh HY HZ hs hdr HC2 HC3 HZ2
        go_wp2_with fail
        go_roundw
        case rel => exact ⟨j + 1, k, a', c', acc, hj3, by omega, by go_num, rfl, HK, hid (HO.out.alloc _), hid (HB.out.alloc HBs _), HR2⟩
        case measure => simp [intOf]; omega
      · rw [show decide (Q[j].1 = bl t) = false by simp [hh]] at hs
        have hs2 : (!(sj.toList == t.toList)) = true := by rw [hs]; rfl
        have HR2 := hid (HZ.out hh)
        generalize acc ++ [Q[j]] = acc2 at HR2 HC2 HC3
        clear hcc y1 y2 hh HY HZ hs hdr HZ2
        go_wp2_with (at_builtin; go_must (refine wpList_append_own _ rfl (.tmp 26) (.tmp 28) 115 rfl w.heap.size 151 i0 _ 2 24 Tryz.underlying115 hi0 hz0 hz1 hz2 rfl (by decide) _ k (nmC acc) rfl ((HO.out.alloc _).alloc _) ⟨_, 0, none⟩ 1 1 [.string sj, .int .i64 mj] rfl rfl (cell_two2 _ _ _ _ _) (by simp [Value.oneCell']) (by unfold maxLen; omega) (by omega) (by simp; omega) ?_))
        intro v' w6 hO hG hN
        have hbel : Below w.heap.size w w6 := ((HB.out.alloc HBs _).alloc (by simp; omega) (.cells #[.string sj, .int .i64 mj] 151)).grown hG (by simp; omega) (fun x hx => (HO.out.lt x hx).1)
        obtain ⟨va, vc, rfl⟩ : ∃ va vc, v' = .slice va (k + 1) vc := by
          rcases hO.2 with ⟨h1, h2⟩ | ⟨g, c, cur, rfl, _⟩
          · omega
          · exact ⟨_, c, rfl⟩
        rw [← HC2.out] at hO
        have HO2 := hid hO
        have HB2 := hid hbel
        clear hO hG hN hbel HO HB
        go_wp2_with fail
        go_roundw
        case rel => exact ⟨j + 1, k + 1, va, vc, acc2, hj3, by omega, by go_num, rfl, HC3, HO2, HB2, HR2⟩
        case measure => simp [intOf]; omega
    · have hj2 : ¬ (j : Int) < (L : Int) := by omega
      have e : del (bl t) Q = acc := by
        have h := HN.out
        rw [List.drop_of_length_le (by have := GL.out; omega)] at h
        simpa [del] using h
      have d0 := (HB.out.cell (p := ⟨x, 0, none⟩) HLT.out.1).trans c0
      have d1 := (HB.out.cell (p := ⟨g, n * 6 + 5, none⟩) HLT.out.2.1).trans c1
      have d2 := (HR.out.grow HB.out).frz (n * 6 + 5)
      have HT : Hid (RfTo w x g u V (F.nq n (del (bl t) Q)) (wr.setCell ⟨g, n * 6 + 5, none⟩ (.slice a' k c'))) := hid (by
        rw [e]
        have h := HO.out
        rw [← HK.out] at h ⊢
        exact HR.out.names_to n hn acc _ HB.out h)
      clear e HN HO HB HR c0 c1
      go_wp2_with fail
      go_end0
      exact ⟨rfl, HT.out⟩
end Go.Proofs.YtoknhcjneliboaaGreat

/- The document's add of a name. -/
namespace Go.Proofs.YtoknhcjneliboaaGreat
open Go.RowKit
set_option linter.unusedVariables false
set_option maxRecDepth 20000

theorem gt_bs (l : List UInt8) (t : ByteArray) : (!(Op.bytesLess (bs l).toList t.toList || (bs l).toList == t.toList)) = gtB l (bl t) := by
  unfold gtB
  rw [ByteArray.toList_eq, ByteArray.toList_eq]
  rfl
theorem ins_cons (s : List UInt8) (m : Nat) (x : List UInt8 × Nat) (r : List (List UInt8 × Nat)) : ins s m (x :: r) = if gtB x.1 s = true then (s, m) :: x :: r else x :: ins s m r := rfl

/-- How far add is. -/
def AddI (s : List UInt8) (m : Nat) (Q acc : List (List UInt8 × Nat)) (j : Nat) (put : Bool) : Prop := ins s m Q = acc ++ (if put = true then Q.drop j else ins s m (Q.drop j))

set_option maxHeartbeats 8000000 in
theorem radd_any (x g u : Nat) (V : Nat → Value) (F : Fs) (w : World) (H : Rf w x g u V F) (n : Nat) (hn : n < 17) (hq6 : (F.P n).Q.length ≤ 6) (t : ByteArray) (m : Nat) :
    Calls Tryz.prog 112 #[.pointer (some ⟨x, 0, none⟩), .int .i64 (n : Int), .string t, .int .i64 (m : Int)] w fun e w' => e = .returned (.tuple #[]) ∧ RfTo w x g u V (F.addn n (bl t) m) w' := by
  obtain ⟨i0, hi0, hz0, hz1, hz2⟩ := info_parts infoNm
  have c0 := H.c0
  have c1 := H.q n hn
  have HLT := hid H.lts
  have n0 : (0 : Int) ≤ (n : Int) := by omega
  have n1 : (n : Int) < 17 := by omega
  obtain ⟨Q, gQ⟩ : ∃ Q, Q = (F.P n).Q := ⟨_, rfl⟩
  have hQ := H.rQ n hn
  rw [← gQ] at hQ hq6
  have HD : Hid (F.addn n (bl t) m = F.nq n (ins (bl t) m Q)) := hid (by rw [gQ]; rfl)
  rw [HD.out]
  obtain ⟨a, c, eV, hnc, hcm, hcell⟩ := own_shp hQ
  rw [eV] at c1
  obtain ⟨L, gL⟩ : ∃ L, L = Q.length := ⟨_, rfl⟩
  rw [← gL] at c1 hcell hnc hq6
  have GL := hid gL
  have HC := hid hcell
  have HR := hid H
  clear H gQ hQ hcell gL eV
  go_enter Tryz.func112, Tryz.ntmps112
  go_wp2_with fail
  go_loopw [8, 9, 21] (fun v8 v9 v21 wr => ∃ (j k : Nat) (put : Bool) (a' : Option Addr) (c' : Nat) (acc : List (List UInt8 × Nat)), j ≤ L ∧ k ≤ 2 * j + 1 ∧ v21 = .int .i64 (j : Int) ∧ v9 = .bool put ∧ v8 = .slice a' k c' ∧ Hid (acc.length = k) ∧ Hid (wr.ownsRow w.heap.size 151 2 (.slice a' k c') k (nmC acc)) ∧ Hid (Below w.heap.size w wr) ∧ Hid (AddI (bl t) m Q acc j put)) (fun _ _ v21 _ => L - (intOf v21).toNat)
  case atStart => exact ⟨0, 0, false, none, 0, [], Nat.zero_le _, by omega, rfl, rfl, rfl, hid rfl, hid (World.ownsRow_nil _ _ _ _), hid (Below.refl _ _), hid rfl⟩
  case round =>
    obtain ⟨j, k, put, a', c', acc, hj, hk, rfl, rfl, rfl, HK, HO, HB, HN⟩ := hrel
    have HBs := HB.out.size
    by_cases hlt : j < L
    · have hj2 : (j : Int) < (L : Int) := by omega
      have hj0 : (0 : Int) ≤ (j : Int) := by omega
      have hj3 : j + 1 ≤ L := hlt
      have hjQ : j < Q.length := by rw [← GL.out]; exact hlt
      obtain ⟨q, rfl, _, hqs, hcc⟩ := HC.out (by omega)
      obtain ⟨y1, y2⟩ := nmC_at Q j hjQ
      have d1 := (HB.out.cell (p := ⟨q, j * 2, none⟩) hqs).trans (hcc _ _ y1)
      have d2 := (HB.out.cell (p := ⟨q, j * 2 + 1, none⟩) hqs).trans (hcc _ _ y2)
      have hs := gt_bs Q[j].1 t
      have hdr : Q.drop j = Q[j] :: Q.drop (j + 1) := List.drop_eq_getElem_cons hjQ
      have HA1 : Hid (put = true → AddI (bl t) m Q (acc ++ [Q[j]]) (j + 1) true) := hid (fun h => by
        subst h; have := HN.out; unfold AddI at this ⊢; rw [this, hdr]; simp)
      have HA2 : Hid (put = false → gtB Q[j].1 (bl t) = true → AddI (bl t) m Q (acc ++ [(bl t, m)] ++ [Q[j]]) (j + 1) true) := hid (fun h h2 => by
        subst h; have := HN.out; unfold AddI at this ⊢; rw [this, hdr, ins_cons, if_pos h2]; simp)
      have HA3 : Hid (put = false → gtB Q[j].1 (bl t) = false → AddI (bl t) m Q (acc ++ [Q[j]]) (j + 1) false) := hid (fun h h2 => by
        subst h; have := HN.out; unfold AddI at this ⊢; rw [this, if_neg (show ¬ (false = true) by simp), if_neg (show ¬ (false = true) by simp), hdr, ins_cons, if_neg (by rw [h2]; simp)]; simp)
      have HC2 : Hid (∀ l : List (List UInt8 × Nat), nmC (l ++ [Q[j]]) = nmC l ++ [.string (bs Q[j].1), .int .i64 (Q[j].2 : Int)]) := hid (fun l => by rw [nmC_app]; rfl)
      have HC3 : Hid (∀ l : List (List UInt8 × Nat), (l ++ [Q[j]]).length = l.length + 1) := hid (by simp)
      have HC4 : Hid (nmC (acc ++ [(bl t, m)]) = nmC acc ++ [.string t, .int .i64 (m : Int)]) := hid (by rw [nmC_app]; show nmC acc ++ [.string (bs (bl t)), _] = _; rw [bs_bl])
      obtain ⟨G, gG⟩ : ∃ G, G = gtB Q[j].1 (bl t) := ⟨_, rfl⟩
      rw [← gG] at hs HA2 HA3
      generalize hyj : Q[j] = yj at HA1 HA2 HA3 HC2 HC3 hs d1 d2
      generalize bs yj.1 = sj at d1 hs HC2
      generalize yj.2 = mj at d2 HC2
      clear hyj gG hdr y1 y2 hcc HN
      cases put with
      | true =>
        have HR2 := hid (HA1.out rfl)
        clear HA1 HA2 HA3 hs HC4
        go_wp2_with (at_builtin; go_must (refine wpList_append_own _ rfl (.tmp 39) (.tmp 41) 115 rfl w.heap.size 151 i0 _ 2 24 Tryz.underlying115 hi0 hz0 hz1 hz2 rfl (by decide) _ k (nmC acc) rfl ((HO.out.alloc _).alloc _) ⟨_, 0, none⟩ 1 1 [.string sj, .int .i64 mj] rfl rfl (cell_two2 _ _ _ _ _) (by simp [Value.oneCell']) (by unfold maxLen; omega) (by omega) (by simp; omega) ?_))
        intro v' w6 hO hG hN
        have hbel : Below w.heap.size w w6 := ((HB.out.alloc HBs _).alloc (by simp; omega) (.cells #[.string sj, .int .i64 mj] 151)).grown hG (by simp; omega) (fun x hx => (HO.out.lt x hx).1)
        obtain ⟨va, vc, rfl⟩ : ∃ va vc, v' = .slice va (k + 1) vc := by
          rcases hO.2 with ⟨h1, h2⟩ | ⟨g, c, cur, rfl, _⟩
          · omega
          · exact ⟨_, c, rfl⟩
        rw [← HC2.out] at hO
        have HO2 := hid hO
        have HB2 := hid hbel
        clear hO hG hN hbel HO HB
        go_wp2_with fail
        go_roundw
        case rel => exact ⟨j + 1, k + 1, true, va, vc, acc ++ [yj], hj3, by omega, by go_num, rfl, rfl, hid (by rw [HC3.out, HK.out]), HO2, HB2, HR2⟩
        case measure => simp [intOf]; omega
      | false =>
        cases G with
        | false =>
          have HR2 := hid (HA3.out rfl rfl)
          clear HA1 HA2 HA3 HC4
          go_wp2_with (at_builtin; go_must (refine wpList_append_own _ rfl (.tmp 39) (.tmp 41) 115 rfl w.heap.size 151 i0 _ 2 24 Tryz.underlying115 hi0 hz0 hz1 hz2 rfl (by decide) _ k (nmC acc) rfl ((HO.out.alloc _).alloc _) ⟨_, 0, none⟩ 1 1 [.string sj, .int .i64 mj] rfl rfl (cell_two2 _ _ _ _ _) (by simp [Value.oneCell']) (by unfold maxLen; omega) (by omega) (by simp; omega) ?_))
          intro v' w6 hO hG hN
          have hbel : Below w.heap.size w w6 := ((HB.out.alloc HBs _).alloc (by simp; omega) (.cells #[.string sj, .int .i64 mj] 151)).grown hG (by simp; omega) (fun x hx => (HO.out.lt x hx).1)
          obtain ⟨va, vc, rfl⟩ : ∃ va vc, v' = .slice va (k + 1) vc := by
            rcases hO.2 with ⟨h1, h2⟩ | ⟨g, c, cur, rfl, _⟩
            · omega
            · exact ⟨_, c, rfl⟩
          rw [← HC2.out] at hO
          have HO2 := hid hO
          have HB2 := hid hbel
          clear hO hG hN hbel HO HB
          go_wp2_with fail
          go_roundw
          case rel => exact ⟨j + 1, k + 1, false, va, vc, acc ++ [yj], hj3, by omega, by go_num, rfl, rfl, hid (by rw [HC3.out, HK.out]), HO2, HB2, HR2⟩
          case measure => simp [intOf]; omega
        | true =>
          have HR2 := hid (HA2.out rfl rfl)
          clear HA1 HA2 HA3
          go_wp2_with (at_builtin; go_must (refine wpList_append_own _ rfl (.tmp 33) (.tmp 37) 115 rfl w.heap.size 151 i0 _ 2 24 Tryz.underlying115 hi0 hz0 hz1 hz2 rfl (by decide) _ k (nmC acc) rfl ((HO.out.alloc _).alloc _) ⟨_, 0, none⟩ 1 1 [.string t, .int .i64 (m : Int)] rfl rfl (cell_two2 _ _ _ _ _) (by simp [Value.oneCell']) (by unfold maxLen; omega) (by omega) (by simp; omega) ?_))
          intro v' w6 hO hG hN
          have hbel : Below w.heap.size w w6 := ((HB.out.alloc HBs _).alloc (by simp; omega) (.cells #[.string t, .int .i64 (m : Int)] 151)).grown hG (by simp; omega) (fun x hx => (HO.out.lt x hx).1)
          obtain ⟨va, vc, rfl⟩ : ∃ va vc, v' = .slice va (k + 1) vc := by
            rcases hO.2 with ⟨h1, h2⟩ | ⟨g, c, cur, rfl, _⟩
            · omega
            · exact ⟨_, c, rfl⟩
          rw [← HC4.out] at hO
          have HO2 := hid hO
          have HB2 := hid hbel
          have hw6 := hG.size
          have b1 : w6.cell? ⟨wr.heap.size, 0, none⟩ = some (.string sj) := (World.cell?_of_block (a := ⟨wr.heap.size, 0, none⟩) (hG.block wr.heap.size (by simp; omega) (fun e => by have := (HO.out.lt _ e.symm).2; omega))).trans (by go_simp)
          have b2 : w6.cell? ⟨wr.heap.size, 1, none⟩ = some (.int .i64 (mj : Int)) := (World.cell?_of_block (a := ⟨wr.heap.size, 1, none⟩) (hG.block wr.heap.size (by simp; omega) (fun e => by have := (HO.out.lt _ e.symm).2; omega))).trans (by go_simp)
          have hwb : w.heap.size ≤ w6.heap.size := hbel.size
          clear hO hG hN hbel HO HB d1 d2
          go_wp2_with (at_builtin; go_must (refine wpList_append_own _ rfl (.tmp 39) (.tmp 41) 115 rfl w.heap.size 151 i0 _ 2 24 Tryz.underlying115 hi0 hz0 hz1 hz2 rfl (by decide) _ (k + 1) (nmC (acc ++ [(bl t, m)])) rfl (HO2.out.alloc _) ⟨_, 0, none⟩ 1 1 [.string sj, .int .i64 mj] rfl rfl (cell_two _ _ _ _) (by simp [Value.oneCell']) (by unfold maxLen; omega) (by omega) (by simp; omega) ?_))
          intro v' w8 hO hG hN
          have hbel : Below w.heap.size w w8 := (HB2.out.alloc hwb (.cells #[.string sj, .int .i64 mj] 151)).grown hG (by simp; omega) (fun x hx => (HO2.out.lt x hx).1)
          obtain ⟨wa, wc, rfl⟩ : ∃ wa wc, v' = .slice wa (k + 1 + 1) wc := by
            rcases hO.2 with ⟨h1, h2⟩ | ⟨g, c, cur, rfl, _⟩
            · omega
            · exact ⟨_, c, rfl⟩
          rw [← HC2.out] at hO
          have HO3 := hid hO
          have HB3 := hid hbel
          clear hO hG hN hbel HO2 HB2
          go_wp2_with fail
          go_roundw
          case rel => exact ⟨j + 1, k + 1 + 1, true, wa, wc, acc ++ [(bl t, m)] ++ [yj], hj3, by omega, by go_num, rfl, rfl, hid (by rw [HC3.out]; simp [HK.out]), HO3, HB3, HR2⟩
          case measure => simp [intOf]; omega
    · have hj2 : ¬ (j : Int) < (L : Int) := by omega
      have d0 := (HB.out.cell (p := ⟨x, 0, none⟩) HLT.out.1).trans c0
      have d1 := (HB.out.cell (p := ⟨g, n * 6 + 5, none⟩) HLT.out.2.1).trans c1
      have d2 := (HR.out.grow HB.out).frz (n * 6 + 5)
      have hdn : Q.drop j = [] := List.drop_of_length_le (by have := GL.out; omega)
      cases put with
      | true =>
        have e : ins (bl t) m Q = acc := by
          have h := HN.out
          unfold AddI at h
          rw [hdn] at h
          simpa using h
        have HT : Hid (RfTo w x g u V (F.nq n (ins (bl t) m Q)) (wr.setCell ⟨g, n * 6 + 5, none⟩ (.slice a' k c'))) := hid (by
          rw [e]
          have h := HO.out
          rw [← HK.out] at h ⊢
          exact HR.out.names_to n hn acc _ HB.out h)
        clear e HN HO HB HR c0 c1
        go_wp2_with fail
        go_end0
        exact ⟨rfl, HT.out⟩
      | false =>
        have HE : Hid (ins (bl t) m Q = acc ++ [(bl t, m)]) := hid (by
          have h := HN.out
          unfold AddI at h
          rw [hdn] at h
          simpa [ins] using h)
        have HC4 : Hid (nmC (acc ++ [(bl t, m)]) = nmC acc ++ [.string t, .int .i64 (m : Int)]) := hid (by rw [nmC_app]; show nmC acc ++ [.string (bs (bl t)), _] = _; rw [bs_bl])
        clear hdn HN d0 d1 d2
        go_wp2_with (at_builtin; go_must (refine wpList_append_own _ rfl (.tmp 46) (.tmp 50) 115 rfl w.heap.size 151 i0 _ 2 24 Tryz.underlying115 hi0 hz0 hz1 hz2 rfl (by decide) _ k (nmC acc) rfl (HO.out.alloc _) ⟨_, 0, none⟩ 1 1 [.string t, .int .i64 (m : Int)] rfl rfl (cell_two _ _ _ _) (by simp [Value.oneCell']) (by unfold maxLen; omega) (by omega) (by simp; omega) ?_))
        intro v' w6 hO hG hN
        have hbel : Below w.heap.size w w6 := (HB.out.alloc HBs (.cells #[.string t, .int .i64 (m : Int)] 151)).grown hG (by simp; omega) (fun x hx => (HO.out.lt x hx).1)
        obtain ⟨va, vc, rfl⟩ : ∃ va vc, v' = .slice va (k + 1) vc := by
          rcases hO.2 with ⟨h1, h2⟩ | ⟨g, c, cur, rfl, _⟩
          · omega
          · exact ⟨_, c, rfl⟩
        rw [← HC4.out] at hO
        have d0 := (hbel.cell (p := ⟨x, 0, none⟩) HLT.out.1).trans c0
        have d1 := (hbel.cell (p := ⟨g, n * 6 + 5, none⟩) HLT.out.2.1).trans c1
        have d2 := (HR.out.grow hbel).frz (n * 6 + 5)
        have HT : Hid (RfTo w x g u V (F.nq n (ins (bl t) m Q)) (w6.setCell ⟨g, n * 6 + 5, none⟩ (.slice va (k + 1) vc))) := hid (by
          rw [HE.out]
          have e : (acc ++ [(bl t, m)]).length = k + 1 := by simp [HK.out]
          have h := hO
          rw [← e] at h ⊢
          exact HR.out.names_to n hn _ _ hbel h)
        clear hO hG hN hbel HO HB HR HE c0 c1
        go_wp2_with fail
        go_end0
        exact ⟨rfl, HT.out⟩

end Go.Proofs.YtoknhcjneliboaaGreat

/- The document's free and gone. -/
namespace Go.Proofs.YtoknhcjneliboaaGreat
open Go.RowKit
set_option linter.unusedVariables false
set_option maxRecDepth 20000

theorem Rf.mark {w : World} {x g u : Nat} {V : Nat → Value} {F : Fs} (H : Rf w x g u V F) (b : Nat) (hb : b < 25) (v : Bool) : Rf (w.setCell ⟨u, b, none⟩ (.bool v)) x g u V { F with T := updT F.T b v } := by
  obtain ⟨C, h1, h2, h3⟩ := H.nds
  obtain ⟨D, h4, h5, h6⟩ := H.use
  have hs : Upd (· = u) w (w.setCell ⟨u, b, none⟩ (.bool v)) := Upd.setCell w ⟨u, b, none⟩ (.bool v) rfl
  have hu7 := heap_setCells u 4 [.bool v] b w D h4 (by simp; omega)
  refine ⟨hs.heap H.at0 H.ne.2.1, ⟨C, hs.heap h1 H.ne.2.2, h2, h3⟩, ⟨splice D b [.bool v], hu7, by rw [length_splice _ _ _ (by simp; omega)]; exact h5, ?_⟩, ?_, ?_, ?_, H.ap, H.ng, H.ne⟩
  · intro i hi
    by_cases e : i = b
    · subst e
      have := getElem?_splice_in D [.bool v] i 0 (by simp; omega) (by simp)
      rw [Nat.add_zero] at this
      rw [this]
      show some _ = some (Value.bool (updT F.T i v i))
      rw [updT_same]
    · rw [getElem?_splice_out D [.bool v] b i (by simp; omega) (by simp; omega), h6 i hi]
      show some _ = some (Value.bool (updT F.T b v i))
      rw [updT_ne _ _ _ _ e]
  · exact fun i hi => hs.own (H.rb i hi) (fun k hk => (H.ng _ k (by omega) hk).2.2)
  · exact fun i hi => hs.own (H.rB i hi) (fun k hk => (H.ng _ k (by omega) hk).2.2)
  · exact fun i hi => hs.own (H.rQ i hi) (fun k hk => (H.ng _ k (by omega) hk).2.2)

theorem relB_nil (F : Fs) : F.relB [] = F := by unfold Fs.relB; split <;> simp
theorem relB_yes (F : Fs) (B : List Nat) (h : dfc F.d 2 = true) : F.relB B = F := if_pos h
theorem relB_snoc (F : Fs) (B : List Nat) (b : Nat) (h : dfc F.d 2 = false) : { F.relB B with T := updT (F.relB B).T b false } = F.relB (B ++ [b]) := by
  unfold Fs.relB
  rw [if_neg (by simp [h]), if_neg (by simp [h])]
  suffices e : updT (fun b => if b ∈ B then false else F.T b) b false = fun b_1 => if b_1 ∈ B ++ [b] then false else F.T b_1 by
    show Fs.mk _ _ _ = Fs.mk _ _ _
    exact congrArg (Fs.mk F.d F.P) e
  funext i
  unfold updT
  by_cases e : i = b
  · subst e; simp
  · simp [e]

set_option maxHeartbeats 4000000 in
theorem rfree_any (x g u : Nat) (V : Nat → Value) (F : Fs) (w : World) (H : Rf w x g u V F) (a : Option Addr) (L c : Nat) (B : List Nat) (hL : B.length = L) (hL2 : L ≤ 1000) (hB : ∀ b ∈ B, b < 25)
    (hcell : ∀ j, ∀ h : j < B.length, ∃ q o, a = some ⟨q, o, none⟩ ∧ q < w.heap.size ∧ q ≠ u ∧ w.cell? ⟨q, o + j, none⟩ = some (.int .i64 (B[j] : Int))) :
    Calls Tryz.prog 99 #[.pointer (some ⟨x, 0, none⟩), .slice a L c] w fun e w' => e = .returned (.tuple #[]) ∧ Rf w' x g u V (F.relB B) ∧ Upd (· = u) w w' := by
  have HC := hid hcell
  have HB := hid hB
  have GL := hid hL
  have HI : Hid (Rf w x g u V (F.relB (B.take 0))) := hid (by rw [List.take_zero, relB_nil]; exact H)
  clear H hcell hB hL
  go_enter Tryz.func99, Tryz.ntmps99
  go_wp2_with fail
  go_loopw [5, 8] (fun v5 v8 wr => ∃ j : Nat, j ≤ L ∧ v8 = .int .i64 (j : Int) ∧ Hid (Rf wr x g u V (F.relB (B.take j))) ∧ Hid (Upd (· = u) w wr)) (fun _ v8 _ => L - (intOf v8).toNat)
  case atStart => exact ⟨0, Nat.zero_le _, rfl, HI, hid (Upd.refl _ _)⟩
  case round =>
    clear HI
    obtain ⟨j, hj, rfl, HR, HU⟩ := hrel
    by_cases hlt : j < L
    · have hj2 : (j : Int) < (L : Int) := by omega
      have hj0 : (0 : Int) ≤ (j : Int) := by omega
      have hj3 : j + 1 ≤ L := hlt
      have hjB : j < B.length := by rw [GL.out]; exact hlt
      obtain ⟨q, o, rfl, hq, hqu, hcj⟩ := HC.out j hjB
      have d1 := (World.cell?_of_block (a := ⟨q, o + j, none⟩) (HU.out.block q hq hqu)).trans hcj
      have hb := HB.out B[j] (List.getElem_mem hjB)
      have k1 := hid (rhas_any x g u V _ wr HR.out 2)
      rw [relB_d] at k1
      have ht : B.take (j + 1) = B.take j ++ [B[j]] := (List.take_append_getElem hjB).symm
      have c1 := HR.out.c1
      have hth : ∃ D : List Value, wr.heap[u]? = some (.cells D.toArray 4 (0, 0)) ∧ D.length = 25 := by
        obtain ⟨D, h1, h2, _⟩ := HR.out.use; exact ⟨D, h1, h2⟩
      have d2 := HR.out.t B[j] hb
      have d3 : wr.frozen? ⟨u, B[j], none⟩ = false := by
        obtain ⟨D, h1, _⟩ := hth; simp [World.frozen?, h1]
      have b0 : (0 : Int) ≤ (B[j] : Int) := by omega
      have b1 : (B[j] : Int) < 25 := by omega
      have HN1 : Hid (dfc F.d 2 = true → Rf wr x g u V (F.relB (B.take (j + 1)))) := hid (fun h => by
        have := HR.out
        rw [relB_yes _ _ h] at this ⊢
        exact this)
      have HN2 : Hid (dfc F.d 2 = false → Rf (wr.setCell ⟨u, B[j], none⟩ (.bool false)) x g u V (F.relB (B.take (j + 1)))) := hid (fun h => by
        rw [ht, ← relB_snoc _ _ _ h]
        exact HR.out.mark _ hb false)
      have HU2 : Hid (Upd (· = u) w (wr.setCell ⟨u, B[j], none⟩ (.bool false))) := hid (HU.out.trans (Upd.setCell (F := (· = u)) wr ⟨u, B[j], none⟩ (.bool false) rfl) (fun b _ h => h))
      obtain ⟨D, gD⟩ : ∃ D, D = dfc F.d 2 := ⟨_, rfl⟩
      rw [← gD] at k1 HN1 HN2
      clear hcj ht hth gD HR
      generalize B[j] = bj at hb d1 d2 d3 b0 b1 HN2 HU2
      cases D with
      | true =>
        have HN := hid (HN1.out rfl)
        clear HN1 HN2 HU2
        go_wp2_with fail
        refine k1.out.mono ?_
        rintro e w1 ⟨rfl, rfl⟩
        clear k1
        go_wp2_with fail
        go_roundw
        case rel => exact ⟨j + 1, hj3, by go_num, HN, HU⟩
        case measure => simp [intOf]; omega
      | false =>
        have HN := hid (HN2.out rfl)
        clear HN1 HN2 HU
        go_wp2_with fail
        refine k1.out.mono ?_
        rintro e w1 ⟨rfl, rfl⟩
        clear k1
        go_wp2_with fail
        go_roundw
        case rel => exact ⟨j + 1, hj3, by go_num, HN, HU2⟩
        case measure => simp [intOf]; omega
    · have hj2 : ¬ (j : Int) < (L : Int) := by omega
      have HE : Hid (Rf wr x g u V (F.relB B)) := hid (by
        have := HR.out
        rwa [List.take_of_length_le (by have := GL.out; omega)] at this)
      clear HR
      go_wp2_with fail
      go_end0
      exact ⟨rfl, HE.out, HU.out⟩

theorem builtR0 : Tryz.prog.built 117 [] = some #[.int .i64 0, .int .i64 0, .int .i64 0, .slice none 0 0, .slice none 0 0, .slice none 0 0] := by kernel_rfl

theorem Rf.blocks {w : World} {x g u : Nat} {V : Nat → Value} {F : Fs} (H : Rf w x g u V F) (n : Nat) (hn : n < 17) : ∃ a c, V (n * 3 + 1) = .slice a (F.P n).B.length c ∧ (F.P n).B.length ≤ c ∧ c ≤ 9223372036854775807 ∧
    ∀ j, ∀ h : j < (F.P n).B.length, ∃ q o, a = some ⟨q, o, none⟩ ∧ q < w.heap.size ∧ q ≠ u ∧ w.cell? ⟨q, o + j, none⟩ = some (.int .i64 ((F.P n).B[j] : Int)) := by
  obtain ⟨a, c, e, h1, h2, h3⟩ := own_shp (H.rB n hn)
  refine ⟨a, c, e, h1, h2, fun j h => ?_⟩
  obtain ⟨q, rfl, _, hq, hc⟩ := h3 (by omega)
  refine ⟨q, 0, rfl, hq, (H.ng (n * 3 + 1) q (by omega) (by rw [e]; rfl)).2.2, ?_⟩
  rw [Nat.zero_add]
  exact hc j _ (by simp [List.getElem?_eq_getElem h])

/-- A number without a node. -/
def noV (V : Nat → Value) (n : Nat) : Nat → Value := fun i => if i / 3 = n then .slice none 0 0 else V i
theorem noV_own {V : Nat → Value} {n i b : Nat} (h : (noV V n i).ownBlock = some b) : i / 3 ≠ n ∧ (V i).ownBlock = some b := by
  unfold noV at h
  split at h
  · simp [Value.ownBlock] at h
  · exact ⟨by assumption, h⟩
theorem Rf.node {w : World} {x g u : Nat} {V : Nat → Value} {F : Fs} (H : Rf w x g u V F) (n : Nat) (hn : n < 17) (y : Fn) (hc : y.c = []) (hb : y.B = []) (hq : y.Q = []) :
    Rf (w.setCells g (n * 6) [.int .i64 y.k, .int .i64 y.l, .int .i64 y.h, .slice none 0 0, .slice none 0 0, .slice none 0 0]) x g u (noV V n) (F.at_ n y) := by
  have e : ∀ k, k < 3 → noV V n (n * 3 + k) = .slice none 0 0 := fun k hk => if_pos (by omega)
  refine H.put (U := fun _ => False) n hn y (noV V n) (fun i hi => if_neg hi) (Upd.refl _ _) (fun _ _ h => h.elim) 0 [.int .i64 y.k, .int .i64 y.l, .int .i64 y.h, .slice none 0 0, .slice none 0 0, .slice none 0 0] (by simp) ?_ ?_ ?_ ?_ ?_ ?_
  · have e0 := e 0 (by omega)
    rw [Nat.add_zero] at e0
    rw [e0, e 1 (by omega), e 2 (by omega)]; rfl
  · have e0 := e 0 (by omega)
    rw [Nat.add_zero] at e0
    rw [e0, hc]; exact World.ownsRow_nil _ _ _ _
  · rw [e 1 (by omega), hb]; exact World.ownsRow_nil _ _ _ _
  · rw [e 2 (by omega), hq]; exact World.ownsRow_nil _ _ _ _
  · intro i b hi h
    exact absurd hi (noV_own h).1
  · intro i j b hi hj hb ei ej
    exact absurd hi (noV_own ei).1
theorem noV_foot {x g u n b : Nat} {V : Nat → Value} (h : RfFoot x g u (noV V n) b) : RfFoot x g u V b := by
  rcases h with h | h | h | ⟨i, hi, h⟩
  · exact .inl h
  · exact .inr (.inl h)
  · exact .inr (.inr (.inl h))
  · exact .inr (.inr (.inr ⟨i, hi, (noV_own h).2⟩))

set_option maxHeartbeats 4000000 in
theorem rgone_any (x g u : Nat) (V : Nat → Value) (F : Fs) (w : World) (H : Rf w x g u V F) (n : Nat) (hn : n < 17) (h1 : n = 1 → 0 < (F.P n).l) (hB : ∀ b ∈ (F.P n).B, b < 25) (hBl : (F.P n).B.length ≤ 1000) :
    Calls Tryz.prog 102 #[.pointer (some ⟨x, 0, none⟩), .int .i64 (n : Int)] w fun e w' => e = .returned (.tuple #[]) ∧ RfTo w x g u V (F.gone n) w' := by
  have c0 := H.c0
  have c1 := H.l n hn
  have c2 := H.h n hn
  have n0 : (0 : Int) ≤ (n : Int) := by omega
  have n1 : (n : Int) < 17 := by omega
  have HS : Hid (0 < (F.P n).l ∨ 0 < (F.P n).h → RfTo w x g u V (F.gone n) w) := hid (fun h => by
    unfold Fs.gone
    rw [if_pos h]
    exact H.same (Below.refl _ _))
  have HG : Hid (¬ (0 < (F.P n).l ∨ 0 < (F.P n).h) → F.gone n = (F.relB (F.P n).B).at_ n Fn.no) := hid (fun h => if_neg h)
  by_cases e1 : n = 1
  · have i1 : ((n : Int) == 1) = true := by simp [e1]
    have HS2 := hid (HS.out (.inl (h1 e1)))
    generalize (F.P n).l = l at c1
    generalize (F.P n).h = k at c2
    clear HS HG h1 H hB hBl e1
    go_enter Tryz.func102, Tryz.ntmps102
    go_wp2_with fail
    (try simp only [Exit.inBlock, Exit.then])
    refine bodyPost_ret (results_none rfl _ _ _) rfl ?_
    exact ⟨rfl, HS2.out⟩
  · have i1 : ((n : Int) == 1) = false := by simp; omega
    by_cases hl : 0 < (F.P n).l
    · have HS2 := hid (HS.out (.inl hl))
      generalize (F.P n).l = l at c1 hl
      generalize (F.P n).h = k at c2
      clear HS HG h1 H hB hBl e1
      go_enter Tryz.func102, Tryz.ntmps102
      go_wp2_with fail
      (try simp only [Exit.inBlock, Exit.then])
      refine bodyPost_ret (results_none rfl _ _ _) rfl ?_
      exact ⟨rfl, HS2.out⟩
    · by_cases hh : 0 < (F.P n).h
      · have HS2 := hid (HS.out (.inr hh))
        generalize (F.P n).l = l at c1 hl
        generalize (F.P n).h = k at c2 hh
        clear HS HG h1 H hB hBl e1
        go_enter Tryz.func102, Tryz.ntmps102
        go_wp2_with fail
        (try simp only [Exit.inBlock, Exit.then])
        refine bodyPost_ret (results_none rfl _ _ _) rfl ?_
        exact ⟨rfl, HS2.out⟩
      · obtain ⟨a, c, eV, hLc, hcm, hcell⟩ := H.blocks n hn
        have c3 := H.B n hn
        rw [eV] at c3
        have k1 := hid (rfree_any x g u V F w H a (F.P n).B.length c (F.P n).B rfl hBl hB hcell)
        have HE := hid (HG.out (fun h => h.elim hl hh))
        rw [HE.out]
        generalize (F.P n).l = l at c1 hl
        generalize (F.P n).h = k at c2 hh
        clear HS HG h1 H hB e1 hcell eV
        go_enter Tryz.func102, Tryz.ntmps102
        go_wp2_with fail
        refine k1.out.mono ?_
        rintro e w1 ⟨rfl, hR, hU⟩
        clear k1
        have c0' := hR.c0
        obtain ⟨N, gN⟩ : ∃ N : List Value, N = [.int .i64 0, .int .i64 0, .int .i64 0, .slice none 0 0, .slice none 0 0, .slice none 0 0] := ⟨_, rfl⟩
        have H1 : Hid (N.toArray.all (·.oneCell') = true) := by rw [gN]; exact hid (by simp [Value.oneCell'])
        have HSZ : Hid ((Tryz.prog.info? 117).map (·.size) = some N.toArray.size) := by rw [gN]; exact hid csizeR6
        have HBT : Hid (Tryz.prog.built 117 [] = some N.toArray) := by rw [gN]; exact hid builtR0
        have HTH : Hid (w1.there g (n * 6) N.toArray.size) := by
          obtain ⟨C, h1, h2, _⟩ := hR.nds
          rw [gN]
          exact hid (there_of_block h1 (n * 6) 6 (by omega))
        have HT : Hid (RfTo w x g u V ((F.relB (F.P n).B).at_ n Fn.no) (w1.setCells g (n * 6) N)) := hid (by
          rw [gN]
          have h := hR.node n hn Fn.no rfl rfl rfl
          refine ⟨_, h, (hU.mono (G := RfFoot x g u V) (fun b _ h => .inr (.inr (.inl h)))).trans (upd_setCells g _ (n * 6) w1) (fun b _ h => .inr (.inl h)), fun b hb => .inl (noV_foot hb)⟩)
        clear hR hU gN c0 c1 c2 c3
        go_wp2_with (first
          | (refine wpList_build_is rfl 117 #[] rfl N.toArray (by simpa [Act.eval] using HBT.out) ?_)
          | (refine wpList_store_mid rfl 117 (.tmp 44) (.tmp 43) rfl g (n * 6) N.toArray rfl rfl HTH.out HSZ.out H1.out ?_))
        go_end0
        exact ⟨rfl, HT.out⟩

end Go.Proofs.YtoknhcjneliboaaGreat

/- The document's Unlink and Rmdir. -/
namespace Go.Proofs.YtoknhcjneliboaaGreat
open Go.RowKit
set_option linter.unusedVariables false
set_option maxRecDepth 20000

theorem Rf.cell1 {w : World} {x g u : Nat} {V : Nat → Value} {F : Fs} (H : Rf w x g u V F) (n : Nat) (hn : n < 17) (y : Fn) (o : Nat) (v : Value) (ho : o < 3) (hy : splice (ndL (F.P n) (V (n * 3)) (V (n * 3 + 1)) (V (n * 3 + 2))) o [v] = ndL y (V (n * 3)) (V (n * 3 + 1)) (V (n * 3 + 2))) (hc : y.c = (F.P n).c) (hb : y.B = (F.P n).B) (hq : y.Q = (F.P n).Q) :
    Rf (w.setCell ⟨g, n * 6 + o, none⟩ v) x g u V (F.at_ n y) := by
  refine H.put (U := fun _ => False) n hn y V (fun _ _ => rfl) (Upd.refl _ _) (fun _ _ h => h.elim) o [v] (by simp; omega) hy ?_ ?_ ?_ (fun i b _ h => .inr h) (fun i j b hi hj hb ei ej => ?_)
  · rw [hc]; exact H.rb n hn
  · rw [hb]; exact H.rB n hn
  · rw [hq]; exact H.rQ n hn
  · exact absurd (H.foot_lt b (.inr (.inr (.inr ⟨i, by omega, ei⟩)))) (by omega)
theorem Rf.lnk {w : World} {x g u : Nat} {V : Nat → Value} {F : Fs} (H : Rf w x g u V F) (n : Nat) (hn : n < 17) (l : Int) : Rf (w.setCell ⟨g, n * 6 + 1, none⟩ (.int .i64 l)) x g u V (F.lnk n l) :=
  H.cell1 n hn { F.P n with l := l } 1 _ (by omega) rfl rfl rfl rfl
theorem Rf.hld {w : World} {x g u : Nat} {V : Nat → Value} {F : Fs} (H : Rf w x g u V F) (n : Nat) (hn : n < 17) (l : Int) : Rf (w.setCell ⟨g, n * 6 + 2, none⟩ (.int .i64 l)) x g u V (F.hld n l) :=
  H.cell1 n hn { F.P n with h := l } 2 _ (by omega) rfl rfl rfl rfl
theorem Rf.cell_to {w : World} {x g u : Nat} {V : Nat → Value} {F' : Fs} {j : Nat} {v : Value} (h : Rf (w.setCell ⟨g, j, none⟩ v) x g u V F') : Rf (w.setCell ⟨g, j, none⟩ v) x g u V F' ∧ Upd (RfFoot x g u V) w (w.setCell ⟨g, j, none⟩ v) ∧ ∀ b, RfFoot x g u V b → RfFoot x g u V b ∨ w.heap.size ≤ b :=
  ⟨h, Upd.setCell (F := RfFoot x g u V) w ⟨g, j, none⟩ v (.inr (.inl rfl)), fun b h => .inl h⟩
theorem RfTo.next {w w1 w2 : World} {x g u : Nat} {V V1 : Nat → Value} {F1 F2 : Fs} (h : Rf w1 x g u V1 F1 ∧ Upd (RfFoot x g u V) w w1 ∧ ∀ b, RfFoot x g u V1 b → RfFoot x g u V b ∨ w.heap.size ≤ b) (k : RfTo w1 x g u V1 F2 w2) : RfTo w x g u V F2 w2 := RfTo.trans h.2.1 h.2.2 k
theorem RfTo.below {w w1 w2 : World} {x g u : Nat} {V : Nat → Value} {F2 : Fs} (hb : Below w.heap.size w w1) (k : RfTo w1 x g u V F2 w2) : RfTo w x g u V F2 w2 := RfTo.trans (Upd.of_below hb) (fun b h => .inl h) k

theorem FOk.B25 {F : Fs} (H : FOk F) (n : Nat) : (∀ b ∈ (F.P n).B, b < 25) ∧ (F.P n).B.length ≤ 1000 := by
  refine ⟨fun b hb => (H.T n b hb).2.1, ?_⟩
  rw [H.B n]
  have := (H.c n).1
  unfold Fs.need
  omega

set_option maxHeartbeats 4000000 in
theorem runlink_any (x g u : Nat) (V : Nat → Value) (F : Fs) (w : World) (H : Rf w x g u V F) (hF : FOk F) (hl : ∀ i, (F.P i).l ≤ 1000000) (t : ByteArray) (hs : t.size ≤ 1048576) :
    Calls Tryz.prog 75 #[.pointer (some ⟨x, 0, none⟩), .string t] w fun e w' => e = .returned (.int .i64 (F.unlink (bl t)).2) ∧ RfTo w x g u V (F.unlink (bl t)).1 w' := by
  obtain ⟨R, gR⟩ : ∃ R, R = F.unlink (bl t) := ⟨_, rfl⟩
  rw [← gR]
  have GR := hid gR
  have k1 := hid (rend_any x g u V F w H hF t hs)
  have HH := hid H
  have HF := hid hF
  have HL := hid hl
  clear H hF hl gR
  go_enter Tryz.func75, Tryz.ntmps75
  go_wp2_with fail
  refine k1.out.mono ?_
  rintro e w1 ⟨⟨v, rfl, hE⟩, hB⟩
  have HB := hid hB
  have H1 := hid (HH.out.grow hB)
  clear k1 hB
  rcases hE with ⟨er, hw, rfl⟩ | ⟨y, s, n, hw, rfl⟩
  · have HR2 : Hid (R = (F, er)) := hid (by rw [GR.out]; unfold Fs.unlink; rw [hw])
    have he : er ≠ 0 := by have := Fs.walk_err hw; omega
    clear hw GR
    go_wp2_with fail
    go_ret
    rw [HR2.out]
    exact ⟨rfl, HH.out.same HB.out⟩
  · have W := HF.out.walk_ok hw
    have HR2 : Hid (R = if n = 0 then (F, 2) else if (F.P n).k = 2 then (F, 21) else if 1 < (F.P n).l ∧ dfc F.d 1 = true then (F.deln (Fs.dirOf y) s, 0) else ((F.deln (Fs.dirOf y) s).less n, 0)) := hid (by rw [GR.out]; unfold Fs.unlink; rw [hw])
    obtain ⟨d, gd⟩ : ∃ d, d = Fs.dirOf y := ⟨_, rfl⟩
    have hd := W.lt
    rw [← gd] at hd
    have k2 := hid (rlook_any x g u V F w1 H1.out d (by omega) (HF.out.len d) (bs s))
    rw [bl_bs, gd, ← W.nn, ← gd] at k2
    rw [← gd] at HR2 ⊢
    have hto := W.to
    clear W hw GR gd
    go_wp2_with fail
    refine k2.out.mono ?_
    rintro e w2 ⟨rfl, hb⟩
    have HB2 := hid (HB.out.trans (hb.mono HB.out.size))
    have H2 := hid (H1.out.grow hb)
    clear k2 hb H1 HB
    by_cases hn : n = 0
    · subst hn
      have HR3 : Hid (R = (F, 2)) := hid (by rw [HR2.out, if_pos rfl])
      clear HR2
      go_wp2_with fail
      go_ret
      rw [HR3.out]
      exact ⟨rfl, HH.out.same HB2.out⟩
    · obtain ⟨n2, n3, n4⟩ := hto hn
      have c0 := H2.out.c0
      have c1 := H2.out.k n n3
      have n0 : (0 : Int) ≤ (n : Int) := by omega
      have n1 : (n : Int) < 17 := by omega
      have nz : ¬ (n : Int) = 0 := by omega
      by_cases hk : (F.P n).k = 2
      · have HR3 : Hid (R = (F, 21)) := hid (by rw [HR2.out, if_neg hn, if_pos hk])
        rw [hk] at c1
        clear HR2
        go_wp2_with fail
        go_ret
        rw [HR3.out]
        exact ⟨rfl, HH.out.same HB2.out⟩
      · obtain ⟨k, gk⟩ : ∃ k, k = (F.P n).k := ⟨_, rfl⟩
        have HR3 : Hid (R = if 1 < (F.P n).l ∧ dfc F.d 1 = true then (F.deln d s, 0) else ((F.deln d s).less n, 0)) := hid (by rw [HR2.out, if_neg hn, if_neg hk])
        rw [← gk] at c1 hk
        have k3 := hid (rdropn_any x g u V F w2 H2.out d (by omega) (HF.out.len d) (bs s))
        rw [bl_bs] at k3
        clear HR2 gk hto n4
        go_wp2_with fail
        refine k3.out.mono ?_
        rintro e w3 ⟨rfl, V1, hT⟩
        have HT := hid hT
        have H3 := hid hT.1
        clear k3 hT c0 c1 H2
        have c0 := H3.out.c0
        have c2 := H3.out.l n n3
        have e1 : ((F.deln d s).P n).l = (F.P n).l := by rw [Fs.deln_P]
        have e2 : ((F.deln d s).P n).B = (F.P n).B := by rw [Fs.deln_P]
        rw [e1] at c2
        have k4 := hid (rhas_any x g u V1 _ w3 H3.out 1)
        rw [show (F.deln d s).d = F.d from rfl] at k4
        obtain ⟨l, gl⟩ : ∃ l, l = (F.P n).l := ⟨_, rfl⟩
        have hl0 := HF.out.l0 n
        have hl1 := HL.out n
        have c3 := H3.out.frz (n * 6 + 1)
        rw [← gl] at c2 hl0 hl1
        have hwr : IntKind.i64.wrap (l - 1) = l - 1 := by rw [IntKind.wrap_i64]; omega
        have H4 := hid (H3.out.lnk n n3 (l - 1))
        have HB5 := HF.out.B25 n
        have e5 : (((F.deln d s).lnk n (l - 1)).P n).B = (F.P n).B := by rw [Fs.lnk_P]; exact e2
        have k5 := hid (rgone_any x g u V1 _ _ H4.out n n3 (fun e => absurd e (by omega)) (by rw [e5]; exact HB5.1) (by rw [e5]; exact HB5.2))
        have k6 := hid (rgone_any x g u V1 _ _ H3.out n n3 (fun e => absurd e (by omega)) (by rw [e2]; exact HB5.1) (by rw [e2]; exact HB5.2))
        have HY : Hid (¬ (1 < l ∧ dfc F.d 1 = true) → R = (((F.deln d s).lnk n (l - 1)).gone n, 0)) := hid (fun h => by
          rw [HR3.out, if_neg (by rw [← gl]; exact h)]
          unfold Fs.less
          rw [e1, ← gl])
        have HZ : Hid (1 < l → dfc F.d 1 = true → R = ((F.deln d s).gone n, 0)) := hid (fun h h2 => by
          rw [HR3.out, if_pos (by rw [← gl]; exact ⟨h, h2⟩)]
          unfold Fs.gone
          rw [if_pos (by rw [e1, ← gl]; exact .inl (by omega))])
        obtain ⟨D, gD⟩ : ∃ D, D = dfc F.d 1 := ⟨_, rfl⟩
        rw [← gD] at k4 HY HZ
        clear e1 e2 e5 HB5 gD gl HR3 H3
        by_cases hl2 : l < 2
        · have HR4 := hid (HY.out (by omega))
          clear HY HZ k4 k6
          go_wp2_with fail
          refine k5.out.mono ?_
          rintro e w5 ⟨rfl, hT5⟩
          have HT5 := hid hT5
          clear k5 hT5
          go_wp2_with fail
          go_ret
          rw [HR4.out]
          exact ⟨rfl, RfTo.below HB2.out (RfTo.next HT.out (RfTo.next H4.out.cell_to HT5.out))⟩
        · cases D with
          | true =>
            have HR4 := hid (HZ.out (by omega) rfl)
            clear HY HZ k5 H4
            go_wp2_with fail
            refine k4.out.mono ?_
            rintro e w4 ⟨rfl, rfl⟩
            clear k4
            go_wp2_with fail
            refine k6.out.mono ?_
            rintro e w5 ⟨rfl, hT5⟩
            have HT5 := hid hT5
            clear k6 hT5
            go_wp2_with fail
            go_ret
            rw [HR4.out]
            exact ⟨rfl, RfTo.below HB2.out (RfTo.next HT.out HT5.out)⟩
          | false =>
            have HR4 := hid (HY.out (by simp))
            clear HY HZ k6
            go_wp2_with fail
            refine k4.out.mono ?_
            rintro e w4 ⟨rfl, rfl⟩
            clear k4
            go_wp2_with fail
            refine k5.out.mono ?_
            rintro e w5 ⟨rfl, hT5⟩
            have HT5 := hid hT5
            clear k5 hT5
            go_wp2_with fail
            go_ret
            rw [HR4.out]
            exact ⟨rfl, RfTo.below HB2.out (RfTo.next HT.out (RfTo.next H4.out.cell_to HT5.out))⟩

set_option maxHeartbeats 4000000 in
theorem rrmdir_any (x g u : Nat) (V : Nat → Value) (F : Fs) (w : World) (H : Rf w x g u V F) (hF : FOk F) (hl : ∀ i, (F.P i).l ≤ 1000000) (t : ByteArray) (hs : t.size ≤ 1048576) :
    Calls Tryz.prog 77 #[.pointer (some ⟨x, 0, none⟩), .string t] w fun e w' => e = .returned (.int .i64 (F.rmdir (bl t)).2) ∧ RfTo w x g u V (F.rmdir (bl t)).1 w' := by
  obtain ⟨R, gR⟩ : ∃ R, R = F.rmdir (bl t) := ⟨_, rfl⟩
  rw [← gR]
  have GR := hid gR
  have k1 := hid (rend_any x g u V F w H hF t hs)
  have HH := hid H
  have HF := hid hF
  have HL := hid hl
  clear H hF hl gR
  go_enter Tryz.func77, Tryz.ntmps77
  go_wp2_with fail
  refine k1.out.mono ?_
  rintro e w1 ⟨⟨v, rfl, hE⟩, hB⟩
  have HB := hid hB
  have H1 := hid (HH.out.grow hB)
  clear k1 hB
  rcases hE with ⟨er, hw, rfl⟩ | ⟨y, s, n, hw, rfl⟩
  · have HR2 : Hid (R = (F, er)) := hid (by rw [GR.out]; unfold Fs.rmdir; rw [hw])
    have he : er ≠ 0 := by have := Fs.walk_err hw; omega
    clear hw GR
    go_wp2_with fail
    go_ret
    rw [HR2.out]
    exact ⟨rfl, HH.out.same HB.out⟩
  · have W := HF.out.walk_ok hw
    have HR2 : Hid (R = if n = 0 then (F, 2) else if (F.P n).k ≠ 2 then (F, 20) else if F.stays n ≠ 0 then (F, F.stays n) else ((F.deln (Fs.dirOf y) s).less n, 0)) := hid (by rw [GR.out]; unfold Fs.rmdir; rw [hw])
    obtain ⟨d, gd⟩ : ∃ d, d = Fs.dirOf y := ⟨_, rfl⟩
    have hd := W.lt
    rw [← gd] at hd
    have k2 := hid (rlook_any x g u V F w1 H1.out d (by omega) (HF.out.len d) (bs s))
    rw [bl_bs, gd, ← W.nn, ← gd] at k2
    rw [← gd] at HR2 ⊢
    have hto := W.to
    clear W hw GR gd
    go_wp2_with fail
    refine k2.out.mono ?_
    rintro e w2 ⟨rfl, hb⟩
    have HB2 := hid (HB.out.trans (hb.mono HB.out.size))
    have H2 := hid (H1.out.grow hb)
    clear k2 hb H1 HB
    by_cases hn : n = 0
    · subst hn
      have HR3 : Hid (R = (F, 2)) := hid (by rw [HR2.out, if_pos rfl])
      clear HR2
      go_wp2_with fail
      go_ret
      rw [HR3.out]
      exact ⟨rfl, HH.out.same HB2.out⟩
    · obtain ⟨n2, n3, n4⟩ := hto hn
      have c0 := H2.out.c0
      have c1 := H2.out.k n n3
      have n0 : (0 : Int) ≤ (n : Int) := by omega
      have n1 : (n : Int) < 17 := by omega
      have nz : ¬ (n : Int) = 0 := by omega
      by_cases hk : (F.P n).k ≠ 2
      · have HR3 : Hid (R = (F, 20)) := hid (by rw [HR2.out, if_neg hn, if_pos hk])
        obtain ⟨k, gk⟩ : ∃ k, k = (F.P n).k := ⟨_, rfl⟩
        rw [← gk] at c1 hk
        clear HR2 gk
        go_wp2_with fail
        go_ret
        rw [HR3.out]
        exact ⟨rfl, HH.out.same HB2.out⟩
      · have HR3 : Hid (R = if F.stays n ≠ 0 then (F, F.stays n) else ((F.deln d s).less n, 0)) := hid (by rw [HR2.out, if_neg hn, if_neg hk])
        have k7 := hid (rempty_any x g u V F w2 H2.out HF.out n n3 )
        obtain ⟨E, gE⟩ : ∃ E, E = F.stays n := ⟨_, rfl⟩
        rw [← gE] at k7 HR3
        rw [Decidable.not_not.1 hk] at c1
        have k3 := hid (rdropn_any x g u V F w2 H2.out d (by omega) (HF.out.len d) (bs s))
        rw [bl_bs] at k3
        clear HR2 hto n4 hk gE
        by_cases hE : E ≠ 0
        · have HR4 : Hid (R = (F, E)) := hid (by rw [HR3.out, if_pos hE])
          clear HR3 k3
          go_wp2_with fail
          refine k7.out.mono ?_
          rintro e w3 ⟨rfl, rfl⟩
          clear k7
          go_wp2_with fail
          go_ret
          rw [HR4.out]
          exact ⟨rfl, HH.out.same HB2.out⟩
        have HR4 : Hid (R = ((F.deln d s).less n, 0)) := hid (by rw [HR3.out, if_neg hE])
        obtain rfl : E = 0 := Decidable.not_not.1 hE
        clear HR3 hE
        go_wp2_with fail
        refine k7.out.mono ?_
        rintro e w3' ⟨rfl, rfl⟩
        clear k7
        go_wp2_with fail
        refine k3.out.mono ?_
        rintro e w3 ⟨rfl, V1, hT⟩
        have HT := hid hT
        have H3 := hid hT.1
        clear k3 hT c0 c1 H2
        have c0 := H3.out.c0
        have c2 := H3.out.l n n3
        have e1 : ((F.deln d s).P n).l = (F.P n).l := by rw [Fs.deln_P]
        have e2 : ((F.deln d s).P n).B = (F.P n).B := by rw [Fs.deln_P]
        rw [e1] at c2
        obtain ⟨l, gl⟩ : ∃ l, l = (F.P n).l := ⟨_, rfl⟩
        have hl0 := HF.out.l0 n
        have hl1 := HL.out n
        have c3 := H3.out.frz (n * 6 + 1)
        rw [← gl] at c2 hl0 hl1
        have hwr : IntKind.i64.wrap (l - 1) = l - 1 := by rw [IntKind.wrap_i64]; omega
        have H4 := hid (H3.out.lnk n n3 (l - 1))
        have HB5 := HF.out.B25 n
        have e5 : (((F.deln d s).lnk n (l - 1)).P n).B = (F.P n).B := by rw [Fs.lnk_P]; exact e2
        have k5 := hid (rgone_any x g u V1 _ _ H4.out n n3 (fun e => absurd e (by omega)) (by rw [e5]; exact HB5.1) (by rw [e5]; exact HB5.2))
        have HR5 : Hid (R = (((F.deln d s).lnk n (l - 1)).gone n, 0)) := hid (by
          rw [HR4.out]
          unfold Fs.less
          rw [e1, ← gl])
        clear e1 e2 e5 HB5 gl HR4 H3
        go_wp2_with fail
        refine k5.out.mono ?_
        rintro e w5 ⟨rfl, hT5⟩
        have HT5 := hid hT5
        clear k5 hT5
        go_wp2_with fail
        go_ret
        rw [HR5.out]
        exact ⟨rfl, RfTo.below HB2.out (RfTo.next HT.out (RfTo.next H4.out.cell_to HT5.out))⟩

end Go.Proofs.YtoknhcjneliboaaGreat

/- The document's Make. -/
namespace Go.Proofs.YtoknhcjneliboaaGreat
open Go.RowKit
set_option linter.unusedVariables false
set_option maxRecDepth 20000

theorem free_from (F : Fs) : ∀ (m a n : Nat), a ≤ n → n ≤ a + m → (∀ i, a ≤ i → i < n → (F.P i).k ≠ 0) → (n < a + m → (F.P n).k = 0) → ((List.range' a m).find? (fun i => decide ((F.P i).k = 0))).getD 0 = if n < a + m then n else 0
  | 0, a, n, h1, h2, _, _ => by rw [if_neg (by omega)]; rfl
  | m + 1, a, n, h1, h2, h3, h4 => by
    rw [List.range'_succ]
    by_cases e : n = a
    · subst e
      rw [List.find?_cons_of_pos (by simpa using h4 (by omega)), if_pos (by omega)]
      rfl
    · rw [List.find?_cons_of_neg (by simpa using h3 a (Nat.le_refl _) (by omega))]
      have := free_from F m (a + 1) n (by omega) (by omega) (fun i hi hn => h3 i (by omega) hn) (fun h => h4 (by omega))
      rw [this]
      by_cases q : n < a + 1 + m
      · rw [if_pos q, if_pos (by omega)]
      · rw [if_neg q, if_neg (by omega)]
theorem free_is (F : Fs) (n : Nat) (h1 : 1 ≤ n) (h2 : n ≤ 17) (h3 : ∀ i, 1 ≤ i → i < n → (F.P i).k ≠ 0) (h4 : n < 17 → (F.P n).k = 0) : F.free = if n < 17 then n else 0 := free_from F 16 1 n h1 h2 h3 h4

theorem builtR2 : Tryz.prog.built 117 [(0, .int .i64 2), (1, .int .i64 1)] = some #[.int .i64 2, .int .i64 1, .int .i64 0, .slice none 0 0, .slice none 0 0, .slice none 0 0] := by kernel_rfl

set_option maxHeartbeats 4000000 in
theorem rmake_1 (x g u : Nat) (V : Nat → Value) (F : Fs) (w : World) (H : Rf w x g u V F) (hF : FOk F) (t : ByteArray) (hs : t.size ≤ 1048576) :
    Calls Tryz.prog 76 #[.pointer (some ⟨x, 0, none⟩), .string t, .int .i64 1] w fun e w' => e = .returned (.tuple #[.int .i64 ((F.make (bl t) 1).2.1 : Int), .int .i64 (F.make (bl t) 1).2.2]) ∧ RfTo w x g u V (F.make (bl t) 1).1 w' := by
  obtain ⟨R, gR⟩ : ∃ R, R = F.make (bl t) 1 := ⟨_, rfl⟩
  rw [← gR]
  have GR : Hid (R = match F.walk (bl t) with
    | .error e => (F, 0, e)
    | .ok (y, s, n) => if n ≠ 0 then (F, 0, 17) else if 6 ≤ (F.P (Fs.dirOf y)).Q.length then (F, 0, 28) else if F.free = 0 then (F, 0, 28) else
      ((F.at_ F.free (Fn.nu 1)).addn (Fs.dirOf y) s F.free, F.free, 0)) := hid (by rw [gR]; unfold Fs.make; rw [if_neg (by decide)]; cases F.walk (bl t) <;> rfl)
  have k1 := hid (rend_any x g u V F w H hF t hs)
  have HH := hid H
  have HF := hid hF
  clear H hF gR
  go_enter Tryz.func76, Tryz.ntmps76
  go_wp2_with fail
  refine k1.out.mono ?_
  rintro e w1 ⟨⟨v, rfl, hE⟩, hB⟩
  have HB := hid hB
  have H1 := hid (HH.out.grow hB)
  clear k1 hB
  rcases hE with ⟨er, hw, rfl⟩ | ⟨y, s, m, hw, rfl⟩
  · have HR2 : Hid (R = (F, 0, er)) := hid (by rw [GR.out, hw])
    have he : er ≠ 0 := by have := Fs.walk_err hw; omega
    clear hw GR
    go_wp2_with fail
    go_ret2
    rw [HR2.out]
    exact ⟨rfl, HH.out.same HB.out⟩
  · have W := HF.out.walk_ok hw
    have HR2 : Hid (R = if m ≠ 0 then (F, 0, 17) else if 6 ≤ (F.P (Fs.dirOf y)).Q.length then (F, 0, 28) else if F.free = 0 then (F, 0, 28) else
      ((F.at_ F.free (Fn.nu 1)).addn (Fs.dirOf y) s F.free, F.free, 0)) := hid (by rw [GR.out, hw])
    obtain ⟨d, gd⟩ : ∃ d, d = Fs.dirOf y := ⟨_, rfl⟩
    have hd := W.lt
    have hdk := W.k
    rw [← gd] at hd hdk
    have k2 := hid (rlook_any x g u V F w1 H1.out d (by omega) (HF.out.len d) (bs s))
    rw [bl_bs, gd, ← W.nn, ← gd] at k2
    rw [← gd] at HR2 ⊢
    clear W hw GR gd
    go_wp2_with fail
    refine k2.out.mono ?_
    rintro e w2 ⟨rfl, hb⟩
    have HB2 := hid (HB.out.trans (hb.mono HB.out.size))
    have H2 := hid (H1.out.grow hb)
    clear k2 hb H1 HB
    by_cases hm : m ≠ 0
    · have HR3 : Hid (R = (F, 0, 17)) := hid (by rw [HR2.out, if_pos hm])
      have mz : ¬ (m : Int) = 0 := by omega
      clear HR2
      go_wp2_with fail
      go_ret2
      rw [HR3.out]
      exact ⟨rfl, HH.out.same HB2.out⟩
    obtain rfl : m = 0 := Decidable.not_not.1 hm
    have HR3 : Hid (R = if 6 ≤ (F.P d).Q.length then (F, 0, 28) else if F.free = 0 then (F, 0, 28) else ((F.at_ F.free (Fn.nu 1)).addn d s F.free, F.free, 0)) := hid (by rw [HR2.out, if_neg hm])
    have c0 := H2.out.c0
    obtain ⟨qa, qc, eQ, hqc, hqm, _⟩ := own_shp (H2.out.rQ d (by omega))
    have c1 := H2.out.q d (by omega)
    rw [eQ] at c1
    have hq6 := HF.out.len d
    obtain ⟨LQ, gLQ⟩ : ∃ LQ, LQ = (F.P d).Q.length := ⟨_, rfl⟩
    rw [← gLQ] at c1 hqc HR3 hq6
    have d0 : (0 : Int) ≤ (d : Int) := by omega
    have d1 : (d : Int) < 17 := by omega
    clear HR2 hm eQ gLQ
    go_wp2_with fail
    go_loopw [11] (fun v11 wr => ∃ j : Nat, 1 ≤ j ∧ j ≤ 17 ∧ v11 = .int .i64 (j : Int) ∧ wr = w2 ∧ Hid (∀ i, 1 ≤ i → i < j → (F.P i).k ≠ 0)) (fun v11 _ => 17 - (intOf v11).toNat)
    case atStart => exact ⟨1, Nat.le_refl _, by omega, rfl, rfl, hid (fun i h1 h2 => by omega)⟩
    case round =>
      obtain ⟨j, j1, j2, rfl, rfl, HJ⟩ := hrel
      by_cases hj : j < 17
      · have j3 : (j : Int) ≤ 16 := by omega
        have j4 : (0 : Int) ≤ (j : Int) := by omega
        have j5 : (j : Int) < 17 := by omega
        have j6 : j + 1 ≤ 17 := hj
        have c2 := H2.out.k j hj
        obtain ⟨k, gk⟩ : ∃ k, k = (F.P j).k := ⟨_, rfl⟩
        rw [← gk] at c2
        by_cases hk : k = 0
        · have HFR : Hid (F.free = j) := hid (by rw [free_is F j j1 j2 HJ.out (fun _ => by rw [← gk]; exact hk), if_pos hj])
          rw [HFR.out] at HR3
          have hkj : (F.P j).k = 0 := by rw [← gk]; exact hk
          subst hk
          have j7 : ¬ (16 : Int) < (j : Int) := by omega
          by_cases hq : 6 ≤ LQ
          · have hq2 : (6 : Int) ≤ (LQ : Int) := by omega
            have HR4 : Hid (R = (F, 0, 28)) := hid (by rw [HR3.out, if_pos hq])
            clear HR3 HFR HJ hkj gk
            go_wp2_with fail
            go_ret2
            rw [HR4.out]
            exact ⟨rfl, HH.out.same HB2.out⟩
          · have hq2 : ¬ (6 : Int) ≤ (LQ : Int) := by omega
            have HR4 : Hid (R = ((F.at_ j (Fn.nu 1)).addn d s j, j, 0)) := hid (by rw [HR3.out, if_neg hq, if_neg (by omega)])
            obtain ⟨N, gN⟩ : ∃ N : List Value, N = [.int .i64 1, .int .i64 1, .int .i64 0, .slice none 0 0, .slice none 0 0, .slice none 0 0] := ⟨_, rfl⟩
            have HN1 : Hid (N.toArray.all (·.oneCell') = true) := by rw [gN]; exact hid (by simp [Value.oneCell'])
            have HSZ : Hid ((Tryz.prog.info? 117).map (·.size) = some N.toArray.size) := by rw [gN]; exact hid csizeR6
            have HBT : Hid (Tryz.prog.built 117 [(0, .int .i64 1), (1, .int .i64 1)] = some N.toArray) := by rw [gN]; exact hid builtR1
            have HTH : Hid (wr.there g (j * 6) N.toArray.size) := by
              obtain ⟨C, h1, h2, _⟩ := H2.out.nds
              rw [gN]
              exact hid (there_of_block h1 (j * 6) 6 (by omega))
            have H4 : Hid (Rf (wr.setCells g (j * 6) N) x g u (noV V j) (F.at_ j (Fn.nu 1))) := hid (by rw [gN]; exact H2.out.node j hj (Fn.nu 1) rfl rfl rfl)
            have HU4 := hid (upd_setCells g N (j * 6) wr)
            have hdj : d ≠ j := fun e => by rw [e, hkj] at hdk; omega
            have k3 := hid (radd_any x g u (noV V j) _ _ H4.out d (by omega) (by rw [show (F.at_ j (Fn.nu 1)).P d = F.P d from if_neg hdj]; exact HF.out.len d) (bs s) j)
            rw [bl_bs] at k3
            have HT : Hid (Rf (wr.setCells g (j * 6) N) x g u (noV V j) (F.at_ j (Fn.nu 1)) ∧ Upd (RfFoot x g u V) w (wr.setCells g (j * 6) N) ∧ ∀ b, RfFoot x g u (noV V j) b → RfFoot x g u V b ∨ w.heap.size ≤ b) := hid ⟨H4.out, (Upd.of_below HB2.out).trans (HU4.out.mono (G := RfFoot x g u V) (fun b _ h => .inr (.inl h))) (fun b _ h => h), fun b hb => .inl (noV_foot hb)⟩
            clear HR3 HFR HJ hkj gk gN H4 HU4 hdj
            go_wp2_with (first
              | (refine wpList_build_is rfl 117 #[(0, .tmp 67), (1, .const (.int .i64 1))] rfl N.toArray (by simpa [Act.eval] using HBT.out) ?_)
              | (refine wpList_store_mid rfl 117 (.tmp 69) (.tmp 68) rfl g (j * 6) N.toArray rfl rfl HTH.out HSZ.out HN1.out ?_))
            refine k3.out.mono ?_
            rintro e w3 ⟨rfl, hT3⟩
            have HT3 := hid hT3
            clear k3 hT3
            go_wp2_with fail
            go_ret2
            rw [HR4.out]
            exact ⟨rfl, RfTo.next HT.out HT3.out⟩
        · have j7 : (k != 0) = true := by simpa using hk
          have HJ2 : Hid (∀ i, 1 ≤ i → i < j + 1 → (F.P i).k ≠ 0) := hid (fun i h1 h2 => by
            by_cases e : i = j
            · subst e; rw [← gk]; exact hk
            · exact HJ.out i h1 (by omega))
          clear HJ gk
          go_wp2_with fail
          go_roundw
          case rel => exact ⟨j + 1, by omega, j6, by go_num, trivial, HJ2⟩
          case measure => simp [intOf]; omega
      · obtain rfl : j = 17 := by omega
        have HFR : Hid (F.free = 0) := hid (by rw [free_is F 17 j1 j2 HJ.out (fun h => absurd h hj), if_neg hj])
        have HR4 : Hid (R = (F, 0, 28)) := hid (by rw [HR3.out, HFR.out]; simp)
        clear HR3 HFR HJ
        go_wp2_with fail
        go_ret2
        rw [HR4.out]
        exact ⟨rfl, HH.out.same HB2.out⟩

set_option maxHeartbeats 4000000 in
theorem rmake_2 (x g u : Nat) (V : Nat → Value) (F : Fs) (w : World) (H : Rf w x g u V F) (hF : FOk F) (t : ByteArray) (hs : t.size ≤ 1048576) :
    Calls Tryz.prog 76 #[.pointer (some ⟨x, 0, none⟩), .string t, .int .i64 2] w fun e w' => e = .returned (.tuple #[.int .i64 ((F.make (bl t) 2).2.1 : Int), .int .i64 (F.make (bl t) 2).2.2]) ∧ RfTo w x g u V (F.make (bl t) 2).1 w' := by
  obtain ⟨R, gR⟩ : ∃ R, R = F.make (bl t) 2 := ⟨_, rfl⟩
  rw [← gR]
  have GR : Hid (R = match F.walk (bl t) with
    | .error e => (F, 0, e)
    | .ok (y, s, n) => if n ≠ 0 then (F, 0, 17) else if 6 ≤ (F.P (Fs.dirOf y)).Q.length then (F, 0, 28) else if F.free = 0 then (F, 0, 28) else
      ((F.at_ F.free (Fn.nu 2)).addn (Fs.dirOf y) s F.free, F.free, 0)) := hid (by rw [gR]; unfold Fs.make; rw [if_neg (by decide)]; cases F.walk (bl t) <;> rfl)
  have k1 := hid (rend_any x g u V F w H hF t hs)
  have HH := hid H
  have HF := hid hF
  clear H hF gR
  go_enter Tryz.func76, Tryz.ntmps76
  go_wp2_with fail
  refine k1.out.mono ?_
  rintro e w1 ⟨⟨v, rfl, hE⟩, hB⟩
  have HB := hid hB
  have H1 := hid (HH.out.grow hB)
  clear k1 hB
  rcases hE with ⟨er, hw, rfl⟩ | ⟨y, s, m, hw, rfl⟩
  · have HR2 : Hid (R = (F, 0, er)) := hid (by rw [GR.out, hw])
    have he : er ≠ 0 := by have := Fs.walk_err hw; omega
    clear hw GR
    go_wp2_with fail
    go_ret2
    rw [HR2.out]
    exact ⟨rfl, HH.out.same HB.out⟩
  · have W := HF.out.walk_ok hw
    have HR2 : Hid (R = if m ≠ 0 then (F, 0, 17) else if 6 ≤ (F.P (Fs.dirOf y)).Q.length then (F, 0, 28) else if F.free = 0 then (F, 0, 28) else
      ((F.at_ F.free (Fn.nu 2)).addn (Fs.dirOf y) s F.free, F.free, 0)) := hid (by rw [GR.out, hw])
    obtain ⟨d, gd⟩ : ∃ d, d = Fs.dirOf y := ⟨_, rfl⟩
    have hd := W.lt
    have hdk := W.k
    rw [← gd] at hd hdk
    have k2 := hid (rlook_any x g u V F w1 H1.out d (by omega) (HF.out.len d) (bs s))
    rw [bl_bs, gd, ← W.nn, ← gd] at k2
    rw [← gd] at HR2 ⊢
    clear W hw GR gd
    go_wp2_with fail
    refine k2.out.mono ?_
    rintro e w2 ⟨rfl, hb⟩
    have HB2 := hid (HB.out.trans (hb.mono HB.out.size))
    have H2 := hid (H1.out.grow hb)
    clear k2 hb H1 HB
    by_cases hm : m ≠ 0
    · have HR3 : Hid (R = (F, 0, 17)) := hid (by rw [HR2.out, if_pos hm])
      have mz : ¬ (m : Int) = 0 := by omega
      clear HR2
      go_wp2_with fail
      go_ret2
      rw [HR3.out]
      exact ⟨rfl, HH.out.same HB2.out⟩
    obtain rfl : m = 0 := Decidable.not_not.1 hm
    have HR3 : Hid (R = if 6 ≤ (F.P d).Q.length then (F, 0, 28) else if F.free = 0 then (F, 0, 28) else ((F.at_ F.free (Fn.nu 2)).addn d s F.free, F.free, 0)) := hid (by rw [HR2.out, if_neg hm])
    have c0 := H2.out.c0
    obtain ⟨qa, qc, eQ, hqc, hqm, _⟩ := own_shp (H2.out.rQ d (by omega))
    have c1 := H2.out.q d (by omega)
    rw [eQ] at c1
    have hq6 := HF.out.len d
    obtain ⟨LQ, gLQ⟩ : ∃ LQ, LQ = (F.P d).Q.length := ⟨_, rfl⟩
    rw [← gLQ] at c1 hqc HR3 hq6
    have d0 : (0 : Int) ≤ (d : Int) := by omega
    have d1 : (d : Int) < 17 := by omega
    clear HR2 hm eQ gLQ
    go_wp2_with fail
    go_loopw [11] (fun v11 wr => ∃ j : Nat, 1 ≤ j ∧ j ≤ 17 ∧ v11 = .int .i64 (j : Int) ∧ wr = w2 ∧ Hid (∀ i, 1 ≤ i → i < j → (F.P i).k ≠ 0)) (fun v11 _ => 17 - (intOf v11).toNat)
    case atStart => exact ⟨1, Nat.le_refl _, by omega, rfl, rfl, hid (fun i h1 h2 => by omega)⟩
    case round =>
      obtain ⟨j, j1, j2, rfl, rfl, HJ⟩ := hrel
      by_cases hj : j < 17
      · have j3 : (j : Int) ≤ 16 := by omega
        have j4 : (0 : Int) ≤ (j : Int) := by omega
        have j5 : (j : Int) < 17 := by omega
        have j6 : j + 1 ≤ 17 := hj
        have c2 := H2.out.k j hj
        obtain ⟨k, gk⟩ : ∃ k, k = (F.P j).k := ⟨_, rfl⟩
        rw [← gk] at c2
        by_cases hk : k = 0
        · have HFR : Hid (F.free = j) := hid (by rw [free_is F j j1 j2 HJ.out (fun _ => by rw [← gk]; exact hk), if_pos hj])
          rw [HFR.out] at HR3
          have hkj : (F.P j).k = 0 := by rw [← gk]; exact hk
          subst hk
          have j7 : ¬ (16 : Int) < (j : Int) := by omega
          by_cases hq : 6 ≤ LQ
          · have hq2 : (6 : Int) ≤ (LQ : Int) := by omega
            have HR4 : Hid (R = (F, 0, 28)) := hid (by rw [HR3.out, if_pos hq])
            clear HR3 HFR HJ hkj gk
            go_wp2_with fail
            go_ret2
            rw [HR4.out]
            exact ⟨rfl, HH.out.same HB2.out⟩
          · have hq2 : ¬ (6 : Int) ≤ (LQ : Int) := by omega
            have HR4 : Hid (R = ((F.at_ j (Fn.nu 2)).addn d s j, j, 0)) := hid (by rw [HR3.out, if_neg hq, if_neg (by omega)])
            obtain ⟨N, gN⟩ : ∃ N : List Value, N = [.int .i64 2, .int .i64 1, .int .i64 0, .slice none 0 0, .slice none 0 0, .slice none 0 0] := ⟨_, rfl⟩
            have HN1 : Hid (N.toArray.all (·.oneCell') = true) := by rw [gN]; exact hid (by simp [Value.oneCell'])
            have HSZ : Hid ((Tryz.prog.info? 117).map (·.size) = some N.toArray.size) := by rw [gN]; exact hid csizeR6
            have HBT : Hid (Tryz.prog.built 117 [(0, .int .i64 2), (1, .int .i64 1)] = some N.toArray) := by rw [gN]; exact hid builtR2
            have HTH : Hid (wr.there g (j * 6) N.toArray.size) := by
              obtain ⟨C, h1, h2, _⟩ := H2.out.nds
              rw [gN]
              exact hid (there_of_block h1 (j * 6) 6 (by omega))
            have H4 : Hid (Rf (wr.setCells g (j * 6) N) x g u (noV V j) (F.at_ j (Fn.nu 2))) := hid (by rw [gN]; exact H2.out.node j hj (Fn.nu 2) rfl rfl rfl)
            have HU4 := hid (upd_setCells g N (j * 6) wr)
            have hdj : d ≠ j := fun e => by rw [e, hkj] at hdk; omega
            have k3 := hid (radd_any x g u (noV V j) _ _ H4.out d (by omega) (by rw [show (F.at_ j (Fn.nu 2)).P d = F.P d from if_neg hdj]; exact HF.out.len d) (bs s) j)
            rw [bl_bs] at k3
            have HT : Hid (Rf (wr.setCells g (j * 6) N) x g u (noV V j) (F.at_ j (Fn.nu 2)) ∧ Upd (RfFoot x g u V) w (wr.setCells g (j * 6) N) ∧ ∀ b, RfFoot x g u (noV V j) b → RfFoot x g u V b ∨ w.heap.size ≤ b) := hid ⟨H4.out, (Upd.of_below HB2.out).trans (HU4.out.mono (G := RfFoot x g u V) (fun b _ h => .inr (.inl h))) (fun b _ h => h), fun b hb => .inl (noV_foot hb)⟩
            clear HR3 HFR HJ hkj gk gN H4 HU4 hdj
            go_wp2_with (first
              | (refine wpList_build_is rfl 117 #[(0, .tmp 67), (1, .const (.int .i64 1))] rfl N.toArray (by simpa [Act.eval] using HBT.out) ?_)
              | (refine wpList_store_mid rfl 117 (.tmp 69) (.tmp 68) rfl g (j * 6) N.toArray rfl rfl HTH.out HSZ.out HN1.out ?_))
            refine k3.out.mono ?_
            rintro e w3 ⟨rfl, hT3⟩
            have HT3 := hid hT3
            clear k3 hT3
            go_wp2_with fail
            go_ret2
            rw [HR4.out]
            exact ⟨rfl, RfTo.next HT.out HT3.out⟩
        · have j7 : (k != 0) = true := by simpa using hk
          have HJ2 : Hid (∀ i, 1 ≤ i → i < j + 1 → (F.P i).k ≠ 0) := hid (fun i h1 h2 => by
            by_cases e : i = j
            · subst e; rw [← gk]; exact hk
            · exact HJ.out i h1 (by omega))
          clear HJ gk
          go_wp2_with fail
          go_roundw
          case rel => exact ⟨j + 1, by omega, j6, by go_num, trivial, HJ2⟩
          case measure => simp [intOf]; omega
      · obtain rfl : j = 17 := by omega
        have HFR : Hid (F.free = 0) := hid (by rw [free_is F 17 j1 j2 HJ.out (fun h => absurd h hj), if_neg hj])
        have HR4 : Hid (R = (F, 0, 28)) := hid (by rw [HR3.out, HFR.out]; simp)
        clear HR3 HFR HJ
        go_wp2_with fail
        go_ret2
        rw [HR4.out]
        exact ⟨rfl, HH.out.same HB2.out⟩

set_option maxHeartbeats 2000000 in
theorem rmake_any (x g u : Nat) (V : Nat → Value) (F : Fs) (w : World) (H : Rf w x g u V F) (hF : FOk F) (t : ByteArray) (hs : t.size ≤ 1048576) (kind : Int) :
    Calls Tryz.prog 76 #[.pointer (some ⟨x, 0, none⟩), .string t, .int .i64 kind] w fun e w' => e = .returned (.tuple #[.int .i64 ((F.make (bl t) kind).2.1 : Int), .int .i64 (F.make (bl t) kind).2.2]) ∧ RfTo w x g u V (F.make (bl t) kind).1 w' := by
  by_cases hkd : kind ≠ 1 ∧ kind ≠ 2
  · rw [show F.make (bl t) kind = (F, 0, 22) from if_pos hkd]
    have HS := hid (H.same (Below.refl w.heap.size w))
    have q1 : (kind != 1) = true := by simpa using hkd.1
    have q2 : (kind != 2) = true := by simpa using hkd.2
    have q5 : (kind != 1 && kind != 2) = true := by rw [q1, q2]; rfl
    obtain ⟨q3, q4⟩ := hkd
    clear H hF
    go_enter Tryz.func76, Tryz.ntmps76
    go_wp2_with fail
    go_ret2
    exact ⟨rfl, HS.out⟩
  · rcases (show kind = 1 ∨ kind = 2 by omega) with rfl | rfl
    · exact rmake_1 x g u V F w H hF t hs
    · exact rmake_2 x g u V F w H hF t hs

end Go.Proofs.YtoknhcjneliboaaGreat

/- What node, file, Hold, Drop, settle and takeLink do to any system. -/
namespace Go.Proofs.YtoknhcjneliboaaGreat
open Go.RowKit Go.ChangeMaps Go.MapKept
set_option linter.unusedVariables false
set_option maxRecDepth 20000

set_option maxHeartbeats 1000000 in
theorem node_no (p : Nat) (S : Sg) (w : World) (H : Sy w p S) (n : Int) (h : n < 1 ∨ 16 < n ∨ (1 ≤ n ∧ n ≤ 16 ∧ (S.P n.toNat).k = 0)) :
    Calls Tryz.prog 95 #[.pointer (some ⟨p, 0, none⟩), .int .i64 n] w fun e w' => e = .returned (.tuple #[.pointer none, .int .i64 2]) ∧ w' = w := by
  have k0 := hid H.usable
  by_cases h1 : n < 1
  · clear H h
    go_enter Tryz.func95, Tryz.ntmps95
    go_wp2_with fail
    refine k0.out.mono ?_
    rintro e w1 ⟨rfl, rfl⟩
    clear k0
    go_wp2_with fail
    go_ret2
    exact ⟨rfl, rfl⟩
  by_cases h2 : 16 < n
  · clear H h
    go_enter Tryz.func95, Tryz.ntmps95
    go_wp2_with fail
    refine k0.out.mono ?_
    rintro e w1 ⟨rfl, rfl⟩
    clear k0
    go_wp2_with fail
    go_ret2
    exact ⟨rfl, rfl⟩
  obtain ⟨i, rfl⟩ : ∃ i : Nat, n = (i : Int) := ⟨n.toNat, by omega⟩
  have hk : (S.P i).k = 0 := by
    rcases h with h | h | h
    · omega
    · omega
    · exact h.2.2
  have hi : i < 17 := by omega
  have k1 := hid (isthere_any p (1 + i * 107) _ w (H.k i hi))
  rw [show decide ((S.P i).k ≠ 0) = false by simp [hk]] at k1
  have c3 : (0 : Int) ≤ (i : Int) := by omega
  have c4 : (i : Int) < 17 := by omega
  clear H h hk
  go_enter Tryz.func95, Tryz.ntmps95
  go_wp2_with fail
  refine k0.out.mono ?_
  rintro e w1 ⟨rfl, rfl⟩
  clear k0
  go_wp2_with fail
  refine k1.out.mono ?_
  rintro e w1 ⟨rfl, rfl⟩
  clear k1
  go_wp2_with fail
  go_ret2
  exact ⟨rfl, rfl⟩

theorem there_no {S : Sg} {F : Fs} (R : Rel S F) {n : Int} (h : F.there n = false) : n < 1 ∨ 16 < n ∨ (1 ≤ n ∧ n ≤ 16 ∧ (S.P n.toNat).k = 0) := by
  simp only [Fs.there, decide_eq_false_iff_not] at h
  by_cases h1 : n < 1
  · exact .inl h1
  by_cases h2 : 16 < n
  · exact .inr (.inl h2)
  refine .inr (.inr ⟨by omega, by omega, ?_⟩)
  rw [(R.P n.toNat (by omega)).k]
  exact Decidable.not_not.1 (fun q => h ⟨by omega, by omega, q⟩)
theorem there_yes {F : Fs} {n : Int} (h : F.there n = true) : ∃ i : Nat, n = (i : Int) ∧ 1 ≤ i ∧ i < 17 ∧ (F.P i).k ≠ 0 := by
  simp only [Fs.there, decide_eq_true_eq] at h
  exact ⟨n.toNat, by omega, by omega, by omega, h.2.2⟩

set_option maxHeartbeats 1000000 in
theorem file_no (p : Nat) (S : Sg) (F : Fs) (w : World) (H : Sy w p S) (R : Rel S F) (n : Int) (h : F.file n ≠ 0) :
    Calls Tryz.prog 116 #[.pointer (some ⟨p, 0, none⟩), .int .i64 n] w fun e w' => e = .returned (.tuple #[.pointer none, .int .i64 (F.file n)]) ∧ w' = w := by
  by_cases ht : F.there n = false
  · have e : F.file n = 2 := by unfold Fs.file; rw [if_pos ht]
    rw [e]
    have k0 := hid (node_no p S w H n (there_no R ht))
    clear H R h e ht
    go_enter Tryz.func116, Tryz.ntmps116
    go_wp2_with fail
    refine k0.out.mono ?_
    rintro e w1 ⟨rfl, rfl⟩
    clear k0
    go_wp2_with fail
    go_ret2
    exact ⟨rfl, rfl⟩
  · obtain ⟨i, rfl, h1, h2, hk⟩ := there_yes (by simpa using ht : F.there n = true)
    have h3 : (F.P i).k = 2 := by
      unfold Fs.file at h
      rw [if_neg ht] at h
      exact Decidable.not_not.1 (fun q => h (by rw [if_neg]; exact q))
    have e : F.file (i : Int) = 21 := by unfold Fs.file; rw [if_neg ht]; exact if_pos h3
    rw [e]
    have hkk : (S.P i).k = 2 := (R.P i h2).k.trans h3
    have k0 := hid (node_yes p S w H i h1 h2 (by omega))
    have k1 := hid (isdir_any p (1 + i * 107) _ w (H.k i h2))
    rw [show decide ((S.P i).k = 2) = true by simp [hkk]] at k1
    clear H R h e ht hk h3 hkk
    go_enter Tryz.func116, Tryz.ntmps116
    go_wp2_with fail
    refine k0.out.mono ?_
    rintro e w1 ⟨rfl, rfl⟩
    clear k0
    go_wp2_with fail
    refine k1.out.mono ?_
    rintro e w1 ⟨rfl, rfl⟩
    clear k1
    go_wp2_with fail
    go_ret2
    exact ⟨rfl, rfl⟩

set_option maxHeartbeats 1000000 in
theorem phold (p : Nat) (F : Fs) (G : Nat → Prop) (w : World) (H : Pf w p F G) (hF : FOk F) (n : Int) :
    Calls Tryz.prog 55 #[.pointer (some ⟨p, 0, none⟩), .int .i64 n] w fun e w' => e = .returned (.int .i64 (F.hold n).2) ∧ PfTo w p (F.hold n).1 G w' := by
  have HP := H
  obtain ⟨S, HS, R, hG⟩ := H
  by_cases ht : F.there n = false
  · have e : F.hold n = (F, 2) := by unfold Fs.hold; rw [if_pos ht]
    rw [e]
    have k0 := hid (node_no p S w HS n (there_no R ht))
    have HQ := hid (PfTo.same HP (Below.refl _ w))
    clear HS R hG HP e ht
    go_enter Tryz.func55, Tryz.ntmps55
    go_wp2_with fail
    refine k0.out.mono ?_
    rintro e w1 ⟨rfl, rfl⟩
    clear k0
    go_wp2_with fail
    go_ret
    exact ⟨rfl, HQ.out⟩
  obtain ⟨i, rfl, h1, h2, hk⟩ := there_yes (by simpa using ht : F.there n = true)
  have hh := hF.h i
  have eh := (R.P i h2).h
  have hkk : (S.P i).k ≠ 0 := by rw [(R.P i h2).k]; exact hk
  obtain ⟨m, hm⟩ : ∃ m : Nat, (F.P i).h = (m : Int) := ⟨(F.P i).h.toNat, by omega⟩
  by_cases h3 : 1000 ≤ (F.P i).h
  · have e : F.hold (i : Int) = (F, 11) := by unfold Fs.hold; rw [if_neg ht]; exact if_pos h3
    rw [e]
    have hm1 : m = 1000 := by omega
    have k0 := hid (node_yes p S w HS i h1 h2 hkk)
    have c := HS.h i h2
    rw [eh, hm, hm1] at c
    have HQ := hid (PfTo.same HP (Below.refl _ w))
    clear HS R hG HP e ht hk hh eh hkk hm h3
    go_enter Tryz.func55, Tryz.ntmps55
    go_wp2_with fail
    refine k0.out.mono ?_
    rintro e w1 ⟨rfl, rfl⟩
    clear k0
    go_wp2_with fail
    go_ret
    exact ⟨rfl, HQ.out⟩
  · have e : F.hold (i : Int) = (F.hld i ((F.P i).h + 1), 0) := by unfold Fs.hold; rw [if_neg ht]; exact if_neg h3
    rw [e]
    refine (hold_yes p S w HS i h1 h2 hkk m (eh.trans hm) (by omega)).mono ?_
    rintro e w' ⟨rfl, h4, u⟩
    refine ⟨rfl, PfTo.of hG h4 (by rw [hm]; exact R.hold i h2 ((m : Int) + 1)) (fun x hx => ?_) (u.mono (fun x _ hx => .inl hx))⟩
    · left
      rcases hx with hx | ⟨j, hj, hx⟩
      · exact .inl hx
      · refine .inr ⟨j, hj, ?_⟩
        rw [← hx]
        show _ = (updN S.P i _ j).m
        by_cases e : j = i
        · subst e; rw [updN_same]; rfl
        · rw [updN_ne _ _ _ _ e]

theorem foot_at {S : Sg} {p i : Nat} {x : Nd} (hm : x.m = (S.P i).m) (b : Nat) (h : (S.at_ i x).foot p b) : S.foot p b := by
  rcases h with h | ⟨j, hj, h⟩
  · exact .inl h
  · refine .inr ⟨j, hj, ?_⟩
    rw [← h]
    show _ = (updN S.P i x j).m
    by_cases e : j = i
    · subst e; rw [updN_same, hm]
    · rw [updN_ne _ _ _ _ e]
theorem foot_gone {S : Sg} {p i : Nat} {T : Nat → Bool} (b : Nat) (h : ((S.tk T).gone i).foot p b) : S.foot p b := by
  rcases h with h | ⟨j, hj, h⟩
  · exact .inl h
  · refine .inr ⟨j, hj, ?_⟩
    change (updN S.P i noNd j).m = some b at h
    by_cases e : j = i
    · subst e; rw [updN_same] at h; simp [noNd] at h
    · rw [updN_ne _ _ _ _ e] at h; exact h

/-- What a system becomes in its own blocks. -/
def Into (w : World) (p : Nat) (S : Sg) (F : Fs) (w' : World) : Prop := ∃ S', Sy w' p S' ∧ Rel S' F ∧ (∀ x, S'.foot p x → S.foot p x) ∧ Upd (S.foot p) w w'
theorem Into.to {w w' : World} {p : Nat} {S : Sg} {F : Fs} {G : Nat → Prop} (h : Into w p S F w') (h0 : ∀ x, S.foot p x → G x) : PfTo w p F G w' := by
  obtain ⟨S', h1, h2, h3, h4⟩ := h
  exact ⟨⟨S', h1, h2, fun x hx => .inl (h0 x (h3 x hx))⟩, h4.mono (fun x _ hx => h0 x hx)⟩
theorem Into.trans {w w1 w2 : World} {p : Nat} {S S1 : Sg} {F2 : Fs} (hf : ∀ x, S1.foot p x → S.foot p x) (u : Upd (S.foot p) w w1) (k : Into w1 p S1 F2 w2) : Into w p S F2 w2 := by
  obtain ⟨S2, k1, k2, k3, k4⟩ := k
  exact ⟨S2, k1, k2, fun x hx => hf x (k3 x hx), u.trans k4 (fun x _ hx => hf x hx)⟩
theorem upd_p {w w' : World} {p : Nat} {S : Sg} (u : Upd (· = p) w w') : Upd (S.foot p) w w' := u.mono (fun x _ hx => .inl hx)

theorem NdR.bs {x : Nd} {y : Fn} (h : NdR x y) (hB : y.B.length = Fs.need y.c.length) : y.B.length = need x.s ∧ ∀ j, j < need x.s → x.B.getD j 0 = ((y.B.getD j 0 : Nat) : Int) := by
  have e : y.B.length = need x.s := by rw [hB, h.s]; rfl
  exact ⟨e, fun j hj => h.B j (by omega)⟩

/-- A node that nothing keeps goes. -/
theorem psettle (p : Nat) (S : Sg) (F : Fs) (w : World) (H : Sy w p S) (R : Rel S F) (i : Nat) (hi : i < 17) (hi0 : i ≠ 0) (h1 : i = 1 → 0 < (F.P i).l) (hc : (F.P i).c.length ≤ 96) (hB : (F.P i).B.length = Fs.need (F.P i).c.length) (hT : ∀ b ∈ (F.P i).B, b < 25)
    (hQ : ¬ (0 < (F.P i).l ∨ 0 < (F.P i).h) → (F.P i).Q = []) :
    Calls Tryz.prog 149 #[.pointer (some ⟨p, 0, none⟩), .int .i64 (i : Int)] w fun e w' => e = .returned (.tuple #[]) ∧ Into w p S (F.gone i) w' := by
  have r := R.P i hi
  unfold Fs.gone
  by_cases hk : 0 < (F.P i).l ∨ 0 < (F.P i).h
  · rw [if_pos hk]
    refine (settle_keep p S w H i hi (by rw [r.l, r.h]; exact hk)).mono ?_
    rintro e w' ⟨rfl, rfl⟩
    exact ⟨rfl, S, H, R, fun _ h => h, Upd.refl _ _⟩
  · rw [if_neg hk]
    obtain ⟨b1, b2⟩ := r.bs hB
    refine (settle_gone p S w H i hi hi0 (fun e => hk (.inl (h1 e))) (by rw [r.l]; omega) (by rw [r.h]; omega) (by rw [r.s]; exact hc) (F.P i).B b1 b2 hT).mono ?_
    rintro e w' ⟨rfl, h, u⟩
    exact ⟨rfl, _, h, R.gone i (hQ hk) _, fun x hx => foot_gone x hx, upd_p u⟩

set_option maxHeartbeats 2000000 in
theorem ptklink (p : Nat) (S : Sg) (F : Fs) (w : World) (H : Sy w p S) (R : Rel S F) (i : Nat) (hi : i < 17) (hi0 : i ≠ 0) (h1 : i ≠ 1) (hl : 0 ≤ (F.P i).l ∧ (F.P i).l ≤ 1000000) (hc : (F.P i).c.length ≤ 96) (hB : (F.P i).B.length = Fs.need (F.P i).c.length) (hT : ∀ b ∈ (F.P i).B, b < 25)
    (hQ : ¬ (0 < (F.P i).l - 1 ∨ 0 < (F.P i).h) → (F.P i).Q = []) :
    Calls Tryz.prog 134 #[.pointer (some ⟨p, 0, none⟩), .int .i64 (i : Int)] w fun e w' => e = .returned (.tuple #[]) ∧ Into w p S (F.less i) w' := by
  have d := H.l i hi
  rw [(R.P i hi).l] at d
  have f := H.fz (1 + i * 107 + 1)
  have a0 : (0 : Int) ≤ (i : Int) := by omega
  have a1 : (i : Int) < 17 := by omega
  obtain ⟨l, gl⟩ : ∃ l, l = (F.P i).l := ⟨_, rfl⟩
  have hS : Sy (w.setCell ⟨p, 1 + i * 107 + 1, none⟩ (.int .i64 (l - 1))).drew p (S.at_ i ((S.P i).link (l - 1))) := (H.linkTo i hi (l - 1)).hp rfl
  have hR : Rel (S.at_ i ((S.P i).link (l - 1))) (F.lnk i (l - 1)) := R.link i hi _
  have eP : (F.lnk i (l - 1)).P i = { F.P i with l := l - 1 } := Fs.at_self _ _ _
  have eF : (F.lnk i (l - 1)).gone i = F.less i := by rw [gl]; rfl
  have k1 : Hid (Calls Tryz.prog 149 #[.pointer (some ⟨p, 0, none⟩), .int .i64 (i : Int)] (w.setCell ⟨p, 1 + i * 107 + 1, none⟩ (.int .i64 (l - 1))).drew fun e w' => e = .returned (.tuple #[]) ∧ Into w p S (F.less i) w') := by
    refine hid ((psettle p _ (F.lnk i (l - 1)) _ hS hR i hi hi0 (fun e => absurd e h1) (by rw [eP]; exact hc) (by rw [eP]; exact hB) (by rw [eP]; exact hT) (by rw [eP, gl]; exact hQ)).mono ?_)
    rintro e w' ⟨rfl, h⟩
    rw [eF] at h
    have hu : Upd (S.foot p) w (w.setCell ⟨p, 1 + i * 107 + 1, none⟩ (.int .i64 (l - 1))).drew := upd_p ((Upd.setCell (F := (· = p)) w ⟨p, _, none⟩ _ rfl).drewN 1)
    have hf : ∀ x, (S.at_ i ((S.P i).link (l - 1))).foot p x → S.foot p x := fun x hx => foot_at (x := (S.P i).link (l - 1)) rfl x hx
    exact ⟨rfl, Into.trans hf hu h⟩
  rw [← gl] at d hl
  have hl0 := hl.1
  have hl1 := hl.2
  clear H R hS hR eP eF hc hB hT hQ gl hl
  go_enter Tryz.func134, Tryz.ntmps134
  go_wp2_with fail
  go_region
  go_wp2_with fail
  refine k1.out.mono ?_
  rintro e w1 ⟨rfl, h⟩
  have HH := hid h
  clear h k1
  go_wp2_with fail
  go_end0
  exact ⟨rfl, HH.out⟩

end Go.Proofs.YtoknhcjneliboaaGreat

/- What Unlink does to a file that is held. -/
namespace Go.Proofs.YtoknhcjneliboaaGreat
open Go.RowKit Go.ChangeMaps Go.MapKept
set_option linter.unusedVariables false
set_option maxRecDepth 20000

set_option maxHeartbeats 8000000 in
theorem unlink_held (p : Nat) (S : Sg) (t : ByteArray) (w : World) (H : Sy w p S) (hT : Tree S) (hs : t.size ≤ 140737488355328) (y : List Nat) (s : List UInt8) (i : Nat) (hr : wkS S t = .ok (y, s, i)) (hi0 : i ≠ 0) (hk : (S.P i).k = 1) (hl : (S.P i).l = 1) (n : Nat) (hh : (S.P i).h = (n : Int)) (hn : 0 < n) :
    Calls Tryz.prog 103 #[.pointer (some ⟨p, 0, none⟩), .string t] w fun e w' => e = .returned (.int .i64 0) ∧ Sy w' p ((S.drop (y.getLastD 0) s).at_ i ((S.P i).link 0)) ∧ Upd (S.foot p) w w' := by
  have k0 := hid H.usable
  have k1 := hid (tonode_any p S t w H hT hs)
  rw [hr, show toNode (.ok (y, s, i)) = .ok (y, s, i) by simp [toNode, hi0]] at k1
  obtain ⟨d, hd, hd17, hdk, hnd, hsn, hsl⟩ := wkS_ok H hr
  have hi17 : i < 17 := by rw [hnd]; exact H.to d s hd17
  have hdL : y.getLastD 0 = d := by rw [List.getLastD_eq_getLast?, hd]; rfl
  rw [hdL]
  have HS := hid H
  have HD := hid (And.intro hdk (And.intro hnd (And.intro hk (And.intro hl hh))))
  have HY := hid hd
  clear H hr hdk hnd hk hl hh hd hdL
  go_enter Tryz.func103, Tryz.ntmps103
  go_wp2_with fail
  refine k0.out.mono ?_
  rintro e w1 ⟨rfl, rfl⟩
  clear k0
  go_wp2_with fail
  refine k1.out.mono ?_
  rintro e w2 ⟨v, rfl, hb2, hv⟩
  have HB2 := hid hb2
  clear k1 hb2
  obtain ⟨u, rfl, yv, nm, rfl, hnm, hown⟩ := hv
  obtain ⟨gy, cy, rfl, hy0, hgy, hcy, hyc, hcm⟩ := last_own hown HY.out
  have HNM := hid hnm
  have hgb := (hown.lt gy rfl).1
  obtain ⟨W3, g3⟩ : ∃ W3, W3 = w2.alloc (Obj.cells #[.slice (some ⟨gy, 0, none⟩) y.length cy, .string nm, .int .i64 (i : Int)] 184) := ⟨_, rfl⟩
  have hP3 : W3.heap[w2.heap.size]? = some (.cells #[.slice (some ⟨gy, 0, none⟩) y.length cy, .string nm, .int .i64 (i : Int)] 184 (0, 0)) := by rw [g3]; exact heap_alloc_new w2 _
  have hB3 : Below w1.heap.size w1 W3 := by rw [g3]; exact HB2.out.trans ((one_new w2 _).mono HB2.out.size)
  have hZ3 : w2.heap.size < W3.heap.size ∧ gy < W3.heap.size := by rw [g3]; simp; omega
  have hC3 : W3.cell? ⟨gy, y.length - 1, none⟩ = some (.int .i64 (d : Int)) := by rw [g3]; exact ((one_new w2 _).cell (p := ⟨gy, y.length - 1, none⟩) hgy).trans hcy
  have hS3 : Sy W3 p S := HS.out.grow hB3
  obtain ⟨a0, a1, a2, _, _, _⟩ := plc_cells hP3
  have hi1 : (0 : Int) ≤ (i : Int) := by omega
  have hi2 : (i : Int) < 17 := by omega
  have HB3 := hid hB3
  have HZ3 := hid hZ3
  have HC3 := hid hC3
  have HS3 := hid hS3
  have HP3 := hid hP3
  clear hown hcy hnm hgy hS3 hP3 hB3 hZ3 hC3
  go_wp2_with fail
  rw [← g3]
  clear g3
  go_region
  have hS4 : Sy W3.drew p S := HS3.out.hp rfl
  have hpl := HS.out.lt
  have hb1s := HB2.out.size
  have hnmz : nm.size ≤ 6 := by have := bl_len nm; rw [HNM.out] at this; omega
  have k2 : Hid (Calls Tryz.prog 123 #[.pointer (some ⟨p, 1 + i * 107, none⟩)] W3.drew fun e w' => e = .returned (.bool false) ∧ w' = W3.drew) := by
    have := hS4.k i hi17
    rw [HD.out.2.2.1] at this
    exact hid (isdir_any p _ 1 W3.drew this)
  have k3 := hid (tkname_any p S W3.drew hS4 gy y.length cy d nm (i : Int) hy0 HC3.out HZ3.out.2 hyc hcm hd17 HD.out.1 (by rw [HNM.out, ← HD.out.2.1]; exact hi0) (by omega))
  have HP4 : Hid (W3.drew.heap[w2.heap.size]? = some (.cells #[.slice (some ⟨gy, 0, none⟩) y.length cy, .string nm, .int .i64 (i : Int)] 184 (0, 0))) := hid HP3.out
  have HZ4 : Hid (w2.heap.size < W3.drew.heap.size) := hid HZ3.out.1
  obtain ⟨W4, g4⟩ : ∃ W4, W4 = W3.drew := ⟨_, rfl⟩
  have HU4 : Hid (Upd (S.foot p) w1 W4) := by rw [g4]; exact hid ((Upd.of_below HB3.out).drewN 1)
  rw [← g4] at k2 k3 HP4 HZ4 ⊢
  clear a0 a1 a2
  obtain ⟨a0, a1, a2, _, _, _⟩ := plc_cells HP4.out
  clear hS4 g4 HS3 HC3 HP3 HB3
  go_wp2_with fail
  refine k2.out.mono ?_
  rintro e w4 ⟨rfl, rfl⟩
  clear k2
  go_wp2_with fail
  refine k3.out.mono ?_
  rintro e w5 ⟨rfl, h5, u5⟩
  have d1 := h5.l i hi17
  rw [show ((S.drop d (bl nm)).P i).l = 1 from HD.out.2.2.2.1] at d1
  have hne : (S.P d).m ≠ some w2.heap.size := fun e => by
    have := HS.out.foot_lt w2.heap.size (.inr ⟨d, hd17, e⟩)
    omega
  have d2 : w5.cell? ⟨w2.heap.size, 2, none⟩ = some (.int .i64 (i : Int)) := (World.cell?_of_block (a := ⟨w2.heap.size, 2, none⟩) (u5.block w2.heap.size HZ4.out hne)).trans a2
  have k5 := hid (tklink_stay p (S.drop d (bl nm)) w5 h5 i hi17 HD.out.2.2.2.1 n HD.out.2.2.2.2 hn)
  have HU5 : Hid (Upd (S.foot p) w1 w5) := hid (HU4.out.trans u5 (fun x _ hx => .inr ⟨d, hd17, hx⟩))
  clear k3 h5 u5 hne a0 a1 a2
  go_wp2_with fail
  refine k5.out.mono ?_
  rintro e w6 ⟨rfl, h6, u6⟩
  have H6 := hid h6
  have U6 := hid u6
  clear k5 h6 u6
  go_wp2_with fail
  go_ret
  refine ⟨rfl, ?_, HU5.out.trans U6.out (fun x _ hx => .inl hx)⟩
  rw [← HNM.out]
  exact H6.out

end Go.Proofs.YtoknhcjneliboaaGreat
