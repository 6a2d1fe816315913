/- Texts of this seat, merged. -/
import Derived.Test.YtoknhcjneliboaaGreatFMg11
import Derived.Test.YtoknhcjneliboaaGreatFMg5

/- What the document's add and Make do, at a root alone. -/
namespace Go.Proofs.YtoknhcjneliboaaGreat
open Go.RowKit
set_option linter.unusedVariables false

theorem infoNm : (Tryz.prog.info? 151).map (fun i => (i.zero, i.size, i.bytes)) = some (some (.agg #[.string ⟨#[]⟩, .int .i64 0]), 2, 24) := by kernel_rfl

theorem cell_two (w : World) (u v : Value) (ty : TypeId) : ∀ j x, ([u, v] : List Value)[j]? = some x → (w.alloc (.cells #[u, v] ty)).cell? ((⟨w.heap.size, 0, none⟩ : Addr).add j) = some x := by
  intro j x h
  cases j with
  | zero => simp at h; subst h; simp [Addr.add, go_sem]
  | succ j => cases j with
    | zero => simp at h; subst h; simp [Addr.add, go_sem]
    | succ j => simp at h

set_option maxHeartbeats 2000000 in
theorem add_first (p b : Nat) (s : ByteArray) (w : World) (c0 : w.cell? ⟨p, 0, none⟩ = some (.slice (some ⟨b, 0, none⟩) 17 17)) (c1 : w.cell? ⟨b, 11, none⟩ = some (.slice none 0 0)) (f1 : w.frozen? ⟨b, 11, none⟩ = false) (hp : p < w.heap.size) (hb : b < w.heap.size) :
    Calls Tryz.prog 112 #[.pointer (some ⟨p, 0, none⟩), .int .i64 1, .string s, .int .i64 2] w fun e w' => e = .returned (.tuple #[]) ∧ Upd (· = b) w w' := by
  obtain ⟨i0, hi0, hz0, hz1, hz2⟩ := info_parts infoNm
  go_enter Tryz.func112, Tryz.ntmps112
  go_wp2_with fail
  go_loopw [8, 9, 21] (fun v8 v9 v21 wr => v8 = .slice none 0 0 ∧ v9 = .bool false ∧ v21 = .int .i64 0 ∧ wr = w) (fun _ _ _ _ => 0)
  case atStart => exact ⟨rfl, rfl, rfl, rfl⟩
  case round =>
    obtain ⟨rfl, rfl, rfl, rfl⟩ := hrel
    go_wp2_with (at_builtin; go_must (refine wpList_append_own _ rfl (.tmp 46) (.tmp 50) 115 rfl wr.heap.size 151 i0 _ 2 24 Tryz.underlying115 hi0 hz0 hz1 hz2 rfl (by decide) _ 0 [] rfl (World.ownsRow_nil _ _ _ _) ⟨_, 0, none⟩ 1 1 [.string s, .int .i64 2] rfl rfl (cell_two _ _ _ _) (by simp [Value.oneCell']) (by unfold maxLen; omega) (by omega) (by simp) ?_))
    intro v' w6 hO hG hN
    obtain ⟨va, vc, rfl⟩ : ∃ va vc, v' = .slice va (0 + 1) vc := by
      rcases hO.2 with ⟨h1, h2⟩ | ⟨g, c, cur, rfl, _⟩
      · omega
      · exact ⟨_, c, rfl⟩
    have hbel : Below wr.heap.size wr w6 := ((Below.refl wr.heap.size wr).alloc (Nat.le_refl _) (.cells #[.string s, .int .i64 2] 151)).grown hG (by simp) (fun x hx => by simp [Value.ownBlock] at hx)
    have d0 : w6.cell? ⟨p, 0, none⟩ = some (.slice (some ⟨b, 0, none⟩) 17 17) := (hbel.cell (p := ⟨p, 0, none⟩) hp).trans c0
    have d1 : w6.cell? ⟨b, 11, none⟩ = some (.slice none 0 0) := (hbel.cell (p := ⟨b, 11, none⟩) hb).trans c1
    have d2 : w6.frozen? ⟨b, 11, none⟩ = false := by
      have := hbel.block b hb
      simp only [World.frozen?] at f1 ⊢
      rw [this]; exact f1
    have HBL := hid hbel
    clear hO hG hN hbel c0 c1 f1
    go_wp2_with fail
    go_end0
    exact ⟨rfl, (Upd.of_below HBL.out).trans (Upd.setCell (F := (· = b)) w6 ⟨b, 11, none⟩ _ rfl) (fun x _ h => h)⟩

theorem builtR1 : Tryz.prog.built 117 [(0, .int .i64 1), (1, .int .i64 1)] = some #[.int .i64 1, .int .i64 1, .int .i64 0, .slice none 0 0, .slice none 0 0, .slice none 0 0] := by kernel_rfl

set_option maxHeartbeats 4000000 in
set_option maxRecDepth 20000 in
theorem r6make (p b : Nat) (t : ByteArray) (w : World) (H : R6 w p b) (hs : t.size ≤ 1048576) :
    Calls Tryz.prog 76 #[.pointer (some ⟨p, 0, none⟩), .string t, .int .i64 1] w fun e w' => (∃ n, e = .returned (.tuple #[.int .i64 n, .int .i64 (endE (bl t))])) ∧ Upd (· = b) w w' := by
  have k1 := hid (end_any p b t w H hs)
  obtain ⟨E, gE⟩ : ∃ E, E = endE (bl t) := ⟨_, rfl⟩
  rw [← gE] at k1 ⊢
  have HR := hid H
  clear H gE
  go_enter Tryz.func76, Tryz.ntmps76
  go_wp2_with fail
  refine k1.out.mono ?_
  rintro e w1 ⟨hB, hE⟩
  have HB := hid hB
  have HR1 := hid (HR.out.below hB)
  clear k1 hB HR
  rcases hE with ⟨hE, rfl⟩ | ⟨hE, s, rfl⟩
  · clear HR1
    go_wp2_with fail
    go_ret2
    exact ⟨⟨0, rfl⟩, Upd.of_below HB.out⟩
  · subst hE
    have k2 := hid (look_none p b s w1 HR1.out)
    have c0 := HR1.out.c0
    obtain ⟨c1, c2, c3⟩ := HR1.out.cb
    go_wp2_with fail
    refine k2.out.mono ?_
    rintro e w2 ⟨rfl, rfl⟩
    clear k2
    go_wp2_with fail
    go_loopw [11] (fun v11 wr => (v11 = .int .i64 1 ∨ v11 = .int .i64 2) ∧ wr = w2) (fun v11 _ => 2 - (intOf v11).toNat)
    case atStart => exact ⟨.inl rfl, rfl⟩
    case round =>
      obtain ⟨hv, rfl⟩ := hrel
      rcases hv with rfl | rfl
      · go_wp2_with fail
        go_roundw
        case rel => exact ⟨.inr rfl, trivial⟩
        case measure => simp [intOf]
      · obtain ⟨N, gN⟩ : ∃ N : List Value, N = [.int .i64 1, .int .i64 1, .int .i64 0, .slice none 0 0, .slice none 0 0, .slice none 0 0] := ⟨_, rfl⟩
        have H1 : Hid (N.toArray.all (·.oneCell') = true) := by rw [gN]; exact hid (by simp [Value.oneCell'])
        have HSZ : Hid ((Tryz.prog.info? 117).map (·.size) = some N.toArray.size) := by rw [gN]; exact hid csizeR6
        have HBT : Hid (Tryz.prog.built 117 [(0, .int .i64 1), (1, .int .i64 1)] = some N.toArray) := by rw [gN]; exact hid builtR1
        have HT : Hid (N.toArray.size = 6) := by rw [gN]; exact hid rfl
        have HTH : Hid (wr.there b 12 N.toArray.size) := by
          obtain ⟨C, h1, h2, _⟩ := HR1.out.row
          rw [HT.out]
          exact hid (there_of_block h1 12 6 (by omega))
        have k3 : Hid (Calls Tryz.prog 112 #[.pointer (some ⟨p, 0, none⟩), .int .i64 1, .string s, .int .i64 2] (wr.setCells b 12 N) fun e w' => e = .returned (.tuple #[]) ∧ Hid (Upd (· = b) (wr.setCells b 12 N) w')) := by
          have u := upd_setCells b N 12 wr
          obtain ⟨l1, l2⟩ := HR1.out.lt
          obtain ⟨C, h1, h2, _, h4, _⟩ := HR1.out.row
          have hN6 : N.length = 6 := by have := HT.out; simpa using this
          have h3 := heap_setCells b 117 N 12 wr C h1 (by omega)
          have hsz := size_setCells b N 12 wr
          refine hid ((add_first p b s _ ?_ ?_ ?_ (by omega) (by omega)).mono ?_)
          · exact (World.cell?_of_block (a := ⟨p, 0, none⟩) (u.block p l1 HR1.out.ne)).trans HR1.out.c0
          · exact cell_list h3 ((getElem?_splice_out _ _ _ _ (by omega) (by omega)).trans h4)
          · simp [World.frozen?, h3]
          · rintro e w' ⟨rfl, q⟩
            exact ⟨rfl, hid q⟩
        have HSU := hid (upd_setCells b N 12 wr)
        clear gN
        go_wp2_with (first
          | (refine wpList_build_is rfl 117 #[(0, .tmp 67), (1, .const (.int .i64 1))] rfl N.toArray (by simpa [Act.eval] using HBT.out) ?_)
          | (refine wpList_store_mid rfl 117 (.tmp 69) (.tmp 68) rfl b 12 N.toArray rfl rfl HTH.out HSZ.out H1.out ?_))
        refine k3.out.mono ?_
        rintro e w3 ⟨rfl, H3⟩
        clear k3
        go_wp2_with fail
        go_ret2
        exact ⟨⟨2, rfl⟩, ((Upd.of_below HB.out).trans HSU.out (fun x _ h => h)).trans H3.out (fun x _ h => h)⟩

end Go.Proofs.YtoknhcjneliboaaGreat

/- The document's system with another node; its drop and add of a name. -/
namespace Go.Proofs.YtoknhcjneliboaaGreat
open Go.RowKit
set_option linter.unusedVariables false
set_option maxRecDepth 20000

/-- A node's cells. -/
def ndL (y : Fn) (a b c : Value) : List Value := [.int .i64 y.k, .int .i64 y.l, .int .i64 y.h, a, b, c]

/-- Another node at a number: its cells from o on are stored anew, of its rows each is what it was or new. -/
theorem Rf.put {U : Nat → Prop} {w w6 : World} {x g u : Nat} {V : Nat → Value} {F : Fs} (H : Rf w x g u V F) (n : Nat) (hn : n < 17) (y : Fn) (V' : Nat → Value) (hV : ∀ i, i / 3 ≠ n → V' i = V i)
    (hU : Upd U w w6) (hUx : ∀ b, RfFoot x g u V b → U b → ∃ i, i / 3 = n ∧ (V i).ownBlock = some b)
    (o : Nat) (vs : List Value) (ho : o + vs.length ≤ 6) (hvs : splice (ndL (F.P n) (V (n * 3)) (V (n * 3 + 1)) (V (n * 3 + 2))) o vs = ndL y (V' (n * 3)) (V' (n * 3 + 1)) (V' (n * 3 + 2)))
    (r0 : w6.ownsRow 0 5 1 (V' (n * 3)) y.c.length (y.c.map (Value.int .u8))) (r1 : w6.ownsRow 0 3 1 (V' (n * 3 + 1)) y.B.length (y.B.map fun (b : Nat) => Value.int .i64 (b : Int))) (r2 : w6.ownsRow 0 151 2 (V' (n * 3 + 2)) y.Q.length (nmC y.Q))
    (own : ∀ i b, i / 3 = n → (V' i).ownBlock = some b → w.heap.size ≤ b ∨ (V i).ownBlock = some b)
    (apart : ∀ i j b, i / 3 = n → j / 3 = n → w.heap.size ≤ b → (V' i).ownBlock = some b → (V' j).ownBlock = some b → i = j) :
    Rf (w6.setCells g (n * 6 + o) vs) x g u V' (F.at_ n y) := by
  obtain ⟨C, h1, h2, h3⟩ := H.nds
  obtain ⟨D, h4, h5, h6⟩ := H.use
  have hUn : ∀ b, RfFoot x g u V b → (∀ i, i / 3 = n → (V i).ownBlock ≠ some b) → ¬ U b := fun b hb h hu => by
    obtain ⟨i, hi, e⟩ := hUx b hb hu
    exact h i hi e
  have ng3 : ∀ i b, i / 3 = n → (V i).ownBlock = some b → b ≠ x ∧ b ≠ g ∧ b ≠ u := fun i b hi e => H.ng i b (by omega) e
  have hx6 := hU.heap H.at0 (hUn x (.inl rfl) (fun i hi e => (ng3 i x hi e).1 rfl))
  have hg6 := hU.heap h1 (hUn g (.inr (.inl rfl)) (fun i hi e => (ng3 i g hi e).2.1 rfl))
  have hu6 := hU.heap h4 (hUn u (.inr (.inr (.inl rfl))) (fun i hi e => (ng3 i u hi e).2.2 rfl))
  have hs := upd_setCells g vs (n * 6 + o) w6
  have hg7 := heap_setCells g 117 vs (n * 6 + o) w6 C hg6 (by omega)
  have hgl : g < w.heap.size := (Array.getElem?_eq_some_iff.1 h1).1
  have hxl : x < w.heap.size := (Array.getElem?_eq_some_iff.1 H.at0).1
  have hul : u < w.heap.size := (Array.getElem?_eq_some_iff.1 h4).1
  have old : ∀ i b, i < 51 → (V i).ownBlock = some b → b < w.heap.size := fun i b hi e => H.foot_lt b (.inr (.inr (.inr ⟨i, hi, e⟩)))
  have ng' : ∀ i b, i < 51 → (V' i).ownBlock = some b → b ≠ x ∧ b ≠ g ∧ b ≠ u := fun i b hi e => by
    by_cases hin : i / 3 = n
    · rcases own i b hin e with q | q
      · exact ⟨by omega, by omega, by omega⟩
      · exact H.ng i b hi q
    · rw [hV i hin] at e
      exact H.ng i b hi e
  have other : ∀ i, i < 51 → i / 3 ≠ n → ∀ b, (V i).ownBlock = some b → ¬ U b := fun i hi hin b e => hUn b (.inr (.inr (.inr ⟨i, hi, e⟩))) (fun j hj ej => hin (by rw [H.ap i j b hi (by omega) e ej]; exact hj))
  have e0 : ∀ i, i ≠ n → (F.at_ n y).P i = F.P i := fun i hi => if_neg hi
  have e1 : (F.at_ n y).P n = y := if_pos rfl
  refine ⟨hs.heap hx6 (fun e => H.ne.1 e), ⟨_, hg7, by rw [length_splice _ _ _ (by omega)]; exact h2, ?_⟩, ⟨D, hs.heap hu6 (fun e => H.ne.2.2 e.symm), h5, h6⟩, ?_, ?_, ?_, ?_, ng', H.ne⟩
  · intro i hi
    by_cases hin : i = n
    · subst hin
      rw [e1]
      have key : ∀ k, k < 6 → (splice C (i * 6 + o) vs)[i * 6 + k]? = (ndL y (V' (i * 3)) (V' (i * 3 + 1)) (V' (i * 3 + 2)))[k]? := by
        intro k hk
        rw [← hvs]
        by_cases hk2 : o ≤ k ∧ k < o + vs.length
        · rw [show i * 6 + k = i * 6 + o + (k - o) by omega, getElem?_splice_in _ _ _ _ (by omega) (by omega)]
          have := getElem?_splice_in (ndL (F.P i) (V (i * 3)) (V (i * 3 + 1)) (V (i * 3 + 2))) vs o (k - o) (by simpa [ndL] using ho) (by omega)
          rw [show o + (k - o) = k by omega] at this
          exact this.symm
        · rw [getElem?_splice_out _ _ _ _ (by omega) (by omega), getElem?_splice_out _ _ _ _ (by simpa [ndL] using ho) (by omega)]
          obtain ⟨q0, q1, q2, q3, q4, q5⟩ := h3 i hi
          rcases (show k = 0 ∨ k = 1 ∨ k = 2 ∨ k = 3 ∨ k = 4 ∨ k = 5 by omega) with rfl | rfl | rfl | rfl | rfl | rfl
          · exact q0
          · exact q1
          · exact q2
          · exact q3
          · exact q4
          · exact q5
      exact ⟨key 0 (by omega), key 1 (by omega), key 2 (by omega), key 3 (by omega), key 4 (by omega), key 5 (by omega)⟩
    · rw [e0 i hin, hV (i * 3) (by omega), hV (i * 3 + 1) (by omega), hV (i * 3 + 2) (by omega)]
      have key : ∀ k, k < 6 → (splice C (n * 6 + o) vs)[i * 6 + k]? = C[i * 6 + k]? := fun k hk => getElem?_splice_out _ _ _ _ (by omega) (by omega)
      have k0 := key 0 (by omega)
      rw [Nat.add_zero] at k0
      rw [k0, key 1 (by omega), key 2 (by omega), key 3 (by omega), key 4 (by omega), key 5 (by omega)]
      exact h3 i hi
  · intro i hi
    have hg' : ∀ b, (V' (i * 3)).ownBlock = some b → ¬ b = g := fun b e => (ng' _ b (by omega) e).2.1
    by_cases hin : i = n
    · subst hin; rw [e1]; exact hs.own r0 hg'
    · rw [e0 i hin]
      rw [hV _ (by omega)] at hg' ⊢
      exact hs.own (hU.own (H.rb i hi) (other _ (by omega) (by omega))) hg'
  · intro i hi
    have hg' : ∀ b, (V' (i * 3 + 1)).ownBlock = some b → ¬ b = g := fun b e => (ng' _ b (by omega) e).2.1
    by_cases hin : i = n
    · subst hin; rw [e1]; exact hs.own r1 hg'
    · rw [e0 i hin]
      rw [hV _ (by omega)] at hg' ⊢
      exact hs.own (hU.own (H.rB i hi) (other _ (by omega) (by omega))) hg'
  · intro i hi
    have hg' : ∀ b, (V' (i * 3 + 2)).ownBlock = some b → ¬ b = g := fun b e => (ng' _ b (by omega) e).2.1
    by_cases hin : i = n
    · subst hin; rw [e1]; exact hs.own r2 hg'
    · rw [e0 i hin]
      rw [hV _ (by omega)] at hg' ⊢
      exact hs.own (hU.own (H.rQ i hi) (other _ (by omega) (by omega))) hg'
  · intro i j b hi hj ei ej
    by_cases hin : i / 3 = n
    · by_cases hjn : j / 3 = n
      · rcases own i b hin ei with q | q
        · exact apart i j b hin hjn q ei ej
        · rcases own j b hjn ej with q' | q'
          · exact absurd (old i b hi q) (by omega)
          · exact H.ap i j b hi hj q q'
      · rw [hV j hjn] at ej
        rcases own i b hin ei with q | q
        · exact absurd (old j b hj ej) (by omega)
        · exact H.ap i j b hi hj q ej
    · rw [hV i hin] at ei
      by_cases hjn : j / 3 = n
      · rcases own j b hjn ej with q | q
        · exact absurd (old i b hi ei) (by omega)
        · exact H.ap i j b hi hj ei q
      · rw [hV j hjn] at ej
        exact H.ap i j b hi hj ei ej

/-- Another row at a place. -/
def setV (V : Nat → Value) (i : Nat) (v : Value) : Nat → Value := fun j => if j = i then v else V j
theorem setV_same (V : Nat → Value) (i : Nat) (v : Value) : setV V i v i = v := if_pos rfl
theorem setV_ne (V : Nat → Value) (i j : Nat) (v : Value) (h : j ≠ i) : setV V i v j = V j := if_neg h
theorem own_ge {w : World} {B e size n : Nat} {v : Value} {xs : List Value} (h : w.ownsRow B e size v n xs) : ∀ b, v.ownBlock = some b → B ≤ b := fun b hb => (h.lt b hb).1

/-- Other names at a number. -/
theorem Rf.names {w w6 : World} {x g u : Nat} {V : Nat → Value} {F : Fs} (H : Rf w x g u V F) (n : Nat) (hn : n < 17) (Q : List (List UInt8 × Nat)) (v : Value) (hB : Below w.heap.size w w6) (hO : w6.ownsRow w.heap.size 151 2 v Q.length (nmC Q)) :
    Rf (w6.setCell ⟨g, n * 6 + 5, none⟩ v) x g u (setV V (n * 3 + 2) v) (F.nq n Q) := by
  refine H.put (U := fun _ => False) n hn { F.P n with Q := Q } _ (fun i hi => setV_ne _ _ _ _ (fun e => hi (by omega))) (Upd.of_below hB) (fun _ _ h => h.elim) 5 [v] (by simp) ?_ ?_ ?_ ?_ ?_ ?_
  · rw [setV_same, setV_ne _ _ _ _ (by omega), setV_ne _ _ _ _ (by omega)]; rfl
  · rw [setV_ne _ _ _ _ (by omega)]; exact (H.grow hB).rb n hn
  · rw [setV_ne _ _ _ _ (by omega)]; exact (H.grow hB).rB n hn
  · rw [setV_same]; exact own_mono hO (Nat.zero_le _)
  · intro i b hi e
    by_cases h : i = n * 3 + 2
    · subst h
      rw [setV_same] at e
      exact .inl (own_ge hO b e)
    · rw [setV_ne _ _ _ _ h] at e
      exact .inr e
  · intro i j b hi hj hb ei ej
    by_cases h : i = n * 3 + 2
    · by_cases h' : j = n * 3 + 2
      · omega
      · rw [setV_ne _ _ _ _ h'] at ej
        exact absurd (H.foot_lt b (.inr (.inr (.inr ⟨j, by omega, ej⟩)))) (by omega)
    · rw [setV_ne _ _ _ _ h] at ei
      exact absurd (H.foot_lt b (.inr (.inr (.inr ⟨i, by omega, ei⟩)))) (by omega)

end Go.Proofs.YtoknhcjneliboaaGreat

/- The document's drop of a name. -/
namespace Go.Proofs.YtoknhcjneliboaaGreat
open Go.RowKit
set_option linter.unusedVariables false
set_option maxRecDepth 20000

/-- The document's system afterwards: what it owns is what it owned, or new. -/
def RfTo (w : World) (x g u : Nat) (V : Nat → Value) (F' : Fs) (w' : World) : Prop := ∃ V', Rf w' x g u V' F' ∧ Upd (RfFoot x g u V) w w' ∧ ∀ b, RfFoot x g u V' b → RfFoot x g u V b ∨ w.heap.size ≤ b
theorem Rf.same {w w' : World} {x g u : Nat} {V : Nat → Value} {F : Fs} (H : Rf w x g u V F) (hb : Below w.heap.size w w') : RfTo w x g u V F w' := ⟨V, H.grow hb, Upd.of_below hb, fun b h => .inl h⟩
theorem RfTo.trans {w w1 w2 : World} {x g u : Nat} {V V1 : Nat → Value} {F2 : Fs} (hU : Upd (RfFoot x g u V) w w1) (hV : ∀ b, RfFoot x g u V1 b → RfFoot x g u V b ∨ w.heap.size ≤ b) (h : RfTo w1 x g u V1 F2 w2) : RfTo w x g u V F2 w2 := by
  obtain ⟨V2, h1, h2, h3⟩ := h
  refine ⟨V2, h1, hU.trans h2 (fun b hb h => ?_), fun b h => ?_⟩
  · rcases hV b h with q | q
    · exact q
    · omega
  · rcases h3 b h with q | q
    · exact hV b q
    · exact .inr (Nat.le_trans hU.size q)

theorem Rf.frz {w : World} {x g u : Nat} {V : Nat → Value} {F : Fs} (H : Rf w x g u V F) (j : Nat) : w.frozen? ⟨g, j, none⟩ = false := by
  obtain ⟨C, h1, _⟩ := H.nds
  simp [World.frozen?, h1]
theorem Rf.lts {w : World} {x g u : Nat} {V : Nat → Value} {F : Fs} (H : Rf w x g u V F) : x < w.heap.size ∧ g < w.heap.size ∧ u < w.heap.size := ⟨H.foot_lt x (.inl rfl), H.foot_lt g (.inr (.inl rfl)), H.foot_lt u (.inr (.inr (.inl rfl)))⟩

theorem Rf.names_to {w w6 : World} {x g u : Nat} {V : Nat → Value} {F : Fs} (H : Rf w x g u V F) (n : Nat) (hn : n < 17) (Q : List (List UInt8 × Nat)) (v : Value) (hB : Below w.heap.size w w6) (hO : w6.ownsRow w.heap.size 151 2 v Q.length (nmC Q)) :
    RfTo w x g u V (F.nq n Q) (w6.setCell ⟨g, n * 6 + 5, none⟩ v) := by
  refine ⟨_, H.names n hn Q v hB hO, (Upd.of_below hB).trans (Upd.setCell (F := RfFoot x g u V) w6 ⟨g, n * 6 + 5, none⟩ v (.inr (.inl rfl))) (fun b _ h => h), fun b hb => ?_⟩
  rcases hb with h | h | h | ⟨i, hi, h⟩
  · exact .inl (.inl h)
  · exact .inl (.inr (.inl h))
  · exact .inl (.inr (.inr (.inl h)))
  · by_cases e : i = n * 3 + 2
    · subst e
      rw [setV_same] at h
      exact .inr (own_ge hO b h)
    · rw [setV_ne _ _ _ _ e] at h
      exact .inl (.inr (.inr (.inr ⟨i, hi, h⟩)))

theorem nmC_app : ∀ (a b : List (List UInt8 × Nat)), nmC (a ++ b) = nmC a ++ nmC b
  | [], b => rfl
  | x :: r, b => by simp [nmC, nmC_app r b]

theorem cell_two2 (w : World) (o : Obj) (u v : Value) (ty : TypeId) : ∀ j x, ([u, v] : List Value)[j]? = some x → ((w.alloc o).alloc (.cells #[u, v] ty)).cell? ((⟨w.heap.size + 1, 0, none⟩ : Addr).add j) = some x := by
  have h := cell_two (w.alloc o) u v ty
  rwa [show (w.alloc o).heap.size = w.heap.size + 1 by simp] at h

set_option maxHeartbeats 4000000 in
theorem rdropn_any (x g u : Nat) (V : Nat → Value) (F : Fs) (w : World) (H : Rf w x g u V F) (n : Nat) (hn : n < 17) (hq6 : (F.P n).Q.length ≤ 6) (t : ByteArray) :
    Calls Tryz.prog 110 #[.pointer (some ⟨x, 0, none⟩), .int .i64 (n : Int), .string t] w fun e w' => e = .returned (.tuple #[]) ∧ RfTo w x g u V (F.deln n (bl t)) w' := by
  obtain ⟨i0, hi0, hz0, hz1, hz2⟩ := info_parts infoNm
  have c0 := H.c0
  have c1 := H.q n hn
  have HLT := hid H.lts
  have n0 : (0 : Int) ≤ (n : Int) := by omega
  have n1 : (n : Int) < 17 := by omega
  obtain ⟨Q, gQ⟩ : ∃ Q, Q = (F.P n).Q := ⟨_, rfl⟩
  have hQ := H.rQ n hn
  rw [← gQ] at hQ hq6
  have HD : Hid (F.deln n (bl t) = F.nq n (del (bl t) Q)) := hid (by rw [gQ]; rfl)
  rw [HD.out]
  obtain ⟨a, c, eV, hnc, hcm, hcell⟩ := own_shp hQ
  rw [eV] at c1
  obtain ⟨L, gL⟩ : ∃ L, L = Q.length := ⟨_, rfl⟩
  rw [← gL] at c1 hcell hnc hq6
  have GL := hid gL
  have HC := hid hcell
  have HR := hid H
  clear H gQ hQ hcell gL eV
  go_enter Tryz.func110, Tryz.ntmps110
  go_wp2_with fail
  go_loopw [6, 18] (fun v6 v18 wr => ∃ (j k : Nat) (a' : Option Addr) (c' : Nat) (acc : List (List UInt8 × Nat)), j ≤ L ∧ k ≤ j ∧ v18 = .int .i64 (j : Int) ∧ v6 = .slice a' k c' ∧ Hid (acc.length = k) ∧ Hid (wr.ownsRow w.heap.size 151 2 (.slice a' k c') k (nmC acc)) ∧ Hid (Below w.heap.size w wr) ∧ Hid (del (bl t) Q = acc ++ del (bl t) (Q.drop j))) (fun _ v18 _ => L - (intOf v18).toNat)
  case atStart => exact ⟨0, 0, none, 0, [], Nat.zero_le _, Nat.le_refl _, rfl, rfl, hid rfl, hid (World.ownsRow_nil _ _ _ _), hid (Below.refl _ _), hid rfl⟩
  case round =>
    obtain ⟨j, k, a', c', acc, hj, hk, rfl, rfl, HK, HO, HB, HN⟩ := hrel
    have HBs := HB.out.size
    by_cases hlt : j < L
    · have hj2 : (j : Int) < (L : Int) := by omega
      have hj0 : (0 : Int) ≤ (j : Int) := by omega
      have hj3 : j + 1 ≤ L := hlt
      have hjQ : j < Q.length := by rw [← GL.out]; exact hlt
      obtain ⟨q, rfl, _, hqs, hcc⟩ := HC.out (by omega)
      obtain ⟨y1, y2⟩ := nmC_at Q j hjQ
      have d1 := (HB.out.cell (p := ⟨q, j * 2, none⟩) hqs).trans (hcc _ _ y1)
      have d2 := (HB.out.cell (p := ⟨q, j * 2 + 1, none⟩) hqs).trans (hcc _ _ y2)
      have hs := bs_eq Q[j].1 t
      have hdr : Q.drop j = Q[j] :: Q.drop (j + 1) := List.drop_eq_getElem_cons hjQ
      have HY : Hid (Q[j].1 = bl t → del (bl t) Q = acc ++ del (bl t) (Q.drop (j + 1))) := hid (fun h => by
        rw [HN.out, hdr]; unfold del; rw [List.filter_cons_of_neg (by simp [h])])
      have HZ : Hid (Q[j].1 ≠ bl t → del (bl t) Q = (acc ++ [Q[j]]) ++ del (bl t) (Q.drop (j + 1))) := hid (fun h => by
        rw [HN.out, hdr]; unfold del; rw [List.filter_cons_of_pos (by simp [h])]; simp)
      have HC2 : Hid (nmC (acc ++ [Q[j]]) = nmC acc ++ [.string (bs Q[j].1), .int .i64 (Q[j].2 : Int)]) := hid (by rw [nmC_app]; rfl)
      have HC3 : Hid ((acc ++ [Q[j]]).length = k + 1) := hid (by simp [HK.out])
      have HZ2 : Hid (∃ yj, yj = Q[j]) := hid ⟨_, rfl⟩
      generalize bs Q[j].1 = sj at d1 hs HC2
      generalize Q[j].2 = mj at d2 HC2
      by_cases hh : Q[j].1 = bl t
      · rw [show decide (Q[j].1 = bl t) = true by simp [hh]] at hs
        have hs2 : (!(sj.toList == t.toList)) = false := by rw [hs]; rfl
        have HR2 := hid (HY.out hh)
        clear hcc y1 y2 hh HY HZ hs hdr HC2 HC3 HZ2
        go_wp2_with fail
        go_roundw
        case rel => exact ⟨j + 1, k, a', c', acc, hj3, by omega, by go_num, rfl, HK, hid (HO.out.alloc _), hid (HB.out.alloc HBs _), HR2⟩
        case measure => simp [intOf]; omega
      · rw [show decide (Q[j].1 = bl t) = false by simp [hh]] at hs
        have hs2 : (!(sj.toList == t.toList)) = true := by rw [hs]; rfl
        have HR2 := hid (HZ.out hh)
        generalize acc ++ [Q[j]] = acc2 at HR2 HC2 HC3
        clear hcc y1 y2 hh HY HZ hs hdr HZ2
        go_wp2_with (at_builtin; go_must (refine wpList_append_own _ rfl (.tmp 26) (.tmp 28) 115 rfl w.heap.size 151 i0 _ 2 24 Tryz.underlying115 hi0 hz0 hz1 hz2 rfl (by decide) _ k (nmC acc) rfl ((HO.out.alloc _).alloc _) ⟨_, 0, none⟩ 1 1 [.string sj, .int .i64 mj] rfl rfl (cell_two2 _ _ _ _ _) (by simp [Value.oneCell']) (by unfold maxLen; omega) (by omega) (by simp; omega) ?_))
        intro v' w6 hO hG hN
        have hbel : Below w.heap.size w w6 := ((HB.out.alloc HBs _).alloc (by simp; omega) (.cells #[.string sj, .int .i64 mj] 151)).grown hG (by simp; omega) (fun x hx => (HO.out.lt x hx).1)
        obtain ⟨va, vc, rfl⟩ : ∃ va vc, v' = .slice va (k + 1) vc := by
          rcases hO.2 with ⟨h1, h2⟩ | ⟨g, c, cur, rfl, _⟩
          · omega
          · exact ⟨_, c, rfl⟩
        rw [← HC2.out] at hO
        have HO2 := hid hO
        have HB2 := hid hbel
        clear hO hG hN hbel HO HB
        go_wp2_with fail
        go_roundw
        case rel => exact ⟨j + 1, k + 1, va, vc, acc2, hj3, by omega, by go_num, rfl, HC3, HO2, HB2, HR2⟩
        case measure => simp [intOf]; omega
    · have hj2 : ¬ (j : Int) < (L : Int) := by omega
      have e : del (bl t) Q = acc := by
        have h := HN.out
        rw [List.drop_of_length_le (by have := GL.out; omega)] at h
        simpa [del] using h
      have d0 := (HB.out.cell (p := ⟨x, 0, none⟩) HLT.out.1).trans c0
      have d1 := (HB.out.cell (p := ⟨g, n * 6 + 5, none⟩) HLT.out.2.1).trans c1
      have d2 := (HR.out.grow HB.out).frz (n * 6 + 5)
      have HT : Hid (RfTo w x g u V (F.nq n (del (bl t) Q)) (wr.setCell ⟨g, n * 6 + 5, none⟩ (.slice a' k c'))) := hid (by
        rw [e]
        have h := HO.out
        rw [← HK.out] at h ⊢
        exact HR.out.names_to n hn acc _ HB.out h)
      clear e HN HO HB HR c0 c1
      go_wp2_with fail
      go_end0
      exact ⟨rfl, HT.out⟩
end Go.Proofs.YtoknhcjneliboaaGreat

/- The document's pipes as they lie, and what its New, there, Make, Hold, Drop do. -/
namespace Go.Proofs.YtoknhcjneliboaaGreat.Pi
open Go.RowKit Lend
set_option linter.unusedVariables false
set_option maxRecDepth 20000

/-- A pipe's bytes, as a slice. -/
def rsl (A : Nat → Option Addr × Nat) (R : Nat → Pp) (i : Nat) : Value := .slice (A i).1 (R i).q.length (A i).2

/-- The document's table: a block of two cells, a row of five pipes, and rows of bytes of its own. -/
structure Rt (B : Nat) (w : World) (q g : Nat) (d : Int) (A : Nat → Option Addr × Nat) (R : Nat → Pp) : Prop where
  head : w.heap[q]? = some (.cells #[.slice (some ⟨g, 0, none⟩) 5 5, .int .i64 d] 120 (0, 0))
  row : ∃ C, w.heap[g]? = some (.cells (List.toArray C) 153 (0, 0)) ∧ C.length = 20 ∧ ∀ i, i < 5 → C[i * 4]? = some (.bool (R i).there) ∧ C[i * 4 + 1]? = some (.int .i64 (R i).r) ∧ C[i * 4 + 2]? = some (.int .i64 (R i).w) ∧ C[i * 4 + 3]? = some (rsl A R i)
  own : ∀ i, i < 5 → w.ownsRow B 5 1 (rsl A R i) (R i).q.length ((R i).q.map (Value.int .u8))
  norm : ∀ i, i < 5 → clr (R i) = R i
  geq : B ≤ q
  geg : B ≤ g

section
variable {B : Nat} {w w' : World} {q g : Nat} {d : Int} {A : Nat → Option Addr × Nat} {R : Nat → Pp}
theorem Rt.glt (h : Rt B w q g d A R) : g < w.heap.size := by obtain ⟨C, hb, _⟩ := h.row; exact (Array.getElem?_eq_some_iff.1 hb).1
theorem Rt.qlt (h : Rt B w q g d A R) : q < w.heap.size := (Array.getElem?_eq_some_iff.1 h.head).1
theorem Rt.cellL (h : Rt B w q g d A R) : w.cell? ⟨q, 0, none⟩ = some (.slice (some ⟨g, 0, none⟩) 5 5) := by rw [cell_of_row w q 0 _ 120 (0, 0) h.head]; rfl
theorem Rt.cellD (h : Rt B w q g d A R) : w.cell? ⟨q, 1, none⟩ = some (.int .i64 d) := by rw [cell_of_row w q 1 _ 120 (0, 0) h.head]; rfl
theorem Rt.cell0 (h : Rt B w q g d A R) (i : Nat) (hi : i < 5) : w.cell? ⟨g, i * 4, none⟩ = some (.bool (R i).there) := by
  obtain ⟨C, hb, _, hc⟩ := h.row; rw [cell_of_row w g _ _ 153 (0, 0) hb]; simpa using (hc i hi).1
theorem Rt.cell1 (h : Rt B w q g d A R) (i : Nat) (hi : i < 5) : w.cell? ⟨g, i * 4 + 1, none⟩ = some (.int .i64 (R i).r) := by
  obtain ⟨C, hb, _, hc⟩ := h.row; rw [cell_of_row w g _ _ 153 (0, 0) hb]; simpa using (hc i hi).2.1
theorem Rt.cell2 (h : Rt B w q g d A R) (i : Nat) (hi : i < 5) : w.cell? ⟨g, i * 4 + 2, none⟩ = some (.int .i64 (R i).w) := by
  obtain ⟨C, hb, _, hc⟩ := h.row; rw [cell_of_row w g _ _ 153 (0, 0) hb]; simpa using (hc i hi).2.2.1
theorem Rt.cell3 (h : Rt B w q g d A R) (i : Nat) (hi : i < 5) : w.cell? ⟨g, i * 4 + 3, none⟩ = some (rsl A R i) := by
  obtain ⟨C, hb, _, hc⟩ := h.row; rw [cell_of_row w g _ _ 153 (0, 0) hb]; simpa using (hc i hi).2.2.2
theorem Rt.frozen (h : Rt B w q g d A R) (o : Nat) : w.frozen? ⟨g, o, none⟩ = false := by
  obtain ⟨C, hb, _⟩ := h.row; simp [World.frozen?, hb]
theorem Rt.neg (h : Rt B w q g d A R) : q ≠ g := by
  intro e; obtain ⟨C, hb, _⟩ := h.row; rw [← e, h.head] at hb; cases hb
theorem ne_of_type {w : World} {g n B : Nat} {C : Array Value} {t : TypeId} {v : Value} {xs : List Value} (hg : w.heap[g]? = some (.cells C t (0, 0))) (ht : t ≠ 5) (h : w.ownsRow B 5 1 v n xs) : ∀ b, v.ownBlock = some b → b ≠ g := by
  intro b hb e
  subst e
  rcases h.2 with ⟨rfl, _⟩ | ⟨g', cap, cur, rfl, _, hh, _⟩
  · cases hb
  · simp [Value.ownBlock] at hb
    subst hb
    rw [hg] at hh
    injection hh with hh
    injection hh with h1 h2
    exact ht h2
theorem Rt.upd {F : Nat → Prop} (h : Rt B w q g d A R) (u : Upd F w w') (hq : ¬ F q) (hg : ¬ F g) (ho : ∀ i, i < 5 → ∀ b, (rsl A R i).ownBlock = some b → ¬ F b) : Rt B w' q g d A R := by
  obtain ⟨C, hb, hc⟩ := h.row
  exact ⟨u.heap h.head hq, ⟨C, u.heap hb hg, hc⟩, fun i hi => u.own (h.own i hi) (ho i hi), h.norm, h.geq, h.geg⟩
theorem Rt.below (h : Rt B w q g d A R) (u : Below w.heap.size w w') : Rt B w' q g d A R := by
  obtain ⟨C, hb, hc⟩ := h.row
  exact ⟨by rw [u.block q h.qlt]; exact h.head, ⟨C, by rw [u.block g h.glt]; exact hb, hc⟩, fun i hi => own_below (h.own i hi) u, h.norm, h.geq, h.geg⟩
theorem Rt.hp (h : Rt B w q g d A R) (e : w'.heap = w.heap) : Rt B w' q g d A R := by
  obtain ⟨C, hb, hc⟩ := h.row
  refine ⟨by rw [e]; exact h.head, ⟨C, by rw [e]; exact hb, hc⟩, fun i hi => ?_, h.norm, h.geq, h.geg⟩
  obtain ⟨h1, h2⟩ := h.own i hi
  refine ⟨h1, ?_⟩
  rcases h2 with h2 | ⟨g', cap, cur, a, b, c, r⟩
  · exact .inl h2
  · exact .inr ⟨g', cap, cur, a, b, by rw [e]; exact c, r⟩

def updA (A : Nat → Option Addr × Nat) (i : Nat) (a : Option Addr × Nat) : Nat → Option Addr × Nat := fun j => if j = i then a else A j

/-- Some cells of one pipe are stored anew. -/
theorem Rt.put (h : Rt B w q g d A R) (i : Nat) (hi : i < 5) (x : Pp) (a : Option Addr × Nat) (hx : clr x = x) (u : Upd (· = g) w w') (C' : List Value) (hC : w'.heap[g]? = some (.cells C'.toArray 153 (0, 0))) (hl : C'.length = 20)
    (out : ∀ C : List Value, w.heap[g]? = some (.cells C.toArray 153 (0, 0)) → C.length = 20 → ∀ j, j < i * 4 ∨ i * 4 + 4 ≤ j → C'[j]? = C[j]?)
    (h0 : C'[i * 4]? = some (.bool x.there)) (h1 : C'[i * 4 + 1]? = some (.int .i64 x.r)) (h2 : C'[i * 4 + 2]? = some (.int .i64 x.w)) (h3 : C'[i * 4 + 3]? = some (.slice a.1 x.q.length a.2))
    (ho : w.ownsRow B 5 1 (.slice a.1 x.q.length a.2) x.q.length (x.q.map (Value.int .u8))) : Rt B w' q g d (updA A i a) (updP R i x) := by
  obtain ⟨C, hb, hcl, hc⟩ := h.row
  have hout := out C hb hcl
  refine ⟨u.heap h.head h.neg, ⟨C', hC, hl, fun j hj => ?_⟩, fun j hj => ?_, fun j hj => ?_, h.geq, h.geg⟩
  · by_cases e : j = i
    · subst e; rw [updP_same]; refine ⟨h0, h1, h2, ?_⟩; simp only [rsl, updP_same]; simpa [updA] using h3
    · have := hc j hj
      rw [updP_ne _ _ _ _ e, hout _ (by omega), hout _ (by omega), hout _ (by omega), hout _ (by omega)]
      refine ⟨this.1, this.2.1, this.2.2.1, ?_⟩
      rw [this.2.2.2]; simp [rsl, updA, e, updP]
  · by_cases e : j = i
    · subst e
      have : rsl (updA A j a) (updP R j x) j = .slice a.1 x.q.length a.2 := by simp [rsl, updA, updP]
      rw [this, updP_same]
      exact u.own ho (fun b hb' => ne_of_type hb (by decide) ho b hb')
    · have : rsl (updA A i a) (updP R i x) j = rsl A R j := by simp [rsl, updA, updP, e]
      rw [this, updP_ne _ _ _ _ e]
      exact u.own (h.own j hj) (fun b hb' => ne_of_type hb (by decide) (h.own j hj) b hb')
  · by_cases e : j = i
    · subst e; rw [updP_same]; exact hx
    · rw [updP_ne _ _ _ _ e]; exact h.norm j hj

/-- What rows of bytes are held is no more than before. -/
def OwnIn (A : Nat → Option Addr × Nat) (R : Nat → Pp) (A' : Nat → Option Addr × Nat) (R' : Nat → Pp) : Prop := ∀ j, j < 5 → ∀ b, (rsl A' R' j).ownBlock = some b → (rsl A R j).ownBlock = some b
theorem OwnIn.refl (A : Nat → Option Addr × Nat) (R : Nat → Pp) : OwnIn A R A R := fun _ _ _ h => h
theorem OwnIn.put (A : Nat → Option Addr × Nat) (R : Nat → Pp) (i : Nat) (a : Option Addr × Nat) (x : Pp) (h : a.1 = none ∨ (a = A i ∧ x.q = (R i).q)) : OwnIn A R (updA A i a) (updP R i x) := fun j _ b hb => by
  by_cases e : j = i
  · subst e
    have e2 : rsl (updA A j a) (updP R j x) j = .slice a.1 x.q.length a.2 := by simp [rsl, updA, updP]
    rw [e2] at hb
    rcases h with h | ⟨h1, h2⟩
    · rw [h] at hb; cases hb
    · rw [h1, h2] at hb; exact hb
  · have e2 : rsl (updA A i a) (updP R i x) j = rsl A R j := by simp [rsl, updA, updP, e]
    rw [e2] at hb; exact hb

/-- Four cells at once. -/
theorem Rt.put4 (h : Rt B w q g d A R) (i : Nat) (hi : i < 5) (x : Pp) (a : Option Addr × Nat) (hx : clr x = x) (ho : w.ownsRow B 5 1 (.slice a.1 x.q.length a.2) x.q.length (x.q.map (Value.int .u8))) :
    Rt B (w.setCells g (i * 4) [.bool x.there, .int .i64 x.r, .int .i64 x.w, .slice a.1 x.q.length a.2]) q g d (updA A i a) (updP R i x) := by
  obtain ⟨C, hb, hcl, hc⟩ := h.row
  have hs : i * 4 + [Value.bool x.there, .int .i64 x.r, .int .i64 x.w, .slice a.1 x.q.length a.2].length ≤ C.length := by simp; omega
  have hin := fun j (hj : j < 4) => getElem?_splice_in C [Value.bool x.there, .int .i64 x.r, .int .i64 x.w, .slice a.1 x.q.length a.2] (i * 4) j hs hj
  refine h.put i hi x a hx (upd_setCells g _ _ _) _ (heap_setCells g 153 _ _ w C hb hs) (by rw [length_splice _ _ _ hs, hcl]) ?_ (hin 0 (by omega)) (hin 1 (by omega)) (hin 2 (by omega)) (hin 3 (by omega)) ho
  intro C2 hb2 _ j hj
  rw [hb] at hb2
  have e : C = C2 := by injection hb2 with e; injection e with e; simpa using e
  rw [← e]
  exact getElem?_splice_out _ _ _ _ hs (by simpa using hj)

/-- One cell. -/
theorem Rt.put1 (h : Rt B w q g d A R) (i : Nat) (hi : i < 5) (x : Pp) (a : Option Addr × Nat) (hx : clr x = x) (o : Nat) (v : Value) (ho : w.ownsRow B 5 1 (.slice a.1 x.q.length a.2) x.q.length (x.q.map (Value.int .u8))) (ho4 : o < 4)
    (k0 : x.there = (R i).there) (k1 : if o = 1 then v = .int .i64 x.r else x.r = (R i).r) (k2 : if o = 2 then v = .int .i64 x.w else x.w = (R i).w) (k3 : if o = 3 then v = .slice a.1 x.q.length a.2 else (x.q = (R i).q ∧ a = A i)) (k4 : o ≠ 0) :
    Rt B (w.setCell ⟨g, i * 4 + o, none⟩ v) q g d (updA A i a) (updP R i x) := by
  obtain ⟨C, hb, hcl, hc⟩ := h.row
  have hci := hc i hi
  have hs := heap_setCell_same w g (i * 4 + o) C.toArray 153 v hb
  refine h.put i hi x a hx (Upd.setCell w ⟨g, i * 4 + o, none⟩ v rfl) (C.set (i * 4 + o) v) (by rw [hs]; simp) (by simp [hcl]) ?_ ?_ ?_ ?_ ?_ ho
  · intro C2 hb2 _ j hj
    rw [hb] at hb2
    have e : C = C2 := by injection hb2 with e; injection e with e; simpa using e
    rw [← e, List.getElem?_set_ne (by omega)]
  · rw [List.getElem?_set_ne (by omega), k0]; exact hci.1
  · by_cases e : o = 1
    · subst e; rw [if_pos rfl] at k1; rw [List.getElem?_set_self (by omega), k1]
    · rw [if_neg e] at k1; rw [List.getElem?_set_ne (by omega), k1]; exact hci.2.1
  · by_cases e : o = 2
    · subst e; rw [if_pos rfl] at k2; rw [List.getElem?_set_self (by omega), k2]
    · rw [if_neg e] at k2; rw [List.getElem?_set_ne (by omega), k2]; exact hci.2.2.1
  · by_cases e : o = 3
    · subst e; rw [if_pos rfl] at k3; rw [List.getElem?_set_self (by omega), k3]
    · rw [if_neg e] at k3; rw [List.getElem?_set_ne (by omega), k3.1, k3.2]; exact hci.2.2.2
end

set_option maxHeartbeats 1000000 in
theorem rthere_any (B q g : Nat) (n d : Int) (A : Nat → Option Addr × Nat) (R : Nat → Pp) (w : World) (h : Rt B w q g d A R) :
    Calls Tryz.prog 101 #[.pointer (some ⟨q, 0, none⟩), .int .i64 n] w fun e w' => e = .returned (.bool (has R n)) ∧ w' = w := by
  by_cases c1 : 1 ≤ n
  · by_cases c4 : n ≤ 4
    · obtain ⟨i, rfl⟩ := Int.eq_ofNat_of_zero_le (show 0 ≤ n by omega)
      have e1 := h.cellL
      have e2 := h.cell0 i (by omega)
      have ht : has R (i : Int) = (R i).there := by simp [has, c1, c4]
      rw [ht]
      obtain ⟨b, gb⟩ : ∃ b, b = (R i).there := ⟨_, rfl⟩
      rw [← gb] at e2 ⊢
      have c3 : (0 : Int) ≤ i := by omega
      have c5 : (i : Int) < 5 := by omega
      clear h ht gb
      go_enter Tryz.func101, Tryz.ntmps101
      go_wp2
      go_ret
      exact ⟨rfl, rfl⟩
    · have ht : has R n = false := by simp [has, c4]
      rw [ht]
      clear h ht
      go_enter Tryz.func101, Tryz.ntmps101
      go_wp2
      go_ret
      exact ⟨rfl, rfl⟩
  · have ht : has R n = false := by simp [has, c1]
    rw [ht]
    clear h ht
    go_enter Tryz.func101, Tryz.ntmps101
    go_wp2
    go_ret
    exact ⟨rfl, rfl⟩

theorem nil_own (w : World) (B : Nat) : w.ownsRow B 5 1 (.slice none ([] : List Int).length 0) ([] : List Int).length (([] : List Int).map (Value.int .u8)) := World.ownsRow_nil _ _ _ _
theorem csize67 : (Tryz.prog.info? 153).map (·.size) = some 4 := by kernel_rfl

set_option maxHeartbeats 1000000 in
theorem rmake_any (B q g : Nat) (d : Int) (A : Nat → Option Addr × Nat) (R : Nat → Pp) (w : World) (h : Rt B w q g d A R) :
    Calls Tryz.prog 62 #[.pointer (some ⟨q, 0, none⟩)] w fun e w' => e = .returned (.tuple #[.int .i64 (lowest R), .int .i64 (makeE R)]) ∧ (∃ A', Rt B w' q g d A' (makeP R) ∧ OwnIn A R A' (makeP R)) ∧ Upd (· = g) w w' := by
  have hcL := h.cellL
  have H := hid h
  clear h
  by_cases h0 : lowest R = 0
  · have ALL := hid (lowest_none R h0)
    have hE : makeE R = 23 := by simp [makeE, h0]
    have hP : makeP R = R := by simp [makeP, h0]
    rw [hE, hP, h0]
    clear hE hP h0
    go_enter Tryz.func62, Tryz.ntmps62
    go_wp2_with fail
    go_loop [4] (fun s => ∃ j : Nat, 1 ≤ j ∧ j ≤ 5 ∧ s = .int .i64 j) (fun s => 5 - (intOf s).toNat)
    case atStart => exact ⟨1, by omega, by omega, rfl⟩
    case round =>
      obtain ⟨j, hj1, hji, rfl⟩ := hrel
      by_cases e : j < 5
      · have c1 : (j : Int) ≤ 4 := by omega
        have c3 : (0 : Int) ≤ j := by omega
        have c4 : (j : Int) < 5 := by omega
        have hc := H.out.cell0 j (by omega)
        rw [ALL.out j hj1 (by omega)] at hc
        go_wp2_with fail
        go_round
        case rel => exact ⟨j + 1, by omega, by omega, by go_num⟩
        case measure => simp [intOf]; omega
      · obtain rfl : j = 5 := by omega
        go_wp2_with fail
        go_ret2
        exact ⟨rfl, ⟨_, H.out, OwnIn.refl _ _⟩, Upd.refl _ _⟩
  · obtain ⟨h1, h4, low, free⟩ := lowest_some R h0
    have hE : makeE R = 0 := by simp [makeE, h0]
    have hP : makeP R = updP R (lowest R) ⟨1, 1, []⟩ := by simp [makeP, h0]
    rw [hE, hP]
    clear hE hP h0
    obtain ⟨i, gi⟩ : ∃ i, i = lowest R := ⟨_, rfl⟩
    rw [← gi] at h1 h4 low free ⊢
    have LOW := hid low
    have FREE := hid free
    clear low free gi
    go_enter Tryz.func62, Tryz.ntmps62
    go_wp2_with fail
    go_loop [4] (fun s => ∃ j : Nat, 1 ≤ j ∧ j ≤ i ∧ s = .int .i64 j) (fun s => i - (intOf s).toNat)
    case atStart => exact ⟨1, by omega, h1, rfl⟩
    case round =>
      obtain ⟨j, hj1, hji, rfl⟩ := hrel
      have c1 : (j : Int) ≤ 4 := by omega
      have c3 : (0 : Int) ≤ j := by omega
      have c4 : (j : Int) < 5 := by omega
      have hc := H.out.cell0 j (by omega)
      by_cases e : j < i
      · rw [LOW.out j hj1 e] at hc
        go_wp2_with fail
        go_round
        case rel => exact ⟨j + 1, by omega, by omega, by go_num⟩
        case measure => simp [intOf]; omega
      · obtain rfl : j = i := by omega
        rw [FREE.out] at hc
        obtain ⟨C, hC, hCl, _⟩ := H.out.row
        have HTH := hid (there_of_block hC (j * 4) 4 (by rw [hCl]; omega))
        have HN := hid (H.out.put4 j (by omega) ⟨1, 1, []⟩ (none, 0) rfl (nil_own w B))
        clear hC hCl
        go_wp2_with (refine wpList_store_mid rfl 153 (.tmp 24) (.tmp 23) rfl g (j * 4) #[.bool true, .int .i64 1, .int .i64 1, .slice none 0 0] rfl rfl HTH.out csize67 (by simp [Value.oneCell']) ?_)
        go_ret2
        exact ⟨rfl, ⟨_, HN.out, OwnIn.put _ _ _ _ _ (.inl rfl)⟩, upd_setCells g _ _ _⟩

end Go.Proofs.YtoknhcjneliboaaGreat.Pi
