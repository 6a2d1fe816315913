/- What Held does. -/
import Derived.Test.YtgbikncpmgikaaaONode
namespace Go.Proofs.Ytgbikncpmgikaaa
open Go.RowKit
set_option linter.unusedVariables false
set_option maxRecDepth 20000

/-- The open files that a process's descriptors have. -/
def fdA (p : Rec) : List Int := [p 4, p 5, p 6, p 7, p 8, p 9]
def fdN (l : List Int) : List Int := l.filter (fun x => !(x == 0))
def hadL (l : List Rec) : List Int := l.flatMap fun p => fdN (fdA p)
theorem hadL_snoc (l : List Rec) (p : Rec) : hadL (l ++ [p]) = hadL l ++ fdN (fdA p) := by simp [hadL]
theorem fdN_snoc (l : List Int) (x : Int) : fdN (l ++ [x]) = fdN l ++ (if x = 0 then [] else [x]) := by
  by_cases q : x = 0 <;> simp [fdN, q]
theorem fdN_len (l : List Int) : (fdN l).length ≤ l.length := List.length_filter_le _ _
theorem hadL_len : ∀ (l : List Rec), (hadL l).length ≤ l.length * 6
  | [] => Nat.le_refl _
  | p :: r => by
    have h1 := hadL_len r
    have h2 := fdN_len (fdA p)
    simp only [hadL, List.flatMap_cons, List.length_append, List.length_cons] at *
    have h3 : (fdA p).length = 6 := rfl
    omega

/-- An open file is held by as many as have it, at least one. -/
def heldB (F : Int → Nat) (f : Rec) : Bool := (f 5 == (F (f 0) : Int)) && !decide (f 5 < 1)
/-- The rule of descriptors. -/
noncomputable def heldsB (l : List Rec) (F : Int → Nat) : Bool := l.all (heldB F) && wiB F (cn (l.map (· 0)))

theorem wp_idx (w : World) {ops : Array Oper} {rest : List Oper} {o : Oper} {a : Act} {Q : Exit → Act → World → Prop} (hg : o.guard = none) (m x : Operand) (hop : o.op = Op.index 32 m x) (v : Value) (hr : (Instr.index 32 (a.eval m) (a.eval x)).run Try.prog w = .ok v w)
    (hK : wpList Try.prog ops Q rest (a.put o.dst v) w) : wpList Try.prog ops Q (o :: rest) a w := by
  refine wpList_plain hg fun K' hK' => ?_
  unfold Oper.wp
  simp [execOp, hop, hr, Result.andThen]
  exact hK' _ _ hK

/-- One number more, if it is none. -/
theorem oc_step {w : World} {m n N : Nat} {L : List Int} {x : Int} (h : Oc w m n N (cn L)) (hx : W64 x) (hn : n < 9223372036854775807) (hL : L.length < 9223372036854775807) :
    (Instr.lookup 49 (.map (some m)) (.int .i64 x) false).run Try.prog w = .ok (.int .i64 (cn L x : Nat)) w ∧ IntKind.i64.wrap ((cn L x : Int) + 1) = (cn L x : Int) + 1 ∧
    ∃ w', (Instr.mapUpdate 49 (.map (some m)) (.int .i64 x) (.int .i64 ((cn L x : Nat) + 1))).run Try.prog w = .ok () w' ∧ (∃ N, Oc w' m (n + 1) N (cn (L ++ [x]))) ∧ Upd (· = m) w w' := by
  have hle := cn_le L x
  refine ⟨oc_look h hx, by rw [IntKind.wrap_i64]; omega, ?_⟩
  obtain ⟨w', h1, h2, h3⟩ := oc_inc h hx (by show n < maxLen; unfold maxLen; omega) (by omega)
  exact ⟨w', h1, ⟨_, by rw [cn_snoc]; exact h2⟩, h3⟩

set_option maxHeartbeats 8000000 in
theorem held_any (w : World) (a : Option Addr) (l : List Rec) (c : Nat) (a2 : Option Addr) (r : List Rec) (c2 : Nat) (hR : Recs w 6 a l) (hl : l.length ≤ 35184372088832) (hP : Recs w 10 a2 r) (hr : r.length ≤ 35184372088832) :
    Calls Try.prog 13 #[.slice a l.length c, .slice a2 r.length c2] w fun e w' => e = .returned (.bool (heldsB l (cn (hadL r)))) ∧ Upd (fun _ => False) w w' := by
  have HR := hid hR
  have HP := hid hP
  obtain ⟨n, gn⟩ : ∃ n, n = l.length := ⟨_, rfl⟩
  have GN := hid gn
  obtain ⟨m, gm⟩ : ∃ m, m = r.length := ⟨_, rfl⟩
  have GM := hid gm
  rw [← gn] at hl ⊢
  rw [← gm] at hr ⊢
  obtain ⟨F, gF⟩ : ∃ F, F = cn (hadL r) := ⟨_, rfl⟩
  have GF := hid gF
  rw [← gF]
  clear hR hP gn gm gF
  have hmm := @run_makeMap Try.prog
  have e1 : (w.alloc (.map #[] 0)).heap.size = w.heap.size + 1 := by simp
  have HU0 : Hid (Upd (fun _ => False) w ((w.alloc (.map #[] 0)).alloc (.map #[] 0))) := hid ((Upd.alloc _ _ _).trans (Upd.alloc (fun _ => False) _ _) (fun _ _ h => h))
  have HO0 : Hid (∃ N, Oc ((w.alloc (.map #[] 0)).alloc (.map #[] 0)) w.heap.size (0 * 6) N (cn (hadL (r.take 0)))) := hid ⟨0, (Oc.none w).upd (Upd.alloc (fun _ => False) _ _) (fun h => h)⟩
  have HT0 : Hid (Oc ((w.alloc (.map #[] 0)).alloc (.map #[] 0)) (w.heap.size + 1) 0 0 (fun _ => 0)) := hid (by have := Oc.none (w.alloc (.map #[] 0)); rwa [e1] at this)
  clear e1
  go_enter Try.func13, Try.ntmps13
  go_wp2_with fail
  clear hmm
  go_loopw [17] (fun k wr => ∃ (i : Nat), i ≤ m ∧ k = .int .i64 i ∧ Hid (∃ N, Oc wr w.heap.size (i * 6) N (cn (hadL (r.take i)))) ∧ Hid (Oc wr (w.heap.size + 1) 0 0 (fun _ => 0)) ∧ Hid (Upd (fun _ => False) w wr)) (fun k _ => m - (intOf k).toNat)
  case atStart => exact ⟨0, by omega, rfl, HO0, HT0, HU0⟩
  case round =>
    obtain ⟨i, hi, rfl, HM, HT, HU⟩ := hrel
    rename World => wr
    clear HO0 HT0 HU0
    by_cases hlt : i < m
    · have hln : i < r.length := by rw [← GM.out]; exact hlt
      obtain ⟨b, o, rfl, hbl, hc⟩ := (HP.out.upd HU.out (fun _ _ _ _ _ h => h)).ex (by omega)
      have hw := HP.out.wf _ (getD_mem r i rec0 hln)
      have HTk : Hid (hadL (r.take (i + 1)) = hadL (r.take i) ++ fdN (fdA (r.getD i rec0))) := hid (by rw [take_snoc r i rec0 hln, hadL_snoc])
      unfold fdA at HTk
      have c0 := hc i hln 0 (by omega)
      have c1 := hc i hln 1 (by omega)
      have c2 := hc i hln 2 (by omega)
      have c3 := hc i hln 3 (by omega)
      have c4 := hc i hln 4 (by omega)
      have c5 := hc i hln 5 (by omega)
      have c6 := hc i hln 6 (by omega)
      have c7 := hc i hln 7 (by omega)
      have c8 := hc i hln 8 (by omega)
      have c9 := hc i hln 9 (by omega)
      rw [Nat.add_zero] at c0
      have W4 := hid (hw 4)
      have W5 := hid (hw 5)
      have W6 := hid (hw 6)
      have W7 := hid (hw 7)
      have W8 := hid (hw 8)
      have W9 := hid (hw 9)
      generalize r.getD i rec0 0 = x0 at *
      generalize r.getD i rec0 1 = x1 at *
      generalize r.getD i rec0 2 = x2 at *
      generalize r.getD i rec0 3 = x3 at *
      generalize r.getD i rec0 4 = x4 at *
      generalize r.getD i rec0 5 = x5 at *
      generalize r.getD i rec0 6 = x6 at *
      generalize r.getD i rec0 7 = x7 at *
      generalize r.getD i rec0 8 = x8 at *
      generalize r.getD i rec0 9 = x9 at *
      clear hc hw
      have hX : Upd (fun _ => False) wr (wr.alloc (.cells #[.int .i64 x0, .int .i64 x1, .int .i64 x2, .int .i64 x3, .int .i64 x4, .int .i64 x5, .int .i64 x6, .int .i64 x7, .int .i64 x8, .int .i64 x9] 34)) := Upd.alloc _ _ _
      have HM1 : Hid (∃ N, Oc (wr.alloc (.cells #[.int .i64 x0, .int .i64 x1, .int .i64 x2, .int .i64 x3, .int .i64 x4, .int .i64 x5, .int .i64 x6, .int .i64 x7, .int .i64 x8, .int .i64 x9] 34)) w.heap.size (i * 6 + 0) N (cn (hadL (r.take i) ++ fdN ([x4, x5, x6, x7, x8, x9].take 0)))) := by
        obtain ⟨N, h⟩ := HM.out
        refine hid ⟨N, ?_⟩
        have e : hadL (r.take i) ++ fdN ([x4, x5, x6, x7, x8, x9].take 0) = hadL (r.take i) := by simp [fdN]
        rw [e]
        exact h.upd hX (fun h => h)
      have HT1 : Hid (Oc (wr.alloc (.cells #[.int .i64 x0, .int .i64 x1, .int .i64 x2, .int .i64 x3, .int .i64 x4, .int .i64 x5, .int .i64 x6, .int .i64 x7, .int .i64 x8, .int .i64 x9] 34)) (w.heap.size + 1) 0 0 (fun _ => 0)) := hid (HT.out.upd hX (fun h => h))
      have HU1 : Hid (Upd (fun _ => False) w (wr.alloc (.cells #[.int .i64 x0, .int .i64 x1, .int .i64 x2, .int .i64 x3, .int .i64 x4, .int .i64 x5, .int .i64 x6, .int .i64 x7, .int .i64 x8, .int .i64 x9] 34))) := hid (HU.out.trans hX (fun _ _ h => h))
      have HL : Hid ((hadL (r.take i)).length ≤ i * 6) := hid (Nat.le_trans (hadL_len _) (Nat.mul_le_mul_right 6 (List.length_take_le i r)))
      clear hX HM HT
      generalize hadL (r.take i) = L at *
      go_wp2_with fail
      go_loopw [23] (fun k wi => ∃ (j : Nat), j ≤ 6 ∧ k = .int .i64 j ∧ Hid (∃ N, Oc wi w.heap.size (i * 6 + j) N (cn (L ++ fdN ([x4, x5, x6, x7, x8, x9].take j)))) ∧ Hid (Oc wi (w.heap.size + 1) 0 0 (fun _ => 0)) ∧ Hid (Upd (fun _ => False) w wi)) (fun k _ => 6 - (intOf k).toNat)
      case atStart => exact ⟨0, by omega, rfl, HM1, HT1, HU1⟩
      case round =>
        clear HM1 HT1 HU1 HU
        obtain ⟨j, hj, rfl, HM, HT, HU⟩ := hrel
        rename World => wi
        have hj6 : j = 0 ∨ j = 1 ∨ j = 2 ∨ j = 3 ∨ j = 4 ∨ j = 5 ∨ j = 6 := by omega
        clear hj
        rcases hj6 with rfl | rfl | rfl | rfl | rfl | rfl | rfl
        · have HTj : Hid (fdN ([x4, x5, x6, x7, x8, x9].take (1)) = fdN ([x4, x5, x6, x7, x8, x9].take 0) ++ (if x4 = 0 then [] else [x4])) := hid (fdN_snoc ([x4, x5, x6, x7, x8, x9].take 0) x4)
          have hlen : (L ++ fdN ([x4, x5, x6, x7, x8, x9].take 0)).length ≤ i * 6 + 0 := by
            have h1 := HL.out
            have h2 := fdN_len ([x4, x5, x6, x7, x8, x9].take 0)
            have h3 : ([x4, x5, x6, x7, x8, x9].take 0).length = 0 := rfl
            rw [List.length_append]; omega
          by_cases hz : x4 = 0
          · subst hz
            have HM2 : Hid (∃ N, Oc wi w.heap.size (i * 6 + (1)) N (cn (L ++ fdN ([0, x5, x6, x7, x8, x9].take (1))))) := by
              obtain ⟨N, h⟩ := HM.out
              refine hid ⟨N, ?_⟩
              rw [HTj.out, if_pos rfl, List.append_nil]
              exact h.mono (by omega)
            clear HM HTj hlen
            go_wp2_with (first | (refine wp_idx _ rfl _ _ rfl (.int .i64 0) rfl ?_) | go_in)
            go_roundw
            case rel => exact ⟨1, by omega, rfl, HM2, HT, HU⟩
            case measure => decide
          · obtain ⟨N, hO⟩ := HM.out
            obtain ⟨hlk, hwr, w2, hup, hO2, hU2⟩ := oc_step hO W4.out (by omega) (by omega)
            have HM2 : Hid (∃ N, Oc w2 w.heap.size (i * 6 + (1)) N (cn (L ++ fdN ([x4, x5, x6, x7, x8, x9].take (1))))) := by
              obtain ⟨N, h⟩ := hO2
              refine hid ⟨N, ?_⟩
              rw [HTj.out, if_neg hz, ← List.append_assoc]
              exact h
            have hw1 := hO.lt
            have HT2 : Hid (Oc w2 (w.heap.size + 1) 0 0 (fun _ => 0)) := hid (HT.out.upd hU2 (by omega))
            have HU2 : Hid (Upd (fun _ => False) w w2) := hid (HU.out.trans hU2 (fun x h1 h2 => by omega))
            have hb : (x4 != 0) = true := by simpa using hz
            generalize (cn (L ++ fdN ([x4, x5, x6, x7, x8, x9].take 0)) x4 : Int) = fi at hlk hup hwr
            clear HM HTj hlen hO hO2 hU2 hz
            go_wp2_with (first | (refine wp_idx _ rfl _ _ rfl (.int .i64 x4) rfl ?_) | go_in)
            go_roundw
            case rel => exact ⟨1, by omega, rfl, HM2, HT2, HU2⟩
            case measure => decide
        · have HTj : Hid (fdN ([x4, x5, x6, x7, x8, x9].take (2)) = fdN ([x4, x5, x6, x7, x8, x9].take 1) ++ (if x5 = 0 then [] else [x5])) := hid (fdN_snoc ([x4, x5, x6, x7, x8, x9].take 1) x5)
          have hlen : (L ++ fdN ([x4, x5, x6, x7, x8, x9].take 1)).length ≤ i * 6 + 1 := by
            have h1 := HL.out
            have h2 := fdN_len ([x4, x5, x6, x7, x8, x9].take 1)
            have h3 : ([x4, x5, x6, x7, x8, x9].take 1).length = 1 := rfl
            rw [List.length_append]; omega
          by_cases hz : x5 = 0
          · subst hz
            have HM2 : Hid (∃ N, Oc wi w.heap.size (i * 6 + (2)) N (cn (L ++ fdN ([x4, 0, x6, x7, x8, x9].take (2))))) := by
              obtain ⟨N, h⟩ := HM.out
              refine hid ⟨N, ?_⟩
              rw [HTj.out, if_pos rfl, List.append_nil]
              exact h.mono (by omega)
            clear HM HTj hlen
            go_wp2_with (first | (refine wp_idx _ rfl _ _ rfl (.int .i64 0) rfl ?_) | go_in)
            go_roundw
            case rel => exact ⟨2, by omega, rfl, HM2, HT, HU⟩
            case measure => decide
          · obtain ⟨N, hO⟩ := HM.out
            obtain ⟨hlk, hwr, w2, hup, hO2, hU2⟩ := oc_step hO W5.out (by omega) (by omega)
            have HM2 : Hid (∃ N, Oc w2 w.heap.size (i * 6 + (2)) N (cn (L ++ fdN ([x4, x5, x6, x7, x8, x9].take (2))))) := by
              obtain ⟨N, h⟩ := hO2
              refine hid ⟨N, ?_⟩
              rw [HTj.out, if_neg hz, ← List.append_assoc]
              exact h
            have hw1 := hO.lt
            have HT2 : Hid (Oc w2 (w.heap.size + 1) 0 0 (fun _ => 0)) := hid (HT.out.upd hU2 (by omega))
            have HU2 : Hid (Upd (fun _ => False) w w2) := hid (HU.out.trans hU2 (fun x h1 h2 => by omega))
            have hb : (x5 != 0) = true := by simpa using hz
            generalize (cn (L ++ fdN ([x4, x5, x6, x7, x8, x9].take 1)) x5 : Int) = fi at hlk hup hwr
            clear HM HTj hlen hO hO2 hU2 hz
            go_wp2_with (first | (refine wp_idx _ rfl _ _ rfl (.int .i64 x5) rfl ?_) | go_in)
            go_roundw
            case rel => exact ⟨2, by omega, rfl, HM2, HT2, HU2⟩
            case measure => decide
        · have HTj : Hid (fdN ([x4, x5, x6, x7, x8, x9].take (3)) = fdN ([x4, x5, x6, x7, x8, x9].take 2) ++ (if x6 = 0 then [] else [x6])) := hid (fdN_snoc ([x4, x5, x6, x7, x8, x9].take 2) x6)
          have hlen : (L ++ fdN ([x4, x5, x6, x7, x8, x9].take 2)).length ≤ i * 6 + 2 := by
            have h1 := HL.out
            have h2 := fdN_len ([x4, x5, x6, x7, x8, x9].take 2)
            have h3 : ([x4, x5, x6, x7, x8, x9].take 2).length = 2 := rfl
            rw [List.length_append]; omega
          by_cases hz : x6 = 0
          · subst hz
            have HM2 : Hid (∃ N, Oc wi w.heap.size (i * 6 + (3)) N (cn (L ++ fdN ([x4, x5, 0, x7, x8, x9].take (3))))) := by
              obtain ⟨N, h⟩ := HM.out
              refine hid ⟨N, ?_⟩
              rw [HTj.out, if_pos rfl, List.append_nil]
              exact h.mono (by omega)
            clear HM HTj hlen
            go_wp2_with (first | (refine wp_idx _ rfl _ _ rfl (.int .i64 0) rfl ?_) | go_in)
            go_roundw
            case rel => exact ⟨3, by omega, rfl, HM2, HT, HU⟩
            case measure => decide
          · obtain ⟨N, hO⟩ := HM.out
            obtain ⟨hlk, hwr, w2, hup, hO2, hU2⟩ := oc_step hO W6.out (by omega) (by omega)
            have HM2 : Hid (∃ N, Oc w2 w.heap.size (i * 6 + (3)) N (cn (L ++ fdN ([x4, x5, x6, x7, x8, x9].take (3))))) := by
              obtain ⟨N, h⟩ := hO2
              refine hid ⟨N, ?_⟩
              rw [HTj.out, if_neg hz, ← List.append_assoc]
              exact h
            have hw1 := hO.lt
            have HT2 : Hid (Oc w2 (w.heap.size + 1) 0 0 (fun _ => 0)) := hid (HT.out.upd hU2 (by omega))
            have HU2 : Hid (Upd (fun _ => False) w w2) := hid (HU.out.trans hU2 (fun x h1 h2 => by omega))
            have hb : (x6 != 0) = true := by simpa using hz
            generalize (cn (L ++ fdN ([x4, x5, x6, x7, x8, x9].take 2)) x6 : Int) = fi at hlk hup hwr
            clear HM HTj hlen hO hO2 hU2 hz
            go_wp2_with (first | (refine wp_idx _ rfl _ _ rfl (.int .i64 x6) rfl ?_) | go_in)
            go_roundw
            case rel => exact ⟨3, by omega, rfl, HM2, HT2, HU2⟩
            case measure => decide
        · have HTj : Hid (fdN ([x4, x5, x6, x7, x8, x9].take (4)) = fdN ([x4, x5, x6, x7, x8, x9].take 3) ++ (if x7 = 0 then [] else [x7])) := hid (fdN_snoc ([x4, x5, x6, x7, x8, x9].take 3) x7)
          have hlen : (L ++ fdN ([x4, x5, x6, x7, x8, x9].take 3)).length ≤ i * 6 + 3 := by
            have h1 := HL.out
            have h2 := fdN_len ([x4, x5, x6, x7, x8, x9].take 3)
            have h3 : ([x4, x5, x6, x7, x8, x9].take 3).length = 3 := rfl
            rw [List.length_append]; omega
          by_cases hz : x7 = 0
          · subst hz
            have HM2 : Hid (∃ N, Oc wi w.heap.size (i * 6 + (4)) N (cn (L ++ fdN ([x4, x5, x6, 0, x8, x9].take (4))))) := by
              obtain ⟨N, h⟩ := HM.out
              refine hid ⟨N, ?_⟩
              rw [HTj.out, if_pos rfl, List.append_nil]
              exact h.mono (by omega)
            clear HM HTj hlen
            go_wp2_with (first | (refine wp_idx _ rfl _ _ rfl (.int .i64 0) rfl ?_) | go_in)
            go_roundw
            case rel => exact ⟨4, by omega, rfl, HM2, HT, HU⟩
            case measure => decide
          · obtain ⟨N, hO⟩ := HM.out
            obtain ⟨hlk, hwr, w2, hup, hO2, hU2⟩ := oc_step hO W7.out (by omega) (by omega)
            have HM2 : Hid (∃ N, Oc w2 w.heap.size (i * 6 + (4)) N (cn (L ++ fdN ([x4, x5, x6, x7, x8, x9].take (4))))) := by
              obtain ⟨N, h⟩ := hO2
              refine hid ⟨N, ?_⟩
              rw [HTj.out, if_neg hz, ← List.append_assoc]
              exact h
            have hw1 := hO.lt
            have HT2 : Hid (Oc w2 (w.heap.size + 1) 0 0 (fun _ => 0)) := hid (HT.out.upd hU2 (by omega))
            have HU2 : Hid (Upd (fun _ => False) w w2) := hid (HU.out.trans hU2 (fun x h1 h2 => by omega))
            have hb : (x7 != 0) = true := by simpa using hz
            generalize (cn (L ++ fdN ([x4, x5, x6, x7, x8, x9].take 3)) x7 : Int) = fi at hlk hup hwr
            clear HM HTj hlen hO hO2 hU2 hz
            go_wp2_with (first | (refine wp_idx _ rfl _ _ rfl (.int .i64 x7) rfl ?_) | go_in)
            go_roundw
            case rel => exact ⟨4, by omega, rfl, HM2, HT2, HU2⟩
            case measure => decide
        · have HTj : Hid (fdN ([x4, x5, x6, x7, x8, x9].take (5)) = fdN ([x4, x5, x6, x7, x8, x9].take 4) ++ (if x8 = 0 then [] else [x8])) := hid (fdN_snoc ([x4, x5, x6, x7, x8, x9].take 4) x8)
          have hlen : (L ++ fdN ([x4, x5, x6, x7, x8, x9].take 4)).length ≤ i * 6 + 4 := by
            have h1 := HL.out
            have h2 := fdN_len ([x4, x5, x6, x7, x8, x9].take 4)
            have h3 : ([x4, x5, x6, x7, x8, x9].take 4).length = 4 := rfl
            rw [List.length_append]; omega
          by_cases hz : x8 = 0
          · subst hz
            have HM2 : Hid (∃ N, Oc wi w.heap.size (i * 6 + (5)) N (cn (L ++ fdN ([x4, x5, x6, x7, 0, x9].take (5))))) := by
              obtain ⟨N, h⟩ := HM.out
              refine hid ⟨N, ?_⟩
              rw [HTj.out, if_pos rfl, List.append_nil]
              exact h.mono (by omega)
            clear HM HTj hlen
            go_wp2_with (first | (refine wp_idx _ rfl _ _ rfl (.int .i64 0) rfl ?_) | go_in)
            go_roundw
            case rel => exact ⟨5, by omega, rfl, HM2, HT, HU⟩
            case measure => decide
          · obtain ⟨N, hO⟩ := HM.out
            obtain ⟨hlk, hwr, w2, hup, hO2, hU2⟩ := oc_step hO W8.out (by omega) (by omega)
            have HM2 : Hid (∃ N, Oc w2 w.heap.size (i * 6 + (5)) N (cn (L ++ fdN ([x4, x5, x6, x7, x8, x9].take (5))))) := by
              obtain ⟨N, h⟩ := hO2
              refine hid ⟨N, ?_⟩
              rw [HTj.out, if_neg hz, ← List.append_assoc]
              exact h
            have hw1 := hO.lt
            have HT2 : Hid (Oc w2 (w.heap.size + 1) 0 0 (fun _ => 0)) := hid (HT.out.upd hU2 (by omega))
            have HU2 : Hid (Upd (fun _ => False) w w2) := hid (HU.out.trans hU2 (fun x h1 h2 => by omega))
            have hb : (x8 != 0) = true := by simpa using hz
            generalize (cn (L ++ fdN ([x4, x5, x6, x7, x8, x9].take 4)) x8 : Int) = fi at hlk hup hwr
            clear HM HTj hlen hO hO2 hU2 hz
            go_wp2_with (first | (refine wp_idx _ rfl _ _ rfl (.int .i64 x8) rfl ?_) | go_in)
            go_roundw
            case rel => exact ⟨5, by omega, rfl, HM2, HT2, HU2⟩
            case measure => decide
        · have HTj : Hid (fdN ([x4, x5, x6, x7, x8, x9].take (6)) = fdN ([x4, x5, x6, x7, x8, x9].take 5) ++ (if x9 = 0 then [] else [x9])) := hid (fdN_snoc ([x4, x5, x6, x7, x8, x9].take 5) x9)
          have hlen : (L ++ fdN ([x4, x5, x6, x7, x8, x9].take 5)).length ≤ i * 6 + 5 := by
            have h1 := HL.out
            have h2 := fdN_len ([x4, x5, x6, x7, x8, x9].take 5)
            have h3 : ([x4, x5, x6, x7, x8, x9].take 5).length = 5 := rfl
            rw [List.length_append]; omega
          by_cases hz : x9 = 0
          · subst hz
            have HM2 : Hid (∃ N, Oc wi w.heap.size (i * 6 + (6)) N (cn (L ++ fdN ([x4, x5, x6, x7, x8, 0].take (6))))) := by
              obtain ⟨N, h⟩ := HM.out
              refine hid ⟨N, ?_⟩
              rw [HTj.out, if_pos rfl, List.append_nil]
              exact h.mono (by omega)
            clear HM HTj hlen
            go_wp2_with (first | (refine wp_idx _ rfl _ _ rfl (.int .i64 0) rfl ?_) | go_in)
            go_roundw
            case rel => exact ⟨6, by omega, rfl, HM2, HT, HU⟩
            case measure => decide
          · obtain ⟨N, hO⟩ := HM.out
            obtain ⟨hlk, hwr, w2, hup, hO2, hU2⟩ := oc_step hO W9.out (by omega) (by omega)
            have HM2 : Hid (∃ N, Oc w2 w.heap.size (i * 6 + (6)) N (cn (L ++ fdN ([x4, x5, x6, x7, x8, x9].take (6))))) := by
              obtain ⟨N, h⟩ := hO2
              refine hid ⟨N, ?_⟩
              rw [HTj.out, if_neg hz, ← List.append_assoc]
              exact h
            have hw1 := hO.lt
            have HT2 : Hid (Oc w2 (w.heap.size + 1) 0 0 (fun _ => 0)) := hid (HT.out.upd hU2 (by omega))
            have HU2 : Hid (Upd (fun _ => False) w w2) := hid (HU.out.trans hU2 (fun x h1 h2 => by omega))
            have hb : (x9 != 0) = true := by simpa using hz
            generalize (cn (L ++ fdN ([x4, x5, x6, x7, x8, x9].take 5)) x9 : Int) = fi at hlk hup hwr
            clear HM HTj hlen hO hO2 hU2 hz
            go_wp2_with (first | (refine wp_idx _ rfl _ _ rfl (.int .i64 x9) rfl ?_) | go_in)
            go_roundw
            case rel => exact ⟨6, by omega, rfl, HM2, HT2, HU2⟩
            case measure => decide
        · have HM2 : Hid (∃ N, Oc wi w.heap.size ((i + 1) * 6) N (cn (hadL (r.take (i + 1))))) := by
            obtain ⟨N, h⟩ := HM.out
            refine hid ⟨N, ?_⟩
            rw [HTk.out]
            exact h.mono (by omega)
          clear HM
          go_wp2_with fail
          go_roundw
          case rel => exact ⟨i + 1, by omega, by go_num, HM2, HT, HU⟩
          case measure => simp [intOf]; omega
    · have hin : i = m := by omega
      subst hin
      have HF : Hid (∃ N, Oc wr w.heap.size (i * 6) N (cn (hadL r))) := by
        have := HM.out
        rw [List.take_of_length_le (by rw [← GM.out]; exact Nat.le_refl _)] at this
        exact hid this
      clear HM hlt hi
      have HFL : Hid (∀ k, cn (hadL r) k ≤ i * 6) := hid fun k => Nat.le_trans (cn_le _ _) (by rw [GM.out]; exact hadL_len r)
      rw [← GF.out] at HF HFL
      have HT0 : Hid (∃ N, Oc wr (w.heap.size + 1) 0 N (cn ((l.take 0).map (· 0)))) := hid ⟨0, HT.out⟩
      clear HT
      go_wp2_with fail
      go_loopw [36] (fun k wi => ∃ (j : Nat), j ≤ n ∧ k = .int .i64 j ∧ Hid ((l.take j).all (heldB F) = true) ∧ Hid (∃ N, Oc wi (w.heap.size + 1) j N (cn ((l.take j).map (· 0)))) ∧ Hid (∃ N, Oc wi w.heap.size (i * 6) N F) ∧ Hid (Upd (fun _ => False) w wi)) (fun k _ => n - (intOf k).toNat)
      case atStart => exact ⟨0, by omega, rfl, hid rfl, HT0, HF, HU⟩
      case round =>
        clear HT0 HF HU
        obtain ⟨j, hj, rfl, HA, HM, HF, HU⟩ := hrel
        rename World => wi
        by_cases hlt : j < n
        · have hln : j < l.length := by rw [← GN.out]; exact hlt
          obtain ⟨b, o, rfl, hbl, hc⟩ := (HR.out.upd HU.out (fun _ _ _ _ _ h => h)).ex (by omega)
          have hw := HR.out.wf _ (getD_mem l j rec0 hln)
          have HTk : Hid ((l.take (j + 1)).map (· 0) = (l.take j).map (· 0) ++ [l.getD j rec0 0]) := hid (by rw [take_snoc l j rec0 hln, List.map_append]; rfl)
          have HAk : Hid ((l.take (j + 1)).all (heldB F) = heldB F (l.getD j rec0)) := hid (by rw [take_snoc l j rec0 hln, List.all_append, HA.out]; simp)
          have HNo : Hid (heldB F (l.getD j rec0) = false → heldsB l F = false) := hid fun h => by
            unfold heldsB
            have : l.all (heldB F) = false := by
              rw [List.all_eq_false]
              exact ⟨_, getD_mem l j rec0 hln, by rw [h]; simp⟩
            rw [this]; rfl
          unfold heldB at HAk HNo
          have c0 := hc j hln 0 (by omega)
          have c1 := hc j hln 1 (by omega)
          have c2 := hc j hln 2 (by omega)
          have c3 := hc j hln 3 (by omega)
          have c4 := hc j hln 4 (by omega)
          have c5 := hc j hln 5 (by omega)
          rw [Nat.add_zero] at c0
          have W0 := hid (hw 0)
          generalize l.getD j rec0 0 = x0 at *
          generalize l.getD j rec0 1 = x1 at *
          generalize l.getD j rec0 2 = x2 at *
          generalize l.getD j rec0 3 = x3 at *
          generalize l.getD j rec0 4 = x4 at *
          generalize l.getD j rec0 5 = x5 at *
          clear hc hw
          have hX : Upd (fun _ => False) wi (wi.alloc (.cells #[.int .i64 x0, .int .i64 x1, .int .i64 x2, .int .i64 x3, .int .i64 x4, .int .i64 x5] 30)) := Upd.alloc _ _ _
          obtain ⟨N, hO⟩ := HM.out
          obtain ⟨N2, hF⟩ := HF.out
          have hlk := oc_look (hF.upd hX (fun h => h)) W0.out
          have hle : ((l.take j).map (· 0)).length ≤ j := by rw [List.length_map]; exact List.length_take_le j l
          obtain ⟨hlk2, hwr, w2, hup, hO2, hU2⟩ := oc_step (hO.upd hX (fun h => h)) W0.out (by omega) (by omega)
          have hFl := hF.lt
          have HM2 : Hid (∃ N, Oc w2 (w.heap.size + 1) (j + 1) N (cn ((l.take (j + 1)).map (· 0)))) := hid (by rw [HTk.out]; exact hO2)
          have HF2 : Hid (∃ N, Oc w2 w.heap.size (i * 6) N F) := hid ⟨N2, (hF.upd hX (fun h => h)).upd hU2 (by omega)⟩
          have HU1 : Hid (Upd (fun _ => False) w (wi.alloc (.cells #[.int .i64 x0, .int .i64 x1, .int .i64 x2, .int .i64 x3, .int .i64 x4, .int .i64 x5] 30))) := hid (HU.out.trans hX (fun _ _ h => h))
          have HU2 : Hid (Upd (fun _ => False) w w2) := hid (HU1.out.trans hU2 (fun x h1 h2 => by omega))
          generalize (cn ((l.take j).map (· 0)) x0 : Int) = g at hlk2 hup hwr
          generalize (F x0 : Int) = f at *
          clear hX hO hF hO2 hU2 hle HM HF HU
          cases b1 : x5 == f <;> cases b2 : decide (x5 < 1)
          all_goals
            have b5 : (x5 != f) = !(x5 == f) := rfl
            rw [b1] at b5
            rw [b1, b2] at HAk HNo
            go_wp2_with fail
            first
              | (go_roundw
                 case rel => exact ⟨j + 1, by omega, by go_num, hid (HAk.out.trans rfl), HM2, HF2, HU2⟩
                 case measure => simp [intOf]; omega)
              | (go_ret
                 rw [HNo.out rfl]
                 exact ⟨rfl, HU1.out⟩)
        · have hin : j = n := by omega
          subst hin
          have HA' : Hid (heldsB l F = wiB F (cn (l.map (· 0)))) := by
            have := HA.out
            rw [List.take_of_length_le (by rw [← GN.out]; exact Nat.le_refl _)] at this
            exact hid (by unfold heldsB; rw [this]; rfl)
          obtain ⟨N, hO⟩ := HM.out
          obtain ⟨N2, hF⟩ := HF.out
          rw [List.take_of_length_le (by rw [← GN.out]; exact Nat.le_refl _)] at hO
          have KW := hid (within_any wi w.heap.size (w.heap.size + 1) _ _ _ _ _ _ hF hO)
          clear HA HM HF hO hF
          go_wp2_with fail
          refine KW.out.mono ?_
          rintro e w3 ⟨rfl, hU3⟩
          have HU3 : Hid (Upd (fun _ => False) w w3) := hid (HU.out.trans hU3 (fun _ _ h => h))
          clear KW hU3
          go_wp2_with fail
          go_ret
          rw [HA'.out]
          exact ⟨rfl, HU3.out⟩

end Go.Proofs.Ytgbikncpmgikaaa
