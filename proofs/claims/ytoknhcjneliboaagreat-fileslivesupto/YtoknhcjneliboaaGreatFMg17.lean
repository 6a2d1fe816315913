/- Texts of this seat, merged. -/
import Derived.Test.YtoknhcjneliboaaGreatFMg15
import Derived.Test.YtoknhcjneliboaaGreatFMg16
import Derived.Test.YtoknhcjneliboaaGreatFMg9
import Derived.BigQuiet
import Derived.Test.YtoknhcjneliboaaGreatFMg8

/- The document's Stat. -/
namespace Go.Proofs.YtoknhcjneliboaaGreat
open Go.RowKit
set_option linter.unusedVariables false
set_option maxRecDepth 20000

set_option maxHeartbeats 2000000 in
theorem rstat_no (x g u : Nat) (V : Nat → Value) (F : Fs) (w : World) (H : Rf w x g u V F) (n : Int) (ht : F.there n = false) :
    Calls Tryz.prog 58 #[.pointer (some ⟨x, 0, none⟩), .int .i64 n] w fun e w' => e = .returned (.tuple #[.agg #[.int .i64 0, .int .i64 0, .int .i64 0], .int .i64 2]) ∧ Below w.heap.size w w' := by
  obtain ⟨W, gW⟩ : ∃ W, W = w.alloc (Obj.cells #[.int .i64 0, .int .i64 0, .int .i64 0] 87) := ⟨_, rfl⟩
  have hB : Below w.heap.size w W := by rw [gW]; exact one_new _ _
  have hN : W.heap[w.heap.size]? = some (.cells #[.int .i64 0, .int .i64 0, .int .i64 0] 87 (0, 0)) := by rw [gW]; exact heap_alloc_new _ _
  have k1 := hid (rthere_any x g u V F W (H.grow hB) n)
  have HB := hid hB
  have HN := hid hN
  rw [ht] at k1
  clear H ht hB hN
  go_enter Tryz.func58, Tryz.ntmps58
  go_wp2_with fail
  rw [← gW]
  refine k1.out.mono ?_
  rintro e w2 ⟨rfl, rfl⟩
  have h2 := HN.out
  have r0 : w2.cell? ⟨w.heap.size, 0, none⟩ = some (.int .i64 0) := by rw [cell_of_row w2 _ 0 _ _ _ h2]; rfl
  have r1 : w2.cell? ⟨w.heap.size, 1, none⟩ = some (.int .i64 0) := by rw [cell_of_row w2 _ 1 _ _ _ h2]; rfl
  have r2 : w2.cell? ⟨w.heap.size, 2, none⟩ = some (.int .i64 0) := by rw [cell_of_row w2 _ 2 _ _ _ h2]; rfl
  have f0 : ∀ j, w2.frozen? ⟨w.heap.size, j, none⟩ = false := fun j => by simp [World.frozen?, h2]
  have f1 := f0 0
  have f2 := f0 1
  have f3 := f0 2
  clear k1 h2 f0 gW
  go_wp2_with (refine wpList_build_is rfl 87 #[] rfl _ (by simpa [Act.eval] using builtInfo0) ?_)
  have q3 : (((w2.setCell ⟨w.heap.size, 0, none⟩ (.int .i64 0)).setCell ⟨w.heap.size, 1, none⟩ (.int .i64 0)).setCell ⟨w.heap.size, 2, none⟩ (.int .i64 0)).heap[w.heap.size]? = some (.cells (List.toArray [.int .i64 0, .int .i64 0, .int .i64 0]) 87 (0, 0)) := by
    have g1 := heap_setCell_same w2 w.heap.size 0 _ _ (.int .i64 0) HN.out
    have g2 := heap_setCell_same _ w.heap.size 1 _ _ (.int .i64 0) g1
    have g3 := heap_setCell_same _ w.heap.size 2 _ _ (.int .i64 0) g2
    exact g3
  refine bodyPost_ret (cell_result2 rfl _ _ w.heap.size 0 rfl [.int .i64 0, .int .i64 0, .int .i64 0] _ (rangeAt_block q3) Tryz.underlying87 rfl csizeInfo) rfl ?_
  exact ⟨rfl, ((HB.out.setCell (Nat.le_refl _) _).setCell (Nat.le_refl _) _).setCell (Nat.le_refl _) _⟩

set_option maxHeartbeats 2000000 in
theorem rstat_yes (x g u : Nat) (V : Nat → Value) (F : Fs) (w : World) (H : Rf w x g u V F) (hF : FOk F) (n : Nat) (hn : n < 17) (ht : F.there n = true) :
    Calls Tryz.prog 58 #[.pointer (some ⟨x, 0, none⟩), .int .i64 (n : Int)] w fun e w' => e = .returned (.tuple #[.agg #[.int .i64 (F.P n).k, .int .i64 (F.P n).l, .int .i64 (F.size n : Int)], .int .i64 0]) ∧ Below w.heap.size w w' := by
  obtain ⟨W, gW⟩ : ∃ W, W = w.alloc (Obj.cells #[.int .i64 0, .int .i64 0, .int .i64 0] 87) := ⟨_, rfl⟩
  have hB : Below w.heap.size w W := by rw [gW]; exact one_new _ _
  have hN : W.heap[w.heap.size]? = some (.cells #[.int .i64 0, .int .i64 0, .int .i64 0] 87 (0, 0)) := by rw [gW]; exact heap_alloc_new _ _
  have k1 := hid (rthere_any x g u V F W (H.grow hB) n)
  have HB := hid hB
  have HN := hid hN
  rw [ht] at k1
  have h3 := H.grow hB
  have c0 := h3.c0
  have c1 := h3.k n hn
  have c2 := h3.l n hn
  have c3 := h3.h n hn
  have c4 := h3.b n hn
  have c5 := h3.B n hn
  have c6 := h3.q n hn
  obtain ⟨a1, b1, e1, p1, m1, _⟩ := own_shp (H.rb n hn)
  obtain ⟨a2, b2, e2, p2, m2, _⟩ := own_shp (H.rB n hn)
  obtain ⟨a3, b3, e3, p3, m3, _⟩ := own_shp (H.rQ n hn)
  rw [e1] at c4
  rw [e2] at c5
  rw [e3] at c6
  have hq6 := hF.len n
  have hc6 := (hF.c n).1
  have hsz : (F.size n : Int) = ((F.P n).c.length : Int) + ((F.P n).Q.length : Int) := by unfold Fs.size; omega
  rw [hsz]
  have n0 : (0 : Int) ≤ (n : Int) := by omega
  have n1 : (n : Int) < 17 := by omega
  generalize (F.P n).k = k at c1 ⊢
  generalize (F.P n).l = l at c2 ⊢
  generalize (F.P n).h = h at c3
  generalize (F.P n).c.length = lc at c4 p1 hc6 ⊢
  generalize (F.P n).B.length = lb at c5 p2
  generalize (F.P n).Q.length = lq at c6 p3 hq6 ⊢
  have hwr : IntKind.i64.wrap ((lc : Int) + (lq : Int)) = (lc : Int) + (lq : Int) := by rw [IntKind.wrap_i64]; omega
  clear H ht hB hN h3 hF e1 e2 e3 hsz
  go_enter Tryz.func58, Tryz.ntmps58
  go_wp2_with fail
  rw [← gW]
  refine k1.out.mono ?_
  rintro e w2 ⟨rfl, rfl⟩
  have hlt : w.heap.size < w2.heap.size := (Array.getElem?_eq_some_iff.1 HN.out).1
  have h2 : (w2.alloc (Obj.cells #[.int .i64 k, .int .i64 l, .int .i64 h, .slice a1 lc b1, .slice a2 lb b2, .slice a3 lq b3] 117)).heap[w.heap.size]? = some (.cells #[.int .i64 0, .int .i64 0, .int .i64 0] 87 (0, 0)) := (((Below.refl w2.heap.size w2).alloc (Nat.le_refl _) _).block _ hlt).trans HN.out
  have r0 : (w2.alloc (Obj.cells #[.int .i64 k, .int .i64 l, .int .i64 h, .slice a1 lc b1, .slice a2 lb b2, .slice a3 lq b3] 117)).cell? ⟨w.heap.size, 0, none⟩ = some (.int .i64 0) := by rw [cell_of_row _ _ 0 _ _ _ h2]; rfl
  have r1 : (w2.alloc (Obj.cells #[.int .i64 k, .int .i64 l, .int .i64 h, .slice a1 lc b1, .slice a2 lb b2, .slice a3 lq b3] 117)).cell? ⟨w.heap.size, 1, none⟩ = some (.int .i64 0) := by rw [cell_of_row _ _ 1 _ _ _ h2]; rfl
  have r2 : (w2.alloc (Obj.cells #[.int .i64 k, .int .i64 l, .int .i64 h, .slice a1 lc b1, .slice a2 lb b2, .slice a3 lq b3] 117)).cell? ⟨w.heap.size, 2, none⟩ = some (.int .i64 0) := by rw [cell_of_row _ _ 2 _ _ _ h2]; rfl
  have f0 : ∀ j, (w2.alloc (Obj.cells #[.int .i64 k, .int .i64 l, .int .i64 h, .slice a1 lc b1, .slice a2 lb b2, .slice a3 lq b3] 117)).frozen? ⟨w.heap.size, j, none⟩ = false := fun j => by simp [World.frozen?, h2]
  have f1 := f0 0
  have f2 := f0 1
  have f3 := f0 2
  have H2 := hid h2
  have HBX : Hid (Below w.heap.size w (w2.alloc (Obj.cells #[.int .i64 k, .int .i64 l, .int .i64 h, .slice a1 lc b1, .slice a2 lb b2, .slice a3 lq b3] 117))) := hid (HB.out.alloc HB.out.size _)
  clear k1 h2 f0 gW hlt
  go_wp2_with fail
  have q3 : ((((w2.alloc (Obj.cells #[.int .i64 k, .int .i64 l, .int .i64 h, .slice a1 lc b1, .slice a2 lb b2, .slice a3 lq b3] 117)).setCell ⟨w.heap.size, 0, none⟩ (.int .i64 k)).setCell ⟨w.heap.size, 1, none⟩ (.int .i64 l)).setCell ⟨w.heap.size, 2, none⟩ (.int .i64 ((lc : Int) + (lq : Int)))).heap[w.heap.size]? = some (.cells (List.toArray [.int .i64 k, .int .i64 l, .int .i64 ((lc : Int) + (lq : Int))]) 87 (0, 0)) := by
    have g1 := heap_setCell_same (w2.alloc (Obj.cells #[.int .i64 k, .int .i64 l, .int .i64 h, .slice a1 lc b1, .slice a2 lb b2, .slice a3 lq b3] 117)) w.heap.size 0 _ _ (.int .i64 k) H2.out
    have g2 := heap_setCell_same _ w.heap.size 1 _ _ (.int .i64 l) g1
    have g3 := heap_setCell_same _ w.heap.size 2 _ _ (.int .i64 ((lc : Int) + (lq : Int))) g2
    exact g3
  refine bodyPost_ret (cell_result2 rfl _ _ w.heap.size 0 rfl [.int .i64 k, .int .i64 l, .int .i64 ((lc : Int) + (lq : Int))] _ (rangeAt_block q3) Tryz.underlying87 rfl csizeInfo) rfl ?_
  exact ⟨rfl, ((HBX.out.setCell (Nat.le_refl _) _).setCell (Nat.le_refl _) _).setCell (Nat.le_refl _) _⟩

theorem rstat_any (x g u : Nat) (V : Nat → Value) (F : Fs) (w : World) (H : Rf w x g u V F) (hF : FOk F) (n : Int) :
    Calls Tryz.prog 58 #[.pointer (some ⟨x, 0, none⟩), .int .i64 n] w fun e w' => e = .returned (.tuple #[.agg #[.int .i64 (F.stat n).1, .int .i64 (F.stat n).2.1, .int .i64 (F.stat n).2.2.1], .int .i64 (F.stat n).2.2.2]) ∧ Below w.heap.size w w' := by
  by_cases ht : F.there n = false
  · rw [show F.stat n = (0, 0, 0, 2) from if_pos ht]
    exact rstat_no x g u V F w H n ht
  · have ht2 : F.there n = true := by simpa using ht
    obtain ⟨i, rfl, i1, i2, i3⟩ := there_is ht2
    rw [show F.stat (i : Int) = ((F.P i).k, (F.P i).l, (F.size i : Int), 0) from if_neg ht]
    exact rstat_yes x g u V F w H hF i i2 ht2

end Go.Proofs.YtoknhcjneliboaaGreat

/- What take does to any system: the lowest free blocks. -/
namespace Go.Proofs.YtoknhcjneliboaaGreat
open Go.RowKit Go.ChangeMaps Go.MapKept
set_option linter.unusedVariables false
set_option maxRecDepth 20000

/-- The free blocks, rising; marks with some of them taken. -/
def frL (T : Nat → Bool) : List Nat := (List.range' 1 24).filter (fun b => !T b)
def mkT (T : Nat → Bool) (L : List Nat) : Nat → Bool := fun b => if b ∈ L then true else T b
theorem mem_frL {T : Nat → Bool} {b : Nat} : b ∈ frL T ↔ 1 ≤ b ∧ b < 25 ∧ T b = false := by
  unfold frL
  rw [List.mem_filter, List.mem_range'_1]
  cases T b <;> simp <;> omega
theorem frL_lt (T : Nat → Bool) : (frL T).Pairwise (· < ·) := List.Pairwise.sublist List.filter_sublist List.pairwise_lt_range'
theorem frL_get {T : Nat → Bool} {k : Nat} (hk : k < (frL T).length) : (frL T).getD k 0 ∈ frL T ∧ (frL T).getD k 0 ∉ (frL T).take k ∧ (∀ x ∈ frL T, x < (frL T).getD k 0 → x ∈ (frL T).take k) := by
  have hs := frL_lt T
  have e : (frL T).getD k 0 = (frL T)[k] := by rw [List.getD_eq_getElem?_getD, List.getElem?_eq_getElem hk]; rfl
  rw [e]
  have sp : frL T = (frL T).take k ++ (frL T)[k] :: (frL T).drop (k + 1) := by rw [List.getElem_cons_drop, List.take_append_drop]
  refine ⟨List.getElem_mem _, fun h => ?_, fun x hx hlt => ?_⟩
  · rw [sp] at hs
    have := (List.pairwise_append.1 hs).2.2 _ h _ (List.mem_cons_self)
    omega
  · rw [sp] at hx
    rcases List.mem_append.1 hx with h | h
    · exact h
    · rw [sp] at hs
      have := (List.pairwise_append.1 hs).2.1
      rcases List.mem_cons.1 h with h | h
      · omega
      · have := (List.pairwise_cons.1 this).1 x h
        omega
theorem frL_take {T : Nat → Bool} {k : Nat} (hk : k < (frL T).length) : (frL T).take (k + 1) = (frL T).take k ++ [(frL T).getD k 0] := by
  rw [List.take_succ_eq_append_getElem hk, List.getD_eq_getElem?_getD, List.getElem?_eq_getElem hk]
  rfl
/-- The lowest block that is not marked is the next free one. -/
theorem frL_next {T : Nat → Bool} {k b : Nat} (hk : k < (frL T).length) (h1 : 1 ≤ b) (h2 : b < 25) (hb : mkT T ((frL T).take k) b = false) (hc : ∀ c, 1 ≤ c → c < b → mkT T ((frL T).take k) c = true) : b = (frL T).getD k 0 := by
  obtain ⟨g1, g2, g3⟩ := frL_get hk
  obtain ⟨m1, m2, m3⟩ := mem_frL.1 g1
  have hb' : b ∉ (frL T).take k ∧ T b = false := by
    unfold mkT at hb
    split at hb
    · simp at hb
    · rename_i q; exact ⟨q, hb⟩
  rcases Nat.lt_trichotomy b ((frL T).getD k 0) with q | q | q
  · exact absurd (g3 b (mem_frL.2 ⟨h1, h2, hb'.2⟩) q) hb'.1
  · exact q
  · have := hc _ m1 q
    unfold mkT at this
    rw [if_neg g2, m3] at this
    simp at this
theorem mkT_succ {T : Nat → Bool} {k : Nat} (hk : k < (frL T).length) : updT (mkT T ((frL T).take k)) ((frL T).getD k 0) true = mkT T ((frL T).take (k + 1)) := by
  funext x
  rw [frL_take hk]
  by_cases e : x = (frL T).getD k 0
  · rw [e, updT_same]
    unfold mkT
    rw [if_pos (by simp)]
  · rw [updT_ne _ _ _ _ e]
    unfold mkT
    by_cases q : x ∈ (frL T).take k
    · rw [if_pos q, if_pos (List.mem_append.2 (.inl q))]
    · rw [if_neg q, if_neg (fun h => (List.mem_append.1 h).elim q (fun h => e (List.mem_singleton.1 h)))]

/-- What take has done behind k places. -/
structure Tkn (w wr : World) (p i : Nat) (S : Sg) (q k : Nat) (B' : List Int) : Prop where
  sy : Sy wr p (S.bl i { S.P i with B := B' } (mkT S.T ((frL S.T).take k)))
  new : ∀ j, j < k → B'.getD (q + j) 0 = (((frL S.T).getD j 0 : Nat) : Int)
  old : ∀ j, j < q ∨ q + k ≤ j → B'.getD j 0 = (S.P i).B.getD j 0
  upd : Upd (· = p) w wr

set_option maxHeartbeats 4000000 in
theorem take_gen (p : Nat) (S : Sg) (w : World) (H : Sy w p S) (i : Nat) (hi : i < 17) (q n c o : Nat) (ho : 0 < n → o = 1 + i * 107 + (100 + q)) (hq : q + n ≤ 6) (hn : n ≤ c) (hc : c ≤ 6) (hfr : n ≤ (frL S.T).length) :
    Calls Tryz.prog 142 #[.pointer (some ⟨p, 0, none⟩), .slice (some ⟨p, o, none⟩) n c] w fun e w' => e = .returned (.tuple #[]) ∧ ∃ B', Tkn w w' p i S q n B' := by
  have H0 : Hid (∃ B', Tkn w w p i S q 0 B') := by
    have e : S.bl i { S.P i with B := (S.P i).B } (mkT S.T ((frL S.T).take 0)) = S := by
      have : mkT S.T ((frL S.T).take 0) = S.T := by funext x; simp [mkT]
      rw [this]
      exact S.bl_self i
    exact hid ⟨(S.P i).B, by rw [e]; exact H, fun j hj => by omega, fun _ _ => rfl, Upd.refl _ _⟩
  have HOO := hid ho
  have HFR := hid hfr
  clear H ho hfr
  go_enter Tryz.func142, Tryz.ntmps142
  go_wp2_with fail
  go_loopw [4, 8] (fun v4 v8 wr => ∃ b k : Nat, 1 ≤ b ∧ b < 25 ∧ k ≤ n ∧ v4 = .int .i64 (b : Int) ∧ v8 = .int .i64 (k : Int) ∧ Hid ((∃ B', Tkn w wr p i S q k B') ∧ (∀ cc, 1 ≤ cc → cc < b → mkT S.T ((frL S.T).take k) cc = true))) (fun _ v8 _ => n - (intOf v8).toNat)
  case atStart => exact ⟨1, 0, by omega, by omega, by omega, rfl, rfl, hid ⟨H0.out, fun cc h1 h2 => by omega⟩⟩
  case round =>
    clear H0
    obtain ⟨b, k, hb1, hb2, hkn, rfl, rfl, HQ⟩ := hrel
    by_cases e : k = n
    · subst e
      go_wp2_with fail
      go_end0
      exact ⟨rfl, HQ.out.1⟩
    · have hk : k < n := by omega
      have hk2 : (k : Int) < (n : Int) := by omega
      obtain ⟨B', ht⟩ := HQ.out.1
      have HT := hid ht
      have HF := hid HQ.out.2
      have HKL : Hid (k < (frL S.T).length) := hid (by have := HFR.out; omega)
      clear HQ ht e
      go_wp2_with fail
      rename World => wo
      go_loopw [4] (fun v4 wr => ∃ b : Nat, 1 ≤ b ∧ b < 25 ∧ v4 = .int .i64 (b : Int) ∧ wr = wo ∧ Hid (∀ cc, 1 ≤ cc → cc < b → mkT S.T ((frL S.T).take k) cc = true)) (fun v4 _ => 25 - (intOf v4).toNat)
      case atStart => exact ⟨b, hb1, hb2, rfl, rfl, HF⟩
      case round =>
        clear HF hb1 hb2
        obtain ⟨b, hb1, hb2, rfl, rfl, HF⟩ := hrel
        have c0 : (0 : Int) ≤ (b : Int) := by omega
        have c1 : (b : Int) < 25 := by omega
        have hl := HT.out.sy.t b hb2
        change wr.cell? ⟨p, 1820 + b, none⟩ = some (.bool (mkT S.T ((frL S.T).take k) b)) at hl
        cases ht : mkT S.T ((frL S.T).take k) b with
        | true =>
          rw [ht] at hl
          have hb3 : b + 1 < 25 := by
            obtain ⟨g1, g2, g3⟩ := frL_get HKL.out
            obtain ⟨m1, m2, m3⟩ := mem_frL.1 g1
            rcases Nat.lt_or_ge (b + 1) 25 with h | h
            · exact h
            · have hx : mkT S.T ((frL S.T).take k) ((frL S.T).getD k 0) = true := by
                by_cases e : (frL S.T).getD k 0 = b
                · rw [e]; exact ht
                · exact HF.out _ m1 (by omega)
              unfold mkT at hx
              rw [if_neg g2, m3] at hx
              simp at hx
          have HF2 : Hid (∀ cc, 1 ≤ cc → cc < b + 1 → mkT S.T ((frL S.T).take k) cc = true) := hid (fun cc q1 q2 => by
            by_cases e : cc = b
            · subst e; exact ht
            · exact HF.out cc q1 (by omega))
          clear ht HF
          go_wp2_with fail
          go_roundw
          case rel => exact ⟨b + 1, by omega, hb3, by go_num, by first | rfl | trivial, HF2⟩
          case measure => simp [intOf]; omega
        | false =>
          rw [ht] at hl
          have hbe := frL_next HKL.out hb1 hb2 ht HF.out
          have f1 := HT.out.sy.fz (1820 + b)
          have hadr : 1 + i * 107 + (100 + (q + k)) = o + k := by have := HOO.out (by omega); omega
          have hS3 := HT.out.sy.mark b hb2 true
          have hb4 := hS3.B i hi (q + k) (by omega)
          rw [hadr] at hb4
          have f2 := hS3.fz (o + k)
          have hS4 := hS3.blkTo i hi (q + k) (by omega) (b : Int)
          rw [hadr] at hS4
          have HU4 : Hid (Upd (· = p) w ((wr.setCell ⟨p, 1820 + b, none⟩ (.bool true)).setCell ⟨p, o + k, none⟩ (.int .i64 (b : Int)))) := by
            have u1 : Upd (· = p) wr (wr.setCell ⟨p, 1820 + b, none⟩ (.bool true)) := Upd.setCell (F := (· = p)) wr ⟨p, _, none⟩ _ rfl
            have u2 : Upd (· = p) (wr.setCell ⟨p, 1820 + b, none⟩ (.bool true)) ((wr.setCell ⟨p, 1820 + b, none⟩ (.bool true)).setCell ⟨p, o + k, none⟩ (.int .i64 (b : Int))) := Upd.setCell (F := (· = p)) _ ⟨p, _, none⟩ _ rfl
            exact hid ((HT.out.upd.trans u1 (fun _ _ h => h)).trans u2 (fun _ _ h => h))
          have hBl : B'.length = 6 := by
            have := (HT.out.sy.ok i hi).B
            rw [show (S.bl i { S.P i with B := B' } (mkT S.T ((frL S.T).take k))).P i = { S.P i with B := B' } from updN_same _ _ _] at this
            exact this
          have HQ4 : Hid ((∃ B', Tkn w ((wr.setCell ⟨p, 1820 + b, none⟩ (.bool true)).setCell ⟨p, o + k, none⟩ (.int .i64 (b : Int))) p i S q (k + 1) B') ∧ (∀ cc, 1 ≤ cc → cc < b → mkT S.T ((frL S.T).take (k + 1)) cc = true)) := by
            refine hid ⟨⟨B'.set (q + k) (b : Int), ?_, fun j hj => ?_, fun j hj => ?_, HU4.out⟩, fun cc q1 q2 => ?_⟩
            · have e1 : (({ (S.bl i { S.P i with B := B' } (mkT S.T ((frL S.T).take k))) with T := updT (mkT S.T ((frL S.T).take k)) b true } : Sg).at_ i ((({ (S.bl i { S.P i with B := B' } (mkT S.T ((frL S.T).take k))) with T := updT (mkT S.T ((frL S.T).take k)) b true } : Sg).P i).blk (q + k) (b : Int))) = S.bl i { S.P i with B := B'.set (q + k) (b : Int) } (mkT S.T ((frL S.T).take (k + 1))) := by
                show ({ S with P := updN (updN S.P i { S.P i with B := B' }) i (Nd.blk (updN S.P i { S.P i with B := B' } i) (q + k) (b : Int)), T := updT (mkT S.T ((frL S.T).take k)) b true } : Sg) = _
                rw [updN_same, hbe, mkT_succ HKL.out]
                unfold Sg.bl Nd.blk
                congr 1
                funext j
                by_cases e : j = i <;> simp [updN, e]
              rw [← e1]
              exact hS4
            · by_cases e : j = k
              · subst e; rw [getD_set_same _ _ _ (by omega), hbe]
              · rw [getD_set_ne _ _ _ _ (by omega)]; exact HT.out.new j (by omega)
            · rw [getD_set_ne _ _ _ _ (by omega)]; exact HT.out.old j (by omega)
            · have := HF.out cc q1 q2
              rw [frL_take HKL.out]
              unfold mkT at this ⊢
              split
              · rfl
              · rename_i hh
                split at this
                · rename_i hx; exact absurd (List.mem_append.2 (.inl hx)) hh
                · exact this
          have ck : (0 : Int) ≤ (k : Int) := by omega
          have h7 := HT.out.sy.B i hi (q + k) (by omega)
          rw [hadr] at h7
          have f7 := HT.out.sy.fz (o + k)
          have n1 : ¬ 1820 + b = o + k := by have := HOO.out (by omega); omega
          have n2 : ¬ o + k = 1820 + b := by have := HOO.out (by omega); omega
          clear ht HF hS3 hS4 HU4 hadr HT hbe hBl
          go_wp2_with fail
          go_roundw
          case rel => exact ⟨b, k + 1, hb1, hb2, by omega, rfl, by go_num, HQ4⟩
          case measure => simp [intOf]; omega

end Go.Proofs.YtoknhcjneliboaaGreat

/- What grow does to any system. -/
namespace Go.Proofs.YtoknhcjneliboaaGreat
open Go.RowKit Go.ChangeMaps Go.MapKept
set_option linter.unusedVariables false
set_option maxRecDepth 20000

theorem range1_succ (n : Nat) : List.range' 1 (n + 1) = List.range' 1 n ++ [n + 1] := by
  rw [List.range'_concat]; simp; omega
theorem cnt_frL (T : Nat → Bool) (h0 : T 0 = false) : ∀ n, cnt T (n + 1) + ((List.range' 1 n).filter (fun b => !T b)).length = n
  | 0 => by simp [cnt, h0]
  | n + 1 => by
    have h := cnt_frL T h0 n
    have e : cnt T (n + 1 + 1) = cnt T (n + 1) + if T (n + 1) then 1 else 0 := rfl
    have e2 : ((List.range' 1 (n + 1)).filter (fun b => !T b)).length = ((List.range' 1 n).filter (fun b => !T b)).length + if T (n + 1) then 0 else 1 := by
      rw [range1_succ, List.filter_append, List.length_append]
      cases q : T (n + 1) <;> simp [q]
    rw [e, e2]
    cases q : T (n + 1)
    · rw [if_neg (by simp), if_neg (by simp)]; omega
    · rw [if_pos rfl, if_pos rfl]; omega
theorem free_len (T : Nat → Bool) (h0 : T 0 = false) : 24 - cnt T 25 = (frL T).length ∧ cnt T 25 ≤ 24 := by
  have := cnt_frL T h0 24
  rw [show 24 + 1 = 25 from rfl] at this
  unfold frL
  exact ⟨by omega, by omega⟩

set_option maxHeartbeats 4000000 in
theorem grow_gen (p : Nat) (S : Sg) (w : World) (H : Sy w p S) (hT0 : S.T 0 = false) (i : Nat) (hi : i < 17) (size : Nat) (hs : (S.P i).s < size) (hz : size ≤ 96) :
    Calls Tryz.prog 118 #[.pointer (some ⟨p, 0, none⟩), .pointer (some ⟨p, 1 + i * 107, none⟩), .int .i64 (size : Int)] w fun e w' =>
      (¬ need size - need (S.P i).s ≤ (frL S.T).length ∧ e = .returned (.int .i64 28) ∧ Below w.heap.size w w') ∨
      (need size - need (S.P i).s ≤ (frL S.T).length ∧ e = .returned (.int .i64 0) ∧ ∃ B', Sy w' p (S.bl i { S.P i with B := B', s := size } (mkT S.T ((frL S.T).take (need size - need (S.P i).s)))) ∧
        (∀ j, j < need size - need (S.P i).s → B'.getD (need (S.P i).s + j) 0 = (((frL S.T).getD j 0 : Nat) : Int)) ∧ (∀ j, j < need (S.P i).s → B'.getD j 0 = (S.P i).B.getD j 0) ∧ Upd (· = p) w w') := by
  have c3 := H.s i hi
  obtain ⟨q0, g0⟩ : ∃ q0, q0 = need (S.P i).s := ⟨_, rfl⟩
  obtain ⟨q1, g1⟩ : ∃ q1, q1 = need size := ⟨_, rfl⟩
  have h01 : q0 ≤ q1 := by rw [g0, g1]; exact need_mono (by omega)
  have h16 : q1 ≤ 6 := by rw [g1]; exact need_le hz
  rw [← g1, ← g0]
  obtain ⟨s0, gs⟩ : ∃ s0, s0 = (S.P i).s := ⟨_, rfl⟩
  rw [← gs] at c3 hs
  have K0 : Hid (∀ W, Calls Tryz.prog 140 #[.int .i64 (s0 : Int)] W fun e w' => e = .returned (.int .i64 (q0 : Int)) ∧ w' = W) := by
    refine hid (fun W => ?_)
    have := needed_any s0 (by omega) W
    rw [show (s0 + 15) / 16 = q0 by rw [g0, gs]; rfl] at this
    exact this
  have K1 : Hid (∀ W, Calls Tryz.prog 140 #[.int .i64 (size : Int)] W fun e w' => e = .returned (.int .i64 (q1 : Int)) ∧ w' = W) := by
    refine hid (fun W => ?_)
    have := needed_any size (by omega) W
    rw [show (size + 15) / 16 = q1 by rw [g1]; rfl] at this
    exact this
  have a1 : ¬ (size : Int) ≤ (s0 : Int) := by omega
  have a2 : (0 : Int) ≤ (q0 : Int) := by omega
  have a3 : (q0 : Int) ≤ (q1 : Int) := by omega
  have a4 : (q1 : Int) ≤ 6 := by omega
  have HH := hid H
  obtain ⟨L, gL⟩ : ∃ L, L = frL S.T := ⟨_, rfl⟩
  have hfl := free_len S.T hT0
  have HFL : Hid (24 - cnt S.T 25 = L.length ∧ cnt S.T 25 ≤ 24) := by rw [gL]; exact hid hfl
  rw [← gL]
  have GL := hid gL
  clear H g0 g1 gs gL hfl hT0
  go_enter Tryz.func118, Tryz.ntmps118
  go_wp2_with fail
  go_quiet ((go_at_call 140; first | refine Calls.quiet_of_same (K0.out _) | refine Calls.quiet_of_same (K1.out _)))
  obtain ⟨o, go⟩ : ∃ o, o = if 6 = q0 then 1 + i * 107 + 100 else 1 + i * 107 + 100 + q0 := ⟨_, rfl⟩
  have hA : (if 6 = q0 then (⟨p, 1 + i * 107 + 100, none⟩ : Addr) else ⟨p, 1 + i * 107 + 100 + q0, none⟩) = ⟨p, o, none⟩ := by
    rw [go]; split <;> rfl
  have ho : 0 < q1 - q0 → o = 1 + i * 107 + (100 + q0) := fun h => by
    rw [go, if_neg (by omega)]; omega
  rw [hA]
  have HO := hid ho
  clear hA go ho K0 K1
  obtain ⟨W1, g1⟩ : ∃ W1, W1 = w.drewN nq := ⟨_, rfl⟩
  rw [← g1]
  have hS1 : Sy W1 p S := HH.out.hp (by rw [g1]; rfl)
  have HU1 : Hid (Below w.heap.size w W1) := by rw [g1]; exact hid (((Upd.refl (fun _ => False) w).drewN nq).below (Nat.le_refl _) (fun x h => h.elim))
  have k1 := hid (free_any p S W1 hS1 HFL.out.2)
  rw [HFL.out.1] at k1
  have HS1 := hid hS1
  clear hS1 g1
  by_cases hfit : q1 - q0 ≤ L.length
  · have a5 : ¬ ((L.length : Nat) : Int) < ((q1 - q0 : Nat) : Int) := by omega
    have k2 : Hid (∀ W, Below W1.heap.size W1 W → Calls Tryz.prog 142 #[.pointer (some ⟨p, 0, none⟩), .slice (some ⟨p, o, none⟩) (q1 - q0) (6 - q0)] W fun e w' => e = .returned (.tuple #[]) ∧ Hid (∃ B', Tkn W w' p i S q0 (q1 - q0) B')) := by
      refine hid (fun W hW => ?_)
      refine (take_gen p S W (HS1.out.grow hW) i hi q0 (q1 - q0) (6 - q0) o HO.out (by omega) (by omega) (by omega) (by rw [← GL.out]; exact hfit)).mono ?_
      rintro e w' ⟨rfl, h⟩
      exact ⟨rfl, hid h⟩
    go_wp2_with fail
    refine k1.out.mono ?_
    rintro e w2 ⟨rfl, hb2⟩
    have k3 := hid (k2.out w2 hb2)
    have HB2 := hid (HU1.out.trans (hb2.mono HU1.out.size))
    clear k1 k2 hb2
    go_wp2_with fail
    refine k3.out.mono ?_
    rintro e w3 ⟨rfl, H3⟩
    clear k3
    obtain ⟨B', ht⟩ := H3.out
    have h1 := ht.sy
    rw [← GL.out] at h1
    have c4 := h1.s i hi
    have f4 := h1.fz (1 + i * 107 + 3)
    have hP3 : (S.bl i { S.P i with B := B' } (mkT S.T (L.take (q1 - q0)))).P i = { S.P i with B := B' } := updN_same _ _ _
    rw [hP3] at c4
    have h5 := h1.sizeTo i hi size
    rw [hP3] at h5
    have e5 : (S.bl i { S.P i with B := B' } (mkT S.T (L.take (q1 - q0)))).at_ i (Nd.size { S.P i with B := B' } size) = S.bl i { S.P i with B := B', s := size } (mkT S.T (L.take (q1 - q0))) := by
      unfold Sg.bl Sg.at_ Nd.size
      congr 1
      funext j
      by_cases e : j = i <;> simp [updN, e]
    rw [e5] at h5
    have H5 : Hid (∃ B', Sy (w3.setCell ⟨p, 1 + i * 107 + 3, none⟩ (.int .i64 (size : Int))) p (S.bl i { S.P i with B := B', s := size } (mkT S.T (L.take (q1 - q0)))) ∧
        (∀ j, j < q1 - q0 → B'.getD (q0 + j) 0 = ((L.getD j 0 : Nat) : Int)) ∧ (∀ j, j < q0 → B'.getD j 0 = (S.P i).B.getD j 0) ∧ Upd (· = p) w (w3.setCell ⟨p, 1 + i * 107 + 3, none⟩ (.int .i64 (size : Int)))) :=
      hid ⟨B', h5, by rw [GL.out]; exact ht.new, fun j hj => ht.old j (.inl hj), ((Upd.of_below HB2.out).trans ht.upd (fun _ _ h => h)).trans (Upd.setCell (F := (· = p)) w3 ⟨p, _, none⟩ _ rfl) (fun _ _ h => h)⟩
    have c5 : w3.cell? ⟨p, 1 + i * 107 + 3, none⟩ = some (.int .i64 ((S.P i).s : Int)) := c4
    clear h1 c4 h5 e5 hP3 H3 ht
    go_wp2_with fail
    go_ret
    exact .inr ⟨hfit, rfl, H5.out⟩
  · have a5 : ((L.length : Nat) : Int) < ((q1 - q0 : Nat) : Int) := by omega
    go_wp2_with fail
    refine k1.out.mono ?_
    rintro e w2 ⟨rfl, hb2⟩
    have HB2 := hid (HU1.out.trans (hb2.mono HU1.out.size))
    clear k1 hb2
    go_wp2_with fail
    go_ret
    exact .inl ⟨hfit, rfl, HB2.out⟩

end Go.Proofs.YtoknhcjneliboaaGreat

/- What grow and Write do to any system. -/
namespace Go.Proofs.YtoknhcjneliboaaGreat
open Go.RowKit Go.ChangeMaps Go.MapKept
set_option linter.unusedVariables false
set_option maxRecDepth 20000

theorem frees_frL (F : Fs) : F.frees = frL F.T := rfl
theorem take_getD {l : List Int} {n : Nat} {r : List Int} (h : l.take n = r) (hn : n ≤ l.length) (j : Nat) (hj : j < n) : l.getD j 0 = r.getD j 0 := by
  rw [← h, getD_take _ _ _ hj]
theorem getD_append_nat (a b : List Nat) (j : Nat) : (a ++ b).getD j 0 = if j < a.length then a.getD j 0 else b.getD (j - a.length) 0 := by
  rw [List.getD_eq_getElem?_getD, List.getElem?_append]
  split
  · rw [List.getD_eq_getElem?_getD]
  · rw [List.getD_eq_getElem?_getD]
theorem getD_take_nat (a : List Nat) (n j : Nat) (h : j < n) : (a.take n).getD j 0 = a.getD j 0 := by
  rw [List.getD_eq_getElem?_getD, List.getD_eq_getElem?_getD, List.getElem?_take_of_lt h]

/-- A file that grew, with other bytes. -/
theorem Rel.grown {S : Sg} {F : Fs} (R : Rel S F) (H : FOk F) (i : Nat) (hi : i < 17) (s : Nat) (hl : (F.P i).c.length ≤ s) (B' b' : List Int) (c' : List Int) (hb : b'.take s = c') (hz : ∀ j, s ≤ j → b'.getD j 0 = 0) (hc : c'.length = s)
    (hfit : F.fits i s = true)
    (h1 : ∀ j, j < need s - need (S.P i).s → B'.getD (need (S.P i).s + j) 0 = (((frL S.T).getD j 0 : Nat) : Int)) (h2 : ∀ j, j < need (S.P i).s → B'.getD j 0 = (S.P i).B.getD j 0) :
    Rel (S.bl i { S.P i with B := B', s := s, b := b' } (mkT S.T ((frL S.T).take (need s - need (S.P i).s)))) ((F.grow i s).ct i c') := by
  rw [grow_ct]
  have r := R.P i hi
  have hB := H.B i
  have hs : (S.P i).s = (F.P i).c.length := r.s
  have hn : (F.P i).B.length = need (S.P i).s := by rw [hB, hs]; rfl
  have e1 : Fs.need s - (F.P i).B.length = need s - need (S.P i).s := by rw [hn]; rfl
  have hT : S.T = F.T := R.T
  rw [e1, frees_frL, ← hT]
  have hle : need s - need (S.P i).s ≤ (frL S.T).length := by
    simp only [Fs.fits, decide_eq_true_eq] at hfit
    rw [e1, frees_frL, ← hT] at hfit
    exact hfit
  refine ⟨R.d, rfl, fun j hj => ?_, fun j hj => ?_, fun j hj x => ?_⟩
  · show NdR (updN S.P i _ j) ((F.with_ i _ _ _).P j)
    rw [Fs.with_P]
    by_cases e : j = i
    · subst e
      rw [updN_same, if_pos rfl]
      refine ⟨r.k, r.l, r.h, hc.symm, hb, hz, fun k hk => ?_⟩
      dsimp only at hk ⊢
      rw [getD_append_nat]
      rw [List.length_append, List.length_take, hn] at hk
      rw [hn]
      split
      · rename_i q
        rw [h2 k q]; exact r.B k (by omega)
      · rename_i q
        obtain ⟨k', rfl⟩ : ∃ k', k = need (S.P j).s + k' := ⟨k - need (S.P j).s, by omega⟩
        rw [Nat.add_sub_cancel_left, getD_take_nat _ _ _ (by omega)]
        exact h1 k' (by omega)
    · rw [updN_ne _ _ _ _ e, if_neg e]
      exact R.P j hj
  · have eQ : ((F.with_ i c' ((F.P i).B ++ (frL S.T).take (need s - need (S.P i).s)) (fun b => if b ∈ (frL S.T).take (need s - need (S.P i).s) then true else S.T b)).P j).Q = (F.P j).Q := by
      rw [Fs.with_P]
      split
      · rename_i e; rw [e]
      · rfl
    rw [eQ]; exact R.L j hj
  · have eQ : ((F.with_ i c' ((F.P i).B ++ (frL S.T).take (need s - need (S.P i).s)) (fun b => if b ∈ (frL S.T).take (need s - need (S.P i).s) then true else S.T b)).P j).Q = (F.P j).Q := by
      rw [Fs.with_P]
      split
      · rename_i e; rw [e]
      · rfl
    rw [eQ]; exact R.N j hj x

/-- What grow leaves. -/
def Grw (w : World) (p i : Nat) (S : Sg) (s : Nat) (w' : World) : Prop := ∃ B', Sy w' p (S.bl i { S.P i with B := B', s := s } (mkT S.T ((frL S.T).take (need s - need (S.P i).s)))) ∧
  (∀ j, j < need s - need (S.P i).s → B'.getD (need (S.P i).s + j) 0 = (((frL S.T).getD j 0 : Nat) : Int)) ∧ (∀ j, j < need (S.P i).s → B'.getD j 0 = (S.P i).B.getD j 0) ∧ Upd (· = p) w w'
theorem grow_all (p : Nat) (S : Sg) (w : World) (H : Sy w p S) (hT0 : S.T 0 = false) (i : Nat) (hi : i < 17) (size : Nat) (hz : size ≤ 96) :
    Calls Tryz.prog 118 #[.pointer (some ⟨p, 0, none⟩), .pointer (some ⟨p, 1 + i * 107, none⟩), .int .i64 (size : Int)] w fun e w' =>
      (¬ need (max (S.P i).s size) - need (S.P i).s ≤ (frL S.T).length ∧ e = .returned (.int .i64 28) ∧ Below w.heap.size w w') ∨
      (need (max (S.P i).s size) - need (S.P i).s ≤ (frL S.T).length ∧ e = .returned (.int .i64 0) ∧ Grw w p i S (max (S.P i).s size) w') := by
  by_cases h : (S.P i).s < size
  · rw [Nat.max_eq_right (Nat.le_of_lt h)]
    exact grow_gen p S w H hT0 i hi size h hz
  · rw [Nat.max_eq_left (by omega), Nat.sub_self]
    have e := S.bl_self i
    refine (grow_same p S w i hi (S.P i) S.T (by rw [e]; exact H) size (by omega)).mono ?_
    rintro e' w' ⟨rfl, rfl⟩
    refine .inr ⟨Nat.zero_le _, rfl, (S.P i).B, ?_, fun j hj => by omega, fun _ _ => rfl, Upd.refl _ _⟩
    have : mkT S.T ((frL S.T).take (need (S.P i).s - need (S.P i).s)) = S.T := by funext x; simp [mkT]
    rw [this]
    rw [show (S.bl i { S.P i with B := (S.P i).B, s := (S.P i).s } S.T) = S from e]
    exact H

end Go.Proofs.YtoknhcjneliboaaGreat

/- What Write does to any system. -/
namespace Go.Proofs.YtoknhcjneliboaaGreat
open Go.RowKit Go.ChangeMaps Go.MapKept
set_option linter.unusedVariables false
set_option maxRecDepth 20000

theorem getD_app2 (a b : List Int) (j : Nat) : (a ++ b).getD j 0 = if j < a.length then a.getD j 0 else b.getD (j - a.length) 0 := by
  rw [List.getD_eq_getElem?_getD, List.getElem?_append]
  split
  · rw [List.getD_eq_getElem?_getD]
  · rw [List.getD_eq_getElem?_getD]
theorem getD_drop2 (a : List Int) (n j : Nat) : (a.drop n).getD j 0 = a.getD (n + j) 0 := by
  rw [List.getD_eq_getElem?_getD, List.getD_eq_getElem?_getD, List.getElem?_drop]
/-- Bytes that are laid over a row's: what the file has then. -/
theorem lay_row {b c zs : List Int} {off : Nat} (hb : b.length = 96) (hc : b.take c.length = c) (hz : ∀ j, c.length ≤ j → b.getD j 0 = 0) (hf : off + zs.length ≤ 96) (hcl : c.length ≤ 96) :
    (splice b off zs).take (max c.length (off + zs.length)) = Fs.lay c off zs ∧ ∀ j, max c.length (off + zs.length) ≤ j → (splice b off zs).getD j 0 = 0 := by
  have hsl : (splice b off zs).length = 96 := by rw [length_splice _ _ _ (by omega), hb]
  have hin : ∀ j, off ≤ j → j < off + zs.length → (splice b off zs).getD j 0 = zs.getD (j - off) 0 := fun j h1 h2 => by
    have := getD_splice_in b zs off (j - off) (by omega) (by omega)
    rwa [show off + (j - off) = j by omega] at this
  have hout : ∀ j, j < off ∨ off + zs.length ≤ j → (splice b off zs).getD j 0 = b.getD j 0 := fun j h => getD_splice_out b zs off j (by omega) h
  have hbc : ∀ j, j < c.length → b.getD j 0 = c.getD j 0 := fun j h => take_getD hc (by omega) j h
  refine ⟨ext_getD (by rw [List.length_take, hsl, lay_len]; omega) (fun j hj => ?_), fun j hj => ?_⟩
  · rw [List.length_take, hsl] at hj
    rw [getD_take _ _ _ (by omega)]
    unfold Fs.lay
    have l1 : ((c ++ List.replicate (off + zs.length - c.length) (0 : Int)).take off).length = off := by simp; omega
    rw [getD_app2, getD_app2]
    by_cases h1 : j < off
    · rw [if_pos (by rw [List.length_append, l1]; omega), if_pos (by rw [l1]; exact h1), getD_take _ _ _ h1, getD_app, hout j (.inl h1)]
      by_cases h2 : j < c.length
      · rw [if_pos h2]; exact hbc j h2
      · rw [if_neg h2]; exact hz j (by omega)
    · by_cases h2 : j < off + zs.length
      · rw [if_pos (by rw [List.length_append, l1]; omega), if_neg (by rw [l1]; exact h1), l1]
        exact hin j (by omega) h2
      · rw [if_neg (by rw [List.length_append, l1]; omega), List.length_append, l1, getD_drop2, show off + zs.length + (j - (off + zs.length)) = j by omega, hout j (.inr (by omega))]
        by_cases h3 : j < c.length
        · exact hbc j h3
        · omega
  · rw [hout j (.inr (by omega))]
    exact hz j (by omega)

set_option maxHeartbeats 4000000 in
theorem write_gen (p : Nat) (S : Sg) (w : World) (H : Sy w p S) (hT0 : S.T 0 = false) (i : Nat) (h1 : 1 ≤ i) (hi : i < 17) (hk : (S.P i).k = 1) (hs96 : (S.P i).s ≤ 96) (off len c : Nat) (a : Option Addr) (zs : List Int) (hsrc : Src w a len zs) (ha : ∀ b o, a = some ⟨b, o, none⟩ → b ≠ p) (h0 : 0 < len) (hz : off + len ≤ 96)
    (hfit : need (max (S.P i).s (off + len)) - need (S.P i).s ≤ (frL S.T).length) :
    Calls Tryz.prog 220 #[.pointer (some ⟨p, 0, none⟩), .int .i64 (i : Int), .int .i64 (off : Int), .slice a len c] w fun e w' => e = .returned (.tuple #[.int .i64 (len : Int), .int .i64 0]) ∧
      ∃ B', Sy w' p (S.bl i { S.P i with B := B', s := max (S.P i).s (off + len), b := splice (S.P i).b off zs } (mkT S.T ((frL S.T).take (need (max (S.P i).s (off + len)) - need (S.P i).s)))) ∧
        (∀ j, j < need (max (S.P i).s (off + len)) - need (S.P i).s → B'.getD (need (S.P i).s + j) 0 = (((frL S.T).getD j 0 : Nat) : Int)) ∧ (∀ j, j < need (S.P i).s → B'.getD j 0 = (S.P i).B.getD j 0) ∧ Upd (· = p) w w' := by
  obtain ⟨ab, ao, rfl, hlt, hcell⟩ := hsrc.2 h0
  have hap := ha ab ao rfl
  have hzl := hsrc.1
  obtain ⟨M, gM⟩ : ∃ M, M = max (S.P i).s (off + len) := ⟨_, rfl⟩
  obtain ⟨TM, gT⟩ : ∃ TM, TM = mkT S.T ((frL S.T).take (need (max (S.P i).s (off + len)) - need (S.P i).s)) := ⟨_, rfl⟩
  rw [← gT]
  have k1 := hid (file_yes p S w H i h1 hi hk)
  have k2 : Hid (Calls Tryz.prog 118 #[.pointer (some ⟨p, 0, none⟩), .pointer (some ⟨p, 1 + i * 107, none⟩), .int .i64 ((off : Int) + (len : Int))] w fun e w' => e = .returned (.int .i64 0) ∧ Hid (∃ B' C, Sy w' p (S.bl i { S.P i with B := B', s := M } TM) ∧ ((∀ j, j < need M - need (S.P i).s → B'.getD (need (S.P i).s + j) 0 = (((frL S.T).getD j 0 : Nat) : Int)) ∧ (∀ j, j < need (S.P i).s → B'.getD j 0 = (S.P i).B.getD j 0)) ∧ Upd (· = p) w w' ∧ w'.heap[p]? = some (.cells (List.toArray C) 103 (0, 0)) ∧ Sls C (S.bl i { S.P i with B := B', s := M } TM).d (S.bl i { S.P i with B := B', s := M } TM).P (S.bl i { S.P i with B := B', s := M } TM).T)) := by
    have := grow_all p S w H hT0 i hi (off + len) hz
    rw [show ((off + len : Nat) : Int) = (off : Int) + (len : Int) by omega] at this
    refine hid (this.mono ?_)
    rintro e w' (⟨h, _⟩ | ⟨_, rfl, B', q1, q2, q3, u⟩)
    · exact absurd hfit h
    · rw [← gT, ← gM] at q1
      rw [← gM] at q2
      obtain ⟨C, q5, q4⟩ := q1.blk
      exact ⟨rfl, hid ⟨B', C, q1, ⟨q2, q3⟩, u, q5, q4⟩⟩
  have GM := hid gM
  have a1 : ¬ (off : Int) < 0 := by omega
  have a2 : ¬ (len : Int) = 0 := by omega
  have a3 : ¬ (96 : Int) < (off : Int) := by omega
  have a4 : ¬ (96 : Int) - (off : Int) < (len : Int) := by omega
  have a5 : IntKind.i64.wrap ((off : Int) + (len : Int)) = (off : Int) + (len : Int) := by rw [IntKind.wrap_i64]; omega
  have a6 : IntKind.i64.wrap ((96 : Int) - (off : Int)) = (96 : Int) - (off : Int) := by rw [IntKind.wrap_i64]; omega
  have a7 : (off : Int) ≤ 96 := by omega
  have a8 : (0 : Int) ≤ (off : Int) := by omega
  have HX := hid (And.intro hsrc (And.intro hap hcell))
  clear H hsrc ha hk hcell hap gM gT hfit hT0
  go_enter Tryz.func220, Tryz.ntmps220
  go_wp2_with fail
  refine k1.out.mono ?_
  rintro e w1 ⟨rfl, rfl⟩
  clear k1
  go_wp2_with fail
  refine k2.out.mono ?_
  rintro e w2 ⟨rfl, H2⟩
  clear k2
  obtain ⟨B', C, q1, q2, u, q3, q4⟩ := H2.out
  have hfit : 1 + i * 107 + 4 + off + len ≤ C.length := by rw [q4.len]; omega
  have HQ := hid (And.intro q1 (And.intro q2 (And.intro u (And.intro q3 q4))))
  have HF := hid hfit
  clear q1 q2 u q3 q4 hfit H2
  go_wp2_with (refine wpList_copy2 rfl (.tmp 50) (.tmp 51) 30 30 rfl 5 1 Tryz.underlying30 csize5 _ _ _ ⟨ab, ao, none⟩ len c rfl rfl len p (1 + i * 107 + 4 + off) ?_ ?_ C 103 HQ.out.2.2.2.1 (zs.map (Value.int .u8)) (by simp [hzl]) ?_ (by have := HF.out; simp [hzl]; omega) (fun v hv => by obtain ⟨z, _, rfl⟩ := List.mem_map.1 hv; rfl) ?_)
  case refine_1 => exact (Nat.min_eq_left (by omega)).symm
  case refine_2 => rfl
  case refine_3 =>
    intro j v hv
    obtain ⟨_, hap, hcell⟩ := HX.out
    have hj : j < len := by
      rcases Nat.lt_or_ge j len with h | h
      · exact h
      · rw [List.getElem?_eq_none (by simp; omega)] at hv; simp at hv
    rw [List.getElem?_map, List.getElem?_eq_getElem (by omega)] at hv
    simp only [Option.map_some, Option.some.injEq] at hv
    have := (World.cell?_of_block (a := ⟨ab, ao + j, none⟩) (HQ.out.2.2.1.block ab hlt hap)).trans (hcell j hj)
    rw [List.getD_eq_getElem?_getD, List.getElem?_eq_getElem (by omega)] at this
    rw [← hv, Addr.add_lit]
    exact this
  intro w3 hh u3
  have hS3 : Sy w3 p _ := HQ.out.1.over i hi C HQ.out.2.2.2.1 HQ.out.2.2.2.2 off zs (by omega) (by rw [show 1 + i * 107 + (4 + off) = 1 + i * 107 + 4 + off by omega]; exact hh.out) u3
  have e3 : (S.bl i { S.P i with B := B', s := M } TM).at_ i (((S.bl i { S.P i with B := B', s := M } TM).P i).over off zs) = S.bl i { S.P i with B := B', s := M, b := splice (S.P i).b off zs } TM := by
    rw [show (S.bl i { S.P i with B := B', s := M } TM).P i = { S.P i with B := B', s := M } from updN_same _ _ _]
    unfold Sg.bl Sg.at_ Nd.over
    congr 1
    funext j
    by_cases e : j = i <;> simp [updN, e]
  rw [e3] at hS3
  have H3 : Hid (Sy w3 p (S.bl i { S.P i with B := B', s := M, b := splice (S.P i).b off zs } TM) ∧ Upd (· = p) w1 w3) := hid ⟨hS3, HQ.out.2.2.1.trans u3 (fun _ _ h => h)⟩
  have HB := hid HQ.out.2.1
  clear hS3 e3 hh u3 HQ HF
  go_wp2_with fail
  go_ret2
  refine ⟨rfl, B', ?_, ?_, HB.out.2, H3.out.2⟩
  · rw [← GM.out]; exact H3.out.1
  · rw [← GM.out]; exact HB.out.1

end Go.Proofs.YtoknhcjneliboaaGreat

/- What Write does to any system, its errors too. -/
namespace Go.Proofs.YtoknhcjneliboaaGreat
open Go.RowKit Go.ChangeMaps Go.MapKept
set_option linter.unusedVariables false
set_option maxRecDepth 20000

set_option maxHeartbeats 2000000 in
theorem write_err (p : Nat) (S : Sg) (F : Fs) (w : World) (H : Sy w p S) (R : Rel S F) (n off : Int) (a : Option Addr) (len c : Nat) (E : Int) (hE : ¬ E = 0) (he : F.file n = E) :
    Calls Tryz.prog 220 #[.pointer (some ⟨p, 0, none⟩), .int .i64 n, .int .i64 off, .slice a len c] w fun e w' => e = .returned (.tuple #[.int .i64 0, .int .i64 E]) ∧ w' = w := by
  have k0 := hid (file_no p S F w H R n (by rw [he]; exact hE))
  rw [he] at k0
  clear H R he
  go_enter Tryz.func220, Tryz.ntmps220
  go_wp2_with fail
  refine k0.out.mono ?_
  rintro e w1 ⟨rfl, rfl⟩
  clear k0
  go_wp2_with fail
  go_ret2
  exact ⟨rfl, rfl⟩

set_option maxHeartbeats 4000000 in
theorem write_no (p : Nat) (S : Sg) (w : World) (H : Sy w p S) (hT0 : S.T 0 = false) (i : Nat) (h1 : 1 ≤ i) (hi : i < 17) (hk : (S.P i).k = 1) (off : Int) (a : Option Addr) (len c : Nat) (E : Int)
    (he : (off < 0 ∧ E = 22) ∨ (0 ≤ off ∧ len = 0 ∧ E = 0) ∨ (0 ≤ off ∧ 0 < len ∧ 96 < off + (len : Int) ∧ E = 27) ∨ (0 ≤ off ∧ 0 < len ∧ off + (len : Int) ≤ 96 ∧ ¬ need (max (S.P i).s (off.toNat + len)) - need (S.P i).s ≤ (frL S.T).length ∧ E = 28)) :
    Calls Tryz.prog 220 #[.pointer (some ⟨p, 0, none⟩), .int .i64 (i : Int), .int .i64 off, .slice a len c] w fun e w' => e = .returned (.tuple #[.int .i64 0, .int .i64 E]) ∧ Below w.heap.size w w' := by
  have k1 := hid (file_yes p S w H i h1 hi hk)
  rcases he with ⟨ho, rfl⟩ | ⟨ho, rfl, rfl⟩ | ⟨ho, hl, h96, rfl⟩ | ⟨ho, hl, h96, hf, rfl⟩
  · clear H
    go_enter Tryz.func220, Tryz.ntmps220
    go_wp2_with fail
    refine k1.out.mono ?_
    rintro e w1 ⟨rfl, rfl⟩
    clear k1
    go_wp2_with fail
    go_ret2
    exact ⟨rfl, Below.refl _ _⟩
  · have a1 : ¬ off < 0 := by omega
    clear H
    go_enter Tryz.func220, Tryz.ntmps220
    go_wp2_with fail
    refine k1.out.mono ?_
    rintro e w1 ⟨rfl, rfl⟩
    clear k1
    go_wp2_with fail
    go_ret2
    exact ⟨rfl, Below.refl _ _⟩
  · have a1 : ¬ off < 0 := by omega
    have a2 : ¬ (len : Int) = 0 := by omega
    clear H
    by_cases h2 : 96 < off
    · go_enter Tryz.func220, Tryz.ntmps220
      go_wp2_with fail
      refine k1.out.mono ?_
      rintro e w1 ⟨rfl, rfl⟩
      clear k1
      go_wp2_with fail
      go_ret2
      exact ⟨rfl, Below.refl _ _⟩
    · have a4 : (96 : Int) - off < (len : Int) := by omega
      have a6 : IntKind.i64.wrap ((96 : Int) - off) = (96 : Int) - off := by rw [IntKind.wrap_i64]; omega
      have a7 : off ≤ 96 := by omega
      go_enter Tryz.func220, Tryz.ntmps220
      go_wp2_with fail
      refine k1.out.mono ?_
      rintro e w1 ⟨rfl, rfl⟩
      clear k1
      go_wp2_with fail
      go_ret2
      exact ⟨rfl, Below.refl _ _⟩
  · obtain ⟨o, rfl⟩ : ∃ o : Nat, off = (o : Int) := ⟨off.toNat, by omega⟩
    have a1 : ¬ (o : Int) < 0 := by omega
    have a2 : ¬ (len : Int) = 0 := by omega
    have a3 : ¬ (96 : Int) < (o : Int) := by omega
    have a4 : ¬ (96 : Int) - (o : Int) < (len : Int) := by omega
    have a5 : IntKind.i64.wrap ((o : Int) + (len : Int)) = (o : Int) + (len : Int) := by rw [IntKind.wrap_i64]; omega
    have a6 : IntKind.i64.wrap ((96 : Int) - (o : Int)) = (96 : Int) - (o : Int) := by rw [IntKind.wrap_i64]; omega
    have a7 : (o : Int) ≤ 96 := by omega
    have a8 : (0 : Int) ≤ (o : Int) := by omega
    have k2 : Hid (Calls Tryz.prog 118 #[.pointer (some ⟨p, 0, none⟩), .pointer (some ⟨p, 1 + i * 107, none⟩), .int .i64 ((o : Int) + (len : Int))] w fun e w' => e = .returned (.int .i64 28) ∧ Below w.heap.size w w') := by
      have := grow_all p S w H hT0 i hi (o + len) (by omega)
      rw [show ((o + len : Nat) : Int) = (o : Int) + (len : Int) by omega] at this
      refine hid (this.mono ?_)
      rintro e w' (⟨_, rfl, h⟩ | ⟨h, _⟩)
      · exact ⟨rfl, h⟩
      · exact absurd h (by simpa using hf)
    clear H hf
    go_enter Tryz.func220, Tryz.ntmps220
    go_wp2_with fail
    refine k1.out.mono ?_
    rintro e w1 ⟨rfl, rfl⟩
    clear k1
    go_wp2_with fail
    refine k2.out.mono ?_
    rintro e w2 ⟨rfl, hb⟩
    have HB := hid hb
    clear k2 hb
    go_wp2_with fail
    go_ret2
    exact ⟨rfl, HB.out⟩

theorem fits_rel {S : Sg} {F : Fs} (R : Rel S F) (H : FOk F) (i : Nat) (hi : i < 17) (s : Nat) : F.fits i s = decide (need s - need (S.P i).s ≤ (frL S.T).length) := by
  unfold Fs.fits
  rw [H.B i, frees_frL, ← R.T, (R.P i hi).s]
  rfl

theorem foot_bl {S : Sg} {p i : Nat} {x : Nd} {T : Nat → Bool} (hm : x.m = (S.P i).m) (b : Nat) (h : (S.bl i x T).foot p b) : S.foot p b := by
  rcases h with h | ⟨j, hj, h⟩
  · exact .inl h
  · refine .inr ⟨j, hj, ?_⟩
    rw [← h]
    show _ = (updN S.P i x j).m
    by_cases e : j = i
    · subst e; rw [updN_same, hm]
    · rw [updN_ne _ _ _ _ e]

theorem pwrite (p : Nat) (F : Fs) (G : Nat → Prop) (w : World) (H : Pf w p F G) (hF : FOk F) (n off : Int) (a : Option Addr) (len c : Nat) (zs : List Int) (hsrc : Src w a len zs) (ha : ∀ b o, a = some ⟨b, o, none⟩ → ¬ G b) :
    Calls Tryz.prog 220 #[.pointer (some ⟨p, 0, none⟩), .int .i64 n, .int .i64 off, .slice a len c] w fun e w' => e = .returned (.tuple #[.int .i64 (F.write n off zs).2.1, .int .i64 (F.write n off zs).2.2]) ∧ PfTo w p (F.write n off zs).1 G w' := by
  have HP := H
  obtain ⟨S, HS, R, hG⟩ := H
  have hzl := hsrc.1
  by_cases hf : F.file n ≠ 0
  · have e : F.write n off zs = (F, 0, F.file n) := by unfold Fs.write; rw [if_pos hf]
    rw [e]
    refine (write_err p S F w HS R n off a len c _ hf rfl).mono ?_
    rintro e w' ⟨rfl, rfl⟩
    exact ⟨rfl, PfTo.same HP (Below.refl _ _)⟩
  have hf0 := Decidable.not_not.1 hf
  obtain ⟨fk, f1, f2⟩ := Fs.file_ok hF hf0
  obtain ⟨i, rfl⟩ : ∃ i : Nat, n = (i : Int) := ⟨n.toNat, by omega⟩
  have hi : i < 17 := by omega
  have fk : (F.P i).k = 1 := fk
  have r := R.P i hi
  have hk : (S.P i).k = 1 := r.k.trans fk
  have hT0 : S.T 0 = false := by rw [R.T]; exact hF.T0
  have hno := fun E h => write_no p S w HS hT0 i (by omega) hi hk off a len c E h
  by_cases ho : off < 0
  · have e : F.write (i : Int) off zs = (F, 0, 22) := by unfold Fs.write; rw [if_neg hf, if_pos ho]
    rw [e]
    refine (hno 22 (.inl ⟨ho, rfl⟩)).mono ?_
    rintro e w' ⟨rfl, h⟩
    exact ⟨rfl, PfTo.same HP h⟩
  by_cases hl : zs = []
  · have e : F.write (i : Int) off zs = (F, 0, 0) := by unfold Fs.write; rw [if_neg hf, if_neg ho, if_pos hl]
    rw [e]
    refine (hno 0 (.inr (.inl ⟨by omega, by rw [← hzl, hl]; rfl, rfl⟩))).mono ?_
    rintro e w' ⟨rfl, h⟩
    exact ⟨rfl, PfTo.same HP h⟩
  have hl0 : 0 < len := by
    rcases Nat.eq_zero_or_pos len with q | q
    · exact absurd (List.eq_nil_of_length_eq_zero (by omega)) hl
    · exact q
  by_cases h96 : 96 < off + (zs.length : Int)
  · have e : F.write (i : Int) off zs = (F, 0, 27) := by unfold Fs.write; rw [if_neg hf, if_neg ho, if_neg hl, if_pos h96]
    rw [e]
    refine (hno 27 (.inr (.inr (.inl ⟨by omega, hl0, by omega, rfl⟩)))).mono ?_
    rintro e w' ⟨rfl, h⟩
    exact ⟨rfl, PfTo.same HP h⟩
  have hfr := fits_rel R hF i hi (max (F.P i).c.length (off.toNat + zs.length))
  by_cases hfit : F.fits i (max (F.P i).c.length (off.toNat + zs.length)) = false
  · have e : F.write (i : Int) off zs = (F, 0, 28) := by
      unfold Fs.write; rw [if_neg hf, if_neg ho, if_neg hl, if_neg h96]; exact if_pos hfit
    rw [e]
    refine (hno 28 (.inr (.inr (.inr ⟨by omega, hl0, by omega, ?_, rfl⟩)))).mono ?_
    · rw [hfit] at hfr
      have := of_decide_eq_false hfr.symm
      rw [r.s, ← hzl]
      rw [r.s] at this
      exact this
    · rintro e w' ⟨rfl, h⟩
      exact ⟨rfl, PfTo.same HP h⟩
  · obtain ⟨o, rfl⟩ : ∃ o : Nat, off = (o : Int) := ⟨off.toNat, by omega⟩
    have e : F.write (i : Int) (o : Int) zs = ((F.grow i (max (F.P i).c.length (o + zs.length))).ct i (Fs.lay (F.P i).c o zs), (zs.length : Int), 0) := by
      unfold Fs.write; rw [if_neg hf, if_neg ho, if_neg hl, if_neg h96]; exact if_neg hfit
    rw [e]
    have hfit' : F.fits i (max (F.P i).c.length (o + zs.length)) = true := by simpa using hfit
    have hfr' := hfr
    rw [show (o : Int).toNat = o from rfl, hfit'] at hfr'
    have hle := of_decide_eq_true hfr'.symm
    have hc := hF.c i
    refine (write_gen p S w HS hT0 i (by omega) hi hk (by rw [r.s]; exact hc.1) o len c a zs hsrc (fun b q hq e => ha b q hq (by rw [e]; exact hG p (.inl rfl))) hl0 (by omega) (by rw [r.s, ← hzl]; rw [r.s] at hle; exact hle)).mono ?_
    rintro e w' ⟨rfl, B', q1, q2, q3, u⟩
    refine ⟨by rw [hzl], ?_⟩
    obtain ⟨y1, y2⟩ := lay_row (b := (S.P i).b) (c := (F.P i).c) (zs := zs) (off := o) (HS.ok i hi).b (by rw [← r.s]; exact r.b) (by rw [← r.s]; exact r.z) (by omega) hc.1
    have hM : max (S.P i).s (o + len) = max (F.P i).c.length (o + zs.length) := by rw [r.s, hzl]
    rw [hM] at q1 q2
    exact Into.to ⟨_, q1, R.grown hF i hi _ (by omega) B' _ _ y1 y2 (lay_len _ _ _) hfit' q2 q3, fun x hx => foot_bl (S := S) (x := { S.P i with B := B', s := max (F.P i).c.length (o + zs.length), b := splice (S.P i).b o zs }) rfl x hx, upd_p u⟩ hG

end Go.Proofs.YtoknhcjneliboaaGreat
