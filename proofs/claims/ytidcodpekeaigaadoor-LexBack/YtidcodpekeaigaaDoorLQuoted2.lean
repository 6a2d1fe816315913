/- The scanner takes a text: the walk. -/
import Derived.Test.YtidcodpekeaigaaDoorLQuoted
namespace Go.Proofs.YtidcodpekeaigaaDoor
open Go.RowKit
set_option linter.unusedVariables false

set_option maxHeartbeats 4000000 in
theorem quoted_good (p i : Nat) (s : ByteArray) (l : List Tok) (w : World) (h : Sk w p s i l) (hi : i < s.size) (hs : s.size ≤ 4000) (hn : l.length ≤ 4000) (hb : bt s (pass inTx s (i + 1)) = 34) :
    Calls Tryd.prog 24 #[.pointer (some ⟨p, 0, none⟩)] w fun e w' => e = .returned (.tuple #[]) ∧ Sk w' p s (pass inTx s (i + 1) + 1) (l ++ [⟨3, i, s.extract (i + 1) (pass inTx s (i + 1)), 0⟩]) ∧ Below p w w' := by
  obtain ⟨v, hc, ho⟩ := h
  have k1 := hid (passw_any p i (i + 1) 36 inTx tells_text s v w hc hi hs)
  have hpl := pass_le (f := inTx) (s := s) (i := i + 1) hi
  have hpg := pass_ge inTx s (i + 1)
  obtain ⟨E, gE⟩ : ∃ E, E = pass inTx s (i + 1) := ⟨_, rfl⟩
  rw [← gE] at k1 hb hpl hpg ⊢
  have k2 := hid (byteat_any p i E s v w hc (by omega))
  rw [hb] at k2
  have k1' : Hid (Calls Tryd.prog 21 #[.pointer (some ⟨p, 0, none⟩), .int .i64 ((i : Int) + 1), .func (.func 36) #[] #[]] w fun e w' => e = .returned (.int .i64 E) ∧ w' = w) := k1
  have c5 : IntKind.i64.wrap ((i : Int) + 1) = (i : Int) + 1 := by rw [IntKind.wrap_i64]; omega
  have c6 : IntKind.i64.wrap ((E : Int) + 1) = (E : Int) + 1 := by rw [IntKind.wrap_i64]; omega
  have c7 : wrap64 ((i : Int) + 1) = (i : Int) + 1 := by unfold wrap64; omega
  have c8 : wrap64 ((E : Int) + 1) = (E : Int) + 1 := by unfold wrap64; omega
  obtain ⟨a, c, wz, hz1, hz2, hz3⟩ := tok_append w p v l ⟨3, i, s.extract (i + 1) E, 0⟩ hc.lt ho hn
  obtain ⟨a0, c0, rfl, _, _⟩ := own_shape ho
  have q0 := hc.tx
  have q1 := hc.pl
  have q2 := hc.tk
  have qz := hc.upd hz3 (by omega)
  have z0 := qz.tk
  have z1 := qz.fz 2
  have qy := qz.setTk (.slice a (l.length + 1) c)
  have y0 := qy.pl
  have y1 := qy.fz 1
  have HF := hc.taken hz2 hz3 (E + 1)
  rw [show (((E + 1 : Nat)) : Int) = (E : Int) + 1 by omega] at HF
  have HF := hid HF
  have hlt := hc.lt
  obtain ⟨X, gX⟩ : ∃ X, X = s.extract (i + 1) E := ⟨_, rfl⟩
  rw [← gX] at hz1 HF ⊢
  have q3 : (w.alloc (.cells #[.int .i64 3, .int .i64 i, .string X, .int .i64 0] 33)).cell? ⟨p, 2, none⟩ = some (.slice a0 l.length c0) := by rw [World.cell?_alloc_past _ _ _ hlt]; exact q2
  have hz1 : (Builtin.append_ #[22, 22] 22 #[.slice a0 l.length c0, .slice (some ⟨w.heap.size, 0, none⟩) 1 1]).run Tryd.prog (w.alloc (.cells #[.int .i64 3, .int .i64 i, .string X, .int .i64 0] 33)).drew = .ok (.slice a (l.length + 1) c) wz := hz1
  have hsl : ∀ W : World, (Instr.slice 9 (.string s) (some (.int .i64 ((i : Int) + 1))) (some (.int .i64 E)) none).run Tryd.prog W = .ok (.string X) W := fun W => by
    rw [run_slice_string W 9 s .i64 .i64 ((i : Int) + 1) E Tryd.underlying9 (by omega) (by omega) (by omega), gX]; rfl
  clear hz2 hz3 qz qy ho hc gX hn hs hlt hb gE k1 hpl hpg hi
  go_enter Tryd.func24, Tryd.ntmps24
  go_wp2_with fail
  refine k1'.out.mono ?_
  rintro e w1 ⟨rfl, rfl⟩
  go_wp2_with fail
  refine k2.out.mono ?_
  rintro e w1 ⟨rfl, rfl⟩
  go_wp2_with fail
  go_region_law (refine step_append_is (by rfl) _ _ 22 22 (by rfl) _ _ (by simp [Act.eval]) (by simp [Act.eval]) hz1 ?_)
  all_goals go_wp2_with fail
  all_goals
    go_end0
    exact ⟨rfl, HF.out⟩

theorem quoted_any (p i : Nat) (s : ByteArray) (l : List Tok) (w : World) (h : Sk w p s i l) (hi : i < s.size) (hs : s.size ≤ 4000) (hn : l.length ≤ 4000) :
    Calls Tryd.prog 24 #[.pointer (some ⟨p, 0, none⟩)] w (Ends w p s l (txtP s i)) := by
  by_cases hb : bt s (pass inTx s (i + 1)) = 34
  · unfold txtP
    rw [if_pos hb]
    exact quoted_good p i s l w h hi hs hn hb
  · unfold txtP
    rw [if_neg hb]
    exact quoted_bad p i s l w h hi hs hb

end Go.Proofs.YtidcodpekeaigaaDoor
