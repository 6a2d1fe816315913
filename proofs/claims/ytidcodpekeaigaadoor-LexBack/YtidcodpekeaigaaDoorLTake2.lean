/- The scanner takes a token, or a text: the walks. -/
import Derived.Test.YtidcodpekeaigaaDoorLTake
namespace Go.Proofs.YtidcodpekeaigaaDoor
open Go.RowKit
set_option linter.unusedVariables false

set_option maxHeartbeats 4000000 in
theorem take_any (p i e0 : Nat) (kind : Int) (s : ByteArray) (l : List Tok) (w : World) (h : Sk w p s i l) (h1 : i ≤ e0) (h2 : e0 ≤ s.size) (hs : s.size ≤ 4000) (hn : l.length ≤ 4000) :
    Calls Tryd.prog 23 #[.pointer (some ⟨p, 0, none⟩), .int .i64 kind, .int .i64 e0] w fun e w' => e = .returned (.tuple #[]) ∧ Sk w' p s e0 (l ++ [⟨kind, i, s.extract i e0, 0⟩]) ∧ Below p w w' := by
  obtain ⟨v, hc, ho⟩ := h
  obtain ⟨a, c, wz, hz1, hz2, hz3⟩ := tok_append w p v l ⟨kind, i, s.extract i e0, 0⟩ hc.lt ho hn
  obtain ⟨a0, c0, rfl, _, _⟩ := own_shape ho
  have q0 := hc.tx
  have q1 := hc.pl
  have q2 := hc.tk
  have qz := hc.upd hz3 (by omega)
  have z0 := qz.tk
  have z1 := qz.fz 2
  have qy := qz.setTk (.slice a (l.length + 1) c)
  have y0 := qy.pl
  have y1 := qy.fz 1
  have c1 : (0 : Int) ≤ (i : Int) := by omega
  have c2 : (i : Int) ≤ (e0 : Int) := by omega
  have c3 : (e0 : Int) ≤ (s.size : Int) := by omega
  have HF := hid (hc.taken hz2 hz3 e0)
  have hlt := hc.lt
  obtain ⟨X, gX⟩ : ∃ X, X = s.extract i e0 := ⟨_, rfl⟩
  rw [← gX] at hz1 HF ⊢
  have q3 : (w.alloc (.cells #[.int .i64 kind, .int .i64 i, .string X, .int .i64 0] 33)).cell? ⟨p, 2, none⟩ = some (.slice a0 l.length c0) := by rw [World.cell?_alloc_past _ _ _ hlt]; exact q2
  have hz1 : (Builtin.append_ #[22, 22] 22 #[.slice a0 l.length c0, .slice (some ⟨w.heap.size, 0, none⟩) 1 1]).run Tryd.prog (w.alloc (.cells #[.int .i64 kind, .int .i64 i, .string X, .int .i64 0] 33)).drew = .ok (.slice a (l.length + 1) c) wz := hz1
  have hsl : ∀ W : World, (Instr.slice 9 (.string s) (some (.int .i64 i)) (some (.int .i64 e0)) none).run Tryd.prog W = .ok (.string X) W := fun W => by
    rw [run_slice_string W 9 s .i64 .i64 i e0 Tryd.underlying9 c1 c2 c3, gX]; rfl
  have HL := hid hlt
  clear hz2 hz3 qz qy ho hc gX h1 h2 hn hs c1 c2 c3 hlt
  go_enter Tryd.func23, Tryd.ntmps23
  go_wp2_with fail
  go_region_law (refine step_append_is (by rfl) _ _ 22 22 (by rfl) _ _ (by simp [Act.eval]) (by simp [Act.eval]) hz1 ?_)
  all_goals go_wp2_with fail
  all_goals
    go_end0
    exact ⟨rfl, HF.out⟩

end Go.Proofs.YtidcodpekeaigaaDoor
