/- A law for texts: 'append(b, s...)' of a text onto a row of the call's own, whether it fits or grows. -/
import Derived.Test.YtpbhcmfbcnihiaaGreatStr
namespace Go.Proofs.YtpbhcmfbcnihiaaGreat
open Go.RowKit Num
set_option maxRecDepth 20000

theorem wpList_append_own_str {P : Program} (w : World) {ops : Array Oper} {rest : List Oper} {o : Oper} {a : Act} {Q : Exit → Act → World → Prop}
    (hg : o.guard = none) (s x : Operand) (t tx : TypeId) (hop : o.op = Op.call { callee := Callee.builtin Builtin.append, args := #[s, x], argTypes := #[t, tx] })
    (base : Nat) (e : TypeId) (i : TypeInfo) (z : Value) (h1 : P.underlying t = some (.slice e)) (hx : P.underlying tx = some .string) (h2 : P.info? e = some i) (h3 : i.zero = some z) (h4 : i.size = 1) (h5 : i.bytes = 1) (h6 : z.cells.size = 1)
    (g k cap : Nat) (xs : List Value) (hs : a.eval s = .slice (some ⟨g, 0, none⟩) k cap) (hown : w.ownsRow base e 1 (.slice (some ⟨g, 0, none⟩) k cap) k xs) (S : ByteArray) (hS : a.eval x = .string S) (hb : k + S.size ≤ 140737488355328) (hbase : base ≤ w.heap.size)
    (hK : ∀ g' c' w', w'.ownsRow base e 1 (.slice (some ⟨g', 0, none⟩) (k + S.size) c') (k + S.size) (xs ++ byteCells S) → w.grownBy w' (some g) → wpList P ops Q rest (a.put o.dst (.slice (some ⟨g', 0, none⟩) (k + S.size) c')) w') :
    wpList P ops Q (o :: rest) a w := by
  by_cases hroom : k + S.size ≤ cap
  · exact wpList_append_fits_str w hg s x t tx hop base e i h1 hx h2 h4 g k cap xs hs hown S hS hroom (fun w' => hK g cap w')
  · refine wpList_plain hg fun K hK' => ?_
    have hl := byteCells_length S
    have hxl := hown.1
    have hlen : (xs ++ byteCells S).length = (k + S.size) * 1 := by rw [List.length_append, hxl, hl]; omega
    have holds : ∀ j u, xs[j]? = some u → w.cell? ((⟨g, 0, none⟩ : Addr).add j) = some u := hown.cells (g := g) rfl
    have hold : (Builtin.firstCells i.size k (.slice (some ⟨g, 0, none⟩) k cap)).run P w.drew = .ok xs.toArray w.drew := by
      rw [h4]
      exact run_firstCells_some w.drew 1 k ⟨g, 0, none⟩ k cap xs hxl (by simpa using holds)
    have hsrc : Go.Src P i.size tx (.string S) S.size (byteCells S) w := by rw [h4]; exact Go.Src.ofString w hx S
    have hr := run_append_grow_src (P := P) w t tx o.type e i z h1 h2 h3 (some ⟨g, 0, none⟩) k cap xs hold (.string S) S.size (byteCells S) hsrc (by omega) (by omega) (growslice_fits (by omega) (by rw [h5]; omega))
    have hm63 : k + S.size ≤ maxLen := by unfold maxLen; omega
    have hge := grownCap_ge w (k + S.size) cap e
    have hcm : grownCap w (k + S.size) cap e ≤ maxLen := grownCap_le_maxLen w (k + S.size) cap e hm63
    have hgr : (w.drew.alloc (.cells ((xs ++ byteCells S).toArray ++ Builtin.zeroCells z.cells (grownCap w (k + S.size) cap e - (k + S.size))) e)).ownsRow base e 1 (.slice (some ⟨w.heap.size, 0, none⟩) (k + S.size) (grownCap w (k + S.size) cap e)) (k + S.size) (xs ++ byteCells S) := by
      refine ⟨hlen, .inr ⟨w.heap.size, _, _, rfl, hbase, heap_alloc_new w.drew _, hge, hcm, ?_, ?_⟩⟩
      · simp only [Array.size_append, List.size_toArray, size_zeroCells, h6, hlen]
        omega
      · simp only [Array.toList_append]
        rw [← hlen]
        exact List.take_left
    have hgb : w.grownBy (w.drew.alloc (.cells ((xs ++ byteCells S).toArray ++ Builtin.zeroCells z.cells (grownCap w (k + S.size) cap e - (k + S.size))) e)) (some g) := ⟨rfl, rfl, rfl, by simp, fun q hq _ => Below.heap_alloc w.drew _ q hq⟩
    unfold Oper.wp
    simp only [execOp, hop, resolve, invoke, builtin]
    simp [hs, hS, hr, Result.andThen]
    exact hK' _ _ (hK _ _ _ hgr hgb)

end Go.Proofs.YtpbhcmfbcnihiaaGreat
