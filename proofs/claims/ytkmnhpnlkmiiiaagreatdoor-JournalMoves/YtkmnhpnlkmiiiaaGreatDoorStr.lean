/- Laws for texts: 'append(b, s...)' of a text within the capacity; the bytes of a text as numbers. -/
import Derived.Test.YtkmnhpnlkmiiiaaGreatDoorLaw
import Derived.Test.YtkmnhpnlkmiiiaaGreatDoorDec
import Derived.Deep.AppendSrc
import Derived.Laws.BytesArg
namespace Go.Proofs.YtkmnhpnlkmiiiaaGreatDoor
open Go.RowKit Num
set_option maxRecDepth 20000

/-- The bytes of a text, as numbers. -/
def str (s : ByteArray) : List Int := s.data.toList.map fun b => (b.toNat : Int)
theorem str_len (s : ByteArray) : (str s).length = s.size := by
  unfold str
  rw [List.length_map, Array.length_toList]
  rfl
theorem str_bytes (s : ByteArray) : Bytes (str s) := by
  intro z hz
  obtain ⟨b, _, rfl⟩ := List.mem_map.1 hz
  have := b.toNat_lt
  omega
theorem str_cells (s : ByteArray) : byteCells s = (str s).map (Value.int .u8) := by
  unfold str byteCells
  rw [List.map_map]
  rfl
theorem str_back (s : ByteArray) : strOfNums (str s) = s := by
  apply ByteArray.ext
  unfold strOfNums str
  rw [List.map_map]
  have : (fun n : Int => UInt8.ofNat n.toNat) ∘ (fun b : UInt8 => (b.toNat : Int)) = id := by
    funext b
    simp
  rw [this, List.map_id]

/-- 'append(out, s...)' of a text, within the capacity. -/
theorem wpList_append_fits_str {P : Program} (w : World) {ops : Array Oper} {rest : List Oper} {o : Oper} {a : Act} {Q : Exit → Act → World → Prop}
    (hg : o.guard = none) (s x : Operand) (t tx : TypeId) (hop : o.op = Op.call { callee := Callee.builtin Builtin.append, args := #[s, x], argTypes := #[t, tx] })
    (base : Nat) (e : TypeId) (i : TypeInfo) (h1 : P.underlying t = some (.slice e)) (hx : P.underlying tx = some .string) (h2 : P.info? e = some i) (h4 : i.size = 1)
    (g k cap : Nat) (xs : List Value) (hs : a.eval s = .slice (some ⟨g, 0, none⟩) k cap) (hown : w.ownsRow base e 1 (.slice (some ⟨g, 0, none⟩) k cap) k xs) (S : ByteArray) (hS : a.eval x = .string S) (b1 : k + S.size ≤ cap)
    (hK : ∀ w', w'.ownsRow base e 1 (.slice (some ⟨g, 0, none⟩) (k + S.size) cap) (k + S.size) (xs ++ byteCells S) → w.grownBy w' (some g) → wpList P ops Q rest (a.put o.dst (.slice (some ⟨g, 0, none⟩) (k + S.size) cap)) w') :
    wpList P ops Q (o :: rest) a w := by
  refine wpList_plain hg fun K hK' => ?_
  have hl := byteCells_length S
  obtain ⟨w', hrun, r1, r2⟩ : ∃ w', (Builtin.append_ #[t, tx] o.type #[.slice (some ⟨g, 0, none⟩) k cap, .string S]).run P w = .ok (.slice (some ⟨g, 0, none⟩) (k + S.size) cap) w' ∧
      w'.ownsRow base e 1 (.slice (some ⟨g, 0, none⟩) (k + S.size) cap) (k + S.size) (xs ++ byteCells S) ∧ w.grownBy w' (some g) := by
    rcases hown.2 with ⟨h, _⟩ | ⟨g', cap', cur, h, hbg, hgg, hnc, hcm, hcs, htake⟩
    · simp at h
    · simp only [Value.slice.injEq, Option.some.injEq, Addr.mk.injEq, and_true, true_and] at h
      obtain ⟨rfl, rfl⟩ := h
      have hxl := hown.1
      have hfit : k + (byteCells S).length ≤ cur.size := by rw [hl, hcs]; omega
      have hf : (Builtin.firstCells 1 S.size (.string S)).run P w = .ok (byteCells S).toArray w := firstCells_string S w
      have hst := run_storeCells_at P g k e (byteCells S) 0 cur w hgg (by simpa using hfit) (Go.Src.ofString (P := P) w hx S).one
      simp only [Nat.add_zero] at hst
      have hr : (Builtin.append_ #[t, tx] o.type #[.slice (some ⟨g, 0, none⟩) k cap, .string S]).run P w =
          .ok (.slice (some ⟨g, 0, none⟩) (k + S.size) cap) (w.setRow g (cur.toList.take k ++ byteCells S ++ cur.toList.drop (k + (byteCells S).length)).toArray) := by
        simp [Builtin.append_, run_underlying h1, run_underlying hx, sizeOf, typeInfo, h2, h4, Builtin.lenOf, b1, hf, Addr.add_lit, hst]
      refine ⟨_, hr, ⟨by rw [List.length_append, hxl, hl]; omega, .inr ⟨g, cap, _, rfl, hbg, setRow_heap w g cur _ e _ hgg, b1, hcm, ?_, ?_⟩⟩, ⟨rfl, rfl, rfl, by simp, fun k _ hk => setRow_other w g k _ (fun e => hk (by simp [e]))⟩⟩
      · simp only [List.size_toArray, List.length_append, List.length_take, List.length_drop, Array.length_toList]
        omega
      · rw [Nat.mul_one] at htake
        rw [htake]
        have : (xs ++ byteCells S).length = (k + S.size) * 1 := by rw [List.length_append, hxl, hl]; omega
        rw [← this]
        exact List.take_left
  unfold Oper.wp
  simp [execOp, hop, resolve, invoke, builtin, hs, hS, hrun, Result.andThen]
  exact hK' _ _ (hK w' r1 r2)

end Go.Proofs.YtkmnhpnlkmiiiaaGreatDoor
