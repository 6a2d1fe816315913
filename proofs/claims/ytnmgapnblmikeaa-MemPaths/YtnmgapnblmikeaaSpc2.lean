/- What mem.Space's Out (refused), Bytes and Copy do, and what every call answers of a space that no call made. -/
import Derived.Test.YtnmgapnblmikeaaSpc
namespace Go.Proofs.Ytnmgapnblmikeaa
open Go.RowKit Lend
set_option linter.unusedVariables false

set_option maxHeartbeats 1000000 in
theorem out_no (p n c : Nat) (addr : Int) (a0 : Option Addr) (zs : List Int) (w : World) (h : Spc w p zs) (h0 : -9223372036854775808 ≤ addr) (h1 : addr ≤ 9223372036854775807) (hp : isPart addr n = false) :
    Calls Try.prog 14 #[.pointer (some ⟨p, 0, none⟩), .int .i64 addr, .slice a0 n c] w fun e w' => e = .returned (.int .i64 14) ∧ w' = w := by
  have k1 := hid (usable_yes p w h.head)
  have k2 := hid (ispart_any addr n w h0 h1)
  rw [hp] at k2
  clear h hp
  go_enter Try.func14, Try.ntmps14
  go_wp2_with fail
  refine k1.out.mono ?_
  rintro e w1 ⟨rfl, rfl⟩
  go_wp2_with fail
  refine k2.out.mono ?_
  rintro e w1 ⟨rfl, rfl⟩
  go_wp2_with fail
  go_ret
  exact ⟨rfl, rfl⟩

set_option maxHeartbeats 1000000 in
theorem bytes_any (p : Nat) (zs : List Int) (w : World) (h : Spc w p zs) :
    Calls Try.prog 22 #[.pointer (some ⟨p, 0, none⟩)] w fun e w' => ∃ g c, e = .returned (.slice (some ⟨g, 0, none⟩) 2048 c) ∧
      w'.ownsRow w.heap.size 5 1 (.slice (some ⟨g, 0, none⟩) 2048 c) 2048 (zs.map (Value.int .u8)) ∧ Below w.heap.size w w' := by
  have k1 := hid (usable_yes p w h.head)
  have hs := h.src 0 2048 1 (by omega) (fun _ => rfl)
  rw [List.drop_zero, List.take_of_length_le (by rw [h.len]; exact Nat.le_refl _)] at hs
  have k2 := hid (clone_any ⟨p, 1, none⟩ 2048 2048 zs w hs (by omega))
  clear h hs
  go_enter Try.func22, Try.ntmps22
  go_wp2_with fail
  refine k1.out.mono ?_
  rintro e w1 ⟨rfl, rfl⟩
  go_wp2_with fail
  refine k2.out.mono ?_
  rintro e w2 ⟨g, c, rfl, ho, hb⟩
  have HO := hid ho
  clear ho
  go_wp2_with fail
  go_ret
  exact ⟨g, c, rfl, HO.out, hb⟩

theorem row_oneCell (zs : List Int) : ∀ v ∈ row zs, v.oneCell' = true := by
  intro v hv
  rcases List.mem_cons.1 hv with rfl | hv
  · rfl
  · exact ints_oneCell _ _ v hv

theorem under54b : (Try.prog.underlying 54).map (fun d => match d with | .struct _ => true | _ => false) = some true := by kernel_rfl
theorem under54 : ∃ fs, Try.prog.underlying 54 = some (.struct fs) := by
  obtain ⟨d, hd, h⟩ := Option.map_eq_some_iff.1 under54b
  cases d <;> first | exact ⟨_, hd⟩ | cases h

/-- 'var x T' that escapes, as a step of the walk: a new block; its cells are whatever T's zero has. -/
theorem wpList_alloc_row {P : Program} {ops : Array Oper} {rest : List Oper} {o : Oper} {a : Act} {w : World} {Q : Exit → Act → World → Prop} (hg : o.guard = none) (t : TypeId) (ho : o.op = .alloc t) (Z : Array Value)
    (hz : ∀ w, (zeroValue t).run P w = .ok (.agg Z) w) (h : wpList P ops Q rest (a.put o.dst (.pointer (some ⟨w.heap.size, 0, none⟩))) (w.alloc (.cells Z t))) : wpList P ops Q (o :: rest) a w := by
  refine wpList_plain hg fun K hK => ?_
  unfold Oper.wp
  simp only [execOp, ho, Instr.alloc, Sem.run_bind, hz, Result.andThen_ok, newVar, newRow]
  exact hK _ _ h

set_option maxHeartbeats 1000000 in
theorem mcopy_any (p : Nat) (zs : List Int) (w : World) (h : Spc w p zs) :
    Calls Try.prog 11 #[.pointer (some ⟨p, 0, none⟩)] w fun e w' => e = .returned (.pointer (some ⟨w.heap.size, 0, none⟩)) ∧ Spc w' w.heap.size zs ∧ Below w.heap.size w w' ∧ w'.heap.size = w.heap.size + 1 := by
  have k1 := hid (usable_yes p w h.head)
  obtain ⟨hz, hs⟩ := zero_of_info info54
  obtain ⟨C, gC⟩ : ∃ C, C = (row zs).toArray := ⟨_, rfl⟩
  obtain ⟨Z, gZ⟩ : ∃ Z : Array Value, Z = (.bool false :: List.replicate 2048 (.int .u8 0)).toArray := ⟨_, rfl⟩
  rw [← gZ] at hz
  have hC : C.size = 2049 := by rw [gC]; simp [length_row, h.len]
  have hZ : Z.size = 2049 := by rw [gZ, List.size_toArray, List.length_cons, List.length_replicate]
  have hbl := h.block
  rw [← gC] at hbl
  have h1 : C.all (·.oneCell') = true := by rw [gC]; exact Array.all_eq_true_iff_forall_mem.2 (fun v hv => row_oneCell zs v (by simpa using hv))
  obtain ⟨fs, hd⟩ := under54
  have HD := hid hd
  have HZ := hid hz
  have HS := hid hs
  have HC := hid hC
  have HZS := hid hZ
  have HBL := hid hbl
  have H1 := hid h1
  have H := hid h
  have GC := hid gC
  clear hz hs gC gZ hC hZ hbl h1 h hd
  go_enter Try.func11, Try.ntmps11
  go_wp2_with fail
  refine k1.out.mono ?_
  rintro e w1 ⟨rfl, rfl⟩
  go_wp2_with (first
    | (refine wpList_load_row rfl 54 (.tmp 8) rfl p rfl 54 C (0, 0) (.struct fs) HBL.out HD.out rfl (by rw [HC.out]; exact HS.out) ?_)
    | (refine wpList_alloc_row rfl 54 rfl Z HZ.out ?_)
    | (refine wpList_store_row rfl 54 (.tmp 3) (.tmp 9) rfl w1.heap.size C rfl rfl 54 Z (heap_alloc_last w1 _) (by rw [HC.out]; exact HS.out) (by rw [HC.out, HZS.out]) H1.out ?_))
  go_ret
  rw [World.setRow_alloc_new]
  exact ⟨rfl, ⟨H.out.len, H.out.bytes, by rw [heap_alloc_new, GC.out]⟩, (Below.refl _ _).alloc (Nat.le_refl _) _, by simp⟩

end Go.Proofs.Ytnmgapnblmikeaa
