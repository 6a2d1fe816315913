/- The corpus and what it stands on, merged. -/
import Derived.Test.YtbgommpdmnbplaaGreatDoorCoA13
import Derived.Test.YtbgommpdmnbplaaGreatDoorCoA17
import Derived.Test.YtbgommpdmnbplaaGreatDoorCoA16
import Derived.Test.YtbgommpdmnbplaaGreatDoorCoA11
import Derived.Test.YtbgommpdmnbplaaGreatDoorCoA9
import Derived.Test.YtbgommpdmnbplaaGreatDoorCoA22

/- JournalNobody: a journal that no call made, and one of no disk. -/
namespace Go.Proofs.YtbgommpdmnbplaaGreatDoor
open Go.RowKit Num Jr
set_option linter.unusedVariables false
set_option maxRecDepth 20000

/-- A journal that no call made. -/
def NobJ (w : World) (v : Value) : Prop := v = .pointer none ∨ ∃ p, v = .pointer (some ⟨p, 0, none⟩) ∧ w.cell? ⟨p, 0, none⟩ = some (.pointer none)
/-- A disk that no call made. -/
def NobD (w : World) (v : Value) : Prop := v = .pointer none ∨ ∃ p, v = .pointer (some ⟨p, 0, none⟩) ∧ w.cell? ⟨p, 0, none⟩ = some (.slice none 0 0)

theorem NobD.below {w w' : World} {v : Value} (h : NobD w v) (hb : Below w.heap.size w w') : NobD w' v := by
  rcases h with rfl | ⟨p, rfl, hc⟩
  · exact .inl rfl
  · exact .inr ⟨p, rfl, (hb.cell (p := ⟨p, 0, none⟩) (World.block_lt_of_cell? _ _ hc)).trans hc⟩

theorem jusable_no (v : Value) (w : World) (h : NobJ w v) : Calls Tryz.prog 200 #[v] w fun e w' => e = .returned (.bool false) ∧ w' = w := by
  rcases h with rfl | ⟨p, rfl, hc⟩
  · go_enter Tryz.func200, Tryz.ntmps200
    go_wp2
    go_ret
    exact ⟨rfl, rfl⟩
  · go_enter Tryz.func200, Tryz.ntmps200
    go_wp2
    go_ret
    exact ⟨rfl, rfl⟩

theorem jappend_no (v u : Value) (w : World) (h : NobJ w v) : Calls Tryz.prog 158 #[v, u] w fun e w' => e = .returned (.int .i64 2) ∧ w' = w := by
  have k := hid (jusable_no v w h)
  clear h
  go_enter Tryz.func158, Tryz.ntmps158
  go_wp2_with fail
  refine k.out.mono ?_
  rintro e w1 ⟨rfl, rfl⟩
  go_wp2_with fail
  go_ret
  exact ⟨rfl, rfl⟩
theorem jcommit_no (v : Value) (w : World) (h : NobJ w v) : Calls Tryz.prog 159 #[v] w fun e w' => e = .returned (.int .i64 2) ∧ w' = w := by
  have k := hid (jusable_no v w h)
  clear h
  go_enter Tryz.func159, Tryz.ntmps159
  go_wp2_with fail
  refine k.out.mono ?_
  rintro e w1 ⟨rfl, rfl⟩
  go_wp2_with fail
  go_ret
  exact ⟨rfl, rfl⟩
theorem jcompact_no (v u : Value) (w : World) (h : NobJ w v) : Calls Tryz.prog 162 #[v, u] w fun e w' => e = .returned (.int .i64 2) ∧ w' = w := by
  have k := hid (jusable_no v w h)
  clear h
  go_enter Tryz.func162, Tryz.ntmps162
  go_wp2_with fail
  refine k.out.mono ?_
  rintro e w1 ⟨rfl, rfl⟩
  go_wp2_with fail
  go_ret
  exact ⟨rfl, rfl⟩
theorem jroom_no (v : Value) (w : World) (h : NobJ w v) : Calls Tryz.prog 203 #[v] w fun e w' => e = .returned (.int .i64 0) ∧ w' = w := by
  have k := hid (jusable_no v w h)
  clear h
  go_enter Tryz.func203, Tryz.ntmps203
  go_wp2_with fail
  refine k.out.mono ?_
  rintro e w1 ⟨rfl, rfl⟩
  go_wp2_with fail
  go_ret
  exact ⟨rfl, rfl⟩
theorem dusable_no (v : Value) (w : World) (h : NobD w v) : Calls Tryz.prog 64 #[v] w fun e w' => e = .returned (.bool false) ∧ w' = w := by
  rcases h with rfl | ⟨p, rfl, hc⟩
  · go_enter Tryz.func64, Tryz.ntmps64
    go_wp2
    go_ret
    exact ⟨rfl, rfl⟩
  · go_enter Tryz.func64, Tryz.ntmps64
    go_wp2
    go_ret
    exact ⟨rfl, rfl⟩
theorem dread_nob (v : Value) (i : Int) (w : World) (h : NobD w v) : Calls Tryz.prog 131 #[v, .int .i64 i] w fun e w' => e = .returned (.tuple #[.slice none 0 0, .int .i64 2]) ∧ w' = w := by
  have k := hid (dusable_no v w h)
  clear h
  go_enter Tryz.func131, Tryz.ntmps131
  go_wp2_with fail
  refine k.out.mono ?_
  rintro e w1 ⟨rfl, rfl⟩
  go_wp2_with fail
  go_ret2
  exact ⟨rfl, rfl⟩
theorem wrap_two (c : ByteArray) (w : World) : Calls Tryz.prog 132 #[.string c, .int .i64 2] w fun e w' => e = .returned (.iface 239 (.agg #[.string c, .int .i64 2])) ∧ w' = w := by
  go_enter Tryz.func132, Tryz.ntmps132
  go_wp2_with fail
  go_ret
  exact ⟨rfl, rfl⟩
theorem jread_no (v : Value) (w : World) (h : NobD w v) : Calls Tryz.prog 89 #[.agg #[v], .int .i64 0] w fun e w' => (∃ c, e = .returned (.tuple #[.slice none 0 0, .iface 239 (.agg #[.string c, .int .i64 2])])) ∧ Below w.heap.size w w' := by
  have hb0 : Below w.heap.size w (w.alloc (.cells #[v] 134)) := (Below.refl _ _).alloc (Nat.le_refl _) _
  have k := hid (dread_nob v 0 _ (h.below hb0))
  have HB := hid hb0
  have hv : ∃ o, v = .pointer o := by rcases h with rfl | ⟨p, rfl, _⟩ <;> exact ⟨_, rfl⟩
  obtain ⟨o, rfl⟩ := hv
  clear h hb0
  go_enter Tryz.func89, Tryz.ntmps89
  go_wp2_with fail
  refine k.out.mono ?_
  rintro e w1 ⟨rfl, rfl⟩
  go_wp2_with fail
  refine (wrap_two _ _).mono ?_
  rintro e w2 ⟨rfl, rfl⟩
  go_wp2_with fail
  go_ret2
  exact ⟨⟨_, rfl⟩, HB.out⟩

theorem jopen_no (v : Value) (w : World) (h : NobD w v) (hg : w.cell? ⟨0, 0, none⟩ = some (.iface 261 (.agg #[.pointer (some ⟨2, 140, none⟩)]))) :
    Calls Tryz.prog 39 #[v] w fun e w' => e = .returned (.tuple #[.pointer none, .slice none 0 0, .int .i64 2]) ∧ Below w.heap.size w w' := by
  have hv : ∃ o, v = .pointer o := by rcases h with rfl | ⟨p, rfl, _⟩ <;> exact ⟨_, rfl⟩
  obtain ⟨o, rfl⟩ := hv
  have hl0 : 0 < w.heap.size := World.block_lt_of_cell? _ _ hg
  have hb0 : Below w.heap.size w (w.alloc (.cells #[.pointer o, .int .i64 0, .int .i64 0, .int .i64 0, .int .i64 0, .int .i64 0, .slice none 0 0, .int .i64 0] 138)) := (Below.refl _ _).alloc (Nat.le_refl _) _
  have k := hid (jread_no (.pointer o) _ (h.below hb0))
  have HB := hid hb0
  have HG := hid hg
  clear h hb0 hg
  go_enter Tryz.func39, Tryz.ntmps39
  go_wp2_with fail
  refine k.out.mono ?_
  rintro e w1 ⟨⟨c, rfl⟩, hb1⟩
  have hbw : Below w.heap.size w w1 := HB.out.trans (hb1.mono HB.out.size)
  have hg1 := (hbw.cell (p := ⟨0, 0, none⟩) hl0).trans HG.out
  have kN := hid (errno_any c 2 w1 hg1)
  have HBW := hid hbw
  clear hb1 hbw hg1 k
  go_wp2_with fail
  refine kN.out.mono ?_
  rintro e w2 ⟨rfl, hb2⟩
  have HB2 := hid hb2
  clear hb2
  go_wp2_with fail
  go_ret3
  exact ⟨rfl, HBW.out.trans (HB2.out.mono HBW.out.size)⟩
end Go.Proofs.YtbgommpdmnbplaaGreatDoor

/- A corpus that no call made; one of no disk. -/
namespace Go.Proofs.YtbgommpdmnbplaaGreatDoor
open Go.RowKit Co Num Jr
set_option linter.unusedVariables false
set_option maxRecDepth 20000

/-- A corpus that no call made. -/
def NobC (w : World) (v : Value) : Prop := v = .pointer none ∨ ∃ c, v = .pointer (some ⟨c, 0, none⟩) ∧ w.heap[c]? = some (.cells #[.pointer none, .map none] 77 (0, 0))
theorem NobC.below {w w' : World} {v : Value} (h : NobC w v) (hb : Below w.heap.size w w') : NobC w' v := by
  rcases h with h | ⟨c, h, hc⟩
  · exact .inl h
  · exact .inr ⟨c, h, (hb.block c (Array.getElem?_eq_some_iff.1 hc).1).trans hc⟩

theorem cusable_no (v : Value) (w : World) (h : NobC w v) : Calls Tryz.prog 44 #[v] w fun r w' => r = .returned (.bool false) ∧ w' = w := by
  rcases h with rfl | ⟨c, rfl, hc⟩
  · go_enter Tryz.func44, Tryz.ntmps44
    go_wp2
    go_ret
    exact ⟨rfl, rfl⟩
  · have c0 : w.cell? ⟨c, 0, none⟩ = some (.pointer none) := heap_cells hc 0 _ rfl
    clear hc
    go_enter Tryz.func44, Tryz.ntmps44
    go_wp2
    go_ret
    exact ⟨rfl, rfl⟩

set_option maxHeartbeats 2000000 in
theorem find_no (v : Value) (s : ByteArray) (w : World) (h : NobC w v) : Calls Tryz.prog 59 #[v, .string s] w fun r w' => r = .returned (.tuple #[zeroE, .int .i64 2]) ∧ Below w.heap.size w w' := by
  unfold zeroE
  obtain ⟨W, gW⟩ : ∃ W, W = w.alloc (.cells #[.string ⟨#[]⟩, .string ⟨#[]⟩, .slice none 0 0, .int .i64 0, .slice none 0 0] 37) := ⟨_, rfl⟩
  have hbW : Below w.heap.size w W := by rw [gW]; exact (Below.refl _ _).alloc (Nat.le_refl _) _
  have hW : W.heap[w.heap.size]? = some (.cells #[.string ⟨#[]⟩, .string ⟨#[]⟩, .slice none 0 0, .int .i64 0, .slice none 0 0] 37 (0, 0)) := by rw [gW]; exact heap_alloc_new _ _
  have k1 := hid (cusable_no v W (h.below hbW))
  have HTH := hid (there_of_block (C := [.string ⟨#[]⟩, .string ⟨#[]⟩, .slice none 0 0, .int .i64 0, .slice none 0 0]) hW 0 5 (by simp))
  have GW := hid gW
  have HBW := hid hbW
  have HW := hid hW
  clear gW hbW hW h
  go_enter Tryz.func59, Tryz.ntmps59
  go_upto_region 1 with fail
  rw [← GW.out]
  go_wp2_with (first | (go_at_call 44; refine k1.out.mono ?_; rintro r wx ⟨rfl, h⟩; subst wx) | (refine wpList_store_mid rfl 37 (.tmp 4) (.tmp 11) rfl w.heap.size 0 #[.string ⟨#[]⟩, .string ⟨#[]⟩, .slice none 0 0, .int .i64 0, .slice none 0 0] rfl rfl HTH.out esize (by simp [Value.oneCell']) ?_))
  have hZ := set_row (cs := [.string ⟨#[]⟩, .string ⟨#[]⟩, .slice none 0 0, .int .i64 0, .slice none 0 0]) HW.out rfl
  refine bodyPost_ret (cell_tmp_result rfl _ _ w.heap.size 0 rfl [.string ⟨#[]⟩, .string ⟨#[]⟩, .slice none 0 0, .int .i64 0, .slice none 0 0] _ (rangeAt_block hZ) Tryz.underlying37 rfl esize) rfl ?_
  have hU := upd_setCells w.heap.size [.string ⟨#[]⟩, .string ⟨#[]⟩, .slice none 0 0, .int .i64 0, .slice none 0 0] 0 W
  exact ⟨rfl, HBW.out.trans (hU.below HBW.out.size (fun x h => by rw [h]; exact Nat.le_refl _))⟩

def ent0 : Ety := ⟨⟨#[]⟩, ⟨#[]⟩, [], 0, []⟩
theorem ev0 (w : World) (N : List Nat) : Ev w N zeroE ent0 := ⟨none, 0, none, 0, rfl, il_nil _ _, il_nil _ _⟩

set_option maxHeartbeats 4000000 in
theorem get_no (v : Value) (s : ByteArray) (w : World) (h : NobC w v) : Calls Tryz.prog 24 #[v, .string s] w fun r w' => ∃ pa pc qa qc, r = .returned (.tuple #[.agg #[.string ⟨#[]⟩, .string ⟨#[]⟩, .slice pa 0 pc, .int .i64 0, .slice qa 0 qc], .int .i64 2]) ∧ Below w.heap.size w w' := by
  obtain ⟨W, gW⟩ : ∃ W, W = w.alloc (.cells #[.string ⟨#[]⟩, .string ⟨#[]⟩, .slice none 0 0, .int .i64 0, .slice none 0 0] 37) := ⟨_, rfl⟩
  have hbW : Below w.heap.size w W := by rw [gW]; exact (Below.refl _ _).alloc (Nat.le_refl _) _
  have hW : W.heap[w.heap.size]? = some (.cells #[.string ⟨#[]⟩, .string ⟨#[]⟩, .slice none 0 0, .int .i64 0, .slice none 0 0] 37 (0, 0)) := by rw [gW]; exact heap_alloc_new _ _
  have k1 := hid (find_no v s W (h.below hbW))
  unfold zeroE at k1
  have hwl : w.heap.size < W.heap.size := (Array.getElem?_eq_some_iff.1 hW).1
  have GW := hid gW
  have HBW := hid hbW
  have HW := hid hW
  clear gW hbW hW h
  go_enter Tryz.func24, Tryz.ntmps24
  go_upto_region 1 with fail
  rw [← GW.out]
  go_upto_region 2 with (first | (go_at_call 59; refine k1.out.mono ?_; rintro r w1 ⟨rfl, hb1⟩; have HB1 := hid hb1; clear hb1 k1))
  obtain ⟨X, gX⟩ : ∃ X, X = w1.alloc (.cells #[.string ⟨#[]⟩, .string ⟨#[]⟩, .slice none 0 0, .int .i64 0, .slice none 0 0] 37) := ⟨_, rfl⟩
  have hbX : Below w1.heap.size w1 X := by rw [gX]; exact (Below.refl _ _).alloc (Nat.le_refl _) _
  have hX : X.heap[w1.heap.size]? = some (.cells #[.string ⟨#[]⟩, .string ⟨#[]⟩, .slice none 0 0, .int .i64 0, .slice none 0 0] 37 (0, 0)) := by rw [gX]; exact heap_alloc_new _ _
  rw [← gX]
  have hbWX : Below W.heap.size W X := HB1.out.trans (hbX.mono HB1.out.size)
  have k2 := hid (ecopied_any [] _ ent0 X (ev0 X []) (by decide) (by decide))
  unfold zeroE at k2
  have d0 : X.cell? ⟨w1.heap.size, 0, none⟩ = some (.string ⟨#[]⟩) := heap_cells hX 0 _ rfl
  have d1 : X.cell? ⟨w1.heap.size, 1, none⟩ = some (.string ⟨#[]⟩) := heap_cells hX 1 _ rfl
  have d2 : X.cell? ⟨w1.heap.size, 2, none⟩ = some (.slice none 0 0) := heap_cells hX 2 _ rfl
  have d3 : X.cell? ⟨w1.heap.size, 3, none⟩ = some (.int .i64 0) := heap_cells hX 3 _ rfl
  have d4 : X.cell? ⟨w1.heap.size, 4, none⟩ = some (.slice none 0 0) := heap_cells hX 4 _ rfl
  have HBX := hid hbWX
  clear gX hX hbX hbWX
  go_wp2_with (first
    | (go_at_call 50; refine k2.out.mono ?_; rintro r w2 ⟨v2, rfl, hE2, hb2⟩; have HB2 : Hid (Below W.heap.size W w2) := hid (HBX.out.trans (hb2.mono HBX.out.size)); obtain ⟨pa2, pc2, qa2, qc2, e2, _, _⟩ := hE2 [] (by simp); have e2' : v2 = .agg #[.string ⟨#[]⟩, .string ⟨#[]⟩, .slice pa2 0 pc2, .int .i64 0, .slice qa2 0 qc2] := e2; subst e2'; have HTH := hid (there_of_block (C := [.string ⟨#[]⟩, .string ⟨#[]⟩, .slice none 0 0, .int .i64 0, .slice none 0 0]) ((HB2.out.block w.heap.size hwl).trans HW.out) 0 5 (by simp)); have HX1 := hid ((HB2.out.block w.heap.size hwl).trans HW.out); clear hE2 hb2 k2 e2)
    | (refine wpList_store_mid rfl 37 (.tmp 4) (.tmp 15) rfl w.heap.size 0 #[.string ⟨#[]⟩, .string ⟨#[]⟩, .slice pa2 0 pc2, .int .i64 0, .slice qa2 0 qc2] rfl rfl HTH.out esize (by simp [Value.oneCell']) ?_))
  have hZ := set_row (cs := [.string ⟨#[]⟩, .string ⟨#[]⟩, .slice pa2 0 pc2, .int .i64 0, .slice qa2 0 qc2]) HX1.out rfl
  refine bodyPost_ret (cell_tmp_result rfl _ _ w.heap.size 0 rfl [.string ⟨#[]⟩, .string ⟨#[]⟩, .slice pa2 0 pc2, .int .i64 0, .slice qa2 0 qc2] _ (rangeAt_block hZ) Tryz.underlying37 rfl esize) rfl ?_
  have hU := upd_setCells w.heap.size [.string ⟨#[]⟩, .string ⟨#[]⟩, .slice pa2 0 pc2, .int .i64 0, .slice qa2 0 qc2] 0 w2
  exact ⟨pa2, pc2, qa2, qc2, rfl, (HBW.out.trans (HB2.out.mono HBW.out.size)).trans (hU.below (Nat.le_trans HBW.out.size HB2.out.size) (fun x h => by rw [h]; exact Nat.le_refl _))⟩

set_option maxHeartbeats 2000000 in
theorem sameent_none (pa qa : Option Addr) (pc qc : Nat) (w : World) : Calls Tryz.prog 15 #[.agg #[.string ⟨#[]⟩, .string ⟨#[]⟩, .slice pa 0 pc, .int .i64 0, .slice qa 0 qc], .agg #[.string ⟨#[]⟩, .string ⟨#[]⟩, .slice none 0 0, .int .i64 0, .slice none 0 0]] w fun r w' => r = .returned (.bool true) ∧ Below w.heap.size w w' := by
  have k1 := hid (fun (a : Option Addr) (c : Nat) (wx : World) => Tryz.slices_Equal_int_empty a none c 0 0 wx (by omega))
  go_enter Tryz.func15, Tryz.ntmps15
  go_wp2_with (first | (go_at_call 58; refine (k1.out _ _ _).mono ?_; rintro r wx ⟨rfl, h⟩; subst wx))
  go_ret
  exact ⟨rfl, ((Below.refl _ w).alloc (Nat.le_refl _) _).alloc (by simp) _⟩

theorem put_no (v u : Value) (w : World) (h : NobC w v) (hu : ∃ cs, u = .agg cs ∧ cs.size = 5) : Calls Tryz.prog 13 #[v, .agg #[.string ⟨#[97]⟩, .string ⟨#[]⟩, .slice none 0 0, .int .i64 0, .slice none 0 0]] w fun r w' => r = .returned (.int .i64 2) ∧ Below w.heap.size w w' := by
  have hb : Below w.heap.size w (w.alloc (.cells #[.string ⟨#[97]⟩, .string ⟨#[]⟩, .slice none 0 0, .int .i64 0, .slice none 0 0] 37)) := (Below.refl _ _).alloc (Nat.le_refl _) _
  have k1 := hid (cusable_no v _ (h.below hb))
  have HB := hid hb
  clear h hb hu
  go_enter Tryz.func13, Tryz.ntmps13
  go_wp2_with (first | (go_at_call 44; refine k1.out.mono ?_; rintro r wx ⟨rfl, h⟩; subst wx))
  go_ret
  exact ⟨rfl, HB.out⟩
set_option maxHeartbeats 1000000 in
theorem delete_no (v : Value) (s : ByteArray) (w : World) (h : NobC w v) : Calls Tryz.prog 16 #[v, .string s] w fun r w' => r = .returned (.int .i64 2) ∧ Below w.heap.size w w' := by
  have k1 := hid (find_no v s w h)
  unfold zeroE at k1
  clear h
  go_enter Tryz.func16, Tryz.ntmps16
  go_wp2_with (first | (go_at_call 59; refine k1.out.mono ?_; rintro r w1 ⟨rfl, hb1⟩; have HB1 := hid hb1; clear hb1 k1))
  go_ret
  exact ⟨rfl, HB1.out.alloc HB1.out.size _⟩
theorem keys_no (v : Value) (w : World) (h : NobC w v) : Calls Tryz.prog 36 #[v] w fun r w' => r = .returned (.slice none 0 0) ∧ w' = w := by
  have k1 := hid (cusable_no v w h)
  clear h
  go_enter Tryz.func36, Tryz.ntmps36
  go_wp2_with (first | (go_at_call 44; refine k1.out.mono ?_; rintro r wx ⟨rfl, h⟩; subst wx))
  go_ret
  exact ⟨rfl, rfl⟩
theorem points_no (v : Value) (w : World) (h : NobC w v) : Calls Tryz.prog 35 #[v] w fun r w' => r = .returned (.slice none 0 0) ∧ w' = w := by
  have k1 := hid (cusable_no v w h)
  clear h
  go_enter Tryz.func35, Tryz.ntmps35
  go_wp2_with (first | (go_at_call 44; refine k1.out.mono ?_; rintro r wx ⟨rfl, h⟩; subst wx))
  go_ret
  exact ⟨rfl, rfl⟩
theorem copen_no (v : Value) (w : World) (h : NobD w v) (hR : Er w) : Calls Tryz.prog 10 #[v] w fun r w' => r = .returned (.tuple #[.pointer none, .int .i64 2]) ∧ Below w.heap.size w w' := by
  have k1 := hid (jopen_no v w h hR)
  clear h
  go_enter Tryz.func10, Tryz.ntmps10
  go_wp2_with (first | (go_at_call 39; refine k1.out.mono ?_; rintro r w1 ⟨rfl, hb1⟩; have HB1 := hid hb1; clear hb1 k1))
  go_ret2
  exact ⟨rfl, HB1.out⟩
end Go.Proofs.YtbgommpdmnbplaaGreatDoor
