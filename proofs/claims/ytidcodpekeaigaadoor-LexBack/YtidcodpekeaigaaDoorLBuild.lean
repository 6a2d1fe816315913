/- A strings.Builder as it is written to: bytes and texts are laid behind what it has. -/
import Derived.Test.YtidcodpekeaigaaDoorLTake
import Derived.Lib.Builder
import Derived.Lib.AppendStr
import Derived.Lib.UnsafeStr
import Derived.Laws.Externs
namespace Go.Proofs.YtidcodpekeaigaaDoor
open Go.RowKit
set_option linter.unusedVariables false

theorem below_one' (w : World) (o : Obj) : Below w.heap.size w (w.alloc o) := (Below.refl _ _).alloc (Nat.le_refl _) _
theorem Tryd.sizeBld : (Tryd.prog.info? 49).map (·.size) = some 2 := by kernel_rfl
theorem Tryd.liesBld : liesAt Tryd.prog Tryd.prog.depth 49 (2 / Tryd.prog.cellsOf 49) 0 49 1 = true := by kernel_rfl
theorem Tryd.infoU8 : (Tryd.prog.info? 5).map (fun i => (i.zero, i.size, i.bytes)) = some (some (.int .u8 0), 1, 1) := by kernel_rfl

/-- A builder as it lies: it was not written to, or it knows itself; its bytes. -/
def Bld (w : World) (b : Nat) (v : Value) (bs : List Value) : Prop :=
  ∃ p, (p = .pointer none ∨ p = .pointer (some ⟨b, 0, none⟩)) ∧ w.heap[b]? = some (.cells #[p, v] 49 (0, 0)) ∧ w.ownsRow (b + 1) 5 1 v bs.length bs
theorem Bld.lt {w : World} {b : Nat} {v : Value} {bs : List Value} (h : Bld w b v bs) : b < w.heap.size := by
  obtain ⟨p, _, h, _⟩ := h
  exact (Array.getElem?_eq_some_iff.1 h).1
theorem Bld.below {w w' : World} {b : Nat} {v : Value} {bs : List Value} (h : Bld w b v bs) (hb : Below w.heap.size w w') : Bld w' b v bs := by
  have hl := h.lt
  obtain ⟨p, hp, hh, ho⟩ := h
  exact ⟨p, hp, by rw [hb.block b hl]; exact hh, own_below ho hb⟩
/-- What a call on a builder may turn. -/
def Fb (b : Nat) (v : Value) (k : Nat) : Prop := k = b ∨ some k = v.ownBlock
theorem Bld.ge {w : World} {b : Nat} {v : Value} {bs : List Value} (h : Bld w b v bs) {x : Nat} (hx : Fb b v x) : b ≤ x ∧ x < w.heap.size := by
  have hl := h.lt
  obtain ⟨p, hp, hh, ho⟩ := h
  rcases hx with e | e
  · omega
  · have := ho.lt x e.symm
    omega

set_option maxHeartbeats 1000000 in
theorem check_used (b : Nat) (w : World) (h0 : w.cell? ⟨b, 0, none⟩ = some (.pointer (some ⟨b, 0, none⟩))) :
    Calls Tryd.prog 34 #[.pointer (some ⟨b, 0, none⟩)] w fun e w' => e = .returned (.tuple #[]) ∧ w' = w := by
  obtain ⟨j, hj, _⟩ := Option.map_eq_some_iff.1 Tryd.sizeBld
  have hne : ∀ W : World, (binOp .neq 46 (.pointer (some ⟨b, 0, none⟩)) (.pointer (some ⟨b, 0, none⟩))).run Tryd.prog W = .ok (.bool false) W := fun W => Lib.run_neq_ptr_same W _ Tryd.underlying46 hj
  go_enter Tryd.func34, Tryd.ntmps34
  go_wp2
  go_end0
  exact ⟨rfl, rfl⟩

set_option maxHeartbeats 1000000 in
theorem check_fresh (b : Nat) (w : World) (h0 : w.cell? ⟨b, 0, none⟩ = some (.pointer none)) (hsh : w.shape? b = some (49, 2)) (hfz : w.frozen? ⟨b, 0, none⟩ = false) :
    Calls Tryd.prog 34 #[.pointer (some ⟨b, 0, none⟩)] w fun e w' => e = .returned (.tuple #[]) ∧ w' = w.setCell ⟨b, 0, none⟩ (.pointer (some ⟨b, 0, none⟩)) := by
  obtain ⟨j, hj, hjs⟩ := Option.map_eq_some_iff.1 Tryd.sizeBld
  have h1 : (convert 46 74 (.pointer (some ⟨b, 0, none⟩))).run Tryd.prog w = .ok (.pointer (some ⟨b, 0, none⟩)) w := Lib.run_to_unsafe w ⟨b, 0, none⟩ Tryd.underlying46 Tryd.underlying74 hj (by rw [hjs]; decide) hsh (Nat.zero_lt_succ 1)
  have h2 : (callFunc 44 #[.pointer (some ⟨b, 0, none⟩)]).run Tryd.prog w = .ok (.value (.pointer (some ⟨b, 0, none⟩))) w := by
    rw [run_callFunc_extern Tryd.func44 (by kernel_rfl) (by kernel_rfl) (by kernel_rfl) (e := Extern.AbiNoEscape.same) (by kernel_rfl), Lib.run_noEscape]
    rfl
  have h3 : (convert 74 46 (.pointer (some ⟨b, 0, none⟩))).run Tryd.prog w = .ok (.pointer (some ⟨b, 0, none⟩)) w := Lib.run_from_unsafe w ⟨b, 0, none⟩ Tryd.underlying74 Tryd.underlying46 hj hsh Tryd.liesBld
  go_enter Tryd.func34, Tryd.ntmps34
  go_wp2
  go_end0
  exact ⟨rfl, rfl⟩

/-- A builder that knows itself. -/
def Bls (w : World) (b : Nat) (v : Value) (bs : List Value) : Prop := w.heap[b]? = some (.cells #[.pointer (some ⟨b, 0, none⟩), v] 49 (0, 0)) ∧ w.ownsRow (b + 1) 5 1 v bs.length bs
theorem Bls.bld {w : World} {b : Nat} {v : Value} {bs : List Value} (h : Bls w b v bs) : Bld w b v bs := ⟨_, .inr rfl, h.1, h.2⟩

theorem check_any (b : Nat) (v : Value) (bs : List Value) (w : World) (h : Bld w b v bs) :
    Calls Tryd.prog 34 #[.pointer (some ⟨b, 0, none⟩)] w fun e w' => e = .returned (.tuple #[]) ∧ Bls w' b v bs ∧ Upd (Fb b v) w w' := by
  have hlt := h.lt
  obtain ⟨p, hp, hb, ho⟩ := h
  rcases hp with rfl | rfl
  · refine (check_fresh b w (heap_cells hb 0 _ rfl) (by simp [World.shape?, hb]) (by simp [World.frozen?, hb])).mono ?_
    rintro e w' ⟨rfl, rfl⟩
    have u : Upd (fun k => k = b) w (w.setCell ⟨b, 0, none⟩ (.pointer (some ⟨b, 0, none⟩))) := Upd.setCell (F := fun k => k = b) w ⟨b, 0, none⟩ _ rfl
    refine ⟨rfl, ⟨?_, u.own ho (fun k hk e => by have := (ho.lt k hk).1; omega)⟩, u.mono (fun x _ hx => .inl hx)⟩
    rw [heap_setCell_same w b 0 _ 49 _ hb]; rfl
  · refine (check_used b w (heap_cells hb 0 _ rfl)).mono ?_
    rintro e w' ⟨rfl, rfl⟩
    exact ⟨rfl, ⟨hb, ho⟩, Upd.refl _ _⟩

set_option maxHeartbeats 2000000 in
theorem wbyte_any (b : Nat) (v : Value) (bs : List Value) (c : Int) (w : World) (h : Bld w b v bs) (hn : bs.length ≤ 1000000000) :
    Calls Tryd.prog 17 #[.pointer (some ⟨b, 0, none⟩), .int .u8 c] w fun e w' => e = .returned .nilIface ∧ (∃ v', Bld w' b v' (bs ++ [.int .u8 c])) ∧ Upd (Fb b v) w w' := by
  obtain ⟨i0, hi0, hz0, hz1, hz2⟩ := info_parts Tryd.infoU8
  have k1 := hid (check_any b v bs w h)
  have hlt := h.lt
  clear h
  go_enter Tryd.func17, Tryd.ntmps17
  go_wp2_with fail
  refine k1.out.mono ?_
  rintro e w1 ⟨rfl, ⟨hb, ho⟩, hbl⟩
  have q1 : w1.cell? ⟨b, 1, none⟩ = some v := heap_cells hb 1 _ rfl
  have hal := below_one' w1 (.cells #[.int .u8 c] 5)
  have HO := hid (own_below ho hal)
  have hl1 : b < w1.heap.size := (Array.getElem?_eq_some_iff.1 hb).1
  have HBS : Hid (b + 1 ≤ (w1.alloc (.cells #[.int .u8 c] 5)).heap.size) := hid (Nat.le_trans hl1 hal.size)
  have HCEL : Hid (∀ a x, [Value.int .u8 c][a]? = some x → (w1.alloc (.cells #[.int .u8 c] 5)).cell? ((⟨w1.heap.size, 0, none⟩ : Addr).add a) = some x) := by
    refine hid (fun a x hx => ?_)
    rw [Addr.add_lit, Nat.zero_add]
    exact heap_cells (heap_alloc_new w1 _) a x (by simpa using hx)
  have HB1 := hid hbl
  have HH : Hid ((w1.alloc (.cells #[.int .u8 c] 5)).heap[b]? = some (.cells #[.pointer (some ⟨b, 0, none⟩), v] 49 (0, 0))) := hid ((hal.block b hl1).trans hb)
  have HAL := hid hal
  obtain ⟨n, gn⟩ : ∃ n, n = bs.length := ⟨_, rfl⟩
  rw [← gn] at HO hn
  have GN := hid gn
  have HMX : Hid (n + 1 ≤ maxLen) := hid (by unfold maxLen; omega)
  have HBY : Hid ((n + 1) * 1 ≤ 140737488355328) := hid (by omega)
  obtain ⟨av, cv, ev, _, _⟩ := own_shape HO.out
  subst ev
  clear hb ho hbl hal gn
  go_wp2_with (at_builtin; go_must (refine wpList_append_own _ rfl (.tmp 11) (.tmp 13) 47 rfl (b + 1) 5 i0 _ 1 1 Tryd.underlying47 hi0 hz0 hz1 hz2 rfl (by decide) _ n bs rfl HO.out ⟨w1.heap.size, 0, none⟩ 1 1 [.int .u8 c] rfl rfl HCEL.out (by simp [Value.oneCell']) HMX.out HBY.out HBS.out ?_; intro v4 w4 ho4 hg4 hn4; obtain ⟨a4, c4, e4, _, _⟩ := own_shape ho4; subst e4; have hug := Upd.of_grown hg4; have hne : ¬ some b = (Value.slice av n cv).ownBlock := (fun e => by have := (HO.out.lt b e.symm).1; omega); have hb4 : w4.heap[b]? = some (.cells #[.pointer (some ⟨b, 0, none⟩), .slice av n cv] 49 (0, 0)) := hug.heap HH.out hne; have z1 : w4.cell? ⟨b, 1, none⟩ = some (.slice av n cv) := heap_cells hb4 1 _ rfl; have z2 : w4.frozen? ⟨b, 1, none⟩ = false := (by simp [World.frozen?, hb4]); have HB4 := hid hb4; have HUG := hid hug; have HO4 := hid ho4; clear ho4 hg4 hn4 hug hb4 hne))
  have hug := HUG.out
  have hb4 := HB4.out
  have ho4 := HO4.out
  have HF : Hid ((∃ v', Bld (w4.setCell ⟨b, 1, none⟩ (.slice a4 (n + 1) c4)) b v' (bs ++ [.int .u8 c])) ∧ Upd (Fb b (.slice av n cv)) w (w4.setCell ⟨b, 1, none⟩ (.slice a4 (n + 1) c4))) := by
    have u : Upd (fun k => k = b) w4 (w4.setCell ⟨b, 1, none⟩ (.slice a4 (n + 1) c4)) := Upd.setCell (F := fun k => k = b) w4 ⟨b, 1, none⟩ _ rfl
    refine hid ⟨⟨_, _, .inr rfl, (heap_setCell_same w4 b 1 _ 49 _ hb4).trans rfl, ?_⟩, ?_⟩
    · rw [List.length_append, ← GN.out]
      exact u.own ho4 (fun k hk e => by have := (ho4.lt k hk).1; omega)
    · have b1 : Upd (Fb b (.slice av n cv)) w (w1.alloc (.cells #[.int .u8 c] 5)) := HB1.out.trans (Upd.of_below (F := Fb b (.slice av n cv)) HAL.out) (fun x _ h => h)
      have b2 := b1.trans hug (fun x _ hx => .inr hx)
      exact b2.trans u (fun x _ hx => .inl hx)
  go_ret
  exact ⟨rfl, HF.out⟩

set_option maxHeartbeats 2000000 in
theorem wstring_any (b : Nat) (v : Value) (bs : List Value) (s : ByteArray) (w : World) (h : Bld w b v bs) (hn : bs.length + s.size ≤ 1000000000) :
    Calls Tryd.prog 18 #[.pointer (some ⟨b, 0, none⟩), .string s] w fun e w' => e = .returned (.tuple #[.int .i64 s.size, .nilIface]) ∧ (∃ v', Bld w' b v' (bs ++ Lib.strCells s)) ∧ Upd (Fb b v) w w' := by
  obtain ⟨i0, hi0, hz0, hz1, hz2⟩ := info_parts Tryd.infoU8
  have k1 := hid (check_any b v bs w h)
  have hlt := h.lt
  clear h
  go_enter Tryd.func18, Tryd.ntmps18
  go_wp2_with fail
  refine k1.out.mono ?_
  rintro e w1 ⟨rfl, ⟨hb, ho⟩, hbl⟩
  have q1 : w1.cell? ⟨b, 1, none⟩ = some v := heap_cells hb 1 _ rfl
  have HO := hid ho
  have hl1 : b < w1.heap.size := (Array.getElem?_eq_some_iff.1 hb).1
  have HBS : Hid (b + 1 ≤ w1.heap.size) := hid hl1
  have HB1 := hid hbl
  have HH := hid hb
  obtain ⟨n, gn⟩ : ∃ n, n = bs.length := ⟨_, rfl⟩
  rw [← gn] at HO hn
  have GN := hid gn
  have HMX : Hid (n + s.size ≤ maxLen) := hid (by unfold maxLen; omega)
  have HBY : Hid (n + s.size ≤ 140737488355328) := hid (by omega)
  obtain ⟨av, cv, ev, _, _⟩ := own_shape HO.out
  subst ev
  clear hb ho hbl gn
  go_wp2_with (at_builtin; go_must (refine Lib.wpList_append_own_string _ rfl (.tmp 12) (.tmp 13) 47 9 rfl (b + 1) 5 i0 Tryd.underlying47 Tryd.underlying9 hi0 hz0 hz1 hz2 _ n bs rfl HO.out s rfl HMX.out HBY.out HBS.out ?_; intro v4 w4 ho4 hg4 hn4; obtain ⟨a4, c4, e4, _, _⟩ := own_shape ho4; subst e4; have hug := Upd.of_grown hg4; have hne : ¬ some b = (Value.slice av n cv).ownBlock := (fun e => by have := (HO.out.lt b e.symm).1; omega); have hb4 : w4.heap[b]? = some (.cells #[.pointer (some ⟨b, 0, none⟩), .slice av n cv] 49 (0, 0)) := hug.heap HH.out hne; have z1 : w4.cell? ⟨b, 1, none⟩ = some (.slice av n cv) := heap_cells hb4 1 _ rfl; have z2 : w4.frozen? ⟨b, 1, none⟩ = false := (by simp [World.frozen?, hb4]); have HB4 := hid hb4; have HUG := hid hug; have HO4 := hid ho4; clear ho4 hg4 hn4 hug hb4 hne))
  have hug := HUG.out
  have hb4 := HB4.out
  have ho4 := HO4.out
  have HF : Hid ((∃ v', Bld (w4.setCell ⟨b, 1, none⟩ (.slice a4 (n + s.size) c4)) b v' (bs ++ Lib.strCells s)) ∧ Upd (Fb b (.slice av n cv)) w (w4.setCell ⟨b, 1, none⟩ (.slice a4 (n + s.size) c4))) := by
    have u : Upd (fun k => k = b) w4 (w4.setCell ⟨b, 1, none⟩ (.slice a4 (n + s.size) c4)) := Upd.setCell (F := fun k => k = b) w4 ⟨b, 1, none⟩ _ rfl
    refine hid ⟨⟨_, _, .inr rfl, (heap_setCell_same w4 b 1 _ 49 _ hb4).trans rfl, ?_⟩, ?_⟩
    · rw [List.length_append, ← GN.out, Lib.strCells_length]
      exact u.own ho4 (fun k hk e => by have := (ho4.lt k hk).1; omega)
    · have b2 := HB1.out.trans hug (fun x _ hx => .inr hx)
      exact b2.trans u (fun x _ hx => .inl hx)
  go_ret2
  exact ⟨rfl, HF.out⟩

end Go.Proofs.YtidcodpekeaigaaDoor
