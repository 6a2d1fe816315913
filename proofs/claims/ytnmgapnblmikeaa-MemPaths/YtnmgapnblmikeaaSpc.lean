/- A space as it lies (one block: a bool and 2048 bytes), and what mem.New, usable, isPart, from do. -/
import Derived.Test.YtnmgapnblmikeaaChecked
import Derived.Test.YtnmgapnblmikeaaUpd
import Derived.Test.YtnmgapnblmikeaaLit
import Derived.Test.YtnmgapnblmikeaaClone
import Derived.Laws.Tables
import Derived.Deep.WholeRow
namespace Go.Proofs.Ytnmgapnblmikeaa
open Go.RowKit Lend
set_option linter.unusedVariables false

/-- The cells of a space. -/
def row (zs : List Int) : List Value := .bool true :: zs.map (Value.int .u8)
theorem length_row (zs : List Int) : (row zs).length = zs.length + 1 := by simp [row]

/-- A space that a call made, with these bytes. -/
structure Spc (w : World) (p : Nat) (zs : List Int) : Prop where
  len : zs.length = 2048
  bytes : Bytes zs
  block : w.heap[p]? = some (.cells (row zs).toArray 54 (0, 0))

theorem Spc.lt {w : World} {p : Nat} {zs : List Int} (h : Spc w p zs) : p < w.heap.size := (Array.getElem?_eq_some_iff.1 h.block).1
theorem Spc.cell {w : World} {p : Nat} {zs : List Int} (h : Spc w p zs) (j : Nat) (hj : j < 2048) : w.cell? ⟨p, 1 + j, none⟩ = some (.int .u8 (zs.getD j 0)) := by
  rw [cell_of_row w p (1 + j) _ 54 (0, 0) h.block]
  simp [row, Nat.add_comm 1 j, List.getD, List.getElem?_eq_getElem (show j < zs.length by rw [h.len]; exact hj)]
theorem Spc.head {w : World} {p : Nat} {zs : List Int} (h : Spc w p zs) : w.cell? ⟨p, 0, none⟩ = some (.bool true) := by
  rw [cell_of_row w p 0 _ 54 (0, 0) h.block]; rfl
theorem Spc.upd {F : Nat → Prop} {w w' : World} {p : Nat} {zs : List Int} (h : Spc w p zs) (u : Upd F w w') (hF : ¬ F p) : Spc w' p zs := ⟨h.len, h.bytes, u.heap h.block hF⟩
theorem Spc.below {B : Nat} {w w' : World} {p : Nat} {zs : List Int} (h : Spc w p zs) (u : Below B w w') (hF : p < B) : Spc w' p zs := ⟨h.len, h.bytes, by rw [u.block p hF]; exact h.block⟩
/-- The bytes from k on lie there. -/
theorem Spc.src {w : World} {p : Nat} {zs : List Int} (h : Spc w p zs) (k n o : Nat) (hk : k + n ≤ 2048) (ho : k < 2048 → o = 1 + k) : Src w (some ⟨p, o, none⟩) n ((zs.drop k).take n) :=
  ⟨by simp; rw [h.len]; omega, fun hn => ⟨p, o, rfl, h.lt, fun j hj => by
    rw [ho (by omega), Nat.add_assoc, h.cell (k + j) (by omega)]
    simp [List.getD, List.getElem?_drop, hj]⟩⟩

theorem built54 : Try.prog.built 54 [(0, .bool true)] = some (row (List.replicate 2048 0)).toArray := by kernel_rfl
theorem info54 : (Try.prog.info? 54).map (fun i => (i.zero, i.size)) = some (some (.agg (.bool false :: List.replicate 2048 (.int .u8 0)).toArray), 2049) := by kernel_rfl

/-- 'T{..}' as a step of the walk: the cells are whatever they are. -/
theorem wpList_build_is {P : Program} {ops : Array Oper} {rest : List Oper} {o : Oper} {a : Act} {w : World} {Q : Exit → Act → World → Prop} (hg : o.guard = none) (t : TypeId) (parts : Array (Nat × Operand)) (ho : o.op = .build t parts) (C : Array Value)
    (hf : P.built t (parts.map fun (i, x) => (i, a.eval x)).toList = some C) (h : wpList P ops Q rest (a.put o.dst (.agg C)) w) : wpList P ops Q (o :: rest) a w :=
  wpList_build hg t parts ho (by rw [hf]; rfl) (by rw [hf]; exact h)

theorem csize5 : (Try.prog.info? 5).map (·.size) = some 1 := by kernel_rfl

/-- 'copy' of bytes into a block that is known whole: nil and empty sources too. -/
theorem wpList_copy_upd {P : Program} {w : World} {ops : Array Oper} {rest : List Oper} {o : Oper} {a : Act} {Q : Exit → Act → World → Prop} (hgd : o.guard = none) (d s : Operand) (dT sT : TypeId)
    (ho : o.op = .call { callee := .builtin .copy, args := #[d, s], argTypes := #[dT, sT] }) (elem : TypeId) (hu : P.underlying dT = some (.slice elem)) (hsz : (P.info? elem).map (·.size) = some 1)
    (dp sp : Option Addr) (dLen dCap sLen sCap : Nat) (hd : a.eval d = .slice dp dLen dCap) (hs : a.eval s = .slice sp sLen sCap)
    (g off : Nat) (cur : List Value) (t : TypeId) (hg : w.heap[g]? = some (.cells cur.toArray t (0, 0))) (cs : List Value) (hn : cs.length = Nat.min sLen dLen)
    (hpos : 0 < cs.length → dp = some ⟨g, off, none⟩ ∧ ∃ ad, sp = some ad ∧ ∀ j v, cs[j]? = some v → w.cell? (ad.add j) = some v)
    (hfit : off + cs.length ≤ cur.length) (h1 : ∀ v ∈ cs, v.oneCell' = true)
    (h : ∀ w', Hid (w'.heap[g]? = some (.cells (splice cur off cs).toArray t (0, 0))) → Upd (· = g) w w' → wpList P ops Q rest (a.put o.dst (goInt cs.length)) w') :
    wpList P ops Q (o :: rest) a w := by
  by_cases h0 : cs.length = 0
  · obtain rfl : cs = [] := List.eq_nil_of_length_eq_zero h0
    refine wpList_copy_nothing hgd d s dT sT ho elem hu hsz dp sp dLen dCap sLen sCap hd hs (by simpa using hn.symm) ?_
    exact h w (show _ = _ by simpa [splice] using hg) (Upd.refl _ _)
  · obtain ⟨rfl, ad, rfl, hsrc⟩ := hpos (by omega)
    refine wpList_copy_own hgd d s dT sT ho elem hu hsz g off dLen dCap ad sLen sCap hd hs cur.toArray t hg cs hn hsrc (by simpa using hfit) h1 ?_
    exact h _ (show _ = _ by simpa [splice] using setRow_heap w g _ _ t _ hg) (Upd.setRow w g _ rfl)

set_option maxHeartbeats 1000000 in
theorem mnew_any (Z : List Int) (hZ : Z = List.replicate 2048 0) (w : World) :
    Calls Try.prog 9 #[] w fun e w' => e = .returned (.pointer (some ⟨w.heap.size, 0, none⟩)) ∧ Spc w' w.heap.size Z ∧ Below w.heap.size w w' ∧ w'.heap.size = w.heap.size + 1 := by
  obtain ⟨C, gC⟩ : ∃ C, C = (row (List.replicate 2048 0)).toArray := ⟨_, rfl⟩
  have hb : ∀ a : Act, Try.prog.built 54 (Array.map (fun (x : Nat × Operand) => match x with | (i, x) => (i, a.eval x)) #[(0, Operand.const (Value.bool true))]).toList = some C := by
    intro a
    rw [gC, ← built54]
    congr 1
    simp [Act.eval]
  have HB := hid hb
  have GC := hid gC
  have HZ := hid hZ
  clear hb gC hZ
  go_enter Try.func9, Try.ntmps9
  go_wp2_with (refine wpList_build_is rfl 54 #[(0, .const (.bool true))] rfl C (HB.out _) ?_)
  go_ret
  refine ⟨rfl, ⟨by rw [HZ.out, List.length_replicate], fun z hz => ?_, ?_⟩, (Below.refl _ _).alloc (Nat.le_refl _) _, by simp⟩
  · rw [HZ.out, List.mem_replicate] at hz; omega
  · rw [heap_alloc_new w, GC.out, HZ.out]

theorem usable_yes (p : Nat) (w : World) (h : w.cell? ⟨p, 0, none⟩ = some (.bool true)) :
    Calls Try.prog 28 #[.pointer (some ⟨p, 0, none⟩)] w fun e w' => e = .returned (.bool true) ∧ w' = w := by
  go_enter Try.func28, Try.ntmps28
  go_wp2
  go_ret
  exact ⟨rfl, rfl⟩
theorem usable_no (p : Nat) (w : World) (h : w.cell? ⟨p, 0, none⟩ = some (.bool false)) :
    Calls Try.prog 28 #[.pointer (some ⟨p, 0, none⟩)] w fun e w' => e = .returned (.bool false) ∧ w' = w := by
  go_enter Try.func28, Try.ntmps28
  go_wp2
  go_ret
  exact ⟨rfl, rfl⟩
theorem usable_nil (w : World) :
    Calls Try.prog 28 #[.pointer none] w fun e w' => e = .returned (.bool false) ∧ w' = w := by
  go_enter Try.func28, Try.ntmps28
  go_wp2
  go_ret
  exact ⟨rfl, rfl⟩

/-- n bytes from an address on lie within. -/
def isPart (addr n : Int) : Bool := decide (4096 ≤ addr ∧ addr ≤ 6144 ∧ 0 ≤ n ∧ n ≤ 6144 - addr)

theorem ispart_any (addr n : Int) (w : World) (h0 : -9223372036854775808 ≤ addr) (h1 : addr ≤ 9223372036854775807) :
    Calls Try.prog 29 #[.int .i64 addr, .int .i64 n] w fun e w' => e = .returned (.bool (isPart addr n)) ∧ w' = w := by
  by_cases c1 : 4096 ≤ addr
  · by_cases c2 : addr ≤ 6144
    · by_cases c3 : 0 ≤ n
      · have hw : wrap64 (6144 - addr) = 6144 - addr := by unfold wrap64; omega
        have hp : isPart addr n = decide (n ≤ 6144 - addr) := by simp [isPart, c1, c2, c3]
        rw [hp]
        go_enter Try.func29, Try.ntmps29
        go_wp2
        go_ret
        exact ⟨rfl, rfl⟩
      · have hp : isPart addr n = false := by simp [isPart]; omega
        rw [hp]
        go_enter Try.func29, Try.ntmps29
        go_wp2
        go_ret
        exact ⟨rfl, rfl⟩
    · have hp : isPart addr n = false := by simp [isPart]; omega
      rw [hp]
      go_enter Try.func29, Try.ntmps29
      go_wp2
      go_ret
      exact ⟨rfl, rfl⟩
  · have hp : isPart addr n = false := by simp [isPart]; omega
    rw [hp]
    go_enter Try.func29, Try.ntmps29
    go_wp2
    go_ret
    exact ⟨rfl, rfl⟩

theorem from_any (p k : Nat) (addr : Int) (w : World) (ha : addr = 4096 + (k : Int)) (hk : k ≤ 2048) :
    Calls Try.prog 30 #[.pointer (some ⟨p, 0, none⟩), .int .i64 addr] w fun e w' => ∃ o, e = .returned (.slice (some ⟨p, o, none⟩) (2048 - k) (2048 - k)) ∧ (k < 2048 → o = 1 + k) ∧ w' = w := by
  have hw : wrap64 (addr - 4096) = (k : Int) := by unfold wrap64; omega
  have h1 : (0 : Int) ≤ (k : Int) := by omega
  have h2 : (k : Int) ≤ 2048 := by omega
  clear ha
  by_cases h : 2048 = k
  · subst h
    clear hk
    go_enter Try.func30, Try.ntmps30
    go_wp2_with fail
    go_ret
    first
    | exact ⟨⟨_, rfl⟩, rfl⟩
    | exact ⟨_, rfl, fun h => absurd h (by omega), rfl⟩
  · go_enter Try.func30, Try.ntmps30
    go_wp2_with fail
    go_ret
    exact ⟨_, rfl, fun _ => rfl, rfl⟩

/-! ### What a space tells and takes -/
theorem isPart_yes {addr n : Int} (h : isPart addr n = true) : ∃ k m : Nat, addr = 4096 + (k : Int) ∧ n = (m : Int) ∧ k + m ≤ 2048 := by
  have := of_decide_eq_true h
  exact ⟨(addr - 4096).toNat, n.toNat, by omega, by omega, by omega⟩

set_option maxHeartbeats 1000000 in
theorem min_yes (p k n : Nat) (addr : Int) (zs : List Int) (w : World) (h : Spc w p zs) (ha : addr = 4096 + (k : Int)) (hk : k + n ≤ 2048) :
    Calls Try.prog 18 #[.pointer (some ⟨p, 0, none⟩), .int .i64 addr, .int .i64 n] w fun e w' => ∃ g c, e = .returned (.tuple #[.slice (some ⟨g, 0, none⟩) n c, .int .i64 0]) ∧
      w'.ownsRow w.heap.size 5 1 (.slice (some ⟨g, 0, none⟩) n c) n (((zs.drop k).take n).map (Value.int .u8)) ∧ Below w.heap.size w w' := by
  have k1 := hid (usable_yes p w h.head)
  have k2 := hid (ispart_any addr n w (by omega) (by omega))
  have hp : isPart addr n = true := by simp [isPart]; omega
  rw [hp] at k2
  have k3 := hid (from_any p k addr w ha (by omega))
  have k4 := hid (fun o (ho : k < 2048 → o = 1 + k) => clone_any ⟨p, o, none⟩ n (2048 - k) ((zs.drop k).take n) w (h.src k n o hk ho) (by omega))
  have i1 : (0 : Int) ≤ (n : Int) := by omega
  have i2 : (n : Int) ≤ ((2048 - k : Nat) : Int) := by omega
  clear h ha hp
  go_enter Try.func18, Try.ntmps18
  go_wp2_with fail
  refine k1.out.mono ?_
  rintro e w1 ⟨rfl, rfl⟩
  go_wp2_with fail
  refine k2.out.mono ?_
  rintro e w1 ⟨rfl, rfl⟩
  go_wp2_with fail
  refine k3.out.mono ?_
  rintro e w1 ⟨o, rfl, ho, rfl⟩
  have K4 := hid (k4.out o ho)
  clear ho k4
  go_wp2_with fail
  refine K4.out.mono ?_
  rintro e w2 ⟨g, c, rfl, ho, hb⟩
  have HO := hid ho
  clear ho
  go_wp2_with fail
  go_ret2
  exact ⟨g, c, rfl, HO.out, hb⟩

set_option maxHeartbeats 1000000 in
theorem min_no (p : Nat) (addr n : Int) (zs : List Int) (w : World) (h : Spc w p zs) (h0 : -9223372036854775808 ≤ addr) (h1 : addr ≤ 9223372036854775807) (hp : isPart addr n = false) :
    Calls Try.prog 18 #[.pointer (some ⟨p, 0, none⟩), .int .i64 addr, .int .i64 n] w fun e w' => e = .returned (.tuple #[.slice none 0 0, .int .i64 14]) ∧ w' = w := by
  have k1 := hid (usable_yes p w h.head)
  have k2 := hid (ispart_any addr n w h0 h1)
  rw [hp] at k2
  clear h hp
  go_enter Try.func18, Try.ntmps18
  go_wp2_with fail
  refine k1.out.mono ?_
  rintro e w1 ⟨rfl, rfl⟩
  go_wp2_with fail
  refine k2.out.mono ?_
  rintro e w1 ⟨rfl, rfl⟩
  go_wp2_with fail
  go_ret2
  exact ⟨rfl, rfl⟩

theorem row_splice (zs bs : List Int) (k : Nat) : splice (row zs) (1 + k) (bs.map (Value.int .u8)) = row (splice zs k bs) := by
  simp [splice, row, Nat.add_comm 1, List.map_append, List.map_take, List.map_drop, Nat.add_right_comm]

set_option maxHeartbeats 1000000 in
theorem out_yes (p k n c : Nat) (addr : Int) (a0 : Option Addr) (zs bs : List Int) (w : World) (h : Spc w p zs) (hs : Src w a0 n bs) (hb : Bytes bs) (ha : addr = 4096 + (k : Int)) (hk : k + n ≤ 2048) :
    Calls Try.prog 14 #[.pointer (some ⟨p, 0, none⟩), .int .i64 addr, .slice a0 n c] w fun e w' => e = .returned (.int .i64 0) ∧ Spc w' p (splice zs k bs) ∧ Upd (· = p) w w' := by
  have k1 := hid (usable_yes p w h.head)
  have k2 := hid (ispart_any addr n w (by omega) (by omega))
  have hp : isPart addr n = true := by simp [isPart]; omega
  rw [hp] at k2
  have k3 := hid (from_any p k addr w ha (by omega))
  have H := hid h
  have HS := hid hs
  have HB := hid hb
  clear h hs hb ha hp
  go_enter Try.func14, Try.ntmps14
  go_wp2_with fail
  refine k1.out.mono ?_
  rintro e w1 ⟨rfl, rfl⟩
  go_wp2_with fail
  refine k2.out.mono ?_
  rintro e w1 ⟨rfl, rfl⟩
  go_wp2_with fail
  refine k3.out.mono ?_
  rintro e w1 ⟨o, rfl, ho, rfl⟩
  have HO := hid ho
  clear ho
  go_wp2_with (refine wpList_copy_upd rfl (.tmp 17) (.tmp 18) 27 27 rfl 5 Try.underlying27 csize5 (some ⟨p, o, none⟩) a0 (2048 - k) (2048 - k) n c rfl rfl p (1 + k) (row zs) 54 H.out.block (bs.map (Value.int .u8)) ?_ ?_ ?_ ?_ ?_)
  case refine_1 => rw [List.length_map, HS.out.1]; exact (Nat.min_eq_left (by omega)).symm
  case refine_2 =>
    intro hl
    rw [List.length_map, HS.out.1] at hl
    obtain ⟨b, x, rfl, _, hc⟩ := HS.out.2 hl
    refine ⟨by rw [HO.out (by omega)], _, rfl, fun j v hv => ?_⟩
    rw [List.getElem?_map] at hv
    obtain ⟨z, hz, rfl⟩ := Option.map_eq_some_iff.1 hv
    have hj : j < n := by have := (List.getElem?_eq_some_iff.1 hz).1; rw [HS.out.1] at this; exact this
    rw [Addr.add_lit, hc j hj]
    simp [List.getD, hz]
  case refine_3 => rw [List.length_map, HS.out.1, length_row, H.out.len]; omega
  case refine_4 => exact ints_oneCell _ _
  intro w2 hg hu
  go_wp2_with fail
  go_ret
  have hg := hg.out
  rw [row_splice] at hg
  refine ⟨rfl, ⟨?_, ?_, hg⟩, hu⟩
  · rw [length_splice _ _ _ (by rw [HS.out.1, H.out.len]; omega), H.out.len]
  · unfold splice
    exact (H.out.bytes.take _).append (HB.out.append (H.out.bytes.drop _))

end Go.Proofs.Ytnmgapnblmikeaa
