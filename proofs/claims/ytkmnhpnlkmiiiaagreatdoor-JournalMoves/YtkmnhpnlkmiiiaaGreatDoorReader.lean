/- What wire's reader does: it is made over its own copy; it tells what is left; it reads a number, or stays where it was. -/
import Derived.Test.YtkmnhpnlkmiiiaaGreatDoorRoom
import Derived.Test.YtkmnhpnlkmiiiaaGreatDoorNumber
import Derived.Deep.QuietTactic
import Derived.BigQuiet
namespace Go.Proofs.YtkmnhpnlkmiiiaaGreatDoor
open Go.RowKit Num
set_option maxRecDepth 20000

/-- Nothing but block 'p' has turned, and none is new. -/
structure Only (p : Nat) (w w' : World) : Prop where
  os : w'.os = w.os
  tape : w'.tape = w.tape
  output : w'.output = w.output
  size : w'.heap.size = w.heap.size
  block : ∀ k, k ≠ p → w'.heap[k]? = w.heap[k]?
theorem Only.refl (p : Nat) (w : World) : Only p w w := ⟨rfl, rfl, rfl, rfl, fun _ _ => rfl⟩
theorem Only.trans {p : Nat} {a b c : World} (h : Only p a b) (k : Only p b c) : Only p a c := ⟨k.os.trans h.os, k.tape.trans h.tape, k.output.trans h.output, k.size.trans h.size, fun i hi => (k.block i hi).trans (h.block i hi)⟩
theorem Only.drewN {p : Nat} {w : World} (n : Nat) : Only p w (w.drewN n) := ⟨rfl, rfl, rfl, rfl, fun _ _ => rfl⟩
theorem Only.setCell {p : Nat} {w : World} (i : Nat) (v : Value) : Only p w (w.setCell ⟨p, i, none⟩ v) := ⟨rfl, rfl, rfl, by simp [World.setCell], fun k hk => heap_setCell_other w _ k v hk⟩
theorem Only.below {p B : Nat} {w w' : World} (h : Only p w w') (hp : B ≤ p) : Below B w w' := ⟨h.os, h.tape, h.output, by rw [h.size]; exact Nat.le_refl _, fun k hk => h.block k (by omega)⟩

theorem Src.only {w w' : World} {p g len : Nat} {zs : List Int} (h : Src w (some ⟨g, 0, none⟩) len zs) (ho : Only p w w') (hg : g ≠ p) : Src w' (some ⟨g, 0, none⟩) len zs :=
  ⟨h.1, fun hl => by
    obtain ⟨b, o, e, hlt, hc⟩ := h.2 hl
    simp only [Option.some.injEq, Addr.mk.injEq] at e
    obtain ⟨rfl, rfl, _⟩ := e
    exact ⟨g, 0, rfl, by rw [ho.size]; exact hlt, fun j hj => (World.cell?_of_block (w := w) (ho.block g hg)).trans (hc j hj)⟩⟩

/-- A reader at block 'p', of the bytes 'zs' at block 'g', of which 'at' were read. -/
structure Rdr (w : World) (B p g len at_ : Nat) (zs : List Int) : Prop where
  own : w.heap[p]? = some (.cells #[.slice (some ⟨g, 0, none⟩) len len, .int .i64 at_, .bool true] 171 (0, 0))
  src : Src w (some ⟨g, 0, none⟩) len zs
  lo : B ≤ g
  mid : B ≤ p
  ne : g ≠ p
  fit : at_ ≤ len
  cap : len ≤ 281474976710656
  gl : g < w.heap.size

theorem Rdr.len {w : World} {B p g len at_ : Nat} {zs : List Int} (h : Rdr w B p g len at_ zs) : zs.length = len := h.src.1
theorem Rdr.c0 {w : World} {B p g len at_ : Nat} {zs : List Int} (h : Rdr w B p g len at_ zs) : w.cell? ⟨p, 0, none⟩ = some (.slice (some ⟨g, 0, none⟩) len len) := cell_of_row w p 0 _ _ _ h.own
theorem Rdr.c1 {w : World} {B p g len at_ : Nat} {zs : List Int} (h : Rdr w B p g len at_ zs) : w.cell? ⟨p, 1, none⟩ = some (.int .i64 at_) := cell_of_row w p 1 _ _ _ h.own
theorem Rdr.c2 {w : World} {B p g len at_ : Nat} {zs : List Int} (h : Rdr w B p g len at_ zs) : w.cell? ⟨p, 2, none⟩ = some (.bool true) := cell_of_row w p 2 _ _ _ h.own
theorem Rdr.f1 {w : World} {B p g len at_ : Nat} {zs : List Int} (h : Rdr w B p g len at_ zs) : w.frozen? ⟨p, 1, none⟩ = false := frozen_of_row w p 1 _ _ h.own

set_option maxHeartbeats 400000 in
theorem over_any (a0 : Option Addr) (len cap : Nat) (zs : List Int) (w : World) (hs : Src w a0 len zs) (hr : len ≤ 281474976710656) :
    Calls Tryz.prog 96 #[.slice a0 len cap] w fun e w' => ∃ p, e = .returned (.pointer (some ⟨p, 0, none⟩)) ∧ Rdr w' w.heap.size p w.heap.size len 0 zs ∧ p < w'.heap.size ∧ Below w.heap.size w w' := by
  have hroom := hid (fun wx hx => room_any a0 len cap 0 zs wx hx (by omega))
  have HS := hid hs
  clear hs
  go_enter Tryz.func96, Tryz.ntmps96
  go_wp2_with fail
  refine (hroom.out _ HS.out).mono ?_
  rintro e w1 ⟨rfl, hown, hb⟩
  rw [Nat.add_zero] at hown
  have HO := hid hown
  clear hown
  go_wp2_with fail
  go_ret
  have hlt := HO.out.lt w.heap.size rfl
  have hb2 := hb.alloc hb.size (.cells #[.slice (some ⟨w.heap.size, 0, none⟩) len len, .int .i64 0, .bool true] 171)
  exact ⟨w1.heap.size, rfl, ⟨heap_alloc_new w1 _, (Src.own HO.out).below ((Below.refl _ _).alloc (Nat.le_refl _) _), Nat.le_refl _, hb.size, by omega, Nat.zero_le _, hr, by simp; omega⟩, by simp, hb2⟩

theorem usable_any (p : Nat) (w : World) (h2 : w.cell? ⟨p, 2, none⟩ = some (.bool true)) :
    Calls Tryz.prog 100 #[.pointer (some ⟨p, 0, none⟩)] w fun e w' => e = .returned (.bool true) ∧ w' = w := by
  go_enter Tryz.func100, Tryz.ntmps100
  go_wp2
  go_ret
  exact ⟨rfl, rfl⟩

/-- What is left of a reader's bytes, as 'rest' hands it out. -/
theorem rest_any (B p g len at_ : Nat) (zs : List Int) (w : World) (h : Rdr w B p g len at_ zs) :
    Calls Tryz.prog 101 #[.pointer (some ⟨p, 0, none⟩)] w fun e w' => ∃ a0, e = .returned (.slice a0 (len - at_) (len - at_)) ∧ Src w a0 (len - at_) (zs.drop at_) ∧ a0 ≠ none ∧ ∃ n, w' = w.drewN n := by
  have c0 := h.c0
  have c1 := h.c1
  have hf := h.fit
  have hcp := h.cap
  have hlen := h.len
  have hsrc : ∀ a0, (at_ < len → a0 = some (⟨g, at_, none⟩ : Addr)) → Src w a0 (len - at_) (zs.drop at_) := by
    intro a0 ha
    refine ⟨by rw [List.length_drop, hlen], fun hl => ?_⟩
    obtain ⟨b, o, e, hlt, hc⟩ := h.src.2 (by omega)
    simp only [Option.some.injEq, Addr.mk.injEq] at e
    obtain ⟨rfl, rfl, _⟩ := e
    refine ⟨g, at_, ha (by omega), hlt, fun j hj => ?_⟩
    rw [← Nat.zero_add (at_ + j), hc (at_ + j) (by omega)]
    simp [List.getD, List.getElem?_drop]
  have HS := hid hsrc
  clear h hsrc hlen
  rcases Nat.eq_or_lt_of_le hf with h | h
  · subst h
    rw [Nat.sub_self] at HS ⊢
    go_enter Tryz.func101, Tryz.ntmps101
    go_wp2
    go_quiet (fail)
    go_wp2
    go_ret
    exact ⟨some ⟨g, 0, none⟩, rfl, HS.out _ (fun h => by omega), by simp, _, rfl⟩
  · have hne : ¬ len = at_ := by omega
    go_enter Tryz.func101, Tryz.ntmps101
    go_wp2
    go_quiet (fail)
    go_wp2
    go_ret
    exact ⟨some ⟨g, at_, none⟩, rfl, HS.out _ (fun _ => rfl), by simp, _, rfl⟩

theorem pass_any (p at_ n : Nat) (w : World) (h1 : w.cell? ⟨p, 1, none⟩ = some (.int .i64 at_)) (hf : w.frozen? ⟨p, 1, none⟩ = false) (hb : at_ + n ≤ 9223372036854775807) :
    Calls Tryz.prog 103 #[.pointer (some ⟨p, 0, none⟩), .int .i64 n] w fun e w' => e = .returned (.tuple #[]) ∧ w' = w.setCell ⟨p, 1, none⟩ (.int .i64 ((at_ + n : Nat) : Int)) := by
  go_enter Tryz.func103, Tryz.ntmps103
  go_wp2
  go_end0
  exact ⟨rfl, by rw [show ((at_ + n : Nat) : Int) = (at_ : Int) + n by omega]⟩

/-- A reader that passes bytes. -/
theorem Rdr.pass {w : World} {B p g len at_ : Nat} {zs : List Int} (h : Rdr w B p g len at_ zs) (n : Nat) (hn : at_ + n ≤ len) : Rdr (w.setCell ⟨p, 1, none⟩ (.int .i64 ((at_ + n : Nat) : Int))) B p g len (at_ + n) zs :=
  ⟨by rw [heap_setCell_same w p 1 _ _ _ h.own]; rfl, h.src.only (Only.setCell 1 _) h.ne, h.lo, h.mid, h.ne, hn, h.cap, by simpa using h.gl⟩
theorem Rdr.only {w w' : World} {B p q g len at_ : Nat} {zs : List Int} (h : Rdr w B p g len at_ zs) (ho : Only q w w') (hq : p ≠ q) (hg : g ≠ q) : Rdr w' B p g len at_ zs :=
  ⟨by rw [ho.block p hq]; exact h.own, h.src.only ho hg, h.lo, h.mid, h.ne, h.fit, h.cap, by rw [ho.size]; exact h.gl⟩
theorem Rdr.drewN {w : World} {B p g len at_ : Nat} {zs : List Int} (h : Rdr w B p g len at_ zs) (n : Nat) : Rdr (w.drewN n) B p g len at_ zs :=
  ⟨h.own, h.src.only (p := p) (Only.drewN n) h.ne, h.lo, h.mid, h.ne, h.fit, h.cap, h.gl⟩

theorem Src.heap {w w' : World} {a0 : Option Addr} {len : Nat} {zs : List Int} (h : Src w a0 len zs) (e : w'.heap = w.heap) : Src w' a0 len zs :=
  ⟨h.1, fun hl => by
    obtain ⟨b, o, q, hlt, hc⟩ := h.2 hl
    exact ⟨b, o, q, by rw [e]; exact hlt, fun j hj => (World.cell?_of_block (w := w) (by rw [e])).trans (hc j hj)⟩⟩
theorem Rdr.heap {w w' : World} {B p g len at_ : Nat} {zs : List Int} (h : Rdr w B p g len at_ zs) (e : w'.heap = w.heap) : Rdr w' B p g len at_ zs :=
  ⟨by rw [e]; exact h.own, h.src.heap e, h.lo, h.mid, h.ne, h.fit, h.cap, by rw [e]; exact h.gl⟩
theorem Src.take {w : World} {a0 : Option Addr} {len : Nat} {zs : List Int} (h : Src w a0 len zs) (k : Nat) (hk : k ≤ len) : Src w a0 k (zs.take k) :=
  ⟨by rw [List.length_take, h.1]; omega, fun hl => by
    obtain ⟨b, o, q, hlt, hc⟩ := h.2 (by omega)
    exact ⟨b, o, q, hlt, fun j hj => by rw [hc j (by omega)]; simp [List.getD, hj]⟩⟩

theorem left_any (B p g len at_ : Nat) (zs : List Int) (w : World) (h : Rdr w B p g len at_ zs) :
    Calls Tryz.prog 97 #[.pointer (some ⟨p, 0, none⟩)] w fun e w' => e = .returned (.int .i64 ((len - at_ : Nat) : Int)) ∧ ∃ n, w' = w.drewN n := by
  have k1 := hid (usable_any p w h.c2)
  have k2 := hid (rest_any B p g len at_ zs w h)
  clear h
  go_enter Tryz.func97, Tryz.ntmps97
  go_wp2_with fail
  refine k1.out.mono ?_
  rintro e w1 ⟨rfl, rfl⟩
  go_wp2_with fail
  refine k2.out.mono ?_
  rintro e w2 ⟨a0, rfl, _, _, n, rfl⟩
  go_wp2_with fail
  go_ret
  exact ⟨rfl, n, rfl⟩

end Go.Proofs.YtkmnhpnlkmiiiaaGreatDoor
