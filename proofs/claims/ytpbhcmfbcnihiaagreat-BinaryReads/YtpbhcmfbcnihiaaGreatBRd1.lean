/- What it is that a codec's Read reads; the codecs of numbers, whole numbers, texts, and of the end. -/
import Derived.Test.YtpbhcmfbcnihiaaGreatBWr1
import Derived.Test.YtpbhcmfbcnihiaaGreatRead
import Derived.Test.YtpbhcmfbcnihiaaGreatGMid
import Derived.Laws.EntriesVeiled
import Derived.Lib.ConvBytes
namespace Go.Proofs.YtpbhcmfbcnihiaaGreat
open Go.RowKit Num
set_option linter.unusedVariables false
set_option maxRecDepth 20000

/-- What lies behind a Read: an error; or all that was read, and the reader behind it. -/
def RdPost {α : Type} (W : World) (N : Nat → Prop) (L p g len at_ : Nat) (zs : List Int) (b o : Nat) (C : List Value) (t : TypeId) (sz : Nat) (Is : (Nat → Prop) → World → List Value → α → Prop) (R : Option (α × Nat)) : Ending → World → Prop := fun e W' =>
  Upd (fun k => k = p ∨ k = b) W W' ∧ match R with
    | none => ∃ t u, e = .returned (.iface t u)
    | some (x, n) => e = .returned .nilIface ∧ Rdr W' L p g len (at_ + n) zs ∧ ∃ cs, cs.length = sz ∧ W'.heap[b]? = some (.cells (splice C o cs).toArray t (0, 0)) ∧ Is N W' cs x

/-- What a codec's Read is: it reads a thing into its cells. -/
def Rd {α : Type} (B : Nat) (wc : World) (sz : Nat) (Is : (Nat → Prop) → World → List Value → α → Prop) (rd : α → List Int → Option (α × Nat)) (K : Nat) (caps : Array Value) : Prop :=
  (∀ (args : Array Value) (w : World), (callFunc K args).run Tryz.prog w = .ok (.enter K args) w) ∧
  ∀ (W : World) (N : Nat → Prop) (p g len at_ : Nat) (zs : List Int) (b o : Nat) (C : List Value) (t : TypeId) (x : α),
    Upd (fun k => k < B) wc W → Rdr W wc.heap.size p g len at_ zs → Bytes zs → (b < B ∨ wc.heap.size ≤ b) → b ≠ p → b ≠ g → W.heap[b]? = some (.cells C.toArray t (0, 0)) → o + sz ≤ C.length → Is N W ((C.drop o).take sz) x → (∀ k, W.heap.size ≤ k → N k) → ¬ N p → ¬ N b →
    Calls Tryz.prog K (#[.pointer (some ⟨p, 0, none⟩), .pointer (some ⟨b, o, none⟩)] ++ caps) W (RdPost W N wc.heap.size p g len at_ zs b o C t sz Is (rd x (zs.drop at_)))

theorem Rdr.lower {w : World} {B B' p g len at_ : Nat} {zs : List Int} (h : Rdr w B p g len at_ zs) (hB : B' ≤ B) : Rdr w B' p g len at_ zs := { h with lo := Nat.le_trans hB h.lo, mid := Nat.le_trans hB h.mid }
theorem Rdr.raise {w : World} {B B' p g len at_ : Nat} {zs : List Int} (h : Rdr w B p g len at_ zs) (h1 : B' ≤ g) (h2 : B' ≤ p) : Rdr w B' p g len at_ zs := { h with lo := h1, mid := h2 }
theorem Rd.more {α : Type} {B B' : Nat} {wc wc' : World} {sz : Nat} {Is : (Nat → Prop) → World → List Value → α → Prop} {rd : α → List Int → Option (α × Nat)} {K : Nat} {caps : Array Value} (h : Rd B wc sz Is rd K caps) (hB : B' ≤ B) (hu : Upd (fun k => k < B) wc wc') : Rd B' wc' sz Is rd K caps :=
  ⟨h.1, fun W N p g len at_ zs b o C t x h1 h2 h3 h4 h5 h6 h7 h8 h9 h10 h11 h12 => by
    refine (h.2 W N p g len at_ zs b o C t x (hu.trans h1 (fun _ _ hx => Nat.lt_of_lt_of_le hx hB)) (h2.lower hu.size) h3 (h4.imp (fun h => Nat.lt_of_lt_of_le h hB) (fun h => Nat.le_trans hu.size h)) h5 h6 h7 h8 h9 h10 h11 h12).mono ?_
    rintro e W' ⟨hU, hR⟩
    refine ⟨hU, ?_⟩
    cases hr : rd x (zs.drop at_) with
    | none => rw [hr] at hR; exact hR
    | some y =>
      rw [hr] at hR
      obtain ⟨e1, e2, e3⟩ := hR
      exact ⟨e1, e2.raise h2.lo h2.mid, e3⟩⟩
theorem Rd.imp {α : Type} {B : Nat} {wc : World} {sz : Nat} {Is : (Nat → Prop) → World → List Value → α → Prop} {rd rd' : α → List Int → Option (α × Nat)} {K : Nat} {caps : Array Value} (h : Rd B wc sz Is rd K caps) (he : ∀ x zs, rd' x zs = rd x zs) : Rd B wc sz Is rd' K caps := by
  have : rd' = rd := funext fun x => funext fun zs => he x zs
  rw [this]; exact h

def IsI (N : Nat → Prop) (W : World) (cs : List Value) (n : Int) : Prop := cs = [.int .i64 n]
def IsB (N : Nat → Prop) (W : World) (cs : List Value) (zs : List Int) : Prop := ∃ a n c, cs = [.slice a n c] ∧ Src W a n zs ∧ (∀ b o, 0 < n → a = some ⟨b, o, none⟩ → N b) ∧ n ≤ c ∧ c ≤ 9223372036854775807
theorem IsB.keep {N : Nat → Prop} {W W' : World} {cs : List Value} {zs : List Int} (k : Keep N N W W') (h : IsB N W cs zs) : IsB N W' cs zs := by
  obtain ⟨a, n, c, h1, h2, h3, h4⟩ := h
  refine ⟨a, n, c, h1, ⟨h2.1, fun hl => ?_⟩, h3, h4⟩
  obtain ⟨b, o, e, hlt, hc⟩ := h2.2 hl
  exact ⟨b, o, e, Nat.lt_of_lt_of_le hlt k.1, fun j hj => (World.cell?_of_block (a := ⟨b, o + j, none⟩) (k.2 b (h3 b o hl e) hlt).2).trans (hc j hj)⟩

def rN (m : Int) (_ : Int) (zs : List Int) : Option (Int × Nat) := if (dec zs).2.2 = 0 then some (((dec zs).1 : Int) - m, (dec zs).2.1) else none
def rS (_ : Int) (zs : List Int) : Option (Int × Nat) := if (dec zs).2.2 = 0 then some (unf (dec zs).1, (dec zs).2.1) else none
def rT (m : Int) (_ : List Int) (zs : List Int) : Option (List Int × Nat) := if (txt zs m).2.2 = 0 then some ((txt zs m).1, (txt zs m).2.1) else none
def rE {α : Type} (x : α) (zs : List Int) : Option (α × Nat) := if zs.length = 0 then some (x, 0) else none

theorem wrap_ok (S : ByteArray) (w : World) : Calls Tryz.prog 62 #[.string S, .int .i64 0] w fun e w' => e = .returned .nilIface ∧ w' = w := by
  go_enter Tryz.func62, Tryz.ntmps62
  go_wp2
  go_ret
  exact ⟨rfl, rfl⟩
theorem wrap_err (S : ByteArray) (n : Nat) (hn : n ≠ 0) (w : World) : Calls Tryz.prog 62 #[.string S, .int .i64 n] w fun e w' => (∃ t u, e = .returned (.iface t u)) ∧ w' = w := by
  have h : ((n : Int) == 0) = false := by simp [hn]
  go_enter Tryz.func62, Tryz.ntmps62
  go_wp2
  go_ret
  exact ⟨⟨_, _, rfl⟩, rfl⟩

/-- One cell of a block is stored. -/
theorem splice_one (C : List Value) (o : Nat) (v : Value) (h : o < C.length) : splice C o [v] = C.set o v := by
  unfold splice
  rw [List.set_eq_take_append_cons_drop, if_pos h]
  simp
theorem one_stored {w : World} {b o : Nat} {C : List Value} {t : TypeId} (h : w.heap[b]? = some (.cells C.toArray t (0, 0))) (ho : o < C.length) (v : Value) : (w.setCell ⟨b, o, none⟩ v).heap[b]? = some (.cells (splice C o [v]).toArray t (0, 0)) := by
  rw [heap_setCell_same w b o _ _ v h, splice_one C o v ho]
  simp
theorem at_block {w : World} {b o : Nat} {C : List Value} {t : TypeId} (h : w.heap[b]? = some (.cells C.toArray t (0, 0))) (v : Value) (hv : C[o]? = some v) : w.cell? ⟨b, o, none⟩ = some v := by
  rw [cell_of_row w b o _ _ _ h]; simpa using hv
theorem first_of {C : List Value} {o : Nat} {v : Value} (h : (C.drop o).take 1 = [v]) : C[o]? = some v := by
  have : ((C.drop o).take 1)[0]? = some v := by rw [h]; rfl
  simpa [List.getElem?_drop] using this

set_option maxHeartbeats 4000000 in
theorem number_rd (m : Int) (hm : m = 0 ∨ m = 1) (B q : Nat) (wc : World) (hqB : B ≤ q) (hq : wc.cell? ⟨q, 0, none⟩ = some (.int .i64 m)) (hql : q < wc.heap.size) : Rd B wc 1 IsI (rN m) 67 #[.pointer (some ⟨q, 0, none⟩)] := by
  refine ⟨fun args w => by kernel_rfl, fun W N p g len at_ zs b o C t x hW hR hz hbB hbp hbg hC hl hI hN hNp hNb => ?_⟩
  show Calls Tryz.prog 67 #[.pointer (some ⟨p, 0, none⟩), .pointer (some ⟨b, o, none⟩), .pointer (some ⟨q, 0, none⟩)] W _
  have hs := hW.size
  have hmid := hR.mid
  have c1 := (hW.atc 0 hql (by omega)).trans hq
  have ku := hid (uint_any wc.heap.size p g len at_ zs W hR hz)
  have hd := dec_got (zs.drop at_) (hz.drop at_)
  have hbl : b < W.heap.size := (Array.getElem?_eq_some_iff.1 hC).1
  have hqb : q ≠ b := by omega
  unfold rN
  generalize dec (zs.drop at_) = D at ku hd ⊢
  obtain ⟨n, k, e⟩ := D
  simp only at ku hd ⊢
  have hn : n < 9223372036854775808 := by rcases hd with h | h <;> omega
  have hC0 := at_block hC _ (first_of hI)
  have HC := hid hC
  have hf0 : W.frozen? ⟨b, o, none⟩ = false := frozen_of_row W b o _ _ hC
  have HR := hid hR
  have HL : Hid (o < C.length) := hid hl
  clear hd hI hR hC hN hNp hNb hW hz
  have hwr : wrap64 ((n : Int) - m) = (n : Int) - m := by unfold wrap64; omega
  by_cases he : e = 0
  · subst he
    have kw := hid (wrap_ok ⟨#[119, 105, 114, 101, 46, 85, 105, 110, 116]⟩)
    simp only [if_true]
    go_enter Tryz.func67, Tryz.ntmps67
    go_wp2_with fail
    refine ku.out.mono ?_
    rintro e w1 ⟨rfl, hR1, hO1⟩
    have d1 : w1.cell? ⟨q, 0, none⟩ = some (.int .i64 m) := (World.cell?_of_block (a := ⟨q, 0, none⟩) (hO1.block q (by omega))).trans c1
    have hC1 : w1.heap[b]? = some (.cells C.toArray t (0, 0)) := (hO1.block b hbp).trans HC.out
    have e1 : w1.cell? ⟨b, o, none⟩ = some (.int .i64 x) := (World.cell?_of_block (a := ⟨b, o, none⟩) (hO1.block b hbp)).trans hC0
    have f1 : w1.frozen? ⟨b, o, none⟩ = false := frozen_of_row w1 b o _ _ hC1
    have HC2 := hid (one_stored hC1 HL.out (.int .i64 ((n : Int) - m)))
    have HR2 := hid (hR1.only (Only.setCell (p := b) o (.int .i64 ((n : Int) - m))) (Ne.symm hbp) (Ne.symm hbg))
    have HU : Hid (Upd (fun k => k = p ∨ k = b) W (w1.setCell ⟨b, o, none⟩ (.int .i64 ((n : Int) - m)))) := hid ((show Upd (fun k => k = p ∨ k = b) W w1 from ⟨hO1.os, hO1.tape, hO1.output, Nat.le_of_eq hO1.size.symm, fun k _ hk => hO1.block k (fun h => hk (.inl h))⟩).trans (Upd.setCell (F := fun k => k = p ∨ k = b) w1 ⟨b, o, none⟩ _ (.inr rfl)) (fun _ _ h => h))
    clear hR1 hO1 hC1
    go_wp2_with fail
    refine (kw.out _).mono ?_
    rintro e w3 ⟨rfl, rfl⟩
    go_wp2_with fail
    go_ret
    exact ⟨HU.out, rfl, HR2.out, _, rfl, HC2.out, rfl⟩
  · have kw := hid (wrap_err ⟨#[119, 105, 114, 101, 46, 85, 105, 110, 116]⟩ e he)
    simp only [if_neg he]
    go_enter Tryz.func67, Tryz.ntmps67
    go_wp2_with fail
    refine ku.out.mono ?_
    rintro e w1 ⟨rfl, hR1, hO1⟩
    have d1 : w1.cell? ⟨q, 0, none⟩ = some (.int .i64 m) := (World.cell?_of_block (a := ⟨q, 0, none⟩) (hO1.block q (by omega))).trans c1
    have hC1 : w1.heap[b]? = some (.cells C.toArray t (0, 0)) := (hO1.block b hbp).trans HC.out
    have e1 : w1.cell? ⟨b, o, none⟩ = some (.int .i64 x) := (World.cell?_of_block (a := ⟨b, o, none⟩) (hO1.block b hbp)).trans hC0
    have f1 : w1.frozen? ⟨b, o, none⟩ = false := frozen_of_row w1 b o _ _ hC1
    have HU : Hid (Upd (fun k => k = p ∨ k = b) W (w1.setCell ⟨b, o, none⟩ (.int .i64 ((n : Int) - m)))) := hid ((show Upd (fun k => k = p ∨ k = b) W w1 from ⟨hO1.os, hO1.tape, hO1.output, Nat.le_of_eq hO1.size.symm, fun k _ hk => hO1.block k (fun h => hk (.inl h))⟩).trans (Upd.setCell (F := fun k => k = p ∨ k = b) w1 ⟨b, o, none⟩ _ (.inr rfl)) (fun _ _ h => h))
    clear hR1 hO1 hC1
    go_wp2_with fail
    refine (kw.out _).mono ?_
    rintro e w3 ⟨⟨t', u', rfl⟩, rfl⟩
    go_wp2_with fail
    go_ret
    exact ⟨HU.out, t', u', rfl⟩

set_option maxHeartbeats 4000000 in
theorem whole_rd (B : Nat) (wc : World) : Rd B wc 1 IsI rS 116 #[] := by
  refine ⟨fun args w => by kernel_rfl, fun W N p g len at_ zs b o C t x hW hR hz hbB hbp hbg hC hl hI hN hNp hNb => ?_⟩
  show Calls Tryz.prog 116 #[.pointer (some ⟨p, 0, none⟩), .pointer (some ⟨b, o, none⟩)] W _
  have hs := hW.size
  have hmid := hR.mid
  have ku := hid (rsigned_any wc.heap.size p g len at_ zs W hR hz)
  have hd := dec_got (zs.drop at_) (hz.drop at_)
  have hbl : b < W.heap.size := (Array.getElem?_eq_some_iff.1 hC).1
  unfold rS
  generalize dec (zs.drop at_) = D at ku hd ⊢
  obtain ⟨n, k, e⟩ := D
  simp only at ku hd ⊢
  have hn : n < 9223372036854775808 := by rcases hd with h | h <;> omega
  have hC0 := at_block hC _ (first_of hI)
  have HC := hid hC
  have hf0 : W.frozen? ⟨b, o, none⟩ = false := frozen_of_row W b o _ _ hC
  have HR := hid hR
  have HL : Hid (o < C.length) := hid hl
  clear hd hI hR hC hN hNp hNb hW hz
  by_cases he : e = 0
  · subst he
    have kw := hid (wrap_ok ⟨#[119, 105, 114, 101, 46, 83, 105, 103, 110, 101, 100]⟩)
    simp only [if_true]
    go_enter Tryz.func116, Tryz.ntmps116
    go_wp2_with fail
    refine ku.out.mono ?_
    rintro e w1 ⟨rfl, hR1, hO1⟩
    have hC1 : w1.heap[b]? = some (.cells C.toArray t (0, 0)) := (hO1.block b hbp).trans HC.out
    have e1 : w1.cell? ⟨b, o, none⟩ = some (.int .i64 x) := (World.cell?_of_block (a := ⟨b, o, none⟩) (hO1.block b hbp)).trans hC0
    have f1 : w1.frozen? ⟨b, o, none⟩ = false := frozen_of_row w1 b o _ _ hC1
    have HC2 := hid (one_stored hC1 HL.out (.int .i64 (unf n)))
    have HR2 := hid (hR1.only (Only.setCell (p := b) o (.int .i64 (unf n))) (Ne.symm hbp) (Ne.symm hbg))
    have HU : Hid (Upd (fun k => k = p ∨ k = b) W (w1.setCell ⟨b, o, none⟩ (.int .i64 (unf n)))) := hid ((show Upd (fun k => k = p ∨ k = b) W w1 from ⟨hO1.os, hO1.tape, hO1.output, Nat.le_of_eq hO1.size.symm, fun k _ hk => hO1.block k (fun h => hk (.inl h))⟩).trans (Upd.setCell (F := fun k => k = p ∨ k = b) w1 ⟨b, o, none⟩ _ (.inr rfl)) (fun _ _ h => h))
    clear hR1 hO1 hC1
    go_wp2_with fail
    refine (kw.out _).mono ?_
    rintro e w3 ⟨rfl, rfl⟩
    go_wp2_with fail
    go_ret
    exact ⟨HU.out, rfl, HR2.out, _, rfl, HC2.out, rfl⟩
  · have kw := hid (wrap_err ⟨#[119, 105, 114, 101, 46, 83, 105, 103, 110, 101, 100]⟩ e he)
    simp only [if_neg he]
    go_enter Tryz.func116, Tryz.ntmps116
    go_wp2_with fail
    refine ku.out.mono ?_
    rintro e w1 ⟨rfl, hR1, hO1⟩
    have hC1 : w1.heap[b]? = some (.cells C.toArray t (0, 0)) := (hO1.block b hbp).trans HC.out
    have e1 : w1.cell? ⟨b, o, none⟩ = some (.int .i64 x) := (World.cell?_of_block (a := ⟨b, o, none⟩) (hO1.block b hbp)).trans hC0
    have f1 : w1.frozen? ⟨b, o, none⟩ = false := frozen_of_row w1 b o _ _ hC1
    have HU : Hid (Upd (fun k => k = p ∨ k = b) W (w1.setCell ⟨b, o, none⟩ (.int .i64 (unf n)))) := hid ((show Upd (fun k => k = p ∨ k = b) W w1 from ⟨hO1.os, hO1.tape, hO1.output, Nat.le_of_eq hO1.size.symm, fun k _ hk => hO1.block k (fun h => hk (.inl h))⟩).trans (Upd.setCell (F := fun k => k = p ∨ k = b) w1 ⟨b, o, none⟩ _ (.inr rfl)) (fun _ _ h => h))
    clear hR1 hO1 hC1
    go_wp2_with fail
    refine (kw.out _).mono ?_
    rintro e w3 ⟨⟨t', u', rfl⟩, rfl⟩
    go_wp2_with fail
    go_ret
    exact ⟨HU.out, t', u', rfl⟩

end Go.Proofs.YtpbhcmfbcnihiaaGreat
