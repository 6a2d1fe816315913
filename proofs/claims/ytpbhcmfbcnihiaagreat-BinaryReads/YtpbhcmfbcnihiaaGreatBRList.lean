/- Codecs of lists: what their Read reads. Written by gen_brlist.py. -/
import Derived.Test.YtpbhcmfbcnihiaaGreatBRJoin
import Derived.Test.YtpbhcmfbcnihiaaGreatBCan1
namespace Go.Proofs.YtpbhcmfbcnihiaaGreat
open Go.RowKit Num
set_option linter.unusedVariables false
set_option maxRecDepth 20000

def IsL {α : Type} (sz : Nat) (At : (Nat → Prop) → World → Nat → Nat → α → Prop) (N : Nat → Prop) (W : World) (cs : List Value) (l : List α) : Prop := ∃ a n c, cs = [.slice a n c] ∧ l.length = n ∧ n ≤ c ∧ c ≤ 9223372036854775807 ∧ Lies sz At N W a l
theorem IsL.keep {α : Type} {sz : Nat} {At : (Nat → Prop) → World → Nat → Nat → α → Prop} {N : Nat → Prop} {W W' : World} {cs : List Value} {l : List α} (hA : ∀ b o x, At N W b o x → At N W' b o x) (k : Keep N N W W') (h : IsL sz At N W cs l) : IsL sz At N W' cs l := by
  obtain ⟨a, n, c, h1, h2, h3, h4, h5⟩ := h
  exact ⟨a, n, c, h1, h2, h3, h4, h5.keep hA k⟩
/-- So many, one behind the other. -/
def rI {α : Type} (rd : α → List Int → Option (α × Nat)) (z : α) : Nat → List Int → Option (List α × Nat)
  | 0, _ => some ([], 0)
  | k + 1, zs => (rI rd z k zs).bind fun y => (rd z (zs.drop y.2)).map fun u => (y.1 ++ [u.1], y.2 + u.2)
def rL {α : Type} (most : Nat) (rd : α → List Int → Option (α × Nat)) (z : α) (_ : List α) (zs : List Int) : Option (List α × Nat) :=
  if (dec zs).2.2 = 0 then (if (dec zs).1 ≤ most then (rI rd z (dec zs).1 (zs.drop (dec zs).2.1)).map fun y => (y.1, (dec zs).2.1 + y.2) else none) else none
theorem rI_stop {α : Type} (rd : α → List Int → Option (α × Nat)) (z : α) (zs : List Int) : ∀ (k i : Nat), rI rd z i zs = none → i ≤ k → rI rd z k zs = none
  | 0, i, h, hi => by obtain rfl : i = 0 := by omega
                      exact h
  | k + 1, i, h, hi => by
    rcases Nat.eq_or_lt_of_le hi with rfl | h2
    · exact h
    · simp only [rI, rI_stop rd z zs k i h (by omega), Option.bind_none]
theorem rI_len {α : Type} (rd : α → List Int → Option (α × Nat)) (z : α) (zs : List Int) : ∀ (k : Nat) (y : List α × Nat), rI rd z k zs = some y → y.1.length = k
  | 0, y, h => by simp [rI] at h; subst h; rfl
  | k + 1, y, h => by
    simp only [rI] at h
    cases hk : rI rd z k zs with
    | none => rw [hk] at h; simp at h
    | some u =>
      rw [hk] at h
      simp only [Option.bind_some, Option.map_eq_some_iff] at h
      obtain ⟨v, _, rfl⟩ := h
      simp [rI_len rd z zs k u hk]

/-- The cells of so many noughts of a type. -/
theorem made_at (zc : Array Value) (n sz i : Nat) (hz : zc.size = sz) (h0 : 0 < sz) (hi : i < n) : (((madeCells zc (n * sz)).toList).drop (i * sz)).take sz = zc.toList := by
  have hm : (madeCells zc (n * sz)).size = n * sz := size_madeCells _ _
  have hle : (i + 1) * sz ≤ n * sz := Nat.mul_le_mul_right sz hi
  rw [Nat.succ_mul] at hle
  apply List.ext_getElem?
  intro j
  rcases Nat.lt_or_ge j sz with h | h
  · have hlt : i * sz + j < n * sz := by omega
    have e : (madeCells zc (n * sz))[i * sz + j]? = some zc[(i * sz + j) % zc.size]! := by
      unfold madeCells
      rw [Array.getElem?_map, Array.getElem?_eq_getElem (by simpa using hlt)]
      simp
    rw [List.getElem?_take_of_lt h, List.getElem?_drop, Array.getElem?_toList, Array.getElem?_toList, e, hz, show (i * sz + j) % sz = j by rw [Nat.mul_comm, Nat.mul_add_mod, Nat.mod_eq_of_lt h], Array.getElem?_eq_getElem (by omega)]
    simp [getElem!_pos, hz, h]
  · rw [List.getElem?_eq_none (by simp; omega), List.getElem?_eq_none (by simp; omega)]

theorem wpList_make_as {P : Program} (w : World) {ops : Array Oper} {rest : List Oper} {o : Oper} {a : Act} {Q : Exit → Act → World → Prop}
    (hg : o.guard = none) (l c : Operand) (t : TypeId) (hop : o.op = Op.makeSlice t l c)
    (e : TypeId) (i : TypeInfo) (z : Value) (size : Nat) (h1 : P.underlying t = some (.slice e)) (h2 : P.info? e = some i) (h3 : i.zero = some z) (h4 : i.size = size)
    (kl kc : IntKind) (L C : Int) (n m : Nat) (hl : a.eval l = .int kl L) (hc : a.eval c = .int kc C) (hL : L = (n : Int)) (hC : C = (m : Int)) (hnm : n ≤ m) (b2 : i.bytes * m ≤ 281474976710656) (b3 : m ≤ maxLen)
    (X : World) (hX : w.alloc (.cells (madeCells z.cells (m * size)) e) = X) (hK : wpList P ops Q rest (a.put o.dst (.slice (some ⟨w.heap.size, 0, none⟩) n m)) X) :
    wpList P ops Q (o :: rest) a w := wpList_make_lc w hg l c t hop e i z size h1 h2 h3 h4 kl kc L C n m hl hc hL hC hnm b2 b3 (hX ▸ hK)

/-- Another element's cells stay. -/
theorem splice_seg {α : Type} (D cs : List α) (n sz i j : Nat) (hD : D.length = n * sz) (hi : i < n) (hj : j < n) (hij : j ≠ i) (hc : cs.length = sz) : ((splice D (i * sz) cs).drop (j * sz)).take sz = (D.drop (j * sz)).take sz := by
  have h1 : (i + 1) * sz ≤ n * sz := Nat.mul_le_mul_right sz hi
  rw [Nat.succ_mul] at h1
  apply List.ext_getElem?
  intro k
  rcases Nat.lt_or_ge k sz with h | h
  · rw [List.getElem?_take_of_lt h, List.getElem?_take_of_lt h, List.getElem?_drop, List.getElem?_drop, getElem?_splice_out _ _ _ _ (by omega)]
    rcases Nat.lt_or_gt_of_ne hij with h2 | h2
    · left
      have h3 : (j + 1) * sz ≤ i * sz := Nat.mul_le_mul_right sz h2
      rw [Nat.succ_mul] at h3
      omega
    · right
      have h3 : (i + 1) * sz ≤ j * sz := Nat.mul_le_mul_right sz h2
      rw [Nat.succ_mul] at h3
      omega
  · rw [List.getElem?_eq_none (by simp; omega), List.getElem?_eq_none (by simp; omega)]
theorem seg_le (n sz i : Nat) (h : i < n) : i * sz + sz ≤ n * sz := by
  have h1 : (i + 1) * sz ≤ n * sz := Nat.mul_le_mul_right sz h
  rw [Nat.succ_mul] at h1
  exact h1
theorem Rdr.below {w w' : World} {B p g len at_ : Nat} {zs : List Int} (h : Rdr w B p g len at_ zs) (hb : Below w.heap.size w w') : Rdr w' B p g len at_ zs :=
  ⟨(hb.block p (Array.getElem?_eq_some_iff.1 h.own).1).trans h.own, h.src.below hb, h.lo, h.mid, h.ne, h.fit, h.cap, Nat.lt_of_lt_of_le h.gl hb.size⟩
theorem Rdr.pl {w : World} {B p g len at_ : Nat} {zs : List Int} (h : Rdr w B p g len at_ zs) : p < w.heap.size := (Array.getElem?_eq_some_iff.1 h.own).1

theorem infoTX : (Tryz.prog.info? 48).map (fun i => (i.zero, i.size, i.bytes)) = some (some (.agg #[.int .i64 0, .slice none 0 0, .slice none 0 0]), 3, 56) := by kernel_rfl

set_option maxHeartbeats 16000000 in
theorem listr_x {α : Type} (B : Nat) (wc : World) (qc qm qi : Nat) (hcB : B ≤ qc ∧ qc < wc.heap.size) (hmB : B ≤ qm ∧ qm < wc.heap.size) (hiB : B ≤ qi ∧ qi < wc.heap.size) (capsC capsI : Array Value) (most : Nat) (hmost : most ≤ 400)
    (At : (Nat → Prop) → World → Nat → Nat → α → Prop) (Is : (Nat → Prop) → World → List Value → α → Prop) (rd : α → List Int → Option (α × Nat)) (z : α)
    (h1 : wc.cell? ⟨qc, 1, none⟩ = some (.func (.func 67) #[] capsC)) (h2 : wc.cell? ⟨qm, 0, none⟩ = some (.int .i64 (most : Int))) (h3 : wc.cell? ⟨qi, 1, none⟩ = some (.func (.func 70) #[] capsI))
    (hC : Rd B wc 1 IsI (rN 0) 67 capsC) (hI : Rd B wc 3 Is rd 70 capsI) (hz0 : ∀ N W, Is N W [.int .i64 0, .slice none 0 0, .slice none 0 0] z)
    (hk : ∀ N W W' cs x, Keep N N W W' → Is N W cs x → Is N W' cs x) (hM : ∀ N N' W cs x, (∀ k, N k → N' k) → Is N W cs x → Is N' W cs x)
    (hA : ∀ (N : Nat → Prop) (W : World) (b o : Nat) (C : List Value) (t : TypeId) (x : α), N b → W.heap[b]? = some (.cells C.toArray t (0, 0)) → o + 3 ≤ C.length → Is N W ((C.drop o).take 3) x → At N W b o x) :
    Rd B wc 1 (IsL 3 At) (rL most rd z) 48 #[.pointer (some ⟨qc, 0, none⟩), .pointer (some ⟨qm, 0, none⟩), .pointer (some ⟨qi, 0, none⟩)] := by
  refine ⟨fun args w => by kernel_rfl, fun W N p g len at_ zs b o C t x hWc hR hz hbB hbp hbg hC0 hl hIs hN hNp hNb => ?_⟩
  show Calls Tryz.prog 48 #[.pointer (some ⟨p, 0, none⟩), .pointer (some ⟨b, o, none⟩), .pointer (some ⟨qc, 0, none⟩), .pointer (some ⟨qm, 0, none⟩), .pointer (some ⟨qi, 0, none⟩)] W _
  obtain ⟨i0, hi0, hzz, hz1, hz2⟩ := info_parts infoTX
  have hs := hWc.size
  have hmid := hR.mid
  have hlo := hR.lo
  have hpl := hR.pl
  have hgn : W.heap.size ≠ g := by have := hR.gl; omega
  have c1 := (hWc.atc 1 hcB.2 (by omega)).trans h1
  have hqcW : qc < W.heap.size := by omega
  have hbl : b < W.heap.size := (Array.getElem?_eq_some_iff.1 hC0).1
  have hgo1 := hC.1
  have hgo2 := hI.1
  have hd := dec_got (zs.drop at_) (hz.drop at_)
  have kc := hid (fun o' => hC.2 (W.alloc (.cells #[.int .i64 0] o')) (fun k => k ≠ p ∧ k ≠ W.heap.size) p g len at_ zs W.heap.size 0 [.int .i64 0] o' 0 (hWc.trans (Upd.alloc _ _ _) (fun _ _ h => h)) (hR.below (below_box W _)) hz (.inr hs) (by omega) hgn (heap_alloc_new W _) (by simp) rfl (fun k hk => ⟨by simp at hk; omega, by simp at hk; omega⟩) (fun h => h.1 rfl) (fun h => h.2 rfl))
  unfold rN at kc
  unfold rL
  generalize dec (zs.drop at_) = D at kc hd ⊢
  obtain ⟨n, k, e⟩ := D
  simp only at kc hd ⊢
  rw [List.drop_drop]
  generalize gR : (if e = 0 then (if n ≤ most then (rI rd z n (zs.drop (at_ + k))).map fun y => (y.1, k + y.2) else none) else none) = R
  have GR := hid gR
  clear gR
  have hn63 : n < 9223372036854775808 := by rcases hd with h | h <;> omega
  rw [Int.sub_zero] at kc
  obtain ⟨a0, n0, k0, hI0, _⟩ := hIs
  have HCO := hid (first_of hI0)
  have HW := hid hWc
  have HR := hid hR
  have HZ := hid hz
  have HC := hid hC0
  have HI := hid hI
  have HL : Hid (o < C.length) := hid hl
  have HN := hid hN
  have HNp := hid hNp
  have HNb := hid hNb
  have HK := hid hk
  have HM := hid hM
  have HA := hid hA
  have H0 := hid hz0
  have H2 := hid h2
  have H3 := hid h3
  have HBB := hid hbB
  have HG := hid hgn
  clear hI0 hWc hR hz hC0 hI hl hN hNp hNb hk hM hA hz0 hd hC h1 h2 h3 hbB hgn
  by_cases he : e = 0
  · subst he
    simp only [if_true] at kc GR
    go_enter Tryz.func48, Tryz.ntmps48
    go_wp2_with fail
    refine (kc.out _).mono ?_
    rintro e w2 ⟨hU2, rfl, hR2, cs, hcl, hC2, hI2⟩
    have hs2 := hU2.size
    simp at hs2
    unfold IsI at hI2
    subst hI2
    have hn2 : w2.cell? ⟨W.heap.size, 0, none⟩ = some (.int .i64 n) := at_block hC2 _ (by simp [splice])
    have hbW : Upd (fun k => k = p ∨ k = b) W w2 := ⟨hU2.os, hU2.tape, hU2.output, by omega, fun k hk hF => (hU2.block k (by simp; omega) (by omega)).trans ((below_box W _).block k hk)⟩
    have hbB := HBB.out
    have hwc2 : Upd (fun k => k < B) wc w2 := HW.out.trans hbW (fun k hk h => by rcases h with rfl | rfl <;> omega)
    have d2 := (hwc2.atc 0 hmB.2 (by omega)).trans H2.out
    have hqm2 : qm < w2.heap.size := by omega
    by_cases hnm : n ≤ most
    · have hnm' : ¬ ((most : Int) < (n : Int)) := by omega
      simp only [if_pos hnm] at GR
      have hby : i0.bytes * n ≤ 281474976710656 := by rw [hz2]; omega
      have hmx : n ≤ maxLen := by unfold maxLen; omega
      have hCw : w2.heap[b]? = some (.cells C.toArray t (0, 0)) := (hU2.block b (by simp; omega) (by omega)).trans (((below_box W _).block b hbl).trans HC.out)
      obtain ⟨q, gq⟩ : ∃ q, q = w2.heap.size := ⟨_, rfl⟩
      obtain ⟨X, gX⟩ : ∃ X, w2.alloc (.cells (madeCells (Value.agg #[.int .i64 0, .slice none 0 0, .slice none 0 0]).cells (n * 3)) 48) = X := ⟨_, rfl⟩
      have hX : Below w2.heap.size w2 X := by rw [← gX]; exact below_box _ _
      have hXs : X.heap.size = q + 1 := by rw [← gX, gq]; simp
      obtain ⟨D0, gD0⟩ : ∃ D0, D0 = (madeCells #[.int .i64 0, .slice none 0 0, .slice none 0 0] (n * 3)).toList := ⟨_, rfl⟩
      have hXq : X.heap[q]? = some (.cells D0.toArray 48 (0, 0)) := by rw [← gX, gD0, gq]; exact heap_alloc_new w2 _
      have hXb : X.heap[b]? = some (.cells C.toArray t (0, 0)) := (hX.block b (by omega)).trans hCw
      have x0 : X.cell? ⟨b, o, none⟩ = some (.slice a0 n0 k0) := at_block hXb _ HCO.out
      have xf : X.frozen? ⟨b, o, none⟩ = false := frozen_of_row X b o _ _ hXb
      have xn : X.cell? ⟨W.heap.size, 0, none⟩ = some (.int .i64 n) := (hX.cell (p := ⟨W.heap.size, 0, none⟩) (show W.heap.size < w2.heap.size by omega)).trans hn2
      obtain ⟨Y, gY⟩ : ∃ Y, X.setCell ⟨b, o, none⟩ (.slice (some ⟨q, 0, none⟩) n n) = Y := ⟨_, rfl⟩
      have uY : Upd (· = b) X Y := by rw [← gY]; exact Upd.setCell X ⟨b, o, none⟩ _ rfl
      have hYs : Y.heap.size = q + 1 := by rw [← gY]; simpa using hXs
      have hYb : Y.heap[b]? = some (.cells (splice C o [.slice (some ⟨q, 0, none⟩) n n]).toArray t (0, 0)) := by rw [← gY]; exact one_stored hXb HL.out _
      have hqb : q ≠ b := by omega
      have hYq := uY.heap hXq hqb
      have hYl : (splice C o [Value.slice (some ⟨q, 0, none⟩) n n])[o]? = some (.slice (some ⟨q, 0, none⟩) n n) := by
        have := getElem?_splice_in C [Value.slice (some ⟨q, 0, none⟩) n n] o 0 (by have := HL.out; simp; omega) (by simp)
        simpa using this
      have y0 : Y.cell? ⟨b, o, none⟩ = some (.slice (some ⟨q, 0, none⟩) n n) := at_block hYb _ hYl
      have hRY : Rdr Y wc.heap.size p g len (at_ + k) zs := by rw [← gY]; exact (hR2.below hX).only (Only.setCell (p := b) o _) (Ne.symm hbp) (Ne.symm hbg)
      have hgl := hR2.gl
      have hpl2 := hR2.pl
      have uWY : Upd (fun k => k = p ∨ k = b) W Y := (hbW.trans (Upd.of_below (F := fun k => k = p ∨ k = b) hX) (fun _ _ h => h)).trans (uY.mono (fun x _ hx => .inr hx)) (fun _ _ h => h)
      have wcY : Upd (fun k => k < B) wc Y := HW.out.trans uWY (fun k hk h => by rcases h with rfl | rfl <;> omega)
      have hD0 : D0.length = n * 3 := by rw [gD0, Array.length_toList, size_madeCells]
      have hZ0 : ∀ j, j < n → (D0.drop (j * 3)).take 3 = [.int .i64 0, .slice none 0 0, .slice none 0 0] := fun j hj => by rw [gD0, made_at #[.int .i64 0, .slice none 0 0, .slice none 0 0] n 3 j rfl (by omega) hj]
      obtain ⟨Q, gQ⟩ : ∃ Q, rI rd z n (zs.drop (at_ + k)) = Q := ⟨_, rfl⟩
      rw [gQ] at GR
      have HQ := hid gQ
      have GQ := hid gq
      have GX := hid gX
      have GY := hid gY
      have HYB := hid hYb
      have HYQ := hid hYq
      have HRY := hid hRY
      have HWY := hid uWY
      have HCY := hid wcY
      have HD0 := hid hD0
      have HZ0 := hid hZ0
      have HYS := hid hYs
      have HU0 := hid (And.intro hs2 hs)
      have hqs : W.heap.size < q := by omega
      have hpq : p ≠ q := by omega
      have hgq : g ≠ q := by omega
      have hqw : wc.heap.size ≤ q := by omega
      have hbY : b < Y.heap.size := by omega
      clear gQ gX gY hX hXs gD0 hXq hXb uY hYb hYq hYl hRY hgl hpl2 uWY wcY hD0 hZ0 hU2 hR2 hC2 hbW hwc2 hCw hcl hYs gq hs2 kc
      go_wp2_with (at_make; refine wpList_make_as _ rfl _ _ 22 rfl 48 i0 (.agg #[.int .i64 0, .slice none 0 0, .slice none 0 0]) 3 Tryz.underlying22 hi0 hzz hz1 _ _ _ _ n n rfl rfl rfl rfl (Nat.le_refl _) hby hmx X GX.out ?_)
      rw [← GQ.out, GY.out]
      go_loopw [31] (fun v wr => ∃ i : Nat, i ≤ n ∧ v = .int .i64 i ∧ ∃ (ys : List α) (m : Nat) (D : List Value), Hid (rI rd z i (zs.drop (at_ + k)) = some (ys, m)) ∧ Hid (Rdr wr wc.heap.size p g len (at_ + k + m) zs) ∧ Hid (D.length = n * 3) ∧ Hid (wr.heap[q]? = some (.cells D.toArray 48 (0, 0))) ∧ Hid (∀ j (h : j < ys.length), Is (fun k => N k ∧ k ≠ q) wr ((D.drop (j * 3)).take 3) ys[j]) ∧ Hid (∀ j, i ≤ j → j < n → (D.drop (j * 3)).take 3 = [.int .i64 0, .slice none 0 0, .slice none 0 0]) ∧ Hid (Upd (fun k => k = p ∨ k = q) Y wr)) (fun v _ => n - (intOf v).toNat)
      case atStart => exact ⟨0, Nat.zero_le _, rfl, [], 0, D0, hid rfl, HRY, HD0, HYQ, hid (fun j h => absurd h (Nat.not_lt_zero j)), hid (fun j _ hj => HZ0.out j hj), hid (Upd.refl _ _)⟩
      case round =>
        obtain ⟨i, hi, rfl, ys, m, D, Hy, HRr, HDl, HDq, HIs, HZs, HU⟩ := hrel
        by_cases hlt : i < n
        · have hyl : ys.length = i := rI_len rd z _ i (ys, m) Hy.out
          have hwr : Upd (fun k => k < B) wc wr := HCY.out.trans HU.out (fun k hk h => by rcases h with rfl | rfl <;> omega)
          have hsY := HU.out.size
          have hys := HYS.out
          have d0 : wr.cell? ⟨b, o, none⟩ = some (.slice (some ⟨q, 0, none⟩) n n) := (HU.out.atc o hbY (by omega)).trans y0
          have d1 := (hwr.atc 1 hiB.2 (by omega)).trans H3.out
          have hqr : q < wr.heap.size := by omega
          have hseg := seg_le n 3 i hlt
          have hdl := HDl.out
          have kw := hid (fun wx (hx' : Below wr.heap.size wr wx) (e : wx.heap = wr.heap) => HI.out.2 wx (fun k => N k ∧ k ≠ q) p g len (at_ + k + m) zs q (i * 3) D 48 z (hwr.trans (Upd.of_below hx') (fun _ _ h => h)) (HRr.out.heap e) HZ.out (.inr hqw) (Ne.symm hpq) (Ne.symm hgq) (by rw [e]; exact HDq.out) (by omega) (by rw [HZs.out i (Nat.le_refl _) hlt]; exact H0.out _ _) (fun k hk => ⟨HN.out k (by rw [e] at hk; omega), by rw [e] at hk; omega⟩) (fun h => HNp.out h.1) (fun h => h.2 rfl))
          have hSt := hid (rI_stop rd z (zs.drop (at_ + k)) n (i + 1))
          have hMo : rI rd z (i + 1) (zs.drop (at_ + k)) = (rd z (zs.drop (at_ + k + m))).map fun u => (ys ++ [u.1], m + u.2) := by
            simp only [rI, Hy.out, Option.bind_some, List.drop_drop]
          have hbr : b < wr.heap.size := by omega
          have hqi : qi < wr.heap.size := by omega
          have HQI : Hid ((¬ (qi = p ∨ qi = q)) ∧ ¬ (b = p ∨ b = q)) := hid (by omega)
          obtain ⟨E, gE⟩ : ∃ E, rd z (zs.drop (at_ + k + m)) = E := ⟨_, rfl⟩
          simp only [gE] at kw
          rw [gE] at hMo
          have HMo := hid hMo
          have HSt := hid hSt
          have HYL := hid hyl
          clear gE hMo hSt hyl hwr hsY hys hseg hdl
          cases E with
          | none =>
            go_wp2_with fail
            go_region_held3 (fun wx => wx.cell? ⟨b, o, none⟩ = some (.slice (some ⟨q, 0, none⟩) n n) ∧ wx.cell? ⟨qi, 1, none⟩ = some (.func (.func 70) #[] capsI)) (go_keep)
              ((go_at_call 70; refine (kw.out _ (below_hp (Below.refl _ wr) (by rfl) (by rfl) (by rfl) (by rfl)) (by rfl)).mono ?_; rintro e w3 ⟨hU3, t', u', rfl⟩; have HU3 : Hid (Upd (fun k => k = p ∨ k = q) wr w3) := hid ((Upd.of_below (below_hp (Below.refl _ wr) (by rfl) (by rfl) (by rfl) (by rfl))).trans hU3 (fun _ _ h => h)); have z0 : w3.cell? ⟨b, o, none⟩ = some (.slice (some ⟨q, 0, none⟩) n n) := (HU3.out.atc o hbr HQI.out.2).trans d0; have z1 : w3.cell? ⟨qi, 1, none⟩ = some (.func (.func 70) #[] capsI) := (HU3.out.atc 1 hqi HQI.out.1).trans d1; clear hU3))
            go_wp2_with fail
            go_ret
            have hQ0 : Q = none := HQ.out.symm.trans (HSt.out.out (by rw [HMo.out]; rfl) (by omega))
            have hys := HYS.out
            have hu := HU0.out
            refine ⟨⟨HU3.out.os.trans (HU.out.os.trans HWY.out.os), HU3.out.tape.trans (HU.out.tape.trans HWY.out.tape), HU3.out.output.trans (HU.out.output.trans HWY.out.output), Nat.le_trans HWY.out.size (Nat.le_trans HU.out.size HU3.out.size), fun k hk hF => (HU3.out.block k (by have := HWY.out.size; have := HU.out.size; omega) (by omega)).trans ((HU.out.block k (by have := HWY.out.size; omega) (by omega)).trans (HWY.out.block k hk hF))⟩, ?_⟩
            rw [← GR.out, hQ0]
            exact ⟨t', u', rfl⟩
          | some y =>
            go_wp2_with fail
            go_region_held3 (fun wx => wx.cell? ⟨b, o, none⟩ = some (.slice (some ⟨q, 0, none⟩) n n) ∧ wx.cell? ⟨qi, 1, none⟩ = some (.func (.func 70) #[] capsI)) (go_keep)
              ((go_at_call 70; refine (kw.out _ (below_hp (Below.refl _ wr) (by rfl) (by rfl) (by rfl) (by rfl)) (by rfl)).mono ?_; rintro e w3 ⟨hU3, rfl, hR3, cs, hcl3, hC3, hI3⟩; have HU3 : Hid (Upd (fun k => k = p ∨ k = q) wr w3) := hid ((Upd.of_below (below_hp (Below.refl _ wr) (by rfl) (by rfl) (by rfl) (by rfl))).trans hU3 (fun _ _ h => h)); have z0 : w3.cell? ⟨b, o, none⟩ = some (.slice (some ⟨q, 0, none⟩) n n) := (HU3.out.atc o hbr HQI.out.2).trans d0; have z1 : w3.cell? ⟨qi, 1, none⟩ = some (.func (.func 70) #[] capsI) := (HU3.out.atc 1 hqi HQI.out.1).trans d1; have H3r := hid (And.intro hR3 (And.intro hcl3 (And.intro hC3 hI3))); clear hU3 hR3 hcl3 hC3 hI3))
            obtain ⟨hR3, hcl3, hC3, hI3⟩ := H3r.out
            have HR3 : Hid (Rdr w3 wc.heap.size p g len (at_ + k + (m + y.2)) zs) := hid (by rw [← Nat.add_assoc]; exact hR3)
            have hdl := HDl.out
            have hseg := seg_le n 3 i hlt
            have HD3 : Hid ((splice D (i * 3) cs).length = n * 3) := hid (by rw [length_splice _ _ _ (by omega), hdl])
            have HC3 := hid hC3
            have HI3 : Hid (∀ j (h : j < (ys ++ [y.1]).length), Is (fun k => N k ∧ k ≠ q) w3 (((splice D (i * 3) cs).drop (j * 3)).take 3) (ys ++ [y.1])[j]) := hid (fun j hj => by
              have hyl := HYL.out
              rw [List.length_append, List.length_singleton] at hj
              rcases Nat.lt_or_ge j i with h | h
              · rw [splice_seg D cs n 3 i j hdl hlt (by omega) (by omega) hcl3, List.getElem_append_left (by omega)]
                exact HK.out _ _ _ _ _ (keep_rd HU3.out (fun h => HNp.out h.1) (fun h => h.2 rfl)) (HIs.out j (by omega))
              · obtain rfl : j = i := by omega
                rw [splice_at D cs (j * 3) 3 (by omega) hcl3, List.getElem_append_right (by omega)]
                simp only [hyl, Nat.sub_self, List.getElem_singleton]
                exact hI3)
            have HZ3 : Hid (∀ j, i + 1 ≤ j → j < n → ((splice D (i * 3) cs).drop (j * 3)).take 3 = [.int .i64 0, .slice none 0 0, .slice none 0 0]) := hid (fun j h1 h2 => by
              rw [splice_seg D cs n 3 i j hdl hlt h2 (by omega) hcl3]
              exact HZs.out j (by omega) h2)
            have HUU := hid (HU.out.trans HU3.out (fun _ _ h => h))
            clear hR3 hcl3 hC3 hI3 hdl hseg H3r
            go_wp2_with fail
            go_roundw
            case rel => exact ⟨i + 1, by omega, by go_num, ys ++ [y.1], m + y.2, splice D (i * 3) cs, hid HMo.out, HR3, HD3, HC3, HI3, HZ3, HUU⟩
            case measure => simp [intOf]; omega
        · obtain rfl : i = n := by omega
          have hQ0 : Q = some (ys, m) := HQ.out.symm.trans Hy.out
          subst hQ0
          go_wp2_with fail
          go_ret
          have hys := HYS.out
          have hu := HU0.out
          have hyl : ys.length = i := rI_len rd z _ i (ys, m) Hy.out
          refine ⟨⟨HU.out.os.trans HWY.out.os, HU.out.tape.trans HWY.out.tape, HU.out.output.trans HWY.out.output, Nat.le_trans HWY.out.size HU.out.size, fun k hk hF => (HU.out.block k (by have := HWY.out.size; omega) (by omega)).trans (HWY.out.block k hk hF)⟩, ?_⟩
          rw [← GR.out]
          refine ⟨rfl, by rw [← Nat.add_assoc]; exact HRr.out, [.slice (some ⟨q, 0, none⟩) i i], rfl, (HU.out.block b hbY (by omega)).trans HYB.out, ?_⟩
          refine ⟨some ⟨q, 0, none⟩, i, i, rfl, hyl, Nat.le_refl _, by omega, fun h0 => ⟨q, 0, rfl, HN.out q (by omega), by have := HU.out.size; omega, fun j hj => ?_⟩⟩
          rw [Nat.zero_add]
          have hdl := HDl.out
          have hj2 : j < ys.length := hj
          have hseg := seg_le i 3 j (by omega)
          exact HA.out N wr q (j * 3) D 48 _ (HN.out q (by omega)) HDq.out (by omega) (HM.out _ _ _ _ _ (fun _ h => h.1) (HIs.out j hj))
    · have hnm' : (most : Int) < (n : Int) := by omega
      simp only [if_neg hnm] at GR
      have HbW := hid hbW
      clear hU2 hR2 hC2 hbW hwc2 hcl kc
      go_wp2_with fail
      go_ret
      refine ⟨HbW.out, ?_⟩
      rw [← GR.out]
      exact ⟨_, _, rfl⟩
  · simp only [if_neg he] at kc GR
    go_enter Tryz.func48, Tryz.ntmps48
    go_wp2_with fail
    refine (kc.out _).mono ?_
    rintro e w2 ⟨hU2, t', u', rfl⟩
    have hs2 := hU2.size
    simp at hs2
    have HbW : Hid (Upd (fun k => k = p ∨ k = b) W w2) := hid ⟨hU2.os, hU2.tape, hU2.output, by omega, fun k hk hF => (hU2.block k (by simp; omega) (by omega)).trans ((below_box W _).block k hk)⟩
    clear hU2 hs2 kc
    go_wp2_with fail
    go_ret
    refine ⟨HbW.out, ?_⟩
    rw [← GR.out]
    exact ⟨t', u', rfl⟩

theorem infoTCP : (Tryz.prog.info? 50).map (fun i => (i.zero, i.size, i.bytes)) = some (some (.agg #[.int .i64 0, .int .i64 0, .int .i64 0, .int .i64 0, .slice none 0 0]), 5, 56) := by kernel_rfl

set_option maxHeartbeats 16000000 in
theorem listr_c {α : Type} (B : Nat) (wc : World) (qc qm qi : Nat) (hcB : B ≤ qc ∧ qc < wc.heap.size) (hmB : B ≤ qm ∧ qm < wc.heap.size) (hiB : B ≤ qi ∧ qi < wc.heap.size) (capsC capsI : Array Value) (most : Nat) (hmost : most ≤ 400)
    (At : (Nat → Prop) → World → Nat → Nat → α → Prop) (Is : (Nat → Prop) → World → List Value → α → Prop) (rd : α → List Int → Option (α × Nat)) (z : α)
    (h1 : wc.cell? ⟨qc, 1, none⟩ = some (.func (.func 67) #[] capsC)) (h2 : wc.cell? ⟨qm, 0, none⟩ = some (.int .i64 (most : Int))) (h3 : wc.cell? ⟨qi, 1, none⟩ = some (.func (.func 111) #[] capsI))
    (hC : Rd B wc 1 IsI (rN 0) 67 capsC) (hI : Rd B wc 5 Is rd 111 capsI) (hz0 : ∀ N W, Is N W [.int .i64 0, .int .i64 0, .int .i64 0, .int .i64 0, .slice none 0 0] z)
    (hk : ∀ N W W' cs x, Keep N N W W' → Is N W cs x → Is N W' cs x) (hM : ∀ N N' W cs x, (∀ k, N k → N' k) → Is N W cs x → Is N' W cs x)
    (hA : ∀ (N : Nat → Prop) (W : World) (b o : Nat) (C : List Value) (t : TypeId) (x : α), N b → W.heap[b]? = some (.cells C.toArray t (0, 0)) → o + 5 ≤ C.length → Is N W ((C.drop o).take 5) x → At N W b o x) :
    Rd B wc 1 (IsL 5 At) (rL most rd z) 76 #[.pointer (some ⟨qc, 0, none⟩), .pointer (some ⟨qm, 0, none⟩), .pointer (some ⟨qi, 0, none⟩)] := by
  refine ⟨fun args w => by kernel_rfl, fun W N p g len at_ zs b o C t x hWc hR hz hbB hbp hbg hC0 hl hIs hN hNp hNb => ?_⟩
  show Calls Tryz.prog 76 #[.pointer (some ⟨p, 0, none⟩), .pointer (some ⟨b, o, none⟩), .pointer (some ⟨qc, 0, none⟩), .pointer (some ⟨qm, 0, none⟩), .pointer (some ⟨qi, 0, none⟩)] W _
  obtain ⟨i0, hi0, hzz, hz1, hz2⟩ := info_parts infoTCP
  have hs := hWc.size
  have hmid := hR.mid
  have hlo := hR.lo
  have hpl := hR.pl
  have hgn : W.heap.size ≠ g := by have := hR.gl; omega
  have c1 := (hWc.atc 1 hcB.2 (by omega)).trans h1
  have hqcW : qc < W.heap.size := by omega
  have hbl : b < W.heap.size := (Array.getElem?_eq_some_iff.1 hC0).1
  have hgo1 := hC.1
  have hgo2 := hI.1
  have hd := dec_got (zs.drop at_) (hz.drop at_)
  have kc := hid (fun o' => hC.2 (W.alloc (.cells #[.int .i64 0] o')) (fun k => k ≠ p ∧ k ≠ W.heap.size) p g len at_ zs W.heap.size 0 [.int .i64 0] o' 0 (hWc.trans (Upd.alloc _ _ _) (fun _ _ h => h)) (hR.below (below_box W _)) hz (.inr hs) (by omega) hgn (heap_alloc_new W _) (by simp) rfl (fun k hk => ⟨by simp at hk; omega, by simp at hk; omega⟩) (fun h => h.1 rfl) (fun h => h.2 rfl))
  unfold rN at kc
  unfold rL
  generalize dec (zs.drop at_) = D at kc hd ⊢
  obtain ⟨n, k, e⟩ := D
  simp only at kc hd ⊢
  rw [List.drop_drop]
  generalize gR : (if e = 0 then (if n ≤ most then (rI rd z n (zs.drop (at_ + k))).map fun y => (y.1, k + y.2) else none) else none) = R
  have GR := hid gR
  clear gR
  have hn63 : n < 9223372036854775808 := by rcases hd with h | h <;> omega
  rw [Int.sub_zero] at kc
  obtain ⟨a0, n0, k0, hI0, _⟩ := hIs
  have HCO := hid (first_of hI0)
  have HW := hid hWc
  have HR := hid hR
  have HZ := hid hz
  have HC := hid hC0
  have HI := hid hI
  have HL : Hid (o < C.length) := hid hl
  have HN := hid hN
  have HNp := hid hNp
  have HNb := hid hNb
  have HK := hid hk
  have HM := hid hM
  have HA := hid hA
  have H0 := hid hz0
  have H2 := hid h2
  have H3 := hid h3
  have HBB := hid hbB
  have HG := hid hgn
  clear hI0 hWc hR hz hC0 hI hl hN hNp hNb hk hM hA hz0 hd hC h1 h2 h3 hbB hgn
  by_cases he : e = 0
  · subst he
    simp only [if_true] at kc GR
    go_enter Tryz.func76, Tryz.ntmps76
    go_wp2_with fail
    refine (kc.out _).mono ?_
    rintro e w2 ⟨hU2, rfl, hR2, cs, hcl, hC2, hI2⟩
    have hs2 := hU2.size
    simp at hs2
    unfold IsI at hI2
    subst hI2
    have hn2 : w2.cell? ⟨W.heap.size, 0, none⟩ = some (.int .i64 n) := at_block hC2 _ (by simp [splice])
    have hbW : Upd (fun k => k = p ∨ k = b) W w2 := ⟨hU2.os, hU2.tape, hU2.output, by omega, fun k hk hF => (hU2.block k (by simp; omega) (by omega)).trans ((below_box W _).block k hk)⟩
    have hbB := HBB.out
    have hwc2 : Upd (fun k => k < B) wc w2 := HW.out.trans hbW (fun k hk h => by rcases h with rfl | rfl <;> omega)
    have d2 := (hwc2.atc 0 hmB.2 (by omega)).trans H2.out
    have hqm2 : qm < w2.heap.size := by omega
    by_cases hnm : n ≤ most
    · have hnm' : ¬ ((most : Int) < (n : Int)) := by omega
      simp only [if_pos hnm] at GR
      have hby : i0.bytes * n ≤ 281474976710656 := by rw [hz2]; omega
      have hmx : n ≤ maxLen := by unfold maxLen; omega
      have hCw : w2.heap[b]? = some (.cells C.toArray t (0, 0)) := (hU2.block b (by simp; omega) (by omega)).trans (((below_box W _).block b hbl).trans HC.out)
      obtain ⟨q, gq⟩ : ∃ q, q = w2.heap.size := ⟨_, rfl⟩
      obtain ⟨X, gX⟩ : ∃ X, w2.alloc (.cells (madeCells (Value.agg #[.int .i64 0, .int .i64 0, .int .i64 0, .int .i64 0, .slice none 0 0]).cells (n * 5)) 50) = X := ⟨_, rfl⟩
      have hX : Below w2.heap.size w2 X := by rw [← gX]; exact below_box _ _
      have hXs : X.heap.size = q + 1 := by rw [← gX, gq]; simp
      obtain ⟨D0, gD0⟩ : ∃ D0, D0 = (madeCells #[.int .i64 0, .int .i64 0, .int .i64 0, .int .i64 0, .slice none 0 0] (n * 5)).toList := ⟨_, rfl⟩
      have hXq : X.heap[q]? = some (.cells D0.toArray 50 (0, 0)) := by rw [← gX, gD0, gq]; exact heap_alloc_new w2 _
      have hXb : X.heap[b]? = some (.cells C.toArray t (0, 0)) := (hX.block b (by omega)).trans hCw
      have x0 : X.cell? ⟨b, o, none⟩ = some (.slice a0 n0 k0) := at_block hXb _ HCO.out
      have xf : X.frozen? ⟨b, o, none⟩ = false := frozen_of_row X b o _ _ hXb
      have xn : X.cell? ⟨W.heap.size, 0, none⟩ = some (.int .i64 n) := (hX.cell (p := ⟨W.heap.size, 0, none⟩) (show W.heap.size < w2.heap.size by omega)).trans hn2
      obtain ⟨Y, gY⟩ : ∃ Y, X.setCell ⟨b, o, none⟩ (.slice (some ⟨q, 0, none⟩) n n) = Y := ⟨_, rfl⟩
      have uY : Upd (· = b) X Y := by rw [← gY]; exact Upd.setCell X ⟨b, o, none⟩ _ rfl
      have hYs : Y.heap.size = q + 1 := by rw [← gY]; simpa using hXs
      have hYb : Y.heap[b]? = some (.cells (splice C o [.slice (some ⟨q, 0, none⟩) n n]).toArray t (0, 0)) := by rw [← gY]; exact one_stored hXb HL.out _
      have hqb : q ≠ b := by omega
      have hYq := uY.heap hXq hqb
      have hYl : (splice C o [Value.slice (some ⟨q, 0, none⟩) n n])[o]? = some (.slice (some ⟨q, 0, none⟩) n n) := by
        have := getElem?_splice_in C [Value.slice (some ⟨q, 0, none⟩) n n] o 0 (by have := HL.out; simp; omega) (by simp)
        simpa using this
      have y0 : Y.cell? ⟨b, o, none⟩ = some (.slice (some ⟨q, 0, none⟩) n n) := at_block hYb _ hYl
      have hRY : Rdr Y wc.heap.size p g len (at_ + k) zs := by rw [← gY]; exact (hR2.below hX).only (Only.setCell (p := b) o _) (Ne.symm hbp) (Ne.symm hbg)
      have hgl := hR2.gl
      have hpl2 := hR2.pl
      have uWY : Upd (fun k => k = p ∨ k = b) W Y := (hbW.trans (Upd.of_below (F := fun k => k = p ∨ k = b) hX) (fun _ _ h => h)).trans (uY.mono (fun x _ hx => .inr hx)) (fun _ _ h => h)
      have wcY : Upd (fun k => k < B) wc Y := HW.out.trans uWY (fun k hk h => by rcases h with rfl | rfl <;> omega)
      have hD0 : D0.length = n * 5 := by rw [gD0, Array.length_toList, size_madeCells]
      have hZ0 : ∀ j, j < n → (D0.drop (j * 5)).take 5 = [.int .i64 0, .int .i64 0, .int .i64 0, .int .i64 0, .slice none 0 0] := fun j hj => by rw [gD0, made_at #[.int .i64 0, .int .i64 0, .int .i64 0, .int .i64 0, .slice none 0 0] n 5 j rfl (by omega) hj]
      obtain ⟨Q, gQ⟩ : ∃ Q, rI rd z n (zs.drop (at_ + k)) = Q := ⟨_, rfl⟩
      rw [gQ] at GR
      have HQ := hid gQ
      have GQ := hid gq
      have GX := hid gX
      have GY := hid gY
      have HYB := hid hYb
      have HYQ := hid hYq
      have HRY := hid hRY
      have HWY := hid uWY
      have HCY := hid wcY
      have HD0 := hid hD0
      have HZ0 := hid hZ0
      have HYS := hid hYs
      have HU0 := hid (And.intro hs2 hs)
      have hqs : W.heap.size < q := by omega
      have hpq : p ≠ q := by omega
      have hgq : g ≠ q := by omega
      have hqw : wc.heap.size ≤ q := by omega
      have hbY : b < Y.heap.size := by omega
      clear gQ gX gY hX hXs gD0 hXq hXb uY hYb hYq hYl hRY hgl hpl2 uWY wcY hD0 hZ0 hU2 hR2 hC2 hbW hwc2 hCw hcl hYs gq hs2 kc
      go_wp2_with (at_make; refine wpList_make_as _ rfl _ _ 45 rfl 50 i0 (.agg #[.int .i64 0, .int .i64 0, .int .i64 0, .int .i64 0, .slice none 0 0]) 5 Tryz.underlying45 hi0 hzz hz1 _ _ _ _ n n rfl rfl rfl rfl (Nat.le_refl _) hby hmx X GX.out ?_)
      rw [← GQ.out, GY.out]
      go_loopw [31] (fun v wr => ∃ i : Nat, i ≤ n ∧ v = .int .i64 i ∧ ∃ (ys : List α) (m : Nat) (D : List Value), Hid (rI rd z i (zs.drop (at_ + k)) = some (ys, m)) ∧ Hid (Rdr wr wc.heap.size p g len (at_ + k + m) zs) ∧ Hid (D.length = n * 5) ∧ Hid (wr.heap[q]? = some (.cells D.toArray 50 (0, 0))) ∧ Hid (∀ j (h : j < ys.length), Is (fun k => N k ∧ k ≠ q) wr ((D.drop (j * 5)).take 5) ys[j]) ∧ Hid (∀ j, i ≤ j → j < n → (D.drop (j * 5)).take 5 = [.int .i64 0, .int .i64 0, .int .i64 0, .int .i64 0, .slice none 0 0]) ∧ Hid (Upd (fun k => k = p ∨ k = q) Y wr)) (fun v _ => n - (intOf v).toNat)
      case atStart => exact ⟨0, Nat.zero_le _, rfl, [], 0, D0, hid rfl, HRY, HD0, HYQ, hid (fun j h => absurd h (Nat.not_lt_zero j)), hid (fun j _ hj => HZ0.out j hj), hid (Upd.refl _ _)⟩
      case round =>
        obtain ⟨i, hi, rfl, ys, m, D, Hy, HRr, HDl, HDq, HIs, HZs, HU⟩ := hrel
        by_cases hlt : i < n
        · have hyl : ys.length = i := rI_len rd z _ i (ys, m) Hy.out
          have hwr : Upd (fun k => k < B) wc wr := HCY.out.trans HU.out (fun k hk h => by rcases h with rfl | rfl <;> omega)
          have hsY := HU.out.size
          have hys := HYS.out
          have d0 : wr.cell? ⟨b, o, none⟩ = some (.slice (some ⟨q, 0, none⟩) n n) := (HU.out.atc o hbY (by omega)).trans y0
          have d1 := (hwr.atc 1 hiB.2 (by omega)).trans H3.out
          have hqr : q < wr.heap.size := by omega
          have hseg := seg_le n 5 i hlt
          have hdl := HDl.out
          have kw := hid (fun wx (hx' : Below wr.heap.size wr wx) (e : wx.heap = wr.heap) => HI.out.2 wx (fun k => N k ∧ k ≠ q) p g len (at_ + k + m) zs q (i * 5) D 50 z (hwr.trans (Upd.of_below hx') (fun _ _ h => h)) (HRr.out.heap e) HZ.out (.inr hqw) (Ne.symm hpq) (Ne.symm hgq) (by rw [e]; exact HDq.out) (by omega) (by rw [HZs.out i (Nat.le_refl _) hlt]; exact H0.out _ _) (fun k hk => ⟨HN.out k (by rw [e] at hk; omega), by rw [e] at hk; omega⟩) (fun h => HNp.out h.1) (fun h => h.2 rfl))
          have hSt := hid (rI_stop rd z (zs.drop (at_ + k)) n (i + 1))
          have hMo : rI rd z (i + 1) (zs.drop (at_ + k)) = (rd z (zs.drop (at_ + k + m))).map fun u => (ys ++ [u.1], m + u.2) := by
            simp only [rI, Hy.out, Option.bind_some, List.drop_drop]
          have hbr : b < wr.heap.size := by omega
          have hqi : qi < wr.heap.size := by omega
          have HQI : Hid ((¬ (qi = p ∨ qi = q)) ∧ ¬ (b = p ∨ b = q)) := hid (by omega)
          obtain ⟨E, gE⟩ : ∃ E, rd z (zs.drop (at_ + k + m)) = E := ⟨_, rfl⟩
          simp only [gE] at kw
          rw [gE] at hMo
          have HMo := hid hMo
          have HSt := hid hSt
          have HYL := hid hyl
          clear gE hMo hSt hyl hwr hsY hys hseg hdl
          cases E with
          | none =>
            go_wp2_with fail
            go_region_held3 (fun wx => wx.cell? ⟨b, o, none⟩ = some (.slice (some ⟨q, 0, none⟩) n n) ∧ wx.cell? ⟨qi, 1, none⟩ = some (.func (.func 111) #[] capsI)) (go_keep)
              ((go_at_call 111; refine (kw.out _ (below_hp (Below.refl _ wr) (by rfl) (by rfl) (by rfl) (by rfl)) (by rfl)).mono ?_; rintro e w3 ⟨hU3, t', u', rfl⟩; have HU3 : Hid (Upd (fun k => k = p ∨ k = q) wr w3) := hid ((Upd.of_below (below_hp (Below.refl _ wr) (by rfl) (by rfl) (by rfl) (by rfl))).trans hU3 (fun _ _ h => h)); have z0 : w3.cell? ⟨b, o, none⟩ = some (.slice (some ⟨q, 0, none⟩) n n) := (HU3.out.atc o hbr HQI.out.2).trans d0; have z1 : w3.cell? ⟨qi, 1, none⟩ = some (.func (.func 111) #[] capsI) := (HU3.out.atc 1 hqi HQI.out.1).trans d1; clear hU3))
            go_wp2_with fail
            go_ret
            have hQ0 : Q = none := HQ.out.symm.trans (HSt.out.out (by rw [HMo.out]; rfl) (by omega))
            have hys := HYS.out
            have hu := HU0.out
            refine ⟨⟨HU3.out.os.trans (HU.out.os.trans HWY.out.os), HU3.out.tape.trans (HU.out.tape.trans HWY.out.tape), HU3.out.output.trans (HU.out.output.trans HWY.out.output), Nat.le_trans HWY.out.size (Nat.le_trans HU.out.size HU3.out.size), fun k hk hF => (HU3.out.block k (by have := HWY.out.size; have := HU.out.size; omega) (by omega)).trans ((HU.out.block k (by have := HWY.out.size; omega) (by omega)).trans (HWY.out.block k hk hF))⟩, ?_⟩
            rw [← GR.out, hQ0]
            exact ⟨t', u', rfl⟩
          | some y =>
            go_wp2_with fail
            go_region_held3 (fun wx => wx.cell? ⟨b, o, none⟩ = some (.slice (some ⟨q, 0, none⟩) n n) ∧ wx.cell? ⟨qi, 1, none⟩ = some (.func (.func 111) #[] capsI)) (go_keep)
              ((go_at_call 111; refine (kw.out _ (below_hp (Below.refl _ wr) (by rfl) (by rfl) (by rfl) (by rfl)) (by rfl)).mono ?_; rintro e w3 ⟨hU3, rfl, hR3, cs, hcl3, hC3, hI3⟩; have HU3 : Hid (Upd (fun k => k = p ∨ k = q) wr w3) := hid ((Upd.of_below (below_hp (Below.refl _ wr) (by rfl) (by rfl) (by rfl) (by rfl))).trans hU3 (fun _ _ h => h)); have z0 : w3.cell? ⟨b, o, none⟩ = some (.slice (some ⟨q, 0, none⟩) n n) := (HU3.out.atc o hbr HQI.out.2).trans d0; have z1 : w3.cell? ⟨qi, 1, none⟩ = some (.func (.func 111) #[] capsI) := (HU3.out.atc 1 hqi HQI.out.1).trans d1; have H3r := hid (And.intro hR3 (And.intro hcl3 (And.intro hC3 hI3))); clear hU3 hR3 hcl3 hC3 hI3))
            obtain ⟨hR3, hcl3, hC3, hI3⟩ := H3r.out
            have HR3 : Hid (Rdr w3 wc.heap.size p g len (at_ + k + (m + y.2)) zs) := hid (by rw [← Nat.add_assoc]; exact hR3)
            have hdl := HDl.out
            have hseg := seg_le n 5 i hlt
            have HD3 : Hid ((splice D (i * 5) cs).length = n * 5) := hid (by rw [length_splice _ _ _ (by omega), hdl])
            have HC3 := hid hC3
            have HI3 : Hid (∀ j (h : j < (ys ++ [y.1]).length), Is (fun k => N k ∧ k ≠ q) w3 (((splice D (i * 5) cs).drop (j * 5)).take 5) (ys ++ [y.1])[j]) := hid (fun j hj => by
              have hyl := HYL.out
              rw [List.length_append, List.length_singleton] at hj
              rcases Nat.lt_or_ge j i with h | h
              · rw [splice_seg D cs n 5 i j hdl hlt (by omega) (by omega) hcl3, List.getElem_append_left (by omega)]
                exact HK.out _ _ _ _ _ (keep_rd HU3.out (fun h => HNp.out h.1) (fun h => h.2 rfl)) (HIs.out j (by omega))
              · obtain rfl : j = i := by omega
                rw [splice_at D cs (j * 5) 5 (by omega) hcl3, List.getElem_append_right (by omega)]
                simp only [hyl, Nat.sub_self, List.getElem_singleton]
                exact hI3)
            have HZ3 : Hid (∀ j, i + 1 ≤ j → j < n → ((splice D (i * 5) cs).drop (j * 5)).take 5 = [.int .i64 0, .int .i64 0, .int .i64 0, .int .i64 0, .slice none 0 0]) := hid (fun j h1 h2 => by
              rw [splice_seg D cs n 5 i j hdl hlt h2 (by omega) hcl3]
              exact HZs.out j (by omega) h2)
            have HUU := hid (HU.out.trans HU3.out (fun _ _ h => h))
            clear hR3 hcl3 hC3 hI3 hdl hseg H3r
            go_wp2_with fail
            go_roundw
            case rel => exact ⟨i + 1, by omega, by go_num, ys ++ [y.1], m + y.2, splice D (i * 5) cs, hid HMo.out, HR3, HD3, HC3, HI3, HZ3, HUU⟩
            case measure => simp [intOf]; omega
        · obtain rfl : i = n := by omega
          have hQ0 : Q = some (ys, m) := HQ.out.symm.trans Hy.out
          subst hQ0
          go_wp2_with fail
          go_ret
          have hys := HYS.out
          have hu := HU0.out
          have hyl : ys.length = i := rI_len rd z _ i (ys, m) Hy.out
          refine ⟨⟨HU.out.os.trans HWY.out.os, HU.out.tape.trans HWY.out.tape, HU.out.output.trans HWY.out.output, Nat.le_trans HWY.out.size HU.out.size, fun k hk hF => (HU.out.block k (by have := HWY.out.size; omega) (by omega)).trans (HWY.out.block k hk hF)⟩, ?_⟩
          rw [← GR.out]
          refine ⟨rfl, by rw [← Nat.add_assoc]; exact HRr.out, [.slice (some ⟨q, 0, none⟩) i i], rfl, (HU.out.block b hbY (by omega)).trans HYB.out, ?_⟩
          refine ⟨some ⟨q, 0, none⟩, i, i, rfl, hyl, Nat.le_refl _, by omega, fun h0 => ⟨q, 0, rfl, HN.out q (by omega), by have := HU.out.size; omega, fun j hj => ?_⟩⟩
          rw [Nat.zero_add]
          have hdl := HDl.out
          have hj2 : j < ys.length := hj
          have hseg := seg_le i 5 j (by omega)
          exact HA.out N wr q (j * 5) D 50 _ (HN.out q (by omega)) HDq.out (by omega) (HM.out _ _ _ _ _ (fun _ h => h.1) (HIs.out j hj))
    · have hnm' : (most : Int) < (n : Int) := by omega
      simp only [if_neg hnm] at GR
      have HbW := hid hbW
      clear hU2 hR2 hC2 hbW hwc2 hcl kc
      go_wp2_with fail
      go_ret
      refine ⟨HbW.out, ?_⟩
      rw [← GR.out]
      exact ⟨_, _, rfl⟩
  · simp only [if_neg he] at kc GR
    go_enter Tryz.func76, Tryz.ntmps76
    go_wp2_with fail
    refine (kc.out _).mono ?_
    rintro e w2 ⟨hU2, t', u', rfl⟩
    have hs2 := hU2.size
    simp at hs2
    have HbW : Hid (Upd (fun k => k = p ∨ k = b) W w2) := hid ⟨hU2.os, hU2.tape, hU2.output, by omega, fun k hk hF => (hU2.block k (by simp; omega) (by omega)).trans ((below_box W _).block k hk)⟩
    clear hU2 hs2 kc
    go_wp2_with fail
    go_ret
    refine ⟨HbW.out, ?_⟩
    rw [← GR.out]
    exact ⟨t', u', rfl⟩

theorem infoTW : (Tryz.prog.info? 53).map (fun i => (i.zero, i.size, i.bytes)) = some (some (.agg #[.int .i64 0, .int .i64 0]), 2, 16) := by kernel_rfl

set_option maxHeartbeats 16000000 in
theorem listr_w {α : Type} (B : Nat) (wc : World) (qc qm qi : Nat) (hcB : B ≤ qc ∧ qc < wc.heap.size) (hmB : B ≤ qm ∧ qm < wc.heap.size) (hiB : B ≤ qi ∧ qi < wc.heap.size) (capsC capsI : Array Value) (most : Nat) (hmost : most ≤ 400)
    (At : (Nat → Prop) → World → Nat → Nat → α → Prop) (Is : (Nat → Prop) → World → List Value → α → Prop) (rd : α → List Int → Option (α × Nat)) (z : α)
    (h1 : wc.cell? ⟨qc, 1, none⟩ = some (.func (.func 67) #[] capsC)) (h2 : wc.cell? ⟨qm, 0, none⟩ = some (.int .i64 (most : Int))) (h3 : wc.cell? ⟨qi, 1, none⟩ = some (.func (.func 121) #[] capsI))
    (hC : Rd B wc 1 IsI (rN 0) 67 capsC) (hI : Rd B wc 2 Is rd 121 capsI) (hz0 : ∀ N W, Is N W [.int .i64 0, .int .i64 0] z)
    (hk : ∀ N W W' cs x, Keep N N W W' → Is N W cs x → Is N W' cs x) (hM : ∀ N N' W cs x, (∀ k, N k → N' k) → Is N W cs x → Is N' W cs x)
    (hA : ∀ (N : Nat → Prop) (W : World) (b o : Nat) (C : List Value) (t : TypeId) (x : α), N b → W.heap[b]? = some (.cells C.toArray t (0, 0)) → o + 2 ≤ C.length → Is N W ((C.drop o).take 2) x → At N W b o x) :
    Rd B wc 1 (IsL 2 At) (rL most rd z) 92 #[.pointer (some ⟨qc, 0, none⟩), .pointer (some ⟨qm, 0, none⟩), .pointer (some ⟨qi, 0, none⟩)] := by
  refine ⟨fun args w => by kernel_rfl, fun W N p g len at_ zs b o C t x hWc hR hz hbB hbp hbg hC0 hl hIs hN hNp hNb => ?_⟩
  show Calls Tryz.prog 92 #[.pointer (some ⟨p, 0, none⟩), .pointer (some ⟨b, o, none⟩), .pointer (some ⟨qc, 0, none⟩), .pointer (some ⟨qm, 0, none⟩), .pointer (some ⟨qi, 0, none⟩)] W _
  obtain ⟨i0, hi0, hzz, hz1, hz2⟩ := info_parts infoTW
  have hs := hWc.size
  have hmid := hR.mid
  have hlo := hR.lo
  have hpl := hR.pl
  have hgn : W.heap.size ≠ g := by have := hR.gl; omega
  have c1 := (hWc.atc 1 hcB.2 (by omega)).trans h1
  have hqcW : qc < W.heap.size := by omega
  have hbl : b < W.heap.size := (Array.getElem?_eq_some_iff.1 hC0).1
  have hgo1 := hC.1
  have hgo2 := hI.1
  have hd := dec_got (zs.drop at_) (hz.drop at_)
  have kc := hid (fun o' => hC.2 (W.alloc (.cells #[.int .i64 0] o')) (fun k => k ≠ p ∧ k ≠ W.heap.size) p g len at_ zs W.heap.size 0 [.int .i64 0] o' 0 (hWc.trans (Upd.alloc _ _ _) (fun _ _ h => h)) (hR.below (below_box W _)) hz (.inr hs) (by omega) hgn (heap_alloc_new W _) (by simp) rfl (fun k hk => ⟨by simp at hk; omega, by simp at hk; omega⟩) (fun h => h.1 rfl) (fun h => h.2 rfl))
  unfold rN at kc
  unfold rL
  generalize dec (zs.drop at_) = D at kc hd ⊢
  obtain ⟨n, k, e⟩ := D
  simp only at kc hd ⊢
  rw [List.drop_drop]
  generalize gR : (if e = 0 then (if n ≤ most then (rI rd z n (zs.drop (at_ + k))).map fun y => (y.1, k + y.2) else none) else none) = R
  have GR := hid gR
  clear gR
  have hn63 : n < 9223372036854775808 := by rcases hd with h | h <;> omega
  rw [Int.sub_zero] at kc
  obtain ⟨a0, n0, k0, hI0, _⟩ := hIs
  have HCO := hid (first_of hI0)
  have HW := hid hWc
  have HR := hid hR
  have HZ := hid hz
  have HC := hid hC0
  have HI := hid hI
  have HL : Hid (o < C.length) := hid hl
  have HN := hid hN
  have HNp := hid hNp
  have HNb := hid hNb
  have HK := hid hk
  have HM := hid hM
  have HA := hid hA
  have H0 := hid hz0
  have H2 := hid h2
  have H3 := hid h3
  have HBB := hid hbB
  have HG := hid hgn
  clear hI0 hWc hR hz hC0 hI hl hN hNp hNb hk hM hA hz0 hd hC h1 h2 h3 hbB hgn
  by_cases he : e = 0
  · subst he
    simp only [if_true] at kc GR
    go_enter Tryz.func92, Tryz.ntmps92
    go_wp2_with fail
    refine (kc.out _).mono ?_
    rintro e w2 ⟨hU2, rfl, hR2, cs, hcl, hC2, hI2⟩
    have hs2 := hU2.size
    simp at hs2
    unfold IsI at hI2
    subst hI2
    have hn2 : w2.cell? ⟨W.heap.size, 0, none⟩ = some (.int .i64 n) := at_block hC2 _ (by simp [splice])
    have hbW : Upd (fun k => k = p ∨ k = b) W w2 := ⟨hU2.os, hU2.tape, hU2.output, by omega, fun k hk hF => (hU2.block k (by simp; omega) (by omega)).trans ((below_box W _).block k hk)⟩
    have hbB := HBB.out
    have hwc2 : Upd (fun k => k < B) wc w2 := HW.out.trans hbW (fun k hk h => by rcases h with rfl | rfl <;> omega)
    have d2 := (hwc2.atc 0 hmB.2 (by omega)).trans H2.out
    have hqm2 : qm < w2.heap.size := by omega
    by_cases hnm : n ≤ most
    · have hnm' : ¬ ((most : Int) < (n : Int)) := by omega
      simp only [if_pos hnm] at GR
      have hby : i0.bytes * n ≤ 281474976710656 := by rw [hz2]; omega
      have hmx : n ≤ maxLen := by unfold maxLen; omega
      have hCw : w2.heap[b]? = some (.cells C.toArray t (0, 0)) := (hU2.block b (by simp; omega) (by omega)).trans (((below_box W _).block b hbl).trans HC.out)
      obtain ⟨q, gq⟩ : ∃ q, q = w2.heap.size := ⟨_, rfl⟩
      obtain ⟨X, gX⟩ : ∃ X, w2.alloc (.cells (madeCells (Value.agg #[.int .i64 0, .int .i64 0]).cells (n * 2)) 53) = X := ⟨_, rfl⟩
      have hX : Below w2.heap.size w2 X := by rw [← gX]; exact below_box _ _
      have hXs : X.heap.size = q + 1 := by rw [← gX, gq]; simp
      obtain ⟨D0, gD0⟩ : ∃ D0, D0 = (madeCells #[.int .i64 0, .int .i64 0] (n * 2)).toList := ⟨_, rfl⟩
      have hXq : X.heap[q]? = some (.cells D0.toArray 53 (0, 0)) := by rw [← gX, gD0, gq]; exact heap_alloc_new w2 _
      have hXb : X.heap[b]? = some (.cells C.toArray t (0, 0)) := (hX.block b (by omega)).trans hCw
      have x0 : X.cell? ⟨b, o, none⟩ = some (.slice a0 n0 k0) := at_block hXb _ HCO.out
      have xf : X.frozen? ⟨b, o, none⟩ = false := frozen_of_row X b o _ _ hXb
      have xn : X.cell? ⟨W.heap.size, 0, none⟩ = some (.int .i64 n) := (hX.cell (p := ⟨W.heap.size, 0, none⟩) (show W.heap.size < w2.heap.size by omega)).trans hn2
      obtain ⟨Y, gY⟩ : ∃ Y, X.setCell ⟨b, o, none⟩ (.slice (some ⟨q, 0, none⟩) n n) = Y := ⟨_, rfl⟩
      have uY : Upd (· = b) X Y := by rw [← gY]; exact Upd.setCell X ⟨b, o, none⟩ _ rfl
      have hYs : Y.heap.size = q + 1 := by rw [← gY]; simpa using hXs
      have hYb : Y.heap[b]? = some (.cells (splice C o [.slice (some ⟨q, 0, none⟩) n n]).toArray t (0, 0)) := by rw [← gY]; exact one_stored hXb HL.out _
      have hqb : q ≠ b := by omega
      have hYq := uY.heap hXq hqb
      have hYl : (splice C o [Value.slice (some ⟨q, 0, none⟩) n n])[o]? = some (.slice (some ⟨q, 0, none⟩) n n) := by
        have := getElem?_splice_in C [Value.slice (some ⟨q, 0, none⟩) n n] o 0 (by have := HL.out; simp; omega) (by simp)
        simpa using this
      have y0 : Y.cell? ⟨b, o, none⟩ = some (.slice (some ⟨q, 0, none⟩) n n) := at_block hYb _ hYl
      have hRY : Rdr Y wc.heap.size p g len (at_ + k) zs := by rw [← gY]; exact (hR2.below hX).only (Only.setCell (p := b) o _) (Ne.symm hbp) (Ne.symm hbg)
      have hgl := hR2.gl
      have hpl2 := hR2.pl
      have uWY : Upd (fun k => k = p ∨ k = b) W Y := (hbW.trans (Upd.of_below (F := fun k => k = p ∨ k = b) hX) (fun _ _ h => h)).trans (uY.mono (fun x _ hx => .inr hx)) (fun _ _ h => h)
      have wcY : Upd (fun k => k < B) wc Y := HW.out.trans uWY (fun k hk h => by rcases h with rfl | rfl <;> omega)
      have hD0 : D0.length = n * 2 := by rw [gD0, Array.length_toList, size_madeCells]
      have hZ0 : ∀ j, j < n → (D0.drop (j * 2)).take 2 = [.int .i64 0, .int .i64 0] := fun j hj => by rw [gD0, made_at #[.int .i64 0, .int .i64 0] n 2 j rfl (by omega) hj]
      obtain ⟨Q, gQ⟩ : ∃ Q, rI rd z n (zs.drop (at_ + k)) = Q := ⟨_, rfl⟩
      rw [gQ] at GR
      have HQ := hid gQ
      have GQ := hid gq
      have GX := hid gX
      have GY := hid gY
      have HYB := hid hYb
      have HYQ := hid hYq
      have HRY := hid hRY
      have HWY := hid uWY
      have HCY := hid wcY
      have HD0 := hid hD0
      have HZ0 := hid hZ0
      have HYS := hid hYs
      have HU0 := hid (And.intro hs2 hs)
      have hqs : W.heap.size < q := by omega
      have hpq : p ≠ q := by omega
      have hgq : g ≠ q := by omega
      have hqw : wc.heap.size ≤ q := by omega
      have hbY : b < Y.heap.size := by omega
      clear gQ gX gY hX hXs gD0 hXq hXb uY hYb hYq hYl hRY hgl hpl2 uWY wcY hD0 hZ0 hU2 hR2 hC2 hbW hwc2 hCw hcl hYs gq hs2 kc
      go_wp2_with (at_make; refine wpList_make_as _ rfl _ _ 46 rfl 53 i0 (.agg #[.int .i64 0, .int .i64 0]) 2 Tryz.underlying46 hi0 hzz hz1 _ _ _ _ n n rfl rfl rfl rfl (Nat.le_refl _) hby hmx X GX.out ?_)
      rw [← GQ.out, GY.out]
      go_loopw [31] (fun v wr => ∃ i : Nat, i ≤ n ∧ v = .int .i64 i ∧ ∃ (ys : List α) (m : Nat) (D : List Value), Hid (rI rd z i (zs.drop (at_ + k)) = some (ys, m)) ∧ Hid (Rdr wr wc.heap.size p g len (at_ + k + m) zs) ∧ Hid (D.length = n * 2) ∧ Hid (wr.heap[q]? = some (.cells D.toArray 53 (0, 0))) ∧ Hid (∀ j (h : j < ys.length), Is (fun k => N k ∧ k ≠ q) wr ((D.drop (j * 2)).take 2) ys[j]) ∧ Hid (∀ j, i ≤ j → j < n → (D.drop (j * 2)).take 2 = [.int .i64 0, .int .i64 0]) ∧ Hid (Upd (fun k => k = p ∨ k = q) Y wr)) (fun v _ => n - (intOf v).toNat)
      case atStart => exact ⟨0, Nat.zero_le _, rfl, [], 0, D0, hid rfl, HRY, HD0, HYQ, hid (fun j h => absurd h (Nat.not_lt_zero j)), hid (fun j _ hj => HZ0.out j hj), hid (Upd.refl _ _)⟩
      case round =>
        obtain ⟨i, hi, rfl, ys, m, D, Hy, HRr, HDl, HDq, HIs, HZs, HU⟩ := hrel
        by_cases hlt : i < n
        · have hyl : ys.length = i := rI_len rd z _ i (ys, m) Hy.out
          have hwr : Upd (fun k => k < B) wc wr := HCY.out.trans HU.out (fun k hk h => by rcases h with rfl | rfl <;> omega)
          have hsY := HU.out.size
          have hys := HYS.out
          have d0 : wr.cell? ⟨b, o, none⟩ = some (.slice (some ⟨q, 0, none⟩) n n) := (HU.out.atc o hbY (by omega)).trans y0
          have d1 := (hwr.atc 1 hiB.2 (by omega)).trans H3.out
          have hqr : q < wr.heap.size := by omega
          have hseg := seg_le n 2 i hlt
          have hdl := HDl.out
          have kw := hid (fun wx (hx' : Below wr.heap.size wr wx) (e : wx.heap = wr.heap) => HI.out.2 wx (fun k => N k ∧ k ≠ q) p g len (at_ + k + m) zs q (i * 2) D 53 z (hwr.trans (Upd.of_below hx') (fun _ _ h => h)) (HRr.out.heap e) HZ.out (.inr hqw) (Ne.symm hpq) (Ne.symm hgq) (by rw [e]; exact HDq.out) (by omega) (by rw [HZs.out i (Nat.le_refl _) hlt]; exact H0.out _ _) (fun k hk => ⟨HN.out k (by rw [e] at hk; omega), by rw [e] at hk; omega⟩) (fun h => HNp.out h.1) (fun h => h.2 rfl))
          have hSt := hid (rI_stop rd z (zs.drop (at_ + k)) n (i + 1))
          have hMo : rI rd z (i + 1) (zs.drop (at_ + k)) = (rd z (zs.drop (at_ + k + m))).map fun u => (ys ++ [u.1], m + u.2) := by
            simp only [rI, Hy.out, Option.bind_some, List.drop_drop]
          have hbr : b < wr.heap.size := by omega
          have hqi : qi < wr.heap.size := by omega
          have HQI : Hid ((¬ (qi = p ∨ qi = q)) ∧ ¬ (b = p ∨ b = q)) := hid (by omega)
          obtain ⟨E, gE⟩ : ∃ E, rd z (zs.drop (at_ + k + m)) = E := ⟨_, rfl⟩
          simp only [gE] at kw
          rw [gE] at hMo
          have HMo := hid hMo
          have HSt := hid hSt
          have HYL := hid hyl
          clear gE hMo hSt hyl hwr hsY hys hseg hdl
          cases E with
          | none =>
            go_wp2_with fail
            go_region_held3 (fun wx => wx.cell? ⟨b, o, none⟩ = some (.slice (some ⟨q, 0, none⟩) n n) ∧ wx.cell? ⟨qi, 1, none⟩ = some (.func (.func 121) #[] capsI)) (go_keep)
              ((go_at_call 121; refine (kw.out _ (below_hp (Below.refl _ wr) (by rfl) (by rfl) (by rfl) (by rfl)) (by rfl)).mono ?_; rintro e w3 ⟨hU3, t', u', rfl⟩; have HU3 : Hid (Upd (fun k => k = p ∨ k = q) wr w3) := hid ((Upd.of_below (below_hp (Below.refl _ wr) (by rfl) (by rfl) (by rfl) (by rfl))).trans hU3 (fun _ _ h => h)); have z0 : w3.cell? ⟨b, o, none⟩ = some (.slice (some ⟨q, 0, none⟩) n n) := (HU3.out.atc o hbr HQI.out.2).trans d0; have z1 : w3.cell? ⟨qi, 1, none⟩ = some (.func (.func 121) #[] capsI) := (HU3.out.atc 1 hqi HQI.out.1).trans d1; clear hU3))
            go_wp2_with fail
            go_ret
            have hQ0 : Q = none := HQ.out.symm.trans (HSt.out.out (by rw [HMo.out]; rfl) (by omega))
            have hys := HYS.out
            have hu := HU0.out
            refine ⟨⟨HU3.out.os.trans (HU.out.os.trans HWY.out.os), HU3.out.tape.trans (HU.out.tape.trans HWY.out.tape), HU3.out.output.trans (HU.out.output.trans HWY.out.output), Nat.le_trans HWY.out.size (Nat.le_trans HU.out.size HU3.out.size), fun k hk hF => (HU3.out.block k (by have := HWY.out.size; have := HU.out.size; omega) (by omega)).trans ((HU.out.block k (by have := HWY.out.size; omega) (by omega)).trans (HWY.out.block k hk hF))⟩, ?_⟩
            rw [← GR.out, hQ0]
            exact ⟨t', u', rfl⟩
          | some y =>
            go_wp2_with fail
            go_region_held3 (fun wx => wx.cell? ⟨b, o, none⟩ = some (.slice (some ⟨q, 0, none⟩) n n) ∧ wx.cell? ⟨qi, 1, none⟩ = some (.func (.func 121) #[] capsI)) (go_keep)
              ((go_at_call 121; refine (kw.out _ (below_hp (Below.refl _ wr) (by rfl) (by rfl) (by rfl) (by rfl)) (by rfl)).mono ?_; rintro e w3 ⟨hU3, rfl, hR3, cs, hcl3, hC3, hI3⟩; have HU3 : Hid (Upd (fun k => k = p ∨ k = q) wr w3) := hid ((Upd.of_below (below_hp (Below.refl _ wr) (by rfl) (by rfl) (by rfl) (by rfl))).trans hU3 (fun _ _ h => h)); have z0 : w3.cell? ⟨b, o, none⟩ = some (.slice (some ⟨q, 0, none⟩) n n) := (HU3.out.atc o hbr HQI.out.2).trans d0; have z1 : w3.cell? ⟨qi, 1, none⟩ = some (.func (.func 121) #[] capsI) := (HU3.out.atc 1 hqi HQI.out.1).trans d1; have H3r := hid (And.intro hR3 (And.intro hcl3 (And.intro hC3 hI3))); clear hU3 hR3 hcl3 hC3 hI3))
            obtain ⟨hR3, hcl3, hC3, hI3⟩ := H3r.out
            have HR3 : Hid (Rdr w3 wc.heap.size p g len (at_ + k + (m + y.2)) zs) := hid (by rw [← Nat.add_assoc]; exact hR3)
            have hdl := HDl.out
            have hseg := seg_le n 2 i hlt
            have HD3 : Hid ((splice D (i * 2) cs).length = n * 2) := hid (by rw [length_splice _ _ _ (by omega), hdl])
            have HC3 := hid hC3
            have HI3 : Hid (∀ j (h : j < (ys ++ [y.1]).length), Is (fun k => N k ∧ k ≠ q) w3 (((splice D (i * 2) cs).drop (j * 2)).take 2) (ys ++ [y.1])[j]) := hid (fun j hj => by
              have hyl := HYL.out
              rw [List.length_append, List.length_singleton] at hj
              rcases Nat.lt_or_ge j i with h | h
              · rw [splice_seg D cs n 2 i j hdl hlt (by omega) (by omega) hcl3, List.getElem_append_left (by omega)]
                exact HK.out _ _ _ _ _ (keep_rd HU3.out (fun h => HNp.out h.1) (fun h => h.2 rfl)) (HIs.out j (by omega))
              · obtain rfl : j = i := by omega
                rw [splice_at D cs (j * 2) 2 (by omega) hcl3, List.getElem_append_right (by omega)]
                simp only [hyl, Nat.sub_self, List.getElem_singleton]
                exact hI3)
            have HZ3 : Hid (∀ j, i + 1 ≤ j → j < n → ((splice D (i * 2) cs).drop (j * 2)).take 2 = [.int .i64 0, .int .i64 0]) := hid (fun j h1 h2 => by
              rw [splice_seg D cs n 2 i j hdl hlt h2 (by omega) hcl3]
              exact HZs.out j (by omega) h2)
            have HUU := hid (HU.out.trans HU3.out (fun _ _ h => h))
            clear hR3 hcl3 hC3 hI3 hdl hseg H3r
            go_wp2_with fail
            go_roundw
            case rel => exact ⟨i + 1, by omega, by go_num, ys ++ [y.1], m + y.2, splice D (i * 2) cs, hid HMo.out, HR3, HD3, HC3, HI3, HZ3, HUU⟩
            case measure => simp [intOf]; omega
        · obtain rfl : i = n := by omega
          have hQ0 : Q = some (ys, m) := HQ.out.symm.trans Hy.out
          subst hQ0
          go_wp2_with fail
          go_ret
          have hys := HYS.out
          have hu := HU0.out
          have hyl : ys.length = i := rI_len rd z _ i (ys, m) Hy.out
          refine ⟨⟨HU.out.os.trans HWY.out.os, HU.out.tape.trans HWY.out.tape, HU.out.output.trans HWY.out.output, Nat.le_trans HWY.out.size HU.out.size, fun k hk hF => (HU.out.block k (by have := HWY.out.size; omega) (by omega)).trans (HWY.out.block k hk hF)⟩, ?_⟩
          rw [← GR.out]
          refine ⟨rfl, by rw [← Nat.add_assoc]; exact HRr.out, [.slice (some ⟨q, 0, none⟩) i i], rfl, (HU.out.block b hbY (by omega)).trans HYB.out, ?_⟩
          refine ⟨some ⟨q, 0, none⟩, i, i, rfl, hyl, Nat.le_refl _, by omega, fun h0 => ⟨q, 0, rfl, HN.out q (by omega), by have := HU.out.size; omega, fun j hj => ?_⟩⟩
          rw [Nat.zero_add]
          have hdl := HDl.out
          have hj2 : j < ys.length := hj
          have hseg := seg_le i 2 j (by omega)
          exact HA.out N wr q (j * 2) D 53 _ (HN.out q (by omega)) HDq.out (by omega) (HM.out _ _ _ _ _ (fun _ h => h.1) (HIs.out j hj))
    · have hnm' : (most : Int) < (n : Int) := by omega
      simp only [if_neg hnm] at GR
      have HbW := hid hbW
      clear hU2 hR2 hC2 hbW hwc2 hcl kc
      go_wp2_with fail
      go_ret
      refine ⟨HbW.out, ?_⟩
      rw [← GR.out]
      exact ⟨_, _, rfl⟩
  · simp only [if_neg he] at kc GR
    go_enter Tryz.func92, Tryz.ntmps92
    go_wp2_with fail
    refine (kc.out _).mono ?_
    rintro e w2 ⟨hU2, t', u', rfl⟩
    have hs2 := hU2.size
    simp at hs2
    have HbW : Hid (Upd (fun k => k = p ∨ k = b) W w2) := hid ⟨hU2.os, hU2.tape, hU2.output, by omega, fun k hk hF => (hU2.block k (by simp; omega) (by omega)).trans ((below_box W _).block k hk)⟩
    clear hU2 hs2 kc
    go_wp2_with fail
    go_ret
    refine ⟨HbW.out, ?_⟩
    rw [← GR.out]
    exact ⟨t', u', rfl⟩

end Go.Proofs.YtpbhcmfbcnihiaaGreat
