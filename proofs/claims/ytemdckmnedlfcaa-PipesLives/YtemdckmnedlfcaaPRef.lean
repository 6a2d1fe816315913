/- The document's pipes as they lie, and what its New, there, Make, Hold, Drop do. -/
import Derived.Test.YtemdckmnedlfcaaPSpec
namespace Go.Proofs.Ytemdckmnedlfcaa
open Go.RowKit Lend
set_option linter.unusedVariables false

/-- A pipe's bytes, as a slice. -/
def rsl (A : Nat → Option Addr × Nat) (R : Nat → Pp) (i : Nat) : Value := .slice (A i).1 (R i).q.length (A i).2

/-- The document's table: a block of two cells, a row of five pipes, and rows of bytes of its own. -/
structure Rt (B : Nat) (w : World) (q g : Nat) (d : Int) (A : Nat → Option Addr × Nat) (R : Nat → Pp) : Prop where
  head : w.heap[q]? = some (.cells #[.slice (some ⟨g, 0, none⟩) 5 5, .int .i64 d] 64 (0, 0))
  row : ∃ C, w.heap[g]? = some (.cells (List.toArray C) 67 (0, 0)) ∧ C.length = 20 ∧ ∀ i, i < 5 → C[i * 4]? = some (.bool (R i).there) ∧ C[i * 4 + 1]? = some (.int .i64 (R i).r) ∧ C[i * 4 + 2]? = some (.int .i64 (R i).w) ∧ C[i * 4 + 3]? = some (rsl A R i)
  own : ∀ i, i < 5 → w.ownsRow B 5 1 (rsl A R i) (R i).q.length ((R i).q.map (Value.int .u8))
  norm : ∀ i, i < 5 → clr (R i) = R i
  geq : B ≤ q
  geg : B ≤ g

section
variable {B : Nat} {w w' : World} {q g : Nat} {d : Int} {A : Nat → Option Addr × Nat} {R : Nat → Pp}
theorem Rt.glt (h : Rt B w q g d A R) : g < w.heap.size := by obtain ⟨C, hb, _⟩ := h.row; exact (Array.getElem?_eq_some_iff.1 hb).1
theorem Rt.qlt (h : Rt B w q g d A R) : q < w.heap.size := (Array.getElem?_eq_some_iff.1 h.head).1
theorem Rt.cellL (h : Rt B w q g d A R) : w.cell? ⟨q, 0, none⟩ = some (.slice (some ⟨g, 0, none⟩) 5 5) := by rw [cell_of_row w q 0 _ 64 (0, 0) h.head]; rfl
theorem Rt.cellD (h : Rt B w q g d A R) : w.cell? ⟨q, 1, none⟩ = some (.int .i64 d) := by rw [cell_of_row w q 1 _ 64 (0, 0) h.head]; rfl
theorem Rt.cell0 (h : Rt B w q g d A R) (i : Nat) (hi : i < 5) : w.cell? ⟨g, i * 4, none⟩ = some (.bool (R i).there) := by
  obtain ⟨C, hb, _, hc⟩ := h.row; rw [cell_of_row w g _ _ 67 (0, 0) hb]; simpa using (hc i hi).1
theorem Rt.cell1 (h : Rt B w q g d A R) (i : Nat) (hi : i < 5) : w.cell? ⟨g, i * 4 + 1, none⟩ = some (.int .i64 (R i).r) := by
  obtain ⟨C, hb, _, hc⟩ := h.row; rw [cell_of_row w g _ _ 67 (0, 0) hb]; simpa using (hc i hi).2.1
theorem Rt.cell2 (h : Rt B w q g d A R) (i : Nat) (hi : i < 5) : w.cell? ⟨g, i * 4 + 2, none⟩ = some (.int .i64 (R i).w) := by
  obtain ⟨C, hb, _, hc⟩ := h.row; rw [cell_of_row w g _ _ 67 (0, 0) hb]; simpa using (hc i hi).2.2.1
theorem Rt.cell3 (h : Rt B w q g d A R) (i : Nat) (hi : i < 5) : w.cell? ⟨g, i * 4 + 3, none⟩ = some (rsl A R i) := by
  obtain ⟨C, hb, _, hc⟩ := h.row; rw [cell_of_row w g _ _ 67 (0, 0) hb]; simpa using (hc i hi).2.2.2
theorem Rt.frozen (h : Rt B w q g d A R) (o : Nat) : w.frozen? ⟨g, o, none⟩ = false := by
  obtain ⟨C, hb, _⟩ := h.row; simp [World.frozen?, hb]
theorem Rt.neg (h : Rt B w q g d A R) : q ≠ g := by
  intro e; obtain ⟨C, hb, _⟩ := h.row; rw [← e, h.head] at hb; cases hb
theorem ne_of_type {w : World} {g n B : Nat} {C : Array Value} {t : TypeId} {v : Value} {xs : List Value} (hg : w.heap[g]? = some (.cells C t (0, 0))) (ht : t ≠ 5) (h : w.ownsRow B 5 1 v n xs) : ∀ b, v.ownBlock = some b → b ≠ g := by
  intro b hb e
  subst e
  rcases h.2 with ⟨rfl, _⟩ | ⟨g', cap, cur, rfl, _, hh, _⟩
  · cases hb
  · simp [Value.ownBlock] at hb
    subst hb
    rw [hg] at hh
    injection hh with hh
    injection hh with h1 h2
    exact ht h2
theorem Rt.upd {F : Nat → Prop} (h : Rt B w q g d A R) (u : Upd F w w') (hq : ¬ F q) (hg : ¬ F g) (ho : ∀ i, i < 5 → ∀ b, (rsl A R i).ownBlock = some b → ¬ F b) : Rt B w' q g d A R := by
  obtain ⟨C, hb, hc⟩ := h.row
  exact ⟨u.heap h.head hq, ⟨C, u.heap hb hg, hc⟩, fun i hi => u.own (h.own i hi) (ho i hi), h.norm, h.geq, h.geg⟩
theorem Rt.below (h : Rt B w q g d A R) (u : Below w.heap.size w w') : Rt B w' q g d A R := by
  obtain ⟨C, hb, hc⟩ := h.row
  exact ⟨by rw [u.block q h.qlt]; exact h.head, ⟨C, by rw [u.block g h.glt]; exact hb, hc⟩, fun i hi => own_below (h.own i hi) u, h.norm, h.geq, h.geg⟩
theorem Rt.hp (h : Rt B w q g d A R) (e : w'.heap = w.heap) : Rt B w' q g d A R := by
  obtain ⟨C, hb, hc⟩ := h.row
  refine ⟨by rw [e]; exact h.head, ⟨C, by rw [e]; exact hb, hc⟩, fun i hi => ?_, h.norm, h.geq, h.geg⟩
  obtain ⟨h1, h2⟩ := h.own i hi
  refine ⟨h1, ?_⟩
  rcases h2 with h2 | ⟨g', cap, cur, a, b, c, r⟩
  · exact .inl h2
  · exact .inr ⟨g', cap, cur, a, b, by rw [e]; exact c, r⟩

def updA (A : Nat → Option Addr × Nat) (i : Nat) (a : Option Addr × Nat) : Nat → Option Addr × Nat := fun j => if j = i then a else A j

/-- Some cells of one pipe are stored anew. -/
theorem Rt.put (h : Rt B w q g d A R) (i : Nat) (hi : i < 5) (x : Pp) (a : Option Addr × Nat) (hx : clr x = x) (u : Upd (· = g) w w') (C' : List Value) (hC : w'.heap[g]? = some (.cells C'.toArray 67 (0, 0))) (hl : C'.length = 20)
    (out : ∀ C : List Value, w.heap[g]? = some (.cells C.toArray 67 (0, 0)) → C.length = 20 → ∀ j, j < i * 4 ∨ i * 4 + 4 ≤ j → C'[j]? = C[j]?)
    (h0 : C'[i * 4]? = some (.bool x.there)) (h1 : C'[i * 4 + 1]? = some (.int .i64 x.r)) (h2 : C'[i * 4 + 2]? = some (.int .i64 x.w)) (h3 : C'[i * 4 + 3]? = some (.slice a.1 x.q.length a.2))
    (ho : w.ownsRow B 5 1 (.slice a.1 x.q.length a.2) x.q.length (x.q.map (Value.int .u8))) : Rt B w' q g d (updA A i a) (updP R i x) := by
  obtain ⟨C, hb, hcl, hc⟩ := h.row
  have hout := out C hb hcl
  refine ⟨u.heap h.head h.neg, ⟨C', hC, hl, fun j hj => ?_⟩, fun j hj => ?_, fun j hj => ?_, h.geq, h.geg⟩
  · by_cases e : j = i
    · subst e; rw [updP_same]; refine ⟨h0, h1, h2, ?_⟩; simp only [rsl, updP_same]; simpa [updA] using h3
    · have := hc j hj
      rw [updP_ne _ _ _ _ e, hout _ (by omega), hout _ (by omega), hout _ (by omega), hout _ (by omega)]
      refine ⟨this.1, this.2.1, this.2.2.1, ?_⟩
      rw [this.2.2.2]; simp [rsl, updA, e, updP]
  · by_cases e : j = i
    · subst e
      have : rsl (updA A j a) (updP R j x) j = .slice a.1 x.q.length a.2 := by simp [rsl, updA, updP]
      rw [this, updP_same]
      exact u.own ho (fun b hb' => ne_of_type hb (by decide) ho b hb')
    · have : rsl (updA A i a) (updP R i x) j = rsl A R j := by simp [rsl, updA, updP, e]
      rw [this, updP_ne _ _ _ _ e]
      exact u.own (h.own j hj) (fun b hb' => ne_of_type hb (by decide) (h.own j hj) b hb')
  · by_cases e : j = i
    · subst e; rw [updP_same]; exact hx
    · rw [updP_ne _ _ _ _ e]; exact h.norm j hj

/-- Four cells at once. -/
theorem Rt.put4 (h : Rt B w q g d A R) (i : Nat) (hi : i < 5) (x : Pp) (a : Option Addr × Nat) (hx : clr x = x) (ho : w.ownsRow B 5 1 (.slice a.1 x.q.length a.2) x.q.length (x.q.map (Value.int .u8))) :
    Rt B (w.setCells g (i * 4) [.bool x.there, .int .i64 x.r, .int .i64 x.w, .slice a.1 x.q.length a.2]) q g d (updA A i a) (updP R i x) := by
  obtain ⟨C, hb, hcl, hc⟩ := h.row
  have hs : i * 4 + [Value.bool x.there, .int .i64 x.r, .int .i64 x.w, .slice a.1 x.q.length a.2].length ≤ C.length := by simp; omega
  have hin := fun j (hj : j < 4) => getElem?_splice_in C [Value.bool x.there, .int .i64 x.r, .int .i64 x.w, .slice a.1 x.q.length a.2] (i * 4) j hs hj
  refine h.put i hi x a hx (upd_setCells g _ _ _) _ (heap_setCells g 67 _ _ w C hb hs) (by rw [length_splice _ _ _ hs, hcl]) ?_ (hin 0 (by omega)) (hin 1 (by omega)) (hin 2 (by omega)) (hin 3 (by omega)) ho
  intro C2 hb2 _ j hj
  rw [hb] at hb2
  have e : C = C2 := by injection hb2 with e; injection e with e; simpa using e
  rw [← e]
  exact getElem?_splice_out _ _ _ _ hs (by simpa using hj)

/-- One cell. -/
theorem Rt.put1 (h : Rt B w q g d A R) (i : Nat) (hi : i < 5) (x : Pp) (a : Option Addr × Nat) (hx : clr x = x) (o : Nat) (v : Value) (ho : w.ownsRow B 5 1 (.slice a.1 x.q.length a.2) x.q.length (x.q.map (Value.int .u8))) (ho4 : o < 4)
    (k0 : x.there = (R i).there) (k1 : if o = 1 then v = .int .i64 x.r else x.r = (R i).r) (k2 : if o = 2 then v = .int .i64 x.w else x.w = (R i).w) (k3 : if o = 3 then v = .slice a.1 x.q.length a.2 else (x.q = (R i).q ∧ a = A i)) (k4 : o ≠ 0) :
    Rt B (w.setCell ⟨g, i * 4 + o, none⟩ v) q g d (updA A i a) (updP R i x) := by
  obtain ⟨C, hb, hcl, hc⟩ := h.row
  have hci := hc i hi
  have hs := heap_setCell_same w g (i * 4 + o) C.toArray 67 v hb
  refine h.put i hi x a hx (Upd.setCell w ⟨g, i * 4 + o, none⟩ v rfl) (C.set (i * 4 + o) v) (by rw [hs]; simp) (by simp [hcl]) ?_ ?_ ?_ ?_ ?_ ho
  · intro C2 hb2 _ j hj
    rw [hb] at hb2
    have e : C = C2 := by injection hb2 with e; injection e with e; simpa using e
    rw [← e, List.getElem?_set_ne (by omega)]
  · rw [List.getElem?_set_ne (by omega), k0]; exact hci.1
  · by_cases e : o = 1
    · subst e; rw [if_pos rfl] at k1; rw [List.getElem?_set_self (by omega), k1]
    · rw [if_neg e] at k1; rw [List.getElem?_set_ne (by omega), k1]; exact hci.2.1
  · by_cases e : o = 2
    · subst e; rw [if_pos rfl] at k2; rw [List.getElem?_set_self (by omega), k2]
    · rw [if_neg e] at k2; rw [List.getElem?_set_ne (by omega), k2]; exact hci.2.2.1
  · by_cases e : o = 3
    · subst e; rw [if_pos rfl] at k3; rw [List.getElem?_set_self (by omega), k3]
    · rw [if_neg e] at k3; rw [List.getElem?_set_ne (by omega), k3.1, k3.2]; exact hci.2.2.2
end

set_option maxHeartbeats 1000000 in
theorem rthere_any (B q g : Nat) (n d : Int) (A : Nat → Option Addr × Nat) (R : Nat → Pp) (w : World) (h : Rt B w q g d A R) :
    Calls Try.prog 31 #[.pointer (some ⟨q, 0, none⟩), .int .i64 n] w fun e w' => e = .returned (.bool (has R n)) ∧ w' = w := by
  by_cases c1 : 1 ≤ n
  · by_cases c4 : n ≤ 4
    · obtain ⟨i, rfl⟩ := Int.eq_ofNat_of_zero_le (show 0 ≤ n by omega)
      have e1 := h.cellL
      have e2 := h.cell0 i (by omega)
      have ht : has R (i : Int) = (R i).there := by simp [has, c1, c4]
      rw [ht]
      obtain ⟨b, gb⟩ : ∃ b, b = (R i).there := ⟨_, rfl⟩
      rw [← gb] at e2 ⊢
      have c3 : (0 : Int) ≤ i := by omega
      have c5 : (i : Int) < 5 := by omega
      clear h ht gb
      go_enter Try.func31, Try.ntmps31
      go_wp2
      go_ret
      exact ⟨rfl, rfl⟩
    · have ht : has R n = false := by simp [has, c4]
      rw [ht]
      clear h ht
      go_enter Try.func31, Try.ntmps31
      go_wp2
      go_ret
      exact ⟨rfl, rfl⟩
  · have ht : has R n = false := by simp [has, c1]
    rw [ht]
    clear h ht
    go_enter Try.func31, Try.ntmps31
    go_wp2
    go_ret
    exact ⟨rfl, rfl⟩

theorem nil_own (w : World) (B : Nat) : w.ownsRow B 5 1 (.slice none ([] : List Int).length 0) ([] : List Int).length (([] : List Int).map (Value.int .u8)) := World.ownsRow_nil _ _ _ _
theorem csize67 : (Try.prog.info? 67).map (·.size) = some 4 := by kernel_rfl

set_option maxHeartbeats 1000000 in
theorem rmake_any (B q g : Nat) (d : Int) (A : Nat → Option Addr × Nat) (R : Nat → Pp) (w : World) (h : Rt B w q g d A R) :
    Calls Try.prog 12 #[.pointer (some ⟨q, 0, none⟩)] w fun e w' => e = .returned (.tuple #[.int .i64 (lowest R), .int .i64 (makeE R)]) ∧ (∃ A', Rt B w' q g d A' (makeP R)) ∧ Upd (· = g) w w' := by
  have hcL := h.cellL
  have H := hid h
  clear h
  by_cases h0 : lowest R = 0
  · have ALL := hid (lowest_none R h0)
    have hE : makeE R = 23 := by simp [makeE, h0]
    have hP : makeP R = R := by simp [makeP, h0]
    rw [hE, hP, h0]
    clear hE hP h0
    go_enter Try.func12, Try.ntmps12
    go_wp2_with fail
    go_loop [4] (fun s => ∃ j : Nat, 1 ≤ j ∧ j ≤ 5 ∧ s = .int .i64 j) (fun s => 5 - (intOf s).toNat)
    case atStart => exact ⟨1, by omega, by omega, rfl⟩
    case round =>
      obtain ⟨j, hj1, hji, rfl⟩ := hrel
      by_cases e : j < 5
      · have c1 : (j : Int) ≤ 4 := by omega
        have c3 : (0 : Int) ≤ j := by omega
        have c4 : (j : Int) < 5 := by omega
        have hc := H.out.cell0 j (by omega)
        rw [ALL.out j hj1 (by omega)] at hc
        go_wp2_with fail
        go_round
        case rel => exact ⟨j + 1, by omega, by omega, by go_num⟩
        case measure => simp [intOf]; omega
      · obtain rfl : j = 5 := by omega
        go_wp2_with fail
        go_ret2
        exact ⟨rfl, ⟨_, H.out⟩, Upd.refl _ _⟩
  · obtain ⟨h1, h4, low, free⟩ := lowest_some R h0
    have hE : makeE R = 0 := by simp [makeE, h0]
    have hP : makeP R = updP R (lowest R) ⟨1, 1, []⟩ := by simp [makeP, h0]
    rw [hE, hP]
    clear hE hP h0
    obtain ⟨i, gi⟩ : ∃ i, i = lowest R := ⟨_, rfl⟩
    rw [← gi] at h1 h4 low free ⊢
    have LOW := hid low
    have FREE := hid free
    clear low free gi
    go_enter Try.func12, Try.ntmps12
    go_wp2_with fail
    go_loop [4] (fun s => ∃ j : Nat, 1 ≤ j ∧ j ≤ i ∧ s = .int .i64 j) (fun s => i - (intOf s).toNat)
    case atStart => exact ⟨1, by omega, h1, rfl⟩
    case round =>
      obtain ⟨j, hj1, hji, rfl⟩ := hrel
      have c1 : (j : Int) ≤ 4 := by omega
      have c3 : (0 : Int) ≤ j := by omega
      have c4 : (j : Int) < 5 := by omega
      have hc := H.out.cell0 j (by omega)
      by_cases e : j < i
      · rw [LOW.out j hj1 e] at hc
        go_wp2_with fail
        go_round
        case rel => exact ⟨j + 1, by omega, by omega, by go_num⟩
        case measure => simp [intOf]; omega
      · obtain rfl : j = i := by omega
        rw [FREE.out] at hc
        obtain ⟨C, hC, hCl, _⟩ := H.out.row
        have HTH := hid (there_of_block hC (j * 4) 4 (by rw [hCl]; omega))
        have HN := hid (H.out.put4 j (by omega) ⟨1, 1, []⟩ (none, 0) rfl (nil_own w B))
        clear hC hCl
        go_wp2_with (refine wpList_store_mid rfl 67 (.tmp 24) (.tmp 23) rfl g (j * 4) #[.bool true, .int .i64 1, .int .i64 1, .slice none 0 0] rfl rfl HTH.out csize67 (by simp [Value.oneCell']) ?_)
        go_ret2
        exact ⟨rfl, ⟨_, HN.out⟩, upd_setCells g _ _ _⟩

end Go.Proofs.Ytemdckmnedlfcaa
