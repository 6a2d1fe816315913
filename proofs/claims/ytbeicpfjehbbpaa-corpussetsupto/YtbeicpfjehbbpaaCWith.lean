/- What the program's Without does. -/
import Derived.Test.YtbeicpfjehbbpaaCCat
namespace Go.Proofs.Ytbeicpfjehbbpaa
open Go.RowKit Go.Sort Go.Shelf
set_option linter.unusedVariables false

theorem Ilst.drewN {w : World} {a : Option Addr} {n c : Nat} {xs : List Int} (h : Ilst w a n c xs) (q : Nat) : Ilst (w.drewN q) a n c xs := ⟨h.size, h.cells, h.nil⟩

theorem has_any (t : Nat) (a : Option Addr) (n c : Nat) (tk : List Int) (x : Int) (w : World) (hc : w.cell? ⟨t, 0, none⟩ = some (.slice a n c)) (h : Ilst w a n c tk) (hs : tk.Pairwise (· ≤ ·)) (hn : n * 8 ≤ 140737488355328) :
    Calls Try.prog 13 #[.int .i64 x, .pointer (some ⟨t, 0, none⟩)] w fun e w' => e = .returned (.bool (tk.contains x)) ∧ ∃ q, w' = w.drewN q := by
  have k1 : Hid (Calls Try.prog 14 #[.slice a n c, .int .i64 x] w fun e w' => (∃ i, e = .returned (.tuple #[.int .i64 i, .bool (tk.contains x)])) ∧ ∃ q, w' = w.drewN q) := by
    obtain rfl := h.size
    rcases Nat.eq_zero_or_pos tk.length with z | z
    · obtain rfl : tk = [] := List.eq_nil_of_length_eq_zero z
      refine hid ((Try.slices_BinarySearch_int_empty a c x w).mono ?_)
      rintro e w' ⟨rfl, rfl⟩
      exact ⟨⟨0, rfl⟩, 0, rfl⟩
    · obtain ⟨b, o, rfl, _, hcs⟩ := h.cells z
      refine hid ((Try.slices_BinarySearch_int b o tk.length c tk x w (Nat.le_refl _) (by omega) hcs (by rw [List.take_length]; exact hs)).mono ?_)
      rintro e w' ⟨rfl, q, rfl⟩
      rw [List.take_length]
      exact ⟨⟨_, rfl⟩, q, rfl⟩
  clear h hs
  generalize tk.contains x = r at k1 ⊢
  go_enter Try.func13, Try.ntmps13
  go_wp2_with fail
  refine k1.out.mono ?_
  rintro e w1 ⟨⟨i, rfl⟩, q, rfl⟩
  clear k1
  go_wp2_with fail
  go_ret
  exact ⟨rfl, q, rfl⟩

theorem delf_none (a : Option Addr) (c : Nat) (fv : Value) (w : World) : Calls Try.prog 12 #[.slice a 0 c, fv] w fun e w' => e = .returned (.slice a 0 c) ∧ w' = w := by
  have k1 := hid (Try.slices_IndexFunc_empty (α := Int) a c fv w)
  go_enter Try.func12, Try.ntmps12
  go_wp2_with fail
  refine k1.out.mono ?_
  rintro e w1 ⟨rfl, rfl⟩
  clear k1
  go_wp2_with fail
  go_ret
  exact ⟨rfl, rfl⟩

theorem lacks_rises (l k : List Int) : Rises (lacks l k) ((riseP l).filter fun x => !(riseP k).contains x) := by
  refine ⟨(riseP_rises l).1.filter _, fun x => ?_⟩
  have h1 := (riseP_rises l).2 x
  have h2 := (riseP_rises k).2 x
  have h3 : (riseP k).contains x = k.contains x := by rw [Bool.eq_iff_iff]; simp only [List.contains_iff_mem]; exact h2
  rw [List.mem_filter, h1, h3]
  unfold lacks
  rw [List.mem_filter]

/-- DeleteFunc with that closure. -/
theorem delf_any (B t : Nat) (a : Option Addr) (n c : Nat) (xs : List Int) (a2 : Option Addr) (n2 c2 : Nat) (tk : List Int) (W w : World) (h : Wlst w W.heap.size a n c xs) (hn : n * 8 ≤ 140737488355328) (u : Below W.heap.size W w)
    (ht : t < W.heap.size) (hc : W.cell? ⟨t, 0, none⟩ = some (.slice a2 n2 c2)) (hk : Ilst W a2 n2 c2 tk) (hs : tk.Pairwise (· ≤ ·)) (hn2 : n2 * 8 ≤ 140737488355328) :
    Calls Try.prog 12 #[.slice a n c, .func (.func 13) #[] #[.pointer (some ⟨t, 0, none⟩)]] w fun e w' => ∃ n', e = .returned (.slice a n' c) ∧ Ilst w' a n' c (xs.filter fun x => !tk.contains x) ∧ Below W.heap.size W w' := by
  rcases Nat.eq_zero_or_pos n with z | z
  · subst z
    obtain rfl : xs = [] := List.eq_nil_of_length_eq_zero h.size
    refine (delf_none a c _ w).mono ?_
    rintro e w' ⟨rfl, rfl⟩
    exact ⟨0, rfl, h.ilst, u⟩
  · obtain ⟨g, rfl, hg, hlt, hH⟩ := h.cells z
    obtain rfl := h.size
    have key : ∀ (w' : World) (x : Int), Below W.heap.size W w' → FnGives Try.prog 13 #[.pointer (some ⟨t, 0, none⟩)] #[.int .i64 x] (.bool (tk.contains x)) w' := fun w' x v =>
      has_any t a2 n2 c2 tk x w' ((v.cell (p := ⟨t, 0, none⟩) ht).trans hc) (hk.below v) hs hn2
    have k1 := Try.slices_DeleteFunc (Value.int .i64) (fun x => rfl) (fun x => tk.contains x) 13 #[.pointer (some ⟨t, 0, none⟩)] (enters_of Try.func13 (by kernel_rfl) rfl) 0 (fun w => Try.zeroValue3 w) g 0 c xs.toArray w
      (fun w' x v => key w' x (u.trans (v.mono u.size))) (fun m os dk x _ => key _ x (u.trans (below_sorted dk hg u.size))) hH (by simp; omega) (by simpa using h.le)
    have e : xs.toArray.size = xs.length := by simp
    rw [e] at k1
    refine k1.mono ?_
    rintro e w' ⟨rfl, q, rfl⟩
    have hsz := List.length_filter_le (fun x => !tk.contains x) xs
    have hH2 := holds_putRow (Value.int .i64) (Sort.ahead w q) g 0 xs.toArray ((xs.filter fun x => !tk.contains x) ++ List.replicate (xs.length - (xs.filter fun x => !tk.contains x).length) 0).toArray (holds_ahead _ _ _ _ _ _ hH) (by rw [List.size_toArray, List.size_toArray, List.length_append, List.length_replicate]; omega)
    have hB2 := below_sorted (B := W.heap.size) (w := w) (g := g) (n := q) (os := #[]) ((xs.filter fun x => !tk.contains x) ++ List.replicate (xs.length - (xs.filter fun x => !tk.contains x).length) 0).toArray hg u.size
    rw [grow_empty] at hB2
    have hW : Wlst (putRow (Value.int .i64) (Sort.ahead w q) g 0 ((xs.filter fun x => !tk.contains x) ++ List.replicate (xs.length - (xs.filter fun x => !tk.contains x).length) 0).toArray) W.heap.size (some ⟨g, 0, none⟩) (xs.filter fun x => !tk.contains x).length c (xs.filter fun x => !tk.contains x) :=
      ⟨rfl, Nat.le_trans hsz h.le, fun _ => ⟨g, rfl, hg, by simpa using hlt, holds_take _ _ _ _ hH2⟩, fun h => by cases h⟩
    exact ⟨_, rfl, hW.ilst, u.trans hB2⟩

set_option maxHeartbeats 2000000 in
theorem pwithout (a : Option Addr) (n c : Nat) (l : List Int) (b : Option Addr) (m d : Nat) (k : List Int) (w : World) (h : Ilst w a n c l) (q : Ilst w b m d k) (hn : n * 8 ≤ 140737488355328) (hm : m * 8 ≤ 140737488355328) :
    Calls Try.prog 6 #[.slice a n c, .slice b m d] w fun e w' => ∃ a' n' c' r, e = .returned (.slice a' n' c') ∧ Ilst w' a' n' c' r ∧ Rises (lacks l k) r ∧ r.length ≤ l.length ∧ Below w.heap.size w w' := by
  have k1 := hid (clone_lst b m d k w q hm)
  have HL := hid h
  have hl := h.size
  have hk := q.size
  clear h q
  go_enter Try.func6, Try.ntmps6
  go_wp2_with fail
  refine k1.out.mono ?_
  rintro e w1 ⟨a1, c1, rfl, hW1, hb1⟩
  have k2 := hid (prise w.heap.size a1 m c1 k w1 hW1 hm hb1.size)
  have HB1 := hid hb1
  clear k1 hW1 hb1
  go_wp2_with fail
  refine k2.out.mono ?_
  rintro e w2 ⟨n2, rfl, hW2, hb2⟩
  have hb2' := HB1.out.trans hb2
  obtain ⟨W, gW⟩ : ∃ W, W = w2.alloc (Obj.cells #[Value.slice a1 n2 c1] 22) := ⟨_, rfl⟩
  have hbW : Below w2.heap.size w2 W := by rw [gW]; exact (Below.refl _ _).alloc (Nat.le_refl _) _
  have hsW : W.heap.size = w2.heap.size + 1 := by rw [gW]; simp
  have hcW : W.cell? ⟨w2.heap.size, 0, none⟩ = some (.slice a1 n2 c1) := by rw [gW]; simp [go_sem]
  have HBW := hid (hb2'.trans (hbW.mono hb2'.size))
  have HIW := hid (hW2.ilst.below hbW)
  have HCW := hid hcW
  have HTW : Hid (w2.heap.size < W.heap.size) := hid (by omega)
  have HN2 : Hid (n2 * 8 ≤ 140737488355328) := hid (by have := hW2.size; have := riseP_length k; omega)
  have GW := hid gW
  have k3 := hid (clone_lst a n c l W (HL.out.below HBW.out) hn)
  clear k2 hW2 hb2 hb2' gW hbW hsW hcW HB1
  go_wp2_with fail
  rw [← GW.out]
  refine k3.out.mono ?_
  rintro e w3 ⟨a3, c3, rfl, hW3, hb3⟩
  have k4 := hid (prise W.heap.size a3 n c3 l w3 hW3 hn hb3.size)
  have HB3 := hid hb3
  clear k3 hW3 hb3
  go_wp2_with fail
  refine k4.out.mono ?_
  rintro e w4 ⟨n4, rfl, hW4, hb4⟩
  have k5 := hid (delf_any 0 w2.heap.size a3 n4 c3 (riseP l) a1 n2 c1 (riseP k) W w4 hW4 (by have := hW4.size; have := riseP_length l; omega) (HB3.out.trans hb4) HTW.out HCW.out HIW.out ((riseP_rises k).1.imp (fun h => by omega)) HN2.out)
  clear k4 hW4 hb4
  go_wp2_with fail
  refine k5.out.mono ?_
  rintro e w5 ⟨n5, rfl, hI5, hb5⟩
  have HI5 := hid hI5
  have HB5 := hid (HBW.out.trans (hb5.mono HBW.out.size))
  clear k5 hI5 hb5
  go_wp2_with fail
  go_ret
  exact ⟨_, _, _, _, rfl, HI5.out, lacks_rises l k, Nat.le_trans (List.length_filter_le _ _) (riseP_length l), HB5.out⟩

end Go.Proofs.Ytbeicpfjehbbpaa
