/- Whether a call takes what another one makes: what the program's uses answers. -/
import Derived.Test.YtmieoihjgckfhaaWCount
import Derived.Lib.SlicesS
namespace Go.Proofs.Ytmieoihjgckfhaa
open Go.RowKit Go.Lib
set_option linter.unusedVariables false
set_option maxRecDepth 20000

theorem ret_bool {a b : Bool} (h : a = b) : Ending.returned (.bool a) = .returned (.bool b) := by rw [h]
theorem any_false_take {α : Type} (l : List α) (f : α → Bool) (d : α) (j : Nat) (h : j < l.length) (h1 : (l.take j).any f = false) (h2 : f (l.getD j d) = false) : (l.take (j + 1)).any f = false := by
  rw [List.take_add_one, List.getElem?_eq_getElem h, List.any_append, h1]
  rw [List.getD_eq_getElem?_getD, List.getElem?_eq_getElem h] at h2
  simpa using h2
theorem any_true_at {α : Type} (l : List α) (f : α → Bool) (d : α) (j : Nat) (h : j < l.length) (h2 : f (l.getD j d) = true) : l.any f = true := by
  rw [List.getD_eq_getElem?_getD, List.getElem?_eq_getElem h] at h2
  exact List.any_eq_true.2 ⟨l[j], List.getElem_mem h, h2⟩

set_option maxHeartbeats 4000000 in
theorem sindex_any (a : Option Addr) (n c : Nat) (l : List ByteArray) (v : ByteArray) (w : World) (h : Strs w a l) (hn : l.length = n) (hc : n ≤ 9223372036854775807) :
    Calls Try.prog 33 #[.slice a n c, .string v] w fun e w' => ∃ r : Int, e = .returned (.int .i64 r) ∧ decide (0 ≤ r) = l.any (fun x => decide (v = x)) ∧ w' = w := by
  have HE := hid h
  have HN := hid hn
  clear h hn
  go_enter Try.func33, Try.ntmps33
  go_wp2_with fail
  go_loop [8] (fun k => ∃ j : Nat, j ≤ n ∧ k = .int .i64 j ∧ Hid ((l.take j).any (fun x => decide (v = x)) = false)) (fun k => n - (intOf k).toNat)
  case atStart => exact ⟨0, Nat.zero_le _, rfl, hid rfl⟩
  case round =>
    obtain ⟨j, hj, rfl, HA⟩ := hrel
    by_cases hlt : j < n
    · have hjl : j < l.length := by rw [HN.out]; exact hlt
      obtain ⟨b, o', rfl, hbl, hcs⟩ := HE.out (by omega)
      have hci := hcs j hjl
      have H1 := hid (any_false_take l (fun x => decide (v = x)) .empty j hjl HA.out)
      have H2 := hid (any_true_at l (fun x => decide (v = x)) .empty j hjl)
      generalize l.getD j .empty = x at hci H1 H2
      clear hcs hbl hjl
      by_cases hx : v = x
      · subst hx
        go_wp2_with fail
        go_ret
        exact ⟨_, rfl, by rw [H2.out (by simp)]; simp, rfl⟩
      · have hx1 : (v.toList == x.toList) = false := (bytes_beq_false_iff v x).2 hx
        go_wp2_with fail
        go_round
        case rel => exact ⟨j + 1, by omega, by go_num, hid (H1.out (by simpa using hx))⟩
        case measure => simp [intOf]; omega
    · obtain rfl : j = n := by omega
      go_wp2_with fail
      go_ret
      refine ⟨_, rfl, ?_, rfl⟩
      have := HA.out
      rw [← HN.out, List.take_length] at this
      rw [this]
      rfl

theorem scont_any (a : Option Addr) (n c : Nat) (l : List ByteArray) (v : ByteArray) (w : World) (h : Strs w a l) (hn : l.length = n) (hc : n ≤ 9223372036854775807) :
    Calls Try.prog 31 #[.slice a n c, .string v] w fun e w' => e = .returned (.bool (l.any (fun x => decide (v = x)))) ∧ w' = w := by
  have k1 := hid (sindex_any a n c l v w h hn hc)
  clear h hn
  go_enter Try.func31, Try.ntmps31
  go_wp2_with fail
  refine k1.out.mono ?_
  rintro e w1 ⟨r, rfl, hr, rfl⟩
  have HR := hid hr
  clear hr
  go_wp2_with fail
  go_ret
  exact ⟨ret_bool HR.out, rfl⟩

theorem Cc.Ok.strs {w : World} {B : Nat} {x : Cc} (h : x.Ok w B) : Strs w x.a x.ts ∧ x.ts.length = x.n := by
  have hl : x.ts.length = x.n := by have := h.1; simpa using this
  refine ⟨fun h0 => ?_, hl⟩
  have h1 := h
  rcases h.2 with ⟨e, hn⟩ | ⟨g, c, cur, e, hB, hg, _⟩
  · omega
  · injection e with e1 e2 e3
    refine ⟨g, 0, e1, (Array.getElem?_eq_some_iff.1 hg).1, fun j hj => ?_⟩
    unfold Cc.Ok at h1
    rw [e1] at h1
    rw [Nat.zero_add, h1.cellAt j (by omega), List.getElem?_map, List.getElem?_eq_getElem hj, List.getD_eq_getElem?_getD, List.getElem?_eq_getElem hj]
    rfl

/-- Does x take what y makes? -/
def usesB (x y : Cc) : Bool := decide (y.rs ≠ ⟨#[]⟩) && x.ts.any (fun t => decide (y.rs = t))

set_option maxHeartbeats 2000000 in
theorem uses_any (w : World) (B : Nat) (x y : Cc) (hx : x.Ok w B) (hn : x.n ≤ 9223372036854775807) :
    Calls Try.prog 27 #[.agg #[.string x.rs, .slice x.a x.n x.c], .agg #[.string y.rs, .slice y.a y.n y.c]] w fun e w' => e = .returned (.bool (usesB x y)) ∧ Below w.heap.size w w' := by
  obtain ⟨X, gX⟩ : ∃ X, (w.alloc (.cells #[.string x.rs, .slice x.a x.n x.c] 68)).alloc (.cells #[.string y.rs, .slice y.a y.n y.c] 68) = X := ⟨_, rfl⟩
  have hB : Below w.heap.size w X := by rw [← gX]; exact below_box2 w _ _
  have k1 := hid (scont_any x.a x.n x.c x.ts y.rs X (hx.strs.1.below hB) hx.strs.2 hn)
  have HB := hid hB
  have GX := hid gX
  unfold usesB
  clear hx hB gX
  obtain ⟨xr, xa, xn, xc, xt⟩ := x
  obtain ⟨yr, ya, yn, yc, yt⟩ := y
  dsimp only at *
  by_cases h0 : yr = ⟨#[]⟩
  · have e : (decide (yr ≠ ⟨#[]⟩) && xt.any (fun t => decide (yr = t))) = false := by simp [h0]
    rw [e]
    subst h0
    clear k1
    go_enter Try.func27, Try.ntmps27
    go_wp2_with fail
    rw [GX.out]
    go_ret
    exact ⟨rfl, HB.out⟩
  · have e : (decide (yr ≠ ⟨#[]⟩) && xt.any (fun t => decide (yr = t))) = xt.any (fun t => decide (yr = t)) := by simp [h0]
    rw [e]
    generalize xt.any (fun t => decide (yr = t)) = r at k1 ⊢
    have h1 : ¬ yr.toList = [] := fun q => by
      have := (bytes_beq_false_iff yr ⟨#[]⟩).2 h0
      rw [q] at this
      simp at this
    go_enter Try.func27, Try.ntmps27
    go_wp2_with fail
    rw [GX.out]
    refine k1.out.mono ?_
    rintro e w1 ⟨rfl, rfl⟩
    go_wp2_with fail
    go_ret
    exact ⟨ret_bool (show (!yr.toList.isEmpty && r) = r by simp [h1]), HB.out⟩

end Go.Proofs.Ytmieoihjgckfhaa
