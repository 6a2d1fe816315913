/- Two lists of tokens that are the same; an error as a number and a place. -/
import Derived.Test.YtidcodpekeaigaaDoorLTake
import Derived.Test.YtidcodpekeaigaaDoorLScan1
namespace Go.Proofs.YtidcodpekeaigaaDoor
open Go.RowKit
set_option linter.unusedVariables false

theorem toks_at : ∀ (l : List Tok) (j c : Nat) (h : j < l.length) (hc : c < 4), (toks l)[j * 4 + c]? = (tokc l[j])[c]?
  | [], j, c, h, hc => absurd h (Nat.not_lt_zero j)
  | t :: l, 0, c, h, hc => by
    have e : toks (t :: l) = tokc t ++ toks l := by simp [toks]
    rw [e, List.getElem?_append_left (by simp [tokc]; omega)]
    simp
  | t :: l, j + 1, c, h, hc => by
    have e : toks (t :: l) = tokc t ++ toks l := by simp [toks]
    have e4 : (tokc t).length = 4 := rfl
    rw [e, List.getElem?_append_right (by omega), e4, show (j + 1) * 4 + c - 4 = j * 4 + c by omega, toks_at l j c (by simpa using h) hc]
    simp

/-- The cells of a token in a list. -/
theorem toks_cells {w : World} {B g cap : Nat} {l : List Tok} (h : w.ownsRow B 33 4 (.slice (some ⟨g, 0, none⟩) l.length cap) l.length (toks l)) (j : Nat) (hj : j < l.length) :
    w.cell? ⟨g, j * 4, none⟩ = some (.int .i64 l[j].kind) ∧ w.cell? ⟨g, j * 4 + 1, none⟩ = some (.int .i64 l[j].at_) ∧ w.cell? ⟨g, j * 4 + 2, none⟩ = some (.string l[j].text) ∧ w.cell? ⟨g, j * 4 + 3, none⟩ = some (.int .i64 l[j].num) :=
  ⟨(h.cellAt _ (by omega)).trans (toks_at l j 0 hj (by omega)), (h.cellAt _ (by omega)).trans (toks_at l j 1 hj (by omega)), (h.cellAt _ (by omega)).trans (toks_at l j 2 hj (by omega)), (h.cellAt _ (by omega)).trans (toks_at l j 3 hj (by omega))⟩

theorem own_some {w : World} {B e size n : Nat} {v : Value} {xs : List Value} (h : w.ownsRow B e size v n xs) (hn : 0 < n) : ∃ g c, v = .slice (some ⟨g, 0, none⟩) n c := by
  rcases h.2 with ⟨rfl, rfl⟩ | ⟨g, cap, cur, rfl, _⟩
  · exact absurd hn (Nat.lt_irrefl 0)
  · exact ⟨g, cap, rfl⟩

set_option maxHeartbeats 2000000 in
theorem seq_yes (v1 v2 : Value) (B1 B2 : Nat) (l : List Tok) (w : World) (h1 : w.ownsRow B1 33 4 v1 l.length (toks l)) (h2 : w.ownsRow B2 33 4 v2 l.length (toks l)) (hn : l.length ≤ 100000) :
    Calls Tryd.prog 7 #[v1, v2] w fun e w' => e = .returned (.bool true) ∧ w'.heap = w.heap ∧ Upd (fun _ => False) w w' := by
  obtain ⟨a1, c1, rfl, _, _⟩ := own_shape h1
  obtain ⟨a2, c2, rfl, _, _⟩ := own_shape h2
  have H1 := hid h1
  have H2 := hid h2
  clear h1 h2
  obtain ⟨n, gn⟩ : ∃ n, n = l.length := ⟨_, rfl⟩
  rw [← gn] at hn ⊢
  have GN := hid gn
  clear gn
  go_enter Tryd.func7, Tryd.ntmps7
  go_wp2_with fail
  go_loopw [13] (fun s wr => ∃ j : Nat, j ≤ n ∧ s = .int .i64 j ∧ Hid (wr.heap = w.heap ∧ Upd (fun _ => False) w wr)) (fun s _ => n - (intOf s).toNat)
  case atStart => exact ⟨0, Nat.zero_le _, rfl, hid ⟨rfl, Upd.refl _ _⟩⟩
  case round =>
    obtain ⟨j, hj, rfl, HH⟩ := hrel
    by_cases h : j < n
    · have hjl : j < l.length := by rw [← GN.out]; exact h
      have h1 := H1.out
      have h2 := H2.out
      obtain ⟨g1, d1, e1⟩ := own_some h1 (by omega)
      obtain ⟨g2, d2, e2⟩ := own_some h2 (by omega)
      cases e1
      cases e2
      have cv : ∀ g o v, w.cell? ⟨g, o, none⟩ = some v → wr.cell? ⟨g, o, none⟩ = some v := fun g o v hv => by
        rw [← hv]; exact World.cell?_of_block (a := ⟨g, o, none⟩) (by rw [HH.out.1])
      obtain ⟨p0, p1, p2, p3⟩ := toks_cells h1 j hjl
      obtain ⟨q0, q1, q2, q3⟩ := toks_cells h2 j hjl
      have p0 := cv _ _ _ p0
      have p1 := cv _ _ _ p1
      have p2 := cv _ _ _ p2
      have p3 := cv _ _ _ p3
      have q0 := cv _ _ _ q0
      have q1 := cv _ _ _ q1
      have q2 := cv _ _ _ q2
      have q3 := cv _ _ _ q3
      obtain ⟨y0, g0⟩ : ∃ y0, y0 = l[j].kind := ⟨_, rfl⟩
      obtain ⟨y1, g1'⟩ : ∃ y1, y1 = l[j].at_ := ⟨_, rfl⟩
      obtain ⟨y2, g2'⟩ : ∃ y2, y2 = l[j].text := ⟨_, rfl⟩
      obtain ⟨y3, g3⟩ : ∃ y3, y3 = l[j].num := ⟨_, rfl⟩
      rw [← g0] at p0 q0
      rw [← g1'] at p1 q1
      rw [← g2'] at p2 q2
      rw [← g3] at p3 q3
      clear cv h1 h2 g0 g1' g2' g3
      go_wp2_with fail
      go_region_held3 (fun wx => wx.cell? ⟨g1, j * 4, none⟩ = some (.int .i64 y0) ∧ wx.cell? ⟨g1, j * 4 + 1, none⟩ = some (.int .i64 y1) ∧ wx.cell? ⟨g1, j * 4 + 2, none⟩ = some (.string y2) ∧ wx.cell? ⟨g1, j * 4 + 3, none⟩ = some (.int .i64 y3) ∧ wx.cell? ⟨g2, j * 4, none⟩ = some (.int .i64 y0) ∧ wx.cell? ⟨g2, j * 4 + 1, none⟩ = some (.int .i64 y1) ∧ wx.cell? ⟨g2, j * 4 + 2, none⟩ = some (.string y2) ∧ wx.cell? ⟨g2, j * 4 + 3, none⟩ = some (.int .i64 y3)) (go_keep) (fail)
      go_wp2_with fail
      go_roundw
      case rel => exact ⟨j + 1, by omega, by go_num, hid ⟨HH.out.1, HH.out.2.drewN 1⟩⟩
      case measure => simp [intOf]; omega
    · obtain rfl : j = n := by omega
      go_wp2_with fail
      go_ret
      exact ⟨rfl, HH.out⟩

set_option maxHeartbeats 1000000 in
theorem why_nil (w : World) : Calls Tryd.prog 16 #[.nilIface] w fun e w' => e = .returned (.tuple #[.int .i64 0, .int .i64 0]) ∧ w' = w := by
  go_enter Tryd.func16, Tryd.ntmps16
  go_wp2
  go_ret2
  exact ⟨rfl, rfl⟩

set_option maxHeartbeats 1000000 in
theorem why_fault (i why : Int) (w : World) : Calls Tryd.prog 16 #[.iface 56 (.agg #[.int .i64 i, .int .i64 why])] w fun e w' => e = .returned (.tuple #[.int .i64 why, .int .i64 i]) ∧ Below w.heap.size w w' := by
  have hta : ∀ W : World, (Instr.typeAssert (.iface 56 (.agg #[.int .i64 i, .int .i64 why])) 24 56 true).run Tryd.prog W = .ok (.tuple #[.agg #[.int .i64 i, .int .i64 why], .bool true]) W := fun W => by kernel_rfl
  go_enter Tryd.func16, Tryd.ntmps16
  go_wp2_with fail
  go_region
  go_wp2_with fail
  go_ret2
  exact ⟨rfl, ((Below.refl _ _).alloc (Nat.le_refl _) _).drew⟩

set_option maxHeartbeats 1000000 in
theorem is_nil (at_ why : Int) (w : World) : Calls Tryd.prog 6 #[.nilIface, .int .i64 at_, .int .i64 why] w fun e w' => e = .returned (.bool (decide (why = 0 ∧ at_ = 0))) ∧ w' = w := by
  have k1 := hid (why_nil w)
  go_enter Tryd.func6, Tryd.ntmps6
  go_wp2_with fail
  refine k1.out.mono ?_
  rintro e w1 ⟨rfl, rfl⟩
  go_wp2_with fail
  all_goals
    go_ret
    refine ⟨bool_same ?_, rfl⟩
    simp [*] <;> omega

set_option maxHeartbeats 1000000 in
theorem is_fault (i w0 at_ why : Int) (w : World) : Calls Tryd.prog 6 #[.iface 56 (.agg #[.int .i64 i, .int .i64 w0]), .int .i64 at_, .int .i64 why] w fun e w' => e = .returned (.bool (decide (w0 = why ∧ i = at_))) ∧ Below w.heap.size w w' := by
  have k1 := hid (why_fault i w0 w)
  go_enter Tryd.func6, Tryd.ntmps6
  go_wp2_with fail
  refine k1.out.mono ?_
  rintro e w1 ⟨rfl, hb⟩
  have HB := hid hb
  clear hb
  go_wp2_with fail
  all_goals
    go_ret
    refine ⟨bool_same ?_, HB.out⟩
    simp [*]

end Go.Proofs.YtidcodpekeaigaaDoor
