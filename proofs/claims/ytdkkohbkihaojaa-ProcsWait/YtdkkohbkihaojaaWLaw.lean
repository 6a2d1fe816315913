/- The road of ProcsWait. -/
import Derived.Test.YtdkkohbkihaojaaWWait
import Derived.Test.YtdkkohbkihaojaaWExit
import Derived.Test.YtdkkohbkihaojaaWLook
namespace Go.Proofs.Ytdkkohbkihaojaa
open Go.RowKit
set_option linter.unusedVariables false

/-- The law's pair: its third cell is the program's processes. -/
structure Pw (w : World) (b t f : Nat) (P : Nat → Pc) : Prop where
  cell : w.cell? ⟨b, 2, none⟩ = some (.pointer (some ⟨t, 0, none⟩))
  tab : Tq w t f 0 P
  ne : b ≠ t
  lt : b < w.heap.size
theorem Pw.upd {w w' : World} {b t f : Nat} {P P' : Nat → Pc} (h : Pw w b t f P) (u : Upd (· = t) w w') (ht : Tq w' t f 0 P') : Pw w' b t f P' :=
  ⟨(World.cell?_of_block (a := ⟨b, 2, none⟩) (u.block b h.lt h.ne)).trans h.cell, ht, h.ne, Nat.lt_of_lt_of_le h.lt u.size⟩
theorem Pw.below {w w' : World} {b t f : Nat} {P : Nat → Pc} (h : Pw w b t f P) (u : Below w.heap.size w w') : Pw w' b t f P :=
  ⟨(u.cell (p := ⟨b, 2, none⟩) h.lt).trans h.cell, h.tab.below u h.tab.lt, h.ne, Nat.lt_of_lt_of_le h.lt u.size⟩

theorem running_tab (t f : Nat) (c : Int) (w : World) (h : Tq w t f 0 (tab 2 1 c)) :
    Calls Try.prog 27 #[.pointer (some ⟨t, 0, none⟩)] w fun e w' => ∃ a k, e = .returned (.slice a 1 k) ∧ One w' a ∧ Below w.heap.size w w' := by
  refine (qrunning_any t f 0 _ w h).mono ?_
  rintro e w' ⟨v, rfl, hr, hv, hb⟩
  have hL : runL (tab 2 1 c) 5 = [.int .i64 1] := by simp [runL, qruns, tab, noProc]
  rw [hL] at hr
  rcases hr.2 with ⟨_, h0⟩ | ⟨g, k, cur, rfl, _, hg, _⟩
  · simp at h0
  · exact ⟨_, k, rfl, ⟨g, rfl, (hr.lt g rfl).2, by rw [hr.cellAt 0 (by simp)]; rfl⟩, hb⟩

theorem byte_of (a c : Int) (h : a % 256 = c) : 0 ≤ c ∧ c < 256 := by omega

set_option maxHeartbeats 4000000 in
set_option maxRecDepth 20000 in
theorem wait_road (a0 : Int) (a1 : Bool) (w : World) : Calls Try.prog 4 #[.int .i64 a0, .bool a1] w fun e w' => e = .returned (.bool true) ∧ Below w.heap.size w w' := by
  have k1 := hid (fresh_any w)
  cases a1
  all_goals
    go_enter Try.func4, Try.ntmps4
    go_wp2_with fail
    refine k1.out.mono ?_
    rintro e w1 ⟨b, t, f, rfl, hc, hq, hb0, ht0, hne, hlt, hbel⟩
    have P1 := hid (show Pw w1 b t f first from ⟨hc, hq, hne, hlt⟩)
    have B1 := hid hbel
    have k2 := hid (fork_first t f w1 hq)
    clear hq hbel k1 hb0 hne hlt
    go_wp2_with fail
    refine k2.out.mono ?_
    rintro e w2 ⟨rfl, hq2, hu2⟩
    have P2 := hid (P1.out.upd hu2 hq2)
    have B2 := hid (B1.out.trans (hu2.below B1.out.size (fun x hx => by omega)))
    have c2 := P2.out.cell
    have k3 := hid (wait_must t f 0 w2 hq2)
    clear hq2 hu2 k2 hc
    go_wp2_with fail
    refine k3.out.mono ?_
    rintro e w3 ⟨rfl, hb3⟩
    have P3 := hid (P2.out.below hb3)
    have B3 := hid (B2.out.trans (hb3.mono B2.out.size))
    have c3 := P3.out.cell
    clear hb3 k3 c2
  · have k4 := hid (exit_two t f a0 (a0 % 256) w3 P3.out.tab (and255 a0))
    go_wp2_with fail
    refine k4.out.mono ?_
    rintro e w4 ⟨rfl, hq4, hu4⟩
    have P4 := hid (P3.out.upd hu4 hq4)
    have B4 := hid (B3.out.trans (hu4.below B3.out.size (fun x hx => by omega)))
    have c4 := P4.out.cell
    have k5 := hid (running_tab t f _ w4 hq4)
    clear hq4 hu4 k4 c3
    go_wp2_with fail
    refine k5.out.mono ?_
    rintro e w5 ⟨a, k, rfl, ho, hb5⟩
    have hb6 : Below w5.heap.size w5 (w5.alloc (.cells #[.int .i64 1] 3)) := (Below.refl _ _).alloc (Nat.le_refl _) _
    have P5 := hid ((P4.out.below hb5).below hb6)
    have B5 := hid ((B4.out.trans (hb5.mono B4.out.size)).trans (hb6.mono (Nat.le_trans B4.out.size hb5.size)))
    have k6 := hid (sequal_one a (some ⟨w5.heap.size, 0, none⟩) k 1 (w5.alloc (.cells #[.int .i64 1] 3)) (by
      obtain ⟨g, rfl, hg, cg⟩ := ho
      exact ⟨g, rfl, Nat.lt_of_lt_of_le hg hb6.size, (hb6.cell (p := ⟨g, 0, none⟩) hg).trans cg⟩) ⟨_, rfl, by simp, by simp [go_sem]⟩)
    clear ho hb5 hb6 k5 c4
    go_wp2_with fail
    refine k6.out.mono ?_
    rintro e w6 ⟨rfl, hb6⟩
    have P6 := hid (P5.out.below hb6)
    have B6 := hid (B5.out.trans (hb6.mono B5.out.size))
    have c6 := P6.out.cell
    have k7 := hid (wait_over t f _ w6 P6.out.tab)
    clear hb6 k6
    go_wp2_with fail
    refine k7.out.mono ?_
    rintro e w7 ⟨rfl, hq7, hu7⟩
    have P7 := hid (P6.out.upd hu7 hq7)
    have B7 := hid (B6.out.trans (hu7.below B6.out.size (fun x hx => by omega)))
    have c7 := P7.out.cell
    rw [← tab_first] at hq7
    have k8 := hid (wait_quiet t f 0 0 w7 hq7)
    clear hq7 hu7 k7 c6
    go_wp2_with fail
    refine k8.out.mono ?_
    rintro e w8 ⟨rfl, hb8⟩
    have P8 := hid (P7.out.below hb8)
    have B8 := hid (B7.out.trans (hb8.mono B7.out.size))
    have c8 := P8.out.cell
    have hq8 := P8.out.tab
    rw [← tab_first] at hq8
    have k9 := hid (look_first t f w8 hq8)
    clear hb8 k8 c7 hq8
    go_wp2_with fail
    refine k9.out.mono ?_
    rintro e w9 ⟨⟨a9, c9, rfl⟩, hb9⟩
    have B9 := hid (B8.out.trans (hb9.mono B8.out.size))
    clear hb9 k9 c8
    go_wp2_with fail
    go_ret
    exact ⟨rfl, B9.out⟩
  · have k4 := hid (kill_two t f w3 P3.out.tab)
    go_wp2_with fail
    refine k4.out.mono ?_
    rintro e w4 ⟨rfl, hq4, hu4⟩
    have P4 := hid (P3.out.upd hu4 hq4)
    have B4 := hid (B3.out.trans (hu4.below B3.out.size (fun x hx => by omega)))
    have c4 := P4.out.cell
    have k5 := hid (running_tab t f _ w4 hq4)
    clear hq4 hu4 k4 c3
    go_wp2_with fail
    refine k5.out.mono ?_
    rintro e w5 ⟨a, k, rfl, ho, hb5⟩
    have hb6 : Below w5.heap.size w5 (w5.alloc (.cells #[.int .i64 1] 3)) := (Below.refl _ _).alloc (Nat.le_refl _) _
    have P5 := hid ((P4.out.below hb5).below hb6)
    have B5 := hid ((B4.out.trans (hb5.mono B4.out.size)).trans (hb6.mono (Nat.le_trans B4.out.size hb5.size)))
    have k6 := hid (sequal_one a (some ⟨w5.heap.size, 0, none⟩) k 1 (w5.alloc (.cells #[.int .i64 1] 3)) (by
      obtain ⟨g, rfl, hg, cg⟩ := ho
      exact ⟨g, rfl, Nat.lt_of_lt_of_le hg hb6.size, (hb6.cell (p := ⟨g, 0, none⟩) hg).trans cg⟩) ⟨_, rfl, by simp, by simp [go_sem]⟩)
    clear ho hb5 hb6 k5 c4
    go_wp2_with fail
    refine k6.out.mono ?_
    rintro e w6 ⟨rfl, hb6⟩
    have P6 := hid (P5.out.below hb6)
    have B6 := hid (B5.out.trans (hb6.mono B5.out.size))
    have c6 := P6.out.cell
    have k7 := hid (wait_over t f _ w6 P6.out.tab)
    clear hb6 k6
    go_wp2_with fail
    refine k7.out.mono ?_
    rintro e w7 ⟨rfl, hq7, hu7⟩
    have P7 := hid (P6.out.upd hu7 hq7)
    have B7 := hid (B6.out.trans (hu7.below B6.out.size (fun x hx => by omega)))
    have c7 := P7.out.cell
    rw [← tab_first] at hq7
    have k8 := hid (wait_quiet t f 0 0 w7 hq7)
    clear hq7 hu7 k7 c6
    go_wp2_with fail
    refine k8.out.mono ?_
    rintro e w8 ⟨rfl, hb8⟩
    have P8 := hid (P7.out.below hb8)
    have B8 := hid (B7.out.trans (hb8.mono B7.out.size))
    have c8 := P8.out.cell
    have hq8 := P8.out.tab
    rw [← tab_first] at hq8
    have k9 := hid (look_first t f w8 hq8)
    clear hb8 k8 c7 hq8
    go_wp2_with fail
    refine k9.out.mono ?_
    rintro e w9 ⟨⟨a9, c9, rfl⟩, hb9⟩
    have B9 := hid (B8.out.trans (hb9.mono B8.out.size))
    clear hb9 k9 c8
    go_wp2_with fail
    go_ret
    exact ⟨rfl, B9.out⟩

end Go.Proofs.Ytdkkohbkihaojaa
