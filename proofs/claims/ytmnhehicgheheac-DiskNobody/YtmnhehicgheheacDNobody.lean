/- What disk's disk does where no call made it (nil, or a plain one): it answers the error, or nothing, and nothing turns; and what New does. -/
import Derived.Test.YtmnhehicgheheacClone
namespace Go.Proofs.Ytmnhehicgheheac
open Go.RowKit

/-- A disk that no call made. -/
def Nob (w : World) (v : Value) : Prop := v = .pointer none ∨ ∃ p, v = .pointer (some ⟨p, 0, none⟩) ∧ w.cell? ⟨p, 0, none⟩ = some (.slice none 0 0)

theorem Nob.below {w w' : World} {v : Value} (h : Nob w v) (hb : Below w.heap.size w w') : Nob w' v := by
  rcases h with rfl | ⟨p, rfl, hc⟩
  · exact .inl rfl
  · exact .inr ⟨p, rfl, (hb.cell (p := ⟨p, 0, none⟩) (World.block_lt_of_cell? _ _ hc)).trans hc⟩

theorem usable_no (v : Value) (w : World) (h : Nob w v) : Calls Try.prog 14 #[v] w fun e w' => e = .returned (.bool false) ∧ w' = w := by
  rcases h with rfl | ⟨p, rfl, hc⟩
  · go_enter Try.func14, Try.ntmps14
    go_wp2
    go_ret
    exact ⟨rfl, rfl⟩
  · go_enter Try.func14, Try.ntmps14
    go_wp2
    go_ret
    exact ⟨rfl, rfl⟩

theorem read_no (v : Value) (i : Int) (w : World) (h : Nob w v) : Calls Try.prog 4 #[v, .int .i64 i] w fun e w' => e = .returned (.tuple #[.slice none 0 0, .int .i64 2]) ∧ w' = w := by
  have k := hid (usable_no v w h)
  clear h
  go_enter Try.func4, Try.ntmps4
  go_wp2_with fail
  refine k.out.mono ?_
  rintro e w1 ⟨rfl, rfl⟩
  go_wp2_with fail
  go_ret2
  exact ⟨rfl, rfl⟩

theorem write_no (v : Value) (i : Int) (w : World) (h : Nob w v) : Calls Try.prog 5 #[v, .int .i64 i, .slice none 0 0] w fun e w' => e = .returned (.int .i64 2) ∧ w' = w := by
  have k := hid (usable_no v w h)
  clear h
  go_enter Try.func5, Try.ntmps5
  go_wp2_with fail
  refine k.out.mono ?_
  rintro e w1 ⟨rfl, rfl⟩
  go_wp2_with fail
  go_ret
  exact ⟨rfl, rfl⟩

theorem barrier_no (v : Value) (w : World) (h : Nob w v) : Calls Try.prog 6 #[v] w fun e w' => e = .returned (.int .i64 2) ∧ w' = w := by
  have k := hid (usable_no v w h)
  clear h
  go_enter Try.func6, Try.ntmps6
  go_wp2_with fail
  refine k.out.mono ?_
  rintro e w1 ⟨rfl, rfl⟩
  go_wp2_with fail
  go_ret
  exact ⟨rfl, rfl⟩

theorem flush_no (v : Value) (w : World) (h : Nob w v) : Calls Try.prog 7 #[v] w fun e w' => e = .returned (.int .i64 2) ∧ w' = w := by
  have k := hid (usable_no v w h)
  clear h
  go_enter Try.func7, Try.ntmps7
  go_wp2_with fail
  refine k.out.mono ?_
  rintro e w1 ⟨rfl, rfl⟩
  go_wp2_with fail
  go_ret
  exact ⟨rfl, rfl⟩

theorem crash_no (v : Value) (i : Int) (w : World) (h : Nob w v) : Calls Try.prog 8 #[v, .int .i64 i, .slice none 0 0, .int .i64 0] w fun e w' => e = .returned (.int .i64 2) ∧ w' = w := by
  have k := hid (usable_no v w h)
  clear h
  go_enter Try.func8, Try.ntmps8
  go_wp2_with fail
  refine k.out.mono ?_
  rintro e w1 ⟨rfl, rfl⟩
  go_wp2_with fail
  go_ret
  exact ⟨rfl, rfl⟩

theorem sectors_no (v : Value) (w : World) (h : Nob w v) : Calls Try.prog 9 #[v] w fun e w' => e = .returned (.int .i64 0) ∧ w' = w := by
  have k := hid (usable_no v w h)
  clear h
  go_enter Try.func9, Try.ntmps9
  go_wp2_with fail
  refine k.out.mono ?_
  rintro e w1 ⟨rfl, rfl⟩
  go_wp2_with fail
  go_ret
  exact ⟨rfl, rfl⟩

theorem epochs_no (v : Value) (w : World) (h : Nob w v) : Calls Try.prog 10 #[v] w fun e w' => e = .returned (.slice none 0 0) ∧ w' = w := by
  have k := hid (usable_no v w h)
  clear h
  go_enter Try.func10, Try.ntmps10
  go_wp2_with fail
  refine k.out.mono ?_
  rintro e w1 ⟨rfl, rfl⟩
  go_wp2_with fail
  go_ret
  exact ⟨rfl, rfl⟩

theorem image_no (v : Value) (w : World) (h : Nob w v) : Calls Try.prog 11 #[v] w fun e w' => e = .returned (.slice none 0 0) ∧ w' = w := by
  have k := hid (usable_no v w h)
  clear h
  go_enter Try.func11, Try.ntmps11
  go_wp2_with fail
  refine k.out.mono ?_
  rintro e w1 ⟨rfl, rfl⟩
  go_wp2_with fail
  go_ret
  exact ⟨rfl, rfl⟩

theorem copy_no (v : Value) (w : World) (h : Nob w v) : Calls Try.prog 12 #[v] w fun e w' => e = .returned (.pointer none) ∧ w' = w := by
  have k := hid (usable_no v w h)
  clear h
  go_enter Try.func12, Try.ntmps12
  go_wp2_with fail
  refine k.out.mono ?_
  rintro e w1 ⟨rfl, rfl⟩
  go_wp2_with fail
  go_ret
  exact ⟨rfl, rfl⟩

theorem usable_yes (p : Nat) (a : Addr) (n c : Nat) (w : World) (h0 : w.cell? ⟨p, 0, none⟩ = some (.slice (some a) n c)) (hn : 0 < n) (_hm : n ≤ 9223372036854775807) : Calls Try.prog 14 #[.pointer (some ⟨p, 0, none⟩)] w fun e w' => e = .returned (.bool true) ∧ w' = w := by
  have hd : decide ((0 : Int) < (n : Int)) = true := by simp; omega
  go_enter Try.func14, Try.ntmps14
  go_wp2
  go_ret
  exact ⟨rfl, rfl⟩

theorem sectors_yes (p : Nat) (a : Addr) (n c k : Nat) (w : World) (h0 : w.cell? ⟨p, 0, none⟩ = some (.slice (some a) n c)) (hn : 0 < n) (hm : n ≤ 9223372036854775807) (hk : k = n / 128) : Calls Try.prog 9 #[.pointer (some ⟨p, 0, none⟩)] w fun e w' => e = .returned (.int .i64 (k : Int)) ∧ w' = w := by
  have q := hid (usable_yes p a n c w h0 hn hm)
  have K := hid hk
  clear hk
  go_enter Try.func9, Try.ntmps9
  go_wp2_with fail
  refine q.out.mono ?_
  rintro e w1 ⟨rfl, rfl⟩
  go_wp2_with fail
  go_ret
  rw [K.out]
  exact ⟨rfl, rfl⟩

end Go.Proofs.Ytmnhehicgheheac
