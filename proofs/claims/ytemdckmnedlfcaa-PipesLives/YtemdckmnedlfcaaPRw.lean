/- What the program's Read and Write do. -/
import Derived.Test.YtemdckmnedlfcaaPMove
import Derived.OwnWalk
namespace Go.Proofs.Ytemdckmnedlfcaa
open Go.RowKit Lend
set_option linter.unusedVariables false

set_option maxHeartbeats 1000000 in
theorem read_err (x : Option Addr) (n c count : Int) (w : World) (h : Calls Try.prog 29 #[.pointer x, .int .i64 n] w fun e w' => e = .returned (.tuple #[.pointer none, .int .i64 c]) ∧ w' = w) (hc : ¬ c = 0) :
    Calls Try.prog 13 #[.pointer x, .int .i64 n, .int .i64 count] w fun e w' => e = .returned (.tuple #[.slice none 0 0, .bool false, .int .i64 c]) ∧ w' = w := by
  have k1 := hid h
  clear h
  go_enter Try.func13, Try.ntmps13
  go_wp2_with fail
  refine k1.out.mono ?_
  rintro e w1 ⟨rfl, rfl⟩
  go_wp2_with fail
  go_ret3
  exact ⟨rfl, rfl⟩

set_option maxHeartbeats 1000000 in
theorem write_err (x a : Option Addr) (len cap : Nat) (n c : Int) (w : World) (h : Calls Try.prog 29 #[.pointer x, .int .i64 n] w fun e w' => e = .returned (.tuple #[.pointer none, .int .i64 c]) ∧ w' = w) (hc : ¬ c = 0) :
    Calls Try.prog 17 #[.pointer x, .int .i64 n, .slice a len cap] w fun e w' => e = .returned (.tuple #[.int .i64 0, .bool false, .int .i64 c]) ∧ w' = w := by
  have k1 := hid h
  clear h
  go_enter Try.func17, Try.ntmps17
  go_wp2_with fail
  refine k1.out.mono ?_
  rintro e w1 ⟨rfl, rfl⟩
  go_wp2_with fail
  go_ret3
  exact ⟨rfl, rfl⟩

set_option maxHeartbeats 1000000 in
theorem read_neg (p i : Nat) (count : Int) (k : Bool) (P : Nat → Pp) (w : World) (h : Tb w p k P) (h1 : 1 ≤ i) (h4 : i ≤ 4) (ht : (P i).there = true) (hc : count < 0) :
    Calls Try.prog 13 #[.pointer (some ⟨p, 0, none⟩), .int .i64 i, .int .i64 count] w fun e w' => e = .returned (.tuple #[.slice none 0 0, .bool false, .int .i64 22]) ∧ w' = w := by
  have k1 := hid (pipe_yes p i k P w h h1 h4 ht)
  clear h ht
  go_enter Try.func13, Try.ntmps13
  go_wp2_with fail
  refine k1.out.mono ?_
  rintro e w1 ⟨rfl, rfl⟩
  go_wp2_with fail
  go_ret3
  exact ⟨rfl, rfl⟩

set_option maxHeartbeats 1000000 in
theorem read_zero (p i : Nat) (k : Bool) (P : Nat → Pp) (w : World) (h : Tb w p k P) (h1 : 1 ≤ i) (h4 : i ≤ 4) (ht : (P i).there = true) :
    Calls Try.prog 13 #[.pointer (some ⟨p, 0, none⟩), .int .i64 i, .int .i64 0] w fun e w' => e = .returned (.tuple #[.slice none 0 0, .bool false, .int .i64 0]) ∧ w' = w := by
  have k1 := hid (pipe_yes p i k P w h h1 h4 ht)
  clear h ht
  go_enter Try.func13, Try.ntmps13
  go_wp2_with fail
  refine k1.out.mono ?_
  rintro e w1 ⟨rfl, rfl⟩
  go_wp2_with fail
  go_ret3
  exact ⟨rfl, rfl⟩

set_option maxHeartbeats 1000000 in
theorem read_empty (p i : Nat) (count : Int) (k : Bool) (P : Nat → Pp) (w : World) (h : Tb w p k P) (h1 : 1 ≤ i) (h4 : i ≤ 4) (ht : (P i).there = true) (hc : 0 < count) (hq : (P i).q = []) :
    Calls Try.prog 13 #[.pointer (some ⟨p, 0, none⟩), .int .i64 i, .int .i64 count] w fun e w' => e = .returned (.tuple #[.slice none 0 0, .bool (decide (0 < (P i).w)), .int .i64 0]) ∧ w'.heap = w.heap ∧ Upd (fun _ => False) w w' := by
  have k1 := hid (pipe_yes p i k P w h h1 h4 ht)
  have hn := h.n i (by omega)
  have hw := h.w i (by omega)
  rw [hq, List.length_nil] at hn
  obtain ⟨o, go⟩ : ∃ o, o = 2 + i * 11 := ⟨_, rfl⟩
  obtain ⟨v, gv⟩ : ∃ v, v = (P i).w := ⟨_, rfl⟩
  rw [← go] at hn hw k1
  rw [← gv] at hw ⊢
  have c1 : ¬ count < 0 := by omega
  have c2 : ¬ count = 0 := by omega
  clear h ht hq go gv
  go_enter Try.func13, Try.ntmps13
  go_wp2_with fail
  refine k1.out.mono ?_
  rintro e w1 ⟨rfl, rfl⟩
  go_wp2_with fail
  go_region_held3 (fun wx => wx.cell? ⟨p, o + 1, none⟩ = some (.int .i64 v)) (go_keep) (fail)
  go_wp2_with fail
  go_ret3
  refine ⟨?_, rfl, (Upd.refl _ _).drewN 1⟩
  simp

set_option maxHeartbeats 1000000 in
theorem read_some (p i m : Nat) (count : Int) (k : Bool) (P : Nat → Pp) (w : World) (h : Tb w p k P) (h1 : 1 ≤ i) (h4 : i ≤ 4) (ht : (P i).there = true) (hc : 0 < count) (hq : 0 < (P i).q.length) (hm : (m : Int) = if ((P i).q.length : Int) < count then ((P i).q.length : Int) else count) :
    Calls Try.prog 13 #[.pointer (some ⟨p, 0, none⟩), .int .i64 i, .int .i64 count] w fun e w' => ∃ g c, e = .returned (.tuple #[.slice (some ⟨g, 0, none⟩) m c, .bool false, .int .i64 0]) ∧
      w'.ownsRow w.heap.size 5 1 (.slice (some ⟨g, 0, none⟩) m c) m (((P i).q.take m).map (Value.int .u8)) ∧ Tb w' p k (updP P i { P i with q := (P i).q.drop m }) ∧ Upd (· = p) w w' := by
  have k1 := hid (pipe_yes p i k P w h h1 h4 ht)
  have k2 := hid (take_any p i m count k P w h (by omega) hq hc hm)
  have hn := h.n i (by omega)
  obtain ⟨o, go⟩ : ∃ o, o = 2 + i * 11 := ⟨_, rfl⟩
  obtain ⟨n, gn⟩ : ∃ n, n = (P i).q.length := ⟨_, rfl⟩
  rw [← go] at hn k1 k2
  rw [← gn] at hn hq
  have c1 : ¬ count < 0 := by omega
  have c2 : ¬ count = 0 := by omega
  have c3 : ¬ (n : Int) = 0 := by omega
  clear h ht hm go gn
  go_enter Try.func13, Try.ntmps13
  go_wp2_with fail
  refine k1.out.mono ?_
  rintro e w1 ⟨rfl, rfl⟩
  go_wp2_with fail
  refine k2.out.mono ?_
  rintro e w2 ⟨g, c, rfl, ho, ht, hu⟩
  have HO := hid ho
  have HT := hid ht
  have HU := hid hu
  clear ho ht hu
  go_wp2_with fail
  go_ret3
  exact ⟨g, c, rfl, HO.out, HT.out, HU.out⟩

set_option maxHeartbeats 1000000 in
theorem write_broken (p i len cap : Nat) (a : Option Addr) (k : Bool) (P : Nat → Pp) (w : World) (h : Tb w p k P) (h1 : 1 ≤ i) (h4 : i ≤ 4) (ht : (P i).there = true) (hr : (P i).r = 0) :
    Calls Try.prog 17 #[.pointer (some ⟨p, 0, none⟩), .int .i64 i, .slice a len cap] w fun e w' => e = .returned (.tuple #[.int .i64 0, .bool false, .int .i64 32]) ∧ w' = w := by
  have k1 := hid (pipe_yes p i k P w h h1 h4 ht)
  have hn := h.r i (by omega)
  rw [hr] at hn
  clear h ht hr
  go_enter Try.func17, Try.ntmps17
  go_wp2_with fail
  refine k1.out.mono ?_
  rintro e w1 ⟨rfl, rfl⟩
  go_wp2_with fail
  go_ret3
  exact ⟨rfl, rfl⟩

set_option maxHeartbeats 1000000 in
theorem write_nil (p i cap : Nat) (a : Option Addr) (k : Bool) (P : Nat → Pp) (w : World) (h : Tb w p k P) (h1 : 1 ≤ i) (h4 : i ≤ 4) (hr : 0 < (P i).r) :
    Calls Try.prog 17 #[.pointer (some ⟨p, 0, none⟩), .int .i64 i, .slice a 0 cap] w fun e w' => e = .returned (.tuple #[.int .i64 0, .bool false, .int .i64 0]) ∧ w' = w := by
  have k1 := hid (pipe_yes p i k P w h h1 h4 (by simp [Pp.there, hr]))
  have hn := h.r i (by omega)
  obtain ⟨r, gr⟩ : ∃ r, r = (P i).r := ⟨_, rfl⟩
  rw [← gr] at hn hr
  have c1 : ¬ (r : Int) = 0 := by omega
  clear h gr
  go_enter Try.func17, Try.ntmps17
  go_wp2_with fail
  refine k1.out.mono ?_
  rintro e w1 ⟨rfl, rfl⟩
  go_wp2_with fail
  go_ret3
  exact ⟨rfl, rfl⟩

set_option maxHeartbeats 1000000 in
theorem write_full (p i len cap : Nat) (a : Option Addr) (k : Bool) (P : Nat → Pp) (w : World) (h : Tb w p k P) (h1 : 1 ≤ i) (h4 : i ≤ 4) (hr : 0 < (P i).r) (hl : 0 < len) (hq : (P i).q.length = 8) :
    Calls Try.prog 17 #[.pointer (some ⟨p, 0, none⟩), .int .i64 i, .slice a len cap] w fun e w' => e = .returned (.tuple #[.int .i64 0, .bool true, .int .i64 0]) ∧ w' = w := by
  have k1 := hid (pipe_yes p i k P w h h1 h4 (by simp [Pp.there, hr]))
  have k2 := hid (isfull_any p (2 + i * 11) _ true w (h.n i (by omega)) (by rw [hq]; rfl))
  have hn := h.r i (by omega)
  obtain ⟨r, gr⟩ : ∃ r, r = (P i).r := ⟨_, rfl⟩
  rw [← gr] at hn hr
  have c1 : ¬ (r : Int) = 0 := by omega
  have c2 : ¬ (len : Int) = 0 := by omega
  clear h gr hq
  go_enter Try.func17, Try.ntmps17
  go_wp2_with fail
  refine k1.out.mono ?_
  rintro e w1 ⟨rfl, rfl⟩
  go_wp2_with fail
  refine k2.out.mono ?_
  rintro e w1 ⟨rfl, rfl⟩
  go_wp2_with fail
  go_ret3
  exact ⟨rfl, rfl⟩

set_option maxHeartbeats 1000000 in
theorem write_some (p i m len cap : Nat) (ad : Addr) (k : Bool) (P : Nat → Pp) (zs : List Int) (w : World) (h : Tb w p k P) (h1 : 1 ≤ i) (h4 : i ≤ 4) (hr : 0 < (P i).r) (hl : 0 < len) (hq : (P i).q.length < 8) (hs : Src w (some ad) len zs) (hm : m = min len (8 - (P i).q.length)) :
    Calls Try.prog 17 #[.pointer (some ⟨p, 0, none⟩), .int .i64 i, .slice (some ad) len cap] w fun e w' => e = .returned (.tuple #[.int .i64 m, .bool false, .int .i64 0]) ∧ Tb w' p k (updP P i { P i with q := (P i).q ++ zs.take m }) ∧ Upd (· = p) w w' ∧ w'.heap.size = w.heap.size := by
  have k1 := hid (pipe_yes p i k P w h h1 h4 (by simp [Pp.there, hr]))
  have k2 := hid (isfull_any p (2 + i * 11) _ false w (h.n i (by omega)) (by symm; simp; omega))
  have k3 := hid (put_any p i m len cap ad k P zs w h (by omega) hq hs hl hm)
  have hn := h.r i (by omega)
  obtain ⟨r, gr⟩ : ∃ r, r = (P i).r := ⟨_, rfl⟩
  rw [← gr] at hn hr
  have c1 : ¬ (r : Int) = 0 := by omega
  have c2 : ¬ (len : Int) = 0 := by omega
  clear h gr hq hs hm
  go_enter Try.func17, Try.ntmps17
  go_wp2_with fail
  refine k1.out.mono ?_
  rintro e w1 ⟨rfl, rfl⟩
  go_wp2_with fail
  refine k2.out.mono ?_
  rintro e w1 ⟨rfl, rfl⟩
  go_wp2_with fail
  refine k3.out.mono ?_
  rintro e w2 ⟨rfl, ht, hu, hz⟩
  have HT := hid ht
  have HU := hid hu
  have HZ := hid hz
  clear ht hu hz
  go_wp2_with fail
  go_ret3
  exact ⟨rfl, HT.out, HU.out, HZ.out⟩

end Go.Proofs.Ytemdckmnedlfcaa
