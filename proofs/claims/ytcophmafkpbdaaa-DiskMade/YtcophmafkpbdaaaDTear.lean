/- What disk.tear and Epochs do. -/
import Derived.Test.YtcophmafkpbdaaaDChoose
import Derived.Test.YtcophmafkpbdaaaDCopied2
namespace Go.Proofs.Ytcophmafkpbdaaa
open Go.RowKit
set_option linter.unusedVariables false

/-- Epochs: a copy of what is not durable. -/
theorem epochs_any (d : Dk) (p : Nat) (w : World) (hok : d.ok w p) (hsz : d.eps.length ≤ 5000000000000) :
    Calls Try.prog 18 #[.pointer (some ⟨p, 0, none⟩)] w fun r w' => ∃ E, r = .returned (.slice (some ⟨w.heap.size, 0, none⟩) d.eps.length d.eps.length) ∧ Part w w' w.heap.size d.eps.length d.n d.eps.length d.eps E := by
  have k1 := hid (dusable d p w hok)
  obtain ⟨ae, ce, hve, hce1, hce2⟩ := own_shape hok.row
  obtain ⟨c0, c1, c2, c3⟩ := hok.cell
  have k2 := hid (copied_any d.ve d.eps d.n w hok.row hok.eps hok.n2 hsz)
  rw [hve] at c2 k2
  clear hok hve c0 c1 c3
  obtain ⟨m, hm⟩ : ∃ m, m = d.eps.length := ⟨_, rfl⟩
  rw [← hm] at c2 k2 hce1 hsz ⊢
  clear hm
  go_enter Try.func18, Try.ntmps18
  go_wp2_with fail
  refine k1.out.mono ?_
  rintro r w1 ⟨rfl, h⟩
  subst w1
  go_wp2_with fail
  refine k2.out.mono ?_
  rintro r w1 ⟨E, rfl, hP⟩
  have HP := hid hP
  clear hP
  go_wp2_with fail
  go_ret
  exact ⟨E, rfl, HP.out⟩

set_option maxHeartbeats 1000000 in
set_option maxRecDepth 20000 in
theorem tear_any (g c n t : Nat) (ini : List Snt) (s : Snt) (w : World) (hn : ini.length = n) (hn2 : n ≤ 4096) (hown : w.ownsRow 0 57 2 (.slice (some ⟨g, 0, none⟩) (n + 1) c) (n + 1) (sentCells (ini ++ [s]))) (ht : t ≤ 9223372036854775807) (hsc : 128 ≤ s.cap) (hsc2 : s.cap ≤ 9223372036854775807) :
    Calls Try.prog 45 #[.slice (some ⟨g, 0, none⟩) (n + 1) c, .int .i64 t] w fun r w' => r = .returned (.slice (some ⟨g, 0, none⟩) (n + 1) c) ∧ w'.ownsRow 0 57 2 (.slice (some ⟨g, 0, none⟩) (n + 1) c) (n + 1) (sentCells ini ++ [.int .i64 s.sec, .slice (some ⟨s.blk, 0, none⟩) (min t 128) s.cap]) ∧ Upd (· = g) w w' := by
  obtain ⟨_, _, hc1, hc2m, _, _⟩ := own_heap hown
  have hc2 : c ≤ 9223372036854775807 := by unfold maxLen at hc2m; omega
  have hcell : w.cell? ⟨g, n * 2 + 1, none⟩ = some s.val := by
    rw [hown.cellAt _ (by omega)]
    have := sentCells_at (ini ++ [s]) n (by simp [hn])
    rw [this.2]
    simp [← hn]
  have hfz := hown.frozenAt (n * 2 + 1)
  simp only [Snt.val] at hcell
  have hst := hown.stored (n * 2 + 1) (.slice (some ⟨s.blk, 0, none⟩) (min t 128) s.cap)
  have hset : (sentCells (ini ++ [s])).set (n * 2 + 1) (.slice (some ⟨s.blk, 0, none⟩) (min t 128) s.cap) = sentCells ini ++ [.int .i64 s.sec, .slice (some ⟨s.blk, 0, none⟩) (min t 128) s.cap] := by
    rw [sentCells_snoc, List.set_append, if_neg (by rw [sentCells_len]; omega), sentCells_len, hn, show n * 2 + 1 - n * 2 = 1 by omega]
    rfl
  rw [hset] at hst
  have HST := hid hst
  clear hown hst hset hn
  obtain ⟨m, hm⟩ : ∃ m, m = min t 128 := ⟨_, rfl⟩
  rw [← hm] at HST ⊢
  have hIf : (if (128 : Int) < (t : Int) then (128 : Int) else (t : Int)) = (m : Int) := by split <;> omega
  have hm2 : (m : Int) ≤ (s.cap : Int) := by omega
  have hm3 : (0 : Int) ≤ (m : Int) := by omega
  clear hm
  go_enter Try.func45, Try.ntmps45
  go_wp2_with fail
  go_region
  go_wp2_with fail
  go_ret
  exact ⟨rfl, HST.out.1, ⟨rfl, rfl, rfl, by simp, fun k _ hk => heap_setCell_other w _ _ _ hk⟩⟩

/-- What is torn off a list of writes. -/
def tornE (es : List Snt) (t : Nat) : List (Nat × List Int) := (es.dropLast.map Snt.ab) ++ (es.getLast?.toList.map fun s => (s.sec, s.bs.take (min t 128)))

theorem filter_sub {e : Ep} {w : World} {N : Nat} (he : e.ok w N) (P : Snt → Bool) : ∀ s ∈ e.es.filter P, s ∈ e.es ∧ s.ok w ∧ s.sec < N := fun s hs =>
  ⟨(List.mem_filter.1 hs).1, he.es s (List.mem_filter.1 hs).1, he.rise.2 _ (List.mem_map.2 ⟨s, (List.mem_filter.1 hs).1, rfl⟩)⟩

/-- The writes that a crash leaves, the last one torn, as they are read. -/
theorem cuts_torn {w : World} {gd N g c n t : Nat} {ini : List Snt} {s : Snt} (hn : ini.length = n) (hrow : w.ownsRow 0 57 2 (.slice (some ⟨g, 0, none⟩) (n + 1) c) (n + 1) (sentCells ini ++ [.int .i64 s.sec, .slice (some ⟨s.blk, 0, none⟩) (min t 128) s.cap]))
    (hg : g ≠ gd) (hok : ∀ u ∈ ini ++ [s], u.ok w ∧ u.sec < N ∧ u.blk ≠ gd) : Cuts w gd N (some ⟨g, 0, none⟩) c (ini.map Snt.cut ++ [⟨s.sec, ⟨s.blk, 0, none⟩, min t 128, s.cap, s.bs.take (min t 128)⟩]) := by
  obtain ⟨_, hh, hc1, hc2, _, _⟩ := own_heap hrow
  have hgl : g < w.heap.size := (Array.getElem?_eq_some_iff.1 hh).1
  refine ⟨by simp [hn]; omega, by unfold maxLen at hc2; omega, fun _ => ⟨g, 0, rfl, hg, hgl, fun j hj => ?_⟩, fun u hu => ?_⟩
  · have hjn : j < n + 1 := by simpa [hn] using hj
    rw [show 0 + j * 2 = j * 2 by omega, hrow.cellAt _ (by omega), hrow.cellAt _ (by omega)]
    rcases (show j < n ∨ j = n by omega) with h | rfl
    · have hji : j < ini.length := by omega
      have h2 := sentCells_at ini j hji
      rw [List.getElem?_append_left (by rw [sentCells_len]; omega), List.getElem?_append_left (by rw [sentCells_len]; omega), h2.1, h2.2]
      rw [List.getElem_append_left (by simpa using hji)]
      simp [Snt.cut, Snt.val]
    · rw [List.getElem?_append_right (by rw [sentCells_len]; omega), List.getElem?_append_right (by rw [sentCells_len]; omega), sentCells_len, hn, Nat.sub_self, show j * 2 + 1 - j * 2 = 1 by omega]
      rw [List.getElem_append_right (by simp [hn])]
      simp [hn]
  · rcases List.mem_append.1 hu with h | h
    · obtain ⟨v, hv, rfl⟩ := List.mem_map.1 h
      obtain ⟨h1, h2, h3⟩ := hok v (List.mem_append.2 (.inl hv))
      exact ⟨h2, Nat.le_refl _, Src.own h1.2, h3⟩
    · simp at h
      subst h
      obtain ⟨h1, h2, h3⟩ := hok s (by simp)
      have hsrc : Src w (some ⟨s.blk, 0, none⟩) 128 s.bs := Src.own h1.2
      have hl := hsrc.1
      refine ⟨h2, by show min t 128 ≤ 128; omega, ⟨by simp; omega, fun h0 => ?_⟩, h3⟩
      obtain ⟨b, o, e0, hlt, hcell⟩ := hsrc.2 (by omega)
      refine ⟨b, o, e0, hlt, fun j hj => ?_⟩
      have hj' : j < min t 128 := hj
      rw [hcell j (by omega)]
      simp [List.getD, hj']

end Go.Proofs.Ytcophmafkpbdaaa
