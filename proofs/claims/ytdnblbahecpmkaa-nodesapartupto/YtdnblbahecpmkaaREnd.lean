/- What the document's walk to a path's end comes to, at a root alone. -/
import Derived.Test.YtdnblbahecpmkaaRSys
namespace Go.Proofs.Ytdnblbahecpmkaa
open Go.RowKit
set_option linter.unusedVariables false

/-- The error of a name; of a path. -/
def nmL (s : List UInt8) : Int := if s.length = 0 then 22 else if 6 < s.length then 36 else 0
theorem nmE_bl (s : ByteArray) : nmE s = nmL (bl s) := by unfold nmE nmL; rw [bl_len]
def splE : List (List UInt8) → Int
  | [] => 0
  | [s] => nmL s
  | s :: _ :: _ => if nmL s = 0 then 2 else nmL s
def endE (l : List UInt8) : Int := if l.head? = some 47 ∧ l ≠ [47] then splE (spl (l.drop 1)) else 22

theorem own_cells {w : World} {B n c : Nat} {a : Option Addr} {xs : List Value} (h : w.ownsRow B 9 1 (.slice a n c) n xs) (hn : 0 < n) :
    ∃ g, a = some ⟨g, 0, none⟩ ∧ g < w.heap.size ∧ n ≤ c ∧ c ≤ 9223372036854775807 ∧ ∀ j v, j < n → xs[j]? = some v → w.cell? ⟨g, j, none⟩ = some v := by
  obtain ⟨h1, h2⟩ := h
  rcases h2 with ⟨_, h2⟩ | ⟨g, c', cur, e, hb, hg, hnc, hcm, hcs, htake⟩
  · omega
  · injection e with r1 r2 r3
    subst r1
    subst r3
    refine ⟨g, rfl, (Array.getElem?_eq_some_iff.1 hg).1, hnc, by simpa [maxLen] using hcm, fun j v hj hv => ?_⟩
    have hh : w.ownsRow B 9 1 (.slice (some ⟨g, 0, none⟩) n c) n xs := ⟨h1, .inr ⟨g, c, cur, rfl, hb, hg, hnc, hcm, hcs, htake⟩⟩
    rw [hh.cellAt j (by omega)]
    exact hv

set_option maxHeartbeats 2000000 in
theorem end_short (p b : Nat) (t : ByteArray) (w : World) (h : ¬ ((bl t).head? = some 47 ∧ bl t ≠ [47])) :
    Calls Try.prog 33 #[.pointer (some ⟨p, 0, none⟩), .string t] w fun e w' => e = .returned (.tuple #[.int .i64 0, .string ⟨#[]⟩, .int .i64 22]) ∧ w' = w := by
  by_cases hr : bl t = [47]
  · have k1 := hid (split_root t w hr)
    clear h hr
    go_enter Try.func33, Try.ntmps33
    go_wp2_with fail
    refine k1.out.mono ?_
    rintro e w1 ⟨rfl, rfl⟩
    clear k1
    go_wp2_with fail
    go_ret3
    exact ⟨rfl, rfl⟩
  · have k1 : Hid (Calls Try.prog 56 #[.string t] w fun e w' => e = .returned (.tuple #[.slice none 0 0, .int .i64 22]) ∧ w' = w) := by
      cases e : bl t with
      | nil => exact hid (split_none t w e)
      | cons c r =>
        refine hid (split_bad t w c r e ?_)
        intro hc
        subst hc
        exact h ⟨by rw [e]; rfl, hr⟩
    clear h hr
    go_enter Try.func33, Try.ntmps33
    go_wp2_with fail
    refine k1.out.mono ?_
    rintro e w1 ⟨rfl, rfl⟩
    clear k1
    go_wp2_with fail
    go_ret3
    exact ⟨rfl, rfl⟩

set_option maxHeartbeats 2000000 in
set_option maxRecDepth 20000 in
theorem end_any (p b : Nat) (t : ByteArray) (w : World) (H : R6 w p b) (hs : t.size ≤ 1048576) :
    Calls Try.prog 33 #[.pointer (some ⟨p, 0, none⟩), .string t] w fun e w' => Below w.heap.size w w' ∧ ((endE (bl t) ≠ 0 ∧ e = .returned (.tuple #[.int .i64 0, .string ⟨#[]⟩, .int .i64 (endE (bl t))])) ∨ (endE (bl t) = 0 ∧ ∃ s, e = .returned (.tuple #[.int .i64 1, .string s, .int .i64 0]))) := by
  by_cases hg : ¬ ((bl t).head? = some 47 ∧ bl t ≠ [47])
  · refine (end_short p b t w hg).mono ?_
    rintro e w' ⟨rfl, rfl⟩
    have e : endE (bl t) = 22 := by unfold endE; rw [if_neg hg]
    exact ⟨Below.refl _ _, .inl ⟨by omega, by rw [e]⟩⟩
  · have hg := Decidable.not_not.1 hg
    have e0 : endE (bl t) = splE (spl ((bl t).drop 1)) := by unfold endE; rw [if_pos hg]
    obtain ⟨r, hr, hr0⟩ : ∃ r, bl t = 47 :: r ∧ r ≠ [] := by
      cases e : bl t with
      | nil => rw [e] at hg; simp at hg
      | cons c r =>
        rw [e] at hg
        obtain ⟨h1, h2⟩ := hg
        simp at h1
        subst h1
        exact ⟨r, rfl, fun q => h2 (by rw [q])⟩
    rw [hr] at e0 ⊢
    rw [show (47 :: r).drop 1 = r from rfl] at e0
    obtain ⟨E, gE⟩ : ∃ E, E = endE (47 :: r) := ⟨_, rfl⟩
    rw [← gE] at e0 ⊢
    have k1 := hid (split_ok t w r hr hr0 hs)
    have HE := hid e0
    have HR := hid H
    clear gE e0 hg hr hr0 H
    go_enter Try.func33, Try.ntmps33
    go_wp2_with fail
    refine k1.out.mono ?_
    rintro e w1 ⟨a, n, c, xs, rfl, hxl, hn, hxs, hO, hB⟩
    clear k1
    have hn1 : 0 < n := by
      rcases Nat.eq_zero_or_pos n with q | q
      · subst q
        rw [List.eq_nil_of_length_eq_zero hxl] at hxs
        exact absurd hxs.symm (spl_ne r)
      · exact q
    obtain ⟨g, rfl, hgl, hnc, hcm, hcell⟩ := own_cells hO hn1
    have HR1 := hid (HR.out.below hB)
    have HB := hid hB
    cases xs with
    | nil => simp at hxl; omega
    | cons x ys =>
      have hx0 := hcell 0 (.string x) hn1 (by simp)
      cases ys with
      | nil =>
        obtain rfl : n = 1 := by simp at hxl; omega
        have k2 := hid (walk_root p b (some ⟨g, 0, none⟩) c w1)
        have k3 := hid (named_any p b x w1 HR1.out)
        have hE : E = nmE x := by
          rw [HE.out, ← hxs, nmE_bl]
          rfl
        rw [← hE] at k3
        have hc' : (0 : Int) ≤ (c : Int) := by omega
        clear hxs hO hB hcell hxl HE HR HR1 hE
        by_cases h0 : E = 0
        · subst h0
          go_wp2_with fail
          refine k2.out.mono ?_
          rintro e w2 ⟨rfl, rfl⟩
          go_wp2_with fail
          refine k3.out.mono ?_
          rintro e w2 ⟨rfl, rfl⟩
          go_wp2_with fail
          go_ret3
          exact ⟨HB.out, x, rfl⟩
        · go_wp2_with fail
          refine k2.out.mono ?_
          rintro e w2 ⟨rfl, rfl⟩
          go_wp2_with fail
          refine k3.out.mono ?_
          rintro e w2 ⟨rfl, rfl⟩
          go_wp2_with fail
          go_ret3
          exact ⟨HB.out, .inl ⟨h0, rfl⟩⟩
      | cons y zs =>
        have hn2 : 2 ≤ n := by simp at hxl; omega
        have k2 := hid (walk_some p b g 0 (n - 1) c x w1 HR1.out (by omega) hx0)
        have hE : E = if nmE x = 0 then 2 else nmE x := by
          rw [HE.out, ← hxs, nmE_bl]
          rfl
        have h0 : ¬ E = 0 := by
          rw [hE]
          split
          · omega
          · assumption
        rw [← hE] at k2
        obtain ⟨m, rfl⟩ : ∃ m, n = m + 1 := ⟨n - 1, by omega⟩
        rw [show m + 1 - 1 = m from rfl] at k2
        have i1 : ¬ ((m + 1 : Nat) : Int) = 0 := by omega
        have i2 : IntKind.i64.wrap (((m + 1 : Nat) : Int) - 1) = (m : Int) := by rw [IntKind.wrap_i64]; omega
        have i3 : (0 : Int) ≤ (m : Int) := by omega
        have i4 : (m : Int) ≤ (c : Int) := by omega
        clear hxs hO hB hcell hxl HE HR HR1 hE
        go_wp2_with fail
        refine k2.out.mono ?_
        rintro e w2 ⟨rfl, rfl⟩
        go_wp2_with fail
        go_ret3
        exact ⟨HB.out, .inl ⟨h0, rfl⟩⟩

end Go.Proofs.Ytdnblbahecpmkaa
