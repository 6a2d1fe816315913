/- What the document's reader does: it tells what is read of its bytes, and keeps what is left of them. -/
import Derived.Test.YtpbhcmfbcnihiaaGreatRUint
import Derived.Test.YtpbhcmfbcnihiaaGreatRead
namespace Go.Proofs.YtpbhcmfbcnihiaaGreat
open Go.RowKit Num
set_option maxRecDepth 20000

theorem ret_two {a b c : Int} (h : a = b) : Ending.returned (.tuple #[.int .i64 a, .int .i64 c]) = .returned (.tuple #[.int .i64 b, .int .i64 c]) := by rw [h]

/-- What is left behind 'k' bytes of bytes that lie somewhere. -/
theorem Src.cut {w : World} {a : Addr} {n c k : Nat} {zs : List Int} (h : Src w (some a) n zs) (hk : k ≤ n) (hn : n ≤ c) : Src w (if c = k then some a else some (a.add k)) (n - k) (zs.drop k) := by
  refine ⟨by rw [List.length_drop, h.1], fun hl => ?_⟩
  obtain ⟨b, o, e, hlt, hc⟩ := h.2 (by omega)
  obtain rfl := Option.some.inj e
  rw [if_neg (by omega), Addr.add_lit]
  refine ⟨b, o + k, rfl, hlt, fun j hj => ?_⟩
  rw [Nat.add_assoc, hc (k + j) (by omega)]
  simp [List.getD, List.getElem?_drop]

/-- How a reader of the document's lies: the slice that it has. -/
structure Ref (w : World) (q : Nat) (a : Option Addr) (n c : Nat) : Prop where
  cell : w.cell? ⟨q, 0, none⟩ = some (.slice a n c)
  free : w.frozen? ⟨q, 0, none⟩ = false
  fit : n ≤ c
  cap : c ≤ 281474976710656
  nil : a = none → c = 0

/-- What a call leaves of such a reader: the slice behind 'k' bytes. -/
def Kept (w w' : World) (q : Nat) (a : Option Addr) (n : Nat) (zs : List Int) (k : Nat) : Prop :=
  ∃ a' n' c', w' = w.setCell ⟨q, 0, none⟩ (.slice a' n' c') ∧ n' = n - k ∧ n' ≤ c' ∧ c' ≤ 281474976710656 ∧ (a' = none → c' = 0) ∧ ∀ w0 : World, Src w0 a n zs → Src w0 a' n' (zs.drop k)

set_option maxHeartbeats 400000 in
theorem refuint_any (q : Nat) (a : Option Addr) (n c : Nat) (zs : List Int) (w : World) (h : Ref w q a n c) (hs : Src w a n zs) (hz : Bytes zs) :
    Calls Tryz.prog 42 #[.pointer (some ⟨q, 0, none⟩)] w fun e w' => e = .returned (.tuple #[.int .i64 ((dec zs).1 : Nat), .int .i64 ((dec zs).2.2 : Nat)]) ∧
      Kept w w' q a n zs (dec zs).2.1 := by
  have k1 := hid (ruint_any a n c zs w hs hz h.fit (by have := h.cap; unfold maxLen; omega))
  have hd := dec_got zs hz
  rw [hs.1] at hd
  have hc := h.cell
  have hf := h.free
  have hfit := h.fit
  have hcap := h.cap
  have hnil := h.nil
  have hkn : (dec zs).2.1 ≤ n := by rcases hd with hd | hd <;> omega
  obtain ⟨D, gD⟩ : ∃ D, D = dec zs := ⟨_, rfl⟩
  rw [← gD] at k1 hkn ⊢
  clear hd gD hs hz h
  obtain ⟨v, k, e⟩ := D
  simp only at k1 hkn ⊢
  cases a with
  | none =>
    obtain rfl := hnil rfl
    obtain rfl : n = 0 := by omega
    obtain rfl : k = 0 := by omega
    go_enter Tryz.func42, Tryz.ntmps42
    go_wp2_with fail
    refine k1.out.mono ?_
    rintro e w1 ⟨rfl, rfl⟩
    go_wp2_with fail
    go_ret2
    exact ⟨rfl, none, 0, 0, rfl, by omega, by omega, by omega, fun _ => rfl, fun w0 h0 => by simpa using h0⟩
  | some ad =>
    have i1 : (0 : Int) ≤ (k : Int) := by omega
    have i2 : (k : Int) ≤ (n : Int) := by omega
    have i3 : (n : Int) ≤ (c : Int) := by omega
    have HC : Hid (∀ w0 : World, Src w0 (some ad) n zs → Src w0 (if c = k then some ad else some (ad.add k)) (n - k) (zs.drop k)) := fun w0 h0 => h0.cut hkn hfit
    by_cases hck : c = k
    · rw [if_pos hck] at HC
      subst hck
      go_enter Tryz.func42, Tryz.ntmps42
      go_wp2_with fail
      refine k1.out.mono ?_
      rintro e w1 ⟨rfl, rfl⟩
      go_wp2_with fail
      go_ret2
      exact ⟨rfl, some ad, _, _, rfl, by omega, by omega, by omega, (fun h => by cases h), fun w0 h0 => by have := HC.out w0 h0; rwa [show n - c = 0 by omega] at this⟩
    · rw [if_neg hck] at HC
      go_enter Tryz.func42, Tryz.ntmps42
      go_wp2_with fail
      refine k1.out.mono ?_
      rintro e w1 ⟨rfl, rfl⟩
      go_wp2_with fail
      go_ret2
      exact ⟨rfl, some (ad.add k), _, _, rfl, by omega, by omega, by omega, (fun h => by cases h), HC.out⟩

set_option maxHeartbeats 2000000 in
theorem reftext_any (q : Nat) (a : Option Addr) (n c : Nat) (zs : List Int) (most : Int) (w : World) (h : Ref w q a n c) (hs : Src w a n zs) (hz : Bytes zs) :
    Calls Tryz.prog 27 #[.pointer (some ⟨q, 0, none⟩), .int .i64 most] w fun e w' => e = .returned (.tuple #[.string (strOfNums (txt zs most).1), .int .i64 ((txt zs most).2.2 : Nat)]) ∧ (((txt zs most).2.1 = 0 ∧ w' = w) ∨ Kept w w' q a n zs (txt zs most).2.1) := by
  have k1 := hid (ruint_any a n c zs w hs hz h.fit (by have := h.cap; unfold maxLen; omega))
  have hd := dec_got zs hz
  rw [hs.1] at hd
  have hc := h.cell
  have hf := h.free
  have hfit := h.fit
  have hcap := h.cap
  have hT : txt zs most = if (dec zs).2.2 ≠ 0 then ([], 0, (dec zs).2.2) else if max most 0 < ((dec zs).1 : Int) then ([], 0, 12) else if n - (dec zs).2.1 < (dec zs).1 then ([], 0, 10)
      else ((zs.drop (dec zs).2.1).take (dec zs).1, (dec zs).2.1 + (dec zs).1, 0) := by
    unfold txt; rw [hs.1]
  obtain ⟨D, gD⟩ : ∃ D, D = dec zs := ⟨_, rfl⟩
  rw [← gD] at k1 hd hT
  rw [hT]
  have HS := hid hs
  clear gD hs hz h hT
  obtain ⟨v, k, e⟩ := D
  simp only at k1 hd ⊢
  by_cases he : e = 0
  · subst he
    obtain ⟨hv, hk1, hk9, hkl, _⟩ : v < 9223372036854775808 ∧ 1 ≤ k ∧ k ≤ 9 ∧ k ≤ n ∧ True := by
      rcases hd with hd | hd
      · exact ⟨hd.2.1, hd.2.2.1, hd.2.2.2.1, hd.2.2.2.2.1, trivial⟩
      · exact absurd rfl hd.1
    clear hd
    rw [if_neg (by simp)]
    obtain ⟨b, o, rfl, hlt, _⟩ := HS.out.2 (by omega)
    have i1 : (0 : Int) ≤ (k : Int) := by omega
    have i2 : (k : Int) ≤ (n : Int) := by omega
    have i3 : (n : Int) ≤ (c : Int) := by omega
    by_cases hlong : max most 0 < (v : Int)
    · rw [if_pos hlong]
      rcases Int.lt_or_le most 0 with hs' | hs'
      all_goals
        have hl2 : (0 : Int) < (v : Int) := by omega
        have hl3 : most < (v : Int) := by omega
        have hl4 : decide (most < (v : Int)) = true := by simp; omega
        have hl5 : decide ((0 : Int) < (v : Int)) = true := by simp; omega
        go_enter Tryz.func27, Tryz.ntmps27
        go_wp2_with fail
        refine k1.out.mono ?_
        rintro e w1 ⟨rfl, rfl⟩
        go_wp2_with fail
        go_ret2
        exact ⟨rfl, .inl (by simp)⟩
    · rw [if_neg hlong]
      have hm : (most < 0 ∧ (v : Int) ≤ 0) ∨ (0 ≤ most ∧ (v : Int) ≤ most) := by omega
      clear hlong
      by_cases hshort : n - k < v
      · rw [if_pos hshort]
        rcases hm with ⟨hm1, hm2⟩ | ⟨hm1, hm2⟩
        · exfalso; omega
        have hl3 : (n : Int) - (k : Int) < (v : Int) := by omega
        have hl4 : decide (most < (v : Int)) = false := by simp; omega
        have hl5 : decide ((n : Int) - (k : Int) < (v : Int)) = true := by simp; omega
        go_enter Tryz.func27, Tryz.ntmps27
        go_wp2_with fail
        refine k1.out.mono ?_
        rintro e w1 ⟨rfl, rfl⟩
        go_wp2_with fail
        go_ret2
        exact ⟨rfl, .inl (by simp)⟩
      · rw [if_neg hshort]
        have hkv : k + v ≤ n := by omega
        have i4 : (k : Int) + (v : Int) ≤ (n : Int) := by omega
        have i5 : (0 : Int) ≤ (v : Int) := by omega
        have HC : Hid (∀ w0 : World, Src w0 (some ⟨b, o, none⟩) n zs → Src w0 (if c = k + v then some ⟨b, o, none⟩ else some ((⟨b, o, none⟩ : Addr).add (k + v))) (n - (k + v)) (zs.drop (k + v))) := fun w0 h0' => h0'.cut hkv hfit
        have S2 := (HS.out.cut hkl hfit).take v (by omega)
        have hl5 : decide ((n : Int) - (k : Int) < (v : Int)) = false := by simp; omega
        have hl4 : decide (most < (v : Int)) = false ∨ most < 0 := by
          rcases hm with h | h
          · exact .inr h.1
          · exact .inl (by simp; omega)
        obtain ⟨X, gX⟩ : ∃ X, X = strOfNums (List.take v (List.drop k zs)) := ⟨_, rfl⟩
        have GX := hid gX
        by_cases hck : c = k
        · obtain rfl : v = 0 := by omega
          rw [if_pos hck] at S2
          rw [if_pos (by omega)] at HC
          have hcv := S2.convert (P := Tryz.prog) 0 23 5 9 Tryz.underlying23 Tryz.underlying5 Tryz.underlying9
          rw [← gX] at hcv
          clear gX S2
          subst hck
          rcases hm with ⟨hm1, hm2⟩ | ⟨hm1, hm2⟩
          all_goals
            go_enter Tryz.func27, Tryz.ntmps27
            go_wp2_with fail
            refine k1.out.mono ?_
            rintro e w1 ⟨rfl, rfl⟩
            go_wp2_with fail
            go_ret2
            rw [← GX.out]
            exact ⟨rfl, .inr ⟨_, _, _, rfl, by omega, by omega, by omega, (fun h => by cases h), fun w0 h0' => by have := HC.out w0 h0'; simpa [show n - c = 0 by omega] using this⟩⟩
        · rw [if_neg hck, Addr.add_lit] at S2
          have hcv := S2.convert (P := Tryz.prog) (c - k) 23 5 9 Tryz.underlying23 Tryz.underlying5 Tryz.underlying9
          rw [← gX] at hcv
          clear gX S2
          by_cases hckv : c = k + v
          · rw [if_pos hckv] at HC
            have HQ := hid hckv
            have h1 : c ≤ k + v := by omega
            have h2 : k + v ≤ c := by omega
            clear hckv
            rcases hm with ⟨hm1, hm2⟩ | ⟨hm1, hm2⟩
            · exfalso; omega
            · have hl6 : decide (most < (v : Int)) = false := by simp; omega
              go_enter Tryz.func27, Tryz.ntmps27
              go_wp2_with fail
              refine k1.out.mono ?_
              rintro e w1 ⟨rfl, rfl⟩
              go_wp2_with fail
              go_ret2
              rw [← GX.out]
              exact ⟨rfl, .inr ⟨_, _, _, rfl, by omega, by omega, by omega, (fun h => by cases h), fun w0 h0' => by have := HC.out w0 h0'; first | exact this | (have e0 : n - (k + v) = 0 := by omega; rw [e0] at this; exact this)⟩⟩
          · rw [if_neg hckv, Addr.add_lit] at HC
            rcases hm with ⟨hm1, hm2⟩ | ⟨hm1, hm2⟩
            · have hl6 : decide ((0 : Int) < (v : Int)) = false := by simp; omega
              go_enter Tryz.func27, Tryz.ntmps27
              go_wp2_with fail
              refine k1.out.mono ?_
              rintro e w1 ⟨rfl, rfl⟩
              go_wp2_with fail
              go_ret2
              rw [← GX.out]
              exact ⟨rfl, .inr ⟨_, _, _, rfl, by omega, by omega, by omega, (fun h => by cases h), fun w0 h0' => by have := HC.out w0 h0'; first | exact this | (have e0 : n - (k + v) = 0 := by omega; rw [e0] at this; exact this)⟩⟩
            · have hl6 : decide (most < (v : Int)) = false := by simp; omega
              go_enter Tryz.func27, Tryz.ntmps27
              go_wp2_with fail
              refine k1.out.mono ?_
              rintro e w1 ⟨rfl, rfl⟩
              go_wp2_with fail
              go_ret2
              rw [← GX.out]
              exact ⟨rfl, .inr ⟨_, _, _, rfl, by omega, by omega, by omega, (fun h => by cases h), fun w0 h0' => by have := HC.out w0 h0'; first | exact this | (have e0 : n - (k + v) = 0 := by omega; rw [e0] at this; exact this)⟩⟩
  · have hne : ((e : Int) != 0) = true := by simp; omega
    have hne2 : ((e : Int) == 0) = false := by simp; omega
    rw [if_pos he]
    go_enter Tryz.func27, Tryz.ntmps27
    go_wp2_with fail
    refine k1.out.mono ?_
    rintro e w1 ⟨rfl, rfl⟩
    go_wp2_with fail
    go_ret2
    exact ⟨rfl, .inl (by simp)⟩

end Go.Proofs.YtpbhcmfbcnihiaaGreat
