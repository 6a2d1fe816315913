/- Memory that is a call's own, by its types: arguments and bytes that may be written over, and what that leaves. -/
import Derived.Test.YtkgejeamcgodhaaGC1
namespace Go.Proofs.Ytkgejeamcgodhaa
open Go.RowKit
set_option linter.unusedVariables false
set_option maxRecDepth 20000

/-- Bytes in a block of bytes. -/
def BytS (P : Nat → Prop) (w : World) (ba : Option Addr) (bn : Nat) : Prop :=
  0 < bn → ∃ g C, ba = some ⟨g, 0, none⟩ ∧ P g ∧ w.heap[g]? = some (.cells C 5 (0, 0)) ∧ ∀ j, j < bn → ∃ x, C[j]? = some (.int .u8 x)
/-- Arguments in a block of arguments, with all within. -/
def RowS (P : Nat → Prop) : Nat → World → Option Addr → Nat → Prop
  | 0 => fun _ _ n => n = 0
  | d + 1 => fun w a n => 0 < n → ∃ g C, a = some ⟨g, 0, none⟩ ∧ P g ∧ w.heap[g]? = some (.cells C 30 (0, 0)) ∧ ∀ j, j < n → ∃ k v ka kn kc ba bn bc, C[j * 4]? = some (.int .i64 k) ∧ C[j * 4 + 1]? = some (.int .i64 v) ∧ C[j * 4 + 2]? = some (.slice ka kn kc) ∧ C[j * 4 + 3]? = some (.slice ba bn bc) ∧ kn ≤ kc ∧ kc ≤ 9223372036854775807 ∧ bn ≤ bc ∧ bc ≤ 9223372036854775807 ∧ RowS P d w ka kn ∧ BytS P w ba bn

/-- What writing over arguments and bytes leaves. -/
structure Sp (P : Nat → Prop) (w w' : World) : Prop where
  upd : Upd P w w'
  args : ∀ (g : Nat) (C : Array Value), w.heap[g]? = some (.cells C 30 (0, 0)) → ∃ C' : Array Value, w'.heap[g]? = some (.cells C' 30 (0, 0)) ∧ ∀ j : Nat, C'[j * 4 + 2]? = C[j * 4 + 2]? ∧ C'[j * 4 + 3]? = C[j * 4 + 3]? ∧ (∀ k, C[j * 4]? = some (Value.int .i64 k) → ∃ k', C'[j * 4]? = some (Value.int .i64 k')) ∧ ∀ v, C[j * 4 + 1]? = some (Value.int .i64 v) → ∃ v', C'[j * 4 + 1]? = some (Value.int .i64 v')
  byts : ∀ (g : Nat) (C : Array Value), w.heap[g]? = some (.cells C 5 (0, 0)) → ∃ C' : Array Value, w'.heap[g]? = some (.cells C' 5 (0, 0)) ∧ ∀ (j : Nat) (x : Int), C[j]? = some (Value.int .u8 x) → ∃ x', C'[j]? = some (Value.int .u8 x')
  oth : ∀ (g : Nat) (C : Array Value) (t : TypeId), w.heap[g]? = some (.cells C t (0, 0)) → t ≠ 30 → t ≠ 5 → w'.heap[g]? = w.heap[g]?

theorem Sp.refl (P : Nat → Prop) (w : World) : Sp P w w :=
  ⟨Upd.refl _ _, fun g C h => ⟨C, h, fun j => ⟨rfl, rfl, fun k hk => ⟨k, hk⟩, fun v hv => ⟨v, hv⟩⟩⟩, fun g C h => ⟨C, h, fun j x hx => ⟨x, hx⟩⟩, fun _ _ _ _ _ _ => rfl⟩
theorem Sp.trans {P : Nat → Prop} {w w1 w2 : World} (h : Sp P w w1) (k : Sp P w1 w2) : Sp P w w2 :=
  ⟨h.upd.trans k.upd (fun _ _ h => h), fun g C hg => by
    obtain ⟨C1, h1, r1⟩ := h.args g C hg
    obtain ⟨C2, h2, r2⟩ := k.args g C1 h1
    refine ⟨C2, h2, fun j => ?_⟩
    obtain ⟨a1, a2, a3, a4⟩ := r1 j
    obtain ⟨b1, b2, b3, b4⟩ := r2 j
    exact ⟨b1.trans a1, b2.trans a2, fun x hx => by obtain ⟨y, hy⟩ := a3 x hx; exact b3 y hy, fun x hx => by obtain ⟨y, hy⟩ := a4 x hx; exact b4 y hy⟩,
   fun g C hg => by
    obtain ⟨C1, h1, r1⟩ := h.byts g C hg
    obtain ⟨C2, h2, r2⟩ := k.byts g C1 h1
    exact ⟨C2, h2, fun j x hx => by obtain ⟨y, hy⟩ := r1 j x hx; exact r2 j y hy⟩,
   fun g C t hg h1 h2 => by
    have e := h.oth g C t hg h1 h2
    exact (k.oth g C t (e.trans hg) h1 h2).trans e⟩

theorem heap_other {w : World} {g x : Nat} {o : Nat} {v : Value} (h : x ≠ g) : (w.setCell ⟨g, o, none⟩ v).heap[x]? = w.heap[x]? := heap_setCell_other w ⟨g, o, none⟩ x v h
/-- A number of an argument is written over. -/
theorem Sp.arg {P : Nat → Prop} {w : World} {g j t : Nat} {C : Array Value} {z : Int} (hg : w.heap[g]? = some (.cells C 30 (0, 0))) (hP : P g) (ht : t = 0 ∨ t = 1) : Sp P w (w.setCell ⟨g, j * 4 + t, none⟩ (.int .i64 z)) := by
  have hs := heap_setCell_same w g (j * 4 + t) C 30 (.int .i64 z) hg
  refine ⟨Upd.setCell w _ _ hP, fun g' C' h => ?_, fun g' C' h => ?_, fun g' C' t' h h1 h2 => ?_⟩
  · by_cases e : g' = g
    · subst e
      rw [hg] at h
      obtain rfl : C = C' := by injection h with h; injection h
      refine ⟨_, hs, fun i => ?_⟩
      have hne : ∀ u v : Nat, u < 4 → v < 4 → u ≠ v → i * 4 + u ≠ j * 4 + v := fun u v hu hv huv => by omega
      refine ⟨?_, ?_, fun k hk => ?_, fun v hv => ?_⟩
      · rw [Array.getElem?_setIfInBounds_ne (by omega)]
      · rw [Array.getElem?_setIfInBounds_ne (by omega)]
      · by_cases e : j * 4 + t = i * 4
        · rw [e, Array.getElem?_setIfInBounds_self_of_lt (Array.getElem?_eq_some_iff.1 hk).1]
          exact ⟨z, rfl⟩
        · rw [Array.getElem?_setIfInBounds_ne e]
          exact ⟨k, hk⟩
      · by_cases e : j * 4 + t = i * 4 + 1
        · rw [e, Array.getElem?_setIfInBounds_self_of_lt (Array.getElem?_eq_some_iff.1 hv).1]
          exact ⟨z, rfl⟩
        · rw [Array.getElem?_setIfInBounds_ne e]
          exact ⟨v, hv⟩
    · exact ⟨C', by rw [heap_other e]; exact h, fun j => ⟨rfl, rfl, fun k hk => ⟨k, hk⟩, fun v hv => ⟨v, hv⟩⟩⟩
  · have e : g' ≠ g := fun e => by subst e; rw [hg] at h; injection h with h; injection h with _ h; exact absurd h (by decide)
    exact ⟨C', by rw [heap_other e]; exact h, fun j x hx => ⟨x, hx⟩⟩
  · have e : g' ≠ g := fun e => by subst e; rw [hg] at h; injection h with h; injection h with _ h; exact h1 h.symm
    exact heap_other e
/-- A byte is written over. -/
theorem Sp.byte {P : Nat → Prop} {w : World} {g j : Nat} {C : Array Value} {z : Int} (hg : w.heap[g]? = some (.cells C 5 (0, 0))) (hP : P g) : Sp P w (w.setCell ⟨g, j, none⟩ (.int .u8 z)) := by
  have hs := heap_setCell_same w g j C 5 (.int .u8 z) hg
  refine ⟨Upd.setCell w _ _ hP, fun g' C' h => ?_, fun g' C' h => ?_, fun g' C' t' h h1 h2 => ?_⟩
  · have e : g' ≠ g := fun e => by subst e; rw [hg] at h; injection h with h; injection h with _ h; exact absurd h (by decide)
    exact ⟨C', by rw [heap_other e]; exact h, fun j => ⟨rfl, rfl, fun k hk => ⟨k, hk⟩, fun v hv => ⟨v, hv⟩⟩⟩
  · by_cases e : g' = g
    · subst e
      rw [hg] at h
      obtain rfl : C = C' := by injection h with h; injection h
      refine ⟨_, hs, fun i x hx => ?_⟩
      by_cases e : j = i
      · rw [e, Array.getElem?_setIfInBounds_self_of_lt (Array.getElem?_eq_some_iff.1 hx).1]
        exact ⟨z, rfl⟩
      · rw [Array.getElem?_setIfInBounds_ne e]
        exact ⟨x, hx⟩
    · exact ⟨C', by rw [heap_other e]; exact h, fun j x hx => ⟨x, hx⟩⟩
  · have e : g' ≠ g := fun e => by subst e; rw [hg] at h; injection h with h; injection h with _ h; exact h2 h.symm
    exact heap_other e

theorem BytS.sp {P : Nat → Prop} {w w' : World} {ba : Option Addr} {bn : Nat} (h : BytS P w ba bn) (s : Sp P w w') : BytS P w' ba bn := fun h0 => by
  obtain ⟨g, C, e, hP, hg, hc⟩ := h h0
  obtain ⟨C', hg', r⟩ := s.byts g C hg
  exact ⟨g, C', e, hP, hg', fun j hj => by obtain ⟨x, hx⟩ := hc j hj; exact r j x hx⟩
theorem RowS.sp {P : Nat → Prop} {w w' : World} (s : Sp P w w') : ∀ (d : Nat) (a : Option Addr) (n : Nat), RowS P d w a n → RowS P d w' a n
  | 0, _, _, h => h
  | d + 1, a, n, h => fun h0 => by
    obtain ⟨g, C, e, hP, hg, hc⟩ := h h0
    obtain ⟨C', hg', r⟩ := s.args g C hg
    refine ⟨g, C', e, hP, hg', fun j hj => ?_⟩
    obtain ⟨k, v, ka, kn, kc, ba, bn, bc, c0, c1, c2, c3, l1, l2, l3, l4, hr, hb⟩ := hc j hj
    obtain ⟨r1, r2, r3, r4⟩ := r j
    obtain ⟨k', hk'⟩ := r3 k c0
    obtain ⟨v', hv'⟩ := r4 v c1
    exact ⟨k', v', ka, kn, kc, ba, bn, bc, hk', hv', r1.trans c2, r2.trans c3, l1, l2, l3, l4, RowS.sp s d ka kn hr, hb.sp s⟩

set_option maxHeartbeats 2000000 in
theorem spoilb_any (P : Nat → Prop) (ba : Option Addr) (bn bc : Nat) (w : World) (h : BytS P w ba bn) (hl : bn ≤ bc) (hb : bc ≤ 9223372036854775807) :
    Calls Try.prog 78 #[.slice ba bn bc] w fun e w' => e = .returned (.tuple #[]) ∧ Sp P w w' := by
  have HH := hid h
  clear h
  go_enter Try.func78, Try.ntmps78
  go_wp2_with fail
  go_loopw [5] (fun k wr => ∃ i : Nat, i ≤ bn ∧ k = .int .i64 i ∧ Hid (Sp P w wr)) (fun k _ => bn - (intOf k).toNat)
  case atStart => exact ⟨0, Nat.zero_le _, rfl, hid (Sp.refl _ _)⟩
  case round =>
    obtain ⟨i, hi, rfl, HS⟩ := hrel
    by_cases hlt : i < bn
    · obtain ⟨g, C, rfl, hP, hg, hc⟩ := (HH.out.sp HS.out) (by omega)
      obtain ⟨x, hx⟩ := hc i hlt
      have c0 : wr.cell? ⟨g, i, none⟩ = some (.int .u8 x) := (cell_of_row _ _ i _ _ _ hg).trans hx
      have f0 : wr.frozen? ⟨g, i, none⟩ = false := by simp [World.frozen?, hg]
      have HG := hid hg
      have HP := hid hP
      clear hg hc hx hP
      go_wp2_with fail
      go_roundw
      case rel => exact ⟨i + 1, by omega, by go_num, hid (HS.out.trans (Sp.byte HG.out HP.out))⟩
      case measure => simp [intOf]; omega
    · obtain rfl : i = bn := by omega
      go_wp2_with fail
      go_end0
      exact ⟨rfl, HS.out⟩

end Go.Proofs.Ytkgejeamcgodhaa
