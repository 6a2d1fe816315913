/- What walkToNode, walkToNew and Find do. -/
import Derived.Test.YtdnblbahecpmkaaGreatNWalk2
namespace Go.Proofs.YtdnblbahecpmkaaGreat
open Go.RowKit
set_option linter.unusedVariables false
set_option maxRecDepth 20000

theorem wk_ok (K : Nat → Int) (N : Nat → List UInt8 → Nat) (hN : ∀ i s, i < 17 → N i s < 17) : ∀ (l : List (List UInt8)) (n : Nat) (y0 y : List Nat) (s : List UInt8) (m : Nat), n < 17 → wk K N n y0 l = .ok (y, s, m) →
    ∃ d, y.getLast? = some d ∧ d < 17 ∧ K d = 2 ∧ m = N d s ∧ s ≠ [] ∧ s.length ≤ 6 ∧ s ∈ l
  | [], n, y0, y, s, m, hn, h => by simp [wk] at h
  | q :: r, n, y0, y, s, m, hn, h => by
    by_cases a0 : K n = 0
    · rw [wk_there _ _ _ _ _ _ a0] at h; simp at h
    by_cases a2 : K n = 2
    case neg => rw [wk_dir _ _ _ _ _ _ a0 a2] at h; simp at h
    by_cases a3 : q = []
    · subst a3; rw [wk_none _ _ _ _ _ a2] at h; simp at h
    by_cases a4 : 6 < q.length
    · rw [wk_long _ _ _ _ _ _ a2 a3 a4] at h; simp at h
    cases r with
    | nil =>
      rw [wk_last _ _ _ _ _ a2 a3 a4] at h
      simp only [Except.ok.injEq, Prod.mk.injEq] at h
      obtain ⟨rfl, rfl, rfl⟩ := h
      exact ⟨n, by simp, hn, a2, rfl, a3, by omega, by simp⟩
    | cons z t =>
      rw [wk_on _ _ _ _ _ _ (by simp) a2 a3 a4] at h
      obtain ⟨d, h1, h2, h3, h4, h5, h6, h7⟩ := wk_ok K N hN (z :: t) _ _ _ _ _ (hN n q hn) h
      exact ⟨d, h1, h2, h3, h4, h5, h6, by simp [h7]⟩

theorem wkS_ok {w : World} {p : Nat} {S : Sg} (H : Sy w p S) {t : ByteArray} {y : List Nat} {s : List UInt8} {m : Nat} (h : wkS S t = .ok (y, s, m)) : ∃ d, y.getLast? = some d ∧ d < 17 ∧ (S.P d).k = 2 ∧ m = S.N d s ∧ s ≠ [] ∧ s.length ≤ 6 := by
  unfold wkS at h
  split at h
  · obtain ⟨d, h1, h2, h3, h4, h5, h6, _⟩ := wk_ok _ _ H.to _ _ _ _ _ _ (by omega) h
    exact ⟨d, h1, h2, h3, h4, h5, h6⟩
  · simp at h

/-- What a walk to a node, and to a new name, come to. -/
def toNode : Except Int (List Nat × List UInt8 × Nat) → Except Int (List Nat × List UInt8 × Nat)
  | .error e => .error e
  | .ok (y, s, n) => if n = 0 then .error 2 else .ok (y, s, n)
def toNew (L : Nat → Nat) : Except Int (List Nat × List UInt8 × Nat) → Except Int (List Nat × List UInt8 × Nat)
  | .error e => .error e
  | .ok (y, s, n) => if n ≠ 0 then .error 17 else if 6 ≤ L (y.getLastD 0) then .error 28 else .ok (y, s, n)
def findS (S : Sg) (t : ByteArray) : Nat × Int := if bl t = [47] then (1, 0) else match toNode (wkS S t) with
  | .error e => (0, e)
  | .ok (_, _, n) => (n, 0)

theorem last_own {w : World} {B : Nat} {yv : Value} {y : List Nat} {d : Nat} (h : w.ownsRow B 3 1 yv y.length (y.map fun (i : Nat) => Value.int .i64 (i : Int))) (hd : y.getLast? = some d) :
    ∃ g c, yv = .slice (some ⟨g, 0, none⟩) y.length c ∧ 0 < y.length ∧ g < w.heap.size ∧ w.cell? ⟨g, y.length - 1, none⟩ = some (.int .i64 (d : Int)) ∧ y.length ≤ c ∧ c ≤ 9223372036854775807 := by
  have hl : 0 < y.length := by
    cases y with
    | nil => simp at hd
    | cons a b => simp
  obtain ⟨h1, h2⟩ := h
  rcases h2 with ⟨_, h2⟩ | ⟨g, c, cur, rfl, hb, hg, hnc, hcm, hcs, htake⟩
  · omega
  · refine ⟨g, c, rfl, hl, (Array.getElem?_eq_some_iff.1 hg).1, ?_, hnc, by simpa [maxLen] using hcm⟩
    have hh : w.ownsRow B 3 1 (.slice (some ⟨g, 0, none⟩) y.length c) y.length (y.map fun (i : Nat) => Value.int .i64 (i : Int)) := ⟨h1, .inr ⟨g, c, cur, rfl, hb, hg, hnc, hcm, hcs, htake⟩⟩
    rw [hh.cellAt (y.length - 1) (by omega), List.getElem?_map]
    rw [List.getLast?_eq_getElem?] at hd
    rw [hd]
    rfl

set_option maxHeartbeats 1000000 in
theorem dir_any (w : World) (g n c d : Nat) (nm : ByteArray) (m : Int) (hn : 0 < n) (hc : w.cell? ⟨g, n - 1, none⟩ = some (.int .i64 (d : Int))) (hg : g < w.heap.size) (hl : n ≤ c) (hm : c ≤ 9223372036854775807) :
    Calls Tryz.prog 79 #[.agg #[.slice (some ⟨g, 0, none⟩) n c, .string nm, .int .i64 m]] w fun e w' => e = .returned (.int .i64 (d : Int)) ∧ Below w.heap.size w w' := by
  obtain ⟨k, rfl⟩ : ∃ k, n = k + 1 := ⟨n - 1, by omega⟩
  rw [show k + 1 - 1 = k by omega] at hc
  have c1 : (w.alloc (Obj.cells #[.slice (some ⟨g, 0, none⟩) (k + 1) c, .string nm, .int .i64 m] 121)).cell? ⟨g, k, none⟩ = some (.int .i64 (d : Int)) := by
    rw [← hc]; exact ((Below.refl _ w).alloc (Nat.le_refl _) _).cell (p := ⟨g, k, none⟩) hg
  have hB : Below w.heap.size w (w.alloc (Obj.cells #[.slice (some ⟨g, 0, none⟩) (k + 1) c, .string nm, .int .i64 m] 121)) := (Below.refl _ w).alloc (Nat.le_refl _) _
  have HB := hid hB
  have w1 : IntKind.i64.wrap ((k : Int) + 1 - 1) = (k : Int) := by rw [IntKind.wrap_i64]; omega
  clear hB hc
  go_enter Tryz.func79, Tryz.ntmps79
  go_wp2_with fail
  go_ret
  exact ⟨rfl, HB.out⟩

end Go.Proofs.YtdnblbahecpmkaaGreat
