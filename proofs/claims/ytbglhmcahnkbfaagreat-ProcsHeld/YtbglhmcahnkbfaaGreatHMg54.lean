/- Texts of this seat, merged. -/
import Derived.Test.YtbglhmcahnkbfaaGreatHMg47
import Derived.Test.YtbglhmcahnkbfaaGreatHMg40
import Derived.Test.YtbglhmcahnkbfaaGreatHMg25
import Derived.Test.YtbglhmcahnkbfaaGreatHMg53

/- How often numbers stand among the descriptors of the processes that are there. -/
namespace Go.Proofs.YtbglhmcahnkbfaaGreat
open Go.RowKit Go.ChangeMaps Go.MapKept
set_option linter.unusedVariables false
set_option maxRecDepth 20000

/-- The processes that are there. -/
def prL (Q : Nat → Gp) (n : Nat) : List Nat := (List.range n).filter (fun i => decide ((Q i).st ≠ 0))
theorem pr_flat (Q : Nat → Gp) : ∀ n, piL Q n = (prL Q n).flatMap (fun i => piV i (Q i)) ∧ piN Q n = (prL Q n).length
  | 0 => ⟨rfl, rfl⟩
  | n + 1 => by
    obtain ⟨a, b⟩ := pr_flat Q n
    unfold prL at a b ⊢
    simp only [piL, piN, List.range_succ, List.filter_append]
    by_cases h : (Q n).st = 0
    · simp [h, a, b]
    · simp [h, a, b]
/-- How often a number stands in the descriptors of these. -/
def FJ (Q : Nat → Gp) (ps : List Nat) (v : Int) : Nat := (ps.map fun p => c6 (Q p).fd v).sum
theorem FJ_snoc (Q : Nat → Gp) (ps : List Nat) (p : Nat) (v : Int) : FJ Q (ps ++ [p]) v = FJ Q ps v + c6 (Q p).fd v := by
  unfold FJ
  simp
theorem FJ_le (Q : Nat → Gp) (v : Int) : ∀ ps : List Nat, FJ Q ps v ≤ 6 * ps.length
  | [] => Nat.le_refl _
  | p :: ps => by
    have := FJ_le Q v ps
    have h := c6_le (Q p).fd v
    have e : FJ Q (p :: ps) v = c6 (Q p).fd v + FJ Q ps v := by unfold FJ; simp
    rw [e, List.length_cons]
    omega
theorem FJ_pr (Q : Nat → Gp) (v : Int) (hz : ∀ i, (Q i).st = 0 → c6 (Q i).fd v = 0) : ∀ n, FJ Q (prL Q n) v = ((List.range n).map fun p => c6 (Q p).fd v).sum
  | 0 => rfl
  | n + 1 => by
    have ih := FJ_pr Q v hz n
    by_cases h : (Q n).st = 0
    · have e : prL Q (n + 1) = prL Q n := by unfold prL; rw [List.range_succ, List.filter_append]; simp [h]
      rw [e, ih, List.range_succ, List.map_append, List.sum_append]
      simp [hz n h]
    · have e : prL Q (n + 1) = prL Q n ++ [n] := by unfold prL; rw [List.range_succ, List.filter_append]; simp [h]
      rw [e, FJ_snoc, ih, List.range_succ, List.map_append, List.sum_append]
      simp
theorem FJ_cP {g : Gt} (H : GOk g) (i : Nat) (hi : 1 ≤ i) : FJ g.Q (prL g.Q 5) (i : Int) = cP g.Q (i : Int) := by
  have hno : c6 noGp.fd (i : Int) = 0 := by
    unfold c6
    have e : ¬ (noGp.fd 0 : Int) = (i : Int) := by show ¬ (0 : Int) = (i : Int); omega
    rw [show noGp.fd 1 = noGp.fd 0 from rfl, show noGp.fd 2 = noGp.fd 0 from rfl, show noGp.fd 3 = noGp.fd 0 from rfl, show noGp.fd 4 = noGp.fd 0 from rfl, show noGp.fd 5 = noGp.fd 0 from rfl, if_neg e]
  rw [FJ_pr g.Q (i : Int) (fun p hp => by rw [H.none p hp]; exact hno) 5]
  show ((List.range 5).map fun p => c6 (g.Q p).fd (i : Int)).sum = _
  rw [show List.range 5 = [0, 1, 2, 3, 4] from rfl]
  simp only [List.map_cons, List.map_nil, List.sum_cons, List.sum_nil]
  rw [show g.Q 0 = noGp from H.out 0 (.inl rfl), hno]
  unfold cP
  omega

/-- One where there is some. -/
def z1 (n : Nat) : Nat := if n = 0 then 0 else 1
theorem z1_0 {n : Nat} (h : n = 0) : z1 n = 0 := if_pos h
theorem z1_1 {n : Nat} (h : n ≠ 0) : z1 n = 1 := if_neg h
/-- How many of the numbers below stand at all. -/
def nNZ (F : Int → Nat) : Nat → Nat
  | 0 => 0
  | n + 1 => nNZ F n + z1 (F (n : Int))
theorem nNZ_hi (F : Int → Nat) (k : Nat) : ∀ n, n ≤ k → nNZ (inc F (k : Int)) n = nNZ F n
  | 0, _ => rfl
  | n + 1, h => by
    have e1 : inc F (k : Int) (n : Int) = F (n : Int) := by unfold inc; rw [if_neg (by omega)]
    unfold nNZ
    rw [nNZ_hi F k n (by omega), e1]
theorem nNZ_inc (F : Int → Nat) (k : Nat) : ∀ n, k < n → nNZ (inc F (k : Int)) n + z1 (F (k : Int)) = nNZ F n + 1
  | 0, h => by omega
  | n + 1, h => by
    unfold nNZ
    by_cases e : n = k
    · subst e
      have e1 : inc F (n : Int) (n : Int) = F (n : Int) + 1 := by unfold inc; rw [if_pos rfl]
      rw [nNZ_hi F n n (Nat.le_refl _), e1, z1_1 (by omega : F (n : Int) + 1 ≠ 0)]
      omega
    · have ih := nNZ_inc F k n (by omega)
      have e1 : inc F (k : Int) (n : Int) = F (n : Int) := by unfold inc; rw [if_neg (by omega)]
      rw [e1]
      omega
theorem nNZ_del (F : Int → Nat) : ∀ n, nNZ (dele F 0) (n + 1) + z1 (F 0) = nNZ F (n + 1)
  | 0 => by
    have e : dele F 0 ((0 : Nat) : Int) = 0 := by unfold dele; rw [if_pos (show ((0 : Nat) : Int) = 0 from rfl)]
    show 0 + z1 (dele F 0 ((0 : Nat) : Int)) + z1 (F 0) = 0 + z1 (F ((0 : Nat) : Int))
    rw [e, z1_0 rfl]
    show 0 + 0 + z1 (F 0) = 0 + z1 (F 0)
    omega
  | n + 1 => by
    have ih := nNZ_del F n
    have e : dele F 0 ((n + 1 : Nat) : Int) = F ((n + 1 : Nat) : Int) := by unfold dele; rw [if_neg (by omega)]
    show nNZ (dele F 0) (n + 1) + z1 (dele F 0 ((n + 1 : Nat) : Int)) + z1 (F 0) = nNZ F (n + 1) + z1 (F ((n + 1 : Nat) : Int))
    rw [e]
    omega
/-- As many numbers stand as files are open. -/
theorem nNZ_open {g : Gt} (H : LOk g) (F : Int → Nat) (h0 : F 0 = 0) (hF : ∀ i : Nat, 1 ≤ i → F (i : Int) = cP g.Q (i : Int)) : ∀ n, n ≤ 11 → nNZ F n = oiN g.T.O n
  | 0, _ => rfl
  | n + 1, hn => by
    have ih := nNZ_open H F h0 hF n (by omega)
    unfold nNZ oiN
    rw [ih]
    by_cases e : n = 0
    · subst e
      rw [z1_0 (show F ((0 : Nat) : Int) = 0 from h0), if_pos (by rw [H.ok.T.out 0 (.inl rfl)]; rfl), Nat.add_zero]
    · have a := H.h n (by omega) (by omega)
      have b := hF n (by omega)
      by_cases h : F (n : Int) = 0
      · rw [z1_0 h, if_pos (by omega), Nat.add_zero]
      · rw [z1_1 h, if_neg (by omega)]

end Go.Proofs.YtbglhmcahnkbfaaGreat

/- The counts of descriptors, number by number, as a map of numbers has them. -/
namespace Go.Proofs.YtbglhmcahnkbfaaGreat
open Go.RowKit Go.ChangeMaps Go.MapKept
set_option linter.unusedVariables false
set_option maxRecDepth 20000

/-- How often a number stands among the first of a process's descriptors. -/
def cN (f : Nat → Int) (v : Int) : Nat → Nat
  | 0 => 0
  | j + 1 => cN f v j + if f j = v then 1 else 0
theorem cN_6 (f : Nat → Int) (v : Int) : cN f v 6 = c6 f v := by
  simp [cN, c6]
theorem cN_le (f : Nat → Int) (v : Int) : ∀ j, cN f v j ≤ j
  | 0 => Nat.le_refl _
  | j + 1 => by
    have := cN_le f v j
    have := if_le (f j = v)
    unfold cN
    omega
/-- What was counted of whole processes and the first of one's descriptors. -/
def FK (Q : Nat → Gp) (ps : List Nat) (f : Nat → Int) (j : Nat) : Int → Nat := fun v => FJ Q ps v + cN f v j
theorem FK_inc (Q : Nat → Gp) (ps : List Nat) (f : Nat → Int) (j : Nat) : inc (FK Q ps f j) (f j) = FK Q ps f (j + 1) := by
  funext v
  have e : cN f v (j + 1) = cN f v j + if f j = v then 1 else 0 := rfl
  show (if v = f j then FJ Q ps v + cN f v j + 1 else FJ Q ps v + cN f v j) = FJ Q ps v + cN f v (j + 1)
  rw [e]
  by_cases h : v = f j
  · rw [if_pos h, if_pos h.symm]; omega
  · rw [if_neg h, if_neg (fun e => h e.symm)]; omega
theorem FK_0 (Q : Nat → Gp) (ps : List Nat) (f : Nat → Int) : FK Q ps f 0 = FJ Q ps := by
  funext v
  unfold FK cN
  omega
theorem FK_6 (Q : Nat → Gp) (ps : List Nat) (p : Nat) : FK Q ps (Q p).fd 6 = FJ Q (ps ++ [p]) := by
  funext v
  unfold FK
  rw [cN_6, FJ_snoc]
theorem FK_le (Q : Nat → Gp) (ps : List Nat) (f : Nat → Int) (j : Nat) (v : Int) : FK Q ps f j v ≤ 6 * ps.length + j := by
  have := FJ_le Q v ps
  have := cN_le f v j
  unfold FK
  omega
theorem FJ_nil (Q : Nat → Gp) : FJ Q [] = fun _ => 0 := rfl
theorem nNZ_no : ∀ n, nNZ (fun _ => 0) n = 0
  | 0 => rfl
  | n + 1 => by unfold nNZ; rw [nNZ_no n]; rfl

section
variable {w w' : World} {m n : Nat} {F : Int → Nat}
theorem oc_more (h : Oc w m n (nNZ F 11) F) {k : Int} (h0 : 0 ≤ k) (h10 : k ≤ 10) (hn : n ≤ 1000) (hF : F k ≤ 1000) :
    ∃ w', (Instr.mapUpdate 31 (.map (some m)) (.int .i64 k) (.int .i64 ((F k : Nat) + 1))).run Tryz.prog w = .ok () w' ∧ Oc w' m (n + 1) (nNZ (inc F k) 11) (inc F k) ∧ Upd (· = m) w w' := by
  obtain ⟨w', hr, h1, hu⟩ := oc_inc h (k := k) ⟨by omega, by omega⟩ (by show n < maxLen; unfold maxLen; omega) (by omega)
  refine ⟨w', hr, ?_, hu⟩
  obtain ⟨b, rfl⟩ : ∃ b : Nat, k = (b : Int) := ⟨k.toNat, by omega⟩
  have e := nNZ_inc F b 11 (by omega)
  by_cases z : F (b : Int) = 0
  · rw [if_pos z] at h1
    rw [z1_0 z] at e
    rw [show nNZ (inc F (b : Int)) 11 = nNZ F 11 + 1 by omega]
    exact h1
  · rw [if_neg z] at h1
    rw [z1_1 z] at e
    rw [show nNZ (inc F (b : Int)) 11 = nNZ F 11 by omega]
    exact h1
end

end Go.Proofs.YtbglhmcahnkbfaaGreat
