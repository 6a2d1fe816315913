/- What DiskTears plays, without memory; and what played and Epochs leave for it. -/
import Derived.Test.YtnfkkhglooehfaaDTearsA
namespace Go.Proofs.Ytnfkkhglooehfaa
open Go.RowKit
set_option linter.unusedVariables false

theorem overE_append (f : Nat → List Int) (a b : List (Nat × List Int)) : overE f (a ++ b) = overE (overE f a) b := by simp [overE]

/-- Of the last sector only a beginning is there. -/
def tornF (f0 f1 : Nat → List Int) (ks : List Nat) (s t : Nat) (i : Nat) : List Int := if i = s then (f1 s).take t ++ List.replicate (128 - t) 0 else mix f0 f1 ks i

theorem tears_math (f f0 f1 : Nat → List Int) (ini : List Snt) (s : Snt) (t : Nat) (hr : ((ini ++ [s]).map Snt.sec).Pairwise (· < ·)) (hn : ∀ x ∈ (ini ++ [s]).map Snt.sec, x < 4) (hb : ∀ x ∈ ini ++ [s], x.bs.length = 128) (hf : ∀ i, i < 4 → f i = List.replicate 128 0)
    (h0 : ∀ i, i < 4 → f0 i = f i) (h1 : ∀ i, i < 4 → f1 i = overE f ((ini ++ [s]).map Snt.ab) i) (i : Nat) (hi : i < 4) :
    overE f (tornE (ini ++ [s]) t) i = tornF f0 f1 ((ini ++ [s]).map Snt.sec) s.sec (min t 128) i := by
  have hs4 : s.sec < 4 := hn s.sec (by simp)
  have hsb : s.bs.length = 128 := hb s (by simp)
  have hne : ∀ x ∈ ini, x.sec ≠ s.sec := by
    intro x hx e
    rw [List.map_append, List.pairwise_append] at hr
    have := hr.2.2 x.sec (List.mem_map.2 ⟨x, hx, rfl⟩) s.sec (by simp)
    omega
  have hg : ∀ j, (∀ x ∈ ini, x.sec ≠ j) → overE f (ini.map Snt.ab) j = f j := fun j hj => overE_other _ _ (fun y hy => by
    obtain ⟨x, hx, rfl⟩ := List.mem_map.1 hy
    exact hj x hx) f
  have ht : tornE (ini ++ [s]) t = ini.map Snt.ab ++ [(s.sec, s.bs.take (min t 128))] := by simp [tornE]
  have h1' : ∀ j, j < 4 → f1 j = if j = s.sec then s.bs else overE f (ini.map Snt.ab) j := by
    intro j hj
    rw [h1 j hj, List.map_append, overE_append]
    show (if j = s.sec then s.bs ++ (overE f (ini.map Snt.ab) j).drop s.bs.length else overE f (ini.map Snt.ab) j) = _
    by_cases hjs : j = s.sec
    · subst hjs
      rw [if_pos rfl, if_pos rfl, hg _ hne, hf _ hj, hsb]; simp
    · rw [if_neg hjs, if_neg hjs]
  rw [ht, overE_append]
  show (if i = s.sec then s.bs.take (min t 128) ++ (overE f (ini.map Snt.ab) i).drop (s.bs.take (min t 128)).length else overE f (ini.map Snt.ab) i) = _
  unfold tornF
  by_cases his : i = s.sec
  · subst his
    rw [if_pos rfl, if_pos rfl, h1' _ hi, if_pos rfl, hg _ hne, hf _ hi, List.length_take, hsb, List.drop_replicate]
    congr 2
    omega
  · rw [if_neg his, if_neg his]
    unfold mix
    by_cases hm : i ∈ (ini ++ [s]).map Snt.sec
    · rw [if_pos hm, h1' _ hi, if_neg his]
    · rw [if_neg hm, h0 _ hi]
      exact hg i (fun x hx e => hm (by rw [← e]; exact List.mem_map.2 ⟨x, by simp [hx], rfl⟩))

/-- Bytes of which those from t to i are noughts. -/
def nulled (bs : List Int) (t i : Nat) : List Int := bs.take t ++ List.replicate (i - t) 0 ++ bs.drop i
theorem nulled_start (bs : List Int) (t : Nat) : nulled bs t t = bs := by simp [nulled]
theorem nulled_end (bs : List Int) (t : Nat) (h : bs.length = 128) : nulled bs t 128 = bs.take t ++ List.replicate (128 - t) 0 := by simp [nulled, List.drop_of_length_le (show bs.length ≤ 128 by omega)]
theorem nulled_set (bs : List Int) (t i : Nat) (h : bs.length = 128) (ht : t ≤ i) (hi : i < 128) : (nulled bs t i).set i 0 = nulled bs t (i + 1) := by
  unfold nulled
  rw [List.set_append_right i _ (by simp; omega)]
  have e : i - (bs.take t ++ List.replicate (i - t) (0 : Int)).length = 0 := by simp; omega
  rw [e, List.drop_eq_getElem_cons (by omega), List.set_cons_zero, show i + 1 - t = i - t + 1 by omega, List.replicate_succ']
  simp
theorem nulled_get (bs : List Int) (t i : Nat) (h : bs.length = 128) (ht : t ≤ i) (hi : i < 128) : ∃ z, (nulled bs t i)[i]? = some z := by
  have : (nulled bs t i).length = 128 := by simp [nulled]; omega
  exact ⟨_, List.getElem?_eq_getElem (by omega)⟩

theorem own_slice {w : World} {B e size n k : Nat} {v : Value} {xs : List Value} (h : w.ownsRow B e size v n xs) (hk : v.ownBlock = some k) : ∃ c, v = .slice (some ⟨k, 0, none⟩) n c ∧ n ≤ c ∧ c ≤ 9223372036854775807 := by
  rcases h.2 with ⟨rfl, _⟩ | ⟨g, c, cur, rfl, _, _, h1, h2, _⟩
  · simp [Value.ownBlock] at hk
  · simp [Value.ownBlock] at hk
    subst hk
    exact ⟨c, rfl, h1, by unfold maxLen at h2; omega⟩

/-- The row of states, and two of them, behind played and whatever leaves old memory. -/
theorem frm_of {w w1 w2 : World} {p gn gs cs L : Nat} {d : Dk} {fnow : Nat → List Int} {sts : List (Nat → List Int)} {X : List Nat} (hmem : Mem w w1 p gn d (.slice (some ⟨gs, 0, none⟩) (L + 1) cs) (L + 1) fnow sts X) (hL : sts.length = L + 1) (hb : Below w1.heap.size w1 w2) (ia ib : Nat) (ha : ia < ib) (hbL : ib ≤ L) :
    ∃ k0 c0 k1 c1, Frm w w2 p gs ia ib d (MM d p gn (.slice (some ⟨gs, 0, none⟩) (L + 1) cs) ++ X) k0 c0 k1 c1 (sts[ia]'(by omega)) (sts[ib]'(by omega)) := by
  obtain ⟨us, hrow, hent, hdis⟩ := hmem.row
  obtain ⟨u0, k0, hu0, hk0, hx0, hp0⟩ := hent ia (by omega)
  obtain ⟨u1, k1, hu1, hk1, hx1, hp1⟩ := hent ib (by omega)
  obtain ⟨c0, rfl, _⟩ := own_slice hp0.choose_spec.1 hk0
  obtain ⟨c1, rfl, _⟩ := own_slice hp1.choose_spec.1 hk1
  have hne : k0 ≠ k1 := fun e => hdis ia ib _ _ k0 ha (by omega) hu0 hu1 hk0 (by rw [e]; exact hk1)
  have hxs := hmem.xs k0 hx0
  have hlt := hmem.lt
  have hgs : gs ∈ MM d p gn (.slice (some ⟨gs, 0, none⟩) (L + 1) cs) := by simp [MM, vb, Value.ownBlock]
  have hrow2 := own_below hrow hb
  have hc0 := hrow2.cellAt ia (by omega)
  have hc1 := hrow2.cellAt ib (by omega)
  have hpic : ∀ v f, Pic w1 (MM d p gn (.slice (some ⟨gs, 0, none⟩) (L + 1) cs) ++ X) v 4 f → Pic w2 (MM d p gn (.slice (some ⟨gs, 0, none⟩) (L + 1) cs) ++ X) v 4 f := by
    intro v f ⟨vs, hr, hj⟩
    refine ⟨vs, own_below hr hb, fun j hl => ?_⟩
    obtain ⟨u, h1, h2⟩ := hj j hl
    exact ⟨u, h1, h2.upd (Upd.of_below hb) (grew_refl _ _)⟩
  refine ⟨k0, c0, k1, c1, ⟨hmem.ok.frame fun k hk => hb.block k (hmem.ok.lt k hk), by rw [hc0, hu0], by rw [hc1, hu1], hpic _ _ hp0, hpic _ _ hp1, List.mem_append.2 (.inr hx0), fun x hx => List.mem_append.2 (.inl (List.mem_append.2 (.inl hx))), fun hx => hxs.2.2 (List.mem_append.2 (.inl hx)), fun e => hxs.2.2 (e ▸ hgs), hne, (hmem.sep2 gs rfl).1, ?_, fun x hx => ?_, hxs.2.1, hmem.below.trans (hb.mono hmem.below.size)⟩⟩
  · exact Nat.lt_of_lt_of_le (hlt gs hgs) hb.size
  · rcases List.mem_append.1 hx with hx | hx
    · exact Nat.lt_of_lt_of_le (hlt x hx) hb.size
    · exact Nat.lt_of_lt_of_le (hmem.xs x hx).1 hb.size

end Go.Proofs.Ytnfkkhglooehfaa
