/- What a disk is, without memory: sectors, epochs of writes, what lands. -/
import Derived.Test.YtkmnhpnlkmiiiaaGreatDoorDsk
namespace Go.Proofs.YtkmnhpnlkmiiiaaGreatDoor
open Go.RowKit
set_option linter.unusedVariables false

/-- Sector i of an image. -/
def sec (L : List Int) (i : Nat) : List Int := (L.drop (i * 128)).take 128

theorem length_sec (L : List Int) (n i : Nat) (hL : L.length = n * 128) (hi : i < n) : (sec L i).length = 128 := by
  simp only [sec, List.length_take, List.length_drop, hL]
  have : (i + 1) * 128 ≤ n * 128 := Nat.mul_le_mul_right _ hi
  omega

theorem getElem?_sec (L : List Int) (i j : Nat) (hj : j < 128) : (sec L i)[j]? = L[i * 128 + j]? := by
  simp [sec, hj, List.getElem?_drop]

/-- A sector of an image into which a beginning of another one was laid. -/
theorem sec_splice (L bs : List Int) (n i j : Nat) (hL : L.length = n * 128) (hb : bs.length ≤ 128) (hi : i < n) :
    sec (splice L (i * 128) bs) j = if j = i then bs ++ (sec L i).drop bs.length else sec L j := by
  have hin : (i + 1) * 128 ≤ n * 128 := Nat.mul_le_mul_right _ hi
  apply List.ext_getElem?
  intro k
  rcases Nat.lt_or_ge k 128 with hk | hk
  · rw [getElem?_sec _ _ _ hk]
    simp only [splice, List.getElem?_append, List.length_take, List.getElem?_take, List.getElem?_drop]
    rw [show min (i * 128) L.length = i * 128 by omega]
    by_cases hji : j = i
    · subst hji
      rw [if_pos rfl, if_neg (show ¬ j * 128 + k < j * 128 by omega)]
      rw [show j * 128 + k - j * 128 = k by omega, List.getElem?_append]
      split
      · rfl
      · rw [List.getElem?_drop, getElem?_sec _ _ _ (by omega)]
        congr 1
        omega
    · rw [if_neg hji, getElem?_sec _ _ _ hk]
      rcases Nat.lt_or_gt_of_ne hji with h | h
      · have : (j + 1) * 128 ≤ i * 128 := Nat.mul_le_mul_right _ h
        rw [if_pos (by omega), if_pos (by omega)]
      · have : (i + 1) * 128 ≤ j * 128 := Nat.mul_le_mul_right _ h
        rw [if_neg (by omega), if_neg (by omega)]
        congr 1
        omega
  · have h1 : (sec (splice L (i * 128) bs) j)[k]? = none := by
      apply List.getElem?_eq_none; simp [sec]; omega
    rw [h1]
    symm
    apply List.getElem?_eq_none
    split
    · simp [sec]; omega
    · simp [sec]; omega

theorem sec_inj (L M : List Int) (n : Nat) (hL : L.length = n * 128) (hM : M.length = n * 128) (h : ∀ i, i < n → sec L i = sec M i) : L = M := by
  apply List.ext_getElem?
  intro k
  rcases Nat.lt_or_ge k (n * 128) with hk | hk
  · have h1 : (sec L (k / 128))[k % 128]? = (sec M (k / 128))[k % 128]? := by rw [h (k / 128) (by omega)]
    rw [getElem?_sec _ _ _ (by omega), getElem?_sec _ _ _ (by omega), show k / 128 * 128 + k % 128 = k by omega] at h1
    exact h1
  · rw [List.getElem?_eq_none (by omega), List.getElem?_eq_none (by omega)]

/-- What a list of writes has for a sector. -/
def look (es : List (Nat × List Int)) (i : Nat) : Option (List Int) := (es.find? (fun s => s.1 == i)).map (·.2)

/-- Sectors behind some writes (bytes that are missing stay as they were). -/
def overE (f : Nat → List Int) (es : List (Nat × List Int)) : Nat → List Int := es.foldl (fun g s => fun i => if i = s.1 then s.2 ++ (g i).drop s.2.length else g i) f

def over (f : Nat → List Int) (eps : List (List (Nat × List Int))) : Nat → List Int := eps.foldl overE f

theorem over_append (f : Nat → List Int) (a b : List (List (Nat × List Int))) : over f (a ++ b) = over (over f a) b := by simp [over]

/-- A write put into an epoch. -/
def putE (i : Nat) (bs : List Int) : List (Nat × List Int) → List (Nat × List Int)
  | [] => [(i, bs)]
  | (j, c) :: l => if j < i then (j, c) :: putE i bs l else if j = i then (i, bs) :: l else (i, bs) :: (j, c) :: l

theorem putE_at (i : Nat) (bs : List Int) (es : List (Nat × List Int)) (k : Nat) (hk : k ≤ es.length) (h1 : ∀ j (h : j < es.length), j < k → (es[j]).1 < i) (h2 : ∀ j (h : j < es.length), k ≤ j → i < (es[j]).1) :
    putE i bs es = es.take k ++ (i, bs) :: es.drop k := by
  induction es generalizing k with
  | nil => simp at hk; subst hk; rfl
  | cons e es ih =>
    obtain ⟨j, c⟩ := e
    cases k with
    | zero =>
      have := h2 0 (by simp) (Nat.le_refl _)
      simp at this
      simp only [putE]
      rw [if_neg (by omega), if_neg (by omega)]
      rfl
    | succ k =>
      have := h1 0 (by simp) (by omega)
      simp at this
      simp only [putE]
      rw [if_pos this, ih k (by simpa using hk) (fun j h hj => h1 (j + 1) (Nat.succ_lt_succ h) (by omega)) (fun j h hj => h2 (j + 1) (Nat.succ_lt_succ h) (by omega))]
      simp

theorem putE_set (i : Nat) (bs : List Int) (es : List (Nat × List Int)) (k : Nat) (hk : k < es.length) (h1 : ∀ j (h : j < es.length), j < k → (es[j]).1 < i) (h2 : (es[k]).1 = i) :
    putE i bs es = es.set k (i, bs) := by
  induction es generalizing k with
  | nil => simp at hk
  | cons e es ih =>
    obtain ⟨j, c⟩ := e
    cases k with
    | zero =>
      simp at h2
      subst h2
      simp [putE]
    | succ k =>
      have := h1 0 (by simp) (by omega)
      simp at this
      simp only [putE]
      rw [if_pos this, ih k (by simpa using hk) (fun j h hj => h1 (j + 1) (Nat.succ_lt_succ h) (by omega)) (by simpa using h2)]
      simp

/-- A write put into the last epoch, or into a new one. -/
def writeE (eps : List (List (Nat × List Int))) (opn : Bool) (i : Nat) (bs : List Int) : List (List (Nat × List Int)) :=
  if opn then eps.dropLast ++ [putE i bs (eps.getLastD [])] else eps ++ [[(i, bs)]]

theorem overE_cons (f : Nat → List Int) (s : Nat × List Int) (es : List (Nat × List Int)) : overE f (s :: es) = overE (fun i => if i = s.1 then s.2 ++ (f i).drop s.2.length else f i) es := rfl

theorem overE_other (es : List (Nat × List Int)) (i : Nat) (h : ∀ s ∈ es, s.1 ≠ i) (f : Nat → List Int) : overE f es i = f i := by
  induction es generalizing f with
  | nil => rfl
  | cons s es ih =>
    rw [overE_cons, ih (fun t ht => h t (by simp [ht]))]
    rw [if_neg]
    intro e
    exact h s (by simp) e.symm

theorem overE_cong (es : List (Nat × List Int)) (i : Nat) (f g : Nat → List Int) (h : f i = g i) : overE f es i = overE g es i := by
  induction es generalizing f g with
  | nil => exact h
  | cons s es ih => rw [overE_cons, overE_cons]; exact ih _ _ (by simp only [h])

theorem over_cong (eps : List (List (Nat × List Int))) (i : Nat) (f g : Nat → List Int) (h : f i = g i) : over f eps i = over g eps i := by
  induction eps generalizing f g with
  | nil => exact h
  | cons e eps ih => exact ih _ _ (overE_cong e i f g h)

/-- Behind an epoch into which a write was put, that write is what is there. -/
theorem overE_put (i : Nat) (bs : List Int) (hb : bs.length = 128) (n : Nat) (es : List (Nat × List Int)) (hr : (es.map (·.1)).Pairwise (· < ·)) (he : ∀ s ∈ es, s.2.length = 128) (f : Nat → List Int) (hf : ∀ j, j < n → (f j).length = 128) (j : Nat) (hj : j < n) :
    overE f (putE i bs es) j = if j = i then bs else overE f es j := by
  induction es generalizing f with
  | nil =>
    simp only [putE, overE, List.foldl]
    split
    · rename_i h; subst h; rw [List.drop_of_length_le (by rw [hf j hj]; omega)]; simp
    · rfl
  | cons e es ih =>
    obtain ⟨k, c⟩ := e
    have hc : c.length = 128 := he (k, c) (by simp)
    simp only [List.map_cons, List.pairwise_cons] at hr
    have hf' : ∀ j, j < n → ((fun i => if i = k then c ++ (f i).drop c.length else f i) j).length = 128 := by
      intro j hj
      simp only
      split
      · rw [List.drop_of_length_le (by rw [hf j hj]; omega)]; simpa using hc
      · exact hf j hj
    simp only [putE]
    rcases Nat.lt_trichotomy k i with h | h | h
    · rw [if_pos h, overE_cons, overE_cons]
      exact ih hr.2 (fun s hs => he s (by simp [hs])) _ hf'
    · subst h
      rw [if_neg (by omega), if_pos rfl, overE_cons, overE_cons]
      by_cases hjk : j = k
      · subst hjk
        rw [if_pos rfl, overE_other _ _ (fun s hs e => by have := hr.1 s.1 (List.mem_map.2 ⟨s, hs, rfl⟩); omega)]
        simp only
        rw [if_pos trivial, List.drop_of_length_le (by rw [hf j hj]; omega)]
        simp
      · rw [if_neg hjk]
        exact overE_cong _ _ _ _ (by simp only; rw [if_neg hjk, if_neg hjk])
    · rw [if_neg (by omega), if_neg (by omega), overE_cons, overE_cons, overE_cons]
      by_cases hji : j = i
      · subst hji
        rw [if_pos rfl, overE_other _ _ (fun s hs e => by have := hr.1 s.1 (List.mem_map.2 ⟨s, hs, rfl⟩); omega)]
        simp only
        rw [if_neg (by omega), if_pos trivial, List.drop_of_length_le (by rw [hf j hj]; omega)]
        simp
      · rw [if_neg hji]
        exact overE_cong _ _ _ _ (by simp only; rw [if_neg hji])

def Snt.ab (s : Snt) : Nat × List Int := (s.sec, s.bs)
def Ep.ab (e : Ep) : List (Nat × List Int) := e.es.map Snt.ab
def Dk.ab (d : Dk) : List (List (Nat × List Int)) := d.eps.map Ep.ab

end Go.Proofs.YtkmnhpnlkmiiiaaGreatDoor
