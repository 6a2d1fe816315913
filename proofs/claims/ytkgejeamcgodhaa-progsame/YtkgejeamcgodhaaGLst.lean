/- The least argument of a type; arguments that are the same wherever they lie: without memory. -/
import Derived.Test.YtkgejeamcgodhaaGRef4a
namespace Go.Proofs.Ytkgejeamcgodhaa
open Go.RowKit
set_option linter.unusedVariables false

/-- The bytes of a text, as numbers. -/
def numsOf (t : ByteArray) : List Int := t.data.toList.map fun b => (b.toNat : Int)
theorem length_numsOf (t : ByteArray) : (numsOf t).length = t.size := by unfold numsOf; simp
theorem str_nums (t : ByteArray) : strOfNums (numsOf t) = t := by
  unfold strOfNums numsOf
  apply ByteArray.ext
  apply Array.ext'
  simp only [List.map_map]
  conv => rhs; rw [← List.map_id t.data.toList]
  apply List.map_congr_left
  intro b _
  simp
theorem or_none (l : List Int) : l.foldl (orStep 0) 0 = 0 := by
  have h : ∀ x, orStep 0 0 x = 0 := fun x => by
    unfold orStep
    split
    · rename_i h0
      have e : bits .or .i64 0 x = bits .andNot .i64 x 0 := by unfold bits; simp
      rw [e, h0]
    · rfl
  induction l with
  | nil => rfl
  | cons x r ih => rw [List.foldl_cons, h]; exact ih

/-- Each of its type. -/
def AllL (g : Int → Ar → Prop) : List Int → List Ar → Prop
  | [], [] => True
  | t :: ts, a :: qs => g t a ∧ AllL g ts qs
  | _, _ => False
/-- The types of a least argument's kids. -/
def kdT (T : Ty) : List Int := if T.k = 6 ∨ T.k = 9 then T.es.take 1 else if T.k = 7 then List.replicate T.lo.toNat (T.es.getD 0 0) else if T.k = 8 then T.es else []
/-- Its own fields. -/
def lstH (T : Ty) (h : Hd) : Prop :=
  if T.k = 1 ∨ T.k = 2 then h.k = 1 ∧ h.v = T.lo ∧ h.bs = []
  else if T.k = 5 then h.k = 1 ∧ h.v = T.vs.getD 0 0 ∧ h.bs = []
  else if T.k = 6 then h.k = 3 ∧ h.v = 0 ∧ h.bs = []
  else if T.k = 7 ∨ T.k = 8 then h.k = 4 ∧ h.v = 0 ∧ h.bs = []
  else if T.k = 9 then h.k = 5 ∧ h.v = 0 ∧ h.bs = []
  else if T.k = 10 then h.k = 6 ∧ h.v = 0 ∧ h.bs = numsOf (T.ts.getD 0 .empty)
  else if T.k = 11 then h.k = 6 ∧ h.v = 0 ∧ h.bs = List.replicate T.lo.toNat 0
  else h.k = 1 ∧ h.v = 0 ∧ h.bs = []
/-- The least argument of a type. -/
def Lst (l : List Ty) : Nat → Int → Ar → Prop
  | 0, _, _ => False
  | f + 1, n, A => ∃ T, l[n.toNat]? = some T ∧ lstH T A.h ∧ AllL (Lst l f) (kdT T) A.ks

/-- The same, wherever they lie. -/
def AllS (g : Ar → Ar → Prop) : List Ar → List Ar → Prop
  | [], [] => True
  | a :: qs, b :: rs => g a b ∧ AllS g qs rs
  | _, _ => False
def SameA : Nat → Ar → Ar → Prop
  | 0, _, _ => False
  | f + 1, A, B => A.h.k = B.h.k ∧ A.h.v = B.h.v ∧ A.h.bs = B.h.bs ∧ AllS (SameA f) A.ks B.ks

theorem allL_same {g : Int → Ar → Prop} {s : Ar → Ar → Prop} (h : ∀ t a b, g t a → g t b → s a b) : ∀ (ts : List Int) (qs rs : List Ar), AllL g ts qs → AllL g ts rs → AllS s qs rs
  | [], [], [], _, _ => trivial
  | t :: ts, a :: qs, b :: rs, ⟨h1, h2⟩, ⟨h3, h4⟩ => ⟨h t a b h1 h3, allL_same h ts qs rs h2 h4⟩
theorem lst_same (l : List Ty) : ∀ (f : Nat) (n : Int) (A B : Ar), Lst l f n A → Lst l f n B → SameA f A B
  | 0, _, _, _, h, _ => h.elim
  | f + 1, n, A, B, ⟨T, h1, h2, h3⟩, ⟨T', g1, g2, g3⟩ => by
    rw [h1] at g1
    obtain rfl : T = T' := by injection g1
    have hh : A.h.k = B.h.k ∧ A.h.v = B.h.v ∧ A.h.bs = B.h.bs := by
      unfold lstH at h2 g2
      repeat' split at h2
      all_goals (simp_all)
    exact ⟨hh.1, hh.2.1, hh.2.2, allL_same (fun t a b => lst_same l f t a b) _ _ _ h3 g3⟩
theorem allS_len {s : Ar → Ar → Prop} : ∀ (qs rs : List Ar), AllS s qs rs → qs.length = rs.length
  | [], [], _ => rfl
  | a :: qs, b :: rs, ⟨_, h⟩ => by simp [allS_len qs rs h]
theorem allS_at {s : Ar → Ar → Prop} : ∀ (qs rs : List Ar) (h : AllS s qs rs) (j : Nat) (h1 : j < qs.length) (h2 : j < rs.length), s qs[j] rs[j]
  | a :: qs, b :: rs, ⟨h, _⟩, 0, _, _ => h
  | a :: qs, b :: rs, ⟨_, h⟩, j + 1, h1, h2 => allS_at qs rs h j (by simpa using h1) (by simpa using h2)
theorem allL_len {g : Int → Ar → Prop} : ∀ (ts : List Int) (qs : List Ar), AllL g ts qs → ts.length = qs.length
  | [], [], _ => rfl
  | t :: ts, a :: qs, ⟨_, h⟩ => by simp [allL_len ts qs h]
theorem allL_at {g : Int → Ar → Prop} : ∀ (ts : List Int) (qs : List Ar) (h : AllL g ts qs) (j : Nat) (h1 : j < ts.length) (h2 : j < qs.length), g (ts.getD j 0) qs[j]
  | t :: ts, a :: qs, ⟨h, _⟩, 0, _, _ => by simpa using h
  | t :: ts, a :: qs, ⟨_, h⟩, j + 1, h1, h2 => by simpa using allL_at ts qs h j (by simpa using h1) (by simpa using h2)
theorem allL_snoc {g : Int → Ar → Prop} : ∀ (ts : List Int) (qs : List Ar) (t : Int) (a : Ar), AllL g ts qs → g t a → AllL g (ts ++ [t]) (qs ++ [a])
  | [], [], t, a, _, h => ⟨h, trivial⟩
  | s :: ts, b :: qs, t, a, ⟨h1, h2⟩, h => ⟨h1, allL_snoc ts qs t a h2 h⟩

theorem lst_mis (T : Ty) (h : Hd) (g2 : partsN T = true) (g3 : fitsB T = true) (e1 : T.es.length = T.en) (e2 : T.vs.length = T.vn) (e3 : T.ts.length = T.tn) (h2 : lstH T h) (hb : h.bs.length = h.bn) (hk : (kdT T).length = h.kn) : kidTy T h = kdT T ∧ mis T h = 0 := by
  have mk : kindB T h = true → countB T h.kn = true → valueB T h = true → mis T h = 0 := fun a b c => by
    unfold mis
    rw [a, b, c]
    simp
  unfold lstH at h2
  unfold kdT at hk
  unfold partsN at g2
  unfold fitsB at g3
  by_cases k1 : T.k = 1
  · simp [k1] at h2 hk g2 g3
    refine ⟨by unfold kidTy kdT; simp [k1], mk ?_ ?_ ?_⟩
    · unfold kindB; simp [k1, h2]; rw [h2.2.2] at hb; simp at hb; omega
    · unfold countB; simp [k1]
    · unfold valueB; simp [k1, h2]; exact g3.2
  by_cases k2 : T.k = 2
  · simp [k2] at h2 hk g2 g3
    refine ⟨by unfold kidTy kdT; simp [k2], mk ?_ ?_ ?_⟩
    · unfold kindB; simp [k2, h2]; rw [h2.2.2] at hb; simp at hb; omega
    · unfold countB; simp [k2]
    · unfold valueB; simp [k2, h2]
  by_cases k5 : T.k = 5
  · simp [k5] at h2 hk g2 g3
    refine ⟨by unfold kidTy kdT; simp [k5], mk ?_ ?_ ?_⟩
    · unfold kindB; simp [k5, h2]; rw [h2.2.2] at hb; simp at hb; omega
    · unfold countB; simp [k5]
    · unfold valueB
      simp only [k5]
      have hv : 0 < T.vs.length := by omega
      have : T.vs.any (fun x => decide (h.v = x)) = true := List.any_eq_true.2 ⟨T.vs[0], List.getElem_mem hv, by rw [h2.2.1]; simp [List.getElem?_eq_getElem hv]⟩
      simpa using this
  by_cases k6 : T.k = 6
  · simp [k6] at h2 hk g2 g3
    have hes : T.es = [T.es.getD 0 0] := by
      rw [g2] at e1
      match T.es, e1 with
      | [x], _ => rfl
    have hkn : h.kn = 1 := by rw [← hk, e1, g2]; rfl
    refine ⟨?_, mk ?_ ?_ ?_⟩
    · unfold kidTy kdT
      simp only [k6, true_or, if_true, hkn]
      rw [hes]
      simp
    · unfold kindB; simp [k6, h2]; rw [h2.2.2] at hb; simp at hb; omega
    · unfold countB; simp [k6, hkn]
    · unfold valueB; simp [k6]
  by_cases k7 : T.k = 7
  · unfold rangeB at g3
    simp [k7] at h2 hk g2 g3
    refine ⟨?_, mk ?_ ?_ ?_⟩
    · unfold kidTy kdT
      simp [k7, ← hk]
    · unfold kindB; simp [k7, h2]; rw [h2.2.2] at hb; simp at hb; omega
    · unfold countB; simp [k7, ← hk]; omega
    · unfold valueB; simp [k7]
  by_cases k8 : T.k = 8
  · simp [k8] at h2 hk g2 g3
    refine ⟨?_, mk ?_ ?_ ?_⟩
    · unfold kidTy kdT
      simp [k8]
    · unfold kindB; simp [k8, h2]; rw [h2.2.2] at hb; simp at hb; omega
    · unfold countB; simp [k8, ← hk, e1]
    · unfold valueB; simp [k8]
  by_cases k9 : T.k = 9
  · simp [k9] at h2 hk g2 g3
    have hes : T.es.take 1 = [T.es.getD 0 0] := by
      match T.es, e1 with
      | x :: r, _ => simp
      | [], e => simp at e; omega
    have hkn : h.kn = 1 := by rw [← hk]; omega
    refine ⟨?_, mk ?_ ?_ ?_⟩
    · unfold kidTy kdT
      simp only [k9, h2.2.1]
      rw [hes]
      simp
    · unfold kindB; simp [k9, h2]; rw [h2.2.2] at hb; simp at hb; omega
    · unfold countB; simp [k9, hkn]
    · unfold valueB; simp [k9, h2]; omega
  by_cases k10 : T.k = 10
  · simp [k10] at h2 hk g2 g3
    refine ⟨by unfold kidTy kdT; simp [k10], mk ?_ ?_ ?_⟩
    · unfold kindB; simp [k10, h2]; omega
    · unfold countB; simp [k10]
    · unfold valueB
      have hv : 0 < T.ts.length := by omega
      have : T.ts.any (fun t => decide (strOfNums h.bs = t)) = true := List.any_eq_true.2 ⟨T.ts[0], List.getElem_mem hv, by rw [h2.2.2, str_nums]; simp [List.getElem?_eq_getElem hv]⟩
      simp only [k10]
      simpa using this
  by_cases k11 : T.k = 11
  · unfold rangeB at g3
    simp [k11] at h2 hk g2 g3
    refine ⟨by unfold kidTy kdT; simp [k11], mk ?_ ?_ ?_⟩
    · unfold kindB; simp [k11, h2]; omega
    · unfold countB; simp [k11]
    · unfold valueB; simp [k11, ← hb, h2.2.2]; omega
  · simp [k1, k2, k5, k6, k7, k8, k9, k10, k11] at h2 hk g2 g3
    refine ⟨by unfold kidTy kdT; simp [k6, k7, k8, k9], mk ?_ ?_ ?_⟩
    · unfold kindB; simp [k5, k6, k7, k8, k9, k10, k11, h2]; rw [h2.2.2] at hb; simp at hb; omega
    · unfold countB; simp [k6, k7, k8, k9]
    · unfold valueB
      simp only [k1, k2, k5, k9, k10, k11, if_false]
      split
      · unfold orB; rw [h2.2.1, or_none]; rfl
      · rfl

/-- What came out is right of its type. -/
theorem lst_chk (l : List Ty) (hG : Good l) (hE : ∀ n (h : n < l.length), l[n].es.length = l[n].en ∧ l[n].vs.length = l[n].vn ∧ l[n].ts.length = l[n].tn) (w : World) : ∀ (f d : Nat) (n : Nat) (A : Ar), n < l.length → Lst l f n A → Okd d w A → chk l d n A = 0
  | 0, _, _, _, _, h, _ => h.elim
  | f + 1, 0, _, _, _, _, h => h.elim
  | f + 1, d + 1, n, A, hn, ⟨T, h1, h2, h3⟩, ⟨o1, o2, o3⟩ => by
    rw [Int.toNat_natCast, List.getElem?_eq_getElem hn] at h1
    obtain rfl : l[n] = T := by injection h1
    obtain ⟨g1, g2, g3⟩ := hG n hn
    obtain ⟨e1, e2, e3⟩ := hE n hn
    have hlen := allL_len _ _ h3
    have hbn : A.h.bs.length = A.h.bn := o1.bs.1
    have hkt : kidTy l[n] A.h = kdT l[n] ∧ mis l[n] A.h = 0 := lst_mis l[n] A.h g2 g3 e1 e2 e3 h2 hbn (by rw [← o2, ← hlen])
    rw [chk_at l d n hn, hkt.2, if_pos rfl, hkt.1]
    refine chkL_zero _ _ hlen (fun i hi => ?_)
    have hit : i < (kdT l[n]).length := by omega
    have hat := allL_at _ _ h3 i hit hi
    have hah := (kid_ok hG n hn A.h e1 hkt.2).2
    rw [hkt.1] at hah
    have hp := ahead_at hah i hit
    obtain ⟨t, ht⟩ : ∃ t : Nat, (kdT l[n]).getD i 0 = (t : Int) := ⟨((kdT l[n]).getD i 0).toNat, by omega⟩
    rw [ht] at hat hp ⊢
    obtain ⟨b, o, _, _, hc⟩ := o3 (by omega)
    exact lst_chk l hG hE w f d t A.ks[i] (by omega) hat (hc i hi).2

end Go.Proofs.Ytkgejeamcgodhaa
