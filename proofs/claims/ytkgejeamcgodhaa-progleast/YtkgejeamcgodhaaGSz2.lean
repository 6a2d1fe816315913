/- What is wrong with arguments, how many bytes they have: the program's first and size. -/
import Derived.Test.YtkgejeamcgodhaaGSz1
namespace Go.Proofs.Ytkgejeamcgodhaa
open Go.RowKit
set_option linter.unusedVariables false
set_option maxRecDepth 20000

theorem thrL_fst (g : Int → Int → Ar → Int) (h : Int → Ar → Int) (hg : ∀ s t a, g s t a = if s = 0 then h t a else s) : ∀ (ts : List Int) (qs : List Ar) (s : Int), thrL g s ts qs = if s = 0 then chkL h ts qs else s
  | [], _, s => by simp only [thrL, chkL]; split <;> simp_all
  | t :: ts, [], s => by simp only [thrL, chkL]; split <;> simp_all
  | t :: ts, a :: qs, s => by
    simp only [thrL, chkL]
    rw [thrL_fst g h hg ts qs, hg]
    by_cases h0 : s = 0
    · simp [h0]
    · simp [h0]
theorem thr_fst (l : List Ty) : ∀ (d : Nat) (s n : Int) (A : Ar), thr fst1 l d s n A = if s = 0 then chk l d n A else s
  | 0, s, n, A => by simp only [thr, chk]; split <;> simp_all
  | d + 1, s, n, A => by
    simp only [thr, chk]
    cases l[n.toNat]? with
    | none => dsimp only; split <;> simp_all
    | some T =>
      dsimp only
      rw [thrL_fst _ _ (fun s t a => thr_fst l d s t a)]
      unfold fst1
      by_cases h0 : s = 0
      · simp only [h0, if_true]
        by_cases hm : mis T A.h = 0
        · simp [hm]
        · simp [hm]
      · simp [h0]

theorem wrap_add (a b : Int) : wrap64 (wrap64 a + b) = wrap64 (a + b) := by unfold wrap64; omega
theorem wrap_add' (a b : Int) : wrap64 (a + wrap64 b) = wrap64 (a + b) := by unfold wrap64; omega
theorem wrap_wrap (a : Int) : wrap64 (wrap64 a) = wrap64 a := by unfold wrap64; omega

theorem thrL_sz (g : Int → Int → Ar → Int) (h c : Int → Ar → Int) (hg : ∀ s t a, wrap64 s = s → c t a = 0 → g s t a = wrap64 (s + h t a)) : ∀ (ts : List Int) (qs : List Ar) (s : Int), wrap64 s = s → chkL c ts qs = 0 → thrL g s ts qs = wrap64 (s + szL h ts qs)
  | [], _, s, hs, _ => by simp [thrL, szL, hs]
  | t :: ts, [], s, hs, _ => by simp [thrL, szL, hs]
  | t :: ts, a :: qs, s, hs, hc => by
    simp only [chkL] at hc
    split at hc
    · rename_i h0
      simp only [thrL, szL]
      rw [hg s t a hs h0, thrL_sz g h c hg ts qs _ (wrap_wrap _) hc, wrap_add, Int.add_assoc]
    · rename_i h0
      exact absurd hc h0
theorem thr_sz (l : List Ty) : ∀ (d : Nat) (s n : Int) (A : Ar), wrap64 s = s → chk l d n A = 0 → thr sz1 l d s n A = wrap64 (s + szA l d n A)
  | 0, s, n, A, hs, _ => by simp [thr, szA, hs]
  | d + 1, s, n, A, hs, hc => by
    simp only [thr, szA]
    simp only [chk] at hc
    cases hl : l[n.toNat]? with
    | none => dsimp only; rw [Int.add_zero, hs]
    | some T =>
      rw [hl] at hc
      dsimp only at hc ⊢
      have hc' : chkL (chk l d) (kidTy T A.h) A.ks = 0 := by
        split at hc
        · exact hc
        · rename_i h0; exact absurd hc h0
      have hL := thrL_sz (thr sz1 l d) (szA l d) (chk l d) (fun s t a => thr_sz l d s t a) (kidTy T A.h) A.ks s hs hc'
      unfold sz1
      by_cases e7 : T.k = 7 ∨ T.k = 8 ∨ T.k = 9
      · simp only [if_pos e7, if_true]
        exact hL
      · simp only [if_neg e7]
        by_cases e10 : T.k = 10
        · simp only [if_pos e10]
          rw [if_neg (by simp), wrap_add']
        · simp only [if_neg e10]
          by_cases e11 : T.k = 11
          · simp only [if_pos e11]
            rw [if_neg (by simp)]
          · simp only [if_neg e11]
            rw [if_neg (by simp)]

theorem chkL_kids {c : Int → Ar → Int} : ∀ (ts : List Int) (qs : List Ar), ts.length = qs.length → chkL c ts qs = 0 → ∀ j (h : j < qs.length), c (ts.getD j 0) qs[j] = 0
  | [], [], _, _, j, h => by simp at h
  | t :: ts, a :: qs, hl, hc, j, h => by
    simp only [chkL] at hc
    split at hc
    · rename_i h0
      cases j with
      | zero => simpa using h0
      | succ j => simpa using chkL_kids ts qs (by simpa using hl) hc j (by simpa using h)
    · rename_i h0; exact absurd hc h0

theorem fst1_true {s : Int} {T : Ty} {h : Hd} (hf : (fst1 s T h).2 = true) : mis T h = 0 := by
  unfold fst1 at hf
  split at hf
  · simpa using hf
  · cases hf

/-- A row as first and size are given it. -/
structure Rw (W : World) (d m : Nat) (ra : Option Addr) (rn rc : Nat) (ua : Option Addr) (un : Nat) (qs : List Ar) (ts : List Int) : Prop where
  lie : 0 < qs.length → ∃ b o, ra = some ⟨b, o, none⟩ ∧ b < W.heap.size ∧ ∀ j, ∀ h : j < qs.length, HdAt W b (o + j * 4) qs[j].h ∧ Okd d W qs[j]
  len : qs.length = rn
  rle : rn ≤ rc
  rlt : rc ≤ 9223372036854775807
  typ : Ints W ua ts
  tln : ts.length = un
  eqn : un = rn
  ahd : ahead m ts = true
  ule : ∀ b o, ua = some ⟨b, o, none⟩ → b < W.heap.size

theorem alloc4 (w : World) (o1 o2 o3 o4 : Obj) : Below w.heap.size w ((((w.alloc o1).alloc o2).alloc o3).alloc o4) := (((below_box2 w o1 o2).alloc (by simp; omega) o3).alloc (by simp; omega) o4)
theorem alloc3 (w : World) (o1 o2 o3 : Obj) : Below w.heap.size w (((w.alloc o1).alloc o2).alloc o3) := ((below_box2 w o1 o2).alloc (by simp; omega) o3)

set_option maxHeartbeats 8000000 in
theorem first_any (a : Option Addr) (m c : Nat) (a2 : Option Addr) (m2 c2 : Nat) (l : List Ty) (d : Nat) (ra : Option Addr) (rn rc : Nat) (ua : Option Addr) (un uc : Nat) (xa : Option Addr) (xn xc : Nat) (qs : List Ar) (ts : List Int) (W : World)
    (hT : Tys W a l) (hm : l.length = m) (hmb : m ≤ 9223372036854775807) (hG : Good l) (hR : Rw W d m ra rn rc ua un qs ts) :
    Calls Try.prog 32 #[.agg #[.slice a m c, .slice a2 m2 c2], .agg #[.slice ra rn rc, .slice ua un uc, .slice xa xn xc], .func (.func 33) #[] #[]] W fun e W' => e = .returned (.int .i64 (chkL (chk l d) ts qs)) ∧ Below W.heap.size W W' := by
  have k1 := hid (fun o1 o2 o3 o4 (h4 : Num ((((W.alloc o1).alloc o2).alloc o3).alloc o4) (W.heap.size + 1 + 1 + 1) 31 0) (h3 : ((((W.alloc o1).alloc o2).alloc o3).alloc o4).cell? ⟨W.heap.size + 1 + 1, 0, none⟩ = some (.func (.func 33) #[] #[])) =>
    through W _ (W.heap.size + 1 + 1 + 1) 31 60 _ fst1 (visits_first W (W.heap.size + 1 + 1 + 1) (W.heap.size + 1 + 1)) (by omega)
      (fun W1 W2 h u => ⟨(World.cell?_of_block (u.block _ h.2.2 h.2.1)).trans h.1, h.2.1, Nat.lt_of_lt_of_le h.2.2 u.size⟩) a m c a2 m2 c2 l hT hm hmb hG (fun _ _ _ => True)
      (fun d n h A s _ hf => ⟨fst1_true hf, fun _ _ => trivial⟩)
      d ra rn rc ua un uc xa xn xc qs ts ((((W.alloc o1).alloc o2).alloc o3).alloc o4) 0 (alloc4 W o1 o2 o3 o4) ⟨h3, by omega, by simp⟩ h4
      (fun h0 => by
        obtain ⟨b, o, e, hl, hc⟩ := hR.lie h0
        exact ⟨b, o, e, Nat.lt_of_lt_of_le hl (alloc4 W o1 o2 o3 o4).size, by omega, fun j hj => ⟨(hc j hj).1.blk ((alloc4 W o1 o2 o3 o4).block b hl), (hc j hj).2⟩⟩)
      hR.len hR.rle hR.rlt (hR.typ.below (alloc4 W o1 o2 o3 o4)) (fun b o e => by have := hR.ule b o e; omega) hR.tln hR.eqn hR.ahd (fun _ _ => trivial))
  obtain ⟨R, gR⟩ : ∃ R, R = chkL (chk l d) ts qs := ⟨_, rfl⟩
  rw [← gR]
  have hth := thrL_fst (thr fst1 l d) (chk l d) (fun s t a => thr_fst l d s t a) ts qs 0
  rw [if_pos rfl, ← gR] at hth
  rw [hth] at k1
  clear hth gR hT hG hR
  go_enter Try.func32, Try.ntmps32
  go_wp2_with fail
  refine (k1.out _ _ _ _ (heap4 W _ _ _ _).2.2.2 (cell_of_row _ _ 0 _ _ _ (heap4 W _ _ _ _).2.2.1)).mono ?_
  rintro e w1 ⟨rfl, hs, hu⟩
  have c1 := hs.cell
  have HB : Hid (Below W.heap.size W w1) := hid ((alloc4 W _ _ _ _).trans (hu.below (alloc4 W _ _ _ _).size (fun x hx => by omega)))
  clear hs hu
  go_wp2_with fail
  go_ret
  exact ⟨rfl, HB.out⟩

set_option maxHeartbeats 8000000 in
theorem size_any (a : Option Addr) (m c : Nat) (a2 : Option Addr) (m2 c2 : Nat) (l : List Ty) (d : Nat) (ra : Option Addr) (rn rc : Nat) (ua : Option Addr) (un uc : Nat) (xa : Option Addr) (xn xc : Nat) (qs : List Ar) (ts : List Int) (W : World)
    (hT : Tys W a l) (hm : l.length = m) (hmb : m ≤ 9223372036854775807) (hG : Good l) (hR : Rw W d m ra rn rc ua un qs ts) (hC : chkL (chk l d) ts qs = 0) :
    Calls Try.prog 34 #[.agg #[.slice a m c, .slice a2 m2 c2], .agg #[.slice ra rn rc, .slice ua un uc, .slice xa xn xc]] W fun e W' => e = .returned (.int .i64 (wrap64 (szL (szA l d) ts qs))) ∧ Below W.heap.size W W' := by
  have hEl : ∀ n (h : n < l.length), l[n].es.length = l[n].en := fun n h => by
    obtain ⟨_, _, _, _, htc⟩ := hT (by omega)
    exact (htc n h).2.el
  have k1 := hid (fun o1 o2 o3 (h4 : Num (((W.alloc o1).alloc o2).alloc o3) (W.heap.size + 1 + 1) 3 0) =>
    through W (fun _ => True) (W.heap.size + 1 + 1) 3 64 _ sz1 (visits_size W (W.heap.size + 1 + 1)) (by omega)
      (fun W1 W2 h u => trivial) a m c a2 m2 c2 l hT hm hmb hG (fun d n A => chk l d n A = 0 ∧ Okd d W A)
      (fun d n h A s hP hf => by
        obtain ⟨p1, p2⟩ := hP
        rw [chk_at l d n h] at p1
        split at p1
        · rename_i hm0
          refine ⟨hm0, fun j hj => ⟨chkL_kids _ _ (by rw [(kid_ok hG n h A.h (hEl n h) hm0).1]; exact p2.2.1.symm) p1 j hj, ?_⟩⟩
          obtain ⟨_, _, _, _, hc⟩ := p2.2.2 (by omega)
          exact (hc j hj).2
        · rename_i hm0; exact absurd p1 hm0)
      d ra rn rc ua un uc xa xn xc qs ts (((W.alloc o1).alloc o2).alloc o3) 0 (alloc3 W o1 o2 o3) trivial h4
      (fun h0 => by
        obtain ⟨b, o, e, hl, hc⟩ := hR.lie h0
        exact ⟨b, o, e, Nat.lt_of_lt_of_le hl (alloc3 W o1 o2 o3).size, by omega, fun j hj => ⟨(hc j hj).1.blk ((alloc3 W o1 o2 o3).block b hl), (hc j hj).2⟩⟩)
      hR.len hR.rle hR.rlt (hR.typ.below (alloc3 W o1 o2 o3)) (fun b o e => by have := hR.ule b o e; omega) hR.tln hR.eqn hR.ahd
      (fun j hj => ⟨chkL_kids _ _ (by rw [hR.tln, hR.eqn, hR.len]) hC j hj, by
        obtain ⟨_, _, _, _, hc⟩ := hR.lie (by omega)
        exact (hc j hj).2⟩))
  have hth := thrL_sz (thr sz1 l d) (szA l d) (chk l d) (fun s t a => thr_sz l d s t a) ts qs 0 (by unfold wrap64; omega) hC
  rw [Int.zero_add] at hth
  rw [hth] at k1
  generalize wrap64 (szL (szA l d) ts qs) = R at *
  clear hth hT hG hR hC hEl
  go_enter Try.func34, Try.ntmps34
  go_wp2_with fail
  refine (k1.out _ _ _ (heap3 W _ _ _).2.2).mono ?_
  rintro e w1 ⟨rfl, hs, hu⟩
  have c1 := hs.cell
  have HB : Hid (Below W.heap.size W w1) := hid ((alloc3 W _ _ _).trans (hu.below (alloc3 W _ _ _).size (fun x hx => by omega)))
  clear hs hu
  go_wp2_with fail
  go_ret
  exact ⟨rfl, HB.out⟩

end Go.Proofs.Ytkgejeamcgodhaa
