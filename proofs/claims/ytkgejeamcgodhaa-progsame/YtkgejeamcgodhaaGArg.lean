/- Arguments as they lie; which fit a type, and how many bytes they have, without memory. -/
import Derived.Test.YtkgejeamcgodhaaGTy
namespace Go.Proofs.Ytkgejeamcgodhaa
open Go.RowKit
set_option linter.unusedVariables false

/-- An argument without its kids, with where its lists lie. -/
structure Hd where
  k : Int
  v : Int
  ka : Option Addr
  kn : Nat
  kc : Nat
  ba : Option Addr
  bn : Nat
  bc : Nat
  bs : List Int

/-- An argument. -/
inductive Ar where
  | mk (h : Hd) (ks : List Ar) : Ar
def Ar.h : Ar → Hd | .mk h _ => h
def Ar.ks : Ar → List Ar | .mk _ ks => ks

structure Hd.Ok (w : World) (h : Hd) : Prop where
  bs : Src w h.ba h.bn h.bs
  bm : h.bn ≤ h.bc
  bb : h.bc ≤ 9223372036854775807
  km : h.kn ≤ h.kc
  kb : h.kc ≤ 9223372036854775807
theorem Hd.Ok.below {w w' : World} {h : Hd} (k : h.Ok w) (hb : Below w.heap.size w w') : h.Ok w' := { k with bs := k.bs.below hb }

/-- An argument lies from a cell on. -/
structure HdAt (w : World) (b o : Nat) (h : Hd) : Prop where
  c0 : w.cell? ⟨b, o, none⟩ = some (.int .i64 h.k)
  c1 : w.cell? ⟨b, o + 1, none⟩ = some (.int .i64 h.v)
  c2 : w.cell? ⟨b, o + 2, none⟩ = some (.slice h.ka h.kn h.kc)
  c3 : w.cell? ⟨b, o + 3, none⟩ = some (.slice h.ba h.bn h.bc)
theorem HdAt.blk {w w' : World} {b o : Nat} {h : Hd} (k : HdAt w b o h) (e : w'.heap[b]? = w.heap[b]?) : HdAt w' b o h :=
  have f := fun j => World.cell?_of_block (a := ⟨b, j, none⟩) e
  ⟨(f _).trans k.c0, (f _).trans k.c1, (f _).trans k.c2, (f _).trans k.c3⟩

/-- An argument's lists lie where it says, its kids' too, so deep. -/
def Okd : Nat → World → Ar → Prop
  | 0 => fun _ _ => False
  | d + 1 => fun w A => A.h.Ok w ∧ A.ks.length = A.h.kn ∧ (0 < A.ks.length → ∃ b o, A.h.ka = some ⟨b, o, none⟩ ∧ b < w.heap.size ∧ ∀ j, ∀ h : j < A.ks.length, HdAt w b (o + j * 4) A.ks[j].h ∧ Okd d w A.ks[j])
theorem Okd.below {w w' : World} (hb : Below w.heap.size w w') : ∀ (d : Nat) (A : Ar), Okd d w A → Okd d w' A
  | 0, _, h => h
  | d + 1, A, ⟨h1, h2, h3⟩ => ⟨h1.below hb, h2, fun h0 => by
    obtain ⟨b, o, e, hl, hc⟩ := h3 h0
    exact ⟨b, o, e, Nat.lt_of_lt_of_le hl hb.size, fun j hj => ⟨(hc j hj).1.blk (hb.block b hl), Okd.below hb d _ (hc j hj).2⟩⟩⟩
theorem Okd.hd {d : Nat} {w : World} {A : Ar} (h : Okd d w A) : A.h.Ok w := by
  cases d with
  | zero => exact h.elim
  | succ d => exact h.1

/-- Is it of the kind that its type asks for, without fields of other kinds? -/
def kindB (T : Ty) (h : Hd) : Bool :=
  if T.k = 5 then decide ((h.k = 1 ∨ h.k = 2) ∧ h.kn = 0 ∧ h.bn = 0) else
  if T.k = 6 then decide (h.k = 3 ∧ h.v = 0 ∧ h.bn = 0) else
  if T.k = 7 ∨ T.k = 8 then decide (h.k = 4 ∧ h.v = 0 ∧ h.bn = 0) else
  if T.k = 9 then decide (h.k = 5 ∧ h.bn = 0) else
  if T.k = 10 ∨ T.k = 11 then decide (h.k = 6 ∧ h.v = 0 ∧ h.kn = 0) else decide (h.k = 1 ∧ h.kn = 0 ∧ h.bn = 0)
/-- May it have so many kids? -/
def countB (T : Ty) (n : Nat) : Bool :=
  if T.k = 6 then decide (n ≤ 1) else
  if T.k = 7 then decide (T.lo ≤ (n : Int) ∧ (n : Int) ≤ T.hi) else
  if T.k = 8 then decide (n = T.en) else
  if T.k = 9 then decide (n = 1) else true
/-- Some of these, or-ed: step by step. -/
def orStep (v s x : Int) : Int := if bits .andNot .i64 x v = 0 then bits .or .i64 s x else s
def orB (v : Int) (l : List Int) : Bool := decide (l.foldl (orStep v) 0 = v)
/-- Does the type have its value, or its bytes? -/
def valueB (T : Ty) (h : Hd) : Bool :=
  if T.k = 1 then decide (T.lo ≤ h.v ∧ h.v ≤ T.hi) else
  if T.k = 2 then decide (h.v = T.lo) else
  if T.k = 3 then orB h.v T.vs else
  if T.k = 5 then T.vs.any (fun x => decide (h.v = x)) else
  if T.k = 9 then decide (0 ≤ h.v ∧ h.v < (T.en : Int)) else
  if T.k = 10 then T.ts.any (fun t => decide (strOfNums h.bs = t)) else
  if T.k = 11 then decide (T.lo ≤ (h.bn : Int) ∧ (h.bn : Int) ≤ T.hi) else true
/-- What is wrong with an argument itself. -/
def mis (T : Ty) (h : Hd) : Int :=
  if kindB T h = false then 152 else if countB T h.kn = false then 151 else if h.k ≠ 2 ∧ valueB T h = false then 153 else 0
/-- The types of its kids. -/
def kidTy (T : Ty) (h : Hd) : List Int :=
  if T.k = 6 ∨ T.k = 7 then List.replicate h.kn (T.es.getD 0 0) else if T.k = 8 then T.es else if T.k = 9 then [T.es.getD h.v.toNat 0] else []

/-- The first number but 0 of arguments, each of its type. -/
def chkL (f : Int → Ar → Int) : List Int → List Ar → Int
  | t :: ts, a :: as => if f t a = 0 then chkL f ts as else f t a
  | _, _ => 0
/-- What is wrong with an argument, and with what it is made of. -/
def chk (l : List Ty) : Nat → Int → Ar → Int
  | 0, _, _ => 0
  | d + 1, n, A => match l[n.toNat]? with
    | none => 0
    | some T => if mis T A.h = 0 then chkL (chk l d) (kidTy T A.h) A.ks else mis T A.h
def szL (f : Int → Ar → Int) : List Int → List Ar → Int
  | t :: ts, a :: as => f t a + szL f ts as
  | _, _ => 0
/-- How many bytes it has. -/
def szA (l : List Ty) : Nat → Int → Ar → Int
  | 0, _, _ => 0
  | d + 1, n, A => match l[n.toNat]? with
    | none => 0
    | some T => if T.k = 7 ∨ T.k = 8 ∨ T.k = 9 then szL (szA l d) (kidTy T A.h) A.ks else if T.k = 10 then (A.h.bn : Int) + 1 else if T.k = 11 then (A.h.bn : Int) else T.s

theorem chk_at (l : List Ty) (d n : Nat) (h : n < l.length) (A : Ar) : chk l (d + 1) (n : Int) A = if mis l[n] A.h = 0 then chkL (chk l d) (kidTy l[n] A.h) A.ks else mis l[n] A.h := by
  simp only [chk, Int.toNat_natCast, List.getElem?_eq_getElem h]
theorem szA_at (l : List Ty) (d n : Nat) (h : n < l.length) (A : Ar) : szA l (d + 1) (n : Int) A = if l[n].k = 7 ∨ l[n].k = 8 ∨ l[n].k = 9 then szL (szA l d) (kidTy l[n] A.h) A.ks else if l[n].k = 10 then (A.h.bn : Int) + 1 else if l[n].k = 11 then (A.h.bn : Int) else l[n].s := by
  simp only [szA, Int.toNat_natCast, List.getElem?_eq_getElem h]

/-- Types that may be. -/
def Good (l : List Ty) : Prop := ∀ n, ∀ h : n < l.length, ahead n l[n].es = true ∧ partsN l[n] = true ∧ fitsB l[n] = true
theorem good_of {l : List Ty} (h : (runG [] l).isSome = true) : Good l := by
  intro n hn
  obtain ⟨x, hx⟩ := Option.isSome_iff_exists.1 h
  have e : l = l.take n ++ l.drop n := (List.take_append_drop _ _).symm
  rw [e, runG_app] at hx
  cases hg : runG [] (l.take n) with
  | none => rw [hg] at hx; cases hx
  | some g =>
    rw [hg] at hx
    have hgl := runG_len _ _ _ hg
    have hd : l.drop n = l[n] :: l.drop (n + 1) := List.drop_eq_getElem_cons hn
    rw [hd] at hx
    simp only [Option.bind_some, runG] at hx
    split at hx
    · rename_i ok
      unfold okG at ok
      simp only [Bool.and_eq_true] at ok
      have : g.length = n := by simp at hgl; omega
      rw [this] at ok
      exact ⟨ok.1.1.1, ok.1.1.2, ok.1.2⟩
    · cases hx

theorem kid_ok {l : List Ty} (G : Good l) (n : Nat) (hn : n < l.length) (h : Hd) (hE : l[n].es.length = l[n].en) (hm : mis l[n] h = 0) : (kidTy l[n] h).length = h.kn ∧ ahead n (kidTy l[n] h) = true := by
  obtain ⟨g1, g2, g3⟩ := G n hn
  generalize l[n] = T at *
  unfold mis at hm
  split at hm
  · cases hm
  · rename_i hk
    split at hm
    · cases hm
    · rename_i hc
      split at hm
      · cases hm
      · rename_i hv
        have hk' : kindB T h = true := by simpa using hk
        have hc' : countB T h.kn = true := by simpa using hc
        clear hk hc hm
        unfold kidTy
        by_cases e6 : T.k = 6 ∨ T.k = 7
        · rw [if_pos e6]
          refine ⟨by simp, ?_⟩
          unfold ahead
          rw [List.all_eq_true]
          intro x hx
          obtain ⟨_, rfl⟩ := List.mem_replicate.1 hx
          unfold partsN at g2
          rw [if_pos e6] at g2
          have := ahead_at g1 0 (by rw [hE]; simp at g2; omega)
          simpa using this
        · rw [if_neg e6]
          by_cases e8 : T.k = 8
          · rw [if_pos e8]
            unfold countB at hc'
            simp [e8] at hc'
            exact ⟨by omega, g1⟩
          · rw [if_neg e8]
            by_cases e9 : T.k = 9
            · rw [if_pos e9]
              unfold countB at hc'
              simp [e9] at hc'
              unfold kindB at hk'
              simp [e9] at hk'
              have hv' : valueB T h = true := by
                cases hq : valueB T h with
                | true => rfl
                | false => exact absurd ⟨by omega, hq⟩ hv
              unfold valueB at hv'
              simp [e9] at hv'
              refine ⟨by simp; omega, ?_⟩
              have := ahead_at g1 h.v.toNat (by rw [hE]; omega)
              unfold ahead
              simpa using this
            · rw [if_neg e9]
              refine ⟨?_, rfl⟩
              unfold kindB at hk'
              have e6' : T.k ≠ 6 := fun e => e6 (.inl e)
              have e7' : T.k ≠ 7 := fun e => e6 (.inr e)
              simp only [e6', e7', e8, e9, if_false, or_self] at hk'
              simp only [List.length_nil]
              split at hk'
              · simp at hk'; omega
              · split at hk' <;> simp at hk' <;> omega

end Go.Proofs.Ytkgejeamcgodhaa
