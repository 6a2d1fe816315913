/- Texts of this seat, merged. -/
import Derived.Test.YtbglhmcahnkbfaaGreatGMg28
import Derived.Deep.RegionLaw
import Derived.Test.YtbglhmcahnkbfaaGreatGMg26
import Derived.Test.YtbglhmcahnkbfaaGreatGMg20

/- What mayRename tells. -/
namespace Go.Proofs.YtbglhmcahnkbfaaGreat
open Go.RowKit Go.ChangeMaps Go.MapKept
set_option linter.unusedVariables false
set_option maxRecDepth 20000

end Go.Proofs.YtbglhmcahnkbfaaGreat

/- What Rename does to any system. -/
namespace Go.Proofs.YtbglhmcahnkbfaaGreat
open Go.RowKit Go.ChangeMaps Go.MapKept
set_option linter.unusedVariables false
set_option maxRecDepth 20000

/-- A name that names another node. -/
theorem Rel.rep {S : Sg} {F : Fs} (R : Rel S F) (H : FOk F) (dr : Nat) (s : List UInt8) (n : Nat) (hs : lk (F.P dr).Q s ≠ 0) : Rel (S.rep dr s n) ((F.deln dr s).addn dr s n) := by
  have eQ : ((F.deln dr s).P dr).Q = del s (F.P dr).Q := by rw [deln_Q, if_pos rfl]
  refine ⟨R.d, R.T, fun i hi => ?_, fun i hi => ?_, fun i hi x => ?_⟩
  · have := R.P i hi
    rw [Fs.addn_P, Fs.deln_P]
    exact ⟨this.k, this.l, this.h, this.s, this.b, this.z, this.B⟩
  · show S.L i = _
    rw [Fs.addn_P]
    dsimp only
    split
    · rename_i e; subst e
      rw [len_ins, eQ, len_del (H.srt i) hs]
      exact R.L i hi
    · rename_i e
      rw [deln_Q, if_neg e]; exact R.L i hi
  · show (if i = dr then (fun x => if x = s then n else S.N dr x) else S.N i) x = _
    rw [Fs.addn_P]
    dsimp only
    split
    · rename_i e; subst e
      dsimp only
      rw [eQ, lk_ins (fun x hx => (mem_del.1 hx).2), lk_del, R.N i hi]
      split <;> rfl
    · rename_i e
      rw [deln_Q, if_neg e]; exact R.N i hi x

theorem Wy.of {w : World} {B n c g : Nat} {y : List Nat} (h : w.ownsRow B 3 1 (.slice (some ⟨g, 0, none⟩) n c) n (y.map fun (i : Nat) => Value.int .i64 (i : Int))) (hl : y.length = n) (hp : 0 < n) : Wy w g n c y := by
  obtain ⟨h1, h2⟩ := h
  rcases h2 with ⟨_, h2⟩ | ⟨g', c', cur, e, hb, hg, hnc, hcm, hcs, htake⟩
  · omega
  · injection e with e1 e2 e3
    injection e1 with e1
    injection e1 with e1 _
    subst e1
    subst e3
    refine ⟨fun j hj => ?_, hl, hp, (Array.getElem?_eq_some_iff.1 hg).1, hnc, by simpa [maxLen] using hcm⟩
    have hh : w.ownsRow B 3 1 (.slice (some ⟨g, 0, none⟩) n c) n (y.map fun (i : Nat) => Value.int .i64 (i : Int)) := ⟨h1, .inr ⟨g, c, cur, rfl, hb, hg, hnc, hcm, hcs, htake⟩⟩
    rw [hh.cellAt j (by omega), List.getElem?_map, List.getElem?_eq_getElem (by omega), List.getD_eq_getElem?_getD, List.getElem?_eq_getElem (by omega)]
    rfl

theorem moved_Q {F : Fs} {y y2 : List Nat} {s s2 : List UInt8} {n n2 : Nat} (W2 : Wlk F y2 s2 n2) (h4 : n2 ≠ 0) (q1 : (F.P n2).Q = []) : ((((F.deln (Fs.dirOf y) s).deln (Fs.dirOf y2) s2).addn (Fs.dirOf y2) s2 n).P n2).Q = [] := by
  have hne : n2 ≠ Fs.dirOf y2 := fun e => by
    have := lk_mem (Q := (F.P (Fs.dirOf y2)).Q) (s := s2) (by rw [← W2.nn]; exact h4)
    rw [← e, q1] at this; simp at this
  unfold Fs.addn Fs.nq
  rw [Fs.at_ne _ _ _ _ hne]
  refine List.eq_nil_iff_forall_not_mem.2 (fun x hx => ?_)
  have := deln_sub F _ _ n2 x (deln_sub (F.deln (Fs.dirOf y) s) _ _ n2 x hx)
  rw [q1] at this; simp at this
theorem moved_P {F : Fs} (a : Nat) (s : List UInt8) (b : Nat) (s2 : List UInt8) (n i : Nat) : ((((F.deln a s).deln b s2).addn b s2 n).P i) = { F.P i with Q := ((((F.deln a s).deln b s2).addn b s2 n).P i).Q } := by
  rw [Fs.addn_P, Fs.deln_P, Fs.deln_P]

/-- What a rename comes to, behind both walks. -/
def Fs.ren (F : Fs) (y : List Nat) (s : List UInt8) (n : Nat) (y2 : List Nat) (s2 : List UInt8) (n2 : Nat) : Fs × Int :=
  if n2 = n then (F, 0) else if F.mayR y n y2 n2 ≠ 0 then (F, F.mayR y n y2 n2) else
    if n2 ≠ 0 ∧ dfc F.d 4 = false then ((((F.deln (dirOf y) s).deln (dirOf y2) s2).addn (dirOf y2) s2 n).less n2, 0)
    else (((F.deln (dirOf y) s).deln (dirOf y2) s2).addn (dirOf y2) s2 n, 0)
theorem rename_eq (F : Fs) (l m : List UInt8) : F.rename l m = match toNode (F.walk l) with
    | .error e => (F, e)
    | .ok (y, s, n) => match F.walk m with
      | .error e => (F, e)
      | .ok (y2, s2, n2) => F.ren y s n y2 s2 n2 := by
  unfold Fs.rename
  cases F.walk l with
  | error e => rfl
  | ok q =>
    obtain ⟨y, s, n⟩ := q
    dsimp only [toNode]
    by_cases h0 : n = 0
    · rw [if_pos h0, if_pos h0]
    · rw [if_neg h0, if_neg h0]
      dsimp only
      cases F.walk m with
      | error e => rfl
      | ok q =>
        obtain ⟨y2, s2, n2⟩ := q
        dsimp only [Fs.ren]
        by_cases h1 : n2 = n
        · rw [if_pos h1, if_pos h1]
        rw [if_neg h1, if_neg h1]
        by_cases h2 : n2 ≠ 0 ∧ F.over n n2 ≠ 0
        · have hm : F.mayR y n y2 n2 = F.over n n2 := by unfold Fs.mayR; rw [if_pos h2]
          rw [if_pos h2, if_pos (by rw [hm]; exact h2.2), hm]
        rw [if_neg h2]
        by_cases h3 : n ∈ y2
        · have hm : F.mayR y n y2 n2 = 22 := by unfold Fs.mayR; rw [if_neg h2, if_pos h3]
          rw [if_pos h3, if_pos (by omega), hm]
        rw [if_neg h3]
        by_cases h4 : n2 = 0 ∧ Fs.dirOf y2 ≠ Fs.dirOf y ∧ 6 ≤ (F.P (Fs.dirOf y2)).Q.length
        · have hm : F.mayR y n y2 n2 = 28 := by unfold Fs.mayR; rw [if_neg h2, if_neg h3, if_pos h4]
          rw [if_pos h4, if_pos (by omega), hm]
        · have hm : F.mayR y n y2 n2 = 0 := by unfold Fs.mayR; rw [if_neg h2, if_neg h3, if_neg h4]
          rw [if_neg h4, if_neg (show ¬ F.mayR y n y2 n2 ≠ 0 by omega)]
theorem mayR_zero {F : Fs} {y y2 : List Nat} {n n2 : Nat} (h : F.mayR y n y2 n2 = 0) : (n2 ≠ 0 → F.over n n2 = 0) ∧ n ∉ y2 ∧ ¬ (n2 = 0 ∧ Fs.dirOf y2 ≠ Fs.dirOf y ∧ 6 ≤ (F.P (Fs.dirOf y2)).Q.length) := by
  unfold Fs.mayR at h
  split at h
  · rename_i q; exact absurd h q.2
  rename_i q
  split at h
  · omega
  rename_i q2
  split at h
  · omega
  rename_i q3
  exact ⟨fun h0 => Decidable.not_not.1 (fun q4 => q ⟨h0, q4⟩), q2, q3⟩

end Go.Proofs.YtbglhmcahnkbfaaGreat

/- What Rename does to any system. -/
namespace Go.Proofs.YtbglhmcahnkbfaaGreat
open Go.RowKit Go.ChangeMaps Go.MapKept
set_option linter.unusedVariables false
set_option maxRecDepth 20000

/-- A place boxed behind a walk. -/
theorem box_plc (w2 : World) (gy ny cy : Nat) (nm : ByteArray) (i : Nat) (y : List Nat) (B : Nat) (hown : w2.ownsRow B 3 1 (.slice (some ⟨gy, 0, none⟩) ny cy) ny (y.map fun (i : Nat) => Value.int .i64 (i : Int))) (hl : y.length = ny) (hp : 0 < ny) :
    (w2.alloc (Obj.cells #[.slice (some ⟨gy, 0, none⟩) ny cy, .string nm, .int .i64 (i : Int)] 169)).heap[w2.heap.size]? = some (.cells #[.slice (some ⟨gy, 0, none⟩) ny cy, .string nm, .int .i64 (i : Int)] 169 (0, 0)) ∧
    Wy (w2.alloc (Obj.cells #[.slice (some ⟨gy, 0, none⟩) ny cy, .string nm, .int .i64 (i : Int)] 169)) gy ny cy y :=
  ⟨heap_alloc_new w2 _, (Wy.of hown hl hp).grow (one_new _ _)⟩
theorem walk_fs (p : Nat) (S : Sg) (F : Fs) (t : ByteArray) (w : World) (H : Sy w p S) (R : Rel S F) (hF : FOk F) (hs : t.size ≤ 140737488355328) :
    Calls Tryz.prog 130 #[.pointer (some ⟨p, 0, none⟩), .string t] w fun e w' => ∃ v, e = .returned v ∧ Below w.heap.size w w' ∧ Walked w' w.heap.size (F.walk (bl t)) v := by
  obtain ⟨rk, h1, h2⟩ := R.tree hF
  have := walk_any p S t w H rk h1 h2 hs
  rw [R.walk H t] at this
  exact this

end Go.Proofs.YtbglhmcahnkbfaaGreat

/- What Rename does to any system. -/
namespace Go.Proofs.YtbglhmcahnkbfaaGreat
open Go.RowKit Go.ChangeMaps Go.MapKept
set_option linter.unusedVariables false
set_option maxRecDepth 20000


end Go.Proofs.YtbglhmcahnkbfaaGreat

/- What Rename does to any system. -/
namespace Go.Proofs.YtbglhmcahnkbfaaGreat
open Go.RowKit Go.ChangeMaps Go.MapKept
set_option linter.unusedVariables false
set_option maxRecDepth 20000


end Go.Proofs.YtbglhmcahnkbfaaGreat

/- What Rename does to any system. -/
namespace Go.Proofs.YtbglhmcahnkbfaaGreat
open Go.RowKit Go.ChangeMaps Go.MapKept
set_option linter.unusedVariables false
set_option maxRecDepth 20000


end Go.Proofs.YtbglhmcahnkbfaaGreat
