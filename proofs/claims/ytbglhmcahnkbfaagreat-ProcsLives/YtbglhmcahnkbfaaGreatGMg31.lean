/- Texts of this seat, merged. -/
import Derived.Test.YtbglhmcahnkbfaaGreatGMg27
import Derived.Test.YtbglhmcahnkbfaaGreatGMg29
import Derived.Test.YtbglhmcahnkbfaaGreatGMg30
import Derived.Laws.AppendOwnNone
import Derived.BigQuiet

/- append of bytes, and of noughts, as steps of a region that draws its order; copy into an owned row; other bytes of a file of the document's. -/
namespace Go.Proofs.YtbglhmcahnkbfaaGreat
open Go.RowKit
set_option linter.unusedVariables false
set_option maxRecDepth 20000

theorem step_run {P : Program} {ops : Array Oper} {o : Oper} {a : Act} {w : World} {K : Act → World → Prop} {Q : Exit → Act → World → Prop} {E : Prop}
    (hg : o.guard = none) (d x : Operand) (dT sT : TypeId) (hop : o.op = Op.call { callee := Callee.builtin Builtin.append, args := #[d, x], argTypes := #[dT, sT] })
    (v u : Value) (hd : a.eval d = v) (hx : a.eval x = u) {v' : Value} {w' : World} (hr : (Builtin.append_ #[dT, sT] o.type #[v, u]).run P w = .ok v' w') (hK : K (a.put o.dst v') w') :
    if Region.wanted o (yielded ops a.tmps) = true then Oper.wp P o a w K Q else E := by
  have hw : Region.wanted o (yielded ops a.tmps) = true := by simp [Region.wanted, hg]
  rw [if_pos hw]
  unfold Oper.wp execOp
  simp only [hop, resolve, invoke, builtin, Sem.run_bind, Sem.run_pure, Result.andThen_ok, List.map_toArray, List.map_cons, List.map_nil, hd, hx, hr]
  exact hK

theorem step_bytes {ops : Array Oper} {o : Oper} {a : Act} {w : World} {K : Act → World → Prop} {Q : Exit → Act → World → Prop} {E : Prop} (hg : o.guard = none) (d x : Operand)
    (hop : o.op = Op.call { callee := Callee.builtin Builtin.append, args := #[d, x], argTypes := #[104, 104] }) (hty : o.type = 104)
    (B : Nat) (v : Value) (n : Nat) (xs : List Value) (hd : a.eval d = v) (hown : w.ownsRow B 5 1 v n xs) (hB : B ≤ w.heap.size) (a0 : Option Addr) (m c : Nat) (zs : List Int) (hx : a.eval x = .slice a0 m c) (hsrc : Src w a0 m zs) (hnil : a0 = none → c = 0) (hb : n + m ≤ 1000000) (N : Nat) (hN : N = n + m)
    (hK : ∀ va vc w', Hid (w'.ownsRow B 5 1 (.slice va N vc) N (xs ++ zs.map (Value.int .u8))) → Hid (Below B w w') → K (a.put o.dst (.slice va N vc)) w') :
    if Region.wanted o (yielded ops a.tmps) = true then Oper.wp Tryz.prog o a w K Q else E := by
  subst hN
  obtain ⟨i0, hi0, hz0, hz1, hz2⟩ := info_parts Tryz.cinfo5
  obtain ⟨v', w', h1, h2, h3⟩ := run_append_bytes (P := Tryz.prog) w B 104 o.type i0 Tryz.underlying104 hi0 hz0 hz1 hz2 v n xs hown a0 m c zs hsrc hnil (by omega) hB
  obtain ⟨va, vc, rfl, _⟩ := own_shp h2
  exact step_run hg d x 104 104 hop _ _ hd hx h1 (hK va vc w' (hid h2) (hid ((Below.refl B w).grown h3 hB (fun x hx => (hown.lt x hx).1))))

theorem step_zeros {ops : Array Oper} {o : Oper} {a : Act} {w : World} {K : Act → World → Prop} {Q : Exit → Act → World → Prop} {E : Prop} (hg : o.guard = none) (d x : Operand)
    (hop : o.op = Op.call { callee := Callee.builtin Builtin.append, args := #[d, x], argTypes := #[104, 3] })
    (B : Nat) (v : Value) (n : Nat) (xs : List Value) (hd : a.eval d = v) (hown : w.ownsRow B 5 1 v n xs) (hB : B ≤ w.heap.size) (k : Nat) (K0 : Int) (hk : K0 = (k : Int)) (hx : a.eval x = .int .i64 K0) (hnk : n + k ≤ 4096) (N : Nat) (hN : N = n + k)
    (hK : ∀ va vc w', Hid (w'.ownsRow B 5 1 (.slice va N vc) N (xs ++ List.replicate k (Value.int .u8 0))) → Hid (Below B w w') → K (a.put o.dst (.slice va N vc)) w') :
    if Region.wanted o (yielded ops a.tmps) = true then Oper.wp Tryz.prog o a w K Q else E := by
  subst hN
  obtain ⟨i0, hi0, hz0, hz1, hz2⟩ := info_parts Tryz.cinfo5
  obtain ⟨v', w', h1, h2, h3⟩ := run_append_zeros (P := Tryz.prog) w 104 3 o.type .i64 i0 Tryz.underlying104 Tryz.underlying3 hi0 hz0 hz1 hz2 B v n xs hown hB k hnk K0 hk
  obtain ⟨va, vc, rfl, _⟩ := own_shp h2
  exact step_run hg d x 104 3 hop _ _ hd hx h1 (hK va vc w' (hid h2) (hid h3))

/-- Other bytes at a number. -/
theorem Rf.bytes {w w6 : World} {x g u : Nat} {V : Nat → Value} {F : Fs} (H : Rf w x g u V F) (n : Nat) (hn : n < 17) (c : List Int) (v : Value) (hB : Below w.heap.size w w6) (hO : w6.ownsRow w.heap.size 5 1 v c.length (c.map (Value.int .u8))) :
    RfTo w x g u V (F.ct n c) (w6.setCell ⟨g, n * 6 + 3, none⟩ v) := by
  have hR : Rf (w6.setCell ⟨g, n * 6 + 3, none⟩ v) x g u (setV V (n * 3) v) (F.ct n c) := by
    refine H.put (U := fun _ => False) n hn { F.P n with c := c } _ (fun i hi => setV_ne _ _ _ _ (fun e => hi (by omega))) (Upd.of_below hB) (fun _ _ h => h.elim) 3 [v] (by simp) ?_ ?_ ?_ ?_ ?_ ?_
    · rw [setV_same, setV_ne _ _ _ _ (by omega), setV_ne _ _ _ _ (by omega)]; rfl
    · rw [setV_same]; exact own_mono hO (Nat.zero_le _)
    · rw [setV_ne _ _ _ _ (by omega)]; exact (H.grow hB).rB n hn
    · rw [setV_ne _ _ _ _ (by omega)]; exact (H.grow hB).rQ n hn
    · intro i b hi e
      by_cases h : i = n * 3
      · subst h
        rw [setV_same] at e
        exact .inl (own_ge hO b e)
      · rw [setV_ne _ _ _ _ h] at e
        exact .inr e
    · intro i j b hi hj hb ei ej
      by_cases h : i = n * 3
      · by_cases h' : j = n * 3
        · omega
        · rw [setV_ne _ _ _ _ h'] at ej
          exact absurd (H.foot_lt b (.inr (.inr (.inr ⟨j, by omega, ej⟩)))) (by omega)
      · rw [setV_ne _ _ _ _ h] at ei
        exact absurd (H.foot_lt b (.inr (.inr (.inr ⟨i, by omega, ei⟩)))) (by omega)
  refine ⟨_, hR, (Upd.of_below hB).trans (Upd.setCell (F := RfFoot x g u V) w6 ⟨g, n * 6 + 3, none⟩ v (.inr (.inl rfl))) (fun b _ h => h), fun b hb => ?_⟩
  rcases hb with h | h | h | ⟨i, hi, h⟩
  · exact .inl (.inl h)
  · exact .inl (.inr (.inl h))
  · exact .inl (.inr (.inr (.inl h)))
  · by_cases e : i = n * 3
    · subst e
      rw [setV_same] at h
      exact .inr (own_ge hO b h)
    · rw [setV_ne _ _ _ _ e] at h
      exact .inl (.inr (.inr (.inr ⟨i, hi, h⟩)))
/-- Other blocks at a number. -/
theorem Rf.blks {w w6 : World} {x g u : Nat} {V : Nat → Value} {F : Fs} (H : Rf w x g u V F) (n : Nat) (hn : n < 17) (B : List Nat) (v : Value) (hB : Below w.heap.size w w6) (hO : w6.ownsRow w.heap.size 3 1 v B.length (B.map fun (b : Nat) => Value.int .i64 (b : Int))) :
    RfTo w x g u V (F.at_ n { F.P n with B := B }) (w6.setCell ⟨g, n * 6 + 4, none⟩ v) := by
  have hR : Rf (w6.setCell ⟨g, n * 6 + 4, none⟩ v) x g u (setV V (n * 3 + 1) v) (F.at_ n { F.P n with B := B }) := by
    refine H.put (U := fun _ => False) n hn { F.P n with B := B } _ (fun i hi => setV_ne _ _ _ _ (fun e => hi (by omega))) (Upd.of_below hB) (fun _ _ h => h.elim) 4 [v] (by simp) ?_ ?_ ?_ ?_ ?_ ?_
    · rw [setV_same, setV_ne _ _ _ _ (by omega), setV_ne _ _ _ _ (by omega)]; rfl
    · rw [setV_ne _ _ _ _ (by omega)]; exact (H.grow hB).rb n hn
    · rw [setV_same]; exact own_mono hO (Nat.zero_le _)
    · rw [setV_ne _ _ _ _ (by omega)]; exact (H.grow hB).rQ n hn
    · intro i b hi e
      by_cases h : i = n * 3 + 1
      · subst h
        rw [setV_same] at e
        exact .inl (own_ge hO b e)
      · rw [setV_ne _ _ _ _ h] at e
        exact .inr e
    · intro i j b hi hj hb ei ej
      by_cases h : i = n * 3 + 1
      · by_cases h' : j = n * 3 + 1
        · omega
        · rw [setV_ne _ _ _ _ h'] at ej
          exact absurd (H.foot_lt b (.inr (.inr (.inr ⟨j, by omega, ej⟩)))) (by omega)
      · rw [setV_ne _ _ _ _ h] at ei
        exact absurd (H.foot_lt b (.inr (.inr (.inr ⟨i, by omega, ei⟩)))) (by omega)
  refine ⟨_, hR, (Upd.of_below hB).trans (Upd.setCell (F := RfFoot x g u V) w6 ⟨g, n * 6 + 4, none⟩ v (.inr (.inl rfl))) (fun b _ h => h), fun b hb => ?_⟩
  rcases hb with h | h | h | ⟨i, hi, h⟩
  · exact .inl (.inl h)
  · exact .inl (.inr (.inl h))
  · exact .inl (.inr (.inr (.inl h)))
  · by_cases e : i = n * 3 + 1
    · subst e
      rw [setV_same] at h
      exact .inr (own_ge hO b h)
    · rw [setV_ne _ _ _ _ e] at h
      exact .inl (.inr (.inr (.inr ⟨i, hi, h⟩)))

end Go.Proofs.YtbglhmcahnkbfaaGreat

/- append of numbers that lie somewhere onto an empty slice, as a step of a region that draws its order. -/
namespace Go.Proofs.YtbglhmcahnkbfaaGreat
open Go.RowKit
set_option linter.unusedVariables false
set_option maxRecDepth 20000

/-- Numbers that are read. -/
def SrcN (w : World) (a0 : Option Addr) (m : Nat) (zs : List Nat) : Prop :=
  zs.length = m ∧ (0 < m → ∃ q o, a0 = some ⟨q, o, none⟩ ∧ q < w.heap.size ∧ ∀ j, ∀ h : j < zs.length, w.cell? ⟨q, o + j, none⟩ = some (natV zs[j]))
theorem SrcN.below {w w' : World} {a0 : Option Addr} {m : Nat} {zs : List Nat} (h : SrcN w a0 m zs) (hb : Below w.heap.size w w') : SrcN w' a0 m zs :=
  ⟨h.1, fun hm => by
    obtain ⟨q, o, e, hq, hc⟩ := h.2 hm
    exact ⟨q, o, e, Nat.lt_of_lt_of_le hq hb.size, fun j hj => (hb.cell (p := ⟨q, o + j, none⟩) hq).trans (hc j hj)⟩⟩

theorem step_ints {ops : Array Oper} {o : Oper} {a : Act} {w : World} {K : Act → World → Prop} {Q : Exit → Act → World → Prop} {E : Prop} (hg : o.guard = none) (d x : Operand)
    (hop : o.op = Op.call { callee := Callee.builtin Builtin.append, args := #[d, x], argTypes := #[48, 48] })
    (B : Nat) (v : Value) (hd : a.eval d = v) (hown : w.ownsRow B 3 1 v 0 []) (hB : B ≤ w.heap.size) (a0 : Option Addr) (m c : Nat) (zs : List Nat) (hx : a.eval x = .slice a0 m c) (hsrc : SrcN w a0 m zs) (hnil : a0 = none → c = 0) (hb : m ≤ 1000000)
    (hK : ∀ va vc w', Hid (w'.ownsRow B 3 1 (.slice va m vc) m (zs.map natV)) → Hid (Below B w w') → K (a.put o.dst (.slice va m vc)) w') :
    if Region.wanted o (yielded ops a.tmps) = true then Oper.wp Tryz.prog o a w K Q else E := by
  obtain ⟨i0, hi0, hz0, hz1, hz2⟩ := info_parts infoI3
  cases a0 with
  | none =>
    obtain rfl := hnil rfl
    obtain rfl : m = 0 := by
      rcases Nat.eq_zero_or_pos m with h | h
      · exact h
      · obtain ⟨_, _, e, _⟩ := hsrc.2 h; cases e
    obtain rfl : zs = [] := List.eq_nil_of_length_eq_zero hsrc.1
    have hrun := run_append_owned_none (P := Tryz.prog) (w := w) 0 48 o.type 3 i0 1 Tryz.underlying48 hi0 _ _ _ (own_mono hown (Nat.zero_le _))
    obtain ⟨va, vc, rfl, _⟩ := own_shp hown
    exact step_run hg d x 48 48 hop _ _ hd hx hrun (hK va vc w (hid hown) (hid (Below.refl _ _)))
  | some ad =>
    have hnews : ∀ j u, (zs.map natV)[j]? = some u → w.cell? (ad.add j) = some u := fun j u hj => by
      rw [List.getElem?_map] at hj
      cases hz : zs[j]? with
      | none => rw [hz] at hj; simp at hj
      | some z =>
        rw [hz] at hj
        simp only [Option.map_some, Option.some.injEq] at hj
        obtain ⟨hjl, hje⟩ := List.getElem?_eq_some_iff.1 hz
        obtain ⟨q, o', e, hq, hc⟩ := hsrc.2 (by rw [← hsrc.1]; omega)
        injection e with e
        subst e
        rw [Addr.add_lit, hc j hjl, hje]
        exact congrArg some hj
    obtain ⟨v', w', hr, h2, h3, h4⟩ := run_append_own (P := Tryz.prog) w B 48 o.type 3 i0 _ 1 8 Tryz.underlying48 hi0 hz0 hz1 hz2 rfl (by decide) v 0 [] hown ad m c (zs.map natV) (by rw [List.length_map, hsrc.1]; omega) hnews (fun u hu => by obtain ⟨z, _, rfl⟩ := List.mem_map.1 hu; rfl) (by unfold maxLen; omega) (by omega) hB
    rw [Nat.zero_add, List.nil_append] at h2
    obtain ⟨va, vc, rfl, _⟩ := own_shp h2
    exact step_run hg d x 48 48 hop _ _ hd hx hr (hK va vc w' (hid h2) (hid ((Below.refl B w).grown h3 hB (fun y hy => (hown.lt y hy).1))))

end Go.Proofs.YtbglhmcahnkbfaaGreat

/- What a look of a file system tells, as it lies; a node of it under way. -/
namespace Go.Proofs.YtbglhmcahnkbfaaGreat
open Go.RowKit
set_option linter.unusedVariables false
set_option maxRecDepth 20000

theorem csizeNd : (Tryz.prog.info? 113).map (·.size) = some 8 := by kernel_rfl
theorem infoNd : (Tryz.prog.info? 113).map (fun i => (i.zero, i.size, i.bytes)) = some (some (.agg #[.int .i64 0, .int .i64 0, .int .i64 0, .int .i64 0, .int .i64 0, .slice none 0 0, .slice none 0 0, .slice none 0 0]), 8, 112) := by kernel_rfl
theorem infoStr : (Tryz.prog.info? 9).map (fun i => (i.zero, i.size, i.bytes)) = some (some (.string ⟨#[]⟩), 1, 16) := by kernel_rfl

def nmV (x : List UInt8 × Nat) : Value := .string (bs x.1)
def ndV (x : List UInt8 × Nat) : Value := natV x.2
/-- A node's cells. -/
def lkC (i : Nat) (y : Fn) (vB vN vM : Value) : List Value := [.int .i64 (i : Int), .int .i64 y.k, .int .i64 y.l, .int .i64 ((y.c.length : Int) + (y.Q.length : Int)), .int .i64 y.h, vB, vN, vM]

/-- A node under way: its box, its three lists. -/
structure LkS (w : World) (B p i : Nat) (y : Fn) (a b : Nat) (vB vN vM : Value) : Prop where
  box : w.heap[p]? = some (.cells (lkC i y vB vN vM).toArray 113 (0, 0))
  rB : w.ownsRow 0 3 1 vB y.B.length (y.B.map natV)
  rN : w.ownsRow 0 9 1 vN a ((y.Q.take a).map nmV)
  rM : w.ownsRow 0 3 1 vM b ((y.Q.take b).map ndV)
  np : B ≤ p
  nB : ∀ c, vB.ownBlock = some c → B ≤ c ∧ c ≠ p
  nN : ∀ c, vN.ownBlock = some c → B ≤ c ∧ c ≠ p
  nM : ∀ c, vM.ownBlock = some c → B ≤ c ∧ c ≠ p
  aBN : ∀ c, vB.ownBlock = some c → vN.ownBlock ≠ some c
  aBM : ∀ c, vB.ownBlock = some c → vM.ownBlock ≠ some c
  aNM : ∀ c, vN.ownBlock = some c → vM.ownBlock ≠ some c

section
variable {w W w' : World} {B p i a b : Nat} {y : Fn} {vB vN vM v' : Value}
theorem LkS.lt (h : LkS w B p i y a b vB vN vM) : p < w.heap.size := (Array.getElem?_eq_some_iff.1 h.box).1
theorem LkS.upd {U : Nat → Prop} (h : LkS w B p i y a b vB vN vM) (u : Upd U w w') (hU : ∀ c, c < w.heap.size → B ≤ c → ¬ U c) : LkS w' B p i y a b vB vN vM :=
  ⟨u.heap h.box (hU p h.lt h.np), u.own h.rB (fun c hc => hU c (h.rB.lt c hc).2 (h.nB c hc).1), u.own h.rN (fun c hc => hU c (h.rN.lt c hc).2 (h.nN c hc).1), u.own h.rM (fun c hc => hU c (h.rM.lt c hc).2 (h.nM c hc).1), h.np, h.nB, h.nN, h.nM, h.aBN, h.aBM, h.aNM⟩
theorem LkS.grow (h : LkS w B p i y a b vB vN vM) (u : Below w.heap.size w w') : LkS w' B p i y a b vB vN vM := h.upd (Upd.of_below (F := fun _ => False) u) (fun _ _ _ h => h)

theorem set6 {w : World} {p : Nat} {i : Nat} {y : Fn} {vB vN vM : Value} (h : w.heap[p]? = some (.cells (lkC i y vB vN vM).toArray 113 (0, 0))) (v : Value) : (w.setCell ⟨p, 6, none⟩ v).heap[p]? = some (.cells (lkC i y vB v vM).toArray 113 (0, 0)) := heap_setCell_same w p 6 _ _ v h
theorem set7 {w : World} {p : Nat} {i : Nat} {y : Fn} {vB vN vM : Value} (h : w.heap[p]? = some (.cells (lkC i y vB vN vM).toArray 113 (0, 0))) (v : Value) : (w.setCell ⟨p, 7, none⟩ v).heap[p]? = some (.cells (lkC i y vB vN v).toArray 113 (0, 0)) := heap_setCell_same w p 7 _ _ v h
theorem LkS.name (h : LkS w B p i y a b vB vN vM) (hb : Below w.heap.size w W) (hO : w'.ownsRow 0 9 1 v' (a + 1) ((y.Q.take (a + 1)).map nmV)) (hU : Upd (fun c => vN.ownBlock = some c) W w') (hW : v'.ownBlock = vN.ownBlock ∨ ∀ c, v'.ownBlock = some c → W.heap.size ≤ c) : LkS (w'.setCell ⟨p, 6, none⟩ v') B p i y (a + 1) b vB v' vM := by
  have hs := hb.size
  have hu : Upd (fun c => vN.ownBlock = some c) w w' := (Upd.of_below hb).trans hU (fun b _ h => h)
  have hst : Upd (· = p) w' (w'.setCell ⟨p, 6, none⟩ v') := Upd.setCell w' ⟨p, 6, none⟩ v' rfl
  have hv : ∀ c, v'.ownBlock = some c → B ≤ c ∧ c ≠ p ∧ (vB.ownBlock ≠ some c) ∧ vM.ownBlock ≠ some c := fun c hc => by
    rcases hW with q | q
    · rw [q] at hc
      exact ⟨(h.nN c hc).1, (h.nN c hc).2, fun e => h.aBN c e hc, h.aNM c hc⟩
    · have := q c hc
      have hp := h.lt
      have hnp := h.np
      exact ⟨by omega, by omega, fun e => by have := (h.rB.lt c e).2; omega, fun e => by have := (h.rM.lt c e).2; omega⟩
  exact ⟨set6 (hu.heap h.box (fun e => (h.nN p e).2 rfl)) v', hst.own (hu.own h.rB (fun c hc e => h.aBN c hc e)) (fun c hc => (h.nB c hc).2), hst.own hO (fun c hc => (hv c hc).2.1), hst.own (hu.own h.rM (fun c hc e => h.aNM c e hc)) (fun c hc => (h.nM c hc).2), h.np, h.nB, fun c hc => ⟨(hv c hc).1, (hv c hc).2.1⟩, h.nM,
    fun c hc e => (hv c e).2.2.1 hc, h.aBM, fun c hc => (hv c hc).2.2.2⟩
theorem LkS.node (h : LkS w B p i y a b vB vN vM) (hb : Below w.heap.size w W) (hO : w'.ownsRow 0 3 1 v' (b + 1) ((y.Q.take (b + 1)).map ndV)) (hU : Upd (fun c => vM.ownBlock = some c) W w') (hW : v'.ownBlock = vM.ownBlock ∨ ∀ c, v'.ownBlock = some c → W.heap.size ≤ c) : LkS (w'.setCell ⟨p, 7, none⟩ v') B p i y a (b + 1) vB vN v' := by
  have hs := hb.size
  have hu : Upd (fun c => vM.ownBlock = some c) w w' := (Upd.of_below hb).trans hU (fun b _ h => h)
  have hst : Upd (· = p) w' (w'.setCell ⟨p, 7, none⟩ v') := Upd.setCell w' ⟨p, 7, none⟩ v' rfl
  have hv : ∀ c, v'.ownBlock = some c → B ≤ c ∧ c ≠ p ∧ (vB.ownBlock ≠ some c) ∧ vN.ownBlock ≠ some c := fun c hc => by
    rcases hW with q | q
    · rw [q] at hc
      exact ⟨(h.nM c hc).1, (h.nM c hc).2, fun e => h.aBM c e hc, fun e => h.aNM c e hc⟩
    · have := q c hc
      have hp := h.lt
      have hnp := h.np
      exact ⟨by omega, by omega, fun e => by have := (h.rB.lt c e).2; omega, fun e => by have := (h.rN.lt c e).2; omega⟩
  exact ⟨set7 (hu.heap h.box (fun e => (h.nM p e).2 rfl)) v', hst.own (hu.own h.rB (fun c hc e => h.aBM c hc e)) (fun c hc => (h.nB c hc).2), hst.own (hu.own h.rN (fun c hc e => h.aNM c hc e)) (fun c hc => (h.nN c hc).2), hst.own hO (fun c hc => (hv c hc).2.1), h.np, h.nB, h.nN, fun c hc => ⟨(hv c hc).1, (hv c hc).2.1⟩,
    h.aBN, fun c hc e => (hv c e).2.2.1 hc, fun c hc e => (hv c e).2.2.2 hc⟩
end

/-- A node as it is told, its lists in blocks of which G is true. -/
def LkN (w : World) (G : Nat → Prop) (i : Nat) (y : Fn) (c : List Value) : Prop :=
  ∃ vB vN vM, c = lkC i y vB vN vM ∧ w.ownsRow 0 3 1 vB y.B.length (y.B.map natV) ∧ w.ownsRow 0 9 1 vN y.Q.length (y.Q.map nmV) ∧ w.ownsRow 0 3 1 vM y.Q.length (y.Q.map ndV) ∧ ∀ b, vB.ownBlock = some b ∨ vN.ownBlock = some b ∨ vM.ownBlock = some b → G b
theorem LkN.upd {U G G' : Nat → Prop} {w w' : World} {i : Nat} {y : Fn} {c : List Value} (h : LkN w G i y c) (u : Upd U w w') (hU : ∀ b, b < w.heap.size → G b → ¬ U b) (hG : ∀ b, b < w.heap.size → G b → G' b) : LkN w' G' i y c := by
  obtain ⟨vB, vN, vM, e, h1, h2, h3, h4⟩ := h
  refine ⟨vB, vN, vM, e, u.own h1 (fun b hb => hU b (h1.lt b hb).2 (h4 b (.inl hb))), u.own h2 (fun b hb => hU b (h2.lt b hb).2 (h4 b (.inr (.inl hb)))), u.own h3 (fun b hb => hU b (h3.lt b hb).2 (h4 b (.inr (.inr hb)))), fun b hb => ?_⟩
  refine hG b ?_ (h4 b hb)
  rcases hb with q | q | q
  · exact (h1.lt b q).2
  · exact (h2.lt b q).2
  · exact (h3.lt b q).2
theorem LkS.done {w : World} {B p i n : Nat} {y : Fn} {vB vN vM : Value} (h : LkS w B p i y n n vB vN vM) (hn : n = y.Q.length) : LkN w (fun c => B ≤ c) i y (lkC i y vB vN vM) := by
  subst hn
  have h2 := h.rN
  have h3 := h.rM
  rw [List.take_length] at h2 h3
  refine ⟨vB, vN, vM, rfl, h.rB, h2, h3, fun b hb => ?_⟩
  rcases hb with q | q | q
  · exact (h.nB b q).1
  · exact (h.nN b q).1
  · exact (h.nM b q).1

/-- A list of nodes as they are told. -/
def LkL (w : World) (G : Nat → Prop) (F : Fs) : List Nat → List Value → Prop
  | [], cs => cs = []
  | i :: r, cs => ∃ c d, cs = c ++ d ∧ LkN w G i (F.P i) c ∧ LkL w G F r d
theorem LkL.upd {U G G' : Nat → Prop} {w w' : World} {F : Fs} (u : Upd U w w') (hU : ∀ b, b < w.heap.size → G b → ¬ U b) (hG : ∀ b, b < w.heap.size → G b → G' b) : ∀ {is : List Nat} {cs : List Value}, LkL w G F is cs → LkL w' G' F is cs
  | [], cs, h => h
  | i :: r, cs, ⟨c, d, e, h1, h2⟩ => ⟨c, d, e, h1.upd u hU hG, LkL.upd u hU hG h2⟩
theorem LkL.snoc {w : World} {G : Nat → Prop} {F : Fs} {j : Nat} {c : List Value} (hc : LkN w G j (F.P j) c) : ∀ {is : List Nat} {cs : List Value}, LkL w G F is cs → LkL w G F (is ++ [j]) (cs ++ c)
  | [], cs, h => ⟨c, [], by rw [show cs = [] from h]; simp, hc, rfl⟩
  | i :: r, cs, ⟨c', d, e, h1, h2⟩ => ⟨c', d ++ c, by rw [e, List.append_assoc], h1, LkL.snoc hc h2⟩
theorem LkL.len {w : World} {G : Nat → Prop} {F : Fs} : ∀ {is : List Nat} {cs : List Value}, LkL w G F is cs → cs.length = is.length * 8
  | [], cs, h => by rw [show cs = [] from h]; rfl
  | i :: r, cs, ⟨c, d, e, h1, h2⟩ => by
    obtain ⟨_, _, _, ec, _⟩ := h1
    rw [e, List.length_append, LkL.len h2, ec]
    simp [lkC]; omega

/-- The numbers of the nodes that are there, below a bound. -/
def thr (F : Fs) (n : Nat) : List Nat := (List.range n).filter (fun i => decide ((F.P i).k ≠ 0))
theorem thr_yes {F : Fs} {n : Nat} (h : (F.P n).k ≠ 0) : thr F (n + 1) = thr F n ++ [n] := range_snoc_yes _ n (by simpa using h)
theorem thr_no {F : Fs} {n : Nat} (h : (F.P n).k = 0) : thr F (n + 1) = thr F n := range_snoc_no _ n (by simpa using h)
theorem thr_len (F : Fs) (n : Nat) : (thr F n).length ≤ n := by
  have := List.length_filter_le (fun i => decide ((F.P i).k ≠ 0)) (List.range n)
  rw [List.length_range] at this
  exact this

theorem own_up {w : World} {B e sz n : Nat} {v : Value} {xs : List Value} (h : w.ownsRow 0 e sz v n xs) (hb : ∀ b, v.ownBlock = some b → B ≤ b) : w.ownsRow B e sz v n xs := by
  obtain ⟨h1, h2⟩ := h
  refine ⟨h1, ?_⟩
  rcases h2 with h2 | ⟨g, cap, cur, rfl, _, r⟩
  · exact .inl h2
  · exact .inr ⟨g, cap, cur, rfl, hb g rfl, r⟩
/-- As step_ints, with what turns and where the new row lies. -/
theorem step_ints2 {ops : Array Oper} {o : Oper} {a : Act} {w : World} {K : Act → World → Prop} {Q : Exit → Act → World → Prop} {E : Prop} (hg : o.guard = none) (d x : Operand)
    (hop : o.op = Op.call { callee := Callee.builtin Builtin.append, args := #[d, x], argTypes := #[48, 48] })
    (B : Nat) (v : Value) (hd : a.eval d = v) (hown : w.ownsRow B 3 1 v 0 []) (hB : B ≤ w.heap.size) (a0 : Option Addr) (m c : Nat) (zs : List Nat) (hx : a.eval x = .slice a0 m c) (hsrc : SrcN w a0 m zs) (hnil : a0 = none → c = 0) (hb : m ≤ 1000000)
    (hK : ∀ va vc w', Hid (w'.ownsRow B 3 1 (.slice va m vc) m (zs.map natV)) → Hid (Below B w w') → Hid (Upd (fun y => v.ownBlock = some y) w w') → Hid ((Value.slice va m vc).ownBlock = v.ownBlock ∨ ∀ y, (Value.slice va m vc).ownBlock = some y → w.heap.size ≤ y) → K (a.put o.dst (.slice va m vc)) w') :
    if Region.wanted o (yielded ops a.tmps) = true then Oper.wp Tryz.prog o a w K Q else E := by
  obtain ⟨i0, hi0, hz0, hz1, hz2⟩ := info_parts infoI3
  cases a0 with
  | none =>
    obtain rfl := hnil rfl
    obtain rfl : m = 0 := by
      rcases Nat.eq_zero_or_pos m with h | h
      · exact h
      · obtain ⟨_, _, e, _⟩ := hsrc.2 h; cases e
    obtain rfl : zs = [] := List.eq_nil_of_length_eq_zero hsrc.1
    have hrun := run_append_owned_none (P := Tryz.prog) (w := w) 0 48 o.type 3 i0 1 Tryz.underlying48 hi0 _ _ _ (own_mono hown (Nat.zero_le _))
    obtain ⟨va, vc, rfl, _⟩ := own_shp hown
    exact step_run hg d x 48 48 hop _ _ hd hx hrun (hK va vc w (hid hown) (hid (Below.refl _ _)) (hid (Upd.refl _ _)) (hid (.inl rfl)))
  | some ad =>
    have hnews : ∀ j u, (zs.map natV)[j]? = some u → w.cell? (ad.add j) = some u := fun j u hj => by
      rw [List.getElem?_map] at hj
      cases hz : zs[j]? with
      | none => rw [hz] at hj; simp at hj
      | some z =>
        rw [hz] at hj
        simp only [Option.map_some, Option.some.injEq] at hj
        obtain ⟨hjl, hje⟩ := List.getElem?_eq_some_iff.1 hz
        obtain ⟨q, o', e, hq, hc⟩ := hsrc.2 (by rw [← hsrc.1]; omega)
        injection e with e
        subst e
        rw [Addr.add_lit, hc j hjl, hje]
        exact congrArg some hj
    obtain ⟨v', w', hr, h2, h3, h4, h5⟩ := run_append_where (P := Tryz.prog) w 48 o.type 3 i0 _ 1 8 Tryz.underlying48 hi0 hz0 hz1 hz2 rfl (by decide) v 0 [] (own_mono hown (Nat.zero_le _)) ad m c (zs.map natV) (by rw [List.length_map, hsrc.1]; omega) hnews (fun u hu => by obtain ⟨z, _, rfl⟩ := List.mem_map.1 hu; rfl) (by unfold maxLen; omega) (by omega)
    rw [Nat.zero_add, List.nil_append] at h2
    obtain ⟨va, vc, rfl, _⟩ := own_shp h2
    have hnew : ∀ b, (Value.slice va m vc).ownBlock = some b → B ≤ b := fun b hb => by
      rcases h5 with q | q
      · rw [q] at hb; exact (hown.lt b hb).1
      · exact Nat.le_trans hB (q b hb)
    exact step_run hg d x 48 48 hop _ _ hd hx hr (hK va vc w' (hid (own_up h2 hnew)) (hid ((Below.refl B w).grown h3 hB (fun y hy => (hown.lt y hy).1))) (hid ((Upd.of_grown h3).mono fun y _ hy => hy.symm)) (hid h5))

/-- What Look tells. -/
def LooksP (w : World) (F : Fs) (e : Ending) (w' : World) : Prop := (∃ v cs, e = .returned v ∧ w'.ownsRow 0 113 8 v (thr F 17).length cs ∧ LkL w' (fun b => w.heap.size ≤ b) F (thr F 17) cs) ∧ Below w.heap.size w w'

/-- One node more on a list that is under way. -/
theorem LkL.more {w W w' : World} {B0 : Nat} {F : Fs} {j : Nat} {cs c : List Value} {v v' : Value} {is : List Nat} (h : LkL w (fun b => B0 ≤ b ∧ v.ownBlock ≠ some b) F is cs) (hv : w.ownsRow 0 113 8 v is.length cs) (hb : Below w.heap.size w W) (hc : LkN W (fun b => w.heap.size ≤ b) j (F.P j) c) (hB : B0 ≤ w.heap.size)
    (hU : Upd (fun b => v.ownBlock = some b) W w') (hW : v'.ownBlock = v.ownBlock ∨ ∀ b, v'.ownBlock = some b → W.heap.size ≤ b) : LkL w' (fun b => B0 ≤ b ∧ v'.ownBlock ≠ some b) F (is ++ [j]) (cs ++ c) := by
  have hs := hb.size
  refine LkL.snoc ?_ ?_
  · refine hc.upd hU (fun b hbW hG e => ?_) (fun b hbW hG => ⟨by omega, fun e => ?_⟩)
    · have := (hv.lt b e).2; omega
    · rcases hW with q | q
      · rw [q] at e; have := (hv.lt b e).2; omega
      · have := q b e; omega
  · refine LkL.upd ((Upd.of_below hb).trans hU (fun b _ h => h)) (fun b hbw hG e => hG.2 e) (fun b hbw hG => ⟨hG.1, fun e => ?_⟩) h
    rcases hW with q | q
    · rw [q] at e; exact hG.2 e
    · have := q b e; omega

end Go.Proofs.YtbglhmcahnkbfaaGreat

/- The document's Write. -/
namespace Go.Proofs.YtbglhmcahnkbfaaGreat
open Go.RowKit
set_option linter.unusedVariables false
set_option maxRecDepth 20000

theorem grow_c (F : Fs) (n s : Nat) : ((F.grow n s).P n).c = (F.P n).c := by
  unfold Fs.grow Fs.at_
  simp
end Go.Proofs.YtbglhmcahnkbfaaGreat

/- Two looks of the same file system compare as such. -/
namespace Go.Proofs.YtbglhmcahnkbfaaGreat
open Go.RowKit
set_option linter.unusedVariables false
set_option maxRecDepth 20000

/-- So many values that are read. -/
def Rdv (w : World) (a : Option Addr) (n : Nat) (xs : List Value) : Prop := xs.length = n ∧ (0 < n → ∃ q o, a = some ⟨q, o, none⟩ ∧ q < w.heap.size ∧ ∀ j, ∀ h : j < xs.length, w.cell? ⟨q, o + j, none⟩ = some xs[j])
theorem Rdv.below {w w' : World} {a : Option Addr} {n : Nat} {xs : List Value} (h : Rdv w a n xs) (hb : Below w.heap.size w w') : Rdv w' a n xs :=
  ⟨h.1, fun hn => by
    obtain ⟨q, o, e, hq, hc⟩ := h.2 hn
    exact ⟨q, o, e, Nat.lt_of_lt_of_le hq hb.size, fun j hj => (hb.cell (p := ⟨q, o + j, none⟩) hq).trans (hc j hj)⟩⟩
theorem Rdv.of {w : World} {B e n c : Nat} {a : Option Addr} {xs : List Value} (h : w.ownsRow B e 1 (.slice a n c) n xs) : Rdv w a n xs := by
  refine ⟨by have := h.1; omega, fun hn => ?_⟩
  obtain ⟨a', c', e', _, _, hc⟩ := own_shp h
  injection e' with e1 _ _
  subst e1
  obtain ⟨q, rfl, _, hq, hcc⟩ := hc hn
  exact ⟨q, 0, rfl, hq, fun j hj => by rw [Nat.zero_add]; exact hcc j _ (List.getElem?_eq_getElem hj)⟩

set_option maxHeartbeats 1000000 in
theorem ieq_yes (a b : Option Addr) (n ca cb : Nat) (hn : n ≤ 1000000) (zs : List Int) (w : World) (ha : Rdv w a n (zs.map (Value.int .i64))) (hb : Rdv w b n (zs.map (Value.int .i64))) :
    Calls Tryz.prog 13 #[.slice a n ca, .slice b n cb] w fun e w' => e = .returned (.bool true) ∧ Below w.heap.size w w' := by
  have HA := hid ha
  have HB := hid hb
  clear ha hb
  go_enter Tryz.func13, Tryz.ntmps13
  go_wp2_with fail
  go_loopw [13] (fun v13 wr => ∃ j : Nat, j ≤ n ∧ v13 = .int .i64 (j : Int) ∧ Hid (Below w.heap.size w wr)) (fun v13 _ => n - (intOf v13).toNat)
  case atStart => exact ⟨0, Nat.zero_le _, rfl, hid (Below.refl _ _)⟩
  case round =>
    obtain ⟨j, hj, rfl, HW⟩ := hrel
    by_cases hlt : j < n
    · have hj2 : (j : Int) < (n : Int) := by omega
      have hj0 : (0 : Int) ≤ (j : Int) := by omega
      have hj3 : j + 1 ≤ n := hlt
      have hA := HA.out.below HW.out
      have hB := HB.out.below HW.out
      obtain ⟨q, o, rfl, hq, hcq⟩ := hA.2 (by omega)
      obtain ⟨r, t, rfl, hr, hcr⟩ := hB.2 (by omega)
      have hz : j < (zs.map (Value.int .i64)).length := by rw [hA.1]; exact hlt
      have d1 := hcq j hz
      have d2 := hcr j hz
      rw [List.getElem_map] at d1 d2
      generalize zs[j]'(by rw [List.length_map] at hz; exact hz) = z at d1 d2
      clear hA hB hcq hcr hz hlt
      go_wp2_with fail
      go_quiet (fail)
      go_wp2_with fail
      go_roundw
      case rel => exact ⟨j + 1, hj3, by go_num, hid (below_drewN HW.out _)⟩
      case measure => simp [intOf]; omega
    · have hj2 : ¬ (j : Int) < (n : Int) := by omega
      go_wp2_with fail
      go_ret
      exact ⟨rfl, HW.out⟩

set_option maxHeartbeats 1000000 in
theorem seq_yes (a b : Option Addr) (n ca cb : Nat) (hn : n ≤ 1000000) (ts : List ByteArray) (w : World) (ha : Rdv w a n (ts.map Value.string)) (hb : Rdv w b n (ts.map Value.string)) :
    Calls Tryz.prog 80 #[.slice a n ca, .slice b n cb] w fun e w' => e = .returned (.bool true) ∧ Below w.heap.size w w' := by
  have HA := hid ha
  have HB := hid hb
  clear ha hb
  go_enter Tryz.func80, Tryz.ntmps80
  go_wp2_with fail
  go_loopw [13] (fun v13 wr => ∃ j : Nat, j ≤ n ∧ v13 = .int .i64 (j : Int) ∧ Hid (Below w.heap.size w wr)) (fun v13 _ => n - (intOf v13).toNat)
  case atStart => exact ⟨0, Nat.zero_le _, rfl, hid (Below.refl _ _)⟩
  case round =>
    obtain ⟨j, hj, rfl, HW⟩ := hrel
    by_cases hlt : j < n
    · have hj2 : (j : Int) < (n : Int) := by omega
      have hj0 : (0 : Int) ≤ (j : Int) := by omega
      have hj3 : j + 1 ≤ n := hlt
      have hA := HA.out.below HW.out
      have hB := HB.out.below HW.out
      obtain ⟨q, o, rfl, hq, hcq⟩ := hA.2 (by omega)
      obtain ⟨r, t, rfl, hr, hcr⟩ := hB.2 (by omega)
      have hz : j < (ts.map Value.string).length := by rw [hA.1]; exact hlt
      have d1 := hcq j hz
      have d2 := hcr j hz
      rw [List.getElem_map] at d1 d2
      generalize ts[j]'(by rw [List.length_map] at hz; exact hz) = z at d1 d2
      have hzz : (!(z.toList == z.toList)) = false := by simp
      clear hA hB hcq hcr hz hlt
      go_wp2_with fail
      go_quiet (fail)
      go_wp2_with fail
      go_roundw
      case rel => exact ⟨j + 1, hj3, by go_num, hid (below_drewN HW.out _)⟩
      case measure => simp [intOf]; omega
    · have hj2 : ¬ (j : Int) < (n : Int) := by omega
      go_wp2_with fail
      go_ret
      exact ⟨rfl, HW.out⟩

set_option maxHeartbeats 4000000 in
/-- One node as it is read, told twice. -/
theorem same1_yes (i : Nat) (y : Fn) (c d : List Value) (w : World) (G G' : Nat → Prop) (hc : LkN w G i y c) (hd : LkN w G' i y d) (hB6 : y.B.length ≤ 6) (hQ6 : y.Q.length ≤ 6) :
    Calls Tryz.prog 79 #[.agg c.toArray, .agg d.toArray] w fun e w' => e = .returned (.bool true) ∧ Below w.heap.size w w' := by
  obtain ⟨vB, vN, vM, rfl, h1, h2, h3, _⟩ := hc
  obtain ⟨uB, uN, uM, rfl, g1, g2, g3, _⟩ := hd
  obtain ⟨ba, bc, rfl, _⟩ := own_shp h1
  obtain ⟨na, nc, rfl, _⟩ := own_shp h2
  obtain ⟨ma, mc, rfl, _⟩ := own_shp h3
  obtain ⟨ba', bc', rfl, _⟩ := own_shp g1
  obtain ⟨na', nc', rfl, _⟩ := own_shp g2
  obtain ⟨ma', mc', rfl, _⟩ := own_shp g3
  have e1 : y.B.map natV = (y.B.map fun b : Nat => (b : Int)).map (Value.int .i64) := by rw [List.map_map]; rfl
  have e3 : y.Q.map ndV = (y.Q.map fun x => (x.2 : Int)).map (Value.int .i64) := by rw [List.map_map]; rfl
  have e2 : y.Q.map nmV = (y.Q.map fun x => bs x.1).map Value.string := by rw [List.map_map]; rfl
  have H1 := hid (Rdv.of h1)
  have H2 := hid (Rdv.of h2)
  have H3 := hid (Rdv.of h3)
  have G1 := hid (Rdv.of g1)
  have G2 := hid (Rdv.of g2)
  have G3 := hid (Rdv.of g3)
  rw [e1] at H1 G1
  rw [e2] at H2 G2
  rw [e3] at H3 G3
  unfold lkC
  generalize y.k = k
  generalize y.l = l
  generalize y.h = hh
  generalize (y.c.length : Int) + (y.Q.length : Int) = s
  obtain ⟨LB, gLB⟩ : ∃ LB, LB = y.B.length := ⟨_, rfl⟩
  obtain ⟨LQ, gLQ⟩ : ∃ LQ, LQ = y.Q.length := ⟨_, rfl⟩
  rw [← gLB, ← gLQ]
  rw [← gLB] at H1 G1
  rw [← gLQ] at H2 G2 H3 G3
  have K1 : Hid (∀ W, Below w.heap.size w W → Calls Tryz.prog 13 #[.slice ba LB bc, .slice ba' LB bc'] W fun e w' => e = .returned (.bool true) ∧ Below W.heap.size W w') := hid (fun W hb => ieq_yes ba ba' LB bc bc' (by omega) _ W (H1.out.below hb) (G1.out.below hb))
  have K2 : Hid (∀ W, Below w.heap.size w W → Calls Tryz.prog 80 #[.slice na LQ nc, .slice na' LQ nc'] W fun e w' => e = .returned (.bool true) ∧ Below W.heap.size W w') := hid (fun W hb => seq_yes na na' LQ nc nc' (by omega) _ W (H2.out.below hb) (G2.out.below hb))
  have K3 : Hid (∀ W, Below w.heap.size w W → Calls Tryz.prog 13 #[.slice ma LQ mc, .slice ma' LQ mc'] W fun e w' => e = .returned (.bool true) ∧ Below W.heap.size W w') := hid (fun W hb => ieq_yes ma ma' LQ mc mc' (by omega) _ W (H3.out.below hb) (G3.out.below hb))
  clear h1 h2 h3 g1 g2 g3 e1 e2 e3 H1 H2 H3 G1 G2 G3 gLB gLQ
  go_enter Tryz.func79, Tryz.ntmps79
  go_wp2_with fail
  obtain ⟨W0, gW0⟩ : ∃ W0, W0 = (w.alloc (.cells (List.toArray [.int .i64 (i : Int), .int .i64 k, .int .i64 l, .int .i64 s, .int .i64 hh, .slice ba LB bc, .slice na LQ nc, .slice ma LQ mc]) 113)).alloc (.cells (List.toArray [.int .i64 (i : Int), .int .i64 k, .int .i64 l, .int .i64 s, .int .i64 hh, .slice ba' LB bc', .slice na' LQ nc', .slice ma' LQ mc']) 113) := ⟨_, rfl⟩
  have hb0 : Below w.heap.size w W0 := by rw [gW0]; exact (alloc1 _ _).trans ((alloc1 _ _).mono (by simp))
  have hx : W0.heap[w.heap.size]? = some (.cells (List.toArray [.int .i64 (i : Int), .int .i64 k, .int .i64 l, .int .i64 s, .int .i64 hh, .slice ba LB bc, .slice na LQ nc, .slice ma LQ mc]) 113 (0, 0)) := by rw [gW0]; exact (Below.heap_alloc _ _ _ (by simp)).trans (heap_alloc_new w _)
  have hy : W0.heap[w.heap.size + 1]? = some (.cells (List.toArray [.int .i64 (i : Int), .int .i64 k, .int .i64 l, .int .i64 s, .int .i64 hh, .slice ba' LB bc', .slice na' LQ nc', .slice ma' LQ mc']) 113 (0, 0)) := by
    rw [gW0]
    have := heap_alloc_new (w.alloc (.cells (List.toArray [.int .i64 (i : Int), .int .i64 k, .int .i64 l, .int .i64 s, .int .i64 hh, .slice ba LB bc, .slice na LQ nc, .slice ma LQ mc]) 113)) (.cells (List.toArray [.int .i64 (i : Int), .int .i64 k, .int .i64 l, .int .i64 s, .int .i64 hh, .slice ba' LB bc', .slice na' LQ nc', .slice ma' LQ mc']) 113)
    rwa [show (w.alloc (.cells (List.toArray [.int .i64 (i : Int), .int .i64 k, .int .i64 l, .int .i64 s, .int .i64 hh, .slice ba LB bc, .slice na LQ nc, .slice ma LQ mc]) 113)).heap.size = w.heap.size + 1 by simp] at this
  have hs0 : W0.heap.size = w.heap.size + 2 := by rw [gW0]; simp
  have HX : Hid (∀ W, Below W0.heap.size W0 W → W.cell? ⟨w.heap.size, 6, none⟩ = some (.slice na LQ nc) ∧ W.cell? ⟨w.heap.size, 7, none⟩ = some (.slice ma LQ mc) ∧ W.cell? ⟨w.heap.size + 1, 6, none⟩ = some (.slice na' LQ nc') ∧ W.cell? ⟨w.heap.size + 1, 7, none⟩ = some (.slice ma' LQ mc')) := hid (fun W hb => by
    have h1 := (hb.block w.heap.size (by omega)).trans hx
    have h2 := (hb.block (w.heap.size + 1) (by omega)).trans hy
    exact ⟨cell_list h1 rfl, cell_list h1 rfl, cell_list h2 rfl, cell_list h2 rfl⟩)
  have HB0 := hid hb0
  have GW0 := hid gW0
  clear gW0 hb0 hx hy hs0
  rw [← GW0.out]
  refine (K1.out W0 HB0.out).mono ?_
  rintro e w1 ⟨rfl, hb1⟩
  obtain ⟨z1, z2, z3, z4⟩ := HX.out w1 hb1
  have HB1 := hid hb1
  clear hb1
  go_wp2_with fail
  refine (K2.out w1 (HB0.out.trans (HB1.out.mono HB0.out.size))).mono ?_
  rintro e w2 ⟨rfl, hb2⟩
  have hb2' := HB1.out.trans (hb2.mono HB1.out.size)
  have HB2 := hid hb2'
  clear z1 z2 z3 z4 hb2 hb2'
  obtain ⟨z1, z2, z3, z4⟩ := HX.out w2 HB2.out
  go_wp2_with fail
  refine (K3.out w2 (HB0.out.trans (HB2.out.mono HB0.out.size))).mono ?_
  rintro e w3 ⟨rfl, hb3⟩
  have hb3' := HB0.out.trans ((HB2.out.trans (hb3.mono HB2.out.size)).mono HB0.out.size)
  have HB3 := hid hb3'
  clear z1 z2 z3 z4 hb3 hb3'
  go_wp2_with fail
  go_ret
  exact ⟨rfl, HB3.out⟩

/-- A list of cells at a place. -/
theorem LkL.get {w : World} {G : Nat → Prop} {F : Fs} : ∀ {is : List Nat} {cs : List Value} (h : LkL w G F is cs) (j : Nat) (hj : j < is.length), ∃ c, LkN w G is[j] (F.P is[j]) c ∧ c.length = 8 ∧ ∀ t, t < 8 → cs[j * 8 + t]? = c[t]?
  | [], cs, h, j, hj => by simp at hj
  | i :: r, cs, ⟨c, d, e, h1, h2⟩, j, hj => by
    have hcl : c.length = 8 := by obtain ⟨_, _, _, ec, _⟩ := h1; rw [ec]; rfl
    cases j with
    | zero => exact ⟨c, h1, hcl, fun t ht => by rw [e, Nat.zero_mul, Nat.zero_add, List.getElem?_append_left (by omega)]⟩
    | succ j =>
      obtain ⟨c', h3, h4, h5⟩ := LkL.get h2 j (by simpa using hj)
      refine ⟨c', h3, h4, fun t ht => ?_⟩
      rw [e, List.getElem?_append_right (by rw [hcl]; omega), hcl, show (j + 1) * 8 + t - 8 = j * 8 + t by omega]
      exact h5 t ht

set_option maxHeartbeats 4000000 in
theorem eqf_yes (F : Fs) (hF : FOk F) (is : List Nat) (n : Nat) (hn : is.length = n) (hn2 : n ≤ 17) (a b : Option Addr) (ca cb : Nat) (cs ds : List Value) (w : World) (G G' : Nat → Prop)
    (ha : w.ownsRow 0 113 8 (.slice a n ca) n cs) (hb : w.ownsRow 0 113 8 (.slice b n cb) n ds) (hc : LkL w G F is cs) (hd : LkL w G' F is ds) :
    Calls Tryz.prog 78 #[.slice a n ca, .slice b n cb, .func (.func 79) #[] #[]] w fun e w' => e = .returned (.bool true) ∧ Below w.heap.size w w' := by
  have HC : Hid (∀ j, j < n → ∃ q r, a = some ⟨q, 0, none⟩ ∧ b = some ⟨r, 0, none⟩ ∧ q < w.heap.size ∧ r < w.heap.size ∧ ∃ (i : Nat) (y : Fn) (a1 : Option Addr) (c1 : Nat) (a2 : Option Addr) (c2 : Nat) (a3 : Option Addr) (c3 : Nat) (b1 : Option Addr) (d1 : Nat) (b2 : Option Addr) (d2 : Nat) (b3 : Option Addr) (d3 : Nat), y.B.length ≤ 6 ∧ y.Q.length ≤ 6 ∧ LkN w G i y (lkC i y (.slice a1 y.B.length c1) (.slice a2 y.Q.length c2) (.slice a3 y.Q.length c3)) ∧ LkN w G' i y (lkC i y (.slice b1 y.B.length d1) (.slice b2 y.Q.length d2) (.slice b3 y.Q.length d3)) ∧ (∀ t x, t < 8 → (lkC i y (.slice a1 y.B.length c1) (.slice a2 y.Q.length c2) (.slice a3 y.Q.length c3))[t]? = some x → w.cell? ⟨q, j * 8 + t, none⟩ = some x) ∧ (∀ t x, t < 8 → (lkC i y (.slice b1 y.B.length d1) (.slice b2 y.Q.length d2) (.slice b3 y.Q.length d3))[t]? = some x → w.cell? ⟨r, j * 8 + t, none⟩ = some x)) := hid (fun j hj => by
    obtain ⟨a', c', e, _, _, h1⟩ := own_shp ha
    injection e with e1 _ _
    subst e1
    obtain ⟨q, rfl, _, hq, hqc⟩ := h1 (by omega)
    obtain ⟨b', d', e', _, _, h2⟩ := own_shp hb
    injection e' with e1 _ _
    subst e1
    obtain ⟨r, rfl, _, hr, hrc⟩ := h2 (by omega)
    obtain ⟨c, h3, h4, h5⟩ := hc.get j (by omega)
    obtain ⟨d, h6, h7, h8⟩ := hd.get j (by omega)
    have hB6 : (F.P is[j]).B.length ≤ 6 := by have h9 := (hF.c is[j]).1; rw [hF.B]; unfold Fs.need; omega
    have hQ6 := hF.len is[j]
    have k3 := h3
    have k6 := h6
    obtain ⟨va, vb, vc, ec, g1, g2, g3, _⟩ := k3
    obtain ⟨vd, ve, vf, ed, g4, g5, g6, _⟩ := k6
    obtain ⟨a1, c1, rfl, _⟩ := own_shp g1
    obtain ⟨a2, c2, rfl, _⟩ := own_shp g2
    obtain ⟨a3, c3, rfl, _⟩ := own_shp g3
    obtain ⟨b1, d1, rfl, _⟩ := own_shp g4
    obtain ⟨b2, d2, rfl, _⟩ := own_shp g5
    obtain ⟨b3, d3, rfl, _⟩ := own_shp g6
    rw [ec] at h3 h5
    rw [ed] at h6 h8
    exact ⟨q, r, rfl, rfl, hq, hr, is[j], F.P is[j], a1, c1, a2, c2, a3, c3, b1, d1, b2, d2, b3, d3, hB6, hQ6, h3, h6, fun t x ht hx => hqc _ _ ((h5 t ht).trans hx), fun t x ht hx => hrc _ _ ((h8 t ht).trans hx)⟩)
  clear ha hb hc hd hF hn
  go_enter Tryz.func78, Tryz.ntmps78
  go_wp2_with fail
  go_loopw [17] (fun v17 wr => ∃ j : Nat, j ≤ n ∧ v17 = .int .i64 (j : Int) ∧ Hid (Below w.heap.size w wr)) (fun v17 _ => n - (intOf v17).toNat)
  case atStart => exact ⟨0, Nat.zero_le _, rfl, hid (Below.refl _ _)⟩
  case round =>
    obtain ⟨j, hj, rfl, HW⟩ := hrel
    by_cases hlt : j < n
    · have hj2 : (j : Int) < (n : Int) := by omega
      have hj0 : (0 : Int) ≤ (j : Int) := by omega
      have hj3 : j + 1 ≤ n := hlt
      obtain ⟨q, r, rfl, rfl, hq, hr, i, y, a1, c1, a2, c2, a3, c3, b1, d1, b2, d2, b3, d3, hB6, hQ6, h3, h6, hcq, hcr⟩ := HC.out j hlt
      have hs := HW.out.size
      have z0 := (HW.out.cell (p := ⟨q, j * 8 + 0, none⟩) hq).trans (hcq 0 _ (by omega) rfl)
      have x0 := (HW.out.cell (p := ⟨r, j * 8 + 0, none⟩) hr).trans (hcr 0 _ (by omega) rfl)
      have z1 := (HW.out.cell (p := ⟨q, j * 8 + 1, none⟩) hq).trans (hcq 1 _ (by omega) rfl)
      have x1 := (HW.out.cell (p := ⟨r, j * 8 + 1, none⟩) hr).trans (hcr 1 _ (by omega) rfl)
      have z2 := (HW.out.cell (p := ⟨q, j * 8 + 2, none⟩) hq).trans (hcq 2 _ (by omega) rfl)
      have x2 := (HW.out.cell (p := ⟨r, j * 8 + 2, none⟩) hr).trans (hcr 2 _ (by omega) rfl)
      have z3 := (HW.out.cell (p := ⟨q, j * 8 + 3, none⟩) hq).trans (hcq 3 _ (by omega) rfl)
      have x3 := (HW.out.cell (p := ⟨r, j * 8 + 3, none⟩) hr).trans (hcr 3 _ (by omega) rfl)
      have z4 := (HW.out.cell (p := ⟨q, j * 8 + 4, none⟩) hq).trans (hcq 4 _ (by omega) rfl)
      have x4 := (HW.out.cell (p := ⟨r, j * 8 + 4, none⟩) hr).trans (hcr 4 _ (by omega) rfl)
      have z5 := (HW.out.cell (p := ⟨q, j * 8 + 5, none⟩) hq).trans (hcq 5 _ (by omega) rfl)
      have x5 := (HW.out.cell (p := ⟨r, j * 8 + 5, none⟩) hr).trans (hcr 5 _ (by omega) rfl)
      have z6 := (HW.out.cell (p := ⟨q, j * 8 + 6, none⟩) hq).trans (hcq 6 _ (by omega) rfl)
      have x6 := (HW.out.cell (p := ⟨r, j * 8 + 6, none⟩) hr).trans (hcr 6 _ (by omega) rfl)
      have z7 := (HW.out.cell (p := ⟨q, j * 8 + 7, none⟩) hq).trans (hcq 7 _ (by omega) rfl)
      have x7 := (HW.out.cell (p := ⟨r, j * 8 + 7, none⟩) hr).trans (hcr 7 _ (by omega) rfl)
      rw [Nat.add_zero] at z0 x0
      have KS : Hid (∀ W, Below w.heap.size w W → Calls Tryz.prog 79 #[.agg (lkC i y (.slice a1 y.B.length c1) (.slice a2 y.Q.length c2) (.slice a3 y.Q.length c3)).toArray, .agg (lkC i y (.slice b1 y.B.length d1) (.slice b2 y.Q.length d2) (.slice b3 y.Q.length d3)).toArray] W fun e w' => e = .returned (.bool true) ∧ Below W.heap.size W w') := hid (fun W hb => same1_yes i y _ _ W G G' (h3.upd (Upd.of_below (F := fun _ => False) hb) (fun _ _ _ h => h) (fun _ _ h => h)) (h6.upd (Upd.of_below (F := fun _ => False) hb) (fun _ _ _ h => h) (fun _ _ h => h)) hB6 hQ6)
      unfold lkC at KS
      generalize y.k = k at KS z1 x1
      generalize y.l = l at KS z2 x2
      generalize (y.c.length : Int) + (y.Q.length : Int) = s at KS z3 x3
      generalize y.h = hh at KS z4 x4
      generalize y.B.length = LB at KS z5 x5
      generalize y.Q.length = LQ at KS z6 x6 z7 x7
      have hb2 : Below w.heap.size w ((wr.alloc (.cells (List.toArray [.int .i64 (i : Int), .int .i64 k, .int .i64 l, .int .i64 s, .int .i64 hh, .slice a1 LB c1, .slice a2 LQ c2, .slice a3 LQ c3]) 113)).alloc (.cells (List.toArray [.int .i64 (i : Int), .int .i64 k, .int .i64 l, .int .i64 s, .int .i64 hh, .slice b1 LB d1, .slice b2 LQ d2, .slice b3 LQ d3]) 113)) := HW.out.trans (((alloc1 _ _).trans ((alloc1 _ _).mono (by simp))).mono hs)
      have HB2 := hid hb2
      have k1 := hid (KS.out _ hb2)
      have q1 : q < wr.heap.size := Nat.lt_of_lt_of_le hq hs
      have r1 : r < wr.heap.size := Nat.lt_of_lt_of_le hr hs
      have q2 : q < wr.heap.size + 1 := by omega
      have r2 : r < wr.heap.size + 1 := by omega
      clear hb2 KS h3 h6 hcq hcr hB6 hQ6 hs hq hr hlt
      go_wp2_with fail
      refine k1.out.mono ?_
      rintro e w3 ⟨rfl, hb3⟩
      have HB3 := hid (HB2.out.trans (hb3.mono HB2.out.size))
      clear k1 hb3
      go_wp2_with fail
      go_roundw
      case rel => exact ⟨j + 1, hj3, by go_num, HB3⟩
      case measure => simp [intOf]; omega
    · have hj2 : ¬ (j : Int) < (n : Int) := by omega
      go_wp2_with fail
      go_ret
      exact ⟨rfl, HW.out⟩


theorem samenodes_yes (F : Fs) (hF : FOk F) (is : List Nat) (n : Nat) (hn : is.length = n) (hn2 : n ≤ 17) (a b : Option Addr) (ca cb : Nat) (cs ds : List Value) (w : World) (G G' : Nat → Prop)
    (ha : w.ownsRow 0 113 8 (.slice a n ca) n cs) (hb : w.ownsRow 0 113 8 (.slice b n cb) n ds) (hc : LkL w G F is cs) (hd : LkL w G' F is ds) :
    Calls Tryz.prog 44 #[.slice a n ca, .slice b n cb] w fun e w' => e = .returned (.bool true) ∧ Below w.heap.size w w' := by
  have k1 := hid (eqf_yes F hF is n hn hn2 a b ca cb cs ds w G G' ha hb hc hd)
  clear ha hb hc hd hF hn
  go_enter Tryz.func44, Tryz.ntmps44
  go_wp2_with fail
  refine k1.out.mono ?_
  rintro e w1 ⟨rfl, hb⟩
  have HB := hid hb
  clear k1 hb
  go_wp2_with fail
  go_ret
  exact ⟨rfl, HB.out⟩

end Go.Proofs.YtbglhmcahnkbfaaGreat
