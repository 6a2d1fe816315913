/- Texts of this seat, merged. -/
import Derived.Test.YtliekndkjjaldaaGreatNMg24
import Derived.Test.YtliekndkjjaldaaGreatNMg18
import Derived.Test.YtliekndkjjaldaaGreatNMg7
import Derived.Test.YtliekndkjjaldaaGreatNMg16

/- Both systems with what else lies beside them, through a call of the law's 'does'. -/
namespace Go.Proofs.YtliekndkjjaldaaGreat
open Go.RowKit Go.ChangeMaps Go.MapKept
set_option linter.unusedVariables false
set_option maxRecDepth 20000

/-- wF is a world, blocks kb .. of it are kept; the pair has Fp and Fd in w, which is behind wF. -/
structure St (wF : World) (B kb : Nat) (G : Nat → Prop) (pp p x g u : Nat) (V : Nat → Value) (Fp Fd : Fs) (w : World) : Prop where
  pr : Pr w B G pp p x g u V Fp Fd
  up : Upd (fun b => B ≤ b ∧ b < kb) wF w
  ot : ∀ b, kb ≤ b → b < wF.heap.size → Oth w G pp x g u V b

section
variable {wF w w' : World} {B kb : Nat} {G : Nat → Prop} {pp p x g u : Nat} {V : Nat → Value} {Fp Fd F' : Fs}
theorem St.prog (h : St wF B kb G pp p x g u V Fp Fd w) (t : PfTo w p F' G w') : ∃ G', St wF B kb G' pp p x g u V F' Fd w' := by
  obtain ⟨a, b, c⟩ := h.pr.prog t
  exact ⟨_, a, h.up.trans t.2 (fun b hb hG => ⟨(h.pr.gG b hG).1, Nat.lt_of_not_le fun hk => (h.ot b hk hb).2.2.1 hG⟩), fun b hk hb => (c b (h.ot b hk hb)).2⟩
theorem St.doc (h : St wF B kb G pp p x g u V Fp Fd w) (t : RfTo w x g u V F' w') : ∃ V', St wF B kb G pp p x g u V' Fp F' w' := by
  obtain ⟨V', a, b, c⟩ := h.pr.doc t
  obtain ⟨_, _, t2, _⟩ := t
  exact ⟨V', a, h.up.trans t2 (fun b hb hG => ⟨(h.pr.gR b hG).1, Nat.lt_of_not_le fun hk => (h.ot b hk hb).2.2.2 hG⟩), fun b hk hb => (c b (h.ot b hk hb)).2⟩
theorem St.grow (h : St wF B kb G pp p x g u V Fp Fd w) (q : Below w.heap.size w w') : St wF B kb G pp p x g u V Fp Fd w' :=
  ⟨h.pr.grow q, h.up.trans (Upd.of_below (F := fun _ => False) q) (fun _ _ h => h.elim), fun b hk hb => (h.ot b hk hb).grow q⟩
theorem St.drew (h : St wF B kb G pp p x g u V Fp Fd w) : St wF B kb G pp p x g u V Fp Fd w.drew := h.grow (Below.refl _ _).drew
/-- What is neither system's turns. -/
theorem St.upd {U : Nat → Prop} (h : St wF B kb G pp p x g u V Fp Fd w) (q : Upd U w w') (hU : ∀ b, b < w.heap.size → U b → Oth w G pp x g u V b) (hB : ∀ b, U b → wF.heap.size ≤ b) : St wF B kb G pp p x g u V Fp Fd w' :=
  ⟨h.pr.upd q hU, h.up.trans q (fun b hb hb2 => absurd (hB b hb2) (Nat.not_le_of_lt hb)), fun b hk hb => ⟨Nat.lt_of_lt_of_le (h.ot b hk hb).1 q.size, (h.ot b hk hb).2⟩⟩
theorem St.c0 (h : St wF B kb G pp p x g u V Fp Fd w) : w.cell? ⟨pp, 0, none⟩ = some (.pointer (some ⟨p, 0, none⟩)) := h.pr.c0
theorem St.c1 (h : St wF B kb G pp p x g u V Fp Fd w) : w.cell? ⟨pp, 1, none⟩ = some (.pointer (some ⟨x, 0, none⟩)) := h.pr.c1
theorem St.k (h : St wF B kb G pp p x g u V Fp Fd w) {b o : Nat} {v : Value} (hk : kb ≤ b) (hb : b < wF.heap.size) (hc : wF.cell? ⟨b, o, none⟩ = some v) : w.cell? ⟨b, o, none⟩ = some v :=
  (World.cell?_of_block (a := ⟨b, o, none⟩) (h.up.block b hb (fun q => absurd q.2 (Nat.not_lt_of_le hk)))).trans hc
end

/-- What 'does' leaves. -/
def DoP (w : World) (B : Nat) (pp p x g u : Nat) (m : Int) (F : Fs) (e : Ending) (w' : World) : Prop :=
  e = .returned (.bool true) ∧ ∃ G' V' F', Pr w' B G' pp p x g u V' F' F' ∧ FOk F' ∧ LB F' (m + 1) ∧ (FSh F → FSh F') ∧ Below B w w'

theorem St.done {wF w w' : World} {B kb : Nat} {G : Nat → Prop} {pp p x g u : Nat} {V : Nat → Value} {F F' : Fs} {m : Int} (h : St wF B kb G pp p x g u V F' F' w') (hb : Below w.heap.size w wF) (hB : B ≤ w.heap.size) (hF : FOk F' ∧ LB F' (m + 1) ∧ (FSh F → FSh F')) : DoP w B pp p x g u m F (.returned (.bool true)) w' :=
  ⟨rfl, G, V, F', h.pr, hF.1, hF.2.1, hF.2.2, (hb.mono hB).trans (h.up.below (Nat.le_trans hB hb.size) (fun _ h => h.1))⟩

theorem clone_opt (ab : Option Addr) (lb cb : Nat) (zs : List Int) (w : World) (hs : Src w ab lb zs) (hr : lb ≤ 140737488355328) (hn : ab = none → lb = 0 ∧ cb = 0) :
    Calls Tryz.prog 18 #[.slice ab lb cb] w fun e w' => ∃ (av : Option Addr) (cv : Nat), e = .returned (.slice av lb cv) ∧ w'.ownsRow w.heap.size 5 1 (.slice av lb cv) lb (zs.map (Value.int .u8)) ∧ Below w.heap.size w w' := by
  cases ab with
  | none =>
    obtain ⟨rfl, rfl⟩ := hn rfl
    have hz : zs = [] := List.eq_nil_of_length_eq_zero hs.1
    subst hz
    refine (clone_nil 0 0 w).mono ?_
    rintro e w' ⟨rfl, rfl⟩
    exact ⟨none, 0, rfl, World.ownsRow_nil _ _ _ _, Below.refl _ _⟩
  | some a =>
    refine (clone_any a lb cb zs w hs hr).mono ?_
    rintro e w' ⟨g, c, rfl, h1, h2⟩
    exact ⟨some ⟨g, 0, none⟩, c, rfl, h1, h2⟩

theorem pread2 (p : Nat) (F : Fs) (G : Nat → Prop) (w : World) (H : Pf w p F G) (hF : FOk F) (n off cnt : Int) (ho : off ≤ 9223372036854775807) (hc : cnt ≤ 9223372036854775807) :
    Calls Tryz.prog 31 #[.pointer (some ⟨p, 0, none⟩), .int .i64 n, .int .i64 off, .int .i64 cnt] w fun e w' => (∃ v, e = .returned (.tuple #[v, .int .i64 (F.read n off cnt).2]) ∧ w'.ownsRow w.heap.size 5 1 v (F.read n off cnt).1.length ((F.read n off cnt).1.map (Value.int .u8))) ∧ Below w.heap.size w w' := by
  have HP := H
  obtain ⟨S, HS, R, hG⟩ := H
  by_cases hf : F.file n ≠ 0
  · have e : F.read n off cnt = ([], F.file n) := by unfold Fs.read; rw [if_pos hf]
    rw [e]
    refine (read_err p S F w HS R n off cnt _ hf rfl).mono ?_
    rintro e w' ⟨rfl, rfl⟩
    exact ⟨⟨_, rfl, World.ownsRow_nil _ _ _ _⟩, Below.refl _ _⟩
  have hf0 := Decidable.not_not.1 hf
  obtain ⟨fk, f1, f2⟩ := Fs.file_ok hF hf0
  obtain ⟨i, rfl⟩ : ∃ i : Nat, n = (i : Int) := ⟨n.toNat, by omega⟩
  have hi : i < 17 := by omega
  have fk : (F.P i).k = 1 := fk
  have r := R.P i hi
  have hk : (S.P i).k = 1 := r.k.trans fk
  by_cases h0 : off < 0 ∨ cnt < 0
  · have e : F.read (i : Int) off cnt = ([], 22) := by unfold Fs.read; rw [if_neg hf, if_pos h0]
    rw [e]
    refine (read_neg p S w HS i (by omega) hi hk off cnt h0).mono ?_
    rintro e w' ⟨rfl, rfl⟩
    exact ⟨⟨_, rfl, World.ownsRow_nil _ _ _ _⟩, Below.refl _ _⟩
  obtain ⟨o, rfl⟩ : ∃ o : Nat, off = (o : Int) := ⟨off.toNat, by omega⟩
  obtain ⟨m, rfl⟩ : ∃ m : Nat, cnt = (m : Int) := ⟨cnt.toNat, by omega⟩
  have e : F.read (i : Int) (o : Int) (m : Int) = (((F.P i).c.drop o).take m, 0) := by unfold Fs.read; rw [if_neg hf, if_neg h0]; rfl
  rw [e]
  have hcl := (hF.c i).1
  refine (read_ok p S w i (by omega) hi (S.P i) S.T (by rw [S.bl_self]; exact HS) hk (by rw [r.s]; exact hcl) o m (by omega) (by omega)).mono ?_
  rintro e w' ⟨⟨g, c, rfl, h⟩, hb⟩
  have er : rd (S.P i) o m = ((F.P i).c.drop o).take m := by unfold rd; rw [r.b]
  have el : min m ((S.P i).s - o) = (((F.P i).c.drop o).take m).length := by rw [List.length_take, List.length_drop, r.s]
  rw [er, el] at h
  rw [el]
  exact ⟨⟨_, rfl, h⟩, hb⟩

set_option maxHeartbeats 1000000 in
theorem spoil_any (v : Value) (n c : Nat) (ad : Option Addr) (xs : List Int) (w : World) (B : Nat) (hv : v = .slice ad n c) (ho : w.ownsRow B 5 1 v n (xs.map (Value.int .u8))) (hn : n ≤ 140737488355328) :
    Calls Tryz.prog 34 #[v] w fun e w' => e = .returned (.tuple #[]) ∧ Upd (fun x => v.ownBlock = some x) w w' := by
  rcases ho.2 with ⟨h1, h2⟩ | ⟨g, cap, cur, h1, _⟩
  · subst h1
    subst h2
    clear hv
    go_enter Tryz.func34, Tryz.ntmps34
    go_wp2_with fail
    go_loop [5] (fun s => s = .int .i64 0) (fun _ => 0)
    case atStart => rfl
    case round =>
      subst hrel
      go_wp2_with fail
      go_end0
      exact ⟨rfl, Upd.refl _ _⟩
  · subst h1
    have HO := hid ho
    clear ho hv
    go_enter Tryz.func34, Tryz.ntmps34
    go_wp2_with fail
    go_loopw [5] (fun s wr => ∃ (i : Nat) (ys : List Int), i ≤ n ∧ s = .int .i64 i ∧ Hid (wr.ownsRow B 5 1 (.slice (some ⟨g, 0, none⟩) n cap) n (ys.map (Value.int .u8))) ∧ Upd (fun x => (Value.slice (some ⟨g, 0, none⟩) n cap).ownBlock = some x) w wr) (fun s _ => n - (intOf s).toNat)
    case atStart => exact ⟨0, xs, by omega, rfl, HO, Upd.refl _ _⟩
    case round =>
      obtain ⟨i, ys, hi, rfl, HW, hu⟩ := hrel
      by_cases h : i < n
      · have hl : ys.length = n := by have := HW.out.1; simpa using this
        have hcell : wr.cell? ⟨g, i, none⟩ = some (.int .u8 (ys.getD i 0)) := by
          rw [HW.out.cellAt i (by omega), List.getElem?_map, List.getD_eq_getElem?_getD, List.getElem?_eq_getElem (by omega)]; rfl
        have hfr : wr.frozen? ⟨g, i, none⟩ = false := HW.out.frozenAt i
        obtain ⟨z, gz⟩ : ∃ z, z = ys.getD i 0 := ⟨_, rfl⟩
        rw [← gz] at hcell
        have HN : Hid (∀ y, (wr.setCell ⟨g, i, none⟩ (.int .u8 y)).ownsRow B 5 1 (.slice (some ⟨g, 0, none⟩) n cap) n ((ys.set i y).map (Value.int .u8))) := by
          refine hid (fun y => ?_)
          rw [List.map_set]
          exact (HW.out.stored i (.int .u8 y)).1
        clear gz
        go_wp2_with fail
        go_roundw
        case rel => exact ⟨i + 1, _, by omega, by go_num, hid (HN.out _), hu.trans (Upd.setCell (F := fun x => (Value.slice (some ⟨g, 0, none⟩) n cap).ownBlock = some x) wr ⟨g, i, none⟩ _ rfl) (fun _ _ h => h)⟩
        case measure => simp [intOf]; omega
      · obtain rfl : i = n := by omega
        go_wp2_with fail
        go_end0
        exact ⟨rfl, hu⟩

theorem own_src {w : World} {B : Nat} {a : Option Addr} {n c : Nat} {zs : List Int} (h : w.ownsRow B 5 1 (.slice a n c) n (zs.map (Value.int .u8))) : Src w a n zs := by
  have hl : zs.length = n := by have := h.1; simpa using this
  rcases h.2 with ⟨e, h0⟩ | ⟨g, cap, cur, e, rest⟩
  · subst h0
    exact ⟨hl, fun h => absurd h (Nat.lt_irrefl 0)⟩
  · injection e with e1 e2 e3
    subst e1
    exact Src.own h

theorem Src.updL {F : Nat → Prop} {w w' : World} {a : Option Addr} {n : Nat} {zs : List Int} (u : Upd F w w') (h : Src w a n zs) (hF : 0 < n → ∀ b o, a = some ⟨b, o, none⟩ → ¬ F b) : Src w' a n zs :=
  ⟨h.1, fun hl => by
    obtain ⟨b, o, e, hlt, hc⟩ := h.2 hl
    exact ⟨b, o, e, Nat.lt_of_lt_of_le hlt u.size, fun j hj => (World.cell?_of_block (a := ⟨b, o + j, none⟩) (u.block b hlt (hF hl b o e))).trans (hc j hj)⟩⟩

theorem own_at {w : World} {B n c : Nat} {a : Option Addr} {xs : List Value} (h : w.ownsRow B 5 1 (.slice a n c) n xs) : ∀ b o, a = some ⟨b, o, none⟩ → B ≤ b ∧ b < w.heap.size := by
  intro b o e
  rcases h.2 with ⟨e1, _⟩ | ⟨g, cap, cur, e1, h2, h3, _⟩
  · injection e1 with e2
    rw [e2] at e
    cases e
  · injection e1 with e2
    rw [e2] at e
    injection e with e
    injection e with e3 e4
    exact ⟨e3 ▸ h2, e3 ▸ (Array.getElem?_eq_some_iff.1 h3).1⟩

theorem read_len {F : Fs} (H : FOk F) (n off cnt : Int) : (F.read n off cnt).1.length ≤ 96 := by
  unfold Fs.read
  split
  · exact Nat.zero_le _
  · split
    · exact Nat.zero_le _
    · have := (H.c n.toNat).1
      rw [List.length_take, List.length_drop]
      omega

/-- A row of the call's own is written into at the end. -/
theorem St.doneU {wF w w1 w' : World} {B kb : Nat} {U G : Nat → Prop} {pp p x g u : Nat} {V : Nat → Value} {F F' : Fs} {m : Int} (h : St wF B kb G pp p x g u V F' F' w1) (q : Upd U w1 w') (hU : ∀ b, b < w1.heap.size → U b → Oth w1 G pp x g u V b) (hUB : ∀ b, U b → B ≤ b) (hb : Below w.heap.size w wF) (hB : B ≤ w.heap.size) (hF : FOk F' ∧ LB F' (m + 1) ∧ (FSh F → FSh F')) : DoP w B pp p x g u m F (.returned (.bool true)) w' :=
  ⟨rfl, G, V, F', h.pr.upd q hU, hF.1, hF.2.1, hF.2.2, ((hb.mono hB).trans (h.up.below (Nat.le_trans hB hb.size) (fun _ h => h.1))).trans (q.below (Nat.le_trans hB (Nat.le_trans hb.size h.up.size)) hUB)⟩

/-- What is new behind a world is neither system's. -/
theorem St.new {wF w w' : World} {B kb : Nat} {G : Nat → Prop} {pp p x g u : Nat} {V : Nat → Value} {Fp Fd : Fs} (h : St wF B kb G pp p x g u V Fp Fd w) {b : Nat} (h1 : w.heap.size ≤ b) (h2 : b < w'.heap.size) : Oth w' G pp x g u V b :=
  ⟨h2, fun e => by have := h.pr.lt; omega, fun hG => by have := (h.pr.gG b hG).2.1; omega, fun hR => by have := h.pr.rf.foot_lt b hR; omega⟩

end Go.Proofs.YtliekndkjjaldaaGreat

/- A new node of either kind. -/
namespace Go.Proofs.YtliekndkjjaldaaGreat
open Go.RowKit Go.ChangeMaps Go.MapKept
set_option linter.unusedVariables false
set_option maxRecDepth 20000

/-- A new node at a number. -/
def Sg.new (S : Sg) (f : Nat) (k : Int) (mo : Option Nat) : Sg := { S with P := updN S.P f (newNd k mo), L := fun i => if i = f then 0 else S.L i, N := fun i => if i = f then (fun _ => 0) else S.N i }

theorem Sy.new {w : World} {p : Nat} {S : Sg} (h : Sy w p S) (f : Nat) (h1 : f < 17) (h2 : f ≠ 0) (h3 : (S.P f).k = 0) (k : Int) (mo : Option Nat) (hk : k = 2 → mo.isSome = true) (hm : ∀ b, mo = some b → w.heap[b]? = some (.map #[] 0) ∧ b ≠ p ∧ ∀ i, i < 17 → (S.P i).m ≠ some b) : Sy (w.setCells p (1 + f * 107) (nodeC k 1 (.map mo))) p (S.new f k mo) := by
  obtain ⟨C, hb, hc⟩ := h.blk
  have hf1 : f ≠ 1 := fun e => by rw [e, h.root] at h3; omega
  have hl := hc.len
  have hln := nodeC_len k 1 (.map mo)
  have hs : 1 + f * 107 + (nodeC k 1 (.map mo)).length ≤ C.length := by rw [hl, hln]; omega
  have u := upd_setCells p (nodeC k 1 (.map mo)) (1 + f * 107) w
  refine ⟨⟨_, heap_setCells p 58 (nodeC k 1 (.map mo)) _ w C hb hs, hc.put f h1 (newNd k mo) (newNd_ok _ _) (by rw [length_splice _ _ _ hs, hl]) (fun j hj => getElem?_splice_out _ _ _ _ hs (by rw [hln]; omega)) (fun j hj => by rw [ndC_new]; exact getElem?_splice_in C _ (1 + f * 107) j hs (by rw [hln]; exact hj))⟩, ?_, ?_, ?_, ?_, ?_, ?_, ?_, ?_⟩
  · intro i hi
    by_cases e : i = f
    · subst e
      show Nms _ (updN S.P i (newNd k mo) i).m (if i = i then 0 else S.L i) (if i = i then (fun _ => 0) else S.N i)
      rw [updN_same, if_pos rfl, if_pos rfl]
      show Nms _ mo 0 (fun _ => 0)
      cases mo with
      | none => exact ⟨rfl, fun _ => rfl⟩
      | some b =>
        obtain ⟨q1, q2, _⟩ := hm b rfl
        exact nms_empty (c := 0) ((u.block b (Array.getElem?_eq_some_iff.1 q1).1 q2).trans q1)
    · show Nms _ (updN S.P f (newNd k mo) i).m (if i = f then 0 else S.L i) (if i = f then (fun _ => 0) else S.N i)
      rw [updN_ne _ _ _ _ e, if_neg e, if_neg e]
      exact (h.nms i hi).block (fun c hc => u.block c (h.foot_lt c (.inr ⟨i, hi, hc⟩)) (fun q => h.np i hi (q ▸ hc)))
  · intro i s hi
    show (if i = f then (fun _ => 0) else S.N i) s < 17
    split
    · show 0 < 17
      omega
    · exact h.to i s hi
  · intro i hi
    show (if i = f then 0 else S.L i) ≤ 6
    split
    · omega
    · exact h.le i hi
  · intro i j b hi hj q1 q2
    change (updN S.P f (newNd k mo) i).m = some b at q1
    change (updN S.P f (newNd k mo) j).m = some b at q2
    by_cases e : i = f
    · subst e
      rw [updN_same] at q1
      by_cases e' : j = i
      · exact e'.symm
      · rw [updN_ne _ _ _ _ e'] at q2
        exact absurd q2 ((hm b q1).2.2 j hj)
    · by_cases e' : j = f
      · subst e'
        rw [updN_same] at q2
        rw [updN_ne _ _ _ _ e] at q1
        exact absurd q1 ((hm b q2).2.2 i hi)
      · rw [updN_ne _ _ _ _ e] at q1
        rw [updN_ne _ _ _ _ e'] at q2
        exact h.ap i j b hi hj q1 q2
  · intro i hi
    show (updN S.P f (newNd k mo) i).m ≠ some p
    by_cases e : i = f
    · subst e
      rw [updN_same]
      intro q
      exact (hm p q).2.1 rfl
    · rw [updN_ne _ _ _ _ e]; exact h.np i hi
  · intro i hi q
    change (updN S.P f (newNd k mo) i).k = 2 at q
    show (updN S.P f (newNd k mo) i).m.isSome = true
    by_cases e : i = f
    · subst e; rw [updN_same] at q ⊢; exact hk q
    · rw [updN_ne _ _ _ _ e] at q ⊢; exact h.dir i hi q
  · show (updN S.P f (newNd k mo) 1).k = 2
    rw [updN_ne _ _ _ _ (fun e => hf1 e.symm)]; exact h.root
  · show (updN S.P f (newNd k mo) 0).k = 0
    rw [updN_ne _ _ _ _ (fun e => h2 e.symm)]; exact h.zero


theorem Rel.new {S : Sg} {F : Fs} (R : Rel S F) (f : Nat) (k : Int) (mo : Option Nat) (h0 : (F.P f).Q = []) : Rel (S.new f k mo) (F.at_ f (Fn.nu k)) := by
  refine ⟨R.d, R.T, fun j hj => ?_, fun j hj => ?_, fun j hj s => ?_⟩
  · show NdR (updN S.P f (newNd k mo) j) _
    rw [Fs.at_P]
    by_cases e : j = f
    · subst e; rw [updN_same, if_pos rfl]; exact NdR.nu k mo
    · rw [updN_ne _ _ _ _ e, if_neg e]; exact R.P j hj
  · show (if j = f then 0 else S.L j) = _
    rw [Fs.at_P]
    split
    · rfl
    · exact R.L j hj
  · show (if j = f then (fun _ => 0) else S.N j) s = _
    rw [Fs.at_P]
    split
    · rfl
    · exact R.N j hj s

/-- What newNode makes of either kind. -/
theorem newany (kind : Int) (hk : kind = 1 ∨ kind = 2) (w : World) :
    Calls Tryz.prog 17 #[.int .i64 kind] w fun e w' => ∃ mo : Option Nat, e = .returned (.agg (nodeC kind 1 (.map mo)).toArray) ∧ (kind = 2 → mo.isSome = true) ∧ (∀ b, mo = some b → w'.heap[b]? = some (.map #[] 0) ∧ w.heap.size ≤ b) ∧ Below w.heap.size w w' := by
  rcases hk with rfl | rfl
  · refine (newfile w).mono ?_
    rintro e w' ⟨rfl, h⟩
    exact ⟨none, rfl, fun q => by omega, fun b q => by simp at q, h⟩
  · refine (newnode w).mono ?_
    rintro e w' ⟨rfl, h2, h3, h4⟩
    exact ⟨some (w.heap.size + 2), rfl, fun _ => rfl, fun b q => by injection q with q; subst q; exact ⟨h4, by omega⟩, h2⟩

theorem Rel.free {S : Sg} {F : Fs} (R : Rel S F) : Free S.P F.free := by
  unfold Fs.free
  cases q : (List.range' 1 16).find? (fun i => decide ((F.P i).k = 0)) with
  | none =>
    refine .inl ⟨rfl, fun i h1 h2 => ?_⟩
    have := List.find?_eq_none.1 q i (by rw [List.mem_range'_1]; omega)
    rw [(R.P i h2).k]
    simpa using this
  | some i =>
    have h1 := List.find?_some q
    have h2 := List.mem_of_find?_eq_some q
    simp at h1
    rw [List.mem_range'_1] at h2
    refine .inr ⟨by show 1 ≤ i; omega, by show i < 17; omega, by show (S.P i).k = 0; rw [(R.P i (by omega)).k]; exact h1, fun j j1 j2 => ?_⟩
    change j < i at j2
    rw [(R.P j (by omega)).k]
    obtain ⟨_, l1, l2, e, hn⟩ := List.find?_eq_some_iff_append.1 q
    have hj : j ∈ l1 := by
      have hm : j ∈ List.range' 1 16 := by rw [List.mem_range'_1]; omega
      rw [e] at hm
      rcases List.mem_append.1 hm with h | h
      · exact h
      · have hs : (List.range' 1 16).Pairwise (· < ·) := List.pairwise_lt_range'
        rw [e] at hs
        rcases List.mem_cons.1 h with h | h
        · omega
        · have := (List.pairwise_cons.1 (List.pairwise_append.1 hs).2.1).1 j h
          omega
    have := hn j hj
    simpa using this

end Go.Proofs.YtliekndkjjaldaaGreat

/- What Make does to any system. -/
namespace Go.Proofs.YtliekndkjjaldaaGreat
open Go.RowKit Go.ChangeMaps Go.MapKept
set_option linter.unusedVariables false
set_option maxRecDepth 20000

/-- What Make of a directory comes to. -/
def MadD (S : Sg) (p f : Nat) (w w' : World) (e : Ending) : Except Int (List Nat × List UInt8 × Nat) → Prop
  | .error er => e = .returned (.tuple #[.int .i64 0, .int .i64 er]) ∧ Sy w' p S ∧ Below w.heap.size w w'
  | .ok (y, s, _) => ∃ b, e = .returned (.tuple #[.int .i64 (f : Int), .int .i64 0]) ∧ w.heap.size ≤ b ∧ Sy w' p ((S.new f 2 (some b)).put (y.getLastD 0) s f) ∧ Upd (S.foot p) w w'

set_option maxHeartbeats 8000000 in
set_option maxRecDepth 20000 in
theorem make_dir (p : Nat) (S : Sg) (t : ByteArray) (w : World) (H : Sy w p S) (hT : Tree S) (hs : t.size ≤ 140737488355328) (f : Nat) (hf : Free S.P f) (hf0 : f ≠ 0) :
    Calls Tryz.prog 21 #[.pointer (some ⟨p, 0, none⟩), .string t, .int .i64 2] w fun e w' => MadD S p f w w' e (toNew S.L (wkS S t)) := by
  obtain ⟨R, gR⟩ : ∃ R, R = toNew S.L (wkS S t) := ⟨_, rfl⟩
  rw [← gR]
  have k0 := hid H.usable
  have k1 := hid (tonew_any p S t w H hT hs)
  rw [← gR] at k1
  have HS := hid H
  have hf17 : f < 17 ∧ (S.P f).k = 0 := by
    rcases hf with ⟨e, _⟩ | ⟨_, h2, h3, _⟩
    · exact absurd e hf0
    · exact ⟨h2, h3⟩
  have GR := hid gR
  have HF := hid hf
  clear H gR hf
  go_enter Tryz.func21, Tryz.ntmps21
  go_wp2_with fail
  refine k0.out.mono ?_
  rintro e w1 ⟨rfl, rfl⟩
  clear k0
  go_wp2_with fail
  refine k1.out.mono ?_
  rintro e w2 ⟨v, rfl, hb2, hv⟩
  have HB2 := hid hb2
  clear k1 hb2
  cases R with
  | error er =>
    obtain rfl : v = _ := hv
    have her : ¬ er = 0 := toNew_err GR.out.symm
    go_wp2_with fail
    go_ret2
    exact ⟨rfl, HS.out.grow (HB2.out.trans ((one_new w2 _).mono HB2.out.size)), HB2.out.trans ((one_new w2 _).mono HB2.out.size)⟩
  | ok q =>
    obtain ⟨y, s, n⟩ := q
    obtain ⟨hr, hn0, hL⟩ := toNew_ok GR.out.symm
    obtain ⟨u, rfl, yv, nm, rfl, hnm, hown⟩ := hv
    obtain ⟨d, hd, hd17, hdk, hnd, hsn, hsl⟩ := wkS_ok HS.out hr
    obtain ⟨gy, cy, rfl, hy0, hgy, hcy, hyc, hcm⟩ := last_own hown hd
    have hdL : y.getLastD 0 = d := by rw [List.getLastD_eq_getLast?, hd]; rfl
    rw [hdL] at hL
    subst hn0
    have HNM := hid hnm
    have HD := hid (And.intro hd17 (And.intro hdk (And.intro hnd.symm (And.intro hL (And.intro hdL (And.intro hsl hsn))))))
    have hgb := (hown.lt gy rfl).1
    obtain ⟨W3, g3⟩ : ∃ W3, W3 = w2.alloc (Obj.cells #[.slice (some ⟨gy, 0, none⟩) y.length cy, .string nm, .int .i64 0] 91) := ⟨_, rfl⟩
    have hP3 : W3.heap[w2.heap.size]? = some (.cells #[.slice (some ⟨gy, 0, none⟩) y.length cy, .string nm, .int .i64 0] 91 (0, 0)) := by rw [g3]; exact heap_alloc_new w2 _
    have hB3 : Below w1.heap.size w1 W3 := by rw [g3]; exact HB2.out.trans ((one_new w2 _).mono HB2.out.size)
    have hZ3 : w2.heap.size < W3.heap.size ∧ gy < W3.heap.size := by rw [g3]; simp; omega
    have hC3 : W3.cell? ⟨gy, y.length - 1, none⟩ = some (.int .i64 (d : Int)) := by rw [g3]; exact ((one_new w2 _).cell (p := ⟨gy, y.length - 1, none⟩) hgy).trans hcy
    have hS3 : Sy W3 p S := HS.out.grow hB3
    obtain ⟨bm, gbm⟩ : ∃ bm, bm = W3.heap.size + 2 := ⟨_, rfl⟩
    have GBM := hid gbm
    have HBM : Hid (w1.heap.size ≤ bm ∧ bm ≠ p ∧ ∀ j, j < 17 → (S.P j).m ≠ some bm) := hid ⟨by have := hB3.size; omega, by have := hS3.lt; omega, fun j hj e => by have := hS3.foot_lt _ (.inr ⟨j, hj, e⟩); omega⟩
    clear gbm
    clear hr hnd hsn hsl hd hdk hd17 hown hcy hnm hL hdL
    obtain ⟨a0, a1, a2, _, _, _⟩ := plc_cells hP3
    have hf1 : ¬ (f : Int) = 0 := by omega
    have k3 : Hid (Calls Tryz.prog 58 #[.pointer (some ⟨p, 0, none⟩)] W3 fun e w' => e = .returned (.int .i64 (f : Int)) ∧ w' = W3) := by
      refine hid ((freen_any p S W3 hS3).mono ?_)
      rintro e w' ⟨⟨n, rfl, h⟩, rfl⟩
      rw [h.uniq HF.out]
      exact ⟨rfl, rfl⟩
    obtain ⟨N1, gN⟩ : ∃ N1, N1 = nodeC 2 1 (.map (some bm)) := ⟨_, rfl⟩
    have l1 : Hid (N1.length = 107) := by rw [gN]; exact nodeC_len _ _ _
    have o1 : Hid (N1.toArray.all (·.oneCell') = true) := by rw [gN]; exact nodeC_one _ _ _
    have csz : Hid ((Tryz.prog.info? 54).map (·.size) = some N1.toArray.size) := by rw [csizeNode, List.size_toArray, l1.out]; exact hid rfl
    have kn : Hid (Calls Tryz.prog 17 #[.int .i64 2] W3.drew fun e w' => e = .returned (.agg N1.toArray) ∧ Hid (Below W3.heap.size W3 w') ∧ Hid (w'.heap[bm]? = some (.map #[] 0))) := by
      refine hid ((newnode W3.drew).mono ?_)
      rintro e w' ⟨rfl, h, _, h4⟩
      rw [show W3.drew.heap.size + 2 = bm from GBM.out.symm] at h4 ⊢
      rw [gN]
      exact ⟨rfl, hid ((Below.refl _ W3).drew.trans h), hid h4⟩
    have HP : Hid (∀ W, Hid (Below W3.heap.size W3 W) → W.there p (1 + f * 107) N1.length) := hid (fun W hW => by rw [l1.out]; exact (hS3.grow hW.out).th f hf17.1)
    have hf0' : (0 : Int) ≤ (f : Int) := by omega
    have hf2 : (f : Int) < 17 := by omega
    have HS3 := hid hS3
    have HP3 := hid hP3
    have HB3 := hid hB3
    have HZ3 := hid hZ3
    have HC3 := hid hC3
    have GN := hid gN
    clear hS3 hP3 hB3 hZ3 hC3 gN
    go_wp2_with fail
    rw [← g3]
    clear g3
    refine k3.out.mono ?_
    rintro e w4 ⟨rfl, rfl⟩
    clear k3
    go_wp2_with fail
    go_region_held3 (fun _ => True) (trivial) ((go_at_call 17; refine kn.out.mono ?_; rintro e w5 ⟨rfl, hb5, hm5⟩; have hst := run_cells_mid (P := Tryz.prog) w5 p (1 + f * 107) N1 (HP.out w5 hb5) o1.out))
    obtain ⟨W6, g6⟩ : ∃ W6, W6 = w5.setCells p (1 + f * 107) N1 := ⟨_, rfl⟩
    rw [← g6]
    have hS6 : Sy W6 p (S.new f 2 (some bm)) := by rw [g6, GN.out]; exact (HS3.out.grow hb5.out).new f hf17.1 hf0 hf17.2 2 (some bm) (fun _ => rfl) (fun b hb => by injection hb with hb; subst hb; exact ⟨hm5.out, HBM.out.2.1, HBM.out.2.2⟩)
    have u6 : Upd (· = p) w5 W6 := by rw [g6]; exact upd_setCells _ _ _ _
    have hpl := HS.out.lt
    have hb1s := HB2.out.size
    have hP6 : W6.heap[w2.heap.size]? = some (.cells #[.slice (some ⟨gy, 0, none⟩) y.length cy, .string nm, .int .i64 0] 91 (0, 0)) := u6.heap ((hb5.out.block _ HZ3.out.1).trans HP3.out) (by omega)
    have hC6 : W6.cell? ⟨gy, y.length - 1, none⟩ = some (.int .i64 (d : Int)) := (World.cell?_of_block (a := ⟨gy, y.length - 1, none⟩) (u6.block gy (Nat.lt_of_lt_of_le HZ3.out.2 hb5.out.size) (by omega))).trans ((hb5.out.cell (p := ⟨gy, y.length - 1, none⟩) HZ3.out.2).trans HC3.out)
    have hG6 : gy < W6.heap.size := Nat.lt_of_lt_of_le (Nat.lt_of_lt_of_le HZ3.out.2 hb5.out.size) u6.size
    obtain ⟨d17, dk, dn, dl, dL, dsl, dsn⟩ := HD.out
    have hdf : d ≠ f := fun e => by rw [e, hf17.2] at dk; omega
    have hnmz : nm.size ≤ 6 := by have := bl_len nm; rw [HNM.out] at this; omega
    have k6 := hid (give_any p (S.new f 2 (some bm)) W6 hS6 gy y.length cy d nm 0 f hy0 hC6 hG6 hyc hcm d17 (by show (updN S.P f _ d).k = 2; rw [updN_ne _ _ _ _ hdf]; exact dk) (by show (if d = f then (fun _ => 0) else S.N d) (bl nm) = 0; rw [if_neg hdf, HNM.out]; exact dn) (by show (if d = f then 0 else S.L d) < 6; rw [if_neg hdf]; exact dl) hf17.1 hf0 (by omega))
    have hU6 : Upd (S.foot p) w1 W6 := (Upd.of_below (HB3.out.trans (hb5.out.mono HB3.out.size))).trans u6 (fun x _ hx => .inl hx)
    have HU6 := hid hU6
    have HDF := hid hdf
    obtain ⟨b0, b1, b2, _, _, _⟩ := plc_cells hP6
    have HDL := hid dL
    clear hS6 u6 hP6 hC6 hG6 d17 dk dn dl dL dsl dsn hdf hnmz hU6 g6 a0 a1 a2 hst kn HP hb1s hpl hgb
    go_wp2_with fail
    refine k6.out.mono ?_
    rintro e w7 ⟨rfl, h7, u7⟩
    have H7 := hid h7
    have U7 := hid u7
    clear k6 h7 u7
    go_wp2_with fail
    go_ret2
    refine ⟨bm, rfl, HBM.out.1, ?_, HU6.out.trans U7.out (fun x _ hx => .inr ⟨d, (HD.out).1, ?_⟩)⟩
    · rw [HDL.out, ← HNM.out]; exact H7.out
    · have : ((S.new f 2 (some bm)).P d).m = (S.P d).m := by show (updN S.P f _ d).m = _; rw [updN_ne _ _ _ _ HDF.out]
      rw [← this]; exact hx


end Go.Proofs.YtliekndkjjaldaaGreat

/- What Make does to any system, of any kind. -/
namespace Go.Proofs.YtliekndkjjaldaaGreat
open Go.RowKit Go.ChangeMaps Go.MapKept
set_option linter.unusedVariables false
set_option maxRecDepth 20000

set_option maxHeartbeats 1000000 in
theorem make_bad (p : Nat) (S : Sg) (t : ByteArray) (w : World) (H : Sy w p S) (kind : Int) (h1 : kind ≠ 1) (h2 : kind ≠ 2) :
    Calls Tryz.prog 21 #[.pointer (some ⟨p, 0, none⟩), .string t, .int .i64 kind] w fun e w' => e = .returned (.tuple #[.int .i64 0, .int .i64 22]) ∧ w' = w := by
  have k0 := hid H.usable
  have h3 : (kind == 1) = false := by simpa using h1
  have h4 : (kind == 2) = false := by simpa using h2
  have h5 : (kind != 1) = true := by simpa using h1
  have h6 : (kind != 2) = true := by simpa using h2
  clear H
  go_enter Tryz.func21, Tryz.ntmps21
  go_wp2_with fail
  refine k0.out.mono ?_
  rintro e w1 ⟨rfl, rfl⟩
  clear k0
  go_wp2_with fail
  go_ret2
  exact ⟨rfl, rfl⟩

set_option maxHeartbeats 1000000 in
theorem make_err (p : Nat) (S : Sg) (t : ByteArray) (w : World) (H : Sy w p S) (hT : Tree S) (hs : t.size ≤ 140737488355328) (kind : Int) (hk : kind = 1 ∨ kind = 2) (er : Int) (hr : toNew S.L (wkS S t) = .error er) :
    Calls Tryz.prog 21 #[.pointer (some ⟨p, 0, none⟩), .string t, .int .i64 kind] w fun e w' => e = .returned (.tuple #[.int .i64 0, .int .i64 er]) ∧ Below w.heap.size w w' := by
  have k0 := hid H.usable
  have k1 := hid (tonew_any p S t w H hT hs)
  rw [hr] at k1
  have her : ¬ er = 0 := toNew_err hr
  clear H hr
  rcases hk with rfl | rfl
  all_goals
    go_enter Tryz.func21, Tryz.ntmps21
    go_wp2_with fail
    refine k0.out.mono ?_
    rintro e w1 ⟨rfl, rfl⟩
    clear k0
    go_wp2_with fail
    refine k1.out.mono ?_
    rintro e w2 ⟨v, rfl, hb2, hv⟩
    have HB2 := hid hb2
    clear k1 hb2
    obtain rfl : v = _ := hv
    go_wp2_with fail
    go_ret2
    exact ⟨rfl, HB2.out.trans ((one_new w2 _).mono HB2.out.size)⟩

set_option maxHeartbeats 2000000 in
theorem make_full1 (p : Nat) (S : Sg) (t : ByteArray) (w : World) (H : Sy w p S) (hT : Tree S) (hs : t.size ≤ 140737488355328) (hf : Free S.P 0) (y : List Nat) (s : List UInt8) (n : Nat) (hr : toNew S.L (wkS S t) = .ok (y, s, n)) (kind : Int) (hk : kind = 1 ∨ kind = 2) :
    Calls Tryz.prog 21 #[.pointer (some ⟨p, 0, none⟩), .string t, .int .i64 kind] w fun e w' => e = .returned (.tuple #[.int .i64 0, .int .i64 28]) ∧ Below w.heap.size w w' := by
  have k0 := hid H.usable
  have k1 := hid (tonew_any p S t w H hT hs)
  rw [hr] at k1
  have HS := hid H
  have HF := hid hf
  obtain ⟨d, HD⟩ : ∃ d, Hid (y.getLast? = some d) := by obtain ⟨d, hd, _⟩ := wkS_ok H (toNew_ok hr).1; exact ⟨d, hid hd⟩
  clear H hf hr
  rcases hk with rfl | rfl
  all_goals
    go_enter Tryz.func21, Tryz.ntmps21
    go_wp2_with fail
    refine k0.out.mono ?_
    rintro e w1 ⟨rfl, rfl⟩
    clear k0
    go_wp2_with fail
    refine k1.out.mono ?_
    rintro e w2 ⟨v, rfl, hb2, hv⟩
    have HB2 := hid hb2
    clear k1 hb2
    obtain ⟨u, rfl, yv, nm, rfl, hnm, hown⟩ := hv
    obtain ⟨gy, cy, rfl, _⟩ := last_own hown HD.out
    obtain ⟨W3, g3⟩ : ∃ W3, W3 = w2.alloc (Obj.cells #[.slice (some ⟨gy, 0, none⟩) y.length cy, .string nm, .int .i64 (n : Int)] 91) := ⟨_, rfl⟩
    have hB3 : Below w1.heap.size w1 W3 := by rw [g3]; exact HB2.out.trans ((one_new w2 _).mono HB2.out.size)
    have k3 : Hid (Calls Tryz.prog 58 #[.pointer (some ⟨p, 0, none⟩)] W3 fun e w' => e = .returned (.int .i64 0) ∧ w' = W3) := by
      refine hid ((freen_any p S W3 (HS.out.grow hB3)).mono ?_)
      rintro e w' ⟨⟨n, rfl, h⟩, rfl⟩
      rw [h.uniq HF.out]
      exact ⟨rfl, rfl⟩
    have HB3 := hid hB3
    clear hB3 hown hnm
    go_wp2_with fail
    rw [← g3]
    clear g3
    refine k3.out.mono ?_
    rintro e w4 ⟨rfl, rfl⟩
    clear k3
    go_wp2_with fail
    go_ret2
    exact ⟨rfl, HB3.out⟩

theorem foot_new {S : Sg} {p f : Nat} {k : Int} {mo : Option Nat} (b : Nat) (h : (S.new f k mo).foot p b) : S.foot p b ∨ mo = some b := by
  rcases h with h | ⟨j, hj, h⟩
  · exact .inl (.inl h)
  · change (updN S.P f (newNd k mo) j).m = some b at h
    by_cases e : j = f
    · subst e; rw [updN_same] at h; exact .inr h
    · rw [updN_ne _ _ _ _ e] at h; exact .inl (.inr ⟨j, hj, h⟩)
theorem file_new (S : Sg) (f : Nat) : S.file f = S.new f 1 none := rfl

theorem pmake (p : Nat) (F : Fs) (G : Nat → Prop) (w : World) (H : Pf w p F G) (hF : FOk F) (t : ByteArray) (hs : t.size ≤ 140737488355328) (kind : Int) :
    Calls Tryz.prog 21 #[.pointer (some ⟨p, 0, none⟩), .string t, .int .i64 kind] w fun e w' => e = .returned (.tuple #[.int .i64 ((F.make (bl t) kind).2.1 : Int), .int .i64 (F.make (bl t) kind).2.2]) ∧ PfTo w p (F.make (bl t) kind).1 G w' := by
  have HP := H
  obtain ⟨S, HS, R, hG⟩ := H
  by_cases hb : kind ≠ 1 ∧ kind ≠ 2
  · have e : F.make (bl t) kind = (F, 0, 22) := by unfold Fs.make; rw [if_pos hb]
    rw [e]
    refine (make_bad p S t w HS kind hb.1 hb.2).mono ?_
    rintro e w' ⟨rfl, rfl⟩
    exact ⟨rfl, PfTo.same HP (Below.refl _ _)⟩
  have hk : kind = 1 ∨ kind = 2 := by omega
  have hT := R.tree hF
  have hN := toNew_fs (t := t) HS R hF
  have hfree := R.free
  cases hr : toNew S.L (wkS S t) with
  | error er =>
    have e : F.make (bl t) kind = (F, 0, er) := by
      rw [hN] at hr
      unfold Fs.make
      rw [if_neg hb]
      cases hw : F.walk (bl t) with
      | error a => rw [hw] at hr; simp only [toNew, Except.error.injEq] at hr; rw [hr]
      | ok q =>
        obtain ⟨y, s, n⟩ := q
        rw [hw] at hr
        simp only [toNew] at hr
        dsimp only
        by_cases h0 : n ≠ 0
        · rw [if_pos h0] at hr ⊢; simp only [Except.error.injEq] at hr; rw [hr]
        · rw [if_neg h0] at hr ⊢
          by_cases h6 : 6 ≤ (F.P (Fs.dirOf y)).Q.length
          · rw [if_pos h6]; rw [if_pos (show 6 ≤ (F.P (y.getLastD 0)).Q.length from h6)] at hr; simp only [Except.error.injEq] at hr; rw [hr]
          · rw [if_neg (show ¬ 6 ≤ (F.P (y.getLastD 0)).Q.length from h6)] at hr; simp at hr
    rw [e]
    refine (make_err p S t w HS hT hs kind hk er hr).mono ?_
    rintro e w' ⟨rfl, h⟩
    exact ⟨rfl, PfTo.same HP h⟩
  | ok q =>
    obtain ⟨y, s, n⟩ := q
    have hr2 := hr
    rw [hN] at hr2
    obtain ⟨hw, hn0, hL⟩ := toNew_ok hr2
    have W := hF.walk_ok hw
    have h6 : ¬ 6 ≤ (F.P (Fs.dirOf y)).Q.length := by have : (F.P (Fs.dirOf y)).Q.length < 6 := hL; omega
    by_cases hf0 : F.free = 0
    · have e : F.make (bl t) kind = (F, 0, 28) := by
        unfold Fs.make
        rw [if_neg hb, hw]
        dsimp only
        rw [if_neg (fun q => q hn0), if_neg h6, if_pos hf0]
      rw [e]
      rw [hf0] at hfree
      refine (make_full1 p S t w HS hT hs hfree y s n hr kind hk).mono ?_
      rintro e w' ⟨rfl, h⟩
      exact ⟨rfl, PfTo.same HP h⟩
    · have e : F.make (bl t) kind = ((F.at_ F.free (Fn.nu kind)).addn (Fs.dirOf y) s F.free, F.free, 0) := by
        unfold Fs.make
        rw [if_neg hb, hw]
        dsimp only
        rw [if_neg (fun q => q hn0), if_neg h6, if_neg hf0]
      rw [e]
      obtain ⟨f1, f2, f3⟩ := Fs.free_lt hf0
      have h0 := hF.none _ f3
      have hdf : Fs.dirOf y ≠ F.free := fun e => by have := W.k; rw [e] at this; omega
      have hFn := hF.new F.free kind f1 f2 f3 hk
      have hs0 : lk (((F.at_ F.free (Fn.nu kind))).P (Fs.dirOf y)).Q s = 0 := by rw [Fs.at_ne _ _ _ _ hdf, ← W.nn]; exact hn0
      rcases hk with rfl | rfl
      · refine (make_file p S t w HS hT hs F.free hfree hf0).mono ?_
        rintro e w' h
        rw [hr] at h
        obtain ⟨rfl, h1, u⟩ := h
        refine ⟨rfl, PfTo.of hG h1 ?_ (fun x hx => ?_) u⟩
        · exact (R.new F.free 1 none (by rw [h0]; rfl)).put hFn _ s F.free hs0
        · rcases foot_new (S := S) (p := p) (f := F.free) (k := 1) (mo := none) x hx with q | q
          · exact .inl q
          · simp at q
      · refine (make_dir p S t w HS hT hs F.free hfree hf0).mono ?_
        rintro e w' h
        rw [hr] at h
        obtain ⟨b, rfl, hbw, h1, u⟩ := h
        refine ⟨rfl, PfTo.of hG h1 ?_ (fun x hx => ?_) u⟩
        · exact (R.new F.free 2 (some b) (by rw [h0]; rfl)).put hFn _ s F.free hs0
        · rcases foot_new (S := S) (p := p) (f := F.free) (k := 2) (mo := some b) x hx with q | q
          · exact .inl q
          · injection q with q; subst q; exact .inr hbw

end Go.Proofs.YtliekndkjjaldaaGreat
