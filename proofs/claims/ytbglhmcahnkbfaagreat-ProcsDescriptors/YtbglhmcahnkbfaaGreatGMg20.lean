/- Texts of this seat, merged. -/
import Derived.Test.YtbglhmcahnkbfaaGreatGMg19
import Derived.BigQuiet
import Derived.Test.YtbglhmcahnkbfaaGreatGMg6

/- What take does: blocks for a file, the lowest free ones first. -/
namespace Go.Proofs.YtbglhmcahnkbfaaGreat
open Go.RowKit Go.ChangeMaps Go.MapKept
set_option linter.unusedVariables false
set_option maxRecDepth 20000

/-- Cells of a node, one by one: two nodes agree where their parts do. -/
theorem ndC_agree {x y : Nd} (hx : x.ok) (hy : y.ok) (j : Nat) (hj : j < 107) (h0 : j < 4 → (ndC y)[j]? = (ndC x)[j]?) (hb : ∀ i, j = 4 + i → i < 96 → y.b.getD i 0 = x.b.getD i 0) (hB : ∀ i, j = 100 + i → i < 6 → y.B.getD i 0 = x.B.getD i 0) (hm : j = 106 → y.m = x.m) : (ndC y)[j]? = (ndC x)[j]? := by
  rcases (show j < 4 ∨ (4 ≤ j ∧ j < 100) ∨ (100 ≤ j ∧ j < 106) ∨ j = 106 by omega) with h | h | h | h
  · exact h0 h
  · obtain ⟨i, rfl⟩ : ∃ i, j = 4 + i := ⟨j - 4, by omega⟩
    rw [ndC_b hy i (by omega), ndC_b hx i (by omega), hb i rfl (by omega)]
  · obtain ⟨i, rfl⟩ : ∃ i, j = 100 + i := ⟨j - 100, by omega⟩
    rw [ndC_B hy i (by omega), ndC_B hx i (by omega), hB i rfl (by omega)]
  · subst h
    rw [ndC_m hy, ndC_m hx, hm rfl]

def Nd.blk (x : Nd) (j : Nat) (v : Int) : Nd := { x with B := x.B.set j v }
theorem Nd.blk_ok {x : Nd} (h : x.ok) (j : Nat) (v : Int) : (x.blk j v).ok := ⟨h.b, by simp [Nd.blk, h.B]⟩
theorem getD_set_same (l : List Int) (j : Nat) (v : Int) (h : j < l.length) : (l.set j v).getD j 0 = v := by
  rw [List.getD_eq_getElem?_getD, List.getElem?_set_self h]; rfl
theorem getD_set_ne (l : List Int) (i j : Nat) (v : Int) (h : j ≠ i) : (l.set j v).getD i 0 = l.getD i 0 := by
  rw [List.getD_eq_getElem?_getD, List.getElem?_set_ne h, List.getD_eq_getElem?_getD]

theorem Sy.blkTo {w : World} {p : Nat} {S : Sg} (h : Sy w p S) (i : Nat) (hi : i < 17) (j : Nat) (hj : j < 6) (v : Int) : Sy (w.setCell ⟨p, 1 + i * 107 + (100 + j), none⟩ (.int .i64 v)) p (S.at_ i ((S.P i).blk j v)) := by
  have hx := h.ok i hi
  have hy := Nd.blk_ok hx j v
  have hl := hx.B
  refine h.set i hi ((S.P i).blk j v) hy rfl rfl (100 + j) (by omega) _ ?_ (fun k hk e => ndC_agree hx hy k hk (fun q => ?_) (fun _ _ _ => rfl) (fun a ha hb => ?_) (fun _ => rfl))
  · rw [ndC_B hy j hj]
    simp only [Nd.blk]
    rw [getD_set_same _ _ _ (by omega)]
  · unfold ndC Nd.blk
    rw [List.append_assoc, List.append_assoc, List.getElem?_append_left (by simp; omega), List.append_assoc, List.append_assoc, List.getElem?_append_left (by simp; omega)]
  · simp only [Nd.blk]
    exact getD_set_ne _ _ _ _ (by omega)

/-- A file's blocks: so many are its own, all are marked, and no others are. -/
structure Bok (x : Nd) (T : Nat → Bool) (q : Nat) : Prop where
  in_ : ∀ j, j < q → ∃ b : Nat, x.B.getD j 0 = (b : Int) ∧ 1 ≤ b ∧ b < 25 ∧ T b = true
  ne : ∀ i j, i < j → j < q → x.B.getD i 0 ≠ x.B.getD j 0
  n : cnt T 25 = q

theorem Bok.take {x : Nd} {T : Nat → Bool} {q b : Nat} (h : Bok x T q) (hx : x.ok) (hq : q < 6) (h1 : 1 ≤ b) (h2 : b < 25) (hb : T b = false) : Bok (x.blk q (b : Int)) (updT T b true) (q + 1) := by
  have hl := hx.B
  have hold : ∀ j, j < q → (x.blk q (b : Int)).B.getD j 0 = x.B.getD j 0 := fun j hj => getD_set_ne _ _ _ _ (by omega)
  have hnew : (x.blk q (b : Int)).B.getD q 0 = (b : Int) := getD_set_same _ _ _ (by omega)
  refine ⟨fun j hj => ?_, fun i j hij hj => ?_, by rw [cnt_set T b hb 25 h2, h.n]⟩
  · by_cases e : j = q
    · subst e; exact ⟨b, hnew, h1, h2, updT_same _ _ _⟩
    · obtain ⟨c, q1, q2, q3, q4⟩ := h.in_ j (by omega)
      refine ⟨c, by rw [hold j (by omega)]; exact q1, q2, q3, ?_⟩
      by_cases ec : c = b
      · subst ec; exact updT_same _ _ _
      · rw [updT_ne _ _ _ _ ec]; exact q4
  · by_cases e : j = q
    · subst e
      rw [hnew, hold i (by omega)]
      obtain ⟨c, q1, q2, q3, q4⟩ := h.in_ i (by omega)
      rw [q1]
      intro ec
      have : c = b := by omega
      subst this
      rw [hb] at q4
      simp at q4
    · rw [hold i (by omega), hold j (by omega)]
      exact h.ne i j hij (by omega)

/-- A system whose node at i, and whose marks, are others. -/
def Sg.bl (S : Sg) (i : Nat) (x : Nd) (T : Nat → Bool) : Sg := { S with P := updN S.P i x, T := T }

end Go.Proofs.YtbglhmcahnkbfaaGreat

/- What grow does to a file that is alone in its system. -/
namespace Go.Proofs.YtbglhmcahnkbfaaGreat
open Go.RowKit Go.ChangeMaps Go.MapKept
set_option linter.unusedVariables false
set_option maxRecDepth 20000

/-- How many blocks so many bytes need. -/
def need (s : Nat) : Nat := (s + 15) / 16

theorem need_le {s : Nat} (h : s ≤ 96) : need s ≤ 6 := by unfold need; omega
theorem need_mono {s t : Nat} (h : s ≤ t) : need s ≤ need t := by unfold need; omega

theorem Sg.bl_self (S : Sg) (i : Nat) : S.bl i (S.P i) S.T = S := by
  have := S.at_self i
  unfold Sg.at_ at this
  unfold Sg.bl
  exact this

set_option maxHeartbeats 1000000 in
theorem grow_same (p : Nat) (S : Sg) (w : World) (i : Nat) (hi : i < 17) (x : Nd) (T : Nat → Bool) (H : Sy w p (S.bl i x T)) (size : Nat) (hs : size ≤ x.s) :
    Calls Tryz.prog 113 #[.pointer (some ⟨p, 0, none⟩), .pointer (some ⟨p, 1 + i * 107, none⟩), .int .i64 (size : Int)] w fun e w' => e = .returned (.int .i64 0) ∧ w' = w := by
  have hP : (S.bl i x T).P i = x := updN_same _ _ _
  have c3 := H.s i hi
  rw [hP] at c3
  have a1 : (size : Int) ≤ (x.s : Int) := by omega
  clear H hP
  go_enter Tryz.func113, Tryz.ntmps113
  go_wp2_with fail
  go_ret
  exact ⟨rfl, rfl⟩

end Go.Proofs.YtbglhmcahnkbfaaGreat

/- What Write does to a file that is alone in its system. -/
namespace Go.Proofs.YtbglhmcahnkbfaaGreat
open Go.RowKit Go.ChangeMaps Go.MapKept
set_option linter.unusedVariables false
set_option maxRecDepth 20000

theorem getD_splice_in (l zs : List Int) (o k : Nat) (h : o + zs.length ≤ l.length) (hk : k < zs.length) : (splice l o zs).getD (o + k) 0 = zs.getD k 0 := by
  rw [List.getD_eq_getElem?_getD, getElem?_splice_in _ _ _ _ h hk, List.getD_eq_getElem?_getD]
theorem getD_splice_out (l zs : List Int) (o k : Nat) (h : o + zs.length ≤ l.length) (hk : k < o ∨ o + zs.length ≤ k) : (splice l o zs).getD k 0 = l.getD k 0 := by
  rw [List.getD_eq_getElem?_getD, getElem?_splice_out _ _ _ _ h hk, List.getD_eq_getElem?_getD]

/-- Bytes written over a file's. -/
def Nd.over (x : Nd) (off : Nat) (zs : List Int) : Nd := { x with b := splice x.b off zs }
theorem Nd.over_ok {x : Nd} (h : x.ok) (off : Nat) (zs : List Int) (hz : off + zs.length ≤ 96) : (x.over off zs).ok := ⟨by simp only [Nd.over]; rw [length_splice _ _ _ (by rw [h.b]; exact hz), h.b], h.B⟩

theorem Sy.over {w w' : World} {p : Nat} {S : Sg} (h : Sy w p S) (i : Nat) (hi : i < 17) (C : List Value) (hC : w.heap[p]? = some (.cells C.toArray 150 (0, 0))) (hS : Sls C S.d S.P S.T) (off : Nat) (zs : List Int) (hz : off + zs.length ≤ 96)
    (h' : w'.heap[p]? = some (.cells (splice C (1 + i * 107 + (4 + off)) (zs.map (Value.int .u8))).toArray 150 (0, 0))) (u : Upd (· = p) w w') : Sy w' p (S.at_ i ((S.P i).over off zs)) := by
  have hx := hS.ok i hi
  have hy := Nd.over_ok hx off zs hz
  have hl := hS.len
  have hfit : 1 + i * 107 + (4 + off) + (zs.map (Value.int .u8)).length ≤ C.length := by simp; omega
  refine h.turn i hi ((S.P i).over off zs) rfl rfl u ⟨_, h', hS.put i hi _ hy (by rw [length_splice _ _ _ hfit, hl]) (fun j hj => ?_) (fun j hj => ?_)⟩
  · exact getElem?_splice_out _ _ _ _ hfit (by simp; omega)
  · by_cases e : 4 + off ≤ j ∧ j < 4 + off + zs.length
    · obtain ⟨k, rfl⟩ : ∃ k, j = 4 + off + k := ⟨j - (4 + off), by omega⟩
      rw [show 1 + i * 107 + (4 + off + k) = 1 + i * 107 + (4 + off) + k by omega, getElem?_splice_in _ _ _ _ hfit (by simp; omega)]
      rw [show 4 + off + k = 4 + (off + k) by omega, ndC_b hy (off + k) (by omega)]
      simp only [Nd.over]
      rw [getD_splice_in _ _ _ _ (by rw [hx.b]; exact hz) (by omega), List.getElem?_map, List.getElem?_eq_getElem (by omega), List.getD_eq_getElem?_getD, List.getElem?_eq_getElem (by omega)]
      rfl
    · rw [getElem?_splice_out _ _ _ _ hfit (by simp; omega), hS.at_ i hi j hj]
      refine (ndC_agree hx hy j hj (fun q => ?_) (fun a ha hb => ?_) (fun _ _ _ => rfl) (fun _ => rfl)).symm
      · unfold ndC Nd.over
        rw [List.append_assoc, List.append_assoc, List.getElem?_append_left (by simp; omega), List.append_assoc, List.append_assoc, List.getElem?_append_left (by simp; omega)]
      · simp only [Nd.over]
        exact getD_splice_out _ _ _ _ (by rw [hx.b]; exact hz) (by omega)

end Go.Proofs.YtbglhmcahnkbfaaGreat

/- What Read and Stat tell of a file. -/
namespace Go.Proofs.YtbglhmcahnkbfaaGreat
open Go.RowKit Go.ChangeMaps Go.MapKept
set_option linter.unusedVariables false
set_option maxRecDepth 20000

theorem cell_three (w : World) (g : Nat) (v0 v1 v2 : Value) (a : Addr) (h : a.block ≠ g) : ((((w.setCell ⟨g, 0, none⟩ v0).setCell ⟨g, 1, none⟩ v1).setCell ⟨g, 2, none⟩ v2).drew).cell? a = w.cell? a := by
  have one : ∀ (w : World) (j : Nat) (v : Value), (w.setCell ⟨g, j, none⟩ v).cell? a = w.cell? a := fun w j v => World.cell?_of_block (heap_setCell_other w ⟨g, j, none⟩ a.block v h)
  exact ((one _ 2 v2).trans (one _ 1 v1)).trans (one _ 0 v0)

theorem csizeInfo : (Tryz.prog.info? 135).map (·.size) = some 3 := by kernel_rfl

end Go.Proofs.YtbglhmcahnkbfaaGreat

/- What takeName does: a directory's name names nothing more. -/
namespace Go.Proofs.YtbglhmcahnkbfaaGreat
open Go.RowKit Go.ChangeMaps Go.MapKept
set_option linter.unusedVariables false
set_option maxRecDepth 20000

/-- A name less. -/
def Sg.drop (S : Sg) (d : Nat) (s : List UInt8) : Sg := { S with L := fun i => if i = d then S.L d - 1 else S.L i, N := fun i => if i = d then (fun x => if x = s then 0 else S.N d x) else S.N i }

theorem owns_exact {w : World} {b n : Nat} {D : DataW Unit} (h : w.ownsMap Tryz.prog 9 (plainElem Tryz.prog 3) b n D) : w.ownsMap Tryz.prog 9 (plainElem Tryz.prog 3) b (Maps.size D) D := by
  obtain ⟨es, clock, hb, F, hn, rfl⟩ := h
  refine ⟨es, clock, hb, F, ?_, rfl⟩
  show es.size ≤ ((es.toList.map _).foldr DataW.insert []).length
  rw [length_read]
  exact Nat.le_refl _

theorem Sy.drop {w w' : World} {p : Nat} {S : Sg} (h : Sy w p S) (d : Nat) (hd : d < 17) (b : Nat) (hb : (S.P d).m = some b) (s : List UInt8) (hs : S.N d s ≠ 0) (D : DataW Unit)
    (h1 : w.ownsMap Tryz.prog 9 (plainElem Tryz.prog 3) b (S.L d) D) (h2 : Maps.size D = S.L d) (h3 : ∀ s, D.atKey (.string s) (.lit (.int .i64 0)) = .lit (.int .i64 (S.N d s : Int))) (h4 : ∀ s, Maps.has D (.string s) = decide (S.N d s ≠ 0))
    (h5 : w'.ownsMap Tryz.prog 9 (plainElem Tryz.prog 3) b (S.L d) (D.del (.string s))) (u : Upd (· = b) w w') : Sy w' p (S.drop d s) := by
  have hbp : b ≠ p := fun e => h.np d hd (e ▸ hb)
  have hT : Maps.Tidy D := h1.tidy (Go.Maps.string_keyed Tryz.underlying9)
  have hM : Maps.IsMap D := hT.isMap
  have hz : Maps.size (D.del (.string s)) = S.L d - 1 := by
    have := Maps.size_del (k := .string s) hT
    rw [h4, h2] at this
    simp [hs] at this
    omega
  obtain ⟨C, hC, hSl⟩ := h.blk
  refine ⟨⟨C, u.heap hC (fun e => hbp e.symm), hSl⟩, fun i hi => ?_, fun i x hi => ?_, fun i hi => ?_, h.ap, h.np, h.dir, h.root, h.zero⟩
  · by_cases e : i = d
    · subst e
      show Nms w' (S.P i).m _ _
      rw [hb]
      simp only [Sg.drop, if_true]
      refine ⟨_, hz ▸ owns_exact h5, hz, fun x => ?_, fun x => ?_⟩
      · by_cases ex : x = s
        · subst ex; rw [Maps.atKey_del_same]; simp
        · rw [Maps.atKey_del_other (by intro q; injection q with q; exact ex q), h3]; simp [ex]
      · by_cases ex : x = s
        · subst ex; rw [Maps.has_del_same]; simp
        · rw [Maps.has_del_other (by intro q; injection q with q; exact ex q), h4]; simp [ex]
    · show Nms w' (S.P i).m (if i = d then _ else S.L i) (if i = d then _ else S.N i)
      rw [if_neg e, if_neg e]
      refine (h.nms i hi).block (fun c hc => u.block c (h.foot_lt c (.inr ⟨i, hi, hc⟩)) (fun q => e ?_))
      exact h.ap i d c hi hd hc (q ▸ hb)
  · show (if i = d then (fun x => if x = s then 0 else S.N d x) else S.N i) x < 17
    split
    · dsimp only
      split
      · omega
      · exact h.to d x hd
    · exact h.to i x hi
  · show (if i = d then S.L d - 1 else S.L i) ≤ 6
    split
    · have := h.le d hd; omega
    · exact h.le i hi

end Go.Proofs.YtbglhmcahnkbfaaGreat

/- What the document's split does. -/
namespace Go.Proofs.YtbglhmcahnkbfaaGreat
open Go.RowKit
set_option linter.unusedVariables false

theorem upto_at : ∀ (l : List UInt8) (k : Nat) (c : UInt8), k ≤ upto l → l[k]? = some c → (c = 47 → upto l = k) ∧ (c ≠ 47 → k + 1 ≤ upto l)
  | [], k, c, _, h => by simp at h
  | d :: r, 0, c, _, h => by
    simp at h
    subst h
    unfold upto
    exact ⟨fun e => by rw [if_pos e], fun e => by rw [if_neg e]; omega⟩
  | d :: r, k + 1, c, hk, h => by
    by_cases hd : d = 47
    · simp [upto, hd] at hk
    · have e : upto (d :: r) = upto r + 1 := by simp [upto, hd]
      rw [e] at hk ⊢
      have := upto_at r k c (by omega) (by simpa using h)
      exact ⟨fun e => by rw [this.1 e], fun e => by have := this.2 e; omega⟩
theorem bl_ext (t : ByteArray) (f i : Nat) : bl (t.extract f i) = ((bl t).drop f).take (i - f) := by
  simp [bl, ByteArray.data_extract, List.take_drop]

theorem infoS : (Tryz.prog.info? 9).map (fun i => (i.zero, i.size, i.bytes)) = some (some (.string ⟨#[]⟩), 1, 16) := by kernel_rfl

set_option maxHeartbeats 1000000 in
theorem split_none (t : ByteArray) (w : World) (h : bl t = []) :
    Calls Tryz.prog 138 #[.string t] w fun e w' => e = .returned (.tuple #[.slice none 0 0, .int .i64 22]) ∧ w' = w := by
  have h3 : (t.toList == []) = true := by
    rw [Lib.toList_data]
    simpa [bl] using h
  clear h
  go_enter Tryz.func138, Tryz.ntmps138
  go_wp2_with fail
  go_ret2
  exact ⟨rfl, rfl⟩

theorem byte_at {t : ByteArray} {i : Nat} {c : UInt8} (h : (bl t)[i]? = some c) : ∃ q : i < t.size, (t[i]'q) = c := by
  have q := (List.getElem?_eq_some_iff.1 h).1
  rw [bl_len] at q
  refine ⟨q, ?_⟩
  have := (List.getElem?_eq_some_iff.1 h).2
  exact this
theorem ne47 {c : UInt8} (h : c ≠ 47) : (((c.toNat : Nat) : Int) != 47) = true ∧ (((c.toNat : Nat) : Int) == 47) = false := by
  have : c.toNat ≠ 47 := fun e => h (UInt8.toNat_inj.1 e)
  constructor <;> simp <;> omega

set_option maxHeartbeats 1000000 in
theorem split_bad (t : ByteArray) (w : World) (c : UInt8) (r : List UInt8) (h : bl t = c :: r) (hc : c ≠ 47) :
    Calls Tryz.prog 138 #[.string t] w fun e w' => e = .returned (.tuple #[.slice none 0 0, .int .i64 22]) ∧ w' = w := by
  have h3 : (t.toList == []) = false := by
    rw [Lib.toList_data]
    have : t.data.toList = c :: r := h
    rw [this]; rfl
  obtain ⟨h4, h5⟩ := byte_at (t := t) (i := 0) (c := c) (by rw [h]; rfl)
  have h6 : ((((t[0]'h4).toNat : Nat) : Int) != 47) = true := by rw [h5]; exact (ne47 hc).1
  clear h h5
  go_enter Tryz.func138, Tryz.ntmps138
  go_wp2_with fail
  go_ret2
  exact ⟨rfl, rfl⟩

set_option maxHeartbeats 1000000 in
theorem split_root (t : ByteArray) (w : World) (h : bl t = [47]) :
    Calls Tryz.prog 138 #[.string t] w fun e w' => e = .returned (.tuple #[.slice none 0 0, .int .i64 0]) ∧ w' = w := by
  have h2 : t.data.toList = [47] := h
  have h3 : (t.toList == []) = false := by rw [Lib.toList_data, h2]; rfl
  have h3' : (t.toList == [47]) = true := by rw [Lib.toList_data, h2]; rfl
  obtain ⟨h4, h5⟩ := byte_at (t := t) (i := 0) (c := 47) (by rw [h]; rfl)
  have h6 : ((((t[0]'h4).toNat : Nat) : Int) != 47) = false := by rw [h5]; rfl
  clear h h5 h2
  go_enter Tryz.func138, Tryz.ntmps138
  go_wp2_with fail
  go_ret2
  exact ⟨rfl, rfl⟩

/-- How far split is: what is told, where the name begins. -/
def Spt (w wr : World) (t : ByteArray) (v : Value) (f i : Nat) : Prop :=
  ∃ (a : Option Addr) (n c : Nat) (xs : List ByteArray), v = .slice a n c ∧ xs.length = n ∧ n + 1 ≤ f ∧ f ≤ i ∧ spl ((bl t).drop 1) = xs.map bl ++ spl ((bl t).drop f) ∧ i - f ≤ upto ((bl t).drop f) ∧ wr.ownsRow w.heap.size 9 1 v n (xs.map Value.string) ∧ Below w.heap.size w wr

theorem cell_one (w : World) (v : Value) (ty : TypeId) : ∀ j u, ([v] : List Value)[j]? = some u → (w.alloc (.cells #[v] ty)).cell? ((⟨w.heap.size, 0, none⟩ : Addr).add j) = some u := by
  intro j u h
  cases j with
  | zero => simp at h; subst h; simp [Addr.add, go_sem]
  | succ j => simp at h

theorem index_at (t : ByteArray) (i : Nat) (h : i < t.size) (w : World) : (Instr.index 9 (.string t) (.int .i64 i)).run Tryz.prog w = .ok (.int .u8 (((t[i]'h).toNat : Nat) : Int)) w := by
  rw [run_index_string w 9 t .i64 i Tryz.underlying9, dif_pos ⟨by omega, by omega⟩]
  rfl

set_option maxHeartbeats 4000000 in
set_option maxRecDepth 20000 in
theorem split_ok (t : ByteArray) (w : World) (r : List UInt8) (h : bl t = 47 :: r) (hr : r ≠ []) (hs : t.size ≤ 1048576) :
    Calls Tryz.prog 138 #[.string t] w fun e w' => ∃ (a : Option Addr) (n c : Nat) (xs : List ByteArray), e = .returned (.tuple #[.slice a n c, .int .i64 0]) ∧ xs.length = n ∧ n ≤ 1048576 ∧ xs.map bl = spl r ∧ w'.ownsRow w.heap.size 9 1 (.slice a n c) n (xs.map Value.string) ∧ Below w.heap.size w w' := by
  obtain ⟨i0, hi0, hz0, hz1, hz2⟩ := info_parts infoS
  have h2 : t.data.toList = 47 :: r := h
  have h3 : (t.toList == []) = false := by rw [Lib.toList_data, h2]; rfl
  have h3' : (t.toList == [47]) = false := by
    rw [Lib.toList_data, h2]
    cases r with
    | nil => exact absurd rfl hr
    | cons x y => rfl
  obtain ⟨h4, h5⟩ := byte_at (t := t) (i := 0) (c := 47) (by rw [h]; rfl)
  have h6 : ((((t[0]'h4).toNat : Nat) : Int) != 47) = false := by rw [h5]; rfl
  have hlen : t.size = r.length + 1 := by rw [← bl_len, h]; rfl
  have hr1 : 1 ≤ r.length := by cases r with
    | nil => exact absurd rfl hr
    | cons x y => simp
  have HT : Hid (bl t = 47 :: r) := hid h
  have HLN := hid hlen
  have ht1 : 1 ≤ t.size := by omega
  have HI : Hid (Spt w w t (.slice none 0 0) 1 1) := hid ⟨none, 0, 0, [], rfl, rfl, by omega, by omega, by simp, by omega, World.ownsRow_nil _ _ _ _, Below.refl _ _⟩
  clear h h5 h2 hr hlen hr1
  go_enter Tryz.func138, Tryz.ntmps138
  go_wp2_with fail
  go_loopw [4, 5, 6] (fun v4 v5 v6 wr => ∃ f i : Nat, f ≤ t.size ∧ i ≤ t.size ∧ v5 = .int .i64 (f : Int) ∧ v6 = .int .i64 (i : Int) ∧ Hid (Spt w wr t v4 f i)) (fun _ _ v6 _ => t.size - (intOf v6).toNat)
  case atStart => exact ⟨1, 1, by omega, by omega, rfl, rfl, HI⟩
  case round =>
    clear HI
    obtain ⟨f, i, hf, hi, rfl, rfl, HQ⟩ := hrel
    obtain ⟨a, n, c, xs, rfl, hxl, hnf, hfi, hsp, hup, hO, hB⟩ := HQ.out
    have HSP := hid hsp
    have HUP := hid hup
    have HO := hid hO
    have HB := hid hB
    have hBs := hB.size
    have hxl' : Hid (xs.length = n) := hid hxl
    clear hsp hup hO hB HQ hxl
    have hfi' : (f : Int) ≤ (i : Int) := by omega
    have hi' : (i : Int) ≤ (t.size : Int) := by omega
    have hf' : (f : Int) ≤ (t.size : Int) := by omega
    have hf0 : (0 : Int) ≤ (f : Int) := by omega
    by_cases ei : i = t.size
    · have q1 : ¬ (i : Int) < (t.size : Int) := by omega
      have HE : Hid (i = t.size) := hid ei
      clear ei
      go_wp2_with (at_builtin; go_must (refine wpList_append_own _ rfl (.tmp 35) (.tmp 39) 111 rfl w.heap.size 9 i0 _ 1 16 Tryz.underlying111 hi0 hz0 hz1 hz2 rfl (by decide) _ n (xs.map Value.string) rfl (HO.out.alloc _) ⟨_, 0, none⟩ 1 1 [.string (t.extract f t.size)] rfl rfl (cell_one _ _ _) (by simp [Value.oneCell']) (by unfold maxLen; omega) (by omega) (by simp; omega) ?_))
      intro v' w6 hO hG hN
      have hbel : Below w.heap.size w w6 := (HB.out.alloc hBs (.cells #[.string (t.extract f t.size)] 9)).grown hG (by simp; omega) (fun x hx => (HO.out.lt x hx).1)
      obtain ⟨va, vc, rfl⟩ : ∃ va vc, v' = .slice va (n + 1) vc := by
        rcases hO.2 with ⟨h1, h2⟩ | ⟨g, c, cur, rfl, _⟩
        · omega
        · exact ⟨_, c, rfl⟩
      have HF : Hid ((xs ++ [t.extract f t.size]).map bl = spl r ∧ w6.ownsRow w.heap.size 9 1 (.slice va (n + 1) vc) (n + 1) ((xs ++ [t.extract f t.size]).map Value.string) ∧ Below w.heap.size w w6 ∧ (xs ++ [t.extract f t.size]).length = n + 1) := by
        refine hid ⟨?_, by simpa using hO, hbel, by simp [hxl'.out]⟩
        have e1 := HSP.out
        rw [HT.out] at e1
        rw [show (47 :: r).drop 1 = r from rfl, ← HT.out] at e1
        have e2 : spl ((bl t).drop f) = [(bl t).drop f] := by
          apply spl_no
          have h1 := HUP.out
          have h2 := upto_le ((bl t).drop f)
          have h3 : ((bl t).drop f).length = t.size - f := by rw [List.length_drop, bl_len]
          have h4 := HE.out
          omega
        rw [e1, e2, List.map_append]
        simp [bl_drop]
      have hn : n + 1 ≤ 1048576 := by omega
      clear hO hG hN hbel
      go_wp2_with fail
      go_ret2
      exact ⟨va, n + 1, vc, _, rfl, HF.out.2.2.2, hn, HF.out.1, HF.out.2.1, HF.out.2.2.1⟩
    · have q1 : (i : Int) < (t.size : Int) := by omega
      have hi2 : i < t.size := by omega
      have hx := index_at t i hi2
      obtain ⟨b, gb⟩ : ∃ b, b = t[i]'hi2 := ⟨_, rfl⟩
      rw [← gb] at hx
      have hbt : ((bl t).drop f)[i - f]? = some b := by
        rw [List.getElem?_drop, show f + (i - f) = i by omega, gb]
        exact List.getElem?_eq_some_iff.2 ⟨by rw [bl_len]; exact hi2, rfl⟩
      obtain ⟨u1, u2⟩ := upto_at _ _ _ HUP.out hbt
      have HBT := hid hbt
      clear gb hbt ei
      by_cases hb : b = 47
      · have HU1 := hid (u1 hb)
        have hb1 : (((b.toNat : Nat) : Int) == 47) = true := by rw [hb]; rfl
        clear u1 u2 hb
        go_wp2_with (at_builtin; go_must (refine wpList_append_own _ rfl (.tmp 26) (.tmp 31) 111 rfl w.heap.size 9 i0 _ 1 16 Tryz.underlying111 hi0 hz0 hz1 hz2 rfl (by decide) _ n (xs.map Value.string) rfl (HO.out.alloc _) ⟨_, 0, none⟩ 1 1 [.string (t.extract f i)] rfl rfl (cell_one _ _ _) (by simp [Value.oneCell']) (by unfold maxLen; omega) (by omega) (by simp; omega) ?_))
        intro v' w6 hO hG hN
        have hbel : Below w.heap.size w w6 := (HB.out.alloc hBs (.cells #[.string (t.extract f i)] 9)).grown hG (by simp; omega) (fun x hx => (HO.out.lt x hx).1)
        obtain ⟨va, vc, rfl⟩ : ∃ va vc, v' = .slice va (n + 1) vc := by
          rcases hO.2 with ⟨h1, h2⟩ | ⟨g, c, cur, rfl, _⟩
          · omega
          · exact ⟨_, c, rfl⟩
        have HQ2 : Hid (Spt w w6 t (.slice va (n + 1) vc) (i + 1) (i + 1)) := by
          refine hid ⟨va, n + 1, vc, xs ++ [t.extract f i], rfl, by simp [hxl'.out], by omega, by omega, ?_, by omega, by simpa using hO, hbel⟩
          have h1 := HU1.out
          have h3 : ((bl t).drop f).length = t.size - f := by rw [List.length_drop, bl_len]
          rw [HSP.out, spl_yes ((bl t).drop f) (by omega), h1, List.map_append, List.append_assoc, List.drop_drop, show f + (i - f + 1) = i + 1 by omega]
          simp [bl_ext]
        clear hO hG hN hbel HSP HUP HO HB HU1 hxl' HBT hx hb1
        go_wp2_with fail
        go_roundw
        case rel => exact ⟨i + 1, i + 1, by omega, by omega, by go_num, by go_num, HQ2⟩
        case measure => simp [intOf]; omega
      · have HU2 := hid (u2 hb)
        have hb1 := (ne47 hb).2
        clear u1 u2 hb
        have HQ2 : Hid (Spt w wr t (.slice a n c) f (i + 1)) := hid ⟨a, n, c, xs, rfl, hxl'.out, hnf, by omega, HSP.out, by have := HU2.out; omega, HO.out, HB.out⟩
        go_wp2_with fail
        go_roundw
        case rel => exact ⟨f, i + 1, by omega, by omega, rfl, by go_num, HQ2⟩
        case measure => simp [intOf]; omega

end Go.Proofs.YtbglhmcahnkbfaaGreat

/- The document's file system with a root alone: New, named, look, walk, end. -/
namespace Go.Proofs.YtbglhmcahnkbfaaGreat
open Go.RowKit
set_option linter.unusedVariables false

/-- A root alone. -/
structure R6 (w : World) (p b : Nat) : Prop where
  at0 : ∃ u d, w.heap[p]? = some (.cells #[.slice (some ⟨b, 0, none⟩) 17 17, u, d] 119 (0, 0))
  row : ∃ C : List Value, w.heap[b]? = some (.cells C.toArray 122 (0, 0)) ∧ C.length = 102 ∧ C[6]? = some (.int .i64 2) ∧ C[11]? = some (.slice none 0 0) ∧ C[12]? = some (.int .i64 0)
  ne : p ≠ b

theorem R6.c0 {w : World} {p b : Nat} (h : R6 w p b) : w.cell? ⟨p, 0, none⟩ = some (.slice (some ⟨b, 0, none⟩) 17 17) := by
  obtain ⟨u, d, h⟩ := h.at0
  rw [cell_of_row w _ 0 _ _ _ h]; rfl
theorem R6.cb {w : World} {p b : Nat} (h : R6 w p b) : w.cell? ⟨b, 6, none⟩ = some (.int .i64 2) ∧ w.cell? ⟨b, 11, none⟩ = some (.slice none 0 0) ∧ w.cell? ⟨b, 12, none⟩ = some (.int .i64 0) := by
  obtain ⟨C, h1, h2, h3, h4, h5⟩ := h.row
  exact ⟨cell_list h1 h3, cell_list h1 h4, cell_list h1 h5⟩
theorem R6.lt {w : World} {p b : Nat} (h : R6 w p b) : p < w.heap.size ∧ b < w.heap.size := by
  obtain ⟨u, d, h1⟩ := h.at0
  obtain ⟨C, h2, _⟩ := h.row
  exact ⟨(Array.getElem?_eq_some_iff.1 h1).1, (Array.getElem?_eq_some_iff.1 h2).1⟩
theorem R6.below {w w' : World} {p b : Nat} (h : R6 w p b) (u : Below w.heap.size w w') : R6 w' p b := by
  obtain ⟨l1, l2⟩ := h.lt
  obtain ⟨x, d, h1⟩ := h.at0
  obtain ⟨C, h2, h3⟩ := h.row
  exact ⟨⟨x, d, (u.block p l1).trans h1⟩, ⟨C, (u.block b l2).trans h2, h3⟩, h.ne⟩

end Go.Proofs.YtbglhmcahnkbfaaGreat

/- What the document's walk to a path's end comes to, at a root alone. -/
namespace Go.Proofs.YtbglhmcahnkbfaaGreat
open Go.RowKit
set_option linter.unusedVariables false

theorem own_cells {w : World} {B n c : Nat} {a : Option Addr} {xs : List Value} (h : w.ownsRow B 9 1 (.slice a n c) n xs) (hn : 0 < n) :
    ∃ g, a = some ⟨g, 0, none⟩ ∧ g < w.heap.size ∧ n ≤ c ∧ c ≤ 9223372036854775807 ∧ ∀ j v, j < n → xs[j]? = some v → w.cell? ⟨g, j, none⟩ = some v := by
  obtain ⟨h1, h2⟩ := h
  rcases h2 with ⟨_, h2⟩ | ⟨g, c', cur, e, hb, hg, hnc, hcm, hcs, htake⟩
  · omega
  · injection e with r1 r2 r3
    subst r1
    subst r3
    refine ⟨g, rfl, (Array.getElem?_eq_some_iff.1 hg).1, hnc, by simpa [maxLen] using hcm, fun j v hj hv => ?_⟩
    have hh : w.ownsRow B 9 1 (.slice (some ⟨g, 0, none⟩) n c) n xs := ⟨h1, .inr ⟨g, c, cur, rfl, hb, hg, hnc, hcm, hcs, htake⟩⟩
    rw [hh.cellAt j (by omega)]
    exact hv

set_option maxHeartbeats 2000000 in
theorem end_short (p b : Nat) (t : ByteArray) (w : World) (h : ¬ ((bl t).head? = some 47 ∧ bl t ≠ [47])) :
    Calls Tryz.prog 140 #[.pointer (some ⟨p, 0, none⟩), .string t] w fun e w' => e = .returned (.tuple #[.int .i64 0, .string ⟨#[]⟩, .int .i64 22]) ∧ w' = w := by
  by_cases hr : bl t = [47]
  · have k1 := hid (split_root t w hr)
    clear h hr
    go_enter Tryz.func140, Tryz.ntmps140
    go_wp2_with fail
    refine k1.out.mono ?_
    rintro e w1 ⟨rfl, rfl⟩
    clear k1
    go_wp2_with fail
    go_ret3
    exact ⟨rfl, rfl⟩
  · have k1 : Hid (Calls Tryz.prog 138 #[.string t] w fun e w' => e = .returned (.tuple #[.slice none 0 0, .int .i64 22]) ∧ w' = w) := by
      cases e : bl t with
      | nil => exact hid (split_none t w e)
      | cons c r =>
        refine hid (split_bad t w c r e ?_)
        intro hc
        subst hc
        exact h ⟨by rw [e]; rfl, hr⟩
    clear h hr
    go_enter Tryz.func140, Tryz.ntmps140
    go_wp2_with fail
    refine k1.out.mono ?_
    rintro e w1 ⟨rfl, rfl⟩
    clear k1
    go_wp2_with fail
    go_ret3
    exact ⟨rfl, rfl⟩

end Go.Proofs.YtbglhmcahnkbfaaGreat

/- What the document's New of nodes makes. -/
namespace Go.Proofs.YtbglhmcahnkbfaaGreat
open Go.RowKit
set_option linter.unusedVariables false

theorem made_zs {P : Program} (t e : TypeId) (n : Nat) (z : Value) (size bytes : Nat) (ht : P.underlying t = some (.slice e)) (hi : (P.info? e).map (fun i => (i.zero, i.size, i.bytes)) = some (some z, size, bytes)) (hb : bytes * n ≤ 281474976710656) (hn : n ≤ 1000) :
    ∀ W : World, (Instr.makeSlice t (.int .i64 (n : Int)) (.int .i64 (n : Int))).run P W = .ok (.slice (some ⟨W.heap.size, 0, none⟩) n n) (W.alloc (.cells (madeCells z.cells (n * size)) e)) := by
  obtain ⟨i, hi0, hz0, hz1, hz2⟩ := info_parts hi
  intro W
  have := run_make (P := P) W t e i z ht hi0 hz0 .i64 .i64 (n : Int) (n : Int) (by omega) (by omega) (by rw [hz2]; omega) (by omega)
  simpa [hz1] using this

theorem infoR6 : (Tryz.prog.info? 122).map (fun i => (i.zero, i.size, i.bytes)) = some (some (.agg #[.int .i64 0, .int .i64 0, .int .i64 0, .slice none 0 0, .slice none 0 0, .slice none 0 0]), 6, 96) := by kernel_rfl
theorem infoR6b : (Tryz.prog.info? 4).map (fun i => (i.zero, i.size, i.bytes)) = some (some (.bool false), 1, 1) := by kernel_rfl
theorem csizeR6 : (Tryz.prog.info? 122).map (·.size) = some 6 := by kernel_rfl
theorem builtR6 : Tryz.prog.built 122 [(0, .int .i64 2), (1, .int .i64 1)] = some #[.int .i64 2, .int .i64 1, .int .i64 0, .slice none 0 0, .slice none 0 0, .slice none 0 0] := by kernel_rfl

/-- The cells of no nodes. -/
def noR6 : List Value := (madeCells (Value.agg #[.int .i64 0, .int .i64 0, .int .i64 0, .slice none 0 0, .slice none 0 0, .slice none 0 0]).cells (17 * 6)).toList
theorem noR6_len : noR6.length = 102 := by simp [noR6, size_madeCells]
theorem noR6_12 : noR6[12]? = some (.int .i64 0) := by kernel_rfl

theorem two_allocs (w : World) (a b : Obj) : Below w.heap.size w ((w.alloc a).alloc b) := ((Below.refl _ _).alloc (Nat.le_refl _) _).alloc (by simp) _
theorem three_allocs (w : World) (a b c : Obj) : Below w.heap.size w (((w.alloc a).alloc b).alloc c) := (two_allocs w a b).alloc (by simp; omega) _
theorem first_block (w : World) (C : List Value) (t : TypeId) (b c : Obj) : ((((w.alloc (.cells C.toArray t)).alloc b).alloc c)).heap[w.heap.size]? = some (.cells C.toArray t (0, 0)) := by
  have h := (two_allocs (w.alloc (.cells C.toArray t)) b c).block w.heap.size (by simp)
  exact h.trans (heap_alloc_new w _)
theorem second_block (w : World) (C : List Value) (t : TypeId) (b c : Obj) : ((((w.alloc b).alloc (.cells C.toArray t)).alloc c)).heap[w.heap.size + 1]? = some (.cells C.toArray t (0, 0)) := by
  have h := ((Below.refl _ ((w.alloc b).alloc (.cells C.toArray t))).alloc (Nat.le_refl _) c).block (w.heap.size + 1) (by simp)
  have k := heap_alloc_new (w.alloc b) (.cells C.toArray t)
  rw [show (w.alloc b).heap.size = w.heap.size + 1 by simp] at k
  exact h.trans k

/-- The root is laid. -/
theorem R6.made {w : World} {p b : Nat} {u d : Value} {N : List Value} (hN : N = [.int .i64 2, .int .i64 1, .int .i64 0, .slice none 0 0, .slice none 0 0, .slice none 0 0]) (h1 : w.heap[p]? = some (.cells #[.slice (some ⟨b, 0, none⟩) 17 17, u, d] 119 (0, 0))) (h2 : w.heap[b]? = some (.cells noR6.toArray 122 (0, 0))) (hn : p ≠ b) : R6 (w.setCells b 6 N) p b := by
  have h3 := heap_setCells b 122 N 6 w noR6 h2 (by rw [noR6_len, hN]; simp)
  refine ⟨⟨u, d, ((upd_setCells b N 6 w).block p (Array.getElem?_eq_some_iff.1 h1).1 hn).trans h1⟩, ⟨_, h3, ?_, ?_, ?_, ?_⟩, hn⟩
  · rw [length_splice _ _ _ (by rw [noR6_len, hN]; simp)]; exact noR6_len
  · rw [show 6 = 6 + 0 from rfl, getElem?_splice_in _ _ _ _ (by rw [noR6_len, hN]; simp) (by rw [hN]; simp), hN]; rfl
  · rw [show 11 = 6 + 5 from rfl, getElem?_splice_in _ _ _ _ (by rw [noR6_len, hN]; simp) (by rw [hN]; simp), hN]; rfl
  · rw [getElem?_splice_out _ _ _ _ (by rw [noR6_len, hN]; simp) (by rw [hN]; simp)]; exact noR6_12

end Go.Proofs.YtbglhmcahnkbfaaGreat

/- What the document's add and Make do, at a root alone. -/
namespace Go.Proofs.YtbglhmcahnkbfaaGreat
open Go.RowKit
set_option linter.unusedVariables false

theorem infoNm : (Tryz.prog.info? 124).map (fun i => (i.zero, i.size, i.bytes)) = some (some (.agg #[.string ⟨#[]⟩, .int .i64 0]), 2, 24) := by kernel_rfl

theorem cell_two (w : World) (u v : Value) (ty : TypeId) : ∀ j x, ([u, v] : List Value)[j]? = some x → (w.alloc (.cells #[u, v] ty)).cell? ((⟨w.heap.size, 0, none⟩ : Addr).add j) = some x := by
  intro j x h
  cases j with
  | zero => simp at h; subst h; simp [Addr.add, go_sem]
  | succ j => cases j with
    | zero => simp at h; subst h; simp [Addr.add, go_sem]
    | succ j => simp at h

theorem builtR1 : Tryz.prog.built 122 [(0, .int .i64 1), (1, .int .i64 1)] = some #[.int .i64 1, .int .i64 1, .int .i64 0, .slice none 0 0, .slice none 0 0, .slice none 0 0] := by kernel_rfl

end Go.Proofs.YtbglhmcahnkbfaaGreat

/- Whether a number stands in a list of numbers (slices.Contains). -/
namespace Go.Proofs.YtbglhmcahnkbfaaGreat
open Go.RowKit
set_option linter.unusedVariables false
set_option maxRecDepth 20000

end Go.Proofs.YtbglhmcahnkbfaaGreat

/- What give does where the name is there already. -/
namespace Go.Proofs.YtbglhmcahnkbfaaGreat
open Go.RowKit Go.ChangeMaps Go.MapKept
set_option linter.unusedVariables false
set_option maxRecDepth 20000

end Go.Proofs.YtbglhmcahnkbfaaGreat
