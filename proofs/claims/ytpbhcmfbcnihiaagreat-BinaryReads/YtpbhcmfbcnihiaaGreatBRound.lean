/- Executed programs as bytes, there and back; no program in sight. -/
import Derived.Test.YtpbhcmfbcnihiaaGreatBDec
import Derived.Test.YtpbhcmfbcnihiaaGreatBEnc
import Derived.Test.YtpbhcmfbcnihiaaGreatBack
namespace Go.Proofs.YtpbhcmfbcnihiaaGreat
open Go.RowKit Num
set_option linter.unusedVariables false
set_option maxRecDepth 20000

/-- What is read of these bytes, whatever stands behind. -/
def Fw {α : Type} (rd : α → List Int → Option (α × Nat)) (z : α) (e : List Int) (x : α) : Prop := ∀ r, rd z (e ++ r) = some (x, e.length)

theorem fw_rN (m n z : Int) (h0 : 0 ≤ n + m) (h : n + m < 9223372036854775808) : Fw (rN m) z (eN m n) n := fun r => by
  unfold rN eN
  rw [dec_enc _ (by omega)]
  simp
  omega
theorem fw_rS (n z : Int) (h : okI n) : Fw rS z (eS n) n := fun r => by
  unfold rS eS
  rw [dec_enc _ (fld_lt h)]
  simp [unf_fld]
theorem fw_rT (zs z : List Int) (h : zs.length ≤ 2048) : Fw (rT 2048) z (eT zs) zs := fun r => by
  have hd := dec_enc zs.length (by omega) (zs ++ r)
  have ht : txt (enc zs.length ++ (zs ++ r)) 2048 = (zs, (enc zs.length).length + zs.length, 0) := by
    unfold txt
    rw [hd]
    dsimp only
    rw [if_neg (by omega), if_neg (by omega), if_neg (by simp only [List.length_append]; omega)]
    simp
  unfold rT eT
  rw [List.append_assoc, ht]
  simp
theorem fw_rP {α β : Type} {sel : α → β} {up : α → β → α} {rd : β → List Int → Option (β × Nat)} {x : α} {e : List Int} {y : β} (h : Fw rd (sel x) e y) : Fw (rP sel up rd) x e (up x y) := fun r => by
  unfold rP
  rw [h r]
  rfl
theorem fw_nil {α : Type} (x : α) : Fw (rSeq []) x [] x := fun r => rfl
theorem fw_cons {α : Type} {r1 : α → List Int → Option (α × Nat)} {rs : List (α → List Int → Option (α × Nat))} {x y z : α} {e1 e2 : List Int} (h1 : Fw r1 x e1 y) (h2 : Fw (rSeq rs) y e2 z) : Fw (rSeq (r1 :: rs)) x (e1 ++ e2) z := fun r => by
  simp only [rSeq]
  rw [List.append_assoc, h1 (e2 ++ r)]
  simp only [Option.bind_some, List.drop_left]
  rw [h2 r]
  simp
theorem fw_one {α : Type} {r1 : α → List Int → Option (α × Nat)} {x y : α} {e1 : List Int} (h1 : Fw r1 x e1 y) : Fw (rSeq [r1]) x e1 y := by
  have := fw_cons h1 (fw_nil y)
  simpa using this
theorem fw_rI {α : Type} (rd : α → List Int → Option (α × Nat)) (z : α) (en : α → List Int) (l : List α) (h : ∀ x ∈ l, Fw rd z (en x) x) (r : List Int) : ∀ i, i ≤ l.length → rI rd z i ((l.map en).flatten ++ r) = some (l.take i, ((l.take i).map en).flatten.length)
  | 0, _ => by simp [rI]
  | i + 1, hi => by
    have hil : i < l.length := by omega
    simp only [rI]
    rw [fw_rI rd z en l h r i (by omega)]
    simp only [Option.bind_some]
    have hsp : (l.map en).flatten ++ r = ((l.take i).map en).flatten ++ (en l[i] ++ (((l.drop (i + 1)).map en).flatten ++ r)) := by
      conv => lhs; rw [← List.take_append_drop (i + 1) l]
      rw [List.map_append, List.flatten_append, take_one l i hil, List.map_append, List.flatten_append]
      simp
    rw [hsp, List.drop_left, h l[i] (List.getElem_mem hil)]
    rw [take_one l i hil, List.map_append, List.flatten_append]
    simp
theorem fw_rL {α : Type} (most : Nat) (rd : α → List Int → Option (α × Nat)) (z : α) (en : α → List Int) (l : List α) (z0 : List α) (h : ∀ x ∈ l, Fw rd z (en x) x) (hm : l.length ≤ most) (hb : most ≤ 400) : Fw (rL most rd z) z0 (eL en l) l := fun r => by
  unfold rL eL
  rw [List.append_assoc, dec_enc _ (by omega)]
  simp only [if_true, if_pos hm, List.drop_left]
  rw [fw_rI rd z en l h r l.length (Nat.le_refl _)]
  simp

theorem fw_rWd {i : Nat} (hi : i ≤ 64) {x : Wd} (h : wB i x = true) : Fw rWd zW (eW x) x := by
  obtain ⟨h1, h2, h3⟩ := wB_is hi h
  unfold okI at h1
  have e := fw_cons (fw_rP (sel := fun x : Wd => x.r) (up := fun x y => ⟨y, x.v⟩) (x := zW) (fw_rN 1 x.r zW.r (by omega) (by omega))) (fw_one (fw_rP (sel := fun x : Wd => x.v) (up := fun x y => ⟨x.r, y⟩) (x := ⟨x.r, zW.v⟩) (fw_rS x.v zW.v h2)))
  exact e
theorem fw_rCp {i : Nat} (hi : i ≤ 64) {c : Cp} (h : cB i c = true) : Fw rCp zC (eC c) c := by
  obtain ⟨h1, h2, h3, h4, h5, h6, h7, h8⟩ := cB_is hi h
  unfold okI at h1 h2 h3
  have key : Fw (rCh rLaid rRes) ⟨c.a, c.r, 0, 0, []⟩ (eR c) c := by
    by_cases hr : c.r = -1
    · have hc : c.s = 0 ∧ c.v = 0 := by
        unfold cB at h
        rw [Bool.and_eq_true, if_pos hr] at h
        have := of_decide_eq_true h.2
        exact ⟨this.1, this.2.1⟩
      have e : Fw rLaid ⟨c.a, c.r, 0, 0, []⟩ (eT c.bs) c := by
        have := fw_rP (sel := fun c : Cp => c.bs) (up := fun c y => ⟨c.a, c.r, c.s, c.v, y⟩) (x := ⟨c.a, c.r, 0, 0, []⟩) (fw_rT c.bs [] h5)
        obtain ⟨a, r, s, v, bs⟩ := c
        simp only at hc
        obtain ⟨rfl, rfl⟩ := hc
        exact this
      intro q
      unfold rCh eR
      rw [if_pos hr, if_pos hr]
      exact e q
    · have hc : c.bs = [] := by
        unfold cB at h
        rw [Bool.and_eq_true, if_neg hr] at h
        simp only [Bool.and_eq_true, decide_eq_true_eq] at h
        exact List.eq_nil_of_length_eq_zero h.2.2
      have e : Fw rRes ⟨c.a, c.r, 0, 0, []⟩ (eN 0 c.s ++ eS c.v) c := by
        have := fw_cons (fw_rP (sel := fun c : Cp => c.s) (up := fun c y => ⟨c.a, c.r, y, c.v, c.bs⟩) (x := ⟨c.a, c.r, 0, 0, []⟩) (fw_rN 0 c.s 0 (by omega) (by omega))) (fw_one (fw_rP (sel := fun c : Cp => c.v) (up := fun c y => ⟨c.a, c.r, c.s, y, c.bs⟩) (x := ⟨c.a, c.r, c.s, 0, []⟩) (fw_rS c.v 0 h4)))
        obtain ⟨a, r, s, v, bs⟩ := c
        simp only at hc
        subst hc
        exact this
      intro q
      unfold rCh eR
      rw [if_neg hr, if_neg hr]
      exact e q
  exact fw_cons (fw_rP (sel := fun c : Cp => c.a) (up := fun c y => ⟨y, c.r, c.s, c.v, c.bs⟩) (x := zC) (fw_rN 0 c.a 0 (by omega) (by omega))) (fw_cons (fw_rP (sel := fun c : Cp => c.r) (up := fun c y => ⟨c.a, y, c.s, c.v, c.bs⟩) (x := ⟨c.a, 0, 0, 0, []⟩) (fw_rN 1 c.r 0 (by omega) (by omega))) (fw_one key))
theorem fw_rEx {i : Nat} (hi : i ≤ 64) {x : Ex} (h : xB i x = true) : Fw rEx zX (eX x) x := by
  obtain ⟨⟨a1, a2, a3, a4⟩, b, c⟩ := xB_is h
  exact fw_cons (fw_rP (sel := fun x : Ex => x.n) (up := fun x y => ⟨y, x.cs, x.ws⟩) (x := zX) (fw_rN 0 x.n 0 (by omega) (by omega))) (fw_cons (fw_rP (sel := fun x : Ex => x.cs) (up := fun x y => ⟨x.n, y, x.ws⟩) (x := ⟨x.n, [], []⟩) (fw_rL 400 rCp zC eC x.cs [] (fun y hy => fw_rCp hi (b y hy)) a3 (by omega))) (fw_one (fw_rP (sel := fun x : Ex => x.ws) (up := fun x y => ⟨x.n, x.cs, y⟩) (x := ⟨x.n, x.cs, []⟩) (fw_rL 6 rWd zW eW x.ws [] (fun y hy => fw_rWd hi (c y hy)) a4 (by omega)))))
theorem fw_list {l : List Ex} (h : pB l = true) : Fw (rL 64 rEx zX) [] (eP l) l := by
  obtain ⟨h1, h2⟩ := pB_is h
  exact fw_rL 64 rEx zX eX l [] (fun x hx => by obtain ⟨i, hi, hx'⟩ := h2 x hx; exact fw_rEx hi hx') h1 (by omega)
/-- What is written is read as it was; with anything behind it is not. -/
theorem dcd_there {l : List Ex} (h : pB l = true) : dcd (eP l) = some l := by
  have e := fw_list h []
  rw [List.append_nil] at e
  have : rPg [] (eP l) = some (l, (eP l).length + 0) := by
    unfold rPg
    simp only [rSeq, e, Option.bind_some, List.drop_length]
    simp [rE]
  unfold dcd
  rw [this]
  simp [h]
theorem dcd_more {l : List Ex} (h : pB l = true) (r : List Int) (hr : r ≠ []) : dcd (eP l ++ r) = none := by
  have e := fw_list h r
  have : rPg [] (eP l ++ r) = none := by
    unfold rPg
    simp only [rSeq, e, Option.bind_some, List.drop_left]
    have : ¬ r.length = 0 := fun h => hr (List.eq_nil_of_length_eq_zero h)
    simp [rE, this]
  unfold dcd
  rw [this]

/-- What is read is what stands there. -/
theorem seq_inv {α : Type} {r1 : α → List Int → Option (α × Nat)} {rs : List (α → List Int → Option (α × Nat))} {x z : α} {zs : List Int} {k : Nat} (h : rSeq (r1 :: rs) x zs = some (z, k)) : ∃ y n m, r1 x zs = some (y, n) ∧ rSeq rs y (zs.drop n) = some (z, m) ∧ k = n + m := by
  simp only [rSeq] at h
  cases h1 : r1 x zs with
  | none => rw [h1] at h; simp at h
  | some y =>
    rw [h1] at h
    simp only [Option.bind_some] at h
    cases h2 : rSeq rs y.1 (zs.drop y.2) with
    | none => rw [h2] at h; simp at h
    | some u =>
      rw [h2] at h
      simp only [Option.map_some, Option.some.injEq, Prod.mk.injEq] at h
      exact ⟨y.1, y.2, u.2, rfl, by rw [h2, ← h.1], h.2.symm⟩
theorem seq_end {α : Type} {x z : α} {zs : List Int} {k : Nat} (h : rSeq [] x zs = some (z, k)) : x = z ∧ k = 0 := by
  simp only [rSeq, Option.some.injEq, Prod.mk.injEq] at h
  exact ⟨h.1, h.2.symm⟩
theorem part_inv {α β : Type} {sel : α → β} {up : α → β → α} {rd : β → List Int → Option (β × Nat)} {x z : α} {zs : List Int} {k : Nat} (h : rP sel up rd x zs = some (z, k)) : ∃ y, rd (sel x) zs = some (y, k) ∧ z = up x y := by
  unfold rP at h
  rw [Option.map_eq_some_iff] at h
  obtain ⟨y, h1, h2⟩ := h
  cases h2
  exact ⟨y.1, h1, rfl⟩
/-- These bytes stand there. -/
def Bw (zs : List Int) (k : Nat) (e : List Int) : Prop := k ≤ zs.length ∧ zs.take k = e
theorem Bw.app {zs : List Int} {n m : Nat} {e f : List Int} (h : Bw zs n e) (k : Bw (zs.drop n) m f) : Bw zs (n + m) (e ++ f) := by
  obtain ⟨h1, h2⟩ := h
  obtain ⟨k1, k2⟩ := k
  rw [List.length_drop] at k1
  exact ⟨by omega, by rw [List.take_add, h2, k2]⟩
theorem bw_rN {m z n : Int} {zs : List Int} {k : Nat} (hb : Bytes zs) (h : rN m z zs = some (n, k)) : Bw zs k (eN m n) := by
  unfold rN at h
  split at h
  · rename_i h0
    simp only [Option.some.injEq, Prod.mk.injEq] at h
    rcases dec_got zs hb with hd | hd
    · obtain ⟨_, _, _, _, h5, h6⟩ := hd
      rw [← h.2]
      refine ⟨h5, ?_⟩
      unfold eN
      rw [← h.1, ← h6]
      congr 1
      omega
    · exact absurd h0 hd.1
  · cases h
theorem fld_unf (n : Nat) : (fld (unf n)).toNat = n := by unfold fld unf; split <;> split <;> omega
theorem bw_rS {z n : Int} {zs : List Int} {k : Nat} (hb : Bytes zs) (h : rS z zs = some (n, k)) : Bw zs k (eS n) := by
  unfold rS at h
  split at h
  · rename_i h0
    simp only [Option.some.injEq, Prod.mk.injEq] at h
    rcases dec_got zs hb with hd | hd
    · obtain ⟨_, _, _, _, h5, h6⟩ := hd
      rw [← h.2]
      refine ⟨h5, ?_⟩
      unfold eS
      rw [← h.1, fld_unf, ← h6]
    · exact absurd h0 hd.1
  · cases h
theorem bw_rT {m : Int} {z n : List Int} {zs : List Int} {k : Nat} (hb : Bytes zs) (h : rT m z zs = some (n, k)) : Bw zs k (eT n) := by
  unfold rT at h
  split at h
  · rename_i h0
    simp only [Option.some.injEq, Prod.mk.injEq] at h
    unfold txt at h0 h
    rcases dec_got zs hb with hd | hd
    · obtain ⟨h1, _, _, _, h5, h6⟩ := hd
      rw [if_neg (by omega)] at h0 h
      split at h0
      · simp at h0
      · rename_i hm
        split at h0
        · simp at h0
        · rename_i hl
          rw [if_neg hm, if_neg hl] at h
          simp only at h
          rw [← h.2, ← h.1]
          refine ⟨by omega, ?_⟩
          unfold eT
          rw [List.take_add, ← h6]
          congr 2
          simp
          omega
    · rw [if_pos hd.1] at h0
      exact absurd h0 hd.1
  · cases h
theorem bw_rI {α : Type} (rd : α → List Int → Option (α × Nat)) (z : α) (en : α → List Int) (h : ∀ zs, Bytes zs → ∀ x k, rd z zs = some (x, k) → Bw zs k (en x)) (zs : List Int) (hb : Bytes zs) : ∀ i l k, rI rd z i zs = some (l, k) → Bw zs k (l.map en).flatten
  | 0, l, k, e => by simp only [rI, Option.some.injEq, Prod.mk.injEq] at e; rw [← e.1, ← e.2]; exact ⟨Nat.zero_le _, rfl⟩
  | i + 1, l, k, e => by
    simp only [rI] at e
    cases h1 : rI rd z i zs with
    | none => rw [h1] at e; simp at e
    | some y =>
      rw [h1] at e
      simp only [Option.bind_some] at e
      cases h2 : rd z (zs.drop y.2) with
      | none => rw [h2] at e; simp at e
      | some u =>
        rw [h2] at e
        simp only [Option.map_some, Option.some.injEq, Prod.mk.injEq] at e
        rw [← e.1, ← e.2, List.map_append, List.flatten_append]
        have := (bw_rI rd z en h zs hb i y.1 y.2 h1).app (h _ (hb.drop _) u.1 u.2 h2)
        simpa using this
theorem bw_rL {α : Type} (most : Nat) (rd : α → List Int → Option (α × Nat)) (z : α) (en : α → List Int) (h : ∀ zs, Bytes zs → ∀ x k, rd z zs = some (x, k) → Bw zs k (en x)) {z0 l : List α} {zs : List Int} {k : Nat} (hb : Bytes zs) (e : rL most rd z z0 zs = some (l, k)) : Bw zs k (eL en l) := by
  unfold rL at e
  split at e
  · rename_i h0
    split at e
    · rw [Option.map_eq_some_iff] at e
      obtain ⟨y, h1, h2⟩ := e
      cases h2
      rcases dec_got zs hb with hd | hd
      · obtain ⟨_, _, _, _, h5, h6⟩ := hd
        have hl := rI_len rd z _ _ y h1
        unfold eL
        rw [hl]
        exact Bw.app ⟨h5, h6.symm⟩ (bw_rI rd z en h _ (hb.drop _) _ _ _ h1)
      · exact absurd h0 hd.1
    · cases e
  · cases e
theorem bw_rWd (zs : List Int) (hb : Bytes zs) (x : Wd) (k : Nat) (h : rWd zW zs = some (x, k)) : Bw zs k (eW x) := by
  obtain ⟨y, n, m, h1, h2, rfl⟩ := seq_inv h
  obtain ⟨u, n2, m2, h3, h4, rfl⟩ := seq_inv h2
  obtain ⟨rfl, rfl⟩ := seq_end h4
  obtain ⟨r, ph1, rfl⟩ := part_inv h1
  obtain ⟨v, ph3, rfl⟩ := part_inv h3
  exact (bw_rN hb ph1).app (bw_rS (hb.drop _) ph3)
theorem bw_rCp (zs : List Int) (hb : Bytes zs) (x : Cp) (k : Nat) (h : rCp zC zs = some (x, k)) : Bw zs k (eC x) := by
  obtain ⟨y, n, m, h1, h2, rfl⟩ := seq_inv h
  obtain ⟨u, n2, m2, h3, h4, rfl⟩ := seq_inv h2
  obtain ⟨v, n3, m3, h5, h6, rfl⟩ := seq_inv h4
  obtain ⟨rfl, rfl⟩ := seq_end h6
  obtain ⟨a, ph1, rfl⟩ := part_inv h1
  obtain ⟨r, ph3, rfl⟩ := part_inv h3
  unfold rCh at h5
  split at h5
  · rename_i hr
    obtain ⟨bs, ph5, rfl⟩ := part_inv h5
    have e := (bw_rN hb ph1).app ((bw_rN (hb.drop _) ph3).app (bw_rT ((hb.drop _).drop _) ph5))
    unfold eC eR
    rw [if_pos hr]
    exact e
  · rename_i hr
    obtain ⟨y2, q1, q2, g1, g2, rfl⟩ := seq_inv h5
    obtain ⟨y3, q3, q4, g3, g4, rfl⟩ := seq_inv g2
    obtain ⟨rfl, rfl⟩ := seq_end g4
    obtain ⟨s, pg1, rfl⟩ := part_inv g1
    obtain ⟨w, pg3, rfl⟩ := part_inv g3
    have e := (bw_rN hb ph1).app ((bw_rN (hb.drop _) ph3).app ((bw_rN ((hb.drop _).drop _) pg1).app (bw_rS (((hb.drop _).drop _).drop _) pg3)))
    unfold eC eR
    rw [if_neg hr]
    exact e
theorem bw_rEx (zs : List Int) (hb : Bytes zs) (x : Ex) (k : Nat) (h : rEx zX zs = some (x, k)) : Bw zs k (eX x) := by
  obtain ⟨y, n, m, h1, h2, rfl⟩ := seq_inv h
  obtain ⟨u, n2, m2, h3, h4, rfl⟩ := seq_inv h2
  obtain ⟨v, n3, m3, h5, h6, rfl⟩ := seq_inv h4
  obtain ⟨rfl, rfl⟩ := seq_end h6
  obtain ⟨a, ph1, rfl⟩ := part_inv h1
  obtain ⟨b, ph3, rfl⟩ := part_inv h3
  obtain ⟨c, ph5, rfl⟩ := part_inv h5
  exact (bw_rN hb ph1).app ((bw_rL 400 rCp zC eC bw_rCp (hb.drop _) ph3).app (bw_rL 6 rWd zW eW bw_rWd ((hb.drop _).drop _) ph5))
theorem dcd_back {zs : List Int} (hb : Bytes zs) {l : List Ex} (h : dcd zs = some l) : zs = eP l ∧ pB l = true := by
  unfold dcd at h
  cases h1 : rPg [] zs with
  | none => rw [h1] at h; cases h
  | some y =>
    rw [h1] at h
    obtain ⟨m, k⟩ := y
    simp only at h
    split at h
    · rename_i hp
      cases h
      obtain ⟨y, n, q, g1, g2, rfl⟩ := seq_inv h1
      obtain ⟨u, n2, q2, g3, g4, rfl⟩ := seq_inv g2
      obtain ⟨rfl, rfl⟩ := seq_end g4
      unfold rE at g3
      split at g3
      · rename_i h0
        cases g3
        have e := bw_rL 64 rEx zX eX bw_rEx hb g1
        rw [List.length_drop] at h0
        refine ⟨?_, hp⟩
        rw [← show zs.take n = eP y from e.2, List.take_of_length_le (by omega)]
      · cases g3
    · cases h
/-- No beginning is one. -/
theorem dcd_torn {l : List Ex} (h : pB l = true) (hb : Bytes (eP l)) (k : Nat) (hk : k < (eP l).length) : dcd ((eP l).take k) = none := by
  cases hd : dcd ((eP l).take k) with
  | none => rfl
  | some m =>
    obtain ⟨h1, h2⟩ := dcd_back (hb.take k) hd
    have h3 := dcd_more h2 ((eP l).drop k) (fun e => by have := congrArg List.length e; simp at this; omega)
    rw [← h1, List.take_append_drop, dcd_there h] at h3
    cases h3
theorem mem_eL {α : Type} {f : α → List Int} {l : List α} {x : α} (hx : x ∈ l) {z : Int} (hz : z ∈ f x) : z ∈ eL f l := by
  unfold eL
  rw [List.mem_append]
  exact .inr (List.mem_flatten.2 ⟨f x, List.mem_map.2 ⟨x, hx, rfl⟩, hz⟩)
theorem by_of {l : List Ex} (h : pB l = true) (hb : Bytes (eP l)) : ByP l := by
  intro x hx c hc z hz
  obtain ⟨i, hi, hx'⟩ := (pB_is h).2 x hx
  have hcB := (xB_is hx').2.1 c hc
  have hr : c.r = -1 := by
    rcases Classical.em (c.r = -1) with e | e
    · exact e
    · unfold cB at hcB
      rw [Bool.and_eq_true, if_neg e] at hcB
      simp only [Bool.and_eq_true, decide_eq_true_eq] at hcB
      rw [List.eq_nil_of_length_eq_zero hcB.2.2] at hz
      cases hz
  refine hb z (mem_eL hx ?_)
  unfold eX
  rw [List.mem_append, List.mem_append]
  refine .inr (.inl (mem_eL hc ?_))
  unfold eC eR eT
  rw [if_pos hr]
  simp [hz]
theorem bytes_flat {α : Type} {f : α → List Int} {l : List α} (h : ∀ x ∈ l, Bytes (f x)) : Bytes (eL f l) := by
  unfold eL
  refine (enc_bytes _).append (fun z hz => ?_)
  obtain ⟨q, hq, hz⟩ := List.mem_flatten.1 hz
  obtain ⟨x, hx, rfl⟩ := List.mem_map.1 hq
  exact h x hx z hz
theorem eP_bytes {l : List Ex} (h : ByP l) : Bytes (eP l) :=
  bytes_flat (fun x hx => (enc_bytes _).append ((bytes_flat (fun c hc => (enc_bytes _).append ((enc_bytes _).append (by
    unfold eR
    split
    · exact (enc_bytes _).append (h x hx c hc)
    · exact (enc_bytes _).append (enc_bytes _)))))
    |>.append (bytes_flat (fun y hy => (enc_bytes _).append (enc_bytes _)))))

end Go.Proofs.YtpbhcmfbcnihiaaGreat
