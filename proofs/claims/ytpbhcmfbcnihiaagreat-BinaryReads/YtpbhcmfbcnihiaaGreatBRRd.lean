/- The document's reader of layer 18: a number, a whole number, a count, a text. -/
import Derived.Test.YtpbhcmfbcnihiaaGreatBRR
import Derived.Test.YtpbhcmfbcnihiaaGreatBRound
namespace Go.Proofs.YtpbhcmfbcnihiaaGreat
open Go.RowKit Num
set_option linter.unusedVariables false
set_option maxRecDepth 20000

/-- What is left to read, and whether something was bad. -/
structure Rs where
  zs : List Int
  bad : Bool
def uR (s : Rs) : Nat × Rs := ((dec s.zs).1, ⟨s.zs.drop (dec s.zs).2.1, s.bad || decide ((dec s.zs).2.2 ≠ 0)⟩)
def cR (most : Nat) (s : Rs) : Nat × Rs := (if ((uR s).2.bad || decide (most < (uR s).1)) = true then 0 else (uR s).1, ⟨(uR s).2.zs, (uR s).2.bad || decide (most < (uR s).1)⟩)
def tR (s : Rs) : List Int × Rs := ((txt s.zs 2048).1, ⟨s.zs.drop (txt s.zs 2048).2.1, s.bad || decide ((txt s.zs 2048).2.2 ≠ 0)⟩)

/-- The document's reader as it lies: two blocks; its bytes lie below. -/
structure Rf (w : World) (L p q : Nat) (s : Rs) : Prop where
  own : w.heap[p]? = some (.cells #[.pointer (some ⟨q, 0, none⟩), .bool s.bad] 66 (0, 0))
  ref : ∃ a n c, w.heap[q]? = some (.cells #[.slice a n c] 64 (0, 0)) ∧ n ≤ c ∧ c ≤ 281474976710656 ∧ (a = none → c = 0) ∧ Src w a n s.zs ∧ ∀ b o, 0 < n → a = some ⟨b, o, none⟩ → b < L
  lp : L ≤ p
  lq : L ≤ q
  ne : p ≠ q
  by_ : Bytes s.zs

theorem Rf.upd {w w' : World} {L p q : Nat} {s : Rs} {F : Nat → Prop} (h : Rf w L p q s) (u : Upd F w w') (hp : ¬ F p) (hq : ¬ F q) (hF : ∀ k, F k → L ≤ k) : Rf w' L p q s := by
  obtain ⟨a, n, c, h1, h2, h3, h4, h5, h6⟩ := h.ref
  refine ⟨u.heap h.own hp, ⟨a, n, c, u.heap h1 hq, h2, h3, h4, ⟨h5.1, fun hl => ?_⟩, h6⟩, h.lp, h.lq, h.ne, h.by_⟩
  obtain ⟨b, o, e, hlt, hc⟩ := h5.2 hl
  exact ⟨b, o, e, Nat.lt_of_lt_of_le hlt u.size, fun j hj => (u.atc (o + j) hlt (fun hf => by have := hF b hf; have := h6 b o hl e; omega)).trans (hc j hj)⟩
theorem Rf.below {w w' : World} {L p q : Nat} {s : Rs} (h : Rf w L p q s) (hb : Below w.heap.size w w') : Rf w' L p q s := h.upd (F := fun _ => False) (Upd.of_below hb) (fun h => h) (fun h => h) (fun _ h => h.elim)
theorem Rf.pl {w : World} {L p q : Nat} {s : Rs} (h : Rf w L p q s) : p < w.heap.size := (Array.getElem?_eq_some_iff.1 h.own).1
theorem Rf.ql {w : World} {L p q : Nat} {s : Rs} (h : Rf w L p q s) : q < w.heap.size := by
  obtain ⟨a, n, c, h1, _⟩ := h.ref
  exact (Array.getElem?_eq_some_iff.1 h1).1
/-- The world's first blocks alone. -/
theorem Src.cutW {w : World} {L : Nat} {a : Option Addr} {n : Nat} {zs : List Int} (hL : L ≤ w.heap.size) (h : Src w a n zs) (hb : ∀ b o, 0 < n → a = some ⟨b, o, none⟩ → b < L) : Src { w with heap := w.heap.extract 0 L } a n zs := by
  refine ⟨h.1, fun hl => ?_⟩
  obtain ⟨b, o, e, hlt, hc⟩ := h.2 hl
  have hbL := hb b o hl e
  refine ⟨b, o, e, ?_, fun j hj => (World.cell?_of_block (w := w) (a := ⟨b, o + j, none⟩) ?_).trans (hc j hj)⟩
  · show b < (w.heap.extract 0 L).size
    simp
    omega
  · show (w.heap.extract 0 L)[b]? = w.heap[b]?
    rw [Array.getElem?_extract]
    simp
    omega
/-- The reader of layer 1 within it goes on. -/
theorem Rf.kept {w w' : World} {L p q : Nat} {s : Rs} {a : Option Addr} {n c : Nat} (h : Rf w L p q s) (h1 : w.heap[q]? = some (.cells #[.slice a n c] 64 (0, 0))) (hs : Src w a n s.zs) (hl : ∀ b o, 0 < n → a = some ⟨b, o, none⟩ → b < L) (k : Nat) (hk : Kept w w' q a n s.zs k) : Rf w' L p q ⟨s.zs.drop k, s.bad⟩ ∧ Upd (· = q) w w' := by
  obtain ⟨a', n', c', rfl, e1, e2, e3, e4, e5⟩ := hk
  have hs' := e5 w hs
  have hql : q < w.heap.size := (Array.getElem?_eq_some_iff.1 h1).1
  have hlq := h.lq
  have hLs : L ≤ w.heap.size := by omega
  have u : Upd (· = q) w (w.setCell ⟨q, 0, none⟩ (.slice a' n' c')) := Upd.setCell w ⟨q, 0, none⟩ _ rfl
  have hb : ∀ b o, 0 < n' → a' = some ⟨b, o, none⟩ → b < L := fun b o h0 e => by
    obtain ⟨b2, o2, q2, hlt2, _⟩ := (e5 _ (hs.cutW hLs hl)).2 h0
    rw [e] at q2
    cases q2
    have : b < (w.heap.extract 0 L).size := hlt2
    simp at this
    omega
  refine ⟨⟨u.heap h.own h.ne, ⟨a', n', c', ?_, e2, e3, e4, ⟨hs'.1, fun hl' => ?_⟩, hb⟩, h.lp, h.lq, h.ne, h.by_.drop k⟩, u⟩
  · rw [heap_setCell_same w q 0 _ _ _ h1]
    rfl
  · obtain ⟨b, o, e, hlt, hc⟩ := hs'.2 hl'
    have hbL := hb b o hl' e
    exact ⟨b, o, e, Nat.lt_of_lt_of_le hlt u.size, fun j hj => (u.atc (o + j) hlt (by omega)).trans (hc j hj)⟩
theorem Rf.setBad {w : World} {L p q : Nat} {s : Rs} (h : Rf w L p q s) (b : Bool) : Rf (w.setCell ⟨p, 1, none⟩ (.bool b)) L p q ⟨s.zs, b⟩ := by
  have u : Upd (· = p) w (w.setCell ⟨p, 1, none⟩ (.bool b)) := Upd.setCell w ⟨p, 1, none⟩ _ rfl
  obtain ⟨a, n, c, h1, h2, h3, h4, h5, h6⟩ := h.ref
  have hlp := h.lp
  refine ⟨?_, ⟨a, n, c, u.heap h1 (fun e => h.ne e.symm), h2, h3, h4, ⟨h5.1, fun hl => ?_⟩, h6⟩, h.lp, h.lq, h.ne, h.by_⟩
  · rw [heap_setCell_same w p 1 _ _ _ h.own]
    rfl
  · obtain ⟨b', o, e, hlt, hc⟩ := h5.2 hl
    have hbL := h6 b' o hl e
    exact ⟨b', o, e, Nat.lt_of_lt_of_le hlt u.size, fun j hj => (u.atc (o + j) hlt (by omega)).trans (hc j hj)⟩
theorem Rf.refOf {w : World} {L p q : Nat} {s : Rs} (h : Rf w L p q s) : ∃ a n c, w.heap[q]? = some (.cells #[.slice a n c] 64 (0, 0)) ∧ Ref w q a n c ∧ Src w a n s.zs ∧ ∀ b o, 0 < n → a = some ⟨b, o, none⟩ → b < L := by
  obtain ⟨a, n, c, h1, h2, h3, h4, h5, h6⟩ := h.ref
  exact ⟨a, n, c, h1, ⟨cell_of_row w q 0 _ _ _ h1, frozen_of_row w q 0 _ _ h1, h2, h3, h4⟩, h5, h6⟩

set_option maxHeartbeats 4000000 in
theorem ruint18 (L p q : Nat) (s : Rs) (w : World) (h : Rf w L p q s) :
    Calls Tryz.prog 26 #[pt p] w fun e w' => e = .returned (.int .i64 ((uR s).1 : Nat)) ∧ Rf w' L p q (uR s).2 ∧ Upd (fun k => k = p ∨ k = q) w w' := by
  obtain ⟨a, n, c, h1, hR, hs, hl⟩ := h.refOf
  have k1 := hid (refuint_any q a n c s.zs w hR hs h.by_)
  have c0 : w.cell? ⟨p, 0, none⟩ = some (.pointer (some ⟨q, 0, none⟩)) := cell_of_row w p 0 _ _ _ h.own
  have HK := hid (fun w' k hk => h.kept (w' := w') h1 hs hl k hk)
  unfold uR
  obtain ⟨zs, bad⟩ := s
  dsimp only at *
  generalize dec zs = D at k1 ⊢
  obtain ⟨v, k, e⟩ := D
  dsimp only at k1 ⊢
  clear h h1 hR hs hl
  cases bad
  · by_cases he : e = 0
    · subst he
      simp only [ne_eq, not_true_eq_false, decide_false, Bool.or_false]
      go_enter Tryz.func26, Tryz.ntmps26
      go_wp2_with fail
      refine k1.out.mono ?_
      rintro e w1 ⟨rfl, hk⟩
      obtain ⟨hf, hu⟩ := HK.out w1 k hk
      have c1 : w1.cell? ⟨p, 1, none⟩ = some (.bool false) := cell_of_row w1 p 1 _ _ _ hf.own
      have f1 : w1.frozen? ⟨p, 1, none⟩ = false := frozen_of_row w1 p 1 _ _ hf.own
      have HF := hid (hf.setBad false)
      have HU : Hid (Upd (fun k => k = p ∨ k = q) w (w1.setCell ⟨p, 1, none⟩ (.bool false))) := hid ((hu.mono (fun x _ hx => .inr hx)).trans (Upd.setCell (F := fun k => k = p ∨ k = q) w1 ⟨p, 1, none⟩ _ (.inl rfl)) (fun _ _ h => h))
      clear hk hf hu
      go_wp2_with fail
      go_ret
      exact ⟨rfl, HF.out, HU.out⟩
    · have he' : ((e : Int) != 0) = true := by simp [he]
      have he2 : ((e : Int) == 0) = false := by simp [he]
      simp only [ne_eq, he, not_false_eq_true, decide_true, Bool.or_true]
      go_enter Tryz.func26, Tryz.ntmps26
      go_wp2_with fail
      refine k1.out.mono ?_
      rintro e w1 ⟨rfl, hk⟩
      obtain ⟨hf, hu⟩ := HK.out w1 k hk
      have c1 : w1.cell? ⟨p, 1, none⟩ = some (.bool false) := cell_of_row w1 p 1 _ _ _ hf.own
      have f1 : w1.frozen? ⟨p, 1, none⟩ = false := frozen_of_row w1 p 1 _ _ hf.own
      have HF := hid (hf.setBad true)
      have HU : Hid (Upd (fun k => k = p ∨ k = q) w (w1.setCell ⟨p, 1, none⟩ (.bool true))) := hid ((hu.mono (fun x _ hx => .inr hx)).trans (Upd.setCell (F := fun k => k = p ∨ k = q) w1 ⟨p, 1, none⟩ _ (.inl rfl)) (fun _ _ h => h))
      clear hk hf hu
      go_wp2_with fail
      go_ret
      exact ⟨rfl, HF.out, HU.out⟩
  · simp only [Bool.true_or]
    go_enter Tryz.func26, Tryz.ntmps26
    go_wp2_with fail
    refine k1.out.mono ?_
    rintro e w1 ⟨rfl, hk⟩
    obtain ⟨hf, hu⟩ := HK.out w1 k hk
    have c1 : w1.cell? ⟨p, 1, none⟩ = some (.bool true) := cell_of_row w1 p 1 _ _ _ hf.own
    have f1 : w1.frozen? ⟨p, 1, none⟩ = false := frozen_of_row w1 p 1 _ _ hf.own
    have HF := hid (hf.setBad true)
    have HU : Hid (Upd (fun k => k = p ∨ k = q) w (w1.setCell ⟨p, 1, none⟩ (.bool true))) := hid ((hu.mono (fun x _ hx => .inr hx)).trans (Upd.setCell (F := fun k => k = p ∨ k = q) w1 ⟨p, 1, none⟩ _ (.inl rfl)) (fun _ _ h => h))
    clear hk hf hu
    go_wp2_with fail
    go_ret
    exact ⟨rfl, HF.out, HU.out⟩

theorem uR_lt {s : Rs} (h : Bytes s.zs) : (uR s).1 < 9223372036854775808 := by
  unfold uR
  dsimp only
  rcases dec_got s.zs h with hd | hd
  · exact hd.2.1
  · rw [hd.2.1]; omega

set_option maxHeartbeats 4000000 in
theorem rsigned18 (L p q : Nat) (s : Rs) (w : World) (h : Rf w L p q s) :
    Calls Tryz.prog 28 #[pt p] w fun e w' => e = .returned (.int .i64 (unf (uR s).1)) ∧ Rf w' L p q (uR s).2 ∧ Upd (fun k => k = p ∨ k = q) w w' := by
  have k1 := hid (ruint18 L p q s w h)
  have hn := uR_lt h.by_
  generalize uR s = D at k1 hn ⊢
  obtain ⟨v, s'⟩ := D
  dsimp only at k1 hn ⊢
  clear h
  by_cases hodd : v % 2 = 1
  · have hb : ((v : Int) % 2 == 1) = true := by simp; omega
    go_enter Tryz.func28, Tryz.ntmps28
    go_wp2_with fail
    refine k1.out.mono ?_
    rintro e w1 ⟨rfl, hk⟩
    have HK := hid hk
    clear hk
    go_wp2_with fail
    go_ret
    exact ⟨ret_i64 (by unfold unf; rw [if_pos hodd]; omega), HK.out⟩
  · have hb : ((v : Int) % 2 == 1) = false := by simp; omega
    go_enter Tryz.func28, Tryz.ntmps28
    go_wp2_with fail
    refine k1.out.mono ?_
    rintro e w1 ⟨rfl, hk⟩
    have HK := hid hk
    clear hk
    go_wp2_with fail
    go_ret
    exact ⟨ret_i64 (by unfold unf; rw [if_neg hodd]; omega), HK.out⟩

set_option maxHeartbeats 4000000 in
theorem rcount18 (L p q most : Nat) (hm : most ≤ 400) (s : Rs) (w : World) (h : Rf w L p q s) :
    Calls Tryz.prog 25 #[pt p, .int .i64 (most : Int)] w fun e w' => e = .returned (.int .i64 ((cR most s).1 : Nat)) ∧ Rf w' L p q (cR most s).2 ∧ Upd (fun k => k = p ∨ k = q) w w' := by
  have k1 := hid (ruint18 L p q s w h)
  have hn := uR_lt h.by_
  unfold cR
  generalize uR s = D at k1 hn ⊢
  obtain ⟨v, zs', bad⟩ := D
  dsimp only at k1 hn ⊢
  clear h
  by_cases hv : most < v
  · have hv' : (most : Int) < (v : Int) := by omega
    simp only [hv, decide_true, Bool.or_true, if_true]
    go_enter Tryz.func25, Tryz.ntmps25
    go_wp2_with fail
    refine k1.out.mono ?_
    rintro e w1 ⟨rfl, hf, hu⟩
    have c1 : w1.cell? ⟨p, 1, none⟩ = some (.bool bad) := cell_of_row w1 p 1 _ _ _ hf.own
    have f1 : w1.frozen? ⟨p, 1, none⟩ = false := frozen_of_row w1 p 1 _ _ hf.own
    have HF := hid (hf.setBad true)
    have d1 : (w1.setCell ⟨p, 1, none⟩ (.bool true)).cell? ⟨p, 1, none⟩ = some (.bool true) := cell_of_row _ p 1 _ _ _ HF.out.own
    have HU : Hid (Upd (fun k => k = p ∨ k = q) w (w1.setCell ⟨p, 1, none⟩ (.bool true))) := hid (hu.trans (Upd.setCell (F := fun k => k = p ∨ k = q) w1 ⟨p, 1, none⟩ _ (.inl rfl)) (fun _ _ h => h))
    clear hf hu
    go_wp2_with fail
    go_ret
    exact ⟨rfl, HF.out, HU.out⟩
  · have hv' : ¬ (most : Int) < (v : Int) := by omega
    simp only [hv, decide_false, Bool.or_false]
    cases bad
    · simp only [Bool.false_eq_true, if_false]
      go_enter Tryz.func25, Tryz.ntmps25
      go_wp2_with fail
      refine k1.out.mono ?_
      rintro e w1 ⟨rfl, hf, hu⟩
      have c1 : w1.cell? ⟨p, 1, none⟩ = some (.bool false) := cell_of_row w1 p 1 _ _ _ hf.own
      have HF := hid (And.intro hf hu)
      clear hf hu
      go_wp2_with fail
      go_ret
      exact ⟨rfl, HF.out⟩
    · simp only [if_true]
      go_enter Tryz.func25, Tryz.ntmps25
      go_wp2_with fail
      refine k1.out.mono ?_
      rintro e w1 ⟨rfl, hf, hu⟩
      have c1 : w1.cell? ⟨p, 1, none⟩ = some (.bool true) := cell_of_row w1 p 1 _ _ _ hf.own
      have HF := hid (And.intro hf hu)
      clear hf hu
      go_wp2_with fail
      go_ret
      exact ⟨rfl, HF.out⟩

end Go.Proofs.YtpbhcmfbcnihiaaGreat
