/- What Encode answers. -/
import Derived.Test.YtpbhcmfbcnihiaaGreatBCall
import Derived.Test.YtpbhcmfbcnihiaaGreatBCan2
namespace Go.Proofs.YtpbhcmfbcnihiaaGreat
open Go.RowKit Num
set_option linter.unusedVariables false
set_option maxRecDepth 20000

theorem enc_le (n : Nat) (h : n < 9223372036854775808) : (enc n).length ≤ 9 := by rw [length_enc]; have := cnt_8 n h; omega
theorem flat_le {α : Type} (f : α → List Int) (m : Nat) : ∀ (l : List α), (∀ x ∈ l, (f x).length ≤ m) → (l.map f).flatten.length ≤ l.length * m
  | [], _ => by simp
  | x :: r, h => by
    have h1 := h x (by simp)
    have h2 := flat_le f m r (fun y hy => h y (by simp [hy]))
    simp only [List.map_cons, List.flatten_cons, List.length_append, List.length_cons, Nat.succ_mul]
    omega
theorem vB_is {n : Int} (h : vB n = true) : -1152921504606846976 ≤ n ∧ n ≤ 1152921504606846976 := of_decide_eq_true h
/-- What a copy that may be is like. -/
theorem cB_is {i : Nat} (hi : i ≤ 64) {c : Cp} (h : cB i c = true) : okI c.a ∧ okI c.r ∧ okI c.s ∧ okI c.v ∧ c.bs.length ≤ 2048 ∧ 0 ≤ c.a ∧ -1 ≤ c.r ∧ 0 ≤ c.s := by
  unfold cB at h
  rw [Bool.and_eq_true] at h
  have h1 := of_decide_eq_true h.1
  have h2 := h.2
  by_cases hr : c.r = -1
  · rw [if_pos hr] at h2
    have h3 := of_decide_eq_true h2
    unfold okI
    omega
  · rw [if_neg hr] at h2
    simp only [Bool.and_eq_true, decide_eq_true_eq] at h2
    obtain ⟨⟨⟨h3, h4⟩, h5⟩, h6⟩ := h2
    have h7 := vB_is h5
    have h8 := of_decide_eq_true h4
    unfold okI
    omega
theorem wB_is {i : Nat} (hi : i ≤ 64) {x : Wd} (h : wB i x = true) : okI x.r ∧ okI x.v ∧ -1 ≤ x.r := by
  unfold wB at h
  rw [Bool.and_eq_true] at h
  have h1 := of_decide_eq_true h.1
  have h2 := vB_is h.2
  unfold okI
  omega
theorem pBL_at : ∀ (l : List Ex) (i : Int), pBL i l = true → ∀ j (h : j < l.length), xB (i + j) l[j] = true
  | [], _, _, j, h => by simp at h
  | x :: r, i, hp, j, h => by
    simp only [pBL, Bool.and_eq_true] at hp
    cases j with
    | zero => simpa using hp.1
    | succ j =>
      have := pBL_at r (i + 1) hp.2 j (by simpa using h)
      rw [show i + ((j + 1 : Nat) : Int) = i + 1 + (j : Int) by omega]
      simpa using this
theorem pB_is {l : List Ex} (h : pB l = true) : l.length ≤ 64 ∧ ∀ x ∈ l, ∃ i : Nat, i ≤ 64 ∧ xB i x = true := by
  unfold pB at h
  rw [Bool.and_eq_true] at h
  have h1 := of_decide_eq_true h.1
  refine ⟨h1, fun x hx => ?_⟩
  obtain ⟨j, hj, rfl⟩ := List.getElem_of_mem hx
  exact ⟨j, by omega, by have := pBL_at l 0 h.2 j hj; simpa using this⟩
theorem xB_is {i : Int} {x : Ex} (h : xB i x = true) : (0 ≤ x.n ∧ x.n ≤ 63 ∧ x.cs.length ≤ 400 ∧ x.ws.length ≤ 6) ∧ (∀ c ∈ x.cs, cB i c = true) ∧ ∀ y ∈ x.ws, wB i y = true := by
  unfold xB at h
  simp only [Bool.and_eq_true, decide_eq_true_eq, List.all_eq_true] at h
  exact ⟨h.1.1, h.1.2, h.2⟩
/-- All bytes of a program are bytes. -/
def ByP (l : List Ex) : Prop := ∀ x ∈ l, ∀ c ∈ x.cs, Bytes c.bs
theorem pB_ok {l : List Ex} (h : pB l = true) (hb : ByP l) : okL okX l := by
  obtain ⟨h1, h2⟩ := pB_is h
  refine ⟨by omega, fun x hx => ?_⟩
  obtain ⟨i, hi, hx'⟩ := h2 x hx
  obtain ⟨⟨a1, a2, a3, a4⟩, b, c⟩ := xB_is hx'
  refine ⟨by unfold okI; omega, ⟨by omega, fun y hy => ?_⟩, ⟨by omega, fun y hy => ?_⟩⟩
  · obtain ⟨q1, q2, q3, q4, q5, _⟩ := cB_is hi (b y hy)
    exact ⟨q1, q2, q3, q4, hb x hx y hy, by omega⟩
  · obtain ⟨q1, q2, _⟩ := wB_is hi (c y hy)
    exact ⟨q1, q2⟩
theorem fld_lt {n : Int} (h : okI n) : (fld n).toNat < 9223372036854775808 := by unfold okI at h; unfold fld; split <;> omega
theorem pB_len {l : List Ex} (h : pB l = true) : (eP l).length ≤ 1099511627776 := by
  obtain ⟨h1, h2⟩ := pB_is h
  have key : ∀ x ∈ l, (eX x).length ≤ 2000000 := fun x hx => by
    obtain ⟨i, hi, hx'⟩ := h2 x hx
    obtain ⟨⟨a1, a2, a3, a4⟩, b, c⟩ := xB_is hx'
    have hc : (x.cs.map eC).flatten.length ≤ x.cs.length * 3000 := flat_le eC 3000 x.cs (fun y hy => by
      obtain ⟨q1, q2, q3, q4, q5, _⟩ := cB_is hi (b y hy)
      unfold okI at q1 q2 q3
      have e1 := enc_le (y.a + 0).toNat (by omega)
      have e2 := enc_le (y.r + 1).toNat (by omega)
      have e3 := enc_le (y.s + 0).toNat (by omega)
      have e4 := enc_le (fld y.v).toNat (fld_lt q4)
      have e5 := enc_le y.bs.length (by omega)
      unfold eC eR eN eS eT
      split
      · simp only [List.length_append]; omega
      · simp only [List.length_append]; omega)
    have hw : (x.ws.map eW).flatten.length ≤ x.ws.length * 100 := flat_le eW 100 x.ws (fun y hy => by
      obtain ⟨q1, q2, _⟩ := wB_is hi (c y hy)
      have e4 := enc_le (fld y.v).toNat (fld_lt q2)
      unfold okI at q1
      have e2 := enc_le (y.r + 1).toNat (by omega)
      unfold eW eN eS
      simp only [List.length_append]; omega)
    have e1 := enc_le (x.n + 0).toNat (by omega)
    have e2 := enc_le x.cs.length (by omega)
    have e3 := enc_le x.ws.length (by omega)
    unfold eX eL eN
    simp only [List.length_append]
    have := Nat.mul_le_mul_right 3000 a3
    have := Nat.mul_le_mul_right 100 a4
    omega
  have hf := flat_le eX 2000000 l key
  have e1 := enc_le l.length (by omega)
  have := Nat.mul_le_mul_right 2000000 h1
  unfold eP eL
  rw [List.length_append]
  omega

set_option maxHeartbeats 4000000 in
theorem encode_any (a : Option Addr) (n c : Nat) (l : List Ex) (N : Nat → Prop) (w : World) (h : Lies 3 ExAt N w a l) (hn : l.length = n) (hc : n ≤ c) (hm : c ≤ 9223372036854775807) (hb : ByP l) :
    Calls Tryz.prog 7 #[.slice a n c] w fun e w' => ∃ v, e = .returned (.tuple #[v, .int .i64 (if pB l = true then 0 else 1)]) ∧ Ob w' v (if pB l = true then eP l else []) ∧ Below w.heap.size w w' := by
  have k1 := hid (fun o => can_any a n c l N (w.alloc o) (h.keep (fun _ _ _ h => ExAt.keep (Keep.below (below_box w o)) h) (Keep.below (below_box w o))) hn (by omega))
  have k2 := hid program_mk
  have HL := hid h
  have HN := hid hn
  have HOK := hid (fun e => pB_ok (l := l) e hb)
  have HLEN := hid (pB_len (l := l))
  generalize pB l = P at k1 HOK HLEN ⊢
  clear h hn hb
  cases P
  · simp only [Bool.false_eq_true, if_false]
    go_enter Tryz.func7, Tryz.ntmps7
    go_wp2_with fail
    refine (k1.out _).mono ?_
    rintro e w1 ⟨rfl, b1⟩
    have B1 := hid (box_in b1)
    clear b1
    go_wp2_with fail
    go_ret2
    exact ⟨_, rfl, World.ownsRow_nil _ _ _ _, B1.out.1⟩
  · simp only [if_true]
    go_enter Tryz.func7, Tryz.ntmps7
    go_wp2_with fail
    refine (k1.out _).mono ?_
    rintro e w1 ⟨rfl, b1⟩
    obtain ⟨B1, R1, s1⟩ := box_in b1
    have H1 := hid B1
    have HR := hid R1
    clear b1 B1 R1
    go_wp2_with fail
    refine (k2.out _).mono ?_
    rintro e w2 ⟨q, rfl, hW, _, b2⟩
    have hs2 := b2.size
    have H2 := hid b2
    have hfl := congrFun (fld41_0 44 45 #[pt q] #[pt q]) w2
    have hb2 : Below w.heap.size w w2 := H1.out.trans (b2.mono H1.out.size)
    have hr2 := (b2.block w.heap.size s1).trans HR.out
    have kw := hid (hW.2 w2 w.heap.size 0 l (.slice none 0 0) [] (Upd.refl _ _) (fun g hg => by cases hg) ⟨by simp [Value.ownBlock], by omega, a, n, c, cell_of_row _ _ 0 _ _ _ hr2, HN.out, hc, hm, fun h0 => by
        obtain ⟨b, o, e, _, hlt, hcs⟩ := (HL.out.keep (fun _ _ _ h => ExAt.keep (Keep.below hb2) h) (Keep.below hb2)) (by have := HN.out; omega)
        exact ⟨b, o, e, by simp [Value.ownBlock], hlt, fun j hj => (hcs j hj).keep (Keep.same (fun _ _ _ => by simp [Value.ownBlock]))⟩⟩ (HOK.out (by first | rfl | trivial)) (World.ownsRow_nil _ _ _ _) (by have := HLEN.out (by first | rfl | trivial); simp; exact this))
    have hgo := hW.1
    have HB2 := hid hb2
    clear b2 hW hb2 hr2 k2
    go_wp2_with fail
    refine kw.out.mono ?_
    rintro e w3 ⟨v, rfl, hO3, hU3, hF3⟩
    have HO3 := hid hO3
    have HU3 := hid hU3
    clear hO3 hU3 hF3 kw hgo
    go_wp2_with fail
    go_ret2
    refine ⟨v, rfl, by simpa using HO3.out, HB2.out.trans (HU3.out.below HB2.out.size (fun x hx => by simp [Value.ownBlock] at hx))⟩

end Go.Proofs.YtpbhcmfbcnihiaaGreat
