/- Texts of this seat, merged. -/
import Derived.Test.YtbglhmcahnkbfaaGreatGMg19
import Derived.BigQuiet
import Derived.Test.YtbglhmcahnkbfaaGreatGMg6

/- What take does: blocks for a file, the lowest free ones first. -/
namespace Go.Proofs.YtbglhmcahnkbfaaGreat
open Go.RowKit Go.ChangeMaps Go.MapKept
set_option linter.unusedVariables false
set_option maxRecDepth 20000

/-- Cells of a node, one by one: two nodes agree where their parts do. -/
theorem ndC_agree {x y : Nd} (hx : x.ok) (hy : y.ok) (j : Nat) (hj : j < 107) (h0 : j < 4 → (ndC y)[j]? = (ndC x)[j]?) (hb : ∀ i, j = 4 + i → i < 96 → y.b.getD i 0 = x.b.getD i 0) (hB : ∀ i, j = 100 + i → i < 6 → y.B.getD i 0 = x.B.getD i 0) (hm : j = 106 → y.m = x.m) : (ndC y)[j]? = (ndC x)[j]? := by
  rcases (show j < 4 ∨ (4 ≤ j ∧ j < 100) ∨ (100 ≤ j ∧ j < 106) ∨ j = 106 by omega) with h | h | h | h
  · exact h0 h
  · obtain ⟨i, rfl⟩ : ∃ i, j = 4 + i := ⟨j - 4, by omega⟩
    rw [ndC_b hy i (by omega), ndC_b hx i (by omega), hb i rfl (by omega)]
  · obtain ⟨i, rfl⟩ : ∃ i, j = 100 + i := ⟨j - 100, by omega⟩
    rw [ndC_B hy i (by omega), ndC_B hx i (by omega), hB i rfl (by omega)]
  · subst h
    rw [ndC_m hy, ndC_m hx, hm rfl]

def Nd.blk (x : Nd) (j : Nat) (v : Int) : Nd := { x with B := x.B.set j v }
theorem Nd.blk_ok {x : Nd} (h : x.ok) (j : Nat) (v : Int) : (x.blk j v).ok := ⟨h.b, by simp [Nd.blk, h.B]⟩
theorem getD_set_same (l : List Int) (j : Nat) (v : Int) (h : j < l.length) : (l.set j v).getD j 0 = v := by
  rw [List.getD_eq_getElem?_getD, List.getElem?_set_self h]; rfl
theorem getD_set_ne (l : List Int) (i j : Nat) (v : Int) (h : j ≠ i) : (l.set j v).getD i 0 = l.getD i 0 := by
  rw [List.getD_eq_getElem?_getD, List.getElem?_set_ne h, List.getD_eq_getElem?_getD]

theorem Sy.blkTo {w : World} {p : Nat} {S : Sg} (h : Sy w p S) (i : Nat) (hi : i < 17) (j : Nat) (hj : j < 6) (v : Int) : Sy (w.setCell ⟨p, 1 + i * 107 + (100 + j), none⟩ (.int .i64 v)) p (S.at_ i ((S.P i).blk j v)) := by
  have hx := h.ok i hi
  have hy := Nd.blk_ok hx j v
  have hl := hx.B
  refine h.set i hi ((S.P i).blk j v) hy rfl rfl (100 + j) (by omega) _ ?_ (fun k hk e => ndC_agree hx hy k hk (fun q => ?_) (fun _ _ _ => rfl) (fun a ha hb => ?_) (fun _ => rfl))
  · rw [ndC_B hy j hj]
    simp only [Nd.blk]
    rw [getD_set_same _ _ _ (by omega)]
  · unfold ndC Nd.blk
    rw [List.append_assoc, List.append_assoc, List.getElem?_append_left (by simp; omega), List.append_assoc, List.append_assoc, List.getElem?_append_left (by simp; omega)]
  · simp only [Nd.blk]
    exact getD_set_ne _ _ _ _ (by omega)

/-- A file's blocks: so many are its own, all are marked, and no others are. -/
structure Bok (x : Nd) (T : Nat → Bool) (q : Nat) : Prop where
  in_ : ∀ j, j < q → ∃ b : Nat, x.B.getD j 0 = (b : Int) ∧ 1 ≤ b ∧ b < 25 ∧ T b = true
  ne : ∀ i j, i < j → j < q → x.B.getD i 0 ≠ x.B.getD j 0
  n : cnt T 25 = q

theorem Bok.take {x : Nd} {T : Nat → Bool} {q b : Nat} (h : Bok x T q) (hx : x.ok) (hq : q < 6) (h1 : 1 ≤ b) (h2 : b < 25) (hb : T b = false) : Bok (x.blk q (b : Int)) (updT T b true) (q + 1) := by
  have hl := hx.B
  have hold : ∀ j, j < q → (x.blk q (b : Int)).B.getD j 0 = x.B.getD j 0 := fun j hj => getD_set_ne _ _ _ _ (by omega)
  have hnew : (x.blk q (b : Int)).B.getD q 0 = (b : Int) := getD_set_same _ _ _ (by omega)
  refine ⟨fun j hj => ?_, fun i j hij hj => ?_, by rw [cnt_set T b hb 25 h2, h.n]⟩
  · by_cases e : j = q
    · subst e; exact ⟨b, hnew, h1, h2, updT_same _ _ _⟩
    · obtain ⟨c, q1, q2, q3, q4⟩ := h.in_ j (by omega)
      refine ⟨c, by rw [hold j (by omega)]; exact q1, q2, q3, ?_⟩
      by_cases ec : c = b
      · subst ec; exact updT_same _ _ _
      · rw [updT_ne _ _ _ _ ec]; exact q4
  · by_cases e : j = q
    · subst e
      rw [hnew, hold i (by omega)]
      obtain ⟨c, q1, q2, q3, q4⟩ := h.in_ i (by omega)
      rw [q1]
      intro ec
      have : c = b := by omega
      subst this
      rw [hb] at q4
      simp at q4
    · rw [hold i (by omega), hold j (by omega)]
      exact h.ne i j hij (by omega)

/-- A system whose node at i, and whose marks, are others. -/
def Sg.bl (S : Sg) (i : Nat) (x : Nd) (T : Nat → Bool) : Sg := { S with P := updN S.P i x, T := T }

set_option maxHeartbeats 4000000 in
set_option maxRecDepth 20000 in
theorem take_any (p : Nat) (S : Sg) (w : World) (i : Nat) (hi : i < 17) (x : Nd) (T : Nat → Bool) (H : Sy w p (S.bl i x T)) (q n c o : Nat) (ho : 0 < n → o = 1 + i * 107 + (100 + q)) (hq : q + n ≤ 6) (hn : n ≤ c) (hc : c ≤ 6) (hB : Bok x T q) :
    Calls Tryz.prog 137 #[.pointer (some ⟨p, 0, none⟩), .slice (some ⟨p, o, none⟩) n c] w fun e w' => e = .returned (.tuple #[]) ∧ (∃ B' T', Sy w' p (S.bl i { x with B := B' } T') ∧ Bok { x with B := B' } T' (q + n) ∧ (∀ j, j < q → B'.getD j 0 = x.B.getD j 0)) ∧ Upd (· = p) w w' := by
  have hB0 : x.B = x.B := rfl
  have H0 : Hid (∃ B' T', Sy w p (S.bl i { x with B := B' } T') ∧ Bok { x with B := B' } T' (q + 0) ∧ (∀ j, j < q → B'.getD j 0 = x.B.getD j 0) ∧ Upd (· = p) w w ∧ (∀ cc, 1 ≤ cc → cc < 1 → T' cc = true)) := hid ⟨x.B, T, H, hB, fun _ _ => rfl, Upd.refl _ _, fun cc h1 h2 => by omega⟩
  have HOO := hid ho
  clear H hB hB0 ho
  go_enter Tryz.func137, Tryz.ntmps137
  go_wp2_with fail
  go_loopw [4, 8] (fun v4 v8 wr => ∃ b k : Nat, 1 ≤ b ∧ b < 25 ∧ k ≤ n ∧ v4 = .int .i64 (b : Int) ∧ v8 = .int .i64 (k : Int) ∧ Hid (∃ B' T', Sy wr p (S.bl i { x with B := B' } T') ∧ Bok { x with B := B' } T' (q + k) ∧ (∀ j, j < q → B'.getD j 0 = x.B.getD j 0) ∧ Upd (· = p) w wr ∧ (∀ cc, 1 ≤ cc → cc < b → T' cc = true))) (fun _ v8 _ => n - (intOf v8).toNat)
  case atStart => exact ⟨1, 0, by omega, by omega, by omega, rfl, rfl, H0⟩
  case round =>
    clear H0
    obtain ⟨b, k, hb1, hb2, hkn, rfl, rfl, HQ⟩ := hrel
    by_cases e : k = n
    · subst e
      go_wp2_with fail
      go_end0
      obtain ⟨B', T', h1, h2, h3, h4, _⟩ := HQ.out
      exact ⟨rfl, ⟨B', T', h1, h2, h3⟩, h4⟩
    · have hk : k < n := by omega
      have hk2 : (k : Int) < (n : Int) := by omega
      obtain ⟨B', T', h1, h2, h3, h4, h5⟩ := HQ.out
      have HS := hid h1
      have HB := hid h2
      have HK := hid (And.intro h3 h4)
      have HF := hid h5
      clear HQ h1 h2 h3 h4 h5 e
      go_wp2_with fail
      rename World => wo
      go_loopw [4] (fun v4 wr => ∃ b : Nat, 1 ≤ b ∧ b < 25 ∧ v4 = .int .i64 (b : Int) ∧ wr = wo ∧ Hid (∀ cc, 1 ≤ cc → cc < b → T' cc = true)) (fun v4 _ => 25 - (intOf v4).toNat)
      case atStart => exact ⟨b, hb1, hb2, rfl, rfl, HF⟩
      case round =>
        clear HF hb1 hb2
        obtain ⟨b, hb1, hb2, rfl, rfl, HF⟩ := hrel
        have c0 : (0 : Int) ≤ (b : Int) := by omega
        have c1 : (b : Int) < 25 := by omega
        have hl := HS.out.t b hb2
        change wr.cell? ⟨p, 1820 + b, none⟩ = some (.bool (T' b)) at hl
        cases ht : T' b with
        | true =>
          rw [ht] at hl
          have hb3 : b + 1 < 25 := by
            rcases Nat.lt_or_ge (b + 1) 25 with h | h
            · exact h
            · have h1 := cnt_full T' 25 (fun cc q1 q2 => by
                by_cases e : cc = b
                · subst e; exact ht
                · exact HF.out cc q1 (by omega))
              have h2 := HB.out.n
              omega
          have HF2 : Hid (∀ cc, 1 ≤ cc → cc < b + 1 → T' cc = true) := hid (fun cc q1 q2 => by
            by_cases e : cc = b
            · subst e; exact ht
            · exact HF.out cc q1 (by omega))
          clear ht HF
          go_wp2_with fail
          go_roundw
          case rel => exact ⟨b + 1, by omega, hb3, by go_num, by first | rfl | trivial, HF2⟩
          case measure => simp [intOf]; omega
        | false =>
          rw [ht] at hl
          have f1 := HS.out.fz (1820 + b)
          have hadr : 1 + i * 107 + (100 + (q + k)) = o + k := by have := HOO.out (by omega); omega
          have hS3 := HS.out.mark b hb2 true
          have hb4 := hS3.B i hi (q + k) (by omega)
          rw [hadr] at hb4
          have f2 := hS3.fz (o + k)
          have hS4 := hS3.blkTo i hi (q + k) (by omega) (b : Int)
          rw [hadr] at hS4
          have hP : ((S.bl i { x with B := B' } T').P i) = { x with B := B' } := updN_same _ _ _
          have hok : ({ x with B := B' } : Nd).ok := by rw [← hP]; exact HS.out.ok i hi
          have HB4 := hid (HB.out.take hok (by omega) hb1 hb2 ht)
          have HU4 : Hid (Upd (· = p) w ((wr.setCell ⟨p, 1820 + b, none⟩ (.bool true)).setCell ⟨p, o + k, none⟩ (.int .i64 (b : Int)))) := by
            have u1 : Upd (· = p) wr (wr.setCell ⟨p, 1820 + b, none⟩ (.bool true)) := Upd.setCell (F := (· = p)) wr ⟨p, _, none⟩ _ rfl
            have u2 : Upd (· = p) (wr.setCell ⟨p, 1820 + b, none⟩ (.bool true)) ((wr.setCell ⟨p, 1820 + b, none⟩ (.bool true)).setCell ⟨p, o + k, none⟩ (.int .i64 (b : Int))) := Upd.setCell (F := (· = p)) _ ⟨p, _, none⟩ _ rfl
            exact hid ((HK.out.2.trans u1 (fun _ _ h => h)).trans u2 (fun _ _ h => h))
          have HQ4 : Hid (∃ B' T', Sy ((wr.setCell ⟨p, 1820 + b, none⟩ (.bool true)).setCell ⟨p, o + k, none⟩ (.int .i64 (b : Int))) p (S.bl i { x with B := B' } T') ∧ Bok { x with B := B' } T' (q + (k + 1)) ∧ (∀ j, j < q → B'.getD j 0 = x.B.getD j 0) ∧ Upd (· = p) w ((wr.setCell ⟨p, 1820 + b, none⟩ (.bool true)).setCell ⟨p, o + k, none⟩ (.int .i64 (b : Int))) ∧ (∀ cc, 1 ≤ cc → cc < b → T' cc = true)) := by
            refine hid ⟨B'.set (q + k) (b : Int), updT T' b true, ?_, HB4.out, fun j hj => ?_, HU4.out, fun cc q1 q2 => ?_⟩
            · have e1 : (({ (S.bl i { x with B := B' } T') with T := updT T' b true } : Sg).at_ i ((({ (S.bl i { x with B := B' } T') with T := updT T' b true } : Sg).P i).blk (q + k) (b : Int))) = S.bl i { x with B := B'.set (q + k) (b : Int) } (updT T' b true) := by
                show ({ S with P := updN (updN S.P i { x with B := B' }) i (Nd.blk (updN S.P i { x with B := B' } i) (q + k) (b : Int)), T := updT T' b true } : Sg) = _
                rw [updN_same]
                unfold Sg.bl Nd.blk
                congr 1
                funext j
                by_cases e : j = i <;> simp [updN, e]
              rw [← e1]
              exact hS4
            · rw [getD_set_ne _ _ _ _ (by omega)]; exact HK.out.1 j hj
            · rw [updT_ne _ _ _ _ (by omega)]; exact HF.out cc q1 q2
          have ck : (0 : Int) ≤ (k : Int) := by omega
          have h7 := HS.out.B i hi (q + k) (by omega)
          rw [hadr] at h7
          have f7 := HS.out.fz (o + k)
          have n1 : ¬ 1820 + b = o + k := by have := HOO.out (by omega); omega
          have n2 : ¬ o + k = 1820 + b := by have := HOO.out (by omega); omega
          clear ht HF hS3 hS4 hP hok HB4 HU4 hadr HB HK HS
          go_wp2_with fail
          go_roundw
          case rel => exact ⟨b, k + 1, hb1, hb2, by omega, rfl, by go_num, HQ4⟩
          case measure => simp [intOf]; omega

end Go.Proofs.YtbglhmcahnkbfaaGreat

/- What grow does to a file that is alone in its system. -/
namespace Go.Proofs.YtbglhmcahnkbfaaGreat
open Go.RowKit Go.ChangeMaps Go.MapKept
set_option linter.unusedVariables false
set_option maxRecDepth 20000

/-- How many blocks so many bytes need. -/
def need (s : Nat) : Nat := (s + 15) / 16

theorem need_le {s : Nat} (h : s ≤ 96) : need s ≤ 6 := by unfold need; omega
theorem need_mono {s t : Nat} (h : s ≤ t) : need s ≤ need t := by unfold need; omega

theorem Sg.bl_self (S : Sg) (i : Nat) : S.bl i (S.P i) S.T = S := by
  have := S.at_self i
  unfold Sg.at_ at this
  unfold Sg.bl
  exact this

set_option maxHeartbeats 4000000 in
set_option maxRecDepth 20000 in
theorem grow_more (p : Nat) (S : Sg) (w : World) (i : Nat) (hi : i < 17) (x : Nd) (T : Nat → Bool) (H : Sy w p (S.bl i x T)) (hB : Bok x T (need x.s)) (size : Nat) (hs : x.s < size) (hz : size ≤ 96) :
    Calls Tryz.prog 113 #[.pointer (some ⟨p, 0, none⟩), .pointer (some ⟨p, 1 + i * 107, none⟩), .int .i64 (size : Int)] w fun e w' => e = .returned (.int .i64 0) ∧ (∃ B' T', Sy w' p (S.bl i { x with B := B', s := size } T') ∧ Bok { x with B := B', s := size } T' (need size)) ∧ Upd (· = p) w w' := by
  have hP : (S.bl i x T).P i = x := updN_same _ _ _
  have c3 := H.s i hi
  rw [hP] at c3
  obtain ⟨q0, g0⟩ : ∃ q0, q0 = need x.s := ⟨_, rfl⟩
  obtain ⟨q1, g1⟩ : ∃ q1, q1 = need size := ⟨_, rfl⟩
  have h01 : q0 ≤ q1 := by rw [g0, g1]; exact need_mono (by omega)
  have h16 : q1 ≤ 6 := by rw [g1]; exact need_le hz
  rw [← g0] at hB
  rw [← g1]
  obtain ⟨s0, gs⟩ : ∃ s0, s0 = x.s := ⟨_, rfl⟩
  rw [← gs] at c3 hs
  have K0 : Hid (∀ W, Calls Tryz.prog 135 #[.int .i64 (s0 : Int)] W fun e w' => e = .returned (.int .i64 (q0 : Int)) ∧ w' = W) := by
    refine hid (fun W => ?_)
    have := needed_any s0 (by omega) W
    rw [show (s0 + 15) / 16 = q0 by rw [g0, gs]; rfl] at this
    exact this
  have K1 : Hid (∀ W, Calls Tryz.prog 135 #[.int .i64 (size : Int)] W fun e w' => e = .returned (.int .i64 (q1 : Int)) ∧ w' = W) := by
    refine hid (fun W => ?_)
    have := needed_any size (by omega) W
    rw [show (size + 15) / 16 = q1 by rw [g1]; rfl] at this
    exact this
  have a1 : ¬ (size : Int) ≤ (s0 : Int) := by omega
  have a2 : (0 : Int) ≤ (q0 : Int) := by omega
  have a3 : (q0 : Int) ≤ (q1 : Int) := by omega
  have a4 : (q1 : Int) ≤ 6 := by omega
  have HH := hid H
  have HB := hid hB
  clear H hB hP g0 g1 gs
  go_enter Tryz.func113, Tryz.ntmps113
  go_wp2_with fail
  go_quiet ((go_at_call 135; first | refine Calls.quiet_of_same (K0.out _) | refine Calls.quiet_of_same (K1.out _)))
  obtain ⟨o, go⟩ : ∃ o, o = if 6 = q0 then 1 + i * 107 + 100 else 1 + i * 107 + 100 + q0 := ⟨_, rfl⟩
  have hA : (if 6 = q0 then (⟨p, 1 + i * 107 + 100, none⟩ : Addr) else ⟨p, 1 + i * 107 + 100 + q0, none⟩) = ⟨p, o, none⟩ := by
    rw [go]; split <;> rfl
  have ho : 0 < q1 - q0 → o = 1 + i * 107 + (100 + q0) := fun h => by
    rw [go, if_neg (by omega)]; omega
  rw [hA]
  have HO := hid ho
  clear hA go ho K0 K1
  obtain ⟨W1, g1⟩ : ∃ W1, W1 = w.drewN nq := ⟨_, rfl⟩
  rw [← g1]
  have hS1 : Sy W1 p (S.bl i x T) := HH.out.hp (by rw [g1]; rfl)
  have hU1 : Upd (· = p) w W1 := by rw [g1]; exact (Upd.refl _ _).drewN _
  have hcnt : cnt T 25 = q0 := HB.out.n
  have k1 := hid (free_any p (S.bl i x T) W1 hS1 (by show cnt T 25 ≤ 24; omega))
  rw [show cnt (S.bl i x T).T 25 = q0 from hcnt] at k1
  have k2 : Hid (∀ W, Below W1.heap.size W1 W → Calls Tryz.prog 137 #[.pointer (some ⟨p, 0, none⟩), .slice (some ⟨p, o, none⟩) (q1 - q0) (6 - q0)] W fun e w' => e = .returned (.tuple #[]) ∧ Hid ((∃ B' T', Sy w' p (S.bl i { x with B := B' } T') ∧ Bok { x with B := B' } T' q1) ∧ Upd (· = p) w w')) := by
    refine hid (fun W hW => ?_)
    refine (take_any p S W i hi x T (hS1.grow hW) q0 (q1 - q0) (6 - q0) o HO.out (by omega) (by omega) (by omega) HB.out).mono ?_
    rintro e w' ⟨rfl, ⟨B', T', h1, h2, _⟩, u⟩
    rw [show q0 + (q1 - q0) = q1 by omega] at h2
    exact ⟨rfl, hid ⟨⟨B', T', h1, h2⟩, (hU1.trans (Upd.of_below (F := (· = p)) hW) (fun _ _ h => h)).trans u (fun _ _ h => h)⟩⟩
  have a5 : ¬ ((24 - q0 : Nat) : Int) < ((q1 - q0 : Nat) : Int) := by omega
  clear hS1 hU1 hcnt g1 HH HB
  go_wp2_with fail
  refine k1.out.mono ?_
  rintro e w2 ⟨rfl, hb2⟩
  have k3 := hid (k2.out w2 hb2)
  clear k1 k2 hb2
  go_wp2_with fail
  refine k3.out.mono ?_
  rintro e w3 ⟨rfl, H3⟩
  clear k3
  obtain ⟨⟨B', T', h1, h2⟩, u⟩ := H3.out
  have c4 := h1.s i hi
  have f4 := h1.fz (1 + i * 107 + 3)
  have hP3 : (S.bl i { x with B := B' } T').P i = { x with B := B' } := updN_same _ _ _
  rw [hP3] at c4
  have h5 := h1.sizeTo i hi size
  rw [hP3] at h5
  have e5 : (S.bl i { x with B := B' } T').at_ i (Nd.size { x with B := B' } size) = S.bl i { x with B := B', s := size } T' := by
    unfold Sg.bl Sg.at_ Nd.size
    congr 1
    funext j
    by_cases e : j = i <;> simp [updN, e]
  rw [e5] at h5
  have H5 : Hid ((∃ B' T', Sy (w3.setCell ⟨p, 1 + i * 107 + 3, none⟩ (.int .i64 (size : Int))) p (S.bl i { x with B := B', s := size } T') ∧ Bok { x with B := B', s := size } T' q1) ∧ Upd (· = p) w (w3.setCell ⟨p, 1 + i * 107 + 3, none⟩ (.int .i64 (size : Int)))) :=
    hid ⟨⟨B', T', h5, ⟨h2.in_, h2.ne, h2.n⟩⟩, u.trans (Upd.setCell (F := (· = p)) w3 ⟨p, _, none⟩ _ rfl) (fun _ _ h => h)⟩
  clear h1 h2 u h5 e5 hP3 H3
  go_wp2_with fail
  go_ret
  exact ⟨rfl, H5.out.1, H5.out.2⟩

set_option maxHeartbeats 1000000 in
theorem grow_same (p : Nat) (S : Sg) (w : World) (i : Nat) (hi : i < 17) (x : Nd) (T : Nat → Bool) (H : Sy w p (S.bl i x T)) (size : Nat) (hs : size ≤ x.s) :
    Calls Tryz.prog 113 #[.pointer (some ⟨p, 0, none⟩), .pointer (some ⟨p, 1 + i * 107, none⟩), .int .i64 (size : Int)] w fun e w' => e = .returned (.int .i64 0) ∧ w' = w := by
  have hP : (S.bl i x T).P i = x := updN_same _ _ _
  have c3 := H.s i hi
  rw [hP] at c3
  have a1 : (size : Int) ≤ (x.s : Int) := by omega
  clear H hP
  go_enter Tryz.func113, Tryz.ntmps113
  go_wp2_with fail
  go_ret
  exact ⟨rfl, rfl⟩

/-- A file gets at least a size. -/
theorem grow_any (p : Nat) (S : Sg) (w : World) (i : Nat) (hi : i < 17) (x : Nd) (T : Nat → Bool) (H : Sy w p (S.bl i x T)) (hB : Bok x T (need x.s)) (size : Nat) (hz : size ≤ 96) :
    Calls Tryz.prog 113 #[.pointer (some ⟨p, 0, none⟩), .pointer (some ⟨p, 1 + i * 107, none⟩), .int .i64 (size : Int)] w fun e w' => e = .returned (.int .i64 0) ∧ (∃ B' T', Sy w' p (S.bl i { x with B := B', s := max x.s size } T') ∧ Bok { x with B := B', s := max x.s size } T' (need (max x.s size))) ∧ Upd (· = p) w w' := by
  by_cases h : x.s < size
  · rw [Nat.max_eq_right (Nat.le_of_lt h)]
    exact grow_more p S w i hi x T H hB size h hz
  · rw [Nat.max_eq_left (by omega)]
    refine (grow_same p S w i hi x T H size (by omega)).mono ?_
    rintro e w' ⟨rfl, rfl⟩
    exact ⟨rfl, ⟨x.B, T, H, hB⟩, Upd.refl _ _⟩

end Go.Proofs.YtbglhmcahnkbfaaGreat

/- What Write does to a file that is alone in its system. -/
namespace Go.Proofs.YtbglhmcahnkbfaaGreat
open Go.RowKit Go.ChangeMaps Go.MapKept
set_option linter.unusedVariables false
set_option maxRecDepth 20000

theorem getD_splice_in (l zs : List Int) (o k : Nat) (h : o + zs.length ≤ l.length) (hk : k < zs.length) : (splice l o zs).getD (o + k) 0 = zs.getD k 0 := by
  rw [List.getD_eq_getElem?_getD, getElem?_splice_in _ _ _ _ h hk, List.getD_eq_getElem?_getD]
theorem getD_splice_out (l zs : List Int) (o k : Nat) (h : o + zs.length ≤ l.length) (hk : k < o ∨ o + zs.length ≤ k) : (splice l o zs).getD k 0 = l.getD k 0 := by
  rw [List.getD_eq_getElem?_getD, getElem?_splice_out _ _ _ _ h hk, List.getD_eq_getElem?_getD]

/-- Bytes written over a file's. -/
def Nd.over (x : Nd) (off : Nat) (zs : List Int) : Nd := { x with b := splice x.b off zs }
theorem Nd.over_ok {x : Nd} (h : x.ok) (off : Nat) (zs : List Int) (hz : off + zs.length ≤ 96) : (x.over off zs).ok := ⟨by simp only [Nd.over]; rw [length_splice _ _ _ (by rw [h.b]; exact hz), h.b], h.B⟩

theorem Sy.over {w w' : World} {p : Nat} {S : Sg} (h : Sy w p S) (i : Nat) (hi : i < 17) (C : List Value) (hC : w.heap[p]? = some (.cells C.toArray 150 (0, 0))) (hS : Sls C S.d S.P S.T) (off : Nat) (zs : List Int) (hz : off + zs.length ≤ 96)
    (h' : w'.heap[p]? = some (.cells (splice C (1 + i * 107 + (4 + off)) (zs.map (Value.int .u8))).toArray 150 (0, 0))) (u : Upd (· = p) w w') : Sy w' p (S.at_ i ((S.P i).over off zs)) := by
  have hx := hS.ok i hi
  have hy := Nd.over_ok hx off zs hz
  have hl := hS.len
  have hfit : 1 + i * 107 + (4 + off) + (zs.map (Value.int .u8)).length ≤ C.length := by simp; omega
  refine h.turn i hi ((S.P i).over off zs) rfl rfl u ⟨_, h', hS.put i hi _ hy (by rw [length_splice _ _ _ hfit, hl]) (fun j hj => ?_) (fun j hj => ?_)⟩
  · exact getElem?_splice_out _ _ _ _ hfit (by simp; omega)
  · by_cases e : 4 + off ≤ j ∧ j < 4 + off + zs.length
    · obtain ⟨k, rfl⟩ : ∃ k, j = 4 + off + k := ⟨j - (4 + off), by omega⟩
      rw [show 1 + i * 107 + (4 + off + k) = 1 + i * 107 + (4 + off) + k by omega, getElem?_splice_in _ _ _ _ hfit (by simp; omega)]
      rw [show 4 + off + k = 4 + (off + k) by omega, ndC_b hy (off + k) (by omega)]
      simp only [Nd.over]
      rw [getD_splice_in _ _ _ _ (by rw [hx.b]; exact hz) (by omega), List.getElem?_map, List.getElem?_eq_getElem (by omega), List.getD_eq_getElem?_getD, List.getElem?_eq_getElem (by omega)]
      rfl
    · rw [getElem?_splice_out _ _ _ _ hfit (by simp; omega), hS.at_ i hi j hj]
      refine (ndC_agree hx hy j hj (fun q => ?_) (fun a ha hb => ?_) (fun _ _ _ => rfl) (fun _ => rfl)).symm
      · unfold ndC Nd.over
        rw [List.append_assoc, List.append_assoc, List.getElem?_append_left (by simp; omega), List.append_assoc, List.append_assoc, List.getElem?_append_left (by simp; omega)]
      · simp only [Nd.over]
        exact getD_splice_out _ _ _ _ (by rw [hx.b]; exact hz) (by omega)

theorem csize5 : (Tryz.prog.info? 5).map (·.size) = some 1 := by kernel_rfl

end Go.Proofs.YtbglhmcahnkbfaaGreat

/- What Read and Stat tell of a file. -/
namespace Go.Proofs.YtbglhmcahnkbfaaGreat
open Go.RowKit Go.ChangeMaps Go.MapKept
set_option linter.unusedVariables false
set_option maxRecDepth 20000

/-- A file's bytes from an offset on, at most so many. -/
def rd (x : Nd) (off cnt : Nat) : List Int := ((x.b.take x.s).drop off).take cnt

theorem rd_len (x : Nd) (hb : x.b.length = 96) (hs : x.s ≤ 96) (off cnt : Nat) : (rd x off cnt).length = min cnt (x.s - off) := by
  unfold rd
  simp [hb]
  omega

theorem rd_getD (x : Nd) (hb : x.b.length = 96) (hs : x.s ≤ 96) (off cnt j : Nat) (hj : j < min cnt (x.s - off)) : (rd x off cnt).getD j 0 = x.b.getD (off + j) 0 := by
  unfold rd
  rw [List.getD_eq_getElem?_getD, List.getElem?_take_of_lt (by omega), List.getElem?_drop, List.getElem?_take_of_lt (by omega), List.getD_eq_getElem?_getD]

theorem cell_three (w : World) (g : Nat) (v0 v1 v2 : Value) (a : Addr) (h : a.block ≠ g) : ((((w.setCell ⟨g, 0, none⟩ v0).setCell ⟨g, 1, none⟩ v1).setCell ⟨g, 2, none⟩ v2).drew).cell? a = w.cell? a := by
  have one : ∀ (w : World) (j : Nat) (v : Value), (w.setCell ⟨g, j, none⟩ v).cell? a = w.cell? a := fun w j v => World.cell?_of_block (heap_setCell_other w ⟨g, j, none⟩ a.block v h)
  exact ((one _ 2 v2).trans (one _ 1 v1)).trans (one _ 0 v0)

theorem builtInfo (k l s : Int) : Tryz.prog.built 135 [(0, .int .i64 k), (1, .int .i64 l), (2, .int .i64 s)] = some #[.int .i64 k, .int .i64 l, .int .i64 s] := congrFun (congrFun (congrFun (show (fun (k l s : Int) => Tryz.prog.built 135 [(0, .int .i64 k), (1, .int .i64 l), (2, .int .i64 s)]) = (fun k l s => some #[.int .i64 k, .int .i64 l, .int .i64 s]) by kernel_rfl) k) l) s
theorem csizeInfo : (Tryz.prog.info? 135).map (·.size) = some 3 := by kernel_rfl

set_option maxHeartbeats 4000000 in
set_option maxRecDepth 20000 in
theorem stat_file (p : Nat) (S : Sg) (w : World) (i : Nat) (h1 : 1 ≤ i) (hi : i < 17) (x : Nd) (T : Nat → Bool) (H : Sy w p (S.bl i x T)) (hk : x.k = 1) :
    Calls Tryz.prog 87 #[.pointer (some ⟨p, 0, none⟩), .int .i64 (i : Int)] w fun e w' => e = .returned (.tuple #[.agg #[.int .i64 1, .int .i64 x.l, .int .i64 (x.s : Int)], .int .i64 0]) ∧ Below w.heap.size w w' := by
  have hP : (S.bl i x T).P i = x := updN_same _ _ _
  obtain ⟨W, gW⟩ : ∃ W, W = w.alloc (Obj.cells #[.int .i64 0, .int .i64 0, .int .i64 0] 135) := ⟨_, rfl⟩
  have hB : Below w.heap.size w W := by rw [gW]; exact one_new _ _
  have hN : W.heap[w.heap.size]? = some (.cells #[.int .i64 0, .int .i64 0, .int .i64 0] 135 (0, 0)) := by rw [gW]; exact heap_alloc_new _ _
  have hS : Sy W p (S.bl i x T) := H.grow hB
  have k1 := hid (node_yes p (S.bl i x T) W hS i h1 hi (by rw [hP, hk]; omega))
  have c0 := hS.k i hi
  have c1 := hS.l i hi
  have c3 := hS.s i hi
  have c6 := hS.m i hi
  have hnm := hS.nms i hi
  rw [hP] at c0 c1 c3 c6 hnm
  have kl : Hid (∀ W', W' = W ∨ W' = W.drew → Calls Tryz.prog 110 #[.pointer (some ⟨p, 1 + i * 107, none⟩)] W' fun e w' => e = .returned (.int .i64 (x.s : Int)) ∧ w' = W') := by
    refine hid (fun W' hW' => ?_)
    have := fun W' (hw : W'.heap = W.heap) => length_any p (1 + i * 107) x.k x.s x.m _ _ W' ((World.cell?_of_block (a := ⟨p, 1 + i * 107, none⟩) (show W'.heap[p]? = W.heap[p]? by rw [hw])).trans c0) ((World.cell?_of_block (a := ⟨p, 1 + i * 107 + 3, none⟩) (show W'.heap[p]? = W.heap[p]? by rw [hw])).trans c3) ((World.cell?_of_block (a := ⟨p, 1 + i * 107 + 106, none⟩) (show W'.heap[p]? = W.heap[p]? by rw [hw])).trans c6) (hnm.block (fun b _ => by rw [hw]))
    rw [if_neg (by rw [hk]; omega)] at this
    rcases hW' with rfl | rfl
    · exact this _ rfl
    · exact this _ rfl
  rw [hk] at c0
  have r0 : W.cell? ⟨w.heap.size, 0, none⟩ = some (.int .i64 0) := by rw [cell_of_row W _ 0 _ _ _ hN]; rfl
  have r1 : W.cell? ⟨w.heap.size, 1, none⟩ = some (.int .i64 0) := by rw [cell_of_row W _ 1 _ _ _ hN]; rfl
  have r2 : W.cell? ⟨w.heap.size, 2, none⟩ = some (.int .i64 0) := by rw [cell_of_row W _ 2 _ _ _ hN]; rfl
  have f0 : ∀ j, W.frozen? ⟨w.heap.size, j, none⟩ = false := fun j => by simp [World.frozen?, hN]
  have f1 := f0 0
  have f2 := f0 1
  have f3 := f0 2
  obtain ⟨l, gl⟩ : ∃ l, l = x.l := ⟨_, rfl⟩
  obtain ⟨s, gs⟩ : ∃ s, s = x.s := ⟨_, rfl⟩
  rw [← gl] at c1 ⊢
  rw [← gs] at c3 kl ⊢
  have hpn : p ≠ w.heap.size := Nat.ne_of_lt H.lt
  have HN := hid hN
  have HB := hid hB
  clear H hP hS hnm c6 hk hN hB gl gs f0
  go_enter Tryz.func87, Tryz.ntmps87
  go_wp2_with fail
  rw [← gW]
  clear gW
  refine k1.out.mono ?_
  rintro e w1 ⟨rfl, rfl⟩
  clear k1
  go_wp2_with fail
  go_region_held3 (fun W' => W'.cell? ⟨p, 1 + i * 107, none⟩ = some (.int .i64 1) ∧ W'.cell? ⟨p, 1 + i * 107 + 1, none⟩ = some (.int .i64 l)) (first | (refine ⟨?_, ?_⟩ <;> assumption) | (refine ⟨(cell_three _ _ _ _ _ ⟨p, _, none⟩ hpn).trans ?_, (cell_three _ _ _ _ _ ⟨p, _, none⟩ hpn).trans ?_⟩ <;> assumption) | go_keep) ((go_at_call 110; refine (kl.out _ (by first | exact .inl rfl | exact .inr rfl)).mono ?_; rintro e w' ⟨rfl, rfl⟩))
  go_wp2_with fail
  have q3 : ((((w1.setCell ⟨w.heap.size, 0, none⟩ (.int .i64 1)).setCell ⟨w.heap.size, 1, none⟩ (.int .i64 l)).setCell ⟨w.heap.size, 2, none⟩ (.int .i64 (s : Int))).drew).heap[w.heap.size]? = some (.cells (List.toArray [.int .i64 1, .int .i64 l, .int .i64 (s : Int)]) 135 (0, 0)) := by
    have g1 := heap_setCell_same w1 w.heap.size 0 _ _ (.int .i64 1) HN.out
    have g2 := heap_setCell_same _ w.heap.size 1 _ _ (.int .i64 l) g1
    have g3 := heap_setCell_same _ w.heap.size 2 _ _ (.int .i64 (s : Int)) g2
    exact g3
  have uu : Upd (· = w.heap.size) w1 ((((w1.setCell ⟨w.heap.size, 0, none⟩ (.int .i64 1)).setCell ⟨w.heap.size, 1, none⟩ (.int .i64 l)).setCell ⟨w.heap.size, 2, none⟩ (.int .i64 (s : Int))).drew) := by
    have u1 : Upd (· = w.heap.size) w1 (w1.setCell ⟨w.heap.size, 0, none⟩ (.int .i64 1)) := Upd.setCell (F := (· = w.heap.size)) w1 ⟨_, _, none⟩ _ rfl
    have u2 : Upd (· = w.heap.size) (w1.setCell ⟨w.heap.size, 0, none⟩ (.int .i64 1)) ((w1.setCell ⟨w.heap.size, 0, none⟩ (.int .i64 1)).setCell ⟨w.heap.size, 1, none⟩ (.int .i64 l)) := Upd.setCell (F := (· = w.heap.size)) _ ⟨_, _, none⟩ _ rfl
    have u3 : Upd (· = w.heap.size) ((w1.setCell ⟨w.heap.size, 0, none⟩ (.int .i64 1)).setCell ⟨w.heap.size, 1, none⟩ (.int .i64 l)) (((w1.setCell ⟨w.heap.size, 0, none⟩ (.int .i64 1)).setCell ⟨w.heap.size, 1, none⟩ (.int .i64 l)).setCell ⟨w.heap.size, 2, none⟩ (.int .i64 (s : Int))) := Upd.setCell (F := (· = w.heap.size)) _ ⟨_, _, none⟩ _ rfl
    exact ((u1.trans u2 (fun _ _ h => h)).trans u3 (fun _ _ h => h)).drewN 1
  refine bodyPost_ret (cell_result2 rfl _ _ w.heap.size 0 rfl [.int .i64 1, .int .i64 l, .int .i64 (s : Int)] _ (rangeAt_block q3) Tryz.underlying135 rfl csizeInfo) rfl ?_
  exact ⟨rfl, HB.out.trans (uu.below HB.out.size (fun x hx => by omega))⟩

end Go.Proofs.YtbglhmcahnkbfaaGreat

/- What takeName does: a directory's name names nothing more. -/
namespace Go.Proofs.YtbglhmcahnkbfaaGreat
open Go.RowKit Go.ChangeMaps Go.MapKept
set_option linter.unusedVariables false
set_option maxRecDepth 20000

/-- A name less. -/
def Sg.drop (S : Sg) (d : Nat) (s : List UInt8) : Sg := { S with L := fun i => if i = d then S.L d - 1 else S.L i, N := fun i => if i = d then (fun x => if x = s then 0 else S.N d x) else S.N i }

theorem owns_exact {w : World} {b n : Nat} {D : DataW Unit} (h : w.ownsMap Tryz.prog 9 (plainElem Tryz.prog 3) b n D) : w.ownsMap Tryz.prog 9 (plainElem Tryz.prog 3) b (Maps.size D) D := by
  obtain ⟨es, clock, hb, F, hn, rfl⟩ := h
  refine ⟨es, clock, hb, F, ?_, rfl⟩
  show es.size ≤ ((es.toList.map _).foldr DataW.insert []).length
  rw [length_read]
  exact Nat.le_refl _

theorem Sy.drop {w w' : World} {p : Nat} {S : Sg} (h : Sy w p S) (d : Nat) (hd : d < 17) (b : Nat) (hb : (S.P d).m = some b) (s : List UInt8) (hs : S.N d s ≠ 0) (D : DataW Unit)
    (h1 : w.ownsMap Tryz.prog 9 (plainElem Tryz.prog 3) b (S.L d) D) (h2 : Maps.size D = S.L d) (h3 : ∀ s, D.atKey (.string s) (.lit (.int .i64 0)) = .lit (.int .i64 (S.N d s : Int))) (h4 : ∀ s, Maps.has D (.string s) = decide (S.N d s ≠ 0))
    (h5 : w'.ownsMap Tryz.prog 9 (plainElem Tryz.prog 3) b (S.L d) (D.del (.string s))) (u : Upd (· = b) w w') : Sy w' p (S.drop d s) := by
  have hbp : b ≠ p := fun e => h.np d hd (e ▸ hb)
  have hT : Maps.Tidy D := h1.tidy (Go.Maps.string_keyed Tryz.underlying9)
  have hM : Maps.IsMap D := hT.isMap
  have hz : Maps.size (D.del (.string s)) = S.L d - 1 := by
    have := Maps.size_del (k := .string s) hT
    rw [h4, h2] at this
    simp [hs] at this
    omega
  obtain ⟨C, hC, hSl⟩ := h.blk
  refine ⟨⟨C, u.heap hC (fun e => hbp e.symm), hSl⟩, fun i hi => ?_, fun i x hi => ?_, fun i hi => ?_, h.ap, h.np, h.dir, h.root, h.zero⟩
  · by_cases e : i = d
    · subst e
      show Nms w' (S.P i).m _ _
      rw [hb]
      simp only [Sg.drop, if_true]
      refine ⟨_, hz ▸ owns_exact h5, hz, fun x => ?_, fun x => ?_⟩
      · by_cases ex : x = s
        · subst ex; rw [Maps.atKey_del_same]; simp
        · rw [Maps.atKey_del_other (by intro q; injection q with q; exact ex q), h3]; simp [ex]
      · by_cases ex : x = s
        · subst ex; rw [Maps.has_del_same]; simp
        · rw [Maps.has_del_other (by intro q; injection q with q; exact ex q), h4]; simp [ex]
    · show Nms w' (S.P i).m (if i = d then _ else S.L i) (if i = d then _ else S.N i)
      rw [if_neg e, if_neg e]
      refine (h.nms i hi).block (fun c hc => u.block c (h.foot_lt c (.inr ⟨i, hi, hc⟩)) (fun q => e ?_))
      exact h.ap i d c hi hd hc (q ▸ hb)
  · show (if i = d then (fun x => if x = s then 0 else S.N d x) else S.N i) x < 17
    split
    · dsimp only
      split
      · omega
      · exact h.to d x hd
    · exact h.to i x hi
  · show (if i = d then S.L d - 1 else S.L i) ≤ 6
    split
    · have := h.le d hd; omega
    · exact h.le i hi

theorem upd_turned {w w' : World} {b : Nat} (h : w.mapTurned w' b) : Upd (· = b) w w' := by
  obtain ⟨es, clock, es', clock', hb, rfl⟩ := h
  refine ⟨rfl, rfl, rfl, by simp [setBlock], fun k hk hn => ?_⟩
  simp only [setBlock]
  rw [Array.getElem?_setIfInBounds_ne (fun e => hn e.symm)]

end Go.Proofs.YtbglhmcahnkbfaaGreat

/- What the document's split does. -/
namespace Go.Proofs.YtbglhmcahnkbfaaGreat
open Go.RowKit
set_option linter.unusedVariables false

theorem upto_at : ∀ (l : List UInt8) (k : Nat) (c : UInt8), k ≤ upto l → l[k]? = some c → (c = 47 → upto l = k) ∧ (c ≠ 47 → k + 1 ≤ upto l)
  | [], k, c, _, h => by simp at h
  | d :: r, 0, c, _, h => by
    simp at h
    subst h
    unfold upto
    exact ⟨fun e => by rw [if_pos e], fun e => by rw [if_neg e]; omega⟩
  | d :: r, k + 1, c, hk, h => by
    by_cases hd : d = 47
    · simp [upto, hd] at hk
    · have e : upto (d :: r) = upto r + 1 := by simp [upto, hd]
      rw [e] at hk ⊢
      have := upto_at r k c (by omega) (by simpa using h)
      exact ⟨fun e => by rw [this.1 e], fun e => by have := this.2 e; omega⟩
theorem bl_ext (t : ByteArray) (f i : Nat) : bl (t.extract f i) = ((bl t).drop f).take (i - f) := by
  simp [bl, ByteArray.data_extract, List.take_drop]

theorem infoS : (Tryz.prog.info? 9).map (fun i => (i.zero, i.size, i.bytes)) = some (some (.string ⟨#[]⟩), 1, 16) := by kernel_rfl

set_option maxHeartbeats 1000000 in
theorem split_none (t : ByteArray) (w : World) (h : bl t = []) :
    Calls Tryz.prog 138 #[.string t] w fun e w' => e = .returned (.tuple #[.slice none 0 0, .int .i64 22]) ∧ w' = w := by
  have h3 : (t.toList == []) = true := by
    rw [Lib.toList_data]
    simpa [bl] using h
  clear h
  go_enter Tryz.func138, Tryz.ntmps138
  go_wp2_with fail
  go_ret2
  exact ⟨rfl, rfl⟩

theorem byte_at {t : ByteArray} {i : Nat} {c : UInt8} (h : (bl t)[i]? = some c) : ∃ q : i < t.size, (t[i]'q) = c := by
  have q := (List.getElem?_eq_some_iff.1 h).1
  rw [bl_len] at q
  refine ⟨q, ?_⟩
  have := (List.getElem?_eq_some_iff.1 h).2
  exact this
theorem ne47 {c : UInt8} (h : c ≠ 47) : (((c.toNat : Nat) : Int) != 47) = true ∧ (((c.toNat : Nat) : Int) == 47) = false := by
  have : c.toNat ≠ 47 := fun e => h (UInt8.toNat_inj.1 e)
  constructor <;> simp <;> omega

set_option maxHeartbeats 1000000 in
theorem split_bad (t : ByteArray) (w : World) (c : UInt8) (r : List UInt8) (h : bl t = c :: r) (hc : c ≠ 47) :
    Calls Tryz.prog 138 #[.string t] w fun e w' => e = .returned (.tuple #[.slice none 0 0, .int .i64 22]) ∧ w' = w := by
  have h3 : (t.toList == []) = false := by
    rw [Lib.toList_data]
    have : t.data.toList = c :: r := h
    rw [this]; rfl
  obtain ⟨h4, h5⟩ := byte_at (t := t) (i := 0) (c := c) (by rw [h]; rfl)
  have h6 : ((((t[0]'h4).toNat : Nat) : Int) != 47) = true := by rw [h5]; exact (ne47 hc).1
  clear h h5
  go_enter Tryz.func138, Tryz.ntmps138
  go_wp2_with fail
  go_ret2
  exact ⟨rfl, rfl⟩

set_option maxHeartbeats 1000000 in
theorem split_root (t : ByteArray) (w : World) (h : bl t = [47]) :
    Calls Tryz.prog 138 #[.string t] w fun e w' => e = .returned (.tuple #[.slice none 0 0, .int .i64 0]) ∧ w' = w := by
  have h2 : t.data.toList = [47] := h
  have h3 : (t.toList == []) = false := by rw [Lib.toList_data, h2]; rfl
  have h3' : (t.toList == [47]) = true := by rw [Lib.toList_data, h2]; rfl
  obtain ⟨h4, h5⟩ := byte_at (t := t) (i := 0) (c := 47) (by rw [h]; rfl)
  have h6 : ((((t[0]'h4).toNat : Nat) : Int) != 47) = false := by rw [h5]; rfl
  clear h h5 h2
  go_enter Tryz.func138, Tryz.ntmps138
  go_wp2_with fail
  go_ret2
  exact ⟨rfl, rfl⟩

/-- How far split is: what is told, where the name begins. -/
def Spt (w wr : World) (t : ByteArray) (v : Value) (f i : Nat) : Prop :=
  ∃ (a : Option Addr) (n c : Nat) (xs : List ByteArray), v = .slice a n c ∧ xs.length = n ∧ n + 1 ≤ f ∧ f ≤ i ∧ spl ((bl t).drop 1) = xs.map bl ++ spl ((bl t).drop f) ∧ i - f ≤ upto ((bl t).drop f) ∧ wr.ownsRow w.heap.size 9 1 v n (xs.map Value.string) ∧ Below w.heap.size w wr

theorem cell_one (w : World) (v : Value) (ty : TypeId) : ∀ j u, ([v] : List Value)[j]? = some u → (w.alloc (.cells #[v] ty)).cell? ((⟨w.heap.size, 0, none⟩ : Addr).add j) = some u := by
  intro j u h
  cases j with
  | zero => simp at h; subst h; simp [Addr.add, go_sem]
  | succ j => simp at h

theorem index_at (t : ByteArray) (i : Nat) (h : i < t.size) (w : World) : (Instr.index 9 (.string t) (.int .i64 i)).run Tryz.prog w = .ok (.int .u8 (((t[i]'h).toNat : Nat) : Int)) w := by
  rw [run_index_string w 9 t .i64 i Tryz.underlying9, dif_pos ⟨by omega, by omega⟩]
  rfl

set_option maxHeartbeats 4000000 in
set_option maxRecDepth 20000 in
theorem split_ok (t : ByteArray) (w : World) (r : List UInt8) (h : bl t = 47 :: r) (hr : r ≠ []) (hs : t.size ≤ 1048576) :
    Calls Tryz.prog 138 #[.string t] w fun e w' => ∃ (a : Option Addr) (n c : Nat) (xs : List ByteArray), e = .returned (.tuple #[.slice a n c, .int .i64 0]) ∧ xs.length = n ∧ n ≤ 1048576 ∧ xs.map bl = spl r ∧ w'.ownsRow w.heap.size 9 1 (.slice a n c) n (xs.map Value.string) ∧ Below w.heap.size w w' := by
  obtain ⟨i0, hi0, hz0, hz1, hz2⟩ := info_parts infoS
  have h2 : t.data.toList = 47 :: r := h
  have h3 : (t.toList == []) = false := by rw [Lib.toList_data, h2]; rfl
  have h3' : (t.toList == [47]) = false := by
    rw [Lib.toList_data, h2]
    cases r with
    | nil => exact absurd rfl hr
    | cons x y => rfl
  obtain ⟨h4, h5⟩ := byte_at (t := t) (i := 0) (c := 47) (by rw [h]; rfl)
  have h6 : ((((t[0]'h4).toNat : Nat) : Int) != 47) = false := by rw [h5]; rfl
  have hlen : t.size = r.length + 1 := by rw [← bl_len, h]; rfl
  have hr1 : 1 ≤ r.length := by cases r with
    | nil => exact absurd rfl hr
    | cons x y => simp
  have HT : Hid (bl t = 47 :: r) := hid h
  have HLN := hid hlen
  have ht1 : 1 ≤ t.size := by omega
  have HI : Hid (Spt w w t (.slice none 0 0) 1 1) := hid ⟨none, 0, 0, [], rfl, rfl, by omega, by omega, by simp, by omega, World.ownsRow_nil _ _ _ _, Below.refl _ _⟩
  clear h h5 h2 hr hlen hr1
  go_enter Tryz.func138, Tryz.ntmps138
  go_wp2_with fail
  go_loopw [4, 5, 6] (fun v4 v5 v6 wr => ∃ f i : Nat, f ≤ t.size ∧ i ≤ t.size ∧ v5 = .int .i64 (f : Int) ∧ v6 = .int .i64 (i : Int) ∧ Hid (Spt w wr t v4 f i)) (fun _ _ v6 _ => t.size - (intOf v6).toNat)
  case atStart => exact ⟨1, 1, by omega, by omega, rfl, rfl, HI⟩
  case round =>
    clear HI
    obtain ⟨f, i, hf, hi, rfl, rfl, HQ⟩ := hrel
    obtain ⟨a, n, c, xs, rfl, hxl, hnf, hfi, hsp, hup, hO, hB⟩ := HQ.out
    have HSP := hid hsp
    have HUP := hid hup
    have HO := hid hO
    have HB := hid hB
    have hBs := hB.size
    have hxl' : Hid (xs.length = n) := hid hxl
    clear hsp hup hO hB HQ hxl
    have hfi' : (f : Int) ≤ (i : Int) := by omega
    have hi' : (i : Int) ≤ (t.size : Int) := by omega
    have hf' : (f : Int) ≤ (t.size : Int) := by omega
    have hf0 : (0 : Int) ≤ (f : Int) := by omega
    by_cases ei : i = t.size
    · have q1 : ¬ (i : Int) < (t.size : Int) := by omega
      have HE : Hid (i = t.size) := hid ei
      clear ei
      go_wp2_with (at_builtin; go_must (refine wpList_append_own _ rfl (.tmp 35) (.tmp 39) 111 rfl w.heap.size 9 i0 _ 1 16 Tryz.underlying111 hi0 hz0 hz1 hz2 rfl (by decide) _ n (xs.map Value.string) rfl (HO.out.alloc _) ⟨_, 0, none⟩ 1 1 [.string (t.extract f t.size)] rfl rfl (cell_one _ _ _) (by simp [Value.oneCell']) (by unfold maxLen; omega) (by omega) (by simp; omega) ?_))
      intro v' w6 hO hG hN
      have hbel : Below w.heap.size w w6 := (HB.out.alloc hBs (.cells #[.string (t.extract f t.size)] 9)).grown hG (by simp; omega) (fun x hx => (HO.out.lt x hx).1)
      obtain ⟨va, vc, rfl⟩ : ∃ va vc, v' = .slice va (n + 1) vc := by
        rcases hO.2 with ⟨h1, h2⟩ | ⟨g, c, cur, rfl, _⟩
        · omega
        · exact ⟨_, c, rfl⟩
      have HF : Hid ((xs ++ [t.extract f t.size]).map bl = spl r ∧ w6.ownsRow w.heap.size 9 1 (.slice va (n + 1) vc) (n + 1) ((xs ++ [t.extract f t.size]).map Value.string) ∧ Below w.heap.size w w6 ∧ (xs ++ [t.extract f t.size]).length = n + 1) := by
        refine hid ⟨?_, by simpa using hO, hbel, by simp [hxl'.out]⟩
        have e1 := HSP.out
        rw [HT.out] at e1
        rw [show (47 :: r).drop 1 = r from rfl, ← HT.out] at e1
        have e2 : spl ((bl t).drop f) = [(bl t).drop f] := by
          apply spl_no
          have h1 := HUP.out
          have h2 := upto_le ((bl t).drop f)
          have h3 : ((bl t).drop f).length = t.size - f := by rw [List.length_drop, bl_len]
          have h4 := HE.out
          omega
        rw [e1, e2, List.map_append]
        simp [bl_drop]
      have hn : n + 1 ≤ 1048576 := by omega
      clear hO hG hN hbel
      go_wp2_with fail
      go_ret2
      exact ⟨va, n + 1, vc, _, rfl, HF.out.2.2.2, hn, HF.out.1, HF.out.2.1, HF.out.2.2.1⟩
    · have q1 : (i : Int) < (t.size : Int) := by omega
      have hi2 : i < t.size := by omega
      have hx := index_at t i hi2
      obtain ⟨b, gb⟩ : ∃ b, b = t[i]'hi2 := ⟨_, rfl⟩
      rw [← gb] at hx
      have hbt : ((bl t).drop f)[i - f]? = some b := by
        rw [List.getElem?_drop, show f + (i - f) = i by omega, gb]
        exact List.getElem?_eq_some_iff.2 ⟨by rw [bl_len]; exact hi2, rfl⟩
      obtain ⟨u1, u2⟩ := upto_at _ _ _ HUP.out hbt
      have HBT := hid hbt
      clear gb hbt ei
      by_cases hb : b = 47
      · have HU1 := hid (u1 hb)
        have hb1 : (((b.toNat : Nat) : Int) == 47) = true := by rw [hb]; rfl
        clear u1 u2 hb
        go_wp2_with (at_builtin; go_must (refine wpList_append_own _ rfl (.tmp 26) (.tmp 31) 111 rfl w.heap.size 9 i0 _ 1 16 Tryz.underlying111 hi0 hz0 hz1 hz2 rfl (by decide) _ n (xs.map Value.string) rfl (HO.out.alloc _) ⟨_, 0, none⟩ 1 1 [.string (t.extract f i)] rfl rfl (cell_one _ _ _) (by simp [Value.oneCell']) (by unfold maxLen; omega) (by omega) (by simp; omega) ?_))
        intro v' w6 hO hG hN
        have hbel : Below w.heap.size w w6 := (HB.out.alloc hBs (.cells #[.string (t.extract f i)] 9)).grown hG (by simp; omega) (fun x hx => (HO.out.lt x hx).1)
        obtain ⟨va, vc, rfl⟩ : ∃ va vc, v' = .slice va (n + 1) vc := by
          rcases hO.2 with ⟨h1, h2⟩ | ⟨g, c, cur, rfl, _⟩
          · omega
          · exact ⟨_, c, rfl⟩
        have HQ2 : Hid (Spt w w6 t (.slice va (n + 1) vc) (i + 1) (i + 1)) := by
          refine hid ⟨va, n + 1, vc, xs ++ [t.extract f i], rfl, by simp [hxl'.out], by omega, by omega, ?_, by omega, by simpa using hO, hbel⟩
          have h1 := HU1.out
          have h3 : ((bl t).drop f).length = t.size - f := by rw [List.length_drop, bl_len]
          rw [HSP.out, spl_yes ((bl t).drop f) (by omega), h1, List.map_append, List.append_assoc, List.drop_drop, show f + (i - f + 1) = i + 1 by omega]
          simp [bl_ext]
        clear hO hG hN hbel HSP HUP HO HB HU1 hxl' HBT hx hb1
        go_wp2_with fail
        go_roundw
        case rel => exact ⟨i + 1, i + 1, by omega, by omega, by go_num, by go_num, HQ2⟩
        case measure => simp [intOf]; omega
      · have HU2 := hid (u2 hb)
        have hb1 := (ne47 hb).2
        clear u1 u2 hb
        have HQ2 : Hid (Spt w wr t (.slice a n c) f (i + 1)) := hid ⟨a, n, c, xs, rfl, hxl'.out, hnf, by omega, HSP.out, by have := HU2.out; omega, HO.out, HB.out⟩
        go_wp2_with fail
        go_roundw
        case rel => exact ⟨f, i + 1, by omega, by omega, rfl, by go_num, HQ2⟩
        case measure => simp [intOf]; omega

end Go.Proofs.YtbglhmcahnkbfaaGreat

/- The document's file system with a root alone: New, named, look, walk, end. -/
namespace Go.Proofs.YtbglhmcahnkbfaaGreat
open Go.RowKit
set_option linter.unusedVariables false

/-- A root alone. -/
structure R6 (w : World) (p b : Nat) : Prop where
  at0 : ∃ u d, w.heap[p]? = some (.cells #[.slice (some ⟨b, 0, none⟩) 17 17, u, d] 119 (0, 0))
  row : ∃ C : List Value, w.heap[b]? = some (.cells C.toArray 122 (0, 0)) ∧ C.length = 102 ∧ C[6]? = some (.int .i64 2) ∧ C[11]? = some (.slice none 0 0) ∧ C[12]? = some (.int .i64 0)
  ne : p ≠ b

theorem R6.c0 {w : World} {p b : Nat} (h : R6 w p b) : w.cell? ⟨p, 0, none⟩ = some (.slice (some ⟨b, 0, none⟩) 17 17) := by
  obtain ⟨u, d, h⟩ := h.at0
  rw [cell_of_row w _ 0 _ _ _ h]; rfl
theorem R6.cb {w : World} {p b : Nat} (h : R6 w p b) : w.cell? ⟨b, 6, none⟩ = some (.int .i64 2) ∧ w.cell? ⟨b, 11, none⟩ = some (.slice none 0 0) ∧ w.cell? ⟨b, 12, none⟩ = some (.int .i64 0) := by
  obtain ⟨C, h1, h2, h3, h4, h5⟩ := h.row
  exact ⟨cell_list h1 h3, cell_list h1 h4, cell_list h1 h5⟩
theorem R6.lt {w : World} {p b : Nat} (h : R6 w p b) : p < w.heap.size ∧ b < w.heap.size := by
  obtain ⟨u, d, h1⟩ := h.at0
  obtain ⟨C, h2, _⟩ := h.row
  exact ⟨(Array.getElem?_eq_some_iff.1 h1).1, (Array.getElem?_eq_some_iff.1 h2).1⟩
theorem R6.below {w w' : World} {p b : Nat} (h : R6 w p b) (u : Below w.heap.size w w') : R6 w' p b := by
  obtain ⟨l1, l2⟩ := h.lt
  obtain ⟨x, d, h1⟩ := h.at0
  obtain ⟨C, h2, h3⟩ := h.row
  exact ⟨⟨x, d, (u.block p l1).trans h1⟩, ⟨C, (u.block b l2).trans h2, h3⟩, h.ne⟩

/-- The error of a name at the root. -/
def nmE (s : ByteArray) : Int := if s.size = 0 then 22 else if 6 < s.size then 36 else 0

set_option maxHeartbeats 1000000 in
theorem named_any (p b : Nat) (s : ByteArray) (w : World) (H : R6 w p b) :
    Calls Tryz.prog 152 #[.pointer (some ⟨p, 0, none⟩), .int .i64 1, .string s] w fun e w' => e = .returned (.int .i64 (nmE s)) ∧ w' = w := by
  have c0 := H.c0
  obtain ⟨c1, _, _⟩ := H.cb
  clear H
  by_cases h : s.size = 0
  · have e : nmE s = 22 := by simp [nmE, h]
    rw [e]
    have h3 : (s.toList == []) = true := by
      rw [Lib.toList_data]
      have := bl_len s
      rw [h] at this
      have := List.eq_nil_of_length_eq_zero this
      simpa [bl] using this
    clear h e
    go_enter Tryz.func152, Tryz.ntmps152
    go_wp2_with fail
    go_ret
    exact ⟨rfl, rfl⟩
  · have h3 : (s.toList == []) = false := by
      rw [Lib.toList_data]
      have := bl_len s
      cases e : s.data.toList with
      | nil => unfold bl at this; rw [e] at this; simp at this; omega
      | cons x y => rfl
    by_cases h6 : 6 < s.size
    · have e : nmE s = 36 := by simp [nmE, h, h6]
      rw [e]
      have h4 : (6 : Int) < (s.size : Int) := by omega
      clear h e h6
      go_enter Tryz.func152, Tryz.ntmps152
      go_wp2_with fail
      go_ret
      exact ⟨rfl, rfl⟩
    · have e : nmE s = 0 := by simp [nmE, h, h6]
      rw [e]
      have h4 : ¬ (6 : Int) < (s.size : Int) := by omega
      clear h e h6
      go_enter Tryz.func152, Tryz.ntmps152
      go_wp2_with fail
      go_ret
      exact ⟨rfl, rfl⟩

set_option maxHeartbeats 1000000 in
theorem look_none (p b : Nat) (s : ByteArray) (w : World) (H : R6 w p b) :
    Calls Tryz.prog 141 #[.pointer (some ⟨p, 0, none⟩), .int .i64 1, .string s] w fun e w' => e = .returned (.int .i64 0) ∧ w' = w := by
  have c0 := H.c0
  obtain ⟨_, c1, _⟩ := H.cb
  clear H
  go_enter Tryz.func141, Tryz.ntmps141
  go_wp2_with fail
  go_loopw [18] (fun v18 wr => v18 = .int .i64 0 ∧ wr = w) (fun _ _ => 0)
  case atStart => exact ⟨rfl, rfl⟩
  case round =>
    obtain ⟨rfl, rfl⟩ := hrel
    go_wp2_with fail
    go_ret
    exact ⟨rfl, rfl⟩

set_option maxHeartbeats 1000000 in
theorem walk_root (p b : Nat) (a : Option Addr) (c : Nat) (w : World) :
    Calls Tryz.prog 139 #[.pointer (some ⟨p, 0, none⟩), .slice a 0 c] w fun e w' => e = .returned (.tuple #[.int .i64 1, .int .i64 0]) ∧ w' = w := by
  go_enter Tryz.func139, Tryz.ntmps139
  go_wp2_with fail
  go_loopw [6, 12] (fun v6 v12 wr => v6 = .int .i64 1 ∧ v12 = .int .i64 0 ∧ wr = w) (fun _ _ _ => 0)
  case atStart => exact ⟨rfl, rfl, rfl⟩
  case round =>
    obtain ⟨rfl, rfl, rfl⟩ := hrel
    go_wp2_with fail
    go_ret2
    exact ⟨rfl, rfl⟩

set_option maxHeartbeats 1000000 in
theorem walk_some (p b : Nat) (g o n c : Nat) (s : ByteArray) (w : World) (H : R6 w p b) (hn : 0 < n) (hs : w.cell? ⟨g, o, none⟩ = some (.string s)) :
    Calls Tryz.prog 139 #[.pointer (some ⟨p, 0, none⟩), .slice (some ⟨g, o, none⟩) n c] w fun e w' => e = .returned (.tuple #[.int .i64 0, .int .i64 (if nmE s = 0 then 2 else nmE s)]) ∧ w' = w := by
  have k1 := hid (named_any p b s w H)
  have k2 := hid (look_none p b s w H)
  have hn' : (0 : Int) < (n : Int) := by omega
  by_cases h : nmE s = 0
  · rw [if_pos h]
    rw [h] at k1
    clear H h
    go_enter Tryz.func139, Tryz.ntmps139
    go_wp2_with fail
    go_loopw [6, 12] (fun v6 v12 wr => v6 = .int .i64 1 ∧ v12 = .int .i64 0 ∧ wr = w) (fun _ _ _ => 0)
    case atStart => exact ⟨rfl, rfl, rfl⟩
    case round =>
      obtain ⟨rfl, rfl, rfl⟩ := hrel
      go_wp2_with fail
      refine k1.out.mono ?_
      rintro e w1 ⟨rfl, rfl⟩
      go_wp2_with fail
      refine k2.out.mono ?_
      rintro e w1 ⟨rfl, rfl⟩
      go_wp2_with fail
      go_ret2
      exact ⟨rfl, rfl⟩
  · rw [if_neg h]
    obtain ⟨E, gE⟩ : ∃ E, E = nmE s := ⟨_, rfl⟩
    rw [← gE] at k1 h ⊢
    clear H gE
    go_enter Tryz.func139, Tryz.ntmps139
    go_wp2_with fail
    go_loopw [6, 12] (fun v6 v12 wr => v6 = .int .i64 1 ∧ v12 = .int .i64 0 ∧ wr = w) (fun _ _ _ => 0)
    case atStart => exact ⟨rfl, rfl, rfl⟩
    case round =>
      obtain ⟨rfl, rfl, rfl⟩ := hrel
      go_wp2_with fail
      refine k1.out.mono ?_
      rintro e w1 ⟨rfl, rfl⟩
      go_wp2_with fail
      go_ret2
      exact ⟨rfl, rfl⟩

end Go.Proofs.YtbglhmcahnkbfaaGreat

/- What the document's walk to a path's end comes to, at a root alone. -/
namespace Go.Proofs.YtbglhmcahnkbfaaGreat
open Go.RowKit
set_option linter.unusedVariables false

/-- The error of a name; of a path. -/
def nmL (s : List UInt8) : Int := if s.length = 0 then 22 else if 6 < s.length then 36 else 0
theorem nmE_bl (s : ByteArray) : nmE s = nmL (bl s) := by unfold nmE nmL; rw [bl_len]
def splE : List (List UInt8) → Int
  | [] => 0
  | [s] => nmL s
  | s :: _ :: _ => if nmL s = 0 then 2 else nmL s
def endE (l : List UInt8) : Int := if l.head? = some 47 ∧ l ≠ [47] then splE (spl (l.drop 1)) else 22

theorem own_cells {w : World} {B n c : Nat} {a : Option Addr} {xs : List Value} (h : w.ownsRow B 9 1 (.slice a n c) n xs) (hn : 0 < n) :
    ∃ g, a = some ⟨g, 0, none⟩ ∧ g < w.heap.size ∧ n ≤ c ∧ c ≤ 9223372036854775807 ∧ ∀ j v, j < n → xs[j]? = some v → w.cell? ⟨g, j, none⟩ = some v := by
  obtain ⟨h1, h2⟩ := h
  rcases h2 with ⟨_, h2⟩ | ⟨g, c', cur, e, hb, hg, hnc, hcm, hcs, htake⟩
  · omega
  · injection e with r1 r2 r3
    subst r1
    subst r3
    refine ⟨g, rfl, (Array.getElem?_eq_some_iff.1 hg).1, hnc, by simpa [maxLen] using hcm, fun j v hj hv => ?_⟩
    have hh : w.ownsRow B 9 1 (.slice (some ⟨g, 0, none⟩) n c) n xs := ⟨h1, .inr ⟨g, c, cur, rfl, hb, hg, hnc, hcm, hcs, htake⟩⟩
    rw [hh.cellAt j (by omega)]
    exact hv

set_option maxHeartbeats 2000000 in
theorem end_short (p b : Nat) (t : ByteArray) (w : World) (h : ¬ ((bl t).head? = some 47 ∧ bl t ≠ [47])) :
    Calls Tryz.prog 140 #[.pointer (some ⟨p, 0, none⟩), .string t] w fun e w' => e = .returned (.tuple #[.int .i64 0, .string ⟨#[]⟩, .int .i64 22]) ∧ w' = w := by
  by_cases hr : bl t = [47]
  · have k1 := hid (split_root t w hr)
    clear h hr
    go_enter Tryz.func140, Tryz.ntmps140
    go_wp2_with fail
    refine k1.out.mono ?_
    rintro e w1 ⟨rfl, rfl⟩
    clear k1
    go_wp2_with fail
    go_ret3
    exact ⟨rfl, rfl⟩
  · have k1 : Hid (Calls Tryz.prog 138 #[.string t] w fun e w' => e = .returned (.tuple #[.slice none 0 0, .int .i64 22]) ∧ w' = w) := by
      cases e : bl t with
      | nil => exact hid (split_none t w e)
      | cons c r =>
        refine hid (split_bad t w c r e ?_)
        intro hc
        subst hc
        exact h ⟨by rw [e]; rfl, hr⟩
    clear h hr
    go_enter Tryz.func140, Tryz.ntmps140
    go_wp2_with fail
    refine k1.out.mono ?_
    rintro e w1 ⟨rfl, rfl⟩
    clear k1
    go_wp2_with fail
    go_ret3
    exact ⟨rfl, rfl⟩

set_option maxHeartbeats 2000000 in
set_option maxRecDepth 20000 in
theorem end_any (p b : Nat) (t : ByteArray) (w : World) (H : R6 w p b) (hs : t.size ≤ 1048576) :
    Calls Tryz.prog 140 #[.pointer (some ⟨p, 0, none⟩), .string t] w fun e w' => Below w.heap.size w w' ∧ ((endE (bl t) ≠ 0 ∧ e = .returned (.tuple #[.int .i64 0, .string ⟨#[]⟩, .int .i64 (endE (bl t))])) ∨ (endE (bl t) = 0 ∧ ∃ s, e = .returned (.tuple #[.int .i64 1, .string s, .int .i64 0]))) := by
  by_cases hg : ¬ ((bl t).head? = some 47 ∧ bl t ≠ [47])
  · refine (end_short p b t w hg).mono ?_
    rintro e w' ⟨rfl, rfl⟩
    have e : endE (bl t) = 22 := by unfold endE; rw [if_neg hg]
    exact ⟨Below.refl _ _, .inl ⟨by omega, by rw [e]⟩⟩
  · have hg := Decidable.not_not.1 hg
    have e0 : endE (bl t) = splE (spl ((bl t).drop 1)) := by unfold endE; rw [if_pos hg]
    obtain ⟨r, hr, hr0⟩ : ∃ r, bl t = 47 :: r ∧ r ≠ [] := by
      cases e : bl t with
      | nil => rw [e] at hg; simp at hg
      | cons c r =>
        rw [e] at hg
        obtain ⟨h1, h2⟩ := hg
        simp at h1
        subst h1
        exact ⟨r, rfl, fun q => h2 (by rw [q])⟩
    rw [hr] at e0 ⊢
    rw [show (47 :: r).drop 1 = r from rfl] at e0
    obtain ⟨E, gE⟩ : ∃ E, E = endE (47 :: r) := ⟨_, rfl⟩
    rw [← gE] at e0 ⊢
    have k1 := hid (split_ok t w r hr hr0 hs)
    have HE := hid e0
    have HR := hid H
    clear gE e0 hg hr hr0 H
    go_enter Tryz.func140, Tryz.ntmps140
    go_wp2_with fail
    refine k1.out.mono ?_
    rintro e w1 ⟨a, n, c, xs, rfl, hxl, hn, hxs, hO, hB⟩
    clear k1
    have hn1 : 0 < n := by
      rcases Nat.eq_zero_or_pos n with q | q
      · subst q
        rw [List.eq_nil_of_length_eq_zero hxl] at hxs
        exact absurd hxs.symm (spl_ne r)
      · exact q
    obtain ⟨g, rfl, hgl, hnc, hcm, hcell⟩ := own_cells hO hn1
    have HR1 := hid (HR.out.below hB)
    have HB := hid hB
    cases xs with
    | nil => simp at hxl; omega
    | cons x ys =>
      have hx0 := hcell 0 (.string x) hn1 (by simp)
      cases ys with
      | nil =>
        obtain rfl : n = 1 := by simp at hxl; omega
        have k2 := hid (walk_root p b (some ⟨g, 0, none⟩) c w1)
        have k3 := hid (named_any p b x w1 HR1.out)
        have hE : E = nmE x := by
          rw [HE.out, ← hxs, nmE_bl]
          rfl
        rw [← hE] at k3
        have hc' : (0 : Int) ≤ (c : Int) := by omega
        clear hxs hO hB hcell hxl HE HR HR1 hE
        by_cases h0 : E = 0
        · subst h0
          go_wp2_with fail
          refine k2.out.mono ?_
          rintro e w2 ⟨rfl, rfl⟩
          go_wp2_with fail
          refine k3.out.mono ?_
          rintro e w2 ⟨rfl, rfl⟩
          go_wp2_with fail
          go_ret3
          exact ⟨HB.out, x, rfl⟩
        · go_wp2_with fail
          refine k2.out.mono ?_
          rintro e w2 ⟨rfl, rfl⟩
          go_wp2_with fail
          refine k3.out.mono ?_
          rintro e w2 ⟨rfl, rfl⟩
          go_wp2_with fail
          go_ret3
          exact ⟨HB.out, .inl ⟨h0, rfl⟩⟩
      | cons y zs =>
        have hn2 : 2 ≤ n := by simp at hxl; omega
        have k2 := hid (walk_some p b g 0 (n - 1) c x w1 HR1.out (by omega) hx0)
        have hE : E = if nmE x = 0 then 2 else nmE x := by
          rw [HE.out, ← hxs, nmE_bl]
          rfl
        have h0 : ¬ E = 0 := by
          rw [hE]
          split
          · omega
          · assumption
        rw [← hE] at k2
        obtain ⟨m, rfl⟩ : ∃ m, n = m + 1 := ⟨n - 1, by omega⟩
        rw [show m + 1 - 1 = m from rfl] at k2
        have i1 : ¬ ((m + 1 : Nat) : Int) = 0 := by omega
        have i2 : IntKind.i64.wrap (((m + 1 : Nat) : Int) - 1) = (m : Int) := by rw [IntKind.wrap_i64]; omega
        have i3 : (0 : Int) ≤ (m : Int) := by omega
        have i4 : (m : Int) ≤ (c : Int) := by omega
        clear hxs hO hB hcell hxl HE HR HR1 hE
        go_wp2_with fail
        refine k2.out.mono ?_
        rintro e w2 ⟨rfl, rfl⟩
        go_wp2_with fail
        go_ret3
        exact ⟨HB.out, .inl ⟨h0, rfl⟩⟩

end Go.Proofs.YtbglhmcahnkbfaaGreat

/- What the document's New of nodes makes. -/
namespace Go.Proofs.YtbglhmcahnkbfaaGreat
open Go.RowKit
set_option linter.unusedVariables false

theorem made_zs {P : Program} (t e : TypeId) (n : Nat) (z : Value) (size bytes : Nat) (ht : P.underlying t = some (.slice e)) (hi : (P.info? e).map (fun i => (i.zero, i.size, i.bytes)) = some (some z, size, bytes)) (hb : bytes * n ≤ 281474976710656) (hn : n ≤ 1000) :
    ∀ W : World, (Instr.makeSlice t (.int .i64 (n : Int)) (.int .i64 (n : Int))).run P W = .ok (.slice (some ⟨W.heap.size, 0, none⟩) n n) (W.alloc (.cells (madeCells z.cells (n * size)) e)) := by
  obtain ⟨i, hi0, hz0, hz1, hz2⟩ := info_parts hi
  intro W
  have := run_make (P := P) W t e i z ht hi0 hz0 .i64 .i64 (n : Int) (n : Int) (by omega) (by omega) (by rw [hz2]; omega) (by omega)
  simpa [hz1] using this

theorem infoR6 : (Tryz.prog.info? 122).map (fun i => (i.zero, i.size, i.bytes)) = some (some (.agg #[.int .i64 0, .int .i64 0, .int .i64 0, .slice none 0 0, .slice none 0 0, .slice none 0 0]), 6, 96) := by kernel_rfl
theorem infoR6b : (Tryz.prog.info? 4).map (fun i => (i.zero, i.size, i.bytes)) = some (some (.bool false), 1, 1) := by kernel_rfl
theorem csizeR6 : (Tryz.prog.info? 122).map (·.size) = some 6 := by kernel_rfl
theorem builtR6 : Tryz.prog.built 122 [(0, .int .i64 2), (1, .int .i64 1)] = some #[.int .i64 2, .int .i64 1, .int .i64 0, .slice none 0 0, .slice none 0 0, .slice none 0 0] := by kernel_rfl

/-- The cells of no nodes. -/
def noR6 : List Value := (madeCells (Value.agg #[.int .i64 0, .int .i64 0, .int .i64 0, .slice none 0 0, .slice none 0 0, .slice none 0 0]).cells (17 * 6)).toList
theorem noR6_len : noR6.length = 102 := by simp [noR6, size_madeCells]
theorem noR6_12 : noR6[12]? = some (.int .i64 0) := by kernel_rfl

theorem two_allocs (w : World) (a b : Obj) : Below w.heap.size w ((w.alloc a).alloc b) := ((Below.refl _ _).alloc (Nat.le_refl _) _).alloc (by simp) _
theorem three_allocs (w : World) (a b c : Obj) : Below w.heap.size w (((w.alloc a).alloc b).alloc c) := (two_allocs w a b).alloc (by simp; omega) _
theorem first_block (w : World) (C : List Value) (t : TypeId) (b c : Obj) : ((((w.alloc (.cells C.toArray t)).alloc b).alloc c)).heap[w.heap.size]? = some (.cells C.toArray t (0, 0)) := by
  have h := (two_allocs (w.alloc (.cells C.toArray t)) b c).block w.heap.size (by simp)
  exact h.trans (heap_alloc_new w _)
theorem second_block (w : World) (C : List Value) (t : TypeId) (b c : Obj) : ((((w.alloc b).alloc (.cells C.toArray t)).alloc c)).heap[w.heap.size + 1]? = some (.cells C.toArray t (0, 0)) := by
  have h := ((Below.refl _ ((w.alloc b).alloc (.cells C.toArray t))).alloc (Nat.le_refl _) c).block (w.heap.size + 1) (by simp)
  have k := heap_alloc_new (w.alloc b) (.cells C.toArray t)
  rw [show (w.alloc b).heap.size = w.heap.size + 1 by simp] at k
  exact h.trans k

/-- The root is laid. -/
theorem R6.made {w : World} {p b : Nat} {u d : Value} {N : List Value} (hN : N = [.int .i64 2, .int .i64 1, .int .i64 0, .slice none 0 0, .slice none 0 0, .slice none 0 0]) (h1 : w.heap[p]? = some (.cells #[.slice (some ⟨b, 0, none⟩) 17 17, u, d] 119 (0, 0))) (h2 : w.heap[b]? = some (.cells noR6.toArray 122 (0, 0))) (hn : p ≠ b) : R6 (w.setCells b 6 N) p b := by
  have h3 := heap_setCells b 122 N 6 w noR6 h2 (by rw [noR6_len, hN]; simp)
  refine ⟨⟨u, d, ((upd_setCells b N 6 w).block p (Array.getElem?_eq_some_iff.1 h1).1 hn).trans h1⟩, ⟨_, h3, ?_, ?_, ?_, ?_⟩, hn⟩
  · rw [length_splice _ _ _ (by rw [noR6_len, hN]; simp)]; exact noR6_len
  · rw [show 6 = 6 + 0 from rfl, getElem?_splice_in _ _ _ _ (by rw [noR6_len, hN]; simp) (by rw [hN]; simp), hN]; rfl
  · rw [show 11 = 6 + 5 from rfl, getElem?_splice_in _ _ _ _ (by rw [noR6_len, hN]; simp) (by rw [hN]; simp), hN]; rfl
  · rw [getElem?_splice_out _ _ _ _ (by rw [noR6_len, hN]; simp) (by rw [hN]; simp)]; exact noR6_12

set_option maxHeartbeats 2000000 in
set_option maxRecDepth 20000 in
theorem r6new (w : World) :
    Calls Tryz.prog 67 #[.int .i64 0] w fun e w' => ∃ p b, e = .returned (.pointer (some ⟨p, 0, none⟩)) ∧ R6 w' p b ∧ w.heap.size ≤ p ∧ w.heap.size ≤ b ∧ Below w.heap.size w w' := by
  obtain ⟨C, gC⟩ : ∃ C, C = noR6 := ⟨_, rfl⟩
  have hm' : ∀ W : World, (Instr.makeSlice 116 (.int .i64 17) (.int .i64 17)).run Tryz.prog W = .ok (.slice (some ⟨W.heap.size, 0, none⟩) 17 17) (W.alloc (.cells C.toArray 122)) := by
    rw [gC]
    exact made_zs (P := Tryz.prog) 116 122 17 _ _ _ Tryz.underlying116 infoR6 (by omega) (by omega)
  obtain ⟨D, gD⟩ : ∃ D, D = madeCells (Value.bool false).cells (25 * 1) := ⟨_, rfl⟩
  have hk' : ∀ W : World, (Instr.makeSlice 117 (.int .i64 25) (.int .i64 25)).run Tryz.prog W = .ok (.slice (some ⟨W.heap.size, 0, none⟩) 25 25) (W.alloc (.cells D 4)) := by
    rw [gD]
    exact made_zs (P := Tryz.prog) 117 4 25 _ _ _ Tryz.underlying117 infoR6b (by omega) (by omega)
  have HL : Hid (C.length = 102) := by rw [gC]; exact hid noR6_len
  obtain ⟨N, gN⟩ : ∃ N : List Value, N = [.int .i64 2, .int .i64 1, .int .i64 0, .slice none 0 0, .slice none 0 0, .slice none 0 0] := ⟨_, rfl⟩
  have H1 : Hid (N.toArray.all (·.oneCell') = true) := by rw [gN]; exact hid (by simp [Value.oneCell'])
  have HSZ : Hid ((Tryz.prog.info? 122).map (·.size) = some N.toArray.size) := by rw [gN]; exact hid csizeR6
  have HB : Hid (Tryz.prog.built 122 [(0, .int .i64 2), (1, .int .i64 1)] = some N.toArray) := by rw [gN]; exact hid builtR6
  have HT : Hid (6 = N.toArray.size) := by rw [gN]; exact hid rfl
  have HN := hid gN
  have HC := hid gC
  clear gN gD gC
  go_enter Tryz.func67, Tryz.ntmps67
  go_wp2_with fail
  go_region_held3 (fun _ => True) (trivial) (fail)
  all_goals go_wp2_with (first
    | (refine wpList_build_is rfl 122 #[(0, .const (.int .i64 2)), (1, .const (.int .i64 1))] rfl N.toArray (by simpa [Act.eval] using HB.out) ?_)
    | (refine wpList_store_mid rfl 122 (.tmp 14) (.tmp 13) rfl w.heap.size 6 N.toArray rfl rfl (by rw [← HT.out]; exact there_of_block (C := C) (t := 122) (by exact first_block w C 122 _ _) 6 6 (by rw [HL.out]; omega)) HSZ.out H1.out ?_)
    | (refine wpList_store_mid rfl 122 (.tmp 14) (.tmp 13) rfl (w.heap.size + 1) 6 N.toArray rfl rfl (by rw [← HT.out]; exact there_of_block (C := C) (t := 122) (by exact second_block w C 122 _ _) 6 6 (by rw [HL.out]; omega)) HSZ.out H1.out ?_))
  all_goals go_ret
  · obtain ⟨W, gW⟩ : ∃ W, W = (((w.alloc (.cells C.toArray 122)).alloc (.cells D 4)).alloc (.cells #[.slice (some ⟨w.heap.size, 0, none⟩) 17 17, .slice (some ⟨w.heap.size + 1, 0, none⟩) 25 25, .int .i64 0] 119)).drew := ⟨_, rfl⟩
    have hb : Below w.heap.size w W := by rw [gW]; exact (three_allocs w _ _ _).drew
    have hp : W.heap[w.heap.size + 2]? = some (.cells #[.slice (some ⟨w.heap.size, 0, none⟩) 17 17, .slice (some ⟨w.heap.size + 1, 0, none⟩) 25 25, .int .i64 0] 119 (0, 0)) := by
      rw [gW]
      have k := heap_alloc_new ((w.alloc (.cells C.toArray 122)).alloc (.cells D 4)) (.cells #[.slice (some ⟨w.heap.size, 0, none⟩) 17 17, .slice (some ⟨w.heap.size + 1, 0, none⟩) 25 25, .int .i64 0] 119)
      rw [show ((w.alloc (.cells C.toArray 122)).alloc (.cells D 4)).heap.size = w.heap.size + 2 by simp] at k
      exact k
    have hq : W.heap[w.heap.size]? = some (.cells noR6.toArray 122 (0, 0)) := by rw [gW, ← HC.out]; exact first_block w C 122 _ _
    rw [← gW]
    exact ⟨_, _, rfl, R6.made HN.out hp hq (by omega), by omega, by omega, hb.trans ((upd_setCells w.heap.size _ _ _).below hb.size (fun x hx => by omega))⟩
  · obtain ⟨W, gW⟩ : ∃ W, W = (((w.alloc (.cells D 4)).alloc (.cells C.toArray 122)).alloc (.cells #[.slice (some ⟨w.heap.size + 1, 0, none⟩) 17 17, .slice (some ⟨w.heap.size, 0, none⟩) 25 25, .int .i64 0] 119)).drew := ⟨_, rfl⟩
    have hb : Below w.heap.size w W := by rw [gW]; exact (three_allocs w _ _ _).drew
    have hp : W.heap[w.heap.size + 2]? = some (.cells #[.slice (some ⟨w.heap.size + 1, 0, none⟩) 17 17, .slice (some ⟨w.heap.size, 0, none⟩) 25 25, .int .i64 0] 119 (0, 0)) := by
      rw [gW]
      have k := heap_alloc_new ((w.alloc (.cells D 4)).alloc (.cells C.toArray 122)) (.cells #[.slice (some ⟨w.heap.size + 1, 0, none⟩) 17 17, .slice (some ⟨w.heap.size, 0, none⟩) 25 25, .int .i64 0] 119)
      rw [show ((w.alloc (.cells D 4)).alloc (.cells C.toArray 122)).heap.size = w.heap.size + 2 by simp] at k
      exact k
    have hq : W.heap[w.heap.size + 1]? = some (.cells noR6.toArray 122 (0, 0)) := by rw [gW, ← HC.out]; exact second_block w C 122 _ _
    rw [← gW]
    exact ⟨_, _, rfl, R6.made HN.out hp hq (by omega), by omega, by omega, hb.trans ((upd_setCells (w.heap.size + 1) _ _ _).below hb.size (fun x hx => by omega))⟩

end Go.Proofs.YtbglhmcahnkbfaaGreat

/- What the document's add and Make do, at a root alone. -/
namespace Go.Proofs.YtbglhmcahnkbfaaGreat
open Go.RowKit
set_option linter.unusedVariables false

theorem infoNm : (Tryz.prog.info? 124).map (fun i => (i.zero, i.size, i.bytes)) = some (some (.agg #[.string ⟨#[]⟩, .int .i64 0]), 2, 24) := by kernel_rfl

theorem cell_two (w : World) (u v : Value) (ty : TypeId) : ∀ j x, ([u, v] : List Value)[j]? = some x → (w.alloc (.cells #[u, v] ty)).cell? ((⟨w.heap.size, 0, none⟩ : Addr).add j) = some x := by
  intro j x h
  cases j with
  | zero => simp at h; subst h; simp [Addr.add, go_sem]
  | succ j => cases j with
    | zero => simp at h; subst h; simp [Addr.add, go_sem]
    | succ j => simp at h

set_option maxHeartbeats 2000000 in
theorem add_first (p b : Nat) (s : ByteArray) (w : World) (c0 : w.cell? ⟨p, 0, none⟩ = some (.slice (some ⟨b, 0, none⟩) 17 17)) (c1 : w.cell? ⟨b, 11, none⟩ = some (.slice none 0 0)) (f1 : w.frozen? ⟨b, 11, none⟩ = false) (hp : p < w.heap.size) (hb : b < w.heap.size) :
    Calls Tryz.prog 142 #[.pointer (some ⟨p, 0, none⟩), .int .i64 1, .string s, .int .i64 2] w fun e w' => e = .returned (.tuple #[]) ∧ Upd (· = b) w w' := by
  obtain ⟨i0, hi0, hz0, hz1, hz2⟩ := info_parts infoNm
  go_enter Tryz.func142, Tryz.ntmps142
  go_wp2_with fail
  go_loopw [8, 9, 21] (fun v8 v9 v21 wr => v8 = .slice none 0 0 ∧ v9 = .bool false ∧ v21 = .int .i64 0 ∧ wr = w) (fun _ _ _ _ => 0)
  case atStart => exact ⟨rfl, rfl, rfl, rfl⟩
  case round =>
    obtain ⟨rfl, rfl, rfl, rfl⟩ := hrel
    go_wp2_with (at_builtin; go_must (refine wpList_append_own _ rfl (.tmp 46) (.tmp 50) 120 rfl wr.heap.size 124 i0 _ 2 24 Tryz.underlying120 hi0 hz0 hz1 hz2 rfl (by decide) _ 0 [] rfl (World.ownsRow_nil _ _ _ _) ⟨_, 0, none⟩ 1 1 [.string s, .int .i64 2] rfl rfl (cell_two _ _ _ _) (by simp [Value.oneCell']) (by unfold maxLen; omega) (by omega) (by simp) ?_))
    intro v' w6 hO hG hN
    obtain ⟨va, vc, rfl⟩ : ∃ va vc, v' = .slice va (0 + 1) vc := by
      rcases hO.2 with ⟨h1, h2⟩ | ⟨g, c, cur, rfl, _⟩
      · omega
      · exact ⟨_, c, rfl⟩
    have hbel : Below wr.heap.size wr w6 := ((Below.refl wr.heap.size wr).alloc (Nat.le_refl _) (.cells #[.string s, .int .i64 2] 124)).grown hG (by simp) (fun x hx => by simp [Value.ownBlock] at hx)
    have d0 : w6.cell? ⟨p, 0, none⟩ = some (.slice (some ⟨b, 0, none⟩) 17 17) := (hbel.cell (p := ⟨p, 0, none⟩) hp).trans c0
    have d1 : w6.cell? ⟨b, 11, none⟩ = some (.slice none 0 0) := (hbel.cell (p := ⟨b, 11, none⟩) hb).trans c1
    have d2 : w6.frozen? ⟨b, 11, none⟩ = false := by
      have := hbel.block b hb
      simp only [World.frozen?] at f1 ⊢
      rw [this]; exact f1
    have HBL := hid hbel
    clear hO hG hN hbel c0 c1 f1
    go_wp2_with fail
    go_end0
    exact ⟨rfl, (Upd.of_below HBL.out).trans (Upd.setCell (F := (· = b)) w6 ⟨b, 11, none⟩ _ rfl) (fun x _ h => h)⟩

theorem builtR1 : Tryz.prog.built 122 [(0, .int .i64 1), (1, .int .i64 1)] = some #[.int .i64 1, .int .i64 1, .int .i64 0, .slice none 0 0, .slice none 0 0, .slice none 0 0] := by kernel_rfl

set_option maxHeartbeats 4000000 in
set_option maxRecDepth 20000 in
theorem r6make (p b : Nat) (t : ByteArray) (w : World) (H : R6 w p b) (hs : t.size ≤ 1048576) :
    Calls Tryz.prog 116 #[.pointer (some ⟨p, 0, none⟩), .string t, .int .i64 1] w fun e w' => (∃ n, e = .returned (.tuple #[.int .i64 n, .int .i64 (endE (bl t))])) ∧ Upd (· = b) w w' := by
  have k1 := hid (end_any p b t w H hs)
  obtain ⟨E, gE⟩ : ∃ E, E = endE (bl t) := ⟨_, rfl⟩
  rw [← gE] at k1 ⊢
  have HR := hid H
  clear H gE
  go_enter Tryz.func116, Tryz.ntmps116
  go_wp2_with fail
  refine k1.out.mono ?_
  rintro e w1 ⟨hB, hE⟩
  have HB := hid hB
  have HR1 := hid (HR.out.below hB)
  clear k1 hB HR
  rcases hE with ⟨hE, rfl⟩ | ⟨hE, s, rfl⟩
  · clear HR1
    go_wp2_with fail
    go_ret2
    exact ⟨⟨0, rfl⟩, Upd.of_below HB.out⟩
  · subst hE
    have k2 := hid (look_none p b s w1 HR1.out)
    have c0 := HR1.out.c0
    obtain ⟨c1, c2, c3⟩ := HR1.out.cb
    go_wp2_with fail
    refine k2.out.mono ?_
    rintro e w2 ⟨rfl, rfl⟩
    clear k2
    go_wp2_with fail
    go_loopw [11] (fun v11 wr => (v11 = .int .i64 1 ∨ v11 = .int .i64 2) ∧ wr = w2) (fun v11 _ => 2 - (intOf v11).toNat)
    case atStart => exact ⟨.inl rfl, rfl⟩
    case round =>
      obtain ⟨hv, rfl⟩ := hrel
      rcases hv with rfl | rfl
      · go_wp2_with fail
        go_roundw
        case rel => exact ⟨.inr rfl, trivial⟩
        case measure => simp [intOf]
      · obtain ⟨N, gN⟩ : ∃ N : List Value, N = [.int .i64 1, .int .i64 1, .int .i64 0, .slice none 0 0, .slice none 0 0, .slice none 0 0] := ⟨_, rfl⟩
        have H1 : Hid (N.toArray.all (·.oneCell') = true) := by rw [gN]; exact hid (by simp [Value.oneCell'])
        have HSZ : Hid ((Tryz.prog.info? 122).map (·.size) = some N.toArray.size) := by rw [gN]; exact hid csizeR6
        have HBT : Hid (Tryz.prog.built 122 [(0, .int .i64 1), (1, .int .i64 1)] = some N.toArray) := by rw [gN]; exact hid builtR1
        have HT : Hid (N.toArray.size = 6) := by rw [gN]; exact hid rfl
        have HTH : Hid (wr.there b 12 N.toArray.size) := by
          obtain ⟨C, h1, h2, _⟩ := HR1.out.row
          rw [HT.out]
          exact hid (there_of_block h1 12 6 (by omega))
        have k3 : Hid (Calls Tryz.prog 142 #[.pointer (some ⟨p, 0, none⟩), .int .i64 1, .string s, .int .i64 2] (wr.setCells b 12 N) fun e w' => e = .returned (.tuple #[]) ∧ Hid (Upd (· = b) (wr.setCells b 12 N) w')) := by
          have u := upd_setCells b N 12 wr
          obtain ⟨l1, l2⟩ := HR1.out.lt
          obtain ⟨C, h1, h2, _, h4, _⟩ := HR1.out.row
          have hN6 : N.length = 6 := by have := HT.out; simpa using this
          have h3 := heap_setCells b 122 N 12 wr C h1 (by omega)
          have hsz := size_setCells b N 12 wr
          refine hid ((add_first p b s _ ?_ ?_ ?_ (by omega) (by omega)).mono ?_)
          · exact (World.cell?_of_block (a := ⟨p, 0, none⟩) (u.block p l1 HR1.out.ne)).trans HR1.out.c0
          · exact cell_list h3 ((getElem?_splice_out _ _ _ _ (by omega) (by omega)).trans h4)
          · simp [World.frozen?, h3]
          · rintro e w' ⟨rfl, q⟩
            exact ⟨rfl, hid q⟩
        have HSU := hid (upd_setCells b N 12 wr)
        clear gN
        go_wp2_with (first
          | (refine wpList_build_is rfl 122 #[(0, .tmp 67), (1, .const (.int .i64 1))] rfl N.toArray (by simpa [Act.eval] using HBT.out) ?_)
          | (refine wpList_store_mid rfl 122 (.tmp 69) (.tmp 68) rfl b 12 N.toArray rfl rfl HTH.out HSZ.out H1.out ?_))
        refine k3.out.mono ?_
        rintro e w3 ⟨rfl, H3⟩
        clear k3
        go_wp2_with fail
        go_ret2
        exact ⟨⟨2, rfl⟩, ((Upd.of_below HB.out).trans HSU.out (fun x _ h => h)).trans H3.out (fun x _ h => h)⟩

end Go.Proofs.YtbglhmcahnkbfaaGreat

/- Whether a number stands in a list of numbers (slices.Contains). -/
namespace Go.Proofs.YtbglhmcahnkbfaaGreat
open Go.RowKit
set_option linter.unusedVariables false
set_option maxRecDepth 20000

set_option maxHeartbeats 4000000 in
theorem nindex_any (g n c : Nat) (l : List Nat) (v : Nat) (w : World) (h : ∀ j, j < n → w.cell? ⟨g, j, none⟩ = some (.int .i64 ((l.getD j 0 : Nat) : Int))) (hn : l.length = n) (hc : n ≤ 9223372036854775807) :
    Calls Tryz.prog 82 #[.slice (some ⟨g, 0, none⟩) n c, .int .i64 (v : Int)] w fun e w' => ∃ r : Int, e = .returned (.int .i64 r) ∧ decide (0 ≤ r) = decide (v ∈ l) ∧ w' = w := by
  have HE := hid h
  have HN := hid hn
  clear h hn
  go_enter Tryz.func82, Tryz.ntmps82
  go_wp2_with fail
  go_loop [8] (fun k => ∃ j : Nat, j ≤ n ∧ k = .int .i64 j ∧ Hid (v ∉ l.take j)) (fun k => n - (intOf k).toNat)
  case atStart => exact ⟨0, Nat.zero_le _, rfl, hid (by simp)⟩
  case round =>
    obtain ⟨j, hj, rfl, HA⟩ := hrel
    by_cases hlt : j < n
    · have hjl : j < l.length := by rw [HN.out]; exact hlt
      have hci := HE.out j hlt
      have hx0 : l.getD j 0 = l[j] := by rw [List.getD_eq_getElem?_getD, List.getElem?_eq_getElem hjl]; rfl
      have H1 : Hid (l.getD j 0 ≠ v → v ∉ l.take (j + 1)) := hid (fun hne h => by
        rw [List.take_succ_eq_append_getElem hjl] at h
        rcases List.mem_append.1 h with h | h
        · exact HA.out h
        · simp at h; exact hne (hx0.trans h.symm))
      have H2 : Hid (l.getD j 0 = v → v ∈ l) := hid (fun e => by rw [← e, hx0]; exact List.getElem_mem _)
      clear hx0
      generalize l.getD j 0 = x at hci H1 H2
      by_cases hx : x = v
      · subst hx
        go_wp2_with fail
        go_ret
        exact ⟨_, rfl, by have hm : x ∈ l := H2.out (by trivial); simp [hm], rfl⟩
      · have hx2 : ¬ (v : Int) = (x : Int) := by omega
        have hx3 : ¬ (x : Int) = (v : Int) := by omega
        go_wp2_with fail
        go_round
        case rel => exact ⟨j + 1, by omega, by go_num, hid (H1.out hx)⟩
        case measure => simp [intOf]; omega
    · obtain rfl : j = n := by omega
      go_wp2_with fail
      go_ret
      refine ⟨_, rfl, ?_, rfl⟩
      have := HA.out
      rw [← HN.out, List.take_length] at this
      simp [this]

theorem ret_bool {a b : Bool} (h : a = b) : Ending.returned (.bool a) = .returned (.bool b) := by rw [h]
theorem ncont_any (g n c : Nat) (l : List Nat) (v : Nat) (w : World) (h : ∀ j, j < n → w.cell? ⟨g, j, none⟩ = some (.int .i64 ((l.getD j 0 : Nat) : Int))) (hn : l.length = n) (hc : n ≤ 9223372036854775807) :
    Calls Tryz.prog 47 #[.slice (some ⟨g, 0, none⟩) n c, .int .i64 (v : Int)] w fun e w' => e = .returned (.bool (decide (v ∈ l))) ∧ w' = w := by
  have k1 := hid (nindex_any g n c l v w h hn hc)
  clear h hn
  go_enter Tryz.func47, Tryz.ntmps47
  go_wp2_with fail
  refine k1.out.mono ?_
  rintro e w1 ⟨r, rfl, hr, rfl⟩
  have HR := hid hr
  clear hr
  go_wp2_with fail
  go_ret
  exact ⟨ret_bool HR.out, rfl⟩

end Go.Proofs.YtbglhmcahnkbfaaGreat

/- What give does where the name is there already. -/
namespace Go.Proofs.YtbglhmcahnkbfaaGreat
open Go.RowKit Go.ChangeMaps Go.MapKept
set_option linter.unusedVariables false
set_option maxRecDepth 20000

/-- A name that names another node. -/
def Sg.rep (S : Sg) (d : Nat) (s : List UInt8) (n : Nat) : Sg := { S with N := fun i => if i = d then (fun x => if x = s then n else S.N d x) else S.N i }

theorem Sy.giveO {w w' : World} {p : Nat} {S : Sg} (h : Sy w p S) (d : Nat) (hd : d < 17) (b : Nat) (hb : (S.P d).m = some b) (s : List UInt8) (n : Nat) (hs : S.N d s ≠ 0) (hn : n < 17) (hn0 : n ≠ 0) (D : DataW Unit)
    (h1 : w.ownsMap Tryz.prog 9 (plainElem Tryz.prog 3) b (S.L d) D) (h2 : Maps.size D = S.L d) (h3 : ∀ s, D.atKey (.string s) (.lit (.int .i64 0)) = .lit (.int .i64 (S.N d s : Int))) (h4 : ∀ s, Maps.has D (.string s) = decide (S.N d s ≠ 0))
    (h5 : w'.ownsMap Tryz.prog 9 (plainElem Tryz.prog 3) b (S.L d + 1) (D.put (.string s) (.lit (.int .i64 (n : Int))))) (u : Upd (· = b) w w') : Sy w' p (S.rep d s n) := by
  have hbp : b ≠ p := fun e => h.np d hd (e ▸ hb)
  have hT : Maps.Tidy D := h1.tidy (Go.Maps.string_keyed Tryz.underlying9)
  have hM : Maps.IsMap D := hT.isMap
  have hk : WideAt.IsKeyLit (.string s) := by trivial
  obtain ⟨C, hC, hSl⟩ := h.blk
  refine ⟨⟨C, u.heap hC (fun e => hbp e.symm), hSl⟩, fun i hi => ?_, fun i x hi => ?_, fun i hi => ?_, h.ap, h.np, h.dir, h.root, h.zero⟩
  · by_cases e : i = d
    · subst e
      show Nms w' (S.P i).m _ _
      rw [hb]
      simp only [Sg.rep, if_true]
      have hz : Maps.size (D.put (.string s) (.lit (.int .i64 (n : Int)))) = S.L i := by rw [Maps.size_put hT, h4, h2]; simp [hs]
      refine ⟨_, by have := owns_exact h5; rw [hz] at this; exact this, hz, fun x => ?_, fun x => ?_⟩
      · by_cases ex : x = s
        · subst ex; rw [Maps.atKey_put_same hM hk]; simp
        · rw [Maps.atKey_put_other (by intro q; injection q with q; exact ex q), h3]; simp [ex]
      · by_cases ex : x = s
        · subst ex; rw [Maps.has_put_same hM hk]; simp [hn0]
        · rw [Maps.has_put_other (by intro q; injection q with q; exact ex q), h4]; simp [ex]
    · show Nms w' (S.P i).m (S.L i) (if i = d then _ else S.N i)
      rw [if_neg e]
      refine (h.nms i hi).block (fun c hc => u.block c (h.foot_lt c (.inr ⟨i, hi, hc⟩)) (fun q => e ?_))
      exact h.ap i d c hi hd hc (q ▸ hb)
  · show (if i = d then (fun x => if x = s then n else S.N d x) else S.N i) x < 17
    split
    · dsimp only
      split
      · exact hn
      · exact h.to d x hd
    · exact h.to i x hi
  · exact h.le i hi

set_option maxHeartbeats 4000000 in
set_option maxRecDepth 20000 in
theorem give_over (p : Nat) (S : Sg) (w : World) (H : Sy w p S) (gy ny cy d : Nat) (nm : ByteArray) (m : Int) (n : Nat) (hny : 0 < ny) (hcy : w.cell? ⟨gy, ny - 1, none⟩ = some (.int .i64 (d : Int))) (hgy : gy < w.heap.size) (hyc : ny ≤ cy) (hcm : cy ≤ 9223372036854775807)
    (hd : d < 17) (hk : (S.P d).k = 2) (hs : S.N d (bl nm) ≠ 0) (hn : n < 17) (hn0 : n ≠ 0) (hsz : nm.size ≤ 140737488355328) :
    Calls Tryz.prog 109 #[.pointer (some ⟨p, 0, none⟩), .agg #[.slice (some ⟨gy, 0, none⟩) ny cy, .string nm, .int .i64 m], .int .i64 (n : Int)] w fun e w' => e = .returned (.tuple #[]) ∧ Sy w' p (S.rep d (bl nm) n) ∧ Upd (fun x => (S.P d).m = some x) w w' := by
  obtain ⟨b, hb⟩ := Option.isSome_iff_exists.1 (H.dir d hd hk)
  obtain ⟨W1, g1⟩ : ∃ W1, W1 = w.alloc (Obj.cells #[.slice (some ⟨gy, 0, none⟩) ny cy, .string nm, .int .i64 m] 169) := ⟨_, rfl⟩
  have hB1 : Below w.heap.size w W1 := by rw [g1]; exact one_new _ _
  have hZ1 : w.heap.size < W1.heap.size := by rw [g1]; simp
  have hS1 : Sy W1 p S := H.grow hB1
  have hP1 : W1.heap[w.heap.size]? = some (.cells #[.slice (some ⟨gy, 0, none⟩) ny cy, .string nm, .int .i64 m] 169 (0, 0)) := by rw [g1]; exact heap_alloc_new _ _
  obtain ⟨a0, a1, a2, _, _, _⟩ := plc_cells hP1
  have kd : Hid (Calls Tryz.prog 131 #[.agg #[.slice (some ⟨gy, 0, none⟩) ny cy, .string nm, .int .i64 m]] W1.drew fun e w' => e = .returned (.int .i64 (d : Int)) ∧ Hid (Below W1.heap.size W1 w')) := by
    refine hid ((dir_any W1.drew gy ny cy d nm m hny ((hB1.cell (p := ⟨gy, ny - 1, none⟩) hgy).trans hcy) (Nat.lt_of_lt_of_le hgy hB1.size) hyc hcm).mono ?_)
    rintro e w' ⟨rfl, h⟩
    exact ⟨rfl, hid ((Below.refl _ W1).drew.trans h)⟩
  have kc : Hid (∀ W, Hid (Below W1.heap.size W1 W) → Calls Tryz.prog 133 #[.string nm] W fun e w' => e = .returned (.string nm) ∧ Hid (Below W1.heap.size W1 w')) := by
    refine hid (fun W hW => (sclone_any nm W (by omega)).mono ?_)
    rintro e w' ⟨rfl, h⟩
    exact ⟨rfl, hid (hW.out.trans (h.mono hW.out.size))⟩
  have ku : Hid (∀ W, Hid (Below W1.heap.size W1 W) → ∃ W', (Instr.mapUpdate 142 (.map (some b)) (.string nm) (.int .i64 (n : Int))).run Tryz.prog W = .ok () W' ∧ Hid (Sy W' p (S.rep d (bl nm) n) ∧ Upd (fun x => (S.P d).m = some x) w W' ∧ (∀ a : Addr, a.block < W.heap.size → a.block ≠ b → W'.cell? a = W.cell? a))) := by
    refine hid (fun W hW => ?_)
    have hS := hS1.grow hW.out
    have hnm := hS.nms d hd
    rw [hb] at hnm
    obtain ⟨D, h1, h2, h3, h4⟩ := hnm
    have hkey : keyOf Tryz.prog 9 (.string nm) = some (.string nm.data.toList) := Go.WideMaps.keyOf_string_mk Tryz.underlying9 (by simp only [maxLen]; omega)
    have hl := hS.le d hd
    obtain ⟨W', hr, h5, h6⟩ := h1.store (t := 142) (Go.Maps.string_keyed Tryz.underlying9) Tryz.underlying142 (by simp only [maxLen]; omega) hkey (plainElem_int (H := Unit) Tryz.underlying3 (a := (n : Int)) (wf17 n hn))
    have u : Upd (· = b) W W' := (Upd.of_grown h6.grown).mono (fun x _ hx => by simpa using hx)
    refine ⟨W', hr, hid ⟨hS.giveO d hd b hb (bl nm) n hs hn hn0 D h1 h2 h3 h4 h5 u, ?_, fun a ha hab => World.cell?_of_block (u.block a.block ha hab)⟩⟩
    have ub : Upd (fun x => (S.P d).m = some x) w W := Upd.of_below (hB1.trans (hW.out.mono hB1.size))
    exact ub.trans u (fun x _ hx => by subst hx; exact hb)
  have hm : ∀ W, Hid (Below W1.heap.size W1 W) → W.cell? ⟨p, 1 + d * 107 + 106, none⟩ = some (.map (some b)) := fun W hW => by
    rw [← hb]; exact (hS1.grow hW.out).m d hd
  have hd0 : (0 : Int) ≤ (d : Int) := by omega
  have hd1 : (d : Int) < 17 := by omega
  have HM := hid hm
  have HX : Hid ((∀ W, Hid (Below W1.heap.size W1 W) → w.heap.size < W.heap.size ∧ p < W.heap.size) ∧ w.heap.size ≠ b ∧ p ≠ b) := by
    refine hid ⟨fun W hW => ⟨Nat.lt_of_lt_of_le hZ1 hW.out.size, (hS1.grow hW.out).lt⟩, fun e => ?_, fun e => H.np d hd (e ▸ hb)⟩
    have := H.foot_lt b (.inr ⟨d, hd, hb⟩)
    omega
  have HZ1 := hid hZ1
  have hm0 := hm W1 (hid (Below.refl _ _))
  clear H hb hS1 hP1 hcy hgy hs hB1 hk hm hn0
  go_enter Tryz.func109, Tryz.ntmps109
  go_wp2_with fail
  rw [← g1]
  clear g1
  go_region_held3 (fun W => W.cell? ⟨w.heap.size, 0, none⟩ = some (.slice (some ⟨gy, 0, none⟩) ny cy) ∧ W.cell? ⟨w.heap.size, 1, none⟩ = some (.string nm) ∧ W.cell? ⟨w.heap.size, 2, none⟩ = some (.int .i64 m) ∧ W.cell? ⟨p, 1 + d * 107 + 106, none⟩ = some (.map (some b))) (go_keep) (first | (go_at_call 131; refine kd.out.mono ?_; rintro e w4 ⟨rfl, hb4⟩; have x0 := (hb4.out.cell (p := ⟨w.heap.size, 0, none⟩) HZ1.out).trans a0; have x1 := (hb4.out.cell (p := ⟨w.heap.size, 1, none⟩) HZ1.out).trans a1; have x2 := (hb4.out.cell (p := ⟨w.heap.size, 2, none⟩) HZ1.out).trans a2; have x3 := HM.out w4 hb4) | (go_at_call 133; refine (kc.out _ hb4).mono ?_; rintro e w5 ⟨rfl, hb5⟩; have y0 := (hb5.out.cell (p := ⟨w.heap.size, 0, none⟩) HZ1.out).trans a0; have y1 := (hb5.out.cell (p := ⟨w.heap.size, 1, none⟩) HZ1.out).trans a1; have y2 := (hb5.out.cell (p := ⟨w.heap.size, 2, none⟩) HZ1.out).trans a2; have y3 := HM.out w5 hb5; obtain ⟨w6, hup, H6⟩ := ku.out w5 hb5; have z0 := (H6.out.2.2 ⟨w.heap.size, 0, none⟩ (HX.out.1 w5 hb5).1 HX.out.2.1).trans y0; have z1 := (H6.out.2.2 ⟨w.heap.size, 1, none⟩ (HX.out.1 w5 hb5).1 HX.out.2.1).trans y1; have z2 := (H6.out.2.2 ⟨w.heap.size, 2, none⟩ (HX.out.1 w5 hb5).1 HX.out.2.1).trans y2; have z3 := (H6.out.2.2 ⟨p, 1 + d * 107 + 106, none⟩ (HX.out.1 w5 hb5).2 HX.out.2.2).trans y3))
  go_wp2_with fail
  go_end0
  exact ⟨rfl, H6.out.1, H6.out.2.1⟩

end Go.Proofs.YtbglhmcahnkbfaaGreat
