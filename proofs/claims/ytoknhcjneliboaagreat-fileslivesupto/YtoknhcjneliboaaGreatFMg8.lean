/- Texts of this seat, merged. -/
import Derived.Test.YtoknhcjneliboaaGreatFMg7
import Derived.BigQuiet
import Derived.Test.YtoknhcjneliboaaGreatFMg3
import Derived.Lib.SliceRun

/- What take does: blocks for a file, the lowest free ones first. -/
namespace Go.Proofs.YtoknhcjneliboaaGreat
open Go.RowKit Go.ChangeMaps Go.MapKept
set_option linter.unusedVariables false
set_option maxRecDepth 20000

/-- Cells of a node, one by one: two nodes agree where their parts do. -/
theorem ndC_agree {x y : Nd} (hx : x.ok) (hy : y.ok) (j : Nat) (hj : j < 107) (h0 : j < 4 → (ndC y)[j]? = (ndC x)[j]?) (hb : ∀ i, j = 4 + i → i < 96 → y.b.getD i 0 = x.b.getD i 0) (hB : ∀ i, j = 100 + i → i < 6 → y.B.getD i 0 = x.B.getD i 0) (hm : j = 106 → y.m = x.m) : (ndC y)[j]? = (ndC x)[j]? := by
  rcases (show j < 4 ∨ (4 ≤ j ∧ j < 100) ∨ (100 ≤ j ∧ j < 106) ∨ j = 106 by omega) with h | h | h | h
  · exact h0 h
  · obtain ⟨i, rfl⟩ : ∃ i, j = 4 + i := ⟨j - 4, by omega⟩
    rw [ndC_b hy i (by omega), ndC_b hx i (by omega), hb i rfl (by omega)]
  · obtain ⟨i, rfl⟩ : ∃ i, j = 100 + i := ⟨j - 100, by omega⟩
    rw [ndC_B hy i (by omega), ndC_B hx i (by omega), hB i rfl (by omega)]
  · subst h
    rw [ndC_m hy, ndC_m hx, hm rfl]

def Nd.blk (x : Nd) (j : Nat) (v : Int) : Nd := { x with B := x.B.set j v }
theorem Nd.blk_ok {x : Nd} (h : x.ok) (j : Nat) (v : Int) : (x.blk j v).ok := ⟨h.b, by simp [Nd.blk, h.B]⟩
theorem getD_set_same (l : List Int) (j : Nat) (v : Int) (h : j < l.length) : (l.set j v).getD j 0 = v := by
  rw [List.getD_eq_getElem?_getD, List.getElem?_set_self h]; rfl
theorem getD_set_ne (l : List Int) (i j : Nat) (v : Int) (h : j ≠ i) : (l.set j v).getD i 0 = l.getD i 0 := by
  rw [List.getD_eq_getElem?_getD, List.getElem?_set_ne h, List.getD_eq_getElem?_getD]

theorem Sy.blkTo {w : World} {p : Nat} {S : Sg} (h : Sy w p S) (i : Nat) (hi : i < 17) (j : Nat) (hj : j < 6) (v : Int) : Sy (w.setCell ⟨p, 1 + i * 107 + (100 + j), none⟩ (.int .i64 v)) p (S.at_ i ((S.P i).blk j v)) := by
  have hx := h.ok i hi
  have hy := Nd.blk_ok hx j v
  have hl := hx.B
  refine h.set i hi ((S.P i).blk j v) hy rfl rfl (100 + j) (by omega) _ ?_ (fun k hk e => ndC_agree hx hy k hk (fun q => ?_) (fun _ _ _ => rfl) (fun a ha hb => ?_) (fun _ => rfl))
  · rw [ndC_B hy j hj]
    simp only [Nd.blk]
    rw [getD_set_same _ _ _ (by omega)]
  · unfold ndC Nd.blk
    rw [List.append_assoc, List.append_assoc, List.getElem?_append_left (by simp; omega), List.append_assoc, List.append_assoc, List.getElem?_append_left (by simp; omega)]
  · simp only [Nd.blk]
    exact getD_set_ne _ _ _ _ (by omega)

/-- A file's blocks: so many are its own, all are marked, and no others are. -/
structure Bok (x : Nd) (T : Nat → Bool) (q : Nat) : Prop where
  in_ : ∀ j, j < q → ∃ b : Nat, x.B.getD j 0 = (b : Int) ∧ 1 ≤ b ∧ b < 25 ∧ T b = true
  ne : ∀ i j, i < j → j < q → x.B.getD i 0 ≠ x.B.getD j 0
  n : cnt T 25 = q

theorem Bok.take {x : Nd} {T : Nat → Bool} {q b : Nat} (h : Bok x T q) (hx : x.ok) (hq : q < 6) (h1 : 1 ≤ b) (h2 : b < 25) (hb : T b = false) : Bok (x.blk q (b : Int)) (updT T b true) (q + 1) := by
  have hl := hx.B
  have hold : ∀ j, j < q → (x.blk q (b : Int)).B.getD j 0 = x.B.getD j 0 := fun j hj => getD_set_ne _ _ _ _ (by omega)
  have hnew : (x.blk q (b : Int)).B.getD q 0 = (b : Int) := getD_set_same _ _ _ (by omega)
  refine ⟨fun j hj => ?_, fun i j hij hj => ?_, by rw [cnt_set T b hb 25 h2, h.n]⟩
  · by_cases e : j = q
    · subst e; exact ⟨b, hnew, h1, h2, updT_same _ _ _⟩
    · obtain ⟨c, q1, q2, q3, q4⟩ := h.in_ j (by omega)
      refine ⟨c, by rw [hold j (by omega)]; exact q1, q2, q3, ?_⟩
      by_cases ec : c = b
      · subst ec; exact updT_same _ _ _
      · rw [updT_ne _ _ _ _ ec]; exact q4
  · by_cases e : j = q
    · subst e
      rw [hnew, hold i (by omega)]
      obtain ⟨c, q1, q2, q3, q4⟩ := h.in_ i (by omega)
      rw [q1]
      intro ec
      have : c = b := by omega
      subst this
      rw [hb] at q4
      simp at q4
    · rw [hold i (by omega), hold j (by omega)]
      exact h.ne i j hij (by omega)

/-- A system whose node at i, and whose marks, are others. -/
def Sg.bl (S : Sg) (i : Nat) (x : Nd) (T : Nat → Bool) : Sg := { S with P := updN S.P i x, T := T }

set_option maxHeartbeats 4000000 in
set_option maxRecDepth 20000 in
theorem take_any (p : Nat) (S : Sg) (w : World) (i : Nat) (hi : i < 17) (x : Nd) (T : Nat → Bool) (H : Sy w p (S.bl i x T)) (q n c o : Nat) (ho : 0 < n → o = 1 + i * 107 + (100 + q)) (hq : q + n ≤ 6) (hn : n ≤ c) (hc : c ≤ 6) (hB : Bok x T q) :
    Calls Tryz.prog 142 #[.pointer (some ⟨p, 0, none⟩), .slice (some ⟨p, o, none⟩) n c] w fun e w' => e = .returned (.tuple #[]) ∧ (∃ B' T', Sy w' p (S.bl i { x with B := B' } T') ∧ Bok { x with B := B' } T' (q + n) ∧ (∀ j, j < q → B'.getD j 0 = x.B.getD j 0)) ∧ Upd (· = p) w w' := by
  have hB0 : x.B = x.B := rfl
  have H0 : Hid (∃ B' T', Sy w p (S.bl i { x with B := B' } T') ∧ Bok { x with B := B' } T' (q + 0) ∧ (∀ j, j < q → B'.getD j 0 = x.B.getD j 0) ∧ Upd (· = p) w w ∧ (∀ cc, 1 ≤ cc → cc < 1 → T' cc = true)) := hid ⟨x.B, T, H, hB, fun _ _ => rfl, Upd.refl _ _, fun cc h1 h2 => by omega⟩
  have HOO := hid ho
  clear H hB hB0 ho
  go_enter Tryz.func142, Tryz.ntmps142
  go_wp2_with fail
  go_loopw [4, 8] (fun v4 v8 wr => ∃ b k : Nat, 1 ≤ b ∧ b < 25 ∧ k ≤ n ∧ v4 = .int .i64 (b : Int) ∧ v8 = .int .i64 (k : Int) ∧ Hid (∃ B' T', Sy wr p (S.bl i { x with B := B' } T') ∧ Bok { x with B := B' } T' (q + k) ∧ (∀ j, j < q → B'.getD j 0 = x.B.getD j 0) ∧ Upd (· = p) w wr ∧ (∀ cc, 1 ≤ cc → cc < b → T' cc = true))) (fun _ v8 _ => n - (intOf v8).toNat)
  case atStart => exact ⟨1, 0, by omega, by omega, by omega, rfl, rfl, H0⟩
  case round =>
    clear H0
    obtain ⟨b, k, hb1, hb2, hkn, rfl, rfl, HQ⟩ := hrel
    by_cases e : k = n
    · subst e
      go_wp2_with fail
      go_end0
      obtain ⟨B', T', h1, h2, h3, h4, _⟩ := HQ.out
      exact ⟨rfl, ⟨B', T', h1, h2, h3⟩, h4⟩
    · have hk : k < n := by omega
      have hk2 : (k : Int) < (n : Int) := by omega
      obtain ⟨B', T', h1, h2, h3, h4, h5⟩ := HQ.out
      have HS := hid h1
      have HB := hid h2
      have HK := hid (And.intro h3 h4)
      have HF := hid h5
      clear HQ h1 h2 h3 h4 h5 e
      go_wp2_with fail
      rename World => wo
      go_loopw [4] (fun v4 wr => ∃ b : Nat, 1 ≤ b ∧ b < 25 ∧ v4 = .int .i64 (b : Int) ∧ wr = wo ∧ Hid (∀ cc, 1 ≤ cc → cc < b → T' cc = true)) (fun v4 _ => 25 - (intOf v4).toNat)
      case atStart => exact ⟨b, hb1, hb2, rfl, rfl, HF⟩
      case round =>
        clear HF hb1 hb2
        obtain ⟨b, hb1, hb2, rfl, rfl, HF⟩ := hrel
        have c0 : (0 : Int) ≤ (b : Int) := by omega
        have c1 : (b : Int) < 25 := by omega
        have hl := HS.out.t b hb2
        change wr.cell? ⟨p, 1820 + b, none⟩ = some (.bool (T' b)) at hl
        cases ht : T' b with
        | true =>
          rw [ht] at hl
          have hb3 : b + 1 < 25 := by
            rcases Nat.lt_or_ge (b + 1) 25 with h | h
            · exact h
            · have h1 := cnt_full T' 25 (fun cc q1 q2 => by
                by_cases e : cc = b
                · subst e; exact ht
                · exact HF.out cc q1 (by omega))
              have h2 := HB.out.n
              omega
          have HF2 : Hid (∀ cc, 1 ≤ cc → cc < b + 1 → T' cc = true) := hid (fun cc q1 q2 => by
            by_cases e : cc = b
            · subst e; exact ht
            · exact HF.out cc q1 (by omega))
          clear ht HF
          go_wp2_with fail
          go_roundw
          case rel => exact ⟨b + 1, by omega, hb3, by go_num, by first | rfl | trivial, HF2⟩
          case measure => simp [intOf]; omega
        | false =>
          rw [ht] at hl
          have f1 := HS.out.fz (1820 + b)
          have hadr : 1 + i * 107 + (100 + (q + k)) = o + k := by have := HOO.out (by omega); omega
          have hS3 := HS.out.mark b hb2 true
          have hb4 := hS3.B i hi (q + k) (by omega)
          rw [hadr] at hb4
          have f2 := hS3.fz (o + k)
          have hS4 := hS3.blkTo i hi (q + k) (by omega) (b : Int)
          rw [hadr] at hS4
          have hP : ((S.bl i { x with B := B' } T').P i) = { x with B := B' } := updN_same _ _ _
          have hok : ({ x with B := B' } : Nd).ok := by rw [← hP]; exact HS.out.ok i hi
          have HB4 := hid (HB.out.take hok (by omega) hb1 hb2 ht)
          have HU4 : Hid (Upd (· = p) w ((wr.setCell ⟨p, 1820 + b, none⟩ (.bool true)).setCell ⟨p, o + k, none⟩ (.int .i64 (b : Int)))) := by
            have u1 : Upd (· = p) wr (wr.setCell ⟨p, 1820 + b, none⟩ (.bool true)) := Upd.setCell (F := (· = p)) wr ⟨p, _, none⟩ _ rfl
            have u2 : Upd (· = p) (wr.setCell ⟨p, 1820 + b, none⟩ (.bool true)) ((wr.setCell ⟨p, 1820 + b, none⟩ (.bool true)).setCell ⟨p, o + k, none⟩ (.int .i64 (b : Int))) := Upd.setCell (F := (· = p)) _ ⟨p, _, none⟩ _ rfl
            exact hid ((HK.out.2.trans u1 (fun _ _ h => h)).trans u2 (fun _ _ h => h))
          have HQ4 : Hid (∃ B' T', Sy ((wr.setCell ⟨p, 1820 + b, none⟩ (.bool true)).setCell ⟨p, o + k, none⟩ (.int .i64 (b : Int))) p (S.bl i { x with B := B' } T') ∧ Bok { x with B := B' } T' (q + (k + 1)) ∧ (∀ j, j < q → B'.getD j 0 = x.B.getD j 0) ∧ Upd (· = p) w ((wr.setCell ⟨p, 1820 + b, none⟩ (.bool true)).setCell ⟨p, o + k, none⟩ (.int .i64 (b : Int))) ∧ (∀ cc, 1 ≤ cc → cc < b → T' cc = true)) := by
            refine hid ⟨B'.set (q + k) (b : Int), updT T' b true, ?_, HB4.out, fun j hj => ?_, HU4.out, fun cc q1 q2 => ?_⟩
            · have e1 : (({ (S.bl i { x with B := B' } T') with T := updT T' b true } : Sg).at_ i ((({ (S.bl i { x with B := B' } T') with T := updT T' b true } : Sg).P i).blk (q + k) (b : Int))) = S.bl i { x with B := B'.set (q + k) (b : Int) } (updT T' b true) := by
                show ({ S with P := updN (updN S.P i { x with B := B' }) i (Nd.blk (updN S.P i { x with B := B' } i) (q + k) (b : Int)), T := updT T' b true } : Sg) = _
                rw [updN_same]
                unfold Sg.bl Nd.blk
                congr 1
                funext j
                by_cases e : j = i <;> simp [updN, e]
              rw [← e1]
              exact hS4
            · rw [getD_set_ne _ _ _ _ (by omega)]; exact HK.out.1 j hj
            · rw [updT_ne _ _ _ _ (by omega)]; exact HF.out cc q1 q2
          have ck : (0 : Int) ≤ (k : Int) := by omega
          have h7 := HS.out.B i hi (q + k) (by omega)
          rw [hadr] at h7
          have f7 := HS.out.fz (o + k)
          have n1 : ¬ 1820 + b = o + k := by have := HOO.out (by omega); omega
          have n2 : ¬ o + k = 1820 + b := by have := HOO.out (by omega); omega
          clear ht HF hS3 hS4 hP hok HB4 HU4 hadr HB HK HS
          go_wp2_with fail
          go_roundw
          case rel => exact ⟨b, k + 1, hb1, hb2, by omega, rfl, by go_num, HQ4⟩
          case measure => simp [intOf]; omega

end Go.Proofs.YtoknhcjneliboaaGreat

/- What grow does to a file that is alone in its system. -/
namespace Go.Proofs.YtoknhcjneliboaaGreat
open Go.RowKit Go.ChangeMaps Go.MapKept
set_option linter.unusedVariables false
set_option maxRecDepth 20000

/-- How many blocks so many bytes need. -/
def need (s : Nat) : Nat := (s + 15) / 16

theorem need_le {s : Nat} (h : s ≤ 96) : need s ≤ 6 := by unfold need; omega
theorem need_mono {s t : Nat} (h : s ≤ t) : need s ≤ need t := by unfold need; omega

theorem Sg.bl_self (S : Sg) (i : Nat) : S.bl i (S.P i) S.T = S := by
  have := S.at_self i
  unfold Sg.at_ at this
  unfold Sg.bl
  exact this

set_option maxHeartbeats 4000000 in
set_option maxRecDepth 20000 in
theorem grow_more (p : Nat) (S : Sg) (w : World) (i : Nat) (hi : i < 17) (x : Nd) (T : Nat → Bool) (H : Sy w p (S.bl i x T)) (hB : Bok x T (need x.s)) (size : Nat) (hs : x.s < size) (hz : size ≤ 96) :
    Calls Tryz.prog 118 #[.pointer (some ⟨p, 0, none⟩), .pointer (some ⟨p, 1 + i * 107, none⟩), .int .i64 (size : Int)] w fun e w' => e = .returned (.int .i64 0) ∧ (∃ B' T', Sy w' p (S.bl i { x with B := B', s := size } T') ∧ Bok { x with B := B', s := size } T' (need size)) ∧ Upd (· = p) w w' := by
  have hP : (S.bl i x T).P i = x := updN_same _ _ _
  have c3 := H.s i hi
  rw [hP] at c3
  obtain ⟨q0, g0⟩ : ∃ q0, q0 = need x.s := ⟨_, rfl⟩
  obtain ⟨q1, g1⟩ : ∃ q1, q1 = need size := ⟨_, rfl⟩
  have h01 : q0 ≤ q1 := by rw [g0, g1]; exact need_mono (by omega)
  have h16 : q1 ≤ 6 := by rw [g1]; exact need_le hz
  rw [← g0] at hB
  rw [← g1]
  obtain ⟨s0, gs⟩ : ∃ s0, s0 = x.s := ⟨_, rfl⟩
  rw [← gs] at c3 hs
  have K0 : Hid (∀ W, Calls Tryz.prog 140 #[.int .i64 (s0 : Int)] W fun e w' => e = .returned (.int .i64 (q0 : Int)) ∧ w' = W) := by
    refine hid (fun W => ?_)
    have := needed_any s0 (by omega) W
    rw [show (s0 + 15) / 16 = q0 by rw [g0, gs]; rfl] at this
    exact this
  have K1 : Hid (∀ W, Calls Tryz.prog 140 #[.int .i64 (size : Int)] W fun e w' => e = .returned (.int .i64 (q1 : Int)) ∧ w' = W) := by
    refine hid (fun W => ?_)
    have := needed_any size (by omega) W
    rw [show (size + 15) / 16 = q1 by rw [g1]; rfl] at this
    exact this
  have a1 : ¬ (size : Int) ≤ (s0 : Int) := by omega
  have a2 : (0 : Int) ≤ (q0 : Int) := by omega
  have a3 : (q0 : Int) ≤ (q1 : Int) := by omega
  have a4 : (q1 : Int) ≤ 6 := by omega
  have HH := hid H
  have HB := hid hB
  clear H hB hP g0 g1 gs
  go_enter Tryz.func118, Tryz.ntmps118
  go_wp2_with fail
  go_quiet ((go_at_call 140; first | refine Calls.quiet_of_same (K0.out _) | refine Calls.quiet_of_same (K1.out _)))
  obtain ⟨o, go⟩ : ∃ o, o = if 6 = q0 then 1 + i * 107 + 100 else 1 + i * 107 + 100 + q0 := ⟨_, rfl⟩
  have hA : (if 6 = q0 then (⟨p, 1 + i * 107 + 100, none⟩ : Addr) else ⟨p, 1 + i * 107 + 100 + q0, none⟩) = ⟨p, o, none⟩ := by
    rw [go]; split <;> rfl
  have ho : 0 < q1 - q0 → o = 1 + i * 107 + (100 + q0) := fun h => by
    rw [go, if_neg (by omega)]; omega
  rw [hA]
  have HO := hid ho
  clear hA go ho K0 K1
  obtain ⟨W1, g1⟩ : ∃ W1, W1 = w.drewN nq := ⟨_, rfl⟩
  rw [← g1]
  have hS1 : Sy W1 p (S.bl i x T) := HH.out.hp (by rw [g1]; rfl)
  have hU1 : Upd (· = p) w W1 := by rw [g1]; exact (Upd.refl _ _).drewN _
  have hcnt : cnt T 25 = q0 := HB.out.n
  have k1 := hid (free_any p (S.bl i x T) W1 hS1 (by show cnt T 25 ≤ 24; omega))
  rw [show cnt (S.bl i x T).T 25 = q0 from hcnt] at k1
  have k2 : Hid (∀ W, Below W1.heap.size W1 W → Calls Tryz.prog 142 #[.pointer (some ⟨p, 0, none⟩), .slice (some ⟨p, o, none⟩) (q1 - q0) (6 - q0)] W fun e w' => e = .returned (.tuple #[]) ∧ Hid ((∃ B' T', Sy w' p (S.bl i { x with B := B' } T') ∧ Bok { x with B := B' } T' q1) ∧ Upd (· = p) w w')) := by
    refine hid (fun W hW => ?_)
    refine (take_any p S W i hi x T (hS1.grow hW) q0 (q1 - q0) (6 - q0) o HO.out (by omega) (by omega) (by omega) HB.out).mono ?_
    rintro e w' ⟨rfl, ⟨B', T', h1, h2, _⟩, u⟩
    rw [show q0 + (q1 - q0) = q1 by omega] at h2
    exact ⟨rfl, hid ⟨⟨B', T', h1, h2⟩, (hU1.trans (Upd.of_below (F := (· = p)) hW) (fun _ _ h => h)).trans u (fun _ _ h => h)⟩⟩
  have a5 : ¬ ((24 - q0 : Nat) : Int) < ((q1 - q0 : Nat) : Int) := by omega
  clear hS1 hU1 hcnt g1 HH HB
  go_wp2_with fail
  refine k1.out.mono ?_
  rintro e w2 ⟨rfl, hb2⟩
  have k3 := hid (k2.out w2 hb2)
  clear k1 k2 hb2
  go_wp2_with fail
  refine k3.out.mono ?_
  rintro e w3 ⟨rfl, H3⟩
  clear k3
  obtain ⟨⟨B', T', h1, h2⟩, u⟩ := H3.out
  have c4 := h1.s i hi
  have f4 := h1.fz (1 + i * 107 + 3)
  have hP3 : (S.bl i { x with B := B' } T').P i = { x with B := B' } := updN_same _ _ _
  rw [hP3] at c4
  have h5 := h1.sizeTo i hi size
  rw [hP3] at h5
  have e5 : (S.bl i { x with B := B' } T').at_ i (Nd.size { x with B := B' } size) = S.bl i { x with B := B', s := size } T' := by
    unfold Sg.bl Sg.at_ Nd.size
    congr 1
    funext j
    by_cases e : j = i <;> simp [updN, e]
  rw [e5] at h5
  have H5 : Hid ((∃ B' T', Sy (w3.setCell ⟨p, 1 + i * 107 + 3, none⟩ (.int .i64 (size : Int))) p (S.bl i { x with B := B', s := size } T') ∧ Bok { x with B := B', s := size } T' q1) ∧ Upd (· = p) w (w3.setCell ⟨p, 1 + i * 107 + 3, none⟩ (.int .i64 (size : Int)))) :=
    hid ⟨⟨B', T', h5, ⟨h2.in_, h2.ne, h2.n⟩⟩, u.trans (Upd.setCell (F := (· = p)) w3 ⟨p, _, none⟩ _ rfl) (fun _ _ h => h)⟩
  clear h1 h2 u h5 e5 hP3 H3
  go_wp2_with fail
  go_ret
  exact ⟨rfl, H5.out.1, H5.out.2⟩

set_option maxHeartbeats 1000000 in
theorem grow_same (p : Nat) (S : Sg) (w : World) (i : Nat) (hi : i < 17) (x : Nd) (T : Nat → Bool) (H : Sy w p (S.bl i x T)) (size : Nat) (hs : size ≤ x.s) :
    Calls Tryz.prog 118 #[.pointer (some ⟨p, 0, none⟩), .pointer (some ⟨p, 1 + i * 107, none⟩), .int .i64 (size : Int)] w fun e w' => e = .returned (.int .i64 0) ∧ w' = w := by
  have hP : (S.bl i x T).P i = x := updN_same _ _ _
  have c3 := H.s i hi
  rw [hP] at c3
  have a1 : (size : Int) ≤ (x.s : Int) := by omega
  clear H hP
  go_enter Tryz.func118, Tryz.ntmps118
  go_wp2_with fail
  go_ret
  exact ⟨rfl, rfl⟩

/-- A file gets at least a size. -/
theorem grow_any (p : Nat) (S : Sg) (w : World) (i : Nat) (hi : i < 17) (x : Nd) (T : Nat → Bool) (H : Sy w p (S.bl i x T)) (hB : Bok x T (need x.s)) (size : Nat) (hz : size ≤ 96) :
    Calls Tryz.prog 118 #[.pointer (some ⟨p, 0, none⟩), .pointer (some ⟨p, 1 + i * 107, none⟩), .int .i64 (size : Int)] w fun e w' => e = .returned (.int .i64 0) ∧ (∃ B' T', Sy w' p (S.bl i { x with B := B', s := max x.s size } T') ∧ Bok { x with B := B', s := max x.s size } T' (need (max x.s size))) ∧ Upd (· = p) w w' := by
  by_cases h : x.s < size
  · rw [Nat.max_eq_right (Nat.le_of_lt h)]
    exact grow_more p S w i hi x T H hB size h hz
  · rw [Nat.max_eq_left (by omega)]
    refine (grow_same p S w i hi x T H size (by omega)).mono ?_
    rintro e w' ⟨rfl, rfl⟩
    exact ⟨rfl, ⟨x.B, T, H, hB⟩, Upd.refl _ _⟩

end Go.Proofs.YtoknhcjneliboaaGreat

/- What Write does to a file that is alone in its system. -/
namespace Go.Proofs.YtoknhcjneliboaaGreat
open Go.RowKit Go.ChangeMaps Go.MapKept
set_option linter.unusedVariables false
set_option maxRecDepth 20000

theorem getD_splice_in (l zs : List Int) (o k : Nat) (h : o + zs.length ≤ l.length) (hk : k < zs.length) : (splice l o zs).getD (o + k) 0 = zs.getD k 0 := by
  rw [List.getD_eq_getElem?_getD, getElem?_splice_in _ _ _ _ h hk, List.getD_eq_getElem?_getD]
theorem getD_splice_out (l zs : List Int) (o k : Nat) (h : o + zs.length ≤ l.length) (hk : k < o ∨ o + zs.length ≤ k) : (splice l o zs).getD k 0 = l.getD k 0 := by
  rw [List.getD_eq_getElem?_getD, getElem?_splice_out _ _ _ _ h hk, List.getD_eq_getElem?_getD]

/-- Bytes written over a file's. -/
def Nd.over (x : Nd) (off : Nat) (zs : List Int) : Nd := { x with b := splice x.b off zs }
theorem Nd.over_ok {x : Nd} (h : x.ok) (off : Nat) (zs : List Int) (hz : off + zs.length ≤ 96) : (x.over off zs).ok := ⟨by simp only [Nd.over]; rw [length_splice _ _ _ (by rw [h.b]; exact hz), h.b], h.B⟩

theorem Sy.over {w w' : World} {p : Nat} {S : Sg} (h : Sy w p S) (i : Nat) (hi : i < 17) (C : List Value) (hC : w.heap[p]? = some (.cells C.toArray 103 (0, 0))) (hS : Sls C S.d S.P S.T) (off : Nat) (zs : List Int) (hz : off + zs.length ≤ 96)
    (h' : w'.heap[p]? = some (.cells (splice C (1 + i * 107 + (4 + off)) (zs.map (Value.int .u8))).toArray 103 (0, 0))) (u : Upd (· = p) w w') : Sy w' p (S.at_ i ((S.P i).over off zs)) := by
  have hx := hS.ok i hi
  have hy := Nd.over_ok hx off zs hz
  have hl := hS.len
  have hfit : 1 + i * 107 + (4 + off) + (zs.map (Value.int .u8)).length ≤ C.length := by simp; omega
  refine h.turn i hi ((S.P i).over off zs) rfl rfl u ⟨_, h', hS.put i hi _ hy (by rw [length_splice _ _ _ hfit, hl]) (fun j hj => ?_) (fun j hj => ?_)⟩
  · exact getElem?_splice_out _ _ _ _ hfit (by simp; omega)
  · by_cases e : 4 + off ≤ j ∧ j < 4 + off + zs.length
    · obtain ⟨k, rfl⟩ : ∃ k, j = 4 + off + k := ⟨j - (4 + off), by omega⟩
      rw [show 1 + i * 107 + (4 + off + k) = 1 + i * 107 + (4 + off) + k by omega, getElem?_splice_in _ _ _ _ hfit (by simp; omega)]
      rw [show 4 + off + k = 4 + (off + k) by omega, ndC_b hy (off + k) (by omega)]
      simp only [Nd.over]
      rw [getD_splice_in _ _ _ _ (by rw [hx.b]; exact hz) (by omega), List.getElem?_map, List.getElem?_eq_getElem (by omega), List.getD_eq_getElem?_getD, List.getElem?_eq_getElem (by omega)]
      rfl
    · rw [getElem?_splice_out _ _ _ _ hfit (by simp; omega), hS.at_ i hi j hj]
      refine (ndC_agree hx hy j hj (fun q => ?_) (fun a ha hb => ?_) (fun _ _ _ => rfl) (fun _ => rfl)).symm
      · unfold ndC Nd.over
        rw [List.append_assoc, List.append_assoc, List.getElem?_append_left (by simp; omega), List.append_assoc, List.append_assoc, List.getElem?_append_left (by simp; omega)]
      · simp only [Nd.over]
        exact getD_splice_out _ _ _ _ (by rw [hx.b]; exact hz) (by omega)

theorem csize5 : (Tryz.prog.info? 5).map (·.size) = some 1 := by kernel_rfl

set_option maxHeartbeats 4000000 in
set_option maxRecDepth 20000 in
theorem write_ok (p : Nat) (S : Sg) (w : World) (i : Nat) (h1 : 1 ≤ i) (hi : i < 17) (x : Nd) (T : Nat → Bool) (H : Sy w p (S.bl i x T)) (hk : x.k = 1) (hB : Bok x T (need x.s)) (off len c : Nat) (a : Option Addr) (zs : List Int) (hsrc : Src w a len zs) (ha : ∀ b o, a = some ⟨b, o, none⟩ → b ≠ p) (h0 : 0 < len) (hz : off + len ≤ 96) :
    Calls Tryz.prog 220 #[.pointer (some ⟨p, 0, none⟩), .int .i64 (i : Int), .int .i64 (off : Int), .slice a len c] w fun e w' => e = .returned (.tuple #[.int .i64 (len : Int), .int .i64 0]) ∧
      (∃ B' T', Sy w' p (S.bl i { x with B := B', s := max x.s (off + len), b := splice x.b off zs } T') ∧ Bok { x with B := B', s := max x.s (off + len), b := splice x.b off zs } T' (need (max x.s (off + len)))) ∧ Upd (· = p) w w' := by
  obtain ⟨ab, ao, rfl, hlt, hcell⟩ := hsrc.2 h0
  have hap := ha ab ao rfl
  have hzl := hsrc.1
  have k1 := hid (file_yes p (S.bl i x T) w H i h1 hi (by rw [show (S.bl i x T).P i = x from updN_same _ _ _]; exact hk))
  have k2 : Hid (Calls Tryz.prog 118 #[.pointer (some ⟨p, 0, none⟩), .pointer (some ⟨p, 1 + i * 107, none⟩), .int .i64 ((off : Int) + (len : Int))] w fun e w' => e = .returned (.int .i64 0) ∧ Hid (∃ B' T' C, Sy w' p (S.bl i { x with B := B', s := max x.s (off + len) } T') ∧ Bok { x with B := B', s := max x.s (off + len) } T' (need (max x.s (off + len))) ∧ Upd (· = p) w w' ∧ w'.heap[p]? = some (.cells (List.toArray C) 103 (0, 0)) ∧ Sls C (S.bl i { x with B := B', s := max x.s (off + len) } T').d (S.bl i { x with B := B', s := max x.s (off + len) } T').P (S.bl i { x with B := B', s := max x.s (off + len) } T').T)) := by
    have := grow_any p S w i hi x T H hB (off + len) hz
    rw [show ((off + len : Nat) : Int) = (off : Int) + (len : Int) by omega] at this
    refine hid (this.mono ?_)
    rintro e w' ⟨rfl, ⟨B', T', q1, q2⟩, u⟩
    obtain ⟨C, q3, q4⟩ := q1.blk
    exact ⟨rfl, hid ⟨B', T', C, q1, q2, u, q3, q4⟩⟩
  have a1 : ¬ (off : Int) < 0 := by omega
  have a2 : ¬ (len : Int) = 0 := by omega
  have a3 : ¬ (96 : Int) < (off : Int) := by omega
  have a4 : ¬ (96 : Int) - (off : Int) < (len : Int) := by omega
  have a5 : IntKind.i64.wrap ((off : Int) + (len : Int)) = (off : Int) + (len : Int) := by rw [IntKind.wrap_i64]; omega
  have a6 : IntKind.i64.wrap ((96 : Int) - (off : Int)) = (96 : Int) - (off : Int) := by rw [IntKind.wrap_i64]; omega
  have a7 : (off : Int) ≤ 96 := by omega
  have a8 : (0 : Int) ≤ (off : Int) := by omega
  have HX := hid (And.intro hsrc (And.intro hap hcell))
  clear H hB hsrc ha hk hcell hap
  go_enter Tryz.func220, Tryz.ntmps220
  go_wp2_with fail
  refine k1.out.mono ?_
  rintro e w1 ⟨rfl, rfl⟩
  clear k1
  go_wp2_with fail
  refine k2.out.mono ?_
  rintro e w2 ⟨rfl, H2⟩
  clear k2
  obtain ⟨B', T', C, q1, q2, u, q3, q4⟩ := H2.out
  have hfit : 1 + i * 107 + 4 + off + len ≤ C.length := by rw [q4.len]; omega
  have HQ := hid (And.intro q1 (And.intro q2 (And.intro u (And.intro q3 q4))))
  have HF := hid hfit
  clear q1 q2 u q3 q4 hfit H2
  go_wp2_with (refine wpList_copy2 rfl (.tmp 50) (.tmp 51) 30 30 rfl 5 1 Tryz.underlying30 csize5 _ _ _ ⟨ab, ao, none⟩ len c rfl rfl len p (1 + i * 107 + 4 + off) ?_ ?_ C 103 HQ.out.2.2.2.1 (zs.map (Value.int .u8)) (by simp [hzl]) ?_ (by have := HF.out; simp [hzl]; omega) (fun v hv => by obtain ⟨z, _, rfl⟩ := List.mem_map.1 hv; rfl) ?_)
  case refine_1 => exact (Nat.min_eq_left (by omega)).symm
  case refine_2 => rfl
  case refine_3 =>
    intro j v hv
    obtain ⟨_, hap, hcell⟩ := HX.out
    have hj : j < len := by
      rcases Nat.lt_or_ge j len with h | h
      · exact h
      · rw [List.getElem?_eq_none (by simp; omega)] at hv; simp at hv
    rw [List.getElem?_map, List.getElem?_eq_getElem (by omega)] at hv
    simp only [Option.map_some, Option.some.injEq] at hv
    have := (World.cell?_of_block (a := ⟨ab, ao + j, none⟩) (HQ.out.2.2.1.block ab hlt hap)).trans (hcell j hj)
    rw [List.getD_eq_getElem?_getD, List.getElem?_eq_getElem (by omega)] at this
    rw [← hv, Addr.add_lit]
    exact this
  intro w3 hh u3
  have hS3 : Sy w3 p _ := HQ.out.1.over i hi C HQ.out.2.2.2.1 HQ.out.2.2.2.2 off zs (by omega) (by rw [show 1 + i * 107 + (4 + off) = 1 + i * 107 + 4 + off by omega]; exact hh.out) u3
  have e3 : (S.bl i { x with B := B', s := max x.s (off + len) } T').at_ i (((S.bl i { x with B := B', s := max x.s (off + len) } T').P i).over off zs) = S.bl i { x with B := B', s := max x.s (off + len), b := splice x.b off zs } T' := by
    rw [show (S.bl i { x with B := B', s := max x.s (off + len) } T').P i = { x with B := B', s := max x.s (off + len) } from updN_same _ _ _]
    unfold Sg.bl Sg.at_ Nd.over
    congr 1
    funext j
    by_cases e : j = i <;> simp [updN, e]
  rw [e3] at hS3
  have H3 : Hid ((∃ B' T', Sy w3 p (S.bl i { x with B := B', s := max x.s (off + len), b := splice x.b off zs } T') ∧ Bok { x with B := B', s := max x.s (off + len), b := splice x.b off zs } T' (need (max x.s (off + len)))) ∧ Upd (· = p) w1 w3) :=
    hid ⟨⟨B', T', hS3, ⟨HQ.out.2.1.in_, HQ.out.2.1.ne, HQ.out.2.1.n⟩⟩, HQ.out.2.2.1.trans u3 (fun _ _ h => h)⟩
  clear hS3 e3 hh u3 HQ HF
  go_wp2_with fail
  go_ret2
  exact ⟨rfl, H3.out.1, H3.out.2⟩

end Go.Proofs.YtoknhcjneliboaaGreat

/- What Read and Stat tell of a file. -/
namespace Go.Proofs.YtoknhcjneliboaaGreat
open Go.RowKit Go.ChangeMaps Go.MapKept
set_option linter.unusedVariables false
set_option maxRecDepth 20000

/-- A file's bytes from an offset on, at most so many. -/
def rd (x : Nd) (off cnt : Nat) : List Int := ((x.b.take x.s).drop off).take cnt

theorem rd_len (x : Nd) (hb : x.b.length = 96) (hs : x.s ≤ 96) (off cnt : Nat) : (rd x off cnt).length = min cnt (x.s - off) := by
  unfold rd
  simp [hb]
  omega

theorem rd_getD (x : Nd) (hb : x.b.length = 96) (hs : x.s ≤ 96) (off cnt j : Nat) (hj : j < min cnt (x.s - off)) : (rd x off cnt).getD j 0 = x.b.getD (off + j) 0 := by
  unfold rd
  rw [List.getD_eq_getElem?_getD, List.getElem?_take_of_lt (by omega), List.getElem?_drop, List.getElem?_take_of_lt (by omega), List.getD_eq_getElem?_getD]

set_option maxHeartbeats 4000000 in
set_option maxRecDepth 20000 in
theorem read_ok (p : Nat) (S : Sg) (w : World) (i : Nat) (h1 : 1 ≤ i) (hi : i < 17) (x : Nd) (T : Nat → Bool) (H : Sy w p (S.bl i x T)) (hk : x.k = 1) (hs : x.s ≤ 96) (off count : Nat) (hoff : off ≤ 9223372036854775807) (hc : count ≤ 9223372036854775807) :
    Calls Tryz.prog 219 #[.pointer (some ⟨p, 0, none⟩), .int .i64 (i : Int), .int .i64 (off : Int), .int .i64 (count : Int)] w fun e w' => (∃ g c, e = .returned (.tuple #[.slice (some ⟨g, 0, none⟩) (min count (x.s - off)) c, .int .i64 0]) ∧
      w'.ownsRow w.heap.size 5 1 (.slice (some ⟨g, 0, none⟩) (min count (x.s - off)) c) (min count (x.s - off)) ((rd x off count).map (Value.int .u8))) ∧ Below w.heap.size w w' := by
  have hP : (S.bl i x T).P i = x := updN_same _ _ _
  have k1 := hid (file_yes p (S.bl i x T) w H i h1 hi (by rw [hP]; exact hk))
  have c3 := H.s i hi
  rw [hP] at c3
  have hb96 := (H.ok i hi).b
  rw [hP] at hb96
  have hby : ∀ j, j < 96 → w.cell? ⟨p, 1 + i * 107 + (4 + j), none⟩ = some (.int .u8 (x.b.getD j 0)) := fun j hj => by
    have := H.b i hi j hj
    rw [hP] at this
    exact this
  obtain ⟨s, gs⟩ : ∃ s, s = x.s := ⟨_, rfl⟩
  have HRL := hid (fun off cnt => rd_len x hb96 hs off cnt)
  have HRD := hid (fun off cnt j => rd_getD x hb96 hs off cnt j)
  rw [← gs] at c3 hs HRL HRD ⊢
  have HY := hid hby
  have hpl := H.lt
  have a1 : ¬ (off : Int) < 0 := by omega
  have a2 : ¬ (count : Int) < 0 := by omega
  obtain ⟨m, gm⟩ : ∃ m, m = min off s := ⟨_, rfl⟩
  have hmin : min (off : Int) (s : Int) = (m : Int) := by omega
  have b1 : (0 : Int) ≤ (m : Int) := by omega
  have b2 : (m : Int) ≤ (s : Int) := by omega
  have b3 : (s : Int) ≤ 96 := by omega
  have hms : m ≤ s := by omega
  obtain ⟨r, gr⟩ : ∃ r, r = min count (s - off) := ⟨_, rfl⟩
  rw [← gr]
  have hmin2 : min (count : Int) ((s - m : Nat) : Int) = (r : Int) := by omega
  have b4 : (0 : Int) ≤ (r : Int) := by omega
  have b5 : r ≤ s - m := by omega
  have b6 : (r : Int) ≤ ((96 - m : Nat) : Int) := by omega
  have HM := hid (And.intro gm gr)
  have kc : Hid (∀ (o c : Nat), (0 < r → o = 1 + i * 107 + 4 + m) → Calls Tryz.prog 16 #[.slice (some ⟨p, o, none⟩) r c] w.drew fun e w' => ∃ g c', e = .returned (.slice (some ⟨g, 0, none⟩) r c') ∧ Hid (w'.ownsRow w.heap.size 5 1 (.slice (some ⟨g, 0, none⟩) r c') r ((rd x off count).map (Value.int .u8)) ∧ Below w.heap.size w w')) := by
    refine hid (fun o c ho => ?_)
    have hsrc : Src w.drew (some ⟨p, o, none⟩) r (rd x off count) := by
      refine ⟨by rw [HRL.out, ← gr], fun h0 => ⟨p, o, rfl, hpl, fun j hj => ?_⟩⟩
      have hom : m = off := by omega
      rw [ho h0, HRD.out off count j (by rw [← gr]; exact hj), hom]
      have := HY.out (off + j) (by omega)
      rw [show 1 + i * 107 + (4 + (off + j)) = 1 + i * 107 + 4 + off + j by omega] at this
      exact this
    refine (clone_any ⟨p, o, none⟩ r c (rd x off count) w.drew hsrc (by omega)).mono ?_
    rintro e w' ⟨g, c', rfl, h1, h2⟩
    exact ⟨g, c', rfl, hid ⟨h1, (Below.refl _ w).drew.trans h2⟩⟩
  clear H hP gs hby hk hb96 gm gr
  go_enter Tryz.func219, Tryz.ntmps219
  go_wp2_with fail
  refine k1.out.mono ?_
  rintro e w1 ⟨rfl, rfl⟩
  clear k1
  go_wp2_with fail
  go_region
  go_wp2_with fail
  all_goals
    refine (kc.out _ _ (fun h => by omega)).mono ?_
    rintro e w2 ⟨g, c', rfl, H2⟩
    go_wp2_with fail
    go_ret2
    exact ⟨⟨g, c', rfl, H2.out.1⟩, H2.out.2⟩

theorem cell_three (w : World) (g : Nat) (v0 v1 v2 : Value) (a : Addr) (h : a.block ≠ g) : ((((w.setCell ⟨g, 0, none⟩ v0).setCell ⟨g, 1, none⟩ v1).setCell ⟨g, 2, none⟩ v2).drew).cell? a = w.cell? a := by
  have one : ∀ (w : World) (j : Nat) (v : Value), (w.setCell ⟨g, j, none⟩ v).cell? a = w.cell? a := fun w j v => World.cell?_of_block (heap_setCell_other w ⟨g, j, none⟩ a.block v h)
  exact ((one _ 2 v2).trans (one _ 1 v1)).trans (one _ 0 v0)

theorem builtInfo (k l s : Int) : Tryz.prog.built 87 [(0, .int .i64 k), (1, .int .i64 l), (2, .int .i64 s)] = some #[.int .i64 k, .int .i64 l, .int .i64 s] := congrFun (congrFun (congrFun (show (fun (k l s : Int) => Tryz.prog.built 87 [(0, .int .i64 k), (1, .int .i64 l), (2, .int .i64 s)]) = (fun k l s => some #[.int .i64 k, .int .i64 l, .int .i64 s]) by kernel_rfl) k) l) s
theorem csizeInfo : (Tryz.prog.info? 87).map (·.size) = some 3 := by kernel_rfl

set_option maxHeartbeats 4000000 in
set_option maxRecDepth 20000 in
theorem stat_file (p : Nat) (S : Sg) (w : World) (i : Nat) (h1 : 1 ≤ i) (hi : i < 17) (x : Nd) (T : Nat → Bool) (H : Sy w p (S.bl i x T)) (hk : x.k = 1) :
    Calls Tryz.prog 83 #[.pointer (some ⟨p, 0, none⟩), .int .i64 (i : Int)] w fun e w' => e = .returned (.tuple #[.agg #[.int .i64 1, .int .i64 x.l, .int .i64 (x.s : Int)], .int .i64 0]) ∧ Below w.heap.size w w' := by
  have hP : (S.bl i x T).P i = x := updN_same _ _ _
  obtain ⟨W, gW⟩ : ∃ W, W = w.alloc (Obj.cells #[.int .i64 0, .int .i64 0, .int .i64 0] 87) := ⟨_, rfl⟩
  have hB : Below w.heap.size w W := by rw [gW]; exact one_new _ _
  have hN : W.heap[w.heap.size]? = some (.cells #[.int .i64 0, .int .i64 0, .int .i64 0] 87 (0, 0)) := by rw [gW]; exact heap_alloc_new _ _
  have hS : Sy W p (S.bl i x T) := H.grow hB
  have k1 := hid (node_yes p (S.bl i x T) W hS i h1 hi (by rw [hP, hk]; omega))
  have c0 := hS.k i hi
  have c1 := hS.l i hi
  have c3 := hS.s i hi
  have c6 := hS.m i hi
  have hnm := hS.nms i hi
  rw [hP] at c0 c1 c3 c6 hnm
  have kl : Hid (∀ W', W' = W ∨ W' = W.drew → Calls Tryz.prog 121 #[.pointer (some ⟨p, 1 + i * 107, none⟩)] W' fun e w' => e = .returned (.int .i64 (x.s : Int)) ∧ w' = W') := by
    refine hid (fun W' hW' => ?_)
    have := fun W' (hw : W'.heap = W.heap) => length_any p (1 + i * 107) x.k x.s x.m _ _ W' ((World.cell?_of_block (a := ⟨p, 1 + i * 107, none⟩) (show W'.heap[p]? = W.heap[p]? by rw [hw])).trans c0) ((World.cell?_of_block (a := ⟨p, 1 + i * 107 + 3, none⟩) (show W'.heap[p]? = W.heap[p]? by rw [hw])).trans c3) ((World.cell?_of_block (a := ⟨p, 1 + i * 107 + 106, none⟩) (show W'.heap[p]? = W.heap[p]? by rw [hw])).trans c6) (hnm.block (fun b _ => by rw [hw]))
    rw [if_neg (by rw [hk]; omega)] at this
    rcases hW' with rfl | rfl
    · exact this _ rfl
    · exact this _ rfl
  rw [hk] at c0
  have r0 : W.cell? ⟨w.heap.size, 0, none⟩ = some (.int .i64 0) := by rw [cell_of_row W _ 0 _ _ _ hN]; rfl
  have r1 : W.cell? ⟨w.heap.size, 1, none⟩ = some (.int .i64 0) := by rw [cell_of_row W _ 1 _ _ _ hN]; rfl
  have r2 : W.cell? ⟨w.heap.size, 2, none⟩ = some (.int .i64 0) := by rw [cell_of_row W _ 2 _ _ _ hN]; rfl
  have f0 : ∀ j, W.frozen? ⟨w.heap.size, j, none⟩ = false := fun j => by simp [World.frozen?, hN]
  have f1 := f0 0
  have f2 := f0 1
  have f3 := f0 2
  obtain ⟨l, gl⟩ : ∃ l, l = x.l := ⟨_, rfl⟩
  obtain ⟨s, gs⟩ : ∃ s, s = x.s := ⟨_, rfl⟩
  rw [← gl] at c1 ⊢
  rw [← gs] at c3 kl ⊢
  have hpn : p ≠ w.heap.size := Nat.ne_of_lt H.lt
  have HN := hid hN
  have HB := hid hB
  clear H hP hS hnm c6 hk hN hB gl gs f0
  go_enter Tryz.func83, Tryz.ntmps83
  go_wp2_with fail
  rw [← gW]
  clear gW
  refine k1.out.mono ?_
  rintro e w1 ⟨rfl, rfl⟩
  clear k1
  go_wp2_with fail
  go_region_held3 (fun W' => W'.cell? ⟨p, 1 + i * 107, none⟩ = some (.int .i64 1) ∧ W'.cell? ⟨p, 1 + i * 107 + 1, none⟩ = some (.int .i64 l)) (first | (refine ⟨?_, ?_⟩ <;> assumption) | (refine ⟨(cell_three _ _ _ _ _ ⟨p, _, none⟩ hpn).trans ?_, (cell_three _ _ _ _ _ ⟨p, _, none⟩ hpn).trans ?_⟩ <;> assumption) | go_keep) ((go_at_call 121; refine (kl.out _ (by first | exact .inl rfl | exact .inr rfl)).mono ?_; rintro e w' ⟨rfl, rfl⟩))
  go_wp2_with fail
  have q3 : ((((w1.setCell ⟨w.heap.size, 0, none⟩ (.int .i64 1)).setCell ⟨w.heap.size, 1, none⟩ (.int .i64 l)).setCell ⟨w.heap.size, 2, none⟩ (.int .i64 (s : Int))).drew).heap[w.heap.size]? = some (.cells (List.toArray [.int .i64 1, .int .i64 l, .int .i64 (s : Int)]) 87 (0, 0)) := by
    have g1 := heap_setCell_same w1 w.heap.size 0 _ _ (.int .i64 1) HN.out
    have g2 := heap_setCell_same _ w.heap.size 1 _ _ (.int .i64 l) g1
    have g3 := heap_setCell_same _ w.heap.size 2 _ _ (.int .i64 (s : Int)) g2
    exact g3
  have uu : Upd (· = w.heap.size) w1 ((((w1.setCell ⟨w.heap.size, 0, none⟩ (.int .i64 1)).setCell ⟨w.heap.size, 1, none⟩ (.int .i64 l)).setCell ⟨w.heap.size, 2, none⟩ (.int .i64 (s : Int))).drew) := by
    have u1 : Upd (· = w.heap.size) w1 (w1.setCell ⟨w.heap.size, 0, none⟩ (.int .i64 1)) := Upd.setCell (F := (· = w.heap.size)) w1 ⟨_, _, none⟩ _ rfl
    have u2 : Upd (· = w.heap.size) (w1.setCell ⟨w.heap.size, 0, none⟩ (.int .i64 1)) ((w1.setCell ⟨w.heap.size, 0, none⟩ (.int .i64 1)).setCell ⟨w.heap.size, 1, none⟩ (.int .i64 l)) := Upd.setCell (F := (· = w.heap.size)) _ ⟨_, _, none⟩ _ rfl
    have u3 : Upd (· = w.heap.size) ((w1.setCell ⟨w.heap.size, 0, none⟩ (.int .i64 1)).setCell ⟨w.heap.size, 1, none⟩ (.int .i64 l)) (((w1.setCell ⟨w.heap.size, 0, none⟩ (.int .i64 1)).setCell ⟨w.heap.size, 1, none⟩ (.int .i64 l)).setCell ⟨w.heap.size, 2, none⟩ (.int .i64 (s : Int))) := Upd.setCell (F := (· = w.heap.size)) _ ⟨_, _, none⟩ _ rfl
    exact ((u1.trans u2 (fun _ _ h => h)).trans u3 (fun _ _ h => h)).drewN 1
  refine bodyPost_ret (cell_result2 rfl _ _ w.heap.size 0 rfl [.int .i64 1, .int .i64 l, .int .i64 (s : Int)] _ (rangeAt_block q3) Tryz.underlying87 rfl csizeInfo) rfl ?_
  exact ⟨rfl, HB.out.trans (uu.below HB.out.size (fun x hx => by omega))⟩

end Go.Proofs.YtoknhcjneliboaaGreat

/- What has, release and cut do to a file that is alone in its system. -/
namespace Go.Proofs.YtoknhcjneliboaaGreat
open Go.RowKit Go.ChangeMaps Go.MapKept
set_option linter.unusedVariables false
set_option maxRecDepth 20000

theorem has_none (p : Nat) (S : Sg) (w : World) (H : Sy w p S) (hd : S.d = 0) : Calls Tryz.prog 133 #[.pointer (some ⟨p, 0, none⟩), .int .i64 2] w fun e w' => e = .returned (.bool false) ∧ w' = w := by
  have c := H.df
  rw [hd] at c
  clear H hd
  go_enter Tryz.func133, Tryz.ntmps133
  go_wp2_with fail
  go_ret
  exact ⟨rfl, rfl⟩

/-- A file's blocks while some of them are let go. -/
structure Brl (x : Nd) (T : Nat → Bool) (q0 k q1 : Nat) : Prop where
  in_ : ∀ j, j < q1 → ∃ b : Nat, x.B.getD j 0 = (b : Int) ∧ 1 ≤ b ∧ b < 25 ∧ (j < q0 ∨ q0 + k ≤ j → T b = true)
  ne : ∀ i j, i < j → j < q1 → x.B.getD i 0 ≠ x.B.getD j 0
  n : cnt T 25 + k = q1

theorem Bok.brl {x : Nd} {T : Nat → Bool} {q1 : Nat} (h : Bok x T q1) (q0 : Nat) : Brl x T q0 0 q1 :=
  ⟨fun j hj => by obtain ⟨b, h1, h2, h3, h4⟩ := h.in_ j hj; exact ⟨b, h1, h2, h3, fun _ => h4⟩, h.ne, h.n⟩
theorem Brl.bok {x : Nd} {T : Nat → Bool} {q0 k q1 : Nat} (h : Brl x T q0 k q1) (e : q0 + k = q1) : Bok x T q0 :=
  ⟨fun j hj => by obtain ⟨b, h1, h2, h3, h4⟩ := h.in_ j (by omega); exact ⟨b, h1, h2, h3, h4 (.inl hj)⟩, fun i j h1 h2 => h.ne i j h1 (by omega), by have := h.n; omega⟩
theorem Brl.step {x : Nd} {T : Nat → Bool} {q0 k q1 : Nat} (h : Brl x T q0 k q1) (hk : q0 + k < q1) (b : Nat) (hb : x.B.getD (q0 + k) 0 = (b : Int)) : Brl x (updT T b false) q0 (k + 1) q1 := by
  obtain ⟨b', e1, e2, e3, e4⟩ := h.in_ (q0 + k) hk
  have : b' = b := by omega
  subst this
  refine ⟨fun j hj => ?_, h.ne, by have := cnt_clr T b' (e4 (.inr (Nat.le_refl _))) 25 e3; have := h.n; omega⟩
  obtain ⟨c, h1, h2, h3, h4⟩ := h.in_ j hj
  refine ⟨c, h1, h2, h3, fun hh => ?_⟩
  have hne : c ≠ b' := by
    intro e
    rcases Nat.lt_trichotomy j (q0 + k) with q | q | q
    · exact h.ne j (q0 + k) q hk (by rw [h1, hb, e])
    · omega
    · exact h.ne (q0 + k) j q hj (by rw [h1, hb, e])
  rw [updT_ne _ _ _ _ hne]
  exact h4 (by omega)

set_option maxHeartbeats 4000000 in
set_option maxRecDepth 20000 in
theorem release_any (p : Nat) (S : Sg) (w : World) (i : Nat) (hi : i < 17) (x : Nd) (T : Nat → Bool) (H : Sy w p (S.bl i x T)) (hd : S.d = 0) (q0 n c o : Nat) (ho : 0 < n → o = 1 + i * 107 + (100 + q0)) (hq : q0 + n ≤ 6) (hn : n ≤ c) (hc : c ≤ 6) (hB : Bok x T (q0 + n)) :
    Calls Tryz.prog 139 #[.pointer (some ⟨p, 0, none⟩), .slice (some ⟨p, o, none⟩) n c] w fun e w' => e = .returned (.tuple #[]) ∧ (∃ T', Sy w' p (S.bl i x T') ∧ Bok x T' q0) ∧ Upd (· = p) w w' := by
  have k0 := hid (has_none p (S.bl i x T) w H hd)
  have H0 : Hid (∃ T', Sy w p (S.bl i x T') ∧ Brl x T' q0 0 (q0 + n) ∧ Upd (· = p) w w) := hid ⟨T, H, hB.brl q0, Upd.refl _ _⟩
  have HOO := hid ho
  clear H hB ho
  go_enter Tryz.func139, Tryz.ntmps139
  go_wp2_with fail
  refine k0.out.mono ?_
  rintro e w1 ⟨rfl, rfl⟩
  clear k0
  go_wp2_with fail
  go_loopw [5, 10] (fun v5 v10 wr => ∃ k : Nat, k ≤ n ∧ v10 = .int .i64 (k : Int) ∧ Hid (∃ T', Sy wr p (S.bl i x T') ∧ Brl x T' q0 k (q0 + n) ∧ Upd (· = p) w1 wr)) (fun _ v10 _ => n - (intOf v10).toNat)
  case atStart => exact ⟨0, by omega, rfl, H0⟩
  case round =>
    clear H0
    obtain ⟨k, hkn, rfl, HQ⟩ := hrel
    by_cases e : k = n
    · subst e
      go_wp2_with fail
      go_end0
      obtain ⟨T', h1, h2, h3⟩ := HQ.out
      exact ⟨rfl, ⟨T', h1, h2.bok rfl⟩, h3⟩
    · have hk : k < n := by omega
      have hk2 : (k : Int) < (n : Int) := by omega
      have hk0 : (0 : Int) ≤ (k : Int) := by omega
      obtain ⟨T', h1, h2, h3⟩ := HQ.out
      have hP : (S.bl i x T').P i = x := updN_same _ _ _
      obtain ⟨b, e1, e2, e3, e4⟩ := h2.in_ (q0 + k) (by omega)
      have hcell := h1.B i hi (q0 + k) (by omega)
      rw [hP, e1, show 1 + i * 107 + (100 + (q0 + k)) = o + k by have := HOO.out (by omega); omega] at hcell
      have ht := h1.t b e3
      have hf := h1.fz (1820 + b)
      have b0 : (0 : Int) ≤ (b : Int) := by omega
      have b1 : (b : Int) < 25 := by omega
      have hm := h1.mark b e3 false
      have HQ4 : Hid (∃ T', Sy (wr.setCell ⟨p, 1820 + b, none⟩ (.bool false)) p (S.bl i x T') ∧ Brl x T' q0 (k + 1) (q0 + n) ∧ Upd (· = p) w1 (wr.setCell ⟨p, 1820 + b, none⟩ (.bool false))) :=
        hid ⟨updT T' b false, hm, h2.step (by omega) b e1, h3.trans (Upd.setCell (F := (· = p)) wr ⟨p, _, none⟩ _ rfl) (fun _ _ h => h)⟩
      clear h1 h2 h3 hP e1 e4 hm HQ e
      go_wp2_with fail
      go_roundw
      case rel => exact ⟨k + 1, by omega, by go_num, HQ4⟩
      case measure => simp [intOf]; omega

set_option maxHeartbeats 4000000 in
set_option maxRecDepth 20000 in
theorem cut_any (p : Nat) (S : Sg) (w : World) (i : Nat) (hi : i < 17) (x : Nd) (T : Nat → Bool) (H : Sy w p (S.bl i x T)) (hd : S.d = 0) (hs : x.s ≤ 96) (hB : Bok x T (need x.s)) (size : Nat) (hz : size < x.s) :
    Calls Tryz.prog 117 #[.pointer (some ⟨p, 0, none⟩), .pointer (some ⟨p, 1 + i * 107, none⟩), .int .i64 (size : Int)] w fun e w' => e = .returned (.tuple #[]) ∧ (∃ T', Sy w' p (S.bl i { x with s := size, b := splice x.b size (List.replicate (96 - size) 0) } T') ∧ Bok { x with s := size, b := splice x.b size (List.replicate (96 - size) 0) } T' (need size)) ∧ Upd (· = p) w w' := by
  have hP : (S.bl i x T).P i = x := updN_same _ _ _
  have c3 := H.s i hi
  rw [hP] at c3
  obtain ⟨q0, g0⟩ : ∃ q0, q0 = need size := ⟨_, rfl⟩
  obtain ⟨q1, g1⟩ : ∃ q1, q1 = need x.s := ⟨_, rfl⟩
  have h01 : q0 ≤ q1 := by rw [g0, g1]; exact need_mono (by omega)
  have h16 : q1 ≤ 6 := by rw [g1]; exact need_le hs
  rw [← g1] at hB
  rw [← g0]
  obtain ⟨s0, gs⟩ : ∃ s0, s0 = x.s := ⟨_, rfl⟩
  rw [← gs] at c3 hs hz
  have K0 : Hid (∀ W, Calls Tryz.prog 140 #[.int .i64 (size : Int)] W fun e w' => e = .returned (.int .i64 (q0 : Int)) ∧ w' = W) := by
    refine hid (fun W => ?_)
    have := needed_any size (by omega) W
    rw [show (size + 15) / 16 = q0 by rw [g0]; rfl] at this
    exact this
  have K1 : Hid (∀ W, Calls Tryz.prog 140 #[.int .i64 (s0 : Int)] W fun e w' => e = .returned (.int .i64 (q1 : Int)) ∧ w' = W) := by
    refine hid (fun W => ?_)
    have := needed_any s0 (by omega) W
    rw [show (s0 + 15) / 16 = q1 by rw [g1, gs]; rfl] at this
    exact this
  have K2 : Hid (Calls Tryz.prog 139 #[.pointer (some ⟨p, 0, none⟩), .slice (some (if 6 = q0 then ⟨p, 1 + i * 107 + 100, none⟩ else ⟨p, 1 + i * 107 + 100 + q0, none⟩)) (q1 - q0) (6 - q0)] w.drew fun e w' => e = .returned (.tuple #[]) ∧ Hid ((∃ T', Sy w' p (S.bl i x T') ∧ Bok x T' q0) ∧ Upd (· = p) w w')) := by
    obtain ⟨o, go⟩ : ∃ o, o = if 6 = q0 then 1 + i * 107 + 100 else 1 + i * 107 + 100 + q0 := ⟨_, rfl⟩
    have hA : (if 6 = q0 then (⟨p, 1 + i * 107 + 100, none⟩ : Addr) else ⟨p, 1 + i * 107 + 100 + q0, none⟩) = ⟨p, o, none⟩ := by
      rw [go]; split <;> rfl
    have ho : 0 < q1 - q0 → o = 1 + i * 107 + (100 + q0) := fun h => by
      rw [go, if_neg (by omega)]; omega
    rw [hA]
    refine hid ((release_any p S w.drew i hi x T (H.hp rfl) hd q0 (q1 - q0) (6 - q0) o ho (by omega) (by omega) (by omega) (by rw [show q0 + (q1 - q0) = q1 by omega]; exact hB)).mono ?_)
    rintro e w' ⟨rfl, h1, u⟩
    exact ⟨rfl, hid ⟨h1, ((Upd.refl (· = p) w).drewN 1).trans u (fun _ _ h => h)⟩⟩
  have a2 : (0 : Int) ≤ (q0 : Int) := by omega
  have a3 : (q0 : Int) ≤ (q1 : Int) := by omega
  have a4 : (q1 : Int) ≤ 6 := by omega
  have a5 : (0 : Int) ≤ (size : Int) := by omega
  have a6 : (size : Int) ≤ 96 := by omega
  have GS := hid gs
  have HS0 := hid (And.intro hs hz)
  clear H hB hP g0 g1 gs hs hz
  have KC : Hid (∀ W, (∃ T', Sy W p (S.bl i x T') ∧ Bok x T' q0) → W.cell? ⟨p, 1 + i * 107 + 3, none⟩ = some (.int .i64 (s0 : Int))) := by
    refine hid (fun W h => ?_)
    obtain ⟨T', h1, _⟩ := h
    have := h1.s i hi
    rw [show (S.bl i x T').P i = x from updN_same _ _ _] at this
    rw [GS.out]
    exact this
  by_cases e6 : 6 = q0
  · rw [if_pos e6] at K2
    subst e6
    obtain rfl : q1 = 6 := by omega
    have K0 : Hid (∀ W, Calls Tryz.prog 140 #[.int .i64 (size : Int)] W fun e w' => e = .returned (.int .i64 6) ∧ w' = W) := K0
    have K1 : Hid (∀ W, Calls Tryz.prog 140 #[.int .i64 (s0 : Int)] W fun e w' => e = .returned (.int .i64 6) ∧ w' = W) := K1
    rw [Nat.sub_self] at K2
    go_enter Tryz.func117, Tryz.ntmps117
    go_wp2_with fail
    go_region_held3 (fun W => W.cell? ⟨p, 1 + i * 107 + 3, none⟩ = some (.int .i64 (s0 : Int))) (go_keep) (first | (go_at_call 140; first | (refine (K0.out _).mono ?_; rintro e w' ⟨rfl, rfl⟩) | (refine (K1.out _).mono ?_; rintro e w' ⟨rfl, rfl⟩)) | (go_at_call 139; refine K2.out.mono ?_; rintro e w2 ⟨rfl, H2⟩; have c4 := KC.out w2 H2.out.1))
    obtain ⟨⟨T', h1, h2⟩, u2⟩ := H2.out
    obtain ⟨C, hC, hSl⟩ := h1.blk
    have hP2 : (S.bl i x T').P i = x := updN_same _ _ _
    have hcl : ∀ j, j < 96 - size → (w2.cell? ⟨p, 1 + i * 107 + 4 + size + j, none⟩).isSome = true := fun j hj => by
      have := h1.b i hi (size + j) (by omega)
      rw [show 1 + i * 107 + (4 + (size + j)) = 1 + i * 107 + 4 + size + j by omega] at this
      rw [this]
      rfl
    have hclr := fun ty => Lib.run_clear_slice (P := Tryz.prog) w2 30 5 ty (.int .u8 0) Tryz.underlying30 Tryz.zeroValue5 rfl rfl p (1 + i * 107 + 4 + size) (96 - size) (96 - size) (by have := HS0.out; omega) hcl (fun j _ => h1.fz _)
    obtain ⟨W3, g3⟩ : ∃ W3, W3 = w2.setCells p (1 + i * 107 + 4 + size) (List.replicate (96 - size) (.int .u8 0)) := ⟨_, rfl⟩
    rw [← g3] at hclr
    have u3 : Upd (· = p) w2 W3 := by rw [g3]; exact upd_setCells _ _ _ _
    have hS3 : Sy W3 p _ := h1.over i hi C hC hSl size (List.replicate (96 - size) 0) (by have := HS0.out; simp; omega) (by
      rw [g3, show 1 + i * 107 + (4 + size) = 1 + i * 107 + 4 + size by omega, List.map_replicate]
      exact heap_setCells p 103 _ _ w2 C hC (by rw [hSl.len]; have := HS0.out; simp; omega)) u3
    have e3 : (S.bl i x T').at_ i (((S.bl i x T').P i).over size (List.replicate (96 - size) 0)) = S.bl i { x with b := splice x.b size (List.replicate (96 - size) 0) } T' := by
      rw [hP2]
      unfold Sg.bl Sg.at_ Nd.over
      congr 1
      funext j
      by_cases e : j = i <;> simp [updN, e]
    rw [e3] at hS3
    have hS4 := hS3.sizeTo i hi size
    have e4 : (S.bl i { x with b := splice x.b size (List.replicate (96 - size) 0) } T').at_ i (Nd.size ((S.bl i { x with b := splice x.b size (List.replicate (96 - size) 0) } T').P i) size) = S.bl i { x with s := size, b := splice x.b size (List.replicate (96 - size) 0) } T' := by
      rw [show (S.bl i { x with b := splice x.b size (List.replicate (96 - size) 0) } T').P i = { x with b := splice x.b size (List.replicate (96 - size) 0) } from updN_same _ _ _]
      unfold Sg.bl Sg.at_ Nd.size
      congr 1
      funext j
      by_cases e : j = i <;> simp [updN, e]
    rw [e4] at hS4
    have c5 := hS3.s i hi
    have f5 := hS3.fz (1 + i * 107 + 3)
    have HQ : Hid ((∃ T', Sy (W3.setCell ⟨p, 1 + i * 107 + 3, none⟩ (.int .i64 (size : Int))) p (S.bl i { x with s := size, b := splice x.b size (List.replicate (96 - size) 0) } T') ∧ Bok { x with s := size, b := splice x.b size (List.replicate (96 - size) 0) } T' 6) ∧ Upd (· = p) w (W3.setCell ⟨p, 1 + i * 107 + 3, none⟩ (.int .i64 (size : Int)))) :=
      hid ⟨⟨T', hS4, ⟨h2.in_, h2.ne, h2.n⟩⟩, (u2.trans u3 (fun _ _ h => h)).trans (Upd.setCell (F := (· = p)) W3 ⟨p, _, none⟩ _ rfl) (fun _ _ h => h)⟩
    have n96 : ¬ 96 = size := by have := HS0.out; omega
    have n0 : ¬ 96 - size = 0 := by have := HS0.out; omega
    clear h1 h2 u2 hC hSl hP2 hcl u3 hS3 e3 hS4 e4 g3 H2 c4
    go_wp2_with fail
    go_end0
    exact ⟨rfl, HQ.out.1, HQ.out.2⟩
  · rw [if_neg e6] at K2
    go_enter Tryz.func117, Tryz.ntmps117
    go_wp2_with fail
    go_region_held3 (fun W => W.cell? ⟨p, 1 + i * 107 + 3, none⟩ = some (.int .i64 (s0 : Int))) (go_keep) (first | (go_at_call 140; first | (refine (K0.out _).mono ?_; rintro e w' ⟨rfl, rfl⟩) | (refine (K1.out _).mono ?_; rintro e w' ⟨rfl, rfl⟩)) | (go_at_call 139; refine K2.out.mono ?_; rintro e w2 ⟨rfl, H2⟩; have c4 := KC.out w2 H2.out.1))
    obtain ⟨⟨T', h1, h2⟩, u2⟩ := H2.out
    obtain ⟨C, hC, hSl⟩ := h1.blk
    have hP2 : (S.bl i x T').P i = x := updN_same _ _ _
    have hcl : ∀ j, j < 96 - size → (w2.cell? ⟨p, 1 + i * 107 + 4 + size + j, none⟩).isSome = true := fun j hj => by
      have := h1.b i hi (size + j) (by omega)
      rw [show 1 + i * 107 + (4 + (size + j)) = 1 + i * 107 + 4 + size + j by omega] at this
      rw [this]
      rfl
    have hclr := fun ty => Lib.run_clear_slice (P := Tryz.prog) w2 30 5 ty (.int .u8 0) Tryz.underlying30 Tryz.zeroValue5 rfl rfl p (1 + i * 107 + 4 + size) (96 - size) (96 - size) (by have := HS0.out; omega) hcl (fun j _ => h1.fz _)
    obtain ⟨W3, g3⟩ : ∃ W3, W3 = w2.setCells p (1 + i * 107 + 4 + size) (List.replicate (96 - size) (.int .u8 0)) := ⟨_, rfl⟩
    rw [← g3] at hclr
    have u3 : Upd (· = p) w2 W3 := by rw [g3]; exact upd_setCells _ _ _ _
    have hS3 : Sy W3 p _ := h1.over i hi C hC hSl size (List.replicate (96 - size) 0) (by have := HS0.out; simp; omega) (by
      rw [g3, show 1 + i * 107 + (4 + size) = 1 + i * 107 + 4 + size by omega, List.map_replicate]
      exact heap_setCells p 103 _ _ w2 C hC (by rw [hSl.len]; have := HS0.out; simp; omega)) u3
    have e3 : (S.bl i x T').at_ i (((S.bl i x T').P i).over size (List.replicate (96 - size) 0)) = S.bl i { x with b := splice x.b size (List.replicate (96 - size) 0) } T' := by
      rw [hP2]
      unfold Sg.bl Sg.at_ Nd.over
      congr 1
      funext j
      by_cases e : j = i <;> simp [updN, e]
    rw [e3] at hS3
    have hS4 := hS3.sizeTo i hi size
    have e4 : (S.bl i { x with b := splice x.b size (List.replicate (96 - size) 0) } T').at_ i (Nd.size ((S.bl i { x with b := splice x.b size (List.replicate (96 - size) 0) } T').P i) size) = S.bl i { x with s := size, b := splice x.b size (List.replicate (96 - size) 0) } T' := by
      rw [show (S.bl i { x with b := splice x.b size (List.replicate (96 - size) 0) } T').P i = { x with b := splice x.b size (List.replicate (96 - size) 0) } from updN_same _ _ _]
      unfold Sg.bl Sg.at_ Nd.size
      congr 1
      funext j
      by_cases e : j = i <;> simp [updN, e]
    rw [e4] at hS4
    have c5 := hS3.s i hi
    have f5 := hS3.fz (1 + i * 107 + 3)
    have HQ : Hid ((∃ T', Sy (W3.setCell ⟨p, 1 + i * 107 + 3, none⟩ (.int .i64 (size : Int))) p (S.bl i { x with s := size, b := splice x.b size (List.replicate (96 - size) 0) } T') ∧ Bok { x with s := size, b := splice x.b size (List.replicate (96 - size) 0) } T' q0) ∧ Upd (· = p) w (W3.setCell ⟨p, 1 + i * 107 + 3, none⟩ (.int .i64 (size : Int)))) :=
      hid ⟨⟨T', hS4, ⟨h2.in_, h2.ne, h2.n⟩⟩, (u2.trans u3 (fun _ _ h => h)).trans (Upd.setCell (F := (· = p)) W3 ⟨p, _, none⟩ _ rfl) (fun _ _ h => h)⟩
    have n96 : ¬ 96 = size := by have := HS0.out; omega
    have n0 : ¬ 96 - size = 0 := by have := HS0.out; omega
    clear h1 h2 u2 hC hSl hP2 hcl u3 hS3 e3 hS4 e4 g3 H2 c4
    go_wp2_with fail
    go_end0
    exact ⟨rfl, HQ.out.1, HQ.out.2⟩

end Go.Proofs.YtoknhcjneliboaaGreat
