/- What take does: blocks for a file, the lowest free ones first. -/
import Derived.Test.YtdnblbahecpmkaaGreatNBlk
namespace Go.Proofs.YtdnblbahecpmkaaGreat
open Go.RowKit Go.ChangeMaps Go.MapKept
set_option linter.unusedVariables false
set_option maxRecDepth 20000

/-- Cells of a node, one by one: two nodes agree where their parts do. -/
theorem ndC_agree {x y : Nd} (hx : x.ok) (hy : y.ok) (j : Nat) (hj : j < 107) (h0 : j < 4 → (ndC y)[j]? = (ndC x)[j]?) (hb : ∀ i, j = 4 + i → i < 96 → y.b.getD i 0 = x.b.getD i 0) (hB : ∀ i, j = 100 + i → i < 6 → y.B.getD i 0 = x.B.getD i 0) (hm : j = 106 → y.m = x.m) : (ndC y)[j]? = (ndC x)[j]? := by
  rcases (show j < 4 ∨ (4 ≤ j ∧ j < 100) ∨ (100 ≤ j ∧ j < 106) ∨ j = 106 by omega) with h | h | h | h
  · exact h0 h
  · obtain ⟨i, rfl⟩ : ∃ i, j = 4 + i := ⟨j - 4, by omega⟩
    rw [ndC_b hy i (by omega), ndC_b hx i (by omega), hb i rfl (by omega)]
  · obtain ⟨i, rfl⟩ : ∃ i, j = 100 + i := ⟨j - 100, by omega⟩
    rw [ndC_B hy i (by omega), ndC_B hx i (by omega), hB i rfl (by omega)]
  · subst h
    rw [ndC_m hy, ndC_m hx, hm rfl]

def Nd.blk (x : Nd) (j : Nat) (v : Int) : Nd := { x with B := x.B.set j v }
theorem Nd.blk_ok {x : Nd} (h : x.ok) (j : Nat) (v : Int) : (x.blk j v).ok := ⟨h.b, by simp [Nd.blk, h.B]⟩
theorem getD_set_same (l : List Int) (j : Nat) (v : Int) (h : j < l.length) : (l.set j v).getD j 0 = v := by
  rw [List.getD_eq_getElem?_getD, List.getElem?_set_self h]; rfl
theorem getD_set_ne (l : List Int) (i j : Nat) (v : Int) (h : j ≠ i) : (l.set j v).getD i 0 = l.getD i 0 := by
  rw [List.getD_eq_getElem?_getD, List.getElem?_set_ne h, List.getD_eq_getElem?_getD]

theorem Sy.blkTo {w : World} {p : Nat} {S : Sg} (h : Sy w p S) (i : Nat) (hi : i < 17) (j : Nat) (hj : j < 6) (v : Int) : Sy (w.setCell ⟨p, 1 + i * 107 + (100 + j), none⟩ (.int .i64 v)) p (S.at_ i ((S.P i).blk j v)) := by
  have hx := h.ok i hi
  have hy := Nd.blk_ok hx j v
  have hl := hx.B
  refine h.set i hi ((S.P i).blk j v) hy rfl rfl (100 + j) (by omega) _ ?_ (fun k hk e => ndC_agree hx hy k hk (fun q => ?_) (fun _ _ _ => rfl) (fun a ha hb => ?_) (fun _ => rfl))
  · rw [ndC_B hy j hj]
    simp only [Nd.blk]
    rw [getD_set_same _ _ _ (by omega)]
  · unfold ndC Nd.blk
    rw [List.append_assoc, List.append_assoc, List.getElem?_append_left (by simp; omega), List.append_assoc, List.append_assoc, List.getElem?_append_left (by simp; omega)]
  · simp only [Nd.blk]
    exact getD_set_ne _ _ _ _ (by omega)

/-- A file's blocks: so many are its own, all are marked, and no others are. -/
structure Bok (x : Nd) (T : Nat → Bool) (q : Nat) : Prop where
  in_ : ∀ j, j < q → ∃ b : Nat, x.B.getD j 0 = (b : Int) ∧ 1 ≤ b ∧ b < 25 ∧ T b = true
  ne : ∀ i j, i < j → j < q → x.B.getD i 0 ≠ x.B.getD j 0
  n : cnt T 25 = q

theorem Bok.take {x : Nd} {T : Nat → Bool} {q b : Nat} (h : Bok x T q) (hx : x.ok) (hq : q < 6) (h1 : 1 ≤ b) (h2 : b < 25) (hb : T b = false) : Bok (x.blk q (b : Int)) (updT T b true) (q + 1) := by
  have hl := hx.B
  have hold : ∀ j, j < q → (x.blk q (b : Int)).B.getD j 0 = x.B.getD j 0 := fun j hj => getD_set_ne _ _ _ _ (by omega)
  have hnew : (x.blk q (b : Int)).B.getD q 0 = (b : Int) := getD_set_same _ _ _ (by omega)
  refine ⟨fun j hj => ?_, fun i j hij hj => ?_, by rw [cnt_set T b hb 25 h2, h.n]⟩
  · by_cases e : j = q
    · subst e; exact ⟨b, hnew, h1, h2, updT_same _ _ _⟩
    · obtain ⟨c, q1, q2, q3, q4⟩ := h.in_ j (by omega)
      refine ⟨c, by rw [hold j (by omega)]; exact q1, q2, q3, ?_⟩
      by_cases ec : c = b
      · subst ec; exact updT_same _ _ _
      · rw [updT_ne _ _ _ _ ec]; exact q4
  · by_cases e : j = q
    · subst e
      rw [hnew, hold i (by omega)]
      obtain ⟨c, q1, q2, q3, q4⟩ := h.in_ i (by omega)
      rw [q1]
      intro ec
      have : c = b := by omega
      subst this
      rw [hb] at q4
      simp at q4
    · rw [hold i (by omega), hold j (by omega)]
      exact h.ne i j hij (by omega)

/-- A system whose node at i, and whose marks, are others. -/
def Sg.bl (S : Sg) (i : Nat) (x : Nd) (T : Nat → Bool) : Sg := { S with P := updN S.P i x, T := T }

set_option maxHeartbeats 4000000 in
set_option maxRecDepth 20000 in
theorem take_any (p : Nat) (S : Sg) (w : World) (i : Nat) (hi : i < 17) (x : Nd) (T : Nat → Bool) (H : Sy w p (S.bl i x T)) (q n c o : Nat) (ho : 0 < n → o = 1 + i * 107 + (100 + q)) (hq : q + n ≤ 6) (hn : n ≤ c) (hc : c ≤ 6) (hB : Bok x T q) :
    Calls Tryz.prog 78 #[.pointer (some ⟨p, 0, none⟩), .slice (some ⟨p, o, none⟩) n c] w fun e w' => e = .returned (.tuple #[]) ∧ (∃ B' T', Sy w' p (S.bl i { x with B := B' } T') ∧ Bok { x with B := B' } T' (q + n) ∧ (∀ j, j < q → B'.getD j 0 = x.B.getD j 0)) ∧ Upd (· = p) w w' := by
  have hB0 : x.B = x.B := rfl
  have H0 : Hid (∃ B' T', Sy w p (S.bl i { x with B := B' } T') ∧ Bok { x with B := B' } T' (q + 0) ∧ (∀ j, j < q → B'.getD j 0 = x.B.getD j 0) ∧ Upd (· = p) w w ∧ (∀ cc, 1 ≤ cc → cc < 1 → T' cc = true)) := hid ⟨x.B, T, H, hB, fun _ _ => rfl, Upd.refl _ _, fun cc h1 h2 => by omega⟩
  have HOO := hid ho
  clear H hB hB0 ho
  go_enter Tryz.func78, Tryz.ntmps78
  go_wp2_with fail
  go_loopw [4, 8] (fun v4 v8 wr => ∃ b k : Nat, 1 ≤ b ∧ b < 25 ∧ k ≤ n ∧ v4 = .int .i64 (b : Int) ∧ v8 = .int .i64 (k : Int) ∧ Hid (∃ B' T', Sy wr p (S.bl i { x with B := B' } T') ∧ Bok { x with B := B' } T' (q + k) ∧ (∀ j, j < q → B'.getD j 0 = x.B.getD j 0) ∧ Upd (· = p) w wr ∧ (∀ cc, 1 ≤ cc → cc < b → T' cc = true))) (fun _ v8 _ => n - (intOf v8).toNat)
  case atStart => exact ⟨1, 0, by omega, by omega, by omega, rfl, rfl, H0⟩
  case round =>
    clear H0
    obtain ⟨b, k, hb1, hb2, hkn, rfl, rfl, HQ⟩ := hrel
    by_cases e : k = n
    · subst e
      go_wp2_with fail
      go_end0
      obtain ⟨B', T', h1, h2, h3, h4, _⟩ := HQ.out
      exact ⟨rfl, ⟨B', T', h1, h2, h3⟩, h4⟩
    · have hk : k < n := by omega
      have hk2 : (k : Int) < (n : Int) := by omega
      obtain ⟨B', T', h1, h2, h3, h4, h5⟩ := HQ.out
      have HS := hid h1
      have HB := hid h2
      have HK := hid (And.intro h3 h4)
      have HF := hid h5
      clear HQ h1 h2 h3 h4 h5 e
      go_wp2_with fail
      rename World => wo
      go_loopw [4] (fun v4 wr => ∃ b : Nat, 1 ≤ b ∧ b < 25 ∧ v4 = .int .i64 (b : Int) ∧ wr = wo ∧ Hid (∀ cc, 1 ≤ cc → cc < b → T' cc = true)) (fun v4 _ => 25 - (intOf v4).toNat)
      case atStart => exact ⟨b, hb1, hb2, rfl, rfl, HF⟩
      case round =>
        clear HF hb1 hb2
        obtain ⟨b, hb1, hb2, rfl, rfl, HF⟩ := hrel
        have c0 : (0 : Int) ≤ (b : Int) := by omega
        have c1 : (b : Int) < 25 := by omega
        have hl := HS.out.t b hb2
        change wr.cell? ⟨p, 1820 + b, none⟩ = some (.bool (T' b)) at hl
        cases ht : T' b with
        | true =>
          rw [ht] at hl
          have hb3 : b + 1 < 25 := by
            rcases Nat.lt_or_ge (b + 1) 25 with h | h
            · exact h
            · have h1 := cnt_full T' 25 (fun cc q1 q2 => by
                by_cases e : cc = b
                · subst e; exact ht
                · exact HF.out cc q1 (by omega))
              have h2 := HB.out.n
              omega
          have HF2 : Hid (∀ cc, 1 ≤ cc → cc < b + 1 → T' cc = true) := hid (fun cc q1 q2 => by
            by_cases e : cc = b
            · subst e; exact ht
            · exact HF.out cc q1 (by omega))
          clear ht HF
          go_wp2_with fail
          go_roundw
          case rel => exact ⟨b + 1, by omega, hb3, by go_num, by first | rfl | trivial, HF2⟩
          case measure => simp [intOf]; omega
        | false =>
          rw [ht] at hl
          have f1 := HS.out.fz (1820 + b)
          have hadr : 1 + i * 107 + (100 + (q + k)) = o + k := by have := HOO.out (by omega); omega
          have hS3 := HS.out.mark b hb2 true
          have hb4 := hS3.B i hi (q + k) (by omega)
          rw [hadr] at hb4
          have f2 := hS3.fz (o + k)
          have hS4 := hS3.blkTo i hi (q + k) (by omega) (b : Int)
          rw [hadr] at hS4
          have hP : ((S.bl i { x with B := B' } T').P i) = { x with B := B' } := updN_same _ _ _
          have hok : ({ x with B := B' } : Nd).ok := by rw [← hP]; exact HS.out.ok i hi
          have HB4 := hid (HB.out.take hok (by omega) hb1 hb2 ht)
          have HU4 : Hid (Upd (· = p) w ((wr.setCell ⟨p, 1820 + b, none⟩ (.bool true)).setCell ⟨p, o + k, none⟩ (.int .i64 (b : Int)))) := by
            have u1 : Upd (· = p) wr (wr.setCell ⟨p, 1820 + b, none⟩ (.bool true)) := Upd.setCell (F := (· = p)) wr ⟨p, _, none⟩ _ rfl
            have u2 : Upd (· = p) (wr.setCell ⟨p, 1820 + b, none⟩ (.bool true)) ((wr.setCell ⟨p, 1820 + b, none⟩ (.bool true)).setCell ⟨p, o + k, none⟩ (.int .i64 (b : Int))) := Upd.setCell (F := (· = p)) _ ⟨p, _, none⟩ _ rfl
            exact hid ((HK.out.2.trans u1 (fun _ _ h => h)).trans u2 (fun _ _ h => h))
          have HQ4 : Hid (∃ B' T', Sy ((wr.setCell ⟨p, 1820 + b, none⟩ (.bool true)).setCell ⟨p, o + k, none⟩ (.int .i64 (b : Int))) p (S.bl i { x with B := B' } T') ∧ Bok { x with B := B' } T' (q + (k + 1)) ∧ (∀ j, j < q → B'.getD j 0 = x.B.getD j 0) ∧ Upd (· = p) w ((wr.setCell ⟨p, 1820 + b, none⟩ (.bool true)).setCell ⟨p, o + k, none⟩ (.int .i64 (b : Int))) ∧ (∀ cc, 1 ≤ cc → cc < b → T' cc = true)) := by
            refine hid ⟨B'.set (q + k) (b : Int), updT T' b true, ?_, HB4.out, fun j hj => ?_, HU4.out, fun cc q1 q2 => ?_⟩
            · have e1 : (({ (S.bl i { x with B := B' } T') with T := updT T' b true } : Sg).at_ i ((({ (S.bl i { x with B := B' } T') with T := updT T' b true } : Sg).P i).blk (q + k) (b : Int))) = S.bl i { x with B := B'.set (q + k) (b : Int) } (updT T' b true) := by
                show ({ S with P := updN (updN S.P i { x with B := B' }) i (Nd.blk (updN S.P i { x with B := B' } i) (q + k) (b : Int)), T := updT T' b true } : Sg) = _
                rw [updN_same]
                unfold Sg.bl Nd.blk
                congr 1
                funext j
                by_cases e : j = i <;> simp [updN, e]
              rw [← e1]
              exact hS4
            · rw [getD_set_ne _ _ _ _ (by omega)]; exact HK.out.1 j hj
            · rw [updT_ne _ _ _ _ (by omega)]; exact HF.out cc q1 q2
          have ck : (0 : Int) ≤ (k : Int) := by omega
          have h7 := HS.out.B i hi (q + k) (by omega)
          rw [hadr] at h7
          have f7 := HS.out.fz (o + k)
          have n1 : ¬ 1820 + b = o + k := by have := HOO.out (by omega); omega
          have n2 : ¬ o + k = 1820 + b := by have := HOO.out (by omega); omega
          clear ht HF hS3 hS4 hP hok HB4 HU4 hadr HB HK HS
          go_wp2_with fail
          go_roundw
          case rel => exact ⟨b, k + 1, hb1, hb2, by omega, rfl, by go_num, HQ4⟩
          case measure => simp [intOf]; omega

end Go.Proofs.YtdnblbahecpmkaaGreat
