/- Texts of this seat, merged. -/
import Derived.Test.YtbglhmcahnkbfaaGreatHMg22
import Derived.Test.YtbglhmcahnkbfaaGreatHMg20
import Derived.BigQuiet
import Derived.Test.YtbglhmcahnkbfaaGreatHMg21

/- What take does to any system: the lowest free blocks. -/
namespace Go.Proofs.YtbglhmcahnkbfaaGreat
open Go.RowKit Go.ChangeMaps Go.MapKept
set_option linter.unusedVariables false
set_option maxRecDepth 20000

/-- The free blocks, rising; marks with some of them taken. -/
def frL (T : Nat → Bool) : List Nat := (List.range' 1 24).filter (fun b => !T b)
def mkT (T : Nat → Bool) (L : List Nat) : Nat → Bool := fun b => if b ∈ L then true else T b
theorem mem_frL {T : Nat → Bool} {b : Nat} : b ∈ frL T ↔ 1 ≤ b ∧ b < 25 ∧ T b = false := by
  unfold frL
  rw [List.mem_filter, List.mem_range'_1]
  cases T b <;> simp <;> omega
theorem frL_lt (T : Nat → Bool) : (frL T).Pairwise (· < ·) := List.Pairwise.sublist List.filter_sublist List.pairwise_lt_range'
theorem frL_get {T : Nat → Bool} {k : Nat} (hk : k < (frL T).length) : (frL T).getD k 0 ∈ frL T ∧ (frL T).getD k 0 ∉ (frL T).take k ∧ (∀ x ∈ frL T, x < (frL T).getD k 0 → x ∈ (frL T).take k) := by
  have hs := frL_lt T
  have e : (frL T).getD k 0 = (frL T)[k] := by rw [List.getD_eq_getElem?_getD, List.getElem?_eq_getElem hk]; rfl
  rw [e]
  have sp : frL T = (frL T).take k ++ (frL T)[k] :: (frL T).drop (k + 1) := by rw [List.getElem_cons_drop, List.take_append_drop]
  refine ⟨List.getElem_mem _, fun h => ?_, fun x hx hlt => ?_⟩
  · rw [sp] at hs
    have := (List.pairwise_append.1 hs).2.2 _ h _ (List.mem_cons_self)
    omega
  · rw [sp] at hx
    rcases List.mem_append.1 hx with h | h
    · exact h
    · rw [sp] at hs
      have := (List.pairwise_append.1 hs).2.1
      rcases List.mem_cons.1 h with h | h
      · omega
      · have := (List.pairwise_cons.1 this).1 x h
        omega
theorem frL_take {T : Nat → Bool} {k : Nat} (hk : k < (frL T).length) : (frL T).take (k + 1) = (frL T).take k ++ [(frL T).getD k 0] := by
  rw [List.take_succ_eq_append_getElem hk, List.getD_eq_getElem?_getD, List.getElem?_eq_getElem hk]
  rfl
/-- The lowest block that is not marked is the next free one. -/
theorem frL_next {T : Nat → Bool} {k b : Nat} (hk : k < (frL T).length) (h1 : 1 ≤ b) (h2 : b < 25) (hb : mkT T ((frL T).take k) b = false) (hc : ∀ c, 1 ≤ c → c < b → mkT T ((frL T).take k) c = true) : b = (frL T).getD k 0 := by
  obtain ⟨g1, g2, g3⟩ := frL_get hk
  obtain ⟨m1, m2, m3⟩ := mem_frL.1 g1
  have hb' : b ∉ (frL T).take k ∧ T b = false := by
    unfold mkT at hb
    split at hb
    · simp at hb
    · rename_i q; exact ⟨q, hb⟩
  rcases Nat.lt_trichotomy b ((frL T).getD k 0) with q | q | q
  · exact absurd (g3 b (mem_frL.2 ⟨h1, h2, hb'.2⟩) q) hb'.1
  · exact q
  · have := hc _ m1 q
    unfold mkT at this
    rw [if_neg g2, m3] at this
    simp at this
theorem mkT_succ {T : Nat → Bool} {k : Nat} (hk : k < (frL T).length) : updT (mkT T ((frL T).take k)) ((frL T).getD k 0) true = mkT T ((frL T).take (k + 1)) := by
  funext x
  rw [frL_take hk]
  by_cases e : x = (frL T).getD k 0
  · rw [e, updT_same]
    unfold mkT
    rw [if_pos (by simp)]
  · rw [updT_ne _ _ _ _ e]
    unfold mkT
    by_cases q : x ∈ (frL T).take k
    · rw [if_pos q, if_pos (List.mem_append.2 (.inl q))]
    · rw [if_neg q, if_neg (fun h => (List.mem_append.1 h).elim q (fun h => e (List.mem_singleton.1 h)))]

/-- What take has done behind k places. -/
structure Tkn (w wr : World) (p i : Nat) (S : Sg) (q k : Nat) (B' : List Int) : Prop where
  sy : Sy wr p (S.bl i { S.P i with B := B' } (mkT S.T ((frL S.T).take k)))
  new : ∀ j, j < k → B'.getD (q + j) 0 = (((frL S.T).getD j 0 : Nat) : Int)
  old : ∀ j, j < q ∨ q + k ≤ j → B'.getD j 0 = (S.P i).B.getD j 0
  upd : Upd (· = p) w wr

set_option maxHeartbeats 4000000 in
theorem take_gen (p : Nat) (S : Sg) (w : World) (H : Sy w p S) (i : Nat) (hi : i < 17) (q n c o : Nat) (ho : 0 < n → o = 1 + i * 107 + (100 + q)) (hq : q + n ≤ 6) (hn : n ≤ c) (hc : c ≤ 6) (hfr : n ≤ (frL S.T).length) :
    Calls Tryz.prog 137 #[.pointer (some ⟨p, 0, none⟩), .slice (some ⟨p, o, none⟩) n c] w fun e w' => e = .returned (.tuple #[]) ∧ ∃ B', Tkn w w' p i S q n B' := by
  have H0 : Hid (∃ B', Tkn w w p i S q 0 B') := by
    have e : S.bl i { S.P i with B := (S.P i).B } (mkT S.T ((frL S.T).take 0)) = S := by
      have : mkT S.T ((frL S.T).take 0) = S.T := by funext x; simp [mkT]
      rw [this]
      exact S.bl_self i
    exact hid ⟨(S.P i).B, by rw [e]; exact H, fun j hj => by omega, fun _ _ => rfl, Upd.refl _ _⟩
  have HOO := hid ho
  have HFR := hid hfr
  clear H ho hfr
  go_enter Tryz.func137, Tryz.ntmps137
  go_wp2_with fail
  go_loopw [4, 8] (fun v4 v8 wr => ∃ b k : Nat, 1 ≤ b ∧ b < 25 ∧ k ≤ n ∧ v4 = .int .i64 (b : Int) ∧ v8 = .int .i64 (k : Int) ∧ Hid ((∃ B', Tkn w wr p i S q k B') ∧ (∀ cc, 1 ≤ cc → cc < b → mkT S.T ((frL S.T).take k) cc = true))) (fun _ v8 _ => n - (intOf v8).toNat)
  case atStart => exact ⟨1, 0, by omega, by omega, by omega, rfl, rfl, hid ⟨H0.out, fun cc h1 h2 => by omega⟩⟩
  case round =>
    clear H0
    obtain ⟨b, k, hb1, hb2, hkn, rfl, rfl, HQ⟩ := hrel
    by_cases e : k = n
    · subst e
      go_wp2_with fail
      go_end0
      exact ⟨rfl, HQ.out.1⟩
    · have hk : k < n := by omega
      have hk2 : (k : Int) < (n : Int) := by omega
      obtain ⟨B', ht⟩ := HQ.out.1
      have HT := hid ht
      have HF := hid HQ.out.2
      have HKL : Hid (k < (frL S.T).length) := hid (by have := HFR.out; omega)
      clear HQ ht e
      go_wp2_with fail
      rename World => wo
      go_loopw [4] (fun v4 wr => ∃ b : Nat, 1 ≤ b ∧ b < 25 ∧ v4 = .int .i64 (b : Int) ∧ wr = wo ∧ Hid (∀ cc, 1 ≤ cc → cc < b → mkT S.T ((frL S.T).take k) cc = true)) (fun v4 _ => 25 - (intOf v4).toNat)
      case atStart => exact ⟨b, hb1, hb2, rfl, rfl, HF⟩
      case round =>
        clear HF hb1 hb2
        obtain ⟨b, hb1, hb2, rfl, rfl, HF⟩ := hrel
        have c0 : (0 : Int) ≤ (b : Int) := by omega
        have c1 : (b : Int) < 25 := by omega
        have hl := HT.out.sy.t b hb2
        change wr.cell? ⟨p, 1820 + b, none⟩ = some (.bool (mkT S.T ((frL S.T).take k) b)) at hl
        cases ht : mkT S.T ((frL S.T).take k) b with
        | true =>
          rw [ht] at hl
          have hb3 : b + 1 < 25 := by
            obtain ⟨g1, g2, g3⟩ := frL_get HKL.out
            obtain ⟨m1, m2, m3⟩ := mem_frL.1 g1
            rcases Nat.lt_or_ge (b + 1) 25 with h | h
            · exact h
            · have hx : mkT S.T ((frL S.T).take k) ((frL S.T).getD k 0) = true := by
                by_cases e : (frL S.T).getD k 0 = b
                · rw [e]; exact ht
                · exact HF.out _ m1 (by omega)
              unfold mkT at hx
              rw [if_neg g2, m3] at hx
              simp at hx
          have HF2 : Hid (∀ cc, 1 ≤ cc → cc < b + 1 → mkT S.T ((frL S.T).take k) cc = true) := hid (fun cc q1 q2 => by
            by_cases e : cc = b
            · subst e; exact ht
            · exact HF.out cc q1 (by omega))
          clear ht HF
          go_wp2_with fail
          go_roundw
          case rel => exact ⟨b + 1, by omega, hb3, by go_num, by first | rfl | trivial, HF2⟩
          case measure => simp [intOf]; omega
        | false =>
          rw [ht] at hl
          have hbe := frL_next HKL.out hb1 hb2 ht HF.out
          have f1 := HT.out.sy.fz (1820 + b)
          have hadr : 1 + i * 107 + (100 + (q + k)) = o + k := by have := HOO.out (by omega); omega
          have hS3 := HT.out.sy.mark b hb2 true
          have hb4 := hS3.B i hi (q + k) (by omega)
          rw [hadr] at hb4
          have f2 := hS3.fz (o + k)
          have hS4 := hS3.blkTo i hi (q + k) (by omega) (b : Int)
          rw [hadr] at hS4
          have HU4 : Hid (Upd (· = p) w ((wr.setCell ⟨p, 1820 + b, none⟩ (.bool true)).setCell ⟨p, o + k, none⟩ (.int .i64 (b : Int)))) := by
            have u1 : Upd (· = p) wr (wr.setCell ⟨p, 1820 + b, none⟩ (.bool true)) := Upd.setCell (F := (· = p)) wr ⟨p, _, none⟩ _ rfl
            have u2 : Upd (· = p) (wr.setCell ⟨p, 1820 + b, none⟩ (.bool true)) ((wr.setCell ⟨p, 1820 + b, none⟩ (.bool true)).setCell ⟨p, o + k, none⟩ (.int .i64 (b : Int))) := Upd.setCell (F := (· = p)) _ ⟨p, _, none⟩ _ rfl
            exact hid ((HT.out.upd.trans u1 (fun _ _ h => h)).trans u2 (fun _ _ h => h))
          have hBl : B'.length = 6 := by
            have := (HT.out.sy.ok i hi).B
            rw [show (S.bl i { S.P i with B := B' } (mkT S.T ((frL S.T).take k))).P i = { S.P i with B := B' } from updN_same _ _ _] at this
            exact this
          have HQ4 : Hid ((∃ B', Tkn w ((wr.setCell ⟨p, 1820 + b, none⟩ (.bool true)).setCell ⟨p, o + k, none⟩ (.int .i64 (b : Int))) p i S q (k + 1) B') ∧ (∀ cc, 1 ≤ cc → cc < b → mkT S.T ((frL S.T).take (k + 1)) cc = true)) := by
            refine hid ⟨⟨B'.set (q + k) (b : Int), ?_, fun j hj => ?_, fun j hj => ?_, HU4.out⟩, fun cc q1 q2 => ?_⟩
            · have e1 : (({ (S.bl i { S.P i with B := B' } (mkT S.T ((frL S.T).take k))) with T := updT (mkT S.T ((frL S.T).take k)) b true } : Sg).at_ i ((({ (S.bl i { S.P i with B := B' } (mkT S.T ((frL S.T).take k))) with T := updT (mkT S.T ((frL S.T).take k)) b true } : Sg).P i).blk (q + k) (b : Int))) = S.bl i { S.P i with B := B'.set (q + k) (b : Int) } (mkT S.T ((frL S.T).take (k + 1))) := by
                show ({ S with P := updN (updN S.P i { S.P i with B := B' }) i (Nd.blk (updN S.P i { S.P i with B := B' } i) (q + k) (b : Int)), T := updT (mkT S.T ((frL S.T).take k)) b true } : Sg) = _
                rw [updN_same, hbe, mkT_succ HKL.out]
                unfold Sg.bl Nd.blk
                congr 1
                funext j
                by_cases e : j = i <;> simp [updN, e]
              rw [← e1]
              exact hS4
            · by_cases e : j = k
              · subst e; rw [getD_set_same _ _ _ (by omega), hbe]
              · rw [getD_set_ne _ _ _ _ (by omega)]; exact HT.out.new j (by omega)
            · rw [getD_set_ne _ _ _ _ (by omega)]; exact HT.out.old j (by omega)
            · have := HF.out cc q1 q2
              rw [frL_take HKL.out]
              unfold mkT at this ⊢
              split
              · rfl
              · rename_i hh
                split at this
                · rename_i hx; exact absurd (List.mem_append.2 (.inl hx)) hh
                · exact this
          have ck : (0 : Int) ≤ (k : Int) := by omega
          have h7 := HT.out.sy.B i hi (q + k) (by omega)
          rw [hadr] at h7
          have f7 := HT.out.sy.fz (o + k)
          have n1 : ¬ 1820 + b = o + k := by have := HOO.out (by omega); omega
          have n2 : ¬ o + k = 1820 + b := by have := HOO.out (by omega); omega
          clear ht HF hS3 hS4 HU4 hadr HT hbe hBl
          go_wp2_with fail
          go_roundw
          case rel => exact ⟨b, k + 1, hb1, hb2, by omega, rfl, by go_num, HQ4⟩
          case measure => simp [intOf]; omega

end Go.Proofs.YtbglhmcahnkbfaaGreat

/- What node, file, Hold, Drop, settle and takeLink do to any system. -/
namespace Go.Proofs.YtbglhmcahnkbfaaGreat
open Go.RowKit Go.ChangeMaps Go.MapKept
set_option linter.unusedVariables false
set_option maxRecDepth 20000

set_option maxHeartbeats 1000000 in
theorem node_no (p : Nat) (S : Sg) (w : World) (H : Sy w p S) (n : Int) (h : n < 1 ∨ 16 < n ∨ (1 ≤ n ∧ n ≤ 16 ∧ (S.P n.toNat).k = 0)) :
    Calls Tryz.prog 89 #[.pointer (some ⟨p, 0, none⟩), .int .i64 n] w fun e w' => e = .returned (.tuple #[.pointer none, .int .i64 2]) ∧ w' = w := by
  have k0 := hid H.usable
  by_cases h1 : n < 1
  · clear H h
    go_enter Tryz.func89, Tryz.ntmps89
    go_wp2_with fail
    refine k0.out.mono ?_
    rintro e w1 ⟨rfl, rfl⟩
    clear k0
    go_wp2_with fail
    go_ret2
    exact ⟨rfl, rfl⟩
  by_cases h2 : 16 < n
  · clear H h
    go_enter Tryz.func89, Tryz.ntmps89
    go_wp2_with fail
    refine k0.out.mono ?_
    rintro e w1 ⟨rfl, rfl⟩
    clear k0
    go_wp2_with fail
    go_ret2
    exact ⟨rfl, rfl⟩
  obtain ⟨i, rfl⟩ : ∃ i : Nat, n = (i : Int) := ⟨n.toNat, by omega⟩
  have hk : (S.P i).k = 0 := by
    rcases h with h | h | h
    · omega
    · omega
    · exact h.2.2
  have hi : i < 17 := by omega
  have k1 := hid (isthere_any p (1 + i * 107) _ w (H.k i hi))
  rw [show decide ((S.P i).k ≠ 0) = false by simp [hk]] at k1
  have c3 : (0 : Int) ≤ (i : Int) := by omega
  have c4 : (i : Int) < 17 := by omega
  clear H h hk
  go_enter Tryz.func89, Tryz.ntmps89
  go_wp2_with fail
  refine k0.out.mono ?_
  rintro e w1 ⟨rfl, rfl⟩
  clear k0
  go_wp2_with fail
  refine k1.out.mono ?_
  rintro e w1 ⟨rfl, rfl⟩
  clear k1
  go_wp2_with fail
  go_ret2
  exact ⟨rfl, rfl⟩

theorem there_no {S : Sg} {F : Fs} (R : Rel S F) {n : Int} (h : F.there n = false) : n < 1 ∨ 16 < n ∨ (1 ≤ n ∧ n ≤ 16 ∧ (S.P n.toNat).k = 0) := by
  simp only [Fs.there, decide_eq_false_iff_not] at h
  by_cases h1 : n < 1
  · exact .inl h1
  by_cases h2 : 16 < n
  · exact .inr (.inl h2)
  refine .inr (.inr ⟨by omega, by omega, ?_⟩)
  rw [(R.P n.toNat (by omega)).k]
  exact Decidable.not_not.1 (fun q => h ⟨by omega, by omega, q⟩)
theorem there_yes {F : Fs} {n : Int} (h : F.there n = true) : ∃ i : Nat, n = (i : Int) ∧ 1 ≤ i ∧ i < 17 ∧ (F.P i).k ≠ 0 := by
  simp only [Fs.there, decide_eq_true_eq] at h
  exact ⟨n.toNat, by omega, by omega, by omega, h.2.2⟩

set_option maxHeartbeats 1000000 in
theorem file_no (p : Nat) (S : Sg) (F : Fs) (w : World) (H : Sy w p S) (R : Rel S F) (n : Int) (h : F.file n ≠ 0) :
    Calls Tryz.prog 111 #[.pointer (some ⟨p, 0, none⟩), .int .i64 n] w fun e w' => e = .returned (.tuple #[.pointer none, .int .i64 (F.file n)]) ∧ w' = w := by
  by_cases ht : F.there n = false
  · have e : F.file n = 2 := by unfold Fs.file; rw [if_pos ht]
    rw [e]
    have k0 := hid (node_no p S w H n (there_no R ht))
    clear H R h e ht
    go_enter Tryz.func111, Tryz.ntmps111
    go_wp2_with fail
    refine k0.out.mono ?_
    rintro e w1 ⟨rfl, rfl⟩
    clear k0
    go_wp2_with fail
    go_ret2
    exact ⟨rfl, rfl⟩
  · obtain ⟨i, rfl, h1, h2, hk⟩ := there_yes (by simpa using ht : F.there n = true)
    have h3 : (F.P i).k = 2 := by
      unfold Fs.file at h
      rw [if_neg ht] at h
      exact Decidable.not_not.1 (fun q => h (by rw [if_neg]; exact q))
    have e : F.file (i : Int) = 21 := by unfold Fs.file; rw [if_neg ht]; exact if_pos h3
    rw [e]
    have hkk : (S.P i).k = 2 := (R.P i h2).k.trans h3
    have k0 := hid (node_yes p S w H i h1 h2 (by omega))
    have k1 := hid (isdir_any p (1 + i * 107) _ w (H.k i h2))
    rw [show decide ((S.P i).k = 2) = true by simp [hkk]] at k1
    clear H R h e ht hk h3 hkk
    go_enter Tryz.func111, Tryz.ntmps111
    go_wp2_with fail
    refine k0.out.mono ?_
    rintro e w1 ⟨rfl, rfl⟩
    clear k0
    go_wp2_with fail
    refine k1.out.mono ?_
    rintro e w1 ⟨rfl, rfl⟩
    clear k1
    go_wp2_with fail
    go_ret2
    exact ⟨rfl, rfl⟩

set_option maxHeartbeats 1000000 in
theorem phold (p : Nat) (F : Fs) (G : Nat → Prop) (w : World) (H : Pf w p F G) (hF : FOk F) (n : Int) :
    Calls Tryz.prog 58 #[.pointer (some ⟨p, 0, none⟩), .int .i64 n] w fun e w' => e = .returned (.int .i64 (F.hold n).2) ∧ PfTo w p (F.hold n).1 G w' := by
  have HP := H
  obtain ⟨S, HS, R, hG⟩ := H
  by_cases ht : F.there n = false
  · have e : F.hold n = (F, 2) := by unfold Fs.hold; rw [if_pos ht]
    rw [e]
    have k0 := hid (node_no p S w HS n (there_no R ht))
    have HQ := hid (PfTo.same HP (Below.refl _ w))
    clear HS R hG HP e ht
    go_enter Tryz.func58, Tryz.ntmps58
    go_wp2_with fail
    refine k0.out.mono ?_
    rintro e w1 ⟨rfl, rfl⟩
    clear k0
    go_wp2_with fail
    go_ret
    exact ⟨rfl, HQ.out⟩
  obtain ⟨i, rfl, h1, h2, hk⟩ := there_yes (by simpa using ht : F.there n = true)
  have hh := hF.h i
  have eh := (R.P i h2).h
  have hkk : (S.P i).k ≠ 0 := by rw [(R.P i h2).k]; exact hk
  obtain ⟨m, hm⟩ : ∃ m : Nat, (F.P i).h = (m : Int) := ⟨(F.P i).h.toNat, by omega⟩
  by_cases h3 : 1000 ≤ (F.P i).h
  · have e : F.hold (i : Int) = (F, 11) := by unfold Fs.hold; rw [if_neg ht]; exact if_pos h3
    rw [e]
    have hm1 : m = 1000 := by omega
    have k0 := hid (node_yes p S w HS i h1 h2 hkk)
    have c := HS.h i h2
    rw [eh, hm, hm1] at c
    have HQ := hid (PfTo.same HP (Below.refl _ w))
    clear HS R hG HP e ht hk hh eh hkk hm h3
    go_enter Tryz.func58, Tryz.ntmps58
    go_wp2_with fail
    refine k0.out.mono ?_
    rintro e w1 ⟨rfl, rfl⟩
    clear k0
    go_wp2_with fail
    go_ret
    exact ⟨rfl, HQ.out⟩
  · have e : F.hold (i : Int) = (F.hld i ((F.P i).h + 1), 0) := by unfold Fs.hold; rw [if_neg ht]; exact if_neg h3
    rw [e]
    refine (hold_yes p S w HS i h1 h2 hkk m (eh.trans hm) (by omega)).mono ?_
    rintro e w' ⟨rfl, h4, u⟩
    refine ⟨rfl, PfTo.of hG h4 (by rw [hm]; exact R.hold i h2 ((m : Int) + 1)) (fun x hx => ?_) (u.mono (fun x _ hx => .inl hx))⟩
    · left
      rcases hx with hx | ⟨j, hj, hx⟩
      · exact .inl hx
      · refine .inr ⟨j, hj, ?_⟩
        rw [← hx]
        show _ = (updN S.P i _ j).m
        by_cases e : j = i
        · subst e; rw [updN_same]; rfl
        · rw [updN_ne _ _ _ _ e]

theorem foot_at {S : Sg} {p i : Nat} {x : Nd} (hm : x.m = (S.P i).m) (b : Nat) (h : (S.at_ i x).foot p b) : S.foot p b := by
  rcases h with h | ⟨j, hj, h⟩
  · exact .inl h
  · refine .inr ⟨j, hj, ?_⟩
    rw [← h]
    show _ = (updN S.P i x j).m
    by_cases e : j = i
    · subst e; rw [updN_same, hm]
    · rw [updN_ne _ _ _ _ e]
theorem foot_gone {S : Sg} {p i : Nat} {T : Nat → Bool} (b : Nat) (h : ((S.tk T).gone i).foot p b) : S.foot p b := by
  rcases h with h | ⟨j, hj, h⟩
  · exact .inl h
  · refine .inr ⟨j, hj, ?_⟩
    change (updN S.P i noNd j).m = some b at h
    by_cases e : j = i
    · subst e; rw [updN_same] at h; simp [noNd] at h
    · rw [updN_ne _ _ _ _ e] at h; exact h

/-- What a system becomes in its own blocks. -/
def Into (w : World) (p : Nat) (S : Sg) (F : Fs) (w' : World) : Prop := ∃ S', Sy w' p S' ∧ Rel S' F ∧ (∀ x, S'.foot p x → S.foot p x) ∧ Upd (S.foot p) w w'
theorem Into.to {w w' : World} {p : Nat} {S : Sg} {F : Fs} {G : Nat → Prop} (h : Into w p S F w') (h0 : ∀ x, S.foot p x → G x) : PfTo w p F G w' := by
  obtain ⟨S', h1, h2, h3, h4⟩ := h
  exact ⟨⟨S', h1, h2, fun x hx => .inl (h0 x (h3 x hx))⟩, h4.mono (fun x _ hx => h0 x hx)⟩
theorem Into.trans {w w1 w2 : World} {p : Nat} {S S1 : Sg} {F2 : Fs} (hf : ∀ x, S1.foot p x → S.foot p x) (u : Upd (S.foot p) w w1) (k : Into w1 p S1 F2 w2) : Into w p S F2 w2 := by
  obtain ⟨S2, k1, k2, k3, k4⟩ := k
  exact ⟨S2, k1, k2, fun x hx => hf x (k3 x hx), u.trans k4 (fun x _ hx => hf x hx)⟩
theorem upd_p {w w' : World} {p : Nat} {S : Sg} (u : Upd (· = p) w w') : Upd (S.foot p) w w' := u.mono (fun x _ hx => .inl hx)

theorem NdR.bs {x : Nd} {y : Fn} (h : NdR x y) (hB : y.B.length = Fs.need y.c.length) : y.B.length = need x.s ∧ ∀ j, j < need x.s → x.B.getD j 0 = ((y.B.getD j 0 : Nat) : Int) := by
  have e : y.B.length = need x.s := by rw [hB, h.s]; rfl
  exact ⟨e, fun j hj => h.B j (by omega)⟩

/-- A node that nothing keeps goes. -/
theorem psettle (p : Nat) (S : Sg) (F : Fs) (w : World) (H : Sy w p S) (R : Rel S F) (i : Nat) (hi : i < 17) (hi0 : i ≠ 0) (h1 : i = 1 → 0 < (F.P i).l) (hc : (F.P i).c.length ≤ 96) (hB : (F.P i).B.length = Fs.need (F.P i).c.length) (hT : ∀ b ∈ (F.P i).B, b < 25)
    (hQ : ¬ (0 < (F.P i).l ∨ 0 < (F.P i).h) → (F.P i).Q = []) :
    Calls Tryz.prog 211 #[.pointer (some ⟨p, 0, none⟩), .int .i64 (i : Int)] w fun e w' => e = .returned (.tuple #[]) ∧ Into w p S (F.gone i) w' := by
  have r := R.P i hi
  unfold Fs.gone
  by_cases hk : 0 < (F.P i).l ∨ 0 < (F.P i).h
  · rw [if_pos hk]
    refine (settle_keep p S w H i hi (by rw [r.l, r.h]; exact hk)).mono ?_
    rintro e w' ⟨rfl, rfl⟩
    exact ⟨rfl, S, H, R, fun _ h => h, Upd.refl _ _⟩
  · rw [if_neg hk]
    obtain ⟨b1, b2⟩ := r.bs hB
    refine (settle_gone p S w H i hi hi0 (fun e => hk (.inl (h1 e))) (by rw [r.l]; omega) (by rw [r.h]; omega) (by rw [r.s]; exact hc) (F.P i).B b1 b2 hT).mono ?_
    rintro e w' ⟨rfl, h, u⟩
    exact ⟨rfl, _, h, R.gone i (hQ hk) _, fun x hx => foot_gone x hx, upd_p u⟩

end Go.Proofs.YtbglhmcahnkbfaaGreat

/- What Unlink does to a file that is held. -/
namespace Go.Proofs.YtbglhmcahnkbfaaGreat
open Go.RowKit Go.ChangeMaps Go.MapKept
set_option linter.unusedVariables false
set_option maxRecDepth 20000

end Go.Proofs.YtbglhmcahnkbfaaGreat

/- What Unlink does to any system. -/
namespace Go.Proofs.YtbglhmcahnkbfaaGreat
open Go.RowKit Go.ChangeMaps Go.MapKept
set_option linter.unusedVariables false
set_option maxRecDepth 20000

end Go.Proofs.YtbglhmcahnkbfaaGreat

/- What grow does to any system. -/
namespace Go.Proofs.YtbglhmcahnkbfaaGreat
open Go.RowKit Go.ChangeMaps Go.MapKept
set_option linter.unusedVariables false
set_option maxRecDepth 20000

theorem range1_succ (n : Nat) : List.range' 1 (n + 1) = List.range' 1 n ++ [n + 1] := by
  rw [List.range'_concat]; simp; omega
theorem cnt_frL (T : Nat → Bool) (h0 : T 0 = false) : ∀ n, cnt T (n + 1) + ((List.range' 1 n).filter (fun b => !T b)).length = n
  | 0 => by simp [cnt, h0]
  | n + 1 => by
    have h := cnt_frL T h0 n
    have e : cnt T (n + 1 + 1) = cnt T (n + 1) + if T (n + 1) then 1 else 0 := rfl
    have e2 : ((List.range' 1 (n + 1)).filter (fun b => !T b)).length = ((List.range' 1 n).filter (fun b => !T b)).length + if T (n + 1) then 0 else 1 := by
      rw [range1_succ, List.filter_append, List.length_append]
      cases q : T (n + 1) <;> simp [q]
    rw [e, e2]
    cases q : T (n + 1)
    · rw [if_neg (by simp), if_neg (by simp)]; omega
    · rw [if_pos rfl, if_pos rfl]; omega
theorem free_len (T : Nat → Bool) (h0 : T 0 = false) : 24 - cnt T 25 = (frL T).length ∧ cnt T 25 ≤ 24 := by
  have := cnt_frL T h0 24
  rw [show 24 + 1 = 25 from rfl] at this
  unfold frL
  exact ⟨by omega, by omega⟩

set_option maxHeartbeats 4000000 in
theorem grow_gen (p : Nat) (S : Sg) (w : World) (H : Sy w p S) (hT0 : S.T 0 = false) (i : Nat) (hi : i < 17) (size : Nat) (hs : (S.P i).s < size) (hz : size ≤ 96) :
    Calls Tryz.prog 113 #[.pointer (some ⟨p, 0, none⟩), .pointer (some ⟨p, 1 + i * 107, none⟩), .int .i64 (size : Int)] w fun e w' =>
      (¬ need size - need (S.P i).s ≤ (frL S.T).length ∧ e = .returned (.int .i64 28) ∧ Below w.heap.size w w') ∨
      (need size - need (S.P i).s ≤ (frL S.T).length ∧ e = .returned (.int .i64 0) ∧ ∃ B', Sy w' p (S.bl i { S.P i with B := B', s := size } (mkT S.T ((frL S.T).take (need size - need (S.P i).s)))) ∧
        (∀ j, j < need size - need (S.P i).s → B'.getD (need (S.P i).s + j) 0 = (((frL S.T).getD j 0 : Nat) : Int)) ∧ (∀ j, j < need (S.P i).s → B'.getD j 0 = (S.P i).B.getD j 0) ∧ Upd (· = p) w w') := by
  have c3 := H.s i hi
  obtain ⟨q0, g0⟩ : ∃ q0, q0 = need (S.P i).s := ⟨_, rfl⟩
  obtain ⟨q1, g1⟩ : ∃ q1, q1 = need size := ⟨_, rfl⟩
  have h01 : q0 ≤ q1 := by rw [g0, g1]; exact need_mono (by omega)
  have h16 : q1 ≤ 6 := by rw [g1]; exact need_le hz
  rw [← g1, ← g0]
  obtain ⟨s0, gs⟩ : ∃ s0, s0 = (S.P i).s := ⟨_, rfl⟩
  rw [← gs] at c3 hs
  have K0 : Hid (∀ W, Calls Tryz.prog 135 #[.int .i64 (s0 : Int)] W fun e w' => e = .returned (.int .i64 (q0 : Int)) ∧ w' = W) := by
    refine hid (fun W => ?_)
    have := needed_any s0 (by omega) W
    rw [show (s0 + 15) / 16 = q0 by rw [g0, gs]; rfl] at this
    exact this
  have K1 : Hid (∀ W, Calls Tryz.prog 135 #[.int .i64 (size : Int)] W fun e w' => e = .returned (.int .i64 (q1 : Int)) ∧ w' = W) := by
    refine hid (fun W => ?_)
    have := needed_any size (by omega) W
    rw [show (size + 15) / 16 = q1 by rw [g1]; rfl] at this
    exact this
  have a1 : ¬ (size : Int) ≤ (s0 : Int) := by omega
  have a2 : (0 : Int) ≤ (q0 : Int) := by omega
  have a3 : (q0 : Int) ≤ (q1 : Int) := by omega
  have a4 : (q1 : Int) ≤ 6 := by omega
  have HH := hid H
  obtain ⟨L, gL⟩ : ∃ L, L = frL S.T := ⟨_, rfl⟩
  have hfl := free_len S.T hT0
  have HFL : Hid (24 - cnt S.T 25 = L.length ∧ cnt S.T 25 ≤ 24) := by rw [gL]; exact hid hfl
  rw [← gL]
  have GL := hid gL
  clear H g0 g1 gs gL hfl hT0
  go_enter Tryz.func113, Tryz.ntmps113
  go_wp2_with fail
  go_quiet ((go_at_call 135; first | refine Calls.quiet_of_same (K0.out _) | refine Calls.quiet_of_same (K1.out _)))
  obtain ⟨o, go⟩ : ∃ o, o = if 6 = q0 then 1 + i * 107 + 100 else 1 + i * 107 + 100 + q0 := ⟨_, rfl⟩
  have hA : (if 6 = q0 then (⟨p, 1 + i * 107 + 100, none⟩ : Addr) else ⟨p, 1 + i * 107 + 100 + q0, none⟩) = ⟨p, o, none⟩ := by
    rw [go]; split <;> rfl
  have ho : 0 < q1 - q0 → o = 1 + i * 107 + (100 + q0) := fun h => by
    rw [go, if_neg (by omega)]; omega
  rw [hA]
  have HO := hid ho
  clear hA go ho K0 K1
  obtain ⟨W1, g1⟩ : ∃ W1, W1 = w.drewN nq := ⟨_, rfl⟩
  rw [← g1]
  have hS1 : Sy W1 p S := HH.out.hp (by rw [g1]; rfl)
  have HU1 : Hid (Below w.heap.size w W1) := by rw [g1]; exact hid (((Upd.refl (fun _ => False) w).drewN nq).below (Nat.le_refl _) (fun x h => h.elim))
  have k1 := hid (free_any p S W1 hS1 HFL.out.2)
  rw [HFL.out.1] at k1
  have HS1 := hid hS1
  clear hS1 g1
  by_cases hfit : q1 - q0 ≤ L.length
  · have a5 : ¬ ((L.length : Nat) : Int) < ((q1 - q0 : Nat) : Int) := by omega
    have k2 : Hid (∀ W, Below W1.heap.size W1 W → Calls Tryz.prog 137 #[.pointer (some ⟨p, 0, none⟩), .slice (some ⟨p, o, none⟩) (q1 - q0) (6 - q0)] W fun e w' => e = .returned (.tuple #[]) ∧ Hid (∃ B', Tkn W w' p i S q0 (q1 - q0) B')) := by
      refine hid (fun W hW => ?_)
      refine (take_gen p S W (HS1.out.grow hW) i hi q0 (q1 - q0) (6 - q0) o HO.out (by omega) (by omega) (by omega) (by rw [← GL.out]; exact hfit)).mono ?_
      rintro e w' ⟨rfl, h⟩
      exact ⟨rfl, hid h⟩
    go_wp2_with fail
    refine k1.out.mono ?_
    rintro e w2 ⟨rfl, hb2⟩
    have k3 := hid (k2.out w2 hb2)
    have HB2 := hid (HU1.out.trans (hb2.mono HU1.out.size))
    clear k1 k2 hb2
    go_wp2_with fail
    refine k3.out.mono ?_
    rintro e w3 ⟨rfl, H3⟩
    clear k3
    obtain ⟨B', ht⟩ := H3.out
    have h1 := ht.sy
    rw [← GL.out] at h1
    have c4 := h1.s i hi
    have f4 := h1.fz (1 + i * 107 + 3)
    have hP3 : (S.bl i { S.P i with B := B' } (mkT S.T (L.take (q1 - q0)))).P i = { S.P i with B := B' } := updN_same _ _ _
    rw [hP3] at c4
    have h5 := h1.sizeTo i hi size
    rw [hP3] at h5
    have e5 : (S.bl i { S.P i with B := B' } (mkT S.T (L.take (q1 - q0)))).at_ i (Nd.size { S.P i with B := B' } size) = S.bl i { S.P i with B := B', s := size } (mkT S.T (L.take (q1 - q0))) := by
      unfold Sg.bl Sg.at_ Nd.size
      congr 1
      funext j
      by_cases e : j = i <;> simp [updN, e]
    rw [e5] at h5
    have H5 : Hid (∃ B', Sy (w3.setCell ⟨p, 1 + i * 107 + 3, none⟩ (.int .i64 (size : Int))) p (S.bl i { S.P i with B := B', s := size } (mkT S.T (L.take (q1 - q0)))) ∧
        (∀ j, j < q1 - q0 → B'.getD (q0 + j) 0 = ((L.getD j 0 : Nat) : Int)) ∧ (∀ j, j < q0 → B'.getD j 0 = (S.P i).B.getD j 0) ∧ Upd (· = p) w (w3.setCell ⟨p, 1 + i * 107 + 3, none⟩ (.int .i64 (size : Int)))) :=
      hid ⟨B', h5, by rw [GL.out]; exact ht.new, fun j hj => ht.old j (.inl hj), ((Upd.of_below HB2.out).trans ht.upd (fun _ _ h => h)).trans (Upd.setCell (F := (· = p)) w3 ⟨p, _, none⟩ _ rfl) (fun _ _ h => h)⟩
    have c5 : w3.cell? ⟨p, 1 + i * 107 + 3, none⟩ = some (.int .i64 ((S.P i).s : Int)) := c4
    clear h1 c4 h5 e5 hP3 H3 ht
    go_wp2_with fail
    go_ret
    exact .inr ⟨hfit, rfl, H5.out⟩
  · have a5 : ((L.length : Nat) : Int) < ((q1 - q0 : Nat) : Int) := by omega
    go_wp2_with fail
    refine k1.out.mono ?_
    rintro e w2 ⟨rfl, hb2⟩
    have HB2 := hid (HU1.out.trans (hb2.mono HU1.out.size))
    clear k1 hb2
    go_wp2_with fail
    go_ret
    exact .inl ⟨hfit, rfl, HB2.out⟩

end Go.Proofs.YtbglhmcahnkbfaaGreat

/- What grow and Write do to any system. -/
namespace Go.Proofs.YtbglhmcahnkbfaaGreat
open Go.RowKit Go.ChangeMaps Go.MapKept
set_option linter.unusedVariables false
set_option maxRecDepth 20000

theorem frees_frL (F : Fs) : F.frees = frL F.T := rfl
theorem take_getD {l : List Int} {n : Nat} {r : List Int} (h : l.take n = r) (hn : n ≤ l.length) (j : Nat) (hj : j < n) : l.getD j 0 = r.getD j 0 := by
  rw [← h, getD_take _ _ _ hj]
theorem getD_append_nat (a b : List Nat) (j : Nat) : (a ++ b).getD j 0 = if j < a.length then a.getD j 0 else b.getD (j - a.length) 0 := by
  rw [List.getD_eq_getElem?_getD, List.getElem?_append]
  split
  · rw [List.getD_eq_getElem?_getD]
  · rw [List.getD_eq_getElem?_getD]
theorem getD_take_nat (a : List Nat) (n j : Nat) (h : j < n) : (a.take n).getD j 0 = a.getD j 0 := by
  rw [List.getD_eq_getElem?_getD, List.getD_eq_getElem?_getD, List.getElem?_take_of_lt h]

/-- A file that grew, with other bytes. -/
theorem Rel.grown {S : Sg} {F : Fs} (R : Rel S F) (H : FOk F) (i : Nat) (hi : i < 17) (s : Nat) (hl : (F.P i).c.length ≤ s) (B' b' : List Int) (c' : List Int) (hb : b'.take s = c') (hz : ∀ j, s ≤ j → b'.getD j 0 = 0) (hc : c'.length = s)
    (hfit : F.fits i s = true)
    (h1 : ∀ j, j < need s - need (S.P i).s → B'.getD (need (S.P i).s + j) 0 = (((frL S.T).getD j 0 : Nat) : Int)) (h2 : ∀ j, j < need (S.P i).s → B'.getD j 0 = (S.P i).B.getD j 0) :
    Rel (S.bl i { S.P i with B := B', s := s, b := b' } (mkT S.T ((frL S.T).take (need s - need (S.P i).s)))) ((F.grow i s).ct i c') := by
  rw [grow_ct]
  have r := R.P i hi
  have hB := H.B i
  have hs : (S.P i).s = (F.P i).c.length := r.s
  have hn : (F.P i).B.length = need (S.P i).s := by rw [hB, hs]; rfl
  have e1 : Fs.need s - (F.P i).B.length = need s - need (S.P i).s := by rw [hn]; rfl
  have hT : S.T = F.T := R.T
  rw [e1, frees_frL, ← hT]
  have hle : need s - need (S.P i).s ≤ (frL S.T).length := by
    simp only [Fs.fits, decide_eq_true_eq] at hfit
    rw [e1, frees_frL, ← hT] at hfit
    exact hfit
  refine ⟨R.d, rfl, fun j hj => ?_, fun j hj => ?_, fun j hj x => ?_⟩
  · show NdR (updN S.P i _ j) ((F.with_ i _ _ _).P j)
    rw [Fs.with_P]
    by_cases e : j = i
    · subst e
      rw [updN_same, if_pos rfl]
      refine ⟨r.k, r.l, r.h, hc.symm, hb, hz, fun k hk => ?_⟩
      dsimp only at hk ⊢
      rw [getD_append_nat]
      rw [List.length_append, List.length_take, hn] at hk
      rw [hn]
      split
      · rename_i q
        rw [h2 k q]; exact r.B k (by omega)
      · rename_i q
        obtain ⟨k', rfl⟩ : ∃ k', k = need (S.P j).s + k' := ⟨k - need (S.P j).s, by omega⟩
        rw [Nat.add_sub_cancel_left, getD_take_nat _ _ _ (by omega)]
        exact h1 k' (by omega)
    · rw [updN_ne _ _ _ _ e, if_neg e]
      exact R.P j hj
  · have eQ : ((F.with_ i c' ((F.P i).B ++ (frL S.T).take (need s - need (S.P i).s)) (fun b => if b ∈ (frL S.T).take (need s - need (S.P i).s) then true else S.T b)).P j).Q = (F.P j).Q := by
      rw [Fs.with_P]
      split
      · rename_i e; rw [e]
      · rfl
    rw [eQ]; exact R.L j hj
  · have eQ : ((F.with_ i c' ((F.P i).B ++ (frL S.T).take (need s - need (S.P i).s)) (fun b => if b ∈ (frL S.T).take (need s - need (S.P i).s) then true else S.T b)).P j).Q = (F.P j).Q := by
      rw [Fs.with_P]
      split
      · rename_i e; rw [e]
      · rfl
    rw [eQ]; exact R.N j hj x

/-- What grow leaves. -/
def Grw (w : World) (p i : Nat) (S : Sg) (s : Nat) (w' : World) : Prop := ∃ B', Sy w' p (S.bl i { S.P i with B := B', s := s } (mkT S.T ((frL S.T).take (need s - need (S.P i).s)))) ∧
  (∀ j, j < need s - need (S.P i).s → B'.getD (need (S.P i).s + j) 0 = (((frL S.T).getD j 0 : Nat) : Int)) ∧ (∀ j, j < need (S.P i).s → B'.getD j 0 = (S.P i).B.getD j 0) ∧ Upd (· = p) w w'
theorem grow_all (p : Nat) (S : Sg) (w : World) (H : Sy w p S) (hT0 : S.T 0 = false) (i : Nat) (hi : i < 17) (size : Nat) (hz : size ≤ 96) :
    Calls Tryz.prog 113 #[.pointer (some ⟨p, 0, none⟩), .pointer (some ⟨p, 1 + i * 107, none⟩), .int .i64 (size : Int)] w fun e w' =>
      (¬ need (max (S.P i).s size) - need (S.P i).s ≤ (frL S.T).length ∧ e = .returned (.int .i64 28) ∧ Below w.heap.size w w') ∨
      (need (max (S.P i).s size) - need (S.P i).s ≤ (frL S.T).length ∧ e = .returned (.int .i64 0) ∧ Grw w p i S (max (S.P i).s size) w') := by
  by_cases h : (S.P i).s < size
  · rw [Nat.max_eq_right (Nat.le_of_lt h)]
    exact grow_gen p S w H hT0 i hi size h hz
  · rw [Nat.max_eq_left (by omega), Nat.sub_self]
    have e := S.bl_self i
    refine (grow_same p S w i hi (S.P i) S.T (by rw [e]; exact H) size (by omega)).mono ?_
    rintro e' w' ⟨rfl, rfl⟩
    refine .inr ⟨Nat.zero_le _, rfl, (S.P i).B, ?_, fun j hj => by omega, fun _ _ => rfl, Upd.refl _ _⟩
    have : mkT S.T ((frL S.T).take (need (S.P i).s - need (S.P i).s)) = S.T := by funext x; simp [mkT]
    rw [this]
    rw [show (S.bl i { S.P i with B := (S.P i).B, s := (S.P i).s } S.T) = S from e]
    exact H

end Go.Proofs.YtbglhmcahnkbfaaGreat

/- What Write does to any system. -/
namespace Go.Proofs.YtbglhmcahnkbfaaGreat
open Go.RowKit Go.ChangeMaps Go.MapKept
set_option linter.unusedVariables false
set_option maxRecDepth 20000

end Go.Proofs.YtbglhmcahnkbfaaGreat

/- What Write does to any system, its errors too. -/
namespace Go.Proofs.YtbglhmcahnkbfaaGreat
open Go.RowKit Go.ChangeMaps Go.MapKept
set_option linter.unusedVariables false
set_option maxRecDepth 20000

theorem fits_rel {S : Sg} {F : Fs} (R : Rel S F) (H : FOk F) (i : Nat) (hi : i < 17) (s : Nat) : F.fits i s = decide (need s - need (S.P i).s ≤ (frL S.T).length) := by
  unfold Fs.fits
  rw [H.B i, frees_frL, ← R.T, (R.P i hi).s]
  rfl

theorem foot_bl {S : Sg} {p i : Nat} {x : Nd} {T : Nat → Bool} (hm : x.m = (S.P i).m) (b : Nat) (h : (S.bl i x T).foot p b) : S.foot p b := by
  rcases h with h | ⟨j, hj, h⟩
  · exact .inl h
  · refine .inr ⟨j, hj, ?_⟩
    rw [← h]
    show _ = (updN S.P i x j).m
    by_cases e : j = i
    · subst e; rw [updN_same, hm]
    · rw [updN_ne _ _ _ _ e]

end Go.Proofs.YtbglhmcahnkbfaaGreat

/- What cut and Resize do to any system. -/
namespace Go.Proofs.YtbglhmcahnkbfaaGreat
open Go.RowKit Go.ChangeMaps Go.MapKept
set_option linter.unusedVariables false
set_option maxRecDepth 20000

set_option maxHeartbeats 4000000 in
theorem cut_gen (p : Nat) (S : Sg) (w : World) (H : Sy w p S) (i : Nat) (hi : i < 17) (hs : (S.P i).s ≤ 96) (size : Nat) (hz : size < (S.P i).s) (bs : List Nat) (hbl : bs.length = need (S.P i).s - need size)
    (hbb : ∀ j, j < need (S.P i).s - need size → (S.P i).B.getD (need size + j) 0 = ((bs.getD j 0 : Nat) : Int)) (hbt : ∀ b ∈ bs, b < 25) :
    Calls Tryz.prog 112 #[.pointer (some ⟨p, 0, none⟩), .pointer (some ⟨p, 1 + i * 107, none⟩), .int .i64 (size : Int)] w fun e w' => e = .returned (.tuple #[]) ∧ Sy w' p (S.bl i { S.P i with s := size, b := splice (S.P i).b size (List.replicate (96 - size) 0) } (relT S.d bs S.T)) ∧ Upd (· = p) w w' := by
  obtain ⟨x, gx⟩ : ∃ x, x = S.P i := ⟨_, rfl⟩
  obtain ⟨TR, gT⟩ : ∃ TR, TR = relT S.d bs S.T := ⟨_, rfl⟩
  have hrel := fun W (hW : Sy W p S) => release_gen p S W hW i hi (need size)
  rw [← gT, ← gx]
  have etk : S.tk TR = S.bl i x TR := by
    have := (S.tk TR).bl_self i
    rw [gx]
    exact this.symm
  rw [← gx] at hs hz hbl hbb
  have c3 := H.s i hi
  rw [← gx] at c3
  obtain ⟨q0, g0⟩ : ∃ q0, q0 = need size := ⟨_, rfl⟩
  obtain ⟨q1, g1⟩ : ∃ q1, q1 = need x.s := ⟨_, rfl⟩
  have h01 : q0 ≤ q1 := by rw [g0, g1]; exact need_mono (by omega)
  have h16 : q1 ≤ 6 := by rw [g1]; exact need_le hs
  rw [← g1] at hbl hbb
  rw [← g0] at hbl hbb hrel
  obtain ⟨s0, gs⟩ : ∃ s0, s0 = x.s := ⟨_, rfl⟩
  rw [← gs] at c3 hs hz
  have K0 : Hid (∀ W, Calls Tryz.prog 135 #[.int .i64 (size : Int)] W fun e w' => e = .returned (.int .i64 (q0 : Int)) ∧ w' = W) := by
    refine hid (fun W => ?_)
    have := needed_any size (by omega) W
    rw [show (size + 15) / 16 = q0 by rw [g0]; rfl] at this
    exact this
  have K1 : Hid (∀ W, Calls Tryz.prog 135 #[.int .i64 (s0 : Int)] W fun e w' => e = .returned (.int .i64 (q1 : Int)) ∧ w' = W) := by
    refine hid (fun W => ?_)
    have := needed_any s0 (by omega) W
    rw [show (s0 + 15) / 16 = q1 by rw [g1, gs]; rfl] at this
    exact this
  have K2 : Hid (Calls Tryz.prog 134 #[.pointer (some ⟨p, 0, none⟩), .slice (some (if 6 = q0 then ⟨p, 1 + i * 107 + 100, none⟩ else ⟨p, 1 + i * 107 + 100 + q0, none⟩)) (q1 - q0) (6 - q0)] w.drew fun e w' => e = .returned (.tuple #[]) ∧ Hid (Sy w' p (S.bl i x TR) ∧ Upd (· = p) w w')) := by
    obtain ⟨o, go⟩ : ∃ o, o = if 6 = q0 then 1 + i * 107 + 100 else 1 + i * 107 + 100 + q0 := ⟨_, rfl⟩
    have hA : (if 6 = q0 then (⟨p, 1 + i * 107 + 100, none⟩ : Addr) else ⟨p, 1 + i * 107 + 100 + q0, none⟩) = ⟨p, o, none⟩ := by
      rw [go]; split <;> rfl
    have ho : 0 < q1 - q0 → o = 1 + i * 107 + (100 + q0) := fun h => by
      rw [go, if_neg (by omega)]; omega
    rw [hA]
    have k := hrel w.drew (H.hp rfl) (q1 - q0) (6 - q0) o ho (by omega) (by omega) (by omega) bs hbl (by rw [← gx]; exact hbb) hbt
    rw [← gT, etk] at k
    refine hid (k.mono ?_)
    rintro e w' ⟨rfl, h1, u⟩
    exact ⟨rfl, hid ⟨h1, ((Upd.refl (· = p) w).drewN 1).trans u (fun _ _ h => h)⟩⟩
  have a2 : (0 : Int) ≤ (q0 : Int) := by omega
  have a3 : (q0 : Int) ≤ (q1 : Int) := by omega
  have a4 : (q1 : Int) ≤ 6 := by omega
  have a5 : (0 : Int) ≤ (size : Int) := by omega
  have a6 : (size : Int) ≤ 96 := by omega
  have GS := hid gs
  have HS0 := hid (And.intro hs hz)
  clear H g0 g1 gs hs hz hrel hbl hbb hbt etk gT
  have KC : Hid (∀ W, Sy W p (S.bl i x TR) → W.cell? ⟨p, 1 + i * 107 + 3, none⟩ = some (.int .i64 (s0 : Int))) := by
    refine hid (fun W h => ?_)
    have := h.s i hi
    rw [show (S.bl i x TR).P i = x from updN_same _ _ _] at this
    rw [GS.out]
    exact this
  by_cases e6 : 6 = q0
  · rw [if_pos e6] at K2
    subst e6
    obtain rfl : q1 = 6 := by omega
    have K0 : Hid (∀ W, Calls Tryz.prog 135 #[.int .i64 (size : Int)] W fun e w' => e = .returned (.int .i64 6) ∧ w' = W) := K0
    have K1 : Hid (∀ W, Calls Tryz.prog 135 #[.int .i64 (s0 : Int)] W fun e w' => e = .returned (.int .i64 6) ∧ w' = W) := K1
    rw [Nat.sub_self] at K2
    go_enter Tryz.func112, Tryz.ntmps112
    go_wp2_with fail
    go_region_held3 (fun W => W.cell? ⟨p, 1 + i * 107 + 3, none⟩ = some (.int .i64 (s0 : Int))) (go_keep) (first | (go_at_call 135; first | (refine (K0.out _).mono ?_; rintro e w' ⟨rfl, rfl⟩) | (refine (K1.out _).mono ?_; rintro e w' ⟨rfl, rfl⟩)) | (go_at_call 134; refine K2.out.mono ?_; rintro e w2 ⟨rfl, H2⟩; have c4 := KC.out w2 H2.out.1))
    obtain ⟨h1, u2⟩ := H2.out
    obtain ⟨C, hC, hSl⟩ := h1.blk
    have hP2 : (S.bl i x TR).P i = x := updN_same _ _ _
    have hcl : ∀ j, j < 96 - size → (w2.cell? ⟨p, 1 + i * 107 + 4 + size + j, none⟩).isSome = true := fun j hj => by
      have := h1.b i hi (size + j) (by omega)
      rw [show 1 + i * 107 + (4 + (size + j)) = 1 + i * 107 + 4 + size + j by omega] at this
      rw [this]
      rfl
    have hclr := fun ty => Lib.run_clear_slice (P := Tryz.prog) w2 104 5 ty (.int .u8 0) Tryz.underlying104 Tryz.zeroValue5 rfl rfl p (1 + i * 107 + 4 + size) (96 - size) (96 - size) (by have := HS0.out; omega) hcl (fun j _ => h1.fz _)
    obtain ⟨W3, g3⟩ : ∃ W3, W3 = w2.setCells p (1 + i * 107 + 4 + size) (List.replicate (96 - size) (.int .u8 0)) := ⟨_, rfl⟩
    rw [← g3] at hclr
    have u3 : Upd (· = p) w2 W3 := by rw [g3]; exact upd_setCells _ _ _ _
    have hS3 : Sy W3 p _ := h1.over i hi C hC hSl size (List.replicate (96 - size) 0) (by have := HS0.out; simp; omega) (by
      rw [g3, show 1 + i * 107 + (4 + size) = 1 + i * 107 + 4 + size by omega, List.map_replicate]
      exact heap_setCells p 150 _ _ w2 C hC (by rw [hSl.len]; have := HS0.out; simp; omega)) u3
    have e3 : (S.bl i x TR).at_ i (((S.bl i x TR).P i).over size (List.replicate (96 - size) 0)) = S.bl i { x with b := splice x.b size (List.replicate (96 - size) 0) } TR := by
      rw [hP2]
      unfold Sg.bl Sg.at_ Nd.over
      congr 1
      funext j
      by_cases e : j = i <;> simp [updN, e]
    rw [e3] at hS3
    have hS4 := hS3.sizeTo i hi size
    have e4 : (S.bl i { x with b := splice x.b size (List.replicate (96 - size) 0) } TR).at_ i (Nd.size ((S.bl i { x with b := splice x.b size (List.replicate (96 - size) 0) } TR).P i) size) = S.bl i { x with s := size, b := splice x.b size (List.replicate (96 - size) 0) } TR := by
      rw [show (S.bl i { x with b := splice x.b size (List.replicate (96 - size) 0) } TR).P i = { x with b := splice x.b size (List.replicate (96 - size) 0) } from updN_same _ _ _]
      unfold Sg.bl Sg.at_ Nd.size
      congr 1
      funext j
      by_cases e : j = i <;> simp [updN, e]
    rw [e4] at hS4
    have c5 := hS3.s i hi
    have f5 := hS3.fz (1 + i * 107 + 3)
    have HQ : Hid (Sy (W3.setCell ⟨p, 1 + i * 107 + 3, none⟩ (.int .i64 (size : Int))) p (S.bl i { x with s := size, b := splice x.b size (List.replicate (96 - size) 0) } TR) ∧ Upd (· = p) w (W3.setCell ⟨p, 1 + i * 107 + 3, none⟩ (.int .i64 (size : Int)))) :=
      hid ⟨hS4, (u2.trans u3 (fun _ _ h => h)).trans (Upd.setCell (F := (· = p)) W3 ⟨p, _, none⟩ _ rfl) (fun _ _ h => h)⟩
    have n96 : ¬ 96 = size := by have := HS0.out; omega
    have n0 : ¬ 96 - size = 0 := by have := HS0.out; omega
    clear h1 u2 hC hSl hP2 hcl u3 hS3 e3 hS4 e4 g3 H2 c4
    go_wp2_with fail
    go_end0
    exact ⟨rfl, HQ.out.1, HQ.out.2⟩
  · rw [if_neg e6] at K2
    go_enter Tryz.func112, Tryz.ntmps112
    go_wp2_with fail
    go_region_held3 (fun W => W.cell? ⟨p, 1 + i * 107 + 3, none⟩ = some (.int .i64 (s0 : Int))) (go_keep) (first | (go_at_call 135; first | (refine (K0.out _).mono ?_; rintro e w' ⟨rfl, rfl⟩) | (refine (K1.out _).mono ?_; rintro e w' ⟨rfl, rfl⟩)) | (go_at_call 134; refine K2.out.mono ?_; rintro e w2 ⟨rfl, H2⟩; have c4 := KC.out w2 H2.out.1))
    obtain ⟨h1, u2⟩ := H2.out
    obtain ⟨C, hC, hSl⟩ := h1.blk
    have hP2 : (S.bl i x TR).P i = x := updN_same _ _ _
    have hcl : ∀ j, j < 96 - size → (w2.cell? ⟨p, 1 + i * 107 + 4 + size + j, none⟩).isSome = true := fun j hj => by
      have := h1.b i hi (size + j) (by omega)
      rw [show 1 + i * 107 + (4 + (size + j)) = 1 + i * 107 + 4 + size + j by omega] at this
      rw [this]
      rfl
    have hclr := fun ty => Lib.run_clear_slice (P := Tryz.prog) w2 104 5 ty (.int .u8 0) Tryz.underlying104 Tryz.zeroValue5 rfl rfl p (1 + i * 107 + 4 + size) (96 - size) (96 - size) (by have := HS0.out; omega) hcl (fun j _ => h1.fz _)
    obtain ⟨W3, g3⟩ : ∃ W3, W3 = w2.setCells p (1 + i * 107 + 4 + size) (List.replicate (96 - size) (.int .u8 0)) := ⟨_, rfl⟩
    rw [← g3] at hclr
    have u3 : Upd (· = p) w2 W3 := by rw [g3]; exact upd_setCells _ _ _ _
    have hS3 : Sy W3 p _ := h1.over i hi C hC hSl size (List.replicate (96 - size) 0) (by have := HS0.out; simp; omega) (by
      rw [g3, show 1 + i * 107 + (4 + size) = 1 + i * 107 + 4 + size by omega, List.map_replicate]
      exact heap_setCells p 150 _ _ w2 C hC (by rw [hSl.len]; have := HS0.out; simp; omega)) u3
    have e3 : (S.bl i x TR).at_ i (((S.bl i x TR).P i).over size (List.replicate (96 - size) 0)) = S.bl i { x with b := splice x.b size (List.replicate (96 - size) 0) } TR := by
      rw [hP2]
      unfold Sg.bl Sg.at_ Nd.over
      congr 1
      funext j
      by_cases e : j = i <;> simp [updN, e]
    rw [e3] at hS3
    have hS4 := hS3.sizeTo i hi size
    have e4 : (S.bl i { x with b := splice x.b size (List.replicate (96 - size) 0) } TR).at_ i (Nd.size ((S.bl i { x with b := splice x.b size (List.replicate (96 - size) 0) } TR).P i) size) = S.bl i { x with s := size, b := splice x.b size (List.replicate (96 - size) 0) } TR := by
      rw [show (S.bl i { x with b := splice x.b size (List.replicate (96 - size) 0) } TR).P i = { x with b := splice x.b size (List.replicate (96 - size) 0) } from updN_same _ _ _]
      unfold Sg.bl Sg.at_ Nd.size
      congr 1
      funext j
      by_cases e : j = i <;> simp [updN, e]
    rw [e4] at hS4
    have c5 := hS3.s i hi
    have f5 := hS3.fz (1 + i * 107 + 3)
    have HQ : Hid (Sy (W3.setCell ⟨p, 1 + i * 107 + 3, none⟩ (.int .i64 (size : Int))) p (S.bl i { x with s := size, b := splice x.b size (List.replicate (96 - size) 0) } TR) ∧ Upd (· = p) w (W3.setCell ⟨p, 1 + i * 107 + 3, none⟩ (.int .i64 (size : Int)))) :=
      hid ⟨hS4, (u2.trans u3 (fun _ _ h => h)).trans (Upd.setCell (F := (· = p)) W3 ⟨p, _, none⟩ _ rfl) (fun _ _ h => h)⟩
    have n96 : ¬ 96 = size := by have := HS0.out; omega
    have n0 : ¬ 96 - size = 0 := by have := HS0.out; omega
    clear h1 u2 hC hSl hP2 hcl u3 hS3 e3 hS4 e4 g3 H2 c4
    go_wp2_with fail
    go_end0
    exact ⟨rfl, HQ.out.1, HQ.out.2⟩

end Go.Proofs.YtbglhmcahnkbfaaGreat
