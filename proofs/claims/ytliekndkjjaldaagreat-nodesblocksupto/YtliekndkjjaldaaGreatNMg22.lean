/- Texts of this seat, merged. -/
import Derived.Test.YtliekndkjjaldaaGreatNMg21
import Derived.Test.YtliekndkjjaldaaGreatNMg6
import Derived.Test.YtliekndkjjaldaaGreatNMg19
import Derived.BigQuiet

/- What Look of the program's system tells. -/
namespace Go.Proofs.YtliekndkjjaldaaGreat
open Go.RowKit Go.ChangeMaps Go.MapKept
set_option linter.unusedVariables false
set_option maxRecDepth 20000

set_option maxHeartbeats 4000000 in
theorem plooks_any (p : Nat) (F : Fs) (G : Nat → Prop) (w : World) (H : Pf w p F G) (hF : FOk F) :
    Calls Tryz.prog 11 #[.pointer (some ⟨p, 0, none⟩)] w (LooksP w F) := by
  obtain ⟨S, HS, R, _⟩ := H
  obtain ⟨i0, hi0, hz0, hz1, hz2⟩ := info_parts infoNd
  obtain ⟨PP, gPP⟩ : ∃ PP, PP = LooksP w F := ⟨_, rfl⟩
  have GPP := hid gPP
  rw [← gPP]
  have k1 := hid HS.usable
  have HSW : Hid (∀ W, Below w.heap.size w W → Sy W p S) := hid (fun W hb => HS.grow hb)
  have hp : p < w.heap.size := HS.lt
  have HF := hid hF
  have HR := hid R
  clear HS R hF gPP
  go_enter Tryz.func11, Tryz.ntmps11
  go_wp2_with fail
  refine k1.out.mono ?_
  rintro e w1 ⟨rfl, rfl⟩
  clear k1
  go_wp2_with fail
  rename World => w
  go_loopw [3, 8] (fun v3 v8 wr => ∃ (j n : Nat) (a' : Option Addr) (c' : Nat) (cs : List Value), j ≤ 17 ∧ n ≤ j ∧ v8 = .int .i64 (j : Int) ∧ v3 = .slice a' n c' ∧ Hid ((thr F j).length = n) ∧ Hid (wr.ownsRow 0 44 8 (.slice a' n c') n cs) ∧ Hid (∀ b, (Value.slice a' n c').ownBlock = some b → w.heap.size ≤ b) ∧ Hid (LkL wr (fun b => w.heap.size ≤ b ∧ (Value.slice a' n c').ownBlock ≠ some b) F (thr F j) cs) ∧ Hid (Below w.heap.size w wr)) (fun _ v8 _ => 17 - (intOf v8).toNat)
  case atStart => exact ⟨0, 0, none, 0, [], Nat.zero_le _, Nat.le_refl _, rfl, rfl, hid rfl, hid (World.ownsRow_nil _ _ _ _), hid (fun b hb => by simp [Value.ownBlock] at hb), hid rfl, hid (Below.refl _ _)⟩
  case round =>
    obtain ⟨j, n, a', c', cs, hj, hn, rfl, rfl, HK, HO, HNW, HLK, HB⟩ := hrel
    have HBs := HB.out.size
    by_cases hlt : j < 17
    · have hj2 : (j : Int) < 17 := by omega
      have hj0 : (0 : Int) ≤ (j : Int) := by omega
      have hj3 : j + 1 ≤ 17 := hlt
      have hk0 := (HSW.out wr HB.out).k j hlt
      rw [(HR.out.P j hlt).k] at hk0
      have HY : Hid ((F.P j).k ≠ 0 → thr F (j + 1) = thr F j ++ [j]) := hid thr_yes
      have HN : Hid ((F.P j).k = 0 → thr F (j + 1) = thr F j) := hid thr_no
      have k2 := hid (isthere_any p (1 + j * 107) (F.P j).k wr hk0)
      have KL : Hid ((F.P j).k ≠ 0 → Calls Tryz.prog 50 #[.pointer (some ⟨p, 1 + j * 107, none⟩), .int .i64 (j : Int)] wr (LookP wr j (F.P j))) := hid (fun h => plook p j S F wr (HSW.out wr HB.out) HR.out HF.out hlt h)
      obtain ⟨k, gk⟩ : ∃ k, k = (F.P j).k := ⟨_, rfl⟩
      rw [← gk] at hk0 HY HN k2 KL
      clear gk hk0
      by_cases hk : k = 0
      · have e := HN.out hk
        rw [← e] at HK HLK
        rw [show decide (k ≠ 0) = false by simp [hk]] at k2
        clear HY HN e KL hk
        go_wp2_with fail
        refine k2.out.mono ?_
        rintro e w2 ⟨rfl, rfl⟩
        clear k2
        go_wp2_with fail
        go_roundw
        case rel => exact ⟨j + 1, n, a', c', cs, hj3, by omega, by go_num, rfl, HK, HO, HNW, HLK, HB⟩
        case measure => simp [intOf]; omega
      · have HE := hid (HY.out hk)
        have k3 := hid (KL.out hk)
        rw [show decide (k ≠ 0) = true by simp [hk]] at k2
        clear HY HN KL hk
        go_wp2_with fail
        refine k2.out.mono ?_
        rintro e w2 ⟨rfl, rfl⟩
        clear k2
        go_wp2_with fail
        refine k3.out.mono ?_
        rintro e w3 ⟨⟨cN, rfl, vB, vN, vM, rfl, g1, g2, g3, g4⟩, hB3⟩
        obtain ⟨ba, bc, rfl, _⟩ := own_shp g1
        obtain ⟨na, nc, rfl, _⟩ := own_shp g2
        obtain ⟨ma, mc, rfl, _⟩ := own_shp g3
        have HLN : Hid (LkN w3 (fun b => w2.heap.size ≤ b) j (F.P j) (lkC j (F.P j) (.slice ba (F.P j).B.length bc) (.slice na (F.P j).Q.length nc) (.slice ma (F.P j).Q.length mc))) := hid ⟨_, _, _, rfl, g1, g2, g3, g4⟩
        have HB3 := hid hB3
        clear g1 g2 g3 g4
        unfold lkC at HLN ⊢
        generalize ((F.P j).c.length : Int) + ((F.P j).Q.length : Int) = s1 at HLN ⊢
        generalize (F.P j).k = k1 at HLN ⊢
        generalize (F.P j).l = l1 at HLN ⊢
        generalize (F.P j).h = h1 at HLN ⊢
        generalize (F.P j).B.length = bn at HLN ⊢
        generalize (F.P j).Q.length = nn at HLN ⊢
        clear k3 hB3
        go_wp2_with (at_builtin; go_must (refine wpList_append_where rfl (.tmp 17) (.tmp 25) 36 rfl 44 i0 _ 8 112 Tryz.underlying36 hi0 hz0 hz1 hz2 rfl (by decide) (.slice a' n c') n _ rfl ((Upd.of_below (F := fun _ => False) (HB3.out.trans ((alloc1 w3 _).mono HB3.out.size))).own HO.out (fun _ _ h => h)) ⟨_, 0, none⟩ 1 1 [.int .i64 (j : Int), .int .i64 k1, .int .i64 l1, .int .i64 s1, .int .i64 h1, .slice ba bn bc, .slice na nn nc, .slice ma nn mc] rfl rfl (by intro a u hj; rw [Addr.add_lit, Nat.zero_add, cell_of_row _ _ a _ 44 (0, 0) (by exact heap_alloc_new _ _)]; simpa using hj) (by simp [Value.oneCell']) (by unfold maxLen; omega) (by omega) ?_))
        intro v7 w7 hO hU _ hW
        obtain ⟨va, vc, rfl⟩ : ∃ va vc, v7 = .slice va (n + 1) vc := by
          rcases hO.out.2 with ⟨h1, _⟩ | ⟨g, c, cur, rfl, _⟩
          · omega
          · exact ⟨_, c, rfl⟩
        have hbW := HB3.out.trans ((alloc1 w3 (.cells #[.int .i64 (j : Int), .int .i64 k1, .int .i64 l1, .int .i64 s1, .int .i64 h1, .slice ba bn bc, .slice na nn nc, .slice ma nn mc] 44)).mono HB3.out.size)
        have HM : Hid (LkL w7 (fun b => w.heap.size ≤ b ∧ (Value.slice va (n + 1) vc).ownBlock ≠ some b) F (thr F (j + 1)) (cs ++ [.int .i64 (j : Int), .int .i64 k1, .int .i64 l1, .int .i64 s1, .int .i64 h1, .slice ba bn bc, .slice na nn nc, .slice ma nn mc])) := hid (by
          rw [HE.out]
          refine LkL.more HLK.out (by rw [HK.out]; exact HO.out) hbW ?_ HBs hU (hW.out.imp (fun q => q) (fun q b hb => by have := q b hb; simpa using this))
          exact HLN.out.upd (Upd.of_below (F := fun _ => False) (alloc1 w3 _)) (fun _ _ _ h => h) (fun b _ hb => hb))
        have HK2 : Hid ((thr F (j + 1)).length = n + 1) := hid (by rw [HE.out, List.length_append, HK.out]; rfl)
        have HNW2 : Hid (∀ b, (Value.slice va (n + 1) vc).ownBlock = some b → w.heap.size ≤ b) := hid (fun b hb => by
          rcases hW.out with q | q
          · rw [q] at hb; exact HNW.out b hb
          · have h1 := q b hb
            have h2 := HB3.out.size
            omega)
        have HB9 : Hid (Below w.heap.size w w7) := hid (HB.out.trans ((hbW.mono HBs).trans (hU.below (Nat.le_trans HBs hbW.size) (fun c hc => HNW.out c hc))))
        clear hU hW hbW HLK HO HNW
        go_wp2_with fail
        go_roundw
        case rel => exact ⟨j + 1, n + 1, va, vc, _, hj3, by omega, by go_num, rfl, HK2, hO, HNW2, HM, HB9⟩
        case measure => simp [intOf]; omega
    · have hj2 : ¬ (j : Int) < 17 := by omega
      obtain rfl : j = 17 := by omega
      go_wp2_with fail
      rw [GPP.out]
      refine ⟨⟨_, cs, rfl, ?_, ?_⟩, HB.out⟩
      · rw [HK.out]; exact HO.out
      · exact LkL.upd (Upd.refl (fun _ => False) _) (fun _ _ _ h => h) (fun _ _ h => h.1) HLK.out

end Go.Proofs.YtliekndkjjaldaaGreat

/- Blocks of the program's system, with what it tells. (Written by gen_np25.py.) -/
namespace Go.Proofs.YtliekndkjjaldaaGreat
open Go.RowKit Go.ChangeMaps Go.MapKept
set_option linter.unusedVariables false
set_option maxRecDepth 20000

set_option maxHeartbeats 2000000 in
set_option maxRecDepth 20000 in
theorem palloc_any (p : Nat) (S : Sg) (w : World) (H : Sy w p S) : Calls Tryz.prog 53 #[.pointer (some ⟨p, 0, none⟩)] w fun e w' => (∃ v, e = .returned v ∧ w'.ownsRow w.heap.size 3 1 v ((List.range 25).filter S.T).length (((List.range 25).filter S.T).map natV)) ∧ Below w.heap.size w w' := by
  obtain ⟨i0, hi0, hz0, hz1, hz2⟩ := info_parts infoI3
  have HR := hid H.marks
  obtain ⟨T, gT⟩ : ∃ T, T = S.T := ⟨_, rfl⟩
  rw [← gT] at HR ⊢
  obtain ⟨M, gM⟩ : ∃ M, M = mkL T := ⟨_, rfl⟩
  have HX : Hid (∀ (j : Nat) (W : World), j < 25 → (Instr.index 56 (.agg M.toArray) (.int .i64 (j : Int))).run Tryz.prog W = .ok (.bool (T j)) W) := hid (fun j W hj => by rw [gM]; exact ix_mark T j hj W)
  have HL : Hid ((Tryz.prog.info? 56).map (·.size) = some M.length) := by rw [gM, mkL_len]; exact hid csizeM
  rw [← gM] at HR
  clear gM gT H
  go_enter Tryz.func53, Tryz.ntmps53
  go_wp2_with (refine wpList_load_mid rfl 56 (.tmp 8) rfl p 1820 rfl M _ HR.out Tryz.underlying56 rfl HL.out ?_)
  go_loopw [3, 10] (fun v3 v10 wr => ∃ (j k : Nat) (a' : Option Addr) (c' : Nat), j ≤ 25 ∧ k ≤ j ∧ v10 = .int .i64 (j : Int) ∧ v3 = .slice a' k c' ∧ Hid (((List.range j).filter T).length = k) ∧ Hid (wr.ownsRow w.heap.size 3 1 (.slice a' k c') k (((List.range j).filter T).map natV)) ∧ Hid (Below w.heap.size w wr)) (fun _ v10 _ => 25 - (intOf v10).toNat)
  case atStart => exact ⟨0, 0, none, 0, by omega, Nat.le_refl _, rfl, rfl, hid rfl, hid (World.ownsRow_nil _ _ _ _), hid (Below.refl _ _)⟩
  case round =>
    obtain ⟨j, k, a', c', hj, hk, rfl, rfl, HK, HO, HB⟩ := hrel
    have HBs := HB.out.size
    by_cases hlt : j < 25
    · have hj2 : (j : Int) < 25 := by omega
      have hj0 : (0 : Int) ≤ (j : Int) := by omega
      have hj3 : j + 1 ≤ 25 := hlt
      have hx := HX.out j wr hlt
      have HY : Hid (T j = true → (List.range (j + 1)).filter T = (List.range j).filter T ++ [j]) := hid (range_snoc_yes T j)
      have HN : Hid (T j = false → (List.range (j + 1)).filter T = (List.range j).filter T) := hid (range_snoc_no T j)
      generalize T j = tj at hx HY HN
      cases tj with
      | false =>
        have e := HN.out rfl
        rw [← e] at HK HO
        clear HY HN e
        go_wp2_with fail
        go_roundw
        case rel => exact ⟨j + 1, k, a', c', hj3, by omega, by go_num, rfl, HK, HO, HB⟩
        case measure => simp [intOf]; omega
      | true =>
        have HE := hid (HY.out rfl)
        clear HY HN
        generalize (List.range j).filter T = acc at HK HO HE
        go_wp2_with (at_builtin; go_must (refine wpList_append_own _ rfl (.tmp 15) (.tmp 17) 41 rfl w.heap.size 3 i0 _ 1 8 Tryz.underlying41 hi0 hz0 hz1 hz2 rfl (by decide) _ k (acc.map natV) rfl (HO.out.alloc _) ⟨_, 0, none⟩ 1 1 [natV j] rfl rfl (cell_one _ _ _) (by simp [Value.oneCell', natV]) (by unfold maxLen; omega) (by omega) (by simp; omega) ?_))
        intro v' w6 hO hG hN
        have hbel : Below w.heap.size w w6 := (HB.out.alloc HBs (.cells #[natV j] 3)).grown hG (by simp; omega) (fun x hx => (HO.out.lt x hx).1)
        obtain ⟨va, vc, rfl⟩ : ∃ va vc, v' = .slice va (k + 1) vc := by
          rcases hO.2 with ⟨h1, h2⟩ | ⟨g, c, cur, rfl, _⟩
          · omega
          · exact ⟨_, c, rfl⟩
        have HK2 : Hid (((List.range (j + 1)).filter T).length = k + 1) := hid (by rw [HE.out, List.length_append, HK.out]; rfl)
        have HO2 : Hid (w6.ownsRow w.heap.size 3 1 (.slice va (k + 1) vc) (k + 1) (((List.range (j + 1)).filter T).map natV)) := hid (by rw [HE.out, List.map_append]; exact hO)
        have HB2 := hid hbel
        clear hO hG hN hbel HO HB HK HE
        go_wp2_with fail
        go_roundw
        case rel => exact ⟨j + 1, k + 1, va, vc, hj3, by omega, by go_num, rfl, HK2, HO2, HB2⟩
        case measure => simp [intOf]; omega
    · obtain rfl : j = 25 := by omega
      go_wp2_with fail
      go_ret
      refine ⟨⟨_, rfl, ?_⟩, HB.out⟩
      rw [HK.out]
      exact HO.out

theorem pblocks_any (p : Nat) (F : Fs) (G : Nat → Prop) (w : World) (H : Pf w p F G) :
    Calls Tryz.prog 14 #[.pointer (some ⟨p, 0, none⟩)] w fun e w' => (∃ v, e = .returned v ∧ w'.ownsRow w.heap.size 3 1 v ((List.range 25).filter F.T).length (((List.range 25).filter F.T).map natV)) ∧ Below w.heap.size w w' := by
  obtain ⟨S, HS, R, _⟩ := H
  have k1 := hid HS.usable
  have k2 := palloc_any p S w HS
  rw [R.T] at k2
  have k2 := hid k2
  generalize ((List.range 25).filter F.T) = L at k2 ⊢
  clear HS R
  go_enter Tryz.func14, Tryz.ntmps14
  go_wp2_with fail
  refine k1.out.mono ?_
  rintro e w1 ⟨rfl, rfl⟩
  clear k1
  go_wp2_with fail
  refine k2.out.mono ?_
  rintro e w2 ⟨⟨v, rfl, hO⟩, hB⟩
  obtain ⟨a, c, rfl, _⟩ := own_shp hO
  have HO := hid hO
  have HB := hid hB
  clear k2 hO hB
  go_wp2_with fail
  go_ret
  exact ⟨⟨_, rfl, HO.out⟩, HB.out⟩

end Go.Proofs.YtliekndkjjaldaaGreat

/- Two looks of the same file system compare as such. -/
namespace Go.Proofs.YtliekndkjjaldaaGreat
open Go.RowKit
set_option linter.unusedVariables false
set_option maxRecDepth 20000

/-- So many values that are read. -/
def Rdv (w : World) (a : Option Addr) (n : Nat) (xs : List Value) : Prop := xs.length = n ∧ (0 < n → ∃ q o, a = some ⟨q, o, none⟩ ∧ q < w.heap.size ∧ ∀ j, ∀ h : j < xs.length, w.cell? ⟨q, o + j, none⟩ = some xs[j])
theorem Rdv.below {w w' : World} {a : Option Addr} {n : Nat} {xs : List Value} (h : Rdv w a n xs) (hb : Below w.heap.size w w') : Rdv w' a n xs :=
  ⟨h.1, fun hn => by
    obtain ⟨q, o, e, hq, hc⟩ := h.2 hn
    exact ⟨q, o, e, Nat.lt_of_lt_of_le hq hb.size, fun j hj => (hb.cell (p := ⟨q, o + j, none⟩) hq).trans (hc j hj)⟩⟩
theorem Rdv.of {w : World} {B e n c : Nat} {a : Option Addr} {xs : List Value} (h : w.ownsRow B e 1 (.slice a n c) n xs) : Rdv w a n xs := by
  refine ⟨by have := h.1; omega, fun hn => ?_⟩
  obtain ⟨a', c', e', _, _, hc⟩ := own_shp h
  injection e' with e1 _ _
  subst e1
  obtain ⟨q, rfl, _, hq, hcc⟩ := hc hn
  exact ⟨q, 0, rfl, hq, fun j hj => by rw [Nat.zero_add]; exact hcc j _ (List.getElem?_eq_getElem hj)⟩

set_option maxHeartbeats 1000000 in
theorem ieq_yes (a b : Option Addr) (n ca cb : Nat) (hn : n ≤ 1000000) (zs : List Int) (w : World) (ha : Rdv w a n (zs.map (Value.int .i64))) (hb : Rdv w b n (zs.map (Value.int .i64))) :
    Calls Tryz.prog 13 #[.slice a n ca, .slice b n cb] w fun e w' => e = .returned (.bool true) ∧ Below w.heap.size w w' := by
  have HA := hid ha
  have HB := hid hb
  clear ha hb
  go_enter Tryz.func13, Tryz.ntmps13
  go_wp2_with fail
  go_loopw [13] (fun v13 wr => ∃ j : Nat, j ≤ n ∧ v13 = .int .i64 (j : Int) ∧ Hid (Below w.heap.size w wr)) (fun v13 _ => n - (intOf v13).toNat)
  case atStart => exact ⟨0, Nat.zero_le _, rfl, hid (Below.refl _ _)⟩
  case round =>
    obtain ⟨j, hj, rfl, HW⟩ := hrel
    by_cases hlt : j < n
    · have hj2 : (j : Int) < (n : Int) := by omega
      have hj0 : (0 : Int) ≤ (j : Int) := by omega
      have hj3 : j + 1 ≤ n := hlt
      have hA := HA.out.below HW.out
      have hB := HB.out.below HW.out
      obtain ⟨q, o, rfl, hq, hcq⟩ := hA.2 (by omega)
      obtain ⟨r, t, rfl, hr, hcr⟩ := hB.2 (by omega)
      have hz : j < (zs.map (Value.int .i64)).length := by rw [hA.1]; exact hlt
      have d1 := hcq j hz
      have d2 := hcr j hz
      rw [List.getElem_map] at d1 d2
      generalize zs[j]'(by rw [List.length_map] at hz; exact hz) = z at d1 d2
      clear hA hB hcq hcr hz hlt
      go_wp2_with fail
      go_quiet (fail)
      go_wp2_with fail
      go_roundw
      case rel => exact ⟨j + 1, hj3, by go_num, hid (below_drewN HW.out _)⟩
      case measure => simp [intOf]; omega
    · have hj2 : ¬ (j : Int) < (n : Int) := by omega
      go_wp2_with fail
      go_ret
      exact ⟨rfl, HW.out⟩

set_option maxHeartbeats 1000000 in
theorem seq_yes (a b : Option Addr) (n ca cb : Nat) (hn : n ≤ 1000000) (ts : List ByteArray) (w : World) (ha : Rdv w a n (ts.map Value.string)) (hb : Rdv w b n (ts.map Value.string)) :
    Calls Tryz.prog 88 #[.slice a n ca, .slice b n cb] w fun e w' => e = .returned (.bool true) ∧ Below w.heap.size w w' := by
  have HA := hid ha
  have HB := hid hb
  clear ha hb
  go_enter Tryz.func88, Tryz.ntmps88
  go_wp2_with fail
  go_loopw [13] (fun v13 wr => ∃ j : Nat, j ≤ n ∧ v13 = .int .i64 (j : Int) ∧ Hid (Below w.heap.size w wr)) (fun v13 _ => n - (intOf v13).toNat)
  case atStart => exact ⟨0, Nat.zero_le _, rfl, hid (Below.refl _ _)⟩
  case round =>
    obtain ⟨j, hj, rfl, HW⟩ := hrel
    by_cases hlt : j < n
    · have hj2 : (j : Int) < (n : Int) := by omega
      have hj0 : (0 : Int) ≤ (j : Int) := by omega
      have hj3 : j + 1 ≤ n := hlt
      have hA := HA.out.below HW.out
      have hB := HB.out.below HW.out
      obtain ⟨q, o, rfl, hq, hcq⟩ := hA.2 (by omega)
      obtain ⟨r, t, rfl, hr, hcr⟩ := hB.2 (by omega)
      have hz : j < (ts.map Value.string).length := by rw [hA.1]; exact hlt
      have d1 := hcq j hz
      have d2 := hcr j hz
      rw [List.getElem_map] at d1 d2
      generalize ts[j]'(by rw [List.length_map] at hz; exact hz) = z at d1 d2
      have hzz : (!(z.toList == z.toList)) = false := by simp
      clear hA hB hcq hcr hz hlt
      go_wp2_with fail
      go_quiet (fail)
      go_wp2_with fail
      go_roundw
      case rel => exact ⟨j + 1, hj3, by go_num, hid (below_drewN HW.out _)⟩
      case measure => simp [intOf]; omega
    · have hj2 : ¬ (j : Int) < (n : Int) := by omega
      go_wp2_with fail
      go_ret
      exact ⟨rfl, HW.out⟩

set_option maxHeartbeats 4000000 in
/-- One node as it is read, told twice. -/
theorem same1_yes (i : Nat) (y : Fn) (c d : List Value) (w : World) (G G' : Nat → Prop) (hc : LkN w G i y c) (hd : LkN w G' i y d) (hB6 : y.B.length ≤ 6) (hQ6 : y.Q.length ≤ 6) :
    Calls Tryz.prog 87 #[.agg c.toArray, .agg d.toArray] w fun e w' => e = .returned (.bool true) ∧ Below w.heap.size w w' := by
  obtain ⟨vB, vN, vM, rfl, h1, h2, h3, _⟩ := hc
  obtain ⟨uB, uN, uM, rfl, g1, g2, g3, _⟩ := hd
  obtain ⟨ba, bc, rfl, _⟩ := own_shp h1
  obtain ⟨na, nc, rfl, _⟩ := own_shp h2
  obtain ⟨ma, mc, rfl, _⟩ := own_shp h3
  obtain ⟨ba', bc', rfl, _⟩ := own_shp g1
  obtain ⟨na', nc', rfl, _⟩ := own_shp g2
  obtain ⟨ma', mc', rfl, _⟩ := own_shp g3
  have e1 : y.B.map natV = (y.B.map fun b : Nat => (b : Int)).map (Value.int .i64) := by rw [List.map_map]; rfl
  have e3 : y.Q.map ndV = (y.Q.map fun x => (x.2 : Int)).map (Value.int .i64) := by rw [List.map_map]; rfl
  have e2 : y.Q.map nmV = (y.Q.map fun x => bs x.1).map Value.string := by rw [List.map_map]; rfl
  have H1 := hid (Rdv.of h1)
  have H2 := hid (Rdv.of h2)
  have H3 := hid (Rdv.of h3)
  have G1 := hid (Rdv.of g1)
  have G2 := hid (Rdv.of g2)
  have G3 := hid (Rdv.of g3)
  rw [e1] at H1 G1
  rw [e2] at H2 G2
  rw [e3] at H3 G3
  unfold lkC
  generalize y.k = k
  generalize y.l = l
  generalize y.h = hh
  generalize (y.c.length : Int) + (y.Q.length : Int) = s
  obtain ⟨LB, gLB⟩ : ∃ LB, LB = y.B.length := ⟨_, rfl⟩
  obtain ⟨LQ, gLQ⟩ : ∃ LQ, LQ = y.Q.length := ⟨_, rfl⟩
  rw [← gLB, ← gLQ]
  rw [← gLB] at H1 G1
  rw [← gLQ] at H2 G2 H3 G3
  have K1 : Hid (∀ W, Below w.heap.size w W → Calls Tryz.prog 13 #[.slice ba LB bc, .slice ba' LB bc'] W fun e w' => e = .returned (.bool true) ∧ Below W.heap.size W w') := hid (fun W hb => ieq_yes ba ba' LB bc bc' (by omega) _ W (H1.out.below hb) (G1.out.below hb))
  have K2 : Hid (∀ W, Below w.heap.size w W → Calls Tryz.prog 88 #[.slice na LQ nc, .slice na' LQ nc'] W fun e w' => e = .returned (.bool true) ∧ Below W.heap.size W w') := hid (fun W hb => seq_yes na na' LQ nc nc' (by omega) _ W (H2.out.below hb) (G2.out.below hb))
  have K3 : Hid (∀ W, Below w.heap.size w W → Calls Tryz.prog 13 #[.slice ma LQ mc, .slice ma' LQ mc'] W fun e w' => e = .returned (.bool true) ∧ Below W.heap.size W w') := hid (fun W hb => ieq_yes ma ma' LQ mc mc' (by omega) _ W (H3.out.below hb) (G3.out.below hb))
  clear h1 h2 h3 g1 g2 g3 e1 e2 e3 H1 H2 H3 G1 G2 G3 gLB gLQ
  go_enter Tryz.func87, Tryz.ntmps87
  go_wp2_with fail
  obtain ⟨W0, gW0⟩ : ∃ W0, W0 = (w.alloc (.cells (List.toArray [.int .i64 (i : Int), .int .i64 k, .int .i64 l, .int .i64 s, .int .i64 hh, .slice ba LB bc, .slice na LQ nc, .slice ma LQ mc]) 44)).alloc (.cells (List.toArray [.int .i64 (i : Int), .int .i64 k, .int .i64 l, .int .i64 s, .int .i64 hh, .slice ba' LB bc', .slice na' LQ nc', .slice ma' LQ mc']) 44) := ⟨_, rfl⟩
  have hb0 : Below w.heap.size w W0 := by rw [gW0]; exact (alloc1 _ _).trans ((alloc1 _ _).mono (by simp))
  have hx : W0.heap[w.heap.size]? = some (.cells (List.toArray [.int .i64 (i : Int), .int .i64 k, .int .i64 l, .int .i64 s, .int .i64 hh, .slice ba LB bc, .slice na LQ nc, .slice ma LQ mc]) 44 (0, 0)) := by rw [gW0]; exact (Below.heap_alloc _ _ _ (by simp)).trans (heap_alloc_new w _)
  have hy : W0.heap[w.heap.size + 1]? = some (.cells (List.toArray [.int .i64 (i : Int), .int .i64 k, .int .i64 l, .int .i64 s, .int .i64 hh, .slice ba' LB bc', .slice na' LQ nc', .slice ma' LQ mc']) 44 (0, 0)) := by
    rw [gW0]
    have := heap_alloc_new (w.alloc (.cells (List.toArray [.int .i64 (i : Int), .int .i64 k, .int .i64 l, .int .i64 s, .int .i64 hh, .slice ba LB bc, .slice na LQ nc, .slice ma LQ mc]) 44)) (.cells (List.toArray [.int .i64 (i : Int), .int .i64 k, .int .i64 l, .int .i64 s, .int .i64 hh, .slice ba' LB bc', .slice na' LQ nc', .slice ma' LQ mc']) 44)
    rwa [show (w.alloc (.cells (List.toArray [.int .i64 (i : Int), .int .i64 k, .int .i64 l, .int .i64 s, .int .i64 hh, .slice ba LB bc, .slice na LQ nc, .slice ma LQ mc]) 44)).heap.size = w.heap.size + 1 by simp] at this
  have hs0 : W0.heap.size = w.heap.size + 2 := by rw [gW0]; simp
  have HX : Hid (∀ W, Below W0.heap.size W0 W → W.cell? ⟨w.heap.size, 6, none⟩ = some (.slice na LQ nc) ∧ W.cell? ⟨w.heap.size, 7, none⟩ = some (.slice ma LQ mc) ∧ W.cell? ⟨w.heap.size + 1, 6, none⟩ = some (.slice na' LQ nc') ∧ W.cell? ⟨w.heap.size + 1, 7, none⟩ = some (.slice ma' LQ mc')) := hid (fun W hb => by
    have h1 := (hb.block w.heap.size (by omega)).trans hx
    have h2 := (hb.block (w.heap.size + 1) (by omega)).trans hy
    exact ⟨cell_list h1 rfl, cell_list h1 rfl, cell_list h2 rfl, cell_list h2 rfl⟩)
  have HB0 := hid hb0
  have GW0 := hid gW0
  clear gW0 hb0 hx hy hs0
  rw [← GW0.out]
  refine (K1.out W0 HB0.out).mono ?_
  rintro e w1 ⟨rfl, hb1⟩
  obtain ⟨z1, z2, z3, z4⟩ := HX.out w1 hb1
  have HB1 := hid hb1
  clear hb1
  go_wp2_with fail
  refine (K2.out w1 (HB0.out.trans (HB1.out.mono HB0.out.size))).mono ?_
  rintro e w2 ⟨rfl, hb2⟩
  have hb2' := HB1.out.trans (hb2.mono HB1.out.size)
  have HB2 := hid hb2'
  clear z1 z2 z3 z4 hb2 hb2'
  obtain ⟨z1, z2, z3, z4⟩ := HX.out w2 HB2.out
  go_wp2_with fail
  refine (K3.out w2 (HB0.out.trans (HB2.out.mono HB0.out.size))).mono ?_
  rintro e w3 ⟨rfl, hb3⟩
  have hb3' := HB0.out.trans ((HB2.out.trans (hb3.mono HB2.out.size)).mono HB0.out.size)
  have HB3 := hid hb3'
  clear z1 z2 z3 z4 hb3 hb3'
  go_wp2_with fail
  go_ret
  exact ⟨rfl, HB3.out⟩

/-- A list of cells at a place. -/
theorem LkL.get {w : World} {G : Nat → Prop} {F : Fs} : ∀ {is : List Nat} {cs : List Value} (h : LkL w G F is cs) (j : Nat) (hj : j < is.length), ∃ c, LkN w G is[j] (F.P is[j]) c ∧ c.length = 8 ∧ ∀ t, t < 8 → cs[j * 8 + t]? = c[t]?
  | [], cs, h, j, hj => by simp at hj
  | i :: r, cs, ⟨c, d, e, h1, h2⟩, j, hj => by
    have hcl : c.length = 8 := by obtain ⟨_, _, _, ec, _⟩ := h1; rw [ec]; rfl
    cases j with
    | zero => exact ⟨c, h1, hcl, fun t ht => by rw [e, Nat.zero_mul, Nat.zero_add, List.getElem?_append_left (by omega)]⟩
    | succ j =>
      obtain ⟨c', h3, h4, h5⟩ := LkL.get h2 j (by simpa using hj)
      refine ⟨c', h3, h4, fun t ht => ?_⟩
      rw [e, List.getElem?_append_right (by rw [hcl]; omega), hcl, show (j + 1) * 8 + t - 8 = j * 8 + t by omega]
      exact h5 t ht

set_option maxHeartbeats 4000000 in
theorem eqf_yes (F : Fs) (hF : FOk F) (is : List Nat) (n : Nat) (hn : is.length = n) (hn2 : n ≤ 17) (a b : Option Addr) (ca cb : Nat) (cs ds : List Value) (w : World) (G G' : Nat → Prop)
    (ha : w.ownsRow 0 44 8 (.slice a n ca) n cs) (hb : w.ownsRow 0 44 8 (.slice b n cb) n ds) (hc : LkL w G F is cs) (hd : LkL w G' F is ds) :
    Calls Tryz.prog 86 #[.slice a n ca, .slice b n cb, .func (.func 87) #[] #[]] w fun e w' => e = .returned (.bool true) ∧ Below w.heap.size w w' := by
  have HC : Hid (∀ j, j < n → ∃ q r, a = some ⟨q, 0, none⟩ ∧ b = some ⟨r, 0, none⟩ ∧ q < w.heap.size ∧ r < w.heap.size ∧ ∃ (i : Nat) (y : Fn) (a1 : Option Addr) (c1 : Nat) (a2 : Option Addr) (c2 : Nat) (a3 : Option Addr) (c3 : Nat) (b1 : Option Addr) (d1 : Nat) (b2 : Option Addr) (d2 : Nat) (b3 : Option Addr) (d3 : Nat), y.B.length ≤ 6 ∧ y.Q.length ≤ 6 ∧ LkN w G i y (lkC i y (.slice a1 y.B.length c1) (.slice a2 y.Q.length c2) (.slice a3 y.Q.length c3)) ∧ LkN w G' i y (lkC i y (.slice b1 y.B.length d1) (.slice b2 y.Q.length d2) (.slice b3 y.Q.length d3)) ∧ (∀ t x, t < 8 → (lkC i y (.slice a1 y.B.length c1) (.slice a2 y.Q.length c2) (.slice a3 y.Q.length c3))[t]? = some x → w.cell? ⟨q, j * 8 + t, none⟩ = some x) ∧ (∀ t x, t < 8 → (lkC i y (.slice b1 y.B.length d1) (.slice b2 y.Q.length d2) (.slice b3 y.Q.length d3))[t]? = some x → w.cell? ⟨r, j * 8 + t, none⟩ = some x)) := hid (fun j hj => by
    obtain ⟨a', c', e, _, _, h1⟩ := own_shp ha
    injection e with e1 _ _
    subst e1
    obtain ⟨q, rfl, _, hq, hqc⟩ := h1 (by omega)
    obtain ⟨b', d', e', _, _, h2⟩ := own_shp hb
    injection e' with e1 _ _
    subst e1
    obtain ⟨r, rfl, _, hr, hrc⟩ := h2 (by omega)
    obtain ⟨c, h3, h4, h5⟩ := hc.get j (by omega)
    obtain ⟨d, h6, h7, h8⟩ := hd.get j (by omega)
    have hB6 : (F.P is[j]).B.length ≤ 6 := by have h9 := (hF.c is[j]).1; rw [hF.B]; unfold Fs.need; omega
    have hQ6 := hF.len is[j]
    have k3 := h3
    have k6 := h6
    obtain ⟨va, vb, vc, ec, g1, g2, g3, _⟩ := k3
    obtain ⟨vd, ve, vf, ed, g4, g5, g6, _⟩ := k6
    obtain ⟨a1, c1, rfl, _⟩ := own_shp g1
    obtain ⟨a2, c2, rfl, _⟩ := own_shp g2
    obtain ⟨a3, c3, rfl, _⟩ := own_shp g3
    obtain ⟨b1, d1, rfl, _⟩ := own_shp g4
    obtain ⟨b2, d2, rfl, _⟩ := own_shp g5
    obtain ⟨b3, d3, rfl, _⟩ := own_shp g6
    rw [ec] at h3 h5
    rw [ed] at h6 h8
    exact ⟨q, r, rfl, rfl, hq, hr, is[j], F.P is[j], a1, c1, a2, c2, a3, c3, b1, d1, b2, d2, b3, d3, hB6, hQ6, h3, h6, fun t x ht hx => hqc _ _ ((h5 t ht).trans hx), fun t x ht hx => hrc _ _ ((h8 t ht).trans hx)⟩)
  clear ha hb hc hd hF hn
  go_enter Tryz.func86, Tryz.ntmps86
  go_wp2_with fail
  go_loopw [17] (fun v17 wr => ∃ j : Nat, j ≤ n ∧ v17 = .int .i64 (j : Int) ∧ Hid (Below w.heap.size w wr)) (fun v17 _ => n - (intOf v17).toNat)
  case atStart => exact ⟨0, Nat.zero_le _, rfl, hid (Below.refl _ _)⟩
  case round =>
    obtain ⟨j, hj, rfl, HW⟩ := hrel
    by_cases hlt : j < n
    · have hj2 : (j : Int) < (n : Int) := by omega
      have hj0 : (0 : Int) ≤ (j : Int) := by omega
      have hj3 : j + 1 ≤ n := hlt
      obtain ⟨q, r, rfl, rfl, hq, hr, i, y, a1, c1, a2, c2, a3, c3, b1, d1, b2, d2, b3, d3, hB6, hQ6, h3, h6, hcq, hcr⟩ := HC.out j hlt
      have hs := HW.out.size
      have z0 := (HW.out.cell (p := ⟨q, j * 8 + 0, none⟩) hq).trans (hcq 0 _ (by omega) rfl)
      have x0 := (HW.out.cell (p := ⟨r, j * 8 + 0, none⟩) hr).trans (hcr 0 _ (by omega) rfl)
      have z1 := (HW.out.cell (p := ⟨q, j * 8 + 1, none⟩) hq).trans (hcq 1 _ (by omega) rfl)
      have x1 := (HW.out.cell (p := ⟨r, j * 8 + 1, none⟩) hr).trans (hcr 1 _ (by omega) rfl)
      have z2 := (HW.out.cell (p := ⟨q, j * 8 + 2, none⟩) hq).trans (hcq 2 _ (by omega) rfl)
      have x2 := (HW.out.cell (p := ⟨r, j * 8 + 2, none⟩) hr).trans (hcr 2 _ (by omega) rfl)
      have z3 := (HW.out.cell (p := ⟨q, j * 8 + 3, none⟩) hq).trans (hcq 3 _ (by omega) rfl)
      have x3 := (HW.out.cell (p := ⟨r, j * 8 + 3, none⟩) hr).trans (hcr 3 _ (by omega) rfl)
      have z4 := (HW.out.cell (p := ⟨q, j * 8 + 4, none⟩) hq).trans (hcq 4 _ (by omega) rfl)
      have x4 := (HW.out.cell (p := ⟨r, j * 8 + 4, none⟩) hr).trans (hcr 4 _ (by omega) rfl)
      have z5 := (HW.out.cell (p := ⟨q, j * 8 + 5, none⟩) hq).trans (hcq 5 _ (by omega) rfl)
      have x5 := (HW.out.cell (p := ⟨r, j * 8 + 5, none⟩) hr).trans (hcr 5 _ (by omega) rfl)
      have z6 := (HW.out.cell (p := ⟨q, j * 8 + 6, none⟩) hq).trans (hcq 6 _ (by omega) rfl)
      have x6 := (HW.out.cell (p := ⟨r, j * 8 + 6, none⟩) hr).trans (hcr 6 _ (by omega) rfl)
      have z7 := (HW.out.cell (p := ⟨q, j * 8 + 7, none⟩) hq).trans (hcq 7 _ (by omega) rfl)
      have x7 := (HW.out.cell (p := ⟨r, j * 8 + 7, none⟩) hr).trans (hcr 7 _ (by omega) rfl)
      rw [Nat.add_zero] at z0 x0
      have KS : Hid (∀ W, Below w.heap.size w W → Calls Tryz.prog 87 #[.agg (lkC i y (.slice a1 y.B.length c1) (.slice a2 y.Q.length c2) (.slice a3 y.Q.length c3)).toArray, .agg (lkC i y (.slice b1 y.B.length d1) (.slice b2 y.Q.length d2) (.slice b3 y.Q.length d3)).toArray] W fun e w' => e = .returned (.bool true) ∧ Below W.heap.size W w') := hid (fun W hb => same1_yes i y _ _ W G G' (h3.upd (Upd.of_below (F := fun _ => False) hb) (fun _ _ _ h => h) (fun _ _ h => h)) (h6.upd (Upd.of_below (F := fun _ => False) hb) (fun _ _ _ h => h) (fun _ _ h => h)) hB6 hQ6)
      unfold lkC at KS
      generalize y.k = k at KS z1 x1
      generalize y.l = l at KS z2 x2
      generalize (y.c.length : Int) + (y.Q.length : Int) = s at KS z3 x3
      generalize y.h = hh at KS z4 x4
      generalize y.B.length = LB at KS z5 x5
      generalize y.Q.length = LQ at KS z6 x6 z7 x7
      have hb2 : Below w.heap.size w ((wr.alloc (.cells (List.toArray [.int .i64 (i : Int), .int .i64 k, .int .i64 l, .int .i64 s, .int .i64 hh, .slice a1 LB c1, .slice a2 LQ c2, .slice a3 LQ c3]) 44)).alloc (.cells (List.toArray [.int .i64 (i : Int), .int .i64 k, .int .i64 l, .int .i64 s, .int .i64 hh, .slice b1 LB d1, .slice b2 LQ d2, .slice b3 LQ d3]) 44)) := HW.out.trans (((alloc1 _ _).trans ((alloc1 _ _).mono (by simp))).mono hs)
      have HB2 := hid hb2
      have k1 := hid (KS.out _ hb2)
      have q1 : q < wr.heap.size := Nat.lt_of_lt_of_le hq hs
      have r1 : r < wr.heap.size := Nat.lt_of_lt_of_le hr hs
      have q2 : q < wr.heap.size + 1 := by omega
      have r2 : r < wr.heap.size + 1 := by omega
      clear hb2 KS h3 h6 hcq hcr hB6 hQ6 hs hq hr hlt
      go_wp2_with fail
      refine k1.out.mono ?_
      rintro e w3 ⟨rfl, hb3⟩
      have HB3 := hid (HB2.out.trans (hb3.mono HB2.out.size))
      clear k1 hb3
      go_wp2_with fail
      go_roundw
      case rel => exact ⟨j + 1, hj3, by go_num, HB3⟩
      case measure => simp [intOf]; omega
    · have hj2 : ¬ (j : Int) < (n : Int) := by omega
      go_wp2_with fail
      go_ret
      exact ⟨rfl, HW.out⟩


theorem samenodes_yes (F : Fs) (hF : FOk F) (is : List Nat) (n : Nat) (hn : is.length = n) (hn2 : n ≤ 17) (a b : Option Addr) (ca cb : Nat) (cs ds : List Value) (w : World) (G G' : Nat → Prop)
    (ha : w.ownsRow 0 44 8 (.slice a n ca) n cs) (hb : w.ownsRow 0 44 8 (.slice b n cb) n ds) (hc : LkL w G F is cs) (hd : LkL w G' F is ds) :
    Calls Tryz.prog 45 #[.slice a n ca, .slice b n cb] w fun e w' => e = .returned (.bool true) ∧ Below w.heap.size w w' := by
  have k1 := hid (eqf_yes F hF is n hn hn2 a b ca cb cs ds w G G' ha hb hc hd)
  clear ha hb hc hd hF hn
  go_enter Tryz.func45, Tryz.ntmps45
  go_wp2_with fail
  refine k1.out.mono ?_
  rintro e w1 ⟨rfl, hb⟩
  have HB := hid hb
  clear k1 hb
  go_wp2_with fail
  go_ret
  exact ⟨rfl, HB.out⟩

end Go.Proofs.YtliekndkjjaldaaGreat
