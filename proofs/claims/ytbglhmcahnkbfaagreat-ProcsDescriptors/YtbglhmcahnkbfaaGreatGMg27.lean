/- Texts of this seat, merged. -/
import Derived.Test.YtbglhmcahnkbfaaGreatGMg26
import Derived.Deep.RegionLaw
import Derived.BigRegion

/- append onto an owned row as a step of a region that draws its order. -/
namespace Go.Proofs.YtbglhmcahnkbfaaGreat
open Go.RowKit
set_option linter.unusedVariables false

theorem alloc1 (w : World) (a : Obj) : Below w.heap.size w (w.alloc a) := (Below.refl _ _).alloc (Nat.le_refl _) _

theorem step_app {P : Program} {ops : Array Oper} {o : Oper} {a : Act} {w : World} {K : Act → World → Prop} {Q : Exit → Act → World → Prop} {E : Prop} (hg : o.guard = none) (d x : Operand)
    (t e : TypeId) (i : TypeInfo) (z : Value) (size bytes : Nat) (hop : o.op = Op.call { callee := Callee.builtin Builtin.append, args := #[d, x], argTypes := #[t, t] })
    (ht : P.underlying t = some (.slice e)) (hi : P.info? e = some i) (hz : i.zero = some z) (hsize : i.size = size) (hby : i.bytes = bytes) (hzs : z.cells.size = size) (hsz : 0 < size)
    (v : Value) (m : Nat) (cs : List Value) (hd : a.eval d = v) (hown : w.ownsRow 0 e size v m cs) (ad : Addr) (q c : Nat) (news : List Value) (hx : a.eval x = .slice (some ad) q c) (hl : news.length = q * size)
    (hnews : ∀ j u, news[j]? = some u → w.cell? (ad.add j) = some u) (h1 : ∀ u ∈ news, u.oneCell' = true) (h63 : m + q ≤ maxLen) (hbytes : (m + q) * bytes ≤ 140737488355328)
    (hK : ∀ v' w', Hid (w'.ownsRow 0 e size v' (m + q) (cs ++ news)) → Hid (Upd (fun x => v.ownBlock = some x) w w') → Hid (v' = .slice none 0 0 ↔ v = .slice none 0 0 ∧ q = 0) → Hid (v'.ownBlock = v.ownBlock ∨ ∀ x, v'.ownBlock = some x → w.heap.size ≤ x) → K (a.put o.dst v') w') :
    if Region.wanted o (yielded ops a.tmps) = true then Oper.wp P o a w K Q else E := by
  obtain ⟨v', w', hr, h2, h3, h4, h5⟩ := run_append_where (P := P) w t o.type e i z size bytes ht hi hz hsize hby hzs hsz v m cs hown ad q c news hl hnews h1 h63 hbytes
  have hw : Region.wanted o (yielded ops a.tmps) = true := by simp [Region.wanted, hg]
  rw [if_pos hw]
  unfold Oper.wp execOp
  simp only [hop, resolve, invoke, builtin, Sem.run_bind, Sem.run_pure, Result.andThen_ok, List.map_toArray, List.map_cons, List.map_nil, hd, hx, hr]
  exact hK v' w' (hid h2) (hid ((Upd.of_grown h3).mono fun x _ hx => hx.symm)) (hid h4) (hid h5)

/-- One number more on a list of numbers. -/
theorem step_nat {ops : Array Oper} {o : Oper} {a : Act} {w : World} {K : Act → World → Prop} {Q : Exit → Act → World → Prop} {E : Prop} (hg : o.guard = none) (d x : Operand)
    (hop : o.op = Op.call { callee := Callee.builtin Builtin.append, args := #[d, x], argTypes := #[48, 48] })
    (v : Value) (m : Nat) (cs : List Value) (hd : a.eval d = v) (hown : w.ownsRow 0 3 1 v m cs) (g : Nat) (z : Value) (hx : a.eval x = .slice (some ⟨g, 0, none⟩) 1 1) (hz : w.cell? ⟨g, 0, none⟩ = some z) (h1 : z.oneCell' = true) (hm : m ≤ 1000000)
    (hK : ∀ av cv w', Hid (w'.ownsRow 0 3 1 (.slice av (m + 1) cv) (m + 1) (cs ++ [z])) → Hid (Upd (fun x => v.ownBlock = some x) w w') → Hid ((Value.slice av (m + 1) cv).ownBlock = v.ownBlock ∨ ∀ x, (Value.slice av (m + 1) cv).ownBlock = some x → w.heap.size ≤ x) → K (a.put o.dst (.slice av (m + 1) cv)) w') :
    if Region.wanted o (yielded ops a.tmps) = true then Oper.wp Tryz.prog o a w K Q else E := by
  obtain ⟨i0, hi0, hz0, hz1, hz2⟩ := info_parts infoI3
  refine step_app hg d x 48 3 i0 _ 1 8 hop Tryz.underlying48 hi0 hz0 hz1 hz2 rfl (by decide) v m cs hd hown ⟨g, 0, none⟩ 1 1 [z] hx rfl ?_ (by simpa using h1) (by unfold maxLen; omega) (by omega) ?_
  · intro j u hj
    cases j with
    | zero =>
      simp only [List.getElem?_cons_zero, Option.some.injEq] at hj
      subst hj
      rw [Addr.add_lit, Nat.zero_add]
      exact hz
    | succ j => simp at hj
  · intro v' w' h2 h3 _ h5
    obtain ⟨av, cv, rfl⟩ : ∃ av cv, v' = .slice av (m + 1) cv := by
      rcases h2.out.2 with ⟨h1, _⟩ | ⟨g, c, cur, rfl, _⟩
      · omega
      · exact ⟨_, c, rfl⟩
    exact hK av cv w' h2 h3 h5

end Go.Proofs.YtbglhmcahnkbfaaGreat

/- The document's grow. -/
namespace Go.Proofs.YtbglhmcahnkbfaaGreat
open Go.RowKit
set_option linter.unusedVariables false
set_option maxRecDepth 20000

/-- The free numbers among the first ones. -/
def frb (T : Nat → Bool) (j : Nat) : List Nat := (List.range' 1 j).filter (fun b => !T b)
theorem frb_yes (T : Nat → Bool) (J : Nat) (h1 : 1 ≤ J) (h : T J = false) : frb T J = frb T (J - 1) ++ [J] := by
  obtain ⟨j, rfl⟩ : ∃ j, J = j + 1 := ⟨J - 1, by omega⟩
  rw [show j + 1 - 1 = j from rfl]
  unfold frb
  rw [List.range'_concat, List.filter_append, List.filter_cons_of_pos (by simp [Nat.add_comm, h])]
  simp [Nat.add_comm]
theorem frb_no (T : Nat → Bool) (J : Nat) (h1 : 1 ≤ J) (h : T J = true) : frb T J = frb T (J - 1) := by
  obtain ⟨j, rfl⟩ : ∃ j, J = j + 1 := ⟨J - 1, by omega⟩
  rw [show j + 1 - 1 = j from rfl]
  unfold frb
  rw [List.range'_concat, List.filter_append, List.filter_cons_of_neg (by simp [Nat.add_comm, h])]
  simp

/-- So many of the free blocks taken. -/
def growK (F : Fs) (n t : Nat) : Fs := { F.at_ n { F.P n with B := (F.P n).B ++ F.frees.take t } with T := fun b => if b ∈ F.frees.take t then true else F.T b }
theorem grow_K (F : Fs) (n s : Nat) : F.grow n s = growK F n (Fs.need s - (F.P n).B.length) := rfl

theorem growK_0 (F : Fs) (n : Nat) : growK F n 0 = F := by
  obtain ⟨d, P, T⟩ := F
  unfold growK Fs.at_
  simp only [List.take_zero, List.append_nil, List.not_mem_nil, if_false]
  congr 1
  funext j
  by_cases e : j = n
  · subst e; simp
  · simp [e]
theorem growK_step (F : Fs) (n t b : Nat) (h : t < (frb F.T 24).length) (hb : b = (frb F.T 24)[t]'h) : growK F n (t + 1) = ({ growK F n t with T := updT (growK F n t).T b true } : Fs).at_ n { (growK F n t).P n with B := ((growK F n t).P n).B ++ [b] } := by
  have e : F.frees.take (t + 1) = F.frees.take t ++ [b] := by rw [hb]; exact (List.take_append_getElem h).symm
  unfold growK
  rw [e]
  unfold Fs.at_
  simp only [if_true, List.append_assoc]
  congr 1
  · funext j
    by_cases q : j = n <;> simp [q]
  · funext c
    unfold updT
    by_cases q : c = b
    · simp [q]
    · simp [q]

/-- A block more on a file's list. -/
theorem Rf.blk {w0 W w4 : World} {x g u : Nat} {V : Nat → Value} {F : Fs} (H : Rf w0 x g u V F) (n : Nat) (hn : n < 17) (b : Nat) (v : Value) (hb : Below w0.heap.size w0 W) (hU : Upd (fun y => (V (n * 3 + 1)).ownBlock = some y) W w4)
    (hO : w4.ownsRow 0 3 1 v ((F.P n).B ++ [b]).length (((F.P n).B.map fun (b : Nat) => Value.int .i64 (b : Int)) ++ [natV b])) (hW : v.ownBlock = (V (n * 3 + 1)).ownBlock ∨ ∀ y, v.ownBlock = some y → W.heap.size ≤ y) :
    RfTo w0 x g u V (F.at_ n { F.P n with B := (F.P n).B ++ [b] }) (w4.setCell ⟨g, n * 6 + 4, none⟩ v) := by
  have hU0 : Upd (fun y => (V (n * 3 + 1)).ownBlock = some y) w0 w4 := (Upd.of_below hb).trans hU (fun b _ h => h)
  have hown : ∀ c, v.ownBlock = some c → w0.heap.size ≤ c ∨ (V (n * 3 + 1)).ownBlock = some c := fun c hc => by
    rcases hW with h | h
    · exact .inr (by rw [← h]; exact hc)
    · exact .inl (Nat.le_trans hb.size (h c hc))
  have hlt : ∀ i c, i < 51 → (V i).ownBlock = some c → c < w0.heap.size := fun i c hi hc => H.foot_lt c (.inr (.inr (.inr ⟨i, hi, hc⟩)))
  refine ⟨setV V (n * 3 + 1) v, ?_, (hU0.mono (fun c _ hc => .inr (.inr (.inr ⟨n * 3 + 1, by omega, hc⟩)))).trans (Upd.setCell (F := RfFoot x g u V) w4 ⟨g, n * 6 + 4, none⟩ v (.inr (.inl rfl))) (fun c _ h => h), fun c hc => ?_⟩
  · refine H.put (U := fun y => (V (n * 3 + 1)).ownBlock = some y) n hn { F.P n with B := (F.P n).B ++ [b] } _ (fun i hi => setV_ne _ _ _ _ (fun e => hi (by omega))) hU0 (fun c _ hc => ⟨n * 3 + 1, by omega, hc⟩) 4 [v] (by simp) ?_ ?_ ?_ ?_ ?_ ?_
    · rw [setV_same, setV_ne _ _ _ _ (by omega), setV_ne _ _ _ _ (by omega)]; rfl
    · rw [setV_ne _ _ _ _ (by omega)]
      exact hU0.own (H.rb n hn) (fun k hk hu => absurd (H.ap _ _ k (by omega) (by omega) hk hu) (by omega))
    · rw [setV_same]
      show w4.ownsRow 0 3 1 v ((F.P n).B ++ [b]).length (((F.P n).B ++ [b]).map fun (b : Nat) => Value.int .i64 (b : Int))
      rw [List.map_append]
      exact hO
    · rw [setV_ne _ _ _ _ (by omega)]
      exact hU0.own (H.rQ n hn) (fun k hk hu => absurd (H.ap _ _ k (by omega) (by omega) hk hu) (by omega))
    · intro i c hi e
      by_cases h : i = n * 3 + 1
      · subst h
        rw [setV_same] at e
        exact hown c e
      · rw [setV_ne _ _ _ _ h] at e
        exact .inr e
    · intro i j c hi hj hc ei ej
      by_cases h : i = n * 3 + 1
      · by_cases h' : j = n * 3 + 1
        · omega
        · rw [setV_ne _ _ _ _ h'] at ej
          exact absurd (hlt j c (by omega) ej) (by omega)
      · rw [setV_ne _ _ _ _ h] at ei
        exact absurd (hlt i c (by omega) ei) (by omega)
  · rcases hc with h | h | h | ⟨i, hi, h⟩
    · exact .inl (.inl h)
    · exact .inl (.inr (.inl h))
    · exact .inl (.inr (.inr (.inl h)))
    · by_cases e : i = n * 3 + 1
      · subst e
        rw [setV_same] at h
        rcases hown c h with q | q
        · exact .inr q
        · exact .inl (.inr (.inr (.inr ⟨_, hi, q⟩)))
      · rw [setV_ne _ _ _ _ e] at h
        exact .inl (.inr (.inr (.inr ⟨i, hi, h⟩)))

set_option maxHeartbeats 8000000 in
theorem rgrow_any (x g u : Nat) (V : Nat → Value) (F : Fs) (w : World) (H : Rf w x g u V F) (hF : FOk F) (n s : Nat) (hn : n < 17) (hs : s ≤ 96) :
    Calls Tryz.prog 119 #[.pointer (some ⟨x, 0, none⟩), .int .i64 (n : Int), .int .i64 (s : Int)] w fun e w' => e = .returned (.int .i64 (if F.fits n s = true then 0 else 28)) ∧ RfTo w x g u V (if F.fits n s = true then F.grow n s else F) w' := by
  obtain ⟨R, gR⟩ : ∃ R : Fs × Int, R = if F.fits n s = true then (F.grow n s, 0) else (F, 28) := ⟨_, rfl⟩
  have GR := hid gR
  rw [show (if F.fits n s = true then (0 : Int) else 28) = R.2 by rw [gR]; split <;> rfl, show (if F.fits n s = true then F.grow n s else F) = R.1 by rw [gR]; split <;> rfl]
  clear gR
  obtain ⟨i0, hi0, hz0, hz1, hz2⟩ := info_parts infoI3
  have c1 := H.c1
  have HR := hid H
  have hB6 : (F.P n).B.length ≤ 6 := by rw [hF.B n]; have := (hF.c n).1; unfold Fs.need; omega
  obtain ⟨nd, gnd⟩ : ∃ nd, nd = Fs.need s := ⟨_, rfl⟩
  have hq : ((s : Int) + 15).tdiv 16 = (nd : Int) := by rw [gnd, Int.tdiv_eq_ediv_of_nonneg (by omega)]; unfold Fs.need; omega
  have hwr : IntKind.i64.wrap ((s : Int) + 15) = (s : Int) + 15 := by rw [IntKind.wrap_i64]; omega
  have hnd : nd ≤ 6 := by rw [gnd]; unfold Fs.need; omega
  have hwr2 : IntKind.i64.wrap (nd : Int) = (nd : Int) := by rw [IntKind.wrap_i64]; omega
  have n0 : (0 : Int) ≤ (n : Int) := by omega
  have n1 : (n : Int) < 17 := by omega
  have HF := hid hF
  have GND := hid gnd
  clear H hF gnd
  go_enter Tryz.func119, Tryz.ntmps119
  go_wp2_with fail
  go_loopw [8, 9] (fun v8 v9 wr => ∃ (J k : Nat) (a' : Option Addr) (c' : Nat), 1 ≤ J ∧ J ≤ 25 ∧ k < J ∧ v9 = .int .i64 (J : Int) ∧ v8 = .slice a' k c' ∧ Hid ((frb F.T (J - 1)).length = k) ∧ Hid (wr.ownsRow w.heap.size 3 1 (.slice a' k c') k ((frb F.T (J - 1)).map natV)) ∧ Hid (Below w.heap.size w wr)) (fun _ v9 _ => 25 - (intOf v9).toNat)
  case atStart => exact ⟨1, 0, none, 0, Nat.le_refl _, by omega, by omega, rfl, rfl, hid rfl, hid (World.ownsRow_nil _ _ _ _), hid (Below.refl _ _)⟩
  case round =>
    obtain ⟨J, k, a', c', hJ1, hJ, hk, rfl, rfl, HK, HO, HB⟩ := hrel
    have HBs := HB.out.size
    by_cases hlt : J < 25
    · have hj2 : (J : Int) ≤ 24 := by omega
      have hj0 : (0 : Int) ≤ (J : Int) := by omega
      have hj5 : (J : Int) < 25 := by omega
      have hj3 : J + 1 ≤ 25 := hlt
      have c1' := (HR.out.grow HB.out).c1
      have d1 := (HR.out.grow HB.out).t J hlt
      have HY : Hid (F.T J = false → frb F.T (J + 1 - 1) = frb F.T (J - 1) ++ [J]) := hid (frb_yes F.T J hJ1)
      have HN : Hid (F.T J = true → frb F.T (J + 1 - 1) = frb F.T (J - 1)) := hid (frb_no F.T J hJ1)
      generalize F.T J = tj at d1 HY HN
      cases tj with
      | true =>
        have e := HN.out rfl
        rw [← e] at HK HO
        clear HY HN e
        go_wp2_with fail
        go_roundw
        case rel => exact ⟨J + 1, k, a', c', by omega, hj3, by omega, by go_num, rfl, HK, HO, HB⟩
        case measure => simp [intOf]; omega
      | false =>
        have HE := hid (HY.out rfl)
        clear HY HN
        generalize frb F.T (J - 1) = acc at HK HO HE
        go_wp2_with (at_builtin; go_must (refine wpList_append_own _ rfl (.tmp 27) (.tmp 29) 48 rfl w.heap.size 3 i0 _ 1 8 Tryz.underlying48 hi0 hz0 hz1 hz2 rfl (by decide) _ k (acc.map natV) rfl (HO.out.alloc _) ⟨_, 0, none⟩ 1 1 [natV J] rfl rfl (cell_one _ _ _) (by simp [Value.oneCell', natV]) (by unfold maxLen; omega) (by omega) (by simp; omega) ?_))
        intro v' w6 hO hG hN
        have hbel : Below w.heap.size w w6 := (HB.out.alloc HBs (.cells #[natV J] 3)).grown hG (by simp; omega) (fun x hx => (HO.out.lt x hx).1)
        obtain ⟨va, vc, rfl⟩ : ∃ va vc, v' = .slice va (k + 1) vc := by
          rcases hO.2 with ⟨h1, h2⟩ | ⟨g, c, cur, rfl, _⟩
          · omega
          · exact ⟨_, c, rfl⟩
        have HK2 : Hid ((frb F.T (J + 1 - 1)).length = k + 1) := hid (by rw [HE.out, List.length_append, HK.out]; rfl)
        have HO2 : Hid (w6.ownsRow w.heap.size 3 1 (.slice va (k + 1) vc) (k + 1) ((frb F.T (J + 1 - 1)).map natV)) := hid (by rw [HE.out, List.map_append]; exact hO)
        have HB2 := hid hbel
        clear hO hG hN hbel HO HB HK HE
        go_wp2_with fail
        go_roundw
        case rel => exact ⟨J + 1, k + 1, va, vc, by omega, hj3, by omega, by go_num, rfl, HK2, HO2, HB2⟩
        case measure => simp [intOf]; omega
    · obtain rfl : J = 25 := by omega
      have c0 := (HR.out.grow HB.out).c0
      obtain ⟨ba, bc, eB, hBc, hBm, _⟩ := (HR.out.grow HB.out).blocks n hn
      have c5 := (HR.out.grow HB.out).B n hn
      rw [eB] at c5
      obtain ⟨LB, gLB⟩ : ∃ LB, LB = (F.P n).B.length := ⟨_, rfl⟩
      rw [← gLB] at c5 hBc hB6
      have hw4 : IntKind.i64.wrap ((nd : Int) - (LB : Int)) = (nd : Int) - (LB : Int) := by rw [IntKind.wrap_i64]; omega
      by_cases hfit : (k : Int) < (nd : Int) - (LB : Int)
      · have e : F.fits n s = false := by
          unfold Fs.fits Fs.frees
          rw [← GND.out, ← gLB, show ((List.range' 1 24).filter (fun b => !F.T b)).length = k from HK.out]
          simp; omega
        have GR2 : Hid (R = (F, 28)) := hid (by rw [GR.out, e]; rfl)
        clear e eB gLB GR
        go_wp2_with fail
        go_ret
        rw [GR2.out]
        exact ⟨rfl, HR.out.same HB.out⟩
      · obtain ⟨M, gM⟩ : ∃ M, M = nd - LB := ⟨_, rfl⟩
        have hmax : max ((nd : Int) - (LB : Int)) 0 = (M : Int) := by omega
        have hk24 : (frb F.T 24).length = k := HK.out
        have hMk : M ≤ k := by omega
        have hfr : F.frees = frb F.T 24 := rfl
        have GR2 : Hid (R = (growK F n M, 0)) := hid (by
          have e : F.fits n s = true := by
            unfold Fs.fits
            rw [← GND.out, ← gLB, hfr, hk24]
            simp; omega
          rw [GR.out, e, grow_K, ← GND.out, ← gLB, ← gM]; rfl)
        obtain ⟨w3, hw3⟩ : ∃ w3 : World, w3 = wr := ⟨wr, rfl⟩
        subst hw3
        have HRW := hid (HR.out.grow HB.out)
        have HFT := hid HR.out.foot_lt
        obtain ⟨fa, fc, eF, hfc, hfm, hfcell⟩ := own_shp HO.out
        injection eF with eF1 _ eF3
        subst eF1 eF3
        have HFC := hid hfcell
        have HBL : Hid ((F.P n).B.length ≤ 6) := hid (by rw [← gLB]; exact hB6)
        clear eB gLB hk24 hfcell GR hfit
        go_wp2_with fail
        go_loopw [11, 48] (fun v11 v48 wr => ∃ t : Nat, t ≤ M ∧ v48 = .int .i64 (t : Int) ∧ Hid (RfTo w3 x g u V (growK F n t) wr)) (fun _ v48 _ => M - (intOf v48).toNat)
        case atStart => exact ⟨0, Nat.zero_le _, rfl, hid (by
          rw [growK_0]; exact HRW.out.same (Below.refl _ _))⟩
        case round =>
          obtain ⟨t, ht, rfl, HT⟩ := hrel
          by_cases hlt2 : t < M
          · have q1 : (t : Int) < (M : Int) := by omega
            have q2 : (0 : Int) ≤ (t : Int) := by omega
            have q3 : (t : Int) < (k : Int) := by omega
            obtain ⟨V1, H1, hU1, hV1⟩ := HT.out
            obtain ⟨b, gb⟩ : ∃ b, b = (frb F.T 24)[t]'(by rw [show (frb F.T 24).length = k from HK.out]; omega) := ⟨_, rfl⟩
            obtain ⟨qf, rfl, hqf, hqs, hcc⟩ := HFC.out (by omega)
            have htf : t < (frb F.T 24).length := by rw [show (frb F.T 24).length = k from HK.out]; omega
            have hct := hcc t (natV b) (by rw [List.getElem?_map, List.getElem?_eq_getElem htf, gb]; rfl)
            have hqn : ¬ RfFoot x g u V qf := fun h => by have := HFT.out qf h; omega
            have d1 := (World.cell?_of_block (a := ⟨qf, t, none⟩) (hU1.block qf hqs hqn)).trans hct
            have hb : b < 25 := by
              have hm : b ∈ (frb F.T 24) := by rw [gb]; exact List.getElem_mem htf
              unfold frb at hm
              have := List.mem_range'_1.1 (List.mem_filter.1 hm).1
              omega
            have c0 := H1.c0
            have c1 := H1.c1
            have d2 := H1.t b hb
            have d3 : wr.frozen? ⟨u, b, none⟩ = false := by
              obtain ⟨D, h1, _⟩ := H1.use; simp [World.frozen?, h1]
            have b0 : (0 : Int) ≤ (b : Int) := by omega
            have b1 : (b : Int) < 25 := by omega
            unfold natV at d1
            have hct' := hct
            unfold natV at hct'
            have GB := hid gb
            have HM : Hid (Rf (wr.setCell ⟨u, b, none⟩ (.bool true)).drew x g u V1 { growK F n t with T := updT (growK F n t).T b true }) := hid ((H1.mark b hb true).upd ((Upd.refl (fun _ => False) _).drewN 1) (fun _ _ h => h))
            have HGK : Hid (growK F n (t + 1) = ({ growK F n t with T := updT (growK F n t).T b true } : Fs).at_ n { (growK F n t).P n with B := ((growK F n t).P n).B ++ [b] }) := hid (growK_step F n t b htf gb)
            have HUm : Hid (Upd (RfFoot x g u V) w3 (wr.setCell ⟨u, b, none⟩ (.bool true)).drew) := hid ((hU1.trans (Upd.setCell (F := RfFoot x g u V) wr ⟨u, b, none⟩ (.bool true) (.inr (.inr (.inl rfl)))) (fun b _ h => h)).drewN 1)
            have HV1 := hid hV1
            clear hcc hct HT gb hU1 hV1 htf
            go_wp2_with fail
            go_region
            clear d1 c0 c1 d2 d3 H1
            obtain ⟨w0, gw0⟩ : ∃ w0, w0 = (wr.setCell ⟨u, b, none⟩ (.bool true)).drew := ⟨_, rfl⟩
            rw [← gw0] at HM HUm ⊢
            clear gw0
            have d1 := (World.cell?_of_block (a := ⟨qf, t, none⟩) (HUm.out.block qf hqs hqn)).trans hct'
            have c0 := HM.out.c0
            obtain ⟨ra, rc, eR, hrc, hrm, _⟩ := own_shp (HM.out.rB n hn)
            have c5' := HM.out.B n hn
            have f5 := HM.out.frz (n * 6 + 4)
            have hO5 := HM.out.rB n hn
            rw [eR] at c5' hO5
            obtain ⟨LR, gLR⟩ : ∃ LR, LR = (({ growK F n t with T := updT (growK F n t).T b true } : Fs).P n).B.length := ⟨_, rfl⟩
            rw [← gLR] at c5' hO5 hrc
            have HO5 := hid hO5
            have GLR := hid gLR
            have ER := hid eR
            have hxl : x < w0.heap.size := HM.out.lts.1
            have hgl : g < w0.heap.size := HM.out.lts.2.1
            have hLR : LR ≤ 12 := by
              have h1 : LR ≤ (F.P n).B.length + t := by
                rw [GLR.out]
                show ((growK F n t).P n).B.length ≤ _
                unfold growK
                rw [show (({ F.at_ n { F.P n with B := (F.P n).B ++ F.frees.take t } with T := fun b => if b ∈ F.frees.take t then true else F.T b } : Fs).P n) = { F.P n with B := (F.P n).B ++ F.frees.take t } from Fs.at_self _ _ _]
                simp
                omega
              have h2 := HBL.out
              omega
            have HZ1 : Hid ((w0.alloc (.cells #[natV b] 3)).drew.ownsRow 0 3 1 (.slice ra LR rc) LR ((({ growK F n t with T := updT (growK F n t).T b true } : Fs).P n).B.map fun (b : Nat) => Value.int .i64 (b : Int))) := hid ((Upd.of_below (F := fun _ => False) (alloc1 _ _).drew).own HO5.out (fun _ _ h => h))
            have HBA : Hid (Below w0.heap.size w0 (w0.alloc (.cells #[natV b] 3)).drew) := hid (alloc1 _ _).drew
            have hgx : (⟨g, n * 6 + 4, none⟩ : Addr).block ≠ (⟨x, 0, none⟩ : Addr).block := fun e => HM.out.ne.1 e.symm
            have hgq : (⟨g, n * 6 + 4, none⟩ : Addr).block ≠ (⟨qf, t, none⟩ : Addr).block := fun e => hqn (.inr (.inl e.symm))
            have HZ2 : Hid ((w0.alloc (.cells #[natV b] 3)).drew.cell? ⟨w0.heap.size, 0, none⟩ = some (natV b)) := hid (cell_list (heap_alloc_new w0 (.cells #[natV b] 3)) rfl)
            have hq0 : qf < w0.heap.size := Nat.lt_of_lt_of_le hqs HUm.out.size
            have hqR : (Value.slice ra LR rc).ownBlock ≠ some qf := fun e => by
              have e' := e
              rw [gLR, ← eR] at e'
              rcases HV1.out qf (.inr (.inr (.inr ⟨n * 3 + 1, by omega, e'⟩))) with h | h
              · exact hqn h
              · omega
            have HSS : Hid (∀ W : World, Below w0.heap.size w0 W → W.cell? ⟨x, 0, none⟩ = some (.slice (some ⟨g, 0, none⟩) 17 17) ∧ W.cell? ⟨qf, t, none⟩ = some (.int .i64 (b : Int))) := hid (fun W hb => ⟨(HM.out.grow hb).c0, (hb.cell (p := ⟨qf, t, none⟩) hq0).trans d1⟩)
            have KX : Hid (∀ W w4 : World, Below w0.heap.size w0 W → Upd (fun x => (Value.slice ra LR rc).ownBlock = some x) W w4 → (w4.cell? ⟨x, 0, none⟩ = some (.slice (some ⟨g, 0, none⟩) 17 17) ∧ w4.cell? ⟨qf, t, none⟩ = some (.int .i64 (b : Int))) ∧ w4.cell? ⟨g, n * 6 + 4, none⟩ = some (.slice ra LR rc) ∧ w4.frozen? ⟨g, n * 6 + 4, none⟩ = false) := hid (fun W w4 hb hu => by
              have hng := HM.out.ng (n * 3 + 1)
              rw [eR, ← gLR] at hng
              have hW := HM.out.grow hb
              have hx4 : w4.heap[x]? = W.heap[x]? := hu.block x (Nat.lt_of_lt_of_le hxl hb.size) (fun e => (hng x (by omega) e).1 rfl)
              have hg4 : w4.heap[g]? = W.heap[g]? := hu.block g (Nat.lt_of_lt_of_le hgl hb.size) (fun e => (hng g (by omega) e).2.1 rfl)
              have k5 := hW.B n hn
              rw [eR, ← gLR] at k5
              have hq4 : w4.heap[qf]? = W.heap[qf]? := hu.block qf (Nat.lt_of_lt_of_le hq0 hb.size) (fun e => hqR e)
              refine ⟨⟨(World.cell?_of_block (a := ⟨x, 0, none⟩) hx4).trans hW.c0, (World.cell?_of_block (a := ⟨qf, t, none⟩) hq4).trans ((hb.cell (p := ⟨qf, t, none⟩) hq0).trans d1)⟩, (World.cell?_of_block (a := ⟨g, n * 6 + 4, none⟩) hg4).trans k5, ?_⟩
              have := hW.frz (n * 6 + 4)
              unfold World.frozen? at this ⊢
              rw [hg4]; exact this)
            clear hO5 gLR eR
            go_wp2_with fail
            refine wp_region_held_drew (S := (fun W : World => W.cell? ⟨x, 0, none⟩ = some (.slice (some ⟨g, 0, none⟩) 17 17) ∧ W.cell? ⟨qf, t, none⟩ = some (.int .i64 (b : Int)))) (by kernel_rfl) ?_ (fun hHeld => ?_)
            · (try dsimp only); exact HSS.out _ (Below.refl _ _).drew
            refine wpAnyH_take (i := 0) (v := ?_) rfl (by kernel_rfl) (by kernel_rfl) (by kernel_rfl) (fun _ _ _ h => h) (Or.inl ⟨by rfl, ?_⟩) (by assumption) ?_
            rotate_left 1
            · intro w hSw
              (try dsimp only at hSw)
              go_simp
              try with_reducible rfl
            (try simp only [Act.put, List.getElem_toArray, List.getElem_cons_zero, List.setIfInBounds_toArray, List.set_cons_zero, List.set_cons_succ])
            refine wpAnyH_take (i := 1) (v := ?_) rfl (by kernel_rfl) (by kernel_rfl) (by kernel_rfl) (fun _ _ _ h => h) (Or.inl ⟨by rfl, ?_⟩) (by assumption) ?_
            rotate_left 1
            · intro w hSw
              (try dsimp only at hSw)
              go_simp
              try with_reducible rfl
            (try simp only [Act.put, List.getElem_toArray, List.getElem_cons_succ, List.getElem_cons_zero, List.setIfInBounds_toArray, List.set_cons_zero, List.set_cons_succ])
            refine wpAnyH_take (i := 2) (v := ?_) rfl (by kernel_rfl) (by kernel_rfl) (by kernel_rfl) (fun _ _ _ h => h) (Or.inl ⟨by rfl, ?_⟩) (by assumption) ?_
            rotate_left 1
            · intro w hSw
              (try dsimp only at hSw)
              go_simp
              try with_reducible rfl
            (try simp only [Act.put, List.getElem_toArray, List.getElem_cons_succ, List.getElem_cons_zero, List.setIfInBounds_toArray, List.set_cons_zero, List.set_cons_succ])
            refine wpAnyH_take (i := 3) (v := ?_) rfl (by kernel_rfl) (by kernel_rfl) (by kernel_rfl) (fun _ _ _ h => h) (Or.inl ⟨by rfl, ?_⟩) (by assumption) ?_
            rotate_left 1
            · intro w hSw
              (try dsimp only at hSw)
              go_simp
              try with_reducible rfl
            (try simp only [Act.put, List.getElem_toArray, List.getElem_cons_succ, List.getElem_cons_zero, List.setIfInBounds_toArray, List.set_cons_zero, List.set_cons_succ])
            refine wpAnyH_take (i := 4) (v := ?_) rfl (by kernel_rfl) (by kernel_rfl) (by kernel_rfl) (fun _ _ _ h => h) (Or.inl ⟨by rfl, ?_⟩) (by assumption) ?_
            rotate_left 1
            · intro w hSw
              (try dsimp only at hSw)
              go_simp
              try with_reducible rfl
            (try simp only [Act.put, List.getElem_toArray, List.getElem_cons_succ, List.getElem_cons_zero, List.setIfInBounds_toArray, List.set_cons_zero, List.set_cons_succ])
            refine wpAnyH_take (i := 5) (v := ?_) rfl (by kernel_rfl) (by kernel_rfl) (by kernel_rfl) (fun _ _ _ h => h) (Or.inl ⟨by rfl, ?_⟩) (by assumption) ?_
            rotate_left 1
            · intro w hSw
              (try dsimp only at hSw)
              go_simp
              try with_reducible rfl
            (try simp only [Act.put, List.getElem_toArray, List.getElem_cons_succ, List.getElem_cons_zero, List.setIfInBounds_toArray, List.set_cons_zero, List.set_cons_succ])
            refine wpAnyH_take (i := 6) (v := ?_) rfl (by kernel_rfl) (by kernel_rfl) (by kernel_rfl) (fun _ _ _ h => h) (Or.inl ⟨by rfl, ?_⟩) (by assumption) ?_
            rotate_left 1
            · intro w hSw
              (try dsimp only at hSw)
              go_simp
              try with_reducible rfl
            (try simp only [Act.put, List.getElem_toArray, List.getElem_cons_succ, List.getElem_cons_zero, List.setIfInBounds_toArray, List.set_cons_zero, List.set_cons_succ])
            refine wpAnyH_take (i := 7) (v := ?_) rfl (by kernel_rfl) (by kernel_rfl) (by kernel_rfl) (fun _ _ _ h => h) (Or.inl ⟨by rfl, ?_⟩) (by assumption) ?_
            rotate_left 1
            · intro w hSw
              (try dsimp only at hSw)
              go_simp
              try with_reducible rfl
            (try simp only [Act.put, List.getElem_toArray, List.getElem_cons_succ, List.getElem_cons_zero, List.setIfInBounds_toArray, List.set_cons_zero, List.set_cons_succ])
            refine wpAnyH_take (i := 8) (v := ?_) rfl (by kernel_rfl) (by kernel_rfl) (by kernel_rfl) (fun _ _ _ h => h) (Or.inl ⟨by rfl, ?_⟩) (by assumption) ?_
            rotate_left 1
            · intro w hSw
              (try dsimp only at hSw)
              go_simp
              try with_reducible rfl
            (try simp only [Act.put, List.getElem_toArray, List.getElem_cons_succ, List.getElem_cons_zero, List.setIfInBounds_toArray, List.set_cons_zero, List.set_cons_succ])
            refine wpAnyH_take (i := 9) (v := ?_) rfl (by kernel_rfl) (by kernel_rfl) (by kernel_rfl) (fun _ _ _ h => h) (Or.inl ⟨by rfl, ?_⟩) (by assumption) ?_
            rotate_left 1
            · intro w hSw
              (try dsimp only at hSw)
              go_simp
              try with_reducible rfl
            (try simp only [Act.put, List.getElem_toArray, List.getElem_cons_succ, List.getElem_cons_zero, List.setIfInBounds_toArray, List.set_cons_zero, List.set_cons_succ])
            refine wpAnyH_take (i := 10) (v := ?_) rfl (by kernel_rfl) (by kernel_rfl) (by kernel_rfl) (fun _ _ _ h => h) (Or.inl ⟨by rfl, ?_⟩) (by assumption) ?_
            rotate_left 1
            · intro w hSw
              (try dsimp only at hSw)
              go_simp
              try with_reducible rfl
            (try simp only [Act.put, List.getElem_toArray, List.getElem_cons_succ, List.getElem_cons_zero, List.setIfInBounds_toArray, List.set_cons_zero, List.set_cons_succ])
            refine wpAnyH_take (i := 11) (v := ?_) rfl (by kernel_rfl) (by kernel_rfl) (by kernel_rfl) (fun _ _ _ h => h) (Or.inl ⟨by rfl, ?_⟩) (by assumption) ?_
            rotate_left 1
            · intro w hSw
              (try dsimp only at hSw)
              go_simp
              try with_reducible rfl
            (try simp only [Act.put, List.getElem_toArray, List.getElem_cons_succ, List.getElem_cons_zero, List.setIfInBounds_toArray, List.set_cons_zero, List.set_cons_succ])
            refine wpAnyH_take (i := 13) (v := ?_) rfl (by kernel_rfl) (by kernel_rfl) (by kernel_rfl) (fun _ _ _ h => h) (Or.inl ⟨by rfl, ?_⟩) (by assumption) ?_
            rotate_left 1
            · intro w hSw
              (try dsimp only at hSw)
              go_simp
              try with_reducible rfl
            (try simp only [Act.put, List.getElem_toArray, List.getElem_cons_succ, List.getElem_cons_zero, List.setIfInBounds_toArray, List.set_cons_zero, List.set_cons_succ])
            refine wpAnyH_take (i := 14) (v := ?_) rfl (by kernel_rfl) (by kernel_rfl) (by kernel_rfl) (fun _ _ _ h => h) (Or.inl ⟨by rfl, ?_⟩) (by assumption) ?_
            rotate_left 1
            · intro w hSw
              (try dsimp only at hSw)
              go_simp
              try with_reducible rfl
            (try simp only [Act.put, List.getElem_toArray, List.getElem_cons_succ, List.getElem_cons_zero, List.setIfInBounds_toArray, List.set_cons_zero, List.set_cons_succ])
            refine wpAnyH_take (i := 15) (v := ?_) rfl (by kernel_rfl) (by kernel_rfl) (by kernel_rfl) (fun _ _ _ h => h) (Or.inl ⟨by rfl, ?_⟩) (by assumption) ?_
            rotate_left 1
            · intro w hSw
              (try dsimp only at hSw)
              go_simp
              try with_reducible rfl
            (try simp only [Act.put, List.getElem_toArray, List.getElem_cons_succ, List.getElem_cons_zero, List.setIfInBounds_toArray, List.set_cons_zero, List.set_cons_succ])
            refine wpAnyH_take (i := 16) (v := ?_) rfl (by kernel_rfl) (by kernel_rfl) (by kernel_rfl) (fun _ _ _ h => h) (Or.inl ⟨by rfl, ?_⟩) (by assumption) ?_
            rotate_left 1
            · intro w hSw
              (try dsimp only at hSw)
              go_simp
              try with_reducible rfl
            (try simp only [Act.put, List.getElem_toArray, List.getElem_cons_succ, List.getElem_cons_zero, List.setIfInBounds_toArray, List.set_cons_zero, List.set_cons_succ])
            refine wpAnyH_ready (rs := [12, 17]) (by kernel_rfl) (by simp) ?_
            refine AllReadyH.cons rfl (fun K hK => ?_) (AllReadyH.cons rfl (fun K hK => ?_) (AllReadyH.nil))
            · go_simp
              refine hK.out _ _ ?_ (fun hHeld => ?_)
              · exact HSS.out _ (Below.refl _ _).drew
              clear hK K
              (try simp only [Act.put, List.getElem_toArray, List.getElem_cons_succ, List.getElem_cons_zero, List.setIfInBounds_toArray, List.set_cons_zero, List.set_cons_succ])
              refine wpAnyH_ready (rs := [17]) (by kernel_rfl) (by simp) ?_
              refine AllReadyH.cons rfl (fun K hK => ?_) (AllReadyH.nil)
              go_simp
              refine hK.out _ _ ?_ (fun hHeld => ?_)
              · exact HSS.out _ (by first | exact (alloc1 _ _).drew | exact alloc1 _ _)
              clear hK K
              (try simp only [Act.put, List.getElem_toArray, List.getElem_cons_succ, List.getElem_cons_zero, List.setIfInBounds_toArray, List.set_cons_zero, List.set_cons_succ])
              refine wpAnyH_ready (rs := [18]) (by kernel_rfl) (by simp) ?_
              refine AllReadyH.cons rfl (fun K hK => ?_) (AllReadyH.nil)
              refine step_nat (by rfl) _ _ (by rfl) _ LR _ (by simp [Act.eval]; rfl) (by first | exact HZ1.out | exact HO5.out.alloc _) _ (natV b) (by simp [Act.eval]; rfl) (by first | exact HZ2.out | exact cell_list (heap_alloc_new _ _) rfl) rfl (by omega) ?_
              intro av cv w4 HO4 HU4 HW4
              have HX4 := hid (KX.out _ w4 (by first | exact (alloc1 _ _).drew | exact alloc1 _ _) HU4.out)
              refine hK.out _ _ ?_ (fun hHeld => ?_)
              · exact HX4.out.1
              clear hK K
              (try simp only [Act.put, List.getElem_toArray, List.getElem_cons_succ, List.getElem_cons_zero, List.setIfInBounds_toArray, List.set_cons_zero, List.set_cons_succ])
              refine wpAnyH_take (i := 19) (v := ?_) rfl (by kernel_rfl) (by kernel_rfl) (by kernel_rfl) (fun _ _ _ h => h) (Or.inl ⟨by rfl, ?_⟩) (by assumption) ?_
              rotate_left 1
              · intro w hSw
                (try dsimp only at hSw)
                go_simp
                try with_reducible rfl
              (try simp only [Act.put, List.getElem_toArray, List.getElem_cons_succ, List.getElem_cons_zero, List.setIfInBounds_toArray, List.set_cons_zero, List.set_cons_succ])
              refine wpAnyH_take (i := 20) (v := ?_) rfl (by kernel_rfl) (by kernel_rfl) (by kernel_rfl) (fun _ _ _ h => h) (Or.inl ⟨by rfl, ?_⟩) (by assumption) ?_
              rotate_left 1
              · intro w hSw
                (try dsimp only at hSw)
                go_simp
                try with_reducible rfl
              (try simp only [Act.put, List.getElem_toArray, List.getElem_cons_succ, List.getElem_cons_zero, List.setIfInBounds_toArray, List.set_cons_zero, List.set_cons_succ])
              refine wpAnyH_ready (rs := [21]) (by kernel_rfl) (by simp) ?_
              refine AllReadyH.cons rfl (fun K hK => ?_) (AllReadyH.nil)
              obtain ⟨⟨y0, y3⟩, y1, y2⟩ := HX4.out
              go_simp
              have HT4 := hid ((HM.out.blk n hn b (.slice av (LR + 1) cv) (by first | exact HBA.out | exact alloc1 _ _) (by rw [ER.out, ← GLR.out]; exact HU4.out) (by have h := HO4.out; rw [GLR.out] at h ⊢; rw [List.length_append]; exact h) (by rw [ER.out, ← GLR.out]; exact HW4.out)))
              refine hK.out _ _ ?_ (fun hHeld => ?_)
              · exact ⟨(World.cell?_setCell_far _ _ _ _ hgx).trans y0, (World.cell?_setCell_far _ _ _ _ hgq).trans y3⟩
              clear hK K
              (try simp only [Act.put, List.getElem_toArray, List.getElem_cons_succ, List.getElem_cons_zero, List.setIfInBounds_toArray, List.set_cons_zero, List.set_cons_succ])
              refine wpAnyH_done (by kernel_rfl) ?_ _
              have HT5 : Hid (RfTo w3 x g u V (growK F n (t + 1)) (w4.setCell ⟨g, n * 6 + 4, none⟩ (.slice av (LR + 1) cv))) := hid (by rw [HGK.out]; exact RfTo.trans HUm.out HV1.out HT4.out)
              clear HO4 HU4 HW4 HX4 HT4 HM HGK y0 y1 y2 y3 hHeld
              go_wp2_with fail
              go_roundw
              case rel => exact ⟨t + 1, by omega, by go_num, HT5⟩
              case measure => simp [intOf]; omega
            · go_simp
              refine hK.out _ _ ?_ (fun hHeld => ?_)
              · exact HSS.out _ (by first | exact (alloc1 _ _).drew | exact alloc1 _ _)
              clear hK K
              (try simp only [Act.put, List.getElem_toArray, List.getElem_cons_succ, List.getElem_cons_zero, List.setIfInBounds_toArray, List.set_cons_zero, List.set_cons_succ])
              refine wpAnyH_ready (rs := [12]) (by kernel_rfl) (by simp) ?_
              refine AllReadyH.cons rfl (fun K hK => ?_) (AllReadyH.nil)
              have c6 := ((alloc1 w0 (.cells #[natV b] 3)).cell (p := ⟨g, n * 6 + 4, none⟩) hgl).trans c5'
              unfold natV at c6
              go_simp
              refine hK.out _ _ ?_ (fun hHeld => ?_)
              · exact HSS.out _ (by first | exact (alloc1 _ _).drew | exact alloc1 _ _)
              clear hK K
              (try simp only [Act.put, List.getElem_toArray, List.getElem_cons_succ, List.getElem_cons_zero, List.setIfInBounds_toArray, List.set_cons_zero, List.set_cons_succ])
              refine wpAnyH_ready (rs := [18]) (by kernel_rfl) (by simp) ?_
              refine AllReadyH.cons rfl (fun K hK => ?_) (AllReadyH.nil)
              refine step_nat (by rfl) _ _ (by rfl) _ LR _ (by simp [Act.eval]; rfl) (by first | exact HZ1.out | exact HO5.out.alloc _) _ (natV b) (by simp [Act.eval]; rfl) (by first | exact HZ2.out | exact cell_list (heap_alloc_new _ _) rfl) rfl (by omega) ?_
              intro av cv w4 HO4 HU4 HW4
              have HX4 := hid (KX.out _ w4 (by first | exact (alloc1 _ _).drew | exact alloc1 _ _) HU4.out)
              refine hK.out _ _ ?_ (fun hHeld => ?_)
              · exact HX4.out.1
              clear hK K
              (try simp only [Act.put, List.getElem_toArray, List.getElem_cons_succ, List.getElem_cons_zero, List.setIfInBounds_toArray, List.set_cons_zero, List.set_cons_succ])
              refine wpAnyH_take (i := 19) (v := ?_) rfl (by kernel_rfl) (by kernel_rfl) (by kernel_rfl) (fun _ _ _ h => h) (Or.inl ⟨by rfl, ?_⟩) (by assumption) ?_
              rotate_left 1
              · intro w hSw
                (try dsimp only at hSw)
                go_simp
                try with_reducible rfl
              (try simp only [Act.put, List.getElem_toArray, List.getElem_cons_succ, List.getElem_cons_zero, List.setIfInBounds_toArray, List.set_cons_zero, List.set_cons_succ])
              refine wpAnyH_take (i := 20) (v := ?_) rfl (by kernel_rfl) (by kernel_rfl) (by kernel_rfl) (fun _ _ _ h => h) (Or.inl ⟨by rfl, ?_⟩) (by assumption) ?_
              rotate_left 1
              · intro w hSw
                (try dsimp only at hSw)
                go_simp
                try with_reducible rfl
              (try simp only [Act.put, List.getElem_toArray, List.getElem_cons_succ, List.getElem_cons_zero, List.setIfInBounds_toArray, List.set_cons_zero, List.set_cons_succ])
              refine wpAnyH_ready (rs := [21]) (by kernel_rfl) (by simp) ?_
              refine AllReadyH.cons rfl (fun K hK => ?_) (AllReadyH.nil)
              obtain ⟨⟨y0, y3⟩, y1, y2⟩ := HX4.out
              go_simp
              have HT4 := hid ((HM.out.blk n hn b (.slice av (LR + 1) cv) (by first | exact HBA.out | exact alloc1 _ _) (by rw [ER.out, ← GLR.out]; exact HU4.out) (by have h := HO4.out; rw [GLR.out] at h ⊢; rw [List.length_append]; exact h) (by rw [ER.out, ← GLR.out]; exact HW4.out)))
              refine hK.out _ _ ?_ (fun hHeld => ?_)
              · exact ⟨(World.cell?_setCell_far _ _ _ _ hgx).trans y0, (World.cell?_setCell_far _ _ _ _ hgq).trans y3⟩
              clear hK K
              (try simp only [Act.put, List.getElem_toArray, List.getElem_cons_succ, List.getElem_cons_zero, List.setIfInBounds_toArray, List.set_cons_zero, List.set_cons_succ])
              refine wpAnyH_done (by kernel_rfl) ?_ _
              have HT5 : Hid (RfTo w3 x g u V (growK F n (t + 1)) (w4.setCell ⟨g, n * 6 + 4, none⟩ (.slice av (LR + 1) cv))) := hid (by rw [HGK.out]; exact RfTo.trans HUm.out HV1.out HT4.out)
              clear HO4 HU4 HW4 HX4 HT4 HM HGK y0 y1 y2 y3 hHeld
              go_wp2_with fail
              go_roundw
              case rel => exact ⟨t + 1, by omega, by go_num, HT5⟩
              case measure => simp [intOf]; omega
          · have q1 : ¬ (t : Int) < (M : Int) := by omega
            obtain rfl : t = M := by omega
            go_wp2_with fail
            go_ret
            rw [GR2.out]
            exact ⟨rfl, RfTo.below HB.out HT.out⟩

end Go.Proofs.YtbglhmcahnkbfaaGreat
