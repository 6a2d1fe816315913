/- The walk of the document's Decode. Written by gen_brmain.py. -/
import Derived.Test.YtpbhcmfbcnihiaaGreatBRStep2
namespace Go.Proofs.YtpbhcmfbcnihiaaGreat
open Go.RowKit Num
set_option linter.unusedVariables false
set_option maxRecDepth 20000

theorem cp5 {w : World} {b : Nat} {a r s v : Int} {x : Value} {t : TypeId} (h : w.heap[b]? = some (.cells #[.int .i64 a, .int .i64 r, .int .i64 s, .int .i64 v, x] t (0, 0))) : w.cell? ⟨b, 0, none⟩ = some (.int .i64 a) ∧ w.cell? ⟨b, 1, none⟩ = some (.int .i64 r) ∧ w.cell? ⟨b, 2, none⟩ = some (.int .i64 s) ∧ w.cell? ⟨b, 3, none⟩ = some (.int .i64 v) ∧ w.cell? ⟨b, 4, none⟩ = some x :=
  ⟨cell_of_row w b 0 _ _ _ h, cell_of_row w b 1 _ _ _ h, cell_of_row w b 2 _ _ _ h, cell_of_row w b 3 _ _ _ h, cell_of_row w b 4 _ _ _ h⟩
theorem news_at {w : World} {B : Nat} {cs : List Value} {t : TypeId} (h : w.heap[B]? = some (.cells cs.toArray t (0, 0))) : ∀ j u, cs[j]? = some u → w.cell? ((⟨B, 0, none⟩ : Addr).add j) = some u := by
  intro j u hj
  rw [Addr.add_lit]
  rw [cell_of_row w B _ _ _ _ h]
  simpa using hj
theorem own_form {w : World} {B e size n : Nat} {v : Value} {xs : List Value} (h : w.ownsRow B e size v n xs) (h0 : 0 < n) : ∃ g c, v = .slice (some ⟨g, 0, none⟩) n c := by
  rcases h.2 with ⟨rfl, hn⟩ | ⟨g, cap, cur, rfl, _⟩
  · omega
  · exact ⟨g, cap, rfl⟩
theorem strs_ne {x y : ByteArray} (h : x ≠ y) : (x.toList == y.toList) = false := by
  rw [ByteArray.toList_eq, ByteArray.toList_eq]
  simp only [beq_eq_false_iff_ne]
  intro e
  refine h ?_
  cases x
  cases y
  congr 1
  exact Array.toList_inj.1 e
theorem copR_text (s : Rs) (h : (uR (uR s).2).1 = 0) : copR s = (⟨(uR s).1, -1, 0, 0, (tR (uR (uR s).2).2).1⟩, (tR (uR (uR s).2).2).2) := by unfold copR; rw [if_pos h]
theorem copR_res (s : Rs) (h : ¬ (uR (uR s).2).1 = 0) : copR s = (⟨(uR s).1, ((uR (uR s).2).1 : Int) - 1, (uR (uR (uR s).2).2).1, unf (uR (uR (uR (uR s).2).2).2).1, []⟩, (uR (uR (uR (uR s).2).2).2).2) := by unfold copR; rw [if_neg h]

set_option maxHeartbeats 32000000 in
theorem rdecode_any (a : Option Addr) (n c : Nat) (zs : List Int) (w : World) (hs : Src w a n zs) (hz : Bytes zs) (hnc : n ≤ c) (hc : c ≤ 281474976710656) (hnil : a = none → c = 0) :
    Calls Tryz.prog 14 #[.slice a n c] w (DecPost w (dcd zs)) := by
  obtain ⟨ix, hix, hx0, hx1, hx2⟩ := info_parts infoTX
  obtain ⟨ic, hic, hc0, hc1, hc2⟩ := info_parts infoTCP
  obtain ⟨iw, hiw, hw0, hw1, hw2⟩ := info_parts infoTW
  obtain ⟨R, gR⟩ : ∃ R, dcd zs = R := ⟨_, rfl⟩
  rw [gR]
  have HD := hid ((dcd_doc zs).resolve_right (fun h => h hz))
  rw [gR] at HD
  unfold pgR at HD
  obtain ⟨X, gX⟩ : ∃ X, X = (w.alloc (.cells #[.slice a n c] 64)).alloc (.cells #[.pointer (some ⟨w.heap.size, 0, none⟩), .bool false] 66) := ⟨_, rfl⟩
  have hbX : Below w.heap.size w X := by rw [gX]; exact below_box2 _ _ _
  have hRf0 : Rf X w.heap.size (w.heap.size + 1) w.heap.size ⟨zs, false⟩ := by
    refine ⟨by rw [gX]; exact heap2 w _ _, ⟨a, n, c, ?_, hnc, hc, hnil, hs.below hbX, fun b o h0 e => ?_⟩, by omega, Nat.le_refl _, by omega, hz⟩
    · rw [gX, (below_box _ _).block w.heap.size (by simp)]
      exact heap1 w _
    · obtain ⟨b', o', e', hlt, _⟩ := hs.2 h0
      rw [e] at e'
      cases e'
      exact hlt
  have k1 := hid (rcount18 w.heap.size (w.heap.size + 1) w.heap.size 64 (by omega) ⟨zs, false⟩ X hRf0)
  have hle := cR_le 64 ⟨zs, false⟩
  generalize cR 64 ⟨zs, false⟩ = C1 at k1 HD hle
  obtain ⟨n1, s1⟩ := C1
  dsimp only at k1 HD hle
  have HS := hid hs
  have HZ := hid hz
  have HX := hid hbX
  have GX := hid gX
  obtain ⟨p, gp⟩ : ∃ p, p = w.heap.size + 1 := ⟨_, rfl⟩
  obtain ⟨q, gq⟩ : ∃ q, q = w.heap.size := ⟨_, rfl⟩
  clear hs hz gR hRf0 gX hbX
  go_enter Tryz.func14, Tryz.ntmps14
  go_wp2_with fail
  rw [← GX.out]
  refine k1.out.mono ?_
  rintro e w1 ⟨rfl, hRf1, hU1⟩
  have hRf1' : Rf w1 w.heap.size p q s1 := by rw [gp, gq]; exact hRf1
  have hnil0 : ∀ g, (Value.slice none 0 0).ownBlock = some g → False := fun g hg => by simp [Value.ownBlock] at hg
  have hs1 := hU1.size
  have hB1 : Below w.heap.size w w1 := HX.out.trans (hU1.below HX.out.size (fun x hx => by omega))
  have HI : Hid (InvO w p q s1 0 (.slice none 0 0) w1) := hid ⟨fun _ => False, hRf1', fun k hk => hk.elim, Rw.nil _ _ _ _ _, fun g hg => (hnil0 g hg).elim, (by intro x hx; simp [mR] at hx), hB1⟩
  have HNIL := hid hnil0
  clear hRf1 hRf1' hU1 hB1 k1 GX HX hnil0
  have hpq : w.heap.size ≤ q := by omega
  have hpp : w.heap.size ≤ p := by omega
  have hne : p ≠ q := by omega
  rw [← gp]
  have GP := hid gp
  have GQ := hid gq
  clear gp gq hs1
  go_wp2_with fail
  go_loopw [5, 20] (fun out k wr => ∃ i : Nat, i ≤ n1 ∧ k = .int .i64 i ∧ Hid (InvO w p q s1 i out wr)) (fun _ k _ => n1 - (intOf k).toNat)
  case atStart => exact ⟨0, Nat.zero_le _, rfl, HI⟩
  case round =>
    obtain ⟨i, hi, rfl, HIO⟩ := hrel
    rename World => wo
    by_cases hlt : i < n1
    · have hIO := HIO.out
      obtain ⟨M, hRf, hM, hRw, hout, hbyp, hB⟩ := hIO
      have k2 := hid (ruint18 w.heap.size p q _ wo hRf)
      have hpl := hRf.pl
      have hql := hRf.ql
      have hu1 := uR_lt hRf.by_
      obtain ⟨S, gS⟩ : ∃ S, (mR exR i s1).2 = S := ⟨_, rfl⟩
      rw [gS] at k2 hu1
      have GS := hid gS
      have hexR : exR S = (⟨(uR S).1, (mR copR (cR 400 (uR S).2).1 (cR 400 (uR S).2).2).1, (mR wdR (cR 6 (mR copR (cR 400 (uR S).2).1 (cR 400 (uR S).2).2).2).1 (cR 6 (mR copR (cR 400 (uR S).2).1 (cR 400 (uR S).2).2).2).2).1⟩, (mR wdR (cR 6 (mR copR (cR 400 (uR S).2).1 (cR 400 (uR S).2).2).2).1 (cR 6 (mR copR (cR 400 (uR S).2).1 (cR 400 (uR S).2).2).2).2).2) := rfl
      generalize uR S = U1 at k2 hu1 hexR
      obtain ⟨m1, sA⟩ := U1
      dsimp only at k2 hu1 hexR
      have hle2 := cR_le 400 sA
      have HEX := hid hexR
      have HO := hid (And.intro hM (And.intro hRw (And.intro hout (And.intro hbyp hB))))
      have hLo : w.heap.size ≤ wo.heap.size := hB.size
      clear hRf hM hRw hout hbyp hB gS hexR
      go_wp2_with fail
      refine k2.out.mono ?_
      rintro e b1 ⟨rfl, hRf1, hU1⟩
      have hs1 := hU1.size
      obtain ⟨xb, gxb⟩ : ∃ xb, xb = b1.heap.size := ⟨_, rfl⟩
      obtain ⟨b2, gb2⟩ : ∃ b2, b2 = b1.alloc (.cells #[.int .i64 m1, .slice none 0 0, .slice none 0 0] 48) := ⟨_, rfl⟩
      have hb2 : Below b1.heap.size b1 b2 := by rw [gb2]; exact below_box _ _
      have hb2s : xb < b2.heap.size := by rw [gb2, gxb]; simp
      have hx2' : b2.heap[xb]? = some (.cells #[.int .i64 m1, .slice none 0 0, .slice none 0 0] 48 (0, 0)) := by rw [gb2, gxb]; exact heap1 b1 _
      have k3 := hid (rcount18 w.heap.size p q 400 (by omega) sA b2 (hRf1.below hb2))
      have hU2 : Upd (fun k => k = p ∨ k = q) wo b2 := hU1.trans (Upd.of_below (F := fun k => k = p ∨ k = q) hb2) (fun _ _ h => h)
      generalize cR 400 sA = C2 at k3 hle2 HEX
      obtain ⟨cn, sB⟩ := C2
      dsimp only at k3 hle2 HEX
      have GB2 := hid gb2
      have HU2 := hid hU2
      have HX2 := hid hx2'
      have GXB := hid gxb
      have hxbo : wo.heap.size ≤ xb := by omega
      clear hRf1 hU1 hb2 hx2' hU2 gb2 k2
      go_wp2_with fail
      rw [← GB2.out]
      refine k3.out.mono ?_
      rintro e b3 ⟨rfl, hRf3, hU3⟩
      have hs3 := hU3.size
      have hpx : p ≠ xb := by omega
      have hqx : q ≠ xb := by omega
      have hxb3 := hU3.heap HX2.out (by omega)
      have hM0 := HO.out.1
      have HIC : Hid (InvC b3 w.heap.size p q xb M m1 sB 0 b3) := hid ⟨M, .slice none 0 0, hRf3, fun k hk => hk, fun k hk => ⟨.inl hk, by have := (hM0 k hk).2.1; omega⟩, hxb3, Rw.nil _ _ _ _ _, fun g hg => (HNIL.out g hg).elim, (by intro x hx; simp [mR] at hx), Upd.refl _ _⟩
      have HUo3 := hid (HU2.out.trans hU3 (fun _ _ h => h))
      have hMw : ∀ k, M k → k ≠ p ∧ k ≠ q ∧ k ≠ xb ∧ k < b3.heap.size := fun k hk => by have := hM0 k hk; omega
      have HMW := hid hMw
      have hxl : xb < b3.heap.size := by omega
      have hpl3 : p < b3.heap.size := by omega
      have hql3 : q < b3.heap.size := by omega
      have hLx : w.heap.size ≤ xb := by omega
      have hL3 : w.heap.size ≤ b3.heap.size := by omega
      rw [← GXB.out]
      clear hRf3 hU3 hxb3 hM0 hMw k3 gxb
      go_wp2_with fail
      go_loopw [27] (fun k wr => ∃ j : Nat, j ≤ cn ∧ k = .int .i64 j ∧ Hid (InvC b3 w.heap.size p q xb M m1 sB j wr)) (fun k _ => cn - (intOf k).toNat)
      case atStart => exact ⟨0, Nat.zero_le _, rfl, HIC⟩
      case round =>
        obtain ⟨j, hj, rfl, HICj⟩ := hrel
        rename World => wj
        by_cases hjt : j < cn
        · obtain ⟨M', vc, hRfj, hM1, hM2, hcell, ⟨D, hD, hIs⟩, hvc, hby, hUj⟩ := HICj.out
          have hjl : (mR copR j sB).1.length = j := mR_len copR sB j
          have k4 := hid (ruint18 w.heap.size p q _ wj hRfj)
          have hu1' := uR_lt hRfj.by_
          obtain ⟨T, gT⟩ : ∃ T, (mR copR j sB).2 = T := ⟨_, rfl⟩
          have HJ := hid (And.intro hM1 (And.intro hM2 (And.intro hcell (And.intro hD (And.intro hIs (And.intro hvc (And.intro hby hUj)))))))
          rw [gT] at k4 hu1'
          have hcop1 := copR_text T
          have hcop2 := copR_res T
          generalize uR T = V1 at k4 hu1' hcop1 hcop2
          obtain ⟨v1, t1⟩ := V1
          dsimp only at k4 hu1' hcop1 hcop2
          have hsj := hUj.size
          have GT := hid gT
          have hjb : w.heap.size ≤ wj.heap.size := by omega
          clear hRfj hM1 hM2 hcell hD hIs hvc hby hUj gT
          go_wp2_with fail
          refine k4.out.mono ?_
          rintro e a1 ⟨rfl, hRa1, hUa1⟩
          have k5 := hid (ruint18 w.heap.size p q _ a1 hRa1)
          have hu2' := uR_lt hRa1.by_
          generalize uR t1 = V2 at k5 hu2' hcop1 hcop2
          obtain ⟨v2, t2⟩ := V2
          dsimp only at k5 hu2' hcop1 hcop2
          have hsa1 := hUa1.size
          have HUa1 := hid hUa1
          clear hRa1 hUa1 k4
          go_wp2_with fail
          refine k5.out.mono ?_
          rintro e a2 ⟨rfl, hRa2, hUa2⟩
          have hsa2 := hUa2.size
          have HUa2 := hid (HUa1.out.trans hUa2 (fun _ _ h => h))
          obtain ⟨cb, gcb⟩ : ∃ cb, cb = a2.heap.size := ⟨_, rfl⟩
          have hcbj : wj.heap.size ≤ cb := by omega
          clear hUa2 k5 HUa1
          by_cases hv2 : v2 = 0
          · subst hv2
            replace hcop1 := hcop1 rfl
            obtain ⟨a3, ga3⟩ : ∃ a3, a3 = a2.alloc (.cells #[.int .i64 v1, .int .i64 (-1), .int .i64 0, .int .i64 0, .slice none 0 0] 50) := ⟨_, rfl⟩
            have ha3 : Below a2.heap.size a2 a3 := by rw [ga3]; exact below_box _ _
            have hcb3 : a3.heap[cb]? = some (.cells #[.int .i64 v1, .int .i64 (-1), .int .i64 0, .int .i64 0, .slice none 0 0] 50 (0, 0)) := by rw [ga3, gcb]; exact heap1 a2 _
            have hR3 := hRa2.below ha3
            have k6 := hid (rtext18 w.heap.size p q _ a3 hR3)
            have y0 : a3.cell? ⟨p, 0, none⟩ = some (.pointer (some ⟨q, 0, none⟩)) := cell_of_row a3 p 0 _ _ _ hR3.own
            have hTb := txt_bytes hR3.by_ 2048
            have hTl := txt_len t2.zs 2048
            have hR3z : t2.zs.length ≤ 281474976710656 := by
              obtain ⟨_, _, _, _, q2, q3, _, q5, _⟩ := hR3.ref
              have := q5.1
              omega
            unfold tR at hcop1
            generalize txt t2.zs 2048 = TX at k6 hTb hTl hcop1
            obtain ⟨TT, tk, te⟩ := TX
            dsimp only at k6 hTb hTl hcop1
            have hScb : str (strOfNums TT) = TT := str_of hTb
            have hSl : (strOfNums TT).size = TT.length := by rw [← str_len, hScb]
            generalize strOfNums TT = SS at k6 hScb hSl
            have GA3 := hid ga3
            have HCB3 := hid hcb3
            have HU3' := hid (HUa2.out.trans (Upd.of_below (F := fun k => k = p ∨ k = q) ha3) (fun _ _ h => h))
            have hs3' : a3.heap.size = cb + 1 := by rw [ga3, gcb]; simp
            have HS3 := hid hs3'
            have GCB := hid gcb
            have HSC := hid (And.intro hScb (And.intro hSl hTb))
            have HCOP := hid hcop1
            have hpcb : p ≠ cb := by omega
            have hqcb : q ≠ cb := by omega
            have hxcb : xb ≠ cb := by omega
            have hSm : SS.size ≤ maxLen := by unfold maxLen; omega
            rw [ga3] at y0
            clear hRa2 ga3 ha3 hcb3 hR3 hs3' hScb hSl hTb hTl hcop1 hcop2 gcb hR3z
            go_wp2_with fail
            rw [← GA3.out, ← GCB.out]
            refine k6.out.mono ?_
            rintro e a4 ⟨rfl, hR4, hU4⟩
            have y1 : a4.cell? ⟨p, 1, none⟩ = some (.bool t2.bad) := cell_of_row a4 p 1 _ _ _ hR4.own
            have f1 : a4.frozen? ⟨p, 1, none⟩ = false := frozen_of_row a4 p 1 _ _ hR4.own
            have hs4 := hU4.size
            have hc4 := hU4.heap HCB3.out hqcb.symm
            have HU4 : Hid (Upd (fun k => k = p ∨ k = q) wj a4) := hid (HU3'.out.trans (hU4.mono (G := fun k => k = p ∨ k = q) (fun x _ hx => .inr hx)) (fun _ _ h => h))
            have HR4 := hid hR4
            have HC4 := hid hc4
            have hcb4 : cb < a4.heap.size := by have := HS3.out; omega
            clear hU4 hR4 hc4 k6 hs4
            obtain ⟨bd, gbd⟩ : ∃ bd : Bool, bd = (t2.bad || decide (te ≠ 0)) := ⟨_, rfl⟩
            obtain ⟨a5, ga5⟩ : ∃ a5, a4.setCell ⟨p, 1, none⟩ (.bool bd) = a5 := ⟨_, rfl⟩
            have hR5 : Rf a5 w.heap.size p q ⟨t2.zs.drop tk, bd⟩ := by rw [← ga5]; exact HR4.out.setBad bd
            have u45 : Upd (· = p) a4 a5 := by rw [← ga5]; exact Upd.setCell a4 ⟨p, 1, none⟩ _ rfl
            have HU5 : Hid (Upd (fun k => k = p ∨ k = q) wj a5) := hid (HU4.out.trans (u45.mono (G := fun k => k = p ∨ k = q) (fun x _ hx => .inl hx)) (fun _ _ h => h))
            have hc5 := u45.heap HC4.out hpcb.symm
            have hs45 := u45.size
            have hcv := Lib.run_convert_string_bytes (P := Tryz.prog) a5 9 23 5 SS Tryz.underlying9 Tryz.underlying23 Tryz.underlying5
            obtain ⟨CC, gCC⟩ : ∃ CC, CC = grownCap a5 SS.size 0 5 := ⟨_, rfl⟩
            obtain ⟨a6, ga6⟩ : ∃ a6, a6 = Lib.bytesWorld a5 5 SS := ⟨_, rfl⟩
            obtain ⟨tb, gtb⟩ : ∃ tb, tb = a5.heap.size := ⟨_, rfl⟩
            rw [← ga6, ← gCC, ← gtb] at hcv
            have hb6 : Below a5.heap.size a5 a6 := by rw [ga6]; exact bytesWorld_below a5 SS
            have hS6 : Src a6 (some ⟨a5.heap.size, 0, none⟩) SS.size (str SS) := by rw [ga6]; exact bytesWorld_src a5 SS
            have hs6 : a6.heap.size = a5.heap.size + 1 := by rw [ga6]; exact Lib.bytesWorld_size a5 5 SS
            have hcc1 : SS.size ≤ CC := by rw [gCC]; exact grownCap_ge _ _ _ _
            have hcc2 : CC ≤ 9223372036854775807 := by have := grownCap_le_maxLen a5 SS.size 0 5 hSm; rw [gCC]; unfold maxLen at this; omega
            have hc6 := (hb6.block cb (by omega)).trans hc5
            have z4 : a6.cell? ⟨cb, 4, none⟩ = some (.slice none 0 0) := cell_of_row a6 cb 4 _ _ _ hc6
            have g4 : a6.frozen? ⟨cb, 4, none⟩ = false := frozen_of_row a6 cb 4 _ _ hc6
            obtain ⟨a7, ga7⟩ : ∃ a7, a6.setCell ⟨cb, 4, none⟩ (.slice (some ⟨tb, 0, none⟩) SS.size CC) = a7 := ⟨_, rfl⟩
            have hc7 : a7.heap[cb]? = some (.cells #[.int .i64 v1, .int .i64 (-1), .int .i64 0, .int .i64 0, .slice (some ⟨tb, 0, none⟩) SS.size CC] 50 (0, 0)) := by rw [← ga7, heap_setCell_same a6 cb 4 _ _ _ hc6]; rfl
            have u67 : Upd (· = cb) a6 a7 := by rw [← ga7]; exact Upd.setCell a6 ⟨cb, 4, none⟩ _ rfl
            have u57 : Upd (· = cb) a5 a7 := (Upd.of_below (F := (· = cb)) hb6).trans u67 (fun _ _ h => h)
            have hR7 : Rf a7 w.heap.size p q ⟨t2.zs.drop tk, bd⟩ := hR5.upd u57 hpcb hqcb (fun k hk => by omega)
            have U7 : Hid (Upd (fun k => k = p ∨ k = q) wj a7) := hid ⟨u57.os.trans HU5.out.os, u57.tape.trans HU5.out.tape, u57.output.trans HU5.out.output, Nat.le_trans HU5.out.size u57.size, fun k hk hF => (u57.block k (by have := HU5.out.size; omega) (by omega)).trans (HU5.out.block k hk hF)⟩
            have HR7 := hid hR7
            have HC7 := hid hc7
            have GA7 := hid ga7
            have GA5 := hid ga5
            have hs67 := u67.size
            have hcb7 : cb < a7.heap.size := (Array.getElem?_eq_some_iff.1 hc7).1
            have xc7 := U7.out.heap HJ.out.2.2.1 (by omega)
            have x1 : a7.cell? ⟨xb, 1, none⟩ = some vc := cell_of_row a7 xb 1 _ _ _ xc7
            obtain ⟨d0, d1, d2, d3, d4⟩ := cp5 hc7
            obtain ⟨ccs, gccs⟩ : ∃ ccs : List Value, ccs = [.int .i64 v1, .int .i64 (-1), .int .i64 0, .int .i64 0, .slice (some ⟨tb, 0, none⟩) SS.size CC] := ⟨_, rfl⟩
            have HCop : Hid (copR T = (⟨v1, -1, 0, 0, TT⟩, ⟨t2.zs.drop tk, bd⟩)) := hid (by rw [gbd]; exact HCOP.out)
            have hs5j : wj.heap.size ≤ tb := by rw [gtb]; exact HU5.out.size
            have hcb5 : cb < tb := by rw [gtb]; omega
            have htb7 : tb < a7.heap.size := by rw [gtb]; omega
            have HISC : Hid (IsC (fun k => M' k ∨ k = tb) a7 ccs (⟨v1, -1, 0, 0, TT⟩ : Cp)) := hid (by
              rw [gccs]
              refine ⟨_, rfl, some ⟨tb, 0, none⟩, SS.size, CC, rfl, ?_, fun b o _ e => by cases e; exact .inr rfl, hcc1, hcc2⟩
              rw [← HSC.out.1]
              exact u67.src (gtb ▸ hS6) (fun b o e => by cases e; omega))
            have HMM : Hid ((∀ k, M' k → (fun k => M' k ∨ k = tb) k) ∧ (∀ k, (fun k => M' k ∨ k = tb) k → (M' k ∨ wj.heap.size ≤ k) ∧ k < a7.heap.size)) := hid ⟨fun _ h => .inl h, fun k hk => by
              rcases hk with h | h
              · exact ⟨.inl h, by have := (HJ.out.2.1 k h).2; have := U7.out.size; omega⟩
              · subst h; exact ⟨.inr hs5j, htb7⟩⟩
            have HBB : Hid (Bytes TT) := hid HSC.out.2.2
            have HGC := hid gbd
            have hx6 := (hb6.block xb (by omega)).trans (HU5.out.heap HJ.out.2.2.1 (by omega))
            have x16 : a6.cell? ⟨xb, 1, none⟩ = some vc := cell_of_row a6 xb 1 _ _ _ hx6
            obtain ⟨z60, z61, z62, z63, _⟩ := cp5 hc6
            rw [← ga5] at hcv
            have HSZ : Hid (a7.heap.size = a6.heap.size) := hid (by rw [← ga7]; simp)
            rw [← ga7] at x1 d0 d1 d2 d3 d4
            clear hR5 u45 hc5 ga5 gCC ga6 hb6 hS6 hs6 hc6 hc7 u67 u57 hR7 xc7 hcc1 hcc2 gbd ga7 HCOP hs67 hx6 gtb
            cases hb0 : t2.bad
            · have hbd0 : t2.bad = false := hb0
              rw [hb0] at y1
              by_cases hte : te = 0
              · subst hte
                have hbd : bd = false := by rw [HGC.out, hbd0]; rfl
                subst hbd
                clear hbd0 hb0
                obtain ⟨hM1, hM2, hcell, hD, hIs, hvc, hby, hUj⟩ := HJ.out
                have hvcp : ∀ g, vc.ownBlock = some g → ¬ (g = p ∨ g = q) := fun g hg => by have := (hvc g hg).1; omega
                have hD8 := U7.out.own hD (fun g hg => hvcp g hg)
                have HD8 := hid hD8
                have hjl' : (mR copR j sB).1.length = j := mR_len copR sB j
                rw [hjl'] at HD8
                have HCL : Hid (ccs.length = 5) := hid (by rw [gccs]; rfl)
                have HOne : Hid (∀ u ∈ ccs, u.oneCell' = true) := hid (by rw [gccs]; simp [Value.oneCell'])
                have HNw : Hid (∀ o' : TypeId, (a7.alloc (.cells ccs.toArray o')).heap[a6.heap.size]? = some (.cells ccs.toArray o' (0, 0))) := hid (fun o' => HSZ.out ▸ heap1 a7 _)
                have GCC := hid gccs
                have hx7 : xb < a7.heap.size := by have := U7.out.size; omega
                have hxv : ¬ (vc.ownBlock = some xb) := fun e => by have := (hvc xb e).1; omega
                have HXV := hid hxv
                rw [gccs] at HOne HNw
                clear hM1 hM2 hcell hD hIs hvc hby hUj hD8 gccs hvcp hxv
                go_wp2_with (at_builtin; rw [GA7.out]; go_must (refine wpList_append_where rfl (.tmp 67) (.tmp 69) 45 rfl 50 ic _ 5 56 Tryz.underlying45 hic hc0 hc1 hc2 rfl (by decide) vc j D rfl (HD8.out.alloc _) ⟨a6.heap.size, 0, none⟩ 1 1 [.int .i64 v1, .int .i64 (-1), .int .i64 0, .int .i64 0, .slice (some ⟨tb, 0, none⟩) SS.size CC] rfl rfl (news_at (HNw.out _)) HOne.out (by unfold maxLen; omega) (by omega) ?_))
                intro v' a9 h9 hu9 hn9 hf9
                obtain ⟨gv, cv, rfl⟩ := own_form h9.out (by omega)
                have hC9 := (xb_cell hxl hpx hqx HJ.out.2.2.2.2.2.2.2.size HJ.out.2.2.1 U7.out HXV.out hu9).2
                have y9 : a9.cell? ⟨xb, 1, none⟩ = some vc := cell_of_row a9 xb 1 _ _ _ hC9
                have f9 : a9.frozen? ⟨xb, 1, none⟩ = false := frozen_of_row a9 xb 1 _ _ hC9
                have HINV : Hid (InvC b3 w.heap.size p q xb M m1 sB (j + 1) (a9.setCell ⟨xb, 1, none⟩ (.slice (some ⟨gv, 0, none⟩) (j + 1) cv))) := hid (by
                  obtain ⟨hM1, hM2, hcell, hD, hIs, hvc, hby, hUj⟩ := HJ.out
                  refine copy_step (M'' := fun k => M' k ∨ k = tb) (ccs := ccs) hxl hL3 hLx hpx hqx hpl3 hql3 HMW.out hM1 hM2 hcell hD hIs hvc hby hUj U7.out ?_ HMM.out.1 HMM.out.2 ?_ HCL.out ?_ _ ?_ hu9 (hf9.out.imp id (fun h x hx => by have := h x hx; simp; omega))
                  · rw [GT.out, HCop.out]; exact HR7.out
                  · rw [GT.out, HCop.out]; exact HISC.out
                  · rw [GT.out, HCop.out]; exact HBB.out
                  · rw [hjl', GCC.out]; exact h9.out)
                clear h9 hu9 hn9 hf9 hC9
                go_wp2_with fail
                go_roundw
                case rel => exact ⟨j + 1, by omega, by go_num, HINV⟩
                case measure => simp [intOf]; omega
              · have hte' : ((te : Int) != 0) = true := by simp [hte]
                have hte2 : ((te : Int) == 0) = false := by simp [hte]
                have hbd : bd = true := by rw [HGC.out, hbd0]; simp [hte]
                subst hbd
                clear hbd0 hb0
                obtain ⟨hM1, hM2, hcell, hD, hIs, hvc, hby, hUj⟩ := HJ.out
                have hvcp : ∀ g, vc.ownBlock = some g → ¬ (g = p ∨ g = q) := fun g hg => by have := (hvc g hg).1; omega
                have hD8 := U7.out.own hD (fun g hg => hvcp g hg)
                have HD8 := hid hD8
                have hjl' : (mR copR j sB).1.length = j := mR_len copR sB j
                rw [hjl'] at HD8
                have HCL : Hid (ccs.length = 5) := hid (by rw [gccs]; rfl)
                have HOne : Hid (∀ u ∈ ccs, u.oneCell' = true) := hid (by rw [gccs]; simp [Value.oneCell'])
                have HNw : Hid (∀ o' : TypeId, (a7.alloc (.cells ccs.toArray o')).heap[a6.heap.size]? = some (.cells ccs.toArray o' (0, 0))) := hid (fun o' => HSZ.out ▸ heap1 a7 _)
                have GCC := hid gccs
                have hx7 : xb < a7.heap.size := by have := U7.out.size; omega
                have hxv : ¬ (vc.ownBlock = some xb) := fun e => by have := (hvc xb e).1; omega
                have HXV := hid hxv
                rw [gccs] at HOne HNw
                clear hM1 hM2 hcell hD hIs hvc hby hUj hD8 gccs hvcp hxv
                go_wp2_with (at_builtin; rw [GA7.out]; go_must (refine wpList_append_where rfl (.tmp 67) (.tmp 69) 45 rfl 50 ic _ 5 56 Tryz.underlying45 hic hc0 hc1 hc2 rfl (by decide) vc j D rfl (HD8.out.alloc _) ⟨a6.heap.size, 0, none⟩ 1 1 [.int .i64 v1, .int .i64 (-1), .int .i64 0, .int .i64 0, .slice (some ⟨tb, 0, none⟩) SS.size CC] rfl rfl (news_at (HNw.out _)) HOne.out (by unfold maxLen; omega) (by omega) ?_))
                intro v' a9 h9 hu9 hn9 hf9
                obtain ⟨gv, cv, rfl⟩ := own_form h9.out (by omega)
                have hC9 := (xb_cell hxl hpx hqx HJ.out.2.2.2.2.2.2.2.size HJ.out.2.2.1 U7.out HXV.out hu9).2
                have y9 : a9.cell? ⟨xb, 1, none⟩ = some vc := cell_of_row a9 xb 1 _ _ _ hC9
                have f9 : a9.frozen? ⟨xb, 1, none⟩ = false := frozen_of_row a9 xb 1 _ _ hC9
                have HINV : Hid (InvC b3 w.heap.size p q xb M m1 sB (j + 1) (a9.setCell ⟨xb, 1, none⟩ (.slice (some ⟨gv, 0, none⟩) (j + 1) cv))) := hid (by
                  obtain ⟨hM1, hM2, hcell, hD, hIs, hvc, hby, hUj⟩ := HJ.out
                  refine copy_step (M'' := fun k => M' k ∨ k = tb) (ccs := ccs) hxl hL3 hLx hpx hqx hpl3 hql3 HMW.out hM1 hM2 hcell hD hIs hvc hby hUj U7.out ?_ HMM.out.1 HMM.out.2 ?_ HCL.out ?_ _ ?_ hu9 (hf9.out.imp id (fun h x hx => by have := h x hx; simp; omega))
                  · rw [GT.out, HCop.out]; exact HR7.out
                  · rw [GT.out, HCop.out]; exact HISC.out
                  · rw [GT.out, HCop.out]; exact HBB.out
                  · rw [hjl', GCC.out]; exact h9.out)
                clear h9 hu9 hn9 hf9 hC9
                go_wp2_with fail
                go_roundw
                case rel => exact ⟨j + 1, by omega, by go_num, HINV⟩
                case measure => simp [intOf]; omega
            · rw [hb0] at y1
              have hbd : bd = true := by rw [HGC.out, hb0]; rfl
              subst hbd
              clear hb0
              obtain ⟨hM1, hM2, hcell, hD, hIs, hvc, hby, hUj⟩ := HJ.out
              have hvcp : ∀ g, vc.ownBlock = some g → ¬ (g = p ∨ g = q) := fun g hg => by have := (hvc g hg).1; omega
              have hD8 := U7.out.own hD (fun g hg => hvcp g hg)
              have HD8 := hid hD8
              have hjl' : (mR copR j sB).1.length = j := mR_len copR sB j
              rw [hjl'] at HD8
              have HCL : Hid (ccs.length = 5) := hid (by rw [gccs]; rfl)
              have HOne : Hid (∀ u ∈ ccs, u.oneCell' = true) := hid (by rw [gccs]; simp [Value.oneCell'])
              have HNw : Hid (∀ o' : TypeId, (a7.alloc (.cells ccs.toArray o')).heap[a6.heap.size]? = some (.cells ccs.toArray o' (0, 0))) := hid (fun o' => HSZ.out ▸ heap1 a7 _)
              have GCC := hid gccs
              have hx7 : xb < a7.heap.size := by have := U7.out.size; omega
              have hxv : ¬ (vc.ownBlock = some xb) := fun e => by have := (hvc xb e).1; omega
              have HXV := hid hxv
              rw [gccs] at HOne HNw
              clear hM1 hM2 hcell hD hIs hvc hby hUj hD8 gccs hvcp hxv
              go_wp2_with (at_builtin; rw [GA7.out]; go_must (refine wpList_append_where rfl (.tmp 67) (.tmp 69) 45 rfl 50 ic _ 5 56 Tryz.underlying45 hic hc0 hc1 hc2 rfl (by decide) vc j D rfl (HD8.out.alloc _) ⟨a6.heap.size, 0, none⟩ 1 1 [.int .i64 v1, .int .i64 (-1), .int .i64 0, .int .i64 0, .slice (some ⟨tb, 0, none⟩) SS.size CC] rfl rfl (news_at (HNw.out _)) HOne.out (by unfold maxLen; omega) (by omega) ?_))
              intro v' a9 h9 hu9 hn9 hf9
              obtain ⟨gv, cv, rfl⟩ := own_form h9.out (by omega)
              have hC9 := (xb_cell hxl hpx hqx HJ.out.2.2.2.2.2.2.2.size HJ.out.2.2.1 U7.out HXV.out hu9).2
              have y9 : a9.cell? ⟨xb, 1, none⟩ = some vc := cell_of_row a9 xb 1 _ _ _ hC9
              have f9 : a9.frozen? ⟨xb, 1, none⟩ = false := frozen_of_row a9 xb 1 _ _ hC9
              have HINV : Hid (InvC b3 w.heap.size p q xb M m1 sB (j + 1) (a9.setCell ⟨xb, 1, none⟩ (.slice (some ⟨gv, 0, none⟩) (j + 1) cv))) := hid (by
                obtain ⟨hM1, hM2, hcell, hD, hIs, hvc, hby, hUj⟩ := HJ.out
                refine copy_step (M'' := fun k => M' k ∨ k = tb) (ccs := ccs) hxl hL3 hLx hpx hqx hpl3 hql3 HMW.out hM1 hM2 hcell hD hIs hvc hby hUj U7.out ?_ HMM.out.1 HMM.out.2 ?_ HCL.out ?_ _ ?_ hu9 (hf9.out.imp id (fun h x hx => by have := h x hx; simp; omega))
                · rw [GT.out, HCop.out]; exact HR7.out
                · rw [GT.out, HCop.out]; exact HISC.out
                · rw [GT.out, HCop.out]; exact HBB.out
                · rw [hjl', GCC.out]; exact h9.out)
              clear h9 hu9 hn9 hf9 hC9
              go_wp2_with fail
              go_roundw
              case rel => exact ⟨j + 1, by omega, by go_num, HINV⟩
              case measure => simp [intOf]; omega
          · replace hcop2 := hcop2 hv2
            have hv2' : (((v2 : Int) - 1) == -1) = false := by simp; omega
            obtain ⟨a3, ga3⟩ : ∃ a3, a3 = a2.alloc (.cells #[.int .i64 v1, .int .i64 ((v2 : Int) - 1), .int .i64 0, .int .i64 0, .slice none 0 0] 50) := ⟨_, rfl⟩
            have ha3 : Below a2.heap.size a2 a3 := by rw [ga3]; exact below_box _ _
            have hcb3 : a3.heap[cb]? = some (.cells #[.int .i64 v1, .int .i64 ((v2 : Int) - 1), .int .i64 0, .int .i64 0, .slice none 0 0] 50 (0, 0)) := by rw [ga3, gcb]; exact heap1 a2 _
            have hR3 := hRa2.below ha3
            have k6 := hid (ruint18 w.heap.size p q _ a3 hR3)
            generalize uR t2 = V3 at k6 hcop2
            obtain ⟨v3, t3⟩ := V3
            dsimp only at k6 hcop2
            have GA3 := hid ga3
            have HCB3 := hid hcb3
            have HU3' := hid (HUa2.out.trans (Upd.of_below (F := fun k => k = p ∨ k = q) ha3) (fun _ _ h => h))
            have hs3' : a3.heap.size = cb + 1 := by rw [ga3, gcb]; simp
            have HS3 := hid hs3'
            have GCB := hid gcb
            have hpcb : p ≠ cb := by omega
            have hqcb : q ≠ cb := by omega
            have hxcb : xb ≠ cb := by omega
            clear hRa2 ga3 ha3 hcb3 hR3 hs3' hcop1 gcb
            go_wp2_with fail
            rw [← GA3.out, ← GCB.out]
            refine k6.out.mono ?_
            rintro e a4 ⟨rfl, hR4, hU4⟩
            have k7 := hid (rsigned18 w.heap.size p q _ a4 hR4)
            generalize uR t3 = V4 at k7 hcop2
            obtain ⟨v4, t4⟩ := V4
            dsimp only at k7 hcop2
            have HU4 := hid (HU3'.out.trans hU4 (fun _ _ h => h))
            have hc4 := hU4.heap HCB3.out (by omega)
            have HC4 := hid hc4
            have hs4 := hU4.size
            have HCOP := hid hcop2
            clear hR4 hU4 hc4 k6 hcop2
            go_wp2_with fail
            refine k7.out.mono ?_
            rintro e a5 ⟨rfl, hR5, hU5⟩
            have hc5 := hU5.heap HC4.out (by omega)
            have hs5 := hU5.size
            have HU5 := hid (HU4.out.trans hU5 (fun _ _ h => h))
            have z2 : a5.cell? ⟨cb, 2, none⟩ = some (.int .i64 0) := cell_of_row a5 cb 2 _ _ _ hc5
            have g2 : a5.frozen? ⟨cb, 2, none⟩ = false := frozen_of_row a5 cb 2 _ _ hc5
            obtain ⟨a6, ga6⟩ : ∃ a6, a5.setCell ⟨cb, 2, none⟩ (.int .i64 v3) = a6 := ⟨_, rfl⟩
            have hc6 : a6.heap[cb]? = some (.cells #[.int .i64 v1, .int .i64 ((v2 : Int) - 1), .int .i64 v3, .int .i64 0, .slice none 0 0] 50 (0, 0)) := by rw [← ga6, heap_setCell_same a5 cb 2 _ _ _ hc5]; rfl
            have u56 : Upd (· = cb) a5 a6 := by rw [← ga6]; exact Upd.setCell a5 ⟨cb, 2, none⟩ _ rfl
            have z3 : a6.cell? ⟨cb, 3, none⟩ = some (.int .i64 0) := cell_of_row a6 cb 3 _ _ _ hc6
            have g3 : a6.frozen? ⟨cb, 3, none⟩ = false := frozen_of_row a6 cb 3 _ _ hc6
            obtain ⟨a7, ga7⟩ : ∃ a7, a6.setCell ⟨cb, 3, none⟩ (.int .i64 (unf v4)) = a7 := ⟨_, rfl⟩
            have hc7 : a7.heap[cb]? = some (.cells #[.int .i64 v1, .int .i64 ((v2 : Int) - 1), .int .i64 v3, .int .i64 (unf v4), .slice none 0 0] 50 (0, 0)) := by rw [← ga7, heap_setCell_same a6 cb 3 _ _ _ hc6]; rfl
            have u67 : Upd (· = cb) a6 a7 := by rw [← ga7]; exact Upd.setCell a6 ⟨cb, 3, none⟩ _ rfl
            have u57 : Upd (· = cb) a5 a7 := u56.trans u67 (fun _ _ h => h)
            have hR7 : Rf a7 w.heap.size p q t4 := hR5.upd u57 hpcb hqcb (fun k hk => by omega)
            have U7 : Hid (Upd (fun k => k = p ∨ k = q) wj a7) := hid ⟨u57.os.trans HU5.out.os, u57.tape.trans HU5.out.tape, u57.output.trans HU5.out.output, Nat.le_trans HU5.out.size u57.size, fun k hk hF => (u57.block k (by have := HU5.out.size; omega) (by omega)).trans (HU5.out.block k hk hF)⟩
            have HR7 := hid hR7
            have HC7 := hid hc7
            have GA6 := hid ga6
            have GA7 := hid ga7
            have hcb7 : cb < a7.heap.size := (Array.getElem?_eq_some_iff.1 hc7).1
            have xc7 := U7.out.heap HJ.out.2.2.1 (by omega)
            have x1 : a7.cell? ⟨xb, 1, none⟩ = some vc := cell_of_row a7 xb 1 _ _ _ xc7
            obtain ⟨d0, d1, d2, d3, d4⟩ := cp5 hc7
            obtain ⟨ccs, gccs⟩ : ∃ ccs : List Value, ccs = [.int .i64 v1, .int .i64 ((v2 : Int) - 1), .int .i64 v3, .int .i64 (unf v4), .slice none 0 0] := ⟨_, rfl⟩
            have HCop : Hid (copR T = (⟨v1, (v2 : Int) - 1, v3, unf v4, []⟩, t4)) := hid HCOP.out
            have hIsC : IsC M' a7 ccs (⟨v1, (v2 : Int) - 1, v3, unf v4, []⟩ : Cp) := by
              rw [gccs]
              exact ⟨.slice none 0 0, rfl, none, 0, 0, rfl, Src.nil _ _, fun b o h => absurd h (by omega), Nat.le_refl _, by omega⟩
            have HISC := hid hIsC
            have HMM : Hid ((∀ k, M' k → M' k) ∧ (∀ k, M' k → (M' k ∨ wj.heap.size ≤ k) ∧ k < a7.heap.size)) := hid ⟨fun _ h => h, fun k hk => ⟨.inl hk, by have := (HJ.out.2.1 k hk).2; have := U7.out.size; omega⟩⟩
            have HBB : Hid (Bytes ([] : List Int)) := hid Bytes.nil
            have hx5 := HU5.out.heap HJ.out.2.2.1 (by omega)
            have x15 : a5.cell? ⟨xb, 1, none⟩ = some vc := cell_of_row a5 xb 1 _ _ _ hx5
            obtain ⟨z50, z51, _, _, z54⟩ := cp5 hc5
            rw [← ga6] at z3 g3
            have HSZ : Hid (a7.heap.size = a5.heap.size) := hid (by rw [← ga7, ← ga6]; simp)
            rw [← ga7, ← ga6] at x1 d0 d1 d2 d3 d4
            clear hR5 hU5 hc5 u56 u67 u57 hR7 hc6 hc7 xc7 hIsC k7 ga6 ga7 HCOP hx5
            obtain ⟨hM1, hM2, hcell, hD, hIs, hvc, hby, hUj⟩ := HJ.out
            have hvcp : ∀ g, vc.ownBlock = some g → ¬ (g = p ∨ g = q) := fun g hg => by have := (hvc g hg).1; omega
            have hD8 := U7.out.own hD (fun g hg => hvcp g hg)
            have HD8 := hid hD8
            have hjl' : (mR copR j sB).1.length = j := mR_len copR sB j
            rw [hjl'] at HD8
            have HCL : Hid (ccs.length = 5) := hid (by rw [gccs]; rfl)
            have HOne : Hid (∀ u ∈ ccs, u.oneCell' = true) := hid (by rw [gccs]; simp [Value.oneCell'])
            have HNw : Hid (∀ o' : TypeId, (a7.alloc (.cells ccs.toArray o')).heap[a5.heap.size]? = some (.cells ccs.toArray o' (0, 0))) := hid (fun o' => HSZ.out ▸ heap1 a7 _)
            have GCC := hid gccs
            have hx7 : xb < a7.heap.size := by have := U7.out.size; omega
            have hxv : ¬ (vc.ownBlock = some xb) := fun e => by have := (hvc xb e).1; omega
            have HXV := hid hxv
            rw [gccs] at HOne HNw
            clear hM1 hM2 hcell hD hIs hvc hby hUj hD8 gccs hvcp hxv
            go_wp2_with (at_builtin; rw [GA6.out, GA7.out]; go_must (refine wpList_append_where rfl (.tmp 67) (.tmp 69) 45 rfl 50 ic _ 5 56 Tryz.underlying45 hic hc0 hc1 hc2 rfl (by decide) vc j D rfl (HD8.out.alloc _) ⟨a5.heap.size, 0, none⟩ 1 1 [.int .i64 v1, .int .i64 ((v2 : Int) - 1), .int .i64 v3, .int .i64 (unf v4), .slice none 0 0] rfl rfl (news_at (HNw.out _)) HOne.out (by unfold maxLen; omega) (by omega) ?_))
            intro v' a9 h9 hu9 hn9 hf9
            obtain ⟨gv, cv, rfl⟩ := own_form h9.out (by omega)
            have hC9 := (xb_cell hxl hpx hqx HJ.out.2.2.2.2.2.2.2.size HJ.out.2.2.1 U7.out HXV.out hu9).2
            have y9 : a9.cell? ⟨xb, 1, none⟩ = some vc := cell_of_row a9 xb 1 _ _ _ hC9
            have f9 : a9.frozen? ⟨xb, 1, none⟩ = false := frozen_of_row a9 xb 1 _ _ hC9
            have HINV : Hid (InvC b3 w.heap.size p q xb M m1 sB (j + 1) (a9.setCell ⟨xb, 1, none⟩ (.slice (some ⟨gv, 0, none⟩) (j + 1) cv))) := hid (by
              obtain ⟨hM1, hM2, hcell, hD, hIs, hvc, hby, hUj⟩ := HJ.out
              refine copy_step (M'' := M') (ccs := ccs) hxl hL3 hLx hpx hqx hpl3 hql3 HMW.out hM1 hM2 hcell hD hIs hvc hby hUj U7.out ?_ HMM.out.1 HMM.out.2 ?_ HCL.out ?_ _ ?_ hu9 (hf9.out.imp id (fun h x hx => by have := h x hx; simp; omega))
              · rw [GT.out, HCop.out]; exact HR7.out
              · rw [GT.out, HCop.out]; exact HISC.out
              · rw [GT.out, HCop.out]; exact HBB.out
              · rw [hjl', GCC.out]; exact h9.out)
            clear h9 hu9 hn9 hf9 hC9
            go_wp2_with fail
            go_roundw
            case rel => exact ⟨j + 1, by omega, by go_num, HINV⟩
            case measure => simp [intOf]; omega
        · obtain rfl : j = cn := by omega
          obtain ⟨M', vc, hRfj, hM1, hM2, hcell, hRwC, hvc, hby, hUj⟩ := HICj.out
          have k8 := hid (rcount18 w.heap.size p q 6 (by omega) _ wj hRfj)
          have hle6 := cR_le 6 (mR copR j sB).2
          obtain ⟨CS, gCS⟩ : ∃ CS, (mR copR j sB).1 = CS := ⟨_, rfl⟩
          rw [gCS] at HEX hRwC hby
          generalize (mR copR j sB).2 = T2 at k8 hle6 HEX hRfj
          generalize cR 6 T2 = C6 at k8 hle6 HEX
          obtain ⟨wn, sC⟩ := C6
          dsimp only at k8 hle6 HEX
          have hsj := hUj.size
          have HJ := hid (And.intro hM1 (And.intro hM2 (And.intro hRwC (And.intro hvc (And.intro hby hUj)))))
          have HXC := hid hcell
          clear hRfj hM1 hM2 hcell hRwC hvc hby hUj gCS
          go_wp2_with fail
          refine k8.out.mono ?_
          rintro e b4 ⟨rfl, hRf4, hU4⟩
          have hs4 := hU4.size
          have hc4 := hU4.heap HXC.out (by omega)
          have HU4 := hid hU4
          have hx4 : xb < b4.heap.size := by omega
          have hp4 : p < b4.heap.size := by omega
          have hq4 : q < b4.heap.size := by omega
          have hL4 : w.heap.size ≤ b4.heap.size := by omega
          have HIW : Hid (InvW b4 w.heap.size p q xb m1 vc sC 0 b4) := hid ⟨.slice none 0 0, hRf4, hc4, Rw.nil _ _ _ _ _, fun g hg => (HNIL.out g hg).elim, Upd.refl _ _⟩
          clear hRf4 hU4 hc4 k8
          go_wp2_with fail
          go_loopw [75] (fun k wr => ∃ l : Nat, l ≤ wn ∧ k = .int .i64 l ∧ Hid (InvW b4 w.heap.size p q xb m1 vc sC l wr)) (fun k _ => wn - (intOf k).toNat)
          case atStart => exact ⟨0, Nat.zero_le _, rfl, HIW⟩
          case round =>
            obtain ⟨l, hl, rfl, HIWl⟩ := hrel
            rename World => wl
            by_cases hlt2 : l < wn
            · obtain ⟨vw, hRfl, hcell, ⟨D, hD, hIs⟩, hvw, hUl⟩ := HIWl.out
              have hll : (mR wdR l sC).1.length = l := mR_len wdR sC l
              have k9 := hid (ruint18 w.heap.size p q _ wl hRfl)
              have hu9 := uR_lt hRfl.by_
              obtain ⟨T, gT⟩ : ∃ T, (mR wdR l sC).2 = T := ⟨_, rfl⟩
              have HL := hid (And.intro hcell (And.intro hD (And.intro hIs (And.intro hvw hUl))))
              rw [gT] at k9 hu9
              have hwd : wdR T = (⟨((uR T).1 : Int) - 1, unf (uR (uR T).2).1⟩, (uR (uR T).2).2) := rfl
              generalize uR T = V1 at k9 hwd hu9
              obtain ⟨v1, t1⟩ := V1
              dsimp only at k9 hwd hu9
              have hsl := hUl.size
              have GT := hid gT
              clear hRfl hcell hD hIs hvw hUl gT
              go_wp2_with fail
              refine k9.out.mono ?_
              rintro e a1 ⟨rfl, hRa1, hUa1⟩
              have hsa1 := hUa1.size
              obtain ⟨cb, gcb⟩ : ∃ cb, cb = a1.heap.size := ⟨_, rfl⟩
              obtain ⟨a2, ga2⟩ : ∃ a2, a2 = a1.alloc (.cells #[.int .i64 ((v1 : Int) - 1), .int .i64 0] 53) := ⟨_, rfl⟩
              have ha2 : Below a1.heap.size a1 a2 := by rw [ga2]; exact below_box _ _
              have hcb2 : a2.heap[cb]? = some (.cells #[.int .i64 ((v1 : Int) - 1), .int .i64 0] 53 (0, 0)) := by rw [ga2, gcb]; exact heap1 a1 _
              have hR2 := hRa1.below ha2
              have k10 := hid (rsigned18 w.heap.size p q _ a2 hR2)
              generalize uR t1 = V2 at k10 hwd
              obtain ⟨v2, t2⟩ := V2
              dsimp only at k10 hwd
              have GA2 := hid ga2
              have GCB := hid gcb
              have HCB2 := hid hcb2
              have HU2' := hid (hUa1.trans (Upd.of_below (F := fun k => k = p ∨ k = q) ha2) (fun _ _ h => h))
              have hs2' : a2.heap.size = cb + 1 := by rw [ga2, gcb]; simp
              have hpcb : p ≠ cb := by omega
              have hqcb : q ≠ cb := by omega
              have hxcb : xb ≠ cb := by omega
              have hcbl : wl.heap.size ≤ cb := by omega
              have HWD := hid hwd
              have HS2 := hid hs2'
              clear hRa1 hUa1 ga2 gcb ha2 hcb2 hR2 hwd k9 hs2'
              go_wp2_with fail
              rw [← GA2.out, ← GCB.out]
              refine k10.out.mono ?_
              rintro e a5 ⟨rfl, hR5, hU5⟩
              have hc5 := hU5.heap HCB2.out (by omega)
              have HU5 := hid (HU2'.out.trans hU5 (fun _ _ h => h))
              have z2 : a5.cell? ⟨cb, 1, none⟩ = some (.int .i64 0) := cell_of_row a5 cb 1 _ _ _ hc5
              have g2 : a5.frozen? ⟨cb, 1, none⟩ = false := frozen_of_row a5 cb 1 _ _ hc5
              have z0 : a5.cell? ⟨cb, 0, none⟩ = some (.int .i64 ((v1 : Int) - 1)) := cell_of_row a5 cb 0 _ _ _ hc5
              obtain ⟨a7, ga7⟩ : ∃ a7, a5.setCell ⟨cb, 1, none⟩ (.int .i64 (unf v2)) = a7 := ⟨_, rfl⟩
              have hc7 : a7.heap[cb]? = some (.cells #[.int .i64 ((v1 : Int) - 1), .int .i64 (unf v2)] 53 (0, 0)) := by rw [← ga7, heap_setCell_same a5 cb 1 _ _ _ hc5]; rfl
              have u57 : Upd (· = cb) a5 a7 := by rw [← ga7]; exact Upd.setCell a5 ⟨cb, 1, none⟩ _ rfl
              have hR7 : Rf a7 w.heap.size p q t2 := hR5.upd u57 hpcb hqcb (fun k hk => by omega)
              have U7 : Hid (Upd (fun k => k = p ∨ k = q) wl a7) := hid ⟨u57.os.trans HU5.out.os, u57.tape.trans HU5.out.tape, u57.output.trans HU5.out.output, Nat.le_trans HU5.out.size u57.size, fun k hk hF => (u57.block k (by have := HU5.out.size; omega) (by omega)).trans (HU5.out.block k hk hF)⟩
              have HR7 := hid hR7
              have GA7 := hid ga7
              have xc5 := HU5.out.heap HL.out.1 (by omega)
              have x25 : a5.cell? ⟨xb, 2, none⟩ = some vw := cell_of_row a5 xb 2 _ _ _ xc5
              have xc7 := U7.out.heap HL.out.1 (by omega)
              have x1 : a7.cell? ⟨xb, 2, none⟩ = some vw := cell_of_row a7 xb 2 _ _ _ xc7
              have d0 : a7.cell? ⟨cb, 0, none⟩ = some (.int .i64 ((v1 : Int) - 1)) := cell_of_row a7 cb 0 _ _ _ hc7
              have d1 : a7.cell? ⟨cb, 1, none⟩ = some (.int .i64 (unf v2)) := cell_of_row a7 cb 1 _ _ _ hc7
              obtain ⟨hcell, hD, hIs, hvw, hUl⟩ := HL.out
              have hD8 := U7.out.own hD (fun g hg h => by have := hvw g hg; omega)
              have HD8 := hid hD8
              rw [hll] at HD8
              have HOne : Hid (∀ u ∈ [Value.int .i64 ((v1 : Int) - 1), Value.int .i64 (unf v2)], u.oneCell' = true) := hid (by simp [Value.oneCell'])
              have hsz : a7.heap.size = a5.heap.size := by rw [← ga7]; simp
              have HNw : Hid (∀ o' : TypeId, (a7.alloc (.cells #[.int .i64 ((v1 : Int) - 1), .int .i64 (unf v2)] o')).heap[a5.heap.size]? = some (.cells [.int .i64 ((v1 : Int) - 1), .int .i64 (unf v2)].toArray o' (0, 0))) := hid (fun o' => hsz ▸ heap1 a7 _)
              have HXV := hid (show ¬ (vw.ownBlock = some xb) from fun e => by have := hvw xb e; omega)
              rw [← ga7] at x1 d0 d1
              clear hR5 hU5 hc5 u57 hR7 hc7 xc5 xc7 hcell hD hIs hvw hUl hD8 ga7 k10 hsz
              go_wp2_with (at_builtin; rw [GA7.out]; go_must (refine wpList_append_where rfl (.tmp 85) (.tmp 87) 46 rfl 53 iw _ 2 16 Tryz.underlying46 hiw hw0 hw1 hw2 rfl (by decide) vw l D rfl (HD8.out.alloc _) ⟨a5.heap.size, 0, none⟩ 1 1 [.int .i64 ((v1 : Int) - 1), .int .i64 (unf v2)] rfl rfl (news_at (HNw.out _)) HOne.out (by unfold maxLen; omega) (by omega) ?_))
              intro v' a9 h9 hu9' hn9 hf9
              obtain ⟨gv, cv, rfl⟩ := own_form h9.out (by omega)
              have hC9 := (xb_cell hx4 hpx hqx HL.out.2.2.2.2.size HL.out.1 U7.out HXV.out hu9').2
              have y9 : a9.cell? ⟨xb, 2, none⟩ = some vw := cell_of_row a9 xb 2 _ _ _ hC9
              have f9 : a9.frozen? ⟨xb, 2, none⟩ = false := frozen_of_row a9 xb 2 _ _ hC9
              have HINV : Hid (InvW b4 w.heap.size p q xb m1 vc sC (l + 1) (a9.setCell ⟨xb, 2, none⟩ (.slice (some ⟨gv, 0, none⟩) (l + 1) cv))) := hid (by
                obtain ⟨hcell, hD, hIs, hvw, hUl⟩ := HL.out
                refine word_step (ccs := [.int .i64 ((v1 : Int) - 1), .int .i64 (unf v2)]) hx4 hL4 hLx hpx hqx hp4 hq4 hcell hD hIs hvw hUl U7.out ?_ ?_ rfl _ ?_ hu9' (hf9.out.imp id (fun h x hx => by have := h x hx; simp; omega))
                · rw [GT.out, HWD.out]; exact HR7.out
                · rw [GT.out, HWD.out]; exact rfl
                · rw [hll]; exact h9.out)
              clear h9 hu9' hn9 hf9 hC9
              go_wp2_with fail
              go_roundw
              case rel => exact ⟨l + 1, by omega, by go_num, HINV⟩
              case measure => simp [intOf]; omega
            · obtain rfl : l = wn := by omega
              obtain ⟨vw, hRfl, hcell, hRwW, hvw, hUl⟩ := HIWl.out
              obtain ⟨hM, ⟨E, hE, hEs⟩, hout, hbyp, hB⟩ := HO.out
              obtain ⟨hM1, hM2, hRwC, hvc, hby, hUj⟩ := HJ.out
              have hil : (mR exR i s1).1.length = i := mR_len exR s1 i
              have hUjl : Upd (fun k => k = p ∨ k = q ∨ k = xb) b3 wl := (hUj.trans (upd3 (x := xb) HU4.out) (fun _ _ h => h)).trans hUl (fun _ _ h => h)
              have hsb3 := HUo3.out.size
              have hUall : Upd (fun k => k = p ∨ k = q) wo wl := HUo3.out.trans hUjl (fun k hk h => by
                rcases h with h | h | h
                · exact .inl h
                · exact .inr h
                · omega)
              have hU4l : Upd (fun k => k = p ∨ k = q ∨ k = xb) wj wl := (upd3 (x := xb) HU4.out).trans hUl (fun _ _ h => h)
              have hslj := hU4l.size
              have hMx : ∀ k, M' k → k ≠ p ∧ k ≠ q ∧ k ≠ xb := fun k hk => by
                rcases (hM2 k hk).1 with h | h
                · have := HMW.out k h; omega
                · omega
              have hvcx : ∀ g, vc.ownBlock = some g → b3.heap.size ≤ g := fun g hg => (hvc g hg).1
              have hRwC' : Rw wl M' 50 5 IsC vc CS := hRwC.keep hU4l (fun g hg h => by have := hvcx g hg; omega) (fun k hk _ h => by have := hMx k hk; omega) (fun _ h => h) (fun _ _ _ _ _ k h => IsC.keep k h) (fun _ _ _ _ _ k h => IsC.mono k h)
              have HEl := hid (hUall.own hE (fun k hk h => by have := hout k hk; omega))
              rw [hil] at HEl
              have d0 : wl.cell? ⟨xb, 0, none⟩ = some (.int .i64 m1) := cell_of_row wl xb 0 _ _ _ hcell
              have d1 : wl.cell? ⟨xb, 1, none⟩ = some vc := cell_of_row wl xb 1 _ _ _ hcell
              have d2 : wl.cell? ⟨xb, 2, none⟩ = some vw := cell_of_row wl xb 2 _ _ _ hcell
              have o1 := hRwC'.one
              have o2 := hRwW.one
              have HOne : Hid (∀ u ∈ [Value.int .i64 m1, vc, vw], u.oneCell' = true) := hid (by
                intro u hu
                simp only [List.mem_cons, List.not_mem_nil, or_false] at hu
                rcases hu with rfl | rfl | rfl
                · rfl
                · exact o1
                · exact o2)
              have HNw : Hid (∀ o' : TypeId, (wl.alloc (.cells #[.int .i64 m1, vc, vw] o')).heap[wl.heap.size]? = some (.cells [.int .i64 m1, vc, vw].toArray o' (0, 0))) := hid (fun o' => heap1 wl _)
              have HST : Hid (∀ (v' : Value) (w9 : World) (o : Obj), w9.ownsRow 0 48 3 v' (i + 1) (E ++ [.int .i64 m1, vc, vw]) → Upd (fun k => u5.ownBlock = some k) (wl.alloc o) w9 → (v'.ownBlock = u5.ownBlock ∨ ∀ x, v'.ownBlock = some x → (wl.alloc o).heap.size ≤ x) → InvO w p q s1 (i + 1) v' w9) := hid (fun v' w9 o h9 hu9 hf9 =>
                exec_step hpp hpq hpl hql hM hE hEs hout hbyp hB hUall hM1 (fun k hk => ⟨(hM2 k hk).1.imp id (fun h => by omega), by have := (hM2 k hk).2; omega⟩) hRwC' (fun g hg => by have := hvcx g hg; omega) hRwW (fun g hg => by have := hvw g hg; omega) hby (by rw [GS.out]; exact HEX.out) hRfl o (by rw [hil]; exact h9) hu9 hf9)
              clear hRfl hcell hRwW hvw hUl hM hE hEs hout hbyp hB hM1 hM2 hRwC hvc hby hUj hUjl hUall hU4l hMx hvcx hRwC'
              go_wp2_with (at_builtin; go_must (refine wpList_append_where rfl (.tmp 91) (.tmp 93) 22 rfl 48 ix _ 3 56 Tryz.underlying22 hix hx0 hx1 hx2 rfl (by decide) u5 i E rfl (HEl.out.alloc _) ⟨wl.heap.size, 0, none⟩ 1 1 [.int .i64 m1, vc, vw] rfl rfl (news_at (HNw.out _)) HOne.out (by unfold maxLen; omega) (by omega) ?_))
              intro v' w9 h9 hu9 hn9 hf9
              have HINV := hid (HST.out v' w9 _ h9.out hu9 (hf9.out.imp id (fun h x hx => by have := h x hx; simp; omega)))
              clear h9 hu9 hn9 hf9
              go_wp2_with fail
              go_roundw
              case rel => exact ⟨i + 1, by omega, by go_num, HINV⟩
              case measure => simp [intOf]; omega
    · obtain rfl : i = n1 := by omega
      obtain ⟨M, hRf, hM, hRw, hout, hbyp, hB⟩ := HIO.out
      obtain ⟨SE, gS⟩ : ∃ SE, (mR exR i s1).2 = SE := ⟨_, rfl⟩
      obtain ⟨l, gl⟩ : ∃ l, (mR exR i s1).1 = l := ⟨_, rfl⟩
      rw [gS, gl] at HD
      rw [gS] at hRf
      rw [gl] at hRw hbyp
      obtain ⟨ao, co, eo, o1, o2, o3⟩ := hRw.lies (M' := fun k => w.heap.size ≤ k) (At := ExAt) (fun k hk => (hM k hk).1) (fun g hg => (hout g hg).1) (fun _ _ _ _ _ k h => IsX.mono k h) IsX.lies
      have kE := hid (rencode_any ao l.length co l _ wo o3 rfl o1 o2 hbyp)
      have HK := hid (fun (w' : World) (hb' : Below wo.heap.size wo w') => o3.keep (N' := fun k => w.heap.size ≤ k) (W' := w') (fun _ _ _ h => ExAt.keep (Keep.below hb') h) (Keep.below hb'))
      have y1 : wo.cell? ⟨p, 1, none⟩ = some (.bool SE.bad) := cell_of_row wo p 1 _ _ _ hRf.own
      have hpl := hRf.pl
      have HB := hid hB
      have HEB := hid (eP_bytes hbyp)
      subst eo
      obtain ⟨nl, gnl⟩ : ∃ nl, nl = l.length := ⟨_, rfl⟩
      rw [← gnl] at kE o1 ⊢
      have GNL := hid gnl
      clear gnl
      clear hRf hM hRw hout hbyp hB gS gl o3
      generalize SE.bad = bd at y1 HD
      go_wp2_with fail
      refine kE.out.mono ?_
      rintro e w2 ⟨v2, rfl, hB2, b2⟩
      obtain ⟨a2, c2, rfl, S2, n2⟩ := hB2
      have y2 : w2.cell? ⟨p, 1, none⟩ = some (.bool bd) := (b2.cell (p := ⟨p, 1, none⟩) hpl).trans y1
      have BB := hid (HB.out.trans (b2.mono HB.out.size))
      have B2 := hid b2
      have hc1 := S2.convert (P := Tryz.prog) c2 23 5 9 Tryz.underlying23 Tryz.underlying5 Tryz.underlying9
      have hc2 := (HS.out.below BB.out).convert (P := Tryz.prog) c 23 5 9 Tryz.underlying23 Tryz.underlying5 Tryz.underlying9
      clear S2 b2 kE y1 n2
      cases bd
      · cases hP : pB l
        · rw [hP] at HD hc1
          have hR : R = none := by rw [HD.out]; simp
          subst hR
          simp only [Bool.false_eq_true, if_false] at hc1 ⊢
          have HQ := hid (BB.out)
          clear HD HEB hP
          go_wp2_with fail
          go_ret2
          exact ⟨HQ.out, rfl⟩
        · rw [hP] at HD hc1
          simp only [if_true] at hc1 ⊢
          by_cases hz' : eP l = zs
          · have hR : R = some l := by rw [HD.out]; simp [hz']
            subst hR
            rw [hz'] at hc1 ⊢
            generalize strOfNums zs = X1 at hc1 hc2
            clear HD HEB hP hz'
            go_wp2_with fail
            go_ret2
            exact ⟨BB.out, ao, nl, co, rfl, GNL.out.symm, o1, o2, HK.out _ B2.out⟩
          · have hR : R = none := by rw [HD.out]; simp [hz']
            subst hR
            have hne : strOfNums (eP l) ≠ strOfNums zs := fun e => hz' (by rw [← str_of HEB.out, ← str_of HZ.out, e])
            generalize strOfNums zs = X1 at hne hc2
            generalize strOfNums (eP l) = X2 at hne hc1
            have hne2 : (X2.toList == X1.toList) = false := strs_ne hne
            have hne3 : (!X2.toList == X1.toList) = true := by rw [hne2]; rfl
            clear hne
            clear HD HEB hP hz'
            go_wp2_with fail
            go_ret2
            exact ⟨BB.out, rfl⟩
      · have hR : R = none := by rw [HD.out]; simp
        subst hR
        clear HD HEB
        cases hP : pB l
        · rw [hP] at hc1
          simp only [Bool.false_eq_true, if_false] at hc1 ⊢
          clear hP
          go_wp2_with fail
          go_ret2
          exact ⟨BB.out, rfl⟩
        · rw [hP] at hc1
          simp only [if_true] at hc1 ⊢
          clear hP
          go_wp2_with fail
          go_ret2
          exact ⟨BB.out, rfl⟩

end Go.Proofs.YtpbhcmfbcnihiaaGreat
