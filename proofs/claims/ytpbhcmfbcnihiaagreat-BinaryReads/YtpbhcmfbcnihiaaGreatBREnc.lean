/- What the document's Encode answers. -/
import Derived.Test.YtpbhcmfbcnihiaaGreatBEnc
import Derived.Test.YtpbhcmfbcnihiaaGreatBRCan
import Derived.Test.YtpbhcmfbcnihiaaGreatRPut
namespace Go.Proofs.YtpbhcmfbcnihiaaGreat
open Go.RowKit Num
set_option linter.unusedVariables false
set_option maxRecDepth 20000

/-- Bytes, as the document's functions hand them on: a slice, and what lies there. -/
def Bt (W : World) (v : Value) (xs : List Int) : Prop := ∃ a c, v = .slice a xs.length c ∧ Src W a xs.length xs ∧ (a = none → c = 0)
theorem Bt.below {w w' : World} {v : Value} {xs : List Int} (h : Bt w v xs) (hb : Below w.heap.size w w') : Bt w' v xs := by
  obtain ⟨a, c, h1, h2, h3⟩ := h
  exact ⟨a, c, h1, h2.below hb, h3⟩
theorem Bt.heap {w w' : World} {v : Value} {xs : List Int} (h : Bt w v xs) (e : w'.heap = w.heap) : Bt w' v xs := by
  obtain ⟨a, c, h1, h2, h3⟩ := h
  refine ⟨a, c, h1, ⟨h2.1, fun hl => ?_⟩, h3⟩
  obtain ⟨b, o, q, hlt, hc⟩ := h2.2 hl
  exact ⟨b, o, q, by rw [e]; exact hlt, fun j hj => (World.cell?_of_block (w := w) (by rw [e])).trans (hc j hj)⟩
theorem Bt.own {w : World} {B g n c : Nat} {xs : List Int} (hn : xs.length = n) (h : w.ownsRow B 5 1 (.slice (some ⟨g, 0, none⟩) n c) n (xs.map (Value.int .u8))) : Bt w (.slice (some ⟨g, 0, none⟩) n c) xs := by
  subst hn
  exact ⟨_, c, rfl, Src.own h, fun h => by cases h⟩

theorem rput_bt (v : Value) (n : Int) (N : Nat) (hN : n = (N : Int)) (hb : n ≤ 9223372036854775807) (xs : List Int) (w : World) (h : Bt w v xs) (hl : xs.length ≤ 1099511627776) :
    Calls Tryz.prog 18 #[v, .int .i64 n] w fun e w' => ∃ u, e = .returned u ∧ Bt w' u (xs ++ enc N) ∧ Below w.heap.size w w' := by
  obtain ⟨a, c, rfl, h2, h3⟩ := h
  refine (rput_any a xs.length c n N xs w h2 h3 (.inr hN) (by omega) hb).mono ?_
  rintro e w' ⟨g, c', rfl, ho, hb⟩
  exact ⟨_, rfl, Bt.own (by simp) ho, hb⟩

set_option maxHeartbeats 400000 in
theorem reft_any (a0 : Option Addr) (len cap : Nat) (S : ByteArray) (zs : List Int) (w : World) (hs : Src w a0 len zs) (hnil : a0 = none → cap = 0) (hr : len + 9 + S.size ≤ 140737488351232) :
    Calls Tryz.prog 19 #[.slice a0 len cap, .string S] w fun e w' => ∃ g c, e = .returned (.slice (some ⟨g, 0, none⟩) (len + (enc S.size).length + S.size) c) ∧
      w'.ownsRow w.heap.size 5 1 (.slice (some ⟨g, 0, none⟩) (len + (enc S.size).length + S.size) c) (len + (enc S.size).length + S.size) ((zs ++ enc S.size ++ str S).map (Value.int .u8)) ∧ Below w.heap.size w w' := by
  obtain ⟨i0, hi, hz0, hz1, hz2⟩ := info_parts Tryz.info5
  have hl := length_enc S.size
  have hc8 := cnt_8 S.size (by omega)
  have hput := hid (rput_any a0 len cap (S.size : Int) S.size zs w hs hnil (.inr rfl) (by omega) (by omega))
  obtain ⟨L, gL⟩ : ∃ L, L = (enc S.size).length := ⟨_, rfl⟩
  have hL9 : L ≤ 9 := by omega
  rw [← gL] at hput ⊢
  clear hs gL hl hc8
  go_enter Tryz.func19, Tryz.ntmps19
  go_wp2_with fail
  refine hput.out.mono ?_
  rintro e w1 ⟨g, c, rfl, hown, hb⟩
  have HO := hid hown
  have hlt := hown.lt g rfl
  clear hown
  go_wp2_with (at_builtin; go_must (refine wpList_append_own_str _ rfl (.tmp 8) (.tmp 9) 23 9 rfl w.heap.size 5 i0 (.int .u8 0) Tryz.underlying23 Tryz.underlying9 hi hz0 hz1 hz2 rfl g (len + L) c _ rfl HO.out S rfl (by omega) (by omega) ?_))
  intro g' c' w3 hown3 hgrow3
  rw [str_cells] at hown3
  have hb3 := hb.grown hgrow3 hb.size (by intro q hq; simp at hq; omega)
  have HO3 := hid hown3
  clear hown3 hgrow3
  go_wp2_with fail
  go_ret
  refine ⟨g', c', rfl, ?_, hb3⟩
  have := HO3.out
  simpa using this

theorem rtext_bt (v : Value) (S : ByteArray) (zs : List Int) (hS : str S = zs) (xs : List Int) (w : World) (h : Bt w v xs) (hl : xs.length + zs.length ≤ 1099511627776) :
    Calls Tryz.prog 19 #[v, .string S] w fun e w' => ∃ u, e = .returned u ∧ Bt w' u (xs ++ eT zs) ∧ Below w.heap.size w w' := by
  have hzl : zs.length = S.size := by rw [← hS]; exact str_len S
  obtain ⟨a, c, rfl, h2, h3⟩ := h
  refine (reft_any a xs.length c S xs w h2 h3 (by omega)).mono ?_
  rintro e w' ⟨g, c', rfl, ho, hb⟩
  refine ⟨_, rfl, Bt.own (B := w.heap.size) ?_ ?_, hb⟩
  · unfold eT
    simp only [List.length_append, hzl]
    omega
  · unfold eT
    rw [hzl, ← hS, ← List.append_assoc]
    exact ho

theorem rsgn_bt (v : Value) (n : Int) (h1 : okI n) (xs : List Int) (w : World) (h : Bt w v xs) (hl : xs.length ≤ 1099511627776) :
    Calls Tryz.prog 20 #[v, .int .i64 n] w fun e w' => ∃ u, e = .returned u ∧ Bt w' u (xs ++ eS n) ∧ Below w.heap.size w w' := by
  unfold okI at h1
  have hk := hid (fun (x : Int) (hx : x = fld n) => rput_bt v x (fld n).toNat (by rw [hx]; unfold fld; split <;> omega) (by rw [hx]; unfold fld; split <;> omega) xs w h hl)
  have hfn : n < 0 → fld n = -2 * n - 1 := fun h => by unfold fld; rw [if_pos h]
  have hfp : 0 ≤ n → fld n = 2 * n := fun h => by unfold fld; rw [if_neg (by omega)]
  have HF := hid (And.intro hfn hfp)
  unfold eS
  clear hfn hfp h
  rcases Int.lt_or_le n 0 with h0 | h0
  · go_enter Tryz.func20, Tryz.ntmps20
    go_wp2_with fail
    refine (hk.out _ (by rw [HF.out.1 h0])).mono ?_
    rintro e w1 ⟨u, rfl, hB, hb⟩
    have HB := hid hB
    clear hB
    go_wp2_with fail
    go_ret
    exact ⟨u, rfl, HB.out, hb⟩
  · go_enter Tryz.func20, Tryz.ntmps20
    go_wp2_with fail
    refine (hk.out _ (by rw [HF.out.2 h0])).mono ?_
    rintro e w1 ⟨u, rfl, hB, hb⟩
    have HB := hid hB
    clear hB
    go_wp2_with fail
    go_ret
    exact ⟨u, rfl, HB.out, hb⟩

theorem app_len {xs ys : List Int} {L : Nat} (h : xs.length + ys.length ≤ L) : (xs ++ ys).length ≤ L := by rw [List.length_append]; exact h
theorem flat_more {α : Type} (f : α → List Int) (l : List α) (i : Nat) (h : i < l.length) : ((l.take (i + 1)).map f).flatten = ((l.take i).map f).flatten ++ f l[i] := by
  rw [take_one l i h, List.map_append, List.flatten_append]
  simp
theorem flat_pre {α : Type} (f : α → List Int) (l : List α) (i : Nat) (h : i < l.length) : ((l.take i).map f).flatten.length + (f l[i]).length ≤ (l.map f).flatten.length := by
  conv => rhs; rw [← List.take_append_drop (i + 1) l]
  rw [List.map_append, List.flatten_append, List.length_append, flat_more f l i h, List.length_append]
  omega

set_option maxHeartbeats 16000000 in
theorem rencode_any (a : Option Addr) (n c : Nat) (l : List Ex) (N : Nat → Prop) (w : World) (h : Lies 3 ExAt N w a l) (hn : l.length = n) (hc : n ≤ c) (hm : c ≤ 9223372036854775807) (hb : ByP l) :
    Calls Tryz.prog 8 #[.slice a n c] w fun e w' => ∃ v, e = .returned (.tuple #[v, .int .i64 (if pB l = true then 0 else 1)]) ∧ Bt w' v (if pB l = true then eP l else []) ∧ Below w.heap.size w w' := by
  have k1 := hid (rcan_any a n c l N w h hn (by omega))
  have HL := hid h
  have HN := hid hn
  have HBy := hid hb
  have HIs := hid (pB_is (l := l))
  have HLEN := hid (pB_len (l := l))
  generalize pB l = P at k1 HIs HLEN ⊢
  clear h hn hb
  cases P
  · simp only [Bool.false_eq_true, if_false]
    go_enter Tryz.func8, Tryz.ntmps8
    go_wp2_with fail
    refine k1.out.mono ?_
    rintro e w1 ⟨rfl, b1⟩
    have B1 := hid b1
    clear b1
    go_wp2_with fail
    go_ret2
    exact ⟨_, rfl, ⟨none, 0, rfl, Src.nil _ _, fun _ => rfl⟩, B1.out⟩
  · simp only [if_true]
    have hIs := HIs.out rfl
    have hLen := HLEN.out rfl
    have hn64 : n ≤ 64 := by rw [← HN.out]; exact hIs.1
    have HX := hid hIs.2
    have HLe : Hid ((enc l.length).length + (l.map eX).flatten.length ≤ 1099511627776) := hid (by unfold eP eL at hLen; rw [List.length_append] at hLen; exact hLen)
    have k2 := hid (fun wx => rput_bt (.slice none 0 0) (n : Int) n rfl (by omega) [] wx ⟨none, 0, rfl, Src.nil _ _, fun _ => rfl⟩ (by simp))
    clear hIs hLen HIs HLEN
    go_enter Tryz.func8, Tryz.ntmps8
    go_wp2_with fail
    refine k1.out.mono ?_
    rintro e w1 ⟨rfl, b1⟩
    have B1 := hid b1
    clear b1 k1
    go_wp2_with fail
    refine (k2.out _).mono ?_
    rintro e w2 ⟨u2, rfl, hB2, b2⟩
    have B2 := hid (B1.out.trans (b2.mono B1.out.size))
    have T2 : Hid (Bt w2 u2 (enc l.length)) := hid (by rw [HN.out]; simpa using hB2)
    clear b2 hB2 k2
    go_wp2_with fail
    go_loopw [4, 19] (fun vv k wr => ∃ i : Nat, i ≤ n ∧ k = .int .i64 i ∧ Hid (Bt wr vv (enc l.length ++ ((l.take i).map eX).flatten)) ∧ Hid (Below w.heap.size w wr)) (fun _ k _ => n - (intOf k).toNat)
    case atStart => exact ⟨0, Nat.zero_le _, rfl, hid (by simpa using T2.out), B2⟩
    case round =>
      obtain ⟨i, hi, rfl, HT, HB⟩ := hrel
      rename World => wo
      by_cases hlt : i < n
      · have hil : i < l.length := by rw [HN.out]; exact hlt
        obtain ⟨b, o, rfl, _, hbl, hcs⟩ := HL.out.keep (fun _ _ _ h => ExAt.keep (Keep.below HB.out) h) (Keep.below HB.out) (by omega)
        obtain ⟨⟨_, _, d0⟩, hl1, hl2⟩ := hcs i hil
        obtain ⟨ca, cn, cc, d1, e1, m1, m1', L1⟩ := hl1.lies
        obtain ⟨wa, wn, wc, d2, e2, m2, m2', L2⟩ := hl2.lies
        have hMem : l[i] ∈ l := List.getElem_mem hil
        obtain ⟨ix, hix, hxB⟩ := HX.out _ hMem
        have hby := HBy.out _ hMem
        have HMo := hid (flat_more eX l i hil)
        have hPre := flat_pre eX l i hil
        have hLe := HLe.out
        generalize l[i] = x at d0 e1 L1 e2 L2 hxB hby HMo hPre
        obtain ⟨q, cs, ws⟩ := x
        dsimp only at d0 e1 L1 e2 L2
        obtain ⟨⟨a1, a2, a3, a4⟩, hcB, hwB⟩ := xB_is hxB
        dsimp only at a1 a2 a3 a4 hcB hwB hby
        rw [e1] at a3
        rw [e2] at a4
        obtain ⟨X, gX⟩ : ∃ X, X = enc l.length ++ ((l.take i).map eX).flatten := ⟨_, rfl⟩
        have hXl : X.length + (eX ⟨q, cs, ws⟩).length ≤ 1099511627776 := by rw [gX, List.length_append]; omega
        rw [← gX] at HT
        have GX := hid gX
        have heX : (eX ⟨q, cs, ws⟩).length = (enc q.toNat).length + ((enc cs.length).length + (cs.map eC).flatten.length + ((enc ws.length).length + (ws.map eW).flatten.length)) := by
          show (enc (q + 0).toNat ++ ((enc cs.length ++ (cs.map eC).flatten) ++ (enc ws.length ++ (ws.map eW).flatten))).length = _
          simp only [List.length_append, Int.add_zero]
        rw [heX] at hXl
        have HXL := hid hXl
        have HCB := hid hcB
        have HWB := hid hwB
        have HBY := hid hby
        have HE1 := hid e1
        have HE2 := hid e2
        have HL1 := hid L1
        have HL2 := hid L2
        clear hcs hil hl1 hl2 hMem hxB hPre hLe gX heX hXl L1 L2 hcB hwB hby e1 e2
        have hsz := HB.out.size
        obtain ⟨Y, gY⟩ : ∃ Y, Y = wo.alloc (.cells #[.int .i64 q, .slice ca cn cc, .slice wa wn wc] 48) := ⟨_, rfl⟩
        have hY : Below wo.heap.size wo Y := by rw [gY]; exact below_box _ _
        have hYs : wo.heap.size < Y.heap.size := by rw [gY]; simp
        have y0 : Y.cell? ⟨wo.heap.size, 0, none⟩ = some (.int .i64 q) := by rw [gY]; simp
        have y1 : Y.cell? ⟨wo.heap.size, 1, none⟩ = some (.slice ca cn cc) := by rw [gY]; simp
        have y2 : Y.cell? ⟨wo.heap.size, 2, none⟩ = some (.slice wa wn wc) := by rw [gY]; simp
        have hTY := HT.out.below hY
        have kp1 := hid (fun wx (hx : Below Y.heap.size Y wx) => rput_bt u4 q q.toNat (by omega) (by omega) X wx (hTY.below hx) (by have := HXL.out; omega))
        have HBY2 := hid (HB.out.trans (hY.mono HB.out.size))
        have HY := hid hY
        have GY := hid gY
        have mk : Hid (0 = 0) := hid rfl
        clear hTY hY gY
        go_wp2_with fail
        rw [← GY.out]
        go_region_held3 (fun wx => wx.cell? ⟨wo.heap.size, 0, none⟩ = some (.int .i64 q) ∧ wx.cell? ⟨wo.heap.size, 1, none⟩ = some (.slice ca cn cc)) (go_keep) (first
          | (go_at_call 18; clear mk; refine (kp1.out _ (below_hp (Below.refl _ Y) (by rfl) (by rfl) (by rfl) (by rfl))).mono ?_; rintro e v1 ⟨t1, rfl, hB3, b3⟩; have C3 : Hid (Below Y.heap.size Y v1) := hid ((below_hp (Below.refl _ Y) (by rfl) (by rfl) (by rfl) (by rfl)).trans b3); have g0 : v1.cell? ⟨wo.heap.size, 0, none⟩ = some (.int .i64 q) := (C3.out.cell (p := ⟨wo.heap.size, 0, none⟩) hYs).trans y0; have g1 : v1.cell? ⟨wo.heap.size, 1, none⟩ = some (.slice ca cn cc) := (C3.out.cell (p := ⟨wo.heap.size, 1, none⟩) hYs).trans y1; have kp2 := hid (fun wx (hx : Below v1.heap.size v1 wx) => rput_bt t1 (cn : Int) cn rfl (by omega) (X ++ enc q.toNat) wx (hB3.below hx) (app_len (by have := HXL.out; omega))); clear hB3 b3)
          | (go_at_call 18; refine (kp2.out _ (below_hp (Below.refl _ v1) (by rfl) (by rfl) (by rfl) (by rfl))).mono ?_; rintro e v2 ⟨t2, rfl, hB4, b4⟩; have C4 : Hid (Below v1.heap.size v1 v2) := hid ((below_hp (Below.refl _ v1) (by rfl) (by rfl) (by rfl) (by rfl)).trans b4); have hs31 := C3.out.size; have j0 : v2.cell? ⟨wo.heap.size, 0, none⟩ = some (.int .i64 q) := (C4.out.cell (p := ⟨wo.heap.size, 0, none⟩) (Nat.lt_of_lt_of_le hYs hs31)).trans g0; have j1 : v2.cell? ⟨wo.heap.size, 1, none⟩ = some (.slice ca cn cc) := (C4.out.cell (p := ⟨wo.heap.size, 1, none⟩) (Nat.lt_of_lt_of_le hYs hs31)).trans g1; have T4 := hid hB4; clear hB4 b4))
        have hs31 := C3.out.size
        have C5 := hid (C3.out.trans (C4.out.mono C3.out.size))
        have hs5 : Y.heap.size ≤ v2.heap.size := C5.out.size
        have HLa := hid (HL1.out.keep (fun _ _ _ h => CpAt.keep (Keep.below (HY.out.trans (C5.out.mono HY.out.size))) h) (Keep.below (HY.out.trans (C5.out.mono HY.out.size))))
        have HLb := hid (HL2.out.keep (fun _ _ _ h => WdAt.keep (Keep.below (HY.out.trans (C5.out.mono HY.out.size))) h) (Keep.below (HY.out.trans (C5.out.mono HY.out.size))))
        have j2 : v2.cell? ⟨wo.heap.size, 2, none⟩ = some (.slice wa wn wc) := (C5.out.cell (p := ⟨wo.heap.size, 2, none⟩) hYs).trans y2
        have B5 := hid (HBY2.out.trans (C5.out.mono HBY2.out.size))
        have hw2 : wo.heap.size < v2.heap.size := by omega
        obtain ⟨X2, gX2⟩ : ∃ X2, X2 = X ++ enc q.toNat ++ enc cs.length := ⟨_, rfl⟩
        have T5 : Hid (Bt v2 t2 X2) := hid (by rw [gX2, HE1.out]; exact T4.out)
        have hX2l : X2.length + (cs.map eC).flatten.length + ((enc ws.length).length + (ws.map eW).flatten.length) ≤ 1099511627776 := by
          have := HXL.out
          rw [gX2]
          simp only [List.length_append]
          omega
        have HX2 := hid hX2l
        have GX2 := hid gX2
        clear hX2l gX2 T4 kp1 kp2 y0 y1 y2 g0 g1 C3 C4 hs31
        go_wp2_with fail
        go_loopw [4, 34] (fun vv k wr => ∃ j : Nat, j ≤ cn ∧ k = .int .i64 j ∧ Hid (Bt wr vv (X2 ++ ((cs.take j).map eC).flatten)) ∧ Hid (Below v2.heap.size v2 wr)) (fun _ k _ => cn - (intOf k).toNat)
        case atStart => exact ⟨0, Nat.zero_le _, rfl, hid (by simpa using T5.out), hid (Below.refl _ _)⟩
        case round =>
          obtain ⟨j, hj, rfl, HTj, HBj⟩ := hrel
          rename World => wj
          by_cases hjt : j < cn
          · have hjl : j < cs.length := by rw [HE1.out]; exact hjt
            obtain ⟨b', o', rfl, _, hbl', hcs'⟩ := HLa.out.keep (fun _ _ _ h => CpAt.keep (Keep.below HBj.out) h) (Keep.below HBj.out) (by omega)
            obtain ⟨⟨_, _, f0⟩, ⟨_, _, f1⟩, ⟨_, _, f2⟩, ⟨_, _, f3⟩, ⟨_, _, ba, bn, bc, f4, hsrc, _, hbc1, hbc2⟩⟩ := hcs' j hjl
            have hMem : cs[j] ∈ cs := List.getElem_mem hjl
            have hcj := cB_is hix (HCB.out _ hMem)
            have hbyj := HBY.out _ hMem
            have HMo2 := hid (flat_more eC cs j hjl)
            have hPre := flat_pre eC cs j hjl
            generalize cs[j] = C at f0 f1 f2 f3 hsrc hcj hbyj HMo2 hPre
            obtain ⟨r1, r2, r3, r4, r5, r6, r7, r8⟩ := hcj
            have hX2 := HX2.out
            obtain ⟨Z, gZ⟩ : ∃ Z, Z = X2 ++ ((cs.take j).map eC).flatten := ⟨_, rfl⟩
            have hZl : Z.length + (eC C).length ≤ 1099511627776 := by rw [gZ, List.length_append]; omega
            rw [← gZ] at HTj
            have GZ := hid gZ
            clear hcs' hjl hMem hPre hX2 gZ
            obtain ⟨V, gV⟩ : ∃ V, V = wj.alloc (.cells #[.int .i64 C.a, .int .i64 C.r, .int .i64 C.s, .int .i64 C.v, .slice ba bn bc] 50) := ⟨_, rfl⟩
            have hV : Below wj.heap.size wj V := by rw [gV]; exact below_box _ _
            have hVs : wj.heap.size < V.heap.size := by rw [gV]; simp
            have x0 : V.cell? ⟨wj.heap.size, 0, none⟩ = some (.int .i64 C.a) := by rw [gV]; simp
            have x1 : V.cell? ⟨wj.heap.size, 1, none⟩ = some (.int .i64 C.r) := by rw [gV]; simp
            have x2 : V.cell? ⟨wj.heap.size, 2, none⟩ = some (.int .i64 C.s) := by rw [gV]; simp
            have x3 : V.cell? ⟨wj.heap.size, 3, none⟩ = some (.int .i64 C.v) := by rw [gV]; simp
            have x4 : V.cell? ⟨wj.heap.size, 4, none⟩ = some (.slice ba bn bc) := by rw [gV]; simp
            have hTV := HTj.out.below hV
            have heC : (eC C).length = (enc C.a.toNat).length + ((enc (C.r + 1).toNat).length + (eR C).length) := by
              show (enc (C.a + 0).toNat ++ (enc (C.r + 1).toNat ++ eR C)).length = _
              simp only [List.length_append, Int.add_zero]
            rw [heC] at hZl
            unfold okI at r1 r2 r3
            have kp1 := hid (fun wx (hx : Below V.heap.size V wx) => rput_bt u4 C.a C.a.toNat (by omega) (by omega) Z wx (hTV.below hx) (by omega))
            have BV := hid (HBj.out.trans (hV.mono HBj.out.size))
            have hsv := hsrc.below hV
            have HSV := hid hsv
            have GV := hid gV
            have HZL := hid hZl
            have HBYJ := hid hbyj
            have HV4 := hid r4
            have mk : Hid (0 = 0) := hid rfl
            have hwr : IntKind.i64.wrap (C.r + 1) = C.r + 1 := by rw [IntKind.wrap_i64]; omega
            have hszj := HBj.out.size
            clear hTV hV gV heC hZl hsrc hsv hbyj r4
            go_wp2_with fail
            rw [← GV.out]
            go_region_held3 (fun wx => wx.cell? ⟨wj.heap.size, 0, none⟩ = some (.int .i64 C.a) ∧ wx.cell? ⟨wj.heap.size, 1, none⟩ = some (.int .i64 C.r)) (go_keep) (first
              | (go_at_call 18; clear mk; refine (kp1.out _ (below_hp (Below.refl _ V) (by rfl) (by rfl) (by rfl) (by rfl))).mono ?_; rintro e p1 ⟨s1, rfl, hB3, b3⟩; have C3 : Hid (Below V.heap.size V p1) := hid ((below_hp (Below.refl _ V) (by rfl) (by rfl) (by rfl) (by rfl)).trans b3); have g0 : p1.cell? ⟨wj.heap.size, 0, none⟩ = some (.int .i64 C.a) := (C3.out.cell (p := ⟨wj.heap.size, 0, none⟩) hVs).trans x0; have g1 : p1.cell? ⟨wj.heap.size, 1, none⟩ = some (.int .i64 C.r) := (C3.out.cell (p := ⟨wj.heap.size, 1, none⟩) hVs).trans x1; have kp2 := hid (fun wx (hx : Below p1.heap.size p1 wx) => rput_bt s1 (C.r + 1) (C.r + 1).toNat (by omega) (by omega) (Z ++ enc C.a.toNat) wx (hB3.below hx) (app_len (by have := HZL.out; omega))); clear hB3 b3)
              | (go_at_call 18; refine (kp2.out _ (below_hp (Below.refl _ p1) (by rfl) (by rfl) (by rfl) (by rfl))).mono ?_; rintro e p2 ⟨s2, rfl, hB4, b4⟩; have C4 : Hid (Below p1.heap.size p1 p2) := hid ((below_hp (Below.refl _ p1) (by rfl) (by rfl) (by rfl) (by rfl)).trans b4); have hs31 := C3.out.size; have i0 : p2.cell? ⟨wj.heap.size, 0, none⟩ = some (.int .i64 C.a) := (C4.out.cell (p := ⟨wj.heap.size, 0, none⟩) (Nat.lt_of_lt_of_le hVs hs31)).trans g0; have i1 : p2.cell? ⟨wj.heap.size, 1, none⟩ = some (.int .i64 C.r) := (C4.out.cell (p := ⟨wj.heap.size, 1, none⟩) (Nat.lt_of_lt_of_le hVs hs31)).trans g1; have T4 := hid hB4; clear hB4 b4))
            have hs31 := C3.out.size
            have C5' := hid (C3.out.trans (C4.out.mono C3.out.size))
            have hs5' : V.heap.size ≤ p2.heap.size := C5'.out.size
            have i2 : p2.cell? ⟨wj.heap.size, 2, none⟩ = some (.int .i64 C.s) := (C5'.out.cell (p := ⟨wj.heap.size, 2, none⟩) hVs).trans x2
            have i3 : p2.cell? ⟨wj.heap.size, 3, none⟩ = some (.int .i64 C.v) := (C5'.out.cell (p := ⟨wj.heap.size, 3, none⟩) hVs).trans x3
            have i4 : p2.cell? ⟨wj.heap.size, 4, none⟩ = some (.slice ba bn bc) := (C5'.out.cell (p := ⟨wj.heap.size, 4, none⟩) hVs).trans x4
            have B5' := hid (BV.out.trans (C5'.out.mono BV.out.size))
            have hwp : wj.heap.size < p2.heap.size := by omega
            have HS2 := hid (HSV.out.below C5'.out)
            clear kp1 kp2 x0 x1 x2 x3 x4 g0 g1 C3 C4 hs31 HSV
            by_cases hr : C.r = -1
            · have HeR : Hid (eR C = eT C.bs) := hid (by unfold eR; rw [if_pos hr])
              rw [hr] at i1
              have ec := HS2.out.convert (P := Tryz.prog) bc 23 5 9 Tryz.underlying23 Tryz.underlying5 Tryz.underlying9
              have hS := str_of HBYJ.out
              have kt := hid (rtext_bt s2 (strOfNums C.bs) C.bs hS (Z ++ enc C.a.toNat ++ enc (C.r + 1).toNat) p2 T4.out (by have := HZL.out; rw [HeR.out] at this; unfold eT at this; simp only [List.length_append] at this ⊢; omega))
              generalize strOfNums C.bs = S at ec kt
              clear hS
              go_wp2_with fail
              refine kt.out.mono ?_
              rintro e p3 ⟨s3, rfl, hB6, b6⟩
              have T6 : Hid (Bt p3 s3 (X2 ++ ((cs.take (j + 1)).map eC).flatten)) := hid (by
                rw [HMo2.out, ← List.append_assoc, ← GZ.out]
                have e : Z ++ eC C = Z ++ enc C.a.toNat ++ enc (C.r + 1).toNat ++ eT C.bs := by
                  show Z ++ (enc (C.a + 0).toNat ++ (enc (C.r + 1).toNat ++ eR C)) = _
                  rw [HeR.out, Int.add_zero]
                  simp only [List.append_assoc]
                rw [e]
                exact hB6)
              have B6 := hid (B5'.out.trans (b6.mono B5'.out.size))
              clear hB6 b6 kt ec
              go_wp2_with fail
              go_roundw
              case rel => exact ⟨j + 1, by omega, by go_num, T6, B6⟩
              case measure => simp [intOf]; omega
            · have HeR : Hid (eR C = enc C.s.toNat ++ eS C.v) := hid (by unfold eR eN; rw [if_neg hr, Int.add_zero])
              have hr' : (C.r == -1) = false := by simp [hr]
              have ks1 := hid (fun wx (hx : Below p2.heap.size p2 wx) => rput_bt s2 C.s C.s.toNat (by omega) (by omega) (Z ++ enc C.a.toNat ++ enc (C.r + 1).toNat) wx (T4.out.below hx) (by have := HZL.out; simp only [List.length_append]; omega))
              go_wp2_with fail
              go_region_held3 (fun wx => wx.cell? ⟨wj.heap.size, 2, none⟩ = some (.int .i64 C.s) ∧ wx.cell? ⟨wj.heap.size, 3, none⟩ = some (.int .i64 C.v)) (go_keep) (first
                | (go_at_call 18; refine (ks1.out _ (below_hp (Below.refl _ p2) (by rfl) (by rfl) (by rfl) (by rfl))).mono ?_; rintro e p3 ⟨s3, rfl, hB3, b3⟩; have D3 : Hid (Below p2.heap.size p2 p3) := hid ((below_hp (Below.refl _ p2) (by rfl) (by rfl) (by rfl) (by rfl)).trans b3); have g2 : p3.cell? ⟨wj.heap.size, 2, none⟩ = some (.int .i64 C.s) := (D3.out.cell (p := ⟨wj.heap.size, 2, none⟩) hwp).trans i2; have g3 : p3.cell? ⟨wj.heap.size, 3, none⟩ = some (.int .i64 C.v) := (D3.out.cell (p := ⟨wj.heap.size, 3, none⟩) hwp).trans i3; have ks2 := hid (fun wx (hx : Below p3.heap.size p3 wx) => rsgn_bt s3 C.v HV4.out (Z ++ enc C.a.toNat ++ enc (C.r + 1).toNat ++ enc C.s.toNat) wx (hB3.below hx) (by have := HZL.out; rw [HeR.out] at this; simp only [List.length_append] at this ⊢; omega)); clear hB3 b3)
                | (go_at_call 20; refine (ks2.out _ (below_hp (Below.refl _ p3) (by rfl) (by rfl) (by rfl) (by rfl))).mono ?_; rintro e p4 ⟨s4, rfl, hB4, b4⟩; have D4 : Hid (Below p3.heap.size p3 p4) := hid ((below_hp (Below.refl _ p3) (by rfl) (by rfl) (by rfl) (by rfl)).trans b4); have hs31 := D3.out.size; have h2 : p4.cell? ⟨wj.heap.size, 2, none⟩ = some (.int .i64 C.s) := (D4.out.cell (p := ⟨wj.heap.size, 2, none⟩) (Nat.lt_of_lt_of_le hwp hs31)).trans g2; have h3 : p4.cell? ⟨wj.heap.size, 3, none⟩ = some (.int .i64 C.v) := (D4.out.cell (p := ⟨wj.heap.size, 3, none⟩) (Nat.lt_of_lt_of_le hwp hs31)).trans g3; have T7 := hid hB4; clear hB4 b4))
              have T6 : Hid (Bt p4 s4 (X2 ++ ((cs.take (j + 1)).map eC).flatten)) := hid (by
                rw [HMo2.out, ← List.append_assoc, ← GZ.out]
                have e : Z ++ eC C = Z ++ enc C.a.toNat ++ enc (C.r + 1).toNat ++ enc C.s.toNat ++ eS C.v := by
                  show Z ++ (enc (C.a + 0).toNat ++ (enc (C.r + 1).toNat ++ eR C)) = _
                  rw [HeR.out, Int.add_zero]
                  simp only [List.append_assoc]
                rw [e]
                exact T7.out)
              have B6 := hid (B5'.out.trans ((D3.out.trans (D4.out.mono D3.out.size)).mono B5'.out.size))
              clear T7 ks1 ks2 g2 g3 D3 D4
              go_wp2_with fail
              go_roundw
              case rel => exact ⟨j + 1, by omega, by go_num, T6, B6⟩
              case measure => simp [intOf]; omega
          · obtain rfl : j = cn := by omega
            have T8 : Hid (Bt wj u4 (X2 ++ (cs.map eC).flatten)) := hid (by have := HTj.out; rw [← HE1.out, List.take_length] at this; exact this)
            have hsj := HBj.out.size
            have n2 := (HBj.out.cell (p := ⟨wo.heap.size, 2, none⟩) hw2).trans j2
            have kw := hid (rput_bt u4 (wn : Int) wn rfl (by omega) (X2 ++ (cs.map eC).flatten) wj T8.out (app_len (by have := HX2.out; omega)))
            have HLc := hid (HLb.out.keep (fun _ _ _ h => WdAt.keep (Keep.below HBj.out) h) (Keep.below HBj.out))
            have B8 := hid (B5.out.trans (HBj.out.mono B5.out.size))
            have hwoj : wo.heap.size < wj.heap.size := by omega
            clear HTj j0 j1 j2 HLa HLb T5
            go_wp2_with fail
            refine kw.out.mono ?_
            rintro e v3 ⟨t3, rfl, hB9, b9⟩
            obtain ⟨X3, gX3⟩ : ∃ X3, X3 = X2 ++ (cs.map eC).flatten ++ enc ws.length := ⟨_, rfl⟩
            have T9 : Hid (Bt v3 t3 X3) := hid (by rw [gX3, HE2.out]; exact hB9)
            have hX3l : X3.length + (ws.map eW).flatten.length ≤ 1099511627776 := by
              have := HX2.out
              rw [gX3]
              simp only [List.length_append]
              omega
            have HX3 := hid hX3l
            have GX3 := hid gX3
            have hs9 := b9.size
            have n2' := (b9.cell (p := ⟨wo.heap.size, 2, none⟩) hwoj).trans n2
            have HLd := hid (HLc.out.keep (fun _ _ _ h => WdAt.keep (Keep.below b9) h) (Keep.below b9))
            have B9 := hid (B8.out.trans (b9.mono B8.out.size))
            clear hX3l gX3 hB9 b9 kw n2 HLc T8
            go_wp2_with fail
            go_loopw [4, 70] (fun vv k wr => ∃ t : Nat, t ≤ wn ∧ k = .int .i64 t ∧ Hid (Bt wr vv (X3 ++ ((ws.take t).map eW).flatten)) ∧ Hid (Below v3.heap.size v3 wr)) (fun _ k _ => wn - (intOf k).toNat)
            case atStart => exact ⟨0, Nat.zero_le _, rfl, hid (by simpa using T9.out), hid (Below.refl _ _)⟩
            case round =>
              obtain ⟨t, ht, rfl, HTt, HBt⟩ := hrel
              rename World => wt
              by_cases htt : t < wn
              · have hjl : t < ws.length := by rw [HE2.out]; exact htt
                obtain ⟨b', o', rfl, _, hbl', hcs'⟩ := HLd.out.keep (fun _ _ _ h => WdAt.keep (Keep.below HBt.out) h) (Keep.below HBt.out) (by omega)
                obtain ⟨⟨_, _, f0⟩, ⟨_, _, f1⟩⟩ := hcs' t hjl
                have hMem : ws[t] ∈ ws := List.getElem_mem hjl
                have hcj := wB_is hix (HWB.out _ hMem)
                have HMo2 := hid (flat_more eW ws t hjl)
                have hPre := flat_pre eW ws t hjl
                generalize ws[t] = C at f0 f1 hcj HMo2 hPre
                obtain ⟨r1, r2, r3⟩ := hcj
                have hX3 := HX3.out
                obtain ⟨Z, gZ⟩ : ∃ Z, Z = X3 ++ ((ws.take t).map eW).flatten := ⟨_, rfl⟩
                have hZl : Z.length + (eW C).length ≤ 1099511627776 := by rw [gZ, List.length_append]; omega
                rw [← gZ] at HTt
                have GZ := hid gZ
                clear hcs' hjl hMem hPre hX3 gZ
                obtain ⟨V, gV⟩ : ∃ V, V = wt.alloc (.cells #[.int .i64 C.r, .int .i64 C.v] 53) := ⟨_, rfl⟩
                have hV : Below wt.heap.size wt V := by rw [gV]; exact below_box _ _
                have hVs : wt.heap.size < V.heap.size := by rw [gV]; simp
                have x0 : V.cell? ⟨wt.heap.size, 0, none⟩ = some (.int .i64 C.r) := by rw [gV]; simp
                have x1 : V.cell? ⟨wt.heap.size, 1, none⟩ = some (.int .i64 C.v) := by rw [gV]; simp
                have hTV := HTt.out.below hV
                have heC : (eW C).length = (enc (C.r + 1).toNat).length + (eS C.v).length := by
                  show (enc (C.r + 1).toNat ++ eS C.v).length = _
                  simp only [List.length_append]
                rw [heC] at hZl
                unfold okI at r1
                have kp1 := hid (fun wx (hx : Below V.heap.size V wx) => rput_bt u4 (C.r + 1) (C.r + 1).toNat (by omega) (by omega) Z wx (hTV.below hx) (by omega))
                have BV := hid (HBt.out.trans (hV.mono HBt.out.size))
                have GV := hid gV
                have HZL := hid hZl
                have HV4 := hid r2
                have hwr : IntKind.i64.wrap (C.r + 1) = C.r + 1 := by rw [IntKind.wrap_i64]; omega
                have hszj := HBt.out.size
                clear hTV hV gV heC hZl r2
                go_wp2_with fail
                rw [← GV.out]
                go_region_held3 (fun wx => wx.cell? ⟨wt.heap.size, 0, none⟩ = some (.int .i64 C.r) ∧ wx.cell? ⟨wt.heap.size, 1, none⟩ = some (.int .i64 C.v)) (go_keep) (first
                  | (go_at_call 18; refine (kp1.out _ (below_hp (Below.refl _ V) (by rfl) (by rfl) (by rfl) (by rfl))).mono ?_; rintro e p1 ⟨s1, rfl, hB3, b3⟩; have C3 : Hid (Below V.heap.size V p1) := hid ((below_hp (Below.refl _ V) (by rfl) (by rfl) (by rfl) (by rfl)).trans b3); have g0 : p1.cell? ⟨wt.heap.size, 0, none⟩ = some (.int .i64 C.r) := (C3.out.cell (p := ⟨wt.heap.size, 0, none⟩) hVs).trans x0; have g1 : p1.cell? ⟨wt.heap.size, 1, none⟩ = some (.int .i64 C.v) := (C3.out.cell (p := ⟨wt.heap.size, 1, none⟩) hVs).trans x1; have kp2 := hid (fun wx (hx : Below p1.heap.size p1 wx) => rsgn_bt s1 C.v HV4.out (Z ++ enc (C.r + 1).toNat) wx (hB3.below hx) (app_len (by have := HZL.out; omega))); clear hB3 b3)
                  | (go_at_call 20; refine (kp2.out _ (below_hp (Below.refl _ p1) (by rfl) (by rfl) (by rfl) (by rfl))).mono ?_; rintro e p2 ⟨s2, rfl, hB4, b4⟩; have C4 : Hid (Below p1.heap.size p1 p2) := hid ((below_hp (Below.refl _ p1) (by rfl) (by rfl) (by rfl) (by rfl)).trans b4); have hs31 := C3.out.size; have i0 : p2.cell? ⟨wt.heap.size, 0, none⟩ = some (.int .i64 C.r) := (C4.out.cell (p := ⟨wt.heap.size, 0, none⟩) (Nat.lt_of_lt_of_le hVs hs31)).trans g0; have i1 : p2.cell? ⟨wt.heap.size, 1, none⟩ = some (.int .i64 C.v) := (C4.out.cell (p := ⟨wt.heap.size, 1, none⟩) (Nat.lt_of_lt_of_le hVs hs31)).trans g1; have T4' := hid hB4; clear hB4 b4))
                have T6 : Hid (Bt p2 s2 (X3 ++ ((ws.take (t + 1)).map eW).flatten)) := hid (by
                  rw [HMo2.out, ← List.append_assoc, ← GZ.out]
                  have e : Z ++ eW C = Z ++ enc (C.r + 1).toNat ++ eS C.v := by
                    show Z ++ (enc (C.r + 1).toNat ++ eS C.v) = _
                    simp only [List.append_assoc]
                  rw [e]
                  exact T4'.out)
                have B6 := hid (BV.out.trans ((C3.out.trans (C4.out.mono C3.out.size)).mono BV.out.size))
                clear T4' kp1 kp2 g0 g1 x0 x1 C3 C4
                go_wp2_with fail
                go_roundw
                case rel => exact ⟨t + 1, by omega, by go_num, T6, B6⟩
                case measure => simp [intOf]; omega
              · obtain rfl : t = wn := by omega
                have T10 : Hid (Bt wt u4 (enc l.length ++ ((l.take (i + 1)).map eX).flatten)) := hid (by
                  have := HTt.out
                  rw [← HE2.out, List.take_length] at this
                  rw [HMo.out, ← List.append_assoc, ← GX.out]
                  have e : X ++ eX ⟨q, cs, ws⟩ = X3 ++ (ws.map eW).flatten := by
                    show X ++ (enc (q + 0).toNat ++ ((enc cs.length ++ (cs.map eC).flatten) ++ (enc ws.length ++ (ws.map eW).flatten))) = _
                    rw [GX3.out, GX2.out, Int.add_zero]
                    simp only [List.append_assoc]
                  rw [e]
                  exact this)
                have B10 := hid (B9.out.trans (HBt.out.mono B9.out.size))
                go_wp2_with fail
                go_roundw
                case rel => exact ⟨i + 1, by omega, by go_num, T10, B10⟩
                case measure => simp [intOf]; omega
      · obtain rfl : i = n := by omega
        have HT2 : Hid (Bt wo u4 (eP l)) := hid (by have := HT.out; rw [← HN.out, List.take_length] at this; exact this)
        go_wp2_with fail
        go_ret2
        exact ⟨u4, rfl, HT2.out, HB.out⟩

end Go.Proofs.YtpbhcmfbcnihiaaGreat
