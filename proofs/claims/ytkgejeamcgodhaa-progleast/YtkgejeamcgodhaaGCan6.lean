/- Whether a table may be: the document's. -/
import Derived.Test.YtkgejeamcgodhaaGCan5
import Derived.Laws.AppendOwn
import Derived.WalkSpells
namespace Go.Proofs.Ytkgejeamcgodhaa
open Go.RowKit
set_option linter.unusedVariables false
set_option maxRecDepth 20000

theorem own_ints {w : World} {B : Nat} {v : Value} {xs : List Int} (h : w.ownsRow B 3 1 v xs.length (xs.map (Value.int .i64))) : ∃ a c, v = .slice a xs.length c ∧ Ints w a xs := by
  have h0 := h
  rcases h.2 with ⟨rfl, hn⟩ | ⟨g, c, cur, rfl, _, _, h1, h2, _⟩
  · rw [hn]
    exact ⟨none, 0, rfl, fun h => by omega⟩
  · refine ⟨_, c, rfl, fun hl => ⟨g, 0, rfl, (h0.lt g rfl).2, fun j hj => ?_⟩⟩
    rw [Nat.zero_add, h0.cellAt j (by simpa using hj), List.getElem?_map, List.getElem?_eq_getElem hj, List.getD_eq_getElem?_getD, List.getElem?_eq_getElem hj]
    rfl

set_option maxHeartbeats 4000000 in
theorem rcan_yes (a : Option Addr) (n c : Nat) (a2 : Option Addr) (m c2 : Nat) (l : List Ty) (q : List Cl) (w : World) (h : Tys w a l) (hn : l.length = n) (h2 : Cls w a2 q) (hm : q.length = m) (h4 : n ≤ 400) (h5 : m ≤ 64) :
    Calls Try.prog 9 #[.agg #[.slice a n c, .slice a2 m c2]] w fun e w' => e = .returned (.bool ((runG [] l).isSome && q.all (callB n))) ∧ Below w.heap.size w w' := by
  obtain ⟨i0, hi0, hz0, hz1, hz2⟩ := info_parts infoInt
  have HT := hid h
  have HC := hid h2
  have HN := hid hn
  have HM := hid hm
  obtain ⟨R, gR⟩ : ∃ R, R = ((runG [] l).isSome && q.all (callB n)) := ⟨_, rfl⟩
  rw [← gR]
  have HR := hid gR
  clear gR h hn h2 hm
  have h4' : ¬ (400 < (n : Int)) := by omega
  have h5' : ¬ (64 < (m : Int)) := by omega
  go_enter Try.func9, Try.ntmps9
  go_wp2_with fail
  obtain ⟨X, gX⟩ : ∃ X, X = w.alloc (.cells #[.slice a n c, .slice a2 m c2] 25) := ⟨_, rfl⟩
  rw [← gX]
  have hX : Below w.heap.size w X := by rw [gX]; exact below_box _ _
  have hXs : w.heap.size < X.heap.size := by rw [gX]; simp
  have x0 : X.cell? ⟨w.heap.size, 0, none⟩ = some (.slice a n c) := by rw [gX]; simp
  have x1 : X.cell? ⟨w.heap.size, 1, none⟩ = some (.slice a2 m c2) := by rw [gX]; simp
  replace HT := hid (HT.out.below hX)
  replace HC := hid (HC.out.below hX)
  have HXB := hid hX
  clear gX hX
  go_loopw [3, 25] (fun v k wr => ∃ (i : Nat) (g : List Int), i ≤ n ∧ k = .int .i64 i ∧ Hid (runG [] (l.take i) = some g) ∧ Hid (wr.ownsRow X.heap.size 3 1 v g.length (g.map (Value.int .i64))) ∧ Hid (Below X.heap.size X wr)) (fun _ k _ => n - (intOf k).toNat)
  case atStart => exact ⟨0, [], Nat.zero_le _, rfl, hid rfl, hid (World.ownsRow_nil _ _ _ _), hid (Below.refl _ _)⟩
  case round =>
    obtain ⟨i, g, hi, rfl, HG, HW, HB⟩ := hrel
    by_cases hlt : i < n
    · have hil : i < l.length := by rw [HN.out]; exact hlt
      have hgl : g.length = i := by have := runG_len _ _ _ HG.out; simp at this; omega
      obtain ⟨b, o, rfl, hbl, hcs⟩ := HT.out.below HB.out (by omega)
      obtain ⟨⟨c0, c1, c2', c3, c4, c5, c6, c7, c8, c9⟩, ok⟩ := hcs i hil
      have HM' := hid (runG_more l i hil g HG.out)
      have HS := hid (runG_stop l i hil g HG.out)
      generalize l[i] = T at c0 c1 c2' c3 c4 c5 c6 c7 c8 c9 ok HM' HS
      clear hcs hil
      obtain ⟨k, s, lo, hi', d, o', va, vn, vc, vs, ta, tn, tc, ts, ea, en, ec, es, na, nn, nc⟩ := T
      dsimp only at c0 c1 c2' c3 c4 c5 c6 c7 c8 c9
      have HO := hid ok
      have HEL := hid ok.el
      have hem := ok.em
      have heb := ok.eb
      clear ok
      dsimp only at HEL hem heb
      obtain ⟨av, cv, rfl, hv⟩ := own_ints HW.out
      have HV := hid hv
      have HGL := hid hgl
      rw [hgl] at HW ⊢
      clear hv hgl
      have hsz := HB.out.size
      have HE := hid (Ints.below (a := ea) (l := es) HO.out.es (below_box wr (.cells #[.int .i64 k, .int .i64 s, .int .i64 lo, .int .i64 hi', .int .i64 d, .string o', .slice va vn vc, .slice ta tn tc, .slice ea en ec, .slice na nn nc] 52)))
      have HX := hid (HB.out.alloc HB.out.size (.cells #[.int .i64 k, .int .i64 s, .int .i64 lo, .int .i64 hi', .int .i64 d, .string o', .slice va vn vc, .slice ta tn tc, .slice ea en ec, .slice na nn nc] 52))
      go_wp2_with fail
      rename World => wo
      go_loop [33] (fun k => ∃ j : Nat, j ≤ en ∧ k = .int .i64 j ∧ Hid (ahead i (es.take j) = true)) (fun k => en - (intOf k).toNat)
      case atStart => exact ⟨0, Nat.zero_le _, rfl, hid rfl⟩
      case round =>
        obtain ⟨j, hj, rfl, HA⟩ := hrel
        by_cases hjt : j < en
        · have hjl : j < es.length := by rw [HEL.out]; exact hjt
          obtain ⟨b2, o2, rfl, hbl2, hcs2⟩ := HE.out (by omega)
          have hci := hcs2 j hjl
          have HM2 := hid (ahead_more i es j hjl)
          have HS2 := hid (ahead_stop i es j hjl)
          generalize es.getD j 0 = x at hci HM2 HS2
          clear hcs2 hbl2 hjl
          by_cases hx : 0 ≤ x ∧ x < (i : Int)
          · have hx1 := hx.1
            have hx2 := hx.2
            go_wp2_with fail
            go_round
            case rel => exact ⟨j + 1, by omega, by go_num, hid (by rw [HM2.out, HA.out]; simp; omega)⟩
            case measure => simp [intOf]; omega
          · have HF : Hid (runG [] l = none) := hid (HS.out (by unfold okG; rw [HGL.out, HS2.out hx]; rfl))
            by_cases hx0 : x < 0
            · go_wp2_with fail
              go_ret
              exact ⟨ret_bool (by rw [HR.out, HF.out]; rfl), HXB.out.trans (HX.out.mono HXB.out.size)⟩
            · have hx1 : (i : Int) ≤ x := by omega
              go_wp2_with fail
              go_ret
              exact ⟨ret_bool (by rw [HR.out, HF.out]; rfl), HXB.out.trans (HX.out.mono HXB.out.size)⟩
        · have hje : j = en := by omega
          have HF : Hid (ahead i es = true) := hid (by have := HA.out; rw [hje, ← HEL.out, List.take_length] at this; exact this)
          have hjn : ¬ ((j : Int) < (en : Int)) := by omega
          clear hje HA
          generalize hB1 : partsN (⟨k, s, lo, hi', d, o', va, vn, vc, vs, ta, tn, tc, ts, ea, en, ec, es, na, nn, nc⟩ : Ty) = B1
          generalize hB2 : fitsB (⟨k, s, lo, hi', d, o', va, vn, vc, vs, ta, tn, tc, ts, ea, en, ec, es, na, nn, nc⟩ : Ty) = B2
          have k1 := hid (fun o => relems_any (⟨k, s, lo, hi', d, o', va, vn, vc, vs, ta, tn, tc, ts, ea, en, ec, es, na, nn, nc⟩ : Ty) (wo.alloc o) (HO.out.below (below_box wo o)))
          dsimp only at k1
          rw [hB1] at k1
          have HB1 := hid hB1
          have HB2 := hid hB2
          clear hB1 hB2
          go_wp2_with fail
          refine (k1.out _).mono ?_
          rintro e w1 ⟨rfl, hb1⟩
          obtain ⟨hc1, hf1⟩ := bcell hb1
          have hs1 : wo.heap.size < w1.heap.size := by have := hb1.size; simp at this; omega
          have u1 := hid (below_box wo _ |>.trans (hb1.mono (below_box wo _).size))
          have k2 := hid (rfits_any (⟨k, s, lo, hi', d, o', va, vn, vc, vs, ta, tn, tc, ts, ea, en, ec, es, na, nn, nc⟩ : Ty) w1 (HO.out.below u1.out))
          dsimp only at k2
          rw [HB2.out] at k2
          cases B1
          · go_wp2_with fail
            go_ret
            refine ⟨ret_bool ?_, HXB.out.trans ((HB.out.trans (u1.out.mono HB.out.size)).mono HXB.out.size)⟩
            rw [HR.out, HS.out (by unfold okG; rw [HGL.out, HF.out, HB1.out]; rfl)]
            rfl
          · go_wp2_with fail
            refine k2.out.mono ?_
            rintro e w2 ⟨rfl, hb2⟩
            obtain ⟨hc2, hf2⟩ := bcell hb2
            have hs2 : wo.heap.size < w2.heap.size := by have := hb2.size; omega
            have u2 := hid (u1.out.trans (hb2.mono u1.out.size))
            have k3 := hid (rgreat_any (⟨k, s, lo, hi', d, o', va, vn, vc, vs, ta, tn, tc, ts, ea, en, ec, es, na, nn, nc⟩ : Ty) av i cv g w2 (HO.out.below u2.out) (HV.out.below u2.out) HGL.out HF.out (by omega))
            dsimp only at k3
            cases B2
            · go_wp2_with fail
              go_ret
              refine ⟨ret_bool ?_, HXB.out.trans ((HB.out.trans (u2.out.mono HB.out.size)).mono HXB.out.size)⟩
              rw [HR.out, HS.out (by unfold okG; rw [HGL.out, HF.out, HB1.out, HB2.out]; rfl)]
              rfl
            · go_wp2_with fail
              refine k3.out.mono ?_
              rintro e w3 ⟨rfl, hb3⟩
              obtain ⟨hc3, hf3⟩ := bcell hb3
              have hs3 : wo.heap.size < w3.heap.size := by have := hb3.size; omega
              have u3 := hid (u2.out.trans (hb3.mono u2.out.size))
              have k4 := hid (rgreat_any (⟨k, s, lo, hi', d, o', va, vn, vc, vs, ta, tn, tc, ts, ea, en, ec, es, na, nn, nc⟩ : Ty) av i cv g w3 (HO.out.below u3.out) (HV.out.below u3.out) HGL.out HF.out (by omega))
              dsimp only at k4
              have HGd : Hid (∃ G, G = greatG (⟨k, s, lo, hi', d, o', va, vn, vc, vs, ta, tn, tc, ts, ea, en, ec, es, na, nn, nc⟩ : Ty) g) := hid ⟨_, rfl⟩
              by_cases hgt : greatG (⟨k, s, lo, hi', d, o', va, vn, vc, vs, ta, tn, tc, ts, ea, en, ec, es, na, nn, nc⟩ : Ty) g ≤ 300
              · have HOK : Hid (okG g (⟨k, s, lo, hi', d, o', va, vn, vc, vs, ta, tn, tc, ts, ea, en, ec, es, na, nn, nc⟩ : Ty) = true) := hid (by unfold okG; rw [HGL.out, HF.out, HB1.out, HB2.out]; simp [hgt])
                have hgt2 : ¬ (300 < greatG (⟨k, s, lo, hi', d, o', va, vn, vc, vs, ta, tn, tc, ts, ea, en, ec, es, na, nn, nc⟩ : Ty) g) := by omega
                generalize greatG (⟨k, s, lo, hi', d, o', va, vn, vc, vs, ta, tn, tc, ts, ea, en, ec, es, na, nn, nc⟩ : Ty) g = G at *
                go_wp2_with fail
                refine k4.out.mono ?_
                rintro e w4 ⟨rfl, hb4⟩
                have u4 := hid (u3.out.trans (hb4.mono u3.out.size))
                have HW4 := hid (own_below HW.out u4.out)
                have HX4 := hid (HB.out.trans (u4.out.mono HB.out.size))
                have hx4 := HX4.out.size
                go_wp2_with (at_builtin; go_must (refine wpList_append_own _ rfl (.tmp 59) (.tmp 63) 44 rfl X.heap.size 3 i0 _ 1 8 Try.underlying44 hi0 hz0 hz1 hz2 rfl (by decide) _ i (g.map (Value.int .i64)) rfl (HW4.out.alloc _) ⟨_, 0, none⟩ 1 1 [.int .i64 G] rfl rfl (cell_one_new _ _ _) (by simp [Value.oneCell']) (by unfold maxLen; omega) (by omega) (by simp; omega) ?_))
                intro v' w5 hO5 hG5 hN5
                have HO5 : Hid (w5.ownsRow X.heap.size 3 1 v' (g ++ [G]).length ((g ++ [G]).map (Value.int .i64))) := by
                  have := hO5
                  rw [show (g ++ [G]).length = i + 1 by simp [HGL.out], show (g ++ [G]).map (Value.int .i64) = g.map (Value.int .i64) ++ [.int .i64 G] by simp]
                  exact hid this
                have HB5 := hid ((HX4.out.alloc HX4.out.size _).grown hG5 (by simp; omega) (fun k hk => (HW4.out.lt k hk).1))
                clear hO5 hG5 hN5
                go_wp2_with fail
                go_roundw
                case rel => exact ⟨i + 1, g ++ [G], by omega, by go_num, hid (HM'.out HOK.out), HO5, HB5⟩
                case measure => simp [intOf]; omega
              · have HOK : Hid (okG g (⟨k, s, lo, hi', d, o', va, vn, vc, vs, ta, tn, tc, ts, ea, en, ec, es, na, nn, nc⟩ : Ty) = false) := hid (by unfold okG; rw [HGL.out, HF.out, HB1.out, HB2.out]; simp [hgt])
                have hgt2 : 300 < greatG (⟨k, s, lo, hi', d, o', va, vn, vc, vs, ta, tn, tc, ts, ea, en, ec, es, na, nn, nc⟩ : Ty) g := by omega
                generalize greatG (⟨k, s, lo, hi', d, o', va, vn, vc, vs, ta, tn, tc, ts, ea, en, ec, es, na, nn, nc⟩ : Ty) g = G at *
                go_wp2_with fail
                go_ret
                refine ⟨ret_bool ?_, HXB.out.trans ((HB.out.trans (u3.out.mono HB.out.size)).mono HXB.out.size)⟩
                rw [HR.out, HS.out HOK.out]
                rfl
    · obtain rfl : i = n := by omega
      have HF : Hid (runG [] l = some g) := hid (by have := HG.out; rw [← HN.out, List.take_length] at this; exact this)
      rw [HF.out] at HR
      have hz := HB.out.size
      have y0 := (HB.out.cell (p := ⟨w.heap.size, 0, none⟩) hXs).trans x0
      have y1 := (HB.out.cell (p := ⟨w.heap.size, 1, none⟩) hXs).trans x1
      replace HC := hid (HC.out.below HB.out)
      replace HXB := hid (HXB.out.trans (HB.out.mono HXB.out.size))
      have hXs2 : w.heap.size < wr.heap.size := by omega
      clear HW HG HF HB HT x0 x1
      go_wp2_with fail
      rename World => X2
      go_loopw [69] (fun k wr => ∃ j : Nat, j ≤ m ∧ k = .int .i64 j ∧ Hid ((q.take j).all (callB i) = true) ∧ Hid (Below X2.heap.size X2 wr)) (fun k _ => m - (intOf k).toNat)
      case atStart => exact ⟨0, Nat.zero_le _, rfl, hid rfl, hid (Below.refl _ _)⟩
      case round =>
        obtain ⟨j, hj, rfl, HG, HB⟩ := hrel
        by_cases hjt : j < m
        · have hil : j < q.length := by rw [HM.out]; exact hjt
          obtain ⟨b, o, rfl, hbl, hcs⟩ := HC.out.below HB.out (by omega)
          obtain ⟨⟨c0, c1, c2', c3, c4⟩, ok⟩ := hcs j hil
          have HMt : Hid (q.take (j + 1) = q.take j ++ [q[j]]) := hid (take_cl q j hil)
          have HMem : Hid (q[j] ∈ q) := hid (List.getElem_mem hil)
          generalize q[j] = C at c0 c1 c2' c3 c4 ok HMt HMem
          clear hcs hil
          have ham := ok.am
          have hab := ok.ab
          have hnm := ok.nm
          have hnb := ok.nb
          have HO := hid ok
          have HAL := hid ok.al
          clear ok
          have hsz := HB.out.size
          have z0 := (HB.out.cell (p := ⟨w.heap.size, 0, none⟩) hXs2).trans y0
          have hz3 : w.heap.size < wr.heap.size := by omega
          have HX := hid (fun o => HB.out.alloc HB.out.size o)
          by_cases hC : C.an ≤ 6 ∧ C.nn = C.an ∧ 0 ≤ C.no ∧ C.no ≤ 63
          · obtain ⟨q1, q2, q3, q4⟩ := hC
            have q1' : ¬ (6 < (C.an : Int)) := by omega
            have q3' : ¬ (C.no < 0) := by omega
            have q4' : ¬ (63 < C.no) := by omega
            have HE := hid (fun o => HO.out.ag.below (below_box wr o))
            obtain ⟨nm, no, aa, an, ac, ags, na, nn, nc, rt⟩ := C
            dsimp only at *
            subst q2
            have HCB : Hid (∀ x, ahead i ags = x → callB i ⟨nm, no, aa, nn, ac, ags, na, nn, nc, rt⟩ = x) := hid (by
              intro x hx
              unfold callB
              dsimp only
              rw [hx, decide_eq_true ⟨q1, rfl, q3, q4⟩]
              rfl)
            go_wp2_with fail
            go_loop [99] (fun k => ∃ t : Nat, t ≤ nn ∧ k = .int .i64 t ∧ Hid (ahead i (ags.take t) = true)) (fun k => nn - (intOf k).toNat)
            case atStart => exact ⟨0, Nat.zero_le _, rfl, hid rfl⟩
            case round =>
              obtain ⟨t, ht, rfl, HA⟩ := hrel
              by_cases htt : t < nn
              · have hjl : t < ags.length := by rw [HAL.out]; exact htt
                obtain ⟨b2, o2, rfl, hbl2, hcs2⟩ := HE.out (.cells #[.string nm, .int .i64 no, .slice aa nn ac, .slice na nn nc, .string rt] 56) (by omega)
                have hci := hcs2 t hjl
                have HM2 := hid (ahead_more i ags t hjl)
                have HS2 := hid (ahead_stop i ags t hjl)
                generalize ags.getD t 0 = x at hci HM2 HS2
                clear hcs2 hbl2 hjl
                by_cases hx : 0 ≤ x ∧ x < (i : Int)
                · have hx1 := hx.1
                  have hx2 := hx.2
                  go_wp2_with fail
                  go_round
                  case rel => exact ⟨t + 1, by omega, by go_num, hid (by rw [HM2.out, HA.out]; simp; omega)⟩
                  case measure => simp [intOf]; omega
                · have HF : Hid (q.all (callB i) = false) := hid (by
                    rw [List.all_eq_false]
                    exact ⟨_, HMem.out, by rw [HCB.out _ (HS2.out hx)]; simp⟩)
                  by_cases hx0 : x < 0
                  · go_wp2_with fail
                    go_ret
                    exact ⟨ret_bool (by rw [HR.out, HF.out]; rfl), HXB.out.trans ((HX.out _).mono HXB.out.size)⟩
                  · have hx1 : (i : Int) ≤ x := by omega
                    go_wp2_with fail
                    go_ret
                    exact ⟨ret_bool (by rw [HR.out, HF.out]; rfl), HXB.out.trans ((HX.out _).mono HXB.out.size)⟩
              · obtain rfl : t = nn := by omega
                have HF : Hid (ahead i ags = true) := hid (by have := HA.out; rw [← HAL.out, List.take_length] at this; exact this)
                go_wp2_with fail
                go_roundw
                case rel => exact ⟨j + 1, by omega, by go_num, hid (by rw [HMt.out, List.all_append, HG.out]; simp [HCB.out _ HF.out]), hid (HX.out _)⟩
                case measure => simp [intOf]; omega
          · have HF : Hid (q.all (callB i) = false) := hid (by
              rw [List.all_eq_false]
              refine ⟨C, HMem.out, ?_⟩
              unfold callB
              rw [decide_eq_false hC]
              simp)
            have HCn := hid hC
            clear hC
            go_wp2_with fail
            all_goals
              first
              | (go_ret
                 exact ⟨ret_bool (by rw [HR.out, HF.out]; rfl), HXB.out.trans ((HX.out _).mono HXB.out.size)⟩)
              | (exfalso
                 exact HCn.out ⟨by omega, by first | omega | (simp_all; done) | (simp_all; omega), by omega, by omega⟩)
        · obtain rfl : j = m := by omega
          go_wp2_with fail
          go_ret
          refine ⟨ret_bool ?_, HXB.out.trans (HB.out.mono HXB.out.size)⟩
          have := HG.out
          rw [← HM.out, List.take_length] at this
          rw [HR.out, this]
          rfl

set_option maxHeartbeats 4000000 in
theorem rcan_any (a : Option Addr) (n c : Nat) (a2 : Option Addr) (m c2 : Nat) (l : List Ty) (q : List Cl) (w : World) (h : Tys w a l) (hn : l.length = n) (h2 : Cls w a2 q) (hm : q.length = m) (hc : n ≤ 9223372036854775807) (hc2 : m ≤ 9223372036854775807) :
    Calls Try.prog 9 #[.agg #[.slice a n c, .slice a2 m c2]] w fun e w' => e = .returned (.bool (canB l q)) ∧ Below w.heap.size w w' := by
  by_cases h4 : n ≤ 400 ∧ m ≤ 64
  · refine (rcan_yes a n c a2 m c2 l q w h hn h2 hm h4.1 h4.2).mono ?_
    rintro e w' ⟨rfl, hb⟩
    refine ⟨ret_bool ?_, hb⟩
    unfold canB
    rw [decide_eq_true (hn ▸ hm ▸ h4), hn]
    rfl
  · have HR : Hid (canB l q = false) := hid (by
      unfold canB
      rw [decide_eq_false (by rw [hn, hm]; exact h4)]
      rfl)
    generalize canB l q = R at *
    clear h hn h2 hm
    by_cases h5 : n ≤ 400
    · have h4' : ¬ (400 < (n : Int)) := by omega
      have h5' : 64 < (m : Int) := by omega
      clear h4
      go_enter Try.func9, Try.ntmps9
      go_wp2_with fail
      go_ret
      exact ⟨ret_bool (by rw [HR.out]), below_box _ _⟩
    · have h4' : 400 < (n : Int) := by omega
      clear h4
      go_enter Try.func9, Try.ntmps9
      go_wp2_with fail
      go_ret
      exact ⟨ret_bool (by rw [HR.out]), below_box _ _⟩

end Go.Proofs.Ytkgejeamcgodhaa
