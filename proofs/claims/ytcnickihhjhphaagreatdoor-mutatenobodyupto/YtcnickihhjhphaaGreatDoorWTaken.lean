/- The resources that a call's arguments are, or point to: what the program's taken answers. -/
import Derived.Test.YtcnickihhjhphaaGreatDoorWTab
import Derived.Deep.RegionWith
import Derived.Deep.AppendLies
namespace Go.Proofs.YtcnickihhjhphaaGreatDoor
open Go.RowKit
set_option linter.unusedVariables false
set_option maxRecDepth 20000

/-- The type of an argument, or what it points to. -/
def tyB (l : List Ty) (n : Int) : Ty := if (tyA l n).k = 6 ∧ 0 < (tyA l n).en then tyA l ((tyA l n).es.getD 0 0) else tyA l n
/-- The resource that an argument is, or points to. -/
def resOf (l : List Ty) (n : Int) : Option ByteArray := if (tyB l n).k = 5 then some (tyB l n).o else none
/-- Those of a call. -/
def takes (l : List Ty) (q : List Int) : List ByteArray := q.filterMap (resOf l)
theorem below_hp {B : Nat} {w a b : World} (h : Below B w a) (e1 : b.os = a.os) (e2 : b.tape = a.tape) (e3 : b.output = a.output) (e4 : b.heap = a.heap) : Below B w b :=
  ⟨e1.trans h.os, e2.trans h.tape, e3.trans h.output, by rw [e4]; exact h.size, fun k hk => by rw [e4]; exact h.block k hk⟩
theorem takes_more (l : List Ty) (q : List Int) (j : Nat) (h : j < q.length) : takes l (q.take (j + 1)) = takes l (q.take j) ++ (resOf l (q.getD j 0)).toList := by
  unfold takes
  rw [take_int q j h, List.filterMap_append]
  generalize q.getD j 0 = x
  cases hr : resOf l x <;> simp [hr]
theorem takes_len (l : List Ty) (q : List Int) : (takes l q).length ≤ q.length := List.length_filterMap_le _ _

theorem infoStr : (Tryz.prog.info? 9).map (fun i => (i.zero, i.size, i.bytes)) = some (some (.string ⟨#[]⟩), 1, 16) := by kernel_rfl

set_option maxHeartbeats 4000000 in
theorem taken_any (a : Option Addr) (m c : Nat) (a2 : Option Addr) (m2 c2 : Nat) (l : List Ty) (C : Cl) (w : World) (hT : Tys w a l) (hm : l.length = m) (hmb : m ≤ 9223372036854775807) (hC : C.Ok w) (hcb : C.an ≤ 4398046511104) :
    Calls Tryz.prog 11 #[.agg #[.slice a m c, .slice a2 m2 c2], .agg #[.string C.nm, .int .i64 C.no, .slice C.aa C.an C.ac, .slice C.na C.nn C.nc, .string C.rt]] w fun e w' => ∃ v, e = .returned v ∧ w'.ownsRow w.heap.size 9 1 v (takes l C.ags).length ((takes l C.ags).map Value.string) ∧ Below w.heap.size w w' := by
  obtain ⟨i0, hi0, hz0, hz1, hz2⟩ := info_parts infoStr
  obtain ⟨nm, no, aa, an, ac, ags, na, nn, nc, rt⟩ := C
  dsimp only at *
  have hal : ags.length = an := hC.al
  subst hal
  obtain ⟨X, gX⟩ : ∃ X, (w.alloc (.cells #[.slice a m c, .slice a2 m2 c2] 25)).alloc (.cells #[.string nm, .int .i64 no, .slice aa ags.length ac, .slice na nn nc, .string rt] 52) = X := ⟨_, rfl⟩
  have hB : Below w.heap.size w X := by rw [← gX]; exact below_box2 w _ _
  have hs : X.heap.size = w.heap.size + 1 + 1 := by rw [← gX]; simp
  have x0 : X.heap[w.heap.size]? = some (.cells #[.slice a m c, .slice a2 m2 c2] 25 (0, 0)) := by
    rw [← gX, (below_box (w.alloc _) _).block _ (by simp)]; exact heap_alloc_new _ _
  have x1 : X.cell? ⟨w.heap.size + 1, 2, none⟩ = some (.slice aa ags.length ac) := by
    have := heap_alloc_new (w.alloc (.cells #[.slice a m c, .slice a2 m2 c2] 25)) (.cells #[.string nm, .int .i64 no, .slice aa ags.length ac, .slice na nn nc, .string rt] 52)
    rw [← gX, cell_of_row _ _ 2 #[.string nm, .int .i64 no, .slice aa ags.length ac, .slice na nn nc, .string rt] 52 (0, 0) (by simpa using this)]; rfl
  have GX := hid gX
  have HB := hid hB
  have HX0 := hid x0
  have HT := hid hT
  have HA := hid hC.ag
  clear hB x0 hT gX hC
  go_enter Tryz.func11, Tryz.ntmps11
  go_wp2_with fail
  rw [GX.out]
  go_loopw [5, 12] (fun v k wr => ∃ (i : Nat), i ≤ ags.length ∧ k = .int .i64 i ∧ Hid (wr.ownsRow (w.heap.size + 1 + 1) 9 1 v (takes l (ags.take i)).length ((takes l (ags.take i)).map Value.string)) ∧ Hid (Below (w.heap.size + 1 + 1) X wr)) (fun _ k _ => ags.length - (intOf k).toNat)
  case atStart => exact ⟨0, by omega, rfl, hid (World.ownsRow_nil _ _ _ _), hid (Below.refl _ _)⟩
  case round =>
    obtain ⟨i, hi, rfl, HO, HW⟩ := hrel
    rename World => wr
    by_cases hlt : i < ags.length
    · obtain ⟨b, o, rfl, hbl, hc⟩ := HA.out (by omega)
      have hBw : Below w.heap.size w wr := HB.out.trans (HW.out.mono (by omega))
      have hci : wr.cell? ⟨b, o + i, none⟩ = some (.int .i64 (ags.getD i 0)) := (hBw.cell (p := ⟨b, o + i, none⟩) hbl).trans (hc i hlt)
      have HTW := hid (HT.out.below hBw)
      have w0 : wr.heap[w.heap.size]? = some (.cells #[.slice a m c, .slice a2 m2 c2] 25 (0, 0)) := (HW.out.block _ (by omega)).trans HX0.out
      have y0 : wr.cell? ⟨w.heap.size, 0, none⟩ = some (.slice a m c) := cell_of_row _ _ 0 _ _ _ w0
      have y1 : wr.cell? ⟨w.heap.size, 1, none⟩ = some (.slice a2 m2 c2) := cell_of_row _ _ 1 _ _ _ w0
      have HM := hid (takes_more l ags i hlt)
      generalize ags.getD i 0 = x at hci HM
      have k1 := hid (typeat_any a m c a2 m2 c2 l x wr HTW.out hm hmb)
      have HBw := hid hBw
      have HW0 := hid w0
      clear hc hbl hBw w0
      go_wp2_with fail
      refine k1.out.mono ?_
      rintro e w1 ⟨rfl, hb1⟩
      have h1s := hb1.size
      have hXs : X.heap.size ≤ wr.heap.size := HW.out.size
      obtain ⟨T1, gT1⟩ : ∃ T1, T1 = tyA l x := ⟨_, rfl⟩
      rw [← gT1]
      have HG1 := hid gT1
      have HT1 : Hid (T1.Ok wr) := by rw [gT1]; exact hid (tyA_ok HTW.out x)
      obtain ⟨Z, gZ⟩ : ∃ Z, w1.alloc (.cells #[.int .i64 0, .int .i64 0, .int .i64 0, .int .i64 0, .int .i64 0, .string ⟨#[]⟩, .slice none 0 0, .slice none 0 0, .slice none 0 0, .slice none 0 0] 65) = Z := ⟨_, rfl⟩
      have z1 : Z.heap[w1.heap.size]? = some (.cells ([.int .i64 0, .int .i64 0, .int .i64 0, .int .i64 0, .int .i64 0, .string ⟨#[]⟩, .slice none 0 0, .slice none 0 0, .slice none 0 0, .slice none 0 0] : List Value).toArray 65 (0, 0)) := by rw [← gZ]; exact heap_alloc_new _ _
      have bZ : Below wr.heap.size wr Z := hb1.trans ((by rw [← gZ]; exact below_box w1 _ : Below w1.heap.size w1 Z).mono h1s)
      obtain ⟨Y, gY⟩ : ∃ Y, Z.setCells w1.heap.size 0 (tyC T1) = Y := ⟨_, rfl⟩
      have hst1 := (run_cells_mid (P := Tryz.prog) Z w1.heap.size 0 (tyC T1) (there_of_block z1 0 10 (by decide)) (by simp [tyC, Value.oneCell'])).trans (congrArg _ gY)
      have Y1 : Y.heap[w1.heap.size]? = some (.cells (tyC T1).toArray 65 (0, 0)) := by rw [← gY]; exact store_new z1 rfl
      have bY : Below wr.heap.size wr Y := bZ.trans ((by rw [← gY]; exact upd_setCells w1.heap.size (tyC T1) 0 Z : Upd (· = w1.heap.size) Z Y).below bZ.size (fun y hy => by omega))
      have hVB : Below (w.heap.size + 1 + 1) X Y := HW.out.trans (bY.mono (by omega))
      have HBY := hid bY
      have HY1 := hid Y1
      have GZ := hid gZ
      have HVB := hid hVB
      have HVK := hid Y1
      have HXS := hid hs
      have HOV : Hid (Y.ownsRow (w.heap.size + 1 + 1) 9 1 u5 (takes l (ags.take i)).length ((takes l (ags.take i)).map Value.string)) := hid (own_below HO.out bY)
      rw [← gZ] at hst1
      have hTL : (tyC T1).length = 10 := rfl
      have HTY : Hid (∃ TC, TC = tyC T1) := hid ⟨_, rfl⟩
      generalize gTC : tyC T1 = TC at hst1 hTL ⊢
      have q0 : Y.cell? ⟨w1.heap.size, 0, none⟩ = some (.int .i64 T1.k) := cell_of_row _ _ 0 _ _ _ Y1
      have q8 : Y.cell? ⟨w1.heap.size, 8, none⟩ = some (.slice T1.ea T1.en T1.ec) := cell_of_row _ _ 8 _ _ _ Y1
      have t0 : Y.cell? ⟨w.heap.size, 0, none⟩ = some (.slice a m c) := (bY.cell (p := ⟨w.heap.size, 0, none⟩) (show w.heap.size < wr.heap.size by omega)).trans y0
      have t1 : Y.cell? ⟨w.heap.size, 1, none⟩ = some (.slice a2 m2 c2) := (bY.cell (p := ⟨w.heap.size, 1, none⟩) (show w.heap.size < wr.heap.size by omega)).trans y1
      clear k1 hb1 z1 bZ Y1 bY hVB gZ gY hci y0 y1 gT1 gTC
      by_cases h6 : T1.k = 6
      · rw [h6] at q0
        by_cases hen : 0 < T1.en
        · have hen' : (0 : Int) < (T1.en : Int) := by omega
          have HTB : Hid (tyB l x = tyA l (T1.es.getD 0 0)) := by unfold tyB; rw [← HG1.out, if_pos ⟨h6, hen⟩]; exact hid rfl
          obtain ⟨eb, eo, hea, hel, hec⟩ := HT1.out.es (by rw [HT1.out.el]; omega)
          have hee := (HBY.out.cell (p := ⟨eb, eo, none⟩) hel).trans (hec 0 (by rw [HT1.out.el]; omega))
          rw [hea] at q8
          obtain ⟨y, gy⟩ : ∃ y, y = T1.es.getD 0 0 := ⟨_, rfl⟩
          rw [← gy] at hee HTB
          obtain ⟨T2, gT2⟩ : ∃ T2, T2 = tyA l y := ⟨_, rfl⟩
          rw [← gT2] at HTB
          have k2 : Hid (∀ W, Below Y.heap.size Y W → Calls Tryz.prog 19 #[.agg #[.slice a m c, .slice a2 m2 c2], .int .i64 y] W fun e w' => e = .returned (.agg (tyC T2).toArray) ∧ Below W.heap.size W w') := by rw [gT2]; exact hid fun W hW => typeat_any a m c a2 m2 c2 l y W ((HTW.out.below HBY.out).below hW) hm hmb
          clear gy gT2 hec hea
          have hTL2 : (tyC T2).length = 10 := rfl
          have HO2 : Hid ((tyC T2).toArray.all (·.oneCell') = true) := hid (by simp [tyC, Value.oneCell'])
          obtain ⟨TC2, gTC2⟩ : ∃ TC2, tyC T2 = TC2 := ⟨_, rfl⟩
          rw [gTC2] at k2 hTL2 HO2
          have GT2 := hid gTC2
          have hel' : eb < Y.heap.size := Nat.lt_of_lt_of_le hel HBY.out.size
          have hwY : w.heap.size < w1.heap.size := by omega
          have hw1Y : w1.heap.size < Y.heap.size := (Array.getElem?_eq_some_iff.1 HY1.out).1
          clear gTC2
          go_wp2_with fail
          go_region_with ((go_at_call 19; refine (k2.out _ (below_hp (Below.refl _ Y) (by rfl) (by rfl) (by rfl) (by rfl))).mono ?_; rintro r w2 ⟨rfl, hb2⟩; have hb2' : Below Y.heap.size Y w2 := (below_hp (Below.refl _ Y) (by rfl) (by rfl) (by rfl) (by rfl)).trans hb2; have hb3 := (hb2'.block _ hw1Y).trans HY1.out; obtain ⟨V, gV⟩ : ∃ V, w2.setCells w1.heap.size 0 TC2 = V := ⟨_, rfl⟩; have hst2 := (run_cells_mid (P := Tryz.prog) w2 w1.heap.size 0 TC2 (by rw [hTL2]; exact there_of_block hb3 0 10 (Nat.le_of_eq rfl)) HO2.out).trans (congrArg _ gV); have HVK : Hid (V.heap[w1.heap.size]? = some (.cells (tyC T2).toArray 65 (0, 0))) := (by rw [← gV, GT2.out]; exact hid (store_new hb3 (by rw [hTL2]; rfl))); have bV : Below wr.heap.size wr V := (HBY.out.trans (hb2'.mono HBY.out.size)).trans ((by rw [← gV]; exact upd_setCells w1.heap.size TC2 0 w2 : Upd (· = w1.heap.size) w2 V).below (Nat.le_trans HBY.out.size hb2'.size) (fun y hy => by omega)); have HVB : Hid (Below (w.heap.size + 1 + 1) X V) := hid (HW.out.trans (bV.mono (by omega))); have HOV : Hid (V.ownsRow (w.heap.size + 1 + 1) 9 1 u5 (takes l (ags.take i)).length ((takes l (ags.take i)).map Value.string)) := hid (own_below HO.out bV); clear hb2 hb2' hb3 gV bV))
          all_goals
            clear hee q0 q8 t0 t1 hst1
            have v0 : V.cell? ⟨w1.heap.size, 0, none⟩ = some (.int .i64 T2.k) := cell_of_row _ _ 0 _ _ _ HVK.out
            have v5 : V.cell? ⟨w1.heap.size, 5, none⟩ = some (.string T2.o) := cell_of_row _ _ 5 _ _ _ HVK.out
            by_cases h5 : T2.k = 5
            · rw [h5] at v0
              have hE : (resOf l x).toList = [T2.o] := by unfold resOf; rw [HTB.out, if_pos h5]; rfl
              have HE := hid hE
              have hO5 : V.ownsRow (w.heap.size + 1 + 1) 9 1 u5 (takes l (ags.take i)).length ((takes l (ags.take i)).map Value.string) := HOV.out
              have HOA := hid (hO5.alloc (.cells #[.string T2.o] 9))
              have hL := takes_len l (ags.take i)
              have hl1 : (ags.take i).length ≤ i := by rw [List.length_take]; omega
              have hVs := HVB.out.size
              clear hO5 hE
              go_wp2_with (at_builtin; go_must (refine wpList_append_own _ rfl (.tmp 37) (.tmp 40) 50 rfl (w.heap.size + 1 + 1) 9 i0 (.string ⟨#[]⟩) 1 16 Tryz.underlying50 hi0 hz0 hz1 hz2 rfl (by decide) _ (takes l (ags.take i)).length ((takes l (ags.take i)).map Value.string) rfl HOA.out ⟨V.heap.size, 0, none⟩ 1 1 [.string T2.o] rfl rfl (World.news_of_block (heap_alloc_new V _)) (by simp [Value.oneCell']) (by unfold maxLen; omega) (by omega) (by simp; omega) ?_))
              intro v' w3 hO3 hG3 hN3
              have HO3 : Hid (w3.ownsRow (w.heap.size + 1 + 1) 9 1 v' (takes l (ags.take (i + 1))).length ((takes l (ags.take (i + 1))).map Value.string)) := by rw [HM.out, HE.out]; simpa using hid hO3
              have HB3 := hid (((HVB.out.alloc (by rw [HXS.out] at hVs; exact hVs) _).grown hG3 (by simp; rw [HXS.out] at hVs; omega) (fun k hk => (HOA.out.lt k hk).1)))
              clear hO3 hG3 hN3
              go_wp2_with fail
              go_roundw
              case rel => exact ⟨i + 1, by omega, by go_num, HO3, HB3⟩
              case measure => simp [intOf]; omega
            · have hE : (resOf l x).toList = [] := by unfold resOf; rw [HTB.out, if_neg h5]; rfl
              have HO3 : Hid (V.ownsRow (w.heap.size + 1 + 1) 9 1 u5 (takes l (ags.take (i + 1))).length ((takes l (ags.take (i + 1))).map Value.string)) := by rw [HM.out, hE, List.append_nil]; exact hid HOV.out
              clear hE
              go_wp2_with fail
              go_roundw
              case rel => exact ⟨i + 1, by omega, by go_num, HO3, HVB⟩
              case measure => simp [intOf]; omega
        · have HTB : Hid (tyB l x = T1) := by unfold tyB; rw [← HG1.out, if_neg (by omega)]; exact hid rfl
          have hen0 : ¬ (0 : Int) < (T1.en : Int) := by omega
          have hE : (resOf l x).toList = [] := by unfold resOf; rw [HTB.out, if_neg (by omega)]; rfl
          have HO3 : Hid (Y.ownsRow (w.heap.size + 1 + 1) 9 1 u5 (takes l (ags.take (i + 1))).length ((takes l (ags.take (i + 1))).map Value.string)) := by rw [HM.out, hE, List.append_nil]; exact hid HOV.out
          clear hE
          go_wp2_with fail
          go_roundw
          case rel => exact ⟨i + 1, by omega, by go_num, HO3, HVB⟩
          case measure => simp [intOf]; omega
      · have HTB : Hid (tyB l x = T1) := by unfold tyB; rw [← HG1.out, if_neg (by omega)]; exact hid rfl
        have h6' : ¬ T1.k = 6 := h6
        have v0 : Y.cell? ⟨w1.heap.size, 0, none⟩ = some (.int .i64 T1.k) := cell_of_row _ _ 0 _ _ _ HVK.out
        have v5 : Y.cell? ⟨w1.heap.size, 5, none⟩ = some (.string T1.o) := cell_of_row _ _ 5 _ _ _ HVK.out
        by_cases h5 : T1.k = 5
        · rw [h5] at v0
          have hE : (resOf l x).toList = [T1.o] := by unfold resOf; rw [HTB.out, if_pos h5]; rfl
          have HE := hid hE
          have hO5 : Y.ownsRow (w.heap.size + 1 + 1) 9 1 u5 (takes l (ags.take i)).length ((takes l (ags.take i)).map Value.string) := HOV.out
          have HOA := hid (hO5.alloc (.cells #[.string T1.o] 9))
          have hL := takes_len l (ags.take i)
          have hl1 : (ags.take i).length ≤ i := by rw [List.length_take]; omega
          have hVs := HVB.out.size
          clear hO5 hE
          go_wp2_with (at_builtin; go_must (refine wpList_append_own _ rfl (.tmp 37) (.tmp 40) 50 rfl (w.heap.size + 1 + 1) 9 i0 (.string ⟨#[]⟩) 1 16 Tryz.underlying50 hi0 hz0 hz1 hz2 rfl (by decide) _ (takes l (ags.take i)).length ((takes l (ags.take i)).map Value.string) rfl HOA.out ⟨Y.heap.size, 0, none⟩ 1 1 [.string T1.o] rfl rfl (World.news_of_block (heap_alloc_new Y _)) (by simp [Value.oneCell']) (by unfold maxLen; omega) (by omega) (by simp; omega) ?_))
          intro v' w3 hO3 hG3 hN3
          have HO3 : Hid (w3.ownsRow (w.heap.size + 1 + 1) 9 1 v' (takes l (ags.take (i + 1))).length ((takes l (ags.take (i + 1))).map Value.string)) := by rw [HM.out, HE.out]; simpa using hid hO3
          have HB3 := hid (((HVB.out.alloc (by rw [HXS.out] at hVs; exact hVs) _).grown hG3 (by simp; rw [HXS.out] at hVs; omega) (fun k hk => (HOA.out.lt k hk).1)))
          clear hO3 hG3 hN3
          go_wp2_with fail
          go_roundw
          case rel => exact ⟨i + 1, by omega, by go_num, HO3, HB3⟩
          case measure => simp [intOf]; omega
        · have hE : (resOf l x).toList = [] := by unfold resOf; rw [HTB.out, if_neg h5]; rfl
          have HO3 : Hid (Y.ownsRow (w.heap.size + 1 + 1) 9 1 u5 (takes l (ags.take (i + 1))).length ((takes l (ags.take (i + 1))).map Value.string)) := by rw [HM.out, hE, List.append_nil]; exact hid HOV.out
          clear hE
          go_wp2_with fail
          go_roundw
          case rel => exact ⟨i + 1, by omega, by go_num, HO3, HVB⟩
          case measure => simp [intOf]; omega
    · obtain rfl : i = ags.length := by omega
      go_wp2_with fail
      go_ret
      refine ⟨_, rfl, own_base (by simpa using HO.out) (by omega), HB.out.trans (HW.out.mono (by omega))⟩

end Go.Proofs.YtcnickihhjhphaaGreatDoor
