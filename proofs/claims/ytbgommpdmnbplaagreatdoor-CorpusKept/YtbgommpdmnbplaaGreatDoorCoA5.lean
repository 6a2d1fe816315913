/- The corpus and what it stands on, merged. -/
import Derived.Test.YtbgommpdmnbplaaGreatDoorCoA4
import Derived.Deep.DeepCutAuto
import Derived.Deep.CutBlock
import Derived.Deep.RegionLaw

/- What journal's readLoad does. -/
namespace Go.Proofs.YtbgommpdmnbplaaGreatDoor
open Go.RowKit Num Jr
set_option linter.unusedVariables false
set_option maxRecDepth 20000

/-- A journal as it lies. -/
def Jc (w : World) (jp p gen first size groups used : Nat) (wv : Value) (cnt : Nat) : Prop :=
  w.heap[jp]? = some (.cells #[.pointer (some ⟨p, 0, none⟩), .int .i64 gen, .int .i64 first, .int .i64 size, .int .i64 groups, .int .i64 used, wv, .int .i64 cnt] 138 (0, 0))

/-- A sector in a box of its own. -/
structure Box (w wx : World) (q : Nat) (cs : List Value) : Prop where
  box : wx.heap[q]? = some (.cells cs.toArray 289 (0, 0))
  new : w.heap.size ≤ q
  bel : Below w.heap.size w wx
theorem box_new {w w3 : World} (hb : Below w.heap.size w w3) (cs : List Value) : Box w (w3.alloc (.cells cs.toArray 289)) w3.heap.size cs := ⟨heap_alloc_new _ _, hb.size, hb.alloc hb.size _⟩
theorem Box.drew {w wx : World} {q : Nat} {cs : List Value} (h : Box w wx q cs) : Box w wx.drew q cs := ⟨h.box, h.new, below_drewN h.bel 1⟩
theorem box_old {w w3 : World} {C : List Value} {q : Nat} (hb : Below w.heap.size w w3) (hq : w3.heap[q]? = some (.cells C.toArray 289 (0, 0))) (hn : w.heap.size ≤ q) (cs : List Value) (hl : C.length = cs.length) : Box w (w3.setCells q 0 cs) q cs := by
  refine ⟨?_, hn, hb.trans ((upd_setCells q cs 0 w3).below hb.size (by intro x hx; omega))⟩
  rw [heap_setCells q 289 cs 0 w3 C hq (by omega), splice_all _ _ hl]

theorem box_old5 {w w3 : World} {q : Nat} {a b c d e : Value} (hb : Below w.heap.size w w3) (hq : w3.heap[q]? = some (.cells ([.int .i64 0, .int .i64 0, .int .i64 0, .bool false, .slice none 0 0] : List Value).toArray 289 (0, 0))) (hn : w.heap.size ≤ q) :
    Box w (((((w3.setCell ⟨q, 0, none⟩ a).setCell ⟨q, 1, none⟩ b).setCell ⟨q, 2, none⟩ c).setCell ⟨q, 3, none⟩ d).setCell ⟨q, 4, none⟩ e) q [a, b, c, d, e] := box_old hb hq hn [a, b, c, d, e] rfl

set_option maxHeartbeats 4000000 in
theorem readload_any (d : Dk) (jp p n gen first size groups used cnt : Nat) (wv : Value) (S : Nat → List Int) (w : World) (hj : Jc w jp p gen first size groups used wv cnt) (J : Jd d w p n S) (hT : Tab w)
    (hfs : first + size ≤ n) (hus : used ≤ size) (hg : gen ≤ 4294967296) (hgr : groups ≤ 2048) :
    Calls Tryz.prog 188 #[.pointer (some ⟨jp, 0, none⟩)] w fun e w' => ∃ v, e = .returned (.tuple #[v, .nilIface]) ∧
      w'.ownsRow w.heap.size 5 1 v (loadGo S first gen (groups + 1) (size - used) used []).length ((loadGo S first gen (groups + 1) (size - used) used []).map (Value.int .u8)) ∧ Below w.heap.size w w' := by
  obtain ⟨i0, hi0, hz0, hz1, hz2⟩ := info_parts Tryz.jinfo5
  have hn2 : n ≤ 2048 := by rw [← J.dn]; exact J.ok.n2
  have hjl : jp < w.heap.size := (Array.getElem?_eq_some_iff.1 hj).1
  have hTl : 1 < w.heap.size := World.block_lt_of_cell? _ _ (hT 0 (by omega))
  obtain ⟨R, gR⟩ : ∃ R, R = loadGo S first gen (groups + 1) (size - used) used [] := ⟨_, rfl⟩
  rw [← gR]
  have GR := hid gR
  have HJ := hid J
  have HT := hid hT
  have HJC := hid hj
  clear gR J hT hj
  have c5 : w.cell? ⟨jp, 5, none⟩ = some (.int .i64 used) := heap_cells HJC.out 5 _ rfl
  go_enter Tryz.func188, Tryz.ntmps188
  go_wp2_with fail
  go_loopw [4, 5] (fun v k wr => ∃ place : Nat, k = .int .i64 place ∧ used ≤ place ∧ place ≤ size ∧ Hid (∃ acc : List Int, wr.ownsRow w.heap.size 5 1 v acc.length (acc.map (Value.int .u8)) ∧ acc.length ≤ 100 * (place - used) ∧ loadGo S first gen (groups + 1) (size - place) place acc = R) ∧ Hid (Below w.heap.size w wr)) (fun _ k _ => size - (intOf k).toNat)
  case atStart => exact ⟨used, rfl, Nat.le_refl _, hus, hid ⟨[], World.ownsRow_nil _ _ _ _, by simp, GR.out.symm⟩, hid (Below.refl _ _)⟩
  case round =>
    obtain ⟨place, rfl, hp1, hp2, HA, HB⟩ := hrel
    obtain ⟨v, gv⟩ : ∃ v, v = u4 := ⟨_, rfl⟩
    rw [← gv] at HA ⊢
    clear gv
    obtain ⟨acc, hao, hal, hag⟩ := HA.out
    have HAO := hid hao
    have HAG := hid hag
    have jcr : Jc wr jp p gen first size groups used wv cnt := (HB.out.block jp hjl).trans HJC.out
    have d0 : wr.cell? ⟨jp, 0, none⟩ = some (.pointer (some ⟨p, 0, none⟩)) := heap_cells jcr 0 _ rfl
    have d1 : wr.cell? ⟨jp, 1, none⟩ = some (.int .i64 gen) := heap_cells jcr 1 _ rfl
    have d2 : wr.cell? ⟨jp, 2, none⟩ = some (.int .i64 first) := heap_cells jcr 2 _ rfl
    have d3 : wr.cell? ⟨jp, 3, none⟩ = some (.int .i64 size) := heap_cells jcr 3 _ rfl
    have d4 : wr.cell? ⟨jp, 4, none⟩ = some (.int .i64 groups) := heap_cells jcr 4 _ rfl
    clear HA hao hag jcr c5
    by_cases hlt : place < size
    · have hlv : (place : Int) < (size : Int) := by omega
      have kr := hid (fun (wx : World) (hb : Below w.heap.size w wx) => jread_any d p n (first + place) S wx (HJ.out.below hb) (by omega))
      have HW1 : Hid (Below w.heap.size w wr.drew) := hid (below_drewN HB.out 1)
      obtain ⟨ia, gia⟩ : ∃ ia, ia = first + place := ⟨_, rfl⟩
      rw [← gia] at kr
      have GIA := hid gia
      have e1 : (first : Int) + (place : Int) = (ia : Int) := by omega
      have HWI : Hid (IntKind.i64.wrap (ia : Int) = (ia : Int)) := hid (by rw [IntKind.wrap_i64]; omega)
      clear gia
      have hjr : jp < wr.heap.size := Nat.lt_of_lt_of_le hjl HB.out.size
      go_upto_region 5 with fail
      go_region_held3 (fun wx => wx.cell? ⟨jp, 0, none⟩ = some (.pointer (some ⟨p, 0, none⟩)) ∧ wx.cell? ⟨jp, 2, none⟩ = some (.int .i64 first)) (go_keep) (first | (go_at_call 89; rw [HWI.out]; refine (kr.out _ HW1.out).mono ?_; rintro r w2 ⟨g2, c2, rfl, ho2, hb2⟩; have HO2 := hid ho2; have HB2 := hid hb2; have y : ∀ b o, b < wr.heap.size → w2.cell? ⟨b, o, none⟩ = wr.cell? ⟨b, o, none⟩ := fun b o hb => hb2.cell (p := ⟨b, o, none⟩) hb; clear ho2 hb2))
      have f1 : w2.cell? ⟨jp, 1, none⟩ = some (.int .i64 gen) := (y jp 1 hjr).trans d1
      have f4 : w2.cell? ⟨jp, 4, none⟩ = some (.int .i64 groups) := (y jp 4 hjr).trans d4
      have hbw : Below w.heap.size w w2 := HW1.out.trans (HB2.out.mono (by have := HB.out.size; simpa using this))
      have hcc := own_cap HO2.out
      have hg2 := HO2.out.lt g2 rfl
      have HBW := hid hbw
      have hwl : w.heap.size ≤ wr.heap.size := HB.out.size
      obtain ⟨Z, gZ⟩ : ∃ Z, Z = S ia := ⟨_, rfl⟩
      rw [← gZ] at HO2
      have hZ : Z.length = 128 ∧ Bytes Z := by rw [gZ]; exact ⟨HJ.out.all ia, HJ.out.byt ia⟩
      have hstep : R = if rightS Z place gen (groups + 1) then (if Z.getD 12 0 = 1 then acc ++ ldOf Z else if Z.getD 1 0 < 100 then [] else loadGo S first gen (groups + 1) (size - (place + 1)) (place + 1) (acc ++ ldOf Z)) else [] := by
        rw [← HAG.out, gZ, GIA.out, show size - place = (size - (place + 1)) + 1 by omega, loadGo]
      have HST := hid hstep
      have kS := hid (fun (wx : World) (hb : Below w2.heap.size w2 wx) => rightsector_any g2 0 c2 place gen (groups + 1) Z wx ((Src.own HO2.out).below hb) hZ.2 (HT.out.below (hbw.trans (hb.mono hbw.size)) hTl) (by omega) (by omega) (by omega) (by omega) (by omega))
      have HZ := hid hZ
      have hj2 : jp < w2.heap.size := Nat.lt_of_lt_of_le hjl hbw.size
      have HW2 : Hid (Below w2.heap.size w2 w2.drew) := hid (below_drewN (Below.refl _ _) 1)
      have HWA : Hid (∀ ob, Below w2.heap.size w2 (w2.alloc ob).drew) := hid (fun ob => below_drewN ((Below.refl _ _).alloc (Nat.le_refl _) _) 1)
      have HAO2 := hid (own_below HAO.out ((below_drewN (Below.refl wr.heap.size wr) 1).trans HB2.out))
      clear kr HW1 gZ hstep y d0 d1 d2 d3 d4 hbw hZ HB HB2 HAG
      go_upto_region 8 with fail
      by_cases hr : rightS Z place gen (groups + 1) = true
      · have kT : Hid (∀ (wx : World) (hb : Below w2.heap.size w2 wx), Calls Tryz.prog 226 #[.slice (some ⟨g2, 0, none⟩) 128 c2, .int .i64 place, .int .i64 gen, .int .i64 ((groups + 1 : Nat) : Int)] wx fun e w' => ∃ c, e = .returned (.tuple #[.agg #[.int .i64 place, .int .i64 gen, .int .i64 ((groups + 1 : Nat) : Int), .bool (decide (Z.getD 12 0 = 1)), .slice (some ⟨g2, 21, none⟩) (ldOf Z).length c], .bool true]) ∧ (ldOf Z).length ≤ c ∧ c ≤ 9223372036854775807 ∧ Below wx.heap.size wx w') := hid (fun wx hb => by
          refine (kS.out wx hb).mono ?_
          rintro e w' ⟨hb', hp⟩
          unfold RSP at hp
          rw [if_pos hr, ← (rightS_len hr HZ.out.1).2.2] at hp
          obtain ⟨c, h1, h2, h3⟩ := hp
          exact ⟨c, h3, h1, h2, hb'⟩)
        have hl3 := rightS_len hr HZ.out.1
        have HWG : Hid (IntKind.i64.wrap ((groups : Int) + 1) = ((groups + 1 : Nat) : Int)) := hid (by rw [IntKind.wrap_i64]; omega)
        obtain ⟨D, gD⟩ : ∃ D, D = decide (Z.getD 12 0 = 1) := ⟨_, rfl⟩
        obtain ⟨U, gU⟩ : ∃ U, U = (ldOf Z).length := ⟨_, rfl⟩
        obtain ⟨G1, gG1⟩ : ∃ G1 : Int, G1 = ((groups + 1 : Nat) : Int) := ⟨_, rfl⟩
        rw [← gD, ← gU, ← gG1] at kT
        rw [← gG1] at HWG
        have GD := hid gD
        have GU := hid gU
        clear gD gU gG1 kS
        go_cut [8, 9] (fun v8 v9 wx => ∃ qb c, v8 = .pointer (some ⟨qb, 0, none⟩) ∧ v9 = .bool true ∧ U ≤ c ∧ c ≤ 9223372036854775807 ∧ Hid (Box w2 wx qb [.int .i64 place, .int .i64 gen, .int .i64 G1, .bool D, .slice (some ⟨g2, 21, none⟩) U c]))
        case first =>
          go_region_with (first | (go_at_call 226; rw [HWG.out]; refine (kT.out _ (by first | exact HW2.out | exact HWA.out _)).mono ?_; rintro r w3 ⟨c, rfl, hc1, hc2, hb3⟩; have HB3 : Hid (Below w2.heap.size w2 w3) := (by first | exact hid (HW2.out.trans hb3) | exact hid ((HWA.out _).trans (hb3.mono (by simp)))); first | (have hx3 : w3.heap[w2.heap.size]? = some (.cells ([.int .i64 0, .int .i64 0, .int .i64 0, .bool false, .slice none 0 0] : List Value).toArray 289 (0, 0)) := (hb3.block w2.heap.size (by simp)).trans (heap_alloc_new w2 _); have z0 : w3.cell? ⟨w2.heap.size, 0, none⟩ = some (.int .i64 0) := heap_cells hx3 0 _ rfl; have y0 : w3.frozen? ⟨w2.heap.size, 0, none⟩ = false := frozen_of_row w3 w2.heap.size 0 _ _ hx3; have z1 : w3.cell? ⟨w2.heap.size, 1, none⟩ = some (.int .i64 0) := heap_cells hx3 1 _ rfl; have y1 : w3.frozen? ⟨w2.heap.size, 1, none⟩ = false := frozen_of_row w3 w2.heap.size 1 _ _ hx3; have z2 : w3.cell? ⟨w2.heap.size, 2, none⟩ = some (.int .i64 0) := heap_cells hx3 2 _ rfl; have y2 : w3.frozen? ⟨w2.heap.size, 2, none⟩ = false := frozen_of_row w3 w2.heap.size 2 _ _ hx3; have z3 : w3.cell? ⟨w2.heap.size, 3, none⟩ = some (.bool false) := heap_cells hx3 3 _ rfl; have y3 : w3.frozen? ⟨w2.heap.size, 3, none⟩ = false := frozen_of_row w3 w2.heap.size 3 _ _ hx3; have z4 : w3.cell? ⟨w2.heap.size, 4, none⟩ = some (.slice none 0 0) := heap_cells hx3 4 _ rfl; have y4 : w3.frozen? ⟨w2.heap.size, 4, none⟩ = false := frozen_of_row w3 w2.heap.size 4 _ _ hx3; have HX3 := hid hx3; clear hx3 hb3) | (have HX3 : Hid True := hid trivial; clear hb3)))
          all_goals
            go_wp2_with fail
            go_meet
            case rel => exact ⟨_, c, rfl, rfl, hc1, hc2, hid (by first | with_reducible exact box_new HB3.out _ | with_reducible exact box_old5 HB3.out HX3.out (Nat.le_refl _))⟩
        case rest =>
          obtain ⟨qb, c, rfl, rfl, hc1, hc2, HX⟩ := hcut
          have x3 : wc.cell? ⟨qb, 3, none⟩ = some (.bool D) := heap_cells HX.out.box 3 _ rfl
          have x4 : wc.cell? ⟨qb, 4, none⟩ = some (.slice (some ⟨g2, 21, none⟩) U c) := heap_cells HX.out.box 4 _ rfl
          have hgt : Z.getD 1 0 = (U : Int) := by rw [GU.out]; omega
          have hld : ldOf Z = (Z.drop 21).take U := by rw [GU.out]; unfold ldOf; rw [List.length_take, List.length_drop, HZ.out.1]; congr 1; omega
          have hU : 1 ≤ U ∧ U ≤ 100 := by rw [GU.out]; omega
          have hsrc : Src wc (some ⟨g2, 21, none⟩) U (ldOf Z) := by
            rw [hld]
            have := ((Src.own HO2.out).mid 21 U (by omega)).below HX.out.bel
            simpa using this
          have hbc : Below w.heap.size w wc := HBW.out.trans (HX.out.bel.mono HBW.out.size)
          have hoc : wc.ownsRow w.heap.size 5 1 v acc.length (acc.map (Value.int .u8)) := own_below HAO2.out HX.out.bel
          have HSR := hid hsrc
          have HBC := hid hbc
          have HOC := hid hoc
          have HGT := hid hgt
          have HLD := hid hld
          have hsz : w.heap.size ≤ wc.heap.size := hbc.size
          obtain ⟨m, gm⟩ : ∃ m, m = acc.length := ⟨_, rfl⟩
          have hm : m ≤ 204800 := by omega
          rw [← gm] at HOC
          have HR2 := HST.out
          rw [if_pos hr] at HR2
          have HRR := hid HR2
          have GM := hid gm
          clear hsrc hbc hoc hgt hld gm HR2 hl3 hr kT
          go_wp2_with (at_builtin; go_must (refine wpList_append_own _ rfl _ _ 81 rfl w.heap.size 5 i0 (.int .u8 0) 1 1 Tryz.underlying81 hi0 hz0 hz1 hz2 rfl (by decide) v m _ rfl HOC.out ⟨g2, 21, none⟩ U c ((ldOf Z).map (Value.int .u8)) rfl (by rw [List.length_map, ← GU.out, Nat.mul_one]) (src_cells HSR.out) (u8_one _) (by unfold maxLen; omega) (by omega) hsz ?_))
          intro v' w4 hO4 hG4 hN4
          have hb4 : Below w.heap.size w w4 := HBC.out.trans ((Upd.of_grown hG4).below hsz (fun x hx => (HOC.out.lt x hx.symm).1))
          rw [← List.map_append, show m + U = (acc ++ ldOf Z).length by rw [List.length_append, ← GM.out, ← GU.out]] at hO4
          have hq4 : w4.heap[qb]? = wc.heap[qb]? := (Upd.of_grown hG4).block qb (Array.getElem?_eq_some_iff.1 HX.out.box).1 (fun h => by have := (HAO2.out.lt qb h.symm).2; have := HX.out.new; omega)
          have x3' : w4.cell? ⟨qb, 3, none⟩ = some (.bool D) := (World.cell?_of_block (a := ⟨qb, 3, none⟩) hq4).trans x3
          have x4' : w4.cell? ⟨qb, 4, none⟩ = some (.slice (some ⟨g2, 21, none⟩) U c) := (World.cell?_of_block (a := ⟨qb, 4, none⟩) hq4).trans x4
          have HO4 := hid hO4
          have HB4 := hid hb4
          clear hO4 hG4 hN4 hb4 hq4 x3 x4
          by_cases hD : Z.getD 12 0 = 1
          · have hDt : D = true := by rw [GD.out]; exact decide_eq_true hD
            have HF : Hid (R = acc ++ ldOf Z) := hid (by rw [HRR.out, if_pos hD])
            rw [hDt] at x3'
            clear hD hDt HRR
            go_wp2_with fail
            go_ret2
            exact ⟨_, rfl, by rw [HF.out]; exact HO4.out, HB4.out⟩
          · have hDt : D = false := by rw [GD.out]; exact decide_eq_false hD
            rw [hDt] at x3'
            by_cases hU1 : U < 100
            · have hUv : (U : Int) < 100 := by omega
              have HF : Hid (R = []) := hid (by rw [HRR.out, if_neg hD, if_pos (by rw [HGT.out]; omega)])
              clear hD hDt HRR
              go_wp2_with fail
              go_ret2
              exact ⟨_, rfl, by rw [HF.out]; exact World.ownsRow_nil _ _ _ _, HB4.out⟩
            · have hUv : ¬ (U : Int) < 100 := by omega
              have HF : Hid (loadGo S first gen (groups + 1) (size - (place + 1)) (place + 1) (acc ++ ldOf Z) = R) := hid (by rw [HRR.out, if_neg hD, if_neg (by rw [HGT.out]; omega)])
              have hal' : (acc ++ ldOf Z).length ≤ 100 * (place + 1 - used) := by rw [List.length_append, ← GU.out]; omega
              clear hD hDt HRR
              go_wp2_with fail
              go_roundw
              case rel => exact ⟨place + 1, by go_num, by omega, by omega, hid ⟨_, HO4.out, hal', HF.out⟩, HB4⟩
              case measure => simp [intOf]; omega
      · have kF : Hid (∀ (wx : World) (hb : Below w2.heap.size w2 wx), Calls Tryz.prog 226 #[.slice (some ⟨g2, 0, none⟩) 128 c2, .int .i64 place, .int .i64 gen, .int .i64 ((groups + 1 : Nat) : Int)] wx fun e w' => e = .returned (.tuple #[.agg #[.int .i64 0, .int .i64 0, .int .i64 0, .bool false, .slice none 0 0], .bool false]) ∧ Below wx.heap.size wx w') := hid (fun wx hb => by
          refine (kS.out wx hb).mono ?_
          rintro e w' ⟨hb', hp⟩
          unfold RSP at hp
          rw [if_neg hr] at hp
          exact ⟨hp, hb'⟩)
        have HWG : Hid (IntKind.i64.wrap ((groups : Int) + 1) = ((groups + 1 : Nat) : Int)) := hid (by rw [IntKind.wrap_i64]; omega)
        obtain ⟨G1, gG1⟩ : ∃ G1 : Int, G1 = ((groups + 1 : Nat) : Int) := ⟨_, rfl⟩
        rw [← gG1] at kF
        rw [← gG1] at HWG
        have HF : Hid (R = []) := hid (by rw [HST.out, if_neg hr])
        clear gG1 kS hr
        go_cut [8, 9] (fun v8 v9 wx => v9 = .bool false ∧ Hid (Below w2.heap.size w2 wx))
        case first =>
          go_region_with (first | (go_at_call 226; rw [HWG.out]; refine (kF.out _ (by first | exact HW2.out | exact HWA.out _)).mono ?_; rintro r w3 ⟨rfl, hb3⟩; have HB3 : Hid (Below w2.heap.size w2 w3) := (by first | exact hid (HW2.out.trans hb3) | exact hid ((HWA.out _).trans (hb3.mono (by simp)))); first | (have hx3 : w3.heap[w2.heap.size]? = some (.cells ([.int .i64 0, .int .i64 0, .int .i64 0, .bool false, .slice none 0 0] : List Value).toArray 289 (0, 0)) := (hb3.block w2.heap.size (by simp)).trans (heap_alloc_new w2 _); have z0 : w3.cell? ⟨w2.heap.size, 0, none⟩ = some (.int .i64 0) := heap_cells hx3 0 _ rfl; have y0 : w3.frozen? ⟨w2.heap.size, 0, none⟩ = false := frozen_of_row w3 w2.heap.size 0 _ _ hx3; have z1 : w3.cell? ⟨w2.heap.size, 1, none⟩ = some (.int .i64 0) := heap_cells hx3 1 _ rfl; have y1 : w3.frozen? ⟨w2.heap.size, 1, none⟩ = false := frozen_of_row w3 w2.heap.size 1 _ _ hx3; have z2 : w3.cell? ⟨w2.heap.size, 2, none⟩ = some (.int .i64 0) := heap_cells hx3 2 _ rfl; have y2 : w3.frozen? ⟨w2.heap.size, 2, none⟩ = false := frozen_of_row w3 w2.heap.size 2 _ _ hx3; have z3 : w3.cell? ⟨w2.heap.size, 3, none⟩ = some (.bool false) := heap_cells hx3 3 _ rfl; have y3 : w3.frozen? ⟨w2.heap.size, 3, none⟩ = false := frozen_of_row w3 w2.heap.size 3 _ _ hx3; have z4 : w3.cell? ⟨w2.heap.size, 4, none⟩ = some (.slice none 0 0) := heap_cells hx3 4 _ rfl; have y4 : w3.frozen? ⟨w2.heap.size, 4, none⟩ = false := frozen_of_row w3 w2.heap.size 4 _ _ hx3;  have HX3 := hid hx3; clear hx3 hb3) | (have HX3 : Hid True := hid trivial; clear hb3)))
          all_goals
            go_wp2_with fail
            go_meet
            case rel => exact ⟨rfl, hid (by first | with_reducible exact (box_new HB3.out _).bel | with_reducible exact (box_old5 HB3.out HX3.out (Nat.le_refl _)).bel)⟩
        case rest =>
          obtain ⟨rfl, HX⟩ := hcut
          go_wp2_with fail
          go_ret2
          exact ⟨_, rfl, by rw [HF.out]; exact World.ownsRow_nil _ _ _ _, HBW.out.trans (HX.out.mono HBW.out.size)⟩
    · obtain rfl : place = size := by omega
      have hlv : ¬ (place : Int) < (place : Int) := by omega
      have hR : R = [] := by have := HAG.out; rw [Nat.sub_self, loadGo] at this; exact this.symm
      have HR := hid hR
      clear hR
      go_wp2_with fail
      go_ret2
      exact ⟨_, rfl, by rw [HR.out]; exact World.ownsRow_nil _ _ _ _, HB.out⟩

end Go.Proofs.YtbgommpdmnbplaaGreatDoor
