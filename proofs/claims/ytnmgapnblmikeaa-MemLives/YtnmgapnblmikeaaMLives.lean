/- The road of MemLives: it returns true for every list of calls, and leaves what was there. -/
import Derived.Test.YtnmgapnblmikeaaMSt
import Derived.Test.YtnmgapnblmikeaaMBack
import Derived.Deep.RegionHeld3
namespace Go.Proofs.Ytnmgapnblmikeaa
open Go.RowKit Lend
set_option linter.unusedVariables false

/-- bytes.Clone of bytes that lie somewhere, nil too. -/
theorem clone_src (ab : Option Addr) (m c : Nat) (zs : List Int) (w : World) (hs : Src w ab m zs) (hm : m ≤ 140737488355328) (hn : ab = none → m = 0 ∧ c = 0) :
    Calls Try.prog 13 #[.slice ab m c] w fun e w' => ∃ a' c', e = .returned (.slice a' m c') ∧ w'.ownsRow w.heap.size 5 1 (.slice a' m c') m (zs.map (Value.int .u8)) ∧ Below w.heap.size w w' := by
  cases ab with
  | none =>
    obtain ⟨rfl, rfl⟩ := hn rfl
    have : zs = [] := List.eq_nil_of_length_eq_zero hs.1
    subst this
    refine (clone_nil 0 0 w).mono ?_
    rintro e w' ⟨rfl, rfl⟩
    exact ⟨none, 0, rfl, World.ownsRow_nil _ _ _ _, Below.refl _ _⟩
  | some a =>
    refine (clone_any a m c zs w hs hm).mono ?_
    rintro e w' ⟨g, c', rfl, ho, hb⟩
    exact ⟨_, _, rfl, ho, hb⟩

theorem Src.own' {w : World} {B e n c : Nat} {a : Option Addr} {zs : List Int} (h : w.ownsRow B e 1 (.slice a n c) n (zs.map (Value.int .u8))) : Src w a n zs := by
  obtain ⟨a', c', e, hs⟩ := Src.ofOwn h
  injection e with e1 e2 e3
  subst e1
  exact hs

set_option maxHeartbeats 4000000 in
set_option maxRecDepth 20000 in
theorem lives_road (al : Option Addr) (ll cl : Nat) (w : World) (hd : Dos w al ll) (hll : ll ≤ 9223372036854775807) :
    Calls Try.prog 3 #[.slice al ll cl] w fun e w' => e = .returned (.bool true) ∧ Below w.heap.size w w' := by
  obtain ⟨Z, gZ⟩ : ∃ Z : List Int, Z = List.replicate 2048 0 := ⟨_, rfl⟩
  have k9 := hid (mnew_any Z gZ)
  have k10 := hid (rnew_any Z gZ)
  have HD := hid hd
  clear gZ hd
  go_enter Try.func3, Try.ntmps3
  go_wp2_with fail
  refine (k9.out _).mono ?_
  rintro e w1 ⟨rfl, hs1, hb1, hx1⟩
  clear hx1
  have HS1 := hid hs1
  clear hs1
  go_wp2_with fail
  refine (k10.out _).mono ?_
  rintro e w2 ⟨rfl, hr2, hb2⟩
  have hs2 := HS1.out.below hb2 HS1.out.lt
  have HA : Hid (Px.At w2 ⟨w.heap.size, w1.heap.size + 1, w1.heap.size, 2048, Z⟩) := hid ⟨hs2, hr2⟩
  have hB2 : Below w.heap.size w w2 := hb1.trans (hb2.mono hb1.size)
  have kC := hid (mcopy_any w.heap.size Z w2 hs2)
  clear hs2 hr2 HS1 hb2
  go_wp2_with fail
  refine kC.out.mono ?_
  rintro e w3 ⟨rfl, hs3, hb3, hx3⟩
  clear hx3
  have hA3 := HA.out.below hb3
  have kR := hid (rcopy_any (w1.heap.size + 1) w1.heap.size 2048 Z w3 hA3.r)
  have HS3 := hid hs3
  have HA3 := hid hA3
  clear hs3 hA3
  go_wp2_with fail
  refine kR.out.mono ?_
  rintro e w4 ⟨q', g', c', rfl, hr4, hq4, hg4, hb4⟩
  have hst : Hid (St w w4 ⟨w.heap.size, w1.heap.size + 1, w1.heap.size, 2048, Z⟩ ⟨w2.heap.size, q', g', c', Z⟩) := by
    have l1 := HA.out.lt
    have l3 := hb3.size
    have e1 := hb1.size
    have e2 := hB2.size
    refine hid ⟨HA3.out.below hb4, ⟨HS3.out.below hb4 HS3.out.lt, hr4⟩, ?_, ?_, ⟨Nat.le_refl _, ?_, hb1.size⟩, ⟨hB2.size, ?_, ?_⟩, ?_⟩
    · have := l1.p; simp only at this ⊢; omega
    · have := l1.g; simp only at this ⊢; omega
    · simp only; omega
    · simp only; omega
    · simp only; omega
    · exact (hB2.trans (hb3.mono e2)).trans (hb4.mono (by omega))
  clear kR kC HA HA3 HS3 hr4 hq4 hg4 hb4 hb3 hB2 hb1
  go_wp2_with fail
  go_loopw [3, 4, 5, 6, 27] (fun v3 v4 v5 v6 s wr => ∃ (i : Nat) (x y : Px), i ≤ ll ∧ s = .int .i64 i ∧ v3 = .pointer (some ⟨x.p, 0, none⟩) ∧ v4 = .pointer (some ⟨x.q, 0, none⟩) ∧ v5 = .pointer (some ⟨y.p, 0, none⟩) ∧ v6 = .pointer (some ⟨y.q, 0, none⟩) ∧ Hid (St w wr x y)) (fun _ _ _ _ s _ => ll - (intOf s).toNat)
  case atStart => exact ⟨0, _, _, by omega, rfl, rfl, rfl, rfl, rfl, hst⟩
  case round =>
    obtain ⟨i, x, y, hil, rfl, rfl, rfl, rfl, rfl, HT⟩ := hrel
    by_cases h : i < ll
    · obtain ⟨b, o, rfl, hh⟩ := HD.out (by omega)
      obtain ⟨x0, x1, x2, ab, lb, cb, bs, hdo⟩ := hh i h
      have HS0 := hid hdo.src
      have hdo := hdo.below HT.out.bel
      have HDO := hid hdo
      have c0 := hdo.c0
      have c1 := hdo.c1
      have c2 := hdo.c2
      have c3 := hdo.c3
      clear hdo hh
      obtain ⟨wA, gA⟩ : ∃ wA, wA = wr.alloc (.cells #[.int .i64 x0, .int .i64 x1, .int .i64 x2, .slice ab lb cb] 29) := ⟨_, rfl⟩
      have hbA : Below wr.heap.size wr wA := by rw [gA]; exact (Below.refl _ _).alloc (Nat.le_refl _) _
      have HTA := hid (HT.out.below hbA)
      have hA : Hid (wA.heap[wr.heap.size]? = some (.cells #[.int .i64 x0, .int .i64 x1, .int .i64 x2, .slice ab lb cb] 29 (0, 0))) := by rw [gA]; exact hid (heap_alloc_new wr _)
      have ltx := HT.out.a.lt
      have lty := HT.out.b.lt
      by_cases h60 : 60 < i
      · have i60 : (60 : Int) < (i : Int) := by omega
        have HF := HTA
        have GA := hid gA
        clear gA
        go_wp2_with fail
        rw [← GA.out]
        have f1 : wA.cell? ⟨x.q, 0, none⟩ = some (.slice (some ⟨x.g, 0, none⟩) 2048 x.c) := HF.out.a.r.cell
        go_region_held3 (fun wx => wx.cell? ⟨x.q, 0, none⟩ = some (.slice (some ⟨x.g, 0, none⟩) 2048 x.c)) (go_keep) (first | (go_at_call 22; refine (bytes_any _ _ _ (by exact HF.out.a.s.hp rfl)).mono ?_; rintro e wb ⟨gb, cb', rfl, hob, hbb⟩; have SB := hid (Src.own hob); have HF2 := hid ((St.like HF.out (by rfl) (by rfl) (by rfl) (by rfl)).below hbb); clear hob hbb HF f1; have HF := HF2; clear HF2; have f1 : wb.cell? ⟨x.q, 0, none⟩ = some (.slice (some ⟨x.g, 0, none⟩) 2048 x.c) := HF.out.a.r.cell) | (go_at_call 16; refine (equal_yes _ _ _ _ _ _ _ _ SB.out (by exact HF.out.a.r.all)).mono ?_; rintro e we ⟨rfl, rfl⟩; clear SB))
        go_wp2_with fail
        go_ret
        exact ⟨rfl, HF.out.bel⟩
      · have i60 : ¬ (60 : Int) < (i : Int) := by omega
        have kC := hid (clone_src ab lb cb bs wA (HS0.out.below HTA.out.bel) HDO.out.reach HDO.out.nil)
        have GA := hid gA
        clear gA
        go_wp2_with fail
        rw [← GA.out]
        refine kC.out.mono ?_
        rintro e w5 ⟨a9, c9, rfl, ho5, hb5⟩
        have HO5 := hid ho5
        clear ho5 c0 c1 c2 c3 kC GA
        have hst5 := HTA.out.below hb5
        have HT5 := hid hst5
        have hA5 := hb5.block wr.heap.size (Array.getElem?_eq_some_iff.1 hA.out).1
        rw [hA.out] at hA5
        have c0 : w5.cell? ⟨wr.heap.size, 0, none⟩ = some (.int .i64 x0) := by rw [cell_of_row w5 _ 0 _ 29 (0, 0) hA5]; rfl
        have c1 : w5.cell? ⟨wr.heap.size, 1, none⟩ = some (.int .i64 x1) := by rw [cell_of_row w5 _ 1 _ 29 (0, 0) hA5]; rfl
        have c2 : w5.cell? ⟨wr.heap.size, 2, none⟩ = some (.int .i64 x2) := by rw [cell_of_row w5 _ 2 _ 29 (0, 0) hA5]; rfl
        have c3 : w5.cell? ⟨wr.heap.size, 3, none⟩ = some (.slice ab lb cb) := by rw [cell_of_row w5 _ 3 _ 29 (0, 0) hA5]; rfl
        have HA5 := hid hA5
        have hszA := hbA.size
        clear hA5 hst5 hbA
        go_wp2_with fail
        · by_cases hp : isPart x1 lb = true
          · obtain ⟨k, m, rfl, e2, hkm⟩ := isPart_yes hp
            obtain rfl : lb = m := by omega
            clear hp e2
            have HG := hid (Src.own' HO5.out)
            have HBY := hid HDO.out.bytes
            go_region_held3 (fun wx => wx.cell? ⟨wr.heap.size, 1, none⟩ = some (.int .i64 (4096 + (k : Int))) ∧ wx.cell? ⟨wr.heap.size, 3, none⟩ = some (.slice ab lb cb)) (go_keep) (first | (go_at_call 14; refine (out_yes x.p k lb c9 (4096 + (k : Int)) a9 x.zs bs _ (by exact HT5.out.a.s.hp rfl) (by exact HG.out.hp rfl) HBY.out rfl hkm).mono ?_; rintro e w6 ⟨rfl, hs6, hu6⟩; have HS6 := hid hs6; have HU6 := hid hu6; have HM6 := hid (HT5.out.mid (by rfl) (by rfl) (by rfl) (by rfl) hu6); have hA6 := hu6.heap HA5.out (by have := ltx.p; omega); have d1 : w6.cell? ⟨wr.heap.size, 1, none⟩ = some (.int .i64 (4096 + (k : Int))) := (by rw [cell_of_row w6 _ 1 _ 29 (0, 0) hA6]; rfl); have d3 : w6.cell? ⟨wr.heap.size, 3, none⟩ = some (.slice ab lb cb) := (by rw [cell_of_row w6 _ 3 _ 29 (0, 0) hA6]; rfl); have HA6 := hid hA6; have HO6 := hid (hu6.own (World.ownsRow.drew HO5.out) (fun k hk hx => by have := (HO5.out.lt k hk).1; have := ltx.p; omega)); clear hs6 hu6 hA6) | (go_at_call 15; refine (rout_yes x.q x.g x.c k lb cb (4096 + (k : Int)) ab x.zs bs _ HM6.out.1 (HS0.out.below HM6.out.2) HBY.out rfl hkm).mono ?_; rintro e w7 ⟨rfl, hr7, hu7⟩; have hA7 := hu7.heap HA6.out (by have := ltx.g; omega); have d1' : w7.cell? ⟨wr.heap.size, 1, none⟩ = some (.int .i64 (4096 + (k : Int))) := (by rw [cell_of_row w7 _ 1 _ 29 (0, 0) hA7]; rfl); have d3' : w7.cell? ⟨wr.heap.size, 3, none⟩ = some (.slice ab lb cb) := (by rw [cell_of_row w7 _ 3 _ 29 (0, 0) hA7]; rfl); have HO7 := hid (hu7.own HO6.out (fun k hk hx => by have := (HO6.out.lt k hk).1; have := ltx.g; omega)); have HF := hid (St.out (St.like HT5.out (by rfl) (by rfl) (by rfl) (by rfl)) HS6.out HU6.out rfl rfl rfl rfl hr7 hu7); clear hr7 hu7 hA7) | (go_at_call 16; refine (equal_yes _ _ _ _ _ _ bs _ (Src.own' HO7.out) (HS0.out.below HF.out.bel)).mono ?_; rintro e we ⟨rfl, rfl⟩))
            go_wp2_with fail
            refine (spoil_any (.slice a9 lb c9) lb c9 a9 _ _ wA.heap.size rfl HO7.out HDO.out.reach).mono ?_
            rintro e w8 ⟨rfl, hu8⟩
            have HF8 := hid (HF.out.upd hu8 wr.heap.size ⟨ltx.p, ltx.q, ltx.g⟩ lty (fun z hz => by have := (HO7.out.lt z hz).1; omega))
            clear HF hu8
            have HF := HF8
            clear HF8
            go_wp2_with fail
            have f1 : w8.cell? ⟨x.q, 0, none⟩ = some (.slice (some ⟨x.g, 0, none⟩) 2048 x.c) := HF.out.a.r.cell
            have f2 : w8.cell? ⟨y.q, 0, none⟩ = some (.slice (some ⟨y.g, 0, none⟩) 2048 y.c) := HF.out.b.r.cell
            go_region_held3 (fun wx => wx.cell? ⟨x.q, 0, none⟩ = some (.slice (some ⟨x.g, 0, none⟩) 2048 x.c) ∧ wx.cell? ⟨y.q, 0, none⟩ = some (.slice (some ⟨y.g, 0, none⟩) 2048 y.c)) (go_keep) (first | (go_at_call 22; refine (bytes_any _ _ _ (by first | exact HF.out.a.s.hp rfl | exact HF.out.b.s.hp rfl)).mono ?_; rintro e wb ⟨gb, cb', rfl, hob, hbb⟩; have SB := hid (Src.own hob); have HF2 := hid ((St.like HF.out (by rfl) (by rfl) (by rfl) (by rfl)).below hbb); clear hob hbb HF f1 f2; have HF := HF2; clear HF2; have f1 : wb.cell? ⟨x.q, 0, none⟩ = some (.slice (some ⟨x.g, 0, none⟩) 2048 x.c) := HF.out.a.r.cell; have f2 : wb.cell? ⟨y.q, 0, none⟩ = some (.slice (some ⟨y.g, 0, none⟩) 2048 y.c) := HF.out.b.r.cell) | (go_at_call 16; refine (equal_yes _ _ _ _ _ _ _ _ SB.out (by first | exact HF.out.a.r.all | exact HF.out.b.r.all)).mono ?_; rintro e we ⟨rfl, rfl⟩; clear SB))
            go_wp2_with fail
            go_roundw
            case rel => exact ⟨i + 1, { x with zs := splice x.zs k bs }, y, by omega, by go_num, rfl, rfl, rfl, rfl, HF⟩
            case measure => simp [intOf]; omega
          · have hp : isPart x1 lb = false := by simpa using hp
            have HP := hid hp
            have HX1 := hid HDO.out.b1
            have HG := hid (Src.own' HO5.out)
            have HK5 := hid (HS0.out.below HT5.out.bel)
            clear hp
            go_region_held3 (fun wx => wx.cell? ⟨wr.heap.size, 1, none⟩ = some (.int .i64 x1) ∧ wx.cell? ⟨wr.heap.size, 3, none⟩ = some (.slice ab lb cb)) (go_keep) (first | (go_at_call 14; refine (out_no x.p lb c9 x1 a9 x.zs _ (by exact HT5.out.a.s.hp rfl) HX1.out.1 HX1.out.2 HP.out).mono ?_; rintro e w6 ⟨rfl, rfl⟩) | (go_at_call 15; refine (rout_no x.q lb cb x1 ab _ HX1.out.1 HX1.out.2 HP.out).mono ?_; rintro e w7 ⟨rfl, rfl⟩) | (go_at_call 16; refine (equal_yes _ _ _ _ _ _ bs _ (by exact HG.out.hp rfl) (by exact HK5.out.hp rfl)).mono ?_; rintro e we ⟨rfl, rfl⟩))
            have HF : Hid (St w w5.drew x y) := hid (St.like HT5.out rfl rfl rfl rfl)
            go_wp2_with fail
            refine (spoil_any (.slice a9 lb c9) lb c9 a9 _ _ wA.heap.size rfl (World.ownsRow.drew HO5.out) HDO.out.reach).mono ?_
            rintro e w8 ⟨rfl, hu8⟩
            have HF8 := hid (HF.out.upd hu8 wr.heap.size ⟨ltx.p, ltx.q, ltx.g⟩ lty (fun z hz => by have := ((World.ownsRow.drew HO5.out).lt z hz).1; omega))
            clear HF hu8
            have HF := HF8
            clear HF8
            go_wp2_with fail
            have f1 : w8.cell? ⟨x.q, 0, none⟩ = some (.slice (some ⟨x.g, 0, none⟩) 2048 x.c) := HF.out.a.r.cell
            have f2 : w8.cell? ⟨y.q, 0, none⟩ = some (.slice (some ⟨y.g, 0, none⟩) 2048 y.c) := HF.out.b.r.cell
            go_region_held3 (fun wx => wx.cell? ⟨x.q, 0, none⟩ = some (.slice (some ⟨x.g, 0, none⟩) 2048 x.c) ∧ wx.cell? ⟨y.q, 0, none⟩ = some (.slice (some ⟨y.g, 0, none⟩) 2048 y.c)) (go_keep) (first | (go_at_call 22; refine (bytes_any _ _ _ (by first | exact HF.out.a.s.hp rfl | exact HF.out.b.s.hp rfl)).mono ?_; rintro e wb ⟨gb, cb', rfl, hob, hbb⟩; have SB := hid (Src.own hob); have HF2 := hid ((St.like HF.out (by rfl) (by rfl) (by rfl) (by rfl)).below hbb); clear hob hbb HF f1 f2; have HF := HF2; clear HF2; have f1 : wb.cell? ⟨x.q, 0, none⟩ = some (.slice (some ⟨x.g, 0, none⟩) 2048 x.c) := HF.out.a.r.cell; have f2 : wb.cell? ⟨y.q, 0, none⟩ = some (.slice (some ⟨y.g, 0, none⟩) 2048 y.c) := HF.out.b.r.cell) | (go_at_call 16; refine (equal_yes _ _ _ _ _ _ _ _ SB.out (by first | exact HF.out.a.r.all | exact HF.out.b.r.all)).mono ?_; rintro e we ⟨rfl, rfl⟩; clear SB))
            go_wp2_with fail
            go_roundw
            case rel => exact ⟨i + 1, x, y, by omega, by go_num, rfl, rfl, rfl, rfl, HF⟩
            case measure => simp [intOf]; omega
        · by_cases hp : isPart x1 lb = true
          · obtain ⟨k, m, rfl, e2, hkm⟩ := isPart_yes hp
            obtain rfl : lb = m := by omega
            clear hp e2
            have HG := hid (Src.own' HO5.out)
            have HBY := hid HDO.out.bytes
            go_region_held3 (fun wx => wx.cell? ⟨wr.heap.size, 1, none⟩ = some (.int .i64 (4096 + (k : Int))) ∧ wx.cell? ⟨wr.heap.size, 3, none⟩ = some (.slice ab lb cb)) (go_keep) (first | (go_at_call 14; refine (out_yes x.p k lb c9 (4096 + (k : Int)) a9 x.zs bs _ (by exact HT5.out.a.s.hp rfl) (by exact HG.out.hp rfl) HBY.out rfl hkm).mono ?_; rintro e w6 ⟨rfl, hs6, hu6⟩; have HS6 := hid hs6; have HU6 := hid hu6; have HM6 := hid (HT5.out.mid (by rfl) (by rfl) (by rfl) (by rfl) hu6); have hA6 := hu6.heap HA5.out (by have := ltx.p; omega); have d1 : w6.cell? ⟨wr.heap.size, 1, none⟩ = some (.int .i64 (4096 + (k : Int))) := (by rw [cell_of_row w6 _ 1 _ 29 (0, 0) hA6]; rfl); have d3 : w6.cell? ⟨wr.heap.size, 3, none⟩ = some (.slice ab lb cb) := (by rw [cell_of_row w6 _ 3 _ 29 (0, 0) hA6]; rfl); have HA6 := hid hA6; have HO6 := hid (hu6.own (World.ownsRow.drew HO5.out) (fun k hk hx => by have := (HO5.out.lt k hk).1; have := ltx.p; omega)); clear hs6 hu6 hA6) | (go_at_call 15; refine (rout_yes x.q x.g x.c k lb cb (4096 + (k : Int)) ab x.zs bs _ HM6.out.1 (HS0.out.below HM6.out.2) HBY.out rfl hkm).mono ?_; rintro e w7 ⟨rfl, hr7, hu7⟩; have hA7 := hu7.heap HA6.out (by have := ltx.g; omega); have d1' : w7.cell? ⟨wr.heap.size, 1, none⟩ = some (.int .i64 (4096 + (k : Int))) := (by rw [cell_of_row w7 _ 1 _ 29 (0, 0) hA7]; rfl); have d3' : w7.cell? ⟨wr.heap.size, 3, none⟩ = some (.slice ab lb cb) := (by rw [cell_of_row w7 _ 3 _ 29 (0, 0) hA7]; rfl); have HO7 := hid (hu7.own HO6.out (fun k hk hx => by have := (HO6.out.lt k hk).1; have := ltx.g; omega)); have HF := hid (St.out (St.like HT5.out (by rfl) (by rfl) (by rfl) (by rfl)) HS6.out HU6.out rfl rfl rfl rfl hr7 hu7); clear hr7 hu7 hA7) | (go_at_call 16; refine (equal_yes _ _ _ _ _ _ bs _ (Src.own' HO7.out) (HS0.out.below HF.out.bel)).mono ?_; rintro e we ⟨rfl, rfl⟩))
            go_wp2_with fail
            refine (spoil_any (.slice a9 lb c9) lb c9 a9 _ _ wA.heap.size rfl HO7.out HDO.out.reach).mono ?_
            rintro e w8 ⟨rfl, hu8⟩
            have HF8 := hid (HF.out.upd hu8 wr.heap.size ⟨ltx.p, ltx.q, ltx.g⟩ lty (fun z hz => by have := (HO7.out.lt z hz).1; omega))
            clear HF hu8
            have HF := HF8
            clear HF8
            go_wp2_with fail
            have f1 : w8.cell? ⟨x.q, 0, none⟩ = some (.slice (some ⟨x.g, 0, none⟩) 2048 x.c) := HF.out.a.r.cell
            have f2 : w8.cell? ⟨y.q, 0, none⟩ = some (.slice (some ⟨y.g, 0, none⟩) 2048 y.c) := HF.out.b.r.cell
            go_region_held3 (fun wx => wx.cell? ⟨x.q, 0, none⟩ = some (.slice (some ⟨x.g, 0, none⟩) 2048 x.c) ∧ wx.cell? ⟨y.q, 0, none⟩ = some (.slice (some ⟨y.g, 0, none⟩) 2048 y.c)) (go_keep) (first | (go_at_call 22; refine (bytes_any _ _ _ (by first | exact HF.out.a.s.hp rfl | exact HF.out.b.s.hp rfl)).mono ?_; rintro e wb ⟨gb, cb', rfl, hob, hbb⟩; have SB := hid (Src.own hob); have HF2 := hid ((St.like HF.out (by rfl) (by rfl) (by rfl) (by rfl)).below hbb); clear hob hbb HF f1 f2; have HF := HF2; clear HF2; have f1 : wb.cell? ⟨x.q, 0, none⟩ = some (.slice (some ⟨x.g, 0, none⟩) 2048 x.c) := HF.out.a.r.cell; have f2 : wb.cell? ⟨y.q, 0, none⟩ = some (.slice (some ⟨y.g, 0, none⟩) 2048 y.c) := HF.out.b.r.cell) | (go_at_call 16; refine (equal_yes _ _ _ _ _ _ _ _ SB.out (by first | exact HF.out.a.r.all | exact HF.out.b.r.all)).mono ?_; rintro e we ⟨rfl, rfl⟩; clear SB))
            go_wp2_with fail
            go_roundw
            case rel => exact ⟨i + 1, { x with zs := splice x.zs k bs }, y, by omega, by go_num, rfl, rfl, rfl, rfl, HF⟩
            case measure => simp [intOf]; omega
          · have hp : isPart x1 lb = false := by simpa using hp
            have HP := hid hp
            have HX1 := hid HDO.out.b1
            have HG := hid (Src.own' HO5.out)
            have HK5 := hid (HS0.out.below HT5.out.bel)
            clear hp
            go_region_held3 (fun wx => wx.cell? ⟨wr.heap.size, 1, none⟩ = some (.int .i64 x1) ∧ wx.cell? ⟨wr.heap.size, 3, none⟩ = some (.slice ab lb cb)) (go_keep) (first | (go_at_call 14; refine (out_no x.p lb c9 x1 a9 x.zs _ (by exact HT5.out.a.s.hp rfl) HX1.out.1 HX1.out.2 HP.out).mono ?_; rintro e w6 ⟨rfl, rfl⟩) | (go_at_call 15; refine (rout_no x.q lb cb x1 ab _ HX1.out.1 HX1.out.2 HP.out).mono ?_; rintro e w7 ⟨rfl, rfl⟩) | (go_at_call 16; refine (equal_yes _ _ _ _ _ _ bs _ (by exact HG.out.hp rfl) (by exact HK5.out.hp rfl)).mono ?_; rintro e we ⟨rfl, rfl⟩))
            have HF : Hid (St w w5.drew x y) := hid (St.like HT5.out rfl rfl rfl rfl)
            go_wp2_with fail
            refine (spoil_any (.slice a9 lb c9) lb c9 a9 _ _ wA.heap.size rfl (World.ownsRow.drew HO5.out) HDO.out.reach).mono ?_
            rintro e w8 ⟨rfl, hu8⟩
            have HF8 := hid (HF.out.upd hu8 wr.heap.size ⟨ltx.p, ltx.q, ltx.g⟩ lty (fun z hz => by have := ((World.ownsRow.drew HO5.out).lt z hz).1; omega))
            clear HF hu8
            have HF := HF8
            clear HF8
            go_wp2_with fail
            have f1 : w8.cell? ⟨x.q, 0, none⟩ = some (.slice (some ⟨x.g, 0, none⟩) 2048 x.c) := HF.out.a.r.cell
            have f2 : w8.cell? ⟨y.q, 0, none⟩ = some (.slice (some ⟨y.g, 0, none⟩) 2048 y.c) := HF.out.b.r.cell
            go_region_held3 (fun wx => wx.cell? ⟨x.q, 0, none⟩ = some (.slice (some ⟨x.g, 0, none⟩) 2048 x.c) ∧ wx.cell? ⟨y.q, 0, none⟩ = some (.slice (some ⟨y.g, 0, none⟩) 2048 y.c)) (go_keep) (first | (go_at_call 22; refine (bytes_any _ _ _ (by first | exact HF.out.a.s.hp rfl | exact HF.out.b.s.hp rfl)).mono ?_; rintro e wb ⟨gb, cb', rfl, hob, hbb⟩; have SB := hid (Src.own hob); have HF2 := hid ((St.like HF.out (by rfl) (by rfl) (by rfl) (by rfl)).below hbb); clear hob hbb HF f1 f2; have HF := HF2; clear HF2; have f1 : wb.cell? ⟨x.q, 0, none⟩ = some (.slice (some ⟨x.g, 0, none⟩) 2048 x.c) := HF.out.a.r.cell; have f2 : wb.cell? ⟨y.q, 0, none⟩ = some (.slice (some ⟨y.g, 0, none⟩) 2048 y.c) := HF.out.b.r.cell) | (go_at_call 16; refine (equal_yes _ _ _ _ _ _ _ _ SB.out (by first | exact HF.out.a.r.all | exact HF.out.b.r.all)).mono ?_; rintro e we ⟨rfl, rfl⟩; clear SB))
            go_wp2_with fail
            go_roundw
            case rel => exact ⟨i + 1, x, y, by omega, by go_num, rfl, rfl, rfl, rfl, HF⟩
            case measure => simp [intOf]; omega
        · have HX1 := hid HDO.out.b1
          by_cases hp : isPart x1 x2 = true
          · obtain ⟨k, n, rfl, rfl, hkm⟩ := isPart_yes hp
            clear hp
            refine (min_yes x.p k n _ x.zs _ HT5.out.a.s rfl hkm).mono ?_
            rintro e w6 ⟨g6, c6, rfl, ho6, hb6⟩
            have hT6 := HT5.out.below hb6
            have HT6 := hid hT6
            have HO6 := hid ho6
            have d1 := (hb6.cell (p := ⟨wr.heap.size, 1, none⟩) (Nat.lt_of_lt_of_le (World.block_lt_of_cell? w5 _ c1) (Nat.le_refl _))).trans c1
            have d2 := (hb6.cell (p := ⟨wr.heap.size, 2, none⟩) (Nat.lt_of_lt_of_le (World.block_lt_of_cell? w5 _ c2) (Nat.le_refl _))).trans c2
            have hsz6 := hb5.size
            clear ho6 hT6 hb6
            go_wp2_with fail
            refine (rin_yes x.q x.g x.c k n _ x.zs _ HT6.out.a.r rfl hkm).mono ?_
            rintro e w7 ⟨g7, c7, rfl, ho7, hb7⟩
            have HO7 := hid (own_below HO6.out hb7)
            have HO7b := hid ho7
            have HF := hid (HT6.out.below hb7)
            clear ho7 hb7
            go_wp2_with fail
            refine (equal_yes _ _ _ _ _ _ _ _ (Src.own HO7.out) (Src.own HO7b.out)).mono ?_
            rintro e we ⟨rfl, rfl⟩
            go_wp2_with fail
            refine (spoil_any (.slice (some ⟨g6, 0, none⟩) n c6) n c6 (some ⟨g6, 0, none⟩) _ _ w5.heap.size rfl HO7.out (by omega)).mono ?_
            rintro e w8 ⟨rfl, hu8⟩
            have HF8 := hid (HF.out.upd hu8 wr.heap.size ⟨ltx.p, ltx.q, ltx.g⟩ lty (fun z hz => by have := (HO7.out.lt z hz).1; omega))
            clear HF hu8
            have HF := HF8
            clear HF8
            go_wp2_with fail
            have f1 : w8.cell? ⟨x.q, 0, none⟩ = some (.slice (some ⟨x.g, 0, none⟩) 2048 x.c) := HF.out.a.r.cell
            have f2 : w8.cell? ⟨y.q, 0, none⟩ = some (.slice (some ⟨y.g, 0, none⟩) 2048 y.c) := HF.out.b.r.cell
            go_region_held3 (fun wx => wx.cell? ⟨x.q, 0, none⟩ = some (.slice (some ⟨x.g, 0, none⟩) 2048 x.c) ∧ wx.cell? ⟨y.q, 0, none⟩ = some (.slice (some ⟨y.g, 0, none⟩) 2048 y.c)) (go_keep) (first | (go_at_call 22; refine (bytes_any _ _ _ (by first | exact HF.out.a.s.hp rfl | exact HF.out.b.s.hp rfl)).mono ?_; rintro e wb ⟨gb, cb', rfl, hob, hbb⟩; have SB := hid (Src.own hob); have HF2 := hid ((St.like HF.out (by rfl) (by rfl) (by rfl) (by rfl)).below hbb); clear hob hbb HF f1 f2; have HF := HF2; clear HF2; have f1 : wb.cell? ⟨x.q, 0, none⟩ = some (.slice (some ⟨x.g, 0, none⟩) 2048 x.c) := HF.out.a.r.cell; have f2 : wb.cell? ⟨y.q, 0, none⟩ = some (.slice (some ⟨y.g, 0, none⟩) 2048 y.c) := HF.out.b.r.cell) | (go_at_call 16; refine (equal_yes _ _ _ _ _ _ _ _ SB.out (by first | exact HF.out.a.r.all | exact HF.out.b.r.all)).mono ?_; rintro e we ⟨rfl, rfl⟩; clear SB))
            go_wp2_with fail
            go_roundw
            case rel => exact ⟨i + 1, x, y, by omega, by go_num, rfl, rfl, rfl, rfl, HF⟩
            case measure => simp [intOf]; omega
          · have hp : isPart x1 x2 = false := by simpa using hp
            have HP := hid hp
            clear hp
            refine (min_no x.p x1 x2 x.zs _ HT5.out.a.s HX1.out.1 HX1.out.2 HP.out).mono ?_
            rintro e w6 ⟨rfl, rfl⟩
            go_wp2_with fail
            refine (rin_no x.q x1 x2 _ HX1.out.1 HX1.out.2 HP.out).mono ?_
            rintro e w7 ⟨rfl, rfl⟩
            go_wp2_with fail
            refine (equal_yes _ _ _ _ _ _ [] _ (Src.nil _ _) (Src.nil _ _)).mono ?_
            rintro e we ⟨rfl, rfl⟩
            have HF := HT5
            go_wp2_with fail
            refine (spoil_any (.slice none 0 0) 0 0 none [] _ wr.heap.size rfl (World.ownsRow_nil _ _ _ _) (by omega)).mono ?_
            rintro e w8 ⟨rfl, hu8⟩
            have HF8 := hid (HF.out.upd hu8 wr.heap.size ⟨ltx.p, ltx.q, ltx.g⟩ lty (fun z hz => by simp [Value.ownBlock] at hz))
            clear HF hu8
            have HF := HF8
            clear HF8
            go_wp2_with fail
            have f1 : w8.cell? ⟨x.q, 0, none⟩ = some (.slice (some ⟨x.g, 0, none⟩) 2048 x.c) := HF.out.a.r.cell
            have f2 : w8.cell? ⟨y.q, 0, none⟩ = some (.slice (some ⟨y.g, 0, none⟩) 2048 y.c) := HF.out.b.r.cell
            go_region_held3 (fun wx => wx.cell? ⟨x.q, 0, none⟩ = some (.slice (some ⟨x.g, 0, none⟩) 2048 x.c) ∧ wx.cell? ⟨y.q, 0, none⟩ = some (.slice (some ⟨y.g, 0, none⟩) 2048 y.c)) (go_keep) (first | (go_at_call 22; refine (bytes_any _ _ _ (by first | exact HF.out.a.s.hp rfl | exact HF.out.b.s.hp rfl)).mono ?_; rintro e wb ⟨gb, cb', rfl, hob, hbb⟩; have SB := hid (Src.own hob); have HF2 := hid ((St.like HF.out (by rfl) (by rfl) (by rfl) (by rfl)).below hbb); clear hob hbb HF f1 f2; have HF := HF2; clear HF2; have f1 : wb.cell? ⟨x.q, 0, none⟩ = some (.slice (some ⟨x.g, 0, none⟩) 2048 x.c) := HF.out.a.r.cell; have f2 : wb.cell? ⟨y.q, 0, none⟩ = some (.slice (some ⟨y.g, 0, none⟩) 2048 y.c) := HF.out.b.r.cell) | (go_at_call 16; refine (equal_yes _ _ _ _ _ _ _ _ SB.out (by first | exact HF.out.a.r.all | exact HF.out.b.r.all)).mono ?_; rintro e we ⟨rfl, rfl⟩; clear SB))
            go_wp2_with fail
            go_roundw
            case rel => exact ⟨i + 1, x, y, by omega, by go_num, rfl, rfl, rfl, rfl, HF⟩
            case measure => simp [intOf]; omega
        · have HX1 := hid HDO.out.b1
          by_cases hp : isPart x1 1 = true
          · obtain ⟨k, n, rfl, e2, hkm⟩ := isPart_yes hp
            have hk : k < 2048 := by omega
            clear hp e2 hkm
            refine (mpath_yes x.p k _ x.zs _ HT5.out.a.s rfl hk).mono ?_
            rintro e w6 ⟨rfl, rfl⟩
            obtain ⟨T, gT⟩ : ∃ T, T = told (x.zs.drop k) := ⟨_, rfl⟩
            have kP := hid (rpath_yes x.q x.g x.c k (4096 + (k : Int)) x.zs _ HT5.out.a.r rfl hk)
            rw [← gT] at kP ⊢
            clear gT
            go_wp2_with fail
            refine kP.out.mono ?_
            rintro e w7 ⟨rfl, rfl⟩
            have HF := HT5
            go_wp2_with fail
            have f1 : w7.cell? ⟨x.q, 0, none⟩ = some (.slice (some ⟨x.g, 0, none⟩) 2048 x.c) := HF.out.a.r.cell
            have f2 : w7.cell? ⟨y.q, 0, none⟩ = some (.slice (some ⟨y.g, 0, none⟩) 2048 y.c) := HF.out.b.r.cell
            go_region_held3 (fun wx => wx.cell? ⟨x.q, 0, none⟩ = some (.slice (some ⟨x.g, 0, none⟩) 2048 x.c) ∧ wx.cell? ⟨y.q, 0, none⟩ = some (.slice (some ⟨y.g, 0, none⟩) 2048 y.c)) (go_keep) (first | (go_at_call 22; refine (bytes_any _ _ _ (by first | exact HF.out.a.s.hp rfl | exact HF.out.b.s.hp rfl)).mono ?_; rintro e wb ⟨gb, cb', rfl, hob, hbb⟩; have SB := hid (Src.own hob); have HF2 := hid ((St.like HF.out (by rfl) (by rfl) (by rfl) (by rfl)).below hbb); clear hob hbb HF f1 f2; have HF := HF2; clear HF2; have f1 : wb.cell? ⟨x.q, 0, none⟩ = some (.slice (some ⟨x.g, 0, none⟩) 2048 x.c) := HF.out.a.r.cell; have f2 : wb.cell? ⟨y.q, 0, none⟩ = some (.slice (some ⟨y.g, 0, none⟩) 2048 y.c) := HF.out.b.r.cell) | (go_at_call 16; refine (equal_yes _ _ _ _ _ _ _ _ SB.out (by first | exact HF.out.a.r.all | exact HF.out.b.r.all)).mono ?_; rintro e we ⟨rfl, rfl⟩; clear SB))
            go_wp2_with fail
            go_roundw
            case rel => exact ⟨i + 1, x, y, by omega, by go_num, rfl, rfl, rfl, rfl, HF⟩
            case measure => simp [intOf]; omega
          · have hp : isPart x1 1 = false := by simpa using hp
            have HP := hid hp
            clear hp
            refine (mpath_no x.p x1 x.zs _ HT5.out.a.s HX1.out.1 HX1.out.2 HP.out).mono ?_
            rintro e w6 ⟨rfl, rfl⟩
            go_wp2_with fail
            refine (rpath_no x.q x1 _ HP.out).mono ?_
            rintro e w7 ⟨rfl, rfl⟩
            have HF := HT5
            go_wp2_with fail
            have f1 : w7.cell? ⟨x.q, 0, none⟩ = some (.slice (some ⟨x.g, 0, none⟩) 2048 x.c) := HF.out.a.r.cell
            have f2 : w7.cell? ⟨y.q, 0, none⟩ = some (.slice (some ⟨y.g, 0, none⟩) 2048 y.c) := HF.out.b.r.cell
            go_region_held3 (fun wx => wx.cell? ⟨x.q, 0, none⟩ = some (.slice (some ⟨x.g, 0, none⟩) 2048 x.c) ∧ wx.cell? ⟨y.q, 0, none⟩ = some (.slice (some ⟨y.g, 0, none⟩) 2048 y.c)) (go_keep) (first | (go_at_call 22; refine (bytes_any _ _ _ (by first | exact HF.out.a.s.hp rfl | exact HF.out.b.s.hp rfl)).mono ?_; rintro e wb ⟨gb, cb', rfl, hob, hbb⟩; have SB := hid (Src.own hob); have HF2 := hid ((St.like HF.out (by rfl) (by rfl) (by rfl) (by rfl)).below hbb); clear hob hbb HF f1 f2; have HF := HF2; clear HF2; have f1 : wb.cell? ⟨x.q, 0, none⟩ = some (.slice (some ⟨x.g, 0, none⟩) 2048 x.c) := HF.out.a.r.cell; have f2 : wb.cell? ⟨y.q, 0, none⟩ = some (.slice (some ⟨y.g, 0, none⟩) 2048 y.c) := HF.out.b.r.cell) | (go_at_call 16; refine (equal_yes _ _ _ _ _ _ _ _ SB.out (by first | exact HF.out.a.r.all | exact HF.out.b.r.all)).mono ?_; rintro e we ⟨rfl, rfl⟩; clear SB))
            go_wp2_with fail
            go_roundw
            case rel => exact ⟨i + 1, x, y, by omega, by go_num, rfl, rfl, rfl, rfl, HF⟩
            case measure => simp [intOf]; omega
        · refine (mcopy_any x.p x.zs _ HT5.out.a.s).mono ?_
          rintro e w6 ⟨rfl, hs6, hb6, hx6⟩
          clear hx6
          have HT6 := hid (HT5.out.below hb6)
          have HS6 := hid hs6
          have hsz6 := HT5.out.bel.size
          have lt5 := HT5.out.a.lt
          have hb6s := hb6.size
          clear hs6 hb6
          go_wp2_with fail
          refine (rcopy_any x.q x.g x.c x.zs _ HT6.out.a.r).mono ?_
          rintro e w7 ⟨q7, g7, c7, rfl, hr7, hq7, hg7, hb7⟩
          have hF : St w w7 ⟨w5.heap.size, q7, g7, c7, x.zs⟩ x := by
            refine ⟨⟨HS6.out.below hb7 HS6.out.lt, hr7⟩, (HT6.out.below hb7).a, ?_, ?_, ⟨?_, ?_, ?_⟩, HT5.out.ga, (HT6.out.below hb7).bel⟩
            · have := lt5.p; simp only; omega
            · have := lt5.g; simp only; omega
            · simp only; omega
            · simp only; omega
            · simp only; omega
          have HF := hid hF
          clear hF hr7 hq7 hg7 hb7
          go_wp2_with fail
          have f1 : w7.cell? ⟨q7, 0, none⟩ = some (.slice (some ⟨g7, 0, none⟩) 2048 c7) := HF.out.a.r.cell
          have f2 : w7.cell? ⟨x.q, 0, none⟩ = some (.slice (some ⟨x.g, 0, none⟩) 2048 x.c) := HF.out.b.r.cell
          go_region_held3 (fun wx => wx.cell? ⟨q7, 0, none⟩ = some (.slice (some ⟨g7, 0, none⟩) 2048 c7) ∧ wx.cell? ⟨x.q, 0, none⟩ = some (.slice (some ⟨x.g, 0, none⟩) 2048 x.c)) (go_keep) (first | (go_at_call 22; refine (bytes_any _ _ _ (by first | exact HF.out.a.s.hp rfl | exact HF.out.b.s.hp rfl)).mono ?_; rintro e wb ⟨gb, cb', rfl, hob, hbb⟩; have SB := hid (Src.own hob); have HF2 := hid ((St.like HF.out (by rfl) (by rfl) (by rfl) (by rfl)).below hbb); clear hob hbb HF f1 f2; have HF := HF2; clear HF2; have f1 : wb.cell? ⟨q7, 0, none⟩ = some (.slice (some ⟨g7, 0, none⟩) 2048 c7) := HF.out.a.r.cell; have f2 : wb.cell? ⟨x.q, 0, none⟩ = some (.slice (some ⟨x.g, 0, none⟩) 2048 x.c) := HF.out.b.r.cell) | (go_at_call 16; refine (equal_yes _ _ _ _ _ _ _ _ SB.out (by first | exact HF.out.a.r.all | exact HF.out.b.r.all)).mono ?_; rintro e we ⟨rfl, rfl⟩; clear SB))
          go_wp2_with fail
          go_roundw
          case rel => exact ⟨i + 1, ⟨w5.heap.size, q7, g7, c7, x.zs⟩, x, by omega, by go_num, rfl, rfl, rfl, rfl, HF⟩
          case measure => simp [intOf]; omega
    · obtain rfl : i = ll := by omega
      clear h
      have HF := HT
      go_wp2_with fail
      have f1 : wr.cell? ⟨x.q, 0, none⟩ = some (.slice (some ⟨x.g, 0, none⟩) 2048 x.c) := HF.out.a.r.cell
      go_region_held3 (fun wx => wx.cell? ⟨x.q, 0, none⟩ = some (.slice (some ⟨x.g, 0, none⟩) 2048 x.c)) (go_keep) (first | (go_at_call 22; refine (bytes_any _ _ _ (by exact HF.out.a.s.hp rfl)).mono ?_; rintro e wb ⟨gb, cb', rfl, hob, hbb⟩; have SB := hid (Src.own hob); have HF2 := hid ((St.like HF.out (by rfl) (by rfl) (by rfl) (by rfl)).below hbb); clear hob hbb HF f1; have HF := HF2; clear HF2; have f1 : wb.cell? ⟨x.q, 0, none⟩ = some (.slice (some ⟨x.g, 0, none⟩) 2048 x.c) := HF.out.a.r.cell) | (go_at_call 16; refine (equal_yes _ _ _ _ _ _ _ _ SB.out (by exact HF.out.a.r.all)).mono ?_; rintro e we ⟨rfl, rfl⟩; clear SB))
      go_wp2_with fail
      go_ret
      exact ⟨rfl, HF.out.bel⟩

end Go.Proofs.Ytnmgapnblmikeaa
